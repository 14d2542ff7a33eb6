/- Contracts of impl.greatestHeights at boundsOf and at the closure of leastHeights. -/
import Derived.Test.YtpcajacekmidbaaGreatKDrawR
import Derived.Test.YtpcajacekmidbaaGreatKBndv1
namespace Go.Proofs.YtpcajacekmidbaaGreat
open Go.RowKit
set_option linter.unusedVariables false
set_option maxRecDepth 100000
set_option linter.unusedSimpArgs false


set_option maxHeartbeats 16000000 in
theorem great_low (W T : Int) (a : Option Addr) (n cap : Nat) (xs : List Bool) (N fk : Nat) (G : List Int) (w : World) (hn : n = xs.length) (hn' : n ≤ 1048576) (ha : BoolsAt w a xs) (hs : simpleB W T xs = true) (hN : (W + 1) * (T + 1) = (N : Int)) (hG : GT W T xs N fk (loW false W T xs) (hiW false W T xs) G) :
 Calls Tryz.prog 43 #[.agg #[.int .i64 W, .int .i64 T, .slice a n cap], .func (.func 89) #[] #[]] w (RetL w N G) := by
 have HN := Lib.hid hn; clear hn
 have HA := Lib.hid ha; clear ha
 have hr := simpleB_rv hs
 obtain ⟨v1, v2, v3, v4, v5, v6⟩ := rv_true hr
 have hcb := corn_bd v1 v2 v3 v4
 rw [hN] at hcb
 have hN49 : N ≤ 49 := by omega
 have hpos : 0 < N := by omega
 have hfk := hG.fst
 obtain ⟨hfN, hfa⟩ := first_hAt v1 hfk
 obtain ⟨hd, rest, hsd⟩ := sidesK_head (W := W) (T := T) (xs := xs) (n := N) (by rw [hfk]; omega)
 rw [hfk, Int.toNat_natCast] at hsd
 have HC : Hid (cornN W T xs = (N : Int)) := by show _ = _; unfold cornN; rw [hr, if_pos rfl, hN]
 have HWT : Hid ((n : Int) = W * T) := by show _ = _; rw [HN.out]; exact v5
 obtain ⟨st1, st2⟩ := GInv.start v1 hG
 have ST1 := Lib.hid st1; have ST2 := Lib.hid st2; clear st1 st2
 have HGT := Lib.hid hG
 have HS := Lib.hid hs; have HR := Lib.hid hr; have HNN := Lib.hid hN
 obtain ⟨l, hl0⟩ : ∃ l, l = sidesK W T xs N := ⟨_, rfl⟩
 have hll : 0 < l.length := by rw [hl0, hsd]; simp
 have hlq : l.length ≤ 100 := by have := sidesK_len W T xs N; rw [← hl0] at this; omega
 have HL0 : Hid (l.getD 0 (0, false) = (fk, hd)) := by show _ = _; rw [hl0, hsd]; rfl
 have HMEM : Hid (∀ i (hi : i < l.length), l[i].1 < N ∧ sUsed W T xs l[i].1 l[i].2 = true) := by
  intro i hi; subst hl0; exact sidesK_mem.1 (List.getElem_mem hi)
 have HLL := Lib.hid hl0
 clear hs hr hN hG hcb hfk hsd v5 v6 hfa hl0
 obtain ⟨wA, hwA⟩ : ∃ wA, wA = w.alloc (.cells #[.int .i64 W, .int .i64 T, .slice a n cap] 25) := ⟨_, rfl⟩
 have pA : wA.heap[w.heap.size]? = some (.cells #[.int .i64 W, .int .i64 T, .slice a n cap] 25 (0, 0)) := by rw [hwA]; exact heap_new _ _
 have bA : Below w.heap.size w wA := by rw [hwA]; exact below1 _ _
 have zA : wA.heap.size = w.heap.size + 1 := by rw [hwA]; simp
 obtain ⟨c0, c1, c2⟩ := cells3 pA
 go_enter Tryz.func43, Tryz.ntmps43
 go_wp2_with fail
 rw [← hwA]; clear hwA
 refine (sidesOf_any _ _ _ _ _ xs N _ HN.out hn' HR.out HNN.out (HA.out.below bA)).mono ?_; rintro e w1 ⟨v1', rfl, ho1, hb1⟩
 rw [← HLL.out] at ho1
 obtain ⟨g1, cap1, hv⟩ := OwnsSd.pos ho1 hll
 obtain ⟨q, hq⟩ : ∃ q, q = l.length := ⟨_, rfl⟩
 rw [← hq] at hv hlq hll
 subst hv
 have HQ := Lib.hid hq; clear hq
 have O1 := Lib.hid ho1; clear ho1
 have B1 := Lib.hid (below_seq bA hb1)
 have p1 := heap_later pA hb1
 have z1 : w.heap.size + 1 ≤ w1.heap.size := heap_lt p1
 clear hb1 c0 c1 c2 pA bA
 obtain ⟨wB, hwB⟩ : ∃ wB, wB = w1.alloc (.cells #[.int .i64 99] 3) := ⟨_, rfl⟩
 have PB : wB.heap[w1.heap.size]? = some (.cells #[.int .i64 99] 3 (0, 0)) := by rw [hwB]; exact heap_new _ _
 have BB : Hid (Below w.heap.size w wB) := by rw [hwB]; exact below_seq B1.out (below1 _ _)
 have OB : Hid (OwnsSd wB wA.heap.size (.slice (some ⟨g1, 0, none⟩) q cap1) W T xs l) := by rw [hwB]; exact O1.out.below (below1 _ _)
 have pB : wB.heap[w.heap.size]? = some (.cells #[.int .i64 W, .int .i64 T, .slice a n cap] 25 (0, 0)) := by rw [hwB]; exact heap_later p1 (below1 _ _)
 have hg1 : w.heap.size + 1 ≤ g1 ∧ g1 < w1.heap.size := by have := World.ownsRow.lt O1.out g1 rfl; omega
 have z1' : w.heap.size < w1.heap.size := by omega
 have z1'' : ¬ w.heap.size = w1.heap.size := by omega
 obtain ⟨c0, c1, c2⟩ := cells3 (show (w1.alloc (.cells #[.int .i64 99] 3)).heap[w.heap.size]? = some (.cells #[.int .i64 W, .int .i64 T, .slice a n cap] 25 (0, 0)) by rw [← hwB]; exact pB)
 go_wp2_with fail
 rw [← hwB]; clear hwB O1 B1 p1
 refine (iCornerMany_any _ _ _ _ _ xs _ HN.out hn' (HA.out.below BB.out)).mono ?_; rintro e w2 ⟨rfl, hb2⟩
 rw [HC.out]
 have O2 := Lib.hid (OB.out.below hb2)
 have B2 := Lib.hid (below_seq BB.out hb2)
 have P2 := heap_later PB hb2
 have z2 : w1.heap.size < w2.heap.size := heap_lt P2
 have HZ : Hid (w2.cell? ⟨w1.heap.size, 0, none⟩ = some (.int .i64 99)) := by show _ = _; simp [World.cell?, P2]
 clear hb2 OB BB c0 c1 c2 pB PB P2
 go_wp2_with fail
 refine (repeat_any w1.heap.size 0 1 99 N (by omega) _ HZ.out).mono ?_; rintro e w3 ⟨g2, rfl, ho3, hb3⟩
 have O3 := Lib.hid (O2.out.below hb3)
 have B3 := Lib.hid (below_seq B2.out hb3)
 have hg2 : w2.heap.size ≤ g2 ∧ g2 < w3.heap.size := ho3.lt
 have R3 := Lib.hid ho3
 clear hb3 ho3 O2 B2 HZ
 have hfc : w3.cell? ⟨g1, 0, none⟩ = some (.int .i64 fk) := by
  have h0 : 0 < l.length := by rw [← HQ.out]; exact hll
  have h1 := OwnsSd.cellAt O3.out h0 0 (.int .i64 fk) (by
   have h2 : l[0] = (fk, hd) := by have := HL0.out; simpa [List.getD, h0] using this
   rw [h2]; rfl)
  simpa using h1
 have hfz := R3.out.free fk
 have hcz := R3.out.cell (k := fk) (by simp; exact hfN)
 generalize (List.replicate N (99 : Int)).getD fk 0 = z0 at hcz
 have hfl := R3.out.lt
 have s0 := OwnsI.set R3.out fk 0
 have S0 := Lib.hid s0; clear s0
 have hfN2 : (fk : Int) < N := by omega
 go_wp2_with fail
 refine (firstCorner_any g1 q cap1 fk _ hll (by omega) hfc).mono ?_; rintro e w4 ⟨rfl, rfl⟩
 clear hfc
 go_wp2_with fail
 have hne12 : g1 ≠ g2 := by omega
 go_loopw [24] (fun i wr => ∃ (k : Nat) (C : List Int), k ≤ N ∧ i = .int .i64 k ∧ OwnsI wr w2.heap.size (.slice (some ⟨g2, 0, none⟩) N N) C ∧ GInv W T xs N fk G C ∧ (allE W T xs N G C ∨ k + 1 ≤ exN W T xs N G C) ∧ OwnsSd wr wA.heap.size (.slice (some ⟨g1, 0, none⟩) q cap1) W T xs l ∧ Below w.heap.size w wr) (fun i _ => N - (intOf i).toNat)
 case atStart => exact ⟨0, _, Nat.zero_le _, rfl, S0.out.1, ST1.out, Or.inr ST2.out, OwnsSd.kept O3.out S0.out.2 (by simp [Value.ownBlock]; omega), below_grown B3.out S0.out.2 (Nat.le_refl _) (fun k e => by have := Option.some.inj e; omega)⟩
 case round =>
  clear S0 R3 O3 B3 hfz hfl hcz
  obtain ⟨k, C, hk, rfl, ho, hgi, hex, hos, hbel⟩ := hrel
  rename World => wo
  have HO := Lib.hid ho; clear ho
  have OS := Lib.hid hos; clear hos
  have BO := Lib.hid hbel; clear hbel
  have HGI := Lib.hid hgi; clear hgi
  have HEX := Lib.hid hex; clear hex
  by_cases hlt : k < N
  · have e1 : (k : Int) < N := by omega
    go_wp2_with fail
    refine (clone_own _ _ _ C _ HGI.out.len.symm hpos (by omega) (OwnsI.at HO.out)).mono ?_; rintro e w5 ⟨g3, cap3, rfl, ho5, hb5⟩
    have O5 := Lib.hid ho5; clear ho5
    have H5 := Lib.hid (HO.out.below hb5)
    have S5 := Lib.hid (OS.out.below hb5)
    have B5 := Lib.hid (below_seq BO.out hb5)
    have hg2o := HO.out.lt
    have hg3 := O5.out.lt
    clear hb5 HO OS BO
    go_wp2_with fail
    have hne32 : g3 ≠ g2 := by omega
    have hog1 : g1 < wo.heap.size := by omega
    go_loopw [30] (fun i wr => ∃ (i' : Nat) (C' : List Int), i' ≤ q ∧ i = .int .i64 i' ∧ OwnsI wr w2.heap.size (.slice (some ⟨g2, 0, none⟩) N N) C' ∧ GPass W T xs N fk (loW false W T xs) (hiW false W T xs) G C (l.take i') C' ∧ OwnsSd wr wA.heap.size (.slice (some ⟨g1, 0, none⟩) q cap1) W T xs l ∧ OwnsI wr wo.heap.size (.slice (some ⟨g3, 0, none⟩) N cap3) C ∧ Below w.heap.size w wr) (fun i _ => q - (intOf i).toNat)
    case atStart => exact ⟨0, C, Nat.zero_le _, rfl, H5.out, by rw [List.take_zero]; exact GPass.begin HGI.out, S5.out, O5.out, B5.out⟩
    case round =>
     clear H5 S5 O5 B5
     obtain ⟨i, C', hi, rfl, ho, hgp, hos, hoc, hbel⟩ := hrel
     rename World => wq
     have HO := Lib.hid ho; clear ho
     have OS := Lib.hid hos; clear hos
     have OC := Lib.hid hoc; clear hoc
     have BO := Lib.hid hbel; clear hbel
     have HGP := Lib.hid hgp; clear hgp
     by_cases hlt2 : i < q
     · have hil : i < l.length := by rw [← HQ.out]; exact hlt2
       obtain ⟨hkk, hus⟩ := HMEM.out i hil
       have hcell := OwnsSd.cellAt OS.out hil
       have htk : l.take (i + 1) = l.take i ++ [l[i]] := List.take_succ_eq_append_getElem hil
       obtain ⟨s, hs⟩ : ∃ s, s = l[i] := ⟨_, rfl⟩
       rw [← hs] at hkk hus hcell htk
       clear hs
       obtain ⟨kk, nth⟩ := s
       (try simp only at hkk); (try simp only at hus); (try simp only at hcell)
       obtain ⟨t0, t1, t2⟩ := sTo_lt v1 hus
       rw [HNN.out] at t2
       obtain ⟨kt, hkt⟩ := Int.eq_ofNat_of_zero_le t0
       rw [hkt] at t1 t2
       have htm : kt < N := by omega
       have hnek : kk ≠ kt := by omega
       have hak : hAt W T xs kk = true := (hAt_iff v1).2 (Or.inl ⟨nth, hus⟩)
       have hakt : hAt W T xs kt = true := (hAt_iff v1).2 (Or.inr ⟨kk, nth, hus, hkt⟩)
       have bx := HGP.out.inv.on kk hkk hak
       have by_ := HGP.out.inv.on kt htm hakt
       have gx := HGT.out.bd kk hkk hak
       have gy := HGT.out.bd kt htm hakt
       have hsm := HGT.out.small (kk, nth)
       have hr1 := rise_one W kk nth
       have hb1 : loW false W T xs (kk, nth) = -(hiR (sBoth W T xs kk nth) (sRise W kk nth)) := rfl
       have hb2 : hiW false W T xs (kk, nth) = -(loR (sBoth W T xs kk nth) (sRise W kk nth)) := rfl
       obtain ⟨lo, hlo⟩ : ∃ lo, lo = loW false W T xs (kk, nth) := ⟨_, rfl⟩
       obtain ⟨hi', hhi⟩ : ∃ hi', hi' = hiW false W T xs (kk, nth) := ⟨_, rfl⟩
       have hx := HO.out.cell (k := kk) (by rw [HGP.out.inv.len]; exact hkk)
       have hy := HO.out.cell (k := kt) (by rw [HGP.out.inv.len]; exact htm)
       have stp := fun x1 y1 => GPass.step (x1 := x1) (y1 := y1) v1 HGT.out HGP.out hkk htm hus hkt hnek
       obtain ⟨x, hxx⟩ : ∃ x, x = C'.getD kk 0 := ⟨_, rfl⟩
       obtain ⟨y, hyy⟩ : ∃ y, y = C'.getD kt 0 := ⟨_, rfl⟩
       rw [← hxx] at hx bx stp; rw [← hyy] at hy by_ stp
       simp only [← hlo, ← hhi] at hsm stp
       obtain ⟨y1, hy1⟩ : ∃ y1, y1 = (if x + hi' < y then x + hi' else y) := ⟨_, rfl⟩
       obtain ⟨x1, hx1⟩ : ∃ x1, x1 = (if y1 - lo < x then y1 - lo else x) := ⟨_, rfl⟩
       have hyb : -70 ≤ y1 ∧ y1 ≤ 99 := by rw [hy1]; split <;> omega
       have hxb : -80 ≤ x1 ∧ x1 ≤ 99 := by rw [hx1]; split <;> omega
       have NX := Lib.hid (stp x1 y1 hy1 hx1)
       rw [← htk] at NX
       obtain ⟨rs, hrs⟩ : ∃ rs, rs = sRise W kk nth := ⟨_, rfl⟩
       obtain ⟨bo, hbo⟩ : ∃ bo, bo = sBoth W T xs kk nth := ⟨_, rfl⟩
       obtain ⟨cl, hcl⟩ : ∃ cl, cl = (if sBoth W T xs kk nth then sCell W kk nth else 0) := ⟨_, rfl⟩
       obtain ⟨wy, hwy⟩ : ∃ wy, wy = (if sBoth W T xs kk nth then sWay nth else 0) := ⟨_, rfl⟩
       have HEC : sdC W T xs (kk, nth) = [.int .i64 kk, .int .i64 kt, .int .i64 rs, .bool bo, .int .i64 cl, .int .i64 wy] := by unfold sdC; rw [hrs, hbo, hcl, hwy, ← hkt]
       rw [HEC] at hcell
       have f0 : wq.cell? ⟨g1, i * 6, none⟩ = _ := hcell 0 _ rfl
       have f1 := hcell 1 _ rfl
       have f2 := hcell 2 _ rfl
       have f3 := hcell 3 _ rfl
       have f4 := hcell 4 _ rfl
       have f5 := hcell 5 _ rfl
       rw [← hrs] at hr1
       rw [← hbo, ← hrs] at hb1 hb2
       have HRT : Hid (-(hiR bo rs) = lo) := by show _ = _; rw [← hb1]; exact hlo.symm
       have HRU : Hid (-(loR bo rs) = hi') := by show _ = _; rw [← hb2]; exact hhi.symm
       have hos1 : True := trivial
       clear hb1 hb2
       have i1 : (i : Int) < q := by omega
       have HY1 := Lib.hid hy1; have HX1 := Lib.hid hx1; have HTK := Lib.hid htk
       have HOK := Lib.hid hos1
       clear hy1 hx1 htk stp hxx hyy hcell HEC hrs hbo hcl hwy hlo hhi hus t0 hkt hos1
       have HR1 := Lib.hid hr1; clear hr1
       obtain ⟨wS, hwS⟩ : ∃ wS, wS = wq.alloc (.cells #[.int .i64 kk, .int .i64 kt, .int .i64 rs, .bool bo, .int .i64 cl, .int .i64 wy] 77) := ⟨_, rfl⟩
       have PS : wS.heap[wq.heap.size]? = some (.cells #[.int .i64 kk, .int .i64 kt, .int .i64 rs, .bool bo, .int .i64 cl, .int .i64 wy] 77 (0, 0)) := by rw [hwS]; exact heap_new _ _
       have bS : Below wq.heap.size wq wS := by rw [hwS]; exact below1 _ _
       obtain ⟨h0, h1, h2, h3, h4, h5⟩ := cells6 PS
       go_wp2_with fail
       rw [← hwS]; clear hwS
       refine (least1_any kk kt rs cl wy bo _ HR1.out).mono ?_; rintro e w6 ⟨rfl, hb6⟩
       rw [HRT.out, HRU.out]
       clear HRT HRU
       have b6 : Below wq.heap.size wq w6 := below_seq bS hb6
       have P6 := heap_later PS hb6
       clear h0 h1 h2 h3 h4 h5 f0 f1 f2 f3 f4 f5 hb6 PS bS
       obtain ⟨h0, h1, h2, h3, h4, h5⟩ := cells6 P6
       have O6 := Lib.hid (HO.out.below b6)
       have OS6 := Lib.hid (OS.out.below b6)
       have OC6 := Lib.hid (OC.out.below b6)
       have B6 := Lib.hid (below_seq BO.out b6)
       have l6 := heap_lt P6
       have hgq := HO.out.lt
       have hgq3 := OC.out.lt
       have gx6 := cell_later b6 hx
       have gy6 := cell_later b6 hy
       have fx6 := O6.out.free kk
       have fy6 := O6.out.free kt
       have wx1 : IntKind.i64.wrap (x + hi') = x + hi' := by rw [IntKind.wrap_i64]; omega
       have wy1 : IntKind.i64.wrap (y1 - lo) = y1 - lo := by rw [IntKind.wrap_i64]; omega
       have k1 : (kk : Int) < N := by omega
       have k2 : (kt : Int) < N := by omega
       have hn1 : ¬ wq.heap.size = g2 := by omega
       have hn2 : ¬ g2 = wq.heap.size := by omega
       have hn3 : ¬ kk = kt := hnek
       have hn4 : ¬ kt = kk := fun e => hnek e.symm
       have m1 : (if x + hi' < y then x + hi' else y) = y1 := HY1.out.symm
       have m2 : (if y1 - lo < x then y1 - lo else x) = x1 := HX1.out.symm
       have s1 := OwnsI.set O6.out kt y1
       have s2 := OwnsI.set s1.1 kk x1
       have GW := grownBy_trans s1.2 s2.2
       have OF := Lib.hid s2.1
       have OSF := Lib.hid (OwnsSd.kept OS6.out GW (by simp [Value.ownBlock]; omega))
       have OCF := Lib.hid (OwnsI.keptBy OC6.out GW (fun k e => by have := Option.some.inj e; omega))
       have BF := Lib.hid (below_grown B6.out GW (Nat.le_refl _) (fun k e => by have := Option.some.inj e; omega))
       clear hx hy HO OS OC BO b6 HY1 HX1 hnek s1 s2 GW
       go_wp2_with fail
       go_region
       go_wp2_with fail
       go_region
       go_wp2_with fail
       exact ⟨⟨i + 1, _, by omega, by go_num, (OF.out.below (drew_below _)).below (drew_below _), NX.out, (OSF.out.below (drew_below _)).below (drew_below _), (OCF.out.below (drew_below _)).below (drew_below _), below_seq (below_seq BF.out (drew_below _)) (drew_below _)⟩, by simp [intOf]; omega⟩
     · have hiq : l.take i = sidesK W T xs N := by
        have h1 := HQ.out
        rw [← HLL.out]; exact List.take_of_length_le (by omega)
       have hgp := HGP.out
       rw [hiq] at hgp
       have HALL := Lib.hid (GPass.all v1 HNN.out HGT.out HGI.out hgp)
       have HLE : Hid (allE W T xs N G C → allE W T xs N G C') := fun h => allE_le hgp h
       have HINV := Lib.hid hgp.inv
       obtain rfl : i = q := by omega
       clear hiq hgp HGP
       go_wp2_with fail
       refine (equalI_any _ _ _ C' _ _ _ C _ HINV.out.len.symm (by omega) HGI.out.len.symm (by omega) (OwnsI.at HO.out) (OwnsI.at OC.out)).mono ?_; rintro e w7 ⟨rfl, hb7⟩
       have O7 := Lib.hid (HO.out.below hb7)
       have S7 := Lib.hid (OS.out.below hb7)
       have B7 := Lib.hid (below_seq BO.out hb7)
       clear hb7 HO OS BO OC
       by_cases hE : C' = C
       · rw [decide_eq_true hE]
         have hC : C' = G := by
          refine allE_eq HGT.out HINV.out ?_
          rcases HALL.out with h | h
          · exact HLE.out h
          · rw [hE] at h; exact absurd h (Nat.lt_irrefl _)
         have HO8 : Hid (OwnsI w7 w.heap.size (.slice (some ⟨g2, 0, none⟩) N N) G) := by have := O7.out; rw [hC] at this; exact this.lower (by omega)
         clear hE hC
         go_wp2
         go_ret
         exact ⟨_, _, rfl, HO8.out, B7.out⟩
       · rw [decide_eq_false hE]
         have HEX2 : Hid (allE W T xs N G C' ∨ k + 1 + 1 ≤ exN W T xs N G C') := by
          rcases HALL.out with h | h
          · exact Or.inl (HLE.out h)
          · rcases HEX.out with h2 | h2
            · exact Or.inl (HLE.out h2)
            · exact Or.inr (by omega)
         clear hE
         go_wp2
         go_roundw
         case rel => exact ⟨k + 1, C', by omega, by go_num, O7.out, HINV.out, HEX2.out, S7.out, B7.out⟩
         case measure => simp [intOf]; omega
  · have hC : C = G := by
     refine allE_eq HGT.out HGI.out ?_
     rcases HEX.out with h | h
     · exact h
     · have := exN_le W T xs N G C; omega
    obtain rfl : k = N := by omega
    have HO8 : Hid (OwnsI wo w.heap.size (.slice (some ⟨g2, 0, none⟩) k k) G) := by have := HO.out; rw [hC] at this; exact this.lower (by omega)
    clear hC
    go_wp2
    go_ret
    exact ⟨_, _, rfl, HO8.out, BO.out⟩

set_option maxHeartbeats 16000000 in
theorem weak_low (W T : Int) (a : Option Addr) (n cap : Nat) (xs : List Bool) (N fk : Nat) (w : World) (hn : n = xs.length) (hn' : n ≤ 1048576) (ha : BoolsAt w a xs) (hs : simpleB W T xs = true) (hN : (W + 1) * (T + 1) = (N : Int)) (hf : frstK W T xs N = fk) :
 Calls Tryz.prog 43 #[.agg #[.int .i64 W, .int .i64 T, .slice a n cap], .func (.func 89) #[] #[]] w fun e w' => ∃ C : List Int, C.length = N ∧ RetL w N C e w' := by
 have HN := Lib.hid hn; clear hn
 have HA := Lib.hid ha; clear ha
 have hr := simpleB_rv hs
 obtain ⟨v1, v2, v3, v4, v5, v6⟩ := rv_true hr
 have hcb := corn_bd v1 v2 v3 v4
 rw [hN] at hcb
 have hN49 : N ≤ 49 := by omega
 have hpos : 0 < N := by omega
 have hfk := hf
 obtain ⟨hfN, hfa⟩ := first_hAt v1 hfk
 obtain ⟨hd, rest, hsd⟩ := sidesK_head (W := W) (T := T) (xs := xs) (n := N) (by rw [hfk]; omega)
 rw [hfk, Int.toNat_natCast] at hsd
 have HC : Hid (cornN W T xs = (N : Int)) := by show _ = _; unfold cornN; rw [hr, if_pos rfl, hN]
 have HWT : Hid ((n : Int) = W * T) := by show _ = _; rw [HN.out]; exact v5
 have ST1 : Hid (((List.replicate N (99 : Int)).set fk 0).length = N) := by show _ = _; simp
 have HS := Lib.hid hs; have HR := Lib.hid hr; have HNN := Lib.hid hN
 obtain ⟨l, hl0⟩ : ∃ l, l = sidesK W T xs N := ⟨_, rfl⟩
 have hll : 0 < l.length := by rw [hl0, hsd]; simp
 have hlq : l.length ≤ 100 := by have := sidesK_len W T xs N; rw [← hl0] at this; omega
 have HL0 : Hid (l.getD 0 (0, false) = (fk, hd)) := by show _ = _; rw [hl0, hsd]; rfl
 have HMEM : Hid (∀ i (hi : i < l.length), l[i].1 < N ∧ sUsed W T xs l[i].1 l[i].2 = true) := by
  intro i hi; subst hl0; exact sidesK_mem.1 (List.getElem_mem hi)
 have HLL := Lib.hid hl0
 clear hs hr hN hf hcb hfk hsd v5 v6 hfa hl0
 obtain ⟨wA, hwA⟩ : ∃ wA, wA = w.alloc (.cells #[.int .i64 W, .int .i64 T, .slice a n cap] 25) := ⟨_, rfl⟩
 have pA : wA.heap[w.heap.size]? = some (.cells #[.int .i64 W, .int .i64 T, .slice a n cap] 25 (0, 0)) := by rw [hwA]; exact heap_new _ _
 have bA : Below w.heap.size w wA := by rw [hwA]; exact below1 _ _
 have zA : wA.heap.size = w.heap.size + 1 := by rw [hwA]; simp
 obtain ⟨c0, c1, c2⟩ := cells3 pA
 go_enter Tryz.func43, Tryz.ntmps43
 go_wp2_with fail
 rw [← hwA]; clear hwA
 refine (sidesOf_any _ _ _ _ _ xs N _ HN.out hn' HR.out HNN.out (HA.out.below bA)).mono ?_; rintro e w1 ⟨v1', rfl, ho1, hb1⟩
 rw [← HLL.out] at ho1
 obtain ⟨g1, cap1, hv⟩ := OwnsSd.pos ho1 hll
 obtain ⟨q, hq⟩ : ∃ q, q = l.length := ⟨_, rfl⟩
 rw [← hq] at hv hlq hll
 subst hv
 have HQ := Lib.hid hq; clear hq
 have O1 := Lib.hid ho1; clear ho1
 have B1 := Lib.hid (below_seq bA hb1)
 have p1 := heap_later pA hb1
 have z1 : w.heap.size + 1 ≤ w1.heap.size := heap_lt p1
 clear hb1 c0 c1 c2 pA bA
 obtain ⟨wB, hwB⟩ : ∃ wB, wB = w1.alloc (.cells #[.int .i64 99] 3) := ⟨_, rfl⟩
 have PB : wB.heap[w1.heap.size]? = some (.cells #[.int .i64 99] 3 (0, 0)) := by rw [hwB]; exact heap_new _ _
 have BB : Hid (Below w.heap.size w wB) := by rw [hwB]; exact below_seq B1.out (below1 _ _)
 have OB : Hid (OwnsSd wB wA.heap.size (.slice (some ⟨g1, 0, none⟩) q cap1) W T xs l) := by rw [hwB]; exact O1.out.below (below1 _ _)
 have pB : wB.heap[w.heap.size]? = some (.cells #[.int .i64 W, .int .i64 T, .slice a n cap] 25 (0, 0)) := by rw [hwB]; exact heap_later p1 (below1 _ _)
 have hg1 : w.heap.size + 1 ≤ g1 ∧ g1 < w1.heap.size := by have := World.ownsRow.lt O1.out g1 rfl; omega
 have z1' : w.heap.size < w1.heap.size := by omega
 have z1'' : ¬ w.heap.size = w1.heap.size := by omega
 obtain ⟨c0, c1, c2⟩ := cells3 (show (w1.alloc (.cells #[.int .i64 99] 3)).heap[w.heap.size]? = some (.cells #[.int .i64 W, .int .i64 T, .slice a n cap] 25 (0, 0)) by rw [← hwB]; exact pB)
 go_wp2_with fail
 rw [← hwB]; clear hwB O1 B1 p1
 refine (iCornerMany_any _ _ _ _ _ xs _ HN.out hn' (HA.out.below BB.out)).mono ?_; rintro e w2 ⟨rfl, hb2⟩
 rw [HC.out]
 have O2 := Lib.hid (OB.out.below hb2)
 have B2 := Lib.hid (below_seq BB.out hb2)
 have P2 := heap_later PB hb2
 have z2 : w1.heap.size < w2.heap.size := heap_lt P2
 have HZ : Hid (w2.cell? ⟨w1.heap.size, 0, none⟩ = some (.int .i64 99)) := by show _ = _; simp [World.cell?, P2]
 clear hb2 OB BB c0 c1 c2 pB PB P2
 go_wp2_with fail
 refine (repeat_any w1.heap.size 0 1 99 N (by omega) _ HZ.out).mono ?_; rintro e w3 ⟨g2, rfl, ho3, hb3⟩
 have O3 := Lib.hid (O2.out.below hb3)
 have B3 := Lib.hid (below_seq B2.out hb3)
 have hg2 : w2.heap.size ≤ g2 ∧ g2 < w3.heap.size := ho3.lt
 have R3 := Lib.hid ho3
 clear hb3 ho3 O2 B2 HZ
 have hfc : w3.cell? ⟨g1, 0, none⟩ = some (.int .i64 fk) := by
  have h0 : 0 < l.length := by rw [← HQ.out]; exact hll
  have h1 := OwnsSd.cellAt O3.out h0 0 (.int .i64 fk) (by
   have h2 : l[0] = (fk, hd) := by have := HL0.out; simpa [List.getD, h0] using this
   rw [h2]; rfl)
  simpa using h1
 have hfz := R3.out.free fk
 have hcz := R3.out.cell (k := fk) (by simp; exact hfN)
 generalize (List.replicate N (99 : Int)).getD fk 0 = z0 at hcz
 have hfl := R3.out.lt
 have s0 := OwnsI.set R3.out fk 0
 have S0 := Lib.hid s0; clear s0
 have hfN2 : (fk : Int) < N := by omega
 go_wp2_with fail
 refine (firstCorner_any g1 q cap1 fk _ hll (by omega) hfc).mono ?_; rintro e w4 ⟨rfl, rfl⟩
 clear hfc
 go_wp2_with fail
 have hne12 : g1 ≠ g2 := by omega
 go_loopw [24] (fun i wr => ∃ (k : Nat) (C : List Int), k ≤ N ∧ i = .int .i64 k ∧ OwnsI wr w2.heap.size (.slice (some ⟨g2, 0, none⟩) N N) C ∧ C.length = N ∧ OwnsSd wr wA.heap.size (.slice (some ⟨g1, 0, none⟩) q cap1) W T xs l ∧ Below w.heap.size w wr) (fun i _ => N - (intOf i).toNat)
 case atStart => exact ⟨0, _, Nat.zero_le _, rfl, S0.out.1, ST1.out, OwnsSd.kept O3.out S0.out.2 (by simp [Value.ownBlock]; omega), below_grown B3.out S0.out.2 (Nat.le_refl _) (fun k e => by have := Option.some.inj e; omega)⟩
 case round =>
  clear S0 R3 O3 B3 hfz hfl hcz
  obtain ⟨k, C, hk, rfl, ho, hgi, hos, hbel⟩ := hrel
  rename World => wo
  have HO := Lib.hid ho; clear ho
  have OS := Lib.hid hos; clear hos
  have BO := Lib.hid hbel; clear hbel
  have HGI := Lib.hid hgi; clear hgi
  by_cases hlt : k < N
  · have e1 : (k : Int) < N := by omega
    go_wp2_with fail
    refine (clone_own _ _ _ C _ HGI.out.symm hpos (by omega) (OwnsI.at HO.out)).mono ?_; rintro e w5 ⟨g3, cap3, rfl, ho5, hb5⟩
    have O5 := Lib.hid ho5; clear ho5
    have H5 := Lib.hid (HO.out.below hb5)
    have S5 := Lib.hid (OS.out.below hb5)
    have B5 := Lib.hid (below_seq BO.out hb5)
    have hg2o := HO.out.lt
    have hg3 := O5.out.lt
    clear hb5 HO OS BO
    go_wp2_with fail
    have hne32 : g3 ≠ g2 := by omega
    have hog1 : g1 < wo.heap.size := by omega
    go_loopw [30] (fun i wr => ∃ (i' : Nat) (C' : List Int), i' ≤ q ∧ i = .int .i64 i' ∧ OwnsI wr w2.heap.size (.slice (some ⟨g2, 0, none⟩) N N) C' ∧ C'.length = N ∧ OwnsSd wr wA.heap.size (.slice (some ⟨g1, 0, none⟩) q cap1) W T xs l ∧ OwnsI wr wo.heap.size (.slice (some ⟨g3, 0, none⟩) N cap3) C ∧ Below w.heap.size w wr) (fun i _ => q - (intOf i).toNat)
    case atStart => exact ⟨0, C, Nat.zero_le _, rfl, H5.out, HGI.out, S5.out, O5.out, B5.out⟩
    case round =>
     clear H5 S5 O5 B5
     obtain ⟨i, C', hi, rfl, ho, hgp, hos, hoc, hbel⟩ := hrel
     rename World => wq
     have HO := Lib.hid ho; clear ho
     have OS := Lib.hid hos; clear hos
     have OC := Lib.hid hoc; clear hoc
     have BO := Lib.hid hbel; clear hbel
     have HGP := Lib.hid hgp; clear hgp
     by_cases hlt2 : i < q
     · have hil : i < l.length := by rw [← HQ.out]; exact hlt2
       obtain ⟨hkk, hus⟩ := HMEM.out i hil
       have hcell := OwnsSd.cellAt OS.out hil
       have htk : l.take (i + 1) = l.take i ++ [l[i]] := List.take_succ_eq_append_getElem hil
       obtain ⟨s, hs⟩ : ∃ s, s = l[i] := ⟨_, rfl⟩
       rw [← hs] at hkk hus hcell htk
       clear hs
       obtain ⟨kk, nth⟩ := s
       (try simp only at hkk); (try simp only at hus); (try simp only at hcell)
       obtain ⟨t0, t1, t2⟩ := sTo_lt v1 hus
       rw [HNN.out] at t2
       obtain ⟨kt, hkt⟩ := Int.eq_ofNat_of_zero_le t0
       rw [hkt] at t1 t2
       have htm : kt < N := by omega
       have hnek : kk ≠ kt := by omega
       have hr1 := rise_one W kk nth
       have hb1 : loW false W T xs (kk, nth) = -(hiR (sBoth W T xs kk nth) (sRise W kk nth)) := rfl
       have hb2 : hiW false W T xs (kk, nth) = -(loR (sBoth W T xs kk nth) (sRise W kk nth)) := rfl
       obtain ⟨lo, hlo⟩ : ∃ lo, lo = loW false W T xs (kk, nth) := ⟨_, rfl⟩
       obtain ⟨hi', hhi⟩ : ∃ hi', hi' = hiW false W T xs (kk, nth) := ⟨_, rfl⟩
       have hx := HO.out.cell (k := kk) (by rw [HGP.out]; exact hkk)
       have hy := HO.out.cell (k := kt) (by rw [HGP.out]; exact htm)
       obtain ⟨x, hxx⟩ : ∃ x, x = C'.getD kk 0 := ⟨_, rfl⟩
       obtain ⟨y, hyy⟩ : ∃ y, y = C'.getD kt 0 := ⟨_, rfl⟩
       rw [← hxx] at hx; rw [← hyy] at hy
       obtain ⟨pw, hpw⟩ : ∃ pw, IntKind.i64.wrap (x + hi') = pw := ⟨_, rfl⟩
       obtain ⟨y1, hy1⟩ : ∃ y1, y1 = (if pw < y then pw else y) := ⟨_, rfl⟩
       obtain ⟨qw, hqw⟩ : ∃ qw, IntKind.i64.wrap (y1 - lo) = qw := ⟨_, rfl⟩
       obtain ⟨x1, hx1⟩ : ∃ x1, x1 = (if qw < x then qw else x) := ⟨_, rfl⟩
       have NX : Hid (((C'.set kt y1).set kk x1).length = N) := by show _ = _; simp; exact HGP.out
       have HPW := Lib.hid hpw; clear hpw
       have HQW := Lib.hid hqw; clear hqw
       obtain ⟨rs, hrs⟩ : ∃ rs, rs = sRise W kk nth := ⟨_, rfl⟩
       obtain ⟨bo, hbo⟩ : ∃ bo, bo = sBoth W T xs kk nth := ⟨_, rfl⟩
       obtain ⟨cl, hcl⟩ : ∃ cl, cl = (if sBoth W T xs kk nth then sCell W kk nth else 0) := ⟨_, rfl⟩
       obtain ⟨wy, hwy⟩ : ∃ wy, wy = (if sBoth W T xs kk nth then sWay nth else 0) := ⟨_, rfl⟩
       have HEC : sdC W T xs (kk, nth) = [.int .i64 kk, .int .i64 kt, .int .i64 rs, .bool bo, .int .i64 cl, .int .i64 wy] := by unfold sdC; rw [hrs, hbo, hcl, hwy, ← hkt]
       rw [HEC] at hcell
       have f0 : wq.cell? ⟨g1, i * 6, none⟩ = _ := hcell 0 _ rfl
       have f1 := hcell 1 _ rfl
       have f2 := hcell 2 _ rfl
       have f3 := hcell 3 _ rfl
       have f4 := hcell 4 _ rfl
       have f5 := hcell 5 _ rfl
       rw [← hrs] at hr1
       rw [← hbo, ← hrs] at hb1 hb2
       have HRT : Hid (-(hiR bo rs) = lo) := by show _ = _; rw [← hb1]; exact hlo.symm
       have HRU : Hid (-(loR bo rs) = hi') := by show _ = _; rw [← hb2]; exact hhi.symm
       have hos1 : True := trivial
       clear hb1 hb2
       have i1 : (i : Int) < q := by omega
       have HY1 := Lib.hid hy1; have HX1 := Lib.hid hx1; have HTK := Lib.hid htk
       have HOK := Lib.hid hos1
       clear hy1 hx1 htk hxx hyy hcell HEC hrs hbo hcl hwy hlo hhi hus t0 hkt hos1
       have HR1 := Lib.hid hr1; clear hr1
       obtain ⟨wS, hwS⟩ : ∃ wS, wS = wq.alloc (.cells #[.int .i64 kk, .int .i64 kt, .int .i64 rs, .bool bo, .int .i64 cl, .int .i64 wy] 77) := ⟨_, rfl⟩
       have PS : wS.heap[wq.heap.size]? = some (.cells #[.int .i64 kk, .int .i64 kt, .int .i64 rs, .bool bo, .int .i64 cl, .int .i64 wy] 77 (0, 0)) := by rw [hwS]; exact heap_new _ _
       have bS : Below wq.heap.size wq wS := by rw [hwS]; exact below1 _ _
       obtain ⟨h0, h1, h2, h3, h4, h5⟩ := cells6 PS
       go_wp2_with fail
       rw [← hwS]; clear hwS
       refine (least1_any kk kt rs cl wy bo _ HR1.out).mono ?_; rintro e w6 ⟨rfl, hb6⟩
       rw [HRT.out, HRU.out]
       clear HRT HRU
       have b6 : Below wq.heap.size wq w6 := below_seq bS hb6
       have P6 := heap_later PS hb6
       clear h0 h1 h2 h3 h4 h5 f0 f1 f2 f3 f4 f5 hb6 PS bS
       obtain ⟨h0, h1, h2, h3, h4, h5⟩ := cells6 P6
       have O6 := Lib.hid (HO.out.below b6)
       have OS6 := Lib.hid (OS.out.below b6)
       have OC6 := Lib.hid (OC.out.below b6)
       have B6 := Lib.hid (below_seq BO.out b6)
       have l6 := heap_lt P6
       have hgq := HO.out.lt
       have hgq3 := OC.out.lt
       have gx6 := cell_later b6 hx
       have gy6 := cell_later b6 hy
       have fx6 := O6.out.free kk
       have fy6 := O6.out.free kt
       have wx1 : IntKind.i64.wrap (x + hi') = pw := HPW.out
       have wy1 : IntKind.i64.wrap (y1 - lo) = qw := HQW.out
       have k1 : (kk : Int) < N := by omega
       have k2 : (kt : Int) < N := by omega
       have hn1 : ¬ wq.heap.size = g2 := by omega
       have hn2 : ¬ g2 = wq.heap.size := by omega
       have hn3 : ¬ kk = kt := hnek
       have hn4 : ¬ kt = kk := fun e => hnek e.symm
       have m1 : (if pw < y then pw else y) = y1 := HY1.out.symm
       have m2 : (if qw < x then qw else x) = x1 := HX1.out.symm
       have s1 := OwnsI.set O6.out kt y1
       have s2 := OwnsI.set s1.1 kk x1
       have GW := grownBy_trans s1.2 s2.2
       have OF := Lib.hid s2.1
       have OSF := Lib.hid (OwnsSd.kept OS6.out GW (by simp [Value.ownBlock]; omega))
       have OCF := Lib.hid (OwnsI.keptBy OC6.out GW (fun k e => by have := Option.some.inj e; omega))
       have BF := Lib.hid (below_grown B6.out GW (Nat.le_refl _) (fun k e => by have := Option.some.inj e; omega))
       clear hx hy HO OS OC BO b6 HY1 HX1 hnek s1 s2 GW
       go_wp2_with fail
       go_region
       go_wp2_with fail
       go_region
       go_wp2_with fail
       exact ⟨⟨i + 1, _, by omega, by go_num, (OF.out.below (drew_below _)).below (drew_below _), NX.out, (OSF.out.below (drew_below _)).below (drew_below _), (OCF.out.below (drew_below _)).below (drew_below _), below_seq (below_seq BF.out (drew_below _)) (drew_below _)⟩, by simp [intOf]; omega⟩
     · have HINV : Hid (C'.length = N) := HGP.out
       obtain rfl : i = q := by omega
       clear HGP
       go_wp2_with fail
       refine (equalI_any _ _ _ C' _ _ _ C _ HINV.out.symm (by omega) HGI.out.symm (by omega) (OwnsI.at HO.out) (OwnsI.at OC.out)).mono ?_; rintro e w7 ⟨rfl, hb7⟩
       have O7 := Lib.hid (HO.out.below hb7)
       have S7 := Lib.hid (OS.out.below hb7)
       have B7 := Lib.hid (below_seq BO.out hb7)
       clear hb7 HO OS BO OC
       by_cases hE : C' = C
       · rw [decide_eq_true hE]
         have HO8 : Hid (OwnsI w7 w.heap.size (.slice (some ⟨g2, 0, none⟩) N N) C') := by have := O7.out; exact this.lower (by omega)
         clear hE
         go_wp2
         go_ret
         exact ⟨C', HINV.out, _, _, rfl, HO8.out, B7.out⟩
       · rw [decide_eq_false hE]
         clear hE
         go_wp2
         go_roundw
         case rel => exact ⟨k + 1, C', by omega, by go_num, O7.out, HINV.out, S7.out, B7.out⟩
         case measure => simp [intOf]; omega
  · skip
    obtain rfl : k = N := by omega
    have HO8 : Hid (OwnsI wo w.heap.size (.slice (some ⟨g2, 0, none⟩) k k) C) := by have := HO.out; exact this.lower (by omega)
    go_wp2
    go_ret
    exact ⟨C, HGI.out, _, _, rfl, HO8.out, BO.out⟩

end Go.Proofs.YtpcajacekmidbaaGreat
