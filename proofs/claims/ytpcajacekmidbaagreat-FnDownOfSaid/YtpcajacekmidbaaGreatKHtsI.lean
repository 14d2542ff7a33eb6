/- Contracts of slices.Equal at lists of numbers, impl.riseUnder, impl.HeightsOf$1. Merged of: HtsE, HtsI. -/
import Derived.Test.YtpcajacekmidbaaGreatKLatL
import Derived.Test.YtpcajacekmidbaaGreatKHtsQv1
namespace Go.Proofs.YtpcajacekmidbaaGreat
open Go.RowKit
set_option linter.unusedVariables false
set_option maxRecDepth 100000
set_option linter.unusedSimpArgs false

set_option maxHeartbeats 1000000 in
theorem hts1_any (k kt r cl wy : Int) (b : Bool) (bl : Nat) (la : Option Addr) (m lcap : Nat) (L : List Int) (w : World) (hr : r = 1 ∨ r = -1) (hm : m = L.length) (hm' : m ≤ 1048576) (hc : b = true → 0 ≤ cl ∧ cl < m) (hl : IntsAt w la L) (hb : w.heap[bl]? = some (.cells #[.slice la m lcap] 26 (0, 0))) :
 Calls Tryz.prog 79 #[.agg #[.int .i64 k, .int .i64 kt, .int .i64 r, .bool b, .int .i64 cl, .int .i64 wy], .pointer (some ⟨bl, 0, none⟩)] w fun e w' => e = .returned (.tuple #[.int .i64 (if b && (L.getD cl.toNat 0 == wy) then -3 * r else r), .int .i64 (if b && (L.getD cl.toNat 0 == wy) then -3 * r else r)]) ∧ Below w.heap.size w w' := by
 have HR := Lib.hid hr; clear hr
 have HM := Lib.hid hm; clear hm
 have HC := Lib.hid hc; clear hc
 have HL := Lib.hid hl; clear hl
 have p1 := heap_new w (.cells #[.int .i64 k, .int .i64 kt, .int .i64 r, .bool b, .int .i64 cl, .int .i64 wy] 77)
 have B1 := Lib.hid (below1 w (.cells #[.int .i64 k, .int .i64 kt, .int .i64 r, .bool b, .int .i64 cl, .int .i64 wy] 77))
 obtain ⟨c0, c1, c2, c3, c4, c5⟩ := cells6 p1
 have hb1 := heap_later hb B1.out
 have l1 := heap_lt hb
 have hx : (w.alloc (.cells #[.int .i64 k, .int .i64 kt, .int .i64 r, .bool b, .int .i64 cl, .int .i64 wy] 77)).cell? ⟨bl, 0, none⟩ = some (.slice la m lcap) := by
  simp [World.cell?, hb1]
 clear hb
 obtain ⟨z, hz⟩ : ∃ z, z = (if b && (L.getD cl.toNat 0 == wy) then -3 * r else r) := ⟨_, rfl⟩
 rw [← hz]
 have HZ := Lib.hid hz; clear hz
 go_enter Tryz.func79, Tryz.ntmps79
 go_wp2_with fail
 refine (riseUnder_any k kt r cl wy b la m lcap L _ HR.out HM.out hm' HC.out (HL.out.below B1.out)).mono ?_; rintro e w2 ⟨rfl, hb2⟩
 rw [← HZ.out]
 go_wp2
 go_ret2
 exact ⟨rfl, below_seq B1.out hb2⟩
end Go.Proofs.YtpcajacekmidbaaGreat

namespace Go.Proofs.YtpcajacekmidbaaGreat
open Go.RowKit
set_option linter.unusedVariables false
set_option maxRecDepth 100000
set_option linter.unusedSimpArgs false

set_option maxHeartbeats 16000000 in
theorem great_hts (W T : Int) (a : Option Addr) (n cap : Nat) (xs : List Bool) (bl : Nat) (la : Option Addr) (m lcap : Nat) (L : List Int) (N fk : Nat) (G : List Int) (w : World) (hn : n = xs.length) (hn' : n ≤ 1048576) (ha : BoolsAt w a xs) (hs : simpleB W T xs = true) (hN : (W + 1) * (T + 1) = (N : Int)) (hG : GT W T xs N fk (fun s => rT W T xs L s.1 s.2) (fun s => rT W T xs L s.1 s.2) G) (hm : m = L.length) (hm' : m = n) (hl : IntsAt w la L) (hb : w.heap[bl]? = some (.cells #[.slice la m lcap] 26 (0, 0))) :
 Calls Tryz.prog 43 #[.agg #[.int .i64 W, .int .i64 T, .slice a n cap], .func (.func 79) #[] #[.pointer (some ⟨bl, 0, none⟩)]] w (RetL w N G) := by
 have HN := Lib.hid hn; clear hn
 have HA := Lib.hid ha; clear ha
 have hr := simpleB_rv hs
 obtain ⟨v1, v2, v3, v4, v5, v6⟩ := rv_true hr
 have hcb := corn_bd v1 v2 v3 v4
 rw [hN] at hcb
 have hN49 : N ≤ 49 := by omega
 have hpos : 0 < N := by omega
 have hfk := hG.fst
 obtain ⟨hfN, hfa⟩ := first_hAt v1 hfk
 obtain ⟨hd, rest, hsd⟩ := sidesK_head (W := W) (T := T) (xs := xs) (n := N) (by rw [hfk]; omega)
 rw [hfk, Int.toNat_natCast] at hsd
 have HC : Hid (cornN W T xs = (N : Int)) := by show _ = _; unfold cornN; rw [hr, if_pos rfl, hN]
 have HWT : Hid ((n : Int) = W * T) := by show _ = _; rw [HN.out]; exact v5
 obtain ⟨st1, st2⟩ := GInv.start v1 hG
 have ST1 := Lib.hid st1; have ST2 := Lib.hid st2; clear st1 st2
 have HGT := Lib.hid hG
 have HS := Lib.hid hs; have HR := Lib.hid hr; have HNN := Lib.hid hN
 obtain ⟨l, hl0⟩ : ∃ l, l = sidesK W T xs N := ⟨_, rfl⟩
 have hll : 0 < l.length := by rw [hl0, hsd]; simp
 have hlq : l.length ≤ 100 := by have := sidesK_len W T xs N; rw [← hl0] at this; omega
 have HL0 : Hid (l.getD 0 (0, false) = (fk, hd)) := by show _ = _; rw [hl0, hsd]; rfl
 have HMEM : Hid (∀ i (hi : i < l.length), l[i].1 < N ∧ sUsed W T xs l[i].1 l[i].2 = true) := by
  intro i hi; subst hl0; exact sidesK_mem.1 (List.getElem_mem hi)
 have HLL := Lib.hid hl0
 clear hs hr hN hG hcb hfk hsd v5 v6 hfa hl0
 obtain ⟨wA, hwA⟩ : ∃ wA, wA = w.alloc (.cells #[.int .i64 W, .int .i64 T, .slice a n cap] 25) := ⟨_, rfl⟩
 have pA : wA.heap[w.heap.size]? = some (.cells #[.int .i64 W, .int .i64 T, .slice a n cap] 25 (0, 0)) := by rw [hwA]; exact heap_new _ _
 have bA : Below w.heap.size w wA := by rw [hwA]; exact below1 _ _
 have zA : wA.heap.size = w.heap.size + 1 := by rw [hwA]; simp
 obtain ⟨c0, c1, c2⟩ := cells3 pA
 go_enter Tryz.func43, Tryz.ntmps43
 go_wp2_with fail
 rw [← hwA]; clear hwA
 refine (sidesOf_any _ _ _ _ _ xs N _ HN.out hn' HR.out HNN.out (HA.out.below bA)).mono ?_; rintro e w1 ⟨v1', rfl, ho1, hb1⟩
 rw [← HLL.out] at ho1
 obtain ⟨g1, cap1, hv⟩ := OwnsSd.pos ho1 hll
 obtain ⟨q, hq⟩ : ∃ q, q = l.length := ⟨_, rfl⟩
 rw [← hq] at hv hlq hll
 subst hv
 have HQ := Lib.hid hq; clear hq
 have O1 := Lib.hid ho1; clear ho1
 have B1 := Lib.hid (below_seq bA hb1)
 have p1 := heap_later pA hb1
 have z1 : w.heap.size + 1 ≤ w1.heap.size := heap_lt p1
 clear hb1 c0 c1 c2 pA bA
 obtain ⟨wB, hwB⟩ : ∃ wB, wB = w1.alloc (.cells #[.int .i64 99] 3) := ⟨_, rfl⟩
 have PB : wB.heap[w1.heap.size]? = some (.cells #[.int .i64 99] 3 (0, 0)) := by rw [hwB]; exact heap_new _ _
 have BB : Hid (Below w.heap.size w wB) := by rw [hwB]; exact below_seq B1.out (below1 _ _)
 have OB : Hid (OwnsSd wB wA.heap.size (.slice (some ⟨g1, 0, none⟩) q cap1) W T xs l) := by rw [hwB]; exact O1.out.below (below1 _ _)
 have pB : wB.heap[w.heap.size]? = some (.cells #[.int .i64 W, .int .i64 T, .slice a n cap] 25 (0, 0)) := by rw [hwB]; exact heap_later p1 (below1 _ _)
 have hg1 : w.heap.size + 1 ≤ g1 ∧ g1 < w1.heap.size := by have := World.ownsRow.lt O1.out g1 rfl; omega
 have z1' : w.heap.size < w1.heap.size := by omega
 have z1'' : ¬ w.heap.size = w1.heap.size := by omega
 obtain ⟨c0, c1, c2⟩ := cells3 (show (w1.alloc (.cells #[.int .i64 99] 3)).heap[w.heap.size]? = some (.cells #[.int .i64 W, .int .i64 T, .slice a n cap] 25 (0, 0)) by rw [← hwB]; exact pB)
 go_wp2_with fail
 rw [← hwB]; clear hwB O1 B1 p1
 refine (iCornerMany_any _ _ _ _ _ xs _ HN.out hn' (HA.out.below BB.out)).mono ?_; rintro e w2 ⟨rfl, hb2⟩
 rw [HC.out]
 have O2 := Lib.hid (OB.out.below hb2)
 have B2 := Lib.hid (below_seq BB.out hb2)
 have P2 := heap_later PB hb2
 have z2 : w1.heap.size < w2.heap.size := heap_lt P2
 have HZ : Hid (w2.cell? ⟨w1.heap.size, 0, none⟩ = some (.int .i64 99)) := by show _ = _; simp [World.cell?, P2]
 clear hb2 OB BB c0 c1 c2 pB PB P2
 go_wp2_with fail
 refine (repeat_any w1.heap.size 0 1 99 N (by omega) _ HZ.out).mono ?_; rintro e w3 ⟨g2, rfl, ho3, hb3⟩
 have O3 := Lib.hid (O2.out.below hb3)
 have B3 := Lib.hid (below_seq B2.out hb3)
 have hg2 : w2.heap.size ≤ g2 ∧ g2 < w3.heap.size := ho3.lt
 have R3 := Lib.hid ho3
 clear hb3 ho3 O2 B2 HZ
 have hfc : w3.cell? ⟨g1, 0, none⟩ = some (.int .i64 fk) := by
  have h0 : 0 < l.length := by rw [← HQ.out]; exact hll
  have h1 := OwnsSd.cellAt O3.out h0 0 (.int .i64 fk) (by
   have h2 : l[0] = (fk, hd) := by have := HL0.out; simpa [List.getD, h0] using this
   rw [h2]; rfl)
  simpa using h1
 have hfz := R3.out.free fk
 have hcz := R3.out.cell (k := fk) (by simp; exact hfN)
 generalize (List.replicate N (99 : Int)).getD fk 0 = z0 at hcz
 have hfl := R3.out.lt
 have s0 := OwnsI.set R3.out fk 0
 have S0 := Lib.hid s0; clear s0
 have hfN2 : (fk : Int) < N := by omega
 go_wp2_with fail
 refine (firstCorner_any g1 q cap1 fk _ hll (by omega) hfc).mono ?_; rintro e w4 ⟨rfl, rfl⟩
 clear hfc
 go_wp2_with fail
 have hne12 : g1 ≠ g2 := by omega
 go_loopw [24] (fun i wr => ∃ (k : Nat) (C : List Int), k ≤ N ∧ i = .int .i64 k ∧ OwnsI wr w2.heap.size (.slice (some ⟨g2, 0, none⟩) N N) C ∧ GInv W T xs N fk G C ∧ (allE W T xs N G C ∨ k + 1 ≤ exN W T xs N G C) ∧ OwnsSd wr wA.heap.size (.slice (some ⟨g1, 0, none⟩) q cap1) W T xs l ∧ Below w.heap.size w wr) (fun i _ => N - (intOf i).toNat)
 case atStart => exact ⟨0, _, Nat.zero_le _, rfl, S0.out.1, ST1.out, Or.inr ST2.out, OwnsSd.kept O3.out S0.out.2 (by simp [Value.ownBlock]; omega), below_grown B3.out S0.out.2 (Nat.le_refl _) (fun k e => by have := Option.some.inj e; omega)⟩
 case round =>
  clear S0 R3 O3 B3 hfz hfl hcz
  obtain ⟨k, C, hk, rfl, ho, hgi, hex, hos, hbel⟩ := hrel
  rename World => wo
  have HO := Lib.hid ho; clear ho
  have OS := Lib.hid hos; clear hos
  have BO := Lib.hid hbel; clear hbel
  have HGI := Lib.hid hgi; clear hgi
  have HEX := Lib.hid hex; clear hex
  by_cases hlt : k < N
  · have e1 : (k : Int) < N := by omega
    go_wp2_with fail
    refine (clone_own _ _ _ C _ HGI.out.len.symm hpos (by omega) (OwnsI.at HO.out)).mono ?_; rintro e w5 ⟨g3, cap3, rfl, ho5, hb5⟩
    have O5 := Lib.hid ho5; clear ho5
    have H5 := Lib.hid (HO.out.below hb5)
    have S5 := Lib.hid (OS.out.below hb5)
    have B5 := Lib.hid (below_seq BO.out hb5)
    have hg2o := HO.out.lt
    have hg3 := O5.out.lt
    clear hb5 HO OS BO
    go_wp2_with fail
    have hne32 : g3 ≠ g2 := by omega
    have hog1 : g1 < wo.heap.size := by omega
    go_loopw [30] (fun i wr => ∃ (i' : Nat) (C' : List Int), i' ≤ q ∧ i = .int .i64 i' ∧ OwnsI wr w2.heap.size (.slice (some ⟨g2, 0, none⟩) N N) C' ∧ GPass W T xs N fk (fun s => rT W T xs L s.1 s.2) (fun s => rT W T xs L s.1 s.2) G C (l.take i') C' ∧ OwnsSd wr wA.heap.size (.slice (some ⟨g1, 0, none⟩) q cap1) W T xs l ∧ OwnsI wr wo.heap.size (.slice (some ⟨g3, 0, none⟩) N cap3) C ∧ Below w.heap.size w wr) (fun i _ => q - (intOf i).toNat)
    case atStart => exact ⟨0, C, Nat.zero_le _, rfl, H5.out, by rw [List.take_zero]; exact GPass.begin HGI.out, S5.out, O5.out, B5.out⟩
    case round =>
     clear H5 S5 O5 B5
     obtain ⟨i, C', hi, rfl, ho, hgp, hos, hoc, hbel⟩ := hrel
     rename World => wq
     have HO := Lib.hid ho; clear ho
     have OS := Lib.hid hos; clear hos
     have OC := Lib.hid hoc; clear hoc
     have BO := Lib.hid hbel; clear hbel
     have HGP := Lib.hid hgp; clear hgp
     by_cases hlt2 : i < q
     · have hil : i < l.length := by rw [← HQ.out]; exact hlt2
       obtain ⟨hkk, hus⟩ := HMEM.out i hil
       have hcell := OwnsSd.cellAt OS.out hil
       have htk : l.take (i + 1) = l.take i ++ [l[i]] := List.take_succ_eq_append_getElem hil
       obtain ⟨s, hs⟩ : ∃ s, s = l[i] := ⟨_, rfl⟩
       rw [← hs] at hkk hus hcell htk
       clear hs
       obtain ⟨kk, nth⟩ := s
       (try simp only at hkk); (try simp only at hus); (try simp only at hcell)
       obtain ⟨t0, t1, t2⟩ := sTo_lt v1 hus
       rw [HNN.out] at t2
       obtain ⟨kt, hkt⟩ := Int.eq_ofNat_of_zero_le t0
       rw [hkt] at t1 t2
       have htm : kt < N := by omega
       have hnek : kk ≠ kt := by omega
       have hak : hAt W T xs kk = true := (hAt_iff v1).2 (Or.inl ⟨nth, hus⟩)
       have hakt : hAt W T xs kt = true := (hAt_iff v1).2 (Or.inr ⟨kk, nth, hus, hkt⟩)
       have bx := HGP.out.inv.on kk hkk hak
       have by_ := HGP.out.inv.on kt htm hakt
       have gx := HGT.out.bd kk hkk hak
       have gy := HGT.out.bd kt htm hakt
       have hsm := HGT.out.small (kk, nth)
       have hr1 := rise_one W kk nth
       have hos1 : sBoth W T xs kk nth = true → 0 ≤ sCell W kk nth ∧ sCell W kk nth < (m : Int) := by
        intro hb
        unfold sBoth at hb
        rw [Bool.and_eq_true] at hb
        have hin := atB_in (show atB W T xs (sLx W kk nth) (ky W kk) = true from hb.1)
        obtain ⟨_, j1, j2⟩ := idx_bd hin.1 hin.2.1 hin.2.2.1 hin.2.2.2
        rw [← HWT.out] at j2
        refine ⟨j1, ?_⟩
        rw [hm']; exact j2
       have hrt : rT W T xs L kk nth = if sBoth W T xs kk nth && (L.getD (if sBoth W T xs kk nth then sCell W kk nth else 0).toNat 0 == (if sBoth W T xs kk nth then sWay nth else 0)) then -3 * sRise W kk nth else sRise W kk nth := by
        unfold rT; cases sBoth W T xs kk nth <;> rfl
       have hos1 : sBoth W T xs kk nth = true → 0 ≤ (if sBoth W T xs kk nth then sCell W kk nth else 0) ∧ (if sBoth W T xs kk nth then sCell W kk nth else 0) < (m : Int) := by
        intro hb; rw [hb, if_pos rfl]; exact hos1 hb
       obtain ⟨lo, hlo⟩ : ∃ lo, lo = rT W T xs L kk nth := ⟨_, rfl⟩
       have hx := HO.out.cell (k := kk) (by rw [HGP.out.inv.len]; exact hkk)
       have hy := HO.out.cell (k := kt) (by rw [HGP.out.inv.len]; exact htm)
       have stp := fun x1 y1 => GPass.step (x1 := x1) (y1 := y1) v1 HGT.out HGP.out hkk htm hus hkt hnek
       obtain ⟨x, hxx⟩ : ∃ x, x = C'.getD kk 0 := ⟨_, rfl⟩
       obtain ⟨y, hyy⟩ : ∃ y, y = C'.getD kt 0 := ⟨_, rfl⟩
       rw [← hxx] at hx bx stp; rw [← hyy] at hy by_ stp
       simp only [← hlo] at hsm stp
       obtain ⟨y1, hy1⟩ : ∃ y1, y1 = (if x + lo < y then x + lo else y) := ⟨_, rfl⟩
       obtain ⟨x1, hx1⟩ : ∃ x1, x1 = (if y1 - lo < x then y1 - lo else x) := ⟨_, rfl⟩
       have hyb : -70 ≤ y1 ∧ y1 ≤ 99 := by rw [hy1]; split <;> omega
       have hxb : -80 ≤ x1 ∧ x1 ≤ 99 := by rw [hx1]; split <;> omega
       have NX := Lib.hid (stp x1 y1 hy1 hx1)
       rw [← htk] at NX
       obtain ⟨rs, hrs⟩ : ∃ rs, rs = sRise W kk nth := ⟨_, rfl⟩
       obtain ⟨bo, hbo⟩ : ∃ bo, bo = sBoth W T xs kk nth := ⟨_, rfl⟩
       obtain ⟨cl, hcl⟩ : ∃ cl, cl = (if sBoth W T xs kk nth then sCell W kk nth else 0) := ⟨_, rfl⟩
       obtain ⟨wy, hwy⟩ : ∃ wy, wy = (if sBoth W T xs kk nth then sWay nth else 0) := ⟨_, rfl⟩
       have HEC : sdC W T xs (kk, nth) = [.int .i64 kk, .int .i64 kt, .int .i64 rs, .bool bo, .int .i64 cl, .int .i64 wy] := by unfold sdC; rw [hrs, hbo, hcl, hwy, ← hkt]
       rw [HEC] at hcell
       have f0 : wq.cell? ⟨g1, i * 6, none⟩ = _ := hcell 0 _ rfl
       have f1 := hcell 1 _ rfl
       have f2 := hcell 2 _ rfl
       have f3 := hcell 3 _ rfl
       have f4 := hcell 4 _ rfl
       have f5 := hcell 5 _ rfl
       rw [← hrs] at hr1
       rw [← hcl, ← hwy, ← hbo, ← hrs] at hrt
       rw [← hcl, ← hbo] at hos1
       have HRT : Hid ((if bo && (L.getD cl.toNat 0 == wy) then -3 * rs else rs) = lo) := by show _ = _; rw [← hrt]; exact hlo.symm
       clear hrt
       have i1 : (i : Int) < q := by omega
       have HY1 := Lib.hid hy1; have HX1 := Lib.hid hx1; have HTK := Lib.hid htk
       have HOK := Lib.hid hos1
       clear hy1 hx1 htk stp hxx hyy hcell HEC hrs hbo hcl hwy hlo hus t0 hkt hos1
       have HR1 := Lib.hid hr1; clear hr1
       obtain ⟨wS, hwS⟩ : ∃ wS, wS = wq.alloc (.cells #[.int .i64 kk, .int .i64 kt, .int .i64 rs, .bool bo, .int .i64 cl, .int .i64 wy] 77) := ⟨_, rfl⟩
       have PS : wS.heap[wq.heap.size]? = some (.cells #[.int .i64 kk, .int .i64 kt, .int .i64 rs, .bool bo, .int .i64 cl, .int .i64 wy] 77 (0, 0)) := by rw [hwS]; exact heap_new _ _
       have bS : Below wq.heap.size wq wS := by rw [hwS]; exact below1 _ _
       obtain ⟨h0, h1, h2, h3, h4, h5⟩ := cells6 PS
       go_wp2_with fail
       rw [← hwS]; clear hwS
       refine (hts1_any kk kt rs cl wy bo bl la m lcap L _ HR1.out hm (by omega) HOK.out (hl.below (below_seq BO.out bS)) (heap_later hb (below_seq BO.out bS))).mono ?_; rintro e w6 ⟨rfl, hb6⟩
       rw [HRT.out]
       clear HRT
       have b6 : Below wq.heap.size wq w6 := below_seq bS hb6
       have P6 := heap_later PS hb6
       clear h0 h1 h2 h3 h4 h5 f0 f1 f2 f3 f4 f5 hb6 PS bS
       obtain ⟨h0, h1, h2, h3, h4, h5⟩ := cells6 P6
       have O6 := Lib.hid (HO.out.below b6)
       have OS6 := Lib.hid (OS.out.below b6)
       have OC6 := Lib.hid (OC.out.below b6)
       have B6 := Lib.hid (below_seq BO.out b6)
       have l6 := heap_lt P6
       have hgq := HO.out.lt
       have hgq3 := OC.out.lt
       have gx6 := cell_later b6 hx
       have gy6 := cell_later b6 hy
       have fx6 := O6.out.free kk
       have fy6 := O6.out.free kt
       have wx1 : IntKind.i64.wrap (x + lo) = x + lo := by rw [IntKind.wrap_i64]; omega
       have wy1 : IntKind.i64.wrap (y1 - lo) = y1 - lo := by rw [IntKind.wrap_i64]; omega
       have k1 : (kk : Int) < N := by omega
       have k2 : (kt : Int) < N := by omega
       have hn1 : ¬ wq.heap.size = g2 := by omega
       have hn2 : ¬ g2 = wq.heap.size := by omega
       have hn3 : ¬ kk = kt := hnek
       have hn4 : ¬ kt = kk := fun e => hnek e.symm
       have m1 : (if x + lo < y then x + lo else y) = y1 := HY1.out.symm
       have m2 : (if y1 - lo < x then y1 - lo else x) = x1 := HX1.out.symm
       have s1 := OwnsI.set O6.out kt y1
       have s2 := OwnsI.set s1.1 kk x1
       have GW := grownBy_trans s1.2 s2.2
       have OF := Lib.hid s2.1
       have OSF := Lib.hid (OwnsSd.kept OS6.out GW (by simp [Value.ownBlock]; omega))
       have OCF := Lib.hid (OwnsI.keptBy OC6.out GW (fun k e => by have := Option.some.inj e; omega))
       have BF := Lib.hid (below_grown B6.out GW (Nat.le_refl _) (fun k e => by have := Option.some.inj e; omega))
       clear hx hy HO OS OC BO b6 HY1 HX1 hnek s1 s2 GW
       go_wp2_with fail
       go_region
       go_wp2_with fail
       go_region
       go_wp2_with fail
       exact ⟨⟨i + 1, _, by omega, by go_num, (OF.out.below (drew_below _)).below (drew_below _), NX.out, (OSF.out.below (drew_below _)).below (drew_below _), (OCF.out.below (drew_below _)).below (drew_below _), below_seq (below_seq BF.out (drew_below _)) (drew_below _)⟩, by simp [intOf]; omega⟩
     · have hiq : l.take i = sidesK W T xs N := by
        have h1 := HQ.out
        rw [← HLL.out]; exact List.take_of_length_le (by omega)
       have hgp := HGP.out
       rw [hiq] at hgp
       have HALL := Lib.hid (GPass.all v1 HNN.out HGT.out HGI.out hgp)
       have HLE : Hid (allE W T xs N G C → allE W T xs N G C') := fun h => allE_le hgp h
       have HINV := Lib.hid hgp.inv
       obtain rfl : i = q := by omega
       clear hiq hgp HGP
       go_wp2_with fail
       refine (equalI_any _ _ _ C' _ _ _ C _ HINV.out.len.symm (by omega) HGI.out.len.symm (by omega) (OwnsI.at HO.out) (OwnsI.at OC.out)).mono ?_; rintro e w7 ⟨rfl, hb7⟩
       have O7 := Lib.hid (HO.out.below hb7)
       have S7 := Lib.hid (OS.out.below hb7)
       have B7 := Lib.hid (below_seq BO.out hb7)
       clear hb7 HO OS BO OC
       by_cases hE : C' = C
       · rw [decide_eq_true hE]
         have hC : C' = G := by
          refine allE_eq HGT.out HINV.out ?_
          rcases HALL.out with h | h
          · exact HLE.out h
          · rw [hE] at h; exact absurd h (Nat.lt_irrefl _)
         have HO8 : Hid (OwnsI w7 w.heap.size (.slice (some ⟨g2, 0, none⟩) N N) G) := by have := O7.out; rw [hC] at this; exact this.lower (by omega)
         clear hE hC
         go_wp2
         go_ret
         exact ⟨_, _, rfl, HO8.out, B7.out⟩
       · rw [decide_eq_false hE]
         have HEX2 : Hid (allE W T xs N G C' ∨ k + 1 + 1 ≤ exN W T xs N G C') := by
          rcases HALL.out with h | h
          · exact Or.inl (HLE.out h)
          · rcases HEX.out with h2 | h2
            · exact Or.inl (HLE.out h2)
            · exact Or.inr (by omega)
         clear hE
         go_wp2
         go_roundw
         case rel => exact ⟨k + 1, C', by omega, by go_num, O7.out, HINV.out, HEX2.out, S7.out, B7.out⟩
         case measure => simp [intOf]; omega
  · have hC : C = G := by
     refine allE_eq HGT.out HGI.out ?_
     rcases HEX.out with h | h
     · exact h
     · have := exN_le W T xs N G C; omega
    obtain rfl : k = N := by omega
    have HO8 : Hid (OwnsI wo w.heap.size (.slice (some ⟨g2, 0, none⟩) k k) G) := by have := HO.out; rw [hC] at this; exact this.lower (by omega)
    clear hC
    go_wp2
    go_ret
    exact ⟨_, _, rfl, HO8.out, BO.out⟩

set_option maxHeartbeats 4000000 in
theorem iHeightsOf_ret (W T : Int) (a : Option Addr) (n cap : Nat) (xs : List Bool) (la0 : Option Addr) (m lcap : Nat) (L : List Int) (H : List Int) (w : World) (hn : n = xs.length) (hn' : n ≤ 1048576) (hm : m = L.length) (hm' : m ≤ 1048576) (ha : BoolsAt w a xs) (hl : IntsAt w la0 L) (hH : HtsR W T xs L H) :
 Calls Tryz.prog 39 #[.agg #[.int .i64 W, .int .i64 T, .slice a n cap], .slice la0 m lcap] w (RetL w H.length H) := by
 have HN := Lib.hid hn; clear hn
 have HM := Lib.hid hm; clear hm
 have HA := Lib.hid ha; clear ha
 have HL := Lib.hid hl; clear hl
 obtain ⟨wA, hwA⟩ : ∃ wA, wA = (w.alloc (.cells #[.int .i64 W, .int .i64 T, .slice a n cap] 25)).alloc (.cells #[.slice la0 m lcap] 26) := ⟨_, rfl⟩
 have pA : wA.heap[w.heap.size]? = some (.cells #[.int .i64 W, .int .i64 T, .slice a n cap] 25 (0, 0)) := by rw [hwA]; exact heap_later (heap_new w _) (below1 _ _)
 have qA : wA.heap[w.heap.size + 1]? = some (.cells #[.slice la0 m lcap] 26 (0, 0)) := by rw [hwA]; have := heap_new (w.alloc (.cells #[.int .i64 W, .int .i64 T, .slice a n cap] 25)) (.cells #[.slice la0 m lcap] 26); simpa using this
 have bA : Below w.heap.size w wA := by rw [hwA]; exact below_seq (below1 _ _) (below1 _ _)
 have one : ∀ {w' : World} {b : Nat}, w'.heap[b]? = some (.cells #[.slice la0 m lcap] 26 (0, 0)) → w'.cell? ⟨b, 0, none⟩ = some (.slice la0 m lcap) := fun h => by simp [World.cell?, h]
 cases h1 : simpleB W T xs
 · have e : H = [] := by
    rcases hH with ⟨q, _⟩ | ⟨_, q⟩
    · rw [h1] at q; cases q
    · exact q
   subst e
   have HS := Lib.hid h1; clear h1 hH one
   obtain ⟨c0, c1, c2⟩ := cells3 pA
   go_enter Tryz.func39, Tryz.ntmps39
   go_wp2_with fail
   rw [← hwA]; clear hwA
   refine (iSimple_any _ _ _ _ _ xs _ HN.out hn' (HA.out.below bA)).mono ?_; rintro e w1 ⟨rfl, hb1⟩
   rw [HS.out]
   go_wp2
   go_ret
   exact ⟨none, 0, rfl, OwnsI.nil _ _, below_seq bA hb1⟩
 cases h2 : tok W T xs L
 · have e : H = [] := by
    rcases hH with ⟨q, _⟩ | ⟨_, q⟩
    · rw [h1, h2] at q; cases q
    · exact q
   subst e
   have HS := Lib.hid h1; have HT := Lib.hid h2; clear h1 h2 hH
   obtain ⟨c0, c1, c2⟩ := cells3 pA
   have c3 := one qA
   go_enter Tryz.func39, Tryz.ntmps39
   go_wp2_with fail
   rw [← hwA]; clear hwA
   refine (iSimple_any _ _ _ _ _ xs _ HN.out hn' (HA.out.below bA)).mono ?_; rintro e w1 ⟨rfl, hb1⟩
   rw [HS.out]
   have b1 := below_seq bA hb1
   obtain ⟨d0, d1, d2⟩ := cells3 (heap_later pA hb1)
   have d3 := one (heap_later qA hb1)
   clear one
   go_wp2_with fail
   refine (iTilingOk_any _ _ _ _ _ xs _ _ _ L _ HN.out hn' HM.out hm' (HA.out.below b1) (HL.out.below b1)).mono ?_; rintro e w2 ⟨rfl, hb2⟩
   rw [HT.out]
   go_wp2
   go_ret
   exact ⟨none, 0, rfl, OwnsI.nil _ _, below_seq b1 hb2⟩
 have hr := simpleB_rv h1
 obtain ⟨v1, v2, v3, v4, v5, v6⟩ := rv_true hr
 have hcb := corn_bd v1 v2 v3 v4
 obtain ⟨N, hN⟩ := Int.eq_ofNat_of_zero_le (show 0 ≤ (W + 1) * (T + 1) by omega)
 have HTS : HtsOf W T xs L H N := by
  rcases hH with ⟨_, q⟩ | ⟨q, _⟩
  · rw [hN, Int.toNat_natCast] at q; exact q
  · rw [h1, h2] at q; cases q
 have hfr := simple_first h1 hN
 obtain ⟨fk, hfk⟩ := Int.eq_ofNat_of_zero_le hfr
 obtain ⟨-, hlen, -⟩ := lok_rv (tok_lok1 h2)
 have HG := Lib.hid (gt_hts h1 hN hfk HTS)
 have HLN : Hid (m = n) := by show _ = _; rw [HM.out, HN.out]; exact hlen
 have HLEN : Hid (H.length = N) := HTS.len
 have HS := Lib.hid h1; have HT := Lib.hid h2; have HNN := Lib.hid hN
 clear h1 h2 hH HTS hr hN hcb hfr hfk hlen v5 v6
 obtain ⟨c0, c1, c2⟩ := cells3 pA
 have c3 := one qA
 go_enter Tryz.func39, Tryz.ntmps39
 go_wp2_with fail
 rw [← hwA]; clear hwA
 refine (iSimple_any _ _ _ _ _ xs _ HN.out hn' (HA.out.below bA)).mono ?_; rintro e w1 ⟨rfl, hb1⟩
 rw [HS.out]
 have b1 := below_seq bA hb1
 have p1 := heap_later pA hb1
 have q1 := heap_later qA hb1
 obtain ⟨d0, d1, d2⟩ := cells3 p1
 have d3 := one q1
 clear c0 c1 c2 c3
 go_wp2_with fail
 refine (iTilingOk_any _ _ _ _ _ xs _ _ _ L _ HN.out hn' HM.out hm' (HA.out.below b1) (HL.out.below b1)).mono ?_; rintro e w2 ⟨rfl, hb2⟩
 rw [HT.out]
 have b2 := below_seq b1 hb2
 have q2 := heap_later q1 hb2
 obtain ⟨e0, e1, e2⟩ := cells3 (heap_later p1 hb2)
 clear d0 d1 d2 d3 one
 go_wp2_with fail
 refine (great_hts W T a n cap xs (w.heap.size + 1) la0 m lcap L N fk H _ HN.out hn' (HA.out.below b2) HS.out HNN.out HG.out HM.out HLN.out (HL.out.below b2) q2).mono ?_; rintro e w3 ⟨ag, ac, rfl, ho3, hb3⟩
 have O3 := Lib.hid (ho3.lower b2.size)
 have B3 := Lib.hid (below_seq b2 hb3)
 clear ho3 hb3 b2
 go_wp2
 go_ret
 exact ⟨ag, ac, by rw [HLEN.out]; rfl, by rw [HLEN.out]; exact O3.out, B3.out⟩
end Go.Proofs.YtpcajacekmidbaaGreat
