/- Contract of spec.HeightsOf. -/
import Derived.Test.YtpcajacekmidbaaGreatKLatM
import Derived.Test.YtpcajacekmidbaaGreatKHtsQ
namespace Go.Proofs.YtpcajacekmidbaaGreat
open Go.RowKit
set_option linter.unusedVariables false
set_option maxRecDepth 100000
set_option linter.unusedSimpArgs false

def HtsR (W T : Int) (xs : List Bool) (L H : List Int) : Prop :=
 ((simpleB W T xs && tok W T xs L) = true ∧ HtsOf W T xs L H ((W + 1) * (T + 1)).toNat) ∨ ((simpleB W T xs && tok W T xs L) = false ∧ H = [])
theorem htsR_exist (W T : Int) (xs : List Bool) (L : List Int) : ∃ H, HtsR W T xs L H := by
 cases h : (simpleB W T xs && tok W T xs L)
 · exact ⟨[], Or.inr ⟨h, rfl⟩⟩
 · have h' := h
   rw [Bool.and_eq_true] at h'
   obtain ⟨v1, v2, v3, v4, v5, v6⟩ := rv_true (simpleB_rv h'.1)
   have hcb := corn_bd v1 v2 v3 v4
   obtain ⟨N, hN⟩ := Int.eq_ofNat_of_zero_le (show 0 ≤ (W + 1) * (T + 1) by omega)
   have hfr := simple_first h'.1 hN
   obtain ⟨fk, hfk⟩ := Int.eq_ofNat_of_zero_le hfr
   obtain ⟨H, hH⟩ := hts_exist h'.1 h'.2 hN hfk
   exact ⟨H, Or.inl ⟨h, by rw [hN, Int.toNat_natCast]; exact hH⟩⟩
theorem HtsR.len {W T : Int} {xs : List Bool} {L H : List Int} (h : HtsR W T xs L H) : H.length ≤ 49 := by
 rcases h with ⟨h, hH⟩ | ⟨_, rfl⟩
 · rw [Bool.and_eq_true] at h
   obtain ⟨v1, v2, v3, v4, v5, v6⟩ := rv_true (simpleB_rv h.1)
   have hcb := corn_bd v1 v2 v3 v4
   rw [hH.len]; omega
 · simp
theorem own_nil_litT (w : World) {B : Nat} (hB : B ≤ w.heap.size) : OwnsI (w.alloc (.cells #[] 3 (0, 0))) B (.slice (some ⟨w.heap.size, 0, none⟩) 0 0) [] :=
 World.ownsRow_made w #[] 0 hB (Nat.zero_le _) rfl
theorem nil_boxedT (w : World) (o : Obj) : OwnsI ((w.alloc o).alloc (.cells #[] 3)) (w.heap.size + 1) (.slice (some ⟨w.heap.size + 1, 0, none⟩) 0 0) [] := by
 have := own_nil_litT (w.alloc o) (B := w.heap.size + 1) (by simp); simpa using this
theorem rep99_snoc (k : Nat) : List.replicate k (99 : Int) ++ [99] = List.replicate (k + 1) 99 := (List.replicate_succ').symm
theorem mask_x {H : List Int} {R : Nat → Bool} {N k : Nat} (hk : k < N) {b : Bool} (hb : R k = b) : (maskL H R N).getD k 0 = if b then H.getD k 0 else 99 := by rw [maskL_get hk, hb]

set_option maxHeartbeats 16000000 in
theorem sHeightsOf_ret (W T : Int) (a : Option Addr) (n cap : Nat) (xs : List Bool) (la0 : Option Addr) (m lcap : Nat) (L : List Int) (H : List Int) (w : World) (hn : n = xs.length) (hn' : n ≤ 1048576) (hm : m = L.length) (hm' : m ≤ 1048576) (ha : BoolsAt w a xs) (hl : IntsAt w la0 L) (hH : HtsR W T xs L H) :
 Calls Tryz.prog 60 #[.agg #[.int .i64 W, .int .i64 T, .slice a n cap], .slice la0 m lcap] w (RetL w H.length H) := by
 obtain ⟨i0, hii, hz0, hz1, hz2⟩ := info_parts infoInt
 have HN := Lib.hid hn; clear hn
 have HM := Lib.hid hm; clear hm
 have HA := Lib.hid ha; clear ha
 have HL := Lib.hid hl; clear hl
 cases h1 : simpleB W T xs
 · have e : H = [] := by
    rcases hH with ⟨q, _⟩ | ⟨_, q⟩
    · rw [h1] at q; cases q
    · exact q
   subst e
   have HS := Lib.hid h1; clear h1 hH
   go_enter Tryz.func60, Tryz.ntmps60
   go_wp2_with fail
   have O0 := Lib.hid (nil_boxedT w (.cells #[.int .i64 W, .int .i64 T, .slice a n cap] 25))
   have B0 := below_seq (below1 w (.cells #[.int .i64 W, .int .i64 T, .slice a n cap] 25)) (below1 _ (.cells #[] 3))
   refine (sSimple_any _ _ _ _ _ xs _ HN.out hn' (HA.out.below B0)).mono ?_; rintro e w1 ⟨rfl, hb1⟩
   rw [HS.out]
   go_wp2
   go_ret
   exact ⟨_, 0, rfl, (O0.out.below hb1).lower (by omega), below_seq B0 hb1⟩
 cases h2 : tok W T xs L
 · have e : H = [] := by
    rcases hH with ⟨q, _⟩ | ⟨_, q⟩
    · rw [h1, h2] at q; cases q
    · exact q
   subst e
   have HS := Lib.hid h1; have HT := Lib.hid h2; clear h1 h2 hH
   go_enter Tryz.func60, Tryz.ntmps60
   go_wp2_with fail
   have O0 := Lib.hid (nil_boxedT w (.cells #[.int .i64 W, .int .i64 T, .slice a n cap] 25))
   have B0 := below_seq (below1 w (.cells #[.int .i64 W, .int .i64 T, .slice a n cap] 25)) (below1 _ (.cells #[] 3))
   have P0 := heap_later (heap_new w (.cells #[.int .i64 W, .int .i64 T, .slice a n cap] 25)) (below1 _ (.cells #[] 3))
   refine (sSimple_any _ _ _ _ _ xs _ HN.out hn' (HA.out.below B0)).mono ?_; rintro e w1 ⟨rfl, hb1⟩
   rw [HS.out]
   have b1 := below_seq B0 hb1
   obtain ⟨c0, c1, c2⟩ := cells3 (heap_later P0 hb1)
   go_wp2_with fail
   refine (sTilingOk_any _ _ _ _ _ xs _ _ _ L _ HN.out hn' HM.out hm' (HA.out.below b1) (HL.out.below b1)).mono ?_; rintro e w2 ⟨rfl, hb2⟩
   rw [HT.out]
   go_wp2
   go_ret
   exact ⟨_, 0, rfl, ((O0.out.below hb1).below hb2).lower (by omega), below_seq b1 hb2⟩
 have hr := simpleB_rv h1
 obtain ⟨v1, v2, v3, v4, v5, v6⟩ := rv_true hr
 have hcb := corn_bd v1 v2 v3 v4
 obtain ⟨N, hN⟩ := Int.eq_ofNat_of_zero_le (show 0 ≤ (W + 1) * (T + 1) by omega)
 have HTS : HtsOf W T xs L H N := by
  rcases hH with ⟨_, q⟩ | ⟨q, _⟩
  · rw [hN, Int.toNat_natCast] at q; exact q
  · rw [h1, h2] at q; cases q
 clear hH
 have HC : Hid (cornN W T xs = (N : Int)) := by show _ = _; unfold cornN; rw [hr, if_pos rfl, hN]
 have hfr := simple_first h1 hN
 obtain ⟨fk, hfk⟩ := Int.eq_ofNat_of_zero_le hfr
 obtain ⟨hfN, hfa⟩ := first_hAt v1 hfk
 rw [hN] at hcb
 have hN49 : N ≤ 49 := by omega
 have hpos : 0 < N := by omega
 have hlok := tok_lok1 h2
 obtain ⟨-, hlen, -⟩ := lok_rv hlok
 have HWT : Hid ((n : Int) = W * T) := by show _ = _; rw [HN.out]; exact v5
 have HLN : Hid (m = n) := by show _ = _; rw [HM.out, HN.out]; exact hlen
 have HLOK := Lib.hid hlok
 have HLEN : Hid (H.length = N) := HTS.len
 have HHT := Lib.hid HTS
 have HS := Lib.hid h1; have HT := Lib.hid h2; have HNN := Lib.hid hN; have HFK := Lib.hid hfk; have HFA := Lib.hid hfa
 clear HTS h1 h2 hr hN hcb v5 v6 hfk hfr hfa hlok hlen
 go_enter Tryz.func60, Tryz.ntmps60
 go_wp2_with fail
 have O0 := Lib.hid (nil_boxedT w (.cells #[.int .i64 W, .int .i64 T, .slice a n cap] 25))
 have B0 := below_seq (below1 w (.cells #[.int .i64 W, .int .i64 T, .slice a n cap] 25)) (below1 _ (.cells #[] 3))
 have P0 := heap_later (heap_new w (.cells #[.int .i64 W, .int .i64 T, .slice a n cap] 25)) (below1 _ (.cells #[] 3))
 refine (sSimple_any _ _ _ _ _ xs _ HN.out hn' (HA.out.below B0)).mono ?_; rintro e w1 ⟨rfl, hb1⟩
 rw [HS.out]
 have b1 := below_seq B0 hb1
 have p1 := heap_later P0 hb1
 obtain ⟨c0, c1, c2⟩ := cells3 p1
 go_wp2_with fail
 refine (sTilingOk_any _ _ _ _ _ xs _ _ _ L _ HN.out hn' HM.out hm' (HA.out.below b1) (HL.out.below b1)).mono ?_; rintro e w2 ⟨rfl, hb2⟩
 rw [HT.out]
 have O2 := Lib.hid ((O0.out.below hb1).below hb2)
 have B2 := Lib.hid (below_seq b1 hb2)
 have P2 := heap_later p1 hb2
 clear c0 c1 c2 O0 B0 P0 hb1 b1 p1 hb2
 go_wp2
 go_loopw [5, 7] (fun o i wr => ∃ k : Nat, k ≤ N ∧ i = .int .i64 k ∧ OwnsI wr (w.heap.size + 1) o (List.replicate k 99) ∧ wr.heap[w.heap.size]? = some (.cells #[.int .i64 W, .int .i64 T, .slice a n cap] 25 (0, 0)) ∧ Below w.heap.size w wr) (fun _ i _ => N - (intOf i).toNat)
 case atStart => exact ⟨0, Nat.zero_le _, rfl, O2.out, P2, B2.out⟩
 case round =>
  clear O2 B2 P2
  rename World => wo
  obtain ⟨k, hk, rfl, ho, pr, bo⟩ := hrel
  have HO := Lib.hid ho; clear ho
  have BO := Lib.hid bo; clear bo
  obtain ⟨c0, c1, c2⟩ := cells3 pr
  go_wp2_with fail
  refine (sCornerMany_any _ _ _ _ _ xs _ HN.out hn' (HA.out.below BO.out)).mono ?_; rintro e w3 ⟨rfl, hb3⟩
  rw [HC.out]
  have p3 := heap_later pr hb3
  have O3 := Lib.hid (HO.out.below hb3)
  have B3 := Lib.hid (below_seq BO.out hb3)
  have l3 := heap_lt p3
  clear c0 c1 c2 pr HO BO hb3
  by_cases hlt : k < N
  · have e1 : (k : Int) < N := by omega
    go_wp2_with (at_builtin; refine wpList_append_own _ rfl _ _ 26 rfl (w.heap.size + 1) 3 i0 (.int .i64 0) 1 8 Tryz.underlying26 hii hz0 hz1 hz2 rfl (by decide) _ (List.replicate k (99 : Int)).length ((List.replicate k (99 : Int)).map (Value.int .i64)) rfl (World.ownsRow.alloc O3.out _) ⟨w3.heap.size, 0, none⟩ 1 1 [.int .i64 99] rfl rfl (new_int _ _) (one_int _) (by unfold maxLen; rw [List.length_replicate]; omega) (by rw [List.length_replicate]; omega) (by simp; omega) ?_; intro v' w8 hown hgrow _; have p8 := heap_grown (heap_later p3 (below1 _ _)) hgrow (O3.out.ownBlock (by omega)); have O8 := Lib.hid (OwnsI.ofRow (xs := List.replicate (k + 1) (99 : Int)) hown (by rw [← rep99_snoc]; simp) (by simp)); have B8 := Lib.hid (below_grown (below_seq B3.out (below1 _ _)) hgrow (Nat.le_refl _) (O3.out.ownAt (by omega))); clear hown hgrow)
    go_roundw
    case rel => exact ⟨k + 1, by omega, by go_num, O8.out, p8, B8.out⟩
    case measure => simp [intOf]; omega
  · obtain rfl : N = k := by omega
    obtain ⟨g, pcap, hv, hg1, hg2⟩ := O3.out.pos (by simp; omega)
    rw [List.length_replicate] at hv
    subst hv
    go_wp2_with fail
    go_loopg [6, 8] (N + 1) (fun gk vf vc wr => gk ≤ N + 1 ∧ ∃ (f : Int) (c : Bool) (R : Nat → Bool), vf = .int .i64 f ∧ vc = .bool c ∧ OwnsI wr (w.heap.size + 1) (.slice (some ⟨g, 0, none⟩) N pcap) (maskL H R N) ∧ (∀ j, R j = true → hAt W T xs j = true) ∧ ((f = fk ∧ R fk = true) ∨ (f = -1 ∧ R = fun _ => false)) ∧ (c = true → (N - reN R N) + 1 ≤ gk) ∧ (c = false → maskL H R N = H) ∧ wr.heap[w.heap.size]? = some (.cells #[.int .i64 W, .int .i64 T, .slice a n cap] 25 (0, 0)) ∧ Below w.heap.size w wr)
    case atStart => exact ⟨Nat.le_refl _, -1, true, fun _ => false, rfl, rfl, by rw [maskL_none]; exact O3.out, (fun _ h => by cases h), Or.inr ⟨rfl, rfl⟩, (fun _ => by rw [reN_none]; omega), (fun h => by cases h), p3, B3.out⟩
    case round =>
     clear O3 B3 p3
     obtain ⟨hgk, f, c, R, rfl, rfl, ho, hat, hff, hct, hcf, pr, bo⟩ := hrel
     rename World => wp
     have HO := Lib.hid ho; clear ho
     have BO := Lib.hid bo; clear bo
     cases c
     · have HE := Lib.hid (hcf rfl)
       clear hct hcf hff hat
       have HO2 : Hid (OwnsI wp w.heap.size (.slice (some ⟨g, 0, none⟩) N pcap) H) := by have := HO.out; rw [HE.out] at this; exact this.lower (by omega)
       go_wp2
       go_ret
       exact ⟨some ⟨g, 0, none⟩, pcap, by rw [HLEN.out]; rfl, by rw [HLEN.out]; exact HO2.out, BO.out⟩
     · have HCT := Lib.hid (hct rfl)
       have hgk1 : 1 ≤ gk := by have := HCT.out; omega
       have HP0 := Lib.hid (PassI.begin (N := N) (T := T) hat hff)
       clear hct hcf hff hat
       go_wp2_with fail
       go_loopw [6, 8, 9] (fun vf vc vk wr => ∃ (k : Nat) (f : Int) (c : Bool) (R' : Nat → Bool), k ≤ N ∧ vk = .int .i64 k ∧ vf = .int .i64 f ∧ vc = .bool c ∧ OwnsI wr (w.heap.size + 1) (.slice (some ⟨g, 0, none⟩) N pcap) (maskL H R' N) ∧ PassI W T xs N fk (sidesK W T xs k) (reN R N) f c R' ∧ wr.heap[w.heap.size]? = some (.cells #[.int .i64 W, .int .i64 T, .slice a n cap] 25 (0, 0)) ∧ Below w.heap.size w wr) (fun _ _ vk _ => N - (intOf vk).toNat)
       case atStart => exact ⟨0, f, false, R, Nat.zero_le _, rfl, rfl, rfl, HO.out, HP0.out, pr, BO.out⟩
       case round =>
        clear HO BO HP0 pr
        obtain ⟨k, f, c, R', hk, rfl, rfl, rfl, ho, hpi, pr, bo⟩ := hrel
        rename World => wq
        have HO := Lib.hid ho; clear ho
        have BO := Lib.hid bo; clear bo
        have HPI := Lib.hid hpi; clear hpi
        by_cases hlt : k < N
        · have e1 : (k : Int) < N := by omega
          have hkN : (k : Int) < (W + 1) * (T + 1) := by rw [HNN.out]; omega
          have HKN := Lib.hid hkN; clear hkN
          go_wp2_with fail
          go_loopw [6, 8, 10] (fun vf vc vj wr => ∃ (j : Nat) (f : Int) (c : Bool) (R' : Nat → Bool), j ≤ 2 ∧ vj = .int .i64 j ∧ vf = .int .i64 f ∧ vc = .bool c ∧ OwnsI wr (w.heap.size + 1) (.slice (some ⟨g, 0, none⟩) N pcap) (maskL H R' N) ∧ PassI W T xs N fk (sidesJ W T xs k j) (reN R N) f c R' ∧ wr.heap[w.heap.size]? = some (.cells #[.int .i64 W, .int .i64 T, .slice a n cap] 25 (0, 0)) ∧ Below w.heap.size w wr) (fun _ _ vj _ => 2 - (intOf vj).toNat)
          case atStart => exact ⟨0, f, c, R', by omega, rfl, rfl, rfl, HO.out, by rw [sidesJ_zero]; exact HPI.out, pr, BO.out⟩
          case round =>
           clear HO BO HPI pr
           obtain ⟨j, f, c, R', hj, rfl, rfl, rfl, ho, hpi, pr, bo⟩ := hrel
           rename World => ws
           have HO := Lib.hid ho; clear ho
           have BO := Lib.hid bo; clear bo
           have HPI := Lib.hid hpi; clear hpi
           obtain ⟨c0, c1, c2⟩ := cells3 pr
           by_cases hj2 : j = 2
           · subst hj2
             have HSE : Hid (sidesJ W T xs k 2 = sidesK W T xs (k + 1)) := sidesJ_end W T xs k
             go_wp2
             go_roundw
             case rel => exact ⟨k + 1, f, c, R', by omega, by go_num, rfl, rfl, HO.out, by rw [← HSE.out]; exact HPI.out, pr, BO.out⟩
             case measure => simp [intOf]; omega
           by_cases hj0 : j = 0
           · subst hj0
             clear hj hj2
             have HEV : Hid (edV W T xs k false = .tuple #[.int .i64 (sTo W k false), .bool (sUsed W T xs k false), .bool (sBoth W T xs k false), .int .i64 (if sLeft W T xs k false then sCell W k false else -1), .int .i64 (if sRight W T xs k false then sOther W k false else -1), .bool (sDark W k false)]) := rfl
             obtain ⟨ca, hca⟩ : ∃ ca, ca = (if sLeft W T xs k false then sCell W k false else -1) := ⟨_, rfl⟩
             obtain ⟨cb, hcb⟩ : ∃ cb, cb = (if sRight W T xs k false then sOther W k false else -1) := ⟨_, rfl⟩
             rw [← hca, ← hcb] at HEV
             cases hu : sUsed W T xs k false
             · rw [hu] at HEV
               have HX : Hid (sidesJ W T xs k (0 + 1) = sidesJ W T xs k 0) := by show _ = _; rw [sidesJ_one, hu]; rfl
               clear hu
               obtain ⟨kt, hkt⟩ : ∃ kt, kt = sTo W k false := ⟨_, rfl⟩
               rw [← hkt] at HEV
               clear hkt hca hcb
               go_wp2_with fail
               refine (l4Edge_east _ _ _ _ _ xs k _ HN.out v1 v2 v3 v4 HWT.out HKN.out (HA.out.below BO.out)).mono ?_; rintro e w5 ⟨rfl, hb5⟩
               rw [HEV.out]
               have p5 := heap_later pr hb5
               have B5 := Lib.hid (below_seq BO.out hb5)
               have O5 := Lib.hid (HO.out.below hb5)
               clear hb5 c0 c1 c2 pr BO HO
               go_wp2
               go_roundw
               case rel => exact ⟨0 + 1, f, c, R', by omega, by go_num, rfl, rfl, O5.out, by rw [HX.out]; exact HPI.out, p5, B5.out⟩
               case measure => simp [intOf]
             · rw [hu] at HEV
               have HX : Hid (sidesJ W T xs k (0 + 1) = sidesJ W T xs k 0 ++ [(k, false)]) := by show _ = _; rw [sidesJ_one, hu]; rfl
               obtain ⟨t0, t1, t2⟩ := sTo_lt v1 hu
               rw [HNN.out] at t2
               obtain ⟨kt, hkt⟩ := Int.eq_ofNat_of_zero_le t0
               rw [hkt] at t1 t2 HEV
               have htm : kt < N := by omega
               have hak : hAt W T xs k = true := (hAt_iff v1).2 (Or.inl ⟨false, hu⟩)
               have hakt : hAt W T xs kt = true := (hAt_iff v1).2 (Or.inr ⟨k, false, hu, hkt⟩)
               have HAK := Lib.hid hak; have HAKT := Lib.hid hakt
               have hsd := HHT.out.side k false hlt hu
               rw [hkt, Int.toNat_natCast] at hsd
               have hbk := HHT.out.bd k hlt hak
               have hbkt := HHT.out.bd kt htm hakt
               have HFI : Hid (sidesJ W T xs k 0 = [] → (fk : Int) = k) := fun h => by rw [← HFK.out]; exact first_is hlt hu h
               have HF0 : Hid (H.getD fk 0 = 0) := HHT.out.first fk HFK.out
               have HUP : Hid (∀ (c : Bool) (R'' : Nat → Bool), PassI W T xs N fk (sidesJ W T xs k 0) (reN R N) (fk : Int) c R'' → R'' k = R'' kt → PassI W T xs N fk (sidesJ W T xs k (0 + 1)) (reN R N) (fk : Int) c R'') := fun c R'' h e => by rw [HX.out]; exact PassI.same h hkt e
               have k2 : (kt : Int) < N := by omega
               have hne : ¬ k = kt := by omega
               have hne2 : ¬ kt = k := by omega
               have HD0 : Hid (sRise W k false = if sDark W k false then 1 else -1) := rfl
               obtain ⟨D, hD⟩ : ∃ D, D = sDark W k false := ⟨_, rfl⟩
               obtain ⟨A, hAA⟩ : ∃ A, A = (sBoth W T xs k false && (L.getD (sCell W k false).toNat 0 == 4)) := ⟨_, rfl⟩
               have hrt : rT W T xs L k false = (if A then -3 * (if D then 1 else -1) else (if D then 1 else -1)) := by rw [hAA, hD]; rfl
               rw [← hD] at HEV
               obtain ⟨rv, hrv⟩ : ∃ rv, rv = (if A then -3 * (if D then 1 else -1) else (if D then 1 else -1) : Int) := ⟨_, rfl⟩
               have hrb : -3 ≤ rv ∧ rv ≤ 3 := by rw [hrv]; cases A <;> cases D <;> decide
               rw [hrt, ← hrv] at hsd
               have HRV := Lib.hid hrv
               -- the condition 'across'
               have HAC : Hid ((ca = -1 ∧ A = false) ∨ (cb = -1 ∧ A = false ∧ ∃ q : Nat, ca = q) ∨ ∃ q p : Nat, ca = q ∧ cb = p ∧ q < n ∧ (stepI W T q (L.getD q 0) == (p : Int)) = A) := by
                cases hl : sLeft W T xs k false
                · refine Or.inl ⟨by rw [hca, hl]; rfl, ?_⟩
                  rw [hAA]; unfold sBoth; rw [hl]; rfl
                · have hin := atB_in (show atB W T xs (sLx W k false) (ky W k) = true from hl)
                  obtain ⟨q, hq, _, _, hq1⟩ := place_idx hin.1 hin.2.1 hin.2.2.1 hin.2.2.2
                  have hqc : sCell W k false = q := hq.symm
                  cases hrr : sRight W T xs k false
                  · refine Or.inr (Or.inl ⟨by rw [hcb, hrr]; rfl, ?_, q, by rw [hca, hl, if_pos rfl, hqc]⟩)
                    rw [hAA]; unfold sBoth; rw [hl, hrr]; rfl
                  · have hin2 := atB_in (show atB W T xs (kx W k) (sRy W k false) = true from hrr)
                    obtain ⟨p, hp, _, _, hp1⟩ := place_idx hin2.1 hin2.2.1 hin2.2.2.1 hin2.2.2.2
                    have hbo : sBoth W T xs k false = true := by unfold sBoth; rw [hl, hrr]; rfl
                    have hlv : lv W T xs L (sLx W k false) (ky W k) = L.getD q 0 := by unfold lv; rw [show atB W T xs (sLx W k false) (ky W k) = true from hl, if_pos rfl, show (ky W k * W + sLx W k false).toNat = q by omega]
                    have hr4 := (lv_four HT.out (show atB W T xs (sLx W k false) (ky W k) = true from hl)).2.2
                    rw [hlv] at hr4
                    have hst := step_side v1 hbo hr4.1 hr4.2
                    refine Or.inr (Or.inr ⟨q, p, by rw [hca, hl, if_pos rfl, hqc], by rw [hcb, hrr, if_pos rfl]; exact hp.symm, by rw [← HWT.out] at hq1; omega, ?_⟩)
                    rw [hqc, show sOther W k false = (p : Int) from hp.symm] at hst
                    rw [hst, hAA, hbo, hqc, Int.toNat_natCast]; rfl
               obtain ⟨X, hX⟩ : ∃ X, X = H.getD k 0 := ⟨_, rfl⟩
               obtain ⟨Y, hY⟩ : ∃ Y, Y = H.getD kt 0 := ⟨_, rfl⟩
               rw [← hX] at hsd hbk; rw [← hY] at hsd hbkt
               have HXX := Lib.hid hX; have HYY := Lib.hid hY
               have hYX : Hid (X + rv = Y) := by show _ = _; omega
               have hXY : Hid (Y - rv = X) := by show _ = _; omega
               have x1 : (X == 99) = false := by simp; omega
               have x2 : (X != 99) = true := by simp; omega
               have y1 : (Y == 99) = false := by simp; omega
               have y2 : (Y != 99) = true := by simp; omega
               have y3 : (X + rv != 99) = true := by simp; omega
               clear hX hY hD hAA hrt hrv hsd hca hcb hak hakt hkt t0 hu HD0
               go_wp2_with fail
               refine (l4Edge_east _ _ _ _ _ xs k _ HN.out v1 v2 v3 v4 HWT.out HKN.out (HA.out.below BO.out)).mono ?_; rintro e w5 ⟨rfl, hb5⟩
               rw [HEV.out]
               have p5 := heap_later pr hb5
               have B5 := Lib.hid (below_seq BO.out hb5)
               have O5 := Lib.hid (HO.out.below hb5)
               clear hb5 c0 c1 c2 pr BO HO
               go_upto_if 65 with fail
               go_cut [6] (fun vf wx => vf = .int .i64 fk ∧ ∃ R1 : Nat → Bool, OwnsI wx (w.heap.size + 1) (.slice (some ⟨g, 0, none⟩) N pcap) (maskL H R1 N) ∧ PassI W T xs N fk (sidesJ W T xs k 0) (reN R N) (fk : Int) c R1 ∧ wx.heap[w.heap.size]? = some (.cells #[.int .i64 W, .int .i64 T, .slice a n cap] 25 (0, 0)) ∧ Below w.heap.size w wx)
               case first =>
                by_cases hf : f < 0
                · have hP : sidesJ W T xs k 0 = [] := by
                   rcases HPI.out.fst with q | q
                   · have := q.1; omega
                   · exact q.2.1
                  have hkf : fk = k := by have := HFI.out hP; omega
                  subst hkf
                  have hfr := O5.out.free fk
                  have hcf := O5.out.cell (k := fk) (by rw [maskL_len]; exact hfN)
                  generalize (maskL H R' N).getD fk 0 = z0 at hcf
                  have s1 := OwnsI.set O5.out fk 0
                  rw [maskL_set (HF0.out).symm hfN] at s1
                  have HS1 := Lib.hid s1; clear s1
                  have HP2 := Lib.hid (PassI.first HPI.out hf hfN HFA.out)
                  have hgl := O5.out.lt
                  clear hP
                  go_wp2
                  go_meet
                  exact ⟨rfl, _, HS1.out.1, HP2.out, heap_set_other p5 (by simp; omega) _, below_grown B5.out HS1.out.2 (Nat.le_refl _) (fun q e => by have := Option.some.inj e; omega)⟩
                · have hff : f = fk := by rcases HPI.out.fst with q | q; exact q.1; have := q.1; omega
                  subst hff
                  go_wp2
                  go_meet
                  exact ⟨rfl, R', O5.out, HPI.out, p5, B5.out⟩
               case rest =>
               clear O5 B5 p5 HPI
               obtain ⟨rfl, R1, ho, hpi, pr, bo⟩ := hcut
               have HO := Lib.hid ho; clear ho
               have BO := Lib.hid bo; clear bo
               have HPI := Lib.hid hpi; clear hpi
               go_upto_region 23 with fail
               go_cut [17] (fun v wx => v = .bool A ∧ OwnsI wx (w.heap.size + 1) (.slice (some ⟨g, 0, none⟩) N pcap) (maskL H R1 N) ∧ wx.heap[w.heap.size]? = some (.cells #[.int .i64 W, .int .i64 T, .slice a n cap] 25 (0, 0)) ∧ Below w.heap.size w wx)
               case first =>
                obtain ⟨c0, c1, c2⟩ := cells3 pr
                rcases HAC.out with ⟨rfl, rfl⟩ | ⟨rfl, rfl, q, rfl⟩ | ⟨q, p, rfl, rfl, hqn, hst⟩
                · go_big_quiet (fail)
                  go_wp2
                  go_meet
                  first
                   | exact ⟨rfl, HO.out, pr, BO.out⟩
                   | exact ⟨rfl, HO.out.below (drewN_below _ _), heap_later pr (drewN_below _ _), below_seq BO.out (drewN_below _ _)⟩
                   | exact ⟨rfl, HO.out.below (drew_below _), heap_later pr (drew_below _), below_seq BO.out (drew_below _)⟩
                · go_big_quiet (fail)
                  go_wp2
                  go_meet
                  first
                   | exact ⟨rfl, HO.out, pr, BO.out⟩
                   | exact ⟨rfl, HO.out.below (drewN_below _ _), heap_later pr (drewN_below _ _), below_seq BO.out (drewN_below _ _)⟩
                   | exact ⟨rfl, HO.out.below (drew_below _), heap_later pr (drew_below _), below_seq BO.out (drew_below _)⟩
                · obtain ⟨lb, lo, rfl, hlc⟩ := (HL.out.below BO.out) q (by rw [← HM.out, HLN.out]; exact hqn)
                  obtain ⟨v, hv⟩ : ∃ v, v = L.getD q 0 := ⟨_, rfl⟩
                  rw [← hv] at hlc hst
                  have HST := Lib.hid hst; clear hst hv
                  have hqW : (q : Int) < W * T := by rw [← HWT.out]; omega
                  have HQW := Lib.hid hqW; clear hqW
                  have hqm : (q : Int) < m := by rw [HLN.out]; omega
                  have PQ : wc.drew.heap[w.heap.size]? = some _ := pr
                  go_region_held3 (fun w' => w'.cell? ⟨w.heap.size, 0, none⟩ = some (.int .i64 W) ∧ w'.cell? ⟨w.heap.size, 1, none⟩ = some (.int .i64 T) ∧ w'.cell? ⟨w.heap.size, 2, none⟩ = some (.slice a n cap) ∧ w'.cell? ⟨lb, lo + q, none⟩ = some (.int .i64 v))
                   (go_keep)
                   (first
                     | (go_at_call 66; refine (l2Step_any W T _ _ _ (q : Int) v _ v1 v2 v3 v4 (by omega) HQW.out).mono ?_; rintro e w6 ⟨rfl, hb6⟩; have p6 := heap_later PQ hb6; obtain ⟨d0, d1, d2⟩ := cells3 p6; have d3 := cell_later hb6 (show wc.drew.cell? ⟨lb, lo + q, none⟩ = _ from hlc)))
                  have b6 : Below wc.heap.size wc w6 := below_seq (drew_below _) hb6
                  go_wp2
                  go_meet
                  exact ⟨by rw [HST.out], HO.out.below b6, p6, below_seq BO.out b6⟩
               case rest =>
               clear HO BO pr HAC
               obtain ⟨rfl, ho, pr, bo⟩ := hcut
               have HO := Lib.hid ho; clear ho
               have BO := Lib.hid bo; clear bo
               go_wp2_with fail
               refine (l4Rise_any D A _).mono ?_; rintro e w7 ⟨rfl, rfl⟩
               rw [← HRV.out]
               have hcx := HO.out.cell (k := k) (by rw [maskL_len]; exact hlt)
               have hcy := HO.out.cell (k := kt) (by rw [maskL_len]; exact htm)
               have hfx := HO.out.free k
               have hfy := HO.out.free kt
               have hgl := HO.out.lt
               cases hRk : R1 k
               · cases hRt : R1 kt
                 · rw [mask_x hlt hRk] at hcx
                   rw [mask_x htm hRt] at hcy
                   simp only [Bool.false_eq_true, if_false] at hcx hcy
                   have HP2 := Lib.hid (HUP.out c R1 HPI.out (by rw [hRk, hRt]))
                   clear hRk hRt
                   go_wp2
                   go_roundw
                   case rel => exact ⟨0 + 1, fk, c, R1, by omega, by go_num, rfl, rfl, HO.out, HP2.out, pr, BO.out⟩
                   case measure => simp [intOf]
                 · rw [mask_x hlt hRk] at hcx
                   rw [mask_x htm hRt, if_pos rfl, ← HYY.out] at hcy
                   simp only [Bool.false_eq_true, if_false] at hcx
                   have s1 := OwnsI.set HO.out k (Y - rv)
                   rw [maskL_set (by rw [hXY.out]; exact HXX.out) hlt] at s1
                   have HS1 := Lib.hid s1; clear s1
                   have HP2 : Hid (PassI W T xs N fk (sidesJ W T xs k (0 + 1)) (reN R N) (fk : Int) true (fun j => if j = k then true else R1 j)) := PassI.reach HPI.out hlt HAK.out hRk
                   clear hRk hRt
                   go_wp2
                   go_roundw
                   case rel => exact ⟨0 + 1, fk, true, _, by omega, by go_num, rfl, rfl, HS1.out.1, HP2.out, heap_set_other pr (by simp; omega) _, below_grown BO.out HS1.out.2 (Nat.le_refl _) (fun q e => by have := Option.some.inj e; omega)⟩
                   case measure => simp [intOf]
               · cases hRt : R1 kt
                 · rw [mask_x hlt hRk, if_pos rfl, ← HXX.out] at hcx
                   rw [mask_x htm hRt] at hcy
                   simp only [Bool.false_eq_true, if_false] at hcy
                   have s1 := OwnsI.set HO.out kt (X + rv)
                   rw [maskL_set (by rw [hYX.out]; exact HYY.out) htm] at s1
                   have HS1 := Lib.hid s1; clear s1
                   have HP2 : Hid (PassI W T xs N fk (sidesJ W T xs k (0 + 1)) (reN R N) (fk : Int) true (fun j => if j = kt then true else R1 j)) := PassI.reach HPI.out htm HAKT.out hRt
                   clear hRk hRt
                   go_wp2
                   go_roundw
                   case rel => exact ⟨0 + 1, fk, true, _, by omega, by go_num, rfl, rfl, HS1.out.1, HP2.out, heap_set_other pr (by simp; omega) _, below_grown BO.out HS1.out.2 (Nat.le_refl _) (fun q e => by have := Option.some.inj e; omega)⟩
                   case measure => simp [intOf]
                 · rw [mask_x hlt hRk, if_pos rfl, ← HXX.out] at hcx
                   rw [mask_x htm hRt, if_pos rfl, ← HYY.out] at hcy
                   have HP2 := Lib.hid (HUP.out c R1 HPI.out (by rw [hRk, hRt]))
                   clear hRk hRt
                   go_wp2
                   go_roundw
                   case rel => exact ⟨0 + 1, fk, c, R1, by omega, by go_num, rfl, rfl, HO.out, HP2.out, pr, BO.out⟩
                   case measure => simp [intOf]
           · obtain rfl : j = 1 := by omega
             clear hj hj2 hj0
             have HEV : Hid (edV W T xs k true = .tuple #[.int .i64 (sTo W k true), .bool (sUsed W T xs k true), .bool (sBoth W T xs k true), .int .i64 (if sLeft W T xs k true then sCell W k true else -1), .int .i64 (if sRight W T xs k true then sOther W k true else -1), .bool (sDark W k true)]) := rfl
             obtain ⟨ca, hca⟩ : ∃ ca, ca = (if sLeft W T xs k true then sCell W k true else -1) := ⟨_, rfl⟩
             obtain ⟨cb, hcb⟩ : ∃ cb, cb = (if sRight W T xs k true then sOther W k true else -1) := ⟨_, rfl⟩
             rw [← hca, ← hcb] at HEV
             cases hu : sUsed W T xs k true
             · rw [hu] at HEV
               have HX : Hid (sidesJ W T xs k (1 + 1) = sidesJ W T xs k 1) := by show _ = _; rw [sidesJ_two, hu]; rfl
               clear hu
               obtain ⟨kt, hkt⟩ : ∃ kt, kt = sTo W k true := ⟨_, rfl⟩
               rw [← hkt] at HEV
               clear hkt hca hcb
               go_wp2_with fail
               refine (l4Edge_north _ _ _ _ _ xs k _ HN.out v1 v2 v3 v4 HWT.out HKN.out (HA.out.below BO.out)).mono ?_; rintro e w5 ⟨rfl, hb5⟩
               rw [HEV.out]
               have p5 := heap_later pr hb5
               have B5 := Lib.hid (below_seq BO.out hb5)
               have O5 := Lib.hid (HO.out.below hb5)
               clear hb5 c0 c1 c2 pr BO HO
               go_wp2
               go_roundw
               case rel => exact ⟨1 + 1, f, c, R', by omega, by go_num, rfl, rfl, O5.out, by rw [HX.out]; exact HPI.out, p5, B5.out⟩
               case measure => simp [intOf]
             · rw [hu] at HEV
               have HX : Hid (sidesJ W T xs k (1 + 1) = sidesJ W T xs k 1 ++ [(k, true)]) := by show _ = _; rw [sidesJ_two, hu]; rfl
               obtain ⟨t0, t1, t2⟩ := sTo_lt v1 hu
               rw [HNN.out] at t2
               obtain ⟨kt, hkt⟩ := Int.eq_ofNat_of_zero_le t0
               rw [hkt] at t1 t2 HEV
               have htm : kt < N := by omega
               have hak : hAt W T xs k = true := (hAt_iff v1).2 (Or.inl ⟨true, hu⟩)
               have hakt : hAt W T xs kt = true := (hAt_iff v1).2 (Or.inr ⟨k, true, hu, hkt⟩)
               have HAK := Lib.hid hak; have HAKT := Lib.hid hakt
               have hsd := HHT.out.side k true hlt hu
               rw [hkt, Int.toNat_natCast] at hsd
               have hbk := HHT.out.bd k hlt hak
               have hbkt := HHT.out.bd kt htm hakt
               have HFI : Hid (sidesJ W T xs k 1 = [] → (fk : Int) = k) := fun h => by rw [← HFK.out]; exact first_is hlt hu h
               have HF0 : Hid (H.getD fk 0 = 0) := HHT.out.first fk HFK.out
               have HUP : Hid (∀ (c : Bool) (R'' : Nat → Bool), PassI W T xs N fk (sidesJ W T xs k 1) (reN R N) (fk : Int) c R'' → R'' k = R'' kt → PassI W T xs N fk (sidesJ W T xs k (1 + 1)) (reN R N) (fk : Int) c R'') := fun c R'' h e => by rw [HX.out]; exact PassI.same h hkt e
               have k2 : (kt : Int) < N := by omega
               have hne : ¬ k = kt := by omega
               have hne2 : ¬ kt = k := by omega
               have HD0 : Hid (sRise W k true = if sDark W k true then 1 else -1) := rfl
               obtain ⟨D, hD⟩ : ∃ D, D = sDark W k true := ⟨_, rfl⟩
               obtain ⟨A, hAA⟩ : ∃ A, A = (sBoth W T xs k true && (L.getD (sCell W k true).toNat 0 == 1)) := ⟨_, rfl⟩
               have hrt : rT W T xs L k true = (if A then -3 * (if D then 1 else -1) else (if D then 1 else -1)) := by rw [hAA, hD]; rfl
               rw [← hD] at HEV
               obtain ⟨rv, hrv⟩ : ∃ rv, rv = (if A then -3 * (if D then 1 else -1) else (if D then 1 else -1) : Int) := ⟨_, rfl⟩
               have hrb : -3 ≤ rv ∧ rv ≤ 3 := by rw [hrv]; cases A <;> cases D <;> decide
               rw [hrt, ← hrv] at hsd
               have HRV := Lib.hid hrv
               -- the condition 'across'
               have HAC : Hid ((ca = -1 ∧ A = false) ∨ (cb = -1 ∧ A = false ∧ ∃ q : Nat, ca = q) ∨ ∃ q p : Nat, ca = q ∧ cb = p ∧ q < n ∧ (stepI W T q (L.getD q 0) == (p : Int)) = A) := by
                cases hl : sLeft W T xs k true
                · refine Or.inl ⟨by rw [hca, hl]; rfl, ?_⟩
                  rw [hAA]; unfold sBoth; rw [hl]; rfl
                · have hin := atB_in (show atB W T xs (sLx W k true) (ky W k) = true from hl)
                  obtain ⟨q, hq, _, _, hq1⟩ := place_idx hin.1 hin.2.1 hin.2.2.1 hin.2.2.2
                  have hqc : sCell W k true = q := hq.symm
                  cases hrr : sRight W T xs k true
                  · refine Or.inr (Or.inl ⟨by rw [hcb, hrr]; rfl, ?_, q, by rw [hca, hl, if_pos rfl, hqc]⟩)
                    rw [hAA]; unfold sBoth; rw [hl, hrr]; rfl
                  · have hin2 := atB_in (show atB W T xs (kx W k) (sRy W k true) = true from hrr)
                    obtain ⟨p, hp, _, _, hp1⟩ := place_idx hin2.1 hin2.2.1 hin2.2.2.1 hin2.2.2.2
                    have hbo : sBoth W T xs k true = true := by unfold sBoth; rw [hl, hrr]; rfl
                    have hlv : lv W T xs L (sLx W k true) (ky W k) = L.getD q 0 := by unfold lv; rw [show atB W T xs (sLx W k true) (ky W k) = true from hl, if_pos rfl, show (ky W k * W + sLx W k true).toNat = q by omega]
                    have hr4 := (lv_four HT.out (show atB W T xs (sLx W k true) (ky W k) = true from hl)).2.2
                    rw [hlv] at hr4
                    have hst := step_side v1 hbo hr4.1 hr4.2
                    refine Or.inr (Or.inr ⟨q, p, by rw [hca, hl, if_pos rfl, hqc], by rw [hcb, hrr, if_pos rfl]; exact hp.symm, by rw [← HWT.out] at hq1; omega, ?_⟩)
                    rw [hqc, show sOther W k true = (p : Int) from hp.symm] at hst
                    rw [hst, hAA, hbo, hqc, Int.toNat_natCast]; rfl
               obtain ⟨X, hX⟩ : ∃ X, X = H.getD k 0 := ⟨_, rfl⟩
               obtain ⟨Y, hY⟩ : ∃ Y, Y = H.getD kt 0 := ⟨_, rfl⟩
               rw [← hX] at hsd hbk; rw [← hY] at hsd hbkt
               have HXX := Lib.hid hX; have HYY := Lib.hid hY
               have hYX : Hid (X + rv = Y) := by show _ = _; omega
               have hXY : Hid (Y - rv = X) := by show _ = _; omega
               have x1 : (X == 99) = false := by simp; omega
               have x2 : (X != 99) = true := by simp; omega
               have y1 : (Y == 99) = false := by simp; omega
               have y2 : (Y != 99) = true := by simp; omega
               have y3 : (X + rv != 99) = true := by simp; omega
               clear hX hY hD hAA hrt hrv hsd hca hcb hak hakt hkt t0 hu HD0
               go_wp2_with fail
               refine (l4Edge_north _ _ _ _ _ xs k _ HN.out v1 v2 v3 v4 HWT.out HKN.out (HA.out.below BO.out)).mono ?_; rintro e w5 ⟨rfl, hb5⟩
               rw [HEV.out]
               have p5 := heap_later pr hb5
               have B5 := Lib.hid (below_seq BO.out hb5)
               have O5 := Lib.hid (HO.out.below hb5)
               clear hb5 c0 c1 c2 pr BO HO
               go_upto_if 65 with fail
               go_cut [6] (fun vf wx => vf = .int .i64 fk ∧ ∃ R1 : Nat → Bool, OwnsI wx (w.heap.size + 1) (.slice (some ⟨g, 0, none⟩) N pcap) (maskL H R1 N) ∧ PassI W T xs N fk (sidesJ W T xs k 1) (reN R N) (fk : Int) c R1 ∧ wx.heap[w.heap.size]? = some (.cells #[.int .i64 W, .int .i64 T, .slice a n cap] 25 (0, 0)) ∧ Below w.heap.size w wx)
               case first =>
                by_cases hf : f < 0
                · have hP : sidesJ W T xs k 1 = [] := by
                   rcases HPI.out.fst with q | q
                   · have := q.1; omega
                   · exact q.2.1
                  have hkf : fk = k := by have := HFI.out hP; omega
                  subst hkf
                  have hfr := O5.out.free fk
                  have hcf := O5.out.cell (k := fk) (by rw [maskL_len]; exact hfN)
                  generalize (maskL H R' N).getD fk 0 = z0 at hcf
                  have s1 := OwnsI.set O5.out fk 0
                  rw [maskL_set (HF0.out).symm hfN] at s1
                  have HS1 := Lib.hid s1; clear s1
                  have HP2 := Lib.hid (PassI.first HPI.out hf hfN HFA.out)
                  have hgl := O5.out.lt
                  clear hP
                  go_wp2
                  go_meet
                  exact ⟨rfl, _, HS1.out.1, HP2.out, heap_set_other p5 (by simp; omega) _, below_grown B5.out HS1.out.2 (Nat.le_refl _) (fun q e => by have := Option.some.inj e; omega)⟩
                · have hff : f = fk := by rcases HPI.out.fst with q | q; exact q.1; have := q.1; omega
                  subst hff
                  go_wp2
                  go_meet
                  exact ⟨rfl, R', O5.out, HPI.out, p5, B5.out⟩
               case rest =>
               clear O5 B5 p5 HPI
               obtain ⟨rfl, R1, ho, hpi, pr, bo⟩ := hcut
               have HO := Lib.hid ho; clear ho
               have BO := Lib.hid bo; clear bo
               have HPI := Lib.hid hpi; clear hpi
               go_upto_region 23 with fail
               go_cut [17] (fun v wx => v = .bool A ∧ OwnsI wx (w.heap.size + 1) (.slice (some ⟨g, 0, none⟩) N pcap) (maskL H R1 N) ∧ wx.heap[w.heap.size]? = some (.cells #[.int .i64 W, .int .i64 T, .slice a n cap] 25 (0, 0)) ∧ Below w.heap.size w wx)
               case first =>
                obtain ⟨c0, c1, c2⟩ := cells3 pr
                rcases HAC.out with ⟨rfl, rfl⟩ | ⟨rfl, rfl, q, rfl⟩ | ⟨q, p, rfl, rfl, hqn, hst⟩
                · go_big_quiet (fail)
                  go_wp2
                  go_meet
                  first
                   | exact ⟨rfl, HO.out, pr, BO.out⟩
                   | exact ⟨rfl, HO.out.below (drewN_below _ _), heap_later pr (drewN_below _ _), below_seq BO.out (drewN_below _ _)⟩
                   | exact ⟨rfl, HO.out.below (drew_below _), heap_later pr (drew_below _), below_seq BO.out (drew_below _)⟩
                · go_big_quiet (fail)
                  go_wp2
                  go_meet
                  first
                   | exact ⟨rfl, HO.out, pr, BO.out⟩
                   | exact ⟨rfl, HO.out.below (drewN_below _ _), heap_later pr (drewN_below _ _), below_seq BO.out (drewN_below _ _)⟩
                   | exact ⟨rfl, HO.out.below (drew_below _), heap_later pr (drew_below _), below_seq BO.out (drew_below _)⟩
                · obtain ⟨lb, lo, rfl, hlc⟩ := (HL.out.below BO.out) q (by rw [← HM.out, HLN.out]; exact hqn)
                  obtain ⟨v, hv⟩ : ∃ v, v = L.getD q 0 := ⟨_, rfl⟩
                  rw [← hv] at hlc hst
                  have HST := Lib.hid hst; clear hst hv
                  have hqW : (q : Int) < W * T := by rw [← HWT.out]; omega
                  have HQW := Lib.hid hqW; clear hqW
                  have hqm : (q : Int) < m := by rw [HLN.out]; omega
                  have PQ : wc.drew.heap[w.heap.size]? = some _ := pr
                  go_region_held3 (fun w' => w'.cell? ⟨w.heap.size, 0, none⟩ = some (.int .i64 W) ∧ w'.cell? ⟨w.heap.size, 1, none⟩ = some (.int .i64 T) ∧ w'.cell? ⟨w.heap.size, 2, none⟩ = some (.slice a n cap) ∧ w'.cell? ⟨lb, lo + q, none⟩ = some (.int .i64 v))
                   (go_keep)
                   (first
                     | (go_at_call 66; refine (l2Step_any W T _ _ _ (q : Int) v _ v1 v2 v3 v4 (by omega) HQW.out).mono ?_; rintro e w6 ⟨rfl, hb6⟩; have p6 := heap_later PQ hb6; obtain ⟨d0, d1, d2⟩ := cells3 p6; have d3 := cell_later hb6 (show wc.drew.cell? ⟨lb, lo + q, none⟩ = _ from hlc)))
                  have b6 : Below wc.heap.size wc w6 := below_seq (drew_below _) hb6
                  go_wp2
                  go_meet
                  exact ⟨by rw [HST.out], HO.out.below b6, p6, below_seq BO.out b6⟩
               case rest =>
               clear HO BO pr HAC
               obtain ⟨rfl, ho, pr, bo⟩ := hcut
               have HO := Lib.hid ho; clear ho
               have BO := Lib.hid bo; clear bo
               go_wp2_with fail
               refine (l4Rise_any D A _).mono ?_; rintro e w7 ⟨rfl, rfl⟩
               rw [← HRV.out]
               have hcx := HO.out.cell (k := k) (by rw [maskL_len]; exact hlt)
               have hcy := HO.out.cell (k := kt) (by rw [maskL_len]; exact htm)
               have hfx := HO.out.free k
               have hfy := HO.out.free kt
               have hgl := HO.out.lt
               cases hRk : R1 k
               · cases hRt : R1 kt
                 · rw [mask_x hlt hRk] at hcx
                   rw [mask_x htm hRt] at hcy
                   simp only [Bool.false_eq_true, if_false] at hcx hcy
                   have HP2 := Lib.hid (HUP.out c R1 HPI.out (by rw [hRk, hRt]))
                   clear hRk hRt
                   go_wp2
                   go_roundw
                   case rel => exact ⟨1 + 1, fk, c, R1, by omega, by go_num, rfl, rfl, HO.out, HP2.out, pr, BO.out⟩
                   case measure => simp [intOf]
                 · rw [mask_x hlt hRk] at hcx
                   rw [mask_x htm hRt, if_pos rfl, ← HYY.out] at hcy
                   simp only [Bool.false_eq_true, if_false] at hcx
                   have s1 := OwnsI.set HO.out k (Y - rv)
                   rw [maskL_set (by rw [hXY.out]; exact HXX.out) hlt] at s1
                   have HS1 := Lib.hid s1; clear s1
                   have HP2 : Hid (PassI W T xs N fk (sidesJ W T xs k (1 + 1)) (reN R N) (fk : Int) true (fun j => if j = k then true else R1 j)) := PassI.reach HPI.out hlt HAK.out hRk
                   clear hRk hRt
                   go_wp2
                   go_roundw
                   case rel => exact ⟨1 + 1, fk, true, _, by omega, by go_num, rfl, rfl, HS1.out.1, HP2.out, heap_set_other pr (by simp; omega) _, below_grown BO.out HS1.out.2 (Nat.le_refl _) (fun q e => by have := Option.some.inj e; omega)⟩
                   case measure => simp [intOf]
               · cases hRt : R1 kt
                 · rw [mask_x hlt hRk, if_pos rfl, ← HXX.out] at hcx
                   rw [mask_x htm hRt] at hcy
                   simp only [Bool.false_eq_true, if_false] at hcy
                   have s1 := OwnsI.set HO.out kt (X + rv)
                   rw [maskL_set (by rw [hYX.out]; exact HYY.out) htm] at s1
                   have HS1 := Lib.hid s1; clear s1
                   have HP2 : Hid (PassI W T xs N fk (sidesJ W T xs k (1 + 1)) (reN R N) (fk : Int) true (fun j => if j = kt then true else R1 j)) := PassI.reach HPI.out htm HAKT.out hRt
                   clear hRk hRt
                   go_wp2
                   go_roundw
                   case rel => exact ⟨1 + 1, fk, true, _, by omega, by go_num, rfl, rfl, HS1.out.1, HP2.out, heap_set_other pr (by simp; omega) _, below_grown BO.out HS1.out.2 (Nat.le_refl _) (fun q e => by have := Option.some.inj e; omega)⟩
                   case measure => simp [intOf]
                 · rw [mask_x hlt hRk, if_pos rfl, ← HXX.out] at hcx
                   rw [mask_x htm hRt, if_pos rfl, ← HYY.out] at hcy
                   have HP2 := Lib.hid (HUP.out c R1 HPI.out (by rw [hRk, hRt]))
                   clear hRk hRt
                   go_wp2
                   go_roundw
                   case rel => exact ⟨1 + 1, fk, c, R1, by omega, by go_num, rfl, rfl, HO.out, HP2.out, pr, BO.out⟩
                   case measure => simp [intOf]
        · obtain rfl : N = k := by omega
          have HD : Hid (c = false → maskL H R' N = H) := fun h => by subst h; exact PassI.done HS.out HNN.out HFK.out HHT.out HPI.out
          have HMO : Hid (c = true → reN R N < reN R' N) := HPI.out.more
          have HAT := Lib.hid HPI.out.at_
          have HFF : Hid ((f = fk ∧ R' fk = true) ∨ (f = -1 ∧ R' = fun _ => false)) := HPI.out.fst.elim Or.inl fun q => Or.inr ⟨q.1, q.2.2⟩
          have hle := reN_le R' N
          clear HPI
          go_wp2
          go_roundg (gk - 1)
          case measure => omega
          case rel => exact ⟨by omega, f, c, R', rfl, rfl, HO.out, HAT.out, HFF.out, (fun h => by have := HMO.out h; have := HCT.out; omega), HD.out, pr, BO.out⟩
end Go.Proofs.YtpcajacekmidbaaGreat
