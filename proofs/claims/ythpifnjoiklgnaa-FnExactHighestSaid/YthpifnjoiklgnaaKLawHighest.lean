/- The law FnExactHighest: its walk. Generated from one pattern for all functions of a region that return a list. -/
import Derived.Test.YthpifnjoiklgnaaKTilLow
import Derived.Test.YthpifnjoiklgnaaKGrtI
namespace Go.Proofs.Ythpifnjoiklgnaa
open Go.RowKit
set_option linter.unusedVariables false
set_option maxRecDepth 100000
set_option linter.unusedSimpArgs false

theorem sgn_true {W T : Int} {xs : List Bool} {X H : List Int} {N : Nat} (h : HtsOf W T xs X H N) : sgnL true W T xs H N = H := by
  refine ext_getD (by rw [sgnL_len, h.len]) fun k hk => ?_
  rw [sgnL_len] at hk
  rw [sgnL_get hk]
  cases ha : hAt W T xs k
  · rw [if_neg (by simp), h.off k hk ha]
  · rfl
set_option maxHeartbeats 4000000 in
theorem iHighest_ret (W T : Int) (a : Option Addr) (n cap : Nat) (xs : List Bool) (X : List Int) (ok : Bool) (w : World) (hn : n = xs.length) (hn' : n ≤ 1048576) (hE : LowRes true W T xs X ok) (ha : BoolsAt w a xs) :
    Calls Try.prog 15 #[.agg #[.int .i64 W, .int .i64 T, .slice a n cap]] w (RetLT w X.length X ok) := by
  have HN := Lib.hid hn; clear hn
  have HA := Lib.hid ha; clear ha
  obtain ⟨wA, hwA⟩ : ∃ wA, wA = w.alloc (.cells #[.int .i64 W, .int .i64 T, .slice a n cap] 29) := ⟨_, rfl⟩
  have pA : wA.heap[w.heap.size]? = some (.cells #[.int .i64 W, .int .i64 T, .slice a n cap] 29 (0, 0)) := by rw [hwA]; exact heap_new _ _
  have bA : Below w.heap.size w wA := by rw [hwA]; exact below1 _ _
  obtain ⟨c0, c1, c2⟩ := cells3 pA
  cases h1 : simpleB W T xs
  · obtain ⟨rfl, rfl⟩ : X = [] ∧ ok = false := by
      rcases hE with ⟨_, H, hs, _⟩ | ⟨e1, e2, _⟩
      · rw [h1] at hs; cases hs
      · exact ⟨e2, e1⟩
    have HS := Lib.hid h1; clear h1 hE
    go_enter Try.func15, Try.ntmps15
    go_wp2_with fail
    rw [← hwA]; clear hwA
    refine (iSimple_any _ _ _ _ _ xs _ HN.out hn' (HA.out.below bA)).mono ?_; rintro e w1 ⟨rfl, hb1⟩
    rw [HS.out]
    go_wp2
    go_ret2
    exact ⟨none, 0, rfl, OwnsI.nil _ _, below_seq bA hb1⟩
  obtain ⟨N, fk, hN, hf⟩ := hokP_size h1
  obtain ⟨v1, v2, v3, v4, v5, v6⟩ := rv_true (simpleB_rv h1)
  have hcb := corn_bd v1 v2 v3 v4
  have hN49 : N ≤ 49 := by omega
  -- the heights that are made, and what they tell
  have hC : ∃ P : List Int → Prop, (∀ w1 : World, BoolsAt w1 a xs → Calls Try.prog 27 #[.agg #[.int .i64 W, .int .i64 T, .slice a n cap], .func (.func 28) #[] #[]] w1 fun e w' => ∃ C : List Int, C.length = N ∧ P C ∧ RetL w1 N C e w') ∧ ∀ C, C.length = N → P C → tbyF W T xs C = (X, ok) := by
    rcases hE with ⟨rfl, H, hE⟩ | ⟨rfl, rfl, hno⟩
    · have hG := edge_gt hN hf hE
      obtain ⟨hs, ht, hH, _⟩ := hE
      have hHf : HtsOf W T xs X H N := by
        rcases hH with ⟨_, h⟩ | ⟨h, _⟩
        · rw [show ((W + 1) * (T + 1)).toNat = N by omega] at h; exact h
        · rw [hs, ht] at h; cases h
      refine ⟨fun C => C = sgnL true W T xs H N, fun w1 h => ?_, fun C _ e => ?_⟩
      · exact (great_high W T a n cap xs N fk _ w1 HN.out hn' h h1 hN hG).mono fun e w' hr => ⟨_, sgnL_len _ _ _ _ _ _, rfl, hr⟩
      · rw [e, sgn_true hHf]; exact (tby_of hs ht hH).2
    · have hno' : ∀ L, tok W T xs L = false := by
        rcases hno with h | h
        · rw [h1] at h; cases h
        · exact h
      refine ⟨fun _ => True, fun w1 h => ?_, fun C _ _ => tby_no (hok_none hno' _)⟩
      exact (weak_high W T a n cap xs N fk w1 HN.out hn' h h1 hN hf).mono fun e w' ⟨C, hl, hr⟩ => ⟨C, hl, trivial, hr⟩
  obtain ⟨P, hP1, hP2⟩ := hC
  have HS := Lib.hid h1
  have HP1 := Lib.hid hP1; clear hP1
  have HP2 := Lib.hid hP2; clear hP2
  clear h1 hE hN hf v5 v6 hcb
  go_enter Try.func15, Try.ntmps15
  go_wp2_with fail
  rw [← hwA]; clear hwA
  refine (iSimple_any _ _ _ _ _ xs _ HN.out hn' (HA.out.below bA)).mono ?_; rintro e w1 ⟨rfl, hb1⟩
  rw [HS.out]
  have b1 := below_seq bA hb1
  have p1 := heap_later pA hb1
  clear c0 c1 c2
  obtain ⟨c0, c1, c2⟩ := cells3 p1
  go_wp2_with fail
  have PD : w1.drew.heap[w.heap.size]? = some _ := p1
  go_region_held3 (fun w' => w'.cell? ⟨w.heap.size, 0, none⟩ = some (.int .i64 W) ∧ w'.cell? ⟨w.heap.size, 1, none⟩ = some (.int .i64 T) ∧ w'.cell? ⟨w.heap.size, 2, none⟩ = some (.slice a n cap))
    (go_keep)
    (first
      | (go_at_call 22; refine (iTilingBy_ret _ _ _ _ _ xs _ _ _ C _ HN.out hn' HCR.out (by omega) (A2.out) (OwnsI.at O2.out)).mono ?_; rintro e w3 ⟨a3, cap3, rfl, ho3, hb3⟩; rw [HT.out] at ho3 ⊢; simp only at ho3 ⊢; have p3 := heap_later p2 hb3; have b3 := below_seq b2 hb3; have O3 := Lib.hid (ho3.lower (show w.heap.size ≤ w2.heap.size from b2.size)); obtain ⟨d30, d31, d32⟩ := cells3 p3)
      | (go_at_call 27; refine (HP1.out _ (HA.out.below (below_seq b1 (drew_below _)))).mono ?_; rintro e w2 ⟨C, hCl, hPC, a2, cap2, rfl, ho2, hb2⟩; have HT := Lib.hid (HP2.out C hCl hPC); have HCR : Hid (N = (C).length) := Lib.hid (by rw [hCl]); clear hCl hPC; have p2 := heap_later PD hb2; have b2 : Below w.heap.size w w2 := below_seq b1 (below_seq (drew_below _) hb2); have A2 := Lib.hid (HA.out.below b2); have O2 := Lib.hid ho2; clear ho2; obtain ⟨d20, d21, d22⟩ := cells3 p2))
  all_goals
    go_wp2
    go_ret2
    exact ⟨a3, cap3, rfl, O3.out, b3⟩

end Go.Proofs.Ythpifnjoiklgnaa

namespace Go.Proofs.Ythpifnjoiklgnaa
open Go.RowKit
set_option linter.unusedVariables false
set_option maxRecDepth 100000
set_option linter.unusedSimpArgs false

set_option maxHeartbeats 4000000 in
theorem sHighest_ret (W T : Int) (a : Option Addr) (n cap : Nat) (xs : List Bool) (X : List Int) (ok : Bool) (w : World) (hn : n = xs.length) (hn' : n ≤ 1048576) (hE : LowRes true W T xs X ok) (ha : BoolsAt w a xs) :
    Calls Try.prog 14 #[.agg #[.int .i64 W, .int .i64 T, .slice a n cap]] w (RetLT w X.length X ok) := by
  have HN := Lib.hid hn; clear hn
  have HA := Lib.hid ha; clear ha
  obtain ⟨wA, hwA⟩ : ∃ wA, wA = w.alloc (.cells #[.int .i64 W, .int .i64 T, .slice a n cap] 29) := ⟨_, rfl⟩
  have pA : wA.heap[w.heap.size]? = some (.cells #[.int .i64 W, .int .i64 T, .slice a n cap] 29 (0, 0)) := by rw [hwA]; exact heap_new _ _
  have bA : Below w.heap.size w wA := by rw [hwA]; exact below1 _ _
  have zA : wA.heap.size = w.heap.size + 1 := by rw [hwA]; simp
  obtain ⟨ALL, hALL⟩ : ∃ ALL, ALL = allF W T xs := ⟨_, rfl⟩
  have hcnt : ALL.length ≤ 4096 := by rw [hALL]; exact allF_count W T xs
  have HROW : Hid (∀ i, i < ALL.length → (ALL.getD i []).length = n ∧ tok W T xs (ALL.getD i []) = true) := fun i hi => by
    rw [hALL] at hi ⊢
    rw [HN.out]
    exact allF_row hi
  have HMEM : Hid (∀ M, tok W T xs M = true → ∃ i, i < ALL.length ∧ ALL.getD i [] = M) := fun M hM => by
    obtain ⟨i, hi, e⟩ := List.getElem_of_mem (mem_allF hM)
    rw [hALL]
    exact ⟨i, hi, by rw [← e]; simp [List.getD, hi]⟩
  obtain ⟨z, hz⟩ : ∃ z, z = ALL.length := ⟨_, rfl⟩
  rw [← hz] at hcnt
  obtain ⟨S, hS⟩ : ∃ S, simpleB W T xs = S := ⟨_, rfl⟩
  have HS := Lib.hid hS
  have HE := Lib.hid hE; clear hE hS
  have HALL := Lib.hid hALL; clear hALL
  have HZ := Lib.hid hz; clear hz
  obtain ⟨c0, c1, c2⟩ := cells3 pA
  go_enter Try.func14, Try.ntmps14
  go_wp2_with fail
  rw [← hwA]; clear hwA
  refine (sTilingsAll_ret _ _ _ _ _ xs _ HN.out hn' (HA.out.below bA)).mono ?_; rintro e w1 ⟨aa, acap, rfl, ho1, hb1⟩
  rw [← HALL.out] at ho1 ⊢
  rw [← HZ.out] at ho1 ⊢
  have p1 := heap_later pA hb1
  have b1 := below_seq bA hb1
  have A1 := Lib.hid (HA.out.below b1)
  have S1 := Lib.hid (OwnsSS.at ho1)
  obtain ⟨ws, hrow1, hrows1⟩ := ho1
  rw [← HZ.out] at hrow1
  have RS1 := Lib.hid hrows1; clear hrows1
  have RW1 := Lib.hid hrow1; clear hrow1
  have zz1 := hb1.size
  clear c0 c1 c2 hb1
  obtain ⟨c0, c1, c2⟩ := cells3 p1
  go_wp2_with fail
  refine (sSimple_any _ _ _ _ _ xs _ HN.out hn' A1.out).mono ?_; rintro e w2 ⟨rfl, hb2⟩
  rw [HS.out]
  have p2 := heap_later p1 hb2
  have b2 := below_seq b1 hb2
  have A2 := Lib.hid (A1.out.below hb2)
  have S2 := Lib.hid (S1.out.below hb2)
  have RS2 := Lib.hid (RS1.out.below hb2)
  have RW2 := Lib.hid (ownsRow_belowW RW1.out hb2)
  have zz2 := hb2.size
  clear c0 c1 c2 hb2 p1 A1 S1 RS1 RW1
  obtain ⟨c0, c1, c2⟩ := cells3 p2
  by_cases hno : S = false ∨ z = 0
  · obtain ⟨rfl, rfl⟩ : X = [] ∧ ok = false := by
      rcases HE.out with ⟨_, H, hs, ht, _⟩ | ⟨e1, e2, _⟩
      · exfalso
        rcases hno with e | e
        · have := HS.out; rw [hs, e] at this; cases this
        · obtain ⟨i, hi, _⟩ := HMEM.out X ht
          rw [← HZ.out, e] at hi; omega
      · exact ⟨e2, e1⟩
    cases S
    · clear hno
      go_wp2
      go_ret2
      refine ⟨_, _, rfl, own_nil_litL _ (by omega), below_seq b2 (below1 _ _)⟩
    · have hz0 : z = 0 := by rcases hno with e | e; cases e; exact e
      subst hz0
      clear hno
      go_wp2
      go_ret2
      refine ⟨_, _, rfl, own_nil_litL _ (by omega), below_seq b2 (below1 _ _)⟩
  · obtain rfl : S = true := by cases S; exact absurd (Or.inl rfl) hno; rfl
    have hz1 : 0 < z := by omega
    have hz2 : (0 : Int) < z := by omega
    have hz3 : ((z : Int) == 0) = false := by simp; omega
    obtain ⟨b0, o0, a0, cap0, rfl, hc0, hx0⟩ := S2.out 0 (by rw [← HZ.out]; exact hz1)
    obtain ⟨m0, hm0⟩ : ∃ m0, m0 = (ALL.getD 0 []).length := ⟨_, rfl⟩
    have hm0n : m0 = n := by rw [hm0]; exact (HROW.out 0 (by rw [← HZ.out]; exact hz1)).1
    have hm036 : m0 ≤ 1048576 := by omega
    rw [← hm0, Nat.add_zero] at hc0
    obtain ⟨M0, hM0⟩ : ∃ M0, M0 = ALL.getD 0 [] := ⟨_, rfl⟩
    have ht0 : tok W T xs M0 = true := by rw [hM0]; exact (HROW.out 0 (by rw [← HZ.out]; exact hz1)).2
    have ho0 : OwnsI w2 wA.heap.size (.slice a0 m0 cap0) M0 := by rw [hM0]; exact row_owned RW2.out HZ.out RS2.out hz1 rfl (by rw [Nat.add_zero]; exact hc0)
    obtain ⟨H0, hH0⟩ := htsR_exist W T xs M0
    rw [← hM0] at hm0
    have HM0 := Lib.hid hm0; clear hm0
    have HT0 := Lib.hid ht0; clear ht0
    have HH0 := Lib.hid hH0; clear hH0
    have O0 := Lib.hid ho0; clear ho0
    have HM0A := Lib.hid hM0; clear hM0
    clear hx0 hm0n hno
    have lb0 := World.block_lt_of_cell? w2 _ hc0
    simp only at lb0
    go_wp2
    go_loopw [5, 6] (fun l i wr => ∃ (k : Nat) (la : Option Addr) (m lcap : Nat) (L H : List Int), 1 ≤ k ∧ k ≤ z ∧ i = .int .i64 k ∧ l = .slice la m lcap ∧ m = L.length ∧ m ≤ 1048576 ∧ tok W T xs L = true ∧ HtsR W T xs L H ∧ (∀ i, i < k → ∀ B, HtsR W T xs (ALL.getD i []) B → ∀ j, j < H.length → B.getD j 0 ≤ H.getD j 0) ∧ OwnsI wr w.heap.size l L ∧ Below w2.heap.size w2 wr) (fun _ i _ => z - (intOf i).toNat)
    case atStart =>
      refine ⟨1, a0, m0, cap0, M0, H0, Nat.le_refl _, hz1, rfl, rfl, HM0.out, hm036, HT0.out, HH0.out, fun i hi B hB j hj => ?_, O0.out.lower (by omega), Below.refl _ _⟩
      obtain rfl : i = 0 := by omega
      rw [← HM0A.out] at hB
      rw [htsR_unique hB HH0.out]; exact Int.le_refl _
    case round =>
      rename World => wo
      clear O0 HM0 HT0 HH0 hm036
      obtain ⟨k, la, m, lcap, L, H, hk1, hk, rfl, rfl, hml, hm1, htl, hhl, hbel, hol, bo⟩ := hrel
      have HML := Lib.hid hml; clear hml
      have HTL := Lib.hid htl; clear htl
      have HHL := Lib.hid hhl; clear hhl
      have HBL := Lib.hid hbel; clear hbel
      have OL := Lib.hid hol; clear hol
      have b9 := below_seq b2 bo
      have p9 := heap_later p2 bo
      have A9 := Lib.hid (A2.out.below bo)
      have S9 := Lib.hid (S2.out.below bo)
      have BO := Lib.hid bo; clear bo c0 c1 c2
      obtain ⟨c0, c1, c2⟩ := cells3 p9
      by_cases hlt : k < z
      · have e1 : (k : Int) < z := by omega
        have e0 : (0 : Int) ≤ k := by omega
        have hkr : k < ALL.length := by rw [← HZ.out]; exact hlt
        obtain ⟨b6, o6, a6, cap6, e6, hc6, hx6⟩ := S9.out k hkr
        simp only [Option.some.injEq, Addr.mk.injEq, true_and, and_true] at e6
        obtain ⟨rfl, rfl⟩ := e6
        obtain ⟨m6, hm6⟩ : ∃ m6, m6 = (ALL.getD k []).length := ⟨_, rfl⟩
        have hm61 : m6 ≤ 1048576 := by rw [hm6, (HROW.out k hkr).1]; exact hn'
        rw [← hm6] at hc6
        obtain ⟨M, hM⟩ : ∃ M, M = ALL.getD k [] := ⟨_, rfl⟩
        have htM : tok W T xs M = true := by rw [hM]; exact (HROW.out k hkr).2
        rw [← hM] at hx6 hm6
        obtain ⟨B, hB⟩ := htsR_exist W T xs M
        obtain ⟨Y, K, hy1, hy2, hy3, hy4, hy5, hy6⟩ := fold_step true (HS.out) HTL.out HHL.out htM hB
        obtain ⟨y, hy⟩ : ∃ y, y = Y.length := ⟨_, rfl⟩
        have hy1m : y ≤ 1048576 := by rw [hy, hy4, ← HN.out]; exact hn'
        have HYR : Hid (∀ i, i < k + 1 → ∀ C, HtsR W T xs (ALL.getD i []) C → ∀ j, j < K.length → C.getD j 0 ≤ K.getD j 0) := fun i hi C hC j hj => by
          rw [hy5] at hj
          have h6 := hy6 j hj
          simp only [Bool.false_eq_true, if_false, if_true] at h6
          rcases Nat.lt_or_ge i k with e | e
          · have := HBL.out i e C hC j hj
            omega
          · obtain rfl : i = k := by omega
            rw [← hM] at hC
            rw [htsR_unique hC hB]; omega
        have HX6 := Lib.hid hx6; clear hx6
        have HM6 := Lib.hid hm6; clear hm6
        have HB := Lib.hid hB; clear hB
        have HY1 := Lib.hid hy1; clear hy1
        have HY2 := Lib.hid hy2; clear hy2
        have HY3 := Lib.hid hy3; clear hy3
        have HY := Lib.hid hy; clear hy
        clear hy4 hy5 hy6 hM htM hkr
        have l6 := World.block_lt_of_cell? wo _ hc6
        simp only at l6
        go_upto_region 8 with fail
        go_cut [7] (fun v7 wx => ∃ a7 cap7, v7 = .slice a7 y cap7 ∧ OwnsI wx w.heap.size (.slice a7 y cap7) Y ∧ Below w2.heap.size w2 wx)
        case first =>
          have PD : wo.drew.heap[w.heap.size]? = some _ := p9
          have d6 : wo.drew.cell? ⟨b0, o0 + k, none⟩ = some (.slice a6 m6 cap6) := hc6
          go_region_held3 (fun w' => w'.cell? ⟨w.heap.size, 0, none⟩ = some (.int .i64 W) ∧ w'.cell? ⟨w.heap.size, 1, none⟩ = some (.int .i64 T) ∧ w'.cell? ⟨w.heap.size, 2, none⟩ = some (.slice a n cap) ∧ w'.cell? ⟨b0, o0 + k, none⟩ = some (.slice a6 m6 cap6))
            (go_keep)
            ((go_at_call 26; refine (sTilingHigh_ret _ _ _ _ _ xs _ _ _ L _ _ _ M H B _ HN.out hn' HML.out hm1 HM6.out hm61 (show BoolsAt wo.drew _ _ from A9.out) (show IntsAt wo.drew _ _ from OwnsI.at OL.out) (show IntsAt wo.drew _ _ from HX6.out) HHL.out HB.out).mono ?_; rintro e w10 ⟨a10, cap10, rfl, ho10, hb10⟩; rw [HY1.out] at ho10 ⊢; simp only at ho10 ⊢; rw [← HY.out] at ho10 ⊢; have p10 := heap_later PD hb10; have f6 := cell_later hb10 d6; have b10 : Below w2.heap.size w2 w10 := below_seq BO.out (below_seq (drew_below _) hb10); obtain ⟨c100, c101, c102⟩ := cells3 p10))
          all_goals
            go_wp2
            go_meet
            exact ⟨a10, cap10, rfl, ho10.lower (show w.heap.size ≤ wo.drew.heap.size from b9.size), b10⟩
        case rest =>
          rename World => w11
          obtain ⟨a7, cap7, rfl, ho7, b11⟩ := hcut
          have O7 := Lib.hid ho7; clear ho7
          go_wp2
          go_roundw
          case rel => exact ⟨k + 1, a7, y, cap7, Y, K, by omega, by omega, by go_num, rfl, HY.out, hy1m, HY2.out, HY3.out, HYR.out, O7.out, b11⟩
          case measure => simp [intOf]; omega
      · obtain rfl : k = z := by omega
        have hEdge : EdgeR true W T xs L H := ⟨HS.out, HTL.out, HHL.out, fun M B hM hB j hj => by
          obtain ⟨i, hi, e⟩ := HMEM.out M hM
          rw [← e] at hB
          have := HBL.out i (by rw [HZ.out]; exact hi) B hB j hj
          simpa using this⟩
        obtain ⟨rfl, rfl⟩ : L = X ∧ ok = true := by
          rcases HE.out with ⟨e1, H', h'⟩ | ⟨e1, e2, h'⟩
          · exact ⟨(edge_unique hEdge h').1, e1⟩
          · exfalso
            rcases h' with h' | h'
            · have := HS.out; rw [h'] at this; cases this
            · have := h' L; rw [HTL.out] at this; cases this
        clear hEdge
        go_wp2
        go_ret2
        exact ⟨la, lcap, by rw [← HML.out]; rfl, by rw [← HML.out]; exact OL.out, b9⟩

end Go.Proofs.Ythpifnjoiklgnaa

namespace Go.Proofs.Ythpifnjoiklgnaa
open Go.RowKit
set_option linter.unusedVariables false
set_option maxRecDepth 100000
set_option linter.unusedSimpArgs false

set_option maxHeartbeats 4000000 in
theorem lawHighest_walk (W T : Int) (a : Option Addr) (n cap : Nat) (xs : List Bool) (w : World) (hn : n = xs.length) (hn' : n ≤ maxLen) (ha : BoolsAt w a xs) :
    Calls Try.prog 4 #[.agg #[.int .i64 W, .int .i64 T, .slice a n cap]] w fun e w' => e = .returned (.bool true) ∧ Below w.heap.size w w' := by
  have HN := Lib.hid hn; clear hn
  have HA := Lib.hid ha; clear ha
  obtain ⟨X, ok, hE⟩ := lowRes_exist true W T xs
  by_cases hsm : 1048576 < n
  · have hz := szB_neg hsm
    go_enter Try.func4, Try.ntmps4
    go_wp2_with (go_at_call 5; refine (szRegion_any _ _ _ _ _ _ _ (by omega) (by omega) hn').mono ?_; rintro e w1 ⟨rfl, hb⟩)
    go_ret
    exact ⟨rfl, below_seq (below1 _ _) hb⟩
  · have hsm' : n ≤ 1048576 := by omega
    have hz := szB_pos hsm'
    have hS : ∀ (a : Option Addr) (cap : Nat) (w : World), BoolsAt w a xs → Calls Try.prog 14 #[.agg #[.int .i64 W, .int .i64 T, .slice a n cap]] w (RetLT w ((X, ok)).1.length ((X, ok)).1 ((X, ok)).2) := fun a cap w h => (fun (_ _ : Int) a n cap (_ : List Bool) w hn hn2 h => sHighest_ret W T a n cap xs X ok w hn hn2 hE h) W T a n cap xs w HN.out hsm' h
    have hI : ∀ (a : Option Addr) (cap : Nat) (w : World), BoolsAt w a xs → Calls Try.prog 15 #[.agg #[.int .i64 W, .int .i64 T, .slice a n cap]] w (RetLT w ((X, ok)).1.length ((X, ok)).1 ((X, ok)).2) := fun a cap w h => (fun (_ _ : Int) a n cap (_ : List Bool) w hn hn2 h => iHighest_ret W T a n cap xs X ok w hn hn2 hE h) W T a n cap xs w HN.out hsm' h
    have hlen : ((X, ok)).1.length ≤ 1048576 := by show X.length ≤ 1048576; have := hE.len; rw [← HN.out] at this; omega
    generalize ((X, ok)).2 = okv at hS hI
    generalize ((X, ok)).1 = ys at hS hI hlen
    obtain ⟨r, hr⟩ : ∃ r, r = ys.length := ⟨_, rfl⟩
    rw [← hr] at hS hI hlen
    have HS := Lib.hid hS; clear hS
    have HI := Lib.hid hI; clear hI
    have HR := Lib.hid hr; clear hr
    cases okv
    all_goals
      go_enter Try.func4, Try.ntmps4
      go_wp2_with fail
      refine (szRegion_any _ _ _ _ _ _ _ (by omega) (by omega) hn').mono ?_; rintro e w1 ⟨rfl, hb1⟩
      have b1 := below_seq (below1 _ _) hb1
      have z1 : w.heap.size + 1 ≤ w1.heap.size := by have := hb1.size; (try simp at this); omega
      have pa_1 := heap_later (heap_new _ _) hb1
      obtain ⟨c1_pa0, c1_pa1, c1_pa2⟩ := cells3 pa_1
      have l1_pa := heap_lt pa_1
      go_wp2_with fail
      refine (toRegion_any _ _ _ _ _ xs _ HN.out hsm' (HA.out.below b1)).mono ?_; rintro e w2 ⟨g2, rfl, ho2, hb2⟩
      have b2 := below_seq b1 hb2
      have z2 : w1.heap.size + 0 ≤ w2.heap.size := by have := hb2.size; (try simp at this); omega
      have pa_2 := heap_later pa_1 hb2
      have O2_2 := Lib.hid (ho2)
      clear pa_1 c1_pa0 c1_pa1 c1_pa2 l1_pa
      clear ho2
      go_wp2_with fail
      refine (HS.out _ _ _ (OwnsB.at O2_2.out)).mono ?_; rintro e w3 ⟨aS, capS, rfl, ho3, hb3⟩
      have b3 := below_seq b2 hb3
      have z3 : w2.heap.size + 0 ≤ w3.heap.size := by have := hb3.size; (try simp at this); omega
      have pa_3 := heap_later pa_2 hb3
      have IW_3 := Lib.hid (OwnsI.at ho3)
      clear pa_2 O2_2
      obtain ⟨c3_pa0, c3_pa1, c3_pa2⟩ := cells3 pa_3
      have l3_pa := heap_lt pa_3
      clear ho3
      have IWs := IW_3
      go_wp2_with fail
      refine (toRegion_any _ _ _ _ _ xs _ HN.out hsm' (HA.out.below b3)).mono ?_; rintro e w4 ⟨g4, rfl, ho4, hb4⟩
      have b4 := below_seq b3 hb4
      have z4 : w3.heap.size + 0 ≤ w4.heap.size := by have := hb4.size; (try simp at this); omega
      have pa_4 := heap_later pa_3 hb4
      have IW_4 := Lib.hid (IntsAt.below IW_3.out hb4)
      have OX_4 := Lib.hid (ho4)
      clear pa_3 IW_3 c3_pa0 c3_pa1 c3_pa2 l3_pa
      clear ho4
      have OXs := OX_4
      go_wp2_with fail
      refine (HI.out _ _ _ (OwnsB.at (OwnsB.alloc OX_4.out _))).mono ?_; rintro e w5 ⟨aG, capG, rfl, ho5, hb5⟩
      have b5 := below_seq (below_seq b4 (below1 _ _)) hb5
      have z5 : w4.heap.size + 1 ≤ w5.heap.size := by have := hb5.size; (try simp at this); omega
      have pa_5 := heap_later (heap_later pa_4 (below1 _ _)) hb5
      have IW_5 := Lib.hid (IntsAt.below (IntsAt.one IW_4.out _) hb5)
      have OX_5 := Lib.hid (OwnsB.below (OwnsB.alloc OX_4.out _) hb5)
      have px_5 := heap_later (heap_new _ _) hb5
      have VG_5 := Lib.hid (OwnsI.lower ho5 (show w4.heap.size + 1 ≤ _ by simp))
      clear pa_4 IW_4 OX_4
      clear ho5
      have VGs := VG_5
      go_wp2_with fail
      refine (eqIntS_below _ _ _ _ _ ys _ HR.out hlen (OwnsI.at VG_5.out) IW_5.out).mono ?_; rintro e w6 ⟨rfl, hb6⟩
      have b6 := below_seq b5 hb6
      have z6 : w5.heap.size + 0 ≤ w6.heap.size := by have := hb6.size; (try simp at this); omega
      have pa_6 := heap_later pa_5 hb6
      have IW_6 := Lib.hid (IntsAt.below IW_5.out hb6)
      have OX_6 := Lib.hid (OwnsB.below OX_5.out hb6)
      have px_6 := heap_later px_5 hb6
      have VG_6 := Lib.hid (OwnsI.below VG_5.out hb6)
      clear pa_5 IW_5 OX_5 px_5 VG_5
      obtain ⟨c6_pa0, c6_pa1, c6_pa2⟩ := cells3 pa_6
      have l6_pa := heap_lt pa_6
      obtain ⟨c6_px0, c6_px1, c6_px2⟩ := cells3 px_6
      have l6_px := heap_lt px_6
      go_wp2_with fail
      have P6 : w6.drew.heap[w.heap.size]? = some _ := pa_6
      have Q6 : w6.drew.heap[w4.heap.size]? = some _ := px_6
      go_region_held3 (fun w' => w'.cell? ⟨w.heap.size, 0, none⟩ = some (.int .i64 W) ∧ w'.cell? ⟨w.heap.size, 1, none⟩ = some (.int .i64 T) ∧ w'.cell? ⟨w.heap.size, 2, none⟩ = some (.slice a n cap) ∧
          w'.cell? ⟨w4.heap.size, 0, none⟩ = some (.int .i64 W) ∧ w'.cell? ⟨w4.heap.size, 1, none⟩ = some (.int .i64 T) ∧ w'.cell? ⟨w4.heap.size, 2, none⟩ = some (.slice (some ⟨g4, 0, none⟩) n n))
        (go_keep)
        (first
          | (go_at_call 7; refine (toRegion_any _ _ _ _ _ xs _ HN.out hsm' (HA.out.below b6.drew)).mono ?_; rintro e w7 ⟨g7, rfl, ho7, hb7⟩; have p7 := heap_later P6 hb7; have q7 := heap_later Q6 hb7; obtain ⟨cA0, cA1, cA2⟩ := cells3 p7; obtain ⟨dA0, dA1, dA2⟩ := cells3 q7)
          | (go_at_call 10; refine (eqRegion_same _ _ _ _ _ _ _ xs _ HN.out hsm' ((show BoolsAt w6.drew _ xs from OwnsB.at OX_6.out).below hb7) ho7.at).mono ?_; rintro e w8 ⟨rfl, hb8⟩; have p8 := heap_later p7 hb8; have q8 := heap_later q7 hb8; obtain ⟨cB0, cB1, cB2⟩ := cells3 p8; obtain ⟨dB0, dB1, dB2⟩ := cells3 q8))
      have bb8 : Below w6.heap.size w6 w8 := below_seq (below_seq (drew_below _) hb7) hb8
      have b8 := below_seq b6 bb8
      have z8 : w6.heap.size ≤ w8.heap.size := bb8.size
      have pa_8 := heap_later pa_6 bb8
      have IW_8 := Lib.hid (IntsAt.below IW_6.out bb8)
      have OX_8 := Lib.hid (OwnsB.below OX_6.out bb8)
      have px_8 := heap_later px_6 bb8
      have VG_8 := Lib.hid (OwnsI.below VG_6.out bb8)
      clear pa_6 IW_6 OX_6 px_6 VG_6 c6_pa0 c6_pa1 c6_pa2 l6_pa c6_px0 c6_px1 c6_px2 l6_px p7 q7 cA0 cA1 cA2 dA0 dA1 dA2 p8 q8 cB0 cB1 cB2 dB0 dB1 dB2 P6 Q6 ho7
      obtain ⟨c8_px0, c8_px1, c8_px2⟩ := cells3 px_8
      have l8_px := heap_lt px_8
      go_wp2_with fail
      refine (markRegion_own _ _ _ _ _ w3.heap.size _ xs _ HN.out hsm' (by omega) (by omega) (by omega) OX_8.out).mono ?_; rintro e w9 ⟨rfl, ho9, hb9⟩
      have b9 := below_grown b8 hb9 (Nat.le_refl _) (OwnsB.ownAt OX_8.out (by omega))
      have z9 : w8.heap.size ≤ w9.heap.size := hb9.size
      have pa_9 := heap_grown pa_8 hb9 (OwnsB.ownBlock OX_8.out (by omega))
      have IW_9 := Lib.hid (IntsAt.grown IW_8.out IWs.out hb9 (OwnsB.ownAt OX_8.out (by omega)))
      have px_9 := heap_grown px_8 hb9 (fun e => by have h9 := OwnsB.blkLt OXs.out _ e; omega)
      have VG_9 := Lib.hid (OwnsI.keptBy VG_8.out hb9 (fun k e => by have h9 := OwnsB.blkLt OXs.out _ e; omega))
      clear pa_8 IW_8 OX_8 px_8 VG_8 c8_px0 c8_px1 c8_px2 l8_px
      clear ho9
      go_wp2_with fail
      refine (eqIntS_below _ _ _ _ _ ys _ HR.out hlen (OwnsI.at VG_9.out) IW_9.out).mono ?_; rintro e w10 ⟨rfl, hb10⟩
      have b10 := below_seq b9 hb10
      have z10 : w9.heap.size + 0 ≤ w10.heap.size := by have := hb10.size; (try simp at this); omega
      have pa_10 := heap_later pa_9 hb10
      have IW_10 := Lib.hid (IntsAt.below IW_9.out hb10)
      have px_10 := heap_later px_9 hb10
      have VG_10 := Lib.hid (OwnsI.below VG_9.out hb10)
      clear pa_9 IW_9 px_9 VG_9
      go_wp2_with fail
      refine (markIntS_own _ _ _ (w4.heap.size + 1) _ ys _ HR.out hlen (by omega) (by omega) VG_10.out).mono ?_; rintro e w11 ⟨rfl, ho11, hb11⟩
      have b11 := below_grown b10 hb11 (Nat.le_refl _) (OwnsI.ownAt VG_10.out (by omega))
      have z11 : w10.heap.size ≤ w11.heap.size := hb11.size
      have pa_11 := heap_grown pa_10 hb11 (OwnsI.ownBlock VG_10.out (by omega))
      have IW_11 := Lib.hid (IntsAt.grown IW_10.out IWs.out hb11 (OwnsI.ownAt VG_10.out (by omega)))
      have px_11 := heap_grown px_10 hb11 (OwnsI.ownBlock VG_10.out (by omega))
      have M_11 := Lib.hid (ho11)
      clear pa_10 IW_10 px_10 VG_10
      clear ho11
      go_wp2_with fail
      refine (heldIntS_below _ _ _ _ _ hlen (by omega) (by omega) (marksI_at M_11.out)).mono ?_; rintro e w12 ⟨rfl, hb12⟩
      have b12 := below_seq b11 hb12
      have z12 : w11.heap.size + 0 ≤ w12.heap.size := by have := hb12.size; (try simp at this); omega
      have pa_12 := heap_later pa_11 hb12
      have IW_12 := Lib.hid (IntsAt.below IW_11.out hb12)
      have px_12 := heap_later px_11 hb12
      have M_12 := Lib.hid (OwnsI.below M_11.out hb12)
      clear pa_11 IW_11 px_11 M_11
      obtain ⟨c12_pa0, c12_pa1, c12_pa2⟩ := cells3 pa_12
      have l12_pa := heap_lt pa_12
      go_wp2_with fail
      refine (toRegion_any _ _ _ _ _ xs _ HN.out hsm' (HA.out.below b12)).mono ?_; rintro e w13 ⟨g13, rfl, ho13, hb13⟩
      have b13 := below_seq b12 hb13
      have z13 : w12.heap.size + 0 ≤ w13.heap.size := by have := hb13.size; (try simp at this); omega
      have pa_13 := heap_later pa_12 hb13
      have IW_13 := Lib.hid (IntsAt.below IW_12.out hb13)
      have px_13 := heap_later px_12 hb13
      have M_13 := Lib.hid (OwnsI.below M_12.out hb13)
      have O18_13 := Lib.hid (ho13)
      clear pa_12 IW_12 px_12 M_12 c12_pa0 c12_pa1 c12_pa2 l12_pa
      clear ho13
      go_wp2_with fail
      refine (HI.out _ _ _ (OwnsB.at O18_13.out)).mono ?_; rintro e w14 ⟨aH, capH, rfl, ho14, hb14⟩
      have b14 := below_seq b13 hb14
      have z14 : w13.heap.size + 0 ≤ w14.heap.size := by have := hb14.size; (try simp at this); omega
      have pa_14 := heap_later pa_13 hb14
      have IW_14 := Lib.hid (IntsAt.below IW_13.out hb14)
      have px_14 := heap_later px_13 hb14
      have M_14 := Lib.hid (OwnsI.below M_13.out hb14)
      have IH_14 := Lib.hid (OwnsI.at ho14)
      clear pa_13 IW_13 px_13 M_13 O18_13
      clear ho14
      go_wp2_with fail
      refine (eqIntS_below _ _ _ _ _ ys _ HR.out hlen IH_14.out IW_14.out).mono ?_; rintro e w15 ⟨rfl, hb15⟩
      have b15 := below_seq b14 hb15
      have z15 : w14.heap.size + 0 ≤ w15.heap.size := by have := hb15.size; (try simp at this); omega
      have pa_15 := heap_later pa_14 hb15
      have IW_15 := Lib.hid (IntsAt.below IW_14.out hb15)
      have px_15 := heap_later px_14 hb15
      have M_15 := Lib.hid (OwnsI.below M_14.out hb15)
      have IH_15 := Lib.hid (IntsAt.below IH_14.out hb15)
      clear pa_14 IW_14 px_14 M_14 IH_14
      go_wp2_with fail
      refine (heldIntS_below _ _ _ _ _ hlen (by omega) (by omega) (marksI_at M_15.out)).mono ?_; rintro e w16 ⟨rfl, hb16⟩
      have b16 := below_seq b15 hb16
      have z16 : w15.heap.size + 0 ≤ w16.heap.size := by have := hb16.size; (try simp at this); omega
      have pa_16 := heap_later pa_15 hb16
      have IW_16 := Lib.hid (IntsAt.below IW_15.out hb16)
      have px_16 := heap_later px_15 hb16
      have M_16 := Lib.hid (OwnsI.below M_15.out hb16)
      have IH_16 := Lib.hid (IntsAt.below IH_15.out hb16)
      clear pa_15 IW_15 px_15 M_15 IH_15
      go_wp2
      go_ret
      exact ⟨rfl, b16⟩

end Go.Proofs.Ythpifnjoiklgnaa
