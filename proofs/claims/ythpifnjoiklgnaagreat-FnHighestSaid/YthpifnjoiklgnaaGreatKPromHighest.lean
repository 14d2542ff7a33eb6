/- The law FnHighest: its walk. -/
import Derived.Test.YthpifnjoiklgnaaGreatKLowS
import Derived.Test.YthpifnjoiklgnaaGreatKLatZ
import Derived.Test.YthpifnjoiklgnaaGreatKGrtI
namespace Go.Proofs.YthpifnjoiklgnaaGreat
open Go.RowKit
set_option linter.unusedVariables false
set_option maxRecDepth 100000
set_option linter.unusedSimpArgs false

theorem sgn_true {W T : Int} {xs : List Bool} {X H : List Int} {N : Nat} (h : HtsOf W T xs X H N) : sgnL true W T xs H N = H := by
 refine ext_getD (by rw [sgnL_len, h.len]) fun k hk => ?_
 rw [sgnL_len] at hk
 rw [sgnL_get hk]
 cases ha : hAt W T xs k
 · rw [if_neg (by simp), h.off k hk ha]
 · rfl
set_option maxHeartbeats 4000000 in
theorem iHighest_ret (W T : Int) (a : Option Addr) (n cap : Nat) (xs : List Bool) (X : List Int) (ok : Bool) (w : World) (hn : n = xs.length) (hn' : n ≤ 1048576) (hE : LowRes true W T xs X ok) (ha : BoolsAt w a xs) :
 Calls Tryz.prog 16 #[.agg #[.int .i64 W, .int .i64 T, .slice a n cap]] w (RetLT w X.length X ok) := by
 have HN := Lib.hid hn; clear hn
 have HA := Lib.hid ha; clear ha
 obtain ⟨wA, hwA⟩ : ∃ wA, wA = w.alloc (.cells #[.int .i64 W, .int .i64 T, .slice a n cap] 25) := ⟨_, rfl⟩
 have pA : wA.heap[w.heap.size]? = some (.cells #[.int .i64 W, .int .i64 T, .slice a n cap] 25 (0, 0)) := by rw [hwA]; exact heap_new _ _
 have bA : Below w.heap.size w wA := by rw [hwA]; exact below1 _ _
 obtain ⟨c0, c1, c2⟩ := cells3 pA
 cases h1 : simpleB W T xs
 · obtain ⟨rfl, rfl⟩ : X = [] ∧ ok = false := by
    rcases hE with ⟨_, H, hs, _⟩ | ⟨e1, e2, _⟩
    · rw [h1] at hs; cases hs
    · exact ⟨e2, e1⟩
   have HS := Lib.hid h1; clear h1 hE
   go_enter Tryz.func16, Tryz.ntmps16
   go_wp2_with fail
   rw [← hwA]; clear hwA
   refine (iSimple_any _ _ _ _ _ xs _ HN.out hn' (HA.out.below bA)).mono ?_; rintro e w1 ⟨rfl, hb1⟩
   rw [HS.out]
   go_wp2
   go_ret2
   exact ⟨none, 0, rfl, OwnsI.nil _ _, below_seq bA hb1⟩
 obtain ⟨N, fk, hN, hf⟩ := hokP_size h1
 obtain ⟨v1, v2, v3, v4, v5, v6⟩ := rv_true (simpleB_rv h1)
 have hcb := corn_bd v1 v2 v3 v4
 have hN49 : N ≤ 49 := by omega
 -- the heights that are made, and what they tell
 have hC : ∃ P : List Int → Prop, (∀ w1 : World, BoolsAt w1 a xs → Calls Tryz.prog 41 #[.agg #[.int .i64 W, .int .i64 T, .slice a n cap], .func (.func 42) #[] #[]] w1 fun e w' => ∃ C : List Int, C.length = N ∧ P C ∧ RetL w1 N C e w') ∧ ∀ C, C.length = N → P C → tbyF W T xs C = (X, ok) := by
  rcases hE with ⟨rfl, H, hE⟩ | ⟨rfl, rfl, hno⟩
  · have hG := edge_gt hN hf hE
    obtain ⟨hs, ht, hH, _⟩ := hE
    have hHf : HtsOf W T xs X H N := by
     rcases hH with ⟨_, h⟩ | ⟨h, _⟩
     · rw [show ((W + 1) * (T + 1)).toNat = N by omega] at h; exact h
     · rw [hs, ht] at h; cases h
    refine ⟨fun C => C = sgnL true W T xs H N, fun w1 h => ?_, fun C _ e => ?_⟩
    · exact (great_high W T a n cap xs N fk _ w1 HN.out hn' h h1 hN hG).mono fun e w' hr => ⟨_, sgnL_len _ _ _ _ _ _, rfl, hr⟩
    · rw [e, sgn_true hHf]; exact (tby_of hs ht hH).2
  · have hno' : ∀ L, tok W T xs L = false := by
     rcases hno with h | h
     · rw [h1] at h; cases h
     · exact h
    refine ⟨fun _ => True, fun w1 h => ?_, fun C _ _ => tby_no (hok_none hno' _)⟩
    exact (weak_high W T a n cap xs N fk w1 HN.out hn' h h1 hN hf).mono fun e w' ⟨C, hl, hr⟩ => ⟨C, hl, trivial, hr⟩
 obtain ⟨P, hP1, hP2⟩ := hC
 have HS := Lib.hid h1
 have HP1 := Lib.hid hP1; clear hP1
 have HP2 := Lib.hid hP2; clear hP2
 clear h1 hE hN hf v5 v6 hcb
 go_enter Tryz.func16, Tryz.ntmps16
 go_wp2_with fail
 rw [← hwA]; clear hwA
 refine (iSimple_any _ _ _ _ _ xs _ HN.out hn' (HA.out.below bA)).mono ?_; rintro e w1 ⟨rfl, hb1⟩
 rw [HS.out]
 have b1 := below_seq bA hb1
 have p1 := heap_later pA hb1
 clear c0 c1 c2
 obtain ⟨c0, c1, c2⟩ := cells3 p1
 go_wp2_with fail
 have PD : w1.drew.heap[w.heap.size]? = some _ := p1
 go_region_held3 (fun w' => w'.cell? ⟨w.heap.size, 0, none⟩ = some (.int .i64 W) ∧ w'.cell? ⟨w.heap.size, 1, none⟩ = some (.int .i64 T) ∧ w'.cell? ⟨w.heap.size, 2, none⟩ = some (.slice a n cap))
  (go_keep)
  (first
    | (go_at_call 20; refine (iTilingBy_ret _ _ _ _ _ xs _ _ _ C _ HN.out hn' HCR.out (by omega) (A2.out) (OwnsI.at O2.out)).mono ?_; rintro e w3 ⟨a3, cap3, rfl, ho3, hb3⟩; rw [HT.out] at ho3 ⊢; simp only at ho3 ⊢; have p3 := heap_later p2 hb3; have b3 := below_seq b2 hb3; have O3 := Lib.hid (ho3.lower (show w.heap.size ≤ w2.heap.size from b2.size)); obtain ⟨d30, d31, d32⟩ := cells3 p3)
    | (go_at_call 41; refine (HP1.out _ (HA.out.below (below_seq b1 (drew_below _)))).mono ?_; rintro e w2 ⟨C, hCl, hPC, a2, cap2, rfl, ho2, hb2⟩; have HT := Lib.hid (HP2.out C hCl hPC); have HCR : Hid (N = (C).length) := Lib.hid (by rw [hCl]); clear hCl hPC; have p2 := heap_later PD hb2; have b2 : Below w.heap.size w w2 := below_seq b1 (below_seq (drew_below _) hb2); have A2 := Lib.hid (HA.out.below b2); have O2 := Lib.hid ho2; clear ho2; obtain ⟨d20, d21, d22⟩ := cells3 p2))
 all_goals
  go_wp2
  go_ret2
  exact ⟨a3, cap3, rfl, O3.out, b3⟩

end Go.Proofs.YthpifnjoiklgnaaGreat

namespace Go.Proofs.YthpifnjoiklgnaaGreat
open Go.RowKit
set_option linter.unusedVariables false
set_option maxRecDepth 100000
set_option linter.unusedSimpArgs false

set_option maxHeartbeats 4000000 in
theorem sHighest_ret (W T : Int) (a : Option Addr) (n cap : Nat) (xs : List Bool) (X : List Int) (ok : Bool) (w : World) (hn : n = xs.length) (hn' : n ≤ 1048576) (hE : LowRes true W T xs X ok) (ha : BoolsAt w a xs) :
 Calls Tryz.prog 17 #[.agg #[.int .i64 W, .int .i64 T, .slice a n cap]] w (RetLT w X.length X ok) := by
 have HN := Lib.hid hn; clear hn
 have HA := Lib.hid ha; clear ha
 obtain ⟨wA, hwA⟩ : ∃ wA, wA = w.alloc (.cells #[.int .i64 W, .int .i64 T, .slice a n cap] 25) := ⟨_, rfl⟩
 have pA : wA.heap[w.heap.size]? = some (.cells #[.int .i64 W, .int .i64 T, .slice a n cap] 25 (0, 0)) := by rw [hwA]; exact heap_new _ _
 have bA : Below w.heap.size w wA := by rw [hwA]; exact below1 _ _
 have zA : wA.heap.size = w.heap.size + 1 := by rw [hwA]; simp
 obtain ⟨ALL, hALL⟩ : ∃ ALL, ALL = allF W T xs := ⟨_, rfl⟩
 have hcnt : ALL.length ≤ 4096 := by rw [hALL]; exact allF_count W T xs
 have HROW : Hid (∀ i, i < ALL.length → (ALL.getD i []).length = n ∧ tok W T xs (ALL.getD i []) = true) := fun i hi => by
  rw [hALL] at hi ⊢
  rw [HN.out]
  exact allF_row hi
 have HMEM : Hid (∀ M, tok W T xs M = true → ∃ i, i < ALL.length ∧ ALL.getD i [] = M) := fun M hM => by
  obtain ⟨i, hi, e⟩ := List.getElem_of_mem (mem_allF hM)
  rw [hALL]
  exact ⟨i, hi, by rw [← e]; simp [List.getD, hi]⟩
 obtain ⟨z, hz⟩ : ∃ z, z = ALL.length := ⟨_, rfl⟩
 rw [← hz] at hcnt
 obtain ⟨S, hS⟩ : ∃ S, simpleB W T xs = S := ⟨_, rfl⟩
 have HS := Lib.hid hS
 have HE := Lib.hid hE; clear hE hS
 have HALL := Lib.hid hALL; clear hALL
 have HZ := Lib.hid hz; clear hz
 obtain ⟨c0, c1, c2⟩ := cells3 pA
 go_enter Tryz.func17, Tryz.ntmps17
 go_wp2_with fail
 rw [← hwA]; clear hwA
 refine (sTilingsAll_ret _ _ _ _ _ xs _ HN.out hn' (HA.out.below bA)).mono ?_; rintro e w1 ⟨aa, acap, rfl, ho1, hb1⟩
 rw [← HALL.out] at ho1 ⊢
 rw [← HZ.out] at ho1 ⊢
 have p1 := heap_later pA hb1
 have b1 := below_seq bA hb1
 have A1 := Lib.hid (HA.out.below b1)
 have S1 := Lib.hid (OwnsSS.at ho1)
 obtain ⟨ws, hrow1, hrows1⟩ := ho1
 rw [← HZ.out] at hrow1
 have RS1 := Lib.hid hrows1; clear hrows1
 have RW1 := Lib.hid hrow1; clear hrow1
 have zz1 := hb1.size
 clear c0 c1 c2 hb1
 obtain ⟨c0, c1, c2⟩ := cells3 p1
 go_wp2_with fail
 refine (sSimple_any _ _ _ _ _ xs _ HN.out hn' A1.out).mono ?_; rintro e w2 ⟨rfl, hb2⟩
 rw [HS.out]
 have p2 := heap_later p1 hb2
 have b2 := below_seq b1 hb2
 have A2 := Lib.hid (A1.out.below hb2)
 have S2 := Lib.hid (S1.out.below hb2)
 have RS2 := Lib.hid (RS1.out.below hb2)
 have RW2 := Lib.hid (ownsRow_belowW RW1.out hb2)
 have zz2 := hb2.size
 clear c0 c1 c2 hb2 p1 A1 S1 RS1 RW1
 obtain ⟨c0, c1, c2⟩ := cells3 p2
 by_cases hno : S = false ∨ z = 0
 · obtain ⟨rfl, rfl⟩ : X = [] ∧ ok = false := by
    rcases HE.out with ⟨_, H, hs, ht, _⟩ | ⟨e1, e2, _⟩
    · exfalso
      rcases hno with e | e
      · have := HS.out; rw [hs, e] at this; cases this
      · obtain ⟨i, hi, _⟩ := HMEM.out X ht
        rw [← HZ.out, e] at hi; omega
    · exact ⟨e2, e1⟩
   cases S
   · clear hno
     go_wp2
     go_ret2
     refine ⟨_, _, rfl, own_nil_litL _ (by omega), below_seq b2 (below1 _ _)⟩
   · have hz0 : z = 0 := by rcases hno with e | e; cases e; exact e
     subst hz0
     clear hno
     go_wp2
     go_ret2
     refine ⟨_, _, rfl, own_nil_litL _ (by omega), below_seq b2 (below1 _ _)⟩
 · obtain rfl : S = true := by cases S; exact absurd (Or.inl rfl) hno; rfl
   have hz1 : 0 < z := by omega
   have hz2 : (0 : Int) < z := by omega
   have hz3 : ((z : Int) == 0) = false := by simp; omega
   obtain ⟨b0, o0, a0, cap0, rfl, hc0, hx0⟩ := S2.out 0 (by rw [← HZ.out]; exact hz1)
   obtain ⟨m0, hm0⟩ : ∃ m0, m0 = (ALL.getD 0 []).length := ⟨_, rfl⟩
   have hm0n : m0 = n := by rw [hm0]; exact (HROW.out 0 (by rw [← HZ.out]; exact hz1)).1
   have hm036 : m0 ≤ 1048576 := by omega
   rw [← hm0, Nat.add_zero] at hc0
   obtain ⟨M0, hM0⟩ : ∃ M0, M0 = ALL.getD 0 [] := ⟨_, rfl⟩
   have ht0 : tok W T xs M0 = true := by rw [hM0]; exact (HROW.out 0 (by rw [← HZ.out]; exact hz1)).2
   have ho0 : OwnsI w2 wA.heap.size (.slice a0 m0 cap0) M0 := by rw [hM0]; exact row_owned RW2.out HZ.out RS2.out hz1 rfl (by rw [Nat.add_zero]; exact hc0)
   obtain ⟨H0, hH0⟩ := htsR_exist W T xs M0
   rw [← hM0] at hm0
   have HM0 := Lib.hid hm0; clear hm0
   have HT0 := Lib.hid ht0; clear ht0
   have HH0 := Lib.hid hH0; clear hH0
   have O0 := Lib.hid ho0; clear ho0
   have HM0A := Lib.hid hM0; clear hM0
   clear hx0 hm0n hno
   have lb0 := World.block_lt_of_cell? w2 _ hc0
   simp only at lb0
   go_wp2
   go_loopw [5, 6] (fun l i wr => ∃ (k : Nat) (la : Option Addr) (m lcap : Nat) (L H : List Int), 1 ≤ k ∧ k ≤ z ∧ i = .int .i64 k ∧ l = .slice la m lcap ∧ m = L.length ∧ m ≤ 1048576 ∧ tok W T xs L = true ∧ HtsR W T xs L H ∧ (∀ i, i < k → ∀ B, HtsR W T xs (ALL.getD i []) B → ∀ j, j < H.length → B.getD j 0 ≤ H.getD j 0) ∧ OwnsI wr w.heap.size l L ∧ Below w2.heap.size w2 wr) (fun _ i _ => z - (intOf i).toNat)
   case atStart =>
    refine ⟨1, a0, m0, cap0, M0, H0, Nat.le_refl _, hz1, rfl, rfl, HM0.out, hm036, HT0.out, HH0.out, fun i hi B hB j hj => ?_, O0.out.lower (by omega), Below.refl _ _⟩
    obtain rfl : i = 0 := by omega
    rw [← HM0A.out] at hB
    rw [htsR_unique hB HH0.out]; exact Int.le_refl _
   case round =>
    rename World => wo
    clear O0 HM0 HT0 HH0 hm036
    obtain ⟨k, la, m, lcap, L, H, hk1, hk, rfl, rfl, hml, hm1, htl, hhl, hbel, hol, bo⟩ := hrel
    have HML := Lib.hid hml; clear hml
    have HTL := Lib.hid htl; clear htl
    have HHL := Lib.hid hhl; clear hhl
    have HBL := Lib.hid hbel; clear hbel
    have OL := Lib.hid hol; clear hol
    have b9 := below_seq b2 bo
    have p9 := heap_later p2 bo
    have A9 := Lib.hid (A2.out.below bo)
    have S9 := Lib.hid (S2.out.below bo)
    have BO := Lib.hid bo; clear bo c0 c1 c2
    obtain ⟨c0, c1, c2⟩ := cells3 p9
    by_cases hlt : k < z
    · have e1 : (k : Int) < z := by omega
      have e0 : (0 : Int) ≤ k := by omega
      have hkr : k < ALL.length := by rw [← HZ.out]; exact hlt
      obtain ⟨b6, o6, a6, cap6, e6, hc6, hx6⟩ := S9.out k hkr
      simp only [Option.some.injEq, Addr.mk.injEq, true_and, and_true] at e6
      obtain ⟨rfl, rfl⟩ := e6
      obtain ⟨m6, hm6⟩ : ∃ m6, m6 = (ALL.getD k []).length := ⟨_, rfl⟩
      have hm61 : m6 ≤ 1048576 := by rw [hm6, (HROW.out k hkr).1]; exact hn'
      rw [← hm6] at hc6
      obtain ⟨M, hM⟩ : ∃ M, M = ALL.getD k [] := ⟨_, rfl⟩
      have htM : tok W T xs M = true := by rw [hM]; exact (HROW.out k hkr).2
      rw [← hM] at hx6 hm6
      obtain ⟨B, hB⟩ := htsR_exist W T xs M
      obtain ⟨Y, K, hy1, hy2, hy3, hy4, hy5, hy6⟩ := fold_step true (HS.out) HTL.out HHL.out htM hB
      obtain ⟨y, hy⟩ : ∃ y, y = Y.length := ⟨_, rfl⟩
      have hy1m : y ≤ 1048576 := by rw [hy, hy4, ← HN.out]; exact hn'
      have HYR : Hid (∀ i, i < k + 1 → ∀ C, HtsR W T xs (ALL.getD i []) C → ∀ j, j < K.length → C.getD j 0 ≤ K.getD j 0) := fun i hi C hC j hj => by
       rw [hy5] at hj
       have h6 := hy6 j hj
       simp only [Bool.false_eq_true, if_false, if_true] at h6
       rcases Nat.lt_or_ge i k with e | e
       · have := HBL.out i e C hC j hj
         omega
       · obtain rfl : i = k := by omega
         rw [← hM] at hC
         rw [htsR_unique hC hB]; omega
      have HX6 := Lib.hid hx6; clear hx6
      have HM6 := Lib.hid hm6; clear hm6
      have HB := Lib.hid hB; clear hB
      have HY1 := Lib.hid hy1; clear hy1
      have HY2 := Lib.hid hy2; clear hy2
      have HY3 := Lib.hid hy3; clear hy3
      have HY := Lib.hid hy; clear hy
      clear hy4 hy5 hy6 hM htM hkr
      have l6 := World.block_lt_of_cell? wo _ hc6
      simp only at l6
      go_upto_region 8 with fail
      go_cut [7] (fun v7 wx => ∃ a7 cap7, v7 = .slice a7 y cap7 ∧ OwnsI wx w.heap.size (.slice a7 y cap7) Y ∧ Below w2.heap.size w2 wx)
      case first =>
       have PD : wo.drew.heap[w.heap.size]? = some _ := p9
       have d6 : wo.drew.cell? ⟨b0, o0 + k, none⟩ = some (.slice a6 m6 cap6) := hc6
       go_region_held3 (fun w' => w'.cell? ⟨w.heap.size, 0, none⟩ = some (.int .i64 W) ∧ w'.cell? ⟨w.heap.size, 1, none⟩ = some (.int .i64 T) ∧ w'.cell? ⟨w.heap.size, 2, none⟩ = some (.slice a n cap) ∧ w'.cell? ⟨b0, o0 + k, none⟩ = some (.slice a6 m6 cap6))
        (go_keep)
        ((go_at_call 43; refine (sTilingHigh_ret _ _ _ _ _ xs _ _ _ L _ _ _ M H B _ HN.out hn' HML.out hm1 HM6.out hm61 (show BoolsAt wo.drew _ _ from A9.out) (show IntsAt wo.drew _ _ from OwnsI.at OL.out) (show IntsAt wo.drew _ _ from HX6.out) HHL.out HB.out).mono ?_; rintro e w10 ⟨a10, cap10, rfl, ho10, hb10⟩; rw [HY1.out] at ho10 ⊢; simp only at ho10 ⊢; rw [← HY.out] at ho10 ⊢; have p10 := heap_later PD hb10; have f6 := cell_later hb10 d6; have b10 : Below w2.heap.size w2 w10 := below_seq BO.out (below_seq (drew_below _) hb10); obtain ⟨c100, c101, c102⟩ := cells3 p10))
       all_goals
        go_wp2
        go_meet
        exact ⟨a10, cap10, rfl, ho10.lower (show w.heap.size ≤ wo.drew.heap.size from b9.size), b10⟩
      case rest =>
       rename World => w11
       obtain ⟨a7, cap7, rfl, ho7, b11⟩ := hcut
       have O7 := Lib.hid ho7; clear ho7
       go_wp2
       go_roundw
       case rel => exact ⟨k + 1, a7, y, cap7, Y, K, by omega, by omega, by go_num, rfl, HY.out, hy1m, HY2.out, HY3.out, HYR.out, O7.out, b11⟩
       case measure => simp [intOf]; omega
    · obtain rfl : k = z := by omega
      have hEdge : EdgeR true W T xs L H := ⟨HS.out, HTL.out, HHL.out, fun M B hM hB j hj => by
       obtain ⟨i, hi, e⟩ := HMEM.out M hM
       rw [← e] at hB
       have := HBL.out i (by rw [HZ.out]; exact hi) B hB j hj
       simpa using this⟩
      obtain ⟨rfl, rfl⟩ : L = X ∧ ok = true := by
       rcases HE.out with ⟨e1, H', h'⟩ | ⟨e1, e2, h'⟩
       · exact ⟨(edge_unique hEdge h').1, e1⟩
       · exfalso
         rcases h' with h' | h'
         · have := HS.out; rw [h'] at this; cases this
         · have := h' L; rw [HTL.out] at this; cases this
      clear hEdge
      go_wp2
      go_ret2
      exact ⟨la, lcap, by rw [← HML.out]; rfl, by rw [← HML.out]; exact OL.out, b9⟩

end Go.Proofs.YthpifnjoiklgnaaGreat

namespace Go.Proofs.YthpifnjoiklgnaaGreat
open Go.RowKit
set_option linter.unusedVariables false
set_option maxRecDepth 100000
set_option linter.unusedSimpArgs false

set_option maxHeartbeats 1000000 in
theorem sameInts_any (a b : Option Addr) (n cap cap' : Nat) (xs ys : List Int) (w : World) (hn : n = xs.length) (hm : n = ys.length) (hn' : n ≤ 1048576) (ha : IntsAt w a xs) (hb : IntsAt w b ys) :
 Calls Tryz.prog 8 #[.slice a n cap, .slice b n cap'] w fun e w' => e = .returned (.bool (decide (xs = ys))) ∧ Below w.heap.size w w' := by
 have HN := Lib.hid hn; clear hn
 have HM := Lib.hid hm; clear hm
 have HA := Lib.hid ha; clear ha
 have HB := Lib.hid hb; clear hb
 obtain ⟨d, hd⟩ : ∃ d, decide (xs = ys) = d := ⟨_, rfl⟩
 rw [hd]
 have HD := Lib.hid hd; clear hd
 go_enter Tryz.func8, Tryz.ntmps8
 go_wp2
 go_loopw [5] (fun i wr => ∃ k : Nat, k ≤ n ∧ i = .int .i64 k ∧ (∀ j, j < k → xs.getD j 0 = ys.getD j 0) ∧ ∃ q, wr = w.drewN q) (fun i _ => n - (intOf i).toNat)
 case atStart => exact ⟨0, Nat.zero_le _, rfl, fun j h => absurd h (Nat.not_lt_zero j), 0, rfl⟩
 case round =>
  obtain ⟨k, hk, rfl, hall, q, rfl⟩ := hrel
  have HALL := Lib.hid hall; clear hall
  by_cases hlt : k < n
  · obtain ⟨b1, o1, rfl, hc1⟩ := HA.out k (by rw [← HN.out]; exact hlt)
    obtain ⟨b2, o2, rfl, hc2⟩ := HB.out k (by rw [← HM.out]; exact hlt)
    obtain ⟨x, hx⟩ : ∃ x, x = xs.getD k 0 := ⟨_, rfl⟩
    obtain ⟨y, hy⟩ : ∃ y, y = ys.getD k 0 := ⟨_, rfl⟩
    rw [← hx] at hc1
    rw [← hy] at hc2
    have e1 : (k : Int) < n := by omega
    have e0 : (0 : Int) ≤ k := by omega
    cases hxy : (x != y)
    · have HS : Hid (∀ j, j < k + 1 → xs.getD j 0 = ys.getD j 0) := fun j hj => by
       by_cases e : j = k
       · rw [e, ← hx, ← hy]; simpa using hxy
       · exact HALL.out j (by omega)
      clear hx hy
      go_wp2
      go_big_quiet (fail)
      go_wp2
      go_roundw
      case rel => exact ⟨k + 1, by omega, by go_num, HS.out, _, rfl⟩
      case measure => simp [intOf]; omega
    · have HF : Hid (d = false) := by
       show d = false
       rw [← HD.out]
       simp only [decide_eq_false_iff_not]
       intro e
       rw [e] at hx
       rw [hx, hy] at hxy
       simp at hxy
      clear hx hy
      go_wp2
      go_big_quiet (fail)
      go_wp2
      go_ret
      exact ⟨ret_bool HF.out.symm, below_seq (drewN_below _ _) (drewN_below _ _)⟩
  · obtain rfl : k = n := by omega
    have HT : Hid (d = true) := by
     show d = true
     rw [← HD.out]
     simp only [decide_eq_true_eq]
     exact ext_getD (by rw [← HN.out, ← HM.out]) fun j hj => HALL.out j (by rw [HN.out]; exact hj)
    go_wp2
    go_ret
    exact ⟨ret_bool HT.out.symm, drewN_below _ _⟩

end Go.Proofs.YthpifnjoiklgnaaGreat

namespace Go.Proofs.YthpifnjoiklgnaaGreat
open Go.RowKit
set_option linter.unusedVariables false
set_option maxRecDepth 100000
set_option linter.unusedSimpArgs false

set_option maxHeartbeats 8000000 in
theorem promHighest_walk (cb : Option Addr) (n cap : Nat) (zs : List Int) (w : World) (hn : n = zs.length) (hn' : n ≤ maxLen) (hcap : n ≤ cap) (hb : BytesAt w cb zs) :
 Calls Tryz.prog 4 #[.slice cb n cap] w fun e w' => e = .returned (.bool true) ∧ Below w.heap.size w w' := by
 have HN := Lib.hid hn; clear hn
 have HB := Lib.hid hb; clear hb
 by_cases hbig : 1048576 < n
 · unfold maxLen at hn'
   go_enter Tryz.func4, Tryz.ntmps4
   go_wp2
   go_ret
   exact ⟨rfl, Below.refl _ _⟩
 have hsm : n ≤ 1048576 := by omega
 clear hbig hn'
 go_enter Tryz.func4, Tryz.ntmps4
 go_wp2_with fail
 refine (drawHighest_any _ _ _ zs _ HN.out hsm hcap HB.out).mono ?_; rintro e w1 ⟨W0, T0, a, m, c, xs, rfl, hm, h36, hs, ho, b1⟩
 have HM := Lib.hid hm; clear hm
 have A1 := Lib.hid (OwnsB.at ho); clear ho
 obtain ⟨s0, s1, s2, s3⟩ := hs
 obtain ⟨X, ok, hE⟩ := lowRes_exist true W0 T0 xs
 have hxl := hE.len
 obtain ⟨x, hx⟩ : ∃ x, x = X.length := ⟨_, rfl⟩
 rw [← hx, ← HM.out] at hxl
 have HE := Lib.hid hE; clear hE
 have HX := Lib.hid hx; clear hx
 have hbb : (ok != ok) = false := by simp
 go_wp2_with fail
 refine (iHighest_ret _ _ _ _ _ xs X ok _ HM.out (by omega) HE.out (A1.out.one _)).mono ?_; rintro e w2 ⟨a2, cap2, rfl, ho2, hb2⟩
 rw [← HX.out] at ho2 ⊢
 have b2 := below_seq (below_seq b1 (below1 _ _)) hb2
 have pr2 := heap_later (heap_new w1 (.cells #[.int .i64 W0, .int .i64 T0, .slice a m c] 25)) hb2
 have A2 := Lib.hid ((A1.out.one (.cells #[.int .i64 W0, .int .i64 T0, .slice a m c] 25)).below hb2)
 have X2 := Lib.hid (OwnsI.at ho2)
 obtain ⟨cr20, cr21, cr22⟩ := cells3 pr2
 have lr2 := heap_lt pr2
 clear ho2
 go_wp2_with fail
 refine (sHighest_ret _ _ _ _ _ xs X ok _ HM.out (by omega) HE.out A2.out).mono ?_; rintro e w3 ⟨a3, cap3, rfl, ho3, hb3⟩
 rw [← HX.out] at ho3 ⊢
 have b3 := below_seq b2 hb3
 have pr3 := heap_later pr2 hb3
 have A3 := Lib.hid (A2.out.below hb3)
 have X3 := Lib.hid (X2.out.below hb3)
 have Y3 := Lib.hid (OwnsI.at ho3)
 clear cr20 cr21 cr22 lr2
 obtain ⟨cr30, cr31, cr32⟩ := cells3 pr3
 have lr3 := heap_lt pr3
 clear ho3
 go_wp2_with fail
 refine (sameInts_same _ _ _ _ _ X _ HX.out (by omega) X3.out Y3.out).mono ?_; rintro e w4 ⟨rfl, hb4⟩
 have b4 := below_seq b3 hb4
 have pr4 := heap_later pr3 hb4
 have A4 := Lib.hid (A3.out.below hb4)
 have X4 := Lib.hid (X3.out.below hb4)
 have Y4 := Lib.hid (Y3.out.below hb4)
 clear cr30 cr31 cr32 lr3
 obtain ⟨cr40, cr41, cr42⟩ := cells3 pr4
 have lr4 := heap_lt pr4
 rcases HE.out with ⟨rfl, H, hE⟩ | ⟨rfl, rfl, hno⟩
 · obtain ⟨hs, ht, hH, _⟩ := id hE
   have hrv := (lok_rv (tok_lok1 ht)).1
   have hD : tilT W0 T0 xs = (dpT W0 T0 xs : Int) := by unfold tilT; rw [if_pos hrv]
   have hD1 := dp_pos ht
   have hD2 := dpT_le (W := W0) (T := T0) (xs := xs) (by rw [← HM.out]; omega)
   have hrank := fun k hk => edge_rank true hE (k := k) hk
   obtain ⟨D, hDD⟩ : ∃ D, dpT W0 T0 xs = D := ⟨_, rfl⟩
   rw [hDD] at hD hD1 hD2 hrank
   have HRK := Lib.hid hrank; clear hrank
   have HD := Lib.hid hD; clear hD
   have HDD := Lib.hid hDD; clear hDD
   have HHE := Lib.hid hE; clear hE
   have HT := Lib.hid ht; clear ht
   have HH := Lib.hid hH; clear hH
   have HS := Lib.hid hs; clear hs hrv
   have hdiv : (D : Int).tdiv 20 = ((D / 20 : Nat) : Int) := by rw [Int.tdiv_eq_ediv_of_nonneg (by omega)]; rfl
   have hdiv2 : (D : Int) / 20 = ((D / 20 : Nat) : Int) := rfl
   obtain ⟨d20, hd20⟩ : ∃ d20, D / 20 = d20 := ⟨_, rfl⟩
   have hd20b : d20 ≤ D := by rw [← hd20]; exact Nat.div_le_self _ _
   rw [hd20] at hdiv hdiv2
   have hwd : IntKind.i64.wrap (d20 : Int) = d20 := IntWalk.i64_in _ (by omega)
   clear hd20
   go_wp2_with fail
   refine (iTilingsMany_any _ _ _ _ _ xs _ HM.out (by omega) A4.out).mono ?_; rintro e w5 ⟨rfl, hb5⟩
   rw [HD.out]
   have b5 := below_seq b4 hb5
   have pr5 := heap_later pr4 hb5
   have A5 := Lib.hid (A4.out.below hb5)
   have X5 := Lib.hid (X4.out.below hb5)
   clear cr40 cr41 cr42 lr4
   obtain ⟨cr50, cr51, cr52⟩ := cells3 pr5
   have lr5 := heap_lt pr5
   go_wp2
   go_loopw [9] (fun i wr => ∃ k : Nat, k ≤ 300000000000 ∧ i = .int .i64 k ∧ Below w5.heap.size w5 wr) (fun i _ => D - (intOf i).toNat)
   case atStart => exact ⟨0, Nat.zero_le _, rfl, Below.refl _ _⟩
   case round =>
    rename World => wo
    obtain ⟨k, hk, rfl, bo⟩ := hrel
    have b9 := below_seq b5 bo
    have pr9 := heap_later pr5 bo
    have A9 := Lib.hid (A5.out.below bo)
    have X9 := Lib.hid (X5.out.below bo)
    have BO := Lib.hid bo; clear bo cr50 cr51 cr52 lr5
    obtain ⟨cr90, cr91, cr92⟩ := cells3 pr9
    have lr9 := heap_lt pr9
    by_cases hlt : k < D
    · have e1 : (k : Int) < D := by omega
      have e0 : (0 : Int) ≤ k := by omega
      obtain ⟨C, B, hC1, hC2, hC3, hC4⟩ := HRK.out k hlt
      simp only [Bool.false_eq_true, if_false, if_true] at hC4
      obtain ⟨cn, hcn⟩ : ∃ cn, cn = C.length := ⟨_, rfl⟩
      rw [← hcn, ← HM.out] at hC3
      have hcn36 : cn ≤ 36 := by omega
      clear hC3
      have HC1 := Lib.hid hC1; clear hC1
      have HC2 := Lib.hid hC2; clear hC2
      have HC4 := Lib.hid hC4; clear hC4
      have HCN := Lib.hid hcn; clear hcn
      have hw1 : IntKind.i64.wrap ((k : Int) + 1) = (k : Int) + 1 := IntWalk.i64_in _ (by omega)
      have hw2 : IntKind.i64.wrap ((k : Int) + 1 + d20) = (k : Int) + 1 + d20 := IntWalk.i64_in _ (by omega)
      go_wp2_with fail
      refine (iTilingOf_ret _ _ _ _ _ xs (k : Int) _ HM.out (by omega) A9.out).mono ?_; rintro e w10 ⟨a10, cap10, rfl, ho10, hb10⟩
      rw [HC1.out] at ho10 ⊢
      simp only at ho10 ⊢
      rw [← HCN.out] at ho10 ⊢
      have b10 := below_seq b9 hb10
      have pr10 := heap_later pr9 hb10
      have A10 := Lib.hid (A9.out.below hb10)
      have X10 := Lib.hid (X9.out.below hb10)
      have C10 := Lib.hid (OwnsI.at ho10)
      clear cr90 cr91 cr92 lr9
      obtain ⟨cr100, cr101, cr102⟩ := cells3 pr10
      have lr10 := heap_lt pr10
      clear ho10
      go_wp2_with fail
      refine (iBelow_ret _ _ _ _ _ xs _ _ _ C _ _ _ X B H _ HM.out (by omega) HCN.out (by omega) HX.out (by omega) A10.out C10.out X10.out HC2.out HH.out).mono ?_; rintro e w11 ⟨rfl, hb11⟩
      rw [HC4.out]
      have b11 := below_seq b10 hb11
      have pr11 := heap_later pr10 hb11
      have A11 := Lib.hid (A10.out.below hb11)
      have X11 := Lib.hid (X10.out.below hb11)
      have C11 := Lib.hid (C10.out.below hb11)
      clear cr100 cr101 cr102 lr10
      obtain ⟨cr110, cr111, cr112⟩ := cells3 pr11
      have lr11 := heap_lt pr11
      have BO11 := Lib.hid (below_seq BO.out (below_seq hb10 hb11))
      go_wp2
      go_roundw
      case rel => exact ⟨k + 1 + d20, by omega, by go_num, BO11.out⟩
      case measure => simp [intOf]; omega
    · obtain ⟨X0, ok0, hE0⟩ := lowRes_exist false W0 T0 xs
      obtain ⟨rfl, H0, hE0'⟩ : ok0 = true ∧ ∃ H0, EdgeR false W0 T0 xs X0 H0 := by
       rcases hE0 with ⟨e, h⟩ | ⟨_, _, h⟩
       · exact ⟨e, h⟩
       · exfalso
         rcases h with h | h
         · rw [HS.out] at h; cases h
         · have := h X; rw [HT.out] at this; cases this
      have hone := edge_one HHE.out hE0'
      obtain ⟨x0, hx0⟩ : ∃ x0, x0 = X0.length := ⟨_, rfl⟩
      have hx0x : x0 = x := by rw [hx0, HX.out, (lok_rv (tok_lok1 hE0'.2.1)).2.1, (lok_rv (tok_lok1 HT.out)).2.1]
      rw [HDD.out] at hone
      obtain ⟨eq, hd1, hd2⟩ : ∃ eq, decide (X0 = X) = eq ∧ ((D : Int) == 1) = eq := by
       refine ⟨_, rfl, ?_⟩
       rw [Bool.eq_iff_iff, beq_iff_eq, decide_eq_true_eq, hone]
       constructor
       · intro h; omega
       · intro h; omega
      have hqq : (eq == eq) = true := by simp
      have HE0 := Lib.hid hE0; clear hE0
      have HX0 := Lib.hid hx0; clear hx0
      have HD1 := Lib.hid hd1; clear hd1
      obtain rfl := hx0x
      clear hone hE0'
      go_wp2_with fail
      refine (iLowest_ret _ _ _ _ _ xs X0 true _ HM.out (by omega) HE0.out A9.out).mono ?_; rintro e w10 ⟨a10, cap10, rfl, ho10, hb10⟩
      rw [← HX0.out] at ho10 ⊢
      have b10 := below_seq b9 hb10
      have pr10 := heap_later pr9 hb10
      have A10 := Lib.hid (A9.out.below hb10)
      have X10 := Lib.hid (X9.out.below hb10)
      have L10 := Lib.hid (OwnsI.at ho10)
      clear cr90 cr91 cr92 lr9
      obtain ⟨cr100, cr101, cr102⟩ := cells3 pr10
      have lr10 := heap_lt pr10
      clear ho10
      go_wp2_with fail
      refine (iTilingOk_any _ _ _ _ _ xs _ _ _ X _ HM.out (by omega) HX.out (by omega) A10.out X10.out).mono ?_; rintro e w11 ⟨rfl, hb11⟩
      rw [HT.out]
      have b11 := below_seq b10 hb11
      have pr11 := heap_later pr10 hb11
      have A11 := Lib.hid (A10.out.below hb11)
      have X11 := Lib.hid (X10.out.below hb11)
      have L11 := Lib.hid (L10.out.below hb11)
      clear cr100 cr101 cr102 lr10
      obtain ⟨cr110, cr111, cr112⟩ := cells3 pr11
      have lr11 := heap_lt pr11
      go_wp2_with fail
      refine (sameInts_any _ _ _ _ _ X0 X _ HX0.out HX.out (by omega) L11.out X11.out).mono ?_; rintro e w12 ⟨rfl, hb12⟩
      rw [HD1.out]
      have b12 := below_seq b11 hb12
      have pr12 := heap_later pr11 hb12
      have A12 := Lib.hid (A11.out.below hb12)
      have X12 := Lib.hid (X11.out.below hb12)
      have L12 := Lib.hid (L11.out.below hb12)
      clear cr110 cr111 cr112 lr11
      obtain ⟨cr120, cr121, cr122⟩ := cells3 pr12
      have lr12 := heap_lt pr12
      go_wp2
      go_ret
      exact ⟨rfl, b12⟩
 · have hx0 : x = 0 := HX.out
   subst hx0
   go_wp2_with fail
   refine (alive_any _).mono ?_; rintro e w5 ⟨rfl, hb5⟩
   go_wp2
   go_ret
   exact ⟨rfl, below_seq b4 hb5⟩

end Go.Proofs.YthpifnjoiklgnaaGreat
