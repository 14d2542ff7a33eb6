/- Contracts of impl.leastHeights, impl.Highest, impl.Lowest. -/
import Derived.Test.YtpcajacekmidbaaGreatKGrtJ
namespace Go.Proofs.YtpcajacekmidbaaGreat
open Go.RowKit
set_option linter.unusedVariables false
set_option maxRecDepth 100000
set_option linter.unusedSimpArgs false

def negI (v : Int) : Int := if v = 99 then 99 else IntKind.i64.wrap (-v)
def negL (C : List Int) (k : Nat) : List Int := (List.range C.length).map fun i => if i < k then negI (C.getD i 0) else C.getD i 0
theorem negL_len (C : List Int) (k : Nat) : (negL C k).length = C.length := by simp [negL]
theorem negL_get {C : List Int} {k i : Nat} (hi : i < C.length) : (negL C k).getD i 0 = if i < k then negI (C.getD i 0) else C.getD i 0 := by simp [negL, hi]
theorem negL_zero (C : List Int) : negL C 0 = C := by
 refine ext_getD (negL_len _ _) fun k hk => ?_
 rw [negL_len] at hk
 rw [negL_get hk, if_neg (Nat.not_lt_zero _)]
theorem negL_set {C : List Int} {k : Nat} (hk : k < C.length) {v : Int} (hv : v = negI (C.getD k 0)) : (negL C k).set k v = negL C (k + 1) := by
 refine ext_getD (by simp [negL]) fun j hj => ?_
 have hj' : j < C.length := by simpa [negL] using hj
 rw [getD_set1, negL_get hj', negL_get hj']
 by_cases e : j = k
 · subst e
   rw [if_pos ⟨rfl, by rw [negL_len]; exact hk⟩, if_pos (by omega), hv]
 · rw [if_neg (fun h => e h.1)]
   by_cases h : j < k
   · rw [if_pos h, if_pos (by omega)]
   · rw [if_neg h, if_neg (by omega)]
theorem negL_skip {C : List Int} {k : Nat} (hk : k < C.length) (hv : C.getD k 0 = 99) : negL C k = negL C (k + 1) := by
 refine ext_getD (by rw [negL_len, negL_len]) fun j hj => ?_
 rw [negL_len] at hj
 rw [negL_get hj, negL_get hj]
 by_cases e : j = k
 · subst e
   rw [if_neg (by omega), if_pos (by omega), hv]; rfl
 · by_cases h : j < k
   · rw [if_pos h, if_pos (by omega)]
   · rw [if_neg h, if_neg (by omega)]
theorem neg_sgn {W T : Int} {xs : List Bool} {X H : List Int} {N : Nat} (h : HtsOf W T xs X H N) : negL (sgnL false W T xs H N) N = H := by
 refine ext_getD (by rw [negL_len, sgnL_len, h.len]) fun k hk => ?_
 rw [negL_len, sgnL_len] at hk
 rw [negL_get (by rw [sgnL_len]; exact hk), if_pos hk, sgnL_get hk]
 cases ha : hAt W T xs k
 · rw [if_neg (by simp), h.off k hk ha]; rfl
 · have hb := h.bd k hk ha
   simp only [if_true, Bool.false_eq_true, if_false]
   unfold negI
   rw [if_neg (by omega), IntWalk.i64_in _ (by omega)]; omega
set_option maxHeartbeats 4000000 in
theorem leastHeights_any (P : List Int → Prop) (W T : Int) (a : Option Addr) (n cap : Nat) (xs : List Bool) (N : Nat) (w : World) (hN49 : N ≤ 49) (ha : BoolsAt w a xs)
 (hP : ∀ w1 : World, BoolsAt w1 a xs → Calls Tryz.prog 43 #[.agg #[.int .i64 W, .int .i64 T, .slice a n cap], .func (.func 89) #[] #[]] w1 fun e w' => ∃ C : List Int, C.length = N ∧ P C ∧ RetL w1 N C e w') :
 Calls Tryz.prog 42 #[.agg #[.int .i64 W, .int .i64 T, .slice a n cap]] w fun e w' => ∃ C : List Int, C.length = N ∧ P C ∧ RetL w N (negL C N) e w' := by
 have HA := Lib.hid ha; clear ha
 obtain ⟨wA, hwA⟩ : ∃ wA, wA = w.alloc (.cells #[.int .i64 W, .int .i64 T, .slice a n cap] 25) := ⟨_, rfl⟩
 have pA : wA.heap[w.heap.size]? = some (.cells #[.int .i64 W, .int .i64 T, .slice a n cap] 25 (0, 0)) := by rw [hwA]; exact heap_new _ _
 have bA : Below w.heap.size w wA := by rw [hwA]; exact below1 _ _
 obtain ⟨c0, c1, c2⟩ := cells3 pA
 have HP := Lib.hid hP; clear hP
 go_enter Tryz.func42, Tryz.ntmps42
 go_wp2_with fail
 rw [← hwA]; clear hwA
 refine (HP.out _ (HA.out.below bA)).mono ?_; rintro e w1 ⟨C, hC, hPC, a1, cap1, rfl, ho1, hb1⟩
 have b1 := below_seq bA hb1
 have O1 := Lib.hid (ho1.lower (show w.heap.size ≤ wA.heap.size from bA.size)); clear ho1
 have HC := Lib.hid hC; clear hC
 have HPC := Lib.hid hPC; clear hPC
 clear c0 c1 c2 pA bA hb1
 by_cases hN0 : N = 0
 · subst hN0
   obtain rfl : C = [] := List.eq_nil_of_length_eq_zero HC.out
   go_wp2
   go_loopw [10] (fun i wr => i = .int .i64 0 ∧ wr = w1) (fun _ _ => 0)
   case atStart => exact ⟨rfl, rfl⟩
   case round =>
    obtain ⟨rfl, rfl⟩ := hrel
    go_wp2
    go_ret
    exact ⟨[], rfl, HPC.out, a1, cap1, rfl, O1.out, b1⟩
 rcases O1.out.forms with ⟨e0, e1⟩ | ⟨g, gc, hv, hg1, hg2⟩
 · exfalso; have := HC.out; rw [e1] at this; simp at this; omega
 rw [HC.out] at hv
 simp only [Value.slice.injEq] at hv
 obtain ⟨rfl, -, rfl⟩ := hv
 go_wp2
 go_loopw [10] (fun i wr => ∃ k : Nat, k ≤ N ∧ i = .int .i64 k ∧ OwnsI wr w.heap.size (.slice (some ⟨g, 0, none⟩) N cap1) (negL C k) ∧ Below w.heap.size w wr) (fun i _ => N - (intOf i).toNat)
 case atStart => exact ⟨0, Nat.zero_le _, rfl, by rw [negL_zero]; exact O1.out, b1⟩
 case round =>
  rename World => wo
  clear O1
  obtain ⟨k, hk, rfl, ho, bo⟩ := hrel
  have HO := Lib.hid ho; clear ho
  by_cases hlt : k < N
  · have f1 : (k : Int) < N := by omega
    have f0 : (0 : Int) ≤ k := by omega
    have hkC : k < C.length := by rw [HC.out]; exact hlt
    have hcx := HO.out.cell (k := k) (by rw [negL_len]; exact hkC)
    rw [negL_get hkC, if_neg (Nat.lt_irrefl k)] at hcx
    have hfx := HO.out.free k
    obtain ⟨v, hv⟩ : ∃ v, C.getD k 0 = v := ⟨_, rfl⟩
    rw [hv] at hcx
    by_cases h99 : v = 99
    · have HS := Lib.hid (negL_skip hkC (hv.trans h99))
      subst h99
      clear hv
      go_wp2
      go_roundw
      case rel => exact ⟨k + 1, by omega, by go_num, by rw [← HS.out]; exact HO.out, bo⟩
      case measure => simp [intOf]; omega
    · have h99b : (v != 99) = true := by simpa using h99
      obtain ⟨u, hu⟩ : ∃ u, IntKind.i64.wrap (-v) = u := ⟨_, rfl⟩
      have HS := Lib.hid (negL_set hkC (v := u) (by rw [hv]; unfold negI; rw [if_neg h99]; exact hu.symm))
      have s0 := HO.out.set k u
      have OF : Hid (OwnsI (wo.setCell ⟨g, k, none⟩ (.int .i64 u)) w.heap.size (.slice (some ⟨g, 0, none⟩) N cap1) (negL C (k + 1))) := by show OwnsI _ _ _ _; rw [← HS.out]; exact s0.1
      have BF := below_grown bo s0.2 (Nat.le_refl _) (fun q e => by have := Option.some.inj e; omega)
      clear hv h99 s0 HS
      go_wp2
      go_roundw
      case rel => exact ⟨k + 1, by omega, by go_num, OF.out, BF⟩
      case measure => simp [intOf]; omega
  · obtain rfl : k = N := by omega
    go_wp2
    go_ret
    exact ⟨C, HC.out, HPC.out, _, _, rfl, HO.out, bo⟩

set_option maxHeartbeats 4000000 in
theorem iLowest_ret (W T : Int) (a : Option Addr) (n cap : Nat) (xs : List Bool) (X : List Int) (ok : Bool) (w : World) (hn : n = xs.length) (hn' : n ≤ 1048576) (hE : LowRes false W T xs X ok) (ha : BoolsAt w a xs) :
 Calls Tryz.prog 15 #[.agg #[.int .i64 W, .int .i64 T, .slice a n cap]] w (RetLT w X.length X ok) := by
 have HN := Lib.hid hn; clear hn
 have HA := Lib.hid ha; clear ha
 obtain ⟨wA, hwA⟩ : ∃ wA, wA = w.alloc (.cells #[.int .i64 W, .int .i64 T, .slice a n cap] 25) := ⟨_, rfl⟩
 have pA : wA.heap[w.heap.size]? = some (.cells #[.int .i64 W, .int .i64 T, .slice a n cap] 25 (0, 0)) := by rw [hwA]; exact heap_new _ _
 have bA : Below w.heap.size w wA := by rw [hwA]; exact below1 _ _
 obtain ⟨c0, c1, c2⟩ := cells3 pA
 cases h1 : simpleB W T xs
 · obtain ⟨rfl, rfl⟩ : X = [] ∧ ok = false := by
    rcases hE with ⟨_, H, hs, _⟩ | ⟨e1, e2, _⟩
    · rw [h1] at hs; cases hs
    · exact ⟨e2, e1⟩
   have HS := Lib.hid h1; clear h1 hE
   go_enter Tryz.func15, Tryz.ntmps15
   go_wp2_with fail
   rw [← hwA]; clear hwA
   refine (iSimple_any _ _ _ _ _ xs _ HN.out hn' (HA.out.below bA)).mono ?_; rintro e w1 ⟨rfl, hb1⟩
   rw [HS.out]
   go_wp2
   go_ret2
   exact ⟨none, 0, rfl, OwnsI.nil _ _, below_seq bA hb1⟩
 obtain ⟨N, fk, hN, hf⟩ := hokP_size h1
 obtain ⟨v1, v2, v3, v4, v5, v6⟩ := rv_true (simpleB_rv h1)
 have hcb := corn_bd v1 v2 v3 v4
 have hN49 : N ≤ 49 := by omega
 -- the heights that are made, and what they tell
 have hC : ∃ P : List Int → Prop, (∀ w1 : World, BoolsAt w1 a xs → Calls Tryz.prog 42 #[.agg #[.int .i64 W, .int .i64 T, .slice a n cap]] w1 fun e w' => ∃ C : List Int, C.length = N ∧ P C ∧ RetL w1 N (negL C N) e w') ∧ ∀ C, C.length = N → P C → tbyF W T xs (negL C N) = (X, ok) := by
  rcases hE with ⟨rfl, H, hE⟩ | ⟨rfl, rfl, hno⟩
  · have hG := edge_gt hN hf hE
    obtain ⟨hs, ht, hH, _⟩ := hE
    have hHf : HtsOf W T xs X H N := by
     rcases hH with ⟨_, h⟩ | ⟨h, _⟩
     · rw [show ((W + 1) * (T + 1)).toNat = N by omega] at h; exact h
     · rw [hs, ht] at h; cases h
    refine ⟨fun C => C = sgnL false W T xs H N, fun w1 h => ?_, fun C _ e => ?_⟩
    · exact leastHeights_any _ W T a n cap xs N w1 hN49 h fun w2 h2 => (great_low W T a n cap xs N fk _ w2 HN.out hn' h2 h1 hN hG).mono fun e w' hr => ⟨_, sgnL_len _ _ _ _ _ _, rfl, hr⟩
    · rw [e, neg_sgn hHf]; exact (tby_of hs ht hH).2
  · have hno' : ∀ L, tok W T xs L = false := by
     rcases hno with h | h
     · rw [h1] at h; cases h
     · exact h
    refine ⟨fun _ => True, fun w1 h => ?_, fun C _ _ => tby_no (hok_none hno' _)⟩
    exact leastHeights_any _ W T a n cap xs N w1 hN49 h fun w2 h2 => (weak_low W T a n cap xs N fk w2 HN.out hn' h2 h1 hN hf).mono fun e w' ⟨C, hl, hr⟩ => ⟨C, hl, trivial, hr⟩
 obtain ⟨P, hP1, hP2⟩ := hC
 have HS := Lib.hid h1
 have HP1 := Lib.hid hP1; clear hP1
 have HP2 := Lib.hid hP2; clear hP2
 clear h1 hE hN hf v5 v6 hcb
 go_enter Tryz.func15, Tryz.ntmps15
 go_wp2_with fail
 rw [← hwA]; clear hwA
 refine (iSimple_any _ _ _ _ _ xs _ HN.out hn' (HA.out.below bA)).mono ?_; rintro e w1 ⟨rfl, hb1⟩
 rw [HS.out]
 have b1 := below_seq bA hb1
 have p1 := heap_later pA hb1
 clear c0 c1 c2
 obtain ⟨c0, c1, c2⟩ := cells3 p1
 go_wp2_with fail
 have PD : w1.drew.heap[w.heap.size]? = some _ := p1
 go_region_held3 (fun w' => w'.cell? ⟨w.heap.size, 0, none⟩ = some (.int .i64 W) ∧ w'.cell? ⟨w.heap.size, 1, none⟩ = some (.int .i64 T) ∧ w'.cell? ⟨w.heap.size, 2, none⟩ = some (.slice a n cap))
  (go_keep)
  (first
    | (go_at_call 41; refine (iTilingBy_ret _ _ _ _ _ xs _ _ _ (negL C N) _ HN.out hn' HCR.out (by omega) (A2.out) (OwnsI.at O2.out)).mono ?_; rintro e w3 ⟨a3, cap3, rfl, ho3, hb3⟩; rw [HT.out] at ho3 ⊢; simp only at ho3 ⊢; have p3 := heap_later p2 hb3; have b3 := below_seq b2 hb3; have O3 := Lib.hid (ho3.lower (show w.heap.size ≤ w2.heap.size from b2.size)); obtain ⟨d30, d31, d32⟩ := cells3 p3)
    | (go_at_call 42; refine (HP1.out _ (HA.out.below (below_seq b1 (drew_below _)))).mono ?_; rintro e w2 ⟨C, hCl, hPC, a2, cap2, rfl, ho2, hb2⟩; have HT := Lib.hid (HP2.out C hCl hPC); have HCR : Hid (N = ((negL C N)).length) := Lib.hid (by rw [negL_len, hCl]); clear hCl hPC; have p2 := heap_later PD hb2; have b2 : Below w.heap.size w w2 := below_seq b1 (below_seq (drew_below _) hb2); have A2 := Lib.hid (HA.out.below b2); have O2 := Lib.hid ho2; clear ho2; obtain ⟨d20, d21, d22⟩ := cells3 p2))
 all_goals
  go_wp2
  go_ret2
  exact ⟨a3, cap3, rfl, O3.out, b3⟩

end Go.Proofs.YtpcajacekmidbaaGreat
