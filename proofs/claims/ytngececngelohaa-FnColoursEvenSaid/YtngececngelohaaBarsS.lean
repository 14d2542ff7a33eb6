/- The contracts of spec.l7Bars and of both functions BarsMany. No statement is proved here. -/
import Derived.Test.YtngececngelohaaBarsB
namespace Go.Proofs.Ytngececngelohaa
open Go.RowKit
set_option linter.unusedVariables false
set_option maxRecDepth 100000
set_option linter.unusedSimpArgs false

/-- In how many ways bars cover a region. -/
def barsM (W T : Int) (xs : List Bool) (long : Int) : Int := if rv W T xs && barB long then (barsF W T long.toNat (cnt xs + 1) xs : Int) else -1

set_option maxHeartbeats 1000000 in
theorem iBarsMany_any (W T long : Int) (a : Option Addr) (n cap : Nat) (xs : List Bool) (w : World) (hn : n = xs.length) (hn' : n ≤ 1048576) (ha : BoolsAt w a xs) :
    Calls Try.prog 12 #[.agg #[.int .i64 W, .int .i64 T, .slice a n cap], .int .i64 long] w fun e w' => e = .returned (.int .i64 (barsM W T xs long)) ∧ Below w.heap.size w w' := by
  have HN := Lib.hid hn; clear hn
  have HA := Lib.hid ha; clear ha
  cases h : rv W T xs
  · have e : barsM W T xs long = -1 := by unfold barsM; rw [h]; rfl
    rw [e]
    have H := Lib.hid h; clear h e
    go_enter Try.func12, Try.ntmps12
    go_wp2_with fail
    refine (iRegionValid_any _ _ _ _ _ xs _ HN.out hn' (HA.out.one _)).mono ?_; rintro e w1 ⟨rfl, hb1⟩
    rw [H.out]
    go_wp2
    go_ret
    exact ⟨rfl, below_seq (below1 _ _) hb1⟩
  · obtain ⟨v1, v2, v3, v4, v5, v6⟩ := rv_true h
    have HV := Lib.hid v5; clear v5
    cases hb : barB long
    · have e : barsM W T xs long = -1 := by unfold barsM; rw [h, hb]; rfl
      rw [e]
      have H := Lib.hid h; clear h e
      have HB := Lib.hid hb; clear hb
      go_enter Try.func12, Try.ntmps12
      go_wp2_with fail
      refine (iRegionValid_any _ _ _ _ _ xs _ HN.out hn' (HA.out.one _)).mono ?_; rintro e w1 ⟨rfl, hb1⟩
      rw [H.out]
      go_wp2_with fail
      refine (barOk_any _ _).mono ?_; rintro e w2 ⟨rfl, rfl⟩
      rw [HB.out]
      go_wp2
      go_ret
      exact ⟨rfl, below_seq (below1 _ _) hb1⟩
    · have hr : 1 ≤ long ∧ long ≤ 4 := by simpa [barB] using hb
      obtain ⟨r1, r4⟩ := hr
      have e : barsM W T xs long = barsF W T long.toNat (cnt xs + 1) xs := by unfold barsM; rw [h, hb]; rfl
      rw [e]
      obtain ⟨N, rfl⟩ := Int.eq_ofNat_of_zero_le (show 0 ≤ long by omega)
      rw [Int.toNat_natCast]
      have H := Lib.hid h; clear h e
      have HB := Lib.hid hb; clear hb
      go_enter Try.func12, Try.ntmps12
      go_wp2_with fail
      refine (iRegionValid_any _ _ _ _ _ xs _ HN.out hn' (HA.out.one _)).mono ?_; rintro e w1 ⟨rfl, hb1⟩
      rw [H.out]
      have p1 := heap_later (heap_new w (.cells #[.int .i64 W, .int .i64 T, .slice a n cap] 30)) hb1
      have b1 := below_seq (below1 _ _) hb1
      clear hb1
      have l1 := heap_lt p1
      obtain ⟨c0, c1, c2⟩ := cells3 p1
      go_wp2_with fail
      refine (barOk_any _ _).mono ?_; rintro e w2 ⟨rfl, hw2⟩
      subst hw2
      rw [HB.out]
      go_wp2_with fail
      refine (barsIn_any W T N n v1 v2 v3 v4 (by rw [HN.out]; exact HV.out) (by omega) (by omega) (cnt xs + 1) xs HN.out v6 (Nat.lt_succ_self _) _ _ _ (HA.out.below b1)).mono ?_; rintro e w3 ⟨rfl, hb3⟩
      go_wp2
      go_ret
      exact ⟨rfl, below_seq b1 hb3⟩

/-- How long a list is. -/
def sliceLen : Value → Nat
  | .slice _ n _ => n
  | _ => 0
theorem own_nilB (w : World) {B : Nat} (hB : B ≤ w.heap.size) : OwnsI (w.alloc (.cells #[] 3 (0, 0))) B (.slice (some ⟨w.heap.size, 0, none⟩) 0 0) (castL []) :=
  World.ownsRow_made w #[] 0 hB (Nat.zero_le _) rfl
theorem lessB_new {xs : List Bool} {P : List Nat} {c : Nat} (hc : c < xs.length) (h : ∀ p ∈ P, p < c) : (lessB xs P).getD c false = xs.getD c false := by
  rw [lessB_get P hc]
  have : P.contains c = false := by rw [Bool.eq_false_iff]; intro h2; have := h c (List.contains_iff_mem.1 h2); omega
  rw [this]; simp

theorem barsJ_step {W T : Int} {long f : Nat} {xs : List Bool} {j : Nat} (h1 : 1 ≤ long) (hj : j < 2) : barsJ W T long f xs (j + 1) = barsJ W T long f xs j + if 1 < long ∨ j = 0 then barOne (barsF W T long f) xs (barL W T ((j : Int) + 1) xs long (xs.findIdx id) []) else 0 := by
  have : j = 0 ∨ j = 1 := by omega
  rcases this with rfl | rfl
  · rw [barsJ_one, barsJ_zero, if_pos (Or.inr rfl), Nat.zero_add]; rfl
  · by_cases h : long = 1
    · subst h
      rw [if_neg (by omega), Nat.add_zero]; exact barsJ_skip
    · rw [if_pos (Or.inl (by omega))]; exact barsJ_next h
theorem bar_up {W T way : Int} {k n : Nat} (hw : way = 1 ∨ way = 2) (hW : 1 ≤ W) (hWT : (n : Int) = W * T) (hk : k < n) : stepI W T k way = -1 ∨ (0 ≤ stepI W T k way ∧ stepI W T k way < n ∧ (k : Int) < stepI W T k way) := by
  rcases step_bd (W := W) (T := T) (k := (k : Int)) (way := way) hW (by omega) (by rw [← hWT]; omega) with h | ⟨h0, h1⟩
  · exact Or.inl h
  · right
    refine ⟨h0, by rw [hWT]; exact h1, ?_⟩
    rcases step_up hw hW h0 with ⟨_, h, _⟩ | ⟨_, h⟩ <;> omega

end Go.Proofs.Ytngececngelohaa
