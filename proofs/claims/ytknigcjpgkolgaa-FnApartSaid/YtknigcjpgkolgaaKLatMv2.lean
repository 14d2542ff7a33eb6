/- Plain facts: the lesser and the greater ones of two lists of right heights are right. -/
import Derived.Test.YtknigcjpgkolgaaKLatMv1
namespace Go.Proofs.Ytknigcjpgkolgaa
open Go.RowKit
set_option linter.unusedVariables false
set_option maxRecDepth 100000
set_option linter.unusedSimpArgs false

/-- A region and two lists were drawn of a code. -/
def DrawnRLL (w : World) (e : Ending) (w' : World) : Prop :=
  ∃ (W T : Int) (a : Option Addr) (n cap : Nat) (xs : List Bool) (la : Option Addr) (m lcap : Nat) (L : List Int) (lb : Option Addr) (q bcap : Nat) (M : List Int), e = .returned (.tuple #[.agg #[.int .i64 W, .int .i64 T, .slice a n cap], .slice la m lcap, .slice lb q bcap]) ∧
    n = xs.length ∧ n ≤ 36 ∧ (0 ≤ W ∧ W ≤ 6 ∧ 0 ≤ T ∧ T ≤ 6) ∧ OwnsB w' w.heap.size (.slice a n cap) xs ∧ m = L.length ∧ m ≤ 49 ∧ OwnsI w' w.heap.size (.slice la m lcap) L ∧ q = M.length ∧ q ≤ 49 ∧ OwnsI w' w.heap.size (.slice lb q bcap) M ∧ Below w.heap.size w w'
end Go.Proofs.Ytknigcjpgkolgaa

namespace Go.Proofs.Ytknigcjpgkolgaa
open Go.RowKit
set_option linter.unusedVariables false
set_option maxRecDepth 100000
set_option linter.unusedSimpArgs false

/-- The lesser, or the greater, of two heights; entry by entry. -/
def pickI (hi : Bool) (x y : Int) : Int := if hi then (if x < y then y else x) else (if y < x then y else x)
def bothL (hi : Bool) (A B : List Int) (k : Nat) : List Int := (List.range A.length).map fun i => if i < k then pickI hi (A.getD i 0) (B.getD i 0) else A.getD i 0
def bothF (hi : Bool) (W T : Int) (xs : List Bool) (A B : List Int) : List Int := if hokB W T xs A && hokB W T xs B then bothL hi A B A.length else []
theorem bothL_len (hi : Bool) (A B : List Int) (k : Nat) : (bothL hi A B k).length = A.length := by simp [bothL]
theorem bothF_len (hi : Bool) (W T : Int) (xs : List Bool) (A B : List Int) : (bothF hi W T xs A B).length ≤ A.length := by
  unfold bothF; split
  · rw [bothL_len]; exact Nat.le_refl _
  · simp
theorem bothL_zero (hi : Bool) (A B : List Int) : bothL hi A B 0 = A := by
  refine ext_getD (by simp [bothL]) fun k hk => ?_
  have hk' : k < A.length := by simpa [bothL] using hk
  simp [bothL, hk']
theorem bothL_get (hi : Bool) (A B : List Int) {k : Nat} (hk : k < A.length) : (bothL hi A B k).getD k 0 = A.getD k 0 := by simp [bothL, hk]
theorem bothL_step (hi : Bool) (A B : List Int) {k : Nat} (hk : k < A.length) : (bothL hi A B k).set k (pickI hi (A.getD k 0) (B.getD k 0)) = bothL hi A B (k + 1) := by
  refine ext_getD (by simp [bothL]) fun j hj => ?_
  have hj' : j < A.length := by simpa [bothL] using hj
  rw [getD_set1]
  by_cases e : j = k
  · subst e
    rw [if_pos ⟨rfl, by rw [bothL_len]; exact hk⟩]
    simp [bothL, hk]
  · rw [if_neg (fun h => e h.1)]
    have e2 : (j < k + 1) = (j < k) := by rw [eq_iff_iff]; omega
    simp [bothL, hj', e2]
end Go.Proofs.Ytknigcjpgkolgaa

namespace Go.Proofs.Ytknigcjpgkolgaa
open Go.RowKit
set_option linter.unusedVariables false
set_option maxRecDepth 100000
set_option linter.unusedSimpArgs false

end Go.Proofs.Ytknigcjpgkolgaa

namespace Go.Proofs.Ytknigcjpgkolgaa
open Go.RowKit
set_option linter.unusedVariables false
set_option maxRecDepth 100000
set_option linter.unusedSimpArgs false

theorem pick_cases (hi : Bool) (x y : Int) : (pickI hi x y = x ∧ (if hi then y ≤ x else x ≤ y)) ∨ (pickI hi x y = y ∧ (if hi then x ≤ y else y ≤ x)) := by
  unfold pickI
  cases hi
  · simp only [Bool.false_eq_true, if_false]
    by_cases h : y < x
    · rw [if_pos h]; right; exact ⟨rfl, by omega⟩
    · rw [if_neg h]; left; exact ⟨rfl, by omega⟩
  · simp only [if_true]
    by_cases h : x < y
    · rw [if_pos h]; right; exact ⟨rfl, by omega⟩
    · rw [if_neg h]; left; exact ⟨rfl, by omega⟩
theorem both_get (hi : Bool) (A B : List Int) {k : Nat} (hk : k < A.length) : (bothL hi A B A.length).getD k 0 = pickI hi (A.getD k 0) (B.getD k 0) := by
  simp [bothL, hk]
/-- Of two lists of right heights, the lesser ones (the greater ones) at each corner are right. -/
theorem hok_both (hi : Bool) {W T : Int} {xs : List Bool} {A B : List Int} {N fk : Nat} (hA : HokP W T xs A N fk) (hB : HokP W T xs B N fk) : HokP W T xs (bothL hi A B A.length) N fk := by
  obtain ⟨v1, v2, v3, v4, v5, v6⟩ := rv_true (simpleB_rv hA.hs)
  have hN := hA.hN
  have hlA := hA.len
  have G : ∀ k, k < N → (bothL hi A B A.length).getD k 0 = pickI hi (A.getD k 0) (B.getD k 0) := fun k hk => both_get hi A B (by omega)
  refine ⟨hA.hs, hA.hN, hA.fst, by rw [bothL_len]; exact hA.len, ?_, ?_, ?_, ?_⟩
  · intro k hk ha
    rw [G k hk, hA.off k hk ha, hB.off k hk ha]
    rcases pick_cases hi 99 99 with ⟨e, _⟩ | ⟨e, _⟩ <;> exact e
  · intro k hk ha
    rw [G k hk]
    have a := hA.bd k hk ha
    have b := hB.bd k hk ha
    rcases pick_cases hi (A.getD k 0) (B.getD k 0) with ⟨e, _⟩ | ⟨e, _⟩ <;> rw [e]
    · exact a
    · exact b
  · intro k nth hk hu
    obtain ⟨t0, t1, t2⟩ := sTo_lt v1 hu
    have hk2 : (sTo W k nth).toNat < N := by omega
    rw [G k hk, G _ hk2]
    obtain ⟨hr, a⟩ := may_cases (hA.side k nth hk hu)
    obtain ⟨_, b⟩ := may_cases (hB.side k nth hk hu)
    have hat1 : hAt W T xs k = true := (hAt_iff v1).2 (Or.inl ⟨nth, hu⟩)
    have m := hok_mod hA hB k hat1
    have ha : A.getD (sTo W k nth).toNat 0 - A.getD k 0 = sRise W k nth ∨ A.getD (sTo W k nth).toNat 0 - A.getD k 0 = -3 * sRise W k nth := a.imp id And.right
    have hb : B.getD (sTo W k nth).toNat 0 - B.getD k 0 = sRise W k nth ∨ B.getD (sTo W k nth).toNat 0 - B.getD k 0 = -3 * sRise W k nth := b.imp id And.right
    have key : pickI hi (A.getD (sTo W k nth).toNat 0) (B.getD (sTo W k nth).toNat 0) - pickI hi (A.getD k 0) (B.getD k 0) = A.getD (sTo W k nth).toNat 0 - A.getD k 0 ∨ pickI hi (A.getD (sTo W k nth).toNat 0) (B.getD (sTo W k nth).toNat 0) - pickI hi (A.getD k 0) (B.getD k 0) = B.getD (sTo W k nth).toNat 0 - B.getD k 0 := by
      have e1 := pick_cases hi (A.getD k 0) (B.getD k 0)
      have e2 := pick_cases hi (A.getD (sTo W k nth).toNat 0) (B.getD (sTo W k nth).toNat 0)
      generalize pickI hi (A.getD k 0) (B.getD k 0) = u at *
      generalize pickI hi (A.getD (sTo W k nth).toNat 0) (B.getD (sTo W k nth).toNat 0) = u' at *
      generalize A.getD (sTo W k nth).toNat 0 = a' at *
      generalize B.getD (sTo W k nth).toNat 0 = b' at *
      generalize A.getD k 0 = a0 at *
      generalize B.getD k 0 = b0 at *
      generalize sRise W k nth = r at *
      clear a b hat1 hk2 t0 t1 t2 hk hu G v1 v2 v3 v4 v5 v6 hN hlA hA hB
      cases hi <;> simp only [Bool.false_eq_true, if_false, if_true] at e1 e2 <;> omega
    refine may_of ?_
    rcases key with e | e <;> rw [e]
    · exact a
    · exact b
  · have hfk : fk < N := (first_hAt v1 hA.fst).1
    rw [G fk hfk, hA.first, hB.first]
    rcases pick_cases hi 0 0 with ⟨e, _⟩ | ⟨e, _⟩ <;> exact e
theorem both_hok (hi : Bool) {W T : Int} {xs : List Bool} {A B : List Int} (hA : hokB W T xs A = true) (hB : hokB W T xs B = true) : hokB W T xs (bothL hi A B A.length) = true := by
  have hs : simpleB W T xs = true := by unfold hokB at hA; simp only [Bool.and_eq_true] at hA; exact hA.1.1.1.1
  obtain ⟨N, fk, hN, hf⟩ := hokP_size hs
  exact hok_of (hok_both hi (hok_to hN hf hA) (hok_to hN hf hB))
end Go.Proofs.Ytknigcjpgkolgaa
