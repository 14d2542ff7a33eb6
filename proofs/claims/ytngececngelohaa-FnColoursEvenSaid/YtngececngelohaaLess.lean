/- Contract of spec.l3Less: a region without some cells. -/
import Derived.Test.YtngececngelohaaSetS
import Derived.Test.YtngececngelohaaDpQ
namespace Go.Proofs.Ytngececngelohaa
open Go.RowKit
set_option linter.unusedVariables false
set_option maxRecDepth 100000
set_option linter.unusedSimpArgs false

def lessF (xs : List Bool) (L : List Nat) (i : Nat) : Bool := xs.getD i false && !L.contains i
def lessB (xs : List Bool) (L : List Nat) : List Bool := tab xs.length (lessF xs L)
theorem lessB_len (xs : List Bool) (L : List Nat) : (lessB xs L).length = xs.length := by simp [lessB, tab_len]
theorem lessB_get {xs : List Bool} (L : List Nat) {i : Nat} (h : i < xs.length) : (lessB xs L).getD i false = (xs.getD i false && !L.contains i) := by
  unfold lessB; rw [tab_getD _ h]; rfl
theorem lessF_step {xs : List Bool} {L : List Nat} {k : Nat} (hk : k < L.length) (i : Nat) : (if i = L.getD k 0 then false else lessF xs (L.take k) i) = lessF xs (L.take (k + 1)) i := by
  have hcon : ∀ (P : List Nat) (x : Nat), (P ++ [x]).contains i = (P.contains i || i == x) := by
    intro P x
    rw [Bool.eq_iff_iff]
    simp
  unfold lessF
  rw [List.take_succ_eq_append_getElem hk, hcon]
  have e : L.getD k 0 = L[k] := by rw [List.getD_eq_getElem?_getD, List.getElem?_eq_getElem hk, Option.getD_some]
  rw [e]
  by_cases h : i = L[k]
  · rw [if_pos h]
    have h3 : (i == L[k]) = true := by rw [h]; exact beq_self_eq_true _
    rw [h3, Bool.or_true]
    simp
  · rw [if_neg h]
    have h3 : (i == L[k]) = false := beq_eq_false_iff_ne.2 h
    rw [h3, Bool.or_false]

end Go.Proofs.Ytngececngelohaa
