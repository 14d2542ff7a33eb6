/- Contracts of impl.barOk, impl.coloursOf and of both functions ColourMany. No statement is proved here. -/
import Derived.Test.YthjocjiiihebbaaDark
import Derived.Test.YthjocjiiihebbaaInts
namespace Go.Proofs.Ythjocjiiihebbaa
open Go.RowKit
set_option linter.unusedVariables false
set_option maxRecDepth 100000
set_option linter.unusedSimpArgs false

/-- Whether the k-th cell has a colour, in a field that is W cells wide. -/
def clAt (W r s : Int) (k : Nat) : Bool := ((k : Int) % W + (k : Int) / W) % r == s
def colN (W : Int) (xs : List Bool) (r s : Int) (k : Nat) : Nat := (List.range k).countP fun i => xs.getD i false && clAt W r s i
theorem colN_succ (W : Int) (xs : List Bool) (r s : Int) (k : Nat) : colN W xs r s (k + 1) = colN W xs r s k + if xs.getD k false && clAt W r s k then 1 else 0 := by
  unfold colN
  rw [List.range_succ, List.countP_append]
  simp [List.countP_cons]
theorem colN_le (W : Int) (xs : List Bool) (r s : Int) (k : Nat) : colN W xs r s k ≤ k := by
  have := List.countP_le_length (p := fun i => xs.getD i false && clAt W r s i) (l := List.range k)
  rw [List.length_range] at this; exact this
def barB (r : Int) : Bool := decide (1 ≤ r) && decide (r ≤ 4)
def colOk (W T : Int) (xs : List Bool) (r s : Int) : Bool := rv W T xs && barB r && decide (0 ≤ s) && decide (s < r)
def colF (W T : Int) (xs : List Bool) (r s : Int) : Int := if colOk W T xs r s then colN W xs r s xs.length else -1

theorem l1In_same7 (n lo hi : Int) (w : World) {b : Bool} (h : inB n lo hi = b) :
    Calls Try.prog 42 #[.int .i64 n, .int .i64 lo, .int .i64 hi] w fun e w' => e = .returned (.bool b) ∧ w = w' :=
  (l1In_any n lo hi w).mono fun _ _ ⟨he, hw⟩ => ⟨by rw [he, h], hw⟩
theorem alloc_size1 (w : World) (o : Obj) : (w.alloc o).heap.size = w.heap.size + 1 := by simp

theorem RowI.lower {w : World} {B B' g N cap : Nat} {f : Nat → Int} (h : RowI w B g N cap f) (hB : B' ≤ B) : RowI w B' g N cap f :=
  ⟨h.1, h.2.elim Or.inl (fun ⟨g, cap, cur, hv, hg, r⟩ => Or.inr ⟨g, cap, cur, hv, Nat.le_trans hB hg, r⟩)⟩

end Go.Proofs.Ythjocjiiihebbaa
