/- Plain facts on laying and lifting one domino. -/
import Derived.Test.YtnpmnjmjbpfipaaTilingS
import Derived.Test.YtnpmnjmjbpfipaaCloneI
namespace Go.Proofs.Ytnpmnjmjbpfipaa
open Go.RowKit
set_option linter.unusedVariables false
set_option maxRecDepth 100000
set_option linter.unusedSimpArgs false

theorem step_ne {W T k way : Int} (hW : 1 ≤ W) (h : 0 ≤ stepI W T k way) (hk : 0 ≤ k) : stepI W T k way ≠ k := by
  unfold stepI at h ⊢
  split
  · omega
  · split
    · omega
    · split
      · omega
      · split <;> omega

/-- Whether a domino can be laid from a cell in a direction. -/
def canLay (W T : Int) (xs : List Bool) (L : List Int) (k way : Int) : Bool :=
  decide (0 ≤ cellB W T xs.length k way) && freeB xs L k.toNat && freeB xs L (cellB W T xs.length k way).toNat
/-- The list with it. -/
def laidL (W T : Int) (xs : List Bool) (L : List Int) (k way : Int) : List Int :=
  if canLay W T xs L k way then (L.set k.toNat way).set (cellB W T xs.length k way).toNat (backI way) else L
def layF (W T : Int) (xs : List Bool) (L : List Int) (k way : Int) : List Int × Bool :=
  if lok W T xs L then (laidL W T xs L k way, canLay W T xs L k way) else ([], false)
theorem laidL_len (W T : Int) (xs : List Bool) (L : List Int) (k way : Int) : (laidL W T xs L k way).length = L.length := by
  unfold laidL; split <;> simp
theorem layF_len (W T : Int) (xs : List Bool) (L : List Int) (k way : Int) : (layF W T xs L k way).1.length ≤ L.length := by
  unfold layF; split
  · rw [laidL_len]; exact Nat.le_refl _
  · simp
theorem cellB_bd {W T : Int} {n : Nat} {k way : Int} (hW : 1 ≤ W) (hn : (n : Int) = W * T) (h : 0 ≤ cellB W T n k way) :
    0 ≤ k ∧ k < n ∧ cellB W T n k way < n ∧ cellB W T n k way ≠ k ∧ okOf way = true := by
  unfold cellB at h ⊢
  split at h
  · rename_i hk
    have hb := step_bd (W := W) (T := T) (k := k) (way := way) hW hk.1 (by rw [← hn]; exact hk.2)
    rw [if_pos hk]
    refine ⟨hk.1, hk.2, ?_, step_ne hW h hk.1, stepI_edge (W := W) (T := T) (k := k) (by omega)⟩
    rcases hb with hb | hb <;> omega
  · omega
theorem canLay_neg {W T : Int} {xs : List Bool} {L : List Int} {k way : Int} (h : cellB W T xs.length k way < 0) : canLay W T xs L k way = false := by
  unfold canLay; rw [show decide (0 ≤ cellB W T xs.length k way) = false by simpa using h]; rfl
theorem canLay_f1 {W T : Int} {xs : List Bool} {L : List Int} {k way : Int} (h : freeB xs L k.toNat = false) : canLay W T xs L k way = false := by
  unfold canLay; rw [h]; simp
theorem canLay_f2 {W T : Int} {xs : List Bool} {L : List Int} {k way : Int} (h : freeB xs L (cellB W T xs.length k way).toNat = false) : canLay W T xs L k way = false := by
  unfold canLay; rw [h]; simp
theorem canLay_yes {W T : Int} {xs : List Bool} {L : List Int} {k way : Int} (h0 : 0 ≤ cellB W T xs.length k way) (h1 : freeB xs L k.toNat = true) (h2 : freeB xs L (cellB W T xs.length k way).toNat = true) : canLay W T xs L k way = true := by
  unfold canLay; rw [h1, h2]; simpa using h0

/-- Whether there is a domino to be lifted. -/
def canLift (L : List Int) (k : Int) : Bool := decide (0 ≤ k ∧ k < L.length) && (L.getD k.toNat 0 != 0)
def liftL (W T : Int) (L : List Int) (k : Int) : List Int :=
  if canLift L k then (L.set (stepI W T k (L.getD k.toNat 0)).toNat 0).set k.toNat 0 else L
def liftF (W T : Int) (xs : List Bool) (L : List Int) (k : Int) : List Int × Bool :=
  if lok W T xs L then (liftL W T L k, canLift L k) else ([], false)
theorem liftL_len (W T : Int) (L : List Int) (k : Int) : (liftL W T L k).length = L.length := by
  unfold liftL; split <;> simp
theorem liftF_len (W T : Int) (xs : List Bool) (L : List Int) (k : Int) : (liftF W T xs L k).1.length ≤ L.length := by
  unfold liftF; split
  · rw [liftL_len]; exact Nat.le_refl _
  · simp

theorem grown_of_below {w w' : World} (h : Below w.heap.size w w') (row : Option Nat) : w.grownBy w' row :=
  ⟨h.os, h.tape, h.output, h.size, fun k hk _ => h.block k hk⟩
theorem grown_seq {a b c : World} {row : Option Nat} (h : a.grownBy b row) (k : b.grownBy c row) : a.grownBy c row :=
  ⟨k.os.trans h.os, k.tape.trans h.tape, k.output.trans h.output, Nat.le_trans h.size k.size, fun i hi hr => (k.block i (Nat.lt_of_lt_of_le hi h.size) hr).trans (h.block i hi hr)⟩
theorem OwnsI.set {w : World} {B g n cap : Nat} {L : List Int} (h : OwnsI w B (.slice (some ⟨g, 0, none⟩) n cap) L) (k : Nat) (v : Int) :
    OwnsI (w.setCell ⟨g, k, none⟩ (.int .i64 v)) B (.slice (some ⟨g, 0, none⟩) n cap) (L.set k v) ∧ w.grownBy (w.setCell ⟨g, k, none⟩ (.int .i64 v)) (some g) := by
  have hl : n = L.length := by
    rcases h.2 with ⟨h1, h2⟩ | ⟨g', cap', cur, hv, _⟩
    · simp at h1
    · simp only [Value.slice.injEq] at hv; exact hv.2.1
  subst hl
  have := World.ownsRow.stored h k (.int .i64 v)
  rw [← List.map_set] at this
  exact ⟨OwnsI.ofRow this.1 rfl (by simp), this.2⟩
theorem OwnsI.cell {w : World} {B g n cap : Nat} {L : List Int} (h : OwnsI w B (.slice (some ⟨g, 0, none⟩) n cap) L) {k : Nat} (hk : k < L.length) : w.cell? ⟨g, k, none⟩ = some (.int .i64 (L.getD k 0)) := by
  have := IntsAt.cellAt (OwnsI.at h) hk
  rw [Nat.zero_add] at this; exact this
theorem OwnsI.free {w : World} {B g n cap : Nat} {L : List Int} (h : OwnsI w B (.slice (some ⟨g, 0, none⟩) n cap) L) (k : Nat) : w.frozen? ⟨g, k, none⟩ = false := by
  rcases h.2 with ⟨h1, h2⟩ | ⟨g', cap', cur, hv, hg, hh, _⟩
  · simp at h1
  · simp only [Value.slice.injEq, Option.some.injEq, Addr.mk.injEq] at hv
    obtain ⟨⟨rfl, _⟩, _⟩ := hv
    exact free3 hh k
theorem OwnsI.lt {w : World} {B g n cap : Nat} {L : List Int} (h : OwnsI w B (.slice (some ⟨g, 0, none⟩) n cap) L) : B ≤ g ∧ g < w.heap.size := World.ownsRow.lt h g rfl
theorem keep_store {w : World} {b g on kn : Nat} {x0 x1 x2 x3 : Option Value} {u : Value} (hg : g ≠ b) (hne : on ≠ kn) (h0 : w.cell? ⟨b, 0, none⟩ = x0) (h1 : w.cell? ⟨b, 1, none⟩ = x1) (h2 : w.cell? ⟨b, 2, none⟩ = x2) (h3 : w.cell? ⟨g, kn, none⟩ = x3) :
    (w.setCell ⟨g, on, none⟩ u).cell? ⟨b, 0, none⟩ = x0 ∧ (w.setCell ⟨g, on, none⟩ u).cell? ⟨b, 1, none⟩ = x1 ∧ (w.setCell ⟨g, on, none⟩ u).cell? ⟨b, 2, none⟩ = x2 ∧ (w.setCell ⟨g, on, none⟩ u).cell? ⟨g, kn, none⟩ = x3 := by
  have e1 : ∀ i : Nat, (⟨g, on, none⟩ : Addr) ≠ ⟨b, i, none⟩ := fun i e => by simp only [Addr.mk.injEq] at e; exact hg e.1
  have e2 : (⟨g, on, none⟩ : Addr) ≠ ⟨g, kn, none⟩ := fun e => by simp only [Addr.mk.injEq] at e; exact hne e.2.1
  exact ⟨(World.cell?_setCell_other _ _ _ _ (e1 0)).trans h0, (World.cell?_setCell_other _ _ _ _ (e1 1)).trans h1, (World.cell?_setCell_other _ _ _ _ (e1 2)).trans h2, (World.cell?_setCell_other _ _ _ _ e2).trans h3⟩
end Go.Proofs.Ytnpmnjmjbpfipaa
