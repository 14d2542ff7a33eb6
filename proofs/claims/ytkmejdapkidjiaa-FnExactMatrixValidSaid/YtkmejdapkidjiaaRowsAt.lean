/- Lists of lists that are read: where they lie, and equal ones. -/
import Derived.Test.YtkmejdapkidjiaaInts
namespace Go.Proofs.Ytkmejdapkidjiaa
open Go.RowKit
set_option linter.unusedVariables false
set_option maxRecDepth 100000
set_option linter.unusedSimpArgs false

/-- At a lie lists that read so. -/
def RowsAt (w : World) (a : Option Addr) (rows : List (List Int)) : Prop :=
  ∀ i, i < rows.length → ∃ b off a' cap, a = some ⟨b, off, none⟩ ∧ w.cell? ⟨b, off + i, none⟩ = some (.slice a' (rows.getD i []).length cap) ∧ IntsAt w a' (rows.getD i [])
theorem RowsAt.later {w w' : World} {B : Nat} {a : Option Addr} {rows : List (List Int)} (h : RowsAt w a rows) (hb : Below B w w') (hB : w.heap.size ≤ B) : RowsAt w' a rows := by
  intro i hi
  obtain ⟨b, off, a', cap, e, hc, hx⟩ := h i hi
  have hlt := World.block_lt_of_cell? w _ hc
  simp only at hlt
  exact ⟨b, off, a', cap, e, (hb.cell (p := ⟨b, off + i, none⟩) (by show b < B; omega)).trans hc, hx.later hb hB⟩
theorem RowsAt.below {w w' : World} {a : Option Addr} {rows : List (List Int)} (h : RowsAt w a rows) (hb : Below w.heap.size w w') : RowsAt w' a rows := h.later hb (Nat.le_refl _)
theorem RowsAt.one {w : World} {a : Option Addr} {rows : List (List Int)} (h : RowsAt w a rows) (o : Obj) : RowsAt (w.alloc o) a rows := h.below (below1 w o)
theorem RowsAt.empty (w : World) (a : Option Addr) : RowsAt w a [] := fun i hi => absurd hi (Nat.not_lt_zero i)
theorem RowsAt.cell {w : World} {a : Option Addr} {rows : List (List Int)} (h : RowsAt w a rows) {i : Nat} (hi : i < rows.length) {b off : Nat} (e : a = some ⟨b, off, none⟩) : ∃ a' cap, w.cell? ⟨b, off + i, none⟩ = some (.slice a' (rows.getD i []).length cap) ∧ IntsAt w a' (rows.getD i []) := by
  obtain ⟨b', off', a', cap, e', hc, hx⟩ := h i hi
  rw [e] at e'
  cases e'
  exact ⟨a', cap, hc, hx⟩

set_option maxHeartbeats 1000000 in
/-- Two lists of lists that read the same are told to be equal. -/
theorem eqIntSS_below (a b : Option Addr) (n cap cap' : Nat) (rows : List (List Int)) (w : World) (hn : n = rows.length) (hn' : n ≤ 1048576) (hr : ∀ i, i < rows.length → (rows.getD i []).length ≤ 1048576) (ha : RowsAt w a rows) (hb : RowsAt w b rows) :
    Calls Try.prog 11 #[.slice a n cap, .slice b n cap'] w fun e w' => e = .returned (.bool true) ∧ Below w.heap.size w w' := by
  have HN := Lib.hid hn; clear hn
  have HA := Lib.hid ha; clear ha
  have HB := Lib.hid hb; clear hb
  have HR := Lib.hid hr; clear hr
  go_enter Try.func11, Try.ntmps11
  go_wp2
  go_loopw [5] (fun i wr => ∃ k : Nat, k ≤ n ∧ i = .int .i64 k ∧ Below w.heap.size w wr) (fun i _ => n - (intOf i).toNat)
  case atStart => exact ⟨0, Nat.zero_le _, rfl, Below.refl _ _⟩
  case round =>
    rename World => wo
    obtain ⟨k, hk, rfl, bo⟩ := hrel
    have BO := Lib.hid bo; clear bo
    by_cases hlt : k < n
    · have hkr : k < rows.length := by rw [← HN.out]; exact hlt
      obtain ⟨b1, o1, a1, cap1, rfl, hc1, hx1⟩ := (HA.out.below BO.out) k hkr
      obtain ⟨b2, o2, a2, cap2, rfl, hc2, hx2⟩ := (HB.out.below BO.out) k hkr
      obtain ⟨M, hM⟩ : ∃ M, M = rows.getD k [] := ⟨_, rfl⟩
      have hml : M.length ≤ 1048576 := by rw [hM]; exact HR.out k hkr
      rw [← hM] at hc1 hc2 hx1 hx2
      clear hM hkr
      obtain ⟨m, hm⟩ : ∃ m, m = M.length := ⟨_, rfl⟩
      rw [← hm] at hc1 hc2 hml
      have HM := Lib.hid hm; clear hm
      have HX1 := Lib.hid hx1; clear hx1
      have HX2 := Lib.hid hx2; clear hx2
      have e1 : (k : Int) < n := by omega
      have e0 : (0 : Int) ≤ k := by omega
      have l1 := World.block_lt_of_cell? wo _ hc1
      have l2 := World.block_lt_of_cell? wo _ hc2
      simp only at l1 l2
      go_wp2_with fail
      have d1 : wo.drew.cell? ⟨b1, o1 + k, none⟩ = some (.slice a1 m cap1) := hc1
      have d2 : wo.drew.cell? ⟨b2, o2 + k, none⟩ = some (.slice a2 m cap2) := hc2
      go_region_held3 (fun w' => w'.cell? ⟨b1, o1 + k, none⟩ = some (.slice a1 m cap1) ∧ w'.cell? ⟨b2, o2 + k, none⟩ = some (.slice a2 m cap2))
        (go_keep)
        (first
          | (go_at_call 21; refine (eqIntS_below _ _ _ _ _ M _ HM.out hml (show IntsAt wo.drew _ _ from HX1.out) (show IntsAt wo.drew _ _ from HX2.out)).mono ?_; rintro e w2 ⟨rfl, hb2⟩; have f1 := cell_later hb2 d1; have f2 := cell_later hb2 d2))
      have B2 := Lib.hid (below_seq BO.out (below_seq (drew_below wo) hb2))
      go_wp2
      go_roundw
      case rel => exact ⟨k + 1, by omega, by go_num, B2.out⟩
      case measure => simp [intOf]; omega
    · go_wp2
      go_ret
      exact ⟨rfl, BO.out⟩

end Go.Proofs.Ytkmejdapkidjiaa
