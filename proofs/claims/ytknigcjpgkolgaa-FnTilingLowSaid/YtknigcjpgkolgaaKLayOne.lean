/- Plain facts on laying and lifting one domino. Merged of: LayM, Lok, Lay, LayOne, LayOneS. -/
import Derived.Test.YtknigcjpgkolgaaKSetS
namespace Go.Proofs.Ytknigcjpgkolgaa
open Go.RowKit
set_option linter.unusedVariables false
set_option maxRecDepth 100000
set_option linter.unusedSimpArgs false

/-- A copy of a list that is not empty. -/
theorem clone_pos (la : Option Addr) (m lcap : Nat) (L : List Int) (w : World) (hm : m = L.length) (h0 : 0 < m) (hm' : m ≤ 1048576) (hl : IntsAt w la L) :
    Calls Try.prog 87 #[.slice la m lcap] w (RetL w m L) := by
  obtain ⟨i0, hi, hz0, hz1, hz2⟩ := info_parts infoInt
  obtain ⟨b, off, rfl, hc0⟩ := hl 0 (by omega)
  clear hc0
  have HM := Lib.hid hm; clear hm
  have HL := Lib.hid hl; clear hl
  have q := fun (w : World) (a : Option Addr) (n c n' c' : Nat) => Lib.run_eql_slice_nil (P := Try.prog) w _ _ a n c n' c' Try.underlying26
  go_enter Try.func87, Try.ntmps87
  go_wp2_with (at_builtin; refine wpList_append_own _ rfl _ _ 26 rfl w.heap.size 3 i0 (.int .i64 0) 1 8 Try.underlying26 hi hz0 hz1 hz2 rfl (by decide) _ _ _ rfl (World.ownsRow_made w #[] 0 (Nat.le_refl _) (Nat.zero_le _) rfl) ⟨b, off, none⟩ m lcap (L.map (Value.int .i64)) rfl (by rw [List.length_map, ← HM.out]; omega) (ints_news (HL.out.one _)) (ints_one L) (by unfold maxLen; omega) (by omega) (by simp) ?_; intro v' w1 hown hgrow hnil)
  go_ret
  rw [Nat.zero_add, List.nil_append] at hown
  obtain ⟨a', cap', hv⟩ : ∃ a' cap', v' = .slice a' m cap' := by
    rcases hown.2 with ⟨h1, h2⟩ | ⟨g, cap, cur, hv, _⟩
    · omega
    · exact ⟨_, cap, hv⟩
  subst hv
  refine ⟨a', cap', rfl, OwnsI.ofRow hown rfl HM.out.symm, ?_⟩
  exact below_grown (below1 _ _) hgrow (Nat.le_refl _) (fun k e => by have e' : some w.heap.size = some k := e; cases e'; exact Nat.le_refl _)

end Go.Proofs.Ytknigcjpgkolgaa

namespace Go.Proofs.Ytknigcjpgkolgaa
open Go.RowKit
set_option linter.unusedVariables false
set_option maxRecDepth 100000
set_option linter.unusedSimpArgs false

end Go.Proofs.Ytknigcjpgkolgaa

namespace Go.Proofs.Ytknigcjpgkolgaa
open Go.RowKit
set_option linter.unusedVariables false
set_option maxRecDepth 100000
set_option linter.unusedSimpArgs false

end Go.Proofs.Ytknigcjpgkolgaa

namespace Go.Proofs.Ytknigcjpgkolgaa
open Go.RowKit
set_option linter.unusedVariables false
set_option maxRecDepth 100000
set_option linter.unusedSimpArgs false

end Go.Proofs.Ytknigcjpgkolgaa

namespace Go.Proofs.Ytknigcjpgkolgaa
open Go.RowKit
set_option linter.unusedVariables false
set_option maxRecDepth 100000
set_option linter.unusedSimpArgs false

theorem clone_own (la : Option Addr) (m lcap : Nat) (L : List Int) (w : World) (hm : m = L.length) (h0 : 0 < m) (hm' : m ≤ 1048576) (hl : IntsAt w la L) :
    Calls Try.prog 87 #[.slice la m lcap] w fun e w' => ∃ g cap, e = .returned (.slice (some ⟨g, 0, none⟩) m cap) ∧ OwnsI w' w.heap.size (.slice (some ⟨g, 0, none⟩) m cap) L ∧ Below w.heap.size w w' := by
  refine (clone_pos la m lcap L w hm h0 hm' hl).mono fun e w' ⟨a, cap, h1, h2, h3⟩ => ?_
  rcases h2.forms with ⟨_, h5⟩ | ⟨g, cap', h4, _, _⟩
  · rw [h5] at hm; simp at hm; omega
  · simp only [Value.slice.injEq] at h4
    obtain ⟨rfl, _, rfl⟩ := h4
    exact ⟨g, cap, h1, h2, h3⟩

end Go.Proofs.Ytknigcjpgkolgaa

namespace Go.Proofs.Ytknigcjpgkolgaa
open Go.RowKit
set_option linter.unusedVariables false
set_option maxRecDepth 100000
set_option linter.unusedSimpArgs false

end Go.Proofs.Ytknigcjpgkolgaa
