/- Contract of spec.l20Seed: a seed is drawn. -/
import Derived.Test.YtbeedmggfclmjaaPick
import Derived.Test.YtbeedmggfclmjaaOwn
namespace Go.Proofs.Ytbeedmggfclmjaa
open Go.RowKit
set_option linter.unusedVariables false
set_option maxRecDepth 100000
set_option linter.unusedSimpArgs false

set_option maxHeartbeats 2000000 in
theorem l20Seed_any (rb P : Nat) (w : World) (hP : P ≤ 90000) (h : RD w rb P) :
    Calls Try.prog 15 #[.pointer (some ⟨rb, 0, none⟩)] w fun e w' => ∃ V : Int, e = .returned (.int .i64 V) ∧ (-2147483648 ≤ V ∧ V ≤ 4294967295) ∧ RD w' rb (P + 6) ∧ w.grownBy w' (some rb) := by
  go_enter Try.func15, Try.ntmps15
  go_wp2_with fail
  refine (pick_any rb P 256 _ (by omega) (by omega) (by omega) h).mono ?_; rintro e w1 ⟨x1, h1, rfl, r1, g1⟩
  go_wp2_with fail
  refine (pick_any rb (P + 1) 256 _ (by omega) (by omega) (by omega) r1).mono ?_; rintro e w2 ⟨x2, h2, rfl, r2, g2⟩
  go_wp2_with fail
  refine (pick_any rb (P + 1 + 1) 256 _ (by omega) (by omega) (by omega) r2).mono ?_; rintro e w3 ⟨x3, h3, rfl, r3, g3⟩
  go_wp2_with fail
  refine (pick_any rb (P + 1 + 1 + 1) 128 _ (by omega) (by omega) (by omega) r3).mono ?_; rintro e w4 ⟨x4, h4, rfl, r4, g4⟩
  go_wp2_with fail
  refine (pick_any rb (P + 1 + 1 + 1 + 1) 40 _ (by omega) (by omega) (by omega) r4).mono ?_; rintro e w5 ⟨x5, h5, rfl, r5, g5⟩
  go_wp2_with fail
  refine (pick_any rb (P + 1 + 1 + 1 + 1 + 1) 40 _ (by omega) (by omega) (by omega) r5).mono ?_; rintro e w6 ⟨x6, h6, rfl, r6, g6⟩
  have G := Lib.hid (grownBy_trans (grownBy_trans (grownBy_trans (grownBy_trans (grownBy_trans g1 g2) g3) g4) g5) g6)
  clear g1 g2 g3 g4 g5 g6
  go_wp2
  go_ret
  refine ⟨_, rfl, ?_, r6, G.out⟩
  omega
end Go.Proofs.Ytbeedmggfclmjaa
