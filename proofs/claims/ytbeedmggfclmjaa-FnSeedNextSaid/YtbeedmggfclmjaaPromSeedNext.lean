/- The law FnSeedNext: its walk. -/
import Derived.Test.YtbeedmggfclmjaaSeed
import Derived.Test.YtbeedmggfclmjaaDrawSeed
import Derived.Test.YtbeedmggfclmjaaOpen1
namespace Go.Proofs.Ytbeedmggfclmjaa
open Go.RowKit
set_option linter.unusedVariables false
set_option maxRecDepth 100000
set_option linter.unusedSimpArgs false

theorem drawSeedNext_any (cb : Option Addr) (n cap : Nat) (zs : List Int) (w : World) (hn : n = zs.length) (hn' : n ≤ 1048576) (hcap : n ≤ cap) (hb : BytesAt w cb zs) :
    Calls Try.prog 8 #[.slice cb n cap] w fun e w' => ∃ V : Int, e = .returned (.int .i64 V) ∧ (-2147483648 ≤ V ∧ V ≤ 4294967295) ∧ Below w.heap.size w w' := by
  have HN := Lib.hid hn; clear hn
  have HB := Lib.hid hb; clear hb
  go_enter Try.func8, Try.ntmps8
  go_wp2_with fail
  refine (l20Open_any1 _ _ _ zs _ HN.out hn' hcap HB.out).mono ?_; rintro e w1 ⟨rfl, r1, b1⟩
  go_wp2_with fail
  refine (l20Seed_any w.heap.size 0 _ (by omega) r1).mono ?_; rintro e w2 ⟨V, rfl, hV, r2, g2⟩
  have b2 := below_grown b1 g2 (Nat.le_refl _) (by intro k hk; have := Option.some.inj hk; omega)
  go_wp2
  go_ret
  exact ⟨V, rfl, hV, b2⟩

set_option maxHeartbeats 4000000 in
theorem promSeedNext_walk (cb : Option Addr) (n cap : Nat) (zs : List Int) (w : World) (hn : n = zs.length) (hn' : n ≤ maxLen) (hcap : n ≤ cap) (hb : BytesAt w cb zs) :
    Calls Try.prog 4 #[.slice cb n cap] w fun e w' => e = .returned (.bool true) ∧ Below w.heap.size w w' := by
  have HN := Lib.hid hn; clear hn
  have HB := Lib.hid hb; clear hb
  by_cases hbig : 1048576 < n
  · unfold maxLen at hn'
    go_enter Try.func4, Try.ntmps4
    go_wp2
    go_ret
    exact ⟨rfl, Below.refl _ _⟩
  have hsm : n ≤ 1048576 := by omega
  clear hbig hn'
  go_enter Try.func4, Try.ntmps4
  go_wp2_with fail
  refine (drawSeedNext_any _ _ _ zs _ HN.out hsm hcap HB.out).mono ?_; rintro e w1 ⟨V, rfl, ⟨hV0, hV1⟩, b1⟩
  by_cases h : V < 0 ∨ 2147483647 < V
  · have hv := seedF_out h
    have HV := Lib.hid hv; clear hv h
    go_wp2_with fail
    refine (iSeedNext_any _ _).mono ?_; rintro e w2 ⟨rfl, rfl⟩
    rw [HV.out]
    go_wp2_with fail
    refine (sSeedNext_any _ _).mono ?_; rintro e w3 ⟨rfl, rfl⟩
    rw [HV.out]
    go_wp2_with fail
    refine (alive_any1 _).mono ?_; rintro e w4 ⟨rfl, hb4⟩
    go_wp2
    go_ret
    exact ⟨rfl, below_seq b1 hb4⟩
  · have h0 : 0 ≤ V := by omega
    have h1 : V ≤ 2147483647 := by omega
    clear h
    obtain ⟨x, hx⟩ : ∃ x, x = seedF V := ⟨_, rfl⟩
    have hxe := (seedF_in h0 h1).1
    rw [← hx] at hxe
    have x0 : 0 ≤ x := by omega
    have x1 : x ≤ 2147483647 := by omega
    have hp : (x % 2 != V % 2) = true := by simp; omega
    have hp2 : (x % 2 == V % 2) = false := by simp; omega
    have HX := Lib.hid hx
    have H00 : Hid (seedF 0 = 12345) := by show _ = _; decide
    clear hx hxe
    go_wp2_with fail
    refine (iSeedNext_any _ _).mono ?_; rintro e w2 ⟨rfl, rfl⟩
    rw [← HX.out]
    go_wp2_with fail
    refine (sSeedNext_any _ _).mono ?_; rintro e w3 ⟨rfl, rfl⟩
    rw [← HX.out]
    go_wp2_with fail
    refine (iSeedNext_any _ _).mono ?_; rintro e w4 ⟨rfl, rfl⟩
    rw [H00.out]
    go_wp2
    go_ret
    exact ⟨rfl, b1⟩
end Go.Proofs.Ytbeedmggfclmjaa
