/- Plain facts on fields of two and of three rows; what is drawn for them. -/
import Derived.Test.YtppfiacellebkaaRows23
import Derived.Test.YtppfiacellebkaaDpC
import Derived.Test.YtppfiacellebkaaOpen1
import Derived.Test.YtppfiacellebkaaBox
namespace Go.Proofs.Ytppfiacellebkaa
open Go.RowKit
set_option linter.unusedVariables false
set_option maxRecDepth 100000
set_option linter.unusedSimpArgs false

theorem fib_cut : ∀ a b : Nat, fibN (a + 1) * fibN (b + 1) + fibN a * fibN b = fibN (a + b + 2)
  | 0, b => by
    have e : fibN (0 + b + 2) = fibN b + fibN (b + 1) := by rw [Nat.zero_add]; rfl
    rw [e]
    show 1 * fibN (b + 1) + 1 * fibN b = _
    omega
  | a + 1, b => by
    have ih := fib_cut a (b + 1)
    have e1 : fibN (a + 1 + 1) = fibN a + fibN (a + 1) := rfl
    have e2 : fibN (b + 1 + 1) = fibN b + fibN (b + 1) := rfl
    have e3 : a + (b + 1) + 2 = a + 1 + b + 2 := by omega
    rw [e3] at ih
    rw [← ih, e1, e2, Nat.add_mul, Nat.mul_add]
    omega

theorem dp_two : dpT 1 2 (List.replicate 2 true) = fibN 1 ∧ dpT 2 2 (List.replicate 4 true) = fibN 2 ∧ dpT 3 2 (List.replicate 6 true) = fibN 3 ∧ dpT 4 2 (List.replicate 8 true) = fibN 4 ∧ dpT 5 2 (List.replicate 10 true) = fibN 5 ∧ dpT 6 2 (List.replicate 12 true) = fibN 6 := by decide +kernel
theorem dp_three : dpT 1 3 (List.replicate 3 true) = 0 ∧ dpT 2 3 (List.replicate 6 true) = 3 ∧ dpT 3 3 (List.replicate 9 true) = 0 ∧ dpT 4 3 (List.replicate 12 true) = 11 ∧ dpT 5 3 (List.replicate 15 true) = 0 ∧ dpT 6 3 (List.replicate 18 true) = 41 := by decide +kernel

theorem til_two {c : Nat} (h1 : 1 ≤ c) (h6 : c ≤ 6) : boxB c 2 = true ∧ tilT c 2 (List.replicate (2 * c) true) = twoR c := by
  obtain ⟨a1, a2, a3, a4, a5, a6⟩ := dp_two
  have : c = 1 ∨ c = 2 ∨ c = 3 ∨ c = 4 ∨ c = 5 ∨ c = 6 := by omega
  rcases this with rfl | rfl | rfl | rfl | rfl | rfl
  all_goals refine ⟨by decide, ?_⟩
  · show (if rv 1 2 (List.replicate 2 true) then (dpT 1 2 (List.replicate 2 true) : Int) else -1) = _
    rw [a1]; decide +kernel
  · show (if rv 2 2 (List.replicate 4 true) then (dpT 2 2 (List.replicate 4 true) : Int) else -1) = _
    rw [a2]; decide +kernel
  · show (if rv 3 2 (List.replicate 6 true) then (dpT 3 2 (List.replicate 6 true) : Int) else -1) = _
    rw [a3]; decide +kernel
  · show (if rv 4 2 (List.replicate 8 true) then (dpT 4 2 (List.replicate 8 true) : Int) else -1) = _
    rw [a4]; decide +kernel
  · show (if rv 5 2 (List.replicate 10 true) then (dpT 5 2 (List.replicate 10 true) : Int) else -1) = _
    rw [a5]; decide +kernel
  · show (if rv 6 2 (List.replicate 12 true) then (dpT 6 2 (List.replicate 12 true) : Int) else -1) = _
    rw [a6]; decide +kernel
theorem til_three {c : Nat} (h1 : 1 ≤ c) (h6 : c ≤ 6) : boxB c 3 = true ∧ tilT c 3 (List.replicate (3 * c) true) = threeR c := by
  obtain ⟨a1, a2, a3, a4, a5, a6⟩ := dp_three
  have : c = 1 ∨ c = 2 ∨ c = 3 ∨ c = 4 ∨ c = 5 ∨ c = 6 := by omega
  rcases this with rfl | rfl | rfl | rfl | rfl | rfl
  all_goals refine ⟨by decide, ?_⟩
  · show (if rv 1 3 (List.replicate 3 true) then (dpT 1 3 (List.replicate 3 true) : Int) else -1) = _
    rw [a1]; decide +kernel
  · show (if rv 2 3 (List.replicate 6 true) then (dpT 2 3 (List.replicate 6 true) : Int) else -1) = _
    rw [a2]; decide +kernel
  · show (if rv 3 3 (List.replicate 9 true) then (dpT 3 3 (List.replicate 9 true) : Int) else -1) = _
    rw [a3]; decide +kernel
  · show (if rv 4 3 (List.replicate 12 true) then (dpT 4 3 (List.replicate 12 true) : Int) else -1) = _
    rw [a4]; decide +kernel
  · show (if rv 5 3 (List.replicate 15 true) then (dpT 5 3 (List.replicate 15 true) : Int) else -1) = _
    rw [a5]; decide +kernel
  · show (if rv 6 3 (List.replicate 18 true) then (dpT 6 3 (List.replicate 18 true) : Int) else -1) = _
    rw [a6]; decide +kernel

theorem thrN_pos : ∀ n : Nat, 1 ≤ thrN n
  | 0 => by decide
  | n + 1 => by
    have h1 := thrN_pos n
    obtain ⟨_, h2, _⟩ := thrN_le n
    omega

set_option maxHeartbeats 1000000 in
theorem drawTwoRows_any (cb : Option Addr) (n cap : Nat) (zs : List Int) (w : World) (hn : n = zs.length) (hn' : n ≤ 1048576) (hcap : n ≤ cap) (hb : BytesAt w cb zs) :
    Calls Try.prog 5 #[.slice cb n cap] w fun e w' => ∃ x : Nat, x < 64 ∧ e = .returned (.int .i64 ((x : Int) - 2)) ∧ Below w.heap.size w w' := by
  have HN := Lib.hid hn; clear hn
  have HB := Lib.hid hb; clear hb
  go_enter Try.func5, Try.ntmps5
  go_wp2_with fail
  refine (l20Open_any1 _ _ _ zs _ HN.out hn' hcap HB.out).mono ?_; rintro e w1 ⟨rfl, r1, b1⟩
  go_wp2_with fail
  refine (pick_any w.heap.size 0 64 _ (by omega) (by omega) (by omega) r1).mono ?_; rintro e w2 ⟨x, hx, rfl, r2, g2⟩
  have hxi : (x : Int) < 64 := by omega
  go_wp2
  go_ret
  exact ⟨x, hx, rfl, below_grown b1 g2 (Nat.le_refl _) (by intro k hk; have := Option.some.inj hk; omega)⟩
set_option maxHeartbeats 1000000 in
theorem drawThreeRows_any (cb : Option Addr) (n cap : Nat) (zs : List Int) (w : World) (hn : n = zs.length) (hn' : n ≤ 1048576) (hcap : n ≤ cap) (hb : BytesAt w cb zs) :
    Calls Try.prog 11 #[.slice cb n cap] w fun e w' => ∃ x : Nat, x < 45 ∧ e = .returned (.int .i64 ((x : Int) - 2)) ∧ Below w.heap.size w w' := by
  have HN := Lib.hid hn; clear hn
  have HB := Lib.hid hb; clear hb
  go_enter Try.func11, Try.ntmps11
  go_wp2_with fail
  refine (l20Open_any1 _ _ _ zs _ HN.out hn' hcap HB.out).mono ?_; rintro e w1 ⟨rfl, r1, b1⟩
  go_wp2_with fail
  refine (pick_any w.heap.size 0 45 _ (by omega) (by omega) (by omega) r1).mono ?_; rintro e w2 ⟨x, hx, rfl, r2, g2⟩
  have hxi : (x : Int) < 64 := by omega
  go_wp2
  go_ret
  exact ⟨x, hx, rfl, below_grown b1 g2 (Nat.le_refl _) (by intro k hk; have := Option.some.inj hk; omega)⟩

end Go.Proofs.Ytppfiacellebkaa
