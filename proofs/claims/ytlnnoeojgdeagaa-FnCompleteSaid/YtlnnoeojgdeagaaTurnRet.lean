/- The four contracts of turning and mirroring in one form: what is returned, whatever the region. -/
import Derived.Test.YtlnnoeojgdeagaaFlipS
import Derived.Test.YtlnnoeojgdeagaaBox
namespace Go.Proofs.Ytlnnoeojgdeagaa
open Go.RowKit
set_option linter.unusedVariables false
set_option maxRecDepth 100000

def turnF (W T : Int) (xs : List Bool) : Int × Int × List Bool := if rv W T xs then (T, W, turned W.toNat T.toNat xs) else (0, 0, [])
def flipF (W T : Int) (xs : List Bool) : Int × Int × List Bool := if rv W T xs then (W, T, flipped W.toNat T.toNat xs) else (0, 0, [])

theorem turnF_len (W T : Int) (xs : List Bool) : (turnF W T xs).2.2.length = if rv W T xs then xs.length else 0 := by
  unfold turnF
  by_cases h : rv W T xs = true
  · obtain ⟨v1, v2, v3, v4, v5, _⟩ := rv_true h
    rw [if_pos h, if_pos h]
    simp only [turned, tab_len]
    have e : ((W.toNat * T.toNat : Nat) : Int) = W * T := by rw [Int.natCast_mul, Int.toNat_of_nonneg (by omega), Int.toNat_of_nonneg (by omega)]
    omega
  · rw [Bool.not_eq_true] at h; rw [h]; simp
theorem flipF_len (W T : Int) (xs : List Bool) : (flipF W T xs).2.2.length = if rv W T xs then xs.length else 0 := by
  unfold flipF
  by_cases h : rv W T xs = true
  · obtain ⟨v1, v2, v3, v4, v5, _⟩ := rv_true h
    rw [if_pos h, if_pos h]
    simp only [flipped, tab_len]
    have e : ((W.toNat * T.toNat : Nat) : Int) = W * T := by rw [Int.natCast_mul, Int.toNat_of_nonneg (by omega), Int.toNat_of_nonneg (by omega)]
    omega
  · rw [Bool.not_eq_true] at h; rw [h]; simp

theorem rv_nat {W T : Int} {xs : List Bool} (h : rv W T xs = true) : ∃ (Wn Tn : Nat), W = Wn ∧ T = Tn ∧ xs.length = Wn * Tn := by
  obtain ⟨v1, v2, v3, v4, v5, _⟩ := rv_true h
  refine ⟨W.toNat, T.toNat, by omega, by omega, ?_⟩
  have e : ((W.toNat * T.toNat : Nat) : Int) = W * T := by rw [Int.natCast_mul, Int.toNat_of_nonneg (by omega), Int.toNat_of_nonneg (by omega)]
  omega

theorem iRegionTurn_ret (W T : Int) (a : Option Addr) (n cap : Nat) (xs : List Bool) (w : World) (hn : n = xs.length) (hn' : n ≤ 1048576) (ha : BoolsAt w a xs) :
    Calls Try.prog 43 #[.agg #[.int .i64 W, .int .i64 T, .slice a n cap]] w (RetReg w (turnF W T xs).1 (turnF W T xs).2.1 (turnF W T xs).2.2.length (turnF W T xs).2.2) := by
  by_cases h : rv W T xs = true
  · obtain ⟨Wn, Tn, rfl, rfl, hl⟩ := rv_nat h
    refine (iRegionTurn_yes Wn Tn a n cap xs w hn hn' ha h (hn.trans hl)).mono ?_
    rintro e w' ⟨g, rfl, ho, hb⟩
    rw [turnF_len]
    rw [if_pos h, ← hn]
    unfold turnF; rw [if_pos h]
    exact ⟨_, _, rfl, ho.lower (by omega), hb⟩
  · rw [Bool.not_eq_true] at h
    refine (iRegionTurn_no W T a n cap xs w hn hn' ha h).mono ?_
    rintro e w' ⟨rfl, hb⟩
    unfold turnF; rw [h]
    exact ⟨_, _, rfl, OwnsB.nil _ _, hb⟩

theorem iRegionFlip_ret (W T : Int) (a : Option Addr) (n cap : Nat) (xs : List Bool) (w : World) (hn : n = xs.length) (hn' : n ≤ 1048576) (ha : BoolsAt w a xs) :
    Calls Try.prog 52 #[.agg #[.int .i64 W, .int .i64 T, .slice a n cap]] w (RetReg w (flipF W T xs).1 (flipF W T xs).2.1 (flipF W T xs).2.2.length (flipF W T xs).2.2) := by
  by_cases h : rv W T xs = true
  · obtain ⟨Wn, Tn, rfl, rfl, hl⟩ := rv_nat h
    refine (iRegionFlip_yes Wn Tn a n cap xs w hn hn' ha h (hn.trans hl)).mono ?_
    rintro e w' ⟨g, rfl, ho, hb⟩
    rw [flipF_len]
    rw [if_pos h, ← hn]
    unfold flipF; rw [if_pos h]
    exact ⟨_, _, rfl, ho.lower (by omega), hb⟩
  · rw [Bool.not_eq_true] at h
    refine (iRegionFlip_no W T a n cap xs w hn hn' ha h).mono ?_
    rintro e w' ⟨rfl, hb⟩
    unfold flipF; rw [h]
    exact ⟨_, _, rfl, OwnsB.nil _ _, hb⟩

end Go.Proofs.Ytlnnoeojgdeagaa
