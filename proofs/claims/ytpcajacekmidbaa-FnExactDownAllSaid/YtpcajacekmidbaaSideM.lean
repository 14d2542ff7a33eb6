/- Plain facts on the sides of cells, from a corner to the east or to the north, and on what heights are right. -/
import Derived.Test.YtpcajacekmidbaaCorner
import Derived.Test.YtpcajacekmidbaaStep
namespace Go.Proofs.Ytpcajacekmidbaa
open Go.RowKit
set_option linter.unusedVariables false
set_option maxRecDepth 100000
set_option linter.unusedSimpArgs false

/-- Column and row of a corner. -/
def kx (W : Int) (k : Nat) : Int := (k : Int) % (W + 1)
def ky (W : Int) (k : Nat) : Int := (k : Int) / (W + 1)
/-- Of the side from a corner to the east, or to the north: the column of the cell on its left, the row of the cell on its right, whether they belong to the region, its end. -/
def sLx (W : Int) (k : Nat) (nth : Bool) : Int := if nth then kx W k - 1 else kx W k
def sRy (W : Int) (k : Nat) (nth : Bool) : Int := if nth then ky W k else ky W k - 1
def sLeft (W T : Int) (xs : List Bool) (k : Nat) (nth : Bool) : Bool := atB W T xs (sLx W k nth) (ky W k)
def sRight (W T : Int) (xs : List Bool) (k : Nat) (nth : Bool) : Bool := atB W T xs (kx W k) (sRy W k nth)
def sTo (W : Int) (k : Nat) (nth : Bool) : Int := if nth then (k : Int) + W + 1 else (k : Int) + 1
def sUsed (W T : Int) (xs : List Bool) (k : Nat) (nth : Bool) : Bool := sLeft W T xs k nth || sRight W T xs k nth
def sBoth (W T : Int) (xs : List Bool) (k : Nat) (nth : Bool) : Bool := sLeft W T xs k nth && sRight W T xs k nth
def sDark (W : Int) (k : Nat) (nth : Bool) : Bool := decide ((sLx W k nth + ky W k + 2) % 2 = 0)
def sRise (W : Int) (k : Nat) (nth : Bool) : Int := if sDark W k nth then 1 else -1
def sCell (W : Int) (k : Nat) (nth : Bool) : Int := ky W k * W + sLx W k nth
def sOther (W : Int) (k : Nat) (nth : Bool) : Int := sRy W k nth * W + kx W k
def sWay (nth : Bool) : Int := if nth then 1 else 4

theorem kxy {W : Int} (hW : 1 ≤ W) (k : Nat) : 0 ≤ kx W k ∧ kx W k ≤ W ∧ 0 ≤ ky W k ∧ ky W k * (W + 1) + kx W k = k := by
  unfold kx ky
  have a := Int.emod_nonneg (k : Int) (show W + 1 ≠ 0 by omega)
  have b := Int.emod_lt_of_pos (k : Int) (show 0 < W + 1 by omega)
  have c := Int.ediv_nonneg (show 0 ≤ (k : Int) by omega) (show 0 ≤ W + 1 by omega)
  have d := Int.mul_ediv_add_emod (k : Int) (W + 1)
  rw [Int.mul_comm] at d
  omega
theorem ky_le {W T : Int} {k : Nat} (hW : 1 ≤ W) (hk : (k : Int) < (W + 1) * (T + 1)) : ky W k ≤ T := by
  unfold ky
  have : (k : Int) / (W + 1) < T + 1 := Int.ediv_lt_of_lt_mul (by omega) (by rw [Int.mul_comm]; exact hk)
  omega
theorem atB_in {W T : Int} {xs : List Bool} {x y : Int} (h : atB W T xs x y = true) : 0 ≤ x ∧ x < W ∧ 0 ≤ y ∧ y < T := by
  unfold atB at h
  rw [Bool.and_eq_true] at h
  simpa [inF] using h.1
theorem sUsed_in {W T : Int} {xs : List Bool} {k : Nat} {nth : Bool} (hW : 1 ≤ W) (h : sUsed W T xs k nth = true) : if nth then ky W k < T else (kx W k < W ∧ ky W k ≤ T) := by
  obtain ⟨a, b, c, d⟩ := kxy hW k
  unfold sUsed sLeft sRight sLx sRy at h
  rw [Bool.or_eq_true] at h
  cases nth
  · rcases h with h | h <;> have := atB_in h <;> simp at this ⊢ <;> omega
  · rcases h with h | h <;> have := atB_in h <;> simp at this ⊢ <;> omega
theorem sTo_lt {W T : Int} {xs : List Bool} {k : Nat} {nth : Bool} (hW : 1 ≤ W) (h : sUsed W T xs k nth = true) : 0 ≤ sTo W k nth ∧ (k : Int) < sTo W k nth ∧ sTo W k nth < (W + 1) * (T + 1) := by
  obtain ⟨a, b, c, d⟩ := kxy hW k
  have hu := sUsed_in hW h
  have e : (W + 1) * (T + 1) = T * (W + 1) + (W + 1) := by rw [Int.mul_add, Int.mul_comm (W + 1) T]; omega
  unfold sTo
  cases nth
  · simp at hu ⊢
    have : ky W k * (W + 1) ≤ T * (W + 1) := Int.mul_le_mul_of_nonneg_right hu.2 (by omega)
    omega
  · simp at hu ⊢
    have : (ky W k + 1) * (W + 1) ≤ T * (W + 1) := Int.mul_le_mul_of_nonneg_right (by omega) (by omega)
    rw [Int.add_mul] at this
    omega

/-- Whether a corner is one of a cell. -/
def hAt (W T : Int) (xs : List Bool) (k : Nat) : Bool :=
  atB W T xs (kx W k) (ky W k) || atB W T xs (kx W k - 1) (ky W k) || atB W T xs (kx W k) (ky W k - 1) || atB W T xs (kx W k - 1) (ky W k - 1)
/-- What height a corner may have. -/
def hMay (W T : Int) (xs : List Bool) (k : Nat) (v : Int) : Bool := if hAt W T xs k then inB v (-60) 60 else v == 99
def rMay (W T : Int) (xs : List Bool) (k : Nat) (nth : Bool) (d : Int) : Bool := d == sRise W k nth || (sBoth W T xs k nth && d == -3 * sRise W k nth)
def sdOk (W T : Int) (xs : List Bool) (H : List Int) (k : Nat) (nth : Bool) : Bool := !sUsed W T xs k nth || rMay W T xs k nth (H.getD (sTo W k nth).toNat 0 - H.getD k 0)
def sdsOk (W T : Int) (xs : List Bool) (H : List Int) (n : Nat) : Bool := (List.range n).all fun k => sdOk W T xs H k false && sdOk W T xs H k true
def hsMay (W T : Int) (xs : List Bool) (H : List Int) (n : Nat) : Bool := (List.range n).all fun k => hMay W T xs k (H.getD k 0)
/-- The first corner of a cell. -/
def frstK (W T : Int) (xs : List Bool) (n : Nat) : Int := (((List.range n).find? fun k => sUsed W T xs k false || sUsed W T xs k true).map fun k : Nat => (k : Int)).getD (-1)
theorem frstK_zero (W T : Int) (xs : List Bool) : frstK W T xs 0 = -1 := rfl
theorem frstK_succ (W T : Int) (xs : List Bool) (n : Nat) : frstK W T xs (n + 1) = if frstK W T xs n < 0 then (if (sUsed W T xs n false || sUsed W T xs n true) then (n : Int) else -1) else frstK W T xs n := by
  unfold frstK
  rw [List.range_succ, List.find?_append]
  cases h : (List.range n).find? fun k => sUsed W T xs k false || sUsed W T xs k true with
  | none =>
    simp only [Option.none_or, Option.map_none, Option.getD_none, List.find?_cons, List.find?_nil]
    rw [if_pos (by decide)]
    cases hu : (sUsed W T xs n false || sUsed W T xs n true) <;> simp
  | some j => simp; intro h0; omega
theorem frstK_lt (W T : Int) (xs : List Bool) (n : Nat) : -1 ≤ frstK W T xs n ∧ frstK W T xs n < n := by
  induction n with
  | zero => rw [frstK_zero]; omega
  | succ n ih =>
    rw [frstK_succ]
    split
    · split <;> omega
    · omega
/-- All used sides that begin below a corner, in order. -/
def sidesK (W T : Int) (xs : List Bool) (n : Nat) : List (Nat × Bool) := (List.range n).flatMap fun k => (if sUsed W T xs k false then [(k, false)] else []) ++ (if sUsed W T xs k true then [(k, true)] else [])
theorem sidesK_succ (W T : Int) (xs : List Bool) (n : Nat) : sidesK W T xs (n + 1) = sidesK W T xs n ++ ((if sUsed W T xs n false then [(n, false)] else []) ++ (if sUsed W T xs n true then [(n, true)] else [])) := by
  unfold sidesK
  rw [List.range_succ, List.flatMap_append]; simp
theorem sidesK_len (W T : Int) (xs : List Bool) (n : Nat) : (sidesK W T xs n).length ≤ 2 * n := by
  induction n with
  | zero => simp [sidesK]
  | succ n ih =>
    rw [sidesK_succ, List.length_append, List.length_append]
    have a : (if sUsed W T xs n false then [(n, false)] else [] : List (Nat × Bool)).length ≤ 1 := by split <;> simp
    have b : (if sUsed W T xs n true then [(n, true)] else [] : List (Nat × Bool)).length ≤ 1 := by split <;> simp
    omega
theorem sidesK_mem {W T : Int} {xs : List Bool} {n k : Nat} {nth : Bool} : (k, nth) ∈ sidesK W T xs n ↔ k < n ∧ sUsed W T xs k nth = true := by
  unfold sidesK
  rw [List.mem_flatMap]
  constructor
  · rintro ⟨j, hj, h⟩
    rw [List.mem_range] at hj
    rw [List.mem_append] at h
    rcases h with h | h
    · split at h
      · simp at h; obtain ⟨rfl, rfl⟩ := h; exact ⟨hj, by assumption⟩
      · cases h
    · split at h
      · simp at h; obtain ⟨rfl, rfl⟩ := h; exact ⟨hj, by assumption⟩
      · cases h
  · rintro ⟨h1, h2⟩
    refine ⟨k, List.mem_range.2 h1, ?_⟩
    cases nth
    · simp [h2]
    · simp [h2]
theorem sdsOk_iff {W T : Int} {xs : List Bool} {H : List Int} {n : Nat} : sdsOk W T xs H n = true ↔ ∀ s ∈ sidesK W T xs n, rMay W T xs s.1 s.2 (H.getD (sTo W s.1 s.2).toNat 0 - H.getD s.1 0) = true := by
  unfold sdsOk sdOk
  simp only [List.all_eq_true, List.mem_range, Bool.and_eq_true, Bool.or_eq_true, Bool.not_eq_true']
  constructor
  · rintro h ⟨k, nth⟩ hs
    obtain ⟨h1, h2⟩ := sidesK_mem.1 hs
    obtain ⟨a, b⟩ := h k h1
    cases nth
    · rcases a with a | a
      · rw [a] at h2; cases h2
      · exact a
    · rcases b with b | b
      · rw [b] at h2; cases h2
      · exact b
  · intro h k hk
    refine ⟨?_, ?_⟩
    · cases hu : sUsed W T xs k false
      · exact Or.inl rfl
      · exact Or.inr (h (k, false) (sidesK_mem.2 ⟨hk, hu⟩))
    · cases hu : sUsed W T xs k true
      · exact Or.inl rfl
      · exact Or.inr (h (k, true) (sidesK_mem.2 ⟨hk, hu⟩))
theorem sidesK_head {W T : Int} {xs : List Bool} {n : Nat} (h : 0 ≤ frstK W T xs n) : ∃ nth rest, sidesK W T xs n = ((frstK W T xs n).toNat, nth) :: rest := by
  induction n with
  | zero => rw [frstK_zero] at h; omega
  | succ n ih =>
    rw [frstK_succ] at h ⊢
    rw [sidesK_succ]
    by_cases hn : frstK W T xs n < 0
    · rw [if_pos hn] at h ⊢
      have hnil : sidesK W T xs n = [] := by
        cases hs : sidesK W T xs n with
        | nil => rfl
        | cons s rest =>
          obtain ⟨k, nth⟩ := s
          have hm : (k, nth) ∈ sidesK W T xs n := by rw [hs]; exact List.mem_cons_self
          obtain ⟨h1, h2⟩ := sidesK_mem.1 hm
          unfold frstK at hn
          cases hf : (List.range n).find? fun k => sUsed W T xs k false || sUsed W T xs k true with
          | none =>
            rw [List.find?_eq_none] at hf
            have := hf k (List.mem_range.2 h1)
            cases nth <;> simp [h2] at this
          | some j => rw [hf] at hn; simp at hn; omega
      rw [hnil]
      cases h0 : sUsed W T xs n false
      · cases h1 : sUsed W T xs n true
        · rw [h0, h1] at h; simp at h
        · exact ⟨true, [], by simp⟩
      · exact ⟨false, if sUsed W T xs n true then [(n, true)] else [], by simp⟩
    · rw [if_neg hn] at h ⊢
      obtain ⟨nth, rest, e⟩ := ih (by omega)
      exact ⟨nth, rest ++ _, by rw [e]; rfl⟩

/-- A corner is one of a cell exactly if it is an end of a side of a cell. -/
theorem hAt_iff {W T : Int} {xs : List Bool} {k : Nat} (hW : 1 ≤ W) : hAt W T xs k = true ↔ (∃ nth, sUsed W T xs k nth = true) ∨ ∃ j nth, sUsed W T xs j nth = true ∧ sTo W j nth = k := by
  obtain ⟨a, b, c, d⟩ := kxy hW k
  constructor
  · intro h
    unfold hAt at h
    simp only [Bool.or_eq_true] at h
    rcases h with ((h | h) | h) | h
    · exact Or.inl ⟨false, by unfold sUsed sLeft sLx; simp [h]⟩
    · exact Or.inl ⟨true, by unfold sUsed sLeft sLx; simp [h]⟩
    · exact Or.inl ⟨false, by unfold sUsed sRight sRy; simp [h]⟩
    · right
      have hin := atB_in h
      obtain ⟨j, hj⟩ := Int.eq_ofNat_of_zero_le (show 0 ≤ (k : Int) - 1 by
        have : 0 ≤ ky W k * (W + 1) := Int.mul_nonneg c (by omega)
        omega)
      have ej : (j : Int) = (kx W k - 1) + ky W k * (W + 1) := by omega
      have jx : kx W j = kx W k - 1 := by
        unfold kx at ej ⊢
        rw [ej, Int.add_mul_emod_self_right, Int.emod_eq_of_lt (by unfold kx at hin; omega) (by unfold kx at b; omega)]
      have jy : ky W j = ky W k := by
        have e2 : (j : Int) = (kx W k - 1) + ky W k * (W + 1) := ej
        unfold ky at e2 ⊢
        rw [e2, Int.add_mul_ediv_right _ _ (by omega), Int.ediv_eq_zero_of_lt (by omega) (by omega)]; omega
      refine ⟨j, false, ?_, ?_⟩
      · unfold sUsed sRight sRy; rw [jx, jy]; simp [h]
      · unfold sTo; simp; omega
  · rintro (⟨nth, h⟩ | ⟨j, nth, h, e⟩)
    · unfold sUsed sLeft sRight sLx sRy at h
      unfold hAt
      simp only [Bool.or_eq_true] at h ⊢
      cases nth
      · simp at h; rcases h with h | h
        · exact Or.inl (Or.inl (Or.inl h))
        · exact Or.inl (Or.inr h)
      · simp at h; rcases h with h | h
        · exact Or.inl (Or.inl (Or.inr h))
        · exact Or.inl (Or.inl (Or.inl h))
    · obtain ⟨a', b', c', d'⟩ := kxy hW j
      have hu := sUsed_in hW h
      unfold sTo at e
      cases nth
      · simp at hu e
        have kxe : kx W k = kx W j + 1 := by
          have e3 : (k : Int) = (kx W j + 1) + ky W j * (W + 1) := by omega
          show (k : Int) % (W + 1) = _
          rw [e3, Int.add_mul_emod_self_right, Int.emod_eq_of_lt (by omega) (by omega)]
        have kye : ky W k = ky W j := by
          have e3 : (k : Int) = (kx W j + 1) + ky W j * (W + 1) := by omega
          show (k : Int) / (W + 1) = _
          rw [e3, Int.add_mul_ediv_right _ _ (by omega), Int.ediv_eq_zero_of_lt (by omega) (by omega)]; omega
        unfold sUsed sLeft sRight sLx sRy at h
        unfold hAt
        rw [kxe, kye]
        simp only [Bool.or_eq_true, Int.add_sub_cancel] at h ⊢
        simp at h
        rcases h with h | h
        · exact Or.inl (Or.inl (Or.inr h))
        · exact Or.inr h
      · simp at hu e
        have kxe : kx W k = kx W j := by
          have e3 : (k : Int) = kx W j + (ky W j + 1) * (W + 1) := by rw [Int.add_mul]; omega
          show (k : Int) % (W + 1) = _
          rw [e3, Int.add_mul_emod_self_right, Int.emod_eq_of_lt (by omega) (by omega)]
        have kye : ky W k = ky W j + 1 := by
          have e3 : (k : Int) = kx W j + (ky W j + 1) * (W + 1) := by rw [Int.add_mul]; omega
          show (k : Int) / (W + 1) = _
          rw [e3, Int.add_mul_ediv_right _ _ (by omega), Int.ediv_eq_zero_of_lt (by omega) (by omega)]; omega
        unfold sUsed sLeft sRight sLx sRy at h
        unfold hAt
        rw [kxe, kye]
        simp only [Bool.or_eq_true, Int.add_sub_cancel] at h ⊢
        simp at h
        rcases h with h | h
        · exact Or.inr h
        · exact Or.inl (Or.inr h)
end Go.Proofs.Ytpcajacekmidbaa
