/- Plain facts: what the spreading of heights keeps from side to side. -/
import Derived.Test.YthdacjgechokcaaHtsN
import Derived.Test.YthdacjgechokcaaSidesOf
import Derived.Test.YthdacjgechokcaaHokJ
namespace Go.Proofs.Ythdacjgechokcaa
open Go.RowKit
set_option linter.unusedVariables false
set_option maxRecDepth 100000
set_option linter.unusedSimpArgs false

/-- The heights of the corners that are reached; 99 elsewhere. -/
def maskL (H : List Int) (R : Nat → Bool) (N : Nat) : List Int := (List.range N).map fun j => if R j then H.getD j 0 else 99
theorem maskL_len (H : List Int) (R : Nat → Bool) (N : Nat) : (maskL H R N).length = N := by simp [maskL]
theorem maskL_get {H : List Int} {R : Nat → Bool} {N k : Nat} (hk : k < N) : (maskL H R N).getD k 0 = if R k then H.getD k 0 else 99 := by simp [maskL, hk]
theorem maskL_set {H : List Int} {R : Nat → Bool} {N k : Nat} {v : Int} (hv : v = H.getD k 0) (hk : k < N) : (maskL H R N).set k v = maskL H (fun j => if j = k then true else R j) N := by
  subst hv
  refine ext_getD (by simp [maskL]) fun j hj => ?_
  rw [List.length_set, maskL_len] at hj
  rw [getD_set1, maskL_len, maskL_get hj, maskL_get hj]
  by_cases e : j = k
  · subst e; rw [if_pos ⟨rfl, hj⟩, if_pos rfl, if_pos rfl]
  · rw [if_neg (fun h => e h.1), if_neg e]
theorem maskL_none (H : List Int) (N : Nat) : maskL H (fun _ => false) N = List.replicate N 99 := by
  refine ext_getD (by simp [maskL]) fun j hj => ?_
  rw [maskL_len] at hj
  rw [maskL_get hj]; simp [hj]
/-- How many corners are reached. -/
def reN (R : Nat → Bool) (N : Nat) : Nat := (List.range N).countP R
theorem reN_le (R : Nat → Bool) (N : Nat) : reN R N ≤ N := by
  have := List.countP_le_length (p := R) (l := List.range N)
  rwa [List.length_range] at this
theorem reN_set {R : Nat → Bool} {N k : Nat} (hk : k < N) (h : R k = false) : reN (fun j => if j = k then true else R j) N = reN R N + 1 := countP_set hk h
theorem reN_none (N : Nat) : reN (fun _ => false) N = 0 := by unfold reN; simp

theorem frstK_stay {W T : Int} {xs : List Bool} {n N : Nat} (h : 0 ≤ frstK W T xs n) (hN : n ≤ N) : frstK W T xs N = frstK W T xs n := by
  induction hN with
  | refl => rfl
  | step _ ih => rw [frstK_succ, ih, if_neg (by omega)]
/-- The first used side begins at the first corner of a cell. -/
theorem first_is {W T : Int} {xs : List Bool} {N k j : Nat} {nth : Bool} (hk : k < N) (hu : sUsed W T xs k nth = true) (hP : sidesJ W T xs k j = []) : frstK W T xs N = k := by
  have h0 : frstK W T xs k < 0 := by
    apply Classical.byContradiction; intro hc
    obtain ⟨nth', rest, e⟩ := sidesK_head (W := W) (T := T) (xs := xs) (n := k) (by omega)
    unfold sidesJ at hP
    rw [e] at hP; simp at hP
  have h1 : frstK W T xs (k + 1) = k := by
    rw [frstK_succ, if_pos h0]
    cases nth
    · rw [hu]; simp
    · rw [hu]; simp
  rw [frstK_stay (n := k + 1) (by omega) (by omega), h1]

/-- What a pass over the sides keeps. -/
structure PassI (W T : Int) (xs : List Bool) (N fk : Nat) (P : List (Nat × Bool)) (R0 : Nat) (f : Int) (c : Bool) (R : Nat → Bool) : Prop where
  at_ : ∀ j, R j = true → hAt W T xs j = true
  fst : (f = fk ∧ R fk = true) ∨ (f = -1 ∧ P = [] ∧ R = fun _ => false)
  even : c = false → ∀ s ∈ P, R s.1 = R (sTo W s.1 s.2).toNat
  more : c = true → R0 < reN R N
  le : R0 ≤ reN R N
theorem PassI.begin {W T : Int} {xs : List Bool} {N fk : Nat} {R : Nat → Bool} {f : Int} (h1 : ∀ j, R j = true → hAt W T xs j = true) (h2 : (f = fk ∧ R fk = true) ∨ (f = -1 ∧ R = fun _ => false)) : PassI W T xs N fk (sidesK W T xs 0) (reN R N) f false R :=
  ⟨h1, h2.elim Or.inl (fun h => Or.inr ⟨h.1, rfl, h.2⟩), (fun _ s hs => by cases hs), (fun h => by cases h), Nat.le_refl _⟩
/-- The first corner is given its height. -/
theorem PassI.first {W T : Int} {xs : List Bool} {N fk : Nat} {P : List (Nat × Bool)} {R0 : Nat} {f : Int} {c : Bool} {R : Nat → Bool} (h : PassI W T xs N fk P R0 f c R) (hf : f < 0) (hfk : fk < N) (hat : hAt W T xs fk = true) : PassI W T xs N fk P R0 (fk : Int) c (fun j => if j = fk then true else R j) := by
  rcases h.fst with ⟨e, _⟩ | ⟨e, hP, hR⟩
  · omega
  have hc : c = false := by
    cases c
    · rfl
    · have := h.more rfl
      rw [hR, reN_none] at this; omega
  refine ⟨fun j hj => ?_, Or.inl ⟨rfl, by simp⟩, (fun _ s hs => by rw [hP] at hs; cases hs), (fun h' => by rw [hc] at h'; cases h'), ?_⟩
  · by_cases e : j = fk
    · rw [e]; exact hat
    · simp only [if_neg e] at hj; exact h.at_ j hj
  · rw [reN_set hfk (by rw [hR])]; have := h.le; omega
theorem PassI.same {W T : Int} {xs : List Bool} {N fk : Nat} {P : List (Nat × Bool)} {R0 : Nat} {c : Bool} {R : Nat → Bool} {k kt : Nat} {nth : Bool} (h : PassI W T xs N fk P R0 (fk : Int) c R) (ht : sTo W k nth = kt) (he : R k = R kt) : PassI W T xs N fk (P ++ [(k, nth)]) R0 (fk : Int) c R := by
  refine ⟨h.at_, Or.inl (h.fst.elim id fun q => by have := q.1; omega), fun hc s hs => ?_, h.more, h.le⟩
  rw [List.mem_append, List.mem_singleton] at hs
  rcases hs with hs | rfl
  · exact h.even hc s hs
  · rw [ht, Int.toNat_natCast]; exact he
theorem PassI.reach {W T : Int} {xs : List Bool} {N fk : Nat} {P P' : List (Nat × Bool)} {R0 : Nat} {c : Bool} {R : Nat → Bool} {q : Nat} (h : PassI W T xs N fk P R0 (fk : Int) c R) (hq : q < N) (hat : hAt W T xs q = true) (hR : R q = false) : PassI W T xs N fk P' R0 (fk : Int) true (fun j => if j = q then true else R j) := by
  have hf : R fk = true := h.fst.elim (fun q => q.2) fun q => by have := q.1; omega
  refine ⟨fun j hj => ?_, Or.inl ⟨rfl, ?_⟩, (fun h' => by cases h'), fun _ => ?_, ?_⟩
  · by_cases e : j = q
    · rw [e]; exact hat
    · simp only [if_neg e] at hj; exact h.at_ j hj
  · by_cases e : fk = q
    · rw [e] at hf; rw [hf] at hR; cases hR
    · simp only [if_neg e]; exact hf
  · rw [reN_set hq hR]; have := h.le; omega
  · rw [reN_set hq hR]; have := h.le; omega
/-- An even pass has reached all. -/
theorem PassI.done {W T : Int} {xs : List Bool} {L H : List Int} {N fk : Nat} {R0 : Nat} {f : Int} {R : Nat → Bool} (hs : simpleB W T xs = true) (hN : (W + 1) * (T + 1) = (N : Int)) (hfk : frstK W T xs N = fk) (hH : HtsOf W T xs L H N) (h : PassI W T xs N fk (sidesK W T xs N) R0 f false R) : maskL H R N = H := by
  obtain ⟨v1, v2, v3, v4, v5, v6⟩ := rv_true (simpleB_rv hs)
  have hf : R fk = true := by
    rcases h.fst with q | q
    · exact q.2
    · obtain ⟨nth, rest, e⟩ := sidesK_head (W := W) (T := T) (xs := xs) (n := N) (by rw [hfk]; omega)
      rw [q.2.1] at e; cases e
  have all := corners_all hs hfk (fun k => R k = true) hf (fun k nth hu => by
    obtain ⟨t0, t1, t2⟩ := sTo_lt v1 hu
    have := h.even rfl (k, nth) (sidesK_mem.2 ⟨by omega, hu⟩)
    simp only at this
    rw [this])
  refine ext_getD (by rw [maskL_len, hH.len]) fun j hj => ?_
  rw [maskL_len] at hj
  rw [maskL_get hj]
  cases hr : R j
  · rw [if_neg (by simp)]
    cases ha : hAt W T xs j
    · exact (hH.off j hj ha).symm
    · rw [all j ha] at hr; cases hr
  · rw [if_pos rfl]

/-- The cell on the right is the one to which the direction leads. -/
theorem step_side {W T : Int} {xs : List Bool} {k : Nat} {nth : Bool} (hW : 1 ≤ W) (h : sBoth W T xs k nth = true) {v : Int} (h1 : 1 ≤ v) (h4 : v ≤ 4) : (stepI W T (sCell W k nth) v == sOther W k nth) = (v == sWay nth) := by
  unfold sBoth at h
  rw [Bool.and_eq_true] at h
  obtain ⟨hl, hr⟩ := h
  obtain ⟨a0, a1, a2, a3⟩ := atB_in (show atB W T xs (sLx W k nth) (ky W k) = true from hl)
  obtain ⟨b0, b1, b2, b3⟩ := atB_in (show atB W T xs (kx W k) (sRy W k nth) = true from hr)
  obtain ⟨c, hc, cx, cy, hcl⟩ := place_idx a0 a1 a2 a3
  have e : sCell W k nth = (c : Int) := hc.symm
  rw [e]
  unfold stepI
  rw [cx, cy]
  have hce : nth = false → (c : Int) = ky W k * W + kx W k := by intro h; subst h; exact hc
  have ho : sOther W k nth = if nth then (c : Int) + 1 else (c : Int) - W := by
    unfold sOther
    rw [hc]
    cases nth
    · unfold sRy sLx; simp only [Bool.false_eq_true, if_false]; rw [Int.sub_mul]; omega
    · unfold sRy sLx; simp only [if_true]; omega
  clear e hc hl hr cx cy
  unfold sWay
  unfold sLx at a0 a1 ⊢
  unfold sRy at b2 b3
  have hv : v = 1 ∨ v = 2 ∨ v = 3 ∨ v = 4 := by omega
  rw [Bool.eq_iff_iff]
  simp only [beq_iff_eq]
  cases nth
  · simp only [Bool.false_eq_true, if_false] at a0 a1 b2 b3 ho ⊢
    rw [ho]
    have hcW : (c : Int) = ky W k * W + kx W k := hce rfl
    rcases hv with rfl | rfl | rfl | rfl
    · constructor
      · intro q
        by_cases h : kx W k < W - 1
        · rw [if_pos ⟨rfl, h⟩] at q; omega
        · rw [if_neg (by omega), if_neg (by omega), if_neg (by omega), if_neg (by omega)] at q
          have : 0 ≤ (ky W k - 1) * W := Int.mul_nonneg b2 (by omega)
          rw [Int.sub_mul] at this; omega
      · intro q; omega
    · constructor
      · intro q
        by_cases h : ky W k < T - 1
        · rw [if_neg (by omega), if_pos ⟨rfl, h⟩] at q; omega
        · rw [if_neg (by omega), if_neg (by omega), if_neg (by omega), if_neg (by omega)] at q
          have : 0 ≤ (ky W k - 1) * W := Int.mul_nonneg b2 (by omega)
          rw [Int.sub_mul] at this; omega
      · intro q; omega
    · constructor
      · intro q
        by_cases h : 0 < kx W k
        · rw [if_neg (by omega), if_neg (by omega), if_pos ⟨rfl, h⟩] at q; omega
        · rw [if_neg (by omega), if_neg (by omega), if_neg (by omega), if_neg (by omega)] at q
          have : 0 ≤ (ky W k - 1) * W := Int.mul_nonneg b2 (by omega)
          rw [Int.sub_mul] at this; omega
      · intro q; omega
    · rw [if_neg (by omega), if_neg (by omega), if_neg (by omega), if_pos ⟨rfl, by omega⟩]
      simp
  · simp only [if_true] at a0 a1 b2 b3 ho ⊢
    rw [ho]
    rcases hv with rfl | rfl | rfl | rfl
    · rw [if_pos ⟨rfl, by omega⟩]; simp
    · constructor
      · intro q
        by_cases h : ky W k < T - 1
        · rw [if_neg (by omega), if_pos ⟨rfl, h⟩] at q
          have : kx W k ≤ W - 1 := by omega
          omega
        · rw [if_neg (by omega), if_neg (by omega), if_neg (by omega), if_neg (by omega)] at q; omega
      · intro q; omega
    · constructor
      · intro q
        by_cases h : 0 < kx W k - 1
        · rw [if_neg (by omega), if_neg (by omega), if_pos ⟨rfl, h⟩] at q; omega
        · rw [if_neg (by omega), if_neg (by omega), if_neg (by omega), if_neg (by omega)] at q; omega
      · intro q; omega
    · constructor
      · intro q
        by_cases h : 0 < ky W k
        · rw [if_neg (by omega), if_neg (by omega), if_neg (by omega), if_pos ⟨rfl, h⟩] at q; omega
        · rw [if_neg (by omega), if_neg (by omega), if_neg (by omega), if_neg (by omega)] at q; omega
      · intro q; omega
end Go.Proofs.Ythdacjgechokcaa
