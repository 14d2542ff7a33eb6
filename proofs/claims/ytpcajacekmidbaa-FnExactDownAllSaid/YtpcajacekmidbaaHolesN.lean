/- Contract of impl.HolesMany; plain facts on numbers that fall until they are even. -/
import Derived.Test.YtpcajacekmidbaaSimple
namespace Go.Proofs.Ytpcajacekmidbaa
open Go.RowKit
set_option linter.unusedVariables false
set_option maxRecDepth 100000
set_option linter.unusedSimpArgs false

/-- How many holes there are. -/
def holesN (W T : Int) (xs : List Bool) : Int :=
  if rv W T xs then (selfN (marksL ((W + 2) * (T + 2)).toNat (outB W T xs) (adjW (W + 2) true)) ((W + 2) * (T + 2)).toNat : Nat) - 1 else -1

/-- Of numbers that fall: each cell of the set has the index of one that it hangs together with, and no greater one. -/
structure HoI (N : Nat) (s : Nat → Bool) (adj : Nat → Nat → Bool) (P : List Int) : Prop where
  len : P.length = N
  off : ∀ j, j < N → s j = false → P.getD j 0 = -1
  on : ∀ j, j < N → s j = true → ∃ i : Nat, P.getD j 0 = i ∧ Conn N s adj i j ∧ i ≤ j
def nearB (V : Int) (k j : Nat) : Bool := inB ((k : Int) % V - (j : Int) % V) (-1) 1 && inB ((k : Int) / V - (j : Int) / V) (-1) 1
theorem near_symm (V : Int) (k j : Nat) : nearB V k j = nearB V j k := by
  unfold nearB inB
  congr 1 <;> (apply decide_eq_decide.2; omega)
theorem adj_near {V : Int} {k j : Nat} (h : adjW V true j k = true) : nearB V k j = true := by
  unfold adjW at h
  unfold nearB inB
  simp only [Bool.and_eq_true, Bool.or_eq_true, Bool.not_eq_true', decide_eq_true_eq, decide_eq_false_iff_not] at h ⊢
  omega
theorem near_adj {V : Int} {k j : Nat} (h : nearB V k j = true) (hne : k ≠ j) : adjW V true j k = true := by
  unfold nearB inB at h
  unfold adjW
  simp only [Bool.and_eq_true, Bool.or_eq_true, Bool.not_eq_true', decide_eq_true_eq, decide_eq_false_iff_not] at h ⊢
  refine ⟨⟨by omega, fun q => hne ?_⟩, Or.inl (by first | rfl | trivial)⟩
  have a1 := Int.emod_add_mul_ediv (k : Int) V
  have a2 := Int.emod_add_mul_ediv (j : Int) V
  rw [q.1, q.2] at a1
  omega
/-- The numbers are even: next to each other none is greater. -/
def StabN (N : Nat) (V : Int) (P : List Int) : Prop := ∀ k j, k < N → j < N → nearB V k j = true → 0 ≤ P.getD j 0 → P.getD k 0 ≤ P.getD j 0
theorem HoI.marks {N : Nat} {s : Nat → Bool} {V : Int} {P : List Int} (h : HoI N s (adjW V true) P) (hs : StabN N V P) : Marks N s (adjW V true) P := by
  have key : ∀ i k, Conn N s (adjW V true) i k → P.getD k 0 ≤ (i : Int) := by
    intro i k hc
    induction hc with
    | refl hk hsk =>
      obtain ⟨i, hi, _, hle⟩ := h.on _ hk hsk
      rw [hi]; omega
    | step hij a b c ih =>
      obtain ⟨i2, hi2, _, _⟩ := h.on _ hij.right.1 hij.right.2
      have := hs _ _ b hij.right.1 (adj_near a) (by rw [hi2]; omega)
      omega
  refine ⟨h.len, fun k hk => ⟨h.off k hk, fun hsk => ?_⟩⟩
  obtain ⟨i, hi, hc, hle⟩ := h.on k hk hsk
  refine ⟨i, hi, hc, fun i' hi' => ?_⟩
  have := key i' k hi'
  rw [hi] at this; omega
theorem HoI.step {N : Nat} {s : Nat → Bool} {V : Int} {P : List Int} {k j : Nat} (h : HoI N s (adjW V true) P) (hk : k < N) (hj : j < N) (hn : nearB V k j = true) (h0 : 0 ≤ P.getD j 0) (hlt : P.getD j 0 < P.getD k 0) : HoI N s (adjW V true) (P.set k (P.getD j 0)) := by
  have hl := h.len
  have sj : s j = true := by
    cases e : s j
    · rw [h.off j hj e] at h0; omega
    · rfl
  have sk : s k = true := by
    cases e : s k
    · rw [h.off k hk e] at hlt; omega
    · rfl
  have hne : k ≠ j := fun e => by rw [e] at hlt; omega
  obtain ⟨ik, ek, ck, lk⟩ := h.on k hk sk
  obtain ⟨ij, ej, cj, lj⟩ := h.on j hj sj
  have hg : ∀ i, (P.set k (P.getD j 0)).getD i 0 = if i = k then P.getD j 0 else P.getD i 0 := fun i => by
    rw [getD_set1]
    by_cases e : i = k
    · rw [if_pos ⟨e, by omega⟩, if_pos e]
    · rw [if_neg (fun q => e q.1), if_neg e]
  refine ⟨by simp [hl], fun i hi hs => ?_, fun i hi hs => ?_⟩
  · rw [hg, if_neg (fun e => by rw [e, sk] at hs; cases hs)]; exact h.off i hi hs
  · rw [hg]
    by_cases e : i = k
    · rw [if_pos e]
      subst e
      refine ⟨ij, ej, .step cj (near_adj hn hne) hk sk, ?_⟩
      rw [ej, ek] at hlt; omega
    · rw [if_neg e]; exact h.on i hi hs
/-- The sum of all numbers. -/
def totP (N : Nat) (P : List Int) : Nat := sumR (fun i => (P.getD i 0 + 1).toNat) N
theorem sumR_lt {f g : Nat → Nat} : ∀ {n : Nat} {i : Nat}, i < n → (∀ j, j < n → f j ≤ g j) → f i < g i → sumR f n < sumR g n
  | 0, i, h, _, _ => by omega
  | n + 1, i, h, hle, hlt => by
    have mono : ∀ m, m ≤ n + 1 → sumR f m ≤ sumR g m := by
      intro m
      induction m with
      | zero => intro _; exact Nat.le_refl _
      | succ m ih => intro hm; have := ih (by omega); have := hle m (by omega); unfold sumR; omega
    unfold sumR
    by_cases e : i = n
    · subst e; have := mono i (by omega); omega
    · have := sumR_lt (f := f) (g := g) (n := n) (i := i) (by omega) (fun j hj => hle j (by omega)) hlt
      have := hle n (by omega)
      omega
theorem totP_set {N : Nat} {P : List Int} {k : Nat} {v : Int} (hl : P.length = N) (hk : k < N) (h0 : 0 ≤ v) (hlt : v < P.getD k 0) : totP N (P.set k v) < totP N P := by
  unfold totP
  refine sumR_lt hk (fun j hj => ?_) ?_
  · rw [getD_set1]; split
    · rename_i h; rw [h.1]; omega
    · exact Nat.le_refl _
  · rw [getD_set1, if_pos ⟨rfl, by omega⟩]; omega
theorem l1In_same (n lo hi : Int) (w : World) {b : Bool} (h : inB n lo hi = b) :
    Calls Try.prog 51 #[.int .i64 n, .int .i64 lo, .int .i64 hi] w fun e w' => e = .returned (.bool b) ∧ w' = w :=
  (l1In_any n lo hi w).mono fun _ _ ⟨he, hw⟩ => ⟨by rw [he, h], hw.symm⟩
/-- The numbers of the cells outside, each its own. -/
def outI (W T : Int) (xs : List Bool) (k : Nat) : List Int := (List.range k).map fun i => if outB W T xs i then (i : Int) else -1
theorem outI_len (W T : Int) (xs : List Bool) (k : Nat) : (outI W T xs k).length = k := by simp [outI]
theorem outI_get {W T : Int} {xs : List Bool} {k j : Nat} (h : j < k) : (outI W T xs k).getD j 0 = if outB W T xs j then (j : Int) else -1 := by simp [outI, h]
theorem outI_yes {W T : Int} {xs : List Bool} {k : Nat} (h : outB W T xs k = true) : outI W T xs k ++ [(k : Int)] = outI W T xs (k + 1) := by
  unfold outI; rw [List.range_succ, List.map_append]; simp [h]
theorem outI_no {W T : Int} {xs : List Bool} {k : Nat} (h : outB W T xs k = false) : (outI W T xs k ++ [(k : Int)]).set k (-1) = outI W T xs (k + 1) := by
  unfold outI; rw [List.range_succ, List.map_append]; simp [h]
theorem outI_ho {N : Nat} {W T : Int} {xs : List Bool} {adj : Nat → Nat → Bool} : HoI N (outB W T xs) adj (outI W T xs N) := by
  refine ⟨outI_len _ _ _ _, fun j hj hs => ?_, fun j hj hs => ?_⟩
  · rw [outI_get hj, hs]; rfl
  · exact ⟨j, by rw [outI_get hj, hs]; rfl, .refl hj hs, Nat.le_refl _⟩
end Go.Proofs.Ytpcajacekmidbaa
