/- Plain facts on how many dominoes lie: from both ends as many. -/
import Derived.Test.YthjocjiiihebbaaLayOne
import Derived.Test.YthjocjiiihebbaaTill
namespace Go.Proofs.Ythjocjiiihebbaa
open Go.RowKit
set_option linter.unusedVariables false
set_option maxRecDepth 100000
set_option linter.unusedSimpArgs false

theorem countP_none {l : List Nat} {p : Nat → Bool} (h : ∀ x ∈ l, p x = false) : l.countP p = 0 := by
  rw [List.countP_eq_zero]
  intro x hx; rw [h x hx]; exact Bool.false_ne_true
/-- Two counts are the same, one a few places behind the other. -/
theorem count_shift {p q : Nat → Bool} {n d : Nat} (h1 : ∀ k, k + d < n → p k = q (k + d)) (h2 : ∀ k, k < n → n ≤ k + d → p k = false) (h3 : ∀ j, j < d → j < n → q j = false) : (List.range n).countP p = (List.range n).countP q := by
  by_cases hd : d ≤ n
  · obtain ⟨m, rfl⟩ : ∃ m, n = m + d := ⟨n - d, by omega⟩
    have e1 : (List.range (m + d)).countP p = (List.range m).countP p := by
      rw [List.range_add, List.countP_append, List.countP_map]
      rw [countP_none (l := List.range d) (fun x hx => by have := List.mem_range.1 hx; exact h2 (m + x) (by omega) (by omega))]
      omega
    have e2 : (List.range (m + d)).countP q = (List.range m).countP (fun k => q (k + d)) := by
      rw [Nat.add_comm m d, List.range_add, List.countP_append, List.countP_map]
      rw [countP_none (l := List.range d) (fun x hx => by have := List.mem_range.1 hx; exact h3 x this (by omega))]
      rw [Nat.zero_add]
      apply List.countP_congr
      intro x _
      simp [Nat.add_comm]
    rw [e1, e2]
    apply List.countP_congr
    intro x hx
    rw [h1 x (by have := List.mem_range.1 hx; omega)]
  · rw [countP_none (fun x hx => h2 x (List.mem_range.1 hx) (by have := List.mem_range.1 hx; omega)), countP_none (fun x hx => h3 x (by have := List.mem_range.1 hx; omega) (List.mem_range.1 hx))]

theorem step_one {W T k o : Int} (h : stepI W T k 1 = o) (h0 : 0 ≤ o) : o = k + 1 := by
  unfold stepI at h; simp at h; split at h <;> omega
theorem step_two {W T k o : Int} (h : stepI W T k 2 = o) (h0 : 0 ≤ o) : o = k + W := by
  unfold stepI at h; simp at h; split at h <;> omega
theorem step_three {W T k o : Int} (h : stepI W T k 3 = o) (h0 : 0 ≤ o) : o = k - 1 := by
  unfold stepI at h; simp at h; split at h <;> omega
theorem step_four {W T k o : Int} (h : stepI W T k 4 = o) (h0 : 0 ≤ o) : o = k - W := by
  unfold stepI at h; simp at h; split at h <;> omega
theorem getD_off {L : List Int} {k : Nat} (h : L.length ≤ k) : L.getD k 0 = 0 := by simp [List.getD, h]

theorem count_ends {W T : Int} {xs : List Bool} {L : List Int} (h : lok W T xs L = true) : wayN L 1 L.length = wayN L 3 L.length ∧ wayN L 2 L.length = wayN L 4 L.length := by
  obtain ⟨hr, hlen, _⟩ := lok_rv h
  obtain ⟨v1, v2, v3, v4, v5, _⟩ := rv_true hr
  obtain ⟨Wn, rfl⟩ : ∃ Wn : Nat, W = Wn := ⟨W.toNat, by omega⟩
  have go : ∀ (v u : Int) (d : Nat), backI v = u → backI u = v → v ≠ 0 → u ≠ 0 → (∀ k o : Int, stepI Wn T k v = o → 0 ≤ o → o = k + d) → (∀ k o : Int, stepI Wn T k u = o → 0 ≤ o → o = k - d) → wayN L v L.length = wayN L u L.length := by
    intro v u d hb hb' hv0 hu0 s1 s2
    unfold wayN
    refine count_shift (d := d) (fun k hk => ?_) (fun k hk hkd => ?_) (fun j hj hjn => ?_)
    · apply Bool.eq_iff_iff.2
      simp only [beq_iff_eq]
      constructor
      · intro e
        obtain ⟨o, hs, ho, _, _, _, hbk, _⟩ := lok_at h (k := k) (by omega) (by rw [e]; exact hv0)
        rw [e] at hs hbk
        have := s1 _ _ hs (by omega)
        obtain rfl : o = k + d := by omega
        rw [hbk, hb]
      · intro e
        obtain ⟨o, hs, ho, _, _, _, hbk, _⟩ := lok_at h (k := k + d) (by omega) (by rw [e]; exact hu0)
        rw [e] at hs hbk
        have := s2 _ _ hs (by omega)
        obtain rfl : o = k := by omega
        rw [hbk, hb']
    · apply Bool.eq_false_iff.2
      simp only [ne_eq, beq_iff_eq]
      intro e
      obtain ⟨o, hs, ho, _⟩ := lok_at h (k := k) (by omega) (by rw [e]; exact hv0)
      rw [e] at hs
      have := s1 _ _ hs (by omega)
      omega
    · apply Bool.eq_false_iff.2
      simp only [ne_eq, beq_iff_eq]
      intro e
      obtain ⟨o, hs, ho, _⟩ := lok_at h (k := j) (by omega) (by rw [e]; exact hu0)
      rw [e] at hs
      have := s2 _ _ hs (by omega)
      omega
  constructor
  · exact go 1 3 1 rfl rfl (by decide) (by decide) (fun k o hs h0 => step_one hs h0) (fun k o hs h0 => step_three hs h0)
  · exact go 2 4 Wn rfl rfl (by decide) (by decide) (fun k o hs h0 => step_two hs h0) (fun k o hs h0 => step_four hs h0)
/-- How many cells have a domino. -/
def nzN (L : List Int) (k : Nat) : Nat := (List.range k).countP fun i => L.getD i 0 != 0
theorem nzN_succ (L : List Int) (k : Nat) : nzN L (k + 1) = nzN L k + if L.getD k 0 != 0 then 1 else 0 := by
  unfold nzN
  rw [List.range_succ, List.countP_append]
  simp [List.countP_cons]
theorem nzN_le (L : List Int) (k : Nat) : nzN L k ≤ k := by
  have := List.countP_le_length (p := fun i => L.getD i 0 != 0) (l := List.range k)
  rw [List.length_range] at this; exact this
theorem nz_ways {W T : Int} {xs : List Bool} {L : List Int} (h : lok W T xs L = true) : ∀ k, k ≤ L.length → nzN L k = wayN L 1 k + wayN L 2 k + wayN L 3 k + wayN L 4 k
  | 0, _ => rfl
  | k + 1, hk => by
    rw [nzN_succ, wayN_succ, wayN_succ, wayN_succ, wayN_succ, nz_ways h k (by omega)]
    have hw := lok_way h (k := k) (by omega)
    have hc : L.getD k 0 = 0 ∨ L.getD k 0 = 1 ∨ L.getD k 0 = 2 ∨ L.getD k 0 = 3 ∨ L.getD k 0 = 4 := by omega
    rcases hc with e | e | e | e | e <;> rw [e] <;> simp <;> omega
theorem nz_twice {W T : Int} {xs : List Bool} {L : List Int} (h : lok W T xs L = true) : (nzN L L.length : Int) = 2 * laidN W T xs L := by
  have e := nz_ways h L.length (Nat.le_refl _)
  obtain ⟨a, b⟩ := count_ends h
  unfold laidN
  rw [if_pos h]
  omega
/-- A domino more is two cells more. -/
theorem nz_set {L : List Int} {k o : Nat} {v u : Int} (hk : k < L.length) (ho : o < L.length) (hne : o ≠ k) (hv : v ≠ 0) (hu : u ≠ 0) (h0 : L.getD k 0 = 0) (h1 : L.getD o 0 = 0) : nzN ((L.set k v).set o u) L.length = nzN L L.length + 2 := by
  have step : ∀ (M : List Int) (c : Nat) (x : Int), c < M.length → x ≠ 0 → M.getD c 0 = 0 → ∀ n, nzN (M.set c x) n = nzN M n + if c < n then 1 else 0 := by
    intro M c x hc hx hz n
    induction n with
    | zero => rfl
    | succ n ih =>
      rw [nzN_succ, nzN_succ, ih]
      by_cases e : n = c
      · subst e
        have e1 : (M.set n x).getD n 0 = x := by rw [getD_set1, if_pos ⟨rfl, hc⟩]
        rw [e1, hz]; simp [hx]
      · have e1 : (M.set c x).getD n 0 = M.getD n 0 := by rw [getD_set1, if_neg (fun q => e q.1)]
        rw [e1]
        by_cases h2 : c < n
        · rw [if_pos h2, if_pos (show c < n + 1 by omega)]; omega
        · rw [if_neg h2, if_neg (show ¬ c < n + 1 by omega)]; omega
  rw [step (L.set k v) o u (by simpa using ho) hu (by rw [getD_set1, if_neg (fun q => hne q.1)]; exact h1), step L k v hk hv h0, if_pos hk, if_pos ho]
theorem laid_more {W T : Int} {xs : List Bool} {L : List Int} {k way : Int} (h : lok W T xs L = true) (hc : canLay W T xs L k way = true) : laidN W T xs (laidL W T xs L k way) = laidN W T xs L + 1 := by
  obtain ⟨hr, hlen, _⟩ := lok_rv h
  obtain ⟨kn, o, rfl, hk, ho, hne, hs, hf, hfo, w1, w4, hb, e⟩ := canLay_at hr hlen hc
  have h2 := nz_twice (lok_laid h hc)
  have h1 := nz_twice h
  have hn := nz_set (L := L) (k := kn) (o := o) (v := way) (u := backI way) (by omega) (by omega) hne (by omega) (back_nz (by omega)) (free_zero hf).2 (free_zero hfo).2
  rw [laidL_len] at h2
  rw [e] at h2 ⊢
  rw [hn] at h2
  omega
theorem laid_bare {W T : Int} {xs : List Bool} (h : rv W T xs = true) : laidN W T xs (bareL W T xs) = 0 := by
  have hl : lok W T xs (bareL W T xs) = true := by rw [lok_bareL]; exact h
  have h1 := nz_twice hl
  have h0 : nzN (bareL W T xs) (bareL W T xs).length = 0 := by
    unfold nzN
    refine countP_none fun x hx => ?_
    unfold bareL; rw [if_pos h]
    by_cases hx' : x < xs.length
    · simp [List.getD, hx']
    · simp [List.getD, hx']
  omega
theorem tok_bare {W T : Int} {xs : List Bool} (h : rv W T xs = true) : tok W T xs (bareL W T xs) = decide (cnt xs = 0) := by
  have hl : lok W T xs (bareL W T xs) = true := by rw [lok_bareL]; exact h
  have hlen : (bareL W T xs).length = xs.length := by unfold bareL; rw [if_pos h]; simp
  have hz : ∀ j, freeB xs (bareL W T xs) j = xs.getD j false := by
    intro j
    unfold freeB bareL; rw [if_pos h]
    by_cases hx' : j < xs.length
    · simp [List.getD, hx']
    · simp [List.getD, hx']
  by_cases hc : cnt xs = 0
  · rw [show decide (cnt xs = 0) = true by simpa using hc]
    refine tok_all hl fun j _ hj => ?_
    rw [hz]
    rw [hlen] at hj
    unfold cnt at hc
    cases hb : xs.getD j false
    · rfl
    · exfalso
      rw [List.countP_eq_zero] at hc
      have hm : xs[j] ∈ xs := List.getElem_mem hj
      have e : xs[j] = true := by simpa [List.getD, hj] using hb
      rw [e] at hm
      exact hc _ hm rfl
  · rw [show decide (cnt xs = 0) = false by simpa using hc]
    unfold cnt at hc
    have hp : 0 < xs.countP id := by omega
    rw [List.countP_pos_iff] at hp
    obtain ⟨x, hm, hx⟩ := hp
    obtain ⟨i, hi, rfl⟩ := List.mem_iff_getElem.1 hm
    have hxi : xs.getD i false = true := by simpa [List.getD, hi] using hx
    obtain ⟨j, hj, hmin⟩ := least_nat (P := fun j => xs.getD j false = true) i hxi
    have hjl : j < xs.length := by
      by_cases hjl : j < xs.length
      · exact hjl
      · have hj' : xs.getD j false = true := hj
        simp [List.getD, hjl] at hj'
    refine tok_hit (k := j) (by omega) (fun q _ hq => ?_) (by rw [hz]; exact hj)
    rw [hz]
    cases hb : xs.getD q false
    · rfl
    · have := hmin q hb; omega
end Go.Proofs.Ythjocjiiihebbaa
