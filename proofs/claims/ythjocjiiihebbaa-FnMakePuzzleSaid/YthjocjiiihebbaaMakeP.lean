/- Plain facts on puzzles that are made: they are valid, and the tiling solves them. No statement is proved here. -/
import Derived.Test.YthjocjiiihebbaaMakeI
import Derived.Test.YthjocjiiihebbaaFair
import Derived.Test.YthjocjiiihebbaaAllP
namespace Go.Proofs.Ythjocjiiihebbaa
open Go.RowKit
set_option linter.unusedVariables false
set_option maxRecDepth 100000
set_option linter.unusedSimpArgs false

/-- The other cell of a domino does not begin one, and the domino leads back. -/
theorem oth_back {W T : Int} {xs : List Bool} {L : List Int} {k : Nat} (h : lok W T xs L = true) (hk : k < L.length) (hg : goOn L k = true) :
    othN W T L k < L.length ∧ goOn L (othN W T L k) = false ∧ stepI W T (othN W T L k) (L.getD (othN W T L k) 0) = k ∧ xs.getD k false = true ∧ xs.getD (othN W T L k) false = true ∧ othN W T L k ≠ k := by
  obtain ⟨hr, hl, _⟩ := lok_rv h
  obtain ⟨v1, v2, v3, v4, v5, _⟩ := rv_true hr
  have h0 := goOn_bd hg
  obtain ⟨hs, ho⟩ := lok_oth h hk h0
  have hb := lok_both h hk h0
  simp only [bothB, Bool.and_eq_true, decide_eq_true_eq, beq_iff_eq] at hb
  obtain ⟨⟨⟨b1, b2⟩, b3⟩, b4⟩ := hb
  have hw : L.getD k 0 = 1 ∨ L.getD k 0 = 2 := by unfold goOn at hg; simpa using hg
  have hback := rk_back (W := W) (T := T) (k := (k : Int)) (way := L.getD k 0) v1 v2 (by omega) (by rw [← v5]; omega) (by omega) b1
  rw [← b4, hs] at hback
  rw [show (stepI W T k (L.getD k 0)).toNat = othN W T L k from rfl] at b3 b4
  refine ⟨ho, ?_, hback, b2, b3, ?_⟩
  · unfold goOn
    rw [b4]
    rcases hw with e | e <;> rw [e] <;> rfl
  · intro e
    have := step_ne (W := W) (T := T) (k := (k : Int)) (way := L.getD k 0) v1 b1 (by omega)
    omega
/-- The numbers of a domino, from its stage on. -/
theorem mk_at {W T : Int} {xs : List Bool} {L : List Int} {f k : Nat} (h : lok W T xs L = true) (hk : k < L.length) (hg : goOn L k = true) :
    ∀ s, k < s → s ≤ L.length → (mkL W T L f s).getD k 0 = (lowP ((f + onN L k) % 28) : Int) ∧ (mkL W T L f s).getD (othN W T L k) 0 = (highP ((f + onN L k) % 28) : Int)
  | 0, h0, _ => absurd h0 (by omega)
  | s + 1, hks, hsl => by
    obtain ⟨o1, o2, o3, o4, o5, o6⟩ := oth_back h hk hg
    by_cases e : s = k
    · subst e
      rw [mkL_yes hg]
      have hl := mkL_len W T L f s
      rw [getD_set2 (by omega) (by omega), getD_set2 (by omega) (by omega)]
      rw [if_neg (fun e => o6 e.symm), if_pos rfl, if_pos rfl]
      exact ⟨rfl, rfl⟩
    · obtain ⟨i1, i2⟩ := mk_at h hk hg s (by omega) (by omega)
      cases hs : goOn L s
      · rw [mkL_no hs]; exact ⟨i1, i2⟩
      · obtain ⟨q1, q2, q3, q4, q5, q6⟩ := oth_back h (show s < L.length by omega) hs
        have hl := mkL_len W T L f s
        have n1 : k ≠ othN W T L s := by intro e9; rw [← e9, hg] at q2; cases q2
        have n2 : othN W T L k ≠ othN W T L s := by
          intro e9
          rw [e9] at o3
          rw [q3] at o3; omega
        have n3 : othN W T L k ≠ s := by intro e9; rw [e9, hs] at o2; cases o2
        rw [mkL_yes hs, getD_set2 (by omega) (by omega), getD_set2 (by omega) (by omega)]
        rw [if_neg n1, if_neg (fun e9 => e e9.symm), if_neg n2, if_neg n3]
        exact ⟨i1, i2⟩
theorem mk_out {W T : Int} {xs : List Bool} {L : List Int} {f c : Nat} (h : lok W T xs L = true) (hc : c < L.length) (hx : xs.getD c false = false) :
    ∀ s, s ≤ L.length → (mkL W T L f s).getD c 0 = -1
  | 0, _ => by unfold mkL; rw [List.getD_eq_getElem?_getD, List.getElem?_replicate, if_pos hc]; rfl
  | s + 1, hsl => by
    have ih := mk_out (f := f) h hc hx s (by omega)
    cases hs : goOn L s
    · rw [mkL_no hs]; exact ih
    · obtain ⟨q1, q2, q3, q4, q5, q6⟩ := oth_back h (show s < L.length by omega) hs
      have hl := mkL_len W T L f s
      have n1 : c ≠ othN W T L s := by intro e; rw [e, q5] at hx; cases hx
      have n2 : c ≠ s := by intro e; rw [e, q4] at hx; cases hx
      rw [mkL_yes hs, getD_set2 (by omega) (by omega), if_neg n1, if_neg n2]
      exact ih
theorem tok_first {W T : Int} {xs : List Bool} {L : List Int} {c : Nat} (h : tok W T xs L = true) (hc : c < L.length) (hx : xs.getD c false = true) : L.getD c 0 ≠ 0 := by
  unfold tok at h
  rw [Bool.and_eq_true, decide_eq_true_eq] at h
  intro h0
  rcases first_cases xs L 0 L.length with ⟨_, h1⟩ | ⟨k, h1, h2, h3, _⟩
  · have := h1 c (by omega) hc
    unfold freeB at this
    rw [hx, h0] at this; cases this
  · omega
/-- Every cell is in a domino. -/
theorem tok_cell9 {W T : Int} {xs : List Bool} {L : List Int} {c : Nat} (h : tok W T xs L = true) (hc : c < L.length) (hx : xs.getD c false = true) :
    ∃ k, k < L.length ∧ goOn L k = true ∧ (c = k ∨ c = othN W T L k) := by
  have hlk : lok W T xs L = true := by unfold tok at h; rw [Bool.and_eq_true] at h; exact h.1
  have h0 := tok_first h hc hx
  obtain ⟨hr, hl, _⟩ := lok_rv hlk
  obtain ⟨v1, v2, v3, v4, v5, _⟩ := rv_true hr
  cases hg : goOn L c
  · obtain ⟨hs, ho⟩ := lok_oth hlk hc h0
    have hb := lok_both hlk hc h0
    simp only [bothB, Bool.and_eq_true, decide_eq_true_eq, beq_iff_eq] at hb
    obtain ⟨⟨⟨b1, b2⟩, b3⟩, b4⟩ := hb
    rw [show (stepI W T c (L.getD c 0)).toNat = othN W T L c from rfl] at b3 b4
    have hway := lok_way hlk hc
    have hw : L.getD c 0 = 3 ∨ L.getD c 0 = 4 := by
      unfold goOn at hg
      have : ¬ L.getD c 0 = 1 ∧ ¬ L.getD c 0 = 2 := by simpa using hg
      omega
    have hback := rk_back (W := W) (T := T) (k := (c : Int)) (way := L.getD c 0) v1 v2 (by omega) (by rw [← v5]; omega) (by omega) b1
    rw [← b4, hs] at hback
    refine ⟨othN W T L c, ho, ?_, Or.inr ?_⟩
    · unfold goOn
      rw [b4]
      rcases hw with e | e <;> rw [e] <;> rfl
    · unfold othN at hback ⊢
      omega
  · exact ⟨c, hc, hg, Or.inl rfl⟩
theorem mk_valid {W T : Int} {xs : List Bool} {L : List Int} {f : Nat} (h : tok W T xs L = true) : pzv W T xs (mkL W T L f L.length) = true := by
  have hlk : lok W T xs L = true := by unfold tok at h; rw [Bool.and_eq_true] at h; exact h.1
  obtain ⟨hr, hl, _⟩ := lok_rv hlk
  refine pzv_yes hr (by rw [mkL_len]; exact hl) ?_
  unfold pzN
  rw [List.all_eq_true]
  intro c hc
  rw [List.mem_range, mkL_len] at hc
  cases hx : xs.getD c false
  · rw [pzAt_out hx, mk_out hlk hc hx _ (Nat.le_refl _)]; rfl
  · rw [pzAt_in hx]
    obtain ⟨k, hk, hg, hck⟩ := tok_cell9 h hc hx
    obtain ⟨m1, m2⟩ := mk_at (f := f) hlk hk hg L.length hk (Nat.le_refl _)
    obtain ⟨p1, p2, _, _⟩ := low_le ((f + onN L k) % 28) (Nat.mod_lt _ (by omega))
    rcases hck with rfl | rfl
    · rw [m1]; unfold digB; rw [decide_eq_true_eq]; omega
    · rw [m2]; unfold digB; rw [decide_eq_true_eq]; omega
theorem code_inj : ∀ p, p < 28 → ∀ q, q < 28 → 7 * lowP p + highP p = 7 * lowP q + highP q → p = q := by decide
theorem onN_mono {L : List Int} {j k : Nat} (h : j < k) (hg : goOn L j = true) : onN L j < onN L k := by
  have h1 : onN L (j + 1) = onN L j + 1 := by rw [onN_succ, hg]; rfl
  have h2 : ∀ d, onN L (j + 1) ≤ onN L (j + 1 + d) := by
    intro d
    induction d with
    | zero => exact Nat.le_refl _
    | succ d ih => have := onN_succ L (j + 1 + d); rw [← Nat.add_assoc]; omega
  have := h2 (k - (j + 1))
  rw [show j + 1 + (k - (j + 1)) = k by omega] at this
  omega
theorem onN_way (L : List Int) (k : Nat) : onN L k = wayN L 1 k + wayN L 2 k := by
  induction k with
  | zero => rfl
  | succ k ih =>
    rw [onN_succ, wayN_succ, wayN_succ, ih]
    unfold goOn
    cases h1 : (L.getD k 0 == 1)
    · cases h2 : (L.getD k 0 == 2)
      · simp
      · simp; omega
    · have h3 : L.getD k 0 = 1 := by simpa using h1
      rw [show (L.getD k 0 == 2) = false by rw [h3]; rfl]
      simp; omega
theorem onN_all {W T : Int} {xs : List Bool} {L : List Int} (h : tok W T xs L = true) : onN L L.length ≤ 12 := by
  have hlk : lok W T xs L = true := by unfold tok at h; rw [Bool.and_eq_true] at h; exact h.1
  obtain ⟨hr, hl, _⟩ := lok_rv hlk
  obtain ⟨v1, v2, v3, v4, v5, v6⟩ := rv_true hr
  obtain ⟨Wn, rfl⟩ := Int.eq_ofNat_of_zero_le (show 0 ≤ W by omega)
  obtain ⟨Tn, rfl⟩ := Int.eq_ofNat_of_zero_le (show 0 ≤ T by omega)
  have h2 := tok_twice h
  unfold laidN at h2
  rw [hlk, if_pos rfl] at h2
  rw [onN_way]
  omega
theorem mk_once {W T : Int} {xs : List Bool} {L : List Int} {f : Nat} (h : tok W T xs L = true) : onceB (pairsK W T (mkL W T L f L.length) L L.length) = true := by
  have hlk : lok W T xs L = true := by unfold tok at h; rw [Bool.and_eq_true] at h; exact h.1
  unfold onceB
  rw [decide_eq_true_eq]
  unfold pairsK List.Nodup
  rw [List.pairwise_map]
  have hr : (List.range L.length).Pairwise (· < ·) := List.pairwise_lt_range
  refine List.Pairwise.imp_of_mem ?_ (hr.filter _)
  intro j k hj hk hjk
  rw [List.mem_filter, List.mem_range] at hj hk
  have hall := onN_all h
  have b1 := onN_mono hjk hj.2
  have b2 := onN_mono hk.1 hk.2
  obtain ⟨m1, m2⟩ := mk_at (f := f) hlk hj.1 hj.2 L.length hj.1 (Nat.le_refl _)
  obtain ⟨m3, m4⟩ := mk_at (f := f) hlk hk.1 hk.2 L.length hk.1 (Nat.le_refl _)
  unfold pairAt
  rw [m1, m2, m3, m4]
  obtain ⟨p, hp⟩ : ∃ p, p = (f + onN L j) % 28 := ⟨_, rfl⟩
  obtain ⟨q, hq⟩ : ∃ q, q = (f + onN L k) % 28 := ⟨_, rfl⟩
  have hp28 : p < 28 := by omega
  have hq28 : q < 28 := by omega
  have hpq : p ≠ q := by omega
  rw [← hp, ← hq]
  obtain ⟨c1, c2, c3, _⟩ := low_le p hp28
  obtain ⟨d1, d2, d3, _⟩ := low_le q hq28
  have hco := fun e => hpq (code_inj p hp28 q hq28 e)
  have val : ∀ (a b : Nat), a ≤ b → b ≤ 6 → pairI (a : Int) (b : Int) = ((7 * a + b : Nat) : Int) := by
    intro a b h1 h2
    unfold pairI
    rw [show digB (a : Int) = true by unfold digB; rw [decide_eq_true_eq]; omega, show digB (b : Int) = true by unfold digB; rw [decide_eq_true_eq]; omega]
    simp only [Bool.and_self, if_true]
    omega
  rw [val _ _ c3 c2, val _ _ d3 d2]
  intro e
  exact hco (by omega)
theorem mk_solved {W T : Int} {xs : List Bool} {L : List Int} {f : Nat} (h : tok W T xs L = true) : solvedB W T xs (mkL W T L f L.length) L = true := by
  have hlk : lok W T xs L = true := by unfold tok at h; rw [Bool.and_eq_true] at h; exact h.1
  have hv := mk_valid (f := f) h
  unfold solvedB fairB pairsF
  rw [h, hlk, hv]
  simp only [Bool.and_self, if_true, Bool.true_and, Bool.and_true]
  exact mk_once h
theorem mkF_yes {W T : Int} {xs : List Bool} {L : List Int} {f : Int} (h : tok W T xs L = true) (hf : fromB f = true) : mkF W T xs L f = mkL W T L f.toNat L.length := by
  unfold mkF; rw [h, hf]; rfl
theorem mkF_no {W T : Int} {xs : List Bool} {L : List Int} {f : Int} (h : tok W T xs L = false ∨ fromB f = false) : mkF W T xs L f = [] := by
  unfold mkF; rcases h with h | h <;> rw [h] <;> simp

end Go.Proofs.Ythjocjiiihebbaa
