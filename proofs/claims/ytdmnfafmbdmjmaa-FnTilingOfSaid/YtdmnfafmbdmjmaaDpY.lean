/- Plain facts: a region's count of tilings is the sum of the counts with the two dominoes that its first cell may have. No statement is proved here. Merged of: DpX, DpY. -/
import Derived.Test.YtdmnfafmbdmjmaaWith
import Derived.Test.YtdmnfafmbdmjmaaRank
namespace Go.Proofs.Ytdmnfafmbdmjmaa
open Go.RowKit
set_option linter.unusedVariables false
set_option maxRecDepth 100000
set_option linter.unusedSimpArgs false

theorem bit_add : ∀ s : Fin 64, ∀ d : Fin 7, ∀ j : Fin 40, s.val / 2 ^ d.val % 2 = 0 → (s.val + 2 ^ d.val) / 2 ^ j.val % 2 = if j.val = d.val then 1 else s.val / 2 ^ j.val % 2 := by decide +kernel

theorem bit_lt : ∀ s : Fin 64, ∀ d : Fin 7, ∀ m : Fin 8, s.val < 2 ^ m.val → d.val < m.val → s.val / 2 ^ d.val % 2 = 0 → s.val + 2 ^ d.val < 2 ^ m.val := by decide +kernel
theorem bit_lt' {s d m : Nat} (hs : s < 64) (h6 : d ≤ 6) (hm : s < 2 ^ m) (hd : d < m) (hb : s / 2 ^ d % 2 = 0) : s + 2 ^ d < 2 ^ m := by
  by_cases h : m < 8
  · exact bit_lt ⟨s, hs⟩ ⟨d, by omega⟩ ⟨m, h⟩ hm hd hb
  · have h1 : (2 : Nat) ^ 8 ≤ 2 ^ m := Nat.pow_le_pow_right (by decide) (by omega)
    have h2 : (2 : Nat) ^ d ≤ 2 ^ 6 := Nat.pow_le_pow_right (by decide) h6
    have h3 : (2 : Nat) ^ 8 = 256 := by decide
    have h4 : (2 : Nat) ^ 6 = 64 := by decide
    omega

/-- What is left of the cells from the k-th on, without those covered. -/
def cutF (xs : List Bool) (k s i : Nat) : Bool := decide (k ≤ i) && (xs.getD i false && decide (s / 2 ^ (i - k) % 2 = 0))
def cutB (xs : List Bool) (k s : Nat) : List Bool := tab xs.length (cutF xs k s)
theorem cutB_len (xs : List Bool) (k s : Nat) : (cutB xs k s).length = xs.length := by simp [cutB, tab_len]
theorem cutB_get {xs : List Bool} {i : Nat} (k s : Nat) (h : i < xs.length) : (cutB xs k s).getD i false = cutF xs k s i := by unfold cutB; rw [tab_getD _ h]
theorem cutB_ext {xs ys : List Bool} {k s k' s' : Nat} (hl : xs.length = ys.length) (h : ∀ i, i < xs.length → cutF xs k s i = cutF ys k' s' i) : cutB xs k s = cutB ys k' s' := by
  unfold cutB
  rw [← hl]
  exact tab_congr h

theorem div_pow_succ (s j : Nat) : s / 2 / 2 ^ j = s / 2 ^ (j + 1) := by
  rw [Nat.div_div_eq_div_mul, Nat.pow_succ, Nat.mul_comm]

theorem cut_half {xs : List Bool} {k s : Nat} : cutB xs (k + 1) (s / 2) = cutB (cutB xs k s) (k + 1) 0 := by
  refine cutB_ext (cutB_len xs k s).symm (fun i hi => ?_)
  unfold cutF
  rw [cutB_get k s hi]
  unfold cutF
  by_cases h : k + 1 ≤ i
  · have e : i - k = (i - (k + 1)) + 1 := by omega
    have h2 : k ≤ i := by omega
    rw [div_pow_succ, ← e]
    simp [h, h2]
  · simp [h]

theorem cut_add {xs : List Bool} {k s d : Nat} (hs : s < 64) (h1 : 1 ≤ d) (h6 : d ≤ 6) (hn : xs.length ≤ 36) (hb : s / 2 ^ d % 2 = 0) : cutB xs (k + 1) ((s + 2 ^ d) / 2) = cutB (cutB xs k s) (k + 1) ((0 + 2 ^ d) / 2) := by
  refine cutB_ext (cutB_len xs k s).symm (fun i hi => ?_)
  unfold cutF
  rw [cutB_get k s hi]
  unfold cutF
  by_cases h : k + 1 ≤ i
  · have e : i - k = (i - (k + 1)) + 1 := by omega
    have h2 : k ≤ i := by omega
    rw [div_pow_succ, div_pow_succ, ← e]
    have b1 := bit_add ⟨s, hs⟩ ⟨d, by omega⟩ ⟨i - k, by omega⟩ hb
    have b0 := bit_add ⟨0, by omega⟩ ⟨d, by omega⟩ ⟨i - k, by omega⟩ (by simp)
    simp only at b1 b0
    rw [b1, b0]
    by_cases hd : i - k = d
    · simp [hd]
    · simp [hd, h, h2]
  · simp [h]

theorem optW_cut {W T : Int} {xs : List Bool} {k s : Nat} {way : Int} (hw : way = 1 ∨ way = 2) (hW : 1 ≤ W) (hW6 : W ≤ 6) (hWT : (xs.length : Int) = W * T) (hk : k < xs.length) :
    (optW W T xs k s way = [] ∧ optW W T (cutB xs k s) k 0 way = []) ∨ ∃ d : Nat, 1 ≤ d ∧ d ≤ 6 ∧ k + d < xs.length ∧ s / 2 ^ d % 2 = 0 ∧ optW W T xs k s way = [(s + 2 ^ d) / 2] ∧ optW W T (cutB xs k s) k 0 way = [(0 + 2 ^ d) / 2] := by
  have hl := cutB_len xs k s
  rcases step_cases (s := s) (xs := xs) hw hW hW6 hWT hk with ⟨he, hO⟩ | ⟨d, h1, h6, he, hlt, hc⟩
  · left
    refine ⟨hO, ?_⟩
    unfold optW
    rw [he, if_neg (by omega)]
  · have e1 : (stepI W T k way).toNat = k + d := by omega
    have e2 : k + d - k = d := by omega
    have hg : (cutB xs k s).getD (k + d) false = (xs.getD (k + d) false && decide (s / 2 ^ d % 2 = 0)) := by
      rw [cutB_get k s hlt]
      unfold cutF
      rw [e2]
      simp
    have hO2 : optW W T (cutB xs k s) k 0 way = if (cutB xs k s).getD (k + d) false = true then [(0 + 2 ^ d) / 2] else [] := by
      unfold optW
      rw [e1, e2, he]
      by_cases q : (cutB xs k s).getD (k + d) false = true
      · rw [if_pos q, if_pos ⟨by omega, q, by simp⟩]
      · rw [if_neg q, if_neg (fun r => q r.2.1)]
    rcases hc with ⟨hcd, hO⟩ | ⟨hcd, hb, hO⟩ | ⟨hcd, hb, hO⟩
    · left
      refine ⟨hO, ?_⟩
      rw [hO2, hg, hcd]
      simp
    · left
      refine ⟨hO, ?_⟩
      rw [hO2, hg, hcd, decide_eq_false hb]
      simp
    · right
      refine ⟨d, h1, h6, hlt, hb, hO, ?_⟩
      rw [hO2, hg, hcd, decide_eq_true hb]
      simp

/-- The count goes by what is left alone. -/
theorem cut_eq {W T : Int} (hW : 1 ≤ W) (hW6 : W ≤ 6) : ∀ (m k s : Nat) (xs : List Bool), (xs.length : Int) = W * T → xs.length ≤ 36 → k + m = xs.length → s < 2 ^ W.toNat → s < 2 ^ m → dpN W T xs m k s = dpN W T (cutB xs k s) m k 0
  | 0, _, s, _, _, _, _, _, hs2 => by
    have : s = 0 := by simpa using hs2
    subst this
    rfl
  | m + 1, k, s, xs, hWT, hn, hkm, hs, hs2 => by
    obtain ⟨pw2, pw64⟩ := pow_le64 hW hW6
    have hl := cutB_len xs k s
    have hk : k < xs.length := by omega
    have hhalf : s / 2 < 2 ^ m := by rw [Nat.pow_succ] at hs2; omega
    have IH : ∀ (s' : Nat) (ys : List Bool), ys.length = xs.length → s' < 2 ^ W.toNat → s' < 2 ^ m → dpN W T ys m (k + 1) s' = dpN W T (cutB ys (k + 1) s') m (k + 1) 0 := fun s' ys hy h1 h2 =>
      cut_eq hW hW6 m (k + 1) s' ys (by rw [hy]; exact hWT) (by omega) (by omega) h1 h2
    have hg : (cutB xs k s).getD k false = (xs.getD k false && decide (s % 2 = 0)) := by
      rw [cutB_get k s hk]
      unfold cutF
      simp
    show ((dpOpts W T xs k s).map (dpN W T xs m (k + 1))).sum = ((dpOpts W T (cutB xs k s) k 0).map (dpN W T (cutB xs k s) m (k + 1))).sum
    by_cases hc : xs.getD k false = false ∨ s % 2 = 1
    · have hg0 : (cutB xs k s).getD k false = false := by
        rw [hg]
        rcases hc with h | h
        · rw [h]; rfl
        · rw [decide_eq_false (by omega), Bool.and_false]
      have e1 : dpOpts W T xs k s = [s / 2] := by unfold dpOpts; rw [if_pos hc]
      have e2 : dpOpts W T (cutB xs k s) k 0 = [0] := by unfold dpOpts; rw [if_pos (Or.inl hg0)]
      rw [e1, e2]
      simp only [List.map_cons, List.map_nil, List.sum_cons, List.sum_nil, Nat.add_zero]
      rw [IH (s / 2) xs rfl (by omega) hhalf, IH 0 (cutB xs k s) hl (by omega) (Nat.two_pow_pos m), cut_half]
    · have hx : xs.getD k false = true := by
        cases h : xs.getD k false
        · exact absurd (Or.inl h) hc
        · rfl
      have hse : s % 2 = 0 := by have : ¬ s % 2 = 1 := fun h => hc (Or.inr h); omega
      have hg1 : (cutB xs k s).getD k false = true := by rw [hg, hx, decide_eq_true hse]; rfl
      have e1 : dpOpts W T xs k s = optW W T xs k s 1 ++ optW W T xs k s 2 := by unfold dpOpts; rw [if_neg hc]; simp [optsTo]
      have e2 : dpOpts W T (cutB xs k s) k 0 = optW W T (cutB xs k s) k 0 1 ++ optW W T (cutB xs k s) k 0 2 := by
        unfold dpOpts
        rw [if_neg (by rw [hg1]; simp)]
        simp [optsTo]
      rw [e1, e2]
      simp only [List.map_append, List.sum_append]
      have one : ∀ way : Int, way = 1 ∨ way = 2 → ((optW W T xs k s way).map (dpN W T xs m (k + 1))).sum = ((optW W T (cutB xs k s) k 0 way).map (dpN W T (cutB xs k s) m (k + 1))).sum := by
        intro way hw
        rcases optW_cut (s := s) hw hW hW6 hWT hk with ⟨h1, h2⟩ | ⟨d, h1, h6, hlt, hb, ho1, ho2⟩
        · rw [h1, h2]
          rfl
        · have b1 := optW_lt (xs := xs) (k := k) (s := s) hw hW hW6 hs ((s + 2 ^ d) / 2) (by rw [ho1]; simp)
          have b2 := optW_lt (T := T) (xs := cutB xs k s) (k := k) (s := 0) hw hW hW6 (by omega) ((0 + 2 ^ d) / 2) (by rw [ho2]; simp)
          have c1 := bit_lt' (m := m + 1) (by omega) h6 hs2 (by omega) hb
          have c2 := bit_lt' (s := 0) (d := d) (m := m + 1) (by omega) h6 (Nat.two_pow_pos _) (by omega) (by simp)
          rw [Nat.pow_succ] at c1 c2
          rw [ho1, ho2]
          simp only [List.map_cons, List.map_nil, List.sum_cons, List.sum_nil, Nat.add_zero]
          rw [IH _ xs rfl b1 (by omega), IH _ (cutB xs k s) hl b2 (by omega), cut_add (by omega) h1 h6 hn hb]
      rw [one 1 (Or.inl rfl), one 2 (Or.inr rfl)]

/-- Cells that are not there take no part. -/
theorem skip_eq {W T : Int} {ys : List Bool} : ∀ k, k ≤ ys.length → (∀ i, i < k → ys.getD i false = false) → dpN W T ys ys.length 0 0 = dpN W T ys (ys.length - k) k 0
  | 0, _, _ => rfl
  | k + 1, hk, h => by
    rw [skip_eq k (by omega) (fun i hi => h i (by omega))]
    have e : ys.length - k = (ys.length - (k + 1)) + 1 := by omega
    rw [e]
    show ((dpOpts W T ys k 0).map (dpN W T ys (ys.length - (k + 1)) (k + 1))).sum = _
    have e2 : dpOpts W T ys k 0 = [0] := by unfold dpOpts; rw [if_pos (Or.inl (h k (by omega)))]
    rw [e2]
    simp

/-- The first cell's domino goes to the east or to the north. -/
theorem dp_split {W T : Int} {ys : List Bool} {c : Nat} (hW : 1 ≤ W) (hW6 : W ≤ 6) (hWT : (ys.length : Int) = W * T) (hn : ys.length ≤ 36) (hc : c < ys.length) (h0 : ∀ i, i < c → ys.getD i false = false) (hy : ys.getD c false = true) :
    dpT W T ys = withN W T ys c 1 + withN W T ys c 2 := by
  obtain ⟨pw2, pw64⟩ := pow_le64 hW hW6
  unfold dpT
  rw [skip_eq c (by omega) h0]
  have e : ys.length - c = (ys.length - (c + 1)) + 1 := by omega
  rw [e]
  obtain ⟨m, hm⟩ : ∃ m, m = ys.length - (c + 1) := ⟨_, rfl⟩
  rw [← hm]
  show ((dpOpts W T ys c 0).map (dpN W T ys m (c + 1))).sum = _
  have e2 : dpOpts W T ys c 0 = optW W T ys c 0 1 ++ optW W T ys c 0 2 := by
    unfold dpOpts
    rw [if_neg (by rw [hy]; simp)]
    simp [optsTo]
  rw [e2]
  simp only [List.map_append, List.sum_append]
  have one : ∀ way : Int, way = 1 ∨ way = 2 → ((optW W T ys c 0 way).map (dpN W T ys m (c + 1))).sum = withN W T ys c way := by
    intro way hw
    have hcell : cellB W T ys.length c way = stepI W T c way := by unfold cellB; rw [if_pos (by omega)]
    rcases step_cases (s := 0) (xs := ys) hw hW hW6 hWT hc with ⟨he, hO⟩ | ⟨d, h1, h6, he, hlt, hcs⟩
    · rw [hO]
      unfold withN canTake
      rw [hcell, he]
      rfl
    · have hcan : canTake W T ys c way = ys.getD (c + d) false := by
        unfold canTake
        rw [hcell, he, decide_eq_true (by omega), Int.toNat_natCast, Int.toNat_natCast, hy]
        simp
      rcases hcs with ⟨hcd, hO⟩ | ⟨hcd, hb, hO⟩ | ⟨hcd, hb, hO⟩
      · rw [hO]
        unfold withN
        rw [hcan, hcd]
        rfl
      · exact absurd (by simp) hb
      · rw [hO]
        have hw2 : withN W T ys c way = dpT W T (lessB ys [c, c + d]) := by
          unfold withN
          rw [hcan, hcd, hcell, he, Int.toNat_natCast, Int.toNat_natCast]
          rfl
        rw [hw2]
        simp only [List.map_cons, List.map_nil, List.sum_cons, List.sum_nil, Nat.add_zero]
        have b2 := optW_lt (T := T) (xs := ys) (k := c) (s := 0) hw hW hW6 (by omega) ((0 + 2 ^ d) / 2) (by rw [hO]; simp)
        have c2 := bit_lt' (s := 0) (d := d) (m := m + 1) (by omega) h6 (Nat.two_pow_pos _) (by omega) (by simp)
        rw [Nat.pow_succ] at c2
        rw [cut_eq hW hW6 m (c + 1) _ ys hWT hn (by omega) b2 (by omega)]
        have ec : cutB ys (c + 1) ((0 + 2 ^ d) / 2) = lessB ys [c, c + d] := by
          unfold cutB lessB
          refine tab_congr (fun i hi => ?_)
          unfold cutF lessF
          by_cases h : c + 1 ≤ i
          · have e3 : i - c = (i - (c + 1)) + 1 := by omega
            have b0 := bit_add ⟨0, by omega⟩ ⟨d, by omega⟩ ⟨i - c, by omega⟩ (by simp)
            simp only at b0
            rw [div_pow_succ, ← e3, b0]
            by_cases hd : i - c = d
            · have : i = c + d := by omega
              subst this
              simp [h]
            · have hne1 : i ≠ c + d := by omega
              have hne2 : i ≠ c := by omega
              simp [h, hd, hne1, hne2]
          · rcases Nat.lt_or_ge i c with hi2 | hi2
            · rw [h0 i hi2]; simp
            · have : i = c := by omega
              subst this
              rw [decide_eq_false h]
              simp
        rw [ec]
        have hl2 := lessB_len ys [c, c + d]
        unfold dpT
        rw [skip_eq (ys := lessB ys [c, c + d]) (c + 1) (by rw [hl2]; omega) ?_, hl2, ← hm]
        intro i hi
        rw [lessB_get _ (by omega)]
        rcases Nat.lt_or_ge i c with hi2 | hi2
        · rw [h0 i hi2]; rfl
        · have : i = c := by omega
          subst this
          simp
  rw [one 1 (Or.inl rfl), one 2 (Or.inr rfl)]

end Go.Proofs.Ytdmnfafmbdmjmaa

namespace Go.Proofs.Ytdmnfafmbdmjmaa
open Go.RowKit
set_option linter.unusedVariables false
set_option maxRecDepth 100000
set_option linter.unusedSimpArgs false

theorem lessB_at {ys : List Bool} (L : List Nat) (i : Nat) : (lessB ys L).getD i false = (ys.getD i false && !L.contains i) := by
  rcases Nat.lt_or_ge i ys.length with h | h
  · exact lessB_get L h
  · rw [List.getD_eq_getElem?_getD, List.getD_eq_getElem?_getD, List.getElem?_eq_none (by rw [lessB_len]; exact h), List.getElem?_eq_none h]
    rfl
theorem lessB_two (ys : List Bool) (a b i : Nat) : (lessB ys [a, b]).getD i false = (ys.getD i false && !(decide (i = a) || decide (i = b))) := by
  rw [lessB_at]
  by_cases h1 : i = a
  · subst h1; simp
  · by_cases h2 : i = b
    · subst h2; simp
    · simp [h1, h2]
theorem lessB_eq {xs ys : List Bool} {L M : List Nat} (hl : xs.length = ys.length) (h : ∀ i, (lessB xs L).getD i false = (lessB ys M).getD i false) : lessB xs L = lessB ys M := by
  unfold lessB
  rw [← hl]
  refine tab_congr (fun i hi => ?_)
  have := h i
  rw [lessB_at, lessB_at] at this
  exact this
theorem countP_less {p q : Nat → Bool} {a : Nat} : ∀ {l : List Nat}, (∀ x ∈ l, p x = true → q x = true) → a ∈ l → q a = true → p a = false → l.countP p < l.countP q
  | [], _, ha, _, _ => by cases ha
  | x :: r, h, ha, hq, hp => by
    have hm : r.countP p ≤ r.countP q := List.countP_mono_left (fun y hy => h y (List.mem_cons_of_mem _ hy))
    simp only [List.countP_cons]
    by_cases e : a = x
    · subst e
      rw [hq, hp]
      simp
      omega
    · have ha' : a ∈ r := by
        rcases List.mem_cons.1 ha with h' | h'
        · exact absurd h' e
        · exact h'
      have ih := countP_less (l := r) (fun y hy => h y (List.mem_cons_of_mem _ hy)) ha' hq hp
      have hx := h x (List.mem_cons_self ..)
      cases hpx : p x
      · simp; split <;> omega
      · rw [hx hpx]; simp; omega
theorem cnt_drop {ys : List Bool} {a b : Nat} (ha : ys.getD a false = true) : cnt (lessB ys [a, b]) < cnt ys := by
  have e : cnt ys = cnt (tab ys.length (fun i => ys.getD i false)) := by rw [tab_of]
  rw [e]
  unfold lessB
  rw [cnt_tab, cnt_tab]
  refine countP_less (a := a) (fun i _ h => ?_) (List.mem_range.2 (getD_lt ha)) ha ?_
  · unfold lessF at h
    rw [Bool.and_eq_true] at h
    exact h.1
  · unfold lessF
    simp

/-- What a domino from a cell is made of. -/
theorem can_parts {W T : Int} {ys : List Bool} {k way : Int} (hW : 1 ≤ W) (hWT : (ys.length : Int) = W * T) (h : canTake W T ys k way = true) :
    ∃ kn on : Nat, k = kn ∧ stepI W T kn way = on ∧ kn < ys.length ∧ on < ys.length ∧ on ≠ kn ∧ ys.getD kn false = true ∧ ys.getD on false = true ∧ 1 ≤ way ∧ way ≤ 4 ∧ withN W T ys k way = dpT W T (lessB ys [kn, on]) := by
  have hc := h
  unfold canTake at h
  rw [Bool.and_eq_true, Bool.and_eq_true, decide_eq_true_eq] at h
  obtain ⟨h0, h1, h2⟩ := h
  have hbd := cellB_bd (W := W) (T := T) (n := ys.length) (k := k) (way := way) hW hWT h0
  obtain ⟨kn, rfl⟩ : ∃ kn : Nat, k = kn := ⟨k.toNat, by omega⟩
  obtain ⟨on, hon⟩ : ∃ on : Nat, cellB W T ys.length kn way = on := ⟨(cellB W T ys.length kn way).toNat, by omega⟩
  have hok := hbd.2.2.2.2
  simp only [okOf, decide_eq_true_eq] at hok
  rw [hon] at hbd h2
  rw [Int.toNat_natCast] at h1 h2
  have hs : stepI W T kn way = on := by have := hon; unfold cellB at this; rw [if_pos (by omega)] at this; exact this
  refine ⟨kn, on, rfl, hs, by omega, by omega, by omega, h1, h2, hok.1, hok.2, ?_⟩
  unfold withN
  rw [hc, hon, Int.toNat_natCast, Int.toNat_natCast]
  rfl

theorem can_of {W T : Int} {ys : List Bool} {kn on : Nat} {way : Int} (hk : kn < ys.length) (hs : stepI W T kn way = on) (h1 : ys.getD kn false = true) (h2 : ys.getD on false = true) : canTake W T ys kn way = true ∧ withN W T ys kn way = dpT W T (lessB ys [kn, on]) := by
  have hcell : cellB W T ys.length kn way = on := by unfold cellB; rw [if_pos (by omega)]; exact hs
  have hc : canTake W T ys kn way = true := by
    unfold canTake
    rw [hcell, decide_eq_true (by omega), Int.toNat_natCast, Int.toNat_natCast, h1, h2]
    rfl
  refine ⟨hc, ?_⟩
  unfold withN
  rw [hc, hcell, Int.toNat_natCast, Int.toNat_natCast]
  rfl

theorem first_on {ys : List Bool} {k : Nat} (h : ys.getD k false = true) : ∃ c, c ≤ k ∧ ys.getD c false = true ∧ ∀ i, i < c → ys.getD i false = false := by
  have hmin : ∀ m j, j ≤ m → ys.getD j false = true → ∃ c, c ≤ j ∧ ys.getD c false = true ∧ ∀ i, i < c → ys.getD i false = false := by
    intro m
    induction m with
    | zero => intro j hj hy; exact ⟨j, Nat.le_refl _, hy, fun i hi => by omega⟩
    | succ m ih =>
      intro j hj hy
      by_cases hx : ∃ i, i < j ∧ ys.getD i false = true
      · obtain ⟨i, hi, hyi⟩ := hx
        obtain ⟨c, h1, h2, h3⟩ := ih i (by omega) hyi
        exact ⟨c, by omega, h2, h3⟩
      · exact ⟨j, Nat.le_refl _, hy, fun i hi => by
          cases hb : ys.getD i false
          · rfl
          · exact absurd ⟨i, hi, hb⟩ hx⟩
  exact hmin k k (Nat.le_refl _) h

/-- A step to a later cell goes to the east or to the north. -/
theorem step_later {W T : Int} {k o : Nat} {way : Int} (hW : 1 ≤ W) (h : stepI W T k way = o) (hlt : k < o) : way = 1 ∨ way = 2 := by
  unfold stepI at h
  split at h
  · rename_i q; exact Or.inl q.1
  · split at h
    · rename_i q; exact Or.inr q.1
    · split at h
      · omega
      · split at h <;> omega

theorem with_le {W T : Int} (hW : 1 ≤ W) (hW6 : W ≤ 6) : ∀ (N : Nat) (ys : List Bool) (k way : Int), cnt ys ≤ N → (ys.length : Int) = W * T → ys.length ≤ 36 → withN W T ys k way ≤ dpT W T ys
  | N, ys, k, way, hN, hWT, h36 => by
    cases hc : canTake W T ys k way
    · unfold withN; rw [hc]; exact Nat.zero_le _
    · obtain ⟨kn, on, rfl, hs, hk, ho, hne, hyk, hyo, hw1, hw4, hwe⟩ := can_parts hW hWT hc
      obtain ⟨c, hck, hyc, hcf⟩ := first_on hyk
      have hsp := dp_split (W := W) (T := T) hW hW6 hWT h36 (by omega) hcf hyc
      by_cases e1 : c = kn
      · subst e1
        have hlt : c < on := by
          rcases Nat.lt_or_ge on c with h' | h'
          · rw [hcf on h'] at hyo; cases hyo
          · omega
        rcases step_later hW hs hlt with rfl | rfl <;> omega
      · by_cases e2 : c = on
        · subst e2
          have hb := rk_back (W := W) (T := T) (k := (kn : Int)) (way := way) hW hW6 (by omega) (by omega) (by omega) (by rw [hs]; omega)
          rw [hs] at hb
          obtain ⟨_, hw2⟩ := can_of (W := W) (T := T) (ys := ys) (kn := c) (on := kn) (way := backI way) ho hb hyo hyk
          have e3 : lessB ys [c, kn] = lessB ys [kn, c] := lessB_eq rfl (fun i => by rw [lessB_two, lessB_two, Bool.or_comm])
          rw [e3, ← hwe] at hw2
          rcases step_later hW hb (by omega) with hq | hq <;> rw [hq] at hw2 <;> omega
        · have hzc : (lessB ys [kn, on]).getD c false = true := by rw [lessB_two, hyc]; simp [e1, e2]
          have hzl := lessB_len ys [kn, on]
          have hsz := dp_split (W := W) (T := T) (ys := lessB ys [kn, on]) (c := c) hW hW6 (by rw [hzl]; exact hWT) (by omega) (by omega) (fun i hi => by rw [lessB_two, hcf i hi]; rfl) hzc
          have one : ∀ d : Int, withN W T (lessB ys [kn, on]) c d ≤ withN W T ys c d := by
            intro d
            cases hcd : canTake W T (lessB ys [kn, on]) c d
            · unfold withN; rw [hcd]; exact Nat.zero_le _
            · obtain ⟨cn, en, hcn, hs2, hk2, ho2, hne2, hy2, hye, _, _, hwe2⟩ := can_parts hW (by rw [hzl]; exact hWT) hcd
              have : cn = c := by omega
              subst this
              rw [lessB_two] at hye
              simp only [Bool.and_eq_true, Bool.not_eq_true', Bool.or_eq_false_iff, decide_eq_false_iff_not] at hye
              obtain ⟨hyen, hek, heo⟩ := hye
              obtain ⟨_, hw3⟩ := can_of (W := W) (T := T) (ys := ys) (kn := cn) (on := en) (way := d) (by omega) hs2 hyc hyen
              have hk3 : (lessB ys [cn, en]).getD kn false = true := by rw [lessB_two, hyk]; simp [Ne.symm e1, Ne.symm hek]
              have ho3 : (lessB ys [cn, en]).getD on false = true := by rw [lessB_two, hyo]; simp [Ne.symm e2, Ne.symm heo]
              have hl3 := lessB_len ys [cn, en]
              obtain ⟨_, hw4⟩ := can_of (W := W) (T := T) (ys := lessB ys [cn, en]) (kn := kn) (on := on) (way := way) (by omega) hs hk3 ho3
              have hcnt := cnt_drop (b := en) hyc
              have ih := with_le hW hW6 (N - 1) (lessB ys [cn, en]) kn way (by omega) (by rw [hl3]; exact hWT) (by omega)
              have e5 : lessB (lessB ys [kn, on]) [cn, en] = lessB (lessB ys [cn, en]) [kn, on] := lessB_eq (by rw [hzl, hl3]) (fun i => by
                rw [lessB_two, lessB_two, lessB_two, lessB_two, Bool.and_assoc, Bool.and_assoc, Bool.and_comm (!(decide (i = kn) || decide (i = on)))])
              rw [hwe2, hw3, e5, ← hw4]
              exact ih
          have o1 := one 1
          have o2 := one 2
          omega
termination_by N ys _ _ _ _ _ => cnt ys

end Go.Proofs.Ytdmnfafmbdmjmaa
