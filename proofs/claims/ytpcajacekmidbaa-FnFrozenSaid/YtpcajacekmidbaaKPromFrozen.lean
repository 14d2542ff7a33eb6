/- The law FnFrozen: its walk. -/
import Derived.Test.YtpcajacekmidbaaKFlipE
import Derived.Test.YtpcajacekmidbaaKFlipsOf
import Derived.Test.YtpcajacekmidbaaKDpT
namespace Go.Proofs.Ytpcajacekmidbaa
open Go.RowKit Go.Maps
set_option linter.unusedVariables false
set_option maxRecDepth 100000
set_option linter.unusedSimpArgs false

def Sep (v u : Value) : Prop := ∀ b, v.ownBlock = some b → u.ownBlock ≠ some b
theorem Sep.symm {v u : Value} (h : Sep v u) : Sep u v := fun b hb hv => h b hv hb
end Go.Proofs.Ytpcajacekmidbaa

namespace Go.Proofs.Ytpcajacekmidbaa
open Go.RowKit
set_option linter.unusedVariables false
set_option maxRecDepth 100000
set_option linter.unusedSimpArgs false

def lessF (xs : List Bool) (L : List Nat) (i : Nat) : Bool := xs.getD i false && !L.contains i
def lessB (xs : List Bool) (L : List Nat) : List Bool := tab xs.length (lessF xs L)
theorem lessB_len (xs : List Bool) (L : List Nat) : (lessB xs L).length = xs.length := by simp [lessB, tab_len]
theorem lessB_get {xs : List Bool} (L : List Nat) {i : Nat} (h : i < xs.length) : (lessB xs L).getD i false = (xs.getD i false && !L.contains i) := by
 unfold lessB; rw [tab_getD _ h]; rfl
end Go.Proofs.Ytpcajacekmidbaa

namespace Go.Proofs.Ytpcajacekmidbaa
open Go.RowKit Go.Maps
set_option linter.unusedVariables false
set_option maxRecDepth 100000
set_option linter.unusedSimpArgs false

def tilT (W T : Int) (xs : List Bool) : Int := if rv W T xs then (dpT W T xs : Int) else -1
end Go.Proofs.Ytpcajacekmidbaa

namespace Go.Proofs.Ytpcajacekmidbaa
open Go.RowKit
set_option linter.unusedVariables false
set_option maxRecDepth 100000
set_option linter.unusedSimpArgs false

def canTake (W T : Int) (xs : List Bool) (k way : Int) : Bool := decide (0 ≤ cellB W T xs.length k way) && (xs.getD k.toNat false && xs.getD (cellB W T xs.length k way).toNat false)
def withN (W T : Int) (xs : List Bool) (k way : Int) : Nat := if canTake W T xs k way then dpT W T (lessB xs [k.toNat, (cellB W T xs.length k way).toNat]) else 0
end Go.Proofs.Ytpcajacekmidbaa

namespace Go.Proofs.Ytpcajacekmidbaa
open Go.RowKit
set_option linter.unusedVariables false
set_option maxRecDepth 100000
set_option linter.unusedSimpArgs false

end Go.Proofs.Ytpcajacekmidbaa

namespace Go.Proofs.Ytpcajacekmidbaa
open Go.RowKit
set_option linter.unusedVariables false
set_option maxRecDepth 100000
set_option linter.unusedSimpArgs false

theorem bit_add : ∀ s : Fin 64, ∀ d : Fin 7, ∀ j : Fin 40, s.val / 2 ^ d.val % 2 = 0 → (s.val + 2 ^ d.val) / 2 ^ j.val % 2 = if j.val = d.val then 1 else s.val / 2 ^ j.val % 2 := by decide +kernel

theorem bit_lt : ∀ s : Fin 64, ∀ d : Fin 7, ∀ m : Fin 8, s.val < 2 ^ m.val → d.val < m.val → s.val / 2 ^ d.val % 2 = 0 → s.val + 2 ^ d.val < 2 ^ m.val := by decide +kernel
theorem bit_lt' {s d m : Nat} (hs : s < 64) (h6 : d ≤ 6) (hm : s < 2 ^ m) (hd : d < m) (hb : s / 2 ^ d % 2 = 0) : s + 2 ^ d < 2 ^ m := by
 by_cases h : m < 8
 · exact bit_lt ⟨s, hs⟩ ⟨d, by omega⟩ ⟨m, h⟩ hm hd hb
 · have h1 : (2 : Nat) ^ 8 ≤ 2 ^ m := Nat.pow_le_pow_right (by decide) (by omega)
   have h2 : (2 : Nat) ^ d ≤ 2 ^ 6 := Nat.pow_le_pow_right (by decide) h6
   have h3 : (2 : Nat) ^ 8 = 256 := by decide
   have h4 : (2 : Nat) ^ 6 = 64 := by decide
   omega

def cutF (xs : List Bool) (k s i : Nat) : Bool := decide (k ≤ i) && (xs.getD i false && decide (s / 2 ^ (i - k) % 2 = 0))
def cutB (xs : List Bool) (k s : Nat) : List Bool := tab xs.length (cutF xs k s)
theorem cutB_len (xs : List Bool) (k s : Nat) : (cutB xs k s).length = xs.length := by simp [cutB, tab_len]
theorem cutB_get {xs : List Bool} {i : Nat} (k s : Nat) (h : i < xs.length) : (cutB xs k s).getD i false = cutF xs k s i := by unfold cutB; rw [tab_getD _ h]
theorem cutB_ext {xs ys : List Bool} {k s k' s' : Nat} (hl : xs.length = ys.length) (h : ∀ i, i < xs.length → cutF xs k s i = cutF ys k' s' i) : cutB xs k s = cutB ys k' s' := by
 unfold cutB
 rw [← hl]
 exact tab_congr h

theorem div_pow_succ (s j : Nat) : s / 2 / 2 ^ j = s / 2 ^ (j + 1) := by
 rw [Nat.div_div_eq_div_mul, Nat.pow_succ, Nat.mul_comm]

theorem cut_half {xs : List Bool} {k s : Nat} : cutB xs (k + 1) (s / 2) = cutB (cutB xs k s) (k + 1) 0 := by
 refine cutB_ext (cutB_len xs k s).symm (fun i hi => ?_)
 unfold cutF
 rw [cutB_get k s hi]
 unfold cutF
 by_cases h : k + 1 ≤ i
 · have e : i - k = (i - (k + 1)) + 1 := by omega
   have h2 : k ≤ i := by omega
   rw [div_pow_succ, ← e]
   simp [h, h2]
 · simp [h]

theorem cut_add {xs : List Bool} {k s d : Nat} (hs : s < 64) (h1 : 1 ≤ d) (h6 : d ≤ 6) (hn : xs.length ≤ 36) (hb : s / 2 ^ d % 2 = 0) : cutB xs (k + 1) ((s + 2 ^ d) / 2) = cutB (cutB xs k s) (k + 1) ((0 + 2 ^ d) / 2) := by
 refine cutB_ext (cutB_len xs k s).symm (fun i hi => ?_)
 unfold cutF
 rw [cutB_get k s hi]
 unfold cutF
 by_cases h : k + 1 ≤ i
 · have e : i - k = (i - (k + 1)) + 1 := by omega
   have h2 : k ≤ i := by omega
   rw [div_pow_succ, div_pow_succ, ← e]
   have b1 := bit_add ⟨s, hs⟩ ⟨d, by omega⟩ ⟨i - k, by omega⟩ hb
   have b0 := bit_add ⟨0, by omega⟩ ⟨d, by omega⟩ ⟨i - k, by omega⟩ (by simp)
   simp only at b1 b0
   rw [b1, b0]
   by_cases hd : i - k = d
   · simp [hd]
   · simp [hd, h, h2]
 · simp [h]

theorem optW_cut {W T : Int} {xs : List Bool} {k s : Nat} {way : Int} (hw : way = 1 ∨ way = 2) (hW : 1 ≤ W) (hW6 : W ≤ 6) (hWT : (xs.length : Int) = W * T) (hk : k < xs.length) :
 (optW W T xs k s way = [] ∧ optW W T (cutB xs k s) k 0 way = []) ∨ ∃ d : Nat, 1 ≤ d ∧ d ≤ 6 ∧ k + d < xs.length ∧ s / 2 ^ d % 2 = 0 ∧ optW W T xs k s way = [(s + 2 ^ d) / 2] ∧ optW W T (cutB xs k s) k 0 way = [(0 + 2 ^ d) / 2] := by
 have hl := cutB_len xs k s
 rcases step_cases (s := s) (xs := xs) hw hW hW6 hWT hk with ⟨he, hO⟩ | ⟨d, h1, h6, he, hlt, hc⟩
 · left
   refine ⟨hO, ?_⟩
   unfold optW
   rw [he, if_neg (by omega)]
 · have e1 : (stepI W T k way).toNat = k + d := by omega
   have e2 : k + d - k = d := by omega
   have hg : (cutB xs k s).getD (k + d) false = (xs.getD (k + d) false && decide (s / 2 ^ d % 2 = 0)) := by
    rw [cutB_get k s hlt]
    unfold cutF
    rw [e2]
    simp
   have hO2 : optW W T (cutB xs k s) k 0 way = if (cutB xs k s).getD (k + d) false = true then [(0 + 2 ^ d) / 2] else [] := by
    unfold optW
    rw [e1, e2, he]
    by_cases q : (cutB xs k s).getD (k + d) false = true
    · rw [if_pos q, if_pos ⟨by omega, q, by simp⟩]
    · rw [if_neg q, if_neg (fun r => q r.2.1)]
   rcases hc with ⟨hcd, hO⟩ | ⟨hcd, hb, hO⟩ | ⟨hcd, hb, hO⟩
   · left
     refine ⟨hO, ?_⟩
     rw [hO2, hg, hcd]
     simp
   · left
     refine ⟨hO, ?_⟩
     rw [hO2, hg, hcd, decide_eq_false hb]
     simp
   · right
     refine ⟨d, h1, h6, hlt, hb, hO, ?_⟩
     rw [hO2, hg, hcd, decide_eq_true hb]
     simp

theorem cut_eq {W T : Int} (hW : 1 ≤ W) (hW6 : W ≤ 6) : ∀ (m k s : Nat) (xs : List Bool), (xs.length : Int) = W * T → xs.length ≤ 36 → k + m = xs.length → s < 2 ^ W.toNat → s < 2 ^ m → dpN W T xs m k s = dpN W T (cutB xs k s) m k 0
 | 0, _, s, _, _, _, _, _, hs2 => by
   have : s = 0 := by simpa using hs2
   subst this
   rfl
 | m + 1, k, s, xs, hWT, hn, hkm, hs, hs2 => by
   obtain ⟨pw2, pw64⟩ := pow_le64 hW hW6
   have hl := cutB_len xs k s
   have hk : k < xs.length := by omega
   have hhalf : s / 2 < 2 ^ m := by rw [Nat.pow_succ] at hs2; omega
   have IH : ∀ (s' : Nat) (ys : List Bool), ys.length = xs.length → s' < 2 ^ W.toNat → s' < 2 ^ m → dpN W T ys m (k + 1) s' = dpN W T (cutB ys (k + 1) s') m (k + 1) 0 := fun s' ys hy h1 h2 =>
    cut_eq hW hW6 m (k + 1) s' ys (by rw [hy]; exact hWT) (by omega) (by omega) h1 h2
   have hg : (cutB xs k s).getD k false = (xs.getD k false && decide (s % 2 = 0)) := by
    rw [cutB_get k s hk]
    unfold cutF
    simp
   show ((dpOpts W T xs k s).map (dpN W T xs m (k + 1))).sum = ((dpOpts W T (cutB xs k s) k 0).map (dpN W T (cutB xs k s) m (k + 1))).sum
   by_cases hc : xs.getD k false = false ∨ s % 2 = 1
   · have hg0 : (cutB xs k s).getD k false = false := by
      rw [hg]
      rcases hc with h | h
      · rw [h]; rfl
      · rw [decide_eq_false (by omega), Bool.and_false]
     have e1 : dpOpts W T xs k s = [s / 2] := by unfold dpOpts; rw [if_pos hc]
     have e2 : dpOpts W T (cutB xs k s) k 0 = [0] := by unfold dpOpts; rw [if_pos (Or.inl hg0)]
     rw [e1, e2]
     simp only [List.map_cons, List.map_nil, List.sum_cons, List.sum_nil, Nat.add_zero]
     rw [IH (s / 2) xs rfl (by omega) hhalf, IH 0 (cutB xs k s) hl (by omega) (Nat.two_pow_pos m), cut_half]
   · have hx : xs.getD k false = true := by
      cases h : xs.getD k false
      · exact absurd (Or.inl h) hc
      · rfl
     have hse : s % 2 = 0 := by have : ¬ s % 2 = 1 := fun h => hc (Or.inr h); omega
     have hg1 : (cutB xs k s).getD k false = true := by rw [hg, hx, decide_eq_true hse]; rfl
     have e1 : dpOpts W T xs k s = optW W T xs k s 1 ++ optW W T xs k s 2 := by unfold dpOpts; rw [if_neg hc]; simp [optsTo]
     have e2 : dpOpts W T (cutB xs k s) k 0 = optW W T (cutB xs k s) k 0 1 ++ optW W T (cutB xs k s) k 0 2 := by
      unfold dpOpts
      rw [if_neg (by rw [hg1]; simp)]
      simp [optsTo]
     rw [e1, e2]
     simp only [List.map_append, List.sum_append]
     have one : ∀ way : Int, way = 1 ∨ way = 2 → ((optW W T xs k s way).map (dpN W T xs m (k + 1))).sum = ((optW W T (cutB xs k s) k 0 way).map (dpN W T (cutB xs k s) m (k + 1))).sum := by
      intro way hw
      rcases optW_cut (s := s) hw hW hW6 hWT hk with ⟨h1, h2⟩ | ⟨d, h1, h6, hlt, hb, ho1, ho2⟩
      · rw [h1, h2]
        rfl
      · have b1 := optW_lt (xs := xs) (k := k) (s := s) hw hW hW6 hs ((s + 2 ^ d) / 2) (by rw [ho1]; simp)
        have b2 := optW_lt (T := T) (xs := cutB xs k s) (k := k) (s := 0) hw hW hW6 (by omega) ((0 + 2 ^ d) / 2) (by rw [ho2]; simp)
        have c1 := bit_lt' (m := m + 1) (by omega) h6 hs2 (by omega) hb
        have c2 := bit_lt' (s := 0) (d := d) (m := m + 1) (by omega) h6 (Nat.two_pow_pos _) (by omega) (by simp)
        rw [Nat.pow_succ] at c1 c2
        rw [ho1, ho2]
        simp only [List.map_cons, List.map_nil, List.sum_cons, List.sum_nil, Nat.add_zero]
        rw [IH _ xs rfl b1 (by omega), IH _ (cutB xs k s) hl b2 (by omega), cut_add (by omega) h1 h6 hn hb]
     rw [one 1 (Or.inl rfl), one 2 (Or.inr rfl)]

theorem skip_eq {W T : Int} {ys : List Bool} : ∀ k, k ≤ ys.length → (∀ i, i < k → ys.getD i false = false) → dpN W T ys ys.length 0 0 = dpN W T ys (ys.length - k) k 0
 | 0, _, _ => rfl
 | k + 1, hk, h => by
   rw [skip_eq k (by omega) (fun i hi => h i (by omega))]
   have e : ys.length - k = (ys.length - (k + 1)) + 1 := by omega
   rw [e]
   show ((dpOpts W T ys k 0).map (dpN W T ys (ys.length - (k + 1)) (k + 1))).sum = _
   have e2 : dpOpts W T ys k 0 = [0] := by unfold dpOpts; rw [if_pos (Or.inl (h k (by omega)))]
   rw [e2]
   simp

theorem dp_split {W T : Int} {ys : List Bool} {c : Nat} (hW : 1 ≤ W) (hW6 : W ≤ 6) (hWT : (ys.length : Int) = W * T) (hn : ys.length ≤ 36) (hc : c < ys.length) (h0 : ∀ i, i < c → ys.getD i false = false) (hy : ys.getD c false = true) :
 dpT W T ys = withN W T ys c 1 + withN W T ys c 2 := by
 obtain ⟨pw2, pw64⟩ := pow_le64 hW hW6
 unfold dpT
 rw [skip_eq c (by omega) h0]
 have e : ys.length - c = (ys.length - (c + 1)) + 1 := by omega
 rw [e]
 obtain ⟨m, hm⟩ : ∃ m, m = ys.length - (c + 1) := ⟨_, rfl⟩
 rw [← hm]
 show ((dpOpts W T ys c 0).map (dpN W T ys m (c + 1))).sum = _
 have e2 : dpOpts W T ys c 0 = optW W T ys c 0 1 ++ optW W T ys c 0 2 := by
  unfold dpOpts
  rw [if_neg (by rw [hy]; simp)]
  simp [optsTo]
 rw [e2]
 simp only [List.map_append, List.sum_append]
 have one : ∀ way : Int, way = 1 ∨ way = 2 → ((optW W T ys c 0 way).map (dpN W T ys m (c + 1))).sum = withN W T ys c way := by
  intro way hw
  have hcell : cellB W T ys.length c way = stepI W T c way := by unfold cellB; rw [if_pos (by omega)]
  rcases step_cases (s := 0) (xs := ys) hw hW hW6 hWT hc with ⟨he, hO⟩ | ⟨d, h1, h6, he, hlt, hcs⟩
  · rw [hO]
    unfold withN canTake
    rw [hcell, he]
    rfl
  · have hcan : canTake W T ys c way = ys.getD (c + d) false := by
     unfold canTake
     rw [hcell, he, decide_eq_true (by omega), Int.toNat_natCast, Int.toNat_natCast, hy]
     simp
    rcases hcs with ⟨hcd, hO⟩ | ⟨hcd, hb, hO⟩ | ⟨hcd, hb, hO⟩
    · rw [hO]
      unfold withN
      rw [hcan, hcd]
      rfl
    · exact absurd (by simp) hb
    · rw [hO]
      have hw2 : withN W T ys c way = dpT W T (lessB ys [c, c + d]) := by
       unfold withN
       rw [hcan, hcd, hcell, he, Int.toNat_natCast, Int.toNat_natCast]
       rfl
      rw [hw2]
      simp only [List.map_cons, List.map_nil, List.sum_cons, List.sum_nil, Nat.add_zero]
      have b2 := optW_lt (T := T) (xs := ys) (k := c) (s := 0) hw hW hW6 (by omega) ((0 + 2 ^ d) / 2) (by rw [hO]; simp)
      have c2 := bit_lt' (s := 0) (d := d) (m := m + 1) (by omega) h6 (Nat.two_pow_pos _) (by omega) (by simp)
      rw [Nat.pow_succ] at c2
      rw [cut_eq hW hW6 m (c + 1) _ ys hWT hn (by omega) b2 (by omega)]
      have ec : cutB ys (c + 1) ((0 + 2 ^ d) / 2) = lessB ys [c, c + d] := by
       unfold cutB lessB
       refine tab_congr (fun i hi => ?_)
       unfold cutF lessF
       by_cases h : c + 1 ≤ i
       · have e3 : i - c = (i - (c + 1)) + 1 := by omega
         have b0 := bit_add ⟨0, by omega⟩ ⟨d, by omega⟩ ⟨i - c, by omega⟩ (by simp)
         simp only at b0
         rw [div_pow_succ, ← e3, b0]
         by_cases hd : i - c = d
         · have : i = c + d := by omega
           subst this
           simp [h]
         · have hne1 : i ≠ c + d := by omega
           have hne2 : i ≠ c := by omega
           simp [h, hd, hne1, hne2]
       · rcases Nat.lt_or_ge i c with hi2 | hi2
         · rw [h0 i hi2]; simp
         · have : i = c := by omega
           subst this
           rw [decide_eq_false h]
           simp
      rw [ec]
      have hl2 := lessB_len ys [c, c + d]
      unfold dpT
      rw [skip_eq (ys := lessB ys [c, c + d]) (c + 1) (by rw [hl2]; omega) ?_, hl2, ← hm]
      intro i hi
      rw [lessB_get _ (by omega)]
      rcases Nat.lt_or_ge i c with hi2 | hi2
      · rw [h0 i hi2]; rfl
      · have : i = c := by omega
        subst this
        simp
 rw [one 1 (Or.inl rfl), one 2 (Or.inr rfl)]

end Go.Proofs.Ytpcajacekmidbaa

namespace Go.Proofs.Ytpcajacekmidbaa
open Go.RowKit
set_option linter.unusedVariables false
set_option maxRecDepth 100000
set_option linter.unusedSimpArgs false

theorem lessB_at {ys : List Bool} (L : List Nat) (i : Nat) : (lessB ys L).getD i false = (ys.getD i false && !L.contains i) := by
 rcases Nat.lt_or_ge i ys.length with h | h
 · exact lessB_get L h
 · rw [List.getD_eq_getElem?_getD, List.getD_eq_getElem?_getD, List.getElem?_eq_none (by rw [lessB_len]; exact h), List.getElem?_eq_none h]
   rfl
theorem lessB_two (ys : List Bool) (a b i : Nat) : (lessB ys [a, b]).getD i false = (ys.getD i false && !(decide (i = a) || decide (i = b))) := by
 rw [lessB_at]
 by_cases h1 : i = a
 · subst h1; simp
 · by_cases h2 : i = b
   · subst h2; simp
   · simp [h1, h2]
theorem can_parts {W T : Int} {ys : List Bool} {k way : Int} (hW : 1 ≤ W) (hWT : (ys.length : Int) = W * T) (h : canTake W T ys k way = true) :
 ∃ kn on : Nat, k = kn ∧ stepI W T kn way = on ∧ kn < ys.length ∧ on < ys.length ∧ on ≠ kn ∧ ys.getD kn false = true ∧ ys.getD on false = true ∧ 1 ≤ way ∧ way ≤ 4 ∧ withN W T ys k way = dpT W T (lessB ys [kn, on]) := by
 have hc := h
 unfold canTake at h
 rw [Bool.and_eq_true, Bool.and_eq_true, decide_eq_true_eq] at h
 obtain ⟨h0, h1, h2⟩ := h
 have hbd := cellB_bd (W := W) (T := T) (n := ys.length) (k := k) (way := way) hW hWT h0
 obtain ⟨kn, rfl⟩ : ∃ kn : Nat, k = kn := ⟨k.toNat, by omega⟩
 obtain ⟨on, hon⟩ : ∃ on : Nat, cellB W T ys.length kn way = on := ⟨(cellB W T ys.length kn way).toNat, by omega⟩
 have hok := hbd.2.2.2.2
 simp only [okOf, decide_eq_true_eq] at hok
 rw [hon] at hbd h2
 rw [Int.toNat_natCast] at h1 h2
 have hs : stepI W T kn way = on := by have := hon; unfold cellB at this; rw [if_pos (by omega)] at this; exact this
 refine ⟨kn, on, rfl, hs, by omega, by omega, by omega, h1, h2, hok.1, hok.2, ?_⟩
 unfold withN
 rw [hc, hon, Int.toNat_natCast, Int.toNat_natCast]
 rfl

theorem can_of {W T : Int} {ys : List Bool} {kn on : Nat} {way : Int} (hk : kn < ys.length) (hs : stepI W T kn way = on) (h1 : ys.getD kn false = true) (h2 : ys.getD on false = true) : canTake W T ys kn way = true ∧ withN W T ys kn way = dpT W T (lessB ys [kn, on]) := by
 have hcell : cellB W T ys.length kn way = on := by unfold cellB; rw [if_pos (by omega)]; exact hs
 have hc : canTake W T ys kn way = true := by
  unfold canTake
  rw [hcell, decide_eq_true (by omega), Int.toNat_natCast, Int.toNat_natCast, h1, h2]
  rfl
 refine ⟨hc, ?_⟩
 unfold withN
 rw [hc, hcell, Int.toNat_natCast, Int.toNat_natCast]
 rfl

end Go.Proofs.Ytpcajacekmidbaa

namespace Go.Proofs.Ytpcajacekmidbaa
open Go.RowKit
set_option linter.unusedVariables false
set_option maxRecDepth 100000
set_option linter.unusedSimpArgs false

set_option maxHeartbeats 1000000 in
theorem iTilingsMany_any (W T : Int) (a : Option Addr) (n cap : Nat) (xs : List Bool) (w : World) (hn : n = xs.length) (hn' : n ≤ 1048576) (ha : BoolsAt w a xs) :
 Calls Try.prog 39 #[.agg #[.int .i64 W, .int .i64 T, .slice a n cap]] w fun e w' => e = .returned (.int .i64 (tilT W T xs)) ∧ Below w.heap.size w w' := by
 have HN := Lib.hid hn; clear hn
 have HA := Lib.hid ha; clear ha
 by_cases h : rv W T xs = true
 · obtain ⟨hW0, hW1, hT0, hT1, v5, _⟩ := rv_true h
   have HWT : Hid ((n : Int) = W * T) := by show _ = _; rw [HN.out]; exact v5
   clear v5
   have hres : tilT W T xs = (dpT W T xs : Int) := by unfold tilT; rw [if_pos h]
   rw [hres]
   clear hres
   have H := Lib.hid h; clear h
   go_enter Try.func39, Try.ntmps39
   go_wp2_with fail
   refine (iRegionValid_any _ _ _ _ _ xs _ HN.out hn' (HA.out.one _)).mono ?_; rintro e w1 ⟨rfl, hb1⟩
   have p1 := heap_later (heap_new w _) hb1
   have b1 := below_seq (below1 _ _) hb1
   obtain ⟨c0, c1, c2⟩ := cells3 p1
   rw [H.out]
   go_wp2_with fail
   refine (tilingsIn_any _ _ _ _ _ xs _ HN.out hW0 hW1 hT0 hT1 HWT.out (HA.out.below b1)).mono ?_; rintro e w2 ⟨rfl, hb2⟩
   go_wp2
   go_ret
   exact ⟨rfl, below_seq b1 hb2⟩
 · have hres : tilT W T xs = -1 := by unfold tilT; rw [if_neg h]
   rw [hres]
   rw [Bool.not_eq_true] at h
   clear hres
   go_enter Try.func39, Try.ntmps39
   go_wp2_with fail
   refine (iRegionValid_any _ _ _ _ _ xs _ HN.out hn' (HA.out.one _)).mono ?_; rintro e w1 ⟨rfl, hb1⟩
   rw [h]
   go_wp2
   go_ret
   exact ⟨rfl, below_seq (below1 _ _) hb1⟩

end Go.Proofs.Ytpcajacekmidbaa

namespace Go.Proofs.Ytpcajacekmidbaa
open Go.RowKit
set_option linter.unusedVariables false
set_option maxRecDepth 100000
set_option linter.unusedSimpArgs false

def freeL (xs : List Bool) (L : List Int) : List Bool := tab xs.length (freeB xs L)
theorem freeL_len (xs : List Bool) (L : List Int) : (freeL xs L).length = xs.length := tab_len _ _
theorem freeL_at {xs : List Bool} {L : List Int} {i : Nat} (h : i < xs.length) : (freeL xs L).getD i false = freeB xs L i := tab_getD _ h
theorem dp_none {W T : Int} {ys : List Bool} (h : ∀ i, i < ys.length → ys.getD i false = false) : dpT W T ys = 1 := by
 unfold dpT
 rw [skip_eq ys.length (Nat.le_refl _) h, Nat.sub_self]
 rfl
theorem free_less {xs : List Bool} {L : List Int} {a o : Nat} {x y : Int} (ha : a < L.length) (ho : o < L.length) (hl : L.length = xs.length) (hx : x ≠ 0) (hy : y ≠ 0) : freeL xs ((L.set a x).set o y) = lessB (freeL xs L) [a, o] := by
 refine list_ext (by rw [freeL_len]; unfold lessB; rw [tab_len, freeL_len]) fun i hi => ?_
 rw [freeL_len] at hi
 rw [lessB_two, freeL_at hi, freeL_at hi]
 unfold freeB
 rw [getD_set2 ha ho]
 by_cases e1 : i = o
 · rw [if_pos e1, e1]
   have : (y == 0) = false := by simpa using hy
   rw [this]; simp
 · rw [if_neg e1]
   by_cases e2 : i = a
   · rw [if_pos e2, e2]
     have : (x == 0) = false := by simpa using hx
     rw [this]; simp
   · rw [if_neg e2]; simp [e1, e2]
theorem allL_dp {W T : Int} {xs : List Bool} : ∀ (f : Nat) (L : List Int), freeN xs L < f → lok W T xs L = true → (allL W T xs f L).length = dpT W T (freeL xs L)
 | 0, L, h, _ => absurd h (Nat.not_lt_zero _)
 | f + 1, L, hf, hl => by
   obtain ⟨hr, hlen, _⟩ := lok_rv hl
   obtain ⟨v1, v2, v3, v4, v5, _⟩ := rv_true hr
   have h36 : xs.length ≤ 36 := by
    have : W * T ≤ 6 * 6 := Int.mul_le_mul v2 v4 (by omega) (by omega)
    omega
   rcases first_cases xs L 0 xs.length with ⟨h0, hno⟩ | ⟨c, _, hc, h0, hfc, hno⟩
   · rw [allL_done h0 (by omega), dp_none]
     · rfl
     · intro i hi
       rw [freeL_len] at hi
       rw [freeL_at hi]; exact hno i (Nat.zero_le _) hi
   · rw [allL_succ h0 (by omega), List.length_append]
     rw [dp_split v1 v2 (c := c) (by rw [freeL_len]; exact v5) (by rw [freeL_len]; exact h36) (by rw [freeL_len]; exact hc) (fun i hi => by rw [freeL_at (by omega)]; exact hno i (Nat.zero_le _) hi) (by rw [freeL_at hc]; exact hfc)]
     have part : ∀ way : Int, way = 1 ∨ way = 2 → (if canLay W T xs L c way = true then allL W T xs f (laidL W T xs L c way) else []).length = withN W T (freeL xs L) c way := by
      intro way hw
      by_cases hcan : canLay W T xs L c way = true
      · rw [if_pos hcan]
        obtain ⟨kn, o, e, hk, ho, hne, hs, hfk, hfo, w1, w4, hb, el⟩ := canLay_at hr hlen hcan
        have : kn = c := by omega
        subst this
        rw [allL_dp f _ (by have := free_drop' hw hl hcan; omega) (lok_laid hl hcan)]
        rw [(can_of (ys := freeL xs L) (kn := kn) (on := o) (by rw [freeL_len]; exact hk) hs (by rw [freeL_at hk]; exact hfk) (by rw [freeL_at ho]; exact hfo)).2]
        rw [el, free_less (by omega) (by omega) hlen (by omega) (by unfold backI; omega)]
      · rw [if_neg hcan]
        by_cases ht : canTake W T (freeL xs L) c way = true
        · exfalso
          obtain ⟨kn, on, e, hs, hk, ho, hne, h1, h2, w1, w4, _⟩ := can_parts v1 (by rw [freeL_len]; exact v5) ht
          have : kn = c := by omega
          subst this
          rw [freeL_len] at hk ho
          rw [freeL_at hk] at h1
          rw [freeL_at ho] at h2
          exact hcan (canLay_of hr hk hs h1 h2).1
        · unfold withN
          rw [if_neg ht]; rfl
     rw [part 1 (Or.inl rfl), part 2 (Or.inr rfl)]
theorem allF_dp {W T : Int} {xs : List Bool} (h : rv W T xs = true) : (allF W T xs).length = dpT W T xs := by
 unfold allF
 rw [if_pos h, allL_dp _ _ (by have := freeN_le xs (bareL W T xs); omega) (by rw [lok_bareL]; exact h)]
 congr 1
 refine list_ext (freeL_len _ _) fun i hi => ?_
 rw [freeL_len] at hi
 rw [freeL_at hi]
 unfold freeB
 rw [bare_zero]
 simp
end Go.Proofs.Ytpcajacekmidbaa

namespace Go.Proofs.Ytpcajacekmidbaa
open Go.RowKit
set_option linter.unusedVariables false
set_option maxRecDepth 100000
set_option linter.unusedSimpArgs false

end Go.Proofs.Ytpcajacekmidbaa

namespace Go.Proofs.Ytpcajacekmidbaa
open Go.RowKit
set_option linter.unusedVariables false
set_option maxRecDepth 100000
set_option linter.unusedSimpArgs false

theorem flips_mem {W T : Int} {L : List Int} {c N : Nat} (hN : (W + 1) * (T + 1) = (N : Int)) (hc : c < N) (hm : mayB W T L c = true) : (c : Int) ∈ flipsL W T L := by
 unfold flipsL flipsK
 rw [List.mem_map]
 exact ⟨c, by rw [List.mem_filter, List.mem_range]; exact ⟨by omega, hm⟩, rfl⟩
theorem two_flip {W T : Int} {xs : List Bool} {L M : List Int} (hs : simpleB W T xs = true) (ht : tok W T xs L = true) (ht' : tok W T xs M = true) (hne : L ≠ M) : ∃ (c N : Nat), (W + 1) * (T + 1) = (N : Int) ∧ c < N ∧ mayB W T L c = true := by
 obtain ⟨v1, v2, v3, v4, v5, _⟩ := rv_true (simpleB_rv hs)
 have hcb := corn_bd v1 v2 v3 v4
 obtain ⟨N, hN⟩ := Int.eq_ofNat_of_zero_le (show 0 ≤ (W + 1) * (T + 1) by omega)
 obtain ⟨f, hf⟩ := Int.eq_ofNat_of_zero_le (simple_first hs hN)
 obtain ⟨H, hH⟩ := hts_exist hs ht hN hf
 obtain ⟨G, hG⟩ := hts_exist hs ht' hN hf
 have hd : ∃ k, k < N ∧ H.getD k 0 ≠ G.getD k 0 := by
  apply Classical.byContradiction; intro hc
  have he : H = G := by
   apply List.ext_getElem
   · rw [hH.len, hG.len]
   · intro k h1 h2
     have h3 : H.getD k 0 = G.getD k 0 := by
      apply Classical.byContradiction; intro h4
      exact hc ⟨k, by rw [← hH.len]; exact h1, h4⟩
     rw [List.getD_eq_getElem?_getD, List.getD_eq_getElem?_getD, List.getElem?_eq_getElem h1, List.getElem?_eq_getElem h2] at h3
     exact h3
  subst he
  exact hne (hts_inj hN ht ht' hH hG)
 obtain ⟨k, hk, hkd⟩ := hd
 by_cases hlt : G.getD k 0 < H.getD k 0
 · obtain ⟨c, h1, h2, _⟩ := flip_to hs hN hf ht ht' hH hG 1 (Or.inl rfl) ⟨k, hk, by omega⟩
   exact ⟨c, N, hN, h1, h2⟩
 · obtain ⟨c, h1, h2, _⟩ := flip_to hs hN hf ht ht' hH hG (-1) (Or.inr rfl) ⟨k, hk, by omega⟩
   exact ⟨c, N, hN, h1, h2⟩
theorem alone_len : ∀ (l : List (List Int)) (L : List Int), L ∈ l → l.Nodup → (∀ M ∈ l, M = L) → l.length = 1
 | [], L, h, _, _ => by cases h
 | [_], L, _, _, _ => rfl
 | a :: b :: l, L, _, hn, h => by
   have e1 := h a (by simp)
   have e2 := h b (by simp)
   rw [List.nodup_cons] at hn
   exact absurd (by rw [e1, e2]; simp) hn.1
theorem frozen_one {W T : Int} {xs : List Bool} {L : List Int} (hs : simpleB W T xs = true) (hz : frozenB W T xs L = true) : tilT W T xs = 1 := by
 unfold frozenB at hz
 rw [Bool.and_eq_true] at hz
 obtain ⟨ht, hem⟩ := hz
 have hr := simpleB_rv hs
 unfold tilT
 rw [if_pos hr, ← allF_dp hr]
 have := alone_len (allF W T xs) L (mem_allF ht) (allF_nodup W T xs) (fun M hM => by
  apply Classical.byContradiction; intro hne
  obtain ⟨c, N, hN, h1, h2⟩ := two_flip hs ht (mem_allF_iff.1 hM) (fun e => hne e.symm)
  have := flips_mem hN h1 h2
  rw [List.isEmpty_iff] at hem
  rw [hem] at this; cases this)
 rw [this]; rfl
theorem frozen_flips {W T : Int} {xs : List Bool} {L : List Int} (hz : frozenB W T xs L = true) : flipsF W T xs L = [] := by
 unfold frozenB at hz
 rw [Bool.and_eq_true] at hz
 unfold flipsF
 rw [tok_lok1 hz.1, if_pos rfl]
 exact List.isEmpty_iff.1 hz.2

end Go.Proofs.Ytpcajacekmidbaa

namespace Go.Proofs.Ytpcajacekmidbaa
open Go.RowKit
set_option linter.unusedVariables false
set_option maxRecDepth 100000
set_option linter.unusedSimpArgs false

set_option maxHeartbeats 4000000 in
theorem promFrozen_walk (cb : Option Addr) (n cap : Nat) (zs : List Int) (w : World) (hn : n = zs.length) (hn' : n ≤ maxLen) (hcap : n ≤ cap) (hb : BytesAt w cb zs) :
 Calls Try.prog 7 #[.slice cb n cap] w fun e w' => e = .returned (.bool true) ∧ Below w.heap.size w w' := by
 have HN := Lib.hid hn; clear hn
 have HB := Lib.hid hb; clear hb
 by_cases hbig : 1048576 < n
 · unfold maxLen at hn'
   go_enter Try.func7, Try.ntmps7
   go_wp2
   go_ret
   exact ⟨rfl, Below.refl _ _⟩
 have hsm : n ≤ 1048576 := by omega
 clear hbig hn'
 go_enter Try.func7, Try.ntmps7
 go_wp2_with fail
 refine (drawFrozen_any _ _ _ zs _ HN.out hsm hcap HB.out).mono ?_; rintro e w1 ⟨W0, T0, a, m, c, xs, la, q, lcap, L, rfl, hm, h36, hs, ho, hq, hq36, hi, b1⟩
 have HM := Lib.hid hm; clear hm
 have HQ := Lib.hid hq; clear hq
 have A1 := Lib.hid (OwnsB.at ho); clear ho
 have I1 := Lib.hid (OwnsI.at hi); clear hi
 obtain ⟨s0, s1, s2, s3⟩ := hs
 obtain ⟨z, hz⟩ : ∃ z, frozenB W0 T0 xs L = z := ⟨_, rfl⟩
 have HZ := Lib.hid hz
 have hbb : (z != z) = false := by simp
 go_wp2_with fail
 refine (iFrozen_any _ _ _ _ _ xs _ _ _ L _ HM.out (by omega) HQ.out (by omega) (A1.out.one _) (I1.out.one _)).mono ?_; rintro e w2 ⟨rfl, hb2⟩
 rw [HZ.out]
 have b2 := below_seq (below_seq b1 (below1 _ _)) hb2
 have pr2 := heap_later (heap_new w1 (.cells #[.int .i64 W0, .int .i64 T0, .slice a m c] 25)) hb2
 have A2 := Lib.hid ((A1.out.one (.cells #[.int .i64 W0, .int .i64 T0, .slice a m c] 25)).below hb2)
 have I2 := Lib.hid ((I1.out.one (.cells #[.int .i64 W0, .int .i64 T0, .slice a m c] 25)).below hb2)
 obtain ⟨cr20, cr21, cr22⟩ := cells3 pr2
 have lr2 := heap_lt pr2
 go_wp2_with fail
 refine (sFrozen_any _ _ _ _ _ xs _ _ _ L _ HM.out (by omega) HQ.out (by omega) A2.out I2.out).mono ?_; rintro e w3 ⟨rfl, hb3⟩
 rw [HZ.out]
 have b3 := below_seq b2 hb3
 have pr3 := heap_later pr2 hb3
 have A3 := Lib.hid (A2.out.below hb3)
 have I3 := Lib.hid (I2.out.below hb3)
 clear cr20 cr21 cr22 lr2
 obtain ⟨cr30, cr31, cr32⟩ := cells3 pr3
 have lr3 := heap_lt pr3
 cases z
 · clear hz
   go_wp2_with fail
   refine (alive_any _).mono ?_; rintro e w4 ⟨rfl, hb4⟩
   go_wp2
   go_ret
   exact ⟨rfl, below_seq b3 hb4⟩
 · have hnil := frozen_flips hz
   have HNIL := Lib.hid hnil; clear hnil
   cases hs : simpleB W0 T0 xs
   · have HS := Lib.hid hs; clear hs hz
     go_wp2_with fail
     refine (iSimple_any _ _ _ _ _ xs _ HM.out (by omega) A3.out).mono ?_; rintro e w4 ⟨rfl, hb4⟩
     rw [HS.out]
     have b4 := below_seq b3 hb4
     have pr4 := heap_later pr3 hb4
     have A4 := Lib.hid (A3.out.below hb4)
     have I4 := Lib.hid (I3.out.below hb4)
     clear cr30 cr31 cr32 lr3
     obtain ⟨cr40, cr41, cr42⟩ := cells3 pr4
     have lr4 := heap_lt pr4
     go_wp2_with fail
     refine (iFlipsOf_ret _ _ _ _ _ xs _ _ _ L _ HM.out (by omega) HQ.out (by omega) A4.out I4.out).mono ?_; rintro e w5 ⟨a5, cap5, rfl, ho5, hb5⟩
     rw [HNIL.out] at ho5 ⊢
     clear ho5
     have b5 := below_seq b4 hb5
     have pr5 := heap_later pr4 hb5
     have A5 := Lib.hid (A4.out.below hb5)
     have I5 := Lib.hid (I4.out.below hb5)
     clear cr40 cr41 cr42 lr4
     obtain ⟨cr50, cr51, cr52⟩ := cells3 pr5
     have lr5 := heap_lt pr5
     go_wp2_with fail
     refine (alive_any _).mono ?_; rintro e w6 ⟨rfl, hb6⟩
     go_wp2
     go_ret
     exact ⟨rfl, below_seq b5 hb6⟩
   · have hone := frozen_one hs hz
     have HONE := Lib.hid hone; clear hone
     have HS := Lib.hid hs; clear hs hz
     go_wp2_with fail
     refine (iSimple_any _ _ _ _ _ xs _ HM.out (by omega) A3.out).mono ?_; rintro e w4 ⟨rfl, hb4⟩
     rw [HS.out]
     have b4 := below_seq b3 hb4
     have pr4 := heap_later pr3 hb4
     have A4 := Lib.hid (A3.out.below hb4)
     have I4 := Lib.hid (I3.out.below hb4)
     clear cr30 cr31 cr32 lr3
     obtain ⟨cr40, cr41, cr42⟩ := cells3 pr4
     have lr4 := heap_lt pr4
     go_wp2_with fail
     refine (iTilingsMany_any _ _ _ _ _ xs _ HM.out (by omega) A4.out).mono ?_; rintro e w5 ⟨rfl, hb5⟩
     rw [HONE.out]
     have b5 := below_seq b4 hb5
     have pr5 := heap_later pr4 hb5
     have A5 := Lib.hid (A4.out.below hb5)
     have I5 := Lib.hid (I4.out.below hb5)
     clear cr40 cr41 cr42 lr4
     obtain ⟨cr50, cr51, cr52⟩ := cells3 pr5
     have lr5 := heap_lt pr5
     go_wp2_with fail
     refine (iFlipsOf_ret _ _ _ _ _ xs _ _ _ L _ HM.out (by omega) HQ.out (by omega) A5.out I5.out).mono ?_; rintro e w6 ⟨a6, cap6, rfl, ho6, hb6⟩
     rw [HNIL.out] at ho6 ⊢
     clear ho6
     have b6 := below_seq b5 hb6
     have pr6 := heap_later pr5 hb6
     have A6 := Lib.hid (A5.out.below hb6)
     have I6 := Lib.hid (I5.out.below hb6)
     clear cr50 cr51 cr52 lr5
     obtain ⟨cr60, cr61, cr62⟩ := cells3 pr6
     have lr6 := heap_lt pr6
     go_wp2_with fail
     refine (alive_any _).mono ?_; rintro e w7 ⟨rfl, hb7⟩
     go_wp2
     go_ret
     exact ⟨rfl, below_seq b6 hb7⟩

end Go.Proofs.Ytpcajacekmidbaa
