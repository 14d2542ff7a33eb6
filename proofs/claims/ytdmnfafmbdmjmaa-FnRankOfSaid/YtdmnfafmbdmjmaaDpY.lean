/- Plain facts: with one domino given there are no more tilings than there are in all. No statement is proved here. -/
import Derived.Test.YtdmnfafmbdmjmaaDpX
import Derived.Test.YtdmnfafmbdmjmaaRank
namespace Go.Proofs.Ytdmnfafmbdmjmaa
open Go.RowKit
set_option linter.unusedVariables false
set_option maxRecDepth 100000
set_option linter.unusedSimpArgs false

theorem lessB_at {ys : List Bool} (L : List Nat) (i : Nat) : (lessB ys L).getD i false = (ys.getD i false && !L.contains i) := by
  rcases Nat.lt_or_ge i ys.length with h | h
  · exact lessB_get L h
  · rw [List.getD_eq_getElem?_getD, List.getD_eq_getElem?_getD, List.getElem?_eq_none (by rw [lessB_len]; exact h), List.getElem?_eq_none h]
    rfl
theorem lessB_two (ys : List Bool) (a b i : Nat) : (lessB ys [a, b]).getD i false = (ys.getD i false && !(decide (i = a) || decide (i = b))) := by
  rw [lessB_at]
  by_cases h1 : i = a
  · subst h1; simp
  · by_cases h2 : i = b
    · subst h2; simp
    · simp [h1, h2]
theorem lessB_eq {xs ys : List Bool} {L M : List Nat} (hl : xs.length = ys.length) (h : ∀ i, (lessB xs L).getD i false = (lessB ys M).getD i false) : lessB xs L = lessB ys M := by
  unfold lessB
  rw [← hl]
  refine tab_congr (fun i hi => ?_)
  have := h i
  rw [lessB_at, lessB_at] at this
  exact this
theorem countP_less {p q : Nat → Bool} {a : Nat} : ∀ {l : List Nat}, (∀ x ∈ l, p x = true → q x = true) → a ∈ l → q a = true → p a = false → l.countP p < l.countP q
  | [], _, ha, _, _ => by cases ha
  | x :: r, h, ha, hq, hp => by
    have hm : r.countP p ≤ r.countP q := List.countP_mono_left (fun y hy => h y (List.mem_cons_of_mem _ hy))
    simp only [List.countP_cons]
    by_cases e : a = x
    · subst e
      rw [hq, hp]
      simp
      omega
    · have ha' : a ∈ r := by
        rcases List.mem_cons.1 ha with h' | h'
        · exact absurd h' e
        · exact h'
      have ih := countP_less (l := r) (fun y hy => h y (List.mem_cons_of_mem _ hy)) ha' hq hp
      have hx := h x (List.mem_cons_self ..)
      cases hpx : p x
      · simp; split <;> omega
      · rw [hx hpx]; simp; omega
theorem cnt_drop {ys : List Bool} {a b : Nat} (ha : ys.getD a false = true) : cnt (lessB ys [a, b]) < cnt ys := by
  have e : cnt ys = cnt (tab ys.length (fun i => ys.getD i false)) := by rw [tab_of]
  rw [e]
  unfold lessB
  rw [cnt_tab, cnt_tab]
  refine countP_less (a := a) (fun i _ h => ?_) (List.mem_range.2 (getD_lt ha)) ha ?_
  · unfold lessF at h
    rw [Bool.and_eq_true] at h
    exact h.1
  · unfold lessF
    simp

/-- What a domino from a cell is made of. -/
theorem can_parts {W T : Int} {ys : List Bool} {k way : Int} (hW : 1 ≤ W) (hWT : (ys.length : Int) = W * T) (h : canTake W T ys k way = true) :
    ∃ kn on : Nat, k = kn ∧ stepI W T kn way = on ∧ kn < ys.length ∧ on < ys.length ∧ on ≠ kn ∧ ys.getD kn false = true ∧ ys.getD on false = true ∧ 1 ≤ way ∧ way ≤ 4 ∧ withN W T ys k way = dpT W T (lessB ys [kn, on]) := by
  have hc := h
  unfold canTake at h
  rw [Bool.and_eq_true, Bool.and_eq_true, decide_eq_true_eq] at h
  obtain ⟨h0, h1, h2⟩ := h
  have hbd := cellB_bd (W := W) (T := T) (n := ys.length) (k := k) (way := way) hW hWT h0
  obtain ⟨kn, rfl⟩ : ∃ kn : Nat, k = kn := ⟨k.toNat, by omega⟩
  obtain ⟨on, hon⟩ : ∃ on : Nat, cellB W T ys.length kn way = on := ⟨(cellB W T ys.length kn way).toNat, by omega⟩
  have hok := hbd.2.2.2.2
  simp only [okOf, decide_eq_true_eq] at hok
  rw [hon] at hbd h2
  rw [Int.toNat_natCast] at h1 h2
  have hs : stepI W T kn way = on := by have := hon; unfold cellB at this; rw [if_pos (by omega)] at this; exact this
  refine ⟨kn, on, rfl, hs, by omega, by omega, by omega, h1, h2, hok.1, hok.2, ?_⟩
  unfold withN
  rw [hc, hon, Int.toNat_natCast, Int.toNat_natCast]
  rfl

theorem can_of {W T : Int} {ys : List Bool} {kn on : Nat} {way : Int} (hk : kn < ys.length) (hs : stepI W T kn way = on) (h1 : ys.getD kn false = true) (h2 : ys.getD on false = true) : canTake W T ys kn way = true ∧ withN W T ys kn way = dpT W T (lessB ys [kn, on]) := by
  have hcell : cellB W T ys.length kn way = on := by unfold cellB; rw [if_pos (by omega)]; exact hs
  have hc : canTake W T ys kn way = true := by
    unfold canTake
    rw [hcell, decide_eq_true (by omega), Int.toNat_natCast, Int.toNat_natCast, h1, h2]
    rfl
  refine ⟨hc, ?_⟩
  unfold withN
  rw [hc, hcell, Int.toNat_natCast, Int.toNat_natCast]
  rfl

theorem first_on {ys : List Bool} {k : Nat} (h : ys.getD k false = true) : ∃ c, c ≤ k ∧ ys.getD c false = true ∧ ∀ i, i < c → ys.getD i false = false := by
  have hmin : ∀ m j, j ≤ m → ys.getD j false = true → ∃ c, c ≤ j ∧ ys.getD c false = true ∧ ∀ i, i < c → ys.getD i false = false := by
    intro m
    induction m with
    | zero => intro j hj hy; exact ⟨j, Nat.le_refl _, hy, fun i hi => by omega⟩
    | succ m ih =>
      intro j hj hy
      by_cases hx : ∃ i, i < j ∧ ys.getD i false = true
      · obtain ⟨i, hi, hyi⟩ := hx
        obtain ⟨c, h1, h2, h3⟩ := ih i (by omega) hyi
        exact ⟨c, by omega, h2, h3⟩
      · exact ⟨j, Nat.le_refl _, hy, fun i hi => by
          cases hb : ys.getD i false
          · rfl
          · exact absurd ⟨i, hi, hb⟩ hx⟩
  exact hmin k k (Nat.le_refl _) h

/-- A step to a later cell goes to the east or to the north. -/
theorem step_later {W T : Int} {k o : Nat} {way : Int} (hW : 1 ≤ W) (h : stepI W T k way = o) (hlt : k < o) : way = 1 ∨ way = 2 := by
  unfold stepI at h
  split at h
  · rename_i q; exact Or.inl q.1
  · split at h
    · rename_i q; exact Or.inr q.1
    · split at h
      · omega
      · split at h <;> omega

theorem with_le {W T : Int} (hW : 1 ≤ W) (hW6 : W ≤ 6) : ∀ (N : Nat) (ys : List Bool) (k way : Int), cnt ys ≤ N → (ys.length : Int) = W * T → ys.length ≤ 36 → withN W T ys k way ≤ dpT W T ys
  | N, ys, k, way, hN, hWT, h36 => by
    cases hc : canTake W T ys k way
    · unfold withN; rw [hc]; exact Nat.zero_le _
    · obtain ⟨kn, on, rfl, hs, hk, ho, hne, hyk, hyo, hw1, hw4, hwe⟩ := can_parts hW hWT hc
      obtain ⟨c, hck, hyc, hcf⟩ := first_on hyk
      have hsp := dp_split (W := W) (T := T) hW hW6 hWT h36 (by omega) hcf hyc
      by_cases e1 : c = kn
      · subst e1
        have hlt : c < on := by
          rcases Nat.lt_or_ge on c with h' | h'
          · rw [hcf on h'] at hyo; cases hyo
          · omega
        rcases step_later hW hs hlt with rfl | rfl <;> omega
      · by_cases e2 : c = on
        · subst e2
          have hb := rk_back (W := W) (T := T) (k := (kn : Int)) (way := way) hW hW6 (by omega) (by omega) (by omega) (by rw [hs]; omega)
          rw [hs] at hb
          obtain ⟨_, hw2⟩ := can_of (W := W) (T := T) (ys := ys) (kn := c) (on := kn) (way := backI way) ho hb hyo hyk
          have e3 : lessB ys [c, kn] = lessB ys [kn, c] := lessB_eq rfl (fun i => by rw [lessB_two, lessB_two, Bool.or_comm])
          rw [e3, ← hwe] at hw2
          rcases step_later hW hb (by omega) with hq | hq <;> rw [hq] at hw2 <;> omega
        · have hzc : (lessB ys [kn, on]).getD c false = true := by rw [lessB_two, hyc]; simp [e1, e2]
          have hzl := lessB_len ys [kn, on]
          have hsz := dp_split (W := W) (T := T) (ys := lessB ys [kn, on]) (c := c) hW hW6 (by rw [hzl]; exact hWT) (by omega) (by omega) (fun i hi => by rw [lessB_two, hcf i hi]; rfl) hzc
          have one : ∀ d : Int, withN W T (lessB ys [kn, on]) c d ≤ withN W T ys c d := by
            intro d
            cases hcd : canTake W T (lessB ys [kn, on]) c d
            · unfold withN; rw [hcd]; exact Nat.zero_le _
            · obtain ⟨cn, en, hcn, hs2, hk2, ho2, hne2, hy2, hye, _, _, hwe2⟩ := can_parts hW (by rw [hzl]; exact hWT) hcd
              have : cn = c := by omega
              subst this
              rw [lessB_two] at hye
              simp only [Bool.and_eq_true, Bool.not_eq_true', Bool.or_eq_false_iff, decide_eq_false_iff_not] at hye
              obtain ⟨hyen, hek, heo⟩ := hye
              obtain ⟨_, hw3⟩ := can_of (W := W) (T := T) (ys := ys) (kn := cn) (on := en) (way := d) (by omega) hs2 hyc hyen
              have hk3 : (lessB ys [cn, en]).getD kn false = true := by rw [lessB_two, hyk]; simp [Ne.symm e1, Ne.symm hek]
              have ho3 : (lessB ys [cn, en]).getD on false = true := by rw [lessB_two, hyo]; simp [Ne.symm e2, Ne.symm heo]
              have hl3 := lessB_len ys [cn, en]
              obtain ⟨_, hw4⟩ := can_of (W := W) (T := T) (ys := lessB ys [cn, en]) (kn := kn) (on := on) (way := way) (by omega) hs hk3 ho3
              have hcnt := cnt_drop (b := en) hyc
              have ih := with_le hW hW6 (N - 1) (lessB ys [cn, en]) kn way (by omega) (by rw [hl3]; exact hWT) (by omega)
              have e5 : lessB (lessB ys [kn, on]) [cn, en] = lessB (lessB ys [cn, en]) [kn, on] := lessB_eq (by rw [hzl, hl3]) (fun i => by
                rw [lessB_two, lessB_two, lessB_two, lessB_two, Bool.and_assoc, Bool.and_assoc, Bool.and_comm (!(decide (i = kn) || decide (i = on)))])
              rw [hwe2, hw3, e5, ← hw4]
              exact ih
          have o1 := one 1
          have o2 := one 2
          omega
termination_by N ys _ _ _ _ _ => cnt ys

end Go.Proofs.Ytdmnfafmbdmjmaa
