/- Names of numbers: contracts of impl.namesOk and both functions Relabel. No statement is proved here. -/
import Derived.Test.YthjocjiiihebbaaOnce
import Derived.Test.YthjocjiiihebbaaCloneI
import Derived.Test.YthjocjiiihebbaaLayOne
namespace Go.Proofs.Ythjocjiiihebbaa
open Go.RowKit
set_option linter.unusedVariables false
set_option maxRecDepth 100000
set_option linter.unusedSimpArgs false

/-- Whether one of the first k numbers is v. -/
def hasN9 (L : List Int) (v : Int) (k : Nat) : Bool := (List.range k).any fun i => L.getD i 0 == v
theorem hasN9_zero (L : List Int) (v : Int) : hasN9 L v 0 = false := rfl
theorem hasN9_succ (L : List Int) (v : Int) (k : Nat) : hasN9 L v (k + 1) = (hasN9 L v k || L.getD k 0 == v) := by
  unfold hasN9; rw [List.range_succ, List.any_append]; simp
theorem hasN9_of {L : List Int} {v : Int} {k m : Nat} (hk : k < m) (h : L.getD k 0 = v) : hasN9 L v m = true := by
  unfold hasN9; rw [List.any_eq_true]; exact ⟨k, List.mem_range.2 hk, by simp only [h, beq_self_eq_true]⟩
theorem index_any9 (la : Option Addr) (m lcap : Nat) (L : List Int) (v : Int) (w : World) (hm : m = L.length) (hm' : m ≤ 1048576) (hl : IntsAt w la L) :
    Calls Try.prog 89 #[.slice la m lcap, .int .i64 v] w fun e w' => (∃ r : Int, e = .returned (.int .i64 r) ∧ decide (0 ≤ r) = hasN9 L v m) ∧ w' = w := by
  have HM := Lib.hid hm; clear hm
  have HL := Lib.hid hl; clear hl
  go_enter Try.func89, Try.ntmps89
  go_wp2
  go_loop [8] (fun i => ∃ k : Nat, k ≤ m ∧ i = .int .i64 k ∧ hasN9 L v k = false) (fun i => m - (intOf i).toNat)
  case atStart => exact ⟨0, Nat.zero_le _, rfl, rfl⟩
  case round =>
    obtain ⟨k, hk, rfl, hh⟩ := hrel
    have HH := Lib.hid hh; clear hh
    by_cases hlt : k < m
    · obtain ⟨lb, lo, rfl, hcx⟩ := HL.out k (by rw [← HM.out]; exact hlt)
      obtain ⟨mu, hmu⟩ : ∃ mu, mu = L.getD k 0 := ⟨_, rfl⟩
      rw [← hmu] at hcx
      have HMU := Lib.hid hmu; clear hmu
      have e1 : (k : Int) < m := by omega
      have e2 : (0 : Int) ≤ k := by omega
      by_cases he : v = mu
      · subst he
        go_wp2
        go_ret
        refine ⟨⟨_, rfl, ?_⟩, rfl⟩
        rw [hasN9_of hlt HMU.out.symm]; simp
      · have hne : (v == mu) = false := by simpa using he
        have hx : Hid (hasN9 L v (k + 1) = false) := by
          show _ = _
          rw [hasN9_succ, HH.out, ← HMU.out]; simp; intro e; exact he e.symm
        go_wp2
        go_round
        case rel => exact ⟨k + 1, by omega, by go_num, hx.out⟩
        case measure => simp [intOf]; omega
    · obtain rfl : k = m := by omega
      go_wp2
      go_ret
      exact ⟨⟨_, rfl, by rw [HH.out]; decide⟩, rfl⟩
theorem contains_any9 (la : Option Addr) (m lcap : Nat) (L : List Int) (v : Int) (w : World) (hm : m = L.length) (hm' : m ≤ 1048576) (hl : IntsAt w la L) :
    Calls Try.prog 69 #[.slice la m lcap, .int .i64 v] w fun e w' => e = .returned (.bool (hasN9 L v m)) ∧ w' = w := by
  have HM := Lib.hid hm; clear hm
  have HL := Lib.hid hl; clear hl
  go_enter Try.func69, Try.ntmps69
  go_wp2_with (go_at_call 89; refine (index_any9 la m lcap L v _ HM.out hm' HL.out).mono ?_; rintro e w1 ⟨⟨r, rfl, hr⟩, hw⟩; rw [hw]; have HR := Lib.hid hr; clear hw hr)
  go_ret
  exact ⟨ret_bool HR.out, rfl⟩


/-- Whether a list has each of the numbers 0 to 6 once. -/
def namesB (M : List Int) : Bool := decide (M.length = 7) && (List.range 7).all fun d => hasN9 M (d : Int) M.length
theorem hasN9_mem {M : List Int} {v : Int} : hasN9 M v M.length = true ↔ v ∈ M := by
  unfold hasN9
  rw [List.any_eq_true]
  constructor
  · rintro ⟨i, hi, e⟩
    rw [List.mem_range] at hi
    rw [beq_iff_eq] at e
    have := (take_mem (L := M) (k := M.length) (v := v)).2 ⟨i, hi, hi, e⟩
    rwa [List.take_length] at this
  · intro h
    obtain ⟨i, _, h2, e⟩ := (take_mem (L := M) (k := M.length) (v := v)).1 (by rwa [List.take_length])
    exact ⟨i, List.mem_range.2 h2, by rw [beq_iff_eq]; exact e⟩
theorem sub_len : ∀ (l m : List Int), l.Nodup → (∀ x ∈ l, x ∈ m) → l.length ≤ m.length
  | [], m, _, _ => by simp
  | a :: l, m, hn, hs => by
    have ha : a ∈ m := hs a (by simp)
    rw [List.nodup_cons] at hn
    have := sub_len l (m.erase a) hn.2 (fun x hx => by
      rw [List.mem_erase_of_ne (by intro e; subst e; exact hn.1 hx)]
      exact hs x (by simp [hx]))
    rw [List.length_erase_of_mem ha] at this
    have h0 : 0 < m.length := List.length_pos_of_mem ha
    simp; omega
theorem dup_some : ∀ (l : List Int), ¬ l.Nodup → ∃ x, x ∈ l ∧ x ∈ l.erase x
  | [], h => absurd List.nodup_nil h
  | a :: l, h => by
    by_cases ha : a ∈ l
    · exact ⟨a, by simp, by simpa using ha⟩
    · have : ¬ l.Nodup := fun hn => h (List.nodup_cons.2 ⟨ha, hn⟩)
      obtain ⟨x, h1, h2⟩ := dup_some l this
      refine ⟨x, by simp [h1], ?_⟩
      have hne : a ≠ x := by intro e; subst e; exact ha h1
      rw [List.erase_cons_tail (by simpa using hne)]
      simp [h2]
def seven : List Int := [0, 1, 2, 3, 4, 5, 6]
theorem seven_mem {v : Int} : v ∈ seven ↔ 0 ≤ v ∧ v ≤ 6 := by unfold seven; simp; omega
theorem seven_nodup : seven.Nodup := by decide
/-- Each number once: none twice, and none but these. -/
theorem names_iff (M : List Int) : namesB M = true ↔ M.length = 7 ∧ M.Nodup ∧ ∀ x ∈ M, 0 ≤ x ∧ x ≤ 6 := by
  unfold namesB
  rw [Bool.and_eq_true, decide_eq_true_eq, List.all_eq_true]
  constructor
  · rintro ⟨hl, h⟩
    have hall : ∀ v ∈ seven, v ∈ M := by
      intro v hv
      obtain ⟨h0, h6⟩ := seven_mem.1 hv
      have := h v.toNat (List.mem_range.2 (by omega))
      rw [show ((v.toNat : Nat) : Int) = v by omega] at this
      exact hasN9_mem.1 this
    refine ⟨hl, ?_, ?_⟩
    · apply Classical.byContradiction; intro hn
      obtain ⟨x, hx, hx2⟩ := dup_some M hn
      have := sub_len seven (M.erase x) seven_nodup (fun v hv => by
        by_cases e : v = x
        · subst e; exact hx2
        · rw [List.mem_erase_of_ne e]; exact hall v hv)
      rw [List.length_erase_of_mem hx, hl] at this
      simp [seven] at this
    · intro x hx
      rw [← seven_mem]
      apply Classical.byContradiction; intro hn
      have := sub_len seven (M.erase x) seven_nodup (fun v hv => by
        rw [List.mem_erase_of_ne (by intro e; subst e; exact hn hv)]; exact hall v hv)
      rw [List.length_erase_of_mem hx, hl] at this
      simp [seven] at this
  · rintro ⟨hl, hn, hr⟩
    refine ⟨hl, fun d hd => ?_⟩
    rw [List.mem_range] at hd
    rw [hasN9_mem]
    apply Classical.byContradiction; intro hc
    have hdm : (d : Int) ∈ seven := seven_mem.2 (by omega)
    have := sub_len M (seven.erase (d : Int)) hn (fun v hv => by
      rw [List.mem_erase_of_ne (by intro e; subst e; exact hc hv)]; exact seven_mem.2 (hr v hv))
    rw [List.length_erase_of_mem hdm, hl] at this
    simp [seven] at this

set_option maxHeartbeats 1000000 in
theorem namesOk_any (a : Option Addr) (n cap : Nat) (M : List Int) (w : World) (hn : n = M.length) (hn' : n ≤ 1048576) (ha : IntsAt w a M) :
    Calls Try.prog 66 #[.slice a n cap] w fun e w' => e = .returned (.bool (namesB M)) ∧ w = w' := by
  have HN := Lib.hid hn; clear hn
  have HA := Lib.hid ha; clear ha
  by_cases h7 : n = 7
  · subst h7
    go_enter Try.func66, Try.ntmps66
    go_wp2
    go_loop [3, 9] (fun _ i => ∃ k : Nat, k ≤ 7 ∧ i = .int .i64 k ∧ ∀ d, d < k → hasN9 M (d : Int) M.length = true) (fun _ i => 7 - (intOf i).toNat)
    case atStart => exact ⟨0, Nat.zero_le _, rfl, fun d hd => absurd hd (by omega)⟩
    case round =>
      obtain ⟨k, hk, rfl, hall⟩ := hrel
      by_cases hlt : k < 7
      · have e1 : (k : Int) < 7 := by omega
        have e0 : (0 : Int) ≤ k := by omega
        cases hc : hasN9 M (k : Int) M.length
        · have HF : Hid (namesB M = false) := by
            show _ = _
            unfold namesB
            rw [Bool.and_eq_false_iff, List.all_eq_false]
            exact Or.inr ⟨k, List.mem_range.2 hlt, by simp [hc]⟩
          have HC : Hid (hasN9 M (k : Int) 7 = false) := by show _ = _; rw [HN.out]; exact hc
          clear hc hall
          go_wp2_with (go_at_call 69; refine (contains_any9 _ _ _ M _ _ HN.out hn' HA.out).mono ?_; rintro e w1 ⟨rfl, hw1⟩; rw [HC.out, hw1])
          go_ret
          exact ⟨ret_bool HF.out.symm, rfl⟩
        · have HT : Hid (∀ d, d < k + 1 → hasN9 M (d : Int) M.length = true) := by
            show ∀ d, d < k + 1 → _
            intro d hd
            by_cases e : d = k
            · subst e; exact hc
            · exact hall d (by omega)
          have HC : Hid (hasN9 M (k : Int) 7 = true) := by show _ = _; rw [HN.out]; exact hc
          clear hc hall
          go_wp2_with (go_at_call 69; refine (contains_any9 _ _ _ M _ _ HN.out hn' HA.out).mono ?_; rintro e w1 ⟨rfl, hw1⟩; rw [HC.out, hw1])
          go_round
          case rel => exact ⟨k + 1, by omega, by go_num, HT.out⟩
          case measure => simp [intOf]; omega
      · obtain rfl : k = 7 := by omega
        have HT : Hid (namesB M = true) := by
          show _ = _
          unfold namesB
          rw [Bool.and_eq_true, decide_eq_true_eq, List.all_eq_true]
          exact ⟨HN.out.symm, fun d hd => hall d (List.mem_range.1 hd)⟩
        clear hall
        go_wp2
        go_ret
        exact ⟨ret_bool HT.out.symm, rfl⟩
  · have HF : Hid (namesB M = false) := by
      show _ = _
      unfold namesB
      rw [show decide (M.length = 7) = false by rw [decide_eq_false_iff_not, ← HN.out]; exact h7]; rfl
    have n1 : ((n : Int) != 7) = true := by simp; omega
    have n2 : ((n : Int) == 7) = false := by simp; omega
    go_enter Try.func66, Try.ntmps66
    go_wp2
    go_ret
    exact ⟨ret_bool HF.out.symm, rfl⟩

/-- The numbers after the first k cells. -/
def relL (xs : List Bool) (D M : List Int) : Nat → List Int
  | 0 => D
  | k + 1 => if xs.getD k false then (relL xs D M k).set k (M.getD (D.getD k 0).toNat 0) else relL xs D M k
def relF (W T : Int) (xs : List Bool) (D M : List Int) : List Int := if pzv W T xs D && namesB M then relL xs D M D.length else []
theorem relL_len (xs : List Bool) (D M : List Int) (k : Nat) : (relL xs D M k).length = D.length := by
  induction k with
  | zero => rfl
  | succ k ih => unfold relL; split <;> simp [ih]
theorem relL_get {xs : List Bool} {D M : List Int} {k j : Nat} (h : k ≤ j) : (relL xs D M k).getD j 0 = D.getD j 0 := by
  induction k with
  | zero => rfl
  | succ k ih =>
    unfold relL
    split
    · rw [getD_set1, if_neg (by omega)]; exact ih (by omega)
    · exact ih (by omega)
theorem relF_le (W T : Int) (xs : List Bool) (D M : List Int) : (relF W T xs D M).length ≤ D.length := by
  unfold relF; split
  · rw [relL_len]; exact Nat.le_refl _
  · simp
theorem relL_yes {xs : List Bool} {D M : List Int} {k : Nat} (h : xs.getD k false = true) : relL xs D M (k + 1) = (relL xs D M k).set k (M.getD (D.getD k 0).toNat 0) := by
  show (if xs.getD k false then _ else _) = _; rw [h]; rfl
theorem relL_no {xs : List Bool} {D M : List Int} {k : Nat} (h : xs.getD k false = false) : relL xs D M (k + 1) = relL xs D M k := by
  show (if xs.getD k false then _ else _) = _; rw [h]; rfl

end Go.Proofs.Ythjocjiiihebbaa
