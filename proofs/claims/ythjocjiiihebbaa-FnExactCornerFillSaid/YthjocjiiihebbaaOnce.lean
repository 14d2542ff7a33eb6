/- Lists without a number twice: the contract of spec.l9Once. No statement is proved here. -/
import Derived.Test.YthjocjiiihebbaaPairsS
namespace Go.Proofs.Ythjocjiiihebbaa
open Go.RowKit
set_option linter.unusedVariables false
set_option maxRecDepth 100000
set_option linter.unusedSimpArgs false

set_option maxHeartbeats 1000000 in
theorem l1Has_any9 (a : Option Addr) (n cap : Nat) (L : List Int) (v : Int) (w : World) (hn : n = L.length) (hn' : n ≤ 1048576) (ha : IntsAt w a L) :
    Calls Try.prog 81 #[.slice a n cap, .int .i64 v] w fun e w' => e = .returned (.bool (L.contains v)) ∧ w' = w := by
  have HN := Lib.hid hn; clear hn
  have HA := Lib.hid ha; clear ha
  obtain ⟨B, hB⟩ : ∃ B, B = L.contains v := ⟨_, rfl⟩
  rw [← hB]
  have HB := Lib.hid hB; clear hB
  go_enter Try.func81, Try.ntmps81
  go_wp2
  go_loop [5] (fun i => ∃ k : Nat, k ≤ n ∧ i = .int .i64 k ∧ (L.take k).contains v = false) (fun i => n - (intOf i).toNat)
  case atStart => exact ⟨0, Nat.zero_le _, rfl, by simp⟩
  case round =>
    obtain ⟨k, hk, rfl, hno⟩ := hrel
    by_cases hlt : k < n
    · have hkl : k < L.length := by rw [← HN.out]; exact hlt
      obtain ⟨b, off, rfl, hc⟩ := HA.out k hkl
      obtain ⟨u, hu⟩ : ∃ u, u = L.getD k 0 := ⟨_, rfl⟩
      rw [← hu] at hc
      have hel : L[k] = u := by rw [hu, List.getD_eq_getElem?_getD, List.getElem?_eq_getElem hkl, Option.getD_some]
      have HEL := Lib.hid hel; clear hel hu
      have HNO := Lib.hid hno; clear hno
      have e1 : (k : Int) < n := by omega
      have e0 : (0 : Int) ≤ k := by omega
      by_cases huv : u = v
      · subst huv
        have hh : L.contains u = true := by rw [List.contains_iff_mem, ← HEL.out]; exact List.getElem_mem hkl
        have HH := Lib.hid hh; clear hh
        have hvv : (u == u) = true := by simp
        go_wp2
        go_ret
        exact ⟨ret_bool (by rw [HB.out, HH.out]), rfl⟩
      · have hvv : (u == v) = false := by simpa using huv
        have hh : (L.take (k + 1)).contains v = false := by
          rw [List.take_succ_eq_append_getElem hkl, HEL.out]
          have h1 := HNO.out
          rw [Bool.eq_false_iff] at h1 ⊢
          intro h
          rw [List.contains_iff_mem, List.mem_append, List.mem_singleton] at h
          rcases h with h | h
          · exact h1 (List.contains_iff_mem.2 h)
          · exact huv h.symm
        have HH := Lib.hid hh; clear hh huv
        go_wp2
        go_round
        case rel => exact ⟨k + 1, by omega, by go_num, HH.out⟩
        case measure => simp [intOf]; omega
    · obtain rfl : k = n := by omega
      have hh : L.contains v = false := by rw [← hno, HN.out, List.take_length]
      have HH := Lib.hid hh; clear hh hno
      go_wp2
      go_ret
      exact ⟨ret_bool (by rw [HB.out, HH.out]), rfl⟩
/-- Whether no number of a list comes twice. -/
def onceB (L : List Int) : Bool := decide L.Nodup
theorem take_mem {L : List Int} {k : Nat} {v : Int} : v ∈ L.take k ↔ ∃ i, i < k ∧ i < L.length ∧ L.getD i 0 = v := by
  constructor
  · intro h
    obtain ⟨i, hi, e⟩ := List.getElem_of_mem h
    rw [List.length_take] at hi
    refine ⟨i, by omega, by omega, ?_⟩
    rw [List.getElem_take] at e
    rw [List.getD_eq_getElem?_getD, List.getElem?_eq_getElem (by omega), Option.getD_some, e]
  · rintro ⟨i, h1, h2, e⟩
    rw [List.getD_eq_getElem?_getD, List.getElem?_eq_getElem h2, Option.getD_some] at e
    rw [← e, List.mem_iff_getElem]
    exact ⟨i, by rw [List.length_take]; omega, by rw [List.getElem_take]⟩
theorem take_next {L : List Int} {k : Nat} (h : k < L.length) : L.take (k + 1) = L.take k ++ [L.getD k 0] := by
  rw [List.take_succ_eq_append_getElem h, List.getD_eq_getElem?_getD, List.getElem?_eq_getElem h, Option.getD_some]
theorem take_twice {L : List Int} {k : Nat} (h : k < L.length) (hc : (L.take k).contains (L.getD k 0) = true) : onceB L = false := by
  unfold onceB
  rw [decide_eq_false_iff_not]
  intro hn
  have h1 : (L.take (k + 1)).Nodup := hn.sublist (List.take_sublist _ _)
  rw [take_next h, List.nodup_append] at h1
  exact h1.2.2 _ (List.contains_iff_mem.1 hc) _ (List.mem_singleton.2 rfl) rfl
theorem take_once {L : List Int} {k : Nat} (h : k < L.length) (hn : (L.take k).Nodup) (hc : (L.take k).contains (L.getD k 0) = false) : (L.take (k + 1)).Nodup := by
  rw [take_next h, List.nodup_append]
  refine ⟨hn, by simp, ?_⟩
  intro a ha b hb e
  rw [List.mem_singleton] at hb
  subst hb; subst e
  rw [List.contains_iff_mem.2 ha] at hc; cases hc
theorem IntsAt.pre {w : World} {a : Option Addr} {L : List Int} (h : IntsAt w a L) (k : Nat) : IntsAt w a (L.take k) := by
  intro i hi
  rw [List.length_take] at hi
  obtain ⟨b, off, e, hc⟩ := h i (by omega)
  refine ⟨b, off, e, ?_⟩
  rw [hc]
  simp only [List.getD_eq_getElem?_getD]
  rw [List.getElem?_take_of_lt (by omega)]

set_option maxHeartbeats 1000000 in
theorem l9Once_any (a : Option Addr) (n cap : Nat) (L : List Int) (w : World) (hn : n = L.length) (hn' : n ≤ 1048576) (hcap : n ≤ cap) (ha : IntsAt w a L) :
    Calls Try.prog 59 #[.slice a n cap] w fun e w' => e = .returned (.bool (onceB L)) ∧ Below w.heap.size w w' := by
  have HN := Lib.hid hn; clear hn
  have HA := Lib.hid ha; clear ha
  go_enter Try.func59, Try.ntmps59
  go_wp2
  go_loopw [3] (fun i wr => ∃ k : Nat, k ≤ n ∧ i = .int .i64 k ∧ (L.take k).Nodup ∧ Below w.heap.size w wr) (fun i _ => n - (intOf i).toNat)
  case atStart => exact ⟨0, Nat.zero_le _, rfl, by simp, Below.refl _ _⟩
  case round =>
    rename World => wr
    obtain ⟨k, hk, rfl, hno, hbel⟩ := hrel
    have BEL := Lib.hid hbel; clear hbel
    by_cases hlt : k < n
    · have hkl : k < L.length := by rw [← HN.out]; exact hlt
      have IW := HA.out.below BEL.out
      obtain ⟨b, off, rfl, hc⟩ := IW k hkl
      obtain ⟨u, hu⟩ : ∃ u, u = L.getD k 0 := ⟨_, rfl⟩
      have PRE := Lib.hid (IW.pre k)
      have HKL : Hid (k = (L.take k).length) := by show _ = _; rw [List.length_take]; omega
      have e1 : (k : Int) < n := by omega
      have e0 : (0 : Int) ≤ k := by omega
      have e2 : (k : Int) ≤ n := by omega
      have e3 : (k : Int) ≤ cap := by omega
      cases hcc : (L.take k).contains u
      · have HT := Lib.hid (take_once hkl hno (by rw [← hu]; exact hcc))
        have HHH : Hid (∀ q, Calls Try.prog 81 #[.slice (some ⟨b, off, none⟩) k cap, .int .i64 u] (wr.drewN q) fun e w' => e = .returned (.bool false) ∧ w' = wr.drewN q) := by
          show ∀ q, _
          intro q
          refine (l1Has_any9 _ _ _ (L.take k) _ _ HKL.out (by omega) (PRE.out.below (drewN_below _ _))).mono ?_
          rintro e w' ⟨rfl, rfl⟩
          exact ⟨ret_bool hcc, rfl⟩
        rw [← hu] at hc
        clear hno hcc hu IW
        go_wp2
        go_big_quiet ((go_at_call 81; go_must (exact Calls.quiet_of_same (HHH.out _))))
        go_wp2
        go_roundw
        case rel => first | exact ⟨k + 1, by omega, by go_num, HT.out, BEL.out⟩ | exact ⟨k + 1, by omega, by go_num, HT.out, below_seq BEL.out (drewN_below _ _)⟩
        case measure => simp [intOf]; omega
      · have HF := Lib.hid (take_twice hkl (by rw [← hu]; exact hcc))
        have HHH : Hid (∀ q, Calls Try.prog 81 #[.slice (some ⟨b, off, none⟩) k cap, .int .i64 u] (wr.drewN q) fun e w' => e = .returned (.bool true) ∧ w' = wr.drewN q) := by
          show ∀ q, _
          intro q
          refine (l1Has_any9 _ _ _ (L.take k) _ _ HKL.out (by omega) (PRE.out.below (drewN_below _ _))).mono ?_
          rintro e w' ⟨rfl, rfl⟩
          exact ⟨ret_bool hcc, rfl⟩
        rw [← hu] at hc
        clear hno hcc hu IW
        go_wp2
        go_big_quiet ((go_at_call 81; go_must (exact Calls.quiet_of_same (HHH.out _))))
        go_wp2
        go_ret
        first | exact ⟨ret_bool HF.out.symm, BEL.out⟩ | exact ⟨ret_bool HF.out.symm, below_seq BEL.out (drewN_below _ _)⟩
    · obtain rfl : k = n := by omega
      have HT : Hid (onceB L = true) := by
        show _ = _
        unfold onceB
        rw [decide_eq_true_eq]
        rw [HN.out, List.take_length] at hno
        exact hno
      clear hno
      go_wp2
      go_ret
      exact ⟨ret_bool HT.out.symm, BEL.out⟩

end Go.Proofs.Ythjocjiiihebbaa
