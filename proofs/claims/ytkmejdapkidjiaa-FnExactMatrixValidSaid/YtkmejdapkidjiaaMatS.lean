/- Contracts of the laws' size and copy of a list of lists. -/
import Derived.Test.YtkmejdapkidjiaaRowsAt
namespace Go.Proofs.Ytkmejdapkidjiaa
open Go.RowKit
set_option linter.unusedVariables false
set_option maxRecDepth 100000
set_option linter.unusedSimpArgs false

theorem szIntS_any (a : Option Addr) (n cap : Nat) (l : Int) (w : World) (h0 : 0 ≤ l) (h1 : l ≤ 1048576) (hn' : n ≤ maxLen) :
    Calls Try.prog 19 #[.slice a n cap, .int .i64 l] w fun e w' => e = .returned (.int .i64 (if l < n then -1 else l - n)) ∧ Below w.heap.size w w' := by
  unfold maxLen at hn'
  by_cases h : l < n
  all_goals
    go_enter Try.func19, Try.ntmps19
    go_wp2
    go_ret
    exact ⟨by simp [h], Below.refl _ _⟩

set_option maxHeartbeats 1000000 in
theorem szIntSS_any (a : Option Addr) (n cap : Nat) (rows : List (List Int)) (w : World) (hn : n = rows.length) (hn' : n ≤ maxLen) (hr : ∀ i, i < rows.length → (rows.getD i []).length ≤ maxLen) (ha : RowsAt w a rows) :
    Calls Try.prog 9 #[.slice a n cap, .int .i64 1048576] w fun e w' => ∃ r : Int, e = .returned (.int .i64 r) ∧ (r < 0 ∨ (0 ≤ r ∧ n ≤ 1048576 ∧ ∀ i, i < rows.length → (rows.getD i []).length ≤ 1048576)) ∧ Below w.heap.size w w' := by
  have HN := Lib.hid hn; clear hn
  have HA := Lib.hid ha; clear ha
  have HR := Lib.hid hr; clear hr
  unfold maxLen at hn'
  by_cases hbig : 1048576 < n
  · go_enter Try.func9, Try.ntmps9
    go_wp2
    go_ret
    exact ⟨_, rfl, .inl (by omega), Below.refl _ _⟩
  · go_enter Try.func9, Try.ntmps9
    go_wp2
    go_loopw [1, 5] (fun l i wr => ∃ (k : Nat) (z : Int), k ≤ n ∧ i = .int .i64 k ∧ l = .int .i64 z ∧ 0 ≤ z ∧ z ≤ 1048576 ∧ Hid (∀ j, j < k → (rows.getD j []).length ≤ 1048576) ∧ Below w.heap.size w wr) (fun _ i _ => n - (intOf i).toNat)
    case atStart => exact ⟨0, _, Nat.zero_le _, rfl, rfl, by omega, by omega, fun j hj => absurd hj (Nat.not_lt_zero j), Below.refl _ _⟩
    case round =>
      rename World => wo
      obtain ⟨k, z, hk, rfl, rfl, hz0, hz1, HB, bo⟩ := hrel
      have BO := Lib.hid bo; clear bo
      by_cases hlt : k < n
      · have hkr : k < rows.length := by rw [← HN.out]; exact hlt
        obtain ⟨b1, o1, a1, cap1, rfl, hc1, hx1⟩ := (HA.out.below BO.out) k hkr
        have hml := HR.out k hkr
        obtain ⟨m, hm⟩ : ∃ m, m = (rows.getD k []).length := ⟨_, rfl⟩
        rw [← hm] at hc1 hml
        have HM := Lib.hid hm; clear hm hx1 hkr
        have e1 : (k : Int) < n := by omega
        by_cases hzm : z < m
        · go_wp2_with (go_at_call 19; refine (szIntS_any _ _ _ _ _ hz0 hz1 hml).mono ?_; rintro e w2 ⟨rfl, hb2⟩; rw [if_pos hzm])
          go_ret
          exact ⟨_, rfl, .inl (by omega), below_seq BO.out hb2⟩
        · go_wp2_with (go_at_call 19; refine (szIntS_any _ _ _ _ _ hz0 hz1 hml).mono ?_; rintro e w2 ⟨rfl, hb2⟩; rw [if_neg hzm])
          have B2 := Lib.hid (below_seq BO.out hb2)
          go_roundw
          case rel =>
            refine ⟨k + 1, z - m, by omega, by go_num, rfl, by omega, by omega, (show Hid _ from fun j hj => ?_), B2.out⟩
            by_cases e : j = k
            · subst e; rw [← HM.out]; omega
            · exact HB.out j (by omega)
          case measure => simp [intOf]; omega
      · obtain rfl : k = n := by omega
        go_wp2
        go_ret
        exact ⟨_, rfl, .inr ⟨by omega, by omega, fun i hi => HB.out i (by rw [HN.out]; exact hi)⟩, BO.out⟩

theorem grown_of_belowM {w w' : World} (h : Below w.heap.size w w') (row : Option Nat) : w.grownBy w' row :=
  ⟨h.os, h.tape, h.output, h.size, fun k hk _ => h.block k hk⟩
theorem ownsRow_belowM {w w' : World} {B n : Nat} {e : TypeId} {v : Value} {xs : List Value} (h : w.ownsRow B e 1 v n xs) (hb : Below w.heap.size w w') : w'.ownsRow B e 1 v n xs := h.kept (grown_of_belowM hb none) (by cases v.ownBlock <;> simp)
theorem infoSlM : (Try.prog.info? 34).map (fun i => (i.zero, i.size, i.bytes)) = some (some (.slice none 0 0), 1, 24) := by kernel_rfl
theorem ownI_form {w : World} {B : Nat} {v : Value} {M : List Int} (h : OwnsI w B v M) : ∃ a cap, v = .slice a M.length cap ∧ IntsAt w a M := by
  obtain ⟨a, cap, rfl⟩ := h.form2
  exact ⟨a, cap, rfl, OwnsI.at h⟩
/-- The values ws read, up to k, as the rows. -/
def GotI (w : World) (B : Nat) (rows : List (List Int)) (k : Nat) (ws : List Value) : Prop := ∀ i, i < k → OwnsI w B (ws.getD i (.slice none 0 0)) (rows.getD i [])

set_option maxHeartbeats 1000000 in
theorem toIntSS_any (a : Option Addr) (n cap : Nat) (rows : List (List Int)) (w : World) (hn : n = rows.length) (hn' : n ≤ 1048576) (hr : ∀ i, i < rows.length → (rows.getD i []).length ≤ 1048576) (ha : RowsAt w a rows) :
    Calls Try.prog 10 #[.slice a n cap] w fun e w' => ∃ g, e = .returned (.slice (some ⟨g, 0, none⟩) n n) ∧ RowsAt w' (some ⟨g, 0, none⟩) rows ∧ Below w.heap.size w w' := by
  obtain ⟨i0, hi, hz0, hz1, hz2⟩ := info_parts infoSlM
  have HN := Lib.hid hn; clear hn
  have HA := Lib.hid ha; clear ha
  have HR := Lib.hid hr; clear hr
  go_enter Try.func10, Try.ntmps10
  go_wp2_with (at_make; refine wpList_make_full _ rfl _ _ 23 rfl w.heap.size 34 i0 (.slice none 0 0) 1 Try.underlying23 hi hz0 hz1 _ _ _ _ n rfl rfl rfl rfl (by rw [hz2]; omega) (by unfold maxLen; omega) (Nat.le_refl _) ?_; intro w1 hown hgrow)
  go_loopw [4] (fun i wr => ∃ (k : Nat) (ws : List Value), k ≤ n ∧ i = .int .i64 k ∧ wr.ownsRow w.heap.size 34 1 (.slice (some ⟨w.heap.size, 0, none⟩) n n) n ws ∧ Hid (ws.length = n) ∧ Hid (GotI wr (w.heap.size + 1) rows k ws) ∧ Below w.heap.size w wr) (fun i _ => n - (intOf i).toNat)
  case atStart => exact ⟨0, List.replicate n (.slice none 0 0), Nat.zero_le _, rfl, by have h := hown; rw [show (Value.slice none 0 0).cells = #[.slice none 0 0] from rfl, toList_madeCells_one] at h; simpa using h, (show Hid _ by show (List.replicate n _).length = n; simp), fun j hj => absurd hj (Nat.not_lt_zero j), (Below.refl _ _).grown hgrow (Nat.le_refl _) (by simp)⟩
  case round =>
    rename World => wo
    obtain ⟨k, ws, hk, rfl, hown, HL, HG, bo⟩ := hrel
    have BO := Lib.hid bo; clear bo
    by_cases hlt : k < n
    · have hkr : k < rows.length := by rw [← HN.out]; exact hlt
      obtain ⟨b1, o1, a1, cap1, rfl, hc1, hx1⟩ := (HA.out.below BO.out) k hkr
      obtain ⟨M, hM⟩ : ∃ M, M = rows.getD k [] := ⟨_, rfl⟩
      have hml : M.length ≤ 1048576 := by rw [hM]; exact HR.out k hkr
      rw [← hM] at hc1 hx1
      have HE := Lib.hid hM
      clear hM hkr
      obtain ⟨m, hm⟩ : ∃ m, m = M.length := ⟨_, rfl⟩
      rw [← hm] at hc1 hml
      have HM := Lib.hid hm; clear hm
      have HX1 := Lib.hid hx1; clear hx1
      have e1 : (k : Int) < n := by omega
      have HO := Lib.hid hown
      have hsz : w.heap.size < wo.heap.size := by
        have hd := hown.cellAt k (by omega)
        rw [List.getElem?_eq_getElem (show k < ws.length by rw [HL.out]; exact hlt)] at hd
        exact World.block_lt_of_cell? wo _ hd
      go_wp2_with (go_loud (go_at_call 20; refine (toIntS_ex _ _ _ M _ HM.out hml HX1.out).mono ?_; rintro e w2 ⟨g2, rfl, ho2, hb2⟩; have hown2 := ownsRow_belowM HO.out hb2; have hf2 := hown2.frozenAt k; have hd2 := hown2.cellAt k (by omega); rw [List.getElem?_eq_getElem (show k < ws.length by rw [HL.out]; exact hlt)] at hd2))
      go_roundw
      case rel =>
        have B2 := Lib.hid (below_seq BO.out hb2)
        have hz := hb2.size
        refine ⟨k + 1, ws.set k (.slice (some ⟨g2, 0, none⟩) m m), by omega, by go_num, (hown2.stored k _).1, (show Hid _ by show (ws.set k _).length = n; rw [List.length_set]; exact HL.out), (show Hid _ from fun i hi => ?_), B2.out.setCell (Nat.le_refl _) _⟩
        by_cases e : i = k
        · subst e
          rw [show (ws.set i (.slice (some ⟨g2, 0, none⟩) m m)).getD i (.slice none 0 0) = .slice (some ⟨g2, 0, none⟩) m m by simp [List.getD, show i < ws.length by rw [HL.out]; exact hlt], ← HE.out]
          exact (ho2.lower hsz).setBelow (by simp) _
        · rw [show (ws.set k (.slice (some ⟨g2, 0, none⟩) m m)).getD i (.slice none 0 0) = ws.getD i (.slice none 0 0) by simp [List.getD, List.getElem?_set_ne (fun h => e h.symm)]]
          exact ((HG.out i (by omega)).below hb2).setBelow (by simp) _
      case measure => simp [intOf]; omega
    · obtain rfl : k = n := by omega
      go_wp2
      go_ret
      refine ⟨_, rfl, fun i hi => ?_, BO.out⟩
      have hik : i < k := by rw [HN.out]; exact hi
      obtain ⟨a', cap', ev, hx⟩ := ownI_form (HG.out i hik)
      refine ⟨w.heap.size, 0, a', cap', rfl, ?_, hx⟩
      have hl : i < ws.length := by rw [HL.out]; exact hik
      rw [Nat.zero_add, World.ownsRow.cellAt (xs := ws) hown i (by omega)]
      have e2 : ws.getD i (.slice none 0 0) = ws[i] := by simp [List.getD, hl]
      rw [e2] at ev
      rw [List.getElem?_eq_getElem hl, ev]
end Go.Proofs.Ytkmejdapkidjiaa
