/- Lists of lists in the laws: equal ones, marked ones, held ones. -/
import Derived.Test.YtlnnoeojgdeagaaAllM
namespace Go.Proofs.Ytlnnoeojgdeagaa
open Go.RowKit
set_option linter.unusedVariables false
set_option maxRecDepth 100000
set_option linter.unusedSimpArgs false

/-- At a lie lists that read so. -/
def RowsAt (w : World) (a : Option Addr) (rows : List (List Int)) : Prop :=
  ∀ i, i < rows.length → ∃ b off a' cap, a = some ⟨b, off, none⟩ ∧ w.cell? ⟨b, off + i, none⟩ = some (.slice a' (rows.getD i []).length cap) ∧ IntsAt w a' (rows.getD i [])
theorem RowsAt.later {w w' : World} {B : Nat} {a : Option Addr} {rows : List (List Int)} (h : RowsAt w a rows) (hb : Below B w w') (hB : w.heap.size ≤ B) : RowsAt w' a rows := by
  intro i hi
  obtain ⟨b, off, a', cap, e, hc, hx⟩ := h i hi
  have hlt := World.block_lt_of_cell? w _ hc
  simp only at hlt
  exact ⟨b, off, a', cap, e, (hb.cell (p := ⟨b, off + i, none⟩) (by show b < B; omega)).trans hc, hx.later hb hB⟩
theorem RowsAt.below {w w' : World} {a : Option Addr} {rows : List (List Int)} (h : RowsAt w a rows) (hb : Below w.heap.size w w') : RowsAt w' a rows := h.later hb (Nat.le_refl _)
theorem RowsAt.one {w : World} {a : Option Addr} {rows : List (List Int)} (h : RowsAt w a rows) (o : Obj) : RowsAt (w.alloc o) a rows := h.below (below1 w o)
theorem RowsAt.empty (w : World) (a : Option Addr) : RowsAt w a [] := fun i hi => absurd hi (Nat.not_lt_zero i)
theorem own_form {w : World} {B : Nat} {v : Value} {M : List Int} (h : OwnsI w B v M) : ∃ a cap, v = .slice a M.length cap ∧ IntsAt w a M := by
  obtain ⟨a, cap, rfl⟩ := h.form2
  exact ⟨a, cap, rfl, OwnsI.at h⟩
theorem OwnsSS.at {w : World} {B : Nat} {a : Option Addr} {n cap : Nat} {rows : List (List Int)} (h : OwnsSS w B (.slice a n cap) rows) : RowsAt w a rows := by
  obtain ⟨ws, h1, h2⟩ := h
  intro i hi
  obtain ⟨a', cap', e, hx⟩ := own_form (h2.own i hi)
  rcases h1.2 with ⟨_, h0⟩ | ⟨g, cap2, cur, hv, _⟩
  · omega
  · simp only [Value.slice.injEq] at hv
    obtain ⟨rfl, rfl, rfl⟩ := hv
    refine ⟨g, 0, a', cap', rfl, ?_, hx⟩
    have hl : i < ws.length := by rw [h2.len]; exact hi
    rw [Nat.zero_add, World.ownsRow.cellAt (xs := ws) h1 i (by omega)]
    have e2 : ws.getD i (.slice none 0 0) = ws[i] := by simp [List.getD, hl]
    rw [e2] at e
    rw [List.getElem?_eq_getElem hl, e]
theorem RowsAt.cell {w : World} {a : Option Addr} {rows : List (List Int)} (h : RowsAt w a rows) {i : Nat} (hi : i < rows.length) {b off : Nat} (e : a = some ⟨b, off, none⟩) : ∃ a' cap, w.cell? ⟨b, off + i, none⟩ = some (.slice a' (rows.getD i []).length cap) ∧ IntsAt w a' (rows.getD i []) := by
  obtain ⟨b', off', a', cap, e', hc, hx⟩ := h i hi
  rw [e] at e'
  cases e'
  exact ⟨a', cap, hc, hx⟩

set_option maxHeartbeats 1000000 in
/-- Two lists of lists that read the same are told to be equal. -/
theorem eqIntSS_below (a b : Option Addr) (n cap cap' : Nat) (rows : List (List Int)) (w : World) (hn : n = rows.length) (hn' : n ≤ 1048576) (hr : ∀ i, i < rows.length → (rows.getD i []).length ≤ 1048576) (ha : RowsAt w a rows) (hb : RowsAt w b rows) :
    Calls Try.prog 19 #[.slice a n cap, .slice b n cap'] w fun e w' => e = .returned (.bool true) ∧ Below w.heap.size w w' := by
  have HN := Lib.hid hn; clear hn
  have HA := Lib.hid ha; clear ha
  have HB := Lib.hid hb; clear hb
  have HR := Lib.hid hr; clear hr
  go_enter Try.func19, Try.ntmps19
  go_wp2
  go_loopw [5] (fun i wr => ∃ k : Nat, k ≤ n ∧ i = .int .i64 k ∧ Below w.heap.size w wr) (fun i _ => n - (intOf i).toNat)
  case atStart => exact ⟨0, Nat.zero_le _, rfl, Below.refl _ _⟩
  case round =>
    rename World => wo
    obtain ⟨k, hk, rfl, bo⟩ := hrel
    have BO := Lib.hid bo; clear bo
    by_cases hlt : k < n
    · have hkr : k < rows.length := by rw [← HN.out]; exact hlt
      obtain ⟨b1, o1, a1, cap1, rfl, hc1, hx1⟩ := (HA.out.below BO.out) k hkr
      obtain ⟨b2, o2, a2, cap2, rfl, hc2, hx2⟩ := (HB.out.below BO.out) k hkr
      obtain ⟨M, hM⟩ : ∃ M, M = rows.getD k [] := ⟨_, rfl⟩
      have hml : M.length ≤ 1048576 := by rw [hM]; exact HR.out k hkr
      rw [← hM] at hc1 hc2 hx1 hx2
      clear hM hkr
      obtain ⟨m, hm⟩ : ∃ m, m = M.length := ⟨_, rfl⟩
      rw [← hm] at hc1 hc2 hml
      have HM := Lib.hid hm; clear hm
      have HX1 := Lib.hid hx1; clear hx1
      have HX2 := Lib.hid hx2; clear hx2
      have e1 : (k : Int) < n := by omega
      have e0 : (0 : Int) ≤ k := by omega
      have l1 := World.block_lt_of_cell? wo _ hc1
      have l2 := World.block_lt_of_cell? wo _ hc2
      simp only at l1 l2
      go_wp2_with fail
      have d1 : wo.drew.cell? ⟨b1, o1 + k, none⟩ = some (.slice a1 m cap1) := hc1
      have d2 : wo.drew.cell? ⟨b2, o2 + k, none⟩ = some (.slice a2 m cap2) := hc2
      go_region_held3 (fun w' => w'.cell? ⟨b1, o1 + k, none⟩ = some (.slice a1 m cap1) ∧ w'.cell? ⟨b2, o2 + k, none⟩ = some (.slice a2 m cap2))
        (go_keep)
        (first
          | (go_at_call 27; refine (eqIntS_below _ _ _ _ _ M _ HM.out hml (show IntsAt wo.drew _ _ from HX1.out) (show IntsAt wo.drew _ _ from HX2.out)).mono ?_; rintro e w2 ⟨rfl, hb2⟩; have f1 := cell_later hb2 d1; have f2 := cell_later hb2 d2))
      have B2 := Lib.hid (below_seq BO.out (below_seq (drew_below wo) hb2))
      go_wp2
      go_roundw
      case rel => exact ⟨k + 1, by omega, by go_num, B2.out⟩
      case measure => simp [intOf]; omega
    · go_wp2
      go_ret
      exact ⟨rfl, BO.out⟩

/-- How many entries the first lists have together. -/
def offN (rows : List (List Int)) (j : Nat) : Nat := sumN j fun i => (rows.getD i []).length
theorem offN_succ (rows : List (List Int)) (j : Nat) : offN rows (j + 1) = offN rows j + (rows.getD j []).length := sumN_succ _ _
theorem offN_mono (rows : List (List Int)) : ∀ {i j : Nat}, i ≤ j → offN rows i ≤ offN rows j
  | i, 0, h => by obtain rfl : i = 0 := by omega
                  exact Nat.le_refl _
  | i, j + 1, h => by
    by_cases e : i = j + 1
    · rw [e]; exact Nat.le_refl _
    · have := offN_mono rows (show i ≤ j by omega)
      rw [offN_succ]; omega
/-- The lists, marked from k on; those before j of them. -/
def markedSS (rows : List (List Int)) (j : Nat) (k : Int) : List (List Int) := (List.range rows.length).map fun i => if i < j then marksI (rows.getD i []).length (k + offN rows i) else rows.getD i []
theorem markedSS_len (rows : List (List Int)) (j : Nat) (k : Int) : (markedSS rows j k).length = rows.length := by simp [markedSS]
theorem markedSS_at (rows : List (List Int)) (j : Nat) (k : Int) {i : Nat} (hi : i < rows.length) : (markedSS rows j k).getD i [] = if i < j then marksI (rows.getD i []).length (k + offN rows i) else rows.getD i [] := by simp [markedSS, hi]
theorem markedSS_zero (rows : List (List Int)) (k : Int) : markedSS rows 0 k = rows := by
  apply List.ext_getElem
  · simp [markedSS]
  · intro i h1 h2; simp [markedSS, h2]

set_option maxHeartbeats 2000000 in
theorem markIntSS_own (a : Option Addr) (n cap B : Nat) (k : Int) (rows : List (List Int)) (w : World) (hn : n = rows.length) (hn' : n ≤ 1048576) (hr : ∀ i, i < rows.length → (rows.getD i []).length ≤ 1048576) (hk0 : 0 ≤ k) (hk1 : k + offN rows rows.length ≤ 4194304) (hB : B ≤ w.heap.size) (ho : OwnsSS w B (.slice a n cap) rows) :
    Calls Try.prog 22 #[.slice a n cap, .int .i64 k] w fun e w' => e = .returned (.int .i64 (k + offN rows rows.length)) ∧ OwnsSS w' B (.slice a n cap) (markedSS rows rows.length k) ∧ Below B w w' ∧ w.heap.size ≤ w'.heap.size := by
  obtain ⟨ws, hrow, hrows⟩ := ho
  have HN := Lib.hid hn; clear hn
  have HR := Lib.hid hr; clear hr
  have hN := HN.out
  rw [← hN] at hk1 ⊢
  rw [← hN] at hrow
  have HNN := Lib.hid hN; clear hN
  have HK1 := Lib.hid hk1; clear hk1
  have HROW := Lib.hid hrow; clear hrow
  have HRS := Lib.hid hrows; clear hrows
  go_enter Try.func22, Try.ntmps22
  go_wp2
  go_loopw [5, 1] (fun i kv wr => ∃ j : Nat, j ≤ n ∧ i = .int .i64 j ∧ kv = .int .i64 (k + (offN rows j : Nat)) ∧ wr.ownsRow B 35 1 (.slice a n cap) n ws ∧ RowsI wr B ws (markedSS rows j k) ∧ Below B w wr ∧ w.heap.size ≤ wr.heap.size) (fun i _ _ => n - (intOf i).toNat)
  case atStart => exact ⟨0, Nat.zero_le _, rfl, by rw [show offN rows 0 = 0 from rfl]; go_num, HROW.out, by rw [markedSS_zero]; exact HRS.out, Below.refl _ _, Nat.le_refl _⟩
  case round =>
    rename World => wo
    obtain ⟨j, hj, rfl, rfl, hro, hrs, bo, so⟩ := hrel
    have RO := Lib.hid hro; clear hro
    have RS := Lib.hid hrs; clear hrs
    have BO := Lib.hid bo; clear bo
    by_cases hlt : j < n
    · have hjr : j < rows.length := by rw [← HNN.out]; exact hlt
      have hown := RS.out.own j (by rw [markedSS_len]; exact hjr)
      have hmj : (markedSS rows j k).getD j [] = rows.getD j [] := by rw [markedSS_at _ _ _ hjr, if_neg (by omega)]
      rw [hmj] at hown
      obtain ⟨M, hM⟩ : ∃ M, M = rows.getD j [] := ⟨_, rfl⟩
      have hml : M.length ≤ 1048576 := by rw [hM]; exact HR.out j hjr
      have hoff : offN rows (j + 1) = offN rows j + M.length := by rw [hM]; exact offN_succ rows j
      have hoffn : offN rows (j + 1) ≤ offN rows n := offN_mono rows (by omega)
      have hk1 := HK1.out
      rw [← hM] at hown
      obtain ⟨m, hm⟩ : ∃ m, m = M.length := ⟨_, rfl⟩
      rw [← hm] at hoff hml
      have HM := Lib.hid hm; clear hm
      obtain ⟨o, ho⟩ : ∃ o, o = offN rows j := ⟨_, rfl⟩
      rw [← ho] at hoff ⊢
      have hob : (0 : Int) ≤ k + (o : Nat) ∧ k + (o : Nat) ≤ 4194304 ∧ k + (o : Nat) + m ≤ 4194304 := by omega
      obtain ⟨ob1, ob2, ob3⟩ := hob
      obtain ⟨v, hv⟩ : ∃ v, v = ws.getD j (.slice none 0 0) := ⟨_, rfl⟩
      rw [← hv] at hown
      obtain ⟨a1, cap1, hvf⟩ := hown.form2
      rw [← HM.out] at hvf
      have hcell : ∃ b off, a = some ⟨b, off, none⟩ ∧ wo.cell? ⟨b, off + j, none⟩ = some v := by
        rcases RO.out.2 with ⟨_, h0⟩ | ⟨g, cap2, cur, hg, _⟩
        · omega
        · simp only [Value.slice.injEq] at hg
          obtain ⟨rfl, _, rfl⟩ := hg
          have hl : j < ws.length := by rw [HRS.out.len]; exact hjr
          refine ⟨g, 0, rfl, ?_⟩
          rw [Nat.zero_add, World.ownsRow.cellAt (xs := ws) RO.out j (by omega), hv]
          simp [List.getD, hl]
      obtain ⟨b, off, rfl, hc⟩ := hcell
      have HV := Lib.hid hv; clear hv
      subst hvf
      have HOFF := Lib.hid hoff; clear hoff
      have HO := Lib.hid ho; clear ho
      have HMR := Lib.hid hM; clear hM
      have HOW := Lib.hid hown; clear hown
      have e1 : (j : Int) < n := by omega
      have e0 : (0 : Int) ≤ j := by omega
      clear hmj hoffn hk1
      go_wp2_with fail
      refine (markIntS_own _ _ _ B _ M _ HM.out hml ob1 ob2 HOW.out).mono ?_; rintro e w2 ⟨rfl, ho2, hg2⟩
      have HO2 := Lib.hid ho2; clear ho2
      have HG2 := Lib.hid hg2; clear hg2
      have hblk : ∀ x, (Value.slice a1 m cap1).ownBlock = some x → (B ≤ x ∧ ∃ cs, wo.heap[x]? = some (.cells cs 3 (0, 0))) := fun x hx => ⟨(World.ownsRow.lt HOW.out x hx).1, row_block HOW.out hx⟩
      have R2 : Hid (w2.ownsRow B 35 1 (.slice (some ⟨b, off, none⟩) n cap) n ws) := by
        refine RO.out.kept HG2.out ?_
        cases hob : (Value.slice (some (⟨b, off, none⟩ : Addr)) n cap).ownBlock with
        | none => exact Or.inl rfl
        | some x =>
          refine Or.inr (fun e => ?_)
          obtain ⟨cs, hc1⟩ := row_block RO.out hob
          obtain ⟨_, ds, hc2⟩ := hblk x e.symm
          exact not_same hc1 hc2 (by decide)
      have S2 : Hid (RowsI w2 B ws (markedSS rows (j + 1) k)) := by
        refine ⟨by rw [markedSS_len]; exact HRS.out.len, fun i hi => ?_, fun i i2 hii hi2 x hx => RS.out.apart i i2 hii (by rw [markedSS_len] at hi2 ⊢; exact hi2) x hx⟩
        rw [markedSS_len] at hi
        rw [markedSS_at _ _ _ hi]
        by_cases e : i = j
        · subst e
          rw [if_pos (by omega), ← HV.out, ← HMR.out, ← HM.out, ← HO.out]
          exact HO2.out
        · have h3 := RS.out.own i (by rw [markedSS_len]; exact hi)
          rw [markedSS_at _ _ _ hi] at h3
          have e2 : (if i < j + 1 then marksI (rows.getD i []).length (k + offN rows i) else rows.getD i []) = (if i < j then marksI (rows.getD i []).length (k + offN rows i) else rows.getD i []) := by
            by_cases h4 : i < j
            · rw [if_pos h4, if_pos (by omega)]
            · rw [if_neg h4, if_neg (by omega)]
          rw [e2]
          refine World.ownsRow.kept h3 HG2.out ?_
          cases hob : (ws.getD i (.slice none 0 0)).ownBlock with
          | none => exact Or.inl rfl
          | some x =>
            refine Or.inr (fun e3 => ?_)
            rw [HV.out] at e3
            rcases Nat.lt_or_gt_of_ne e with h5 | h5
            · exact RS.out.apart i j h5 (by rw [markedSS_len]; exact hjr) x hob e3.symm
            · exact RS.out.apart j i h5 (by rw [markedSS_len]; exact hi) x e3.symm hob
      have B2 : Hid (Below B w w2) := BO.out.trans ⟨HG2.out.os, HG2.out.tape, HG2.out.output, HG2.out.size, fun x hx => by
        exact HG2.out.block x (by omega) (fun e => by have := (hblk x e.symm).1; omega)⟩
      go_wp2
      go_roundw
      case rel => exact ⟨j + 1, by omega, by go_num, by rw [HOFF.out]; go_num, R2.out, S2.out, B2.out, Nat.le_trans so HG2.out.size⟩
      case measure => simp [intOf]; omega
    · obtain rfl : j = n := by omega
      go_wp2
      go_ret
      exact ⟨rfl, ⟨ws, by rw [markedSS_len, ← HNN.out]; exact RO.out, RS.out⟩, BO.out, so⟩

set_option maxHeartbeats 1000000 in
theorem heldIntSS_below (a : Option Addr) (n cap : Nat) (k : Int) (rows : List (List Int)) (w : World) (hn : n = rows.length) (hn' : n ≤ 1048576) (hr : ∀ i, i < rows.length → (rows.getD i []).length ≤ 1048576) (hk0 : 0 ≤ k) (hk1 : k + offN rows rows.length ≤ 4194304) (ha : RowsAt w a (markedSS rows rows.length k)) :
    Calls Try.prog 23 #[.slice a n cap, .int .i64 k] w fun e w' => e = .returned (.int .i64 (k + offN rows rows.length)) ∧ Below w.heap.size w w' := by
  have HN := Lib.hid hn; clear hn
  have HR := Lib.hid hr; clear hr
  have HA := Lib.hid ha; clear ha
  have hN := HN.out
  rw [← hN] at hk1 ⊢
  have HK1 := Lib.hid hk1; clear hk1
  clear hN
  go_enter Try.func23, Try.ntmps23
  go_wp2
  go_loopw [5, 1] (fun i kv wr => ∃ j : Nat, j ≤ n ∧ i = .int .i64 j ∧ kv = .int .i64 (k + (offN rows j : Nat)) ∧ Below w.heap.size w wr) (fun i _ _ => n - (intOf i).toNat)
  case atStart => exact ⟨0, Nat.zero_le _, rfl, by rw [show offN rows 0 = 0 from rfl]; go_num, Below.refl _ _⟩
  case round =>
    rename World => wo
    obtain ⟨j, hj, rfl, rfl, bo⟩ := hrel
    have BO := Lib.hid bo; clear bo
    by_cases hlt : j < n
    · have hjr : j < rows.length := by rw [← HN.out]; exact hlt
      obtain ⟨b, off, a1, cap1, rfl, hc, hx⟩ := (HA.out.below BO.out) j (by rw [markedSS_len]; exact hjr)
      rw [markedSS_at _ _ _ hjr, if_pos hjr] at hc hx
      rw [marksI_len] at hc
      have hml := HR.out j hjr
      obtain ⟨M, hM⟩ : ∃ M, M = rows.getD j [] := ⟨_, rfl⟩
      have hoff : offN rows (j + 1) = offN rows j + M.length := by rw [hM]; exact offN_succ rows j
      have hoffn : offN rows (j + 1) ≤ offN rows n := offN_mono rows (by omega)
      have hk1 := HK1.out
      rw [← hM] at hc hx hml
      obtain ⟨m, hm⟩ : ∃ m, m = M.length := ⟨_, rfl⟩
      rw [← hm] at hoff hml hc hx
      obtain ⟨o, ho⟩ : ∃ o, o = offN rows j := ⟨_, rfl⟩
      rw [← ho] at hoff hx ⊢
      have hob : (0 : Int) ≤ k + (o : Nat) ∧ k + (o : Nat) ≤ 4194304 ∧ k + (o : Nat) + m ≤ 4194304 := by omega
      obtain ⟨ob1, ob2, ob3⟩ := hob
      have HOFF := Lib.hid hoff; clear hoff
      have HO := Lib.hid ho; clear ho
      have HX := Lib.hid hx; clear hx
      have e1 : (j : Int) < n := by omega
      have e0 : (0 : Int) ≤ j := by omega
      clear hoffn hk1 hm hM hjr
      have hnn : ¬ (k + (o : Int) + (m : Int) < 0) := by omega
      go_wp2_with fail
      refine (heldIntS_below _ _ _ _ _ hml ob1 ob2 HX.out).mono ?_; rintro e w2 ⟨rfl, hb2⟩
      have B2 := Lib.hid (below_seq BO.out hb2); clear hb2
      go_wp2
      go_roundw
      case rel => exact ⟨j + 1, by omega, by go_num, by rw [HOFF.out]; go_num, B2.out⟩
      case measure => simp [intOf]; omega
    · obtain rfl : j = n := by omega
      go_wp2
      go_ret
      exact ⟨rfl, BO.out⟩
/-- As RetSS, the number of lists by a name. -/
def RetSSn (w : World) (n : Nat) (rows : List (List Int)) (e : Ending) (w' : World) : Prop :=
  ∃ a cap, e = .returned (.slice a n cap) ∧ OwnsSS w' w.heap.size (.slice a n cap) rows ∧ Below w.heap.size w w'
theorem heap_under {w w' : World} {B b : Nat} {o : Obj} (h : w.heap[b]? = some o) (hb : Below B w w') (hlt : b < B) : w'.heap[b]? = some o := (hb.block b hlt).trans h
theorem offN_le (rows : List (List Int)) (c : Nat) (h : ∀ i, i < rows.length → (rows.getD i []).length ≤ c) : ∀ j, j ≤ rows.length → offN rows j ≤ j * c
  | 0, _ => by rw [show offN rows 0 = 0 from rfl]; omega
  | j + 1, hj => by
    have h1 := offN_le rows c h j (by omega)
    have h2 := h j (by omega)
    rw [offN_succ, Nat.succ_mul]
    omega
theorem allF_off (W T : Int) (xs : List Bool) : offN (allF W T xs) (allF W T xs).length ≤ 147456 := by
  have h1 := offN_le (allF W T xs) 36 (fun i hi => by
    have hr := allF_valid hi
    obtain ⟨v1, v2, v3, v4, v5, _⟩ := rv_true hr
    rw [(allF_row hi).1]
    have : W * T ≤ 6 * 6 := Int.mul_le_mul (by omega) (by omega) (by omega) (by omega)
    omega) _ (Nat.le_refl _)
  have h2 := allF_count W T xs
  omega
end Go.Proofs.Ytlnnoeojgdeagaa
