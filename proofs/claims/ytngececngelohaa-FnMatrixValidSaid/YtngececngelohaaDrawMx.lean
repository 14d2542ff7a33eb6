/- What is drawn of a code for matrices: contracts of spec.l20Matrix and spec.DrawMatrixValid. No statement is proved here. -/
import Derived.Test.YtngececngelohaaSS
import Derived.Test.YtngececngelohaaRowsAt
import Derived.Test.YtngececngelohaaDrawR
namespace Go.Proofs.Ytngececngelohaa
open Go.RowKit
set_option linter.unusedVariables false
set_option maxRecDepth 100000
set_option linter.unusedSimpArgs false

/-- A list of lists of the call's own, all in blocks ahead of D. -/
def MX (w : World) (B : Nat) (v : Value) (rows : List (List Int)) (D : Nat) : Prop :=
  ∃ ws, w.ownsRow B 39 1 v rows.length ws ∧ RowsI w B ws rows ∧ (∀ k, v.ownBlock = some k → k < D) ∧ ∀ i, i < rows.length → ∀ k, (ws.getD i (.slice none 0 0)).ownBlock = some k → k < D
theorem MX.mono {w : World} {B D D' : Nat} {v : Value} {rows : List (List Int)} (h : MX w B v rows D) (hD : D ≤ D') : MX w B v rows D' := by
  obtain ⟨ws, h1, h2, h3, h4⟩ := h
  exact ⟨ws, h1, h2, fun k e => Nat.lt_of_lt_of_le (h3 k e) hD, fun i hi k e => Nat.lt_of_lt_of_le (h4 i hi k e) hD⟩
theorem MX.kept {w w' : World} {B D : Nat} {v : Value} {rows : List (List Int)} {row : Option Nat} (h : MX w B v rows D) (hg : w.grownBy w' row) (hr : ∀ k, row = some k → k < B ∨ D ≤ k) : MX w' B v rows D := by
  obtain ⟨ws, h1, h2, h3, h4⟩ := h
  refine ⟨ws, World.ownsRow.kept h1 hg ?_, h2.kept hg ?_, h3, h4⟩
  · cases e : v.ownBlock with
    | none => exact Or.inl rfl
    | some k =>
      refine Or.inr (fun h => ?_)
      have a := h3 k e
      have b := (World.ownsRow.lt h1 k e).1
      have := hr k h.symm
      omega
  · intro i hi k hk e
    have a := h4 i hi k hk
    have b := (h2.block hi hk).1
    have := hr k e
    omega
theorem MX.alloc {w : World} {B D : Nat} {v : Value} {rows : List (List Int)} (h : MX w B v rows D) (o : Obj) : MX (w.alloc o) B v rows D := by
  obtain ⟨ws, h1, h2, h3, h4⟩ := h
  exact ⟨ws, World.ownsRow.alloc h1 o, h2.below (below1 w o), h3, h4⟩
theorem MX.at {w : World} {B D : Nat} {a : Option Addr} {n cap : Nat} {rows : List (List Int)} (h : MX w B (.slice a n cap) rows D) : RowsAt w a rows := by
  obtain ⟨ws, h1, h2, _⟩ := h
  intro i hi
  have ho := h2.own i hi
  obtain ⟨a', cap', e⟩ := ho.form2
  rw [e] at ho
  have hx := OwnsI.at ho
  rcases h1.2 with ⟨_, h0⟩ | ⟨g, cap2, cur, hv, _⟩
  · omega
  · simp only [Value.slice.injEq] at hv
    obtain ⟨rfl, rfl, rfl⟩ := hv
    refine ⟨g, 0, a', cap', rfl, ?_, hx⟩
    have hl : i < ws.length := by rw [h2.len]; exact hi
    rw [Nat.zero_add, World.ownsRow.cellAt (xs := ws) h1 i (by omega)]
    have e2 : ws.getD i (.slice none 0 0) = ws[i] := by simp [List.getD, hl]
    rw [e2] at e
    rw [List.getElem?_eq_getElem hl, e]
theorem MX.form {w : World} {B D : Nat} {v : Value} {rows : List (List Int)} (h : MX w B v rows D) : ∃ a cap, v = .slice a rows.length cap ∧ rows.length ≤ cap := by
  obtain ⟨ws, h1, _⟩ := h
  rcases h1.2 with ⟨h2, h3⟩ | ⟨g, cap, cur, hv, _, _, h4, _⟩
  · exact ⟨none, 0, by rw [h2, h3], by omega⟩
  · exact ⟨_, cap, hv, h4⟩
theorem MX.lit (w : World) {B : Nat} (hB : B ≤ w.heap.size) : MX (w.alloc (.cells #[] 39 (0, 0))) B (.slice (some ⟨w.heap.size, 0, none⟩) 0 0) [] (w.heap.size + 1) :=
  ⟨[], World.ownsRow_made w #[] 0 hB (Nat.zero_le _) rfl, RowsI.nil _ _, fun k e => by have e' : some w.heap.size = some k := e; cases e'; omega, fun i hi => absurd hi (Nat.not_lt_zero i)⟩
/-- Behind an append of a list from block D on. -/
theorem MX.snoc {w w' : World} {B D : Nat} {v v' vr : Value} {rows : List (List Int)} {M : List Int} {ws : List Value} (h1 : w.ownsRow B 39 1 v rows.length ws) (h2 : RowsI w B ws rows) (h3 : ∀ k, v.ownBlock = some k → k < D) (h4 : ∀ i, i < rows.length → ∀ k, (ws.getD i (.slice none 0 0)).ownBlock = some k → k < D) (ho : OwnsI w D vr M) (hBD : B ≤ D) (hg : w.grownBy w' v.ownBlock) (hown : w'.ownsRow B 39 1 v' (rows.length + 1) (ws ++ [vr])) : MX w' B v' (rows ++ [M]) w'.heap.size := by
  have hr2 : RowsI w' B ws rows := h2.kept hg (fun i hi k hk e => by
    obtain ⟨_, cs, hc⟩ := h2.block hi hk
    obtain ⟨ds, hd⟩ := row_block h1 e
    exact not_same hc hd (by decide))
  have ho2 : OwnsI w' D vr M := ho.keptBy hg (fun k e => h3 k e)
  have hs : RowsI w' B (ws ++ [vr]) (rows ++ [M]) := hr2.snoc (ho2.lower hBD) (fun i hi k hk e => by
    have a := h4 i hi k hk
    have b := (World.ownsRow.lt ho k e).1
    omega)
  refine ⟨ws ++ [vr], by rw [List.length_append, List.length_singleton]; exact hown, hs, fun k e => (World.ownsRow.lt hown k e).2, fun i hi k hk => ?_⟩
  obtain ⟨_, cs, hc⟩ := hs.block hi hk
  exact heap_lt hc
/-- The first number of the first list is set. -/
theorem MX.set0 {w : World} {B D : Nat} {a : Option Addr} {n cap : Nat} {rows : List (List Int)} (h : MX w B (.slice a n cap) rows D) (h0 : 0 < rows.length) (h1 : 0 < (rows.getD 0 []).length) : ∃ (g g0 cap0 : Nat) (rows' : List (List Int)), a = some ⟨g, 0, none⟩ ∧ w.cell? ⟨g, 0, none⟩ = some (.slice (some ⟨g0, 0, none⟩) (rows.getD 0 []).length cap0) ∧ (∃ u, w.cell? ⟨g0, 0, none⟩ = some (.int .i64 u)) ∧ w.frozen? ⟨g0, 0, none⟩ = false ∧ B ≤ g0 ∧ g0 < w.heap.size ∧ rows'.length = rows.length ∧ (∀ i, i < rows'.length → (rows'.getD i []).length = (rows.getD i []).length) ∧ RowsAt (w.setCell ⟨g0, 0, none⟩ (.int .i64 2)) (some ⟨g, 0, none⟩) rows' := by
  obtain ⟨ws, q1, q2, _⟩ := h
  have ho := q2.own 0 h0
  rcases ho.forms with ⟨_, he⟩ | ⟨g0, cap0, hv0, hb0, hl0⟩
  · rw [he] at h1; simp at h1
  have hrow : RowI w B g0 (rows.getD 0 []).length cap0 (fun i => (rows.getD 0 []).getD i 0) := RowI.of (by rw [← hv0]; exact ho) rfl
  have hset := RowI.set hrow 0 2
  rcases q1.2 with ⟨_, hz⟩ | ⟨g, cap2, cur, hv, _, hgh, _⟩
  · omega
  simp only [Value.slice.injEq] at hv
  obtain ⟨rfl, rfl, rfl⟩ := hv
  have hcell : ∀ i, i < rows.length → w.cell? ⟨g, i, none⟩ = some (ws.getD i (.slice none 0 0)) := by
    intro i hi
    have hl : i < ws.length := by rw [q2.len]; exact hi
    rw [World.ownsRow.cellAt (xs := ws) q1 i (by omega)]
    simp [List.getD, hl]
  have hgne : g ≠ g0 := by
    intro e
    subst e
    obtain ⟨_, cs, hc⟩ := q2.block h0 (show (ws.getD 0 (.slice none 0 0)).ownBlock = some g by rw [hv0]; rfl)
    exact not_same hc hgh (by decide)
  refine ⟨g, g0, cap0, (List.range rows.length).map fun i => if i = 0 then tabI (rows.getD 0 []).length (fun i => if i = 0 then 2 else (rows.getD 0 []).getD i 0) else rows.getD i [], rfl, by rw [hcell 0 h0, hv0], ⟨_, hrow.cell h1⟩, hrow.free 0, hb0, hl0, by simp, ?_, ?_⟩
  · intro i hi
    have hi' : i < rows.length := by simpa using hi
    by_cases e : i = 0
    · subst e; simp [List.getD, h0, tabI_len]
    · simp [List.getD, hi', e]
  · intro i hi
    have hi' : i < rows.length := by simpa using hi
    have hk : (w.setCell ⟨g0, 0, none⟩ (.int .i64 2)).cell? ⟨g, i, none⟩ = some (ws.getD i (.slice none 0 0)) := by
      rw [← hcell i hi']
      exact hset.2.cell (by rw [hcell i hi']) (fun e => hgne (by simpa using e)) |>.trans (by rw [hcell i hi'])
    by_cases e : i = 0
    · subst e
      refine ⟨g, 0, some ⟨g0, 0, none⟩, cap0, rfl, ?_, ?_⟩
      · rw [Nat.zero_add, hk, hv0]; simp [List.getD, h0, tabI_len]
      · have := OwnsI.at (RowI.owns hset.1)
        simpa [List.getD, h0] using this
    · obtain ⟨a', cap', e2⟩ := (q2.own i hi').form2
      have hoi := q2.own i hi'
      rw [e2] at hoi
      refine ⟨g, 0, a', cap', rfl, ?_, ?_⟩
      · rw [Nat.zero_add, hk, e2]; simp [List.getD, hi', e]
      · have hkp : OwnsI (w.setCell ⟨g0, 0, none⟩ (.int .i64 2)) B (.slice a' (rows.getD i []).length cap') (rows.getD i []) := World.ownsRow.kept hoi hset.2 (Or.inr (fun h9 => by
          have := q2.apart 0 i (by omega) hi' g0 (by rw [hv0]; rfl)
          rw [e2] at this
          exact this h9))
        have := OwnsI.at hkp
        simpa [List.getD, hi', e] using this
theorem own_nilM (w : World) {B : Nat} (hB : B ≤ w.heap.size) : OwnsI (w.alloc (.cells #[] 3 (0, 0))) B (.slice (some ⟨w.heap.size, 0, none⟩) 0 0) [] :=
  World.ownsRow_made w #[] 0 hB (Nat.zero_le _) rfl

set_option maxHeartbeats 2000000 in
theorem l20Matrix_any (rb P : Nat) (n : Int) (w : World) (hn0 : 0 ≤ n) (hn1 : n ≤ 1000) (hP : P ≤ 9000) (h : RD w rb P) :
    Calls Try.prog 14 #[.pointer (some ⟨rb, 0, none⟩), .int .i64 n] w fun e w' => ∃ (a : Option Addr) (m cap : Nat) (rows : List (List Int)), e = .returned (.slice a m cap) ∧ m = rows.length ∧ m ≤ 6 ∧ m ≤ cap ∧ (∀ i, i < rows.length → (rows.getD i []).length ≤ 5) ∧ RowsAt w' a rows ∧ Below rb w w' := by
  obtain ⟨i0, hi, hz0, hz1, hz2⟩ := info_parts infoInt
  obtain ⟨i1, hi1, hy0, hy1, hy2⟩ := info_parts infoSl
  have lr := h.lt
  have R0 := Lib.hid h; clear h
  go_enter Try.func14, Try.ntmps14
  go_wp2_with fail
  refine (pick_any rb P 6 _ (by omega) (by omega) (by omega) R0.out).mono ?_; rintro e w1 ⟨s, hs, rfl, r1, g1⟩
  have R1 := Lib.hid r1
  have b1 : Below rb w w1 := below_grown (Below.refl _ _) g1 (by omega) (fun k e => by cases e; omega)
  have l1 := R1.out.lt
  clear r1 g1
  obtain ⟨w2, hw2⟩ : ∃ w2, w2 = w1.alloc (.cells #[] 39 (0, 0)) := ⟨_, rfl⟩
  have m2 : MX w2 (rb + 1) (.slice (some ⟨w1.heap.size, 0, none⟩) 0 0) [] w2.heap.size := by
    rw [hw2]; have := MX.lit w1 (B := rb + 1) (by omega); simpa using this
  have R2 : Hid (RD w2 rb (P + 1)) := by rw [hw2]; exact R1.out.below (below1 _ _)
  have b2 : Below rb w w2 := by rw [hw2]; exact b1.alloc (by omega) _
  have M2 := Lib.hid m2; clear m2
  go_wp2_with fail
  rw [← hw2]
  clear hw2 R1 b1 l1
  go_loopw [6, 7, 8, 9] (fun v i _ _ wr => ∃ (k Q : Nat) (rows : List (List Int)), k ≤ s ∧ i = .int .i64 k ∧ rows.length = k ∧ (∀ i, i < rows.length → (rows.getD i []).length = s) ∧ MX wr (rb + 1) v rows wr.heap.size ∧ RD wr rb Q ∧ Q ≤ P + 1 + 10 * k ∧ Below rb w wr) (fun _ i _ _ _ => s - (intOf i).toNat)
  case atStart => exact ⟨0, P + 1, [], Nat.zero_le _, rfl, rfl, (fun i hi => absurd hi (Nat.not_lt_zero i)), M2.out, R2.out, by omega, b2⟩
  case round =>
    clear M2 R2 b2
    rename World => wo
    obtain ⟨k, Q, rows, hk, rfl, hlen, h5, hmx, hrd, hQ, hbel⟩ := hrel
    have MO := Lib.hid hmx; clear hmx
    have RO := Lib.hid hrd; clear hrd
    have BEL := Lib.hid hbel; clear hbel
    have HLEN := Lib.hid hlen; clear hlen
    have H5 := Lib.hid h5; clear h5
    have lo := RO.out.lt
    by_cases hlt : k < s
    · have e1 : (k : Int) < s := by omega
      obtain ⟨w3, hw3⟩ : ∃ w3, w3 = wo.alloc (.cells #[] 3 (0, 0)) := ⟨_, rfl⟩
      have O3 : Hid (OwnsI w3 wo.heap.size (.slice (some ⟨wo.heap.size, 0, none⟩) 0 0) []) := by rw [hw3]; exact own_nilM wo (Nat.le_refl _)
      have M3 : Hid (MX w3 (rb + 1) u6 rows wo.heap.size) := by rw [hw3]; exact MO.out.alloc _
      have R3 : Hid (RD w3 rb Q) := by rw [hw3]; exact RO.out.below (below1 _ _)
      have B3 : Hid (Below rb w w3) := by rw [hw3]; exact BEL.out.alloc (by omega) _
      have z3 : wo.heap.size ≤ w3.heap.size := by rw [hw3]; simp
      obtain ⟨D, hD⟩ : ∃ D, D = wo.heap.size := ⟨_, rfl⟩
      rw [← hD] at O3 M3 z3 lo
      go_wp2_with fail
      rw [← hw3]
      clear hw3 BEL RO MO
      go_loopw [8, 9] (fun vr i wr => ∃ (j Q2 : Nat) (M : List Int), j ≤ s ∧ i = .int .i64 j ∧ M.length = j ∧ OwnsI wr D vr M ∧ MX wr (rb + 1) u6 rows D ∧ RD wr rb Q2 ∧ Q2 ≤ Q + j ∧ D ≤ wr.heap.size ∧ Below rb w wr) (fun _ i _ => s - (intOf i).toNat)
      case atStart => exact ⟨0, Q, [], Nat.zero_le _, rfl, rfl, by rw [hD] at O3 ⊢; exact O3.out, M3.out, R3.out, by omega, z3, B3.out⟩
      case round =>
        clear O3 M3 R3 B3 z3
        rename World => wq
        obtain ⟨j, Q2, M, hj, rfl, hml, ho, hmx, hrd, hQ2, hDz, hbel⟩ := hrel
        have HO := Lib.hid ho; clear ho
        have MQ := Lib.hid hmx; clear hmx
        have RQ := Lib.hid hrd; clear hrd
        have BQ := Lib.hid hbel; clear hbel
        have HML := Lib.hid hml; clear hml
        have lq := RQ.out.lt
        by_cases hjs : j < s
        · have j1 : (j : Int) < s := by omega
          go_wp2_with fail
          refine (pick_any rb Q2 3 _ (by omega) (by omega) (by omega) RQ.out).mono ?_; rintro e w5 ⟨x, hx, rfl, r5, g5⟩
          have O5 := Lib.hid (OwnsI.keptBy HO.out g5 (fun k e => by cases e; omega))
          have M5 := Lib.hid (MQ.out.kept g5 (fun k e => by cases e; omega))
          have R5 := Lib.hid r5
          have B5 := Lib.hid (below_grown BQ.out g5 (by omega) (fun k e => by cases e; omega))
          have z5 : wq.heap.size ≤ w5.heap.size := g5.size
          clear r5 g5
          have l5 := R5.out.lt
          go_wp2_with (at_builtin; refine wpList_append_own _ rfl _ _ 39 rfl D 3 i0 (.int .i64 0) 1 8 Try.underlying39 hi hz0 hz1 hz2 rfl (by decide) _ M.length (M.map (Value.int .i64)) rfl (World.ownsRow.alloc O5.out _) ⟨w5.heap.size, 0, none⟩ 1 1 [.int .i64 ((x : Int) - 1)] rfl rfl (new_int _ _) (one_int _) (by unfold maxLen; have := HML.out; omega) (by have := HML.out; omega) (by simp; omega) ?_; intro v' w8 hown' hgrow _; have z8 : D ≤ w8.heap.size := (by have := hgrow.size; simp at this; omega); have O8 := Lib.hid (OwnsI.ofRow (xs := M ++ [(x : Int) - 1]) hown' (by simp) (by simp)); have M8 := Lib.hid ((M5.out.alloc _).kept hgrow (fun k e => Or.inr (World.ownsRow.lt O5.out k e).1)); have R8 := Lib.hid ((R5.out.below (below1 _ _)).grown hgrow (fun k e => by have := (World.ownsRow.lt O5.out k e).1; omega)); have B8 := Lib.hid (below_grown (B5.out.alloc (by omega) _) hgrow (by omega) (fun k e => by have := (World.ownsRow.lt O5.out k e).1; omega)); clear hown' hgrow)
          go_roundw
          case rel => exact ⟨j + 1, Q2 + 1, M ++ [(x : Int) - 1], by omega, by go_num, by simp [HML.out], O8.out, M8.out, R8.out, by omega, z8, B8.out⟩
          case measure => simp [intOf]; omega
        · obtain rfl : j = s := by omega
          have HO2 := HO.out
          obtain ⟨aM, capM, hvM⟩ := HO2.form2
          subst hvM
          have HOM := Lib.hid HO2; clear HO2 HO
          obtain ⟨ws, q1, q2, q3, q4⟩ := MQ.out
          have Q1 := Lib.hid q1; have Q2' := Lib.hid q2; have Q3 := Lib.hid q3; have Q4 := Lib.hid q4
          clear q1 q2 q3 q4 MQ
          have hr5 : rows.length ≤ 5 := by have := HLEN.out; omega
          go_wp2_with (at_builtin; refine wpList_append_own _ rfl _ _ 23 rfl (rb + 1) 39 i1 (.slice none 0 0) 1 24 Try.underlying23 hi1 hy0 hy1 hy2 rfl (by decide) _ rows.length ws rfl (World.ownsRow.alloc Q1.out _) ⟨wq.heap.size, 0, none⟩ 1 1 [.slice aM M.length capM] rfl rfl (cell_one_new _ _ _) (fun u hu => by simp at hu; subst hu; rfl) (by unfold maxLen; omega) (by omega) (by simp; omega) ?_; intro v' w8 hown' hgrow _; have M8 := Lib.hid (MX.snoc (World.ownsRow.alloc Q1.out _) (Q2'.out.below (below1 _ _)) Q3.out Q4.out (HOM.out.alloc _) (by omega) hgrow hown'); have R8 := Lib.hid ((RQ.out.below (below1 _ _)).grown hgrow (fun k e => by have := (World.ownsRow.lt Q1.out k e).1; omega)); have B8 := Lib.hid (below_grown (BQ.out.alloc (by omega) _) hgrow (by omega) (fun k e => by have := (World.ownsRow.lt Q1.out k e).1; omega)); clear hown' hgrow)
          go_roundw
          case rel =>
            refine ⟨k + 1, Q2, rows ++ [M], by omega, by go_num, by simp [HLEN.out], ?_, M8.out, R8.out, by omega, B8.out⟩
            intro i hi
            rw [List.length_append, List.length_singleton] at hi
            by_cases h : i < rows.length
            · have := H5.out i h
              simpa [List.getD, List.getElem?_append_left h] using this
            · obtain rfl : i = rows.length := by omega
              simpa [List.getD] using HML.out
          case measure => simp [intOf]; omega
    · obtain rfl : k = s := by omega
      go_wp2_with fail
      refine (odd_any rb Q n _ hn0 hn1 (by omega) RO.out).mono ?_; rintro e w3 ⟨b3, rfl, r3, g3⟩
      have M3 := Lib.hid (MO.out.kept g3 (fun k e => by cases e; omega))
      have R3 := Lib.hid r3
      have B3 := Lib.hid (below_grown BEL.out g3 (by omega) (fun k e => by cases e; omega))
      have z3 : wo.heap.size ≤ w3.heap.size := g3.size
      clear r3 g3 MO RO BEL
      have hr5 : rows.length ≤ 5 := by have := HLEN.out; omega
      have l3 := R3.out.lt
      cases b3
      · obtain ⟨a9, cap9, hv, hcap⟩ := M3.out.form
        subst hv
        go_wp2
        go_ret
        exact ⟨a9, rows.length, cap9, rows, rfl, rfl, by omega, hcap, (fun i hi => by rw [H5.out i hi]; omega), M3.out.at, B3.out⟩
      · by_cases hk0 : 0 < k
        · have k0 : (0 : Int) < k := by omega
          go_wp2_with fail
          refine (pick_any rb (Q + 1) 2 _ (by omega) (by omega) (by omega) R3.out).mono ?_; rintro e w4 ⟨x, hx, rfl, r4, g4⟩
          have M4 := Lib.hid (M3.out.kept g4 (fun k e => by cases e; omega))
          have B4 := Lib.hid (below_grown B3.out g4 (by omega) (fun k e => by cases e; omega))
          have z4 : wo.heap.size ≤ w4.heap.size := Nat.le_trans z3 g4.size
          have l4 : rb < w4.heap.size := by omega
          clear r4 g4 M3 B3 R3 z3 l3
          have hx2 : x = 0 ∨ x = 1 := by omega
          rcases hx2 with rfl | rfl
          · have hk1 : 0 < rows.length := by rw [HLEN.out]; exact hk0
            obtain ⟨a9, cap9, hv, hcap⟩ := M4.out.form
            subst hv
            obtain ⟨g, g0, cap0, rows', rfl, hc1, ⟨u, hc2⟩, hfz, hg0, hg1, hl', h5', hat⟩ := MX.set0 M4.out hk1 (by rw [H5.out 0 hk1]; omega)
            rw [H5.out 0 hk1] at hc1
            have HAT := Lib.hid hat; clear hat
            have HL' := Lib.hid hl'; clear hl'
            have hkr : (0 : Int) < rows.length := by omega
            go_wp2
            go_ret
            exact ⟨some ⟨g, 0, none⟩, rows.length, cap9, rows', rfl, HL'.out.symm, by omega, hcap, (fun i hi => by rw [h5' i hi, H5.out i (by rw [← HL'.out]; exact hi)]; omega), HAT.out, B4.out.setCell (by show rb ≤ g0; omega) _⟩
          · obtain ⟨ws, q1, q2, q3, q4⟩ := M4.out
            have Q1 := Lib.hid q1; have Q2' := Lib.hid q2; have Q3 := Lib.hid q3; have Q4 := Lib.hid q4
            clear q1 q2 q3 q4
            go_wp2_with (at_builtin; refine wpList_append_own _ rfl _ _ 23 rfl (rb + 1) 39 i1 (.slice none 0 0) 1 24 Try.underlying23 hi1 hy0 hy1 hy2 rfl (by decide) _ rows.length ws rfl (World.ownsRow.alloc (World.ownsRow.alloc Q1.out _) _) ⟨w4.heap.size + 1, 0, none⟩ 1 1 [.slice (some ⟨w4.heap.size, 0, none⟩) 0 0] rfl rfl (by have := cell_one_new (w4.alloc (.cells #[] 3 (0, 0))) (.slice (some ⟨w4.heap.size, 0, none⟩) 0 0) 39; simpa using this) (fun u hu => by simp at hu; subst hu; rfl) (by unfold maxLen; omega) (by omega) (by simp; omega) ?_; intro v' w8 hown' hgrow _; have M8 := Lib.hid (MX.snoc (D := w4.heap.size) (World.ownsRow.alloc (World.ownsRow.alloc Q1.out _) _) ((Q2'.out.below (below1 _ _)).below (below1 _ _)) (fun k e => Nat.lt_of_lt_of_le (Q3.out k e) z4) (fun i hi k e => Nat.lt_of_lt_of_le (Q4.out i hi k e) z4) ((own_nilM w4 (Nat.le_refl _)).alloc _) (by omega) hgrow hown'); have B8 := Lib.hid (below_grown ((B4.out.alloc (by omega) _).alloc (by simp; omega) _) hgrow (by omega) (fun k e => by have := (World.ownsRow.lt Q1.out k e).1; omega)); clear hown' hgrow)
            obtain ⟨a9, cap9, hv, hcap⟩ := M8.out.form
            subst hv
            go_ret
            refine ⟨a9, (rows ++ [[]]).length, cap9, rows ++ [[]], rfl, rfl, by simp; omega, hcap, ?_, M8.out.at, B8.out⟩
            intro i hi
            rw [List.length_append, List.length_singleton] at hi
            by_cases h : i < rows.length
            · have := H5.out i h
              have e9 : ((rows ++ [[]] : List (List Int)).getD i []) = rows.getD i [] := by simp [List.getD, List.getElem?_append_left h]
              rw [e9, this]; omega
            · obtain rfl : i = rows.length := by omega
              simp [List.getD]
        · obtain rfl : k = 0 := by omega
          obtain ⟨ws, q1, q2, q3, q4⟩ := M3.out
          have Q1 := Lib.hid q1; have Q2' := Lib.hid q2; have Q3 := Lib.hid q3; have Q4 := Lib.hid q4
          clear q1 q2 q3 q4
          go_wp2_with (at_builtin; refine wpList_append_own _ rfl _ _ 23 rfl (rb + 1) 39 i1 (.slice none 0 0) 1 24 Try.underlying23 hi1 hy0 hy1 hy2 rfl (by decide) _ rows.length ws rfl (World.ownsRow.alloc (World.ownsRow.alloc Q1.out _) _) ⟨w3.heap.size + 1, 0, none⟩ 1 1 [.slice (some ⟨w3.heap.size, 0, none⟩) 0 0] rfl rfl (by have := cell_one_new (w3.alloc (.cells #[] 3 (0, 0))) (.slice (some ⟨w3.heap.size, 0, none⟩) 0 0) 39; simpa using this) (fun u hu => by simp at hu; subst hu; rfl) (by unfold maxLen; omega) (by omega) (by simp; omega) ?_; intro v' w8 hown' hgrow _; have M8 := Lib.hid (MX.snoc (D := w3.heap.size) (World.ownsRow.alloc (World.ownsRow.alloc Q1.out _) _) ((Q2'.out.below (below1 _ _)).below (below1 _ _)) (fun k e => Nat.lt_of_lt_of_le (Q3.out k e) z3) (fun i hi k e => Nat.lt_of_lt_of_le (Q4.out i hi k e) z3) ((own_nilM w3 (Nat.le_refl _)).alloc _) (by omega) hgrow hown'); have B8 := Lib.hid (below_grown ((B3.out.alloc (by omega) _).alloc (by simp; omega) _) hgrow (by omega) (fun k e => by have := (World.ownsRow.lt Q1.out k e).1; omega)); clear hown' hgrow)
          obtain ⟨a9, cap9, hv, hcap⟩ := M8.out.form
          subst hv
          go_ret
          refine ⟨a9, (rows ++ [[]]).length, cap9, rows ++ [[]], rfl, rfl, by simp; omega, hcap, ?_, M8.out.at, B8.out⟩
          intro i hi
          rw [List.length_append, List.length_singleton] at hi
          by_cases h : i < rows.length
          · have := H5.out i h
            have e9 : ((rows ++ [[]] : List (List Int)).getD i []) = rows.getD i [] := by simp [List.getD, List.getElem?_append_left h]
            rw [e9, this]; omega
          · obtain rfl : i = rows.length := by omega
            simp [List.getD]

theorem drawMatrixValid_any (cb : Option Addr) (n cap : Nat) (zs : List Int) (w : World) (hn : n = zs.length) (hn' : n ≤ 1048576) (hcap : n ≤ cap) (hb : BytesAt w cb zs) :
    Calls Try.prog 5 #[.slice cb n cap] w fun e w' => ∃ (a : Option Addr) (m cap' : Nat) (rows : List (List Int)), e = .returned (.slice a m cap') ∧ m = rows.length ∧ m ≤ 6 ∧ m ≤ cap' ∧ (∀ i, i < rows.length → (rows.getD i []).length ≤ 5) ∧ RowsAt w' a rows ∧ Below w.heap.size w w' := by
  have HN := Lib.hid hn; clear hn
  have HB := Lib.hid hb; clear hb
  go_enter Try.func5, Try.ntmps5
  go_wp2_with fail
  refine (l20Open_any _ _ _ zs _ HN.out hn' hcap HB.out).mono ?_; rintro e w1 ⟨rfl, r1, b1⟩
  go_wp2_with fail
  refine (l20Matrix_any w.heap.size 0 2 _ (by omega) (by omega) (by omega) r1).mono ?_; rintro e w2 ⟨a, m, c2, rows, rfl, hm, h6, hc, h5, hr, hb2⟩
  have HM := Lib.hid hm; clear hm
  go_wp2
  go_ret
  exact ⟨a, m, c2, rows, rfl, HM.out, h6, hc, h5, hr, b1.trans hb2⟩

end Go.Proofs.Ytngececngelohaa
