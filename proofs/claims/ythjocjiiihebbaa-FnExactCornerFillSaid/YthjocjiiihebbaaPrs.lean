/- All pairs of numbers in order: the contract of impl.pairsInOrder. No statement is proved here. -/
import Derived.Test.YthjocjiiihebbaaPairs
namespace Go.Proofs.Ythjocjiiihebbaa
open Go.RowKit
set_option linter.unusedVariables false
set_option maxRecDepth 100000
set_option linter.unusedSimpArgs false

theorem infoPr : (Try.prog.info? 69).map (fun i => (i.zero, i.size, i.bytes)) = some (some (.agg #[.int .i64 0, .int .i64 0]), 2, 16) := by kernel_rfl
/-- The lesser number of the pair at a place. -/
def lowP (p : Nat) : Nat := if p < 7 then 0 else if p < 13 then 1 else if p < 18 then 2 else if p < 22 then 3 else if p < 25 then 4 else if p < 27 then 5 else 6
/-- How many pairs have a lesser number below l. -/
def baseP (l : Nat) : Nat := 7 * l - l * (l - 1) / 2
def highP (p : Nat) : Nat := lowP p + (p - baseP (lowP p))
def prC (s : Nat × Nat) : List Value := [.int .i64 s.1, .int .i64 s.2]
def prL (n : Nat) : List (Nat × Nat) := (List.range n).map fun p => (lowP p, highP p)
theorem prL_succ (n : Nat) : prL (n + 1) = prL n ++ [(lowP n, highP n)] := by unfold prL; rw [List.range_succ, List.map_append]; rfl
theorem prL_len (n : Nat) : (prL n).length = n := by simp [prL]
theorem base_next : ∀ l, l < 7 → baseP (l + 1) = baseP l + (7 - l) := by decide
theorem base_le : ∀ l, l < 8 → baseP l ≤ 28 := by decide
theorem pair_at : ∀ l, l < 7 → ∀ g, g < 7 → l ≤ g → lowP (baseP l + (g - l)) = l ∧ highP (baseP l + (g - l)) = g := by decide
theorem low_le : ∀ p, p < 28 → lowP p ≤ 6 ∧ highP p ≤ 6 ∧ lowP p ≤ highP p ∧ baseP (lowP p) ≤ p := by decide
theorem low_on : ∀ p, p < 28 → ∀ l, l < 8 → l ≤ lowP p → (6 - l < p - baseP l ↔ l < lowP p) ∧ baseP l ≤ p := by decide
def OwnsPr (w : World) (B : Nat) (v : Value) (l : List (Nat × Nat)) : Prop := w.ownsRow B 69 2 v l.length (l.flatMap prC)
theorem OwnsPr.below {w w' : World} {B : Nat} {v : Value} {l : List (Nat × Nat)} (h : OwnsPr w B v l) (hb : Below w.heap.size w w') : OwnsPr w' B v l :=
  World.ownsRow.kept (row := none) h ⟨hb.os, hb.tape, hb.output, hb.size, fun k hk _ => hb.block k hk⟩ (by cases v.ownBlock <;> simp)
theorem OwnsPr.kept {w w' : World} {B : Nat} {v : Value} {l : List (Nat × Nat)} {g : Nat} (h : OwnsPr w B v l) (hg : w.grownBy w' (some g)) (hne : v.ownBlock ≠ some g) : OwnsPr w' B v l :=
  World.ownsRow.kept h hg (Or.inr hne)
theorem OwnsPr.form {w : World} {B : Nat} {v : Value} {l : List (Nat × Nat)} (h : OwnsPr w B v l) : ∃ (a : Option Addr) (cap : Nat), v = .slice a l.length cap := by
  rcases h.2 with ⟨e, h2⟩ | ⟨g, cap, cur, e, _⟩
  · exact ⟨none, 0, by rw [e, h2]⟩
  · exact ⟨some ⟨g, 0, none⟩, cap, e⟩
theorem OwnsPr.pos {w : World} {B : Nat} {v : Value} {l : List (Nat × Nat)} (h : OwnsPr w B v l) (h0 : 0 < l.length) : ∃ g cap, v = .slice (some ⟨g, 0, none⟩) l.length cap ∧ B ≤ g ∧ g < w.heap.size := by
  rcases h.2 with ⟨e, h2⟩ | ⟨g, cap, cur, e, _⟩
  · omega
  · exact ⟨g, cap, e, World.ownsRow.lt h g (by rw [e]; rfl)⟩
theorem OwnsPr.lower {w : World} {B B' : Nat} {v : Value} {l : List (Nat × Nat)} (h : OwnsPr w B v l) (hB : B' ≤ B) : OwnsPr w B' v l := by
  refine ⟨h.1, ?_⟩
  rcases h.2 with hn | ⟨g, cap, cur, hv, hb, r⟩
  · exact .inl hn
  · exact .inr ⟨g, cap, cur, hv, Nat.le_trans hB hb, r⟩
theorem OwnsPr.ownBlock {w : World} {B : Nat} {v : Value} {l : List (Nat × Nat)} (h : OwnsPr w B v l) {b : Nat} (hb : b < B) : v.ownBlock ≠ some b := fun e => by
  have := World.ownsRow.lt h b e; omega
theorem OwnsPr.ownAt {w : World} {B : Nat} {v : Value} {l : List (Nat × Nat)} (h : OwnsPr w B v l) {B' : Nat} (hB : B' ≤ B) : ∀ k, v.ownBlock = some k → B' ≤ k := fun k e => Nat.le_trans hB (World.ownsRow.lt h k e).1
theorem OwnsPr.more {w : World} {B : Nat} {v : Value} {l l' : List (Nat × Nat)} {s : Nat × Nat} {cs : List Value} (he : prC s = cs) (hx : l' = l ++ [s]) (h : w.ownsRow B 69 2 v (l.length + 1) (l.flatMap prC ++ cs)) : OwnsPr w B v l' := by
  subst hx; subst he
  unfold OwnsPr
  rw [List.length_append, List.length_singleton, List.flatMap_append]
  simpa using h
theorem flat2 (l : List (Nat × Nat)) : ∀ i j, (h : i < l.length) → j < 2 → (l.flatMap prC)[i * 2 + j]? = (prC l[i])[j]? := by
  induction l with
  | nil => intro i j h; simp at h
  | cons x l ih =>
    intro i j h hj
    rw [List.flatMap_cons]
    cases i with
    | zero => rw [List.getElem?_append_left (by simp [prC]; omega)]; simp
    | succ i =>
      rw [List.getElem?_append_right (by simp [prC]; omega), show (i + 1) * 2 + j - (prC x).length = i * 2 + j by simp [prC]; omega]
      exact ih i j (by simpa using h) hj
theorem OwnsPr.cellAt {w : World} {B g n cap : Nat} {l : List (Nat × Nat)} (h : OwnsPr w B (.slice (some ⟨g, 0, none⟩) n cap) l) {i : Nat} (hi : i < l.length) : ∀ j u, (prC l[i])[j]? = some u → w.cell? ⟨g, i * 2 + j, none⟩ = some u := by
  intro j u hu
  have hj : j < 2 := by
    obtain ⟨h1, _⟩ := List.getElem?_eq_some_iff.1 hu
    simpa [prC] using h1
  have hn : n = l.length := by
    obtain ⟨a, c, e⟩ := OwnsPr.form h
    simp only [Value.slice.injEq] at e; exact e.2.1
  subst hn
  rw [World.ownsRow.cellAt h (i * 2 + j) (by omega), flat2 l i j hi hj, hu]
theorem cells2p {w : World} {b : Nat} {v0 v1 : Value} {t : TypeId} {fr : Nat × Nat} (h : w.heap[b]? = some (.cells #[v0, v1] t fr)) : w.cell? ⟨b, 0, none⟩ = some v0 ∧ w.cell? ⟨b, 1, none⟩ = some v1 :=
  ⟨by rw [cell_of_row w b 0 _ _ _ h]; rfl, by rw [cell_of_row w b 1 _ _ _ h]; rfl⟩
theorem new_pr (w : World) (v0 v1 : Value) : ∀ j u, [v0, v1][j]? = some u → (w.alloc (.cells #[v0, v1] 69)).cell? ((⟨w.heap.size, 0, none⟩ : Addr).add j) = some u := by
  intro j u h
  obtain ⟨c0, c1⟩ := cells2p (heap_new w (.cells #[v0, v1] 69))
  have hj : j < 2 := by
    have := List.getElem?_eq_some_iff.1 h
    obtain ⟨h1, _⟩ := this
    simpa using h1
  have : j = 0 ∨ j = 1 := by omega
  rcases this with rfl | rfl <;> simp at h <;> subst h <;> simp [Addr.add] <;> assumption
theorem one_pr (a b : Int) : ∀ u ∈ [Value.int .i64 a, .int .i64 b], u.oneCell' = true := by
  intro u hu; simp at hu; rcases hu with rfl | rfl <;> rfl

set_option maxHeartbeats 2000000 in
theorem pairsInOrder_ret (w : World) : Calls Try.prog 63 #[] w fun e w' => ∃ v, e = .returned v ∧ OwnsPr w' w.heap.size v (prL 28) ∧ Below w.heap.size w w' := by
  obtain ⟨i0, hi, hz0, hz1, hz2⟩ := info_parts infoPr
  go_enter Try.func63, Try.ntmps63
  go_wp2
  go_loopw [1, 2, 3] (fun v i _ wr => ∃ l : Nat, l ≤ 7 ∧ i = .int .i64 l ∧ OwnsPr wr w.heap.size v (prL (baseP l)) ∧ Below w.heap.size w wr) (fun _ i _ _ => 7 - (intOf i).toNat)
  case atStart => exact ⟨0, by omega, rfl, World.ownsRow_nil _ _ _ _, Below.refl _ _⟩
  case round =>
    rename World => wo
    obtain ⟨l, hl, rfl, ho, hbel⟩ := hrel
    by_cases hlt : l < 7
    · have e1 : (l : Int) ≤ 6 := by omega
      go_wp2
      go_loopw [1, 3] (fun v i wr => ∃ g : Nat, l ≤ g ∧ g ≤ 7 ∧ i = .int .i64 g ∧ OwnsPr wr w.heap.size v (prL (baseP l + (g - l))) ∧ Below w.heap.size w wr) (fun _ i _ => 7 - (intOf i).toNat)
      case atStart => exact ⟨l, Nat.le_refl _, by omega, rfl, by rw [Nat.sub_self]; exact ho, hbel⟩
      case round =>
        clear ho hbel
        rename World => wi
        obtain ⟨g, hg0, hg, rfl, ho, hbel⟩ := hrel
        have HO := Lib.hid ho; clear ho
        have BEL := Lib.hid hbel; clear hbel
        have lq : w.heap.size ≤ wi.heap.size := BEL.out.size
        by_cases hgt : g < 7
        · have e2 : (g : Int) ≤ 6 := by omega
          obtain ⟨q1, q2⟩ := pair_at l hlt g hgt hg0
          have hb28 := base_le (l + 1) (by omega)
          rw [base_next l hlt] at hb28
          have HX := Lib.hid (show prL (baseP l + (g + 1 - l)) = prL (baseP l + (g - l)) ++ [(l, g)] by rw [show baseP l + (g + 1 - l) = baseP l + (g - l) + 1 by omega, prL_succ, q1, q2])
          have HE := Lib.hid (show prC (l, g) = [.int .i64 (l : Int), .int .i64 (g : Int)] from rfl)
          obtain ⟨P, hP⟩ : ∃ P, P = baseP l + (g - l) := ⟨_, rfl⟩
          rw [← hP] at HO HX
          have hPb : P ≤ 100 := by omega
          have hln := prL_len P
          clear hP q1 q2 hb28
          have NS := Lib.hid (new_pr wi (.int .i64 (l : Int)) (.int .i64 (g : Int)))
          go_wp2_with (at_builtin; refine wpList_append_own _ rfl _ _ 66 rfl w.heap.size 69 i0 (.agg #[.int .i64 0, .int .i64 0]) 2 16 Try.underlying66 hi hz0 hz1 hz2 rfl (by decide) _ (prL P).length ((prL P).flatMap prC) rfl (World.ownsRow.alloc HO.out _) ⟨wi.heap.size, 0, none⟩ 1 1 [.int .i64 (l : Int), .int .i64 (g : Int)] rfl rfl NS.out (one_pr _ _) (by unfold maxLen; omega) (by omega) (by first | (simp; done) | (simp; omega)) ?_; intro v' w8 hown' hgrow _; have O8 := Lib.hid (OwnsPr.more HE.out HX.out hown'); have B8 := Lib.hid (below_grown (below_seq BEL.out (below1 _ _)) hgrow (Nat.le_refl _) (OwnsPr.ownAt HO.out (Nat.le_refl _))); clear hown' hgrow)
          go_roundw
          case rel => exact ⟨g + 1, by omega, by omega, by go_num, O8.out, B8.out⟩
          case measure => simp [intOf]; omega
        · obtain rfl : g = 7 := by omega
          have HB := Lib.hid (base_next l hlt)
          go_wp2
          go_roundw
          case rel => exact ⟨l + 1, by omega, by go_num, by rw [HB.out]; exact HO.out, BEL.out⟩
          case measure => simp [intOf]; omega
    · obtain rfl : l = 7 := by omega
      go_wp2
      go_ret
      exact ⟨_, rfl, ho, hbel⟩

end Go.Proofs.Ythjocjiiihebbaa
