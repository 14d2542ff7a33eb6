/- Contracts of impl.copyField and impl.sameField. Merged of: Copy, Set, SetS. -/
import Derived.Test.YtknigcjpgkolgaaKSetS
namespace Go.Proofs.Ytknigcjpgkolgaa
open Go.RowKit
set_option linter.unusedVariables false
set_option maxRecDepth 100000
set_option linter.unusedSimpArgs false

theorem RowB.mk' {w : World} {B g N : Nat} {f : Nat → Bool} (hB : B ≤ g) (hN : N ≤ maxLen) (h : w.heap[g]? = some (.cells (cellsOf N f) 4 (0, 0))) : RowB w B g N N f :=
  ⟨by simp [tab_len], Or.inr ⟨g, N, _, rfl, hB, h, Nat.le_refl _, hN, by simp [cellsOf, tab_len], by simp [cellsOf, List.take_of_length_le, tab_len]⟩⟩

theorem sizeBool : (Try.prog.info? 4).map (·.size) = some 1 := by kernel_rfl

/-- What a copy of n truths into a row of n leaves: a world of which these facts are known. -/
structure Copied (g n : Nat) (xs : List Bool) (w w' : World) : Prop where
  at_g : w'.heap[g]? = some (.cells (cellsOf n (fun i => xs.getD i false)) 4 (0, 0))
  other : ∀ k o, k ≠ g → w.heap[k]? = some o → w'.heap[k]? = some o
  below : ∀ B w0, B ≤ g → Below B w0 w → Below B w0 w'

theorem wpList_copy_bools {P : Program} {w : World} {ops : Array Oper} {rest : List Oper} {o : Oper} {a : Act} {Q : Exit → Act → World → Prop} (hgd : o.guard = none) (d s : Operand) (dT sT : TypeId)
    (ho : o.op = .call { callee := .builtin .copy, args := #[d, s], argTypes := #[dT, sT] }) (elem : TypeId) (hu : P.underlying dT = some (.slice elem)) (hsz : (P.info? elem).map (·.size) = some 1)
    (g n cap : Nat) (ad : Addr) (xs : List Bool) (hn : n = xs.length) (hd : a.eval d = .slice (some ⟨g, 0, none⟩) n n) (hs : a.eval s = .slice (some ad) n cap) (f : Nat → Bool)
    (hg : w.heap[g]? = some (.cells (cellsOf n f) 4 (0, 0))) (hsrc : ∀ j v, (xs.map Value.bool)[j]? = some v → w.cell? (ad.add j) = some v)
    (h : ∀ w', Copied g n xs w w' → wpList P ops Q rest (a.put o.dst (goInt (xs.map Value.bool).length)) w') : wpList P ops Q (o :: rest) a w := by
  refine wpList_copy_own hgd d s dT sT ho elem hu hsz g 0 n n ad n cap hd hs (cellsOf n f) 4 hg (xs.map Value.bool) (by rw [List.length_map, ← hn]; simp) hsrc (by rw [List.length_map, ← hn]; simp [cellsOf, tab_len]) (bools_one xs) (h _ ?_)
  have ea : ((cellsOf n f).toList.take 0 ++ ((xs.map Value.bool) ++ (cellsOf n f).toList.drop (0 + (xs.map Value.bool).length))).toArray = cellsOf n (fun i => xs.getD i false) := by
    have e1 : (cellsOf n f).toList.drop (0 + (xs.map Value.bool).length) = [] := by
      apply List.drop_eq_nil_of_le; simp [cellsOf, tab_len, ← hn]
    rw [e1]
    unfold cellsOf
    rw [hn, tab_of]; simp
  rw [ea]
  exact ⟨setRow_heap w g _ (cellsOf n (fun i => xs.getD i false)) _ (0, 0) hg, fun k o hk ho => by rw [setRow_other _ g k _ hk]; exact ho, fun B w0 hB hb => below_setRow hb hB _⟩

set_option maxHeartbeats 1000000 in
theorem copyField_any (W T : Int) (a : Option Addr) (n cap : Nat) (xs : List Bool) (w : World) (hn : n = xs.length) (hW0 : 0 ≤ W) (hW1 : W ≤ 100) (hT0 : 0 ≤ T) (hT1 : T ≤ 100) (hWT : (n : Int) = W * T) (hp : 0 < n) (ha : BoolsAt w a xs) :
    Calls Try.prog 88 #[.agg #[.int .i64 W, .int .i64 T, .slice a n cap]] w fun e w' => ∃ g, e = .returned (.agg #[.int .i64 W, .int .i64 T, .slice (some ⟨g, 0, none⟩) n n]) ∧ OwnsB w' (w.heap.size + 2) (.slice (some ⟨g, 0, none⟩) n n) xs ∧ Below w.heap.size w w' := by
  have pb := (prod_bd hW0 hW1 hT0 hT1).2
  have n4 : n ≤ 10000 := by omega
  have HN := Lib.hid hn; clear hn
  have HWT := Lib.hid hWT; clear hWT
  obtain ⟨b, off, rfl, hsrc⟩ := ha.addr (by rw [← HN.out]; exact hp)
  have hbl : b < w.heap.size := World.block_lt_of_cell? w _ (hsrc 0 (by rw [← HN.out]; exact hp))
  have HSRC := Lib.hid hsrc; clear hsrc ha
  go_enter Try.func88, Try.ntmps88
  go_wp2_with fail
  refine (bareField_any W T n _ hW0 hW1 hT0 hT1 HWT.out.symm n4).mono ?_; rintro e w2 ⟨g, rfl, ho, hb2⟩
  have b2 := below_seq (below2 w _ _) hb2
  have p2 := heap_later (heap_later (heap_new w _) (below1 _ _)) hb2
  have q2 := heap_later (heap_new2 w _ _) hb2
  have R2 : RowB w2 (w.heap.size + 2) g n n (fun _ => false) := (RowB.of (ho.lower (by simp)) (by simp)).congr (fun i hi => by simp [hi])
  have lg := R2.base
  clear ho hb2
  obtain ⟨c0, c1, c2⟩ := cells3 p2
  have lp := heap_lt p2
  have lq := heap_lt q2
  have R3 := R2.below (below1 w2 (.cells #[.int .i64 W, .int .i64 T, .slice (some ⟨g, 0, none⟩) n n] 25))
  have k3 := RowB.block R3
  have hsrc2 : ∀ j v, (xs.map Value.bool)[j]? = some v → (w2.alloc (.cells #[.int .i64 W, .int .i64 T, .slice (some ⟨g, 0, none⟩) n n] 25)).cell? ((⟨b, off, none⟩ : Addr).add j) = some v := by
    refine src_cells fun i hi => ?_
    have hc := HSRC.out i hi
    exact ((below1 w2 _).cell (p := ⟨b, off + i, none⟩) (show b < w2.heap.size by omega)).trans ((b2.cell (p := ⟨b, off + i, none⟩) hbl).trans hc)
  have SRC2 := Lib.hid hsrc2; clear hsrc2
  have K3 := Lib.hid k3; clear k3 R3
  go_wp2_with (with_reducible refine wpList_copy_bools rfl _ _ 23 23 rfl 4 Try.underlying23 sizeBool g n cap ⟨b, off, none⟩ xs HN.out rfl rfl _ K3.out SRC2.out ?_)
  intro w4 hcop
  · have k4 := hcop.at_g
    have ot := hcop.other
    have b4 : Below w.heap.size w w4 := hcop.below _ _ (by omega) (below_seq b2 (below1 _ _))
    have q4 := ot _ _ (by omega) (heap_later q2 (below1 _ _))
    have s4 := ot _ _ (by omega) (heap_new w2 _)
    have R4 : RowB w4 (w.heap.size + 2) g n n (fun i => xs.getD i false) := RowB.mk' lg.1 (by unfold maxLen; omega) k4
    clear hcop ot R2 c0 c1 c2
    obtain ⟨d0, d1, d2⟩ := cells3 q4
    have e0 := free3 q4 0
    have e1 := free3 q4 1
    have e2 := free3 q4 2
    obtain ⟨s0, s1, s2⟩ := cells3 s4
    go_wp2
    refine bodyPost_ret (v := .agg #[.int .i64 W, .int .i64 T, .slice (some ⟨g, 0, none⟩) n n]) (by simp [results, Try.results88, go_sem, d0, d1, d2]) rfl ⟨_, rfl, ?_, ?_⟩
    · have := R4.owns
      rw [HN.out, tab_of, ← HN.out] at this
      exact this.set3 (by omega) _ _ _
    · exact below_set3 b4 (by omega) _ _ _

end Go.Proofs.Ytknigcjpgkolgaa

namespace Go.Proofs.Ytknigcjpgkolgaa
open Go.RowKit
set_option linter.unusedVariables false
set_option maxRecDepth 100000
set_option linter.unusedSimpArgs false

end Go.Proofs.Ytknigcjpgkolgaa

namespace Go.Proofs.Ytknigcjpgkolgaa
open Go.RowKit
set_option linter.unusedVariables false
set_option maxRecDepth 100000
set_option linter.unusedSimpArgs false

end Go.Proofs.Ytknigcjpgkolgaa
