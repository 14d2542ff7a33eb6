/- Contracts of slices.AppendSeq and slices.Collect over the iterator over all tilings. -/
import Derived.Test.YtlnnoeojgdeagaaSS
import Derived.Maps.AppendAt
namespace Go.Proofs.Ytlnnoeojgdeagaa
open Go.RowKit Go.Shelf
set_option linter.unusedVariables false
set_option maxRecDepth 100000
set_option linter.unusedSimpArgs false
attribute [local go_sem] Oper.semAt_some

set_option maxHeartbeats 4000000 in
theorem appSeq_any (lb : Array Value) (S0 : Nat → Prop) (all : List (List Int)) (ok : List Int → Prop) (w : World) (hseq : SeqIt Try.prog 101 lb S0 all ok w) (hS0 : ∀ k, S0 k → k < w.heap.size) (hN : all.length ≤ 1099511627776) :
    Calls Try.prog 100 #[.slice none 0 0, .func (.func 101) #[] lb] w fun e w' => ∃ v, e = .returned v ∧ OwnsSS w' w.heap.size v all ∧ Below w.heap.size w w' := by
  have hdd : ∀ k : Nat, (Fence.wide.depth.isSome = true → 1 ≤ k) := fun k h => by cases h
  obtain ⟨i0, hI0, hz0, hz1, hz2⟩ := info_parts infoSl
  have HSQ := Lib.hid hseq; clear hseq
  have HS := Lib.hid hS0; clear hS0
  refine (callsIn_wide (n := 0)).1 ?_
  refine callsIn_of_wp_marks Try.func100 rfl trivial ?_ rfl
  simp only [Try.ntmps100, List.size_toArray, List.length_cons, List.length_nil, Nat.reduceAdd, Nat.reduceSub, Array.replicate_succ, Array.replicate_zero, List.push_toArray, List.append_toArray, List.nil_append, List.cons_append]
  gi_wp2
  have hb0 : Below w.heap.size w (w.alloc (.cells #[.slice none 0 0] 26)) := below1 _ _
  refine wp_range_it (S0 := S0) (all := all) (ok := ok) (w0 := w) rfl (enters_of Try.func101 (by kernel_rfl) rfl) HSQ.out hb0 (fun k h => by have := HS.out k h; simp; omega)
    (ApInv w) (fun _ _ _ => False) (by rw [World.size_alloc]; exact apInv_call w) (fun _ _ _ _ _ h _ _ => h) ?start
    (fun v => { tmps := #[.slice none 0 0, .func (.func 101) #[] lb, .pointer (some ⟨w.heap.size, 0, none⟩), undef, .slice none 0 0, v, .func (.func 101) #[] lb, v, undef, undef, undef, undef, undef], defers := [] }) ?assign ?body ?done ?stop
  case start =>
    intro W2 hb2 _
    exact ⟨⟨_, heap_later (Boxed.new w _ _) hb2, OwnsSS.nil _ _⟩, below_seq hb0 hb2, (below_seq hb0 hb2).size⟩
  case assign =>
    intro l v W K hK
    gi_wp2
    exact hK
  case body =>
    rintro l hi pre M v A W ⟨⟨u, hbx, ws, hr1, hr2⟩, hbel, _⟩ hlo hhi hg hl ⟨o, hlo', hoc⟩ hown hok hlen
    rw [World.size_alloc] at hlo hl
    -- what lay at A lies at W
    have hne : ∀ k, (∃ (cs : Array Value) (t : TypeId), A.heap[k]? = some (.cells cs t (0, 0))) → l ≠ k := by
      rintro k ⟨cs, t, hc⟩ rfl
      rw [hc] at hlo'; cases hlo'; cases hoc
    have hbW : Boxed W w.heap.size 26 u := hbx.kept hg (fun e => hne _ ⟨_, _, hbx⟩ (by cases e; rfl))
    have hrow : W.ownsRow hi 35 1 u pre.length ws := hr1.kept hg (by
      cases hk : u.ownBlock with
      | none => exact Or.inl rfl
      | some k => exact Or.inr (fun e => hne k ((row_block hr1 hk).imp fun cs h => ⟨_, h⟩) (by cases e; rfl)))
    have hrows : RowsI W hi ws pre := hr2.kept hg (fun i h k hk e => hne k ((hr2.block h hk).2.imp fun cs h => ⟨_, h⟩) (by cases e; rfl))
    have hnew : RowsI W hi (ws ++ [v]) (pre ++ [M]) := hrows.snoc (hown.lower hhi) (fun i h k hk e => by
      obtain ⟨_, cs, hc⟩ := hr2.block h hk
      have h1 := heap_lt hc
      have h2 := (World.ownsRow.lt hown k e).1
      omega)
    have hWA : A.heap.size ≤ W.heap.size := hg.size
    have hbelW : Below w.heap.size w W := hbel.grown hg hbel.size (fun k e => by cases e; omega)
    have hsW : w.heap.size + 3 ≤ W.heap.size := by omega
    have HNEW := Lib.hid hnew; clear hnew
    have HOWN := Lib.hid hown; clear hown
    have HBW := Lib.hid hbelW; clear hbelW
    clear hrows hr1 hr2 hbx hbel hg hne hlo' hoc hok HSQ hb0
    obtain ⟨vform, hvf⟩ : ∃ (a' : Option Addr) , ∃ cap', v = .slice a' M.length cap' := HOWN.out.form2
    obtain ⟨cap', rfl⟩ := hvf
    have hc := hbW.cell
    have hf := hbW.frozen
    have hbt := hbW.lt
    gi_wp2_with (gi_at_builtin; refine wpListIn_append_own _ rfl _ _ 26 rfl hi 35 i0 (.slice none 0 0) 1 24 Try.underlying26 hI0 hz0 hz1 hz2 rfl (by decide) _ _ _ rfl (hrow.alloc _) ⟨W.heap.size, 0, none⟩ 1 1 [.slice vform M.length cap'] rfl rfl (cell_one_new _ _ _) (by simp [Value.oneCell']) (by unfold maxLen; omega) (by omega) (by simp; omega) ?_; intro v' w1 hown' hgrow _; obtain ⟨g', cap2, rfl⟩ := ownsRow_succ hown'; have hb1 := (hbW.alloc (.cells #[.slice vform M.length cap'] 35)).kept hgrow (hbW.not_row (by decide) hrow); have hc1 := hb1.cell; have hf1 := hb1.frozen)
    have h := ap_step HS.out hbW hrow HNEW.out HBW.out (by omega) hown' hgrow
    rw [World.size_alloc]
    exact h
  case done =>
    rintro D hi W hD ⟨⟨u, hbx, hss⟩, hbel, hle⟩ hK
    rw [World.size_alloc] at hD
    have hc := hbx.cell
    have hbt := hbx.lt
    gi_wp2
    refine ⟨by simp, .inl ⟨_, _, rfl, run_takeDeferred hK, ?_⟩⟩
    exact ⟨_, results_tmp rfl _ _ _, u, rfl, (hss.put _ hK rfl).lower hle, hbel.grown (grownBy_putObj' W D _) hbel.size (fun k e => by cases e; omega)⟩
  case stop =>
    intro D hi pre W _ _ _ h
    exact h.elim

set_option maxHeartbeats 1000000 in
theorem collect_any (lb : Array Value) (S0 : Nat → Prop) (all : List (List Int)) (ok : List Int → Prop) (w : World) (hseq : SeqIt Try.prog 101 lb S0 all ok w) (hS0 : ∀ k, S0 k → k < w.heap.size) (hN : all.length ≤ 1099511627776) :
    Calls Try.prog 70 #[.func (.func 101) #[] lb] w fun e w' => ∃ v, e = .returned v ∧ OwnsSS w' w.heap.size v all ∧ Below w.heap.size w w' := by
  go_enter Try.func70, Try.ntmps70
  go_wp2_with (go_at_call 100; refine (appSeq_any _ S0 all ok _ hseq hS0 hN).mono ?_; rintro e w1 ⟨v, rfl, h1, h2⟩)
  go_ret
  exact ⟨v, rfl, h1, h2⟩
end Go.Proofs.Ytlnnoeojgdeagaa
