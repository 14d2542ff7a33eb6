/- Contracts of slices.AppendSeq and slices.Collect over the iterator over all tilings. Merged of: AppSeq, AllI. -/
import Derived.Test.YtdmnfafmbdmjmaaSS
import Derived.Maps.AppendAt
import Derived.Test.YtdmnfafmbdmjmaaAllS
namespace Go.Proofs.Ytdmnfafmbdmjmaa
open Go.RowKit Go.Shelf
set_option linter.unusedVariables false
set_option maxRecDepth 100000
set_option linter.unusedSimpArgs false
attribute [local go_sem] Oper.semAt_some

set_option maxHeartbeats 4000000 in
theorem appSeq_any (lb : Array Value) (S0 : Nat → Prop) (all : List (List Int)) (ok : List Int → Prop) (w : World) (hseq : SeqIt Try.prog 64 lb S0 all ok w) (hS0 : ∀ k, S0 k → k < w.heap.size) (hN : all.length ≤ 1099511627776) :
    Calls Try.prog 63 #[.slice none 0 0, .func (.func 64) #[] lb] w fun e w' => ∃ v, e = .returned v ∧ OwnsSS w' w.heap.size v all ∧ Below w.heap.size w w' := by
  have hdd : ∀ k : Nat, (Fence.wide.depth.isSome = true → 1 ≤ k) := fun k h => by cases h
  obtain ⟨i0, hI0, hz0, hz1, hz2⟩ := info_parts infoSl
  have HSQ := Lib.hid hseq; clear hseq
  have HS := Lib.hid hS0; clear hS0
  refine (callsIn_wide (n := 0)).1 ?_
  refine callsIn_of_wp_marks Try.func63 rfl trivial ?_ rfl
  simp only [Try.ntmps63, List.size_toArray, List.length_cons, List.length_nil, Nat.reduceAdd, Nat.reduceSub, Array.replicate_succ, Array.replicate_zero, List.push_toArray, List.append_toArray, List.nil_append, List.cons_append]
  gi_wp2
  have hb0 : Below w.heap.size w (w.alloc (.cells #[.slice none 0 0] 31)) := below1 _ _
  refine wp_range_it (S0 := S0) (all := all) (ok := ok) (w0 := w) rfl (enters_of Try.func64 (by kernel_rfl) rfl) HSQ.out hb0 (fun k h => by have := HS.out k h; simp; omega)
    (ApInv w) (fun _ _ _ => False) (by rw [World.size_alloc]; exact apInv_call w) (fun _ _ _ _ _ h _ _ => h) ?start
    (fun v => { tmps := #[.slice none 0 0, .func (.func 64) #[] lb, .pointer (some ⟨w.heap.size, 0, none⟩), undef, .slice none 0 0, v, .func (.func 64) #[] lb, v, undef, undef, undef, undef, undef], defers := [] }) ?assign ?body ?done ?stop
  case start =>
    intro W2 hb2 _
    exact ⟨⟨_, heap_later (Boxed.new w _ _) hb2, OwnsSS.nil _ _⟩, below_seq hb0 hb2, (below_seq hb0 hb2).size⟩
  case assign =>
    intro l v W K hK
    gi_wp2
    exact hK
  case body =>
    rintro l hi pre M v A W ⟨⟨u, hbx, ws, hr1, hr2⟩, hbel, _⟩ hlo hhi hg hl ⟨o, hlo', hoc⟩ hown hok hlen
    rw [World.size_alloc] at hlo hl
    -- what lay at A lies at W
    have hne : ∀ k, (∃ (cs : Array Value) (t : TypeId), A.heap[k]? = some (.cells cs t (0, 0))) → l ≠ k := by
      rintro k ⟨cs, t, hc⟩ rfl
      rw [hc] at hlo'; cases hlo'; cases hoc
    have hbW : Boxed W w.heap.size 31 u := hbx.kept hg (fun e => hne _ ⟨_, _, hbx⟩ (by cases e; rfl))
    have hrow : W.ownsRow hi 34 1 u pre.length ws := hr1.kept hg (by
      cases hk : u.ownBlock with
      | none => exact Or.inl rfl
      | some k => exact Or.inr (fun e => hne k ((row_block hr1 hk).imp fun cs h => ⟨_, h⟩) (by cases e; rfl)))
    have hrows : RowsI W hi ws pre := hr2.kept hg (fun i h k hk e => hne k ((hr2.block h hk).2.imp fun cs h => ⟨_, h⟩) (by cases e; rfl))
    have hnew : RowsI W hi (ws ++ [v]) (pre ++ [M]) := hrows.snoc (hown.lower hhi) (fun i h k hk e => by
      obtain ⟨_, cs, hc⟩ := hr2.block h hk
      have h1 := heap_lt hc
      have h2 := (World.ownsRow.lt hown k e).1
      omega)
    have hWA : A.heap.size ≤ W.heap.size := hg.size
    have hbelW : Below w.heap.size w W := hbel.grown hg hbel.size (fun k e => by cases e; omega)
    have hsW : w.heap.size + 3 ≤ W.heap.size := by omega
    have HNEW := Lib.hid hnew; clear hnew
    have HOWN := Lib.hid hown; clear hown
    have HBW := Lib.hid hbelW; clear hbelW
    clear hrows hr1 hr2 hbx hbel hg hne hlo' hoc hok HSQ hb0
    obtain ⟨vform, hvf⟩ : ∃ (a' : Option Addr) , ∃ cap', v = .slice a' M.length cap' := HOWN.out.form2
    obtain ⟨cap', rfl⟩ := hvf
    have hc := hbW.cell
    have hf := hbW.frozen
    have hbt := hbW.lt
    gi_wp2_with (gi_at_builtin; refine wpListIn_append_own _ rfl _ _ 31 rfl hi 34 i0 (.slice none 0 0) 1 24 Try.underlying31 hI0 hz0 hz1 hz2 rfl (by decide) _ _ _ rfl (hrow.alloc _) ⟨W.heap.size, 0, none⟩ 1 1 [.slice vform M.length cap'] rfl rfl (cell_one_new _ _ _) (by simp [Value.oneCell']) (by unfold maxLen; omega) (by omega) (by simp; omega) ?_; intro v' w1 hown' hgrow _; obtain ⟨g', cap2, rfl⟩ := ownsRow_succ hown'; have hb1 := (hbW.alloc (.cells #[.slice vform M.length cap'] 34)).kept hgrow (hbW.not_row (by decide) hrow); have hc1 := hb1.cell; have hf1 := hb1.frozen)
    have h := ap_step HS.out hbW hrow HNEW.out HBW.out (by omega) hown' hgrow
    rw [World.size_alloc]
    exact h
  case done =>
    rintro D hi W hD ⟨⟨u, hbx, hss⟩, hbel, hle⟩ hK
    rw [World.size_alloc] at hD
    have hc := hbx.cell
    have hbt := hbx.lt
    gi_wp2
    refine ⟨by simp, .inl ⟨_, _, rfl, run_takeDeferred hK, ?_⟩⟩
    exact ⟨_, results_tmp rfl _ _ _, u, rfl, (hss.put _ hK rfl).lower hle, hbel.grown (grownBy_putObj' W D _) hbel.size (fun k e => by cases e; omega)⟩
  case stop =>
    intro D hi pre W _ _ _ h
    exact h.elim

set_option maxHeartbeats 1000000 in
theorem collect_any (lb : Array Value) (S0 : Nat → Prop) (all : List (List Int)) (ok : List Int → Prop) (w : World) (hseq : SeqIt Try.prog 64 lb S0 all ok w) (hS0 : ∀ k, S0 k → k < w.heap.size) (hN : all.length ≤ 1099511627776) :
    Calls Try.prog 38 #[.func (.func 64) #[] lb] w fun e w' => ∃ v, e = .returned v ∧ OwnsSS w' w.heap.size v all ∧ Below w.heap.size w w' := by
  go_enter Try.func38, Try.ntmps38
  go_wp2_with (go_at_call 63; refine (appSeq_any _ S0 all ok _ hseq hS0 hN).mono ?_; rintro e w1 ⟨v, rfl, h1, h2⟩)
  go_ret
  exact ⟨v, rfl, h1, h2⟩
end Go.Proofs.Ytdmnfafmbdmjmaa

namespace Go.Proofs.Ytdmnfafmbdmjmaa
open Go.RowKit
set_option linter.unusedVariables false
set_option maxRecDepth 100000
set_option linter.unusedSimpArgs false

theorem compl_at (W T : Int) (a : Option Addr) (n c : Nat) (la : Option Addr) (m lc : Nat) (w : World) :
    Calls Try.prog 39 #[.agg #[.int .i64 W, .int .i64 T, .slice a n c], .slice la m lc] w fun e w' => e = .returned (.func (.func 64) #[] #[.pointer (some ⟨w.heap.size + 1, 0, none⟩), .pointer (some ⟨w.heap.size, 0, none⟩)]) ∧
      w'.heap[w.heap.size]? = some (.cells #[.int .i64 W, .int .i64 T, .slice a n c] 25 (0, 0)) ∧ w'.heap[w.heap.size + 1]? = some (.cells #[.slice la m lc] 34 (0, 0)) ∧ Below w.heap.size w w' := by
  refine (compl_any W T a n c la m lc w).mono ?_
  rintro e w' ⟨rfl, rfl⟩
  exact ⟨rfl, heap_later (heap_new w _) (below1 _ _), heap_new2 w _ _, below2 _ _ _⟩

set_option maxHeartbeats 4000000 in
theorem iTilingsAll_ret (W T : Int) (a : Option Addr) (n cap : Nat) (xs : List Bool) (w : World) (hn : n = xs.length) (hn' : n ≤ 1048576) (ha : BoolsAt w a xs) :
    Calls Try.prog 13 #[.agg #[.int .i64 W, .int .i64 T, .slice a n cap]] w (RetSS w (allF W T xs)) := by
  have HN := Lib.hid hn; clear hn
  have HA := Lib.hid ha; clear ha
  cases h : rv W T xs
  · have HE : Hid (allF W T xs = []) := by show _ = _; unfold allF; rw [h]; rfl
    have H := Lib.hid h; clear h
    rw [HE.out]
    go_enter Try.func13, Try.ntmps13
    go_wp2_with fail
    refine (iRegionValid_any _ _ _ _ _ xs _ HN.out hn' (HA.out.one _)).mono ?_; rintro e w1 ⟨rfl, hb1⟩
    rw [H.out]
    go_wp2
    go_ret
    exact ⟨none, 0, rfl, OwnsSS.nil _ _, below_seq (below1 _ _) hb1⟩
  · have HE : Hid (allF W T xs = allL W T xs (xs.length + 1) (bareL W T xs)) := by show _ = _; unfold allF; rw [h]; rfl
    have HC : Hid ((allL W T xs (xs.length + 1) (bareL W T xs)).length ≤ 1099511627776) := by have := allF_count W T xs; rw [HE.out] at this; show _ ≤ _; omega
    rw [HE.out]
    have HB : Hid ((bareL W T xs).length = n) := by show _ = _; unfold bareL; rw [h, HN.out]; simp
    have HLK : Hid (lok W T xs (bareL W T xs) = true) := by show _ = _; rw [lok_bareL]; exact h
    have HF : Hid (freeN xs (bareL W T xs) < xs.length + 1) := by show _ < _; have := freeN_le xs (bareL W T xs); omega
    have H := Lib.hid h; clear h
    obtain ⟨ALL, hALL⟩ : ∃ ALL, ALL = allL W T xs (xs.length + 1) (bareL W T xs) := ⟨_, rfl⟩
    rw [← hALL]
    have HALL := Lib.hid hALL; clear hALL
    go_enter Try.func13, Try.ntmps13
    go_wp2_with fail
    refine (iRegionValid_any _ _ _ _ _ xs _ HN.out hn' (HA.out.one _)).mono ?_; rintro e w1 ⟨rfl, hb1⟩
    rw [H.out]
    have p1 := heap_later (heap_new w (.cells #[.int .i64 W, .int .i64 T, .slice a n cap] 25)) hb1
    have b1 := below_seq (below1 w _) hb1
    have A0 : BoolsAt w1 a xs := (HA.out.one _).below hb1
    have A1 : Hid (BoolsAt w1.drew a xs) := A0
    have P1 : w1.drew.heap[w.heap.size]? = some (.cells #[.int .i64 W, .int .i64 T, .slice a n cap] 25 (0, 0)) := p1
    have l1 := heap_lt p1
    obtain ⟨c0, c1, c2⟩ := cells3 p1
    clear hb1 p1 A0
    go_wp2_with fail
    go_region_held3 (fun w' => w'.cell? ⟨w.heap.size, 0, none⟩ = some (.int .i64 W) ∧ w'.cell? ⟨w.heap.size, 1, none⟩ = some (.int .i64 T) ∧ w'.cell? ⟨w.heap.size, 2, none⟩ = some (.slice a n cap))
      (go_keep)
      (first
        | (go_at_call 38; refine (collect_any _ (fun k => k < w3.heap.size) ALL (TilIs W T xs n) _ (by rw [HALL.out]; exact compl1_seq _ _ W T _ _ _ xs _ _ _ _ _ _ HN.out hn' HLK.out HF.out h3a h3b A3.out I3.out h3c (fun b off e => BoolsAt.lt A3.out HN.out HB.out HLK.out e)) (fun k h => h) (by rw [HALL.out]; exact HC.out)).mono ?_; rintro e w4 ⟨v4, rfl, ho4, hb4⟩; have p4 := heap_later p3 hb4; obtain ⟨c40, c41, c42⟩ := cells3 p4)
        | (go_at_call 39; refine (compl_at _ _ _ _ _ _ _ _ _).mono ?_; rintro e w3 ⟨rfl, h3a, h3b, hb3⟩; have p3 := heap_later p2 hb3; have A3 := Lib.hid (A2.out.below hb3); have I3 := Lib.hid (I2.out.below hb3); have h3c := heap_lt h3a; obtain ⟨c30, c31, c32⟩ := cells3 p3)
        | (go_at_call 40; refine (iLaidBare_ret _ _ _ _ _ xs _ HN.out hn' A1.out).mono ?_; rintro e w2 ⟨a2, cap2, rfl, ho2, hb2⟩; rw [HB.out] at ho2 ⊢; have p2 := heap_later P1 hb2; have A2 := Lib.hid (A1.out.below hb2); have I2 := Lib.hid (OwnsI.at ho2); obtain ⟨c20, c21, c22⟩ := cells3 p2))
    go_wp2
    go_ret
    obtain ⟨a4, cap4, rfl⟩ := ho4.form
    have b4 : Below w.heap.size w w4 := below_seq b1 (below_seq (drew_below w1) (below_seq hb2 (below_seq hb3 hb4)))
    exact ⟨a4, cap4, rfl, ho4.lower (below_seq b1 (below_seq (drew_below w1) (below_seq hb2 hb3))).size, b4⟩
end Go.Proofs.Ytdmnfafmbdmjmaa
