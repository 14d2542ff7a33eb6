/- slices.AppendSeq and slices.Collect over the iterator over flips; contracts of both functions FlipsOf and Frozen. -/
import Derived.Test.YtagbjhiagkkahaaRangeN
import Derived.Test.YtagbjhiagkkahaaFlipOne
import Derived.Test.YtagbjhiagkkahaaFaultsS
import Derived.Maps.AppendAt
import Derived.RangeFuncBox
namespace Go.Proofs.Ytagbjhiagkkahaa
open Go.RowKit Go.Shelf
set_option linter.unusedVariables false
set_option maxRecDepth 100000
set_option linter.unusedSimpArgs false
attribute [local go_sem] Oper.semAt_some

/-- What AppendSeq's rounds keep: the box holds a list of what has come, in a block behind the iterator's. -/
def ApN (w : World) (hi : Nat) (pre : List Int) (W : World) : Prop :=
  (∃ v, Boxed W w.heap.size 26 v ∧ OwnsI W hi v pre) ∧ Below w.heap.size w W ∧ w.heap.size ≤ hi
theorem row_blockI {w : World} {B n size k : Nat} {e : TypeId} {v : Value} {xs : List Value} (h : w.ownsRow B e size v n xs) (hk : v.ownBlock = some k) : ∃ cs, w.heap[k]? = some (.cells cs e (0, 0)) := by
  rcases h.2 with ⟨e, _⟩ | ⟨g, cap, cur, e, _, hh, _⟩
  · rw [e] at hk; cases hk
  · rw [e] at hk
    obtain rfl : g = k := by simpa [Value.ownBlock] using hk
    exact ⟨cur, hh⟩
theorem apN_ncall (w : World) : NCall (w.heap.size + 1) (w.heap.size + 3) (ApN w) := by
  intro hi pre A D row h hg hr
  obtain ⟨⟨v, hb, h1⟩, hbel, hle⟩ := h
  have hbx : Boxed D w.heap.size 26 v := hb.kept hg (fun e => by
    rcases hr _ e.symm with ⟨h3, _⟩ | ⟨h3, _⟩ <;> omega)
  refine ⟨⟨v, hbx, World.ownsRow.kept h1 hg ?_⟩, hbel.grown hg hbel.size (fun k e => by rcases hr k e with ⟨h3, _⟩ | ⟨h3, _⟩ <;> omega), hle⟩
  cases hk : v.ownBlock with
  | none => exact Or.inl rfl
  | some k =>
    obtain ⟨cs, hc⟩ := row_blockI h1 hk
    refine Or.inr (fun e => ?_)
    have h7 := (World.ownsRow.lt h1 k hk).1
    rcases hr k e.symm with ⟨_, h4⟩ | ⟨_, o, ho, h5⟩
    · omega
    · rw [hc] at ho; cases ho; cases h5
theorem OwnsI.putO {w : World} {B : Nat} {v : Value} {L : List Int} (h : OwnsI w B v L) {D : Nat} {o : Obj} (o' : Obj) (hd : w.heap[D]? = some o) (ho : o.isCells = false) : OwnsI (w.putObj D o') B v L := by
  refine World.ownsRow.kept h (grownBy_putObj' w D o') ?_
  cases hk : v.ownBlock with
  | none => exact Or.inl rfl
  | some k =>
    refine Or.inr (fun e => ?_)
    cases e
    obtain ⟨cs, hc⟩ := row_blockI h hk
    rw [hd] at hc; cases hc; cases ho
/-- Behind an append of a number to the list in the box. -/
theorem apN_step {w W w1 : World} {hi : Nat} {S0 : Nat → Prop} {u v' : Value} {pre : List Int} {M : Int} (hS : ∀ k, S0 k → k < w.heap.size) (hb : Boxed W w.heap.size 26 u) (hrow : OwnsI W hi u pre)
    (hbel : Below w.heap.size w W) (hhi : w.heap.size + 3 ≤ hi) (hown' : w1.ownsRow hi 3 1 v' (pre.length + 1) (pre.map (Value.int .i64) ++ [.int .i64 M])) (hgrow : (W.alloc (.cells #[.int .i64 M] 3)).grownBy w1 u.ownBlock) :
    KeepsOthers W (w1.setCell ⟨w.heap.size, 0, none⟩ v') ∧ ItKeeps (fun k => S0 k ∨ w.heap.size + 3 ≤ k ∧ k < hi) W (w1.setCell ⟨w.heap.size, 0, none⟩ v') ∧ ApN w hi (pre ++ [M]) (w1.setCell ⟨w.heap.size, 0, none⟩ v') := by
  have hb1 : Boxed w1 w.heap.size 26 u := (hb.alloc _).kept hgrow (hb.not_row (by decide) hrow)
  have hub : ∀ k, u.ownBlock = some k → hi ≤ k ∧ k < W.heap.size := fun k e => World.ownsRow.lt hrow k e
  refine ⟨?_, ⟨?_, ?_⟩, ⟨v', hb1.set v', ?_⟩, ?_, by omega⟩
  · refine ((KeepsOthers.alloc W _).trans (KeepsOthers.of_grownBy hgrow fun j o ej hj => ?_)).trans (KeepsOthers.setCell _ _ _)
    obtain ⟨cs, hc⟩ := row_blockI (World.ownsRow.alloc hrow (.cells #[.int .i64 M] 3)) ej
    rw [hc] at hj; cases hj; rfl
  · have h1 := hgrow.size
    simp only [World.size_alloc] at h1
    have h2 : (w1.setCell ⟨w.heap.size, 0, none⟩ v').heap.size = w1.heap.size := by simp [World.setCell]
    omega
  · intro k hk hlt
    have hkh : k ≠ w.heap.size ∧ k < hi := by
      rcases hk with h | h
      · have := hS k h
        exact ⟨by omega, by omega⟩
      · exact ⟨by omega, h.2⟩
    have hkr : some k ≠ u.ownBlock := by
      intro e
      have := hub k e.symm
      omega
    rw [Below.heap_setCell _ _ _ _ hkh.1, hgrow.block k (by rw [World.size_alloc]; omega) hkr]
    exact Below.heap_alloc W _ k hlt
  · have h9 := hown'.kept (grownBy_setCell' w1 w.heap.size v') (Or.inr (hb1.not_row (by decide) hown').symm)
    exact OwnsI.ofRow (xs := pre ++ [M]) h9 (by simp) (by simp)
  · exact ((hbel.alloc hbel.size _).grown hgrow (by simp; exact Nat.le_trans hbel.size (by omega)) (fun k e => by have := hub k e; omega)).setCell (p := ⟨w.heap.size, 0, none⟩) (Nat.le_refl _) _

set_option maxHeartbeats 4000000 in
theorem appSeqN_any (lb : Array Value) (S0 : Nat → Prop) (all : List Int) (ok : Int → Prop) (w : World) (hseq : SeqN Try.prog 73 lb S0 all ok w) (hS0 : ∀ k, S0 k → k < w.heap.size) (hN : all.length ≤ 1099511627776) :
    Calls Try.prog 72 #[.slice none 0 0, .func (.func 73) #[] lb] w fun e w' => ∃ v, e = .returned v ∧ OwnsI w' w.heap.size v all ∧ Below w.heap.size w w' := by
  have hdd : ∀ k : Nat, (Fence.wide.depth.isSome = true → 1 ≤ k) := fun k h => by cases h
  obtain ⟨i0, hI0, hz0, hz1, hz2⟩ := info_parts infoInt
  have HSQ := Lib.hid hseq; clear hseq
  have HS := Lib.hid hS0; clear hS0
  refine (callsIn_wide (n := 0)).1 ?_
  refine callsIn_of_wp_marks Try.func72 rfl trivial ?_ rfl
  simp only [Try.ntmps72, List.size_toArray, List.length_cons, List.length_nil, Nat.reduceAdd, Nat.reduceSub, Array.replicate_succ, Array.replicate_zero, List.push_toArray, List.append_toArray, List.nil_append, List.cons_append]
  gi_wp2
  have hb0 : Below w.heap.size w (w.alloc (.cells #[.slice none 0 0] 26)) := below1 _ _
  refine wp_range_n (S0 := S0) (all := all) (ok := ok) (w0 := w) rfl (enters_of Try.func73 (by kernel_rfl) rfl) HSQ.out hb0 (fun k h => by have := HS.out k h; simp; omega)
    (ApN w) (fun _ _ _ => False) (by rw [World.size_alloc]; exact apN_ncall w) (fun _ _ _ _ _ h _ _ => h) ?start
    (fun v => { tmps := #[.slice none 0 0, .func (.func 73) #[] lb, .pointer (some ⟨w.heap.size, 0, none⟩), undef, .slice none 0 0, v, .func (.func 73) #[] lb, v, undef, undef, undef, undef, undef], defers := [] }) ?assign ?body ?done ?stop
  case start =>
    intro W2 hb2 hs2
    rw [World.size_alloc] at hs2
    exact ⟨⟨_, heap_later (Boxed.new w _ _) hb2, OwnsI.nil _ _⟩, below_seq hb0 hb2, by omega⟩
  case assign =>
    intro l v W K hK
    gi_wp2
    exact hK
  case body =>
    rintro l hi pre M v A W ⟨⟨u, hbx, hr1⟩, hbel, hle3⟩ hlo hhi hg hl ⟨o, hlo', hoc⟩ rfl hok hlen
    rw [World.size_alloc] at hlo hl
    have hne : ∀ k, (∃ (cs : Array Value) (t : TypeId), A.heap[k]? = some (.cells cs t (0, 0))) → l ≠ k := by
      rintro k ⟨cs, t, hc⟩ rfl
      rw [hc] at hlo'; cases hlo'; cases hoc
    have hbW : Boxed W w.heap.size 26 u := hbx.kept hg (fun e => hne _ ⟨_, _, hbx⟩ (by cases e; rfl))
    have hrow : OwnsI W hi u pre := World.ownsRow.kept hr1 hg (by
      cases hk : u.ownBlock with
      | none => exact Or.inl rfl
      | some k => exact Or.inr (fun e => hne k ((row_blockI hr1 hk).imp fun cs h => ⟨_, h⟩) (by cases e; rfl)))
    have hWA : A.heap.size ≤ W.heap.size := hg.size
    have hbelW : Below w.heap.size w W := hbel.grown hg hbel.size (fun k e => by cases e; omega)
    have hsW : w.heap.size + 3 ≤ W.heap.size := by omega
    have HBW := Lib.hid hbelW; clear hbelW
    have HROW := Lib.hid hrow
    clear hr1 hbx hbel hg hne hlo' hoc hok HSQ hb0
    have hc := hbW.cell
    have hf := hbW.frozen
    have hbt := hbW.lt
    clear hrow
    gi_wp2_with (gi_at_builtin; refine wpListIn_append_own _ rfl _ _ 26 rfl hi 3 i0 (.int .i64 0) 1 8 Try.underlying26 hI0 hz0 hz1 hz2 rfl (by decide) _ pre.length (pre.map (Value.int .i64)) rfl (World.ownsRow.alloc HROW.out _) ⟨W.heap.size, 0, none⟩ 1 1 [.int .i64 M] rfl rfl (new_int _ _) (one_int _) (by unfold maxLen; omega) (by omega) (by simp; omega) ?_; intro v' w1 hown' hgrow _; obtain ⟨g', cap2, rfl⟩ := ownsRow_succ hown'; have hb1 := (hbW.alloc (.cells #[.int .i64 M] 3)).kept hgrow (hbW.not_row (by decide) HROW.out); have hc1 := hb1.cell; have hf1 := hb1.frozen)
    have h := apN_step (hi := hi) HS.out hbW HROW.out HBW.out (by omega) hown' hgrow
    rw [World.size_alloc]
    exact h
  case done =>
    rintro D hi W hD ⟨⟨u, hbx, hss⟩, hbel, hle⟩ hK
    rw [World.size_alloc] at hD
    have hc := hbx.cell
    have hbt := hbx.lt
    gi_wp2
    refine ⟨by simp, .inl ⟨_, _, rfl, run_takeDeferred hK, ?_⟩⟩
    exact ⟨_, results_tmp rfl _ _ _, u, rfl, (hss.putO _ hK rfl).lower hle, hbel.grown (grownBy_putObj' W D _) hbel.size (fun k e => by cases e; omega)⟩
  case stop =>
    intro D hi pre W _ _ _ h
    exact h.elim

set_option maxHeartbeats 1000000 in
theorem collectN_any (lb : Array Value) (S0 : Nat → Prop) (all : List Int) (ok : Int → Prop) (w : World) (hseq : SeqN Try.prog 73 lb S0 all ok w) (hS0 : ∀ k, S0 k → k < w.heap.size) (hN : all.length ≤ 1099511627776) :
    Calls Try.prog 50 #[.func (.func 73) #[] lb] w fun e w' => ∃ v, e = .returned v ∧ OwnsI w' w.heap.size v all ∧ Below w.heap.size w w' := by
  go_enter Try.func50, Try.ntmps50
  go_wp2_with (go_at_call 72; refine (appSeqN_any _ S0 all ok _ hseq hS0 hN).mono ?_; rintro e w1 ⟨v, rfl, h1, h2⟩)
  go_ret
  exact ⟨v, rfl, h1, h2⟩

theorem flips_at (W T : Int) (a : Option Addr) (n c : Nat) (la : Option Addr) (m lc : Nat) (w : World) :
    Calls Try.prog 51 #[.agg #[.int .i64 W, .int .i64 T, .slice a n c], .slice la m lc] w fun e w' => e = .returned (.func (.func 73) #[] #[.pointer (some ⟨w.heap.size, 0, none⟩), .pointer (some ⟨w.heap.size + 1, 0, none⟩)]) ∧
      w'.heap[w.heap.size]? = some (.cells #[.int .i64 W, .int .i64 T, .slice a n c] 25 (0, 0)) ∧ w'.heap[w.heap.size + 1]? = some (.cells #[.slice la m lc] 26 (0, 0)) ∧ Below w.heap.size w w' := by
  refine (flipsIn_any W T a n c la m lc w).mono ?_
  rintro e w' ⟨rfl, rfl⟩
  exact ⟨rfl, heap_later (heap_new w _) (below1 _ _), heap_new2 w _ _, below2 _ _ _⟩

/-- All flips of a list. -/
def flipsF (W T : Int) (xs : List Bool) (L : List Int) : List Int := if lok W T xs L then flipsL W T L else []
theorem flipsL_len {W T : Int} (L : List Int) (h1 : 1 ≤ W) (h2 : W ≤ 6) (h3 : 1 ≤ T) (h4 : T ≤ 6) : (flipsL W T L).length ≤ 49 := by
  unfold flipsL
  have := flipsK_len W T L ((W + 1) * (T + 1)).toNat
  have := corn_bd h1 h2 h3 h4
  omega
theorem flipsF_len (W T : Int) (xs : List Bool) (L : List Int) : (flipsF W T xs L).length ≤ 49 := by
  unfold flipsF
  cases h : lok W T xs L
  · simp
  · obtain ⟨hr, _, _⟩ := lok_rv h
    obtain ⟨v1, v2, v3, v4, v5, _⟩ := rv_true hr
    exact flipsL_len L v1 v2 v3 v4

set_option maxHeartbeats 2000000 in
theorem iFlipsOf_ret (W T : Int) (a : Option Addr) (n cap : Nat) (xs : List Bool) (la : Option Addr) (m lcap : Nat) (L : List Int) (w : World) (hn : n = xs.length) (hn' : n ≤ 1048576) (hm : m = L.length) (hm' : m ≤ 1048576) (ha : BoolsAt w a xs) (hl : IntsAt w la L) :
    Calls Try.prog 23 #[.agg #[.int .i64 W, .int .i64 T, .slice a n cap], .slice la m lcap] w (RetL w (flipsF W T xs L).length (flipsF W T xs L)) := by
  have HN := Lib.hid hn; clear hn
  have HM := Lib.hid hm; clear hm
  have HA := Lib.hid ha; clear ha
  have HL := Lib.hid hl; clear hl
  cases h : lok W T xs L
  · have e : flipsF W T xs L = [] := by unfold flipsF; rw [h]; rfl
    rw [e]
    have H := Lib.hid h; clear h e
    go_enter Try.func23, Try.ntmps23
    go_wp2_with fail
    refine (iLaidOk_any _ _ _ _ _ xs _ _ _ L _ HN.out hn' HM.out hm' (HA.out.one _) (HL.out.one _)).mono ?_; rintro e w1 ⟨rfl, hb1⟩
    rw [H.out]
    go_wp2
    go_ret
    exact ⟨none, 0, rfl, OwnsI.nil _ _, below_seq (below1 _ _) hb1⟩
  · have e : flipsF W T xs L = flipsL W T L := by unfold flipsF; rw [h]; rfl
    have hle : m = n := by rw [HM.out, HN.out]; exact lok_len' h
    subst hle
    have hln : (flipsL W T L).length ≤ 49 := by rw [← e]; exact flipsF_len W T xs L
    rw [e]
    have HLN := Lib.hid hln
    have H := Lib.hid h; clear h e hln
    obtain ⟨ALL, hALL⟩ : ∃ ALL, ALL = flipsL W T L := ⟨_, rfl⟩
    rw [← hALL]
    rw [← hALL] at HLN
    have HALL := Lib.hid hALL; clear hALL
    go_enter Try.func23, Try.ntmps23
    go_wp2_with fail
    refine (iLaidOk_any _ _ _ _ _ xs _ _ _ L _ HN.out hn' HM.out hm' (HA.out.one _) (HL.out.one _)).mono ?_; rintro e w1 ⟨rfl, hb1⟩
    rw [H.out]
    have b1 := below_seq (below1 w (.cells #[.int .i64 W, .int .i64 T, .slice a m cap] 25)) hb1
    obtain ⟨c0, c1, c2⟩ := cells3 (heap_later (heap_new w (.cells #[.int .i64 W, .int .i64 T, .slice a m cap] 25)) hb1)
    have A1 := Lib.hid (HA.out.below b1)
    have L1 := Lib.hid (HL.out.below b1)
    go_wp2_with fail
    refine (flips_at W T a m cap la m lcap _).mono ?_; rintro e w2 ⟨rfl, hr2, hl2, hb2⟩
    have b2 := below_seq b1 hb2
    have hsq : SeqN Try.prog 73 #[.pointer (some ⟨w1.heap.size, 0, none⟩), .pointer (some ⟨w1.heap.size + 1, 0, none⟩)] (fun k => k < w2.heap.size) ALL (fun k => 0 ≤ k ∧ k < (W + 1) * (T + 1) ∧ mayB W T L k = true) w2 := by
      rw [HALL.out]
      exact flips_seq _ _ W T a m cap xs la lcap L (fun k => k < w2.heap.size) w2 HN.out hn' H.out HM.out (A1.out.below hb2) ⟨hr2, hl2, L1.out.below hb2⟩ (heap_lt hr2) (heap_lt hl2) (fun b off e => by
        obtain ⟨b', off', e', hc⟩ := (L1.out.below hb2) 0 (by rw [← HM.out]; obtain ⟨hr, _, _⟩ := lok_rv H.out; obtain ⟨v1, v2, v3, v4, v5, _⟩ := rv_true hr; exact rv_pos v1 v3 (by rw [HN.out]; exact v5))
        rw [e'] at e; cases e
        exact World.block_lt_of_cell? w2 _ hc)
    have HSQ := Lib.hid hsq; clear hsq
    clear c0 c1 c2 hr2 hl2
    go_wp2_with fail
    refine (collectN_any _ _ ALL _ _ HSQ.out (fun k h => h) (by have := HLN.out; omega)).mono ?_; rintro e w3 ⟨v3, rfl, ho3, hb3⟩
    obtain ⟨a3, c3, rfl⟩ := ho3.form2
    have z2 := b2.size
    go_wp2
    go_ret
    exact ⟨a3, c3, rfl, ho3.lower z2, below_seq b2 hb3⟩

/-- What the loop has gathered behind k rounds. -/
def flipsG (W T : Int) (xs : List Bool) (L : List Int) (k : Nat) : List Int := if lok W T xs L then flipsK W T L k else []
theorem flipsG_yes {W T : Int} {xs : List Bool} {L : List Int} {k : Nat} (h : fmayB W T xs L (k : Int) = true) : flipsG W T xs L (k + 1) = flipsG W T xs L k ++ [(k : Int)] := by
  unfold fmayB at h
  rw [Bool.and_eq_true] at h
  unfold flipsG; rw [h.1, if_pos rfl, if_pos rfl]; exact flipsK_yes h.2
theorem flipsG_no {W T : Int} {xs : List Bool} {L : List Int} {k : Nat} (h : fmayB W T xs L (k : Int) = false) : flipsG W T xs L (k + 1) = flipsG W T xs L k := by
  unfold fmayB at h
  unfold flipsG
  cases hl : lok W T xs L
  · rfl
  · rw [hl] at h; rw [if_pos rfl, if_pos rfl]; exact flipsK_no (by simpa using h)
theorem flipsG_len (W T : Int) (xs : List Bool) (L : List Int) (k : Nat) : (flipsG W T xs L k).length ≤ k := by
  unfold flipsG; split
  · exact flipsK_len W T L k
  · simp
theorem flipsG_zero (W T : Int) (xs : List Bool) (L : List Int) : flipsG W T xs L 0 = [] := by unfold flipsG; split <;> rfl
theorem flipsG_end {W T : Int} {xs : List Bool} {L : List Int} {N : Nat} (h : cornN W T xs = N) : flipsG W T xs L N = flipsF W T xs L := by
  unfold flipsG flipsF flipsL
  cases hl : lok W T xs L
  · rfl
  · obtain ⟨hr, _, _⟩ := lok_rv hl
    unfold cornN at h
    rw [hr, if_pos rfl] at h
    rw [h]; simp
theorem flipsF_off {W T : Int} {xs : List Bool} {L : List Int} (h : rv W T xs = false) : flipsF W T xs L = [] := by
  unfold flipsF lok; rw [h]; rfl

set_option maxHeartbeats 4000000 in
theorem sFlipsOf_ret (W T : Int) (a : Option Addr) (n cap : Nat) (xs : List Bool) (la : Option Addr) (m lcap : Nat) (L : List Int) (w : World) (hn : n = xs.length) (hn' : n ≤ 1048576) (hm : m = L.length) (hm' : m ≤ 1048576) (ha : BoolsAt w a xs) (hl : IntsAt w la L) :
    Calls Try.prog 24 #[.agg #[.int .i64 W, .int .i64 T, .slice a n cap], .slice la m lcap] w (RetL w (flipsF W T xs L).length (flipsF W T xs L)) := by
  have HN := Lib.hid hn; clear hn
  have HM := Lib.hid hm; clear hm
  have HA := Lib.hid ha; clear ha
  have HL := Lib.hid hl; clear hl
  obtain ⟨wA, hwA⟩ : ∃ wA, wA = (w.alloc (.cells #[.int .i64 W, .int .i64 T, .slice a n cap] 25)).alloc (.cells #[] 3 (0, 0)) := ⟨_, rfl⟩
  have pA : wA.heap[w.heap.size]? = some (.cells #[.int .i64 W, .int .i64 T, .slice a n cap] 25 (0, 0)) := by rw [hwA]; exact heap_later (heap_new w _) (below1 _ _)
  have bA : Below w.heap.size w wA := by rw [hwA]; exact below2 _ _ _
  have oA : OwnsI wA (w.heap.size + 1) (.slice (some ⟨w.heap.size + 1, 0, none⟩) 0 0) [] := by
    rw [hwA]; have := own_nil_lit (w.alloc (.cells #[.int .i64 W, .int .i64 T, .slice a n cap] 25)) (B := w.heap.size + 1) (by simp); simpa using this
  have HOA := Lib.hid oA; clear oA
  cases h : rv W T xs
  · have HC : Hid (cornN W T xs = -1) := by show _ = _; unfold cornN; rw [h]; rfl
    have HE := Lib.hid (flipsF_off (L := L) h)
    clear h
    obtain ⟨c0, c1, c2⟩ := cells3 pA
    rw [HE.out]
    go_enter Try.func24, Try.ntmps24
    go_wp2_with fail
    rw [← hwA]
    clear hwA
    refine wp_loop_rounds 1 ?_
    rw [rounds_succ]
    go_wp2_with fail
    refine (sCornerMany_any _ _ _ _ _ xs _ HN.out hn' (HA.out.below bA)).mono ?_; rintro e w1 ⟨rfl, hb1⟩
    rw [HC.out]
    go_wp2
    go_ret
    exact ⟨some ⟨w.heap.size + 1, 0, none⟩, 0, rfl, (HOA.out.below hb1).lower (by omega), below_seq bA hb1⟩
  · obtain ⟨v1, v2, v3, v4, v5, _⟩ := rv_true h
    have hcb := corn_bd v1 v2 v3 v4
    have hC : cornN W T xs = (W + 1) * (T + 1) := by unfold cornN; rw [h, if_pos rfl]
    obtain ⟨N, hNN⟩ := Int.eq_ofNat_of_zero_le (show 0 ≤ (W + 1) * (T + 1) by omega)
    rw [hNN] at hcb hC
    have HEND := Lib.hid (flipsG_end (L := L) hC)
    have HC := Lib.hid hC
    have hN49 : N ≤ 49 := by omega
    clear hC hNN hcb h v5
    rw [← HEND.out]
    obtain ⟨i0, hi, hz0, hz1, hz2⟩ := info_parts infoInt
    go_enter Try.func24, Try.ntmps24
    go_wp2_with fail
    rw [← hwA]
    clear hwA
    go_loopw [5, 6] (fun v i wr => ∃ k : Nat, k ≤ N ∧ i = .int .i64 k ∧ OwnsI wr (w.heap.size + 1) v (flipsG W T xs L k) ∧ wr.heap[w.heap.size]? = some (.cells #[.int .i64 W, .int .i64 T, .slice a n cap] 25 (0, 0)) ∧ Below w.heap.size w wr) (fun _ i _ => N - (intOf i).toNat)
    case atStart => exact ⟨0, Nat.zero_le _, rfl, by rw [flipsG_zero]; exact HOA.out, pA, bA⟩
    case round =>
      rename World => wo
      obtain ⟨k, hk, rfl, ho, pr, hbel⟩ := hrel
      have HO := Lib.hid ho; clear ho
      have BEL := Lib.hid hbel; clear hbel
      obtain ⟨c0, c1, c2⟩ := cells3 pr
      have l1 := heap_lt pr
      go_wp2_with fail
      refine (sCornerMany_any _ _ _ _ _ xs _ HN.out hn' (HA.out.below BEL.out)).mono ?_; rintro e w1 ⟨rfl, hb1⟩
      rw [HC.out]
      have p1 := heap_later pr hb1
      have B1 := Lib.hid (below_seq BEL.out hb1)
      have O1 := Lib.hid (HO.out.below hb1)
      clear c0 c1 c2 hb1 pr l1
      by_cases hlt : k < N
      · have hfl := flipsG_len W T xs L k
        have e1 : (k : Int) < N := by omega
        obtain ⟨c0, c1, c2⟩ := cells3 p1
        have l1 := heap_lt p1
        go_wp2_with fail
        refine (sFlipMay_any _ _ _ _ _ xs _ _ _ L _ _ HN.out hn' HM.out hm' (HA.out.below B1.out) (HL.out.below B1.out)).mono ?_; rintro e w2 ⟨rfl, hb2⟩
        have p2 := heap_later p1 hb2
        have B2 := Lib.hid (below_seq B1.out hb2)
        have O2 := Lib.hid (O1.out.below hb2)
        clear c0 c1 c2 hb2 p1 l1
        obtain ⟨c0, c1, c2⟩ := cells3 p2
        have l2 := heap_lt p2
        cases hmay : fmayB W T xs L (k : Int)
        · have HNX := Lib.hid (flipsG_no hmay)
          clear hmay
          go_wp2
          go_roundw
          case rel => exact ⟨k + 1, by omega, by go_num, by rw [HNX.out]; exact O2.out, p2, B2.out⟩
          case measure => simp [intOf]; omega
        · have HNX := Lib.hid (flipsG_yes hmay)
          clear hmay
          go_wp2_with (at_builtin; refine wpList_append_own _ rfl _ _ 26 rfl (w.heap.size + 1) 3 i0 (.int .i64 0) 1 8 Try.underlying26 hi hz0 hz1 hz2 rfl (by decide) _ (flipsG W T xs L k).length ((flipsG W T xs L k).map (Value.int .i64)) rfl (World.ownsRow.alloc O2.out _) ⟨w2.heap.size, 0, none⟩ 1 1 [.int .i64 k] rfl rfl (new_int _ _) (one_int _) (by unfold maxLen; omega) (by omega) (by simp; omega) ?_; intro v' w8 hown' hgrow _; have p8 := heap_grown (heap_later p2 (below1 _ _)) hgrow (O2.out.ownBlock (by omega)); have O8 := Lib.hid (OwnsI.ofRow (xs := flipsG W T xs L (k + 1)) hown' (by rw [HNX.out]; simp) (by rw [HNX.out]; simp)); have B8 := Lib.hid (below_grown (below_seq B2.out (below1 _ _)) hgrow (Nat.le_refl _) (O2.out.ownAt (by omega))); clear hown' hgrow)
          go_roundw
          case rel => exact ⟨k + 1, by omega, by go_num, O8.out, p8, B8.out⟩
          case measure => simp [intOf]; omega
      · obtain rfl : k = N := by omega
        obtain ⟨a9, cap9, hv⟩ := O1.out.form2
        subst hv
        go_wp2
        go_ret
        exact ⟨a9, cap9, rfl, O1.out.lower (by omega), B1.out⟩

/-- Whether nothing can be flipped. -/
def frozenB (W T : Int) (xs : List Bool) (L : List Int) : Bool := tok W T xs L && (flipsL W T L).isEmpty

end Go.Proofs.Ytagbjhiagkkahaa
