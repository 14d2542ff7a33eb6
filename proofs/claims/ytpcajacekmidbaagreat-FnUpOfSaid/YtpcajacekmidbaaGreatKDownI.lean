/- Contracts of spec.DownOf, spec.UpOf, impl.flipsRising, impl.DownOf and impl.UpOf. Merged of: DownS, DownI. -/
import Derived.Test.YtpcajacekmidbaaGreatKDrawTwo
import Derived.Test.YtpcajacekmidbaaGreatKOrder
namespace Go.Proofs.YtpcajacekmidbaaGreat
open Go.RowKit
set_option linter.unusedVariables false
set_option maxRecDepth 100000
set_option linter.unusedSimpArgs false

set_option maxHeartbeats 4000000 in
theorem drawUpOf_any (cb : Option Addr) (n cap : Nat) (zs : List Int) (w : World) (hn : n = zs.length) (hn' : n ≤ 1048576) (hcap : n ≤ cap) (hb : BytesAt w cb zs) :
 Calls Tryz.prog 17 #[.slice cb n cap] w (DrawnRg2 w) := by
 have HN := Lib.hid hn; clear hn
 have HB := Lib.hid hb; clear hb
 go_enter Tryz.func17, Tryz.ntmps17
 go_wp2_with fail
 refine (l20Open_any _ _ _ zs _ HN.out hn' hcap (HB.out.below (below1 _ _))).mono ?_; rintro e w1 ⟨rfl, r1, b1⟩
 have q1 := heap_later (heap_new w (.cells #[.int .i64 0, .int .i64 0, .slice none 0 0] 25)) b1
 have B1 := Lib.hid (below_seq (below1 w _) b1)
 have R1 : Hid (RD w1 (w.heap.size + 1) 0) := by show RD _ _ _; simpa using r1
 have l1 := heap_lt q1
 have l2 := R1.out.lt
 clear r1 b1
 go_wp2_with fail
 refine (l20Two_any (w.heap.size + 1) 0 _ (by omega) R1.out).mono ?_; rintro e w2 ⟨W, T, a, m, c, xs, la, q, lcap, L, lb, r, bcap, M, rfl, hm, h36, hs, o2, hq, hq36, i2, hr, hr36, j2, r2, g2⟩
 have q2 := heap_grown q1 g2 (by simp)
 have B2 := Lib.hid (below_grown B1.out g2 (Nat.le_refl _) (fun k e => by cases e; omega))
 have HM := Lib.hid hm; clear hm
 have HQ := Lib.hid hq; clear hq
 have HR := Lib.hid hr; clear hr
 have O2 := Lib.hid o2; clear o2
 have I2 := Lib.hid i2; clear i2
 clear j2
 have hl2 := r2.lt
 clear r2 g2
 obtain ⟨wB, hwB⟩ : ∃ wB, wB = w2.alloc (.cells #[.int .i64 W, .int .i64 T, .slice a m c] 25) := ⟨_, rfl⟩
 have pB : wB.heap[w2.heap.size]? = some (.cells #[.int .i64 W, .int .i64 T, .slice a m c] 25 (0, 0)) := by rw [hwB]; exact heap_new _ _
 have q3 : wB.heap[w.heap.size]? = some (.cells #[.int .i64 0, .int .i64 0, .slice none 0 0] 25 (0, 0)) := by rw [hwB]; exact heap_later q2 (below1 _ _)
 have B3 : Hid (Below w.heap.size w wB) := by rw [hwB]; exact below_seq B2.out (below1 _ _)
 have O3 : Hid (OwnsB wB w1.heap.size (.slice a m c) xs) := by rw [hwB]; exact O2.out.alloc _
 have I3 : Hid (OwnsI wB w1.heap.size (.slice la q lcap) L) := by rw [hwB]; exact I2.out.alloc _
 obtain ⟨c0, c1, c2⟩ := cells3 pB
 obtain ⟨d0, d1, d2⟩ := cells3 q3
 have f0 := free3 q3 0
 have f1 := free3 q3 1
 have f2 := free3 q3 2
 have HWB := Lib.hid hwB; clear hwB
 go_upto_region 2 with fail
 rw [← HWB.out]
 clear HWB
 go_wp2
 refine bodyPost_ret (v := .tuple #[.agg #[.int .i64 W, .int .i64 T, .slice a m c], .slice la q lcap]) (by simp [results, Tryz.results17, go_sem, d0, d1, d2]) rfl ⟨W, T, a, m, c, xs, la, q, lcap, L, rfl, HM.out, h36, hs, (O3.out.set3 (by omega) _ _ _).lower (by omega), HQ.out, hq36, (I3.out.set3d (by omega) _ _ _).lower (by omega), below_set3 B3.out (Nat.le_refl _) _ _ _⟩
end Go.Proofs.YtpcajacekmidbaaGreat

namespace Go.Proofs.YtpcajacekmidbaaGreat
open Go.RowKit Go.Shelf
set_option linter.unusedVariables false
set_option maxRecDepth 100000
set_option linter.unusedSimpArgs false
attribute [local go_sem] Oper.semAt_some

end Go.Proofs.YtpcajacekmidbaaGreat

namespace Go.Proofs.YtpcajacekmidbaaGreat
open Go.RowKit Go.Shelf
set_option linter.unusedVariables false
set_option maxRecDepth 100000
set_option linter.unusedSimpArgs false
attribute [local go_sem] Oper.semAt_some

def ApN (w : World) (hi : Nat) (pre : List Int) (W : World) : Prop :=
 (∃ v, Boxed W w.heap.size 26 v ∧ OwnsI W hi v pre) ∧ Below w.heap.size w W ∧ w.heap.size ≤ hi
theorem apN_ncall (w : World) : NCall (w.heap.size + 1) (w.heap.size + 3) (ApN w) := by
 intro hi pre A D row h hg hr
 obtain ⟨⟨v, hb, h1⟩, hbel, hle⟩ := h
 have hbx : Boxed D w.heap.size 26 v := hb.kept hg (fun e => by
  rcases hr _ e.symm with ⟨h3, _⟩ | ⟨h3, _⟩ <;> omega)
 refine ⟨⟨v, hbx, World.ownsRow.kept h1 hg ?_⟩, hbel.grown hg hbel.size (fun k e => by rcases hr k e with ⟨h3, _⟩ | ⟨h3, _⟩ <;> omega), hle⟩
 cases hk : v.ownBlock with
 | none => exact Or.inl rfl
 | some k =>
   obtain ⟨cs, hc⟩ := row_blockI h1 hk
   refine Or.inr (fun e => ?_)
   have h7 := (World.ownsRow.lt h1 k hk).1
   rcases hr k e.symm with ⟨_, h4⟩ | ⟨_, o, ho, h5⟩
   · omega
   · rw [hc] at ho; cases ho; cases h5
theorem apN_step {w W w1 : World} {hi : Nat} {S0 : Nat → Prop} {u v' : Value} {pre : List Int} {M : Int} (hS : ∀ k, S0 k → k < w.heap.size) (hb : Boxed W w.heap.size 26 u) (hrow : OwnsI W hi u pre)
 (hbel : Below w.heap.size w W) (hhi : w.heap.size + 3 ≤ hi) (hown' : w1.ownsRow hi 3 1 v' (pre.length + 1) (pre.map (Value.int .i64) ++ [.int .i64 M])) (hgrow : (W.alloc (.cells #[.int .i64 M] 3)).grownBy w1 u.ownBlock) :
 KeepsOthers W (w1.setCell ⟨w.heap.size, 0, none⟩ v') ∧ ItKeeps (fun k => S0 k ∨ w.heap.size + 3 ≤ k ∧ k < hi) W (w1.setCell ⟨w.heap.size, 0, none⟩ v') ∧ ApN w hi (pre ++ [M]) (w1.setCell ⟨w.heap.size, 0, none⟩ v') := by
 have hb1 : Boxed w1 w.heap.size 26 u := (hb.alloc _).kept hgrow (hb.not_row (by decide) hrow)
 have hub : ∀ k, u.ownBlock = some k → hi ≤ k ∧ k < W.heap.size := fun k e => World.ownsRow.lt hrow k e
 refine ⟨?_, ⟨?_, ?_⟩, ⟨v', hb1.set v', ?_⟩, ?_, by omega⟩
 · refine ((KeepsOthers.alloc W _).trans (KeepsOthers.of_grownBy hgrow fun j o ej hj => ?_)).trans (KeepsOthers.setCell _ _ _)
   obtain ⟨cs, hc⟩ := row_blockI (World.ownsRow.alloc hrow (.cells #[.int .i64 M] 3)) ej
   rw [hc] at hj; cases hj; rfl
 · have h1 := hgrow.size
   simp only [World.size_alloc] at h1
   have h2 : (w1.setCell ⟨w.heap.size, 0, none⟩ v').heap.size = w1.heap.size := by simp [World.setCell]
   omega
 · intro k hk hlt
   have hkh : k ≠ w.heap.size ∧ k < hi := by
    rcases hk with h | h
    · have := hS k h
      exact ⟨by omega, by omega⟩
    · exact ⟨by omega, h.2⟩
   have hkr : some k ≠ u.ownBlock := by
    intro e
    have := hub k e.symm
    omega
   rw [Below.heap_setCell _ _ _ _ hkh.1, hgrow.block k (by rw [World.size_alloc]; omega) hkr]
   exact Below.heap_alloc W _ k hlt
 · have h9 := hown'.kept (grownBy_setCell' w1 w.heap.size v') (Or.inr (hb1.not_row (by decide) hown').symm)
   exact OwnsI.ofRow (xs := pre ++ [M]) h9 (by simp) (by simp)
 · exact ((hbel.alloc hbel.size _).grown hgrow (by simp; exact Nat.le_trans hbel.size (by omega)) (fun k e => by have := hub k e; omega)).setCell (p := ⟨w.heap.size, 0, none⟩) (Nat.le_refl _) _

set_option maxHeartbeats 4000000 in
theorem appSeqN_any (lb : Array Value) (S0 : Nat → Prop) (all : List Int) (ok : Int → Prop) (w : World) (hseq : SeqN Tryz.prog 95 lb S0 all ok w) (hS0 : ∀ k, S0 k → k < w.heap.size) (hN : all.length ≤ 1099511627776) :
 Calls Tryz.prog 94 #[.slice none 0 0, .func (.func 95) #[] lb] w fun e w' => ∃ v, e = .returned v ∧ OwnsI w' w.heap.size v all ∧ Below w.heap.size w w' := by
 have hdd : ∀ k : Nat, (Fence.wide.depth.isSome = true → 1 ≤ k) := fun k h => by cases h
 obtain ⟨i0, hI0, hz0, hz1, hz2⟩ := info_parts infoInt
 have HSQ := Lib.hid hseq; clear hseq
 have HS := Lib.hid hS0; clear hS0
 refine (callsIn_wide (n := 0)).1 ?_
 refine callsIn_of_wp_marks Tryz.func94 rfl trivial ?_ rfl
 simp only [Tryz.ntmps94, List.size_toArray, List.length_cons, List.length_nil, Nat.reduceAdd, Nat.reduceSub, Array.replicate_succ, Array.replicate_zero, List.push_toArray, List.append_toArray, List.nil_append, List.cons_append]
 gi_wp2
 have hb0 : Below w.heap.size w (w.alloc (.cells #[.slice none 0 0] 26)) := below1 _ _
 refine wp_range_n (S0 := S0) (all := all) (ok := ok) (w0 := w) rfl (enters_of Tryz.func95 (by kernel_rfl) rfl) HSQ.out hb0 (fun k h => by have := HS.out k h; simp; omega)
  (ApN w) (fun _ _ _ => False) (by rw [World.size_alloc]; exact apN_ncall w) (fun _ _ _ _ _ h _ _ => h) ?start
  (fun v => { tmps := #[.slice none 0 0, .func (.func 95) #[] lb, .pointer (some ⟨w.heap.size, 0, none⟩), undef, .slice none 0 0, v, .func (.func 95) #[] lb, v, undef, undef, undef, undef, undef], defers := [] }) ?assign ?body ?done ?stop
 case start =>
  intro W2 hb2 hs2
  rw [World.size_alloc] at hs2
  exact ⟨⟨_, heap_later (Boxed.new w _ _) hb2, OwnsI.nil _ _⟩, below_seq hb0 hb2, by omega⟩
 case assign =>
  intro l v W K hK
  gi_wp2
  exact hK
 case body =>
  rintro l hi pre M v A W ⟨⟨u, hbx, hr1⟩, hbel, hle3⟩ hlo hhi hg hl ⟨o, hlo', hoc⟩ rfl hok hlen
  rw [World.size_alloc] at hlo hl
  have hne : ∀ k, (∃ (cs : Array Value) (t : TypeId), A.heap[k]? = some (.cells cs t (0, 0))) → l ≠ k := by
   rintro k ⟨cs, t, hc⟩ rfl
   rw [hc] at hlo'; cases hlo'; cases hoc
  have hbW : Boxed W w.heap.size 26 u := hbx.kept hg (fun e => hne _ ⟨_, _, hbx⟩ (by cases e; rfl))
  have hrow : OwnsI W hi u pre := World.ownsRow.kept hr1 hg (by
   cases hk : u.ownBlock with
   | none => exact Or.inl rfl
   | some k => exact Or.inr (fun e => hne k ((row_blockI hr1 hk).imp fun cs h => ⟨_, h⟩) (by cases e; rfl)))
  have hWA : A.heap.size ≤ W.heap.size := hg.size
  have hbelW : Below w.heap.size w W := hbel.grown hg hbel.size (fun k e => by cases e; omega)
  have hsW : w.heap.size + 3 ≤ W.heap.size := by omega
  have HBW := Lib.hid hbelW; clear hbelW
  have HROW := Lib.hid hrow
  clear hr1 hbx hbel hg hne hlo' hoc hok HSQ hb0
  have hc := hbW.cell
  have hf := hbW.frozen
  have hbt := hbW.lt
  clear hrow
  gi_wp2_with (gi_at_builtin; refine wpListIn_append_own _ rfl _ _ 26 rfl hi 3 i0 (.int .i64 0) 1 8 Tryz.underlying26 hI0 hz0 hz1 hz2 rfl (by decide) _ pre.length (pre.map (Value.int .i64)) rfl (World.ownsRow.alloc HROW.out _) ⟨W.heap.size, 0, none⟩ 1 1 [.int .i64 M] rfl rfl (new_int _ _) (one_int _) (by unfold maxLen; omega) (by omega) (by simp; omega) ?_; intro v' w1 hown' hgrow _; obtain ⟨g', cap2, rfl⟩ := ownsRow_succ hown'; have hb1 := (hbW.alloc (.cells #[.int .i64 M] 3)).kept hgrow (hbW.not_row (by decide) HROW.out); have hc1 := hb1.cell; have hf1 := hb1.frozen)
  have h := apN_step (hi := hi) HS.out hbW HROW.out HBW.out (by omega) hown' hgrow
  rw [World.size_alloc]
  exact h
 case done =>
  rintro D hi W hD ⟨⟨u, hbx, hss⟩, hbel, hle⟩ hK
  rw [World.size_alloc] at hD
  have hc := hbx.cell
  have hbt := hbx.lt
  gi_wp2
  refine ⟨by simp, .inl ⟨_, _, rfl, run_takeDeferred hK, ?_⟩⟩
  exact ⟨_, results_tmp rfl _ _ _, u, rfl, (hss.putO _ hK rfl).lower hle, hbel.grown (grownBy_putObj' W D _) hbel.size (fun k e => by cases e; omega)⟩
 case stop =>
  intro D hi pre W _ _ _ h
  exact h.elim

set_option maxHeartbeats 1000000 in
theorem collectN_any (lb : Array Value) (S0 : Nat → Prop) (all : List Int) (ok : Int → Prop) (w : World) (hseq : SeqN Tryz.prog 95 lb S0 all ok w) (hS0 : ∀ k, S0 k → k < w.heap.size) (hN : all.length ≤ 1099511627776) :
 Calls Tryz.prog 45 #[.func (.func 95) #[] lb] w fun e w' => ∃ v, e = .returned v ∧ OwnsI w' w.heap.size v all ∧ Below w.heap.size w w' := by
 go_enter Tryz.func45, Tryz.ntmps45
 go_wp2_with (go_at_call 94; refine (appSeqN_any _ S0 all ok _ hseq hS0 hN).mono ?_; rintro e w1 ⟨v, rfl, h1, h2⟩)
 go_ret
 exact ⟨v, rfl, h1, h2⟩

set_option maxHeartbeats 2000000 in
theorem iFlipsOf_ret (W T : Int) (a : Option Addr) (n cap : Nat) (xs : List Bool) (la : Option Addr) (m lcap : Nat) (L : List Int) (w : World) (hn : n = xs.length) (hn' : n ≤ 1048576) (hm : m = L.length) (hm' : m ≤ 1048576) (ha : BoolsAt w a xs) (hl : IntsAt w la L) :
 Calls Tryz.prog 21 #[.agg #[.int .i64 W, .int .i64 T, .slice a n cap], .slice la m lcap] w (RetL w (flipsF W T xs L).length (flipsF W T xs L)) := by
 have HN := Lib.hid hn; clear hn
 have HM := Lib.hid hm; clear hm
 have HA := Lib.hid ha; clear ha
 have HL := Lib.hid hl; clear hl
 cases h : lok W T xs L
 · have e : flipsF W T xs L = [] := by unfold flipsF; rw [h]; rfl
   rw [e]
   have H := Lib.hid h; clear h e
   go_enter Tryz.func21, Tryz.ntmps21
   go_wp2_with fail
   refine (iLaidOk_any _ _ _ _ _ xs _ _ _ L _ HN.out hn' HM.out hm' (HA.out.one _) (HL.out.one _)).mono ?_; rintro e w1 ⟨rfl, hb1⟩
   rw [H.out]
   go_wp2
   go_ret
   exact ⟨none, 0, rfl, OwnsI.nil _ _, below_seq (below1 _ _) hb1⟩
 · have e : flipsF W T xs L = flipsL W T L := by unfold flipsF; rw [h]; rfl
   have hle : m = n := by rw [HM.out, HN.out]; exact lok_len' h
   subst hle
   have hln : (flipsL W T L).length ≤ 49 := by rw [← e]; exact flipsF_len W T xs L
   rw [e]
   have HLN := Lib.hid hln
   have H := Lib.hid h; clear h e hln
   obtain ⟨ALL, hALL⟩ : ∃ ALL, ALL = flipsL W T L := ⟨_, rfl⟩
   rw [← hALL]
   rw [← hALL] at HLN
   have HALL := Lib.hid hALL; clear hALL
   go_enter Tryz.func21, Tryz.ntmps21
   go_wp2_with fail
   refine (iLaidOk_any _ _ _ _ _ xs _ _ _ L _ HN.out hn' HM.out hm' (HA.out.one _) (HL.out.one _)).mono ?_; rintro e w1 ⟨rfl, hb1⟩
   rw [H.out]
   have b1 := below_seq (below1 w (.cells #[.int .i64 W, .int .i64 T, .slice a m cap] 25)) hb1
   obtain ⟨c0, c1, c2⟩ := cells3 (heap_later (heap_new w (.cells #[.int .i64 W, .int .i64 T, .slice a m cap] 25)) hb1)
   have A1 := Lib.hid (HA.out.below b1)
   have L1 := Lib.hid (HL.out.below b1)
   go_wp2_with fail
   refine (flips_at W T a m cap la m lcap _).mono ?_; rintro e w2 ⟨rfl, hr2, hl2, hb2⟩
   have b2 := below_seq b1 hb2
   have hsq : SeqN Tryz.prog 95 #[.pointer (some ⟨w1.heap.size, 0, none⟩), .pointer (some ⟨w1.heap.size + 1, 0, none⟩)] (fun k => k < w2.heap.size) ALL (fun k => 0 ≤ k ∧ k < (W + 1) * (T + 1) ∧ mayB W T L k = true) w2 := by
    rw [HALL.out]
    exact flips_seq _ _ W T a m cap xs la lcap L (fun k => k < w2.heap.size) w2 HN.out hn' H.out HM.out (A1.out.below hb2) ⟨hr2, hl2, L1.out.below hb2⟩ (heap_lt hr2) (heap_lt hl2) (fun b off e => by
     obtain ⟨b', off', e', hc⟩ := (L1.out.below hb2) 0 (by rw [← HM.out]; obtain ⟨hr, _, _⟩ := lok_rv H.out; obtain ⟨v1, v2, v3, v4, v5, _⟩ := rv_true hr; exact rv_pos v1 v3 (by rw [HN.out]; exact v5))
     rw [e'] at e; cases e
     exact World.block_lt_of_cell? w2 _ hc)
   have HSQ := Lib.hid hsq; clear hsq
   clear c0 c1 c2 hr2 hl2
   go_wp2_with fail
   refine (collectN_any _ _ ALL _ _ HSQ.out (fun k h => h) (by have := HLN.out; omega)).mono ?_; rintro e w3 ⟨v3, rfl, ho3, hb3⟩
   obtain ⟨a3, c3, rfl⟩ := ho3.form2
   have z2 := b2.size
   go_wp2
   go_ret
   exact ⟨a3, c3, rfl, ho3.lower z2, below_seq b2 hb3⟩

end Go.Proofs.YtpcajacekmidbaaGreat

namespace Go.Proofs.YtpcajacekmidbaaGreat
open Go.RowKit Go.Shelf
set_option linter.unusedVariables false
set_option maxRecDepth 100000
set_option linter.unusedSimpArgs false

set_option maxHeartbeats 4000000 in
theorem sUpOf_ret (W T : Int) (a : Option Addr) (n cap : Nat) (xs : List Bool) (la : Option Addr) (m lcap : Nat) (L : List Int) (w : World) (hn : n = xs.length) (hn' : n ≤ 1048576) (hm : m = L.length) (hm' : m ≤ 1048576) (ha : BoolsAt w a xs) (hl : IntsAt w la L) :
 Calls Tryz.prog 19 #[.agg #[.int .i64 W, .int .i64 T, .slice a n cap], .slice la m lcap] w (RetL w (downF 4 W T xs L).length (downF 4 W T xs L)) := by
 have HN := Lib.hid hn; clear hn
 have HM := Lib.hid hm; clear hm
 have HA := Lib.hid ha; clear ha
 have HL := Lib.hid hl; clear hl
 obtain ⟨wA, hwA⟩ : ∃ wA, wA = (w.alloc (.cells #[.int .i64 W, .int .i64 T, .slice a n cap] 25)).alloc (.cells #[] 3 (0, 0)) := ⟨_, rfl⟩
 have pA : wA.heap[w.heap.size]? = some (.cells #[.int .i64 W, .int .i64 T, .slice a n cap] 25 (0, 0)) := by rw [hwA]; exact heap_later (heap_new w _) (below1 _ _)
 have bA : Below w.heap.size w wA := by rw [hwA]; exact below2 _ _ _
 have zA : wA.heap.size = w.heap.size + 2 := by rw [hwA]; simp
 have oA : OwnsI wA (w.heap.size + 1) (.slice (some ⟨w.heap.size + 1, 0, none⟩) 0 0) [] := by
  rw [hwA]; have := own_nil_litF (w.alloc (.cells #[.int .i64 W, .int .i64 T, .slice a n cap] 25)) (B := w.heap.size + 1) (by simp); simpa using this
 have HOA := Lib.hid oA; clear oA
 have hfl := flipsF_len W T xs L
 have HSF := fun w' h h2 => sFlipsOf_ret W T a n cap xs la m lcap L w' HN.out hn' HM.out hm' h h2
 have HSR := fun w' c h h2 => sFlipRise_any W T a n cap xs la m lcap L c w' HN.out hn' HM.out hm' h h2
 have hpa := pk_all (flipsF W T xs L) (fun c => riseF W T xs L c == 4)
 have hdf : downF 4 W T xs L = (flipsF W T xs L).filter (fun c => riseF W T xs L c == 4) := rfl
 rw [← hdf] at hpa
 clear hdf
 obtain ⟨F, hF⟩ : ∃ F, F = flipsF W T xs L := ⟨_, rfl⟩
 obtain ⟨rf, hrf⟩ : ∃ rf : Int → Int, rf = riseF W T xs L := ⟨_, rfl⟩
 obtain ⟨D, hD⟩ : ∃ D, D = downF 4 W T xs L := ⟨_, rfl⟩
 rw [← hF] at hfl HSF hpa
 rw [← hrf] at HSR hpa
 rw [← hD] at hpa ⊢
 obtain ⟨g, hg⟩ : ∃ g : Int → Bool, g = fun c => rf c == 4 := ⟨_, rfl⟩
 rw [← hg] at hpa
 obtain ⟨f, hf⟩ : ∃ f, f = F.length := ⟨_, rfl⟩
 rw [← hf] at hfl HSF hpa
 have HF := Lib.hid hf; have HG := Lib.hid hg; have HPA := Lib.hid hpa; have HSFH := Lib.hid HSF; have HSRH := Lib.hid HSR
 clear hF hrf hD hg hf hpa HSF HSR
 obtain ⟨i0, hi, hz0, hz1, hz2⟩ := info_parts infoInt
 obtain ⟨c0, c1, c2⟩ := cells3 pA
 go_enter Tryz.func19, Tryz.ntmps19
 go_wp2_with fail
 rw [← hwA]
 clear hwA
 refine (HSFH.out _ (HA.out.below bA) (HL.out.below bA)).mono ?_; rintro e w1 ⟨a1, k1, rfl, o1, hb1⟩
 have b1 := below_seq bA hb1
 have p1 := heap_later pA hb1
 have O1 := Lib.hid (HOA.out.below hb1)
 have F1 := Lib.hid o1
 have SP : Hid (SepD (.slice (some ⟨w.heap.size + 1, 0, none⟩) 0 0) (.slice a1 f k1)) := fun b hb hu => by
  have h2 := (World.ownsRow.lt F1.out b hu).1
  have h3 : w.heap.size + 1 = b := by simpa [Value.ownBlock] using hb
  omega
 have z1 := hb1.size
 have B1 := Lib.hid b1
 have P1 := Lib.hid p1
 clear c0 c1 c2 o1 HOA hb1 bA pA b1 p1 HSFH
 go_wp2_with fail
 go_loopw [5, 7] (fun v i wr => ∃ k : Nat, k ≤ f ∧ i = .int .i64 k ∧ OwnsI wr (w.heap.size + 1) v (pk F g k) ∧ OwnsI wr wA.heap.size (.slice a1 f k1) F ∧ SepD v (.slice a1 f k1) ∧ wr.heap[w.heap.size]? = some (.cells #[.int .i64 W, .int .i64 T, .slice a n cap] 25 (0, 0)) ∧ Below w.heap.size w wr) (fun _ i _ => f - (intOf i).toNat)
 case atStart => exact ⟨0, Nat.zero_le _, rfl, by rw [pk_zero]; exact O1.out, F1.out, SP.out, P1.out, B1.out⟩
 case round =>
  rename World => wo
  obtain ⟨k, hk, rfl, ho, hof, hsp, pr, hbel⟩ := hrel
  have HO := Lib.hid ho; have HOF := Lib.hid hof; have HSP := Lib.hid hsp
  have BEL := Lib.hid hbel
  clear ho hof hsp hbel
  by_cases hlt : k < f
  · have e1 : (k : Int) < f := by omega
    have hfl2 := pk_len F g k
    obtain ⟨c0, c1, c2⟩ := cells3 pr
    have l1 := heap_lt pr
    obtain ⟨bb, bo, hab, hc⟩ := (OwnsI.at HOF.out) k (by rw [← HF.out]; exact hlt)
    have hlc := World.block_lt_of_cell? wo _ hc
    simp only at hlc
    subst hab
    obtain ⟨M, hM⟩ : ∃ M, M = F.getD k 0 := ⟨_, rfl⟩
    rw [← hM] at hc
    have HMM := Lib.hid hM
    have HKF : Hid (k < F.length) := by show _ < _; rw [← HF.out]; exact hlt
    clear hM
    go_wp2_with fail
    have P3 : wo.drew.heap[w.heap.size]? = some (.cells #[.int .i64 W, .int .i64 T, .slice a n cap] 25 (0, 0)) := pr
    have AD : Hid (BoolsAt wo.drew a xs) := Lib.hid (show BoolsAt wo a xs from HA.out.below BEL.out)
    have LD : Hid (IntsAt wo.drew la L) := Lib.hid (show IntsAt wo la L from HL.out.below BEL.out)
    have BD : Hid (Below w.heap.size w wo.drew) := Lib.hid (below_seq BEL.out (drew_below _))
    have OD : Hid (OwnsI wo.drew (w.heap.size + 1) _ (pk F g k)) := HO
    have OFD : Hid (OwnsI wo.drew wA.heap.size _ F) := HOF
    have hcd : wo.drew.cell? ⟨bb, bo + k, none⟩ = some (.int .i64 M) := hc
    go_region_held3 (fun w' => w'.cell? ⟨w.heap.size, 0, none⟩ = some (.int .i64 W) ∧ w'.cell? ⟨w.heap.size, 1, none⟩ = some (.int .i64 T) ∧ w'.cell? ⟨w.heap.size, 2, none⟩ = some (.slice a n cap) ∧ w'.cell? ⟨bb, bo + k, none⟩ = some (.int .i64 M))
     (go_keep)
     ((go_at_call 30; refine (HSRH.out _ M AD.out LD.out).mono ?_; rintro e w5 ⟨rfl, hb5⟩; have p5 := heap_later P3 hb5; obtain ⟨c50, c51, c52⟩ := cells3 p5; have c53 := cell_laterD hb5 hcd))
    have l5 := heap_lt p5
    have B5 := Lib.hid (below_seq BD.out hb5)
    have O5 := Lib.hid (OD.out.below hb5)
    have OF5 := Lib.hid (OFD.out.below hb5)
    cases hq : (rf M == 4)
    · have HNX : Hid (pk F g (k + 1) = pk F g k) := Lib.hid (pk_no HKF.out (by rw [HG.out, ← HMM.out]; exact hq))
      go_wp2
      go_roundw
      case rel => exact ⟨k + 1, by omega, by go_num, by rw [HNX.out]; exact O5.out, OF5.out, HSP.out, p5, B5.out⟩
      case measure => simp [intOf]; omega
    · have HNX : Hid (pk F g (k + 1) = pk F g k ++ [M]) := by
       refine Lib.hid ?_
       rw [HMM.out]
       exact pk_yes HKF.out (by rw [HG.out, ← HMM.out]; exact hq)
      go_wp2_with (at_builtin; refine wpList_append_own_at _ rfl _ _ 26 rfl (w.heap.size + 1) 3 i0 (.int .i64 0) 1 8 Tryz.underlying26 hi hz0 hz1 hz2 rfl (by decide) _ (pk F g k).length ((pk F g k).map (Value.int .i64)) rfl (World.ownsRow.alloc O5.out _) ⟨w5.heap.size, 0, none⟩ 1 1 [.int .i64 M] rfl rfl (new_int _ _) (one_int _) (by unfold maxLen; omega) (by omega) (by simp; omega) ?_; intro v' w8 hown' hgrow _ hloc; have p8 := heap_grown (heap_later p5 (below1 _ _)) hgrow (O5.out.ownBlock (by omega)); have O8 := Lib.hid (OwnsI.ofRow (xs := pk F g (k + 1)) hown' (by rw [HNX.out]; simp) (by rw [HNX.out]; simp)); have OF8 := Lib.hid (OwnsI.keptSepD (OF5.out.alloc _) hgrow HSP.out); have S8 := Lib.hid (SepD.new HSP.out (OF5.out.alloc _) hloc); have B8 := Lib.hid (below_grown (below_seq B5.out (below1 _ _)) hgrow (Nat.le_refl _) (O5.out.ownAt (by omega))); clear hown' hgrow)
      go_roundw
      case rel => exact ⟨k + 1, by omega, by go_num, O8.out, OF8.out, S8.out, p8, B8.out⟩
      case measure => simp [intOf]; omega
  · obtain rfl : k = f := by omega
    have hpa := HPA.out
    clear HPA
    subst hpa
    obtain ⟨a9, cap9, hv⟩ := HO.out.form2
    subst hv
    go_wp2
    go_ret
    exact ⟨a9, cap9, rfl, (OwnsI.lower (B := w.heap.size + 1) HO.out (Nat.le_succ _)), BEL.out⟩
end Go.Proofs.YtpcajacekmidbaaGreat

namespace Go.Proofs.YtpcajacekmidbaaGreat
open Go.RowKit Go.Shelf
set_option linter.unusedVariables false
set_option maxRecDepth 100000
set_option linter.unusedSimpArgs false
attribute [local go_sem] Oper.semAt_some

theorem iUpOf_ret (W T : Int) (a : Option Addr) (n cap : Nat) (xs : List Bool) (la : Option Addr) (m lcap : Nat) (L : List Int) (w : World) (hn : n = xs.length) (hn' : n ≤ 1048576) (hm : m = L.length) (hm' : m ≤ 1048576) (ha : BoolsAt w a xs) (hl : IntsAt w la L) :
 Calls Tryz.prog 18 #[.agg #[.int .i64 W, .int .i64 T, .slice a n cap], .slice la m lcap] w (RetL w (downF 4 W T xs L).length (downF 4 W T xs L)) := by
 have HN := Lib.hid hn; have HM := Lib.hid hm; have HA := Lib.hid ha; have HL := Lib.hid hl
 clear hn hm ha hl
 go_enter Tryz.func18, Tryz.ntmps18
 go_wp2_with fail
 refine (flipsRising_ret W T 4 (by decide) a n cap xs la m lcap L _ HN.out hn' HM.out hm' (HA.out.one _) (HL.out.one _)).mono ?_; rintro e w1 ⟨v, rfl, ho, hb1⟩
 obtain ⟨a1, c1, rfl⟩ := ho.form2
 go_wp2
 go_ret
 exact ⟨a1, c1, rfl, ho.lower (by simp), below_seq (below1 _ _) hb1⟩
end Go.Proofs.YtpcajacekmidbaaGreat
