/- Contracts of impl.boundsOf and of the closure of impl.leastHeights. -/
import Derived.Test.YtpcajacekmidbaaGreatKFlipE
import Derived.Test.YtpcajacekmidbaaGreatKFlipsOf
import Derived.Stop.RegionWithIn
namespace Go.Proofs.YtpcajacekmidbaaGreat
open Go.RowKit Go.Shelf
set_option linter.unusedVariables false
set_option maxRecDepth 100000
set_option linter.unusedSimpArgs false

def pk (F : List Int) (g : Int → Bool) (k : Nat) : List Int := (F.take k).filter g
theorem pk_zero (F : List Int) (g : Int → Bool) : pk F g 0 = [] := by simp [pk]
theorem pk_all (F : List Int) (g : Int → Bool) : pk F g F.length = F.filter g := by simp [pk]
theorem pk_some {F : List Int} {k : Nat} (hk : k < F.length) : F[k]? = some (F.getD k 0) := by simp [List.getD, hk]
theorem pk_yes {F : List Int} {g : Int → Bool} {k : Nat} (hk : k < F.length) (h : g (F.getD k 0) = true) : pk F g (k + 1) = pk F g k ++ [F.getD k 0] := by
 unfold pk
 rw [List.take_add_one, pk_some hk, List.filter_append]
 simp only [Option.toList, List.filter_cons, List.filter_nil, h, if_true]
theorem pk_no {F : List Int} {g : Int → Bool} {k : Nat} (hk : k < F.length) (h : g (F.getD k 0) = false) : pk F g (k + 1) = pk F g k := by
 unfold pk
 rw [List.take_add_one, pk_some hk, List.filter_append]
 simp only [Option.toList, List.filter_cons, List.filter_nil, h, Bool.false_eq_true, if_false, List.append_nil]
theorem pk_len (F : List Int) (g : Int → Bool) (k : Nat) : (pk F g k).length ≤ k := by
 unfold pk; exact Nat.le_trans (List.length_filter_le _ _) (by rw [List.length_take]; omega)
def downF (r W T : Int) (xs : List Bool) (L : List Int) : List Int := (flipsF W T xs L).filter fun c => riseF W T xs L c == r
theorem downF_len (r W T : Int) (xs : List Bool) (L : List Int) : (downF r W T xs L).length ≤ 49 := Nat.le_trans (List.length_filter_le _ _) (flipsF_len W T xs L)

def SepD (v u : Value) : Prop := ∀ b, v.ownBlock = some b → u.ownBlock ≠ some b
theorem SepD.new {w : World} {B : Nat} {v u v' : Value} {xs : List Int} (h : SepD v u) (hu : OwnsI w B u xs) (hloc : v'.ownBlock = v.ownBlock ∨ v'.ownBlock = some w.heap.size) : SepD v' u := by
 intro b hb hu'
 rcases hloc with e | e
 · exact h b (by rw [← e]; exact hb) hu'
 · rw [e] at hb
   have e2 := Option.some.inj hb
   have := OwnsI.blkLt hu b hu'
   omega
theorem OwnsI.keptSepD {w w' : World} {B : Nat} {u v : Value} {xs : List Int} (h : OwnsI w B u xs) (hg : w.grownBy w' v.ownBlock) (hs : SepD v u) : OwnsI w' B u xs := by
 refine World.ownsRow.kept h hg ?_
 cases hu : u.ownBlock with
 | none => exact Or.inl rfl
 | some b =>
   right
   intro e
   exact hs b e.symm hu
theorem cell_laterD {w w' : World} {b o : Nat} {v : Value} (hb : Below w.heap.size w w') (h : w.cell? ⟨b, o, none⟩ = some v) : w'.cell? ⟨b, o, none⟩ = some v := by
 have hl := World.block_lt_of_cell? w _ h
 rw [(bcell hb).1 b o hl]; exact h

end Go.Proofs.YtpcajacekmidbaaGreat

namespace Go.Proofs.YtpcajacekmidbaaGreat
open Go.RowKit Go.Shelf
set_option linter.unusedVariables false
set_option maxRecDepth 100000
set_option linter.unusedSimpArgs false
attribute [local go_sem] Oper.semAt_some

theorem downF_off {r W T : Int} {xs : List Bool} {L : List Int} (hr : r ≠ 0) (h : (simpleB W T xs && tok W T xs L) = false) : downF r W T xs L = [] := by
 unfold downF
 rw [List.filter_eq_nil_iff]
 intro c _
 unfold riseF
 rw [h]
 simp; omega
theorem downF_on {r W T : Int} {xs : List Bool} {L : List Int} (h : (simpleB W T xs && tok W T xs L) = true) : downF r W T xs L = (flipsL W T L).filter fun c => flipD W T xs L c.toNat == r := by
 have h' := h
 rw [Bool.and_eq_true] at h'
 have hl := tok_lok1 h'.2
 unfold downF flipsF
 rw [hl, if_pos rfl]
 refine List.filter_congr fun c hc => ?_
 unfold flipsL at hc
 rw [flipsK_mem] at hc
 obtain ⟨j, rfl, _, hm⟩ := hc
 unfold riseF
 rw [h, hm]; rfl

def DnN (X : World) (g : Int → Bool) (hi : Nat) (pre : List Int) (W : World) : Prop :=
 (∃ v, Boxed W X.heap.size 26 v ∧ OwnsI W hi v (pre.filter g)) ∧ Below X.heap.size X W ∧ X.heap.size ≤ hi
theorem dn_ncall (X : World) (g : Int → Bool) {N : Nat} (hX : X.heap.size < N) : NCall N (N + 2) (DnN X g) := by
 intro hi pre A D row h hg hr
 obtain ⟨⟨v, hb, h1⟩, hbel, hle⟩ := h
 have hbx : Boxed D X.heap.size 26 v := hb.kept hg (fun e => by
  rcases hr _ e.symm with ⟨h3, _⟩ | ⟨h3, _⟩ <;> omega)
 refine ⟨⟨v, hbx, World.ownsRow.kept h1 hg ?_⟩, hbel.grown hg hbel.size (fun k e => by rcases hr k e with ⟨h3, _⟩ | ⟨h3, _⟩ <;> omega), hle⟩
 cases hk : v.ownBlock with
 | none => exact Or.inl rfl
 | some k =>
   obtain ⟨cs, hc⟩ := row_blockI h1 hk
   refine Or.inr (fun e => ?_)
   have h7 := (World.ownsRow.lt h1 k hk).1
   rcases hr k e.symm with ⟨_, h4⟩ | ⟨_, o, ho, h5⟩
   · omega
   · rw [hc] at ho; cases ho; cases h5
theorem dn_step {X W w1 : World} {N hi : Nat} {S0 : Nat → Prop} {u v' : Value} {Y : List Int} {M : Int} (hX : X.heap.size < N) (hS : ∀ k, S0 k → k < N ∧ k ≠ X.heap.size) (hb : Boxed W X.heap.size 26 u) (hrow : OwnsI W hi u Y)
 (hbel : Below X.heap.size X W) (hhi : N + 2 ≤ hi) (hown' : w1.ownsRow hi 3 1 v' (Y.length + 1) (Y.map (Value.int .i64) ++ [.int .i64 M])) (hgrow : (W.alloc (.cells #[.int .i64 M] 3)).grownBy w1 u.ownBlock) :
 KeepsOthers W (w1.setCell ⟨X.heap.size, 0, none⟩ v') ∧ ItKeeps (fun k => S0 k ∨ N + 2 ≤ k ∧ k < hi) W (w1.setCell ⟨X.heap.size, 0, none⟩ v') ∧
  (∃ v, Boxed (w1.setCell ⟨X.heap.size, 0, none⟩ v') X.heap.size 26 v ∧ OwnsI (w1.setCell ⟨X.heap.size, 0, none⟩ v') hi v (Y ++ [M])) ∧ Below X.heap.size X (w1.setCell ⟨X.heap.size, 0, none⟩ v') := by
 have hb1 : Boxed w1 X.heap.size 26 u := (hb.alloc _).kept hgrow (hb.not_row (by decide) hrow)
 have hub : ∀ k, u.ownBlock = some k → hi ≤ k ∧ k < W.heap.size := fun k e => World.ownsRow.lt hrow k e
 refine ⟨?_, ⟨?_, ?_⟩, ⟨v', hb1.set v', ?_⟩, ?_⟩
 · refine ((KeepsOthers.alloc W _).trans (KeepsOthers.of_grownBy hgrow fun j o ej hj => ?_)).trans (KeepsOthers.setCell _ _ _)
   obtain ⟨cs, hc⟩ := row_blockI (World.ownsRow.alloc hrow (.cells #[.int .i64 M] 3)) ej
   rw [hc] at hj; cases hj; rfl
 · have h1 := hgrow.size
   simp only [World.size_alloc] at h1
   have h2 : (w1.setCell ⟨X.heap.size, 0, none⟩ v').heap.size = w1.heap.size := by simp [World.setCell]
   omega
 · intro k hk hlt
   have hkh : k ≠ X.heap.size ∧ k < hi := by
    rcases hk with h | h
    · have := hS k h
      exact ⟨this.2, by omega⟩
    · exact ⟨by omega, h.2⟩
   have hkr : some k ≠ u.ownBlock := by
    intro e
    have := hub k e.symm
    omega
   rw [Below.heap_setCell _ _ _ _ hkh.1, hgrow.block k (by rw [World.size_alloc]; omega) hkr]
   exact Below.heap_alloc W _ k hlt
 · have h9 := hown'.kept (grownBy_setCell' w1 X.heap.size v') (Or.inr (hb1.not_row (by decide) hown').symm)
   exact OwnsI.ofRow (xs := Y ++ [M]) h9 (by simp) (by simp)
 · exact ((hbel.alloc hbel.size _).grown hgrow (by simp; exact Nat.le_trans hbel.size (by omega)) (fun k e => by have := hub k e; omega)).setCell (p := ⟨X.heap.size, 0, none⟩) (Nat.le_refl _) _

set_option maxHeartbeats 4000000 in
theorem flipsRising_on (W T r : Int) (a : Option Addr) (n cap : Nat) (xs : List Bool) (la : Option Addr) (lcap : Nat) (L : List Int) (w : World) (hn : n = xs.length) (hn' : n ≤ 1048576) (hm : n = L.length) (hm' : n ≤ 1048576) (ha : BoolsAt w a xs) (hl : IntsAt w la L)
 (hsm : simpleB W T xs = true) (htk : tok W T xs L = true) :
 Calls Tryz.prog 28 #[.agg #[.int .i64 W, .int .i64 T, .slice a n cap], .slice la n lcap, .int .i64 r] w fun e w' => ∃ v, e = .returned v ∧ OwnsI w' w.heap.size v (downF r W T xs L) ∧ Below w.heap.size w w' := by
 have hdd : ∀ k : Nat, (Fence.wide.depth.isSome = true → 1 ≤ k) := fun k h => by cases h
 obtain ⟨i0, hI0, hz0, hz1, hz2⟩ := info_parts infoInt
 have hlk := tok_lok1 htk
 have hln : (flipsL W T L).length ≤ 49 := by have := flipsF_len W T xs L; unfold flipsF at this; rw [hlk, if_pos rfl] at this; exact this
 have hdf := downF_on (r := r) (W := W) (T := T) (xs := xs) (L := L) (by rw [hsm, htk]; rfl)
 obtain ⟨hr, _, _⟩ := lok_rv hlk
 obtain ⟨v1, v2, v3, v4, v5, _⟩ := rv_true hr
 have hpos : 0 < n := rv_pos v1 v3 (by rw [hn]; exact v5)
 have hcb := corn_bd v1 v2 v3 v4
 obtain ⟨g, hg⟩ : ∃ g : Int → Bool, g = fun c => flipD W T xs L c.toNat == r := ⟨_, rfl⟩
 rw [← hg] at hdf
 rw [hdf]
 obtain ⟨ALL, hALL⟩ : ∃ ALL, ALL = flipsL W T L := ⟨_, rfl⟩
 rw [← hALL] at hln ⊢
 have HN := Lib.hid hn; have HM := Lib.hid hm; have HA := Lib.hid ha; have HL := Lib.hid hl; have HS := Lib.hid hsm; have HT := Lib.hid htk; have HK := Lib.hid hlk
 have HLN := Lib.hid hln; have HG := Lib.hid hg; have HALL := Lib.hid hALL; have HPOS := Lib.hid hpos
 clear hn hm ha hl hsm htk hlk hln hdf hg hALL hr v5 hpos
 rename_i u1 u2 u3
 clear u1 u2 u3
 obtain ⟨wB, hwB⟩ : ∃ wB, wB = ((w.alloc (.cells #[.int .i64 W, .int .i64 T, .slice a n cap] 25)).alloc (.cells #[.slice la n lcap] 26)).alloc (.cells #[.int .i64 r] 3) := ⟨_, rfl⟩
 have bB : Below w.heap.size w wB := by rw [hwB]; exact below3 _ _ _ _
 have q0 : wB.heap[w.heap.size]? = some (.cells #[.int .i64 W, .int .i64 T, .slice a n cap] 25 (0, 0)) := by rw [hwB]; exact heap_later (heap_new w _) (below2 _ _ _)
 have q1 : wB.heap[w.heap.size + 1]? = some (.cells #[.slice la n lcap] 26 (0, 0)) := by rw [hwB]; have := heap_later (heap_new (w.alloc (.cells #[.int .i64 W, .int .i64 T, .slice a n cap] 25)) (.cells #[.slice la n lcap] 26)) (below1 _ (.cells #[.int .i64 r] 3)); simpa using this
 have q2 : wB.heap[w.heap.size + 1 + 1]? = some (.cells #[.int .i64 r] 3 (0, 0)) := by rw [hwB]; have := heap_new ((w.alloc (.cells #[.int .i64 W, .int .i64 T, .slice a n cap] 25)).alloc (.cells #[.slice la n lcap] 26)) (.cells #[.int .i64 r] 3); simpa using this
 refine (callsIn_wide (n := 0)).1 ?_
 refine callsIn_of_wp_marks Tryz.func28 rfl trivial ?_ rfl
 simp only [Tryz.ntmps28, List.size_toArray, List.length_cons, List.length_nil, Nat.reduceAdd, Nat.reduceSub, Array.replicate_succ, Array.replicate_zero, List.push_toArray, List.append_toArray, List.nil_append, List.cons_append]
 obtain ⟨c0, c1, c2⟩ := cells3 q0
 have d1 := cell1 q1
 have d2 := cell1 q2
 gi_wp2_with (first
  | (first | refine ⟨trivial, rfl, ?_⟩ | refine ⟨trivial, hdd _, ?_⟩); gi_at_call 40; rw [← hwB]; refine (callsIn_wide.2 (iSimple_any _ _ _ _ _ xs _ HN.out hn' (HA.out.below bB))).mono ?_; rintro e w1 ⟨rfl, hb1⟩; rw [HS.out]; have b1 := below_seq bB hb1; have p0 := heap_later q0 hb1; have p1 := heap_later q1 hb1; have p2 := heap_later q2 hb1; obtain ⟨x0, x1, x2⟩ := cells3 p0; have y1 := cell1 p1
  | (first | refine ⟨trivial, rfl, ?_⟩ | refine ⟨trivial, hdd _, ?_⟩); gi_at_call 47; refine (callsIn_wide.2 (iTilingOk_any _ _ _ _ _ xs _ _ _ L _ HN.out hn' HM.out hm' (HA.out.below b1) (HL.out.below b1))).mono ?_; rintro e w2 ⟨rfl, hb2⟩; rw [HT.out]; have b2 := below_seq b1 hb2; have h0 := heap_later p0 hb2; have h1 := heap_later p1 hb2; have h2 := heap_later p2 hb2; obtain ⟨x20, x21, x22⟩ := cells3 h0; have y2 := cell1 h1; have l20 := heap_lt h0; have l21 := heap_lt h1; obtain ⟨w3, hw3⟩ : ∃ w3, w3 = w2.alloc (.cells #[.slice none 0 0] 26) := ⟨_, rfl⟩; have b23 : Below w2.heap.size w2 w3 := by rw [hw3]; exact below1 _ _
  | (first | refine ⟨trivial, rfl, ?_⟩ | refine ⟨trivial, hdd _, ?_⟩); gi_at_call 46; rw [← hw3]; refine (callsIn_wide.2 (flips_at W T a n cap la n lcap _)).mono ?_; rintro e w4 ⟨rfl, hr4, hl4, hb4⟩)
 have hz3 : w3.heap.size = w2.heap.size + 1 := by rw [hw3]; simp
 have hz4 := heap_lt hl4
 rw [hz3] at hr4 hl4
 have b4 := below_seq b23 hb4
 have B4 := Lib.hid (below_seq b2 b4)
 have bx4 : Boxed w4 w2.heap.size 26 (.slice none 0 0) := heap_later (by rw [hw3]; exact heap_new _ _) hb4
 have A4 := Lib.hid (HA.out.below B4.out)
 have L4 := Lib.hid (HL.out.below B4.out)
 have HSQ : Hid (SeqN Tryz.prog 95 #[.pointer (some ⟨w2.heap.size + 1, 0, none⟩), .pointer (some ⟨w2.heap.size + 1 + 1, 0, none⟩)] (fun k => k < w4.heap.size ∧ k ≠ w2.heap.size) ALL (fun k => 0 ≤ k ∧ k < (W + 1) * (T + 1) ∧ mayB W T L k = true) w4) := by
  refine Lib.hid ?_
  rw [HALL.out]
  have zz := b2.size
  exact flips_seq _ _ W T a n cap xs la lcap L (fun k => k < w4.heap.size ∧ k ≠ w2.heap.size) w4 HN.out hn' HK.out HM.out A4.out ⟨hr4, hl4, L4.out⟩ ⟨heap_lt hr4, by omega⟩ ⟨heap_lt hl4, by omega⟩ (fun b off e => by
   obtain ⟨b', off', e', hc⟩ := HL.out 0 (by rw [← HM.out]; exact HPOS.out)
   rw [e'] at e; cases e
   have q1 := World.block_lt_of_cell? w _ hc
   simp only at q1
   have q2 := hb4.size
   constructor <;> omega)
 have B2 := Lib.hid b2
 have B24 := Lib.hid b4
 have BX := Lib.hid bx4
 clear hwB hw3 q0 q1 q2 c0 c1 c2 d1 d2 x0 x1 x2 y1 x20 x21 x22 y2 hb1 hb2 hb4 b1 b2 b4 b23 bx4 p0 p1 p2 bB hr4 hl4 l20 l21
 refine wp_range_n (S0 := fun k => k < w4.heap.size ∧ k ≠ w2.heap.size) (all := ALL) (ok := fun k => 0 ≤ k ∧ k < (W + 1) * (T + 1) ∧ mayB W T L k = true) (w0 := w4) rfl (enters_of Tryz.func95 (by kernel_rfl) rfl) HSQ.out (Below.refl _ _) (fun k h => h.1)
  (DnN w2 g) (fun _ _ _ => False) (dn_ncall w2 g (by omega)) (fun _ _ _ _ _ h _ _ => h) ?start
  (fun v => { tmps := #[.agg #[.int .i64 W, .int .i64 T, .slice a n cap], .slice la n lcap, .int .i64 r, .pointer (some ⟨w.heap.size, 0, none⟩), .pointer (some ⟨w.heap.size + 1, 0, none⟩), .pointer (some ⟨w.heap.size + 1 + 1, 0, none⟩), .slice none 0 0, .pointer (some ⟨w2.heap.size, 0, none⟩), v, .agg #[.int .i64 W, .int .i64 T, .slice a n cap], .bool true, .bool false, .bool false, .agg #[.int .i64 W, .int .i64 T, .slice a n cap], .slice la n lcap, .bool true, .bool false, .bool false, .agg #[.int .i64 W, .int .i64 T, .slice a n cap], .slice la n lcap, .func (.func 95) #[] #[.pointer (some ⟨w2.heap.size + 1, 0, none⟩), .pointer (some ⟨w2.heap.size + 1 + 1, 0, none⟩)], v, undef, undef, undef, undef, undef, undef, undef, undef, undef, undef, undef], defers := [] }) ?assign ?body ?done ?stop
 case start =>
  intro W2 hb2 hs2
  exact ⟨⟨_, heap_later BX.out hb2, OwnsI.nil _ _⟩, below_seq B24.out hb2, by have := hb2.size; omega⟩
 case assign =>
  intro l v WW K hK
  gi_wp2
  exact hK
 case body =>
  rintro l hi pre M v A WW ⟨⟨u, hbx, hr1⟩, hbel, hle3⟩ hlo hhi hg hl ⟨o, hlo', hoc⟩ rfl hok hlen
  have hne : ∀ k, (∃ (cs : Array Value) (t : TypeId), A.heap[k]? = some (.cells cs t (0, 0))) → l ≠ k := by
   rintro k ⟨cs, t, hc⟩ rfl
   rw [hc] at hlo'; cases hlo'; cases hoc
  have hbW : Boxed WW w2.heap.size 26 u := hbx.kept hg (fun e => hne _ ⟨_, _, hbx⟩ (by cases e; rfl))
  have hrow : OwnsI WW hi u (pre.filter g) := World.ownsRow.kept hr1 hg (by
   cases hk : u.ownBlock with
   | none => exact Or.inl rfl
   | some k => exact Or.inr (fun e => hne k ((row_blockI hr1 hk).imp fun cs h => ⟨_, h⟩) (by cases e; rfl)))
  have hWA : A.heap.size ≤ WW.heap.size := hg.size
  have hbelW : Below w2.heap.size w2 WW := hbel.grown hg hbel.size (fun k e => by cases e; omega)
  obtain ⟨ok0, ok1, ok2⟩ := hok
  obtain ⟨j, rfl⟩ := Int.eq_ofNat_of_zero_le ok0
  have hl49 : (pre.filter g).length ≤ 49 := by have := List.length_filter_le g pre; have := HLN.out; omega
  have HBW := Lib.hid hbelW
  have HROW := Lib.hid hrow
  have BD : Hid (Below w.heap.size w WW.drew) := Lib.hid (below_seq (below_seq B2.out hbelW) (drew_below _))
  have AD := Lib.hid (HA.out.below BD.out)
  have LD := Lib.hid (HL.out.below BD.out)
  have f0 : WW.drew.heap[w.heap.size]? = _ := heap_later h0 (below_seq hbelW (drew_below _))
  have f1 : WW.drew.heap[w.heap.size + 1]? = _ := heap_later h1 (below_seq hbelW (drew_below _))
  have f2 : WW.drew.heap[w.heap.size + 1 + 1]? = _ := heap_later h2 (below_seq hbelW (drew_below _))
  obtain ⟨x0, x1, x2⟩ := cells3 f0
  have y1 := cell1 f1
  have y2 := cell1 f2
  obtain ⟨D, hD⟩ : ∃ D, D = flipD W T xs L j := ⟨_, rfl⟩
  have HD := Lib.hid hD
  have HOK1 := Lib.hid ok1
  have HBX := Lib.hid hbW
  have hgj : g (j : Int) = (D == r) := by rw [HG.out, hD]; show (flipD W T xs L (j : Int).toNat == r) = _; rw [Int.toNat_natCast]
  have HNO : Hid ((D == r) = false → (pre ++ [(j : Int)]).filter g = pre.filter g) := fun h => by rw [List.filter_append]; simp [hgj, h]
  have HYES : Hid ((D == r) = true → (pre ++ [(j : Int)]).filter g = pre.filter g ++ [(j : Int)]) := fun h => by rw [List.filter_append]; simp [hgj, h]
  have hY : (pre.filter g).length ≤ 49 := hl49
  obtain ⟨Y, hYY⟩ : ∃ Y, Y = pre.filter g := ⟨_, rfl⟩
  rw [← hYY] at HNO HYES HROW hY
  clear hgj hl49 hYY
  have e1 := heap_lt f0
  have e2 := heap_lt f1
  have e3 := heap_lt f2
  clear hr1 hbx hbel hg hne hlo' hoc HSQ hbelW hrow ok1 ok2 ok0 hD h0 h1 h2 hbW
  gi_wp2_with fail
  gi_region_with ((first | refine ⟨trivial, rfl, ?_⟩ | refine ⟨trivial, hdd _, ?_⟩); gi_at_call 57; refine (callsIn_wide.2 (riseAt_any W T a n cap xs la n lcap L j _ HN.out HM.out hm' HK.out HOK1.out AD.out LD.out)).mono ?_; rintro e w5 ⟨rfl, hb5⟩; rw [← HD.out]; have k2 := cell1 (heap_later f2 hb5))
  all_goals
   have hb5' := Lib.hid (below_seq (drew_below WW) hb5)
   have hbx5 : Boxed w5 w2.heap.size 26 u := heap_later HBX.out hb5'.out
   have hc := hbx5.cell
   have hf := hbx5.frozen
   have hbt := hbx5.lt
   have HB5 := Lib.hid hbx5
   have HR5 := Lib.hid (HROW.out.below hb5'.out)
   have zW := hb5'.out.size
   clear hbx5 hb5
   cases hq : (D == r)
   · have HQ := Lib.hid hq; clear hq
     gi_wp2
     exact ⟨KeepsOthers.of_grownBy (grown_of_below hb5'.out none) (fun j o e => by cases e), ItKeeps.of_below hb5'.out, ⟨u, HB5.out, by rw [HNO.out HQ.out]; exact HR5.out⟩, below_seq HBW.out hb5'.out, hle3⟩
   · have HQ := Lib.hid hq; clear hq
     gi_wp2_with (gi_at_builtin; refine wpListIn_append_own _ rfl _ _ 26 rfl hi 3 i0 (.int .i64 0) 1 8 Tryz.underlying26 hI0 hz0 hz1 hz2 rfl (by decide) _ Y.length (Y.map (Value.int .i64)) rfl (World.ownsRow.alloc HR5.out _) ⟨w5.heap.size, 0, none⟩ 1 1 [.int .i64 (j : Int)] rfl rfl (new_int _ _) (one_int _) (by unfold maxLen; omega) (by omega) (by simp; omega) ?_; intro v' w8 hown' hgrow _; obtain ⟨g', cap2, rfl⟩ := ownsRow_succ hown'; have hb8 := (HB5.out.alloc (.cells #[.int .i64 (j : Int)] 3)).kept hgrow (HB5.out.not_row (by decide) HR5.out); have hc8 := hb8.cell; have hf8 := hb8.frozen)
     obtain ⟨s1, s2, s3, s4⟩ := dn_step (N := w4.heap.size) (S0 := fun k => k < w4.heap.size ∧ k ≠ w2.heap.size) (by omega) (fun k h => h) HB5.out HR5.out (below_seq HBW.out hb5'.out) hlo hown' hgrow
     exact ⟨(KeepsOthers.of_grownBy (grown_of_below hb5'.out none) (fun j o e => by cases e)).trans s1, (ItKeeps.of_below hb5'.out).trans s2, by rw [HYES.out HQ.out]; exact s3, s4, hle3⟩
 case done =>
  rintro D hi WW hD ⟨⟨u, hbx, hss⟩, hbel, hle⟩ hK
  have hc := hbx.cell
  have hbt := hbx.lt
  gi_wp2
  refine ⟨by simp, .inl ⟨_, _, rfl, run_takeDeferred hK, ?_⟩⟩
  exact ⟨_, results_tmp rfl _ _ _, u, rfl, (hss.putO _ hK rfl).lower (by have := B2.out.size; omega), below_seq B2.out (hbel.grown (grownBy_putObj' WW D _) hbel.size (fun k e => by cases e; omega))⟩
 case stop =>
  intro D hi pre WW _ _ _ h
  exact h.elim

theorem flipsRising_ret (W T r : Int) (hr0 : r ≠ 0) (a : Option Addr) (n cap : Nat) (xs : List Bool) (la : Option Addr) (m lcap : Nat) (L : List Int) (w : World) (hn : n = xs.length) (hn' : n ≤ 1048576) (hm : m = L.length) (hm' : m ≤ 1048576) (ha : BoolsAt w a xs) (hl : IntsAt w la L) :
 Calls Tryz.prog 28 #[.agg #[.int .i64 W, .int .i64 T, .slice a n cap], .slice la m lcap, .int .i64 r] w fun e w' => ∃ v, e = .returned v ∧ OwnsI w' w.heap.size v (downF r W T xs L) ∧ Below w.heap.size w w' := by
 cases h1 : simpleB W T xs
 · have e : downF r W T xs L = [] := downF_off hr0 (by rw [h1]; rfl)
   rw [e]
   have HN := Lib.hid hn; have HM := Lib.hid hm; have HA := Lib.hid ha; have HL := Lib.hid hl; have HS := Lib.hid h1
   clear hn hm ha hl h1 e
   obtain ⟨wB, hwB⟩ : ∃ wB, wB = ((w.alloc (.cells #[.int .i64 W, .int .i64 T, .slice a n cap] 25)).alloc (.cells #[.slice la m lcap] 26)).alloc (.cells #[.int .i64 r] 3) := ⟨_, rfl⟩
   have bB : Below w.heap.size w wB := by rw [hwB]; exact below3 _ _ _ _
   go_enter Tryz.func28, Tryz.ntmps28
   go_wp2_with fail
   rw [← hwB]
   refine (iSimple_any _ _ _ _ _ xs _ HN.out hn' (HA.out.below bB)).mono ?_; rintro e w1 ⟨rfl, hb1⟩
   rw [HS.out]
   go_wp2
   go_ret
   exact ⟨_, rfl, OwnsI.nil _ _, below_seq bB hb1⟩
 cases h2 : tok W T xs L
 · have e : downF r W T xs L = [] := downF_off hr0 (by rw [h1, h2]; rfl)
   rw [e]
   have HN := Lib.hid hn; have HM := Lib.hid hm; have HA := Lib.hid ha; have HL := Lib.hid hl; have HS := Lib.hid h1; have HT := Lib.hid h2
   clear hn hm ha hl h1 h2 e
   obtain ⟨wB, hwB⟩ : ∃ wB, wB = ((w.alloc (.cells #[.int .i64 W, .int .i64 T, .slice a n cap] 25)).alloc (.cells #[.slice la m lcap] 26)).alloc (.cells #[.int .i64 r] 3) := ⟨_, rfl⟩
   have bB : Below w.heap.size w wB := by rw [hwB]; exact below3 _ _ _ _
   have q0 : wB.heap[w.heap.size]? = some (.cells #[.int .i64 W, .int .i64 T, .slice a n cap] 25 (0, 0)) := by rw [hwB]; exact heap_later (heap_new w _) (below2 _ _ _)
   have q1 : wB.heap[w.heap.size + 1]? = some (.cells #[.slice la m lcap] 26 (0, 0)) := by rw [hwB]; have := heap_later (heap_new (w.alloc (.cells #[.int .i64 W, .int .i64 T, .slice a n cap] 25)) (.cells #[.slice la m lcap] 26)) (below1 _ (.cells #[.int .i64 r] 3)); simpa using this
   go_enter Tryz.func28, Tryz.ntmps28
   go_wp2_with fail
   rw [← hwB]
   refine (iSimple_any _ _ _ _ _ xs _ HN.out hn' (HA.out.below bB)).mono ?_; rintro e w1 ⟨rfl, hb1⟩
   rw [HS.out]
   have b1 := below_seq bB hb1
   obtain ⟨c0, c1, c2⟩ := cells3 (heap_later q0 hb1)
   have d1 := cell1 (heap_later q1 hb1)
   go_wp2_with fail
   refine (iTilingOk_any _ _ _ _ _ xs _ _ _ L _ HN.out hn' HM.out hm' (HA.out.below b1) (HL.out.below b1)).mono ?_; rintro e w2 ⟨rfl, hb2⟩
   rw [HT.out]
   go_wp2
   go_ret
   exact ⟨_, rfl, OwnsI.nil _ _, below_seq b1 hb2⟩
 obtain rfl : n = m := by rw [hn, hm]; exact (lok_len' (tok_lok1 h2)).symm
 exact flipsRising_on W T r a n cap xs la lcap L w hn hn' hm hm' ha hl h1 h2

theorem iDownOf_ret (W T : Int) (a : Option Addr) (n cap : Nat) (xs : List Bool) (la : Option Addr) (m lcap : Nat) (L : List Int) (w : World) (hn : n = xs.length) (hn' : n ≤ 1048576) (hm : m = L.length) (hm' : m ≤ 1048576) (ha : BoolsAt w a xs) (hl : IntsAt w la L) :
 Calls Tryz.prog 7 #[.agg #[.int .i64 W, .int .i64 T, .slice a n cap], .slice la m lcap] w (RetL w (downF (-4) W T xs L).length (downF (-4) W T xs L)) := by
 have HN := Lib.hid hn; have HM := Lib.hid hm; have HA := Lib.hid ha; have HL := Lib.hid hl
 clear hn hm ha hl
 go_enter Tryz.func7, Tryz.ntmps7
 go_wp2_with fail
 refine (flipsRising_ret W T (-4) (by decide) a n cap xs la m lcap L _ HN.out hn' HM.out hm' (HA.out.one _) (HL.out.one _)).mono ?_; rintro e w1 ⟨v, rfl, ho, hb1⟩
 obtain ⟨a1, c1, rfl⟩ := ho.form2
 go_wp2
 go_ret
 exact ⟨a1, c1, rfl, ho.lower (by simp), below_seq (below1 _ _) hb1⟩

end Go.Proofs.YtpcajacekmidbaaGreat

namespace Go.Proofs.YtpcajacekmidbaaGreat
open Go.RowKit
set_option linter.unusedVariables false
set_option maxRecDepth 100000
set_option linter.unusedSimpArgs false

theorem down_mem {r W T : Int} {xs : List Bool} {L : List Int} {c : Int} (hr : r ≠ 0) (h : c ∈ downF r W T xs L) : simpleB W T xs = true ∧ tok W T xs L = true ∧ mayB W T L c = true ∧ flipD W T xs L c.toNat = r := by
 unfold downF at h
 rw [List.mem_filter] at h
 obtain ⟨_, h⟩ := h
 rw [beq_iff_eq] at h
 unfold riseF at h
 split at h
 · rename_i hc
   simp only [Bool.and_eq_true] at hc
   exact ⟨hc.1.1, hc.1.2, hc.2, h⟩
 · exact absurd h.symm hr
theorem simple_corn {W T : Int} {xs : List Bool} (hs : simpleB W T xs = true) : ∃ (N f : Nat), (W + 1) * (T + 1) = (N : Int) ∧ N ≤ 49 ∧ frstK W T xs N = f := by
 obtain ⟨v1, v2, v3, v4, v5, _⟩ := rv_true (simpleB_rv hs)
 have hcb := corn_bd v1 v2 v3 v4
 obtain ⟨N, hN⟩ := Int.eq_ofNat_of_zero_le (show 0 ≤ (W + 1) * (T + 1) by omega)
 have hf := simple_first hs hN
 obtain ⟨f, hf'⟩ := Int.eq_ofNat_of_zero_le hf
 exact ⟨N, f, hN, by omega, hf'⟩
end Go.Proofs.YtpcajacekmidbaaGreat

namespace Go.Proofs.YtpcajacekmidbaaGreat
open Go.RowKit
set_option linter.unusedVariables false
set_option maxRecDepth 100000
set_option linter.unusedSimpArgs false

theorem flips_mem9 {W T : Int} {L : List Int} {c N : Nat} (hN : (W + 1) * (T + 1) = (N : Int)) (hc : c < N) (hm : mayB W T L c = true) : (c : Int) ∈ flipsL W T L := by
 unfold flipsL flipsK
 rw [List.mem_map]
 exact ⟨c, by rw [List.mem_filter, List.mem_range]; exact ⟨by omega, hm⟩, rfl⟩
theorem hts_ne {W T : Int} {xs : List Bool} {L M H G : List Int} {N : Nat} (hN : (W + 1) * (T + 1) = (N : Int)) (ht : tok W T xs L = true) (ht' : tok W T xs M = true) (hH : HtsOf W T xs L H N) (hG : HtsOf W T xs M G N) (hne : L ≠ M) : ∃ k, k < N ∧ H.getD k 0 ≠ G.getD k 0 := by
 apply Classical.byContradiction; intro hc
 have he : H = G := by
  apply List.ext_getElem
  · rw [hH.len, hG.len]
  · intro k h1 h2
    have h3 : H.getD k 0 = G.getD k 0 := by
     apply Classical.byContradiction; intro h4
     exact hc ⟨k, by rw [← hH.len]; exact h1, h4⟩
    rw [List.getD_eq_getElem?_getD, List.getD_eq_getElem?_getD, List.getElem?_eq_getElem h1, List.getElem?_eq_getElem h2] at h3
    exact h3
 subst he
 exact hne (hts_inj hN ht ht' hH hG)
theorem htsR_of {W T : Int} {xs : List Bool} {L H : List Int} {N : Nat} (hs : simpleB W T xs = true) (hN : (W + 1) * (T + 1) = (N : Int)) (ht : tok W T xs L = true) (h : HtsR W T xs L H) : HtsOf W T xs L H N := by
 rcases h with ⟨_, h⟩ | ⟨h, _⟩
 · rwa [show ((W + 1) * (T + 1)).toNat = N by omega] at h
 · rw [hs, ht] at h; cases h
theorem way_edge (up : Bool) {W T : Int} {xs : List Bool} {L X H0 : List Int} (hE : EdgeR up W T xs X H0) (ht : tok W T xs L = true) : downF (if up then 4 else -4) W T xs L = [] ↔ X = L := by
 obtain ⟨hs, hX, hR, hall⟩ := hE
 obtain ⟨N, f, hN, _, hf⟩ := simple_corn hs
 obtain ⟨H, hH⟩ := hts_exist hs ht hN hf
 have hRH : HtsR W T xs L H := Or.inl ⟨by rw [hs, ht]; rfl, by rw [show ((W + 1) * (T + 1)).toNat = N by omega]; exact hH⟩
 have hX0 := htsR_of hs hN hX hR
 have hlk := tok_lok1 ht
 constructor
 · intro hd
   apply Classical.byContradiction; intro hne
   obtain ⟨k, hk, hkd⟩ := hts_ne hN ht hX hH hX0 (fun e => hne e.symm)
   have hcmp := hall L H ht hRH k (by rw [hX0.len]; exact hk)
   obtain ⟨σ, hσ, hσu, hpos⟩ : ∃ σ : Int, (σ = 1 ∨ σ = -1) ∧ (if up then (4 : Int) else -4) = -4 * σ ∧ 0 < σ * (H.getD k 0 - H0.getD k 0) := by
    cases up
    · exact ⟨1, Or.inl rfl, rfl, by simp only [Bool.false_eq_true, if_false] at hcmp; omega⟩
    · exact ⟨-1, Or.inr rfl, rfl, by simp only [if_true] at hcmp; omega⟩
   obtain ⟨c, h1, h2, h3, _⟩ := flip_to hs hN hf ht hX hH hX0 σ hσ ⟨k, hk, hpos⟩
   have hmem : (c : Int) ∈ downF (if up then 4 else -4) W T xs L := by
    unfold downF
    rw [List.mem_filter]
    refine ⟨by unfold flipsF; rw [hlk, if_pos rfl]; exact flips_mem9 hN h1 h2, ?_⟩
    unfold riseF
    rw [hs, ht, h2]
    simp only [Bool.and_self, if_true, Int.toNat_natCast, beq_iff_eq]
    rw [h3, hσu]
   rw [hd] at hmem; cases hmem
 · rintro rfl
   apply List.eq_nil_iff_forall_not_mem.2
   intro c hc
   obtain ⟨_, _, hm, hfl⟩ := down_mem (by cases up <;> decide) hc
   obtain ⟨v1, v2, v3, v4, v5, _⟩ := rv_true (simpleB_rv hs)
   obtain ⟨c0, _⟩ := may_rng v1 v2 v3 v4 hm
   obtain ⟨k, rfl⟩ := Int.eq_ofNat_of_zero_le c0
   have ht' := tok_flip ht hm
   obtain ⟨H', hH'⟩ := hts_exist hs ht' hN hf
   obtain ⟨hk, hfh⟩ := flip_height hs hN ht ht' hm hX0 hH'
   have h1 := hfh k hk
   rw [if_pos rfl] at h1
   rw [Int.toNat_natCast] at hfl
   rw [hfl] at h1
   have h2 := hall _ H' ht' (Or.inl ⟨by rw [hs, ht']; rfl, by rw [show ((W + 1) * (T + 1)).toNat = N by omega]; exact hH'⟩) k (by rw [hX0.len]; exact hk)
   cases up
   · simp only [Bool.false_eq_true, if_false] at h1 h2; omega
   · simp only [if_true] at h1 h2; omega
end Go.Proofs.YtpcajacekmidbaaGreat

namespace Go.Proofs.YtpcajacekmidbaaGreat
open Go.RowKit
set_option linter.unusedVariables false
set_option maxRecDepth 100000
set_option linter.unusedSimpArgs false

def loR (b : Bool) (r : Int) : Int := if b then (if -3 * r < r then -3 * r else r) else r
def hiR (b : Bool) (r : Int) : Int := if b then (if r < -3 * r then -3 * r else r) else r
set_option maxHeartbeats 4000000 in
theorem boundsOf_any (k kt r cl wy : Int) (b : Bool) (w : World) (hr : r = 1 ∨ r = -1) :
 Calls Tryz.prog 44 #[.agg #[.int .i64 k, .int .i64 kt, .int .i64 r, .bool b, .int .i64 cl, .int .i64 wy]] w fun e w' => e = .returned (.tuple #[.int .i64 (loR b r), .int .i64 (hiR b r)]) ∧ Below w.heap.size w w' := by
 obtain ⟨wA, hwA⟩ : ∃ wA, wA = w.alloc (.cells #[.int .i64 k, .int .i64 kt, .int .i64 r, .bool b, .int .i64 cl, .int .i64 wy] 77) := ⟨_, rfl⟩
 have pA : wA.heap[w.heap.size]? = some (.cells #[.int .i64 k, .int .i64 kt, .int .i64 r, .bool b, .int .i64 cl, .int .i64 wy] 77 (0, 0)) := by rw [hwA]; exact heap_new _ _
 have bA : Below w.heap.size w wA := by rw [hwA]; exact below1 _ _
 obtain ⟨c0, c1, c2, c3, c4, c5⟩ := cells6 pA
 cases b
 · go_enter Tryz.func44, Tryz.ntmps44
   go_wp2_with fail
   rw [← hwA]; clear hwA
   go_wp2
   go_quiet (fail)
   go_wp2
   go_ret2
   first
    | exact ⟨rfl, bA⟩
    | exact ⟨rfl, below_seq bA (drew_below _)⟩
    | exact ⟨rfl, below_seq bA (drewN_below _ _)⟩
 · obtain ⟨j, hj⟩ : ∃ j, -3 * r = j := ⟨_, rfl⟩
   obtain ⟨lo, hlo⟩ : ∃ lo, loR true r = lo := ⟨_, rfl⟩
   obtain ⟨hi, hhi⟩ : ∃ hi, hiR true r = hi := ⟨_, rfl⟩
   rw [hlo, hhi]
   unfold loR at hlo
   unfold hiR at hhi
   simp only [if_true] at hlo hhi
   rw [hj] at hlo hhi
   have m1 : (if r < j then r else j) = lo := by rw [← hlo]; split <;> split <;> omega
   have m2 : (if j < r then r else j) = hi := by rw [← hhi]; split <;> split <;> omega
   have HJ := Lib.hid hj; clear hj
   have HR := Lib.hid hr; clear hr
   go_enter Tryz.func44, Tryz.ntmps44
   go_wp2_with fail
   rw [← hwA]; clear hwA
   go_region_held3 (fun w' => w'.cell? ⟨w.heap.size, 0, none⟩ = some (.int .i64 k) ∧ w'.cell? ⟨w.heap.size, 1, none⟩ = some (.int .i64 kt) ∧ w'.cell? ⟨w.heap.size, 2, none⟩ = some (.int .i64 r) ∧ w'.cell? ⟨w.heap.size, 3, none⟩ = some (.bool true) ∧ w'.cell? ⟨w.heap.size, 4, none⟩ = some (.int .i64 cl) ∧ w'.cell? ⟨w.heap.size, 5, none⟩ = some (.int .i64 wy))
    (go_keep)
    (first
      | (go_at_call 88; refine (jumpOf_any k kt r cl wy true _ HR.out).mono ?_; rintro e w2 ⟨rfl, hb2⟩; rw [HJ.out]; have p2 := heap_later p1 hb2; have b2 := below_seq b1 hb2; obtain ⟨e0, e1, e2, e3, e4, e5⟩ := cells6 p2)
      | (go_at_call 88; refine (jumpOf_any k kt r cl wy true _ HR.out).mono ?_; rintro e w1 ⟨rfl, hb1⟩; rw [HJ.out]; have p1 := heap_later (show wA.drew.heap[w.heap.size]? = some _ from pA) hb1; have b1 : Below w.heap.size w w1 := below_seq bA (below_seq (drew_below _) hb1); obtain ⟨d0, d1, d2, d3, d4, d5⟩ := cells6 p1))
   all_goals
    go_wp2
    go_ret2
    exact ⟨rfl, b2⟩
end Go.Proofs.YtpcajacekmidbaaGreat
