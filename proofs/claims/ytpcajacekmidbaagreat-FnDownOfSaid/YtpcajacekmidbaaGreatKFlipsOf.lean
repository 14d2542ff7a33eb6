/- A law for 'for x := range seq' where the iterator yields integers; the iterator impl.flipsIn; slices.AppendSeq and slices.Collect over it. Merged of: RangeN, FlipsOf. -/
import Derived.Test.YtpcajacekmidbaaGreatKFlipOne
namespace Go.Proofs.YtpcajacekmidbaaGreat
open Go.RowKit Go.Shelf
set_option linter.unusedVariables false
set_option maxRecDepth 100000
set_option linter.unusedSimpArgs false
attribute [local go_sem] Oper.semAt_some

def NPost (J Jx : List Int → World → Prop) (pre all : List Int) (b : Bool) (W' : World) : Prop :=
 (b = true → J (pre ++ all) W') ∧ (b = false → ∃ q, q <+: all ∧ q ≠ [] ∧ Jx (pre ++ q) W')

def NInv (lo : Nat) (J : Nat → List Int → World → Prop) : Prop :=
 ∀ hi pre A D row, J hi pre A → A.grownBy D row → (∀ r, row = some r → lo ≤ r ∧ r < hi) → J hi pre D

def SeqN (P : Program) (g : Nat) (lb : Array Value) (S0 : Nat → Prop) (all : List Int) (ok : Int → Prop) (w0 : World) : Prop :=
 ∀ (d l : Nat) (J Jx : Nat → List Int → World → Prop) (W1 : World), Below w0.heap.size w0 W1 → NInv W1.heap.size J → NInv W1.heap.size Jx →
  (∀ W2, Below W1.heap.size W1 W2 → J W2.heap.size [] W2) →
  (∀ m hi pre M A A' v, J hi pre A → W1.heap.size ≤ hi → hi ≤ A.heap.size → Below A.heap.size A A' → v = .int .i64 M → ok M → pre.length < all.length → YieldAt Fence.wide m P l #[v] A' fun e W' =>
    ∃ b : Bool, e = .returned (.bool b) ∧ NPost (J hi) (Jx hi) pre [M] b W' ∧ ItKeeps (fun k => S0 k ∨ W1.heap.size ≤ k ∧ k < hi) A' W') →
  CallsIn Fence.wide d P g (#[.func (.yield l) #[] #[]] ++ lb) W1 fun e W' => (∃ v, e = .returned v) ∧ ∃ hi b, W1.heap.size ≤ hi ∧ hi ≤ W'.heap.size ∧ NPost (J hi) (Jx hi) [] all b W'

def NEnd (S : Nat → Prop) (Ix : List Int → World → Prop) (I : List Int → World → Prop) (pre : List Int) (W : World) : Exit → Act → World → Prop
 | .normal, _, W' => KeepsOthers W W' ∧ ItKeeps S W W' ∧ I pre W'
 | .ret, _, W' => KeepsOthers W W' ∧ ItKeeps S W W' ∧ Ix pre W'
 | _, _, _ => False

def NCall (B lo : Nat) (I : Nat → List Int → World → Prop) : Prop :=
 ∀ hi pre A D row, I hi pre A → A.grownBy D row → (∀ r, row = some r → (lo ≤ r ∧ r < hi) ∨ (B ≤ r ∧ ∃ o : Obj, A.heap[r]? = some o ∧ o.isCells = false)) → I hi pre D
theorem NCall.put {B lo : Nat} {I : Nat → List Int → World → Prop} (h : NCall B lo I) {hi : Nat} {pre : List Int} {A : World} {l : Nat} {o : Obj} (o' : Obj) (hi' : I hi pre A) (hB : B ≤ l) (hl : A.heap[l]? = some o) (ho : o.isCells = false) : I hi pre (A.putObj l o') :=
 h hi pre A _ (some l) hi' (grownBy_putObj' A l o') (fun r e => by cases e; exact Or.inr ⟨hB, o, hl, ho⟩)

theorem wp_range_n {P : Program} {n gf : Nat} {lb : Array Value} {g : Operand} {p : Tmp} {assign body : Code} {Q : Exit → Act → World → Prop} {a : Act} {w w0 : World} {S0 : Nat → Prop} {all : List Int} {ok : Int → Prop}
 (hg : a.eval g = .func (.func gf) #[] lb) (eg : ∀ args w, (callFunc gf args).run P w = .ok (.enter gf args) w) (hseq : SeqN P gf lb S0 all ok w0) (hb0 : Below w0.heap.size w0 w) (hS0 : ∀ k, S0 k → k < w.heap.size)
 (I Ix : Nat → List Int → World → Prop) (hI : NCall w.heap.size (w.heap.size + 2) I) (hIx : NCall w.heap.size (w.heap.size + 2) Ix)
 (h0 : ∀ W2, Below w.heap.size w W2 → w.heap.size + 2 ≤ W2.heap.size → I W2.heap.size [] W2) (a₁ : Value → Act)
 (hassign : ∀ (l : Nat) (v : Value) (W : World) (K : Act → World → Prop), K (a₁ v) W → assign.wpIn (Fence.wide.inRound l) n P (Exit.then K (fun _ _ _ => False)) { tmps := a.tmps.setIfInBounds p v, defers := [] } W)
 (hbody : ∀ (l hi : Nat) (pre : List Int) (M : Int) (v : Value) (A W : World), I hi pre A → w.heap.size + 2 ≤ hi → hi ≤ A.heap.size → A.grownBy W (some l) → w.heap.size ≤ l → (∃ o : Obj, A.heap[l]? = some o ∧ o.isCells = false) → v = .int .i64 M → ok M → pre.length < all.length →
   body.wpIn (Fence.wide.inRound l) n P (NEnd (fun k => S0 k ∨ w.heap.size + 2 ≤ k ∧ k < hi) (Ix hi) (I hi) (pre ++ [M]) W) (a₁ v) W)
 (hdone : ∀ (D hi : Nat) (W : World), w.heap.size ≤ D → I hi all W → W.heap[D]? = some (.deferred (some [])) → Q .normal { a with defers := { target := .collected D, args := #[] } :: a.defers } W)
 (hstop : ∀ (D hi : Nat) (pre : List Int) (W : World), w.heap.size ≤ D → pre <+: all → pre ≠ [] → Ix hi pre W → W.heap[D]? = some (.deferred (some [])) → Code.ret.wpIn Fence.wide n P Q { a with defers := { target := .collected D, args := #[] } :: a.defers } W) :
 (Code.rangeFunc g #[p] assign body).wpIn Fence.wide n P Q a w := by
 refine wpIn_rangeFunc ?_
 intro fn hfn
 obtain ⟨rc, hrc⟩ : ∃ rc : LoopState → Option Code → Loop, rc = fun st pe => { state := st, pending := pe, fn, tmps := a.tmps, params := #[p], assign, body, defers := w.heap.size } := ⟨_, rfl⟩
 obtain ⟨b, hbw⟩ : ∃ b, b = w.heap.size := ⟨_, rfl⟩
 obtain ⟨V, hV⟩ : ∃ V, (w.alloc (.deferred (some []))).alloc (.loop (rc .ready none)) = V := ⟨_, rfl⟩
 have vsz : V.heap.size = b + 2 := by rw [← hV]; simp [hbw]
 have vbel : Below w.heap.size w V := by rw [← hV]; exact below2 w _ _
 have vd : V.heap[b]? = some (.deferred (some [])) := by rw [← hV, hbw]; exact heap_later (heap_new w _) (below1 _ _)
 have vl : V.heap[b + 1]? = some (.loop (rc .ready none)) := by rw [← hV, hbw]; exact heap_new2 w _ _
 refine ⟨b + 1, [{ target := .collected b, args := #[] }], V, { target := .fn (.func gf) lb, args := #[.func (.yield (b + 1)) #[] #[]] }, V, gf, #[.func (.yield (b + 1)) #[] #[]] ++ lb, V, ?_, ?_, fun _ _ => trivial, ?_, fun h => (by cases h), ?_⟩
 · rw [← hV, hrc, hbw]; exact run_enterLoop_outer _ _ _ _ _
 · simp only [resolve, hg]
   simp [go_sem]
 · simp [invoke, go_sem, eg]
 rw [← hbw] at hI hIx hS0 h0 hbody hdone hstop
 have lo : ∀ {row : Option Nat} {hi : Nat}, (∀ r, row = some r → V.heap.size ≤ r ∧ r < hi) → (∀ r, row = some r → b + 2 ≤ r ∧ r < hi) := fun h r e => by rw [← vsz]; exact h r e
 -- what holds between two rounds, with the two facts on the statement's own blocks
 have hcall := hseq (n - 1) (b + 1)
  (fun hi pre W => I hi pre W ∧ W.heap[b + 1]? = some (.loop (rc .ready none)) ∧ W.heap[b]? = some (.deferred (some [])))
  (fun hi pre W => Ix hi pre W ∧ W.heap[b + 1]? = some (.loop (rc .done (some .ret))) ∧ W.heap[b]? = some (.deferred (some [])))
  V (below_seq hb0 vbel)
  (fun hi pre A D row h hgr hr => ⟨hI hi pre A D row h.1 hgr (fun r e => Or.inl (lo hr r e)), keeps_low hgr (fun r e => (lo hr r e).1) (by omega) h.2.1, keeps_low hgr (fun r e => (lo hr r e).1) (by omega) h.2.2⟩)
  (fun hi pre A D row h hgr hr => ⟨hIx hi pre A D row h.1 hgr (fun r e => Or.inl (lo hr r e)), keeps_low hgr (fun r e => (lo hr r e).1) (by omega) h.2.1, keeps_low hgr (fun r e => (lo hr r e).1) (by omega) h.2.2⟩)
  (fun W2 h2 => ⟨h0 W2 (below_seq vbel h2 |>.mono (by rw [hbw]; exact Nat.le_refl _)) (by rw [← vsz]; exact h2.size), heap_later vl h2, heap_later vd h2⟩)
  ?rounds
 case rounds =>
  intro m hi pre M A A' v hJ hlo hhi hbel hown hok hpl
  obtain ⟨hi1, hl, hd⟩ := hJ
  rw [vsz] at hlo
  have hl' := heap_later hl hbel
  have hd' := heap_later hd hbel
  have hy : (Instr.yield (b + 1) #[v]).run P A' = .ok (.round (b + 1) fn (a.tmps.setIfInBounds p v) assign body) A' := by
   have h := run_yield (P := P) (args := #[v]) hl' (by rw [hrc]; rfl)
   rw [hrc] at h
   simpa using h
  obtain ⟨W, hW⟩ : ∃ W, A'.putObj (b + 1) (.loop { rc .ready none with state := .busy }) = W := ⟨_, rfl⟩
  have hbr := run_beginRound (P := P) hl' (by rw [hrc])
  rw [hW] at hbr
  have hgw : A.grownBy W (some (b + 1)) := by rw [← hW]; exact grown_seq (grown_of_below hbel _) (grownBy_putObj' A' (b + 1) _)
  have hw1 : W.heap[b + 1]? = some (.loop { rc .ready none with state := .busy }) := by rw [← hW]; exact World.putObj_heap_same (heap_lt hl')
  have hw0 : W.heap[b]? = some (.deferred (some [])) := by rw [← hW]; exact (World.putObj_heap_other (by omega)).trans hd'
  have how : v = .int .i64 M := hown
  have hbod := hbody (b + 1) hi pre M v A W hi1 hlo hhi hgw (by omega) ⟨_, hl, rfl⟩ how hok hpl
  have fin : ∀ (jump : Option Code) (W3 : World), KeepsOthers W W3 →
   (Instr.endRound (b + 1) jump).run P W3 = .ok (.bool jump.isNone) (W3.putObj (b + 1) (.loop (rc (if jump.isNone then .ready else .done) jump))) ∧
   (W3.putObj (b + 1) (.loop (rc (if jump.isNone then .ready else .done) jump))).heap[b + 1]? = some (.loop (rc (if jump.isNone then .ready else .done) jump)) ∧
   (W3.putObj (b + 1) (.loop (rc (if jump.isNone then .ready else .done) jump))).heap[b]? = some (.deferred (some [])) ∧ (∃ o : Obj, W3.heap[b + 1]? = some o ∧ o.isCells = false) := fun jump W3 hk => by
   have h3 := hk.same _ _ hw1 rfl
   have hr := run_endRound (P := P) jump h3
   refine ⟨by rw [hrc] at hr ⊢; exact hr, World.putObj_heap_same (heap_lt h3), (World.putObj_heap_other (by omega)).trans (hk.same _ _ hw0 rfl), _, h3, rfl⟩
  -- of the iterator's blocks, and of those that it reads, the statement's own two are none
  have put_keeps : ∀ (X : World) (o : Obj), ItKeeps (fun k => S0 k ∨ V.heap.size ≤ k ∧ k < hi) X (X.putObj (b + 1) o) := fun X o => ⟨by simp, fun k hk _ => World.putObj_heap_other (fun e => by
   rcases hk with h | h
   · have := hS0 k h; omega
   · rw [vsz] at h; omega)⟩
  have wid : ∀ {X Y : World}, ItKeeps (fun k => S0 k ∨ b + 2 ≤ k ∧ k < hi) X Y → ItKeeps (fun k => S0 k ∨ V.heap.size ≤ k ∧ k < hi) X Y := fun h => by rw [vsz]; exact h
  refine YieldAt.anyDepth' (m := n) rfl m ?_
  refine ⟨fn, _, assign, body, hy, roundIn_of_wpIn hfn ?_⟩
  refine hassign (b + 1) v A' _ ?_
  refine ⟨W, hbr, wpIn_mono hbod ?_⟩
  intro e a3 W3 hp
  cases e with
  | normal =>
    obtain ⟨hk, hks, hi3⟩ := hp
    obtain ⟨hr, hl4, hd4, o3, h3, h3'⟩ := fin none W3 hk
    exact ⟨_, _, hr, true, rfl, ⟨fun _ => ⟨hI.put _ hi3 (by omega) h3 h3', hl4, hd4⟩, fun h => (by cases h)⟩, (ItKeeps.trans (by rw [← hW]; exact put_keeps A' _) (wid hks)).trans (put_keeps W3 _)⟩
  | ret =>
    obtain ⟨hk, hks, hi3⟩ := hp
    obtain ⟨hr, hl4, hd4, o3, h3, h3'⟩ := fin (some .ret) W3 hk
    exact ⟨_, _, hr, false, rfl, ⟨fun h => (by cases h), fun _ => ⟨[M], List.prefix_refl _, by simp, hIx.put _ hi3 (by omega) h3 h3', hl4, hd4⟩⟩, (ItKeeps.trans (by rw [← hW]; exact put_keeps A' _) (wid hks)).trans (put_keeps W3 _)⟩
  | exit id => exact hp.elim
  | goto t => exact hp.elim
  | panic ch => exact hp.elim
  | outgrown => exact hp.elim
 refine hcall.mono ?_
 rintro e W2 ⟨⟨v, rfl⟩, hi, bb, _, _, hp⟩
 cases bb with
 | true =>
   obtain ⟨hi2, hl, hd⟩ := hp.1 rfl
   exact ⟨none, _, by have := run_endLoop (P := P) hl (by rw [hrc]; simp); rw [hrc] at this; exact this, hdone b hi _ (by omega) (hI.put _ hi2 (by omega) hl rfl) ((World.putObj_heap_other (by omega)).trans hd)⟩
 | false =>
   obtain ⟨q, hq, hne, hi2, hl, hd⟩ := hp.2 rfl
   exact ⟨some .ret, _, by have := run_endLoop (P := P) hl (by rw [hrc]; simp); rw [hrc] at this; exact this, hstop b hi q _ (by omega) hq hne (hIx.put _ hi2 (by omega) hl rfl) ((World.putObj_heap_other (by omega)).trans hd)⟩


def flipsK (W T : Int) (L : List Int) (k : Nat) : List Int := ((List.range k).filter fun j : Nat => mayB W T L (j : Int)).map fun j : Nat => (j : Int)
theorem flipsK_yes {W T : Int} {L : List Int} {k : Nat} (h : mayB W T L (k : Int) = true) : flipsK W T L (k + 1) = flipsK W T L k ++ [(k : Int)] := by
 unfold flipsK; rw [List.range_succ, List.filter_append, List.map_append]; simp [h]
theorem flipsK_no {W T : Int} {L : List Int} {k : Nat} (h : mayB W T L (k : Int) = false) : flipsK W T L (k + 1) = flipsK W T L k := by
 unfold flipsK; rw [List.range_succ, List.filter_append, List.map_append]; simp [h]
theorem flipsK_len (W T : Int) (L : List Int) (k : Nat) : (flipsK W T L k).length ≤ k := by
 unfold flipsK; rw [List.length_map]; exact Nat.le_trans (List.length_filter_le _ _) (by simp)
theorem flipsK_mem {W T : Int} {L : List Int} {k : Nat} {c : Int} : c ∈ flipsK W T L k ↔ ∃ j : Nat, c = j ∧ j < k ∧ mayB W T L c = true := by
 unfold flipsK
 simp only [List.mem_map, List.mem_filter, List.mem_range]
 constructor
 · rintro ⟨j, ⟨h1, h2⟩, rfl⟩; exact ⟨j, rfl, h1, h2⟩
 · rintro ⟨j, rfl, h1, h2⟩; exact ⟨j, ⟨h1, h2⟩, rfl⟩
theorem flipsK_pre {W T : Int} {L : List Int} {k n : Nat} (h : k ≤ n) : flipsK W T L k <+: flipsK W T L n := by
 induction n with
 | zero => (obtain rfl : k = 0 := by omega); exact List.prefix_refl _
 | succ n ih =>
   by_cases e : k = n + 1
   · rw [e]; exact List.prefix_refl _
   · refine (ih (by omega)).trans ?_
     cases hm : mayB W T L (n : Int)
     · rw [flipsK_no hm]; exact List.prefix_refl _
     · rw [flipsK_yes hm]; exact List.prefix_append _ _
def flipsL (W T : Int) (L : List Int) : List Int := flipsK W T L ((W + 1) * (T + 1)).toNat

structure FlAt (w : World) (rb lx : Nat) (W T : Int) (a : Option Addr) (n c : Nat) (la : Option Addr) (lc : Nat) (L : List Int) : Prop where
 reg : w.heap[rb]? = some (.cells #[.int .i64 W, .int .i64 T, .slice a n c] 25 (0, 0))
 lst : w.heap[lx]? = some (.cells #[.slice la n lc] 26 (0, 0))
 ints : IntsAt w la L
theorem FlAt.below {w w' : World} {rb lx : Nat} {W T : Int} {a : Option Addr} {n c : Nat} {la : Option Addr} {lc : Nat} {L : List Int} (h : FlAt w rb lx W T a n c la lc L) (hb : Below w.heap.size w w') : FlAt w' rb lx W T a n c la lc L :=
 ⟨heap_later h.reg hb, heap_later h.lst hb, h.ints.below hb⟩
theorem cell_kept {w w' : World} {p : Addr} {v : Value} (hk : w'.heap[p.block]? = w.heap[p.block]?) (h : w.cell? p = some v) : w'.cell? p = some v := by
 unfold World.cell? at h ⊢
 rw [hk]; exact h
theorem FlAt.keeps {S : Nat → Prop} {w w' : World} {rb lx : Nat} {W T : Int} {a : Option Addr} {n c : Nat} {la : Option Addr} {lc : Nat} {L : List Int} (h : FlAt w rb lx W T a n c la lc L) (hk : ItKeeps S w w') (h1 : S rb) (h2 : S lx) (h3 : ∀ b off, la = some ⟨b, off, none⟩ → S b) : FlAt w' rb lx W T a n c la lc L := by
 refine ⟨(hk.2 rb h1 (heap_lt h.reg)).trans h.reg, (hk.2 lx h2 (heap_lt h.lst)).trans h.lst, fun i hi => ?_⟩
 obtain ⟨b, off, e, hc⟩ := h.ints i hi
 exact ⟨b, off, e, cell_kept (hk.2 b (h3 b off e) (World.block_lt_of_cell? w _ hc)) hc⟩

set_option maxHeartbeats 4000000 in
theorem flips_seq (rb lx : Nat) (W T : Int) (a : Option Addr) (n c : Nat) (xs : List Bool) (la : Option Addr) (lc : Nat) (L : List Int) (S0 : Nat → Prop) (w : World)
 (hn : n = xs.length) (hn' : n ≤ 1048576) (hl : lok W T xs L = true) (hm : n = L.length) (hx : BoolsAt w a xs) (hat : FlAt w rb lx W T a n c la lc L) (hS1 : S0 rb) (hS2 : S0 lx) (hS3 : ∀ b off, la = some ⟨b, off, none⟩ → S0 b) :
 SeqN Tryz.prog 95 #[.pointer (some ⟨rb, 0, none⟩), .pointer (some ⟨lx, 0, none⟩)] S0 (flipsL W T L) (fun k => 0 ≤ k ∧ k < (W + 1) * (T + 1) ∧ mayB W T L k = true) w := by
 have hdd : ∀ k : Nat, (Fence.wide.depth.isSome = true → 1 ≤ k) := fun k h => by cases h
 intro d l J Jx W1 hb hJ hJx hJ0 hY
 obtain ⟨hr, _, _⟩ := lok_rv hl
 obtain ⟨v1, v2, v3, v4, v5, _⟩ := rv_true hr
 have hcb := corn_bd v1 v2 v3 v4
 have HCN : Hid (cornN W T xs = (W + 1) * (T + 1)) := by show _ = _; unfold cornN; rw [hr, if_pos rfl]
 obtain ⟨N, hN⟩ := Int.eq_ofNat_of_zero_le (show 0 ≤ (W + 1) * (T + 1) by omega)
 have hFL : flipsL W T L = flipsK W T L N := by unfold flipsL; rw [hN, Int.toNat_natCast]
 rw [hFL] at hY ⊢
 rw [hN] at HCN hcb hY
 have hN49 : N ≤ 49 := by omega
 have HN1 := Lib.hid hn; have HL := Lib.hid hl; have HM := Lib.hid hm; have HX := Lib.hid (hx.below hb); have HAT := Lib.hid (hat.below hb)
 have HJ := Lib.hid hJ; have HJX := Lib.hid hJx; have HJ0 := Lib.hid hJ0; have HY := Lib.hid hY
 have HS1 := Lib.hid hS1; have HS2 := Lib.hid hS2; have HS3 := Lib.hid hS3
 clear hn hl hm hx hat hJ hJx hJ0 hY hS1 hS2 hS3 hr v5 hN hFL hcb
 rename_i u1 u2 u3
 clear u1 u2 u3
 obtain ⟨c0, c1, c2⟩ := cells3 HAT.out.reg
 have hlx := cell1 HAT.out.lst
 refine callsIn_of_wp Tryz.func95 rfl trivial ?_ rfl
 simp only [Tryz.ntmps95, List.size_toArray, List.length_cons, List.length_nil, Nat.reduceAdd, Nat.reduceSub, Array.replicate_succ, Array.replicate_zero, List.push_toArray, List.append_toArray, List.nil_append, List.cons_append]
 gi_wp2_with ((try refine ⟨trivial, hdd _, ?_⟩); gi_at_call 91; refine (callsIn_wide.2 (iCornerMany_any _ _ _ _ _ xs _ HN1.out hn' HX.out)).mono ?_; rintro e w2 ⟨rfl, hb2⟩; rw [HCN.out]; have HB2 := Lib.hid hb2; clear hb2)
 clear c0 c1 c2 hlx
 have A2 := Lib.hid (HAT.out.below HB2.out)
 have J2 := Lib.hid (HJ0.out w2 HB2.out)
 have hs2 := HB2.out.size
 gi_loopw [4, 7] (fun _ i wr => ∃ k : Nat, k ≤ N ∧ i = .int .i64 k ∧ J w2.heap.size (flipsK W T L k) wr ∧ FlAt wr rb lx W T a n c la lc L ∧ w2.heap.size ≤ wr.heap.size) (fun _ i _ => N - (intOf i).toNat)
 case atStart => exact ⟨0, Nat.zero_le _, rfl, J2.out, A2.out, Nat.le_refl _⟩
 case round =>
  rename World => wo
  obtain ⟨k, hk, rfl, hjo, hao, hso⟩ := hrel
  have JO := Lib.hid hjo; have AO := Lib.hid hao
  clear hjo hao
  obtain ⟨c0, c1, c2⟩ := cells3 AO.out.reg
  have hlx := cell1 AO.out.lst
  by_cases hlt : k < N
  · have hke : (k : Int) < N := by omega
    have hc0 : -9223372036854775808 ≤ (k : Int) := by omega
    have hc1 : (k : Int) ≤ 9223372036854775807 := by omega
    cases hmay : mayB W T L (k : Int)
    · have HMY := Lib.hid hmay
      have HKN := Lib.hid (flipsK_no hmay)
      clear hmay
      gi_wp2_with ((try refine ⟨trivial, hdd _, ?_⟩); gi_at_call 73; refine (callsIn_wide.2 (twoAround_any _ _ _ _ _ xs _ _ L _ _ HN1.out HM.out HL.out hc0 hc1 AO.out.ints)).mono ?_; rintro e w3 ⟨rfl, hb3⟩; rw [HMY.out]; have HB3 := Lib.hid hb3; clear hb3)
      refine ⟨(fun f h => by cases h), ?_⟩
      gi_wp2
      go_roundw
      case rel => exact ⟨k + 1, by omega, by go_num, by rw [HKN.out]; exact HJ.out _ _ _ _ _ JO.out (grown_of_below HB3.out none) (fun r e => by cases e), AO.out.below HB3.out, Nat.le_trans hso HB3.out.size⟩
      case measure => simp [intOf]; omega
    · have HMY := Lib.hid hmay
      have HKY := Lib.hid (flipsK_yes hmay)
      have hlen : (flipsK W T L k).length < (flipsK W T L N).length := by
       have h1 := (flipsK_pre (W := W) (T := T) (L := L) (show k + 1 ≤ N by omega)).length_le
       rw [flipsK_yes hmay, List.length_append, List.length_singleton] at h1
       omega
      have HLEN := Lib.hid hlen
      have HPR := Lib.hid (flipsK_pre (W := W) (T := T) (L := L) (show k + 1 ≤ N by omega))
      clear hmay hlen
      gi_wp2_with (first
       | ((try refine ⟨trivial, hdd _, ?_⟩); gi_at_call 73; refine (callsIn_wide.2 (twoAround_any _ _ _ _ _ xs _ _ L _ _ HN1.out HM.out HL.out hc0 hc1 AO.out.ints)).mono ?_; rintro e w3 ⟨rfl, hb3⟩; rw [HMY.out]; have HB3 := Lib.hid hb3; clear hb3; obtain ⟨fn, tmps, assign, body, hy, hR⟩ := HY.out (d - 1) w2.heap.size (flipsK W T L k) (k : Int) wo w3 _ JO.out hs2 hso HB3.out rfl ⟨by omega, hke, HMY.out⟩ HLEN.out; have HR := Lib.hid hR; clear hR)
       | ((try refine ⟨hdd _, ?_⟩); refine HR.out.mono ?_; clear HR; rintro e w4 ⟨b, rfl, hp, hk4⟩; have HP := Lib.hid hp; have HK4 := Lib.hid hk4; clear hp hk4; cases b))
      · gi_wp2
        refine bodyPost_ret (results_none rfl _ _ _) rfl ?_
        exact ⟨⟨_, rfl⟩, w2.heap.size, false, hs2, Nat.le_trans hso (Nat.le_trans HB3.out.size HK4.out.1), ⟨(fun h => by cases h), fun _ => by
         obtain ⟨q, hq1, hq2, hq3⟩ := HP.out.2 rfl
         refine ⟨flipsK W T L k ++ q, ?_, fun h => hq2 (List.append_eq_nil_iff.1 h).2, by rw [List.nil_append]; exact hq3⟩
         refine List.IsPrefix.trans ?_ HPR.out
         rw [HKY.out]
         exact (List.prefix_append_right_inj _).2 hq1⟩⟩
      · gi_wp2
        go_roundw
        case rel => exact ⟨k + 1, by omega, by go_num, by rw [HKY.out]; exact HP.out.1 rfl, (AO.out.below HB3.out).keeps HK4.out (Or.inl HS1.out) (Or.inl HS2.out) (fun b off e => Or.inl (HS3.out b off e)), Nat.le_trans hso (Nat.le_trans HB3.out.size HK4.out.1)⟩
        case measure => simp [intOf]; omega
  · obtain rfl : k = N := by omega
    gi_wp2
    go_end0
    exact ⟨⟨_, rfl⟩, w2.heap.size, true, hs2, hso, ⟨fun _ => JO.out, fun h => by cases h⟩⟩

set_option maxHeartbeats 1000000 in
theorem flipsIn_any (W T : Int) (a : Option Addr) (n c : Nat) (la : Option Addr) (m lc : Nat) (w : World) :
 Calls Tryz.prog 46 #[.agg #[.int .i64 W, .int .i64 T, .slice a n c], .slice la m lc] w fun e w' => e = .returned (.func (.func 95) #[] #[.pointer (some ⟨w.heap.size, 0, none⟩), .pointer (some ⟨w.heap.size + 1, 0, none⟩)]) ∧
  w' = (w.alloc (.cells #[.int .i64 W, .int .i64 T, .slice a n c] 25)).alloc (.cells #[.slice la m lc] 26) := by
 go_enter Tryz.func46, Tryz.ntmps46
 go_wp2
 go_ret
 exact ⟨rfl, rfl⟩
end Go.Proofs.YtpcajacekmidbaaGreat

namespace Go.Proofs.YtpcajacekmidbaaGreat
open Go.RowKit Go.Shelf
set_option linter.unusedVariables false
set_option maxRecDepth 100000
set_option linter.unusedSimpArgs false
attribute [local go_sem] Oper.semAt_some

theorem own_nil_litF (w : World) {B : Nat} (hB : B ≤ w.heap.size) : OwnsI (w.alloc (.cells #[] 3 (0, 0))) B (.slice (some ⟨w.heap.size, 0, none⟩) 0 0) [] :=
 World.ownsRow_made w #[] 0 hB (Nat.zero_le _) rfl
theorem row_blockI {w : World} {B n size k : Nat} {e : TypeId} {v : Value} {xs : List Value} (h : w.ownsRow B e size v n xs) (hk : v.ownBlock = some k) : ∃ cs, w.heap[k]? = some (.cells cs e (0, 0)) := by
 rcases h.2 with ⟨e, _⟩ | ⟨g, cap, cur, e, _, hh, _⟩
 · rw [e] at hk; cases hk
 · rw [e] at hk
   obtain rfl : g = k := by simpa [Value.ownBlock] using hk
   exact ⟨cur, hh⟩
theorem OwnsI.putO {w : World} {B : Nat} {v : Value} {L : List Int} (h : OwnsI w B v L) {D : Nat} {o : Obj} (o' : Obj) (hd : w.heap[D]? = some o) (ho : o.isCells = false) : OwnsI (w.putObj D o') B v L := by
 refine World.ownsRow.kept h (grownBy_putObj' w D o') ?_
 cases hk : v.ownBlock with
 | none => exact Or.inl rfl
 | some k =>
   refine Or.inr (fun e => ?_)
   cases e
   obtain ⟨cs, hc⟩ := row_blockI h hk
   rw [hd] at hc; cases hc; cases ho
theorem flips_at (W T : Int) (a : Option Addr) (n c : Nat) (la : Option Addr) (m lc : Nat) (w : World) :
 Calls Tryz.prog 46 #[.agg #[.int .i64 W, .int .i64 T, .slice a n c], .slice la m lc] w fun e w' => e = .returned (.func (.func 95) #[] #[.pointer (some ⟨w.heap.size, 0, none⟩), .pointer (some ⟨w.heap.size + 1, 0, none⟩)]) ∧
  w'.heap[w.heap.size]? = some (.cells #[.int .i64 W, .int .i64 T, .slice a n c] 25 (0, 0)) ∧ w'.heap[w.heap.size + 1]? = some (.cells #[.slice la m lc] 26 (0, 0)) ∧ Below w.heap.size w w' := by
 refine (flipsIn_any W T a n c la m lc w).mono ?_
 rintro e w' ⟨rfl, rfl⟩
 exact ⟨rfl, heap_later (heap_new w _) (below1 _ _), heap_new2 w _ _, below2 _ _ _⟩

def flipsF (W T : Int) (xs : List Bool) (L : List Int) : List Int := if lok W T xs L then flipsL W T L else []
theorem flipsL_len {W T : Int} (L : List Int) (h1 : 1 ≤ W) (h2 : W ≤ 6) (h3 : 1 ≤ T) (h4 : T ≤ 6) : (flipsL W T L).length ≤ 49 := by
 unfold flipsL
 have := flipsK_len W T L ((W + 1) * (T + 1)).toNat
 have := corn_bd h1 h2 h3 h4
 omega
theorem flipsF_len (W T : Int) (xs : List Bool) (L : List Int) : (flipsF W T xs L).length ≤ 49 := by
 unfold flipsF
 cases h : lok W T xs L
 · simp
 · obtain ⟨hr, _, _⟩ := lok_rv h
   obtain ⟨v1, v2, v3, v4, v5, _⟩ := rv_true hr
   exact flipsL_len L v1 v2 v3 v4

def flipsG (W T : Int) (xs : List Bool) (L : List Int) (k : Nat) : List Int := if lok W T xs L then flipsK W T L k else []
theorem flipsG_yes {W T : Int} {xs : List Bool} {L : List Int} {k : Nat} (h : fmayB W T xs L (k : Int) = true) : flipsG W T xs L (k + 1) = flipsG W T xs L k ++ [(k : Int)] := by
 unfold fmayB at h
 rw [Bool.and_eq_true] at h
 unfold flipsG; rw [h.1, if_pos rfl, if_pos rfl]; exact flipsK_yes h.2
theorem flipsG_no {W T : Int} {xs : List Bool} {L : List Int} {k : Nat} (h : fmayB W T xs L (k : Int) = false) : flipsG W T xs L (k + 1) = flipsG W T xs L k := by
 unfold fmayB at h
 unfold flipsG
 cases hl : lok W T xs L
 · rfl
 · rw [hl] at h; rw [if_pos rfl, if_pos rfl]; exact flipsK_no (by simpa using h)
theorem flipsG_len (W T : Int) (xs : List Bool) (L : List Int) (k : Nat) : (flipsG W T xs L k).length ≤ k := by
 unfold flipsG; split
 · exact flipsK_len W T L k
 · simp
theorem flipsG_zero (W T : Int) (xs : List Bool) (L : List Int) : flipsG W T xs L 0 = [] := by unfold flipsG; split <;> rfl
theorem flipsG_end {W T : Int} {xs : List Bool} {L : List Int} {N : Nat} (h : cornN W T xs = N) : flipsG W T xs L N = flipsF W T xs L := by
 unfold flipsG flipsF flipsL
 cases hl : lok W T xs L
 · rfl
 · obtain ⟨hr, _, _⟩ := lok_rv hl
   unfold cornN at h
   rw [hr, if_pos rfl] at h
   rw [h]; simp
theorem flipsF_off {W T : Int} {xs : List Bool} {L : List Int} (h : rv W T xs = false) : flipsF W T xs L = [] := by
 unfold flipsF lok; rw [h]; rfl

set_option maxHeartbeats 4000000 in
theorem sFlipsOf_ret (W T : Int) (a : Option Addr) (n cap : Nat) (xs : List Bool) (la : Option Addr) (m lcap : Nat) (L : List Int) (w : World) (hn : n = xs.length) (hn' : n ≤ 1048576) (hm : m = L.length) (hm' : m ≤ 1048576) (ha : BoolsAt w a xs) (hl : IntsAt w la L) :
 Calls Tryz.prog 29 #[.agg #[.int .i64 W, .int .i64 T, .slice a n cap], .slice la m lcap] w (RetL w (flipsF W T xs L).length (flipsF W T xs L)) := by
 have HN := Lib.hid hn; clear hn
 have HM := Lib.hid hm; clear hm
 have HA := Lib.hid ha; clear ha
 have HL := Lib.hid hl; clear hl
 obtain ⟨wA, hwA⟩ : ∃ wA, wA = (w.alloc (.cells #[.int .i64 W, .int .i64 T, .slice a n cap] 25)).alloc (.cells #[] 3 (0, 0)) := ⟨_, rfl⟩
 have pA : wA.heap[w.heap.size]? = some (.cells #[.int .i64 W, .int .i64 T, .slice a n cap] 25 (0, 0)) := by rw [hwA]; exact heap_later (heap_new w _) (below1 _ _)
 have bA : Below w.heap.size w wA := by rw [hwA]; exact below2 _ _ _
 have oA : OwnsI wA (w.heap.size + 1) (.slice (some ⟨w.heap.size + 1, 0, none⟩) 0 0) [] := by
  rw [hwA]; have := own_nil_litF (w.alloc (.cells #[.int .i64 W, .int .i64 T, .slice a n cap] 25)) (B := w.heap.size + 1) (by simp); simpa using this
 have HOA := Lib.hid oA; clear oA
 cases h : rv W T xs
 · have HC : Hid (cornN W T xs = -1) := by show _ = _; unfold cornN; rw [h]; rfl
   have HE := Lib.hid (flipsF_off (L := L) h)
   clear h
   obtain ⟨c0, c1, c2⟩ := cells3 pA
   rw [HE.out]
   go_enter Tryz.func29, Tryz.ntmps29
   go_wp2_with fail
   rw [← hwA]
   clear hwA
   refine wp_loop_rounds 1 ?_
   rw [rounds_succ]
   go_wp2_with fail
   refine (sCornerMany_any _ _ _ _ _ xs _ HN.out hn' (HA.out.below bA)).mono ?_; rintro e w1 ⟨rfl, hb1⟩
   rw [HC.out]
   go_wp2
   go_ret
   exact ⟨some ⟨w.heap.size + 1, 0, none⟩, 0, rfl, (HOA.out.below hb1).lower (by omega), below_seq bA hb1⟩
 · obtain ⟨v1, v2, v3, v4, v5, _⟩ := rv_true h
   have hcb := corn_bd v1 v2 v3 v4
   have hC : cornN W T xs = (W + 1) * (T + 1) := by unfold cornN; rw [h, if_pos rfl]
   obtain ⟨N, hNN⟩ := Int.eq_ofNat_of_zero_le (show 0 ≤ (W + 1) * (T + 1) by omega)
   rw [hNN] at hcb hC
   have HEND := Lib.hid (flipsG_end (L := L) hC)
   have HC := Lib.hid hC
   have hN49 : N ≤ 49 := by omega
   clear hC hNN hcb h v5
   rw [← HEND.out]
   obtain ⟨i0, hi, hz0, hz1, hz2⟩ := info_parts infoInt
   go_enter Tryz.func29, Tryz.ntmps29
   go_wp2_with fail
   rw [← hwA]
   clear hwA
   go_loopw [5, 6] (fun v i wr => ∃ k : Nat, k ≤ N ∧ i = .int .i64 k ∧ OwnsI wr (w.heap.size + 1) v (flipsG W T xs L k) ∧ wr.heap[w.heap.size]? = some (.cells #[.int .i64 W, .int .i64 T, .slice a n cap] 25 (0, 0)) ∧ Below w.heap.size w wr) (fun _ i _ => N - (intOf i).toNat)
   case atStart => exact ⟨0, Nat.zero_le _, rfl, by rw [flipsG_zero]; exact HOA.out, pA, bA⟩
   case round =>
    rename World => wo
    obtain ⟨k, hk, rfl, ho, pr, hbel⟩ := hrel
    have HO := Lib.hid ho; clear ho
    have BEL := Lib.hid hbel; clear hbel
    obtain ⟨c0, c1, c2⟩ := cells3 pr
    have l1 := heap_lt pr
    go_wp2_with fail
    refine (sCornerMany_any _ _ _ _ _ xs _ HN.out hn' (HA.out.below BEL.out)).mono ?_; rintro e w1 ⟨rfl, hb1⟩
    rw [HC.out]
    have p1 := heap_later pr hb1
    have B1 := Lib.hid (below_seq BEL.out hb1)
    have O1 := Lib.hid (HO.out.below hb1)
    clear c0 c1 c2 hb1 pr l1
    by_cases hlt : k < N
    · have hfl := flipsG_len W T xs L k
      have e1 : (k : Int) < N := by omega
      obtain ⟨c0, c1, c2⟩ := cells3 p1
      have l1 := heap_lt p1
      go_wp2_with fail
      refine (sFlipMay_any _ _ _ _ _ xs _ _ _ L _ _ HN.out hn' HM.out hm' (HA.out.below B1.out) (HL.out.below B1.out)).mono ?_; rintro e w2 ⟨rfl, hb2⟩
      have p2 := heap_later p1 hb2
      have B2 := Lib.hid (below_seq B1.out hb2)
      have O2 := Lib.hid (O1.out.below hb2)
      clear c0 c1 c2 hb2 p1 l1
      obtain ⟨c0, c1, c2⟩ := cells3 p2
      have l2 := heap_lt p2
      cases hmay : fmayB W T xs L (k : Int)
      · have HNX := Lib.hid (flipsG_no hmay)
        clear hmay
        go_wp2
        go_roundw
        case rel => exact ⟨k + 1, by omega, by go_num, by rw [HNX.out]; exact O2.out, p2, B2.out⟩
        case measure => simp [intOf]; omega
      · have HNX := Lib.hid (flipsG_yes hmay)
        clear hmay
        go_wp2_with (at_builtin; refine wpList_append_own _ rfl _ _ 26 rfl (w.heap.size + 1) 3 i0 (.int .i64 0) 1 8 Tryz.underlying26 hi hz0 hz1 hz2 rfl (by decide) _ (flipsG W T xs L k).length ((flipsG W T xs L k).map (Value.int .i64)) rfl (World.ownsRow.alloc O2.out _) ⟨w2.heap.size, 0, none⟩ 1 1 [.int .i64 k] rfl rfl (new_int _ _) (one_int _) (by unfold maxLen; omega) (by omega) (by simp; omega) ?_; intro v' w8 hown' hgrow _; have p8 := heap_grown (heap_later p2 (below1 _ _)) hgrow (O2.out.ownBlock (by omega)); have O8 := Lib.hid (OwnsI.ofRow (xs := flipsG W T xs L (k + 1)) hown' (by rw [HNX.out]; simp) (by rw [HNX.out]; simp)); have B8 := Lib.hid (below_grown (below_seq B2.out (below1 _ _)) hgrow (Nat.le_refl _) (O2.out.ownAt (by omega))); clear hown' hgrow)
        go_roundw
        case rel => exact ⟨k + 1, by omega, by go_num, O8.out, p8, B8.out⟩
        case measure => simp [intOf]; omega
    · obtain rfl : k = N := by omega
      obtain ⟨a9, cap9, hv⟩ := O1.out.form2
      subst hv
      go_wp2
      go_ret
      exact ⟨a9, cap9, rfl, O1.out.lower (by omega), B1.out⟩

end Go.Proofs.YtpcajacekmidbaaGreat
