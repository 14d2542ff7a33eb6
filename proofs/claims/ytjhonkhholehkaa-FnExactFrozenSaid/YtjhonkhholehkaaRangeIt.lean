/- A law for 'for x := range seq' where the iterator writes into blocks of its own between the rounds. Merged of: RangeIt, Compl. -/
import Derived.Test.YtjhonkhholehkaaIter
import Derived.RangeFuncFrom
import Derived.RangeFuncBox
import Derived.Laws.EntriesVeiled
namespace Go.Proofs.Ytjhonkhholehkaa
open Go.RowKit Go.Shelf
set_option linter.unusedVariables false
set_option maxRecDepth 100000
set_option linter.unusedSimpArgs false

/-- An invariant that bears new blocks, and turns of the blocks from lo to hi. -/
def ItInv (lo : Nat) (J : Nat → List (List Int) → World → Prop) : Prop :=
  ∀ hi pre A D row, J hi pre A → A.grownBy D row → (∀ r, row = some r → lo ≤ r ∧ r < hi) → J hi pre D

/-- What an iterator over lists does: all of 'all' come, in order, as lists of their own; its own blocks lie from where its call began up to hi; the blocks of S0 it only reads. -/
def SeqIt (P : Program) (g : Nat) (lb : Array Value) (S0 : Nat → Prop) (all : List (List Int)) (ok : List Int → Prop) (w0 : World) : Prop :=
  ∀ (d l : Nat) (J Jx : Nat → List (List Int) → World → Prop) (W1 : World), Below w0.heap.size w0 W1 → ItInv W1.heap.size J → ItInv W1.heap.size Jx →
    (∀ W2, Below W1.heap.size W1 W2 → J W2.heap.size [] W2) →
    (∀ m hi pre M A A' v, J hi pre A → W1.heap.size ≤ hi → hi ≤ A.heap.size → Below A.heap.size A A' → OwnsI A' A.heap.size v M → ok M → pre.length < all.length → YieldAt Fence.wide m P l #[v] A' fun e W' =>
      ∃ b : Bool, e = .returned (.bool b) ∧ ItPost (J hi) (Jx hi) pre [M] b W' ∧ ItKeeps (fun k => S0 k ∨ W1.heap.size ≤ k ∧ k < hi) A' W') →
    CallsIn Fence.wide d P g (#[.func (.yield l) #[] #[]] ++ lb) W1 fun e W' => (∃ v, e = .returned v) ∧ ∃ hi b, W1.heap.size ≤ hi ∧ hi ≤ W'.heap.size ∧ ItPost (J hi) (Jx hi) [] all b W'

theorem SeqIt.later {P : Program} {g : Nat} {lb : Array Value} {S0 : Nat → Prop} {all : List (List Int)} {ok : List Int → Prop} {w w' : World} (h : SeqIt P g lb S0 all ok w) (hb : Below w.heap.size w w') : SeqIt P g lb S0 all ok w' :=
  fun d l J Jx W1 h1 => h d l J Jx W1 (below_seq hb h1)

/-- How a round's body may end. -/
def ItEnd (S : Nat → Prop) (Ix : List (List Int) → World → Prop) (I : List (List Int) → World → Prop) (pre : List (List Int)) (W : World) : Exit → Act → World → Prop
  | .normal, _, W' => KeepsOthers W W' ∧ ItKeeps S W W' ∧ I pre W'
  | .ret, _, W' => KeepsOthers W W' ∧ ItKeeps S W W' ∧ Ix pre W'
  | _, _, _ => False

/-- The caller's invariant bears what the statement and the iterator do: lo is where the iterator's blocks begin, B where the statement's begin. -/
def CallInv (B lo : Nat) (I : Nat → List (List Int) → World → Prop) : Prop :=
  ∀ hi pre A D row, I hi pre A → A.grownBy D row → (∀ r, row = some r → (lo ≤ r ∧ r < hi) ∨ (B ≤ r ∧ ∃ o : Obj, A.heap[r]? = some o ∧ o.isCells = false)) → I hi pre D
theorem CallInv.put {B lo : Nat} {I : Nat → List (List Int) → World → Prop} (h : CallInv B lo I) {hi : Nat} {pre : List (List Int)} {A : World} {l : Nat} {o : Obj} (o' : Obj) (hi' : I hi pre A) (hB : B ≤ l) (hl : A.heap[l]? = some o) (ho : o.isCells = false) : I hi pre (A.putObj l o') :=
  h hi pre A _ (some l) hi' (grownBy_putObj' A l o') (fun r e => by cases e; exact Or.inr ⟨hB, o, hl, ho⟩)

/-- A block that is no cells lies on where the blocks from lo on, cells all of them, are turned. -/
theorem keeps_low {A D : World} {row : Option Nat} {lo k : Nat} {o : Obj} (hg : A.grownBy D row) (hr : ∀ r, row = some r → lo ≤ r) (hk : k < lo) (h : A.heap[k]? = some o) : D.heap[k]? = some o :=
  (hg.block k (heap_lt h) (fun e => by have := hr k e.symm; omega)).trans h

theorem wp_range_it {P : Program} {n gf : Nat} {lb : Array Value} {g : Operand} {p : Tmp} {assign body : Code} {Q : Exit → Act → World → Prop} {a : Act} {w w0 : World} {S0 : Nat → Prop} {all : List (List Int)} {ok : List Int → Prop}
    (hg : a.eval g = .func (.func gf) #[] lb) (eg : ∀ args w, (callFunc gf args).run P w = .ok (.enter gf args) w) (hseq : SeqIt P gf lb S0 all ok w0) (hb0 : Below w0.heap.size w0 w) (hS0 : ∀ k, S0 k → k < w.heap.size)
    (I Ix : Nat → List (List Int) → World → Prop) (hI : CallInv w.heap.size (w.heap.size + 2) I) (hIx : CallInv w.heap.size (w.heap.size + 2) Ix)
    (h0 : ∀ W2, Below w.heap.size w W2 → w.heap.size + 2 ≤ W2.heap.size → I W2.heap.size [] W2) (a₁ : Value → Act)
    (hassign : ∀ (l : Nat) (v : Value) (W : World) (K : Act → World → Prop), K (a₁ v) W → assign.wpIn (Fence.wide.inRound l) n P (Exit.then K (fun _ _ _ => False)) { tmps := a.tmps.setIfInBounds p v, defers := [] } W)
    (hbody : ∀ (l hi : Nat) (pre : List (List Int)) (M : List Int) (v : Value) (A W : World), I hi pre A → w.heap.size + 2 ≤ hi → hi ≤ A.heap.size → A.grownBy W (some l) → w.heap.size ≤ l → (∃ o : Obj, A.heap[l]? = some o ∧ o.isCells = false) → OwnsI W A.heap.size v M → ok M → pre.length < all.length →
      body.wpIn (Fence.wide.inRound l) n P (ItEnd (fun k => S0 k ∨ w.heap.size + 2 ≤ k ∧ k < hi) (Ix hi) (I hi) (pre ++ [M]) W) (a₁ v) W)
    (hdone : ∀ (D hi : Nat) (W : World), w.heap.size ≤ D → I hi all W → W.heap[D]? = some (.deferred (some [])) → Q .normal { a with defers := { target := .collected D, args := #[] } :: a.defers } W)
    (hstop : ∀ (D hi : Nat) (pre : List (List Int)) (W : World), w.heap.size ≤ D → pre <+: all → pre ≠ [] → Ix hi pre W → W.heap[D]? = some (.deferred (some [])) → Code.ret.wpIn Fence.wide n P Q { a with defers := { target := .collected D, args := #[] } :: a.defers } W) :
    (Code.rangeFunc g #[p] assign body).wpIn Fence.wide n P Q a w := by
  refine wpIn_rangeFunc ?_
  intro fn hfn
  obtain ⟨rc, hrc⟩ : ∃ rc : LoopState → Option Code → Loop, rc = fun st pe => { state := st, pending := pe, fn, tmps := a.tmps, params := #[p], assign, body, defers := w.heap.size } := ⟨_, rfl⟩
  obtain ⟨b, hbw⟩ : ∃ b, b = w.heap.size := ⟨_, rfl⟩
  obtain ⟨V, hV⟩ : ∃ V, (w.alloc (.deferred (some []))).alloc (.loop (rc .ready none)) = V := ⟨_, rfl⟩
  have vsz : V.heap.size = b + 2 := by rw [← hV]; simp [hbw]
  have vbel : Below w.heap.size w V := by rw [← hV]; exact below2 w _ _
  have vd : V.heap[b]? = some (.deferred (some [])) := by rw [← hV, hbw]; exact heap_later (heap_new w _) (below1 _ _)
  have vl : V.heap[b + 1]? = some (.loop (rc .ready none)) := by rw [← hV, hbw]; exact heap_new2 w _ _
  refine ⟨b + 1, [{ target := .collected b, args := #[] }], V, { target := .fn (.func gf) lb, args := #[.func (.yield (b + 1)) #[] #[]] }, V, gf, #[.func (.yield (b + 1)) #[] #[]] ++ lb, V, ?_, ?_, fun _ _ => trivial, ?_, fun h => (by cases h), ?_⟩
  · rw [← hV, hrc, hbw]; exact run_enterLoop_outer _ _ _ _ _
  · simp only [resolve, hg]
    simp [go_sem]
  · simp [invoke, go_sem, eg]
  rw [← hbw] at hI hIx hS0 h0 hbody hdone hstop
  have lo : ∀ {row : Option Nat} {hi : Nat}, (∀ r, row = some r → V.heap.size ≤ r ∧ r < hi) → (∀ r, row = some r → b + 2 ≤ r ∧ r < hi) := fun h r e => by rw [← vsz]; exact h r e
  -- what holds between two rounds, with the two facts on the statement's own blocks
  have hcall := hseq (n - 1) (b + 1)
    (fun hi pre W => I hi pre W ∧ W.heap[b + 1]? = some (.loop (rc .ready none)) ∧ W.heap[b]? = some (.deferred (some [])))
    (fun hi pre W => Ix hi pre W ∧ W.heap[b + 1]? = some (.loop (rc .done (some .ret))) ∧ W.heap[b]? = some (.deferred (some [])))
    V (below_seq hb0 vbel)
    (fun hi pre A D row h hgr hr => ⟨hI hi pre A D row h.1 hgr (fun r e => Or.inl (lo hr r e)), keeps_low hgr (fun r e => (lo hr r e).1) (by omega) h.2.1, keeps_low hgr (fun r e => (lo hr r e).1) (by omega) h.2.2⟩)
    (fun hi pre A D row h hgr hr => ⟨hIx hi pre A D row h.1 hgr (fun r e => Or.inl (lo hr r e)), keeps_low hgr (fun r e => (lo hr r e).1) (by omega) h.2.1, keeps_low hgr (fun r e => (lo hr r e).1) (by omega) h.2.2⟩)
    (fun W2 h2 => ⟨h0 W2 (below_seq vbel h2 |>.mono (by rw [hbw]; exact Nat.le_refl _)) (by rw [← vsz]; exact h2.size), heap_later vl h2, heap_later vd h2⟩)
    ?rounds
  case rounds =>
    intro m hi pre M A A' v hJ hlo hhi hbel hown hok hpl
    obtain ⟨hi1, hl, hd⟩ := hJ
    rw [vsz] at hlo
    have hl' := heap_later hl hbel
    have hd' := heap_later hd hbel
    have hy : (Instr.yield (b + 1) #[v]).run P A' = .ok (.round (b + 1) fn (a.tmps.setIfInBounds p v) assign body) A' := by
      have h := run_yield (P := P) (args := #[v]) hl' (by rw [hrc]; rfl)
      rw [hrc] at h
      simpa using h
    obtain ⟨W, hW⟩ : ∃ W, A'.putObj (b + 1) (.loop { rc .ready none with state := .busy }) = W := ⟨_, rfl⟩
    have hbr := run_beginRound (P := P) hl' (by rw [hrc])
    rw [hW] at hbr
    have hgw : A.grownBy W (some (b + 1)) := by rw [← hW]; exact grown_seq (grown_of_below hbel _) (grownBy_putObj' A' (b + 1) _)
    have hw1 : W.heap[b + 1]? = some (.loop { rc .ready none with state := .busy }) := by rw [← hW]; exact World.putObj_heap_same (heap_lt hl')
    have hw0 : W.heap[b]? = some (.deferred (some [])) := by rw [← hW]; exact (World.putObj_heap_other (by omega)).trans hd'
    have how : OwnsI W A.heap.size v M := World.ownsRow.kept hown (by rw [← hW]; exact grownBy_putObj' A' (b + 1) _) (Or.inr (fun e => by
      have h1 := (World.ownsRow.lt hown (b + 1) e).1
      have h2 := heap_lt hl
      omega))
    have hbod := hbody (b + 1) hi pre M v A W hi1 hlo hhi hgw (by omega) ⟨_, hl, rfl⟩ how hok hpl
    have fin : ∀ (jump : Option Code) (W3 : World), KeepsOthers W W3 →
        (Instr.endRound (b + 1) jump).run P W3 = .ok (.bool jump.isNone) (W3.putObj (b + 1) (.loop (rc (if jump.isNone then .ready else .done) jump))) ∧
        (W3.putObj (b + 1) (.loop (rc (if jump.isNone then .ready else .done) jump))).heap[b + 1]? = some (.loop (rc (if jump.isNone then .ready else .done) jump)) ∧
        (W3.putObj (b + 1) (.loop (rc (if jump.isNone then .ready else .done) jump))).heap[b]? = some (.deferred (some [])) ∧ (∃ o : Obj, W3.heap[b + 1]? = some o ∧ o.isCells = false) := fun jump W3 hk => by
      have h3 := hk.same _ _ hw1 rfl
      have hr := run_endRound (P := P) jump h3
      refine ⟨by rw [hrc] at hr ⊢; exact hr, World.putObj_heap_same (heap_lt h3), (World.putObj_heap_other (by omega)).trans (hk.same _ _ hw0 rfl), _, h3, rfl⟩
    -- of the iterator's blocks, and of those that it reads, the statement's own two are none
    have put_keeps : ∀ (X : World) (o : Obj), ItKeeps (fun k => S0 k ∨ V.heap.size ≤ k ∧ k < hi) X (X.putObj (b + 1) o) := fun X o => ⟨by simp, fun k hk _ => World.putObj_heap_other (fun e => by
      rcases hk with h | h
      · have := hS0 k h; omega
      · rw [vsz] at h; omega)⟩
    have wid : ∀ {X Y : World}, ItKeeps (fun k => S0 k ∨ b + 2 ≤ k ∧ k < hi) X Y → ItKeeps (fun k => S0 k ∨ V.heap.size ≤ k ∧ k < hi) X Y := fun h => by rw [vsz]; exact h
    refine YieldAt.anyDepth' (m := n) rfl m ?_
    refine ⟨fn, _, assign, body, hy, roundIn_of_wpIn hfn ?_⟩
    refine hassign (b + 1) v A' _ ?_
    refine ⟨W, hbr, wpIn_mono hbod ?_⟩
    intro e a3 W3 hp
    cases e with
    | normal =>
      obtain ⟨hk, hks, hi3⟩ := hp
      obtain ⟨hr, hl4, hd4, o3, h3, h3'⟩ := fin none W3 hk
      exact ⟨_, _, hr, true, rfl, ⟨fun _ => ⟨hI.put _ hi3 (by omega) h3 h3', hl4, hd4⟩, fun h => (by cases h)⟩, (ItKeeps.trans (by rw [← hW]; exact put_keeps A' _) (wid hks)).trans (put_keeps W3 _)⟩
    | ret =>
      obtain ⟨hk, hks, hi3⟩ := hp
      obtain ⟨hr, hl4, hd4, o3, h3, h3'⟩ := fin (some .ret) W3 hk
      exact ⟨_, _, hr, false, rfl, ⟨fun h => (by cases h), fun _ => ⟨[M], List.prefix_refl _, by simp, hIx.put _ hi3 (by omega) h3 h3', hl4, hd4⟩⟩, (ItKeeps.trans (by rw [← hW]; exact put_keeps A' _) (wid hks)).trans (put_keeps W3 _)⟩
    | exit id => exact hp.elim
    | goto t => exact hp.elim
    | panic ch => exact hp.elim
    | outgrown => exact hp.elim
  refine hcall.mono ?_
  rintro e W2 ⟨⟨v, rfl⟩, hi, bb, _, _, hp⟩
  cases bb with
  | true =>
    obtain ⟨hi2, hl, hd⟩ := hp.1 rfl
    exact ⟨none, _, by have := run_endLoop (P := P) hl (by rw [hrc]; simp); rw [hrc] at this; exact this, hdone b hi _ (by omega) (hI.put _ hi2 (by omega) hl rfl) ((World.putObj_heap_other (by omega)).trans hd)⟩
  | false =>
    obtain ⟨q, hq, hne, hi2, hl, hd⟩ := hp.2 rfl
    exact ⟨some .ret, _, by have := run_endLoop (P := P) hl (by rw [hrc]; simp); rw [hrc] at this; exact this, hstop b hi q _ (by omega) hq hne (hIx.put _ hi2 (by omega) hl rfl) ((World.putObj_heap_other (by omega)).trans hd)⟩

end Go.Proofs.Ytjhonkhholehkaa

namespace Go.Proofs.Ytjhonkhholehkaa
open Go.RowKit Go.Shelf
set_option linter.unusedVariables false
set_option maxRecDepth 100000
set_option linter.unusedSimpArgs false
attribute [local go_sem] Oper.semAt_some

/-- What comes is a tiling, of as many entries as the field has cells. -/
def TilIs (W T : Int) (xs : List Bool) (n : Nat) (M : List Int) : Prop := M.length = n ∧ tok W T xs M = true

set_option maxHeartbeats 4000000 in
theorem compl1_seq (rb lbx : Nat) (W T : Int) (a : Option Addr) (n c : Nat) (xs : List Bool) (la : Option Addr) (lc : Nat) (L : List Int) (f : Nat) (S0 : Nat → Prop) (w : World)
    (hn : n = xs.length) (hn' : n ≤ 1048576) (hl : lok W T xs L = true) (hf : freeN xs L < f) (hreg : w.heap[rb]? = some (.cells #[.int .i64 W, .int .i64 T, .slice a n c] 28 (0, 0)))
    (hlb : w.heap[lbx]? = some (.cells #[.slice la n lc] 25 (0, 0))) (hx : BoolsAt w a xs) (hL : IntsAt w la L) (hS : S0 rb) (hSa : ∀ b off, a = some ⟨b, off, none⟩ → S0 b) :
    SeqIt Try.prog 69 #[.pointer (some ⟨lbx, 0, none⟩), .pointer (some ⟨rb, 0, none⟩)] S0 (allL W T xs f L) (TilIs W T xs n) w := by
  have hdd : ∀ k : Nat, (Fence.wide.depth.isSome = true → 1 ≤ k) := fun k h => by cases h
  intro d l J Jx W1 hb hJ hJx hJ0 hY
  obtain ⟨hr, hlen, _⟩ := lok_rv hl
  obtain ⟨v1, v2, v3, v4, v5, _⟩ := rv_true hr
  have hn0 : 0 < n := rv_pos v1 v3 (by rw [hn]; exact v5)
  have HLen : Hid (n = L.length) := by show n = _; rw [hn, hlen]
  have hreg1 := heap_later hreg hb
  have hlb1 := heap_later hlb hb
  have hx1 := hx.below hb
  have hL1 := hL.below hb
  have hab : ∀ b off, a = some ⟨b, off, none⟩ → b < W1.heap.size := by
    intro b off e
    obtain ⟨b', off', e', hc⟩ := hx1 0 (by omega)
    rw [e'] at e
    cases e
    exact World.block_lt_of_cell? W1 _ hc
  clear hreg hlb hx hL hb
  have HN := Lib.hid hn; clear hn
  have HR := Lib.hid hr; clear hr
  have HL := Lib.hid hl; clear hl
  have HF := Lib.hid hf; clear hf
  have HJ := Lib.hid hJ; clear hJ
  have HJX := Lib.hid hJx; clear hJx
  have HJ0 := Lib.hid hJ0; clear hJ0
  have HY := Lib.hid hY; clear hY
  have HSA := Lib.hid hSa; clear hSa
  have HS0 := Lib.hid hS; clear hS
  have HAB := Lib.hid hab; clear hab
  have HX := Lib.hid hx1; clear hx1
  have HLI := Lib.hid hL1; clear hL1
  have HV5 := Lib.hid v5; clear v5
  have HREG := Lib.hid hreg1; clear hreg1
  clear hlen
  have cl := cell1 hlb1
  have llb := heap_lt hlb1
  have lrb := heap_lt HREG.out
  have HLB := Lib.hid hlb1; clear hlb1
  refine callsIn_of_wp Try.func69 rfl trivial ?_ rfl
  simp only [Try.ntmps69, List.size_toArray, List.length_cons, List.length_nil, Nat.reduceAdd, Nat.reduceSub, Array.replicate_succ, Array.replicate_zero, List.push_toArray, List.append_toArray, List.nil_append, List.cons_append]
  gi_wp2_with ((try refine ⟨trivial, hdd _, ?_⟩); gi_at_call 38; refine (callsIn_wide.2 (clone_own _ _ _ L _ HLen.out hn0 hn' (HLI.out.one _))).mono ?_; rintro e w2 ⟨g2, cap2, rfl, ho2, hb2⟩; have HO2 := Lib.hid ho2; clear ho2; have HB2 := Lib.hid hb2; clear hb2)
  obtain ⟨W3, hW3⟩ : ∃ W3, (w2.alloc (.cells #[.slice (some ⟨g2, 0, none⟩) n cap2] 25)).alloc (.cells #[.func (.func 70) #[] #[.pointer (some ⟨rb, 0, none⟩), .pointer (some ⟨w2.heap.size, 0, none⟩), .pointer (some ⟨W1.heap.size, 0, none⟩), .pointer (some ⟨w2.heap.size + 1, 0, none⟩)]] 70) = W3 := ⟨_, rfl⟩
  rw [hW3]
  have s3 : W3.heap.size = w2.heap.size + 2 := by rw [← hW3]; simp
  have b2 : Below W1.heap.size W1 w2 := below_seq (below1 _ _) HB2.out
  have b3 : Below W1.heap.size W1 W3 := by rw [← hW3]; exact below_seq b2 (below2 _ _ _)
  have s2 : W1.heap.size + 1 ≤ w2.heap.size := by have := HB2.out.size; simpa using this
  have hg := OwnsI.lt HO2.out
  simp only [World.size_alloc] at hg
  have hit : ItAt W3 l rb w2.heap.size W1.heap.size (w2.heap.size + 1) g2 cap2 (W1.heap.size + 1) W T a n c xs L := by
    refine ⟨heap_later HREG.out b3, HX.out.below b3, ?_, ?_, ?_, ?_⟩
    · rw [← hW3]; exact heap_later (heap_new w2 _) (below1 _ _)
    · rw [← hW3]; exact heap_later (heap_later (heap_new W1 _) HB2.out) (below2 _ _ _)
    · rw [← hW3]; exact heap_new2 w2 _ _
    · rw [← hW3]; exact (show OwnsI w2 (W1.heap.size + 1) _ L by have := HO2.out; simpa using this).below (below2 _ _ _)
  have HIT := Lib.hid hit; clear hit
  have HJ1 : Hid (J W3.heap.size [] W3) := HJ0.out W3 b3
  have hS : ItS (fun k => S0 k ∨ W1.heap.size ≤ k ∧ k < W3.heap.size) rb w2.heap.size W1.heap.size (w2.heap.size + 1) g2 a := by
    refine ⟨Or.inl HS0.out, fun b off e => Or.inl (HSA.out b off e), ?_, ?_, ?_, ?_⟩
    all_goals exact Or.inr ⟨by omega, by omega⟩
  have hcall := layFrom_in (fun k => S0 k ∨ W1.heap.size ≤ k ∧ k < W3.heap.size) l rb w2.heap.size W1.heap.size (w2.heap.size + 1) g2 cap2 (W1.heap.size + 1) W T a n c xs W3.heap.size (allL W T xs f L).length (J W3.heap.size) (Jx W3.heap.size)
    HN.out hn' HR.out hS (fun b off e => by have := HAB.out b off e; omega)
    (fun pre A D h1 h2 => HJ.out _ _ _ _ _ h1 h2 (fun r e => by cases e; omega))
    (fun pre A D h1 h2 => HJX.out _ _ _ _ _ h1 h2 (fun r e => by cases e; omega))
    (fun m pre M A A' v h1 h2 h3 h4 h5 h6 h7 => HY.out m W3.heap.size pre M A A' v h1 b3.size h2 h3 h4 ⟨h5, h6⟩ h7)
    f (d - 1) 0 [] L W3 HF.out HL.out (fun j h1 h2 => absurd h2 (Nat.not_lt_zero _)) (Nat.zero_le _) HJ1.out (Nat.le_refl _) HIT.out (by simp)
  clear hS HIT HJ1 hg hW3
  refine ⟨trivial, hdd _, ?_⟩
  refine (show CallsIn Fence.wide (d - 1) _ _ #[.int .i64 0, _, _, _, _] W3 _ from hcall).mono ?_
  rintro e w4 ⟨b, rfl, hp, _, h4⟩
  gi_wp2
  go_end0
  exact ⟨⟨_, rfl⟩, W3.heap.size, b, b3.size, h4, hp⟩

set_option maxHeartbeats 1000000 in
theorem compl_any (W T : Int) (a : Option Addr) (n c : Nat) (la : Option Addr) (m lc : Nat) (w : World) :
    Calls Try.prog 50 #[.agg #[.int .i64 W, .int .i64 T, .slice a n c], .slice la m lc] w fun e w' => e = .returned (.func (.func 69) #[] #[.pointer (some ⟨w.heap.size + 1, 0, none⟩), .pointer (some ⟨w.heap.size, 0, none⟩)]) ∧
      w' = (w.alloc (.cells #[.int .i64 W, .int .i64 T, .slice a n c] 28)).alloc (.cells #[.slice la m lc] 25) := by
  go_enter Try.func50, Try.ntmps50
  go_wp2
  go_ret
  exact ⟨rfl, rfl⟩
end Go.Proofs.Ytjhonkhholehkaa
