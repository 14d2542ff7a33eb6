/- Contract of impl.completions: the iterator over all tilings with the dominoes of a list. -/
import Derived.Test.YtlnnoeojgdeagaaRangeIt
import Derived.Laws.EntriesVeiled
namespace Go.Proofs.Ytlnnoeojgdeagaa
open Go.RowKit Go.Shelf
set_option linter.unusedVariables false
set_option maxRecDepth 100000
set_option linter.unusedSimpArgs false
attribute [local go_sem] Oper.semAt_some

/-- What comes is a tiling, of as many entries as the field has cells. -/
def TilIs (W T : Int) (xs : List Bool) (n : Nat) (M : List Int) : Prop := M.length = n ∧ tok W T xs M = true

set_option maxHeartbeats 4000000 in
theorem compl1_seq (rb lbx : Nat) (W T : Int) (a : Option Addr) (n c : Nat) (xs : List Bool) (la : Option Addr) (lc : Nat) (L : List Int) (f : Nat) (S0 : Nat → Prop) (w : World)
    (hn : n = xs.length) (hn' : n ≤ 1048576) (hl : lok W T xs L = true) (hf : freeN xs L < f) (hreg : w.heap[rb]? = some (.cells #[.int .i64 W, .int .i64 T, .slice a n c] 28 (0, 0)))
    (hlb : w.heap[lbx]? = some (.cells #[.slice la n lc] 35 (0, 0))) (hx : BoolsAt w a xs) (hL : IntsAt w la L) (hS : S0 rb) (hSa : ∀ b off, a = some ⟨b, off, none⟩ → S0 b) :
    SeqIt Try.prog 101 #[.pointer (some ⟨lbx, 0, none⟩), .pointer (some ⟨rb, 0, none⟩)] S0 (allL W T xs f L) (TilIs W T xs n) w := by
  have hdd : ∀ k : Nat, (Fence.wide.depth.isSome = true → 1 ≤ k) := fun k h => by cases h
  intro d l J Jx W1 hb hJ hJx hJ0 hY
  obtain ⟨hr, hlen, _⟩ := lok_rv hl
  obtain ⟨v1, v2, v3, v4, v5, _⟩ := rv_true hr
  have hn0 : 0 < n := rv_pos v1 v3 (by rw [hn]; exact v5)
  have HLen : Hid (n = L.length) := by show n = _; rw [hn, hlen]
  have hreg1 := heap_later hreg hb
  have hlb1 := heap_later hlb hb
  have hx1 := hx.below hb
  have hL1 := hL.below hb
  have hab : ∀ b off, a = some ⟨b, off, none⟩ → b < W1.heap.size := by
    intro b off e
    obtain ⟨b', off', e', hc⟩ := hx1 0 (by omega)
    rw [e'] at e
    cases e
    exact World.block_lt_of_cell? W1 _ hc
  clear hreg hlb hx hL hb
  have HN := Lib.hid hn; clear hn
  have HR := Lib.hid hr; clear hr
  have HL := Lib.hid hl; clear hl
  have HF := Lib.hid hf; clear hf
  have HJ := Lib.hid hJ; clear hJ
  have HJX := Lib.hid hJx; clear hJx
  have HJ0 := Lib.hid hJ0; clear hJ0
  have HY := Lib.hid hY; clear hY
  have HSA := Lib.hid hSa; clear hSa
  have HS0 := Lib.hid hS; clear hS
  have HAB := Lib.hid hab; clear hab
  have HX := Lib.hid hx1; clear hx1
  have HLI := Lib.hid hL1; clear hL1
  have HV5 := Lib.hid v5; clear v5
  have HREG := Lib.hid hreg1; clear hreg1
  clear hlen
  have cl := cell1 hlb1
  have llb := heap_lt hlb1
  have lrb := heap_lt HREG.out
  have HLB := Lib.hid hlb1; clear hlb1
  refine callsIn_of_wp Try.func101 rfl trivial ?_ rfl
  simp only [Try.ntmps101, List.size_toArray, List.length_cons, List.length_nil, Nat.reduceAdd, Nat.reduceSub, Array.replicate_succ, Array.replicate_zero, List.push_toArray, List.append_toArray, List.nil_append, List.cons_append]
  gi_wp2_with ((try refine ⟨trivial, hdd _, ?_⟩); gi_at_call 102; refine (callsIn_wide.2 (clone_own _ _ _ L _ HLen.out hn0 hn' (HLI.out.one _))).mono ?_; rintro e w2 ⟨g2, cap2, rfl, ho2, hb2⟩; have HO2 := Lib.hid ho2; clear ho2; have HB2 := Lib.hid hb2; clear hb2)
  obtain ⟨W3, hW3⟩ : ∃ W3, (w2.alloc (.cells #[.slice (some ⟨g2, 0, none⟩) n cap2] 35)).alloc (.cells #[.func (.func 103) #[] #[.pointer (some ⟨rb, 0, none⟩), .pointer (some ⟨w2.heap.size, 0, none⟩), .pointer (some ⟨W1.heap.size, 0, none⟩), .pointer (some ⟨w2.heap.size + 1, 0, none⟩)]] 81) = W3 := ⟨_, rfl⟩
  rw [hW3]
  have s3 : W3.heap.size = w2.heap.size + 2 := by rw [← hW3]; simp
  have b2 : Below W1.heap.size W1 w2 := below_seq (below1 _ _) HB2.out
  have b3 : Below W1.heap.size W1 W3 := by rw [← hW3]; exact below_seq b2 (below2 _ _ _)
  have s2 : W1.heap.size + 1 ≤ w2.heap.size := by have := HB2.out.size; simpa using this
  have hg := OwnsI.lt HO2.out
  simp only [World.size_alloc] at hg
  have hit : ItAt W3 l rb w2.heap.size W1.heap.size (w2.heap.size + 1) g2 cap2 (W1.heap.size + 1) W T a n c xs L := by
    refine ⟨heap_later HREG.out b3, HX.out.below b3, ?_, ?_, ?_, ?_⟩
    · rw [← hW3]; exact heap_later (heap_new w2 _) (below1 _ _)
    · rw [← hW3]; exact heap_later (heap_later (heap_new W1 _) HB2.out) (below2 _ _ _)
    · rw [← hW3]; exact heap_new2 w2 _ _
    · rw [← hW3]; exact (show OwnsI w2 (W1.heap.size + 1) _ L by have := HO2.out; simpa using this).below (below2 _ _ _)
  have HIT := Lib.hid hit; clear hit
  have HJ1 : Hid (J W3.heap.size [] W3) := HJ0.out W3 b3
  have hS : ItS (fun k => S0 k ∨ W1.heap.size ≤ k ∧ k < W3.heap.size) rb w2.heap.size W1.heap.size (w2.heap.size + 1) g2 a := by
    refine ⟨Or.inl HS0.out, fun b off e => Or.inl (HSA.out b off e), ?_, ?_, ?_, ?_⟩
    all_goals exact Or.inr ⟨by omega, by omega⟩
  have hcall := layFrom_in (fun k => S0 k ∨ W1.heap.size ≤ k ∧ k < W3.heap.size) l rb w2.heap.size W1.heap.size (w2.heap.size + 1) g2 cap2 (W1.heap.size + 1) W T a n c xs W3.heap.size (allL W T xs f L).length (J W3.heap.size) (Jx W3.heap.size)
    HN.out hn' HR.out hS (fun b off e => by have := HAB.out b off e; omega)
    (fun pre A D h1 h2 => HJ.out _ _ _ _ _ h1 h2 (fun r e => by cases e; omega))
    (fun pre A D h1 h2 => HJX.out _ _ _ _ _ h1 h2 (fun r e => by cases e; omega))
    (fun m pre M A A' v h1 h2 h3 h4 h5 h6 h7 => HY.out m W3.heap.size pre M A A' v h1 b3.size h2 h3 h4 ⟨h5, h6⟩ h7)
    f (d - 1) 0 [] L W3 HF.out HL.out (fun j h1 h2 => absurd h2 (Nat.not_lt_zero _)) (Nat.zero_le _) HJ1.out (Nat.le_refl _) HIT.out (by simp)
  clear hS HIT HJ1 hg hW3
  refine ⟨trivial, hdd _, ?_⟩
  refine (show CallsIn Fence.wide (d - 1) _ _ #[.int .i64 0, _, _, _, _] W3 _ from hcall).mono ?_
  rintro e w4 ⟨b, rfl, hp, _, h4⟩
  gi_wp2
  go_end0
  exact ⟨⟨_, rfl⟩, W3.heap.size, b, b3.size, h4, hp⟩

set_option maxHeartbeats 1000000 in
theorem compl_any (W T : Int) (a : Option Addr) (n c : Nat) (la : Option Addr) (m lc : Nat) (w : World) :
    Calls Try.prog 71 #[.agg #[.int .i64 W, .int .i64 T, .slice a n c], .slice la m lc] w fun e w' => e = .returned (.func (.func 101) #[] #[.pointer (some ⟨w.heap.size + 1, 0, none⟩), .pointer (some ⟨w.heap.size, 0, none⟩)]) ∧
      w' = (w.alloc (.cells #[.int .i64 W, .int .i64 T, .slice a n c] 28)).alloc (.cells #[.slice la m lc] 35) := by
  go_enter Try.func71, Try.ntmps71
  go_wp2
  go_ret
  exact ⟨rfl, rfl⟩
end Go.Proofs.Ytlnnoeojgdeagaa
