/- Plain facts: the lattice of tilings: low and high ones, their order, and how far they are apart. -/
import Derived.Test.YtknigcjpgkolgaaKLatMv2
import Derived.Test.YtknigcjpgkolgaaKHtsI
import Derived.Test.YtknigcjpgkolgaaKLatTv1
import Derived.Test.YtknigcjpgkolgaaKLatF
namespace Go.Proofs.Ytknigcjpgkolgaa
open Go.RowKit
set_option linter.unusedVariables false
set_option maxRecDepth 100000
set_option linter.unusedSimpArgs false

def tlowF (hi : Bool) (W T : Int) (xs : List Bool) (A B : List Int) : List Int × Bool := tbyF W T xs (bothF hi W T xs A B)
end Go.Proofs.Ytknigcjpgkolgaa

namespace Go.Proofs.Ytknigcjpgkolgaa
open Go.RowKit
set_option linter.unusedVariables false
set_option maxRecDepth 100000
set_option linter.unusedSimpArgs false

theorem nil_nilV (w : World) : Sem.run Try.prog (binOp BinOp.eql 26 (.slice none 0 0) (.slice none 0 0)) w = Result.ok (.bool true) w := by kernel_rfl
theorem some_nilV (g n c : Nat) (w : World) : Sem.run Try.prog (binOp BinOp.eql 26 (.slice (some ⟨g, 0, none⟩) n c) (.slice none 0 0)) w = Result.ok (.bool false) w := by kernel_rfl
attribute [local go_sem] nil_nilV some_nilV

theorem HtsR.entry {W T : Int} {xs : List Bool} {L H : List Int} (h : HtsR W T xs L H) {k : Nat} (hk : k < H.length) : -49 ≤ H.getD k 0 ∧ H.getD k 0 ≤ 99 := by
  rcases h with ⟨_, hH⟩ | ⟨_, rfl⟩
  · rw [hH.len] at hk
    cases ha : hAt W T xs k
    · have := hH.off k hk ha; omega
    · have := hH.bd k hk ha; omega
  · simp at hk
theorem HtsR.same {W T : Int} {xs : List Bool} {L H L' H' : List Int} (h : HtsR W T xs L H) (h' : HtsR W T xs L' H') (h0 : 0 < H.length) (h1 : 0 < H'.length) : H.length = H'.length := by
  rcases h with ⟨_, hH⟩ | ⟨_, rfl⟩
  · rcases h' with ⟨_, hH'⟩ | ⟨_, rfl⟩
    · rw [hH.len, hH'.len]
    · simp at h1
  · simp at h0
set_option maxHeartbeats 4000000 in
theorem iHeightsOf_nil (W T : Int) (a : Option Addr) (n cap : Nat) (xs : List Bool) (la0 : Option Addr) (m lcap : Nat) (L : List Int) (w : World) (hn : n = xs.length) (hn' : n ≤ 1048576) (hm : m = L.length) (hm' : m ≤ 1048576) (ha : BoolsAt w a xs) (hl : IntsAt w la0 L) (hH : HtsR W T xs L []) :
    Calls Try.prog 15 #[.agg #[.int .i64 W, .int .i64 T, .slice a n cap], .slice la0 m lcap] w fun e w' => e = .returned (.slice none 0 0) ∧ Below w.heap.size w w' := by
  have HN := Lib.hid hn; clear hn
  have HM := Lib.hid hm; clear hm
  have HA := Lib.hid ha; clear ha
  have HL := Lib.hid hl; clear hl
  obtain ⟨wA, hwA⟩ : ∃ wA, wA = (w.alloc (.cells #[.int .i64 W, .int .i64 T, .slice a n cap] 25)).alloc (.cells #[.slice la0 m lcap] 26) := ⟨_, rfl⟩
  have pA : wA.heap[w.heap.size]? = some (.cells #[.int .i64 W, .int .i64 T, .slice a n cap] 25 (0, 0)) := by rw [hwA]; exact heap_later (heap_new w _) (below1 _ _)
  have qA : wA.heap[w.heap.size + 1]? = some (.cells #[.slice la0 m lcap] 26 (0, 0)) := by rw [hwA]; have := heap_new (w.alloc (.cells #[.int .i64 W, .int .i64 T, .slice a n cap] 25)) (.cells #[.slice la0 m lcap] 26); simpa using this
  have bA : Below w.heap.size w wA := by rw [hwA]; exact below_seq (below1 _ _) (below1 _ _)
  have one : ∀ {w' : World} {b : Nat}, w'.heap[b]? = some (.cells #[.slice la0 m lcap] 26 (0, 0)) → w'.cell? ⟨b, 0, none⟩ = some (.slice la0 m lcap) := fun h => by simp [World.cell?, h]
  cases h1 : simpleB W T xs
  · have HS := Lib.hid h1; clear h1 hH one
    obtain ⟨c0, c1, c2⟩ := cells3 pA
    go_enter Try.func15, Try.ntmps15
    go_wp2_with fail
    rw [← hwA]; clear hwA
    refine (iSimple_any _ _ _ _ _ xs _ HN.out hn' (HA.out.below bA)).mono ?_; rintro e w1 ⟨rfl, hb1⟩
    rw [HS.out]
    go_wp2
    go_ret
    exact ⟨rfl, below_seq bA hb1⟩
  have h2 : tok W T xs L = false := by
    rcases hH with ⟨q, hq⟩ | ⟨q, _⟩
    · rw [Bool.and_eq_true] at q
      obtain ⟨v1, v2, v3, v4, v5, v6⟩ := rv_true (simpleB_rv q.1)
      have hcb := corn_bd v1 v2 v3 v4
      have := hq.len; simp at this; omega
    · rw [h1] at q; simpa using q
  have HS := Lib.hid h1; have HT := Lib.hid h2; clear h1 h2 hH
  obtain ⟨c0, c1, c2⟩ := cells3 pA
  have c3 := one qA
  go_enter Try.func15, Try.ntmps15
  go_wp2_with fail
  rw [← hwA]; clear hwA
  refine (iSimple_any _ _ _ _ _ xs _ HN.out hn' (HA.out.below bA)).mono ?_; rintro e w1 ⟨rfl, hb1⟩
  rw [HS.out]
  have b1 := below_seq bA hb1
  obtain ⟨d0, d1, d2⟩ := cells3 (heap_later pA hb1)
  have d3 := one (heap_later qA hb1)
  clear one
  go_wp2_with fail
  refine (iTilingOk_any _ _ _ _ _ xs _ _ _ L _ HN.out hn' HM.out hm' (HA.out.below b1) (HL.out.below b1)).mono ?_; rintro e w2 ⟨rfl, hb2⟩
  rw [HT.out]
  go_wp2
  go_ret
  exact ⟨rfl, below_seq b1 hb2⟩
/-- The heights, and nil where there are none. -/
def RetN (w : World) (H : List Int) (e : Ending) (w' : World) : Prop := ∃ a cap, e = .returned (.slice a H.length cap) ∧ OwnsI w' w.heap.size (.slice a H.length cap) H ∧ ((H = [] ∧ a = none ∧ cap = 0) ∨ (0 < H.length ∧ ∃ g, a = some ⟨g, 0, none⟩)) ∧ Below w.heap.size w w'
theorem iHeightsOf_n (W T : Int) (a : Option Addr) (n cap : Nat) (xs : List Bool) (la0 : Option Addr) (m lcap : Nat) (L : List Int) (H : List Int) (w : World) (hn : n = xs.length) (hn' : n ≤ 1048576) (hm : m = L.length) (hm' : m ≤ 1048576) (ha : BoolsAt w a xs) (hl : IntsAt w la0 L) (hH : HtsR W T xs L H) :
    Calls Try.prog 15 #[.agg #[.int .i64 W, .int .i64 T, .slice a n cap], .slice la0 m lcap] w (RetN w H) := by
  cases H with
  | nil => exact (iHeightsOf_nil W T a n cap xs la0 m lcap L w hn hn' hm hm' ha hl hH).mono fun e w' ⟨h1, h2⟩ => ⟨none, 0, h1, OwnsI.nil _ _, Or.inl ⟨rfl, rfl, rfl⟩, h2⟩
  | cons x H =>
    refine (iHeightsOf_ret W T a n cap xs la0 m lcap L (x :: H) w hn hn' hm hm' ha hl hH).mono ?_
    rintro e w' ⟨a', c', h1, h2, h3⟩
    obtain ⟨g, pc, hv, _⟩ := h2.pos (by simp)
    simp only [Value.slice.injEq] at hv
    exact ⟨a', c', h1, h2, Or.inr ⟨by simp, g, hv.1⟩, h3⟩

end Go.Proofs.Ytknigcjpgkolgaa

namespace Go.Proofs.Ytknigcjpgkolgaa
open Go.RowKit
set_option linter.unusedVariables false
set_option maxRecDepth 100000
set_option linter.unusedSimpArgs false

section
variable {W T : Int} {xs : List Bool} {L M A B : List Int}
theorem low_mk (hi : Bool) (hs : simpleB W T xs = true) (hL : tok W T xs L = true) (hM : tok W T xs M = true) (hA : HtsR W T xs L A) (hB : HtsR W T xs M B) :
    ∃ X, tlowF hi W T xs A B = (X, true) ∧ tok W T xs X = true ∧ HtsR W T xs X (bothL hi A B A.length) ∧ X.length = xs.length := by
  have oA := (tby_of hs hL hA).1
  have oB := (tby_of hs hM hB).1
  have e : bothF hi W T xs A B = bothL hi A B A.length := by unfold bothF; rw [oA, oB]; rfl
  have ho := both_hok hi oA oB
  obtain ⟨_, h2, h3, h4⟩ := tby_to ho
  refine ⟨(tbyF W T xs (bothL hi A B A.length)).1, ?_, h3, h4, (lok_rv (tok_lok1 h3)).2.1⟩
  unfold tlowF
  rw [e, ← h2]
theorem hts_same (hs : simpleB W T xs = true) (hL : tok W T xs L = true) (hM : tok W T xs M = true) (hA : HtsR W T xs L A) (hB : HtsR W T xs M A) : L = M := by
  have a := (tby_of hs hL hA).2
  have b := (tby_of hs hM hB).2
  rw [a] at b
  injection b
theorem hts_len (hs : simpleB W T xs = true) (hL : tok W T xs L = true) (hM : tok W T xs M = true) (hA : HtsR W T xs L A) (hB : HtsR W T xs M B) : A.length = B.length ∧ 0 < A.length := by
  have oA := (tby_of hs hL hA).1
  have oB := (tby_of hs hM hB).1
  refine ⟨hok_length oA oB, ?_⟩
  rcases Nat.eq_zero_or_pos A.length with e | e
  · rw [List.eq_nil_of_length_eq_zero e, hok_nil] at oA; cases oA
  · exact e
end
end Go.Proofs.Ytknigcjpgkolgaa
