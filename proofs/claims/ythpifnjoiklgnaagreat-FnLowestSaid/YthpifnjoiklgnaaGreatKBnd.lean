/- Contracts of impl.boundsOf and of the closure of impl.leastHeights. -/
import Derived.Test.YthpifnjoiklgnaaGreatKTil
import Derived.Test.YthpifnjoiklgnaaGreatKAllP
import Derived.Test.YthpifnjoiklgnaaGreatKHtsI
namespace Go.Proofs.YthpifnjoiklgnaaGreat
open Go.RowKit
set_option linter.unusedVariables false
set_option maxRecDepth 100000
set_option linter.unusedSimpArgs false

def tlowF (hi : Bool) (W T : Int) (xs : List Bool) (A B : List Int) : List Int × Bool := tbyF W T xs (bothF hi W T xs A B)
end Go.Proofs.YthpifnjoiklgnaaGreat

namespace Go.Proofs.YthpifnjoiklgnaaGreat
open Go.RowKit
set_option linter.unusedVariables false
set_option maxRecDepth 100000
set_option linter.unusedSimpArgs false

theorem nil_nilV (w : World) : Sem.run Tryz.prog (binOp BinOp.eql 27 (.slice none 0 0) (.slice none 0 0)) w = Result.ok (.bool true) w := by kernel_rfl
theorem some_nilV (g n c : Nat) (w : World) : Sem.run Tryz.prog (binOp BinOp.eql 27 (.slice (some ⟨g, 0, none⟩) n c) (.slice none 0 0)) w = Result.ok (.bool false) w := by kernel_rfl
attribute [local go_sem] nil_nilV some_nilV

def belowL (A B : List Int) (k : Nat) : Bool := (List.range k).all fun i => decide (A.getD i 0 ≤ B.getD i 0)
theorem belowL_succ (A B : List Int) (k : Nat) : belowL A B (k + 1) = (belowL A B k && decide (A.getD k 0 ≤ B.getD k 0)) := by unfold belowL; rw [List.range_succ, List.all_append]; simp
theorem belowL_no {A B : List Int} {k n : Nat} (hk : k < n) (h : ¬ A.getD k 0 ≤ B.getD k 0) : belowL A B n = false := by
 unfold belowL
 rw [List.all_eq_false]
 exact ⟨k, List.mem_range.2 hk, by simpa using h⟩
def belowB (A B : List Int) : Bool := decide (0 < A.length) && decide (0 < B.length) && belowL A B A.length
theorem HtsR.entry {W T : Int} {xs : List Bool} {L H : List Int} (h : HtsR W T xs L H) {k : Nat} (hk : k < H.length) : -49 ≤ H.getD k 0 ∧ H.getD k 0 ≤ 99 := by
 rcases h with ⟨_, hH⟩ | ⟨_, rfl⟩
 · rw [hH.len] at hk
   cases ha : hAt W T xs k
   · have := hH.off k hk ha; omega
   · have := hH.bd k hk ha; omega
 · simp at hk
theorem HtsR.same {W T : Int} {xs : List Bool} {L H L' H' : List Int} (h : HtsR W T xs L H) (h' : HtsR W T xs L' H') (h0 : 0 < H.length) (h1 : 0 < H'.length) : H.length = H'.length := by
 rcases h with ⟨_, hH⟩ | ⟨_, rfl⟩
 · rcases h' with ⟨_, hH'⟩ | ⟨_, rfl⟩
   · rw [hH.len, hH'.len]
   · simp at h1
 · simp at h0
set_option maxHeartbeats 4000000 in
theorem iHeightsOf_nil (W T : Int) (a : Option Addr) (n cap : Nat) (xs : List Bool) (la0 : Option Addr) (m lcap : Nat) (L : List Int) (w : World) (hn : n = xs.length) (hn' : n ≤ 1048576) (hm : m = L.length) (hm' : m ≤ 1048576) (ha : BoolsAt w a xs) (hl : IntsAt w la0 L) (hH : HtsR W T xs L []) :
 Calls Tryz.prog 38 #[.agg #[.int .i64 W, .int .i64 T, .slice a n cap], .slice la0 m lcap] w fun e w' => e = .returned (.slice none 0 0) ∧ Below w.heap.size w w' := by
 have HN := Lib.hid hn; clear hn
 have HM := Lib.hid hm; clear hm
 have HA := Lib.hid ha; clear ha
 have HL := Lib.hid hl; clear hl
 obtain ⟨wA, hwA⟩ : ∃ wA, wA = (w.alloc (.cells #[.int .i64 W, .int .i64 T, .slice a n cap] 25)).alloc (.cells #[.slice la0 m lcap] 27) := ⟨_, rfl⟩
 have pA : wA.heap[w.heap.size]? = some (.cells #[.int .i64 W, .int .i64 T, .slice a n cap] 25 (0, 0)) := by rw [hwA]; exact heap_later (heap_new w _) (below1 _ _)
 have qA : wA.heap[w.heap.size + 1]? = some (.cells #[.slice la0 m lcap] 27 (0, 0)) := by rw [hwA]; have := heap_new (w.alloc (.cells #[.int .i64 W, .int .i64 T, .slice a n cap] 25)) (.cells #[.slice la0 m lcap] 27); simpa using this
 have bA : Below w.heap.size w wA := by rw [hwA]; exact below_seq (below1 _ _) (below1 _ _)
 have one : ∀ {w' : World} {b : Nat}, w'.heap[b]? = some (.cells #[.slice la0 m lcap] 27 (0, 0)) → w'.cell? ⟨b, 0, none⟩ = some (.slice la0 m lcap) := fun h => by simp [World.cell?, h]
 cases h1 : simpleB W T xs
 · have HS := Lib.hid h1; clear h1 hH one
   obtain ⟨c0, c1, c2⟩ := cells3 pA
   go_enter Tryz.func38, Tryz.ntmps38
   go_wp2_with fail
   rw [← hwA]; clear hwA
   refine (iSimple_any _ _ _ _ _ xs _ HN.out hn' (HA.out.below bA)).mono ?_; rintro e w1 ⟨rfl, hb1⟩
   rw [HS.out]
   go_wp2
   go_ret
   exact ⟨rfl, below_seq bA hb1⟩
 have h2 : tok W T xs L = false := by
  rcases hH with ⟨q, hq⟩ | ⟨q, _⟩
  · rw [Bool.and_eq_true] at q
    obtain ⟨v1, v2, v3, v4, v5, v6⟩ := rv_true (simpleB_rv q.1)
    have hcb := corn_bd v1 v2 v3 v4
    have := hq.len; simp at this; omega
  · rw [h1] at q; simpa using q
 have HS := Lib.hid h1; have HT := Lib.hid h2; clear h1 h2 hH
 obtain ⟨c0, c1, c2⟩ := cells3 pA
 have c3 := one qA
 go_enter Tryz.func38, Tryz.ntmps38
 go_wp2_with fail
 rw [← hwA]; clear hwA
 refine (iSimple_any _ _ _ _ _ xs _ HN.out hn' (HA.out.below bA)).mono ?_; rintro e w1 ⟨rfl, hb1⟩
 rw [HS.out]
 have b1 := below_seq bA hb1
 obtain ⟨d0, d1, d2⟩ := cells3 (heap_later pA hb1)
 have d3 := one (heap_later qA hb1)
 clear one
 go_wp2_with fail
 refine (iTilingOk_any _ _ _ _ _ xs _ _ _ L _ HN.out hn' HM.out hm' (HA.out.below b1) (HL.out.below b1)).mono ?_; rintro e w2 ⟨rfl, hb2⟩
 rw [HT.out]
 go_wp2
 go_ret
 exact ⟨rfl, below_seq b1 hb2⟩
def RetN (w : World) (H : List Int) (e : Ending) (w' : World) : Prop := ∃ a cap, e = .returned (.slice a H.length cap) ∧ OwnsI w' w.heap.size (.slice a H.length cap) H ∧ ((H = [] ∧ a = none ∧ cap = 0) ∨ (0 < H.length ∧ ∃ g, a = some ⟨g, 0, none⟩)) ∧ Below w.heap.size w w'
theorem iHeightsOf_n (W T : Int) (a : Option Addr) (n cap : Nat) (xs : List Bool) (la0 : Option Addr) (m lcap : Nat) (L : List Int) (H : List Int) (w : World) (hn : n = xs.length) (hn' : n ≤ 1048576) (hm : m = L.length) (hm' : m ≤ 1048576) (ha : BoolsAt w a xs) (hl : IntsAt w la0 L) (hH : HtsR W T xs L H) :
 Calls Tryz.prog 38 #[.agg #[.int .i64 W, .int .i64 T, .slice a n cap], .slice la0 m lcap] w (RetN w H) := by
 cases H with
 | nil => exact (iHeightsOf_nil W T a n cap xs la0 m lcap L w hn hn' hm hm' ha hl hH).mono fun e w' ⟨h1, h2⟩ => ⟨none, 0, h1, OwnsI.nil _ _, Or.inl ⟨rfl, rfl, rfl⟩, h2⟩
 | cons x H =>
   refine (iHeightsOf_ret W T a n cap xs la0 m lcap L (x :: H) w hn hn' hm hm' ha hl hH).mono ?_
   rintro e w' ⟨a', c', h1, h2, h3⟩
   obtain ⟨g, pc, hv, _⟩ := h2.pos (by simp)
   simp only [Value.slice.injEq] at hv
   exact ⟨a', c', h1, h2, Or.inr ⟨by simp, g, hv.1⟩, h3⟩

set_option maxHeartbeats 4000000 in
theorem iBelow_ret (W T : Int) (a : Option Addr) (n cap : Nat) (xs : List Bool) (la0 : Option Addr) (m0 lcap0 : Nat) (L0 : List Int) (la1 : Option Addr) (m1 lcap1 : Nat) (L1 : List Int) (A B : List Int) (w : World) (hn : n = xs.length) (hn' : n ≤ 1048576) (hm0 : m0 = L0.length) (hm0' : m0 ≤ 1048576) (hm1 : m1 = L1.length) (hm1' : m1 ≤ 1048576) (ha : BoolsAt w a xs) (hl0 : IntsAt w la0 L0) (hl1 : IntsAt w la1 L1) (hA : HtsR W T xs L0 A) (hB : HtsR W T xs L1 B) :
 Calls Tryz.prog 13 #[.agg #[.int .i64 W, .int .i64 T, .slice a n cap], .slice la0 m0 lcap0, .slice la1 m1 lcap1] w fun e w' => e = .returned (.bool (belowB A B)) ∧ Below w.heap.size w w' := by
 have HN := Lib.hid hn; clear hn
 have HM0 := Lib.hid hm0; clear hm0
 have HM1 := Lib.hid hm1; clear hm1
 have HA := Lib.hid ha; clear ha
 have HL0 := Lib.hid hl0; clear hl0
 have HL1 := Lib.hid hl1; clear hl1
 have HHA := Lib.hid hA; have HHB := Lib.hid hB
 have hla := hA.len; have hlb := hB.len
 have hsame := HtsR.same hA hB
 clear hA hB
 obtain ⟨p, hp⟩ : ∃ p, p = A.length := ⟨_, rfl⟩
 obtain ⟨q, hq⟩ : ∃ q, q = B.length := ⟨_, rfl⟩
 rw [← hp] at hla hsame; rw [← hq] at hlb hsame
 have HP := Lib.hid hp; have HQ := Lib.hid hq; have HSM := Lib.hid hsame
 clear hp hq hsame
 have PA : (w.alloc (.cells #[.int .i64 W, .int .i64 T, .slice a n cap] 25)).drew.heap[w.heap.size]? = some _ := heap_new w (.cells #[.int .i64 W, .int .i64 T, .slice a n cap] 25)
 have bA : Below w.heap.size w (w.alloc (.cells #[.int .i64 W, .int .i64 T, .slice a n cap] 25)).drew := below_seq (below1 _ _) (drew_below _)
 obtain ⟨c0, c1, c2⟩ := cells3 (heap_new w (.cells #[.int .i64 W, .int .i64 T, .slice a n cap] 25))
 go_enter Tryz.func13, Tryz.ntmps13
 go_wp2_with fail
 go_region_held3 (fun w' => w'.cell? ⟨w.heap.size, 0, none⟩ = some (.int .i64 W) ∧ w'.cell? ⟨w.heap.size, 1, none⟩ = some (.int .i64 T) ∧ w'.cell? ⟨w.heap.size, 2, none⟩ = some (.slice a n cap))
  (go_keep)
  (first
    | (go_at_call 38; refine (iHeightsOf_n W T a n cap xs la1 m1 lcap1 L1 B _ HN.out hn' HM1.out hm1' (HA.out.below (below_seq bA hb1)) (HL1.out.below (below_seq bA hb1)) HHB.out).mono ?_; rintro e w2 ⟨a2, q2, rfl, o2, n2, hb2⟩; have p2 := heap_later p1 hb2; obtain ⟨e0, e1, e2⟩ := cells3 p2)
    | (go_at_call 38; refine (iHeightsOf_n W T a n cap xs la0 m0 lcap0 L0 A _ HN.out hn' HM0.out hm0' (HA.out.below bA) (HL0.out.below bA) HHA.out).mono ?_; rintro e w1 ⟨a1, q1, rfl, o1, n1, hb1⟩; have p1 := heap_later PA hb1; obtain ⟨d0, d1, d2⟩ := cells3 p1))
 have B2 := Lib.hid (below_seq (below_seq bA hb1) hb2)
 have IA := Lib.hid (OwnsI.at (o1.below hb2))
 have IB := Lib.hid (OwnsI.at o2)
 rw [← HP.out] at n1 ⊢
 rw [← HQ.out] at n2 ⊢
 clear o1 o2 hb1 hb2 bA p1 p2 PA c0 c1 c2 d0 d1 d2 e0 e1 e2
 rcases n1 with ⟨rfl, rfl, rfl⟩ | ⟨hp0, g1, rfl⟩
 · have HF : Hid (belowB [] B = false) := rfl
   have hp0 : p = 0 := HP.out
   subst hp0
   clear n2
   go_wp2
   go_ret
   exact ⟨ret_bool HF.out.symm, B2.out⟩
 rcases n2 with ⟨rfl, rfl, rfl⟩ | ⟨hq0, g2, rfl⟩
 · have HF : Hid (belowB A [] = false) := by show _ = _; unfold belowB; simp
   have hq0 : q = 0 := HQ.out
   subst hq0
   go_wp2
   go_ret
   exact ⟨ret_bool HF.out.symm, B2.out⟩
 have hpq := HSM.out hp0 hq0
 subst hpq
 clear HSM
 go_wp2_with fail
 go_loopw [25] (fun i wr => ∃ k : Nat, k ≤ p ∧ i = .int .i64 k ∧ belowL A B k = true ∧ IntsAt wr (some ⟨g1, 0, none⟩) A ∧ IntsAt wr (some ⟨g2, 0, none⟩) B ∧ Below w.heap.size w wr) (fun i _ => p - (intOf i).toNat)
 case atStart => exact ⟨0, Nat.zero_le _, rfl, rfl, IA.out, IB.out, B2.out⟩
 case round =>
  clear IA IB B2
  rename World => wo
  obtain ⟨k, hk, rfl, hbl, ia, ib, bo⟩ := hrel
  have HBL := Lib.hid hbl; have IA := Lib.hid ia; have IB := Lib.hid ib; have BO := Lib.hid bo
  clear hbl ia ib bo
  by_cases hlt : k < p
  · have hltq := hlt
    have hx := IA.out.cellAt (i := k) (by rw [← HP.out]; exact hlt)
    have hy := IB.out.cellAt (i := k) (by rw [← HQ.out]; exact hltq)
    rw [Nat.zero_add] at hx hy
    have xb := HHA.out.entry (k := k) (by rw [← HP.out]; exact hlt)
    have yb := HHB.out.entry (k := k) (by rw [← HQ.out]; exact hltq)
    have hsc := belowL_succ A B k
    have hno := fun h => belowL_no (A := A) (B := B) (n := p) hlt h
    obtain ⟨x, hxx⟩ : ∃ x, x = A.getD k 0 := ⟨_, rfl⟩
    obtain ⟨y, hyy⟩ : ∃ y, y = B.getD k 0 := ⟨_, rfl⟩
    rw [← hxx] at hx xb hsc hno; rw [← hyy] at hy yb hsc hno
    clear hxx hyy hltq
    have e1 : (k : Int) < p := by omega
    by_cases h : y < x
    · have HF : Hid (belowB A B = false) := by show _ = _; unfold belowB; rw [← HP.out, hno (by omega)]; simp
      clear hno hsc
      go_wp2
      go_ret
      exact ⟨ret_bool HF.out.symm, BO.out⟩
    · have HT : Hid (belowL A B (k + 1) = true) := by show _ = _; rw [hsc, HBL.out, decide_eq_true (by omega)]; rfl
      have h' : x ≤ y := by omega
      clear hno hsc h
      go_wp2
      go_roundw
      case rel => exact ⟨k + 1, by omega, by go_num, HT.out, IA.out, IB.out, BO.out⟩
      case measure => simp [intOf]; omega
  · obtain rfl : k = p := by omega
    have HT : Hid (belowB A B = true) := by
     show _ = _; unfold belowB
     rw [← HP.out, ← HQ.out, decide_eq_true hp0, HBL.out]; rfl
    go_wp2
    go_ret
    exact ⟨ret_bool HT.out.symm, BO.out⟩

end Go.Proofs.YthpifnjoiklgnaaGreat

namespace Go.Proofs.YthpifnjoiklgnaaGreat
open Go.RowKit
set_option linter.unusedVariables false
set_option maxRecDepth 100000
set_option linter.unusedSimpArgs false

section
variable {W T : Int} {xs : List Bool} {L M A B : List Int}
theorem low_mk (hi : Bool) (hs : simpleB W T xs = true) (hL : tok W T xs L = true) (hM : tok W T xs M = true) (hA : HtsR W T xs L A) (hB : HtsR W T xs M B) :
 ∃ X, tlowF hi W T xs A B = (X, true) ∧ tok W T xs X = true ∧ HtsR W T xs X (bothL hi A B A.length) ∧ X.length = xs.length := by
 have oA := (tby_of hs hL hA).1
 have oB := (tby_of hs hM hB).1
 have e : bothF hi W T xs A B = bothL hi A B A.length := by unfold bothF; rw [oA, oB]; rfl
 have ho := both_hok hi oA oB
 obtain ⟨_, h2, h3, h4⟩ := tby_to ho
 refine ⟨(tbyF W T xs (bothL hi A B A.length)).1, ?_, h3, h4, (lok_rv (tok_lok1 h3)).2.1⟩
 unfold tlowF
 rw [e, ← h2]
theorem hts_same (hs : simpleB W T xs = true) (hL : tok W T xs L = true) (hM : tok W T xs M = true) (hA : HtsR W T xs L A) (hB : HtsR W T xs M A) : L = M := by
 have a := (tby_of hs hL hA).2
 have b := (tby_of hs hM hB).2
 rw [a] at b
 injection b
theorem hts_len (hs : simpleB W T xs = true) (hL : tok W T xs L = true) (hM : tok W T xs M = true) (hA : HtsR W T xs L A) (hB : HtsR W T xs M B) : A.length = B.length ∧ 0 < A.length := by
 have oA := (tby_of hs hL hA).1
 have oB := (tby_of hs hM hB).1
 refine ⟨hok_length oA oB, ?_⟩
 rcases Nat.eq_zero_or_pos A.length with e | e
 · rw [List.eq_nil_of_length_eq_zero e, hok_nil] at oA; cases oA
 · exact e
end
theorem belowL_iff {A B : List Int} {n : Nat} : belowL A B n = true ↔ ∀ k, k < n → A.getD k 0 ≤ B.getD k 0 := by
 unfold belowL
 rw [List.all_eq_true]
 constructor
 · intro h k hk; have := h k (List.mem_range.2 hk); simpa using this
 · intro h k hk; have := h k (List.mem_range.1 hk); simpa using this
theorem below_iff {A B : List Int} (h0 : 0 < A.length) (h : A.length = B.length) : belowB A B = true ↔ ∀ k, k < A.length → A.getD k 0 ≤ B.getD k 0 := by
 unfold belowB
 rw [decide_eq_true h0, decide_eq_true (show 0 < B.length by omega), Bool.true_and, Bool.true_and, belowL_iff]
theorem pick_le (hi : Bool) (x y : Int) : if hi then x ≤ pickI hi x y ∧ y ≤ pickI hi x y else pickI hi x y ≤ x ∧ pickI hi x y ≤ y := by
 unfold pickI
 cases hi
 · simp only [Bool.false_eq_true, if_false]; split <;> omega
 · simp only [if_true]; split <;> omega
end Go.Proofs.YthpifnjoiklgnaaGreat

namespace Go.Proofs.YthpifnjoiklgnaaGreat
open Go.RowKit
set_option linter.unusedVariables false
set_option maxRecDepth 100000
set_option linter.unusedSimpArgs false

def loB (W T : Int) (xs : List Bool) (s : Nat × Bool) : Int := if sBoth W T xs s.1 s.2 then (if -3 * sRise W s.1 s.2 < sRise W s.1 s.2 then -3 * sRise W s.1 s.2 else sRise W s.1 s.2) else sRise W s.1 s.2
def hiB (W T : Int) (xs : List Bool) (s : Nat × Bool) : Int := if sBoth W T xs s.1 s.2 then (if sRise W s.1 s.2 < -3 * sRise W s.1 s.2 then -3 * sRise W s.1 s.2 else sRise W s.1 s.2) else sRise W s.1 s.2
def loW (up : Bool) (W T : Int) (xs : List Bool) (s : Nat × Bool) : Int := if up then loB W T xs s else -hiB W T xs s
def hiW (up : Bool) (W T : Int) (xs : List Bool) (s : Nat × Bool) : Int := if up then hiB W T xs s else -loB W T xs s
def sgnL (up : Bool) (W T : Int) (xs : List Bool) (H : List Int) (N : Nat) : List Int := (List.range N).map fun k => if hAt W T xs k then (if up then H.getD k 0 else -H.getD k 0) else 99
theorem sgnL_get {up : Bool} {W T : Int} {xs : List Bool} {H : List Int} {N k : Nat} (hk : k < N) : (sgnL up W T xs H N).getD k 0 = if hAt W T xs k then (if up then H.getD k 0 else -H.getD k 0) else 99 := by simp [sgnL, hk]
theorem sgnL_len (up : Bool) (W T : Int) (xs : List Bool) (H : List Int) (N : Nat) : (sgnL up W T xs H N).length = N := by simp [sgnL]
theorem bnd_cases {W T : Int} {xs : List Bool} (k : Nat) (nth : Bool) : (sRise W k nth = 1 ∨ sRise W k nth = -1) ∧ ((sBoth W T xs k nth = false ∧ loB W T xs (k, nth) = sRise W k nth ∧ hiB W T xs (k, nth) = sRise W k nth) ∨ (sBoth W T xs k nth = true ∧ ((sRise W k nth = 1 ∧ loB W T xs (k, nth) = -3 ∧ hiB W T xs (k, nth) = 1) ∨ (sRise W k nth = -1 ∧ loB W T xs (k, nth) = -1 ∧ hiB W T xs (k, nth) = 3)))) := by
 have hr : sRise W k nth = 1 ∨ sRise W k nth = -1 := by unfold sRise; split <;> simp
 refine ⟨hr, ?_⟩
 unfold loB hiB
 cases hb : sBoth W T xs k nth
 · left; simp
 · right
   refine ⟨rfl, ?_⟩
   rcases hr with e | e
   · left; rw [e]; exact ⟨rfl, rfl, rfl⟩
   · right; rw [e]; exact ⟨rfl, rfl, rfl⟩
theorem gt_wide (up : Bool) {W T : Int} {xs : List Bool} {X H : List Int} {N fk : Nat} (hs : simpleB W T xs = true) (hN : (W + 1) * (T + 1) = (N : Int)) (hf : frstK W T xs N = fk) (ht : tok W T xs X = true) (hH : HtsOf W T xs X H N)
 (hmax : ∀ M B, tok W T xs M = true → HtsOf W T xs M B N → ∀ k, k < N → if up then B.getD k 0 ≤ H.getD k 0 else H.getD k 0 ≤ B.getD k 0) :
 GT W T xs N fk (loW up W T xs) (hiW up W T xs) (sgnL up W T xs H N) := by
 obtain ⟨v1, v2, v3, v4, v5, v6⟩ := rv_true (simpleB_rv hs)
 have hp := hts_hok hs hN hf hH
 obtain ⟨hfN, hfa⟩ := first_hAt v1 hf
 have hend : ∀ k nth, k < N → sUsed W T xs k nth = true → (sTo W k nth).toNat < N ∧ hAt W T xs k = true ∧ hAt W T xs (sTo W k nth).toNat = true := by
  intro k nth hk hu
  obtain ⟨t0, t1, t2⟩ := sTo_lt v1 hu
  refine ⟨by omega, (hAt_iff v1).2 (Or.inl ⟨nth, hu⟩), (hAt_iff v1).2 (Or.inr ⟨k, nth, hu, by omega⟩)⟩
 have hdiff : ∀ k nth, k < N → sUsed W T xs k nth = true → (sRise W k nth = 1 ∨ sRise W k nth = -1) ∧ (H.getD (sTo W k nth).toNat 0 - H.getD k 0 = sRise W k nth ∨ (sBoth W T xs k nth = true ∧ H.getD (sTo W k nth).toNat 0 - H.getD k 0 = -3 * sRise W k nth)) := fun k nth hk hu => may_cases (hp.side k nth hk hu)
 refine ⟨hf, sgnL_len _ _ _ _ _ _, ?_, ?_, ?_, ?_, ?_, ?_⟩
 · intro k hk ha
   rw [sgnL_get hk, ha]; rfl
 · intro k hk ha
   have := hH.bd k hk ha
   rw [sgnL_get hk, ha, if_pos rfl]
   cases up <;> simp only [Bool.false_eq_true, if_false, if_true] <;> omega
 · rw [sgnL_get hfN, hfa, if_pos rfl, hp.first]; cases up <;> rfl
 · intro k nth hk hu
   obtain ⟨e1, e2, e3⟩ := hend k nth hk hu
   obtain ⟨hr, hd⟩ := hdiff k nth hk hu
   obtain ⟨_, hb⟩ := bnd_cases (W := W) (T := T) (xs := xs) k nth
   rw [sgnL_get e1, sgnL_get hk, e2, e3, if_pos rfl, if_pos rfl]
   unfold loW hiW
   generalize H.getD (sTo W k nth).toNat 0 = y at *
   generalize H.getD k 0 = x at *
   generalize loB W T xs (k, nth) = lo at *
   generalize hiB W T xs (k, nth) = hi at *
   generalize sRise W k nth = r at *
   generalize sBoth W T xs k nth = b at *
   rcases hb with ⟨rfl, rfl, rfl⟩ | ⟨rfl, ⟨rfl, rfl, rfl⟩ | ⟨rfl, rfl, rfl⟩⟩ <;> cases up <;> simp only [Bool.false_eq_true, if_false, if_true, false_and, or_false, true_and] at hd ⊢ <;> omega
 · rintro ⟨k, nth⟩
   obtain ⟨hr, hb⟩ := bnd_cases (W := W) (T := T) (xs := xs) k nth
   unfold loW hiW
   generalize loB W T xs (k, nth) = lo at *
   generalize hiB W T xs (k, nth) = hi at *
   generalize sRise W k nth = r at *
   generalize sBoth W T xs k nth = b at *
   rcases hb with ⟨rfl, rfl, rfl⟩ | ⟨rfl, ⟨rfl, rfl, rfl⟩ | ⟨rfl, rfl, rfl⟩⟩ <;> cases up <;> simp only [Bool.false_eq_true, if_false, if_true] <;> omega
 · intro E hE0 hE k0 hk0 ha0
   refine Classical.byContradiction fun hne => ?_
   classical
   obtain ⟨mv, hmv⟩ : ∃ mv : Int → Int, ∀ x, mv x = if up then x + 4 else x - 4 := ⟨_, fun _ => rfl⟩
   obtain ⟨K, hK⟩ : ∃ K : List Int, K = (List.range N).map fun k => if hAt W T xs k = true ∧ ¬ E k then mv (H.getD k 0) else H.getD k 0 := ⟨_, rfl⟩
   have hKg : ∀ k, k < N → K.getD k 0 = if hAt W T xs k = true ∧ ¬ E k then mv (H.getD k 0) else H.getD k 0 := by
    intro k hk; rw [hK]; simp [hk]
   have hKp : HokP W T xs K N fk := by
    refine ⟨hs, hN, hf, by rw [hK]; simp, ?_, ?_, ?_, ?_⟩
    · intro k hk ha
      rw [hKg k hk, if_neg (fun h => by rw [ha] at h; cases h.1)]
      exact hH.off k hk ha
    · intro k hk ha
      have := hH.bd k hk ha
      rw [hKg k hk]
      have hm1 := hmv (H.getD k 0)
      split
      · rw [hm1]; split <;> omega
      · omega
    · intro k nth hk hu
      obtain ⟨e1, e2, e3⟩ := hend k nth hk hu
      obtain ⟨hr, hd⟩ := hdiff k nth hk hu
      obtain ⟨_, hb⟩ := bnd_cases (W := W) (T := T) (xs := xs) k nth
      obtain ⟨t1, t2⟩ := hE k nth hk hu
      rw [sgnL_get e1, sgnL_get hk, e2, e3, if_pos rfl, if_pos rfl] at t1 t2
      unfold hiW at t1
      unfold loW at t2
      rw [hKg k hk, hKg _ e1]
      refine may_of ?_
      by_cases h1 : E k <;> by_cases h2 : E (sTo W k nth).toNat
      · rw [if_neg (fun h => h.2 h2), if_neg (fun h => h.2 h1)]; exact hd
      · rw [if_pos ⟨e3, h2⟩, if_neg (fun h => h.2 h1)]
        have t1' : ¬ _ := fun e => h2 (t1 h1 e)
        rw [hmv]
        clear t1 t2
        generalize H.getD (sTo W k nth).toNat 0 = y at *
        generalize H.getD k 0 = x at *
        generalize loB W T xs (k, nth) = lo at *
        generalize hiB W T xs (k, nth) = hi at *
        generalize sRise W k nth = r at *
        generalize sBoth W T xs k nth = b at *
        rcases hb with ⟨rfl, rfl, rfl⟩ | ⟨rfl, ⟨rfl, rfl, rfl⟩ | ⟨rfl, rfl, rfl⟩⟩ <;> cases up <;> simp only [Bool.false_eq_true, if_false, if_true, false_and, or_false, true_and] at hd t1' ⊢ <;> omega
      · rw [if_neg (fun h => h.2 h2), if_pos ⟨e2, h1⟩]
        have t2' : ¬ _ := fun e => h1 (t2 h2 e)
        rw [hmv]
        clear t1 t2
        generalize H.getD (sTo W k nth).toNat 0 = y at *
        generalize H.getD k 0 = x at *
        generalize loB W T xs (k, nth) = lo at *
        generalize hiB W T xs (k, nth) = hi at *
        generalize sRise W k nth = r at *
        generalize sBoth W T xs k nth = b at *
        rcases hb with ⟨rfl, rfl, rfl⟩ | ⟨rfl, ⟨rfl, rfl, rfl⟩ | ⟨rfl, rfl, rfl⟩⟩ <;> cases up <;> simp only [Bool.false_eq_true, if_false, if_true, false_and, or_false, true_and] at hd t2' ⊢ <;> omega
      · rw [if_pos ⟨e3, h2⟩, if_pos ⟨e2, h1⟩]
        have e : ∀ x y : Int, mv y - mv x = y - x := by intro x y; rw [hmv, hmv]; split <;> omega
        rw [e]; exact hd
    · rw [hKg fk hfN, if_neg (fun h => h.2 hE0)]; exact hp.first
   have hm := hmax _ K (tby_tok hKp) (tby_hts hKp) k0 hk0
   have hk0' : K.getD k0 0 = mv (H.getD k0 0) := by rw [hKg k0 hk0, if_pos ⟨ha0, hne⟩]
   rw [hk0', hmv] at hm
   cases up <;> simp only [Bool.false_eq_true, if_false, if_true] at hm <;> omega

def EdgeR (up : Bool) (W T : Int) (xs : List Bool) (X H : List Int) : Prop :=
 simpleB W T xs = true ∧ tok W T xs X = true ∧ HtsR W T xs X H ∧ ∀ M B, tok W T xs M = true → HtsR W T xs M B → ∀ k, k < H.length → if up then B.getD k 0 ≤ H.getD k 0 else H.getD k 0 ≤ B.getD k 0
theorem edge_unique {up : Bool} {W T : Int} {xs : List Bool} {X H X' H' : List Int} (h : EdgeR up W T xs X H) (h' : EdgeR up W T xs X' H') : X = X' ∧ H = H' := by
 obtain ⟨hs, ht, hH, hm⟩ := h
 obtain ⟨_, ht', hH', hm'⟩ := h'
 obtain ⟨hl, _⟩ := hts_len hs ht ht' hH hH'
 have e : H = H' := by
  refine ext_getD hl fun k hk => ?_
  have a := hm X' H' ht' hH' k hk
  have b := hm' X H ht hH k (by omega)
  cases up <;> simp only [Bool.false_eq_true, if_false, if_true] at a b <;> omega
 subst e
 exact ⟨hts_same hs ht ht' hH hH', rfl⟩
theorem fold_step (up : Bool) {W T : Int} {xs : List Bool} {X H M B : List Int} (hs : simpleB W T xs = true) (ht : tok W T xs X = true) (hH : HtsR W T xs X H) (htM : tok W T xs M = true) (hB : HtsR W T xs M B) :
 ∃ Y K, tlowF up W T xs H B = (Y, true) ∧ tok W T xs Y = true ∧ HtsR W T xs Y K ∧ Y.length = xs.length ∧ K.length = H.length ∧ (∀ k, k < H.length → if up then H.getD k 0 ≤ K.getD k 0 ∧ B.getD k 0 ≤ K.getD k 0 else K.getD k 0 ≤ H.getD k 0 ∧ K.getD k 0 ≤ B.getD k 0) := by
 obtain ⟨Y, h1, h2, h3, h4⟩ := low_mk up hs ht htM hH hB
 refine ⟨Y, _, h1, h2, h3, h4, bothL_len _ _ _ _, fun k hk => ?_⟩
 rw [both_get up H B hk]
 exact pick_le up _ _
theorem edge_exist (up : Bool) {W T : Int} {xs : List Bool} (hs : simpleB W T xs = true) : ∀ l : List (List Int), (∀ M ∈ l, tok W T xs M = true) → ∀ X H, tok W T xs X = true → HtsR W T xs X H → ∃ Y K, tok W T xs Y = true ∧ HtsR W T xs Y K ∧ K.length = H.length ∧ (∀ k, k < H.length → if up then H.getD k 0 ≤ K.getD k 0 else K.getD k 0 ≤ H.getD k 0) ∧ ∀ M ∈ l, ∀ B, HtsR W T xs M B → ∀ k, k < H.length → if up then B.getD k 0 ≤ K.getD k 0 else K.getD k 0 ≤ B.getD k 0
 | [], _, X, H, ht, hH => ⟨X, H, ht, hH, rfl, fun k _ => by cases up <;> simp, fun M hM => by cases hM⟩
 | M :: l, hl, X, H, ht, hH => by
   obtain ⟨B, hB⟩ := htsR_exist W T xs M
   obtain ⟨Y, K, _, h2, h3, _, h5, h6⟩ := fold_step up hs ht hH (hl M (List.mem_cons_self ..)) hB
   obtain ⟨Z, J, j1, j2, j3, j4, j5⟩ := edge_exist up hs l (fun N hN => hl N (List.mem_cons_of_mem _ hN)) Y K h2 h3
   refine ⟨Z, J, j1, j2, by rw [j3, h5], fun k hk => ?_, fun N hN C hC k hk => ?_⟩
   · have a := j4 k (by omega)
     have b := h6 k hk
     cases up <;> simp only [Bool.false_eq_true, if_false, if_true] at a b ⊢ <;> omega
   · rcases List.mem_cons.1 hN with rfl | hN'
     · have e := htsR_unique hC hB
       subst e
       have a := j4 k (by omega)
       have b := h6 k hk
       cases up <;> simp only [Bool.false_eq_true, if_false, if_true] at a b ⊢ <;> omega
     · exact j5 N hN' C hC k (by omega)
theorem edge_some (up : Bool) {W T : Int} {xs : List Bool} {L : List Int} (hs : simpleB W T xs = true) (ht : tok W T xs L = true) : ∃ X H, EdgeR up W T xs X H := by
 obtain ⟨A, hA⟩ := htsR_exist W T xs L
 obtain ⟨X, H, h1, h2, h3, _, h5⟩ := edge_exist up hs (allF W T xs) (fun M hM => by
  obtain ⟨i, hi, e⟩ := List.getElem_of_mem hM
  have := (allF_row (W := W) (T := T) (xs := xs) hi).2
  rw [show (allF W T xs).getD i [] = M by rw [← e]; simp [List.getD, hi]] at this
  exact this) L A ht hA
 exact ⟨X, H, hs, h1, h2, fun M B hM hB k hk => h5 M (mem_allF hM) B hB k (by omega)⟩
theorem edge_gt {up : Bool} {W T : Int} {xs : List Bool} {X H : List Int} {N fk : Nat} (hN : (W + 1) * (T + 1) = (N : Int)) (hf : frstK W T xs N = fk) (h : EdgeR up W T xs X H) : GT W T xs N fk (loW up W T xs) (hiW up W T xs) (sgnL up W T xs H N) := by
 obtain ⟨hs, ht, hH, hm⟩ := h
 have eN : ((W + 1) * (T + 1)).toNat = N := by omega
 have full : ∀ {M B : List Int}, tok W T xs M = true → HtsR W T xs M B → HtsOf W T xs M B N := by
  intro M B hM hB
  rcases hB with ⟨_, h⟩ | ⟨h, _⟩
  · rw [eN] at h; exact h
  · rw [hs, hM] at h; cases h
 have hHf := full ht hH
 refine gt_wide up hs hN hf ht hHf fun M B hM hB k hk => hm M B hM (Or.inl ⟨by rw [hs, hM]; rfl, by rw [eN]; exact hB⟩) k (by rw [hHf.len]; exact hk)
def LowRes (up : Bool) (W T : Int) (xs : List Bool) (X : List Int) (ok : Bool) : Prop :=
 (ok = true ∧ ∃ H, EdgeR up W T xs X H) ∨ (ok = false ∧ X = [] ∧ (simpleB W T xs = false ∨ ∀ L, tok W T xs L = false))
theorem lowRes_exist (up : Bool) (W T : Int) (xs : List Bool) : ∃ X ok, LowRes up W T xs X ok := by
 cases hs : simpleB W T xs
 · exact ⟨[], false, Or.inr ⟨rfl, rfl, Or.inl hs⟩⟩
 · cases hl : allF W T xs with
   | nil =>
     refine ⟨[], false, Or.inr ⟨rfl, rfl, Or.inr fun L => ?_⟩⟩
     cases ht : tok W T xs L
     · rfl
     · have := mem_allF ht; rw [hl] at this; cases this
   | cons M l =>
     have ht : tok W T xs M = true := by
      have := (allF_row (W := W) (T := T) (xs := xs) (i := 0) (by rw [hl]; simp)).2
      rw [hl] at this; exact this
     obtain ⟨X, H, h⟩ := edge_some up hs ht
     exact ⟨X, true, Or.inl ⟨rfl, H, h⟩⟩
theorem LowRes.len {up : Bool} {W T : Int} {xs : List Bool} {X : List Int} {ok : Bool} (h : LowRes up W T xs X ok) : X.length ≤ xs.length := by
 rcases h with ⟨_, H, _, ht, _⟩ | ⟨_, rfl, _⟩
 · rw [(lok_rv (tok_lok1 ht)).2.1]; exact Nat.le_refl _
 · simp
theorem hok_none {W T : Int} {xs : List Bool} (h : ∀ L, tok W T xs L = false) (H : List Int) : hokB W T xs H = false := by
 cases hc : hokB W T xs H
 · rfl
 · have := (tby_to hc).2.2.1
   rw [h] at this; cases this

end Go.Proofs.YthpifnjoiklgnaaGreat

namespace Go.Proofs.YthpifnjoiklgnaaGreat
open Go.RowKit
set_option linter.unusedVariables false
set_option maxRecDepth 100000
set_option linter.unusedSimpArgs false

def freeL (xs : List Bool) (L : List Int) : List Bool := tab xs.length (freeB xs L)
theorem freeL_len (xs : List Bool) (L : List Int) : (freeL xs L).length = xs.length := tab_len _ _
theorem freeL_at {xs : List Bool} {L : List Int} {i : Nat} (h : i < xs.length) : (freeL xs L).getD i false = freeB xs L i := tab_getD _ h
theorem dp_none {W T : Int} {ys : List Bool} (h : ∀ i, i < ys.length → ys.getD i false = false) : dpT W T ys = 1 := by
 unfold dpT
 rw [skip_eq ys.length (Nat.le_refl _) h, Nat.sub_self]
 rfl
theorem free_less {xs : List Bool} {L : List Int} {a o : Nat} {x y : Int} (ha : a < L.length) (ho : o < L.length) (hl : L.length = xs.length) (hx : x ≠ 0) (hy : y ≠ 0) : freeL xs ((L.set a x).set o y) = lessB (freeL xs L) [a, o] := by
 refine list_ext (by rw [freeL_len]; unfold lessB; rw [tab_len, freeL_len]) fun i hi => ?_
 rw [freeL_len] at hi
 rw [lessB_two, freeL_at hi, freeL_at hi]
 unfold freeB
 rw [getD_set2 ha ho]
 by_cases e1 : i = o
 · rw [if_pos e1, e1]
   have : (y == 0) = false := by simpa using hy
   rw [this]; simp
 · rw [if_neg e1]
   by_cases e2 : i = a
   · rw [if_pos e2, e2]
     have : (x == 0) = false := by simpa using hx
     rw [this]; simp
   · rw [if_neg e2]; simp [e1, e2]
theorem allL_dp {W T : Int} {xs : List Bool} : ∀ (f : Nat) (L : List Int), freeN xs L < f → lok W T xs L = true → (allL W T xs f L).length = dpT W T (freeL xs L)
 | 0, L, h, _ => absurd h (Nat.not_lt_zero _)
 | f + 1, L, hf, hl => by
   obtain ⟨hr, hlen, _⟩ := lok_rv hl
   obtain ⟨v1, v2, v3, v4, v5, _⟩ := rv_true hr
   have h36 : xs.length ≤ 36 := by
    have : W * T ≤ 6 * 6 := Int.mul_le_mul v2 v4 (by omega) (by omega)
    omega
   rcases first_cases xs L 0 xs.length with ⟨h0, hno⟩ | ⟨c, _, hc, h0, hfc, hno⟩
   · rw [allL_done h0 (by omega), dp_none]
     · rfl
     · intro i hi
       rw [freeL_len] at hi
       rw [freeL_at hi]; exact hno i (Nat.zero_le _) hi
   · rw [allL_succ h0 (by omega), List.length_append]
     rw [dp_split v1 v2 (c := c) (by rw [freeL_len]; exact v5) (by rw [freeL_len]; exact h36) (by rw [freeL_len]; exact hc) (fun i hi => by rw [freeL_at (by omega)]; exact hno i (Nat.zero_le _) hi) (by rw [freeL_at hc]; exact hfc)]
     have part : ∀ way : Int, way = 1 ∨ way = 2 → (if canLay W T xs L c way = true then allL W T xs f (laidL W T xs L c way) else []).length = withN W T (freeL xs L) c way := by
      intro way hw
      by_cases hcan : canLay W T xs L c way = true
      · rw [if_pos hcan]
        obtain ⟨kn, o, e, hk, ho, hne, hs, hfk, hfo, w1, w4, hb, el⟩ := canLay_at hr hlen hcan
        have : kn = c := by omega
        subst this
        rw [allL_dp f _ (by have := free_drop' hw hl hcan; omega) (lok_laid hl hcan)]
        rw [(can_of (ys := freeL xs L) (kn := kn) (on := o) (by rw [freeL_len]; exact hk) hs (by rw [freeL_at hk]; exact hfk) (by rw [freeL_at ho]; exact hfo)).2]
        rw [el, free_less (by omega) (by omega) hlen (by omega) (by unfold backI; omega)]
      · rw [if_neg hcan]
        by_cases ht : canTake W T (freeL xs L) c way = true
        · exfalso
          obtain ⟨kn, on, e, hs, hk, ho, hne, h1, h2, w1, w4, _⟩ := can_parts v1 (by rw [freeL_len]; exact v5) ht
          have : kn = c := by omega
          subst this
          rw [freeL_len] at hk ho
          rw [freeL_at hk] at h1
          rw [freeL_at ho] at h2
          exact hcan (canLay_of hr hk hs h1 h2).1
        · unfold withN
          rw [if_neg ht]; rfl
     rw [part 1 (Or.inl rfl), part 2 (Or.inr rfl)]
theorem allF_dp {W T : Int} {xs : List Bool} (h : rv W T xs = true) : (allF W T xs).length = dpT W T xs := by
 unfold allF
 rw [if_pos h, allL_dp _ _ (by have := freeN_le xs (bareL W T xs); omega) (by rw [lok_bareL]; exact h)]
 congr 1
 refine list_ext (freeL_len _ _) fun i hi => ?_
 rw [freeL_len] at hi
 rw [freeL_at hi]
 unfold freeB
 rw [bare_zero]
 simp
end Go.Proofs.YthpifnjoiklgnaaGreat

namespace Go.Proofs.YthpifnjoiklgnaaGreat
open Go.RowKit
set_option linter.unusedVariables false
set_option maxRecDepth 100000
set_option linter.unusedSimpArgs false

theorem allL_part {W T : Int} {xs : List Bool} {f : Nat} {M : List Int} {c : Nat} {way : Int} (hf : freeN xs M < f + 1) (hl : lok W T xs M = true) (hw : way = 1 ∨ way = 2) (hc : c < xs.length) :
 (if canLay W T xs M c way = true then allL W T xs f (laidL W T xs M c way) else []).length = withN W T (freeL xs M) c way := by
 obtain ⟨hr, hlen, _⟩ := lok_rv hl
 obtain ⟨v1, v2, v3, v4, v5, _⟩ := rv_true hr
 by_cases hcan : canLay W T xs M c way = true
 · rw [if_pos hcan]
   obtain ⟨kn, o, e, hk, ho, hne, hs, hfk, hfo, w1, w4, hb, el⟩ := canLay_at hr hlen hcan
   have : kn = c := by omega
   subst this
   rw [allL_dp f _ (by have := free_drop' hw hl hcan; omega) (lok_laid hl hcan)]
   rw [(can_of (ys := freeL xs M) (kn := kn) (on := o) (by rw [freeL_len]; exact hk) hs (by rw [freeL_at hk]; exact hfk) (by rw [freeL_at ho]; exact hfo)).2]
   rw [el, free_less (by omega) (by omega) hlen (by omega) (by unfold backI; omega)]
 · rw [if_neg hcan]
   by_cases ht : canTake W T (freeL xs M) c way = true
   · exfalso
     obtain ⟨kn, on, e, hs, hk, ho, hne, h1, h2, w1, w4, _⟩ := can_parts v1 (by rw [freeL_len]; exact v5) ht
     have : kn = c := by omega
     subst this
     rw [freeL_len] at hk ho
     rw [freeL_at hk] at h1
     rw [freeL_at ho] at h2
     exact hcan (canLay_of hr hk hs h1 h2).1
   · unfold withN
     rw [if_neg ht]; rfl
theorem getD_app {l m : List (List Int)} {i : Nat} : (l ++ m).getD i [] = if i < l.length then l.getD i [] else m.getD (i - l.length) [] := by
 by_cases h : i < l.length
 · rw [if_pos h]; simp [List.getD, List.getElem?_append_left h]
 · rw [if_neg h]; simp [List.getD, List.getElem?_append_right (Nat.le_of_not_lt h)]
theorem til_walk {W T : Int} {xs : List Bool} {r : Nat} (hr : rv W T xs = true) (hq : r < dpT W T xs) : ∀ k, k ≤ xs.length → ∃ f, freeN xs (tlS W T xs r k).M < f ∧ (allF W T xs).getD r [] = (allL W T xs f (tlS W T xs r k).M).getD (tlS W T xs r k).q []
 | 0, _ => by
   have e : bareL W T xs = List.replicate xs.length 0 := by unfold bareL; rw [if_pos hr]
   refine ⟨xs.length + 1, ?_, ?_⟩
   · have := freeN_le xs (tlS W T xs r 0).M; omega
   · unfold allF
     rw [if_pos hr, e]
     rfl
 | k + 1, hk => by
   obtain ⟨f, hf, hE⟩ := til_walk hr hq k (by omega)
   obtain ⟨h1, h2⟩ := tlS_inv hr hq k (by omega)
   cases hy : (tlS W T xs r k).ys.getD k false
   · rw [tlS_skip hy]; exact ⟨f, hf, hE⟩
   · obtain ⟨v1, v2, v3, v4, v5, _⟩ := rv_true hr
     have hkn : k < xs.length := by omega
     have hfk : freeB xs (tlS W T xs r k).M k = true := by rw [h1.free k hkn]; exact hy
     have hfl : freeL xs (tlS W T xs r k).M = (tlS W T xs r k).ys := by
      refine list_ext (by rw [freeL_len, h1.ly]) fun i hi => ?_
      rw [freeL_len] at hi
      rw [freeL_at hi]; exact h1.free i hi
     rcases f with _ | f
     · exact absurd hf (Nat.not_lt_zero _)
     have hfirst : firstI xs (tlS W T xs r k).M 0 xs.length = (k : Int) := by
      rcases first_cases xs (tlS W T xs r k).M 0 xs.length with ⟨_, hno⟩ | ⟨c, _, hc, h0, hfc, hno⟩
      · have := hno k (Nat.zero_le _) hkn
        rw [hfk] at this; cases this
      · rcases Nat.lt_trichotomy c k with e | e | e
        · rw [h1.free c hc, h1.done c e] at hfc; cases hfc
        · rw [h0, e]
        · have := hno k (Nat.zero_le _) e
          rw [hfk] at this; cases this
     have p1 := allL_part (f := f) (way := 1) hf h1.ok (Or.inl rfl) hkn
     have p2 := allL_part (f := f) (way := 2) hf h1.ok (Or.inr rfl) hkn
     rw [hfl] at p1 p2
     rw [allL_succ hfirst (by omega), getD_app, p1] at hE
     rw [tlS_go hy]
     have h36 : xs.length ≤ 36 := by
      have h1 : W * T ≤ 6 * 6 := Int.mul_le_mul v2 v4 (by omega) (by omega)
      omega
     have hsp := dp_split (W := W) (T := T) (ys := (tlS W T xs r k).ys) (c := k) v1 v2 (by rw [h1.ly]; exact v5) (by rw [h1.ly]; exact h36) (by rw [h1.ly]; omega) h1.done hy
     have free_lt : ∀ way : Int, way = 1 ∨ way = 2 → canLay W T xs (tlS W T xs r k).M k way = true → freeN xs (laidL W T xs (tlS W T xs r k).M k way) < f := fun way hw hcan => by
      have := free_drop' hw h1.ok hcan; omega
     by_cases hle : withN W T (tlS W T xs r k).ys k 1 ≤ (tlS W T xs r k).q
     · rw [if_pos hle]
       rw [if_neg (by omega)] at hE
       have hcan : canLay W T xs (tlS W T xs r k).M k 2 = true := by
        by_cases hc : canLay W T xs (tlS W T xs r k).M k 2 = true
        · exact hc
        · rw [if_neg hc] at p2
          have : (0 : Nat) = withN W T (tlS W T xs r k).ys k 2 := p2
          omega
       rw [if_pos hcan] at hE
       exact ⟨f, free_lt 2 (Or.inr rfl) hcan, hE⟩
     · rw [if_neg hle]
       rw [if_pos (by omega)] at hE
       have hcan : canLay W T xs (tlS W T xs r k).M k 1 = true := by
        by_cases hc : canLay W T xs (tlS W T xs r k).M k 1 = true
        · exact hc
        · rw [if_neg hc] at p1
          have : (0 : Nat) = withN W T (tlS W T xs r k).ys k 1 := p1
          omega
       rw [if_pos hcan] at hE
       exact ⟨f, free_lt 1 (Or.inl rfl) hcan, hE⟩
theorem til_at {W T : Int} {xs : List Bool} {r : Nat} (hr : rv W T xs = true) (hq : r < dpT W T xs) : tilOf W T xs r = ((allF W T xs).getD r [], true) := by
 obtain ⟨f, hf, hE⟩ := til_walk hr hq xs.length (Nat.le_refl _)
 obtain ⟨h1, h2⟩ := tlS_inv hr hq xs.length (Nat.le_refl _)
 have hn : ∀ j, j < xs.length → freeB xs (tlS W T xs r xs.length).M j = false := fun j hj => by rw [h1.free j hj]; exact h1.done j hj
 have hq0 : (tlS W T xs r xs.length).q = 0 := by
  rw [dp_none (fun i hi => h1.done i (by rw [← h1.ly]; exact hi))] at h2
  omega
 rcases f with _ | f
 · exact absurd hf (Nat.not_lt_zero _)
 rcases first_cases xs (tlS W T xs r xs.length).M 0 xs.length with ⟨h0, _⟩ | ⟨c, _, hc, _, hfc, _⟩
 · rw [allL_done h0 (by omega), hq0] at hE
   unfold tilOf
   rw [if_pos ⟨hr, by omega, by omega⟩, Int.toNat_natCast, hE]
   rfl
 · rw [hn c hc] at hfc; cases hfc
end Go.Proofs.YthpifnjoiklgnaaGreat

namespace Go.Proofs.YthpifnjoiklgnaaGreat
open Go.RowKit
set_option linter.unusedVariables false
set_option maxRecDepth 100000
set_option linter.unusedSimpArgs false

theorem til_some {W T : Int} {xs : List Bool} (hr : rv W T xs = true) {V : Int} (h0 : 0 ≤ V) (h1 : V < dpT W T xs) : ∃ C, tilOf W T xs V = (C, true) ∧ tok W T xs C = true ∧ C.length = xs.length := by
 obtain ⟨r, rfl⟩ := Int.eq_ofNat_of_zero_le h0
 have hq : r < dpT W T xs := by omega
 have hi : r < (allF W T xs).length := by rw [allF_dp hr]; exact hq
 exact ⟨_, til_at hr hq, (allF_row hi).2, (allF_row hi).1⟩
theorem dp_pos {W T : Int} {xs : List Bool} {L : List Int} (h : tok W T xs L = true) : 0 < dpT W T xs := by
 have hr : rv W T xs = true := (lok_rv (tok_lok1 h)).1
 have hm := mem_allF h
 have : 0 < (allF W T xs).length := by
  rcases Nat.eq_zero_or_pos (allF W T xs).length with e | e
  · rw [List.eq_nil_of_length_eq_zero e] at hm; cases hm
  · exact e
 rw [allF_dp hr] at this; exact this
end Go.Proofs.YthpifnjoiklgnaaGreat

namespace Go.Proofs.YthpifnjoiklgnaaGreat
open Go.RowKit
set_option linter.unusedVariables false
set_option maxRecDepth 100000
set_option linter.unusedSimpArgs false

theorem edge_rank (up : Bool) {W T : Int} {xs : List Bool} {X H : List Int} (h : EdgeR up W T xs X H) {k : Nat} (hk : k < dpT W T xs) :
 ∃ C B, tilOf W T xs k = (C, true) ∧ HtsR W T xs C B ∧ C.length = xs.length ∧ (if up then belowB B H = true else belowB H B = true) := by
 obtain ⟨hs, ht, hH, hm⟩ := h
 obtain ⟨C, h1, h2, h3⟩ := til_some (lok_rv (tok_lok1 ht)).1 (V := (k : Int)) (by omega) (by omega)
 obtain ⟨B, hB⟩ := htsR_exist W T xs C
 obtain ⟨hl, hp⟩ := hts_len hs ht h2 hH hB
 refine ⟨C, B, h1, hB, h3, ?_⟩
 have hh := hm C B h2 hB
 cases up
 · simp only [Bool.false_eq_true, if_false] at hh ⊢
   rw [below_iff hp hl]; exact hh
 · simp only [if_true] at hh ⊢
   rw [below_iff (by omega) hl.symm]; exact fun k hk => hh k (by omega)

end Go.Proofs.YthpifnjoiklgnaaGreat

namespace Go.Proofs.YthpifnjoiklgnaaGreat
open Go.RowKit
set_option linter.unusedVariables false
set_option maxRecDepth 100000
set_option linter.unusedSimpArgs false

def loR (b : Bool) (r : Int) : Int := if b then (if -3 * r < r then -3 * r else r) else r
def hiR (b : Bool) (r : Int) : Int := if b then (if r < -3 * r then -3 * r else r) else r
set_option maxHeartbeats 4000000 in
theorem boundsOf_any (k kt r cl wy : Int) (b : Bool) (w : World) (hr : r = 1 ∨ r = -1) :
 Calls Tryz.prog 42 #[.agg #[.int .i64 k, .int .i64 kt, .int .i64 r, .bool b, .int .i64 cl, .int .i64 wy]] w fun e w' => e = .returned (.tuple #[.int .i64 (loR b r), .int .i64 (hiR b r)]) ∧ Below w.heap.size w w' := by
 obtain ⟨wA, hwA⟩ : ∃ wA, wA = w.alloc (.cells #[.int .i64 k, .int .i64 kt, .int .i64 r, .bool b, .int .i64 cl, .int .i64 wy] 66) := ⟨_, rfl⟩
 have pA : wA.heap[w.heap.size]? = some (.cells #[.int .i64 k, .int .i64 kt, .int .i64 r, .bool b, .int .i64 cl, .int .i64 wy] 66 (0, 0)) := by rw [hwA]; exact heap_new _ _
 have bA : Below w.heap.size w wA := by rw [hwA]; exact below1 _ _
 obtain ⟨c0, c1, c2, c3, c4, c5⟩ := cells6 pA
 cases b
 · go_enter Tryz.func42, Tryz.ntmps42
   go_wp2_with fail
   rw [← hwA]; clear hwA
   go_wp2
   go_quiet (fail)
   go_wp2
   go_ret2
   first
    | exact ⟨rfl, bA⟩
    | exact ⟨rfl, below_seq bA (drew_below _)⟩
    | exact ⟨rfl, below_seq bA (drewN_below _ _)⟩
 · obtain ⟨j, hj⟩ : ∃ j, -3 * r = j := ⟨_, rfl⟩
   obtain ⟨lo, hlo⟩ : ∃ lo, loR true r = lo := ⟨_, rfl⟩
   obtain ⟨hi, hhi⟩ : ∃ hi, hiR true r = hi := ⟨_, rfl⟩
   rw [hlo, hhi]
   unfold loR at hlo
   unfold hiR at hhi
   simp only [if_true] at hlo hhi
   rw [hj] at hlo hhi
   have m1 : (if r < j then r else j) = lo := by rw [← hlo]; split <;> split <;> omega
   have m2 : (if j < r then r else j) = hi := by rw [← hhi]; split <;> split <;> omega
   have HJ := Lib.hid hj; clear hj
   have HR := Lib.hid hr; clear hr
   go_enter Tryz.func42, Tryz.ntmps42
   go_wp2_with fail
   rw [← hwA]; clear hwA
   go_region_held3 (fun w' => w'.cell? ⟨w.heap.size, 0, none⟩ = some (.int .i64 k) ∧ w'.cell? ⟨w.heap.size, 1, none⟩ = some (.int .i64 kt) ∧ w'.cell? ⟨w.heap.size, 2, none⟩ = some (.int .i64 r) ∧ w'.cell? ⟨w.heap.size, 3, none⟩ = some (.bool true) ∧ w'.cell? ⟨w.heap.size, 4, none⟩ = some (.int .i64 cl) ∧ w'.cell? ⟨w.heap.size, 5, none⟩ = some (.int .i64 wy))
    (go_keep)
    (first
      | (go_at_call 54; refine (jumpOf_any k kt r cl wy true _ HR.out).mono ?_; rintro e w2 ⟨rfl, hb2⟩; rw [HJ.out]; have p2 := heap_later p1 hb2; have b2 := below_seq b1 hb2; obtain ⟨e0, e1, e2, e3, e4, e5⟩ := cells6 p2)
      | (go_at_call 54; refine (jumpOf_any k kt r cl wy true _ HR.out).mono ?_; rintro e w1 ⟨rfl, hb1⟩; rw [HJ.out]; have p1 := heap_later (show wA.drew.heap[w.heap.size]? = some _ from pA) hb1; have b1 : Below w.heap.size w w1 := below_seq bA (below_seq (drew_below _) hb1); obtain ⟨d0, d1, d2, d3, d4, d5⟩ := cells6 p1))
   all_goals
    go_wp2
    go_ret2
    exact ⟨rfl, b2⟩
set_option maxHeartbeats 4000000 in
theorem least1_any (k kt r cl wy : Int) (b : Bool) (w : World) (hr : r = 1 ∨ r = -1) :
 Calls Tryz.prog 55 #[.agg #[.int .i64 k, .int .i64 kt, .int .i64 r, .bool b, .int .i64 cl, .int .i64 wy]] w fun e w' => e = .returned (.tuple #[.int .i64 (-(hiR b r)), .int .i64 (-(loR b r))]) ∧ Below w.heap.size w w' := by
 obtain ⟨wA, hwA⟩ : ∃ wA, wA = w.alloc (.cells #[.int .i64 k, .int .i64 kt, .int .i64 r, .bool b, .int .i64 cl, .int .i64 wy] 66) := ⟨_, rfl⟩
 have pA : wA.heap[w.heap.size]? = some (.cells #[.int .i64 k, .int .i64 kt, .int .i64 r, .bool b, .int .i64 cl, .int .i64 wy] 66 (0, 0)) := by rw [hwA]; exact heap_new _ _
 have bA : Below w.heap.size w wA := by rw [hwA]; exact below1 _ _
 obtain ⟨c0, c1, c2, c3, c4, c5⟩ := cells6 pA
 have hbd : (-3 ≤ loR b r ∧ loR b r ≤ 3) ∧ (-3 ≤ hiR b r ∧ hiR b r ≤ 3) := by unfold loR hiR; cases b <;> simp only [Bool.false_eq_true, if_false, if_true] <;> (try split) <;> (try split) <;> omega
 obtain ⟨lo, hlo⟩ : ∃ lo, loR b r = lo := ⟨_, rfl⟩
 obtain ⟨hi, hhi⟩ : ∃ hi, hiR b r = hi := ⟨_, rfl⟩
 rw [hlo, hhi] at hbd ⊢
 have w1 : IntKind.i64.wrap (-hi) = -hi := IntWalk.i64_in _ (by omega)
 have w2 : IntKind.i64.wrap (-lo) = -lo := IntWalk.i64_in _ (by omega)
 have HLO := Lib.hid hlo; clear hlo
 have HHI := Lib.hid hhi; clear hhi
 go_enter Tryz.func55, Tryz.ntmps55
 go_wp2_with fail
 rw [← hwA]; clear hwA
 refine (boundsOf_any k kt r cl wy b _ hr).mono ?_; rintro e w3 ⟨rfl, hb3⟩
 rw [HLO.out, HHI.out]
 go_wp2
 go_ret2
 exact ⟨rfl, below_seq bA hb3⟩

end Go.Proofs.YthpifnjoiklgnaaGreat
