/- Contracts of both functions Below and Apart. -/
import Derived.Test.YtgfeemghpdeblaaHtsI
namespace Go.Proofs.Ytgfeemghpdeblaa
open Go.RowKit
set_option linter.unusedVariables false
set_option maxRecDepth 100000
set_option linter.unusedSimpArgs false

theorem nil_nilV (w : World) : Sem.run Try.prog (binOp BinOp.eql 25 (.slice none 0 0) (.slice none 0 0)) w = Result.ok (.bool true) w := by kernel_rfl
theorem some_nilV (g n c : Nat) (w : World) : Sem.run Try.prog (binOp BinOp.eql 25 (.slice (some ⟨g, 0, none⟩) n c) (.slice none 0 0)) w = Result.ok (.bool false) w := by kernel_rfl
attribute [local go_sem] nil_nilV some_nilV

def belowL (A B : List Int) (k : Nat) : Bool := (List.range k).all fun i => decide (A.getD i 0 ≤ B.getD i 0)
theorem belowL_zero (A B : List Int) : belowL A B 0 = true := rfl
theorem belowL_succ (A B : List Int) (k : Nat) : belowL A B (k + 1) = (belowL A B k && decide (A.getD k 0 ≤ B.getD k 0)) := by unfold belowL; rw [List.range_succ, List.all_append]; simp
theorem belowL_no {A B : List Int} {k n : Nat} (hk : k < n) (h : ¬ A.getD k 0 ≤ B.getD k 0) : belowL A B n = false := by
  unfold belowL
  rw [List.all_eq_false]
  exact ⟨k, List.mem_range.2 hk, by simpa using h⟩
/-- Whether heights are nowhere greater than others. -/
def belowB (A B : List Int) : Bool := decide (0 < A.length) && decide (0 < B.length) && belowL A B A.length
def sumD (A B : List Int) : Nat → Int
  | 0 => 0
  | k + 1 => sumD A B k + (if A.getD k 0 - B.getD k 0 < B.getD k 0 - A.getD k 0 then B.getD k 0 - A.getD k 0 else A.getD k 0 - B.getD k 0)
def apartI (A B : List Int) : Int := if A.length = 0 ∨ B.length = 0 then -1 else sumD A B A.length / 4
theorem HtsR.entry {W T : Int} {xs : List Bool} {L H : List Int} (h : HtsR W T xs L H) {k : Nat} (hk : k < H.length) : -49 ≤ H.getD k 0 ∧ H.getD k 0 ≤ 99 := by
  rcases h with ⟨_, hH⟩ | ⟨_, rfl⟩
  · rw [hH.len] at hk
    cases ha : hAt W T xs k
    · have := hH.off k hk ha; omega
    · have := hH.bd k hk ha; omega
  · simp at hk
theorem HtsR.same {W T : Int} {xs : List Bool} {L H L' H' : List Int} (h : HtsR W T xs L H) (h' : HtsR W T xs L' H') (h0 : 0 < H.length) (h1 : 0 < H'.length) : H.length = H'.length := by
  rcases h with ⟨_, hH⟩ | ⟨_, rfl⟩
  · rcases h' with ⟨_, hH'⟩ | ⟨_, rfl⟩
    · rw [hH.len, hH'.len]
    · simp at h1
  · simp at h0
theorem sumD_bd {A B : List Int} (hA : ∀ k, k < A.length → -49 ≤ A.getD k 0 ∧ A.getD k 0 ≤ 99) (hB : ∀ k, k < A.length → -49 ≤ B.getD k 0 ∧ B.getD k 0 ≤ 99) : ∀ k : Nat, k ≤ A.length → 0 ≤ sumD A B k ∧ sumD A B k ≤ 148 * (k : Int)
  | 0, _ => by simp [sumD]
  | k + 1, hk => by
    obtain ⟨h0, h1⟩ := sumD_bd hA hB k (by omega)
    have a := hA k (by omega)
    have b := hB k (by omega)
    unfold sumD
    push_cast
    split <;> omega

set_option maxHeartbeats 4000000 in
theorem iHeightsOf_nil (W T : Int) (a : Option Addr) (n cap : Nat) (xs : List Bool) (la0 : Option Addr) (m lcap : Nat) (L : List Int) (w : World) (hn : n = xs.length) (hn' : n ≤ 1048576) (hm : m = L.length) (hm' : m ≤ 1048576) (ha : BoolsAt w a xs) (hl : IntsAt w la0 L) (hH : HtsR W T xs L []) :
    Calls Try.prog 15 #[.agg #[.int .i64 W, .int .i64 T, .slice a n cap], .slice la0 m lcap] w fun e w' => e = .returned (.slice none 0 0) ∧ Below w.heap.size w w' := by
  have HN := Lib.hid hn; clear hn
  have HM := Lib.hid hm; clear hm
  have HA := Lib.hid ha; clear ha
  have HL := Lib.hid hl; clear hl
  obtain ⟨wA, hwA⟩ : ∃ wA, wA = (w.alloc (.cells #[.int .i64 W, .int .i64 T, .slice a n cap] 28)).alloc (.cells #[.slice la0 m lcap] 25) := ⟨_, rfl⟩
  have pA : wA.heap[w.heap.size]? = some (.cells #[.int .i64 W, .int .i64 T, .slice a n cap] 28 (0, 0)) := by rw [hwA]; exact heap_later (heap_new w _) (below1 _ _)
  have qA : wA.heap[w.heap.size + 1]? = some (.cells #[.slice la0 m lcap] 25 (0, 0)) := by rw [hwA]; have := heap_new (w.alloc (.cells #[.int .i64 W, .int .i64 T, .slice a n cap] 28)) (.cells #[.slice la0 m lcap] 25); simpa using this
  have bA : Below w.heap.size w wA := by rw [hwA]; exact below_seq (below1 _ _) (below1 _ _)
  have one : ∀ {w' : World} {b : Nat}, w'.heap[b]? = some (.cells #[.slice la0 m lcap] 25 (0, 0)) → w'.cell? ⟨b, 0, none⟩ = some (.slice la0 m lcap) := fun h => by simp [World.cell?, h]
  cases h1 : simpleB W T xs
  · have HS := Lib.hid h1; clear h1 hH one
    obtain ⟨c0, c1, c2⟩ := cells3 pA
    go_enter Try.func15, Try.ntmps15
    go_wp2_with fail
    rw [← hwA]; clear hwA
    refine (iSimple_any _ _ _ _ _ xs _ HN.out hn' (HA.out.below bA)).mono ?_; rintro e w1 ⟨rfl, hb1⟩
    rw [HS.out]
    go_wp2
    go_ret
    exact ⟨rfl, below_seq bA hb1⟩
  have h2 : tok W T xs L = false := by
    rcases hH with ⟨q, hq⟩ | ⟨q, _⟩
    · rw [Bool.and_eq_true] at q
      obtain ⟨v1, v2, v3, v4, v5, v6⟩ := rv_true (simpleB_rv q.1)
      have hcb := corn_bd v1 v2 v3 v4
      have := hq.len; simp at this; omega
    · rw [h1] at q; simpa using q
  have HS := Lib.hid h1; have HT := Lib.hid h2; clear h1 h2 hH
  obtain ⟨c0, c1, c2⟩ := cells3 pA
  have c3 := one qA
  go_enter Try.func15, Try.ntmps15
  go_wp2_with fail
  rw [← hwA]; clear hwA
  refine (iSimple_any _ _ _ _ _ xs _ HN.out hn' (HA.out.below bA)).mono ?_; rintro e w1 ⟨rfl, hb1⟩
  rw [HS.out]
  have b1 := below_seq bA hb1
  obtain ⟨d0, d1, d2⟩ := cells3 (heap_later pA hb1)
  have d3 := one (heap_later qA hb1)
  clear one
  go_wp2_with fail
  refine (iTilingOk_any _ _ _ _ _ xs _ _ _ L _ HN.out hn' HM.out hm' (HA.out.below b1) (HL.out.below b1)).mono ?_; rintro e w2 ⟨rfl, hb2⟩
  rw [HT.out]
  go_wp2
  go_ret
  exact ⟨rfl, below_seq b1 hb2⟩
/-- The heights, and nil where there are none. -/
def RetN (w : World) (H : List Int) (e : Ending) (w' : World) : Prop := ∃ a cap, e = .returned (.slice a H.length cap) ∧ OwnsI w' w.heap.size (.slice a H.length cap) H ∧ ((H = [] ∧ a = none ∧ cap = 0) ∨ (0 < H.length ∧ ∃ g, a = some ⟨g, 0, none⟩)) ∧ Below w.heap.size w w'
theorem iHeightsOf_n (W T : Int) (a : Option Addr) (n cap : Nat) (xs : List Bool) (la0 : Option Addr) (m lcap : Nat) (L : List Int) (H : List Int) (w : World) (hn : n = xs.length) (hn' : n ≤ 1048576) (hm : m = L.length) (hm' : m ≤ 1048576) (ha : BoolsAt w a xs) (hl : IntsAt w la0 L) (hH : HtsR W T xs L H) :
    Calls Try.prog 15 #[.agg #[.int .i64 W, .int .i64 T, .slice a n cap], .slice la0 m lcap] w (RetN w H) := by
  cases H with
  | nil => exact (iHeightsOf_nil W T a n cap xs la0 m lcap L w hn hn' hm hm' ha hl hH).mono fun e w' ⟨h1, h2⟩ => ⟨none, 0, h1, OwnsI.nil _ _, Or.inl ⟨rfl, rfl, rfl⟩, h2⟩
  | cons x H =>
    refine (iHeightsOf_ret W T a n cap xs la0 m lcap L (x :: H) w hn hn' hm hm' ha hl hH).mono ?_
    rintro e w' ⟨a', c', h1, h2, h3⟩
    obtain ⟨g, pc, hv, _⟩ := h2.pos (by simp)
    simp only [Value.slice.injEq] at hv
    exact ⟨a', c', h1, h2, Or.inr ⟨by simp, g, hv.1⟩, h3⟩

set_option maxHeartbeats 4000000 in
theorem sBelow_ret (W T : Int) (a : Option Addr) (n cap : Nat) (xs : List Bool) (la0 : Option Addr) (m0 lcap0 : Nat) (L0 : List Int) (la1 : Option Addr) (m1 lcap1 : Nat) (L1 : List Int) (A B : List Int) (w : World) (hn : n = xs.length) (hn' : n ≤ 1048576) (hm0 : m0 = L0.length) (hm0' : m0 ≤ 1048576) (hm1 : m1 = L1.length) (hm1' : m1 ≤ 1048576) (ha : BoolsAt w a xs) (hl0 : IntsAt w la0 L0) (hl1 : IntsAt w la1 L1) (hA : HtsR W T xs L0 A) (hB : HtsR W T xs L1 B) :
    Calls Try.prog 21 #[.agg #[.int .i64 W, .int .i64 T, .slice a n cap], .slice la0 m0 lcap0, .slice la1 m1 lcap1] w fun e w' => e = .returned (.bool (belowB A B)) ∧ Below w.heap.size w w' := by
  have HN := Lib.hid hn; clear hn
  have HM0 := Lib.hid hm0; clear hm0
  have HM1 := Lib.hid hm1; clear hm1
  have HA := Lib.hid ha; clear ha
  have HL0 := Lib.hid hl0; clear hl0
  have HL1 := Lib.hid hl1; clear hl1
  have HHA := Lib.hid hA; have HHB := Lib.hid hB
  have hla := hA.len; have hlb := hB.len
  have hsame := HtsR.same hA hB
  clear hA hB
  obtain ⟨p, hp⟩ : ∃ p, p = A.length := ⟨_, rfl⟩
  obtain ⟨q, hq⟩ : ∃ q, q = B.length := ⟨_, rfl⟩
  rw [← hp] at hla hsame; rw [← hq] at hlb hsame
  have HP := Lib.hid hp; have HQ := Lib.hid hq; have HSM := Lib.hid hsame
  clear hp hq hsame
  go_enter Try.func21, Try.ntmps21
  go_wp2_with fail
  refine (sHeightsOf_ret W T a n cap xs la0 m0 lcap0 L0 A _ HN.out hn' HM0.out hm0' (HA.out.one _) (HL0.out.one _) HHA.out).mono ?_; rintro e w1 ⟨a1, c1, rfl, o1, hb1⟩
  have b1 := below_seq (below1 w (.cells #[.int .i64 W, .int .i64 T, .slice a n cap] 28)) hb1
  obtain ⟨d0, d1, d2⟩ := cells3 (heap_later (heap_new w (.cells #[.int .i64 W, .int .i64 T, .slice a n cap] 28)) hb1)
  clear hb1
  go_wp2_with fail
  refine (sHeightsOf_ret W T a n cap xs la1 m1 lcap1 L1 B _ HN.out hn' HM1.out hm1' (HA.out.below b1) (HL1.out.below b1) HHB.out).mono ?_; rintro e w2 ⟨a2, c2, rfl, o2, hb2⟩
  have B2 := Lib.hid (below_seq b1 hb2)
  have IA := Lib.hid (OwnsI.at (o1.below hb2))
  have IB := Lib.hid (OwnsI.at o2)
  rw [← HP.out, ← HQ.out]
  clear o1 o2 hb2 b1 d0 d1 d2
  go_wp2_with fail
  go_loopw [9] (fun i wr => ∃ k : Nat, k ≤ p ∧ k ≤ q ∧ i = .int .i64 k ∧ belowL A B k = true ∧ IntsAt wr a1 A ∧ IntsAt wr a2 B ∧ Below w.heap.size w wr) (fun i _ => p - (intOf i).toNat)
  case atStart => exact ⟨0, Nat.zero_le _, Nat.zero_le _, rfl, rfl, IA.out, IB.out, B2.out⟩
  case round =>
    clear IA IB B2
    rename World => wo
    obtain ⟨k, hk, hk', rfl, hbl, ia, ib, bo⟩ := hrel
    have HBL := Lib.hid hbl; have IA := Lib.hid ia; have IB := Lib.hid ib; have BO := Lib.hid bo
    clear hbl ia ib bo
    by_cases hlt : k < p
    · by_cases hltq : k < q
      · have hpq := HSM.out (by omega) (by omega)
        have xb := HHA.out.entry (k := k) (by rw [← HP.out]; exact hlt)
        have yb := HHB.out.entry (k := k) (by rw [← HQ.out]; exact hltq)
        obtain ⟨b1, o1, rfl, hx⟩ := IA.out k (by rw [← HP.out]; exact hlt)
        obtain ⟨b2, o2, rfl, hy⟩ := IB.out k (by rw [← HQ.out]; exact hltq)
        have hsc := belowL_succ A B k
        have hno := fun h => belowL_no (A := A) (B := B) (n := p) hlt h
        have IA2 := IA; have IB2 := IB
        obtain ⟨x, hxx⟩ : ∃ x, x = A.getD k 0 := ⟨_, rfl⟩
        obtain ⟨y, hyy⟩ : ∃ y, y = B.getD k 0 := ⟨_, rfl⟩
        rw [← hxx] at hx xb hsc hno; rw [← hyy] at hy yb hsc hno
        clear hxx hyy
        have e1 : (k : Int) < p := by omega
        have e2 : (k : Int) < q := by omega
        by_cases h : y < x
        · have HF : Hid (belowB A B = false) := by show _ = _; unfold belowB; rw [← HP.out, hno (by omega)]; simp
          clear hno hsc hpq
          go_wp2
          go_quiet (fail)
          go_wp2
          go_ret
          exact ⟨ret_bool HF.out.symm, below_drewN BO.out _⟩
        · have HT : Hid (belowL A B (k + 1) = true) := by show _ = _; rw [hsc, HBL.out, decide_eq_true (by omega)]; rfl
          have h' : x ≤ y := by omega
          clear hno hsc hpq h
          go_wp2
          go_quiet (fail)
          go_wp2
          go_roundw
          case rel => exact ⟨k + 1, by omega, by omega, by go_num, HT.out, IA.out.below (drewN_below _ _), IB.out.below (drewN_below _ _), below_drewN BO.out _⟩
          case measure => simp [intOf]; omega
      · have hq0 : q = 0 := by
          rcases Nat.eq_zero_or_pos q with h | h
          · exact h
          · have := HSM.out (by omega) h; omega
        have HF : Hid (belowB A B = false) := by show _ = _; unfold belowB; rw [← HQ.out, hq0]; simp
        have e1 : (k : Int) < p := by omega
        subst hq0
        obtain rfl : k = 0 := by omega
        go_wp2
        go_ret
        exact ⟨ret_bool HF.out.symm, BO.out⟩
    · have hkp : k = p := by omega
      have hpq : p = 0 ∨ q = 0 ∨ p = q := by
        rcases Nat.eq_zero_or_pos p with h | h
        · exact Or.inl h
        · rcases Nat.eq_zero_or_pos q with h2 | h2
          · exact Or.inr (Or.inl h2)
          · exact Or.inr (Or.inr (HSM.out h h2))
      by_cases hp0 : p = 0
      · have HF : Hid (belowB A B = false) := by show _ = _; unfold belowB; rw [← HP.out, hp0]; simp
        subst hkp
        subst hp0
        clear hpq
        go_wp2
        go_ret
        exact ⟨ret_bool HF.out.symm, BO.out⟩
      · have hq0 : q ≠ 0 := by omega
        have hpq2 : p = q := by rcases hpq with h | h | h; exact absurd h hp0; exact absurd h hq0; exact h
        have HT : Hid (belowB A B = true) := by
          show _ = _; unfold belowB
          rw [← HP.out, ← HQ.out, decide_eq_true (by omega), decide_eq_true (by omega), ← hkp, HBL.out]; rfl
        have p0 : 0 < k := by omega
        subst hkp
        subst hpq2
        clear hpq hp0 hq0
        go_wp2
        go_ret
        exact ⟨ret_bool HT.out.symm, BO.out⟩

set_option maxHeartbeats 4000000 in
theorem iBelow_ret (W T : Int) (a : Option Addr) (n cap : Nat) (xs : List Bool) (la0 : Option Addr) (m0 lcap0 : Nat) (L0 : List Int) (la1 : Option Addr) (m1 lcap1 : Nat) (L1 : List Int) (A B : List Int) (w : World) (hn : n = xs.length) (hn' : n ≤ 1048576) (hm0 : m0 = L0.length) (hm0' : m0 ≤ 1048576) (hm1 : m1 = L1.length) (hm1' : m1 ≤ 1048576) (ha : BoolsAt w a xs) (hl0 : IntsAt w la0 L0) (hl1 : IntsAt w la1 L1) (hA : HtsR W T xs L0 A) (hB : HtsR W T xs L1 B) :
    Calls Try.prog 22 #[.agg #[.int .i64 W, .int .i64 T, .slice a n cap], .slice la0 m0 lcap0, .slice la1 m1 lcap1] w fun e w' => e = .returned (.bool (belowB A B)) ∧ Below w.heap.size w w' := by
  have HN := Lib.hid hn; clear hn
  have HM0 := Lib.hid hm0; clear hm0
  have HM1 := Lib.hid hm1; clear hm1
  have HA := Lib.hid ha; clear ha
  have HL0 := Lib.hid hl0; clear hl0
  have HL1 := Lib.hid hl1; clear hl1
  have HHA := Lib.hid hA; have HHB := Lib.hid hB
  have hla := hA.len; have hlb := hB.len
  have hsame := HtsR.same hA hB
  clear hA hB
  obtain ⟨p, hp⟩ : ∃ p, p = A.length := ⟨_, rfl⟩
  obtain ⟨q, hq⟩ : ∃ q, q = B.length := ⟨_, rfl⟩
  rw [← hp] at hla hsame; rw [← hq] at hlb hsame
  have HP := Lib.hid hp; have HQ := Lib.hid hq; have HSM := Lib.hid hsame
  clear hp hq hsame
  have PA : (w.alloc (.cells #[.int .i64 W, .int .i64 T, .slice a n cap] 28)).drew.heap[w.heap.size]? = some _ := heap_new w (.cells #[.int .i64 W, .int .i64 T, .slice a n cap] 28)
  have bA : Below w.heap.size w (w.alloc (.cells #[.int .i64 W, .int .i64 T, .slice a n cap] 28)).drew := below_seq (below1 _ _) (drew_below _)
  obtain ⟨c0, c1, c2⟩ := cells3 (heap_new w (.cells #[.int .i64 W, .int .i64 T, .slice a n cap] 28))
  go_enter Try.func22, Try.ntmps22
  go_wp2_with fail
  go_region_held3 (fun w' => w'.cell? ⟨w.heap.size, 0, none⟩ = some (.int .i64 W) ∧ w'.cell? ⟨w.heap.size, 1, none⟩ = some (.int .i64 T) ∧ w'.cell? ⟨w.heap.size, 2, none⟩ = some (.slice a n cap))
    (go_keep)
    (first
      | (go_at_call 15; refine (iHeightsOf_n W T a n cap xs la1 m1 lcap1 L1 B _ HN.out hn' HM1.out hm1' (HA.out.below (below_seq bA hb1)) (HL1.out.below (below_seq bA hb1)) HHB.out).mono ?_; rintro e w2 ⟨a2, q2, rfl, o2, n2, hb2⟩; have p2 := heap_later p1 hb2; obtain ⟨e0, e1, e2⟩ := cells3 p2)
      | (go_at_call 15; refine (iHeightsOf_n W T a n cap xs la0 m0 lcap0 L0 A _ HN.out hn' HM0.out hm0' (HA.out.below bA) (HL0.out.below bA) HHA.out).mono ?_; rintro e w1 ⟨a1, q1, rfl, o1, n1, hb1⟩; have p1 := heap_later PA hb1; obtain ⟨d0, d1, d2⟩ := cells3 p1))
  have B2 := Lib.hid (below_seq (below_seq bA hb1) hb2)
  have IA := Lib.hid (OwnsI.at (o1.below hb2))
  have IB := Lib.hid (OwnsI.at o2)
  rw [← HP.out] at n1 ⊢
  rw [← HQ.out] at n2 ⊢
  clear o1 o2 hb1 hb2 bA p1 p2 PA c0 c1 c2 d0 d1 d2 e0 e1 e2
  rcases n1 with ⟨rfl, rfl, rfl⟩ | ⟨hp0, g1, rfl⟩
  · have HF : Hid (belowB [] B = false) := rfl
    have hp0 : p = 0 := HP.out
    subst hp0
    clear n2
    go_wp2
    go_ret
    exact ⟨ret_bool HF.out.symm, B2.out⟩
  rcases n2 with ⟨rfl, rfl, rfl⟩ | ⟨hq0, g2, rfl⟩
  · have HF : Hid (belowB A [] = false) := by show _ = _; unfold belowB; simp
    have hq0 : q = 0 := HQ.out
    subst hq0
    go_wp2
    go_ret
    exact ⟨ret_bool HF.out.symm, B2.out⟩
  have hpq := HSM.out hp0 hq0
  subst hpq
  clear HSM
  go_wp2_with fail
  go_loopw [25] (fun i wr => ∃ k : Nat, k ≤ p ∧ i = .int .i64 k ∧ belowL A B k = true ∧ IntsAt wr (some ⟨g1, 0, none⟩) A ∧ IntsAt wr (some ⟨g2, 0, none⟩) B ∧ Below w.heap.size w wr) (fun i _ => p - (intOf i).toNat)
  case atStart => exact ⟨0, Nat.zero_le _, rfl, rfl, IA.out, IB.out, B2.out⟩
  case round =>
    clear IA IB B2
    rename World => wo
    obtain ⟨k, hk, rfl, hbl, ia, ib, bo⟩ := hrel
    have HBL := Lib.hid hbl; have IA := Lib.hid ia; have IB := Lib.hid ib; have BO := Lib.hid bo
    clear hbl ia ib bo
    by_cases hlt : k < p
    · have hltq := hlt
      have hx := IA.out.cellAt (i := k) (by rw [← HP.out]; exact hlt)
      have hy := IB.out.cellAt (i := k) (by rw [← HQ.out]; exact hltq)
      rw [Nat.zero_add] at hx hy
      have xb := HHA.out.entry (k := k) (by rw [← HP.out]; exact hlt)
      have yb := HHB.out.entry (k := k) (by rw [← HQ.out]; exact hltq)
      have hsc := belowL_succ A B k
      have hno := fun h => belowL_no (A := A) (B := B) (n := p) hlt h
      obtain ⟨x, hxx⟩ : ∃ x, x = A.getD k 0 := ⟨_, rfl⟩
      obtain ⟨y, hyy⟩ : ∃ y, y = B.getD k 0 := ⟨_, rfl⟩
      rw [← hxx] at hx xb hsc hno; rw [← hyy] at hy yb hsc hno
      clear hxx hyy hltq
      have e1 : (k : Int) < p := by omega
      by_cases h : y < x
      · have HF : Hid (belowB A B = false) := by show _ = _; unfold belowB; rw [← HP.out, hno (by omega)]; simp
        clear hno hsc
        go_wp2
        go_ret
        exact ⟨ret_bool HF.out.symm, BO.out⟩
      · have HT : Hid (belowL A B (k + 1) = true) := by show _ = _; rw [hsc, HBL.out, decide_eq_true (by omega)]; rfl
        have h' : x ≤ y := by omega
        clear hno hsc h
        go_wp2
        go_roundw
        case rel => exact ⟨k + 1, by omega, by go_num, HT.out, IA.out, IB.out, BO.out⟩
        case measure => simp [intOf]; omega
    · obtain rfl : k = p := by omega
      have HT : Hid (belowB A B = true) := by
        show _ = _; unfold belowB
        rw [← HP.out, ← HQ.out, decide_eq_true hp0, HBL.out]; rfl
      go_wp2
      go_ret
      exact ⟨ret_bool HT.out.symm, BO.out⟩

set_option maxHeartbeats 4000000 in
theorem sApart_ret (W T : Int) (a : Option Addr) (n cap : Nat) (xs : List Bool) (la0 : Option Addr) (m0 lcap0 : Nat) (L0 : List Int) (la1 : Option Addr) (m1 lcap1 : Nat) (L1 : List Int) (A B : List Int) (w : World) (hn : n = xs.length) (hn' : n ≤ 1048576) (hm0 : m0 = L0.length) (hm0' : m0 ≤ 1048576) (hm1 : m1 = L1.length) (hm1' : m1 ≤ 1048576) (ha : BoolsAt w a xs) (hl0 : IntsAt w la0 L0) (hl1 : IntsAt w la1 L1) (hA : HtsR W T xs L0 A) (hB : HtsR W T xs L1 B) :
    Calls Try.prog 23 #[.agg #[.int .i64 W, .int .i64 T, .slice a n cap], .slice la0 m0 lcap0, .slice la1 m1 lcap1] w fun e w' => e = .returned (.int .i64 (apartI A B)) ∧ Below w.heap.size w w' := by
  have HN := Lib.hid hn; clear hn
  have HM0 := Lib.hid hm0; clear hm0
  have HM1 := Lib.hid hm1; clear hm1
  have HA := Lib.hid ha; clear ha
  have HL0 := Lib.hid hl0; clear hl0
  have HL1 := Lib.hid hl1; clear hl1
  have HHA := Lib.hid hA; have HHB := Lib.hid hB
  have hla := hA.len; have hlb := hB.len
  have hsame := HtsR.same hA hB
  clear hA hB
  obtain ⟨p, hp⟩ : ∃ p, p = A.length := ⟨_, rfl⟩
  obtain ⟨q, hq⟩ : ∃ q, q = B.length := ⟨_, rfl⟩
  rw [← hp] at hla hsame; rw [← hq] at hlb hsame
  have HP := Lib.hid hp; have HQ := Lib.hid hq; have HSM := Lib.hid hsame
  clear hp hq hsame
  go_enter Try.func23, Try.ntmps23
  go_wp2_with fail
  refine (sHeightsOf_ret W T a n cap xs la0 m0 lcap0 L0 A _ HN.out hn' HM0.out hm0' (HA.out.one _) (HL0.out.one _) HHA.out).mono ?_; rintro e w1 ⟨a1, c1, rfl, o1, hb1⟩
  have b1 := below_seq (below1 w (.cells #[.int .i64 W, .int .i64 T, .slice a n cap] 28)) hb1
  obtain ⟨d0, d1, d2⟩ := cells3 (heap_later (heap_new w (.cells #[.int .i64 W, .int .i64 T, .slice a n cap] 28)) hb1)
  clear hb1
  go_wp2_with fail
  refine (sHeightsOf_ret W T a n cap xs la1 m1 lcap1 L1 B _ HN.out hn' HM1.out hm1' (HA.out.below b1) (HL1.out.below b1) HHB.out).mono ?_; rintro e w2 ⟨a2, c2, rfl, o2, hb2⟩
  have B2 := Lib.hid (below_seq b1 hb2)
  have IA := Lib.hid (OwnsI.at (o1.below hb2))
  have IB := Lib.hid (OwnsI.at o2)
  have F1 : 0 < A.length → ∃ g, a1 = some ⟨g, 0, none⟩ := fun h => by obtain ⟨g, pc, hv, _⟩ := o1.pos h; simp only [Value.slice.injEq] at hv; exact ⟨g, hv.1⟩
  have F2 : 0 < B.length → ∃ g, a2 = some ⟨g, 0, none⟩ := fun h => by obtain ⟨g, pc, hv, _⟩ := o2.pos h; simp only [Value.slice.injEq] at hv; exact ⟨g, hv.1⟩
  rw [← HP.out, ← HQ.out]
  clear o1 o2 hb2 b1 d0 d1 d2
  have hpq : (p = 0 ∨ q = 0) ∨ (0 < p ∧ 0 < q ∧ p = q) := by
    rcases Nat.eq_zero_or_pos p with h | h
    · exact Or.inl (Or.inl h)
    · rcases Nat.eq_zero_or_pos q with h2 | h2
      · exact Or.inl (Or.inr h2)
      · exact Or.inr ⟨h, h2, HSM.out h h2⟩
  rw [← HP.out] at F1; rw [← HQ.out] at F2
  rcases hpq with hz | ⟨hp0, hq0, hpq⟩
  · clear F1 F2
    have HE : Hid (apartI A B = -1) := by show _ = _; unfold apartI; rw [← HP.out, ← HQ.out, if_pos hz]
    by_cases hp0 : p = 0
    · subst hp0
      clear hz
      go_wp2
      go_ret
      exact ⟨by rw [HE.out]; rfl, B2.out⟩
    · have hq0 : q = 0 := by omega
      have e1 : ((p : Int) == 0) = false := by simp; omega
      subst hq0
      clear hz
      go_wp2
      go_ret
      exact ⟨by rw [HE.out]; rfl, B2.out⟩
  subst hpq
  obtain ⟨g1, rfl⟩ := F1 hp0
  obtain ⟨g2, rfl⟩ := F2 hq0
  clear F1 F2 HSM
  go_wp2_with fail
  go_loopw [9, 10] (fun sv i wr => ∃ k : Nat, k ≤ p ∧ i = .int .i64 k ∧ sv = .int .i64 (sumD A B k) ∧ IntsAt wr (some ⟨g1, 0, none⟩) A ∧ IntsAt wr (some ⟨g2, 0, none⟩) B ∧ Below w.heap.size w wr) (fun _ i _ => p - (intOf i).toNat)
  case atStart => exact ⟨0, Nat.zero_le _, rfl, rfl, IA.out, IB.out, B2.out⟩
  case round =>
    clear IA IB B2
    rename World => wo
    obtain ⟨k, hk, rfl, rfl, ia, ib, bo⟩ := hrel
    have IA := Lib.hid ia; have IB := Lib.hid ib; have BO := Lib.hid bo
    clear ia ib bo
    by_cases hlt : k < p
    · have hx := IA.out.cellAt (i := k) (by rw [← HP.out]; exact hlt)
      have hy := IB.out.cellAt (i := k) (by rw [← HQ.out]; exact hlt)
      rw [Nat.zero_add] at hx hy
      have xb := HHA.out.entry (k := k) (by rw [← HP.out]; exact hlt)
      have yb := HHB.out.entry (k := k) (by rw [← HQ.out]; exact hlt)
      have hsd := sumD_bd (A := A) (B := B) (fun k h => HHA.out.entry h) (fun k h => HHB.out.entry (by rw [← HQ.out]; rw [← HP.out] at h; exact h)) k (by rw [← HP.out]; exact hk)
      have hsu : sumD A B (k + 1) = sumD A B k + (if A.getD k 0 - B.getD k 0 < B.getD k 0 - A.getD k 0 then B.getD k 0 - A.getD k 0 else A.getD k 0 - B.getD k 0) := rfl
      obtain ⟨s, hs⟩ : ∃ s, s = sumD A B k := ⟨_, rfl⟩
      obtain ⟨s2, hs2⟩ : ∃ s2, s2 = sumD A B (k + 1) := ⟨_, rfl⟩
      rw [← hs] at hsd hsu ⊢; rw [← hs2] at hsu
      obtain ⟨x, hxx⟩ : ∃ x, x = A.getD k 0 := ⟨_, rfl⟩
      obtain ⟨y, hyy⟩ : ∃ y, y = B.getD k 0 := ⟨_, rfl⟩
      rw [← hxx] at hx xb hsu; rw [← hyy] at hy yb hsu
      clear hxx hyy hs
      have e1 : (k : Int) < p := by omega
      have w1 : IntKind.i64.wrap (x - y) = x - y := by rw [IntKind.wrap_i64]; omega
      have w2 : IntKind.i64.wrap (y - x) = y - x := by rw [IntKind.wrap_i64]; omega
      obtain ⟨d, hd⟩ : ∃ d, (if x - y < y - x then y - x else x - y) = d := ⟨_, rfl⟩
      have hdb : 0 ≤ d ∧ d ≤ 148 := by rw [← hd]; split <;> omega
      rw [hd] at hsu
      have w3 : IntKind.i64.wrap (s + d) = s + d := by rw [IntKind.wrap_i64]; omega
      have HS2 : Hid (s + d = sumD A B (k + 1)) := by show _ = _; rw [← hs2, hsu]
      clear hsu hs2
      go_wp2_with fail
      go_region
      go_wp2
      go_roundw
      case rel => first
        | exact ⟨k + 1, by omega, by go_num, by rw [HS2.out], IA.out.below (drew_below _), IB.out.below (drew_below _), below_seq BO.out (drew_below _)⟩
        | exact ⟨k + 1, by omega, by go_num, by rw [HS2.out], IA.out.below (drewN_below _ _), IB.out.below (drewN_below _ _), below_seq BO.out (drewN_below _ _)⟩
      case measure => simp [intOf]; omega
    · obtain rfl : k = p := by omega
      have hsd := sumD_bd (A := A) (B := B) (fun k h => HHA.out.entry h) (fun k h => HHB.out.entry (by rw [← HQ.out]; rw [← HP.out] at h; exact h)) k (by rw [← HP.out]; exact Nat.le_refl _)
      obtain ⟨s, hs⟩ : ∃ s, s = sumD A B k := ⟨_, rfl⟩
      have HE : Hid (apartI A B = s / 4) := by
        show _ = _; unfold apartI
        rw [← HP.out, ← HQ.out, if_neg (by omega), hs]
      rw [← hs] at hsd ⊢
      clear hs
      go_wp2
      go_ret
      exact ⟨by rw [HE.out]; rfl, BO.out⟩

set_option maxHeartbeats 4000000 in
theorem iApart_ret (W T : Int) (a : Option Addr) (n cap : Nat) (xs : List Bool) (la0 : Option Addr) (m0 lcap0 : Nat) (L0 : List Int) (la1 : Option Addr) (m1 lcap1 : Nat) (L1 : List Int) (A B : List Int) (w : World) (hn : n = xs.length) (hn' : n ≤ 1048576) (hm0 : m0 = L0.length) (hm0' : m0 ≤ 1048576) (hm1 : m1 = L1.length) (hm1' : m1 ≤ 1048576) (ha : BoolsAt w a xs) (hl0 : IntsAt w la0 L0) (hl1 : IntsAt w la1 L1) (hA : HtsR W T xs L0 A) (hB : HtsR W T xs L1 B) :
    Calls Try.prog 24 #[.agg #[.int .i64 W, .int .i64 T, .slice a n cap], .slice la0 m0 lcap0, .slice la1 m1 lcap1] w fun e w' => e = .returned (.int .i64 (apartI A B)) ∧ Below w.heap.size w w' := by
  have HN := Lib.hid hn; clear hn
  have HM0 := Lib.hid hm0; clear hm0
  have HM1 := Lib.hid hm1; clear hm1
  have HA := Lib.hid ha; clear ha
  have HL0 := Lib.hid hl0; clear hl0
  have HL1 := Lib.hid hl1; clear hl1
  have HHA := Lib.hid hA; have HHB := Lib.hid hB
  have hla := hA.len; have hlb := hB.len
  have hsame := HtsR.same hA hB
  clear hA hB
  obtain ⟨p, hp⟩ : ∃ p, p = A.length := ⟨_, rfl⟩
  obtain ⟨q, hq⟩ : ∃ q, q = B.length := ⟨_, rfl⟩
  rw [← hp] at hla hsame; rw [← hq] at hlb hsame
  have HP := Lib.hid hp; have HQ := Lib.hid hq; have HSM := Lib.hid hsame
  clear hp hq hsame
  have PA : (w.alloc (.cells #[.int .i64 W, .int .i64 T, .slice a n cap] 28)).drew.heap[w.heap.size]? = some _ := heap_new w (.cells #[.int .i64 W, .int .i64 T, .slice a n cap] 28)
  have bA : Below w.heap.size w (w.alloc (.cells #[.int .i64 W, .int .i64 T, .slice a n cap] 28)).drew := below_seq (below1 _ _) (drew_below _)
  obtain ⟨c0, c1, c2⟩ := cells3 (heap_new w (.cells #[.int .i64 W, .int .i64 T, .slice a n cap] 28))
  go_enter Try.func24, Try.ntmps24
  go_wp2_with fail
  go_region_held3 (fun w' => w'.cell? ⟨w.heap.size, 0, none⟩ = some (.int .i64 W) ∧ w'.cell? ⟨w.heap.size, 1, none⟩ = some (.int .i64 T) ∧ w'.cell? ⟨w.heap.size, 2, none⟩ = some (.slice a n cap))
    (go_keep)
    (first
      | (go_at_call 15; refine (iHeightsOf_n W T a n cap xs la1 m1 lcap1 L1 B _ HN.out hn' HM1.out hm1' (HA.out.below (below_seq bA hb1)) (HL1.out.below (below_seq bA hb1)) HHB.out).mono ?_; rintro e w2 ⟨a2, q2, rfl, o2, n2, hb2⟩; have p2 := heap_later p1 hb2; obtain ⟨e0, e1, e2⟩ := cells3 p2)
      | (go_at_call 15; refine (iHeightsOf_n W T a n cap xs la0 m0 lcap0 L0 A _ HN.out hn' HM0.out hm0' (HA.out.below bA) (HL0.out.below bA) HHA.out).mono ?_; rintro e w1 ⟨a1, q1, rfl, o1, n1, hb1⟩; have p1 := heap_later PA hb1; obtain ⟨d0, d1, d2⟩ := cells3 p1))
  have B2 := Lib.hid (below_seq (below_seq bA hb1) hb2)
  have IA := Lib.hid (OwnsI.at (o1.below hb2))
  have IB := Lib.hid (OwnsI.at o2)
  rw [← HP.out] at n1 ⊢
  rw [← HQ.out] at n2 ⊢
  clear o1 o2 hb1 hb2 bA p1 p2 PA c0 c1 c2 d0 d1 d2 e0 e1 e2
  rcases n1 with ⟨rfl, rfl, rfl⟩ | ⟨hp0, g1, rfl⟩
  · have HF : Hid (apartI [] B = -1) := rfl
    have hp0 : p = 0 := HP.out
    subst hp0
    clear n2
    go_wp2
    go_ret
    exact ⟨by rw [HF.out]; rfl, B2.out⟩
  rcases n2 with ⟨rfl, rfl, rfl⟩ | ⟨hq0, g2, rfl⟩
  · have HF : Hid (apartI A [] = -1) := by show _ = _; unfold apartI; simp
    have hq0 : q = 0 := HQ.out
    subst hq0
    go_wp2
    go_ret
    exact ⟨by rw [HF.out]; rfl, B2.out⟩
  have hpq := HSM.out hp0 hq0
  subst hpq
  clear HSM
  go_wp2_with fail
  go_loopw [9, 26] (fun sv i wr => ∃ k : Nat, k ≤ p ∧ i = .int .i64 k ∧ sv = .int .i64 (sumD A B k) ∧ IntsAt wr (some ⟨g1, 0, none⟩) A ∧ IntsAt wr (some ⟨g2, 0, none⟩) B ∧ Below w.heap.size w wr) (fun _ i _ => p - (intOf i).toNat)
  case atStart => exact ⟨0, Nat.zero_le _, rfl, rfl, IA.out, IB.out, B2.out⟩
  case round =>
    clear IA IB B2
    rename World => wo
    obtain ⟨k, hk, rfl, rfl, ia, ib, bo⟩ := hrel
    have IA := Lib.hid ia; have IB := Lib.hid ib; have BO := Lib.hid bo
    clear ia ib bo
    by_cases hlt : k < p
    · have hx := IA.out.cellAt (i := k) (by rw [← HP.out]; exact hlt)
      have hy := IB.out.cellAt (i := k) (by rw [← HQ.out]; exact hlt)
      rw [Nat.zero_add] at hx hy
      have xb := HHA.out.entry (k := k) (by rw [← HP.out]; exact hlt)
      have yb := HHB.out.entry (k := k) (by rw [← HQ.out]; exact hlt)
      have hsd := sumD_bd (A := A) (B := B) (fun k h => HHA.out.entry h) (fun k h => HHB.out.entry (by rw [← HQ.out]; rw [← HP.out] at h; exact h)) k (by rw [← HP.out]; exact hk)
      have hsu : sumD A B (k + 1) = sumD A B k + (if A.getD k 0 - B.getD k 0 < B.getD k 0 - A.getD k 0 then B.getD k 0 - A.getD k 0 else A.getD k 0 - B.getD k 0) := rfl
      obtain ⟨s, hs⟩ : ∃ s, s = sumD A B k := ⟨_, rfl⟩
      obtain ⟨s2, hs2⟩ : ∃ s2, s2 = sumD A B (k + 1) := ⟨_, rfl⟩
      rw [← hs] at hsd hsu ⊢; rw [← hs2] at hsu
      obtain ⟨x, hxx⟩ : ∃ x, x = A.getD k 0 := ⟨_, rfl⟩
      obtain ⟨y, hyy⟩ : ∃ y, y = B.getD k 0 := ⟨_, rfl⟩
      rw [← hxx] at hx xb hsu; rw [← hyy] at hy yb hsu
      clear hxx hyy hs
      have e1 : (k : Int) < p := by omega
      have w1 : IntKind.i64.wrap (x - y) = x - y := by rw [IntKind.wrap_i64]; omega
      have w2 : IntKind.i64.wrap (y - x) = y - x := by rw [IntKind.wrap_i64]; omega
      obtain ⟨d, hd⟩ : ∃ d, (if x - y < y - x then y - x else x - y) = d := ⟨_, rfl⟩
      have hdb : 0 ≤ d ∧ d ≤ 148 := by rw [← hd]; split <;> omega
      rw [hd] at hsu
      have w3 : IntKind.i64.wrap (s + d) = s + d := by rw [IntKind.wrap_i64]; omega
      have HS2 : Hid (s + d = sumD A B (k + 1)) := by show _ = _; rw [← hs2, hsu]
      clear hsu hs2
      go_wp2_with fail
      go_region
      go_wp2
      go_roundw
      case rel => first
        | exact ⟨k + 1, by omega, by go_num, by rw [HS2.out], IA.out.below (drew_below _), IB.out.below (drew_below _), below_seq BO.out (drew_below _)⟩
        | exact ⟨k + 1, by omega, by go_num, by rw [HS2.out], IA.out.below (drewN_below _ _), IB.out.below (drewN_below _ _), below_seq BO.out (drewN_below _ _)⟩
      case measure => simp [intOf]; omega
    · obtain rfl : k = p := by omega
      have hsd := sumD_bd (A := A) (B := B) (fun k h => HHA.out.entry h) (fun k h => HHB.out.entry (by rw [← HQ.out]; rw [← HP.out] at h; exact h)) k (by rw [← HP.out]; exact Nat.le_refl _)
      obtain ⟨s, hs⟩ : ∃ s, s = sumD A B k := ⟨_, rfl⟩
      have HE : Hid (apartI A B = s / 4) := by
        show _ = _; unfold apartI
        rw [← HP.out, ← HQ.out, if_neg (by omega), hs]
      rw [← hs] at hsd ⊢
      clear hs
      go_wp2
      go_ret
      exact ⟨by rw [HE.out]; rfl, BO.out⟩
end Go.Proofs.Ytgfeemghpdeblaa
