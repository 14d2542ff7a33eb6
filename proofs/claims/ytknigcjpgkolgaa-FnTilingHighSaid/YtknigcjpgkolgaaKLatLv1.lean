/- Plain facts: the lattice of tilings: low and high ones, their order, and how far they are apart. -/
import Derived.Test.YtknigcjpgkolgaaKLatMv3
import Derived.Test.YtknigcjpgkolgaaKLatTv2
import Derived.Test.YtknigcjpgkolgaaKLatL
namespace Go.Proofs.Ytknigcjpgkolgaa
open Go.RowKit
set_option linter.unusedVariables false
set_option maxRecDepth 100000
set_option linter.unusedSimpArgs false

theorem tlowF_len (hi : Bool) (W T : Int) (xs : List Bool) (A B : List Int) : (tlowF hi W T xs A B).1.length ≤ xs.length := tbyF_len _ _ _ _

set_option maxHeartbeats 4000000 in
theorem iTilingHigh_ret (W T : Int) (a : Option Addr) (n cap : Nat) (xs : List Bool) (la0 : Option Addr) (m0 lcap0 : Nat) (L0 : List Int) (la1 : Option Addr) (m1 lcap1 : Nat) (L1 : List Int) (A B : List Int) (w : World) (hn : n = xs.length) (hn' : n ≤ 1048576) (hm0 : m0 = L0.length) (hm0' : m0 ≤ 1048576) (hm1 : m1 = L1.length) (hm1' : m1 ≤ 1048576) (ha : BoolsAt w a xs) (hl0 : IntsAt w la0 L0) (hl1 : IntsAt w la1 L1) (hA : HtsR W T xs L0 A) (hB : HtsR W T xs L1 B) :
    Calls Try.prog 39 #[.agg #[.int .i64 W, .int .i64 T, .slice a n cap], .slice la0 m0 lcap0, .slice la1 m1 lcap1] w (RetLT w (tlowF true W T xs A B).1.length (tlowF true W T xs A B).1 (tlowF true W T xs A B).2) := by
  have HN := Lib.hid hn; clear hn
  have HM0 := Lib.hid hm0; clear hm0
  have HM1 := Lib.hid hm1; clear hm1
  have HA := Lib.hid ha; clear ha
  have HL0 := Lib.hid hl0; clear hl0
  have HL1 := Lib.hid hl1; clear hl1
  have hla := hA.len; have hlb := hB.len
  have HHA := Lib.hid hA; have HHB := Lib.hid hB
  clear hA hB
  have hlf := bothF_len true W T xs A B
  obtain ⟨p, hp⟩ : ∃ p, p = A.length := ⟨_, rfl⟩
  obtain ⟨q, hq⟩ : ∃ q, q = B.length := ⟨_, rfl⟩
  obtain ⟨F, hF⟩ : ∃ F, F = bothF true W T xs A B := ⟨_, rfl⟩
  obtain ⟨r, hr⟩ : ∃ r, r = F.length := ⟨_, rfl⟩
  have HFF : Hid (tlowF true W T xs A B = tbyF W T xs F) := by show _ = _; rw [hF]; rfl
  rw [HFF.out]
  rw [← hF, ← hp, ← hr] at hlf
  rw [← hp] at hla; rw [← hq] at hlb
  have HP := Lib.hid hp; have HQ := Lib.hid hq; have HF := Lib.hid hF; have HR := Lib.hid hr
  clear hp hq hF hr
  have cA : ∀ w : World, RetL w A.length A = RetL w p A := fun w => by rw [HP.out]
  have cB : ∀ w : World, RetL w B.length B = RetL w q B := fun w => by rw [HQ.out]
  have cF : ∀ w : World, RetL w (bothF true W T xs A B).length (bothF true W T xs A B) = RetL w r F := fun w => by rw [← HF.out, HR.out]
  have HcA := Lib.hid cA; have HcB := Lib.hid cB; have HcF := Lib.hid cF
  clear cA cB cF
  have K1 : ∀ w', BoolsAt w' a xs → IntsAt w' la0 L0 → Calls Try.prog 15 #[.agg #[.int .i64 W, .int .i64 T, .slice a n cap], .slice la0 m0 lcap0] w' (RetL w' p A) := fun w' h1 h2 => by have := iHeightsOf_ret W T a n cap xs la0 m0 lcap0 L0 A w' HN.out hn' HM0.out hm0' h1 h2 HHA.out; rwa [HcA.out] at this
  have K2 : ∀ w', BoolsAt w' a xs → IntsAt w' la1 L1 → Calls Try.prog 15 #[.agg #[.int .i64 W, .int .i64 T, .slice a n cap], .slice la1 m1 lcap1] w' (RetL w' q B) := fun w' h1 h2 => by have := iHeightsOf_ret W T a n cap xs la1 m1 lcap1 L1 B w' HN.out hn' HM1.out hm1' h1 h2 HHB.out; rwa [HcB.out] at this
  have K3 : ∀ w' a1 c1 a2 c2, BoolsAt w' a xs → IntsAt w' a1 A → IntsAt w' a2 B → Calls Try.prog 31 #[.agg #[.int .i64 W, .int .i64 T, .slice a n cap], .slice a1 p c1, .slice a2 q c2] w' (RetL w' r F) := fun w' a1 c1 a2 c2 h1 h2 h3 => by have := iHeightsHigh_ret W T a n cap xs a1 p c1 A a2 q c2 B w' HN.out hn' HP.out (by omega) HQ.out (by omega) h1 h2 h3; rwa [HcF.out] at this
  have K4 : ∀ w' a3 c3, BoolsAt w' a xs → IntsAt w' a3 F → Calls Try.prog 21 #[.agg #[.int .i64 W, .int .i64 T, .slice a n cap], .slice a3 r c3] w' (RetLT w' (tbyF W T xs F).1.length (tbyF W T xs F).1 (tbyF W T xs F).2) := fun w' a3 c3 h1 h2 => iTilingBy_ret W T a n cap xs a3 r c3 F w' HN.out hn' HR.out (by omega) h1 h2
  have HK1 := Lib.hid K1; have HK2 := Lib.hid K2; have HK3 := Lib.hid K3; have HK4 := Lib.hid K4
  clear K1 K2 K3 K4
  generalize (tbyF W T xs F).2 = okv at HK4 ⊢
  generalize (tbyF W T xs F).1 = ys at HK4 ⊢
  obtain ⟨z, hz⟩ : ∃ z, z = ys.length := ⟨_, rfl⟩
  rw [← hz] at HK4 ⊢
  have HZ := Lib.hid hz; clear hz
  have PA : (w.alloc (.cells #[.int .i64 W, .int .i64 T, .slice a n cap] 25)).drew.heap[w.heap.size]? = some _ := heap_new w (.cells #[.int .i64 W, .int .i64 T, .slice a n cap] 25)
  have bA : Below w.heap.size w (w.alloc (.cells #[.int .i64 W, .int .i64 T, .slice a n cap] 25)).drew := below_seq (below1 _ _) (drew_below _)
  obtain ⟨c0, c1, c2⟩ := cells3 (heap_new w (.cells #[.int .i64 W, .int .i64 T, .slice a n cap] 25))
  go_enter Try.func39, Try.ntmps39
  go_wp2_with fail
  go_region_held3 (fun w' => w'.cell? ⟨w.heap.size, 0, none⟩ = some (.int .i64 W) ∧ w'.cell? ⟨w.heap.size, 1, none⟩ = some (.int .i64 T) ∧ w'.cell? ⟨w.heap.size, 2, none⟩ = some (.slice a n cap))
    (go_keep)
    (first
      | (go_at_call 21; refine (HK4.out _ _ _ (HA.out.below b3) (OwnsI.at o3)).mono ?_; rintro e w4 ⟨a4, k4, rfl, o4, hb4⟩; have b4 := below_seq b3 hb4; have p4 := heap_later p3 hb4; obtain ⟨g0, g1, g2⟩ := cells3 p4)
      | (go_at_call 31; refine (HK3.out _ _ _ _ _ (HA.out.below b2) (OwnsI.at (o1.below hb2)) (OwnsI.at o2)).mono ?_; rintro e w3 ⟨a3, k3, rfl, o3, hb3⟩; have b3 := below_seq b2 hb3; have p3 := heap_later p2 hb3; obtain ⟨f0, f1, f2⟩ := cells3 p3)
      | (go_at_call 15; refine (HK2.out _ (HA.out.below b1) (HL1.out.below b1)).mono ?_; rintro e w2 ⟨a2, k2, rfl, o2, hb2⟩; have b2 := below_seq b1 hb2; have p2 := heap_later p1 hb2; obtain ⟨e0, e1, e2⟩ := cells3 p2)
      | (go_at_call 15; refine (HK1.out _ (HA.out.below bA) (HL0.out.below bA)).mono ?_; rintro e w1 ⟨a1, k1, rfl, o1, hb1⟩; have b1 := below_seq bA hb1; have p1 := heap_later PA hb1; obtain ⟨d0, d1, d2⟩ := cells3 p1))
  have O4 := Lib.hid (o4.lower b3.size)
  have B4 := Lib.hid b4
  clear o1 o2 o3 o4 hb1 hb2 hb3 hb4 b1 b2 b3 b4
  go_wp2
  go_ret2
  exact ⟨a4, k4, rfl, O4.out, B4.out⟩
end Go.Proofs.Ytknigcjpgkolgaa

namespace Go.Proofs.Ytknigcjpgkolgaa
open Go.RowKit
set_option linter.unusedVariables false
set_option maxRecDepth 100000
set_option linter.unusedSimpArgs false

attribute [local go_sem] nil_nilV some_nilV

def belowL (A B : List Int) (k : Nat) : Bool := (List.range k).all fun i => decide (A.getD i 0 ≤ B.getD i 0)
theorem belowL_succ (A B : List Int) (k : Nat) : belowL A B (k + 1) = (belowL A B k && decide (A.getD k 0 ≤ B.getD k 0)) := by unfold belowL; rw [List.range_succ, List.all_append]; simp
theorem belowL_no {A B : List Int} {k n : Nat} (hk : k < n) (h : ¬ A.getD k 0 ≤ B.getD k 0) : belowL A B n = false := by
  unfold belowL
  rw [List.all_eq_false]
  exact ⟨k, List.mem_range.2 hk, by simpa using h⟩
/-- Whether heights are nowhere greater than others. -/
def belowB (A B : List Int) : Bool := decide (0 < A.length) && decide (0 < B.length) && belowL A B A.length
set_option maxHeartbeats 4000000 in
theorem iBelow_ret (W T : Int) (a : Option Addr) (n cap : Nat) (xs : List Bool) (la0 : Option Addr) (m0 lcap0 : Nat) (L0 : List Int) (la1 : Option Addr) (m1 lcap1 : Nat) (L1 : List Int) (A B : List Int) (w : World) (hn : n = xs.length) (hn' : n ≤ 1048576) (hm0 : m0 = L0.length) (hm0' : m0 ≤ 1048576) (hm1 : m1 = L1.length) (hm1' : m1 ≤ 1048576) (ha : BoolsAt w a xs) (hl0 : IntsAt w la0 L0) (hl1 : IntsAt w la1 L1) (hA : HtsR W T xs L0 A) (hB : HtsR W T xs L1 B) :
    Calls Try.prog 40 #[.agg #[.int .i64 W, .int .i64 T, .slice a n cap], .slice la0 m0 lcap0, .slice la1 m1 lcap1] w fun e w' => e = .returned (.bool (belowB A B)) ∧ Below w.heap.size w w' := by
  have HN := Lib.hid hn; clear hn
  have HM0 := Lib.hid hm0; clear hm0
  have HM1 := Lib.hid hm1; clear hm1
  have HA := Lib.hid ha; clear ha
  have HL0 := Lib.hid hl0; clear hl0
  have HL1 := Lib.hid hl1; clear hl1
  have HHA := Lib.hid hA; have HHB := Lib.hid hB
  have hla := hA.len; have hlb := hB.len
  have hsame := HtsR.same hA hB
  clear hA hB
  obtain ⟨p, hp⟩ : ∃ p, p = A.length := ⟨_, rfl⟩
  obtain ⟨q, hq⟩ : ∃ q, q = B.length := ⟨_, rfl⟩
  rw [← hp] at hla hsame; rw [← hq] at hlb hsame
  have HP := Lib.hid hp; have HQ := Lib.hid hq; have HSM := Lib.hid hsame
  clear hp hq hsame
  have PA : (w.alloc (.cells #[.int .i64 W, .int .i64 T, .slice a n cap] 25)).drew.heap[w.heap.size]? = some _ := heap_new w (.cells #[.int .i64 W, .int .i64 T, .slice a n cap] 25)
  have bA : Below w.heap.size w (w.alloc (.cells #[.int .i64 W, .int .i64 T, .slice a n cap] 25)).drew := below_seq (below1 _ _) (drew_below _)
  obtain ⟨c0, c1, c2⟩ := cells3 (heap_new w (.cells #[.int .i64 W, .int .i64 T, .slice a n cap] 25))
  go_enter Try.func40, Try.ntmps40
  go_wp2_with fail
  go_region_held3 (fun w' => w'.cell? ⟨w.heap.size, 0, none⟩ = some (.int .i64 W) ∧ w'.cell? ⟨w.heap.size, 1, none⟩ = some (.int .i64 T) ∧ w'.cell? ⟨w.heap.size, 2, none⟩ = some (.slice a n cap))
    (go_keep)
    (first
      | (go_at_call 15; refine (iHeightsOf_n W T a n cap xs la1 m1 lcap1 L1 B _ HN.out hn' HM1.out hm1' (HA.out.below (below_seq bA hb1)) (HL1.out.below (below_seq bA hb1)) HHB.out).mono ?_; rintro e w2 ⟨a2, q2, rfl, o2, n2, hb2⟩; have p2 := heap_later p1 hb2; obtain ⟨e0, e1, e2⟩ := cells3 p2)
      | (go_at_call 15; refine (iHeightsOf_n W T a n cap xs la0 m0 lcap0 L0 A _ HN.out hn' HM0.out hm0' (HA.out.below bA) (HL0.out.below bA) HHA.out).mono ?_; rintro e w1 ⟨a1, q1, rfl, o1, n1, hb1⟩; have p1 := heap_later PA hb1; obtain ⟨d0, d1, d2⟩ := cells3 p1))
  have B2 := Lib.hid (below_seq (below_seq bA hb1) hb2)
  have IA := Lib.hid (OwnsI.at (o1.below hb2))
  have IB := Lib.hid (OwnsI.at o2)
  rw [← HP.out] at n1 ⊢
  rw [← HQ.out] at n2 ⊢
  clear o1 o2 hb1 hb2 bA p1 p2 PA c0 c1 c2 d0 d1 d2 e0 e1 e2
  rcases n1 with ⟨rfl, rfl, rfl⟩ | ⟨hp0, g1, rfl⟩
  · have HF : Hid (belowB [] B = false) := rfl
    have hp0 : p = 0 := HP.out
    subst hp0
    clear n2
    go_wp2
    go_ret
    exact ⟨ret_bool HF.out.symm, B2.out⟩
  rcases n2 with ⟨rfl, rfl, rfl⟩ | ⟨hq0, g2, rfl⟩
  · have HF : Hid (belowB A [] = false) := by show _ = _; unfold belowB; simp
    have hq0 : q = 0 := HQ.out
    subst hq0
    go_wp2
    go_ret
    exact ⟨ret_bool HF.out.symm, B2.out⟩
  have hpq := HSM.out hp0 hq0
  subst hpq
  clear HSM
  go_wp2_with fail
  go_loopw [25] (fun i wr => ∃ k : Nat, k ≤ p ∧ i = .int .i64 k ∧ belowL A B k = true ∧ IntsAt wr (some ⟨g1, 0, none⟩) A ∧ IntsAt wr (some ⟨g2, 0, none⟩) B ∧ Below w.heap.size w wr) (fun i _ => p - (intOf i).toNat)
  case atStart => exact ⟨0, Nat.zero_le _, rfl, rfl, IA.out, IB.out, B2.out⟩
  case round =>
    clear IA IB B2
    rename World => wo
    obtain ⟨k, hk, rfl, hbl, ia, ib, bo⟩ := hrel
    have HBL := Lib.hid hbl; have IA := Lib.hid ia; have IB := Lib.hid ib; have BO := Lib.hid bo
    clear hbl ia ib bo
    by_cases hlt : k < p
    · have hltq := hlt
      have hx := IA.out.cellAt (i := k) (by rw [← HP.out]; exact hlt)
      have hy := IB.out.cellAt (i := k) (by rw [← HQ.out]; exact hltq)
      rw [Nat.zero_add] at hx hy
      have xb := HHA.out.entry (k := k) (by rw [← HP.out]; exact hlt)
      have yb := HHB.out.entry (k := k) (by rw [← HQ.out]; exact hltq)
      have hsc := belowL_succ A B k
      have hno := fun h => belowL_no (A := A) (B := B) (n := p) hlt h
      obtain ⟨x, hxx⟩ : ∃ x, x = A.getD k 0 := ⟨_, rfl⟩
      obtain ⟨y, hyy⟩ : ∃ y, y = B.getD k 0 := ⟨_, rfl⟩
      rw [← hxx] at hx xb hsc hno; rw [← hyy] at hy yb hsc hno
      clear hxx hyy hltq
      have e1 : (k : Int) < p := by omega
      by_cases h : y < x
      · have HF : Hid (belowB A B = false) := by show _ = _; unfold belowB; rw [← HP.out, hno (by omega)]; simp
        clear hno hsc
        go_wp2
        go_ret
        exact ⟨ret_bool HF.out.symm, BO.out⟩
      · have HT : Hid (belowL A B (k + 1) = true) := by show _ = _; rw [hsc, HBL.out, decide_eq_true (by omega)]; rfl
        have h' : x ≤ y := by omega
        clear hno hsc h
        go_wp2
        go_roundw
        case rel => exact ⟨k + 1, by omega, by go_num, HT.out, IA.out, IB.out, BO.out⟩
        case measure => simp [intOf]; omega
    · obtain rfl : k = p := by omega
      have HT : Hid (belowB A B = true) := by
        show _ = _; unfold belowB
        rw [← HP.out, ← HQ.out, decide_eq_true hp0, HBL.out]; rfl
      go_wp2
      go_ret
      exact ⟨ret_bool HT.out.symm, BO.out⟩

end Go.Proofs.Ytknigcjpgkolgaa

namespace Go.Proofs.Ytknigcjpgkolgaa
open Go.RowKit
set_option linter.unusedVariables false
set_option maxRecDepth 100000
set_option linter.unusedSimpArgs false

section
variable {W T : Int} {xs : List Bool} {L M A B : List Int}
theorem low_ok (hi : Bool) (hA : HtsR W T xs L A) (hB : HtsR W T xs M B) (h : (tlowF hi W T xs A B).2 = true) : simpleB W T xs = true ∧ tok W T xs L = true ∧ tok W T xs M = true := by
  unfold tlowF at h
  rw [tbyF_ok] at h
  have hp : 0 < (bothF hi W T xs A B).length := by
    rcases Nat.eq_zero_or_pos (bothF hi W T xs A B).length with e | e
    · rw [List.eq_nil_of_length_eq_zero e, hok_nil] at h; cases h
    · exact e
  obtain ⟨_, h1, h2, _⟩ := bothF_ok hi hp
  rcases hts_pos hA with ⟨e, _⟩ | ⟨_, hs, ht⟩
  · rw [List.eq_nil_of_length_eq_zero e, hok_nil] at h1; cases h1
  rcases hts_pos hB with ⟨e, _⟩ | ⟨_, _, ht'⟩
  · rw [List.eq_nil_of_length_eq_zero e, hok_nil] at h2; cases h2
  exact ⟨hs, ht, ht'⟩
theorem low_not (hi : Bool) (h : (tlowF hi W T xs A B).2 = false) : (tlowF hi W T xs A B).1 = [] := by
  unfold tlowF at h ⊢
  rw [tbyF_ok] at h
  rw [tby_no h]
end
theorem belowL_iff {A B : List Int} {n : Nat} : belowL A B n = true ↔ ∀ k, k < n → A.getD k 0 ≤ B.getD k 0 := by
  unfold belowL
  rw [List.all_eq_true]
  constructor
  · intro h k hk; have := h k (List.mem_range.2 hk); simpa using this
  · intro h k hk; have := h k (List.mem_range.1 hk); simpa using this
theorem below_iff {A B : List Int} (h0 : 0 < A.length) (h : A.length = B.length) : belowB A B = true ↔ ∀ k, k < A.length → A.getD k 0 ≤ B.getD k 0 := by
  unfold belowB
  rw [decide_eq_true h0, decide_eq_true (show 0 < B.length by omega), Bool.true_and, Bool.true_and, belowL_iff]
theorem pick_le (hi : Bool) (x y : Int) : if hi then x ≤ pickI hi x y ∧ y ≤ pickI hi x y else pickI hi x y ≤ x ∧ pickI hi x y ≤ y := by
  unfold pickI
  cases hi
  · simp only [Bool.false_eq_true, if_false]; split <;> omega
  · simp only [if_true]; split <;> omega
end Go.Proofs.Ytknigcjpgkolgaa
