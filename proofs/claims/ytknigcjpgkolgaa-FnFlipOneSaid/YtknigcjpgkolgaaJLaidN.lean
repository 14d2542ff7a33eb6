/- Contracts of impl.countWay and of impl.LaidMany, impl.FlatMany. Merged of: LaidN, LaidNS. -/
import Derived.Test.YtknigcjpgkolgaaJFlipRise
import Derived.Test.YtknigcjpgkolgaaJRangeItv1
namespace Go.Proofs.Ytknigcjpgkolgaa
open Go.RowKit Go.Shelf
set_option linter.unusedVariables false
set_option maxRecDepth 100000
set_option linter.unusedSimpArgs false
attribute [local go_sem] Oper.semAt_some

/-- The caller's invariant bears what the statement and the iterator do: lo is where the iterator's blocks begin, B where the statement's begin. -/
def NCall (B lo : Nat) (I : Nat → List Int → World → Prop) : Prop :=
  ∀ hi pre A D row, I hi pre A → A.grownBy D row → (∀ r, row = some r → (lo ≤ r ∧ r < hi) ∨ (B ≤ r ∧ ∃ o : Obj, A.heap[r]? = some o ∧ o.isCells = false)) → I hi pre D
theorem NCall.put {B lo : Nat} {I : Nat → List Int → World → Prop} (h : NCall B lo I) {hi : Nat} {pre : List Int} {A : World} {l : Nat} {o : Obj} (o' : Obj) (hi' : I hi pre A) (hB : B ≤ l) (hl : A.heap[l]? = some o) (ho : o.isCells = false) : I hi pre (A.putObj l o') :=
  h hi pre A _ (some l) hi' (grownBy_putObj' A l o') (fun r e => by cases e; exact Or.inr ⟨hB, o, hl, ho⟩)

end Go.Proofs.Ytknigcjpgkolgaa

namespace Go.Proofs.Ytknigcjpgkolgaa
open Go.RowKit Go.Shelf
set_option linter.unusedVariables false
set_option maxRecDepth 100000
set_option linter.unusedSimpArgs false
attribute [local go_sem] Oper.semAt_some

end Go.Proofs.Ytknigcjpgkolgaa

namespace Go.Proofs.Ytknigcjpgkolgaa
open Go.RowKit
set_option linter.unusedVariables false
set_option maxRecDepth 100000
set_option linter.unusedSimpArgs false

theorem countP_setQ {n k : Nat} {R : Nat → Bool} (hk : k < n) (h : R k = false) : (List.range n).countP (fun j => if j = k then true else R j) = (List.range n).countP R + 1 := by
  induction n with
  | zero => omega
  | succ n ih =>
    rw [List.range_succ, List.countP_append, List.countP_append]
    simp only [List.countP_cons, List.countP_nil, Nat.zero_add]
    by_cases e : k = n
    · subst e
      have : (List.range k).countP (fun j => if j = k then true else R j) = (List.range k).countP R := List.countP_congr fun j hj => by
        have := List.mem_range.1 hj
        rw [if_neg (by omega)]
      rw [this, h]; simp
    · rw [ih (by omega), if_neg (show ¬ n = k by omega)]; omega
/-- In how many cells two lists differ, up to one. -/
def diffN (X L : List Int) (k : Nat) : Nat := (List.range k).countP fun i => X.getD i 0 != L.getD i 0
theorem diffN_succ (X L : List Int) (k : Nat) : diffN X L (k + 1) = diffN X L k + (if X.getD k 0 != L.getD k 0 then 1 else 0) := by
  unfold diffN
  rw [List.range_succ, List.countP_append]
  simp only [List.countP_cons, List.countP_nil, Nat.zero_add]
theorem diffN_le (X L : List Int) (k : Nat) : diffN X L k ≤ k := by
  unfold diffN
  have := List.countP_le_length (p := fun i => X.getD i 0 != L.getD i 0) (l := List.range k)
  rwa [List.length_range] at this
theorem flip_diff {W T : Int} {xs : List Bool} {L : List Int} {c : Int} (h : lok W T xs L = true) (hm : mayB W T L c = true) : diffN (flipL W T L c) L L.length = 4 := by
  obtain ⟨k, wn, hw, hb, hd, hs, hW⟩ := flip_vals h hm
  unfold diffN
  have e : (List.range L.length).countP (fun i => (flipL W T L c).getD i 0 != L.getD i 0) = (List.range L.length).countP (fun j => if j = k + wn + 1 then true else if j = k + wn then true else if j = k + 1 then true else if j = k then true else false) := by
    refine List.countP_congr fun j _ => ?_
    rcases hd with ⟨v1, v2, v3, v4, e⟩ | ⟨v1, v2, v3, v4, e⟩ <;> rw [e]
    · by_cases c1 : j = k + wn + 1
      · subst c1; rw [if_pos rfl, if_pos rfl, v4]; decide
      rw [if_neg c1, if_neg c1]
      by_cases c3 : j = k + wn
      · subst c3; rw [if_pos rfl, if_pos rfl, v3]; decide
      rw [if_neg c3, if_neg c3]
      by_cases c2 : j = k + 1
      · subst c2; rw [if_pos rfl, if_pos rfl, v2]; decide
      rw [if_neg c2, if_neg c2]
      by_cases c4 : j = k
      · subst c4; rw [if_pos rfl, if_pos rfl, v1]; decide
      rw [if_neg c4, if_neg c4]; simp
    · by_cases c1 : j = k + wn + 1
      · subst c1; rw [if_pos rfl, if_pos rfl, v4]; decide
      rw [if_neg c1, if_neg c1]
      by_cases c2 : j = k + 1
      · subst c2; rw [if_pos rfl, if_neg (by omega), if_pos rfl, v3]; decide
      rw [if_neg c2]
      by_cases c3 : j = k + wn
      · subst c3; rw [if_pos rfl, if_pos rfl, v2]; decide
      rw [if_neg c3, if_neg c3, if_neg c2]
      by_cases c4 : j = k
      · subst c4; rw [if_pos rfl, if_pos rfl, v1]; decide
      rw [if_neg c4, if_neg c4]; simp
  rw [e, countP_setQ hb (by rw [if_neg (by omega), if_neg (by omega), if_neg (by omega)]), countP_setQ (by omega) (by rw [if_neg (by omega), if_neg (by omega)]), countP_setQ (by omega) (by rw [if_neg (by omega)]), countP_setQ (by omega) rfl]
  simp
theorem way_two {A B : List Int} {a b n : Nat} (ha : a < n) (hb : b < n) (hab : a ≠ b) (h1 : A.getD a 0 = 1) (h2 : A.getD b 0 = 1) (h3 : B.getD a 0 ≠ 1) (h4 : B.getD b 0 ≠ 1) (h : ∀ j, j ≠ a → j ≠ b → (A.getD j 0 = 1 ↔ B.getD j 0 = 1)) : wayN A 1 n = wayN B 1 n + 2 := by
  unfold wayN
  have e : (List.range n).countP (fun i => A.getD i 0 == 1) = (List.range n).countP (fun j => if j = a then true else if j = b then true else B.getD j 0 == 1) := by
    refine List.countP_congr fun j _ => ?_
    by_cases c1 : j = a
    · subst c1; rw [if_pos rfl, h1]; simp
    rw [if_neg c1]
    by_cases c2 : j = b
    · subst c2; rw [if_pos rfl, h2]; simp
    rw [if_neg c2]
    simpa using h j c1 c2
  rw [e, countP_setQ ha (by rw [if_neg hab]; simpa using h3), countP_setQ hb (by simpa using h4)]
/-- Two dominoes more, or fewer, are flat. -/
theorem flip_flat {W T : Int} {xs : List Bool} {L : List Int} {c : Int} (h : lok W T xs L = true) (hm : mayB W T L c = true) :
    flatN W T xs (flipL W T L c) - flatN W T xs L = 2 ∨ flatN W T xs (flipL W T L c) - flatN W T xs L = -2 := by
  obtain ⟨k, wn, hw, hb, hd, hs, hW⟩ := flip_vals h hm
  unfold flatN
  rw [if_pos h, if_pos (lok_flip h c), flipL_len]
  rcases hd with ⟨v1, v2, v3, v4, e⟩ | ⟨v1, v2, v3, v4, e⟩
  · right
    have := way_two (A := L) (B := flipL W T L c) (a := k) (b := k + wn) (n := L.length) (by omega) (by omega) (by omega) v1 v3
      (by rw [e, if_neg (by omega), if_neg (by omega), if_neg (by omega), if_pos rfl]; decide) (by rw [e, if_neg (by omega), if_pos rfl]; decide)
      (fun j c1 c2 => by
        rw [e]
        by_cases d1 : j = k + wn + 1
        · subst d1; rw [if_pos rfl, v4]; simp
        rw [if_neg d1, if_neg c2]
        by_cases d2 : j = k + 1
        · subst d2; rw [if_pos rfl, v2]; simp
        rw [if_neg d2, if_neg c1])
    omega
  · left
    have := way_two (A := flipL W T L c) (B := L) (a := k) (b := k + wn) (n := L.length) (by omega) (by omega) (by omega)
      (by rw [e, if_neg (by omega), if_neg (by omega), if_neg (by omega), if_pos rfl]) (by rw [e, if_neg (by omega), if_neg (by omega), if_pos rfl]) (by rw [v1]; decide) (by rw [v2]; decide)
      (fun j c1 c2 => by
        rw [e]
        by_cases d1 : j = k + wn + 1
        · subst d1; rw [if_pos rfl, v4]; simp
        rw [if_neg d1]
        by_cases d2 : j = k + 1
        · subst d2; rw [if_pos rfl, v3]; simp
        rw [if_neg d2, if_neg c2, if_neg c1])
    omega

end Go.Proofs.Ytknigcjpgkolgaa

namespace Go.Proofs.Ytknigcjpgkolgaa
open Go.RowKit
set_option linter.unusedVariables false
set_option maxRecDepth 100000
set_option linter.unusedSimpArgs false

set_option maxHeartbeats 4000000 in
theorem drawFlipOne_any (cb : Option Addr) (n cap : Nat) (zs : List Int) (w : World) (hn : n = zs.length) (hn' : n ≤ 1048576) (hcap : n ≤ cap) (hb : BytesAt w cb zs) :
    Calls Try.prog 48 #[.slice cb n cap] w (DrawnRLK w) := by
  have HN := Lib.hid hn; clear hn
  have HB := Lib.hid hb; clear hb
  go_enter Try.func48, Try.ntmps48
  go_wp2_with fail
  refine (l20Open_any _ _ _ zs _ HN.out hn' hcap (HB.out.below (below1 _ _))).mono ?_; rintro e w1 ⟨rfl, r1, b1⟩
  have q1 := heap_later (heap_new w (.cells #[.int .i64 0, .int .i64 0, .slice none 0 0] 25)) b1
  have B1 := Lib.hid (below_seq (below1 w _) b1)
  have R1 : Hid (RD w1 (w.heap.size + 1) 0) := by show RD _ _ _; simpa using r1
  have l1 := heap_lt q1
  have l2 := R1.out.lt
  clear r1 b1
  go_wp2_with fail
  refine (l20Laid_any (w.heap.size + 1) 0 12 _ (by omega) (by omega) (by omega) R1.out).mono ?_; rintro e w2 ⟨W, T, a, m, c, xs, la, q, lcap, L, rfl, hm, h36, hs, o2, hq, hq36, i2, r2, g2⟩
  have q2 := heap_grown q1 g2 (by simp)
  have B2 := Lib.hid (below_grown B1.out g2 (Nat.le_refl _) (fun k e => by cases e; omega))
  have HM := Lib.hid hm
  have HQ := Lib.hid hq
  obtain ⟨wA, hwA⟩ : ∃ wA, wA = w2.alloc (.cells #[.int .i64 W, .int .i64 T, .slice a m c] 25) := ⟨_, rfl⟩
  have pA : wA.heap[w2.heap.size]? = some (.cells #[.int .i64 W, .int .i64 T, .slice a m c] 25 (0, 0)) := by rw [hwA]; exact heap_new _ _
  have qA : wA.heap[w.heap.size]? = some (.cells #[.int .i64 0, .int .i64 0, .slice none 0 0] 25 (0, 0)) := by rw [hwA]; exact heap_later q2 (below1 _ _)
  have BA : Hid (Below w.heap.size w wA) := by rw [hwA]; exact below_seq B2.out (below1 _ _)
  have OA : Hid (OwnsB wA w1.heap.size (.slice a m c) xs) := by rw [hwA]; exact o2.alloc _
  have RA : Hid (RD wA (w.heap.size + 1) 600) := by rw [hwA]; exact (r2.below (below1 _ _)).mono (by omega)
  have l3 : w.heap.size + 1 < w2.heap.size := r2.lt
  have IA : Hid (OwnsI wA w1.heap.size (.slice la q lcap) L) := by rw [hwA]; exact i2.alloc _
  clear o2 r2 g2 hm q2 hq i2
  obtain ⟨c0, c1, c2⟩ := cells3 pA
  have lA := heap_lt pA
  have n1 : w.heap.size ≠ w2.heap.size := by omega
  have n2 : w2.heap.size ≠ w.heap.size := by omega
  go_wp2_with fail
  rw [← hwA]
  clear hwA
  have P3 : wA.drew.heap[w2.heap.size]? = some _ := pA
  have Q3 : wA.drew.heap[w.heap.size]? = some _ := qA
  have OD : Hid (OwnsB wA.drew w1.heap.size (.slice a m c) xs) := Lib.hid OA.out
  have ID : Hid (IntsAt wA.drew la L) := Lib.hid (OwnsI.at IA.out)
  have RD' : Hid (RD wA.drew (w.heap.size + 1) 600) := Lib.hid RA.out
  go_region_held3 (fun w' => w'.cell? ⟨w2.heap.size, 0, none⟩ = some (.int .i64 W) ∧ w'.cell? ⟨w2.heap.size, 1, none⟩ = some (.int .i64 T) ∧ w'.cell? ⟨w2.heap.size, 2, none⟩ = some (.slice a m c))
    (go_keep)
    ((go_at_call 95; refine (l20Corner_any (w.heap.size + 1) 600 w1.heap.size W T a m c xs la q lcap L _ (by omega) HM.out (by omega) HQ.out (by omega) l2 OD.out ID.out RD'.out).mono ?_; rintro e w5 ⟨V, rfl, hV, r5, g5⟩; have p5 := heap_grown P3 g5 (by simp; omega); have q5 := heap_grown Q3 g5 (by simp); obtain ⟨c50, c51, c52⟩ := cells3 p5; obtain ⟨h50, h51, h52⟩ := cells3 q5; have f50 := free3 q5 0; have f51 := free3 q5 1; have f52 := free3 q5 2))
  have B6 := Lib.hid (below_grown (below_seq BA.out (drew_below _)) g5 (Nat.le_refl _) (fun k e => by cases e; omega))
  have O6 := Lib.hid (OwnsB.keptBy OD.out g5 (fun k e => by cases e; omega))
  have I6 := Lib.hid (OwnsI.keptBy (show OwnsI wA.drew _ _ _ from IA.out) g5 (fun k e => by cases e; omega))
  go_wp2
  refine bodyPost_ret (v := .tuple #[.agg #[.int .i64 W, .int .i64 T, .slice a m c], .slice la q lcap, .int .i64 V]) (by simp [results, Try.results48, go_sem, h50, h51, h52]) rfl ⟨W, T, a, m, c, xs, la, q, lcap, L, V, rfl, HM.out, h36, hs, ?_, HQ.out, hq36, ?_, hV, below_set3 B6.out (Nat.le_refl _) _ _ _⟩
  · exact (O6.out.set3 (by omega) _ _ _).lower (by omega)
  · exact (I6.out.set3 (by omega) _ _ _).lower (by omega)

end Go.Proofs.Ytknigcjpgkolgaa

namespace Go.Proofs.Ytknigcjpgkolgaa
open Go.RowKit
set_option linter.unusedVariables false
set_option maxRecDepth 100000
set_option linter.unusedSimpArgs false

theorem wayN_hit {L : List Int} {way : Int} {k : Nat} {v : Int} (hv : v = L.getD k 0) (h : (v == way) = true) : wayN L way (k + 1) = wayN L way k + 1 := by
  rw [wayN_succ, ← hv, h]; rfl
theorem wayN_miss {L : List Int} {way : Int} {k : Nat} {v : Int} (hv : v = L.getD k 0) (h : (v == way) = false) : wayN L way (k + 1) = wayN L way k := by
  rw [wayN_succ, ← hv, h]; rfl

set_option maxHeartbeats 1000000 in
theorem countWay_any (la : Option Addr) (m lcap : Nat) (L : List Int) (way : Int) (w : World) (hm : m = L.length) (hm' : m ≤ 1048576) (hl : IntsAt w la L) :
    Calls Try.prog 101 #[.slice la m lcap, .int .i64 way] w fun e w' => e = .returned (.int .i64 (wayN L way m)) ∧ w = w' := by
  have HM := Lib.hid hm; clear hm
  have HL := Lib.hid hl; clear hl
  go_enter Try.func101, Try.ntmps101
  go_wp2
  go_loop [5, 7, 10] (fun c _ i => ∃ k : Nat, k ≤ m ∧ i = .int .i64 k ∧ c = .int .i64 (wayN L way k)) (fun _ _ i => m - (intOf i).toNat)
  case atStart => exact ⟨0, Nat.zero_le _, rfl, rfl⟩
  case round =>
    obtain ⟨k, hk, rfl, rfl⟩ := hrel
    by_cases hlt : k < m
    · obtain ⟨lb, lo, rfl, hv⟩ := HL.out k (by rw [← HM.out]; exact hlt)
      obtain ⟨lk, hlk⟩ : ∃ lk, lk = L.getD k 0 := ⟨_, rfl⟩
      rw [← hlk] at hv
      have hc := wayN_le L way k
      cases hz : (lk == way)
      · have HZ := Lib.hid (wayN_miss hlk hz)
        clear hlk
        go_wp2
        go_round
        case rel => exact ⟨k + 1, by omega, by go_num, by rw [HZ.out]⟩
        case measure => simp [intOf]; omega
      · have HZ := Lib.hid (wayN_hit hlk hz)
        clear hlk
        go_wp2
        go_round
        case rel => exact ⟨k + 1, by omega, by go_num, by rw [HZ.out]; go_num⟩
        case measure => simp [intOf]; omega
    · obtain rfl : k = m := by omega
      go_wp2
      go_ret
      exact ⟨rfl, rfl⟩

set_option maxHeartbeats 1000000 in
theorem iFlatMany_any (W T : Int) (a : Option Addr) (n cap : Nat) (xs : List Bool) (la : Option Addr) (m lcap : Nat) (L : List Int) (w : World) (hn : n = xs.length) (hn' : n ≤ 1048576) (hm : m = L.length) (hm' : m ≤ 1048576) (ha : BoolsAt w a xs) (hl : IntsAt w la L) :
    Calls Try.prog 52 #[.agg #[.int .i64 W, .int .i64 T, .slice a n cap], .slice la m lcap] w fun e w' => e = .returned (.int .i64 (flatN W T xs L)) ∧ Below w.heap.size w w' := by
  have HN := Lib.hid hn; clear hn
  have HM := Lib.hid hm; clear hm
  have HA := Lib.hid ha; clear ha
  have HL := Lib.hid hl; clear hl
  cases h : lok W T xs L
  · have H := Lib.hid h; clear h
    go_enter Try.func52, Try.ntmps52
    go_wp2_with fail
    refine (iLaidOk_any _ _ _ _ _ xs _ _ _ L _ HN.out hn' HM.out hm' (HA.out.one _) (HL.out.one _)).mono ?_; rintro e w1 ⟨rfl, hb1⟩
    rw [H.out]
    go_wp2
    go_ret
    exact ⟨ret_int (by unfold flatN; rw [H.out]; rfl), below_seq (below1 _ _) hb1⟩
  · have H := Lib.hid h; clear h
    go_enter Try.func52, Try.ntmps52
    go_wp2_with fail
    refine (iLaidOk_any _ _ _ _ _ xs _ _ _ L _ HN.out hn' HM.out hm' (HA.out.one _) (HL.out.one _)).mono ?_; rintro e w1 ⟨rfl, hb1⟩
    have b1 := below_seq (below1 w _) hb1
    rw [H.out]
    go_wp2_with (go_at_call 101; refine (countWay_any _ _ _ L _ _ HM.out hm' (HL.out.below b1)).mono ?_; rintro e w2 ⟨rfl, rfl⟩)
    go_ret
    exact ⟨ret_int (by unfold flatN; rw [H.out, ← HM.out]; rfl), b1⟩

end Go.Proofs.Ytknigcjpgkolgaa

namespace Go.Proofs.Ytknigcjpgkolgaa
open Go.RowKit
set_option linter.unusedVariables false
set_option maxRecDepth 100000
set_option linter.unusedSimpArgs false

end Go.Proofs.Ytknigcjpgkolgaa
