/- The contract of spec.MakePuzzle. No statement is proved here. -/
import Derived.Test.YtpcajacekmidbaaJColr
namespace Go.Proofs.Ytpcajacekmidbaa
open Go.RowKit
set_option linter.unusedVariables false
set_option maxRecDepth 100000
set_option linter.unusedSimpArgs false

def digB (d : Int) : Bool := decide (0 ≤ d ∧ d ≤ 6)
/-- Whether the k-th entry of a list of numbers fits the k-th cell. -/
def pzAt (xs : List Bool) (D : List Int) (k : Nat) : Bool := if xs.getD k false then digB (D.getD k 0) else (D.getD k 0 == -1)
def pzN (xs : List Bool) (D : List Int) (k : Nat) : Bool := (List.range k).all (pzAt xs D)
def pzv (W T : Int) (xs : List Bool) (D : List Int) : Bool := rv W T xs && (D.length == xs.length) && pzN xs D D.length
theorem pzN_succ (xs : List Bool) (D : List Int) (k : Nat) : pzN xs D (k + 1) = (pzN xs D k && pzAt xs D k) := by
  unfold pzN; rw [List.range_succ, List.all_append]; simp
theorem pzN_at {xs : List Bool} {D : List Int} {k n : Nat} (hk : k < n) (h : pzN xs D n = true) : pzAt xs D k = true := by
  unfold pzN at h; exact List.all_eq_true.1 h k (List.mem_range.2 hk)
theorem pzv_no {W T : Int} {xs : List Bool} {D : List Int} {k : Nat} (hk : k < D.length) (h : pzAt xs D k = false) : pzv W T xs D = false := by
  cases hc : pzv W T xs D
  · rfl
  · simp only [pzv, Bool.and_eq_true] at hc
    rw [pzN_at hk hc.2] at h; cases h
theorem pzv_yes {W T : Int} {xs : List Bool} {D : List Int} (h : rv W T xs = true) (hl : D.length = xs.length) (hg : pzN xs D D.length = true) : pzv W T xs D = true := by
  unfold pzv; rw [h, hg, hl]; simp
theorem pzv_rv {W T : Int} {xs : List Bool} {D : List Int} (h : pzv W T xs D = true) : rv W T xs = true ∧ D.length = xs.length ∧ ∀ k, k < D.length → pzAt xs D k = true := by
  simp only [pzv, Bool.and_eq_true, beq_iff_eq] at h
  exact ⟨h.1.1, h.1.2, fun k hk => pzN_at hk h.2⟩
theorem pzAt_in {xs : List Bool} {D : List Int} {k : Nat} (h : xs.getD k false = true) : pzAt xs D k = digB (D.getD k 0) := by unfold pzAt; rw [h]; rfl
theorem pzAt_out {xs : List Bool} {D : List Int} {k : Nat} (h : xs.getD k false = false) : pzAt xs D k = (D.getD k 0 == -1) := by unfold pzAt; rw [h]; rfl

theorem digitOk_any (d : Int) (w : World) : Calls Try.prog 49 #[.int .i64 d] w fun e w' => e = .returned (.bool (digB d)) ∧ w' = w := by
  by_cases h1 : 0 ≤ d
  · by_cases h2 : d ≤ 6
    all_goals
      go_enter Try.func49, Try.ntmps49
      go_wp2
      go_ret
      exact ⟨ret_bool (by simp [digB, h1, h2]), rfl⟩
  · go_enter Try.func49, Try.ntmps49
    go_wp2
    go_ret
    exact ⟨ret_bool (by simp [digB]; omega), rfl⟩
theorem digitOk_is (d : Int) (w : World) {b : Bool} (h : digB d = b) : Calls Try.prog 49 #[.int .i64 d] w fun e w' => e = .returned (.bool b) ∧ w' = w := by subst h; exact digitOk_any d w
theorem digIn_is (d : Int) (w : World) {b : Bool} (h : digB d = b) : Calls Try.prog 51 #[.int .i64 d, .int .i64 0, .int .i64 6] w fun e w' => e = .returned (.bool b) ∧ w' = w := by
  subst h; exact (l1In_any d 0 6 w).mono fun _ _ ⟨a, b⟩ => ⟨a.trans rfl, b.symm⟩

set_option maxHeartbeats 2000000 in
theorem iPuzzleValid_any (W T : Int) (a : Option Addr) (n cap : Nat) (xs : List Bool) (la : Option Addr) (m lcap : Nat) (D : List Int) (w : World) (hn : n = xs.length) (hn' : n ≤ 1048576) (hm : m = D.length) (hm' : m ≤ 1048576) (ha : BoolsAt w a xs) (hl : IntsAt w la D) :
    Calls Try.prog 11 #[.agg #[.int .i64 W, .int .i64 T, .slice a n cap], .slice la m lcap] w fun e w' => e = .returned (.bool (pzv W T xs D)) ∧ Below w.heap.size w w' := by
  have HN := Lib.hid hn; clear hn
  have HM := Lib.hid hm; clear hm
  have HA := Lib.hid ha; clear ha
  have HL := Lib.hid hl; clear hl
  by_cases h : rv W T xs = true
  · by_cases hnm : m = n
    · subst hnm
      go_enter Try.func11, Try.ntmps11
      go_wp2_with fail
      refine (iRegionValid_any _ _ _ _ _ xs _ HN.out hn' (HA.out.one _)).mono ?_; rintro e w1 ⟨rfl, hb1⟩
      have p1 := heap_later (heap_new w (.cells #[.int .i64 W, .int .i64 T, .slice a m cap] 25)) hb1
      have b1 := below_seq (below1 w _) hb1
      clear hb1
      obtain ⟨c0, c1, c2⟩ := cells3 p1
      go_wp2
      go_loopw [5, 6, 21] (fun _ _ i wr => ∃ k : Nat, k ≤ m ∧ i = .int .i64 k ∧ pzN xs D k = true ∧ wr.heap[w.heap.size]? = some (.cells #[.int .i64 W, .int .i64 T, .slice a m cap] 25 (0, 0)) ∧ Below w.heap.size w wr) (fun _ _ i _ => m - (intOf i).toNat)
      case atStart => exact ⟨0, Nat.zero_le _, rfl, rfl, p1, b1⟩
      case round =>
        clear c0 c1 c2
        obtain ⟨k, hk, rfl, hg, hp, hbel⟩ := hrel
        by_cases hlt : k < m
        · obtain ⟨lb, lo, rfl, hc⟩ := (HL.out.below hbel) k (by rw [← HM.out]; exact hlt)
          obtain ⟨b, off, rfl, hx⟩ := (HA.out.below hbel) k (by rw [← HN.out]; exact hlt)
          have BEL := Lib.hid hbel; clear hbel
          have HG := Lib.hid hg; clear hg
          have hs := Lib.hid (pzN_succ xs D k)
          have e1 : (k : Int) < m := by omega
          have e0 : (0 : Int) ≤ k := by omega
          obtain ⟨c0, c1, c2⟩ := cells3 hp
          have lp := heap_lt hp
          cases hxk : xs.getD k false
          · rw [hxk] at hx
            have hat := pzAt_out (D := D) hxk
            have HXK := Lib.hid hxk; clear hxk
            cases hq : (D.getD k 0 == -1)
            · have HF := Lib.hid (pzv_no (W := W) (T := T) (k := k) (by rw [← HM.out]; exact hlt) (hat.trans hq))
              obtain ⟨d, hd⟩ : ∃ d, d = D.getD k 0 := ⟨_, rfl⟩
              rw [← hd] at hc hq
              have q2 : (d != -1) = true := by simpa using hq
              clear hd hat
              go_wp2
              go_ret
              first | exact ⟨ret_bool HF.out.symm, BEL.out⟩ | exact ⟨ret_bool HF.out.symm, below_seq BEL.out (drewN_below _ _)⟩
            · have HT := Lib.hid (hat.trans hq)
              obtain ⟨d, hd⟩ : ∃ d, d = D.getD k 0 := ⟨_, rfl⟩
              rw [← hd] at hc hq
              have q2 : (d != -1) = false := by simpa using hq
              clear hd hat
              go_wp2
              go_roundw
              case rel => first | exact ⟨k + 1, by omega, by go_num, by rw [hs.out, HG.out, HT.out]; rfl, hp, BEL.out⟩ | exact ⟨k + 1, by omega, by go_num, by rw [hs.out, HG.out, HT.out]; rfl, heap_later hp (drewN_below _ _), below_seq BEL.out (drewN_below _ _)⟩
              case measure => simp [intOf]; omega
          · rw [hxk] at hx
            have hat := pzAt_in (D := D) hxk
            have HXK := Lib.hid hxk; clear hxk
            cases hq : digB (D.getD k 0)
            · have HF := Lib.hid (pzv_no (W := W) (T := T) (k := k) (by rw [← HM.out]; exact hlt) (hat.trans hq))
              obtain ⟨d, hd⟩ : ∃ d, d = D.getD k 0 := ⟨_, rfl⟩
              rw [← hd] at hc hq
              have HB := Lib.hid hq; clear hq
              clear hd hat
              go_wp2_with (go_at_call 49; refine (digitOk_is _ _ HB.out).mono ?_; rintro e w6 ⟨rfl, rfl⟩)
              go_ret
              first | exact ⟨ret_bool HF.out.symm, BEL.out⟩ | exact ⟨ret_bool HF.out.symm, below_seq BEL.out (drewN_below _ _)⟩
            · have HT := Lib.hid (hat.trans hq)
              obtain ⟨d, hd⟩ : ∃ d, d = D.getD k 0 := ⟨_, rfl⟩
              rw [← hd] at hc hq
              have HB := Lib.hid hq; clear hq
              clear hd hat
              go_wp2_with (go_at_call 49; refine (digitOk_is _ _ HB.out).mono ?_; rintro e w6 ⟨rfl, rfl⟩)
              go_roundw
              case rel => first | exact ⟨k + 1, by omega, by go_num, by rw [hs.out, HG.out, HT.out]; rfl, hp, BEL.out⟩ | exact ⟨k + 1, by omega, by go_num, by rw [hs.out, HG.out, HT.out]; rfl, heap_later hp (drewN_below _ _), below_seq BEL.out (drewN_below _ _)⟩
              case measure => simp [intOf]; omega
        · obtain rfl : k = m := by omega
          have HT := Lib.hid (pzv_yes h (by rw [← HM.out, ← HN.out]) (by rw [← HM.out]; exact hg))
          clear hg
          go_wp2
          go_ret
          exact ⟨ret_bool HT.out.symm, hbel⟩
    · have HF : Hid (pzv W T xs D = false) := by
        show pzv W T xs D = false
        unfold pzv
        rw [show (D.length == xs.length) = false by rw [← HM.out, ← HN.out]; simpa using hnm]; simp
      have n1 : ((m : Int) != n) = true := by simp; omega
      have n2 : ((m : Int) == n) = false := by simp; omega
      have n3 : (m == n) = false := by simpa using hnm
      have n4 : (m != n) = true := by simpa using hnm
      go_enter Try.func11, Try.ntmps11
      go_wp2_with fail
      refine (iRegionValid_any _ _ _ _ _ xs _ HN.out hn' (HA.out.one _)).mono ?_; rintro e w1 ⟨rfl, hb1⟩
      have p1 := heap_later (heap_new w (.cells #[.int .i64 W, .int .i64 T, .slice a n cap] 25)) hb1
      obtain ⟨c0, c1, c2⟩ := cells3 p1
      go_wp2
      go_ret
      exact ⟨ret_bool HF.out.symm, below_seq (below1 _ _) hb1⟩
  · rw [Bool.not_eq_true] at h
    have HF : Hid (pzv W T xs D = false) := by show pzv W T xs D = false; unfold pzv; rw [h]; rfl
    go_enter Try.func11, Try.ntmps11
    go_wp2_with fail
    refine (iRegionValid_any _ _ _ _ _ xs _ HN.out hn' (HA.out.one _)).mono ?_; rintro e w1 ⟨rfl, hb1⟩
    go_wp2
    go_ret
    exact ⟨ret_bool HF.out.symm, below_seq (below1 _ _) hb1⟩

set_option maxHeartbeats 2000000 in
theorem sPuzzleValid_any (W T : Int) (a : Option Addr) (n cap : Nat) (xs : List Bool) (la : Option Addr) (m lcap : Nat) (D : List Int) (w : World) (hn : n = xs.length) (hn' : n ≤ 1048576) (hm : m = D.length) (hm' : m ≤ 1048576) (ha : BoolsAt w a xs) (hl : IntsAt w la D) :
    Calls Try.prog 12 #[.agg #[.int .i64 W, .int .i64 T, .slice a n cap], .slice la m lcap] w fun e w' => e = .returned (.bool (pzv W T xs D)) ∧ Below w.heap.size w w' := by
  have HN := Lib.hid hn; clear hn
  have HM := Lib.hid hm; clear hm
  have HA := Lib.hid ha; clear ha
  have HL := Lib.hid hl; clear hl
  by_cases h : rv W T xs = true
  · by_cases hnm : m = n
    · subst hnm
      go_enter Try.func12, Try.ntmps12
      go_wp2_with fail
      refine (sRegionValid_any _ _ _ _ _ xs _ HN.out hn' (HA.out.one _)).mono ?_; rintro e w1 ⟨rfl, hb1⟩
      have p1 := heap_later (heap_new w (.cells #[.int .i64 W, .int .i64 T, .slice a m cap] 25)) hb1
      have b1 := below_seq (below1 w _) hb1
      clear hb1
      obtain ⟨c0, c1, c2⟩ := cells3 p1
      go_wp2
      go_loopw [4, 5] (fun _ i wr => ∃ k : Nat, k ≤ m ∧ i = .int .i64 k ∧ pzN xs D k = true ∧ wr.heap[w.heap.size]? = some (.cells #[.int .i64 W, .int .i64 T, .slice a m cap] 25 (0, 0)) ∧ Below w.heap.size w wr) (fun _ i _ => m - (intOf i).toNat)
      case atStart => exact ⟨0, Nat.zero_le _, rfl, rfl, p1, b1⟩
      case round =>
        clear c0 c1 c2
        obtain ⟨k, hk, rfl, hg, hp, hbel⟩ := hrel
        by_cases hlt : k < m
        · obtain ⟨lb, lo, rfl, hc⟩ := (HL.out.below hbel) k (by rw [← HM.out]; exact hlt)
          obtain ⟨b, off, rfl, hx⟩ := (HA.out.below hbel) k (by rw [← HN.out]; exact hlt)
          have BEL := Lib.hid hbel; clear hbel
          have HG := Lib.hid hg; clear hg
          have hs := Lib.hid (pzN_succ xs D k)
          have e1 : (k : Int) < m := by omega
          have e0 : (0 : Int) ≤ k := by omega
          obtain ⟨c0, c1, c2⟩ := cells3 hp
          have lp := heap_lt hp
          cases hxk : xs.getD k false
          · rw [hxk] at hx
            have hat := pzAt_out (D := D) hxk
            have HXK := Lib.hid hxk; clear hxk
            cases hq : (D.getD k 0 == -1)
            · have HF := Lib.hid (pzv_no (W := W) (T := T) (k := k) (by rw [← HM.out]; exact hlt) (hat.trans hq))
              obtain ⟨d, hd⟩ : ∃ d, d = D.getD k 0 := ⟨_, rfl⟩
              rw [← hd] at hc hq
              have q2 : (d != -1) = true := by simpa using hq
              clear hd hat
              go_wp2
              go_ret
              first | exact ⟨ret_bool HF.out.symm, BEL.out⟩ | exact ⟨ret_bool HF.out.symm, below_seq BEL.out (drewN_below _ _)⟩
            · have HT := Lib.hid (hat.trans hq)
              obtain ⟨d, hd⟩ : ∃ d, d = D.getD k 0 := ⟨_, rfl⟩
              rw [← hd] at hc hq
              have q2 : (d != -1) = false := by simpa using hq
              clear hd hat
              go_wp2
              go_roundw
              case rel => first | exact ⟨k + 1, by omega, by go_num, by rw [hs.out, HG.out, HT.out]; rfl, hp, BEL.out⟩ | exact ⟨k + 1, by omega, by go_num, by rw [hs.out, HG.out, HT.out]; rfl, heap_later hp (drewN_below _ _), below_seq BEL.out (drewN_below _ _)⟩
              case measure => simp [intOf]; omega
          · rw [hxk] at hx
            have hat := pzAt_in (D := D) hxk
            have HXK := Lib.hid hxk; clear hxk
            cases hq : digB (D.getD k 0)
            · have HF := Lib.hid (pzv_no (W := W) (T := T) (k := k) (by rw [← HM.out]; exact hlt) (hat.trans hq))
              obtain ⟨d, hd⟩ : ∃ d, d = D.getD k 0 := ⟨_, rfl⟩
              rw [← hd] at hc hq
              have HB := Lib.hid hq; clear hq
              clear hd hat
              go_wp2_with (go_at_call 51; refine (digIn_is _ _ HB.out).mono ?_; rintro e w6 ⟨rfl, rfl⟩)
              go_ret
              first | exact ⟨ret_bool HF.out.symm, BEL.out⟩ | exact ⟨ret_bool HF.out.symm, below_seq BEL.out (drewN_below _ _)⟩
            · have HT := Lib.hid (hat.trans hq)
              obtain ⟨d, hd⟩ : ∃ d, d = D.getD k 0 := ⟨_, rfl⟩
              rw [← hd] at hc hq
              have HB := Lib.hid hq; clear hq
              clear hd hat
              go_wp2_with (go_at_call 51; refine (digIn_is _ _ HB.out).mono ?_; rintro e w6 ⟨rfl, rfl⟩)
              go_roundw
              case rel => first | exact ⟨k + 1, by omega, by go_num, by rw [hs.out, HG.out, HT.out]; rfl, hp, BEL.out⟩ | exact ⟨k + 1, by omega, by go_num, by rw [hs.out, HG.out, HT.out]; rfl, heap_later hp (drewN_below _ _), below_seq BEL.out (drewN_below _ _)⟩
              case measure => simp [intOf]; omega
        · obtain rfl : k = m := by omega
          have HT := Lib.hid (pzv_yes h (by rw [← HM.out, ← HN.out]) (by rw [← HM.out]; exact hg))
          clear hg
          go_wp2
          go_ret
          exact ⟨ret_bool HT.out.symm, hbel⟩
    · have HF : Hid (pzv W T xs D = false) := by
        show pzv W T xs D = false
        unfold pzv
        rw [show (D.length == xs.length) = false by rw [← HM.out, ← HN.out]; simpa using hnm]; simp
      have n1 : ((m : Int) != n) = true := by simp; omega
      have n2 : ((m : Int) == n) = false := by simp; omega
      have n3 : (m == n) = false := by simpa using hnm
      have n4 : (m != n) = true := by simpa using hnm
      go_enter Try.func12, Try.ntmps12
      go_wp2_with fail
      refine (sRegionValid_any _ _ _ _ _ xs _ HN.out hn' (HA.out.one _)).mono ?_; rintro e w1 ⟨rfl, hb1⟩
      have p1 := heap_later (heap_new w (.cells #[.int .i64 W, .int .i64 T, .slice a n cap] 25)) hb1
      obtain ⟨c0, c1, c2⟩ := cells3 p1
      go_wp2
      go_ret
      exact ⟨ret_bool HF.out.symm, below_seq (below1 _ _) hb1⟩
  · rw [Bool.not_eq_true] at h
    have HF : Hid (pzv W T xs D = false) := by show pzv W T xs D = false; unfold pzv; rw [h]; rfl
    go_enter Try.func12, Try.ntmps12
    go_wp2_with fail
    refine (sRegionValid_any _ _ _ _ _ xs _ HN.out hn' (HA.out.one _)).mono ?_; rintro e w1 ⟨rfl, hb1⟩
    go_wp2
    go_ret
    exact ⟨ret_bool HF.out.symm, below_seq (below1 _ _) hb1⟩

theorem dig_bd {a : Int} (h : digB a = true) : 0 ≤ a ∧ a ≤ 6 := by simpa [digB] using h

end Go.Proofs.Ytpcajacekmidbaa

namespace Go.Proofs.Ytpcajacekmidbaa
open Go.RowKit
set_option linter.unusedVariables false
set_option maxRecDepth 100000
set_option linter.unusedSimpArgs false

/-- Whether the k-th cell is the first one of a domino. -/
def goOn (L : List Int) (k : Nat) : Bool := (L.getD k 0 == 1) || (L.getD k 0 == 2)
def othN (W T : Int) (L : List Int) (k : Nat) : Nat := (stepI W T k (L.getD k 0)).toNat
/-- The other cell of a domino in a list that is right. -/
theorem lok_oth {W T : Int} {xs : List Bool} {L : List Int} {k : Nat} (h : lok W T xs L = true) (hk : k < L.length) (h0 : L.getD k 0 ≠ 0) : stepI W T k (L.getD k 0) = (othN W T L k : Int) ∧ othN W T L k < L.length := by
  obtain ⟨hr, hl, _⟩ := lok_rv h
  obtain ⟨v1, v2, v3, v4, v5, _⟩ := rv_true hr
  have hb := lok_both h hk h0
  simp only [bothB, Bool.and_eq_true, decide_eq_true_eq] at hb
  have hs := step_bd (W := W) (T := T) (k := (k : Int)) (way := L.getD k 0) v1 (by omega) (by rw [← v5]; omega)
  unfold othN
  omega
theorem goOn_bd {L : List Int} {k : Nat} (h : goOn L k = true) : L.getD k 0 ≠ 0 := by
  unfold goOn at h; intro h0; rw [h0] at h; simp at h

theorem own_nil7p (w : World) {B : Nat} (hB : B ≤ w.heap.size) : OwnsI (w.alloc (.cells #[] 3 (0, 0))) B (.slice (some ⟨w.heap.size, 0, none⟩) 0 0) [] :=
  World.ownsRow_made w #[] 0 hB (Nat.zero_le _) rfl

end Go.Proofs.Ytpcajacekmidbaa

namespace Go.Proofs.Ytpcajacekmidbaa
open Go.RowKit
set_option linter.unusedVariables false
set_option maxRecDepth 100000
set_option linter.unusedSimpArgs false

/-- The lesser number of the pair at a place. -/
def lowP (p : Nat) : Nat := if p < 7 then 0 else if p < 13 then 1 else if p < 18 then 2 else if p < 22 then 3 else if p < 25 then 4 else if p < 27 then 5 else 6
/-- How many pairs have a lesser number below l. -/
def baseP (l : Nat) : Nat := 7 * l - l * (l - 1) / 2
def highP (p : Nat) : Nat := lowP p + (p - baseP (lowP p))
def prC (s : Nat × Nat) : List Value := [.int .i64 s.1, .int .i64 s.2]
theorem base_next : ∀ l, l < 7 → baseP (l + 1) = baseP l + (7 - l) := by decide
theorem low_le : ∀ p, p < 28 → lowP p ≤ 6 ∧ highP p ≤ 6 ∧ lowP p ≤ highP p ∧ baseP (lowP p) ≤ p := by decide
theorem low_on : ∀ p, p < 28 → ∀ l, l < 8 → l ≤ lowP p → (6 - l < p - baseP l ↔ l < lowP p) ∧ baseP l ≤ p := by decide
def OwnsPr (w : World) (B : Nat) (v : Value) (l : List (Nat × Nat)) : Prop := w.ownsRow B 137 2 v l.length (l.flatMap prC)
theorem OwnsPr.below {w w' : World} {B : Nat} {v : Value} {l : List (Nat × Nat)} (h : OwnsPr w B v l) (hb : Below w.heap.size w w') : OwnsPr w' B v l :=
  World.ownsRow.kept (row := none) h ⟨hb.os, hb.tape, hb.output, hb.size, fun k hk _ => hb.block k hk⟩ (by cases v.ownBlock <;> simp)
theorem OwnsPr.kept {w w' : World} {B : Nat} {v : Value} {l : List (Nat × Nat)} {g : Nat} (h : OwnsPr w B v l) (hg : w.grownBy w' (some g)) (hne : v.ownBlock ≠ some g) : OwnsPr w' B v l :=
  World.ownsRow.kept h hg (Or.inr hne)
theorem OwnsPr.form {w : World} {B : Nat} {v : Value} {l : List (Nat × Nat)} (h : OwnsPr w B v l) : ∃ (a : Option Addr) (cap : Nat), v = .slice a l.length cap := by
  rcases h.2 with ⟨e, h2⟩ | ⟨g, cap, cur, e, _⟩
  · exact ⟨none, 0, by rw [e, h2]⟩
  · exact ⟨some ⟨g, 0, none⟩, cap, e⟩
theorem OwnsPr.lower {w : World} {B B' : Nat} {v : Value} {l : List (Nat × Nat)} (h : OwnsPr w B v l) (hB : B' ≤ B) : OwnsPr w B' v l := by
  refine ⟨h.1, ?_⟩
  rcases h.2 with hn | ⟨g, cap, cur, hv, hb, r⟩
  · exact .inl hn
  · exact .inr ⟨g, cap, cur, hv, Nat.le_trans hB hb, r⟩
theorem OwnsPr.ownBlock {w : World} {B : Nat} {v : Value} {l : List (Nat × Nat)} (h : OwnsPr w B v l) {b : Nat} (hb : b < B) : v.ownBlock ≠ some b := fun e => by
  have := World.ownsRow.lt h b e; omega
theorem OwnsPr.ownAt {w : World} {B : Nat} {v : Value} {l : List (Nat × Nat)} (h : OwnsPr w B v l) {B' : Nat} (hB : B' ≤ B) : ∀ k, v.ownBlock = some k → B' ≤ k := fun k e => Nat.le_trans hB (World.ownsRow.lt h k e).1
theorem flat2 (l : List (Nat × Nat)) : ∀ i j, (h : i < l.length) → j < 2 → (l.flatMap prC)[i * 2 + j]? = (prC l[i])[j]? := by
  induction l with
  | nil => intro i j h; simp at h
  | cons x l ih =>
    intro i j h hj
    rw [List.flatMap_cons]
    cases i with
    | zero => rw [List.getElem?_append_left (by simp [prC]; omega)]; simp
    | succ i =>
      rw [List.getElem?_append_right (by simp [prC]; omega), show (i + 1) * 2 + j - (prC x).length = i * 2 + j by simp [prC]; omega]
      exact ih i j (by simpa using h) hj
theorem OwnsPr.cellAt {w : World} {B g n cap : Nat} {l : List (Nat × Nat)} (h : OwnsPr w B (.slice (some ⟨g, 0, none⟩) n cap) l) {i : Nat} (hi : i < l.length) : ∀ j u, (prC l[i])[j]? = some u → w.cell? ⟨g, i * 2 + j, none⟩ = some u := by
  intro j u hu
  have hj : j < 2 := by
    obtain ⟨h1, _⟩ := List.getElem?_eq_some_iff.1 hu
    simpa [prC] using h1
  have hn : n = l.length := by
    obtain ⟨a, c, e⟩ := OwnsPr.form h
    simp only [Value.slice.injEq] at e; exact e.2.1
  subst hn
  rw [World.ownsRow.cellAt h (i * 2 + j) (by omega), flat2 l i j hi hj, hu]
end Go.Proofs.Ytpcajacekmidbaa

namespace Go.Proofs.Ytpcajacekmidbaa
open Go.RowKit
set_option linter.unusedVariables false
set_option maxRecDepth 100000
set_option linter.unusedSimpArgs false

/-- How many of the first k cells are the first one of a domino. -/
def onN (L : List Int) (k : Nat) : Nat := (List.range k).countP (goOn L)
theorem onN_succ (L : List Int) (k : Nat) : onN L (k + 1) = onN L k + if goOn L k then 1 else 0 := by
  unfold onN; rw [List.range_succ, List.countP_append]; simp [List.countP_cons]
theorem onN_le (L : List Int) (k : Nat) : onN L k ≤ k := by
  have := List.countP_le_length (p := goOn L) (l := List.range k)
  rw [List.length_range] at this; exact this
/-- The numbers after the first k cells. -/
def mkL (W T : Int) (L : List Int) (f : Nat) : Nat → List Int
  | 0 => List.replicate L.length (-1)
  | k + 1 => if goOn L k then ((mkL W T L f k).set k (lowP ((f + onN L k) % 28) : Int)).set (othN W T L k) (highP ((f + onN L k) % 28) : Int) else mkL W T L f k
def fromB (f : Int) : Bool := decide (0 ≤ f ∧ f ≤ 27)
def mkF (W T : Int) (xs : List Bool) (L : List Int) (f : Int) : List Int := if tok W T xs L && fromB f then mkL W T L f.toNat L.length else []
theorem mkL_len (W T : Int) (L : List Int) (f k : Nat) : (mkL W T L f k).length = L.length := by
  induction k with
  | zero => simp [mkL]
  | succ k ih => unfold mkL; split <;> simp [ih]
theorem mkF_le (W T : Int) (xs : List Bool) (L : List Int) (f : Int) : (mkF W T xs L f).length ≤ L.length := by
  unfold mkF; split
  · rw [mkL_len]; exact Nat.le_refl _
  · simp
theorem mkL_yes {W T : Int} {L : List Int} {f k : Nat} (h : goOn L k = true) : mkL W T L f (k + 1) = ((mkL W T L f k).set k (lowP ((f + onN L k) % 28) : Int)).set (othN W T L k) (highP ((f + onN L k) % 28) : Int) := by
  show (if goOn L k then _ else _) = _; rw [h]; rfl
theorem mkL_no {W T : Int} {L : List Int} {f k : Nat} (h : goOn L k = false) : mkL W T L f (k + 1) = mkL W T L f k := by
  show (if goOn L k then _ else _) = _; rw [h]; rfl
end Go.Proofs.Ytpcajacekmidbaa

namespace Go.Proofs.Ytpcajacekmidbaa
open Go.RowKit
set_option linter.unusedVariables false
set_option maxRecDepth 100000
set_option linter.unusedSimpArgs false

theorem keep4 {w : World} {b g q l p : Nat} {x0 x1 x2 x3 : Value} {u : Value} (hg : g ≠ b) (hl : g ≠ l) (h : w.cell? ⟨b, 0, none⟩ = some x0 ∧ w.cell? ⟨b, 1, none⟩ = some x1 ∧ w.cell? ⟨b, 2, none⟩ = some x2 ∧ w.cell? ⟨l, p, none⟩ = some x3) :
    (w.setCell ⟨g, q, none⟩ u).cell? ⟨b, 0, none⟩ = some x0 ∧ (w.setCell ⟨g, q, none⟩ u).cell? ⟨b, 1, none⟩ = some x1 ∧ (w.setCell ⟨g, q, none⟩ u).cell? ⟨b, 2, none⟩ = some x2 ∧ (w.setCell ⟨g, q, none⟩ u).cell? ⟨l, p, none⟩ = some x3 := by
  obtain ⟨h0, h1, h2, h3⟩ := h
  have e1 : ∀ i : Nat, (⟨g, q, none⟩ : Addr) ≠ ⟨b, i, none⟩ := fun i e => by simp only [Addr.mk.injEq] at e; exact hg e.1
  have e2 : ∀ i : Nat, (⟨g, q, none⟩ : Addr) ≠ ⟨l, i, none⟩ := fun i e => by simp only [Addr.mk.injEq] at e; exact hl e.1
  exact ⟨(World.cell?_setCell_other _ _ _ _ (e1 0)).trans h0, (World.cell?_setCell_other _ _ _ _ (e1 1)).trans h1, (World.cell?_setCell_other _ _ _ _ (e1 2)).trans h2, (World.cell?_setCell_other _ _ _ _ (e2 p)).trans h3⟩
theorem l1In27_is (d : Int) (w : World) {b : Bool} (h : fromB d = b) : Calls Try.prog 51 #[.int .i64 d, .int .i64 0, .int .i64 27] w fun e w' => e = .returned (.bool b) ∧ w = w' := by
  subst h; exact (l1In_any d 0 27 w).mono fun _ _ ⟨a, b⟩ => ⟨a, b⟩
theorem OwnsI.posM {w : World} {B : Nat} {v : Value} {xs : List Int} (h : OwnsI w B v xs) (h0 : 0 < xs.length) : ∃ g cap, v = .slice (some ⟨g, 0, none⟩) xs.length cap ∧ B ≤ g ∧ g < w.heap.size := by
  rcases h.forms with ⟨_, e⟩ | h
  · rw [e] at h0; simp at h0
  · exact h
theorem repl_succ (k : Nat) : List.replicate (k + 1) (-1 : Int) = List.replicate k (-1) ++ [-1] := List.replicate_succ'

set_option maxHeartbeats 8000000 in
theorem sMakePuzzle_ret (W T : Int) (a : Option Addr) (n cap : Nat) (xs : List Bool) (la : Option Addr) (m lcap : Nat) (L : List Int) (f : Int) (w : World) (hn : n = xs.length) (hn' : n ≤ 1048576) (hm : m = L.length) (hm' : m ≤ 1048576) (ha : BoolsAt w a xs) (hl : IntsAt w la L) :
    Calls Try.prog 99 #[.agg #[.int .i64 W, .int .i64 T, .slice a n cap], .slice la m lcap, .int .i64 f] w (RetL w (mkF W T xs L f).length (mkF W T xs L f)) := by
  have HN := Lib.hid hn; clear hn
  have HM := Lib.hid hm; clear hm
  have HA := Lib.hid ha; clear ha
  have HL := Lib.hid hl; clear hl
  cases hk : tok W T xs L
  · have e : mkF W T xs L f = [] := by unfold mkF; rw [hk]; rfl
    rw [e]; clear e
    have HK := Lib.hid hk
    clear hk
    go_enter Try.func99, Try.ntmps99
    go_wp2_with fail
    refine (sTilingOk_any _ _ _ _ _ xs _ _ _ L _ HN.out hn' HM.out hm' (HA.out.one _) (HL.out.one _)).mono ?_; rintro e w1 ⟨rfl, hb1⟩
    rw [HK.out]
    have b1 := below_seq (below1 w _) hb1
    have z1 := b1.size
    go_wp2
    go_ret
    exact ⟨some ⟨w1.heap.size, 0, none⟩, 0, rfl, own_nil7p w1 z1, below_seq b1 (below1 _ _)⟩
  cases hf : fromB f
  · have e : mkF W T xs L f = [] := by unfold mkF; rw [hf, Bool.and_false]; rfl
    rw [e]; clear e
    have HK := Lib.hid hk
    have HF := Lib.hid hf
    clear hk hf
    go_enter Try.func99, Try.ntmps99
    go_wp2_with fail
    refine (sTilingOk_any _ _ _ _ _ xs _ _ _ L _ HN.out hn' HM.out hm' (HA.out.one _) (HL.out.one _)).mono ?_; rintro e w1 ⟨rfl, hb1⟩
    rw [HK.out]
    have b1 := below_seq (below1 w _) hb1
    have z1 := b1.size
    go_wp2_with (go_at_call 51; refine (l1In27_is _ _ HF.out).mono ?_; rintro e w5 ⟨rfl, rfl⟩)
    go_ret
    exact ⟨some ⟨w1.heap.size, 0, none⟩, 0, rfl, own_nil7p w1 z1, below_seq b1 (below1 _ _)⟩
  · have hf2 : 0 ≤ f ∧ f ≤ 27 := by unfold fromB at hf; exact of_decide_eq_true hf
    obtain ⟨fn, rfl⟩ : ∃ fn : Nat, f = fn := ⟨f.toNat, by omega⟩
    have f28 : fn < 28 := by omega
    have hlk : lok W T xs L = true := by unfold tok at hk; rw [Bool.and_eq_true] at hk; exact hk.1
    obtain ⟨hr, hlenL, _⟩ := lok_rv hlk
    have e : mkF W T xs L fn = mkL W T L fn m := by
      unfold mkF
      rw [hk, hf, HM.out]
      simp
    rw [e]
    have hmn : m = n := by rw [HM.out, HN.out]; exact hlenL
    subst hmn
    obtain ⟨hW0, hW1, hT0, hT1, v5, _⟩ := rv_true hr
    have HV : Hid ((m : Int) = W * T) := by show (m : Int) = W * T; rw [HN.out]; exact v5
    have m36 : m ≤ 36 := by
      have h1 : W * T ≤ 6 * 6 := Int.mul_le_mul hW1 hT1 (by omega) (by omega)
      have := HV.out; omega
    have m1 : 1 ≤ m := by
      have h1 : 1 * 1 ≤ W * T := Int.mul_le_mul hW0 hT0 (by omega) (by omega)
      have := HV.out; omega
    have HK := Lib.hid hk
    have HF := Lib.hid hf
    have HLK := Lib.hid hlk
    clear hk hlk e v5 hf hf2
    obtain ⟨i0, hi, hz0, hz1, hz2⟩ := info_parts infoInt
    go_enter Try.func99, Try.ntmps99
    go_wp2_with fail
    refine (sTilingOk_any _ _ _ _ _ xs _ _ _ L _ HN.out hn' HM.out hm' (HA.out.one _) (HL.out.one _)).mono ?_; rintro e w1 ⟨rfl, hb1⟩
    rw [HK.out]
    have p1 := heap_later (heap_new w (.cells #[.int .i64 W, .int .i64 T, .slice a m cap] 25)) hb1
    have b1 := below_seq (below1 w _) hb1
    have z1 := b1.size
    have y1 := heap_lt p1
    obtain ⟨wB, hwB⟩ : ∃ wB, wB = w1.alloc (.cells #[] 3) := ⟨_, rfl⟩
    have pB : wB.heap[w.heap.size]? = some (.cells #[.int .i64 W, .int .i64 T, .slice a m cap] 25 (0, 0)) := by rw [hwB]; exact heap_later p1 (below1 _ _)
    have bB : Below w.heap.size w wB := by rw [hwB]; exact below_seq b1 (below1 _ _)
    have oB : OwnsI wB (w.heap.size + 1) (.slice (some ⟨w1.heap.size, 0, none⟩) 0 0) [] := by rw [hwB]; exact own_nil7p w1 (by omega)
    have HOB := Lib.hid oB; clear oB p1 hb1 b1
    go_wp2_with (go_at_call 51; refine (l1In27_is _ _ HF.out).mono ?_; rintro e w5 ⟨rfl, rfl⟩)
    rw [← hwB]
    clear hwB
    go_loopw [7, 8] (fun v i wr => ∃ k : Nat, k ≤ m ∧ i = .int .i64 k ∧ OwnsI wr (w.heap.size + 1) v (List.replicate k (-1)) ∧ wr.heap[w.heap.size]? = some (.cells #[.int .i64 W, .int .i64 T, .slice a m cap] 25 (0, 0)) ∧ Below w.heap.size w wr) (fun _ i _ => m - (intOf i).toNat)
    case atStart => exact ⟨0, Nat.zero_le _, rfl, HOB.out, pB, bB⟩
    case round =>
      rename World => wq
      clear pB bB HOB
      obtain ⟨k, hk, rfl, ho, pr, hbel⟩ := hrel
      have HO := Lib.hid ho; clear ho
      have BEL := Lib.hid hbel; clear hbel
      have l1 := heap_lt pr
      by_cases hlt : k < m
      · have e1 : (k : Int) < m := by omega
        have e0 : (0 : Int) ≤ k := by omega
        go_wp2_with (at_builtin; refine wpList_append_own _ rfl _ _ 26 rfl (w.heap.size + 1) 3 i0 (.int .i64 0) 1 8 Try.underlying26 hi hz0 hz1 hz2 rfl (by decide) _ (List.replicate k (-1 : Int)).length ((List.replicate k (-1 : Int)).map (Value.int .i64)) rfl (World.ownsRow.alloc HO.out _) ⟨wq.heap.size, 0, none⟩ 1 1 [.int .i64 (-1)] rfl rfl (new_int _ _) (one_int _) (by unfold maxLen; simp; omega) (by simp; omega) (by simp; omega) ?_; intro v' w8 hown' hgrow _; have p8 := heap_grown (heap_later pr (below1 _ _)) hgrow (HO.out.ownBlock (by omega)); have O8 := Lib.hid (OwnsI.ofRow (xs := List.replicate (k + 1) (-1)) hown' (by rw [repl_succ]; simp) (by simp)); have B8 := Lib.hid (below_grown (below_seq BEL.out (below1 _ _)) hgrow (Nat.le_refl _) (HO.out.ownAt (by omega))); clear hown' hgrow)
        go_roundw
        case rel => exact ⟨k + 1, by omega, by go_num, O8.out, p8, B8.out⟩
        case measure => simp [intOf]; omega
      · obtain rfl : k = m := by omega
        obtain ⟨gD, cD, hv, hg1, hg2⟩ := HO.out.posM (by simp; omega)
        rw [List.length_replicate] at hv
        subst hv
        have HO2 : Hid (OwnsI wq (w.heap.size + 1) (.slice (some ⟨gD, 0, none⟩) k cD) (mkL W T L fn 0)) := by
          show OwnsI _ _ _ _
          unfold mkL; rw [← HM.out]; exact HO.out
        clear HO hlt
        go_wp2
        go_loopw [2, 9, 10, 11] (fun fr i _ _ wr => ∃ j : Nat, j ≤ k ∧ i = .int .i64 j ∧ fr = .int .i64 ((fn + onN L j : Nat) : Int) ∧ OwnsI wr (w.heap.size + 1) (.slice (some ⟨gD, 0, none⟩) k cD) (mkL W T L fn j) ∧ wr.heap[w.heap.size]? = some (.cells #[.int .i64 W, .int .i64 T, .slice a k cap] 25 (0, 0)) ∧ Below w.heap.size w wr) (fun _ i _ _ _ => k - (intOf i).toNat)
        case atStart => exact ⟨0, Nat.zero_le _, rfl, by simp [onN], HO2.out, pr, BEL.out⟩
        case round =>
          clear HO2 pr BEL l1
          rename World => wr
          obtain ⟨j, hj, rfl, rfl, ho, pr, hbel⟩ := hrel
          obtain ⟨m, hmk⟩ : ∃ m, m = k := ⟨_, rfl⟩
          subst hmk
          obtain ⟨k, hkj⟩ : ∃ k, k = j := ⟨_, rfl⟩
          subst hkj
          have HO := Lib.hid ho; clear ho
          have BEL := Lib.hid hbel; clear hbel
          have lq : w.heap.size ≤ wr.heap.size := BEL.out.size
          obtain ⟨c0, c1, c2⟩ := cells3 pr
          have l1 := heap_lt pr
          by_cases hlt : k < m
          · have e1 : (k : Int) < m := by omega
            have e0 : (0 : Int) ≤ k := by omega
            obtain ⟨lb, lo, rfl, hc⟩ := (HL.out.below BEL.out) k (by rw [← HM.out]; exact hlt)
            have hc0 := HL.out.cellAt (i := k) (by rw [← HM.out]; exact hlt)
            have hlb := World.block_lt_of_cell? _ _ hc0
            simp only at hlb
            obtain ⟨wy, hwy⟩ : ∃ wy, wy = L.getD k 0 := ⟨_, rfl⟩
            rw [← hwy] at hc hc0
            have hcount := onN_succ L k
            have hle := onN_le L k
            cases hg : goOn L k
            · have HNX := Lib.hid (mkL_no (W := W) (T := T) (f := fn) hg)
              rw [hg] at hcount
              have HCN := Lib.hid hcount; clear hcount
              unfold goOn at hg
              rw [← hwy] at hg
              have hg1 : (wy == 1) = false ∧ (wy == 2) = false := by simpa using hg
              obtain ⟨g1, g2⟩ := hg1
              clear hg hwy
              go_wp2
              go_roundw
              case rel => exact ⟨k + 1, by omega, by go_num, by rw [HCN.out]; rfl, by rw [HNX.out]; exact HO.out, pr, BEL.out⟩
              case measure => simp [intOf]; omega
            · obtain ⟨o, ho⟩ : ∃ o, o = othN W T L k := ⟨_, rfl⟩
              obtain ⟨hst, hom⟩ := lok_oth HLK.out (k := k) (by rw [← HM.out]; exact hlt) (goOn_bd hg)
              rw [← hwy, ← ho] at hst
              rw [← ho, ← HM.out] at hom
              have HNX := Lib.hid (mkL_yes (W := W) (T := T) (f := fn) hg)
              rw [hg] at hcount
              have HCN := Lib.hid hcount; clear hcount
              rw [← ho] at HNX
              unfold goOn at hg
              rw [← hwy] at hg
              obtain ⟨p, hp⟩ : ∃ p, p = (fn + onN L k) % 28 := ⟨_, rfl⟩
              have hp28 : p < 28 := by omega
              have hpm : (((fn + onN L k : Nat) : Int)).tmod 28 = p := by rw [Int.tmod_eq_emod_of_nonneg (by omega)]; omega
              have hpm2 : (((fn + onN L k : Nat) : Int)) % 28 = p := by omega
              have hnx2 : fn + onN L k ≤ 100 := by omega
              obtain ⟨NX, hNX⟩ : ∃ NX, NX = fn + onN L k := ⟨_, rfl⟩
              rw [← hNX] at hpm hpm2 hnx2 ⊢
              rw [← hp] at HNX
              have HNX2 := Lib.hid hNX; clear hNX hp
              obtain ⟨q0, q1, q2, q3⟩ := low_le p hp28
              have hgO := HO.out.lt
              have HK6 : Hid (k < (mkL W T L fn k).length) := by show _ < _; rw [mkL_len, ← HM.out]; exact hlt
              have HO6 : Hid (o < (mkL W T L fn k).length) := by show _ < _; rw [mkL_len, ← HM.out]; exact hom
              have hgb : gD ≠ w.heap.size := by omega
              have hgl : gD ≠ lb := by omega
              have HST := Lib.hid hst; clear hst
              have om1 : (o : Int) < m := by omega
              have om0 : (0 : Int) ≤ o := by omega
              have hwy2 : wy = 1 ∨ wy = 2 := by simpa using hg
              clear hg hwy ho
              rcases hwy2 with rfl | rfl
              · go_wp2
                go_loopw [10, 11] (fun nv lv wx => ∃ l : Nat, l ≤ lowP p ∧ lv = .int .i64 l ∧ nv = .int .i64 ((p - baseP l : Nat) : Int) ∧ wx = wr) (fun _ lv _ => 7 - (intOf lv).toNat)
                case atStart => exact ⟨0, Nat.zero_le _, rfl, rfl, rfl⟩
                case round =>
                  obtain ⟨l, hl, rfl, rfl, rfl⟩ := hrel
                  obtain ⟨g1, g2⟩ := low_on p hp28 l (by omega) hl
                  by_cases hll : l < lowP p
                  · have hb := base_next l (by omega)
                    have g3 := (low_on p hp28 (l + 1) (by omega) hll).2
                    have g4 := g1.2 hll
                    obtain ⟨rr, hrr⟩ : ∃ rr, rr = p - baseP l := ⟨_, rfl⟩
                    rw [← hrr] at g4 ⊢
                    have hrb : rr ≤ 28 := by omega
                    have e9 : (6 : Int) - (l : Int) < (rr : Int) := by omega
                    have e10 : (rr : Int) - (6 - (l : Int) + 1) = ((p - baseP (l + 1) : Nat) : Int) := by omega
                    have E10 := Lib.hid e10; clear e10
                    clear hrr g1 g2 hb g3 g4
                    go_wp2
                    go_roundw
                    case rel => exact ⟨l + 1, by omega, by go_num, by rw [← E10.out], by first | rfl | trivial⟩
                    case measure => simp [intOf]; omega
                  · obtain rfl : l = lowP p := by omega
                    have g5 : ¬ (6 - lowP p < p - baseP (lowP p)) := fun h => hll (g1.1 h)
                    clear g1 hll hl
                    have p3 : 0 ≤ (lowP p : Int) ∧ (lowP p : Int) ≤ 6 := by omega
                    obtain ⟨lp, hlp⟩ : ∃ lp, lp = lowP p := ⟨_, rfl⟩
                    obtain ⟨hpp, hhp⟩ : ∃ hpp, hpp = highP p := ⟨_, rfl⟩
                    have hsum : ((lp : Int)) + ((p - baseP lp : Nat) : Int) = hpp := by rw [hlp, hhp]; unfold highP; omega
                    obtain ⟨rr, hrr⟩ : ∃ rr, rr = p - baseP lp := ⟨_, rfl⟩
                    rw [← hlp] at p3 q0 q2 q3 g5 ⊢
                    rw [← hhp] at q1 q2
                    rw [← hrr] at hsum g5 ⊢
                    rw [← hlp, ← hhp] at HNX
                    have hnx6 : ¬ (6 - (lp : Int) < (rr : Int)) := by omega
                    have hrr6 : rr ≤ 6 := by omega
                    have q5 : (lp : Int) ≤ 6 := by omega
                    clear hlp hhp hrr
                    have s1 := OwnsI.set HO.out k (lp : Int)
                    have x6 := HO.out.cell (k := k) HK6.out
                    have f6 := HO.out.free k
                    obtain ⟨wA, hwA⟩ : ∃ wA, wA = wr.setCell ⟨gD, k, none⟩ (.int .i64 (lp : Int)) := ⟨_, rfl⟩
                    rw [← hwA] at s1
                    have pA := heap_grown pr s1.2 (by simp; omega)
                    have OA := Lib.hid s1.1
                    have BA := Lib.hid (below_grown BEL.out s1.2 (Nat.le_refl _) (fun k e => by cases e; omega))
                    have hcA := (BA.out.cell (p := ⟨lb, lo + k, none⟩) hlb).trans hc0
                    clear s1
                    go_wp2_with fail
                    rw [← hwA]
                    clear hwA c0 c1 c2 hc x6 f6
                    obtain ⟨d0, d1, d2⟩ := cells3 pA
                    have lA := heap_lt pA
                    have PQ : wA.drew.heap[w.heap.size]? = some _ := pA
                    go_region_held3 (fun w' => w'.cell? ⟨w.heap.size, 0, none⟩ = some (.int .i64 W) ∧ w'.cell? ⟨w.heap.size, 1, none⟩ = some (.int .i64 T) ∧ w'.cell? ⟨w.heap.size, 2, none⟩ = some (.slice a m cap) ∧ w'.cell? ⟨lb, lo + k, none⟩ = some (.int .i64 1))
                      (first | go_keep | exact keep4 hgb hgl (by assumption))
                      (first
                        | (go_at_call 60; refine (l2Step_is _ _ _ _ _ _ _ _ hW0 hW1 hT0 hT1 (by omega) (by rw [← HV.out]; omega) HST.out).mono ?_; rintro e w6 ⟨rfl, hb6⟩; have p6 := heap_later PQ hb6; obtain ⟨c60, c61, c62⟩ := cells3 p6; have k6 := cell_later hb6 (show wA.drew.cell? ⟨lb, lo + k, none⟩ = some _ from hcA); have O6 := (show OwnsI wA.drew _ _ _ from OA.out).below hb6; have B6 := Lib.hid (below_seq BA.out (below_seq (drew_below _) hb6)); have x6 := O6.cell (k := o) (by rw [List.length_set]; exact HO6.out); have f6 := O6.free o))
                    have s2 := OwnsI.set O6 o (hpp : Int)
                    have O8 := Lib.hid s2.1
                    have p8 := heap_grown p6 s2.2 (by simp; omega)
                    have B8 := Lib.hid (below_grown B6.out s2.2 (Nat.le_refl _) (fun k e => by cases e; omega))
                    have HC9 : Hid (fn + onN L (k + 1) = NX + 1) := by
                      show _ = _
                      have h1 := HCN.out; have h2 := HNX2.out; simp at h1; omega
                    clear s2
                    go_wp2
                    go_roundw
                    case rel => exact ⟨k + 1, by omega, by go_num, by rw [HC9.out]; rfl, by rw [HNX.out]; exact O8.out, p8, B8.out⟩
                    case measure => simp [intOf]; omega
              · go_wp2
                go_loopw [10, 11] (fun nv lv wx => ∃ l : Nat, l ≤ lowP p ∧ lv = .int .i64 l ∧ nv = .int .i64 ((p - baseP l : Nat) : Int) ∧ wx = wr) (fun _ lv _ => 7 - (intOf lv).toNat)
                case atStart => exact ⟨0, Nat.zero_le _, rfl, rfl, rfl⟩
                case round =>
                  obtain ⟨l, hl, rfl, rfl, rfl⟩ := hrel
                  obtain ⟨g1, g2⟩ := low_on p hp28 l (by omega) hl
                  by_cases hll : l < lowP p
                  · have hb := base_next l (by omega)
                    have g3 := (low_on p hp28 (l + 1) (by omega) hll).2
                    have g4 := g1.2 hll
                    obtain ⟨rr, hrr⟩ : ∃ rr, rr = p - baseP l := ⟨_, rfl⟩
                    rw [← hrr] at g4 ⊢
                    have hrb : rr ≤ 28 := by omega
                    have e9 : (6 : Int) - (l : Int) < (rr : Int) := by omega
                    have e10 : (rr : Int) - (6 - (l : Int) + 1) = ((p - baseP (l + 1) : Nat) : Int) := by omega
                    have E10 := Lib.hid e10; clear e10
                    clear hrr g1 g2 hb g3 g4
                    go_wp2
                    go_roundw
                    case rel => exact ⟨l + 1, by omega, by go_num, by rw [← E10.out], by first | rfl | trivial⟩
                    case measure => simp [intOf]; omega
                  · obtain rfl : l = lowP p := by omega
                    have g5 : ¬ (6 - lowP p < p - baseP (lowP p)) := fun h => hll (g1.1 h)
                    clear g1 hll hl
                    have p3 : 0 ≤ (lowP p : Int) ∧ (lowP p : Int) ≤ 6 := by omega
                    obtain ⟨lp, hlp⟩ : ∃ lp, lp = lowP p := ⟨_, rfl⟩
                    obtain ⟨hpp, hhp⟩ : ∃ hpp, hpp = highP p := ⟨_, rfl⟩
                    have hsum : ((lp : Int)) + ((p - baseP lp : Nat) : Int) = hpp := by rw [hlp, hhp]; unfold highP; omega
                    obtain ⟨rr, hrr⟩ : ∃ rr, rr = p - baseP lp := ⟨_, rfl⟩
                    rw [← hlp] at p3 q0 q2 q3 g5 ⊢
                    rw [← hhp] at q1 q2
                    rw [← hrr] at hsum g5 ⊢
                    rw [← hlp, ← hhp] at HNX
                    have hnx6 : ¬ (6 - (lp : Int) < (rr : Int)) := by omega
                    have hrr6 : rr ≤ 6 := by omega
                    have q5 : (lp : Int) ≤ 6 := by omega
                    clear hlp hhp hrr
                    have s1 := OwnsI.set HO.out k (lp : Int)
                    have x6 := HO.out.cell (k := k) HK6.out
                    have f6 := HO.out.free k
                    obtain ⟨wA, hwA⟩ : ∃ wA, wA = wr.setCell ⟨gD, k, none⟩ (.int .i64 (lp : Int)) := ⟨_, rfl⟩
                    rw [← hwA] at s1
                    have pA := heap_grown pr s1.2 (by simp; omega)
                    have OA := Lib.hid s1.1
                    have BA := Lib.hid (below_grown BEL.out s1.2 (Nat.le_refl _) (fun k e => by cases e; omega))
                    have hcA := (BA.out.cell (p := ⟨lb, lo + k, none⟩) hlb).trans hc0
                    clear s1
                    go_wp2_with fail
                    rw [← hwA]
                    clear hwA c0 c1 c2 hc x6 f6
                    obtain ⟨d0, d1, d2⟩ := cells3 pA
                    have lA := heap_lt pA
                    have PQ : wA.drew.heap[w.heap.size]? = some _ := pA
                    go_region_held3 (fun w' => w'.cell? ⟨w.heap.size, 0, none⟩ = some (.int .i64 W) ∧ w'.cell? ⟨w.heap.size, 1, none⟩ = some (.int .i64 T) ∧ w'.cell? ⟨w.heap.size, 2, none⟩ = some (.slice a m cap) ∧ w'.cell? ⟨lb, lo + k, none⟩ = some (.int .i64 2))
                      (first | go_keep | exact keep4 hgb hgl (by assumption))
                      (first
                        | (go_at_call 60; refine (l2Step_is _ _ _ _ _ _ _ _ hW0 hW1 hT0 hT1 (by omega) (by rw [← HV.out]; omega) HST.out).mono ?_; rintro e w6 ⟨rfl, hb6⟩; have p6 := heap_later PQ hb6; obtain ⟨c60, c61, c62⟩ := cells3 p6; have k6 := cell_later hb6 (show wA.drew.cell? ⟨lb, lo + k, none⟩ = some _ from hcA); have O6 := (show OwnsI wA.drew _ _ _ from OA.out).below hb6; have B6 := Lib.hid (below_seq BA.out (below_seq (drew_below _) hb6)); have x6 := O6.cell (k := o) (by rw [List.length_set]; exact HO6.out); have f6 := O6.free o))
                    have s2 := OwnsI.set O6 o (hpp : Int)
                    have O8 := Lib.hid s2.1
                    have p8 := heap_grown p6 s2.2 (by simp; omega)
                    have B8 := Lib.hid (below_grown B6.out s2.2 (Nat.le_refl _) (fun k e => by cases e; omega))
                    have HC9 : Hid (fn + onN L (k + 1) = NX + 1) := by
                      show _ = _
                      have h1 := HCN.out; have h2 := HNX2.out; simp at h1; omega
                    clear s2
                    go_wp2
                    go_roundw
                    case rel => exact ⟨k + 1, by omega, by go_num, by rw [HC9.out]; rfl, by rw [HNX.out]; exact O8.out, p8, B8.out⟩
                    case measure => simp [intOf]; omega
          · obtain rfl : k = m := by omega
            have hln := mkL_len W T L fn k
            rw [← HM.out] at hln
            have HLN := Lib.hid hln; clear hln
            go_wp2
            go_ret
            rw [HLN.out]
            exact ⟨some ⟨gD, 0, none⟩, cD, rfl, HO.out.lower (Nat.le_succ _), BEL.out⟩

end Go.Proofs.Ytpcajacekmidbaa
