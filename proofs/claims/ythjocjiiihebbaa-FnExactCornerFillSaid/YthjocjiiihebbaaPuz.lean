/- Contracts of PuzzleValid and PairOf, both sides. No statement is proved here. -/
import Derived.Test.YthjocjiiihebbaaLaidN
import Derived.Test.YthjocjiiihebbaaColr
namespace Go.Proofs.Ythjocjiiihebbaa
open Go.RowKit
set_option linter.unusedVariables false
set_option maxRecDepth 100000
set_option linter.unusedSimpArgs false

def digB (d : Int) : Bool := decide (0 ≤ d ∧ d ≤ 6)
/-- Whether the k-th entry of a list of numbers fits the k-th cell. -/
def pzAt (xs : List Bool) (D : List Int) (k : Nat) : Bool := if xs.getD k false then digB (D.getD k 0) else (D.getD k 0 == -1)
def pzN (xs : List Bool) (D : List Int) (k : Nat) : Bool := (List.range k).all (pzAt xs D)
def pzv (W T : Int) (xs : List Bool) (D : List Int) : Bool := rv W T xs && (D.length == xs.length) && pzN xs D D.length
theorem pzN_succ (xs : List Bool) (D : List Int) (k : Nat) : pzN xs D (k + 1) = (pzN xs D k && pzAt xs D k) := by
  unfold pzN; rw [List.range_succ, List.all_append]; simp
theorem pzN_at {xs : List Bool} {D : List Int} {k n : Nat} (hk : k < n) (h : pzN xs D n = true) : pzAt xs D k = true := by
  unfold pzN at h; exact List.all_eq_true.1 h k (List.mem_range.2 hk)
theorem pzv_no {W T : Int} {xs : List Bool} {D : List Int} {k : Nat} (hk : k < D.length) (h : pzAt xs D k = false) : pzv W T xs D = false := by
  cases hc : pzv W T xs D
  · rfl
  · simp only [pzv, Bool.and_eq_true] at hc
    rw [pzN_at hk hc.2] at h; cases h
theorem pzv_yes {W T : Int} {xs : List Bool} {D : List Int} (h : rv W T xs = true) (hl : D.length = xs.length) (hg : pzN xs D D.length = true) : pzv W T xs D = true := by
  unfold pzv; rw [h, hg, hl]; simp
theorem pzv_rv {W T : Int} {xs : List Bool} {D : List Int} (h : pzv W T xs D = true) : rv W T xs = true ∧ D.length = xs.length ∧ ∀ k, k < D.length → pzAt xs D k = true := by
  simp only [pzv, Bool.and_eq_true, beq_iff_eq] at h
  exact ⟨h.1.1, h.1.2, fun k hk => pzN_at hk h.2⟩
theorem pzAt_in {xs : List Bool} {D : List Int} {k : Nat} (h : xs.getD k false = true) : pzAt xs D k = digB (D.getD k 0) := by unfold pzAt; rw [h]; rfl
theorem pzAt_out {xs : List Bool} {D : List Int} {k : Nat} (h : xs.getD k false = false) : pzAt xs D k = (D.getD k 0 == -1) := by unfold pzAt; rw [h]; rfl

theorem digitOk_any (d : Int) (w : World) : Calls Try.prog 43 #[.int .i64 d] w fun e w' => e = .returned (.bool (digB d)) ∧ w' = w := by
  by_cases h1 : 0 ≤ d
  · by_cases h2 : d ≤ 6
    all_goals
      go_enter Try.func43, Try.ntmps43
      go_wp2
      go_ret
      exact ⟨ret_bool (by simp [digB, h1, h2]), rfl⟩
  · go_enter Try.func43, Try.ntmps43
    go_wp2
    go_ret
    exact ⟨ret_bool (by simp [digB]; omega), rfl⟩
theorem digitOk_is (d : Int) (w : World) {b : Bool} (h : digB d = b) : Calls Try.prog 43 #[.int .i64 d] w fun e w' => e = .returned (.bool b) ∧ w' = w := by subst h; exact digitOk_any d w
theorem digIn_is (d : Int) (w : World) {b : Bool} (h : digB d = b) : Calls Try.prog 42 #[.int .i64 d, .int .i64 0, .int .i64 6] w fun e w' => e = .returned (.bool b) ∧ w' = w := by
  subst h; exact (l1In_any d 0 6 w).mono fun _ _ ⟨a, b⟩ => ⟨a.trans rfl, b.symm⟩

set_option maxHeartbeats 2000000 in
theorem iPuzzleValid_any (W T : Int) (a : Option Addr) (n cap : Nat) (xs : List Bool) (la : Option Addr) (m lcap : Nat) (D : List Int) (w : World) (hn : n = xs.length) (hn' : n ≤ 1048576) (hm : m = D.length) (hm' : m ≤ 1048576) (ha : BoolsAt w a xs) (hl : IntsAt w la D) :
    Calls Try.prog 21 #[.agg #[.int .i64 W, .int .i64 T, .slice a n cap], .slice la m lcap] w fun e w' => e = .returned (.bool (pzv W T xs D)) ∧ Below w.heap.size w w' := by
  have HN := Lib.hid hn; clear hn
  have HM := Lib.hid hm; clear hm
  have HA := Lib.hid ha; clear ha
  have HL := Lib.hid hl; clear hl
  by_cases h : rv W T xs = true
  · by_cases hnm : m = n
    · subst hnm
      go_enter Try.func21, Try.ntmps21
      go_wp2_with fail
      refine (iRegionValid_any _ _ _ _ _ xs _ HN.out hn' (HA.out.one _)).mono ?_; rintro e w1 ⟨rfl, hb1⟩
      have p1 := heap_later (heap_new w (.cells #[.int .i64 W, .int .i64 T, .slice a m cap] 35)) hb1
      have b1 := below_seq (below1 w _) hb1
      clear hb1
      obtain ⟨c0, c1, c2⟩ := cells3 p1
      go_wp2
      go_loopw [5, 6, 21] (fun _ _ i wr => ∃ k : Nat, k ≤ m ∧ i = .int .i64 k ∧ pzN xs D k = true ∧ wr.heap[w.heap.size]? = some (.cells #[.int .i64 W, .int .i64 T, .slice a m cap] 35 (0, 0)) ∧ Below w.heap.size w wr) (fun _ _ i _ => m - (intOf i).toNat)
      case atStart => exact ⟨0, Nat.zero_le _, rfl, rfl, p1, b1⟩
      case round =>
        clear c0 c1 c2
        obtain ⟨k, hk, rfl, hg, hp, hbel⟩ := hrel
        by_cases hlt : k < m
        · obtain ⟨lb, lo, rfl, hc⟩ := (HL.out.below hbel) k (by rw [← HM.out]; exact hlt)
          obtain ⟨b, off, rfl, hx⟩ := (HA.out.below hbel) k (by rw [← HN.out]; exact hlt)
          have BEL := Lib.hid hbel; clear hbel
          have HG := Lib.hid hg; clear hg
          have hs := Lib.hid (pzN_succ xs D k)
          have e1 : (k : Int) < m := by omega
          have e0 : (0 : Int) ≤ k := by omega
          obtain ⟨c0, c1, c2⟩ := cells3 hp
          have lp := heap_lt hp
          cases hxk : xs.getD k false
          · rw [hxk] at hx
            have hat := pzAt_out (D := D) hxk
            have HXK := Lib.hid hxk; clear hxk
            cases hq : (D.getD k 0 == -1)
            · have HF := Lib.hid (pzv_no (W := W) (T := T) (k := k) (by rw [← HM.out]; exact hlt) (hat.trans hq))
              obtain ⟨d, hd⟩ : ∃ d, d = D.getD k 0 := ⟨_, rfl⟩
              rw [← hd] at hc hq
              have q2 : (d != -1) = true := by simpa using hq
              clear hd hat
              go_wp2
              go_ret
              first | exact ⟨ret_bool HF.out.symm, BEL.out⟩ | exact ⟨ret_bool HF.out.symm, below_seq BEL.out (drewN_below _ _)⟩
            · have HT := Lib.hid (hat.trans hq)
              obtain ⟨d, hd⟩ : ∃ d, d = D.getD k 0 := ⟨_, rfl⟩
              rw [← hd] at hc hq
              have q2 : (d != -1) = false := by simpa using hq
              clear hd hat
              go_wp2
              go_roundw
              case rel => first | exact ⟨k + 1, by omega, by go_num, by rw [hs.out, HG.out, HT.out]; rfl, hp, BEL.out⟩ | exact ⟨k + 1, by omega, by go_num, by rw [hs.out, HG.out, HT.out]; rfl, heap_later hp (drewN_below _ _), below_seq BEL.out (drewN_below _ _)⟩
              case measure => simp [intOf]; omega
          · rw [hxk] at hx
            have hat := pzAt_in (D := D) hxk
            have HXK := Lib.hid hxk; clear hxk
            cases hq : digB (D.getD k 0)
            · have HF := Lib.hid (pzv_no (W := W) (T := T) (k := k) (by rw [← HM.out]; exact hlt) (hat.trans hq))
              obtain ⟨d, hd⟩ : ∃ d, d = D.getD k 0 := ⟨_, rfl⟩
              rw [← hd] at hc hq
              have HB := Lib.hid hq; clear hq
              clear hd hat
              go_wp2_with (go_at_call 43; refine (digitOk_is _ _ HB.out).mono ?_; rintro e w6 ⟨rfl, rfl⟩)
              go_ret
              first | exact ⟨ret_bool HF.out.symm, BEL.out⟩ | exact ⟨ret_bool HF.out.symm, below_seq BEL.out (drewN_below _ _)⟩
            · have HT := Lib.hid (hat.trans hq)
              obtain ⟨d, hd⟩ : ∃ d, d = D.getD k 0 := ⟨_, rfl⟩
              rw [← hd] at hc hq
              have HB := Lib.hid hq; clear hq
              clear hd hat
              go_wp2_with (go_at_call 43; refine (digitOk_is _ _ HB.out).mono ?_; rintro e w6 ⟨rfl, rfl⟩)
              go_roundw
              case rel => first | exact ⟨k + 1, by omega, by go_num, by rw [hs.out, HG.out, HT.out]; rfl, hp, BEL.out⟩ | exact ⟨k + 1, by omega, by go_num, by rw [hs.out, HG.out, HT.out]; rfl, heap_later hp (drewN_below _ _), below_seq BEL.out (drewN_below _ _)⟩
              case measure => simp [intOf]; omega
        · obtain rfl : k = m := by omega
          have HT := Lib.hid (pzv_yes h (by rw [← HM.out, ← HN.out]) (by rw [← HM.out]; exact hg))
          clear hg
          go_wp2
          go_ret
          exact ⟨ret_bool HT.out.symm, hbel⟩
    · have HF : Hid (pzv W T xs D = false) := by
        show pzv W T xs D = false
        unfold pzv
        rw [show (D.length == xs.length) = false by rw [← HM.out, ← HN.out]; simpa using hnm]; simp
      have n1 : ((m : Int) != n) = true := by simp; omega
      have n2 : ((m : Int) == n) = false := by simp; omega
      have n3 : (m == n) = false := by simpa using hnm
      have n4 : (m != n) = true := by simpa using hnm
      go_enter Try.func21, Try.ntmps21
      go_wp2_with fail
      refine (iRegionValid_any _ _ _ _ _ xs _ HN.out hn' (HA.out.one _)).mono ?_; rintro e w1 ⟨rfl, hb1⟩
      have p1 := heap_later (heap_new w (.cells #[.int .i64 W, .int .i64 T, .slice a n cap] 35)) hb1
      obtain ⟨c0, c1, c2⟩ := cells3 p1
      go_wp2
      go_ret
      exact ⟨ret_bool HF.out.symm, below_seq (below1 _ _) hb1⟩
  · rw [Bool.not_eq_true] at h
    have HF : Hid (pzv W T xs D = false) := by show pzv W T xs D = false; unfold pzv; rw [h]; rfl
    go_enter Try.func21, Try.ntmps21
    go_wp2_with fail
    refine (iRegionValid_any _ _ _ _ _ xs _ HN.out hn' (HA.out.one _)).mono ?_; rintro e w1 ⟨rfl, hb1⟩
    go_wp2
    go_ret
    exact ⟨ret_bool HF.out.symm, below_seq (below1 _ _) hb1⟩

set_option maxHeartbeats 2000000 in
theorem sPuzzleValid_any (W T : Int) (a : Option Addr) (n cap : Nat) (xs : List Bool) (la : Option Addr) (m lcap : Nat) (D : List Int) (w : World) (hn : n = xs.length) (hn' : n ≤ 1048576) (hm : m = D.length) (hm' : m ≤ 1048576) (ha : BoolsAt w a xs) (hl : IntsAt w la D) :
    Calls Try.prog 18 #[.agg #[.int .i64 W, .int .i64 T, .slice a n cap], .slice la m lcap] w fun e w' => e = .returned (.bool (pzv W T xs D)) ∧ Below w.heap.size w w' := by
  have HN := Lib.hid hn; clear hn
  have HM := Lib.hid hm; clear hm
  have HA := Lib.hid ha; clear ha
  have HL := Lib.hid hl; clear hl
  by_cases h : rv W T xs = true
  · by_cases hnm : m = n
    · subst hnm
      go_enter Try.func18, Try.ntmps18
      go_wp2_with fail
      refine (sRegionValid_any _ _ _ _ _ xs _ HN.out hn' (HA.out.one _)).mono ?_; rintro e w1 ⟨rfl, hb1⟩
      have p1 := heap_later (heap_new w (.cells #[.int .i64 W, .int .i64 T, .slice a m cap] 35)) hb1
      have b1 := below_seq (below1 w _) hb1
      clear hb1
      obtain ⟨c0, c1, c2⟩ := cells3 p1
      go_wp2
      go_loopw [4, 5] (fun _ i wr => ∃ k : Nat, k ≤ m ∧ i = .int .i64 k ∧ pzN xs D k = true ∧ wr.heap[w.heap.size]? = some (.cells #[.int .i64 W, .int .i64 T, .slice a m cap] 35 (0, 0)) ∧ Below w.heap.size w wr) (fun _ i _ => m - (intOf i).toNat)
      case atStart => exact ⟨0, Nat.zero_le _, rfl, rfl, p1, b1⟩
      case round =>
        clear c0 c1 c2
        obtain ⟨k, hk, rfl, hg, hp, hbel⟩ := hrel
        by_cases hlt : k < m
        · obtain ⟨lb, lo, rfl, hc⟩ := (HL.out.below hbel) k (by rw [← HM.out]; exact hlt)
          obtain ⟨b, off, rfl, hx⟩ := (HA.out.below hbel) k (by rw [← HN.out]; exact hlt)
          have BEL := Lib.hid hbel; clear hbel
          have HG := Lib.hid hg; clear hg
          have hs := Lib.hid (pzN_succ xs D k)
          have e1 : (k : Int) < m := by omega
          have e0 : (0 : Int) ≤ k := by omega
          obtain ⟨c0, c1, c2⟩ := cells3 hp
          have lp := heap_lt hp
          cases hxk : xs.getD k false
          · rw [hxk] at hx
            have hat := pzAt_out (D := D) hxk
            have HXK := Lib.hid hxk; clear hxk
            cases hq : (D.getD k 0 == -1)
            · have HF := Lib.hid (pzv_no (W := W) (T := T) (k := k) (by rw [← HM.out]; exact hlt) (hat.trans hq))
              obtain ⟨d, hd⟩ : ∃ d, d = D.getD k 0 := ⟨_, rfl⟩
              rw [← hd] at hc hq
              have q2 : (d != -1) = true := by simpa using hq
              clear hd hat
              go_wp2
              go_ret
              first | exact ⟨ret_bool HF.out.symm, BEL.out⟩ | exact ⟨ret_bool HF.out.symm, below_seq BEL.out (drewN_below _ _)⟩
            · have HT := Lib.hid (hat.trans hq)
              obtain ⟨d, hd⟩ : ∃ d, d = D.getD k 0 := ⟨_, rfl⟩
              rw [← hd] at hc hq
              have q2 : (d != -1) = false := by simpa using hq
              clear hd hat
              go_wp2
              go_roundw
              case rel => first | exact ⟨k + 1, by omega, by go_num, by rw [hs.out, HG.out, HT.out]; rfl, hp, BEL.out⟩ | exact ⟨k + 1, by omega, by go_num, by rw [hs.out, HG.out, HT.out]; rfl, heap_later hp (drewN_below _ _), below_seq BEL.out (drewN_below _ _)⟩
              case measure => simp [intOf]; omega
          · rw [hxk] at hx
            have hat := pzAt_in (D := D) hxk
            have HXK := Lib.hid hxk; clear hxk
            cases hq : digB (D.getD k 0)
            · have HF := Lib.hid (pzv_no (W := W) (T := T) (k := k) (by rw [← HM.out]; exact hlt) (hat.trans hq))
              obtain ⟨d, hd⟩ : ∃ d, d = D.getD k 0 := ⟨_, rfl⟩
              rw [← hd] at hc hq
              have HB := Lib.hid hq; clear hq
              clear hd hat
              go_wp2_with (go_at_call 42; refine (digIn_is _ _ HB.out).mono ?_; rintro e w6 ⟨rfl, rfl⟩)
              go_ret
              first | exact ⟨ret_bool HF.out.symm, BEL.out⟩ | exact ⟨ret_bool HF.out.symm, below_seq BEL.out (drewN_below _ _)⟩
            · have HT := Lib.hid (hat.trans hq)
              obtain ⟨d, hd⟩ : ∃ d, d = D.getD k 0 := ⟨_, rfl⟩
              rw [← hd] at hc hq
              have HB := Lib.hid hq; clear hq
              clear hd hat
              go_wp2_with (go_at_call 42; refine (digIn_is _ _ HB.out).mono ?_; rintro e w6 ⟨rfl, rfl⟩)
              go_roundw
              case rel => first | exact ⟨k + 1, by omega, by go_num, by rw [hs.out, HG.out, HT.out]; rfl, hp, BEL.out⟩ | exact ⟨k + 1, by omega, by go_num, by rw [hs.out, HG.out, HT.out]; rfl, heap_later hp (drewN_below _ _), below_seq BEL.out (drewN_below _ _)⟩
              case measure => simp [intOf]; omega
        · obtain rfl : k = m := by omega
          have HT := Lib.hid (pzv_yes h (by rw [← HM.out, ← HN.out]) (by rw [← HM.out]; exact hg))
          clear hg
          go_wp2
          go_ret
          exact ⟨ret_bool HT.out.symm, hbel⟩
    · have HF : Hid (pzv W T xs D = false) := by
        show pzv W T xs D = false
        unfold pzv
        rw [show (D.length == xs.length) = false by rw [← HM.out, ← HN.out]; simpa using hnm]; simp
      have n1 : ((m : Int) != n) = true := by simp; omega
      have n2 : ((m : Int) == n) = false := by simp; omega
      have n3 : (m == n) = false := by simpa using hnm
      have n4 : (m != n) = true := by simpa using hnm
      go_enter Try.func18, Try.ntmps18
      go_wp2_with fail
      refine (sRegionValid_any _ _ _ _ _ xs _ HN.out hn' (HA.out.one _)).mono ?_; rintro e w1 ⟨rfl, hb1⟩
      have p1 := heap_later (heap_new w (.cells #[.int .i64 W, .int .i64 T, .slice a n cap] 35)) hb1
      obtain ⟨c0, c1, c2⟩ := cells3 p1
      go_wp2
      go_ret
      exact ⟨ret_bool HF.out.symm, below_seq (below1 _ _) hb1⟩
  · rw [Bool.not_eq_true] at h
    have HF : Hid (pzv W T xs D = false) := by show pzv W T xs D = false; unfold pzv; rw [h]; rfl
    go_enter Try.func18, Try.ntmps18
    go_wp2_with fail
    refine (sRegionValid_any _ _ _ _ _ xs _ HN.out hn' (HA.out.one _)).mono ?_; rintro e w1 ⟨rfl, hb1⟩
    go_wp2
    go_ret
    exact ⟨ret_bool HF.out.symm, below_seq (below1 _ _) hb1⟩

/-- The number of a pair. -/
def pairI (a b : Int) : Int := if digB a && digB b then 7 * min a b + max a b else -1
theorem dig_bd {a : Int} (h : digB a = true) : 0 ≤ a ∧ a ≤ 6 := by simpa [digB] using h

set_option maxHeartbeats 1000000 in
theorem iPairOf_any (a b : Int) (w : World) : Calls Try.prog 14 #[.int .i64 a, .int .i64 b] w fun e w' => e = .returned (.int .i64 (pairI a b)) ∧ w' = w := by
  cases ha : digB a
  · have e : pairI a b = -1 := by unfold pairI; rw [ha]; rfl
    rw [e]; clear e
    have HA := Lib.hid ha; clear ha
    go_enter Try.func14, Try.ntmps14
    go_wp2_with fail
    refine (digitOk_is _ _ HA.out).mono ?_; rintro e w1 ⟨rfl, rfl⟩
    go_wp2
    go_ret
    exact ⟨rfl, rfl⟩
  · obtain ⟨a0, a1⟩ := dig_bd ha
    cases hb : digB b
    · have e : pairI a b = -1 := by unfold pairI; rw [ha, hb]; rfl
      rw [e]; clear e
      have HA := Lib.hid ha; clear ha
      have HB := Lib.hid hb; clear hb
      go_enter Try.func14, Try.ntmps14
      go_wp2_with fail
      refine (digitOk_is _ _ HA.out).mono ?_; rintro e w1 ⟨rfl, rfl⟩
      go_wp2_with fail
      refine (digitOk_is _ _ HB.out).mono ?_; rintro e w1 ⟨rfl, rfl⟩
      go_wp2
      go_ret
      exact ⟨rfl, rfl⟩
    · obtain ⟨b0, b1⟩ := dig_bd hb
      have e : pairI a b = 7 * min a b + max a b := by unfold pairI; rw [ha, hb]; rfl
      rw [e]; clear e
      have HA := Lib.hid ha; clear ha
      have HB := Lib.hid hb; clear hb
      go_enter Try.func14, Try.ntmps14
      go_wp2_with fail
      refine (digitOk_is _ _ HA.out).mono ?_; rintro e w1 ⟨rfl, rfl⟩
      go_wp2_with fail
      refine (digitOk_is _ _ HB.out).mono ?_; rintro e w1 ⟨rfl, rfl⟩
      rcases Int.lt_trichotomy a b with hab | hab | hab
      · have mn : min a b = a := by omega
        have mx : max a b = b := by omega
        go_wp2
        go_ret
        exact ⟨by rw [mn, mx]; rfl, rfl⟩
      · subst hab
        have mn : min a a = a := by omega
        have mx : max a a = a := by omega
        go_wp2
        go_ret
        exact ⟨by rw [mn, mx]; rfl, rfl⟩
      · have mn : min a b = b := by omega
        have mx : max a b = a := by omega
        go_wp2
        go_ret
        exact ⟨by rw [mn, mx]; rfl, rfl⟩

set_option maxHeartbeats 1000000 in
theorem sPairOf_any (a b : Int) (w : World) : Calls Try.prog 13 #[.int .i64 a, .int .i64 b] w fun e w' => e = .returned (.int .i64 (pairI a b)) ∧ w' = w := by
  cases ha : digB a
  · have e : pairI a b = -1 := by unfold pairI; rw [ha]; rfl
    rw [e]; clear e
    have HA := Lib.hid ha; clear ha
    go_enter Try.func13, Try.ntmps13
    go_wp2_with fail
    refine (digIn_is _ _ HA.out).mono ?_; rintro e w1 ⟨rfl, rfl⟩
    go_wp2
    go_ret
    exact ⟨rfl, rfl⟩
  · obtain ⟨a0, a1⟩ := dig_bd ha
    cases hb : digB b
    · have e : pairI a b = -1 := by unfold pairI; rw [ha, hb]; rfl
      rw [e]; clear e
      have HA := Lib.hid ha; clear ha
      have HB := Lib.hid hb; clear hb
      go_enter Try.func13, Try.ntmps13
      go_wp2_with fail
      refine (digIn_is _ _ HA.out).mono ?_; rintro e w1 ⟨rfl, rfl⟩
      go_wp2_with fail
      refine (digIn_is _ _ HB.out).mono ?_; rintro e w1 ⟨rfl, rfl⟩
      go_wp2
      go_ret
      exact ⟨rfl, rfl⟩
    · obtain ⟨b0, b1⟩ := dig_bd hb
      have e : pairI a b = 7 * min a b + max a b := by unfold pairI; rw [ha, hb]; rfl
      rw [e]; clear e
      have HA := Lib.hid ha; clear ha
      have HB := Lib.hid hb; clear hb
      go_enter Try.func13, Try.ntmps13
      go_wp2_with fail
      refine (digIn_is _ _ HA.out).mono ?_; rintro e w1 ⟨rfl, rfl⟩
      go_wp2_with fail
      refine (digIn_is _ _ HB.out).mono ?_; rintro e w1 ⟨rfl, rfl⟩
      rcases Int.lt_trichotomy a b with hab | hab | hab
      · have mn : min a b = a := by omega
        have mx : max a b = b := by omega
        go_wp2
        go_ret
        exact ⟨by rw [mn, mx]; rfl, rfl⟩
      · subst hab
        have mn : min a a = a := by omega
        have mx : max a a = a := by omega
        go_wp2
        go_ret
        exact ⟨by rw [mn, mx]; rfl, rfl⟩
      · have mn : min a b = b := by omega
        have mx : max a b = a := by omega
        go_wp2
        go_ret
        exact ⟨by rw [mn, mx]; rfl, rfl⟩

end Go.Proofs.Ythjocjiiihebbaa
