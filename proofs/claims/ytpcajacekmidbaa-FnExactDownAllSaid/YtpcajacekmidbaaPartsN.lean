/- Contracts of impl.marksMany and of both functions PartsMany. -/
import Derived.Test.YtpcajacekmidbaaParts
namespace Go.Proofs.Ytpcajacekmidbaa
open Go.RowKit
set_option linter.unusedVariables false
set_option maxRecDepth 100000
set_option linter.unusedSimpArgs false

/-- How many of the first k entries are their own index. -/
def selfN (L : List Int) (k : Nat) : Nat := (List.range k).countP fun i => L.getD i 0 == (i : Int)
theorem selfN_zero (L : List Int) : selfN L 0 = 0 := rfl
theorem selfN_succ (L : List Int) (k : Nat) : selfN L (k + 1) = selfN L k + if L.getD k 0 == (k : Int) then 1 else 0 := by
  unfold selfN; rw [List.range_succ, List.countP_append]; simp [List.countP_cons]
theorem selfN_le (L : List Int) (k : Nat) : selfN L k ≤ k := by
  have := List.countP_le_length (p := fun i => L.getD i 0 == (i : Int)) (l := List.range k)
  rwa [List.length_range] at this

theorem marksMany_any (la : Option Addr) (m lcap : Nat) (L : List Int) (w : World) (hm : m = L.length) (hm' : m ≤ 1048576) (hl : IntsAt w la L) :
    Calls Try.prog 82 #[.slice la m lcap] w fun e w' => e = .returned (.int .i64 (selfN L m : Nat)) ∧ w' = w := by
  have HM := Lib.hid hm; clear hm
  have HL := Lib.hid hl; clear hl
  go_enter Try.func82, Try.ntmps82
  go_wp2
  go_loop [3, 8] (fun c i => ∃ k : Nat, k ≤ m ∧ i = .int .i64 k ∧ c = .int .i64 (selfN L k : Nat)) (fun _ i => m - (intOf i).toNat)
  case atStart => exact ⟨0, Nat.zero_le _, rfl, rfl⟩
  case round =>
    obtain ⟨k, hk, rfl, rfl⟩ := hrel
    have hs := selfN_le L k
    by_cases hlt : k < m
    · obtain ⟨lb, lo, rfl, hcx⟩ := HL.out k (by rw [← HM.out]; exact hlt)
      have hsu := selfN_succ L k
      obtain ⟨mu, hmu⟩ : ∃ mu, mu = L.getD k 0 := ⟨_, rfl⟩
      rw [← hmu] at hcx hsu
      clear hmu
      have e1 : (k : Int) < m := by omega
      have e2 : (0 : Int) ≤ k := by omega
      obtain ⟨q, hq⟩ : ∃ q, q = selfN L k := ⟨_, rfl⟩
      obtain ⟨q2, hq2⟩ : ∃ q2, q2 = selfN L (k + 1) := ⟨_, rfl⟩
      rw [← hq, ← hq2] at hsu
      rw [← hq]
      have hqk : q ≤ k := by rw [hq]; exact hs
      have HQ2 := Lib.hid hq2; clear hq2 hq hs
      by_cases he : mu = k
      · have hsu2 : q2 = q + 1 := by rw [hsu, he]; simp
        have HS := Lib.hid hsu2; clear hsu hsu2
        subst he
        go_wp2
        go_round
        case rel => exact ⟨k + 1, by omega, by go_num, by rw [← HQ2.out, HS.out]; go_num⟩
        case measure => simp [intOf]; omega
      · have hne : (mu == (k : Int)) = false := by simpa using he
        have hsu2 : q2 = q := by rw [hsu, hne]; simp
        have HS := Lib.hid hsu2; clear hsu hsu2
        go_wp2
        go_round
        case rel => exact ⟨k + 1, by omega, by go_num, by rw [← HQ2.out, HS.out]⟩
        case measure => simp [intOf]; omega
    · obtain rfl : k = m := by omega
      go_wp2
      go_ret
      exact ⟨rfl, rfl⟩

/-- How many parts there are. -/
def partsN (W T : Int) (xs : List Bool) : Int := if rv W T xs then (selfN (partsF W T xs) (partsF W T xs).length : Nat) else -1

theorem iPartsMany_any (W T : Int) (a : Option Addr) (n cap : Nat) (xs : List Bool) (w : World) (hn : n = xs.length) (hn' : n ≤ 1048576) (ha : BoolsAt w a xs) :
    Calls Try.prog 81 #[.agg #[.int .i64 W, .int .i64 T, .slice a n cap]] w fun e w' => e = .returned (.int .i64 (partsN W T xs)) ∧ Below w.heap.size w w' := by
  have HN := Lib.hid hn; clear hn
  have HA := Lib.hid ha; clear ha
  cases h : rv W T xs
  · have e : partsN W T xs = -1 := by unfold partsN; rw [h]; rfl
    rw [e]
    have H := Lib.hid h; clear h e
    go_enter Try.func81, Try.ntmps81
    go_wp2_with fail
    refine (iRegionValid_any _ _ _ _ _ xs _ HN.out hn' (HA.out.one _)).mono ?_; rintro e w1 ⟨rfl, hb1⟩
    rw [H.out]
    go_wp2
    go_ret
    exact ⟨rfl, below_seq (below1 _ _) hb1⟩
  · obtain ⟨v1, v2, v3, v4, v5, _⟩ := rv_true h
    have ef : partsF W T xs = marksL n (fun i => xs.getD i false) (adjW W false) := by unfold partsF; rw [h, if_pos rfl, HN.out]
    have e : partsN W T xs = (selfN (marksL n (fun i => xs.getD i false) (adjW W false)) n : Nat) := by unfold partsN; rw [h, if_pos rfl, ef, marksL_len]
    rw [e]
    have H := Lib.hid h; clear h e ef
    have hWT : (n : Int) = W * T := by rw [HN.out]; exact v5
    have HWT := Lib.hid hWT; clear hWT v5
    go_enter Try.func81, Try.ntmps81
    go_wp2_with fail
    refine (iRegionValid_any _ _ _ _ _ xs _ HN.out hn' (HA.out.one _)).mono ?_; rintro e w1 ⟨rfl, hb1⟩
    rw [H.out]
    have b1 := below_seq (below1 w (.cells #[.int .i64 W, .int .i64 T, .slice a n cap] 25)) hb1
    obtain ⟨c0, c1, c2⟩ := cells3 (heap_later (heap_new w (.cells #[.int .i64 W, .int .i64 T, .slice a n cap] 25)) hb1)
    go_wp2_with fail
    refine (marksOf_any W T a n cap xs false _ HN.out v1 (by omega) (by omega) (by omega) HWT.out (HA.out.below b1)).mono ?_; rintro e w2 ⟨g, M, rfl, hl, ho, hm, hb2⟩
    have hM := marksL_eq hm
    subst hM
    have HO := Lib.hid ho.at
    have HL := Lib.hid hl.symm
    have B2 := Lib.hid (below_seq b1 hb2)
    clear ho hl hm hb2 b1 c0 c1 c2
    go_wp2_with fail
    refine (marksMany_any _ n n _ _ HL.out hn' HO.out).mono ?_; rintro e w3 ⟨rfl, hw⟩
    rw [hw]
    clear hw
    go_wp2
    go_ret
    exact ⟨rfl, B2.out⟩

theorem sPartsMany_any (W T : Int) (a : Option Addr) (n cap : Nat) (xs : List Bool) (w : World) (hn : n = xs.length) (hn' : n ≤ 1048576) (ha : BoolsAt w a xs) :
    Calls Try.prog 116 #[.agg #[.int .i64 W, .int .i64 T, .slice a n cap]] w fun e w' => e = .returned (.int .i64 (partsN W T xs)) ∧ Below w.heap.size w w' := by
  have HN := Lib.hid hn; clear hn
  have HA := Lib.hid ha; clear ha
  cases h : rv W T xs
  · have e : partsN W T xs = -1 := by unfold partsN; rw [h]; rfl
    rw [e]
    have H := Lib.hid h; clear h e
    go_enter Try.func116, Try.ntmps116
    go_wp2_with fail
    refine (sRegionValid_any _ _ _ _ _ xs _ HN.out hn' (HA.out.one _)).mono ?_; rintro e w1 ⟨rfl, hb1⟩
    rw [H.out]
    go_wp2
    go_ret
    exact ⟨rfl, below_seq (below1 _ _) hb1⟩
  · have hlen := partsF_len W T xs
    have e : partsN W T xs = (selfN (partsF W T xs) (partsF W T xs).length : Nat) := by unfold partsN; rw [h, if_pos rfl]
    rw [e]
    have H := Lib.hid h; clear h e
    rw [← HN.out] at hlen
    have hS : ∀ (w : World), BoolsAt w a xs → Calls Try.prog 162 #[.agg #[.int .i64 W, .int .i64 T, .slice a n cap]] w (RetL w (partsF W T xs).length (partsF W T xs)) := fun w h => sPartsOf_ret W T a n cap xs w HN.out hn' h
    generalize partsF W T xs = L at hlen hS
    have HS := Lib.hid hS; clear hS
    obtain ⟨m, hm⟩ : ∃ m, m = L.length := ⟨_, rfl⟩
    rw [← hm] at hlen HS
    rw [← hm]
    have HM := Lib.hid hm; clear hm
    go_enter Try.func116, Try.ntmps116
    go_wp2_with fail
    refine (sRegionValid_any _ _ _ _ _ xs _ HN.out hn' (HA.out.one _)).mono ?_; rintro e w1 ⟨rfl, hb1⟩
    rw [H.out]
    have b1 := below_seq (below1 w (.cells #[.int .i64 W, .int .i64 T, .slice a n cap] 25)) hb1
    obtain ⟨c0, c1, c2⟩ := cells3 (heap_later (heap_new w (.cells #[.int .i64 W, .int .i64 T, .slice a n cap] 25)) hb1)
    go_wp2_with fail
    refine (HS.out _ (HA.out.below b1)).mono ?_; rintro e w2 ⟨la, lcap, rfl, ho, hb2⟩
    have HL := Lib.hid (OwnsI.at ho)
    have B2 := Lib.hid (below_seq b1 hb2)
    clear ho hb2 b1 c0 c1 c2 HS hb1
    go_wp2
    go_loop [3, 5] (fun c i => ∃ k : Nat, k ≤ m ∧ i = .int .i64 k ∧ c = .int .i64 (selfN L k : Nat)) (fun _ i => m - (intOf i).toNat)
    case atStart => exact ⟨0, Nat.zero_le _, rfl, rfl⟩
    case round =>
      obtain ⟨k, hk, rfl, rfl⟩ := hrel
      have hs := selfN_le L k
      by_cases hlt : k < m
      · obtain ⟨lb, lo, rfl, hcx⟩ := HL.out k (by rw [← HM.out]; exact hlt)
        have hsu := selfN_succ L k
        obtain ⟨mu, hmu⟩ : ∃ mu, mu = L.getD k 0 := ⟨_, rfl⟩
        rw [← hmu] at hcx hsu
        clear hmu
        have e1 : (k : Int) < m := by omega
        have e2 : (0 : Int) ≤ k := by omega
        obtain ⟨q, hq⟩ : ∃ q, q = selfN L k := ⟨_, rfl⟩
        obtain ⟨q2, hq2⟩ : ∃ q2, q2 = selfN L (k + 1) := ⟨_, rfl⟩
        rw [← hq, ← hq2] at hsu
        rw [← hq]
        have hqk : q ≤ k := by rw [hq]; exact hs
        have HQ2 := Lib.hid hq2; clear hq2 hq hs
        by_cases he : mu = k
        · have hsu2 : q2 = q + 1 := by rw [hsu, he]; simp
          have HS := Lib.hid hsu2; clear hsu hsu2
          subst he
          go_wp2
          go_round
          case rel => exact ⟨k + 1, by omega, by go_num, by rw [← HQ2.out, HS.out]; go_num⟩
          case measure => simp [intOf]; omega
        · have hne : (mu == (k : Int)) = false := by simpa using he
          have hsu2 : q2 = q := by rw [hsu, hne]; simp
          have HS := Lib.hid hsu2; clear hsu hsu2
          go_wp2
          go_round
          case rel => exact ⟨k + 1, by omega, by go_num, by rw [← HQ2.out, HS.out]⟩
          case measure => simp [intOf]; omega
      · obtain rfl : k = m := by omega
        go_wp2
        go_ret
        exact ⟨rfl, B2.out⟩
end Go.Proofs.Ytpcajacekmidbaa
