/- Contracts of impl.countWay and of impl.LaidMany, impl.FlatMany. Merged of: LaidN, LaidNS. -/
import Derived.Test.YtlnnoeojgdeagaaLaid
namespace Go.Proofs.Ytlnnoeojgdeagaa
open Go.RowKit
set_option linter.unusedVariables false
set_option maxRecDepth 100000
set_option linter.unusedSimpArgs false

theorem wayN_hit {L : List Int} {way : Int} {k : Nat} {v : Int} (hv : v = L.getD k 0) (h : (v == way) = true) : wayN L way (k + 1) = wayN L way k + 1 := by
  rw [wayN_succ, ← hv, h]; rfl
theorem wayN_miss {L : List Int} {way : Int} {k : Nat} {v : Int} (hv : v = L.getD k 0) (h : (v == way) = false) : wayN L way (k + 1) = wayN L way k := by
  rw [wayN_succ, ← hv, h]; rfl

set_option maxHeartbeats 1000000 in
theorem countWay_any (la : Option Addr) (m lcap : Nat) (L : List Int) (way : Int) (w : World) (hm : m = L.length) (hm' : m ≤ 1048576) (hl : IntsAt w la L) :
    Calls Try.prog 82 #[.slice la m lcap, .int .i64 way] w fun e w' => e = .returned (.int .i64 (wayN L way m)) ∧ w = w' := by
  have HM := Lib.hid hm; clear hm
  have HL := Lib.hid hl; clear hl
  go_enter Try.func82, Try.ntmps82
  go_wp2
  go_loop [5, 7, 10] (fun c _ i => ∃ k : Nat, k ≤ m ∧ i = .int .i64 k ∧ c = .int .i64 (wayN L way k)) (fun _ _ i => m - (intOf i).toNat)
  case atStart => exact ⟨0, Nat.zero_le _, rfl, rfl⟩
  case round =>
    obtain ⟨k, hk, rfl, rfl⟩ := hrel
    by_cases hlt : k < m
    · obtain ⟨lb, lo, rfl, hv⟩ := HL.out k (by rw [← HM.out]; exact hlt)
      obtain ⟨lk, hlk⟩ : ∃ lk, lk = L.getD k 0 := ⟨_, rfl⟩
      rw [← hlk] at hv
      have hc := wayN_le L way k
      cases hz : (lk == way)
      · have HZ := Lib.hid (wayN_miss hlk hz)
        clear hlk
        go_wp2
        go_round
        case rel => exact ⟨k + 1, by omega, by go_num, by rw [HZ.out]⟩
        case measure => simp [intOf]; omega
      · have HZ := Lib.hid (wayN_hit hlk hz)
        clear hlk
        go_wp2
        go_round
        case rel => exact ⟨k + 1, by omega, by go_num, by rw [HZ.out]; go_num⟩
        case measure => simp [intOf]; omega
    · obtain rfl : k = m := by omega
      go_wp2
      go_ret
      exact ⟨rfl, rfl⟩

set_option maxHeartbeats 1000000 in
theorem iLaidMany_any (W T : Int) (a : Option Addr) (n cap : Nat) (xs : List Bool) (la : Option Addr) (m lcap : Nat) (L : List Int) (w : World) (hn : n = xs.length) (hn' : n ≤ 1048576) (hm : m = L.length) (hm' : m ≤ 1048576) (ha : BoolsAt w a xs) (hl : IntsAt w la L) :
    Calls Try.prog 38 #[.agg #[.int .i64 W, .int .i64 T, .slice a n cap], .slice la m lcap] w fun e w' => e = .returned (.int .i64 (laidN W T xs L)) ∧ Below w.heap.size w w' := by
  have HN := Lib.hid hn; clear hn
  have HM := Lib.hid hm; clear hm
  have HA := Lib.hid ha; clear ha
  have HL := Lib.hid hl; clear hl
  cases h : lok W T xs L
  · have H := Lib.hid h; clear h
    go_enter Try.func38, Try.ntmps38
    go_wp2_with fail
    refine (iLaidOk_any _ _ _ _ _ xs _ _ _ L _ HN.out hn' HM.out hm' (HA.out.one _) (HL.out.one _)).mono ?_; rintro e w1 ⟨rfl, hb1⟩
    rw [H.out]
    go_wp2
    go_ret
    exact ⟨ret_int (by unfold laidN; rw [H.out]; rfl), below_seq (below1 _ _) hb1⟩
  · have H := Lib.hid h; clear h
    have h1 := wayN_le L 1 m
    have h2 := wayN_le L 2 m
    go_enter Try.func38, Try.ntmps38
    go_wp2_with fail
    refine (iLaidOk_any _ _ _ _ _ xs _ _ _ L _ HN.out hn' HM.out hm' (HA.out.one _) (HL.out.one _)).mono ?_; rintro e w1 ⟨rfl, hb1⟩
    have b1 := below_seq (below1 w _) hb1
    rw [H.out]
    go_wp2_with (go_at_call 82; refine (countWay_any _ _ _ L _ _ HM.out hm' (HL.out.below b1)).mono ?_; rintro e w2 ⟨rfl, rfl⟩)
    go_ret
    exact ⟨ret_int (by unfold laidN; rw [H.out, ← HM.out]; rfl), b1⟩

set_option maxHeartbeats 1000000 in
theorem iFlatMany_any (W T : Int) (a : Option Addr) (n cap : Nat) (xs : List Bool) (la : Option Addr) (m lcap : Nat) (L : List Int) (w : World) (hn : n = xs.length) (hn' : n ≤ 1048576) (hm : m = L.length) (hm' : m ≤ 1048576) (ha : BoolsAt w a xs) (hl : IntsAt w la L) :
    Calls Try.prog 41 #[.agg #[.int .i64 W, .int .i64 T, .slice a n cap], .slice la m lcap] w fun e w' => e = .returned (.int .i64 (flatN W T xs L)) ∧ Below w.heap.size w w' := by
  have HN := Lib.hid hn; clear hn
  have HM := Lib.hid hm; clear hm
  have HA := Lib.hid ha; clear ha
  have HL := Lib.hid hl; clear hl
  cases h : lok W T xs L
  · have H := Lib.hid h; clear h
    go_enter Try.func41, Try.ntmps41
    go_wp2_with fail
    refine (iLaidOk_any _ _ _ _ _ xs _ _ _ L _ HN.out hn' HM.out hm' (HA.out.one _) (HL.out.one _)).mono ?_; rintro e w1 ⟨rfl, hb1⟩
    rw [H.out]
    go_wp2
    go_ret
    exact ⟨ret_int (by unfold flatN; rw [H.out]; rfl), below_seq (below1 _ _) hb1⟩
  · have H := Lib.hid h; clear h
    go_enter Try.func41, Try.ntmps41
    go_wp2_with fail
    refine (iLaidOk_any _ _ _ _ _ xs _ _ _ L _ HN.out hn' HM.out hm' (HA.out.one _) (HL.out.one _)).mono ?_; rintro e w1 ⟨rfl, hb1⟩
    have b1 := below_seq (below1 w _) hb1
    rw [H.out]
    go_wp2_with (go_at_call 82; refine (countWay_any _ _ _ L _ _ HM.out hm' (HL.out.below b1)).mono ?_; rintro e w2 ⟨rfl, rfl⟩)
    go_ret
    exact ⟨ret_int (by unfold flatN; rw [H.out, ← HM.out]; rfl), b1⟩

end Go.Proofs.Ytlnnoeojgdeagaa

namespace Go.Proofs.Ytlnnoeojgdeagaa
open Go.RowKit
set_option linter.unusedVariables false
set_option maxRecDepth 100000
set_option linter.unusedSimpArgs false

theorem lok_len {W T : Int} {xs : List Bool} {L : List Int} (h : lok W T xs L = true) : L.length = xs.length := (lok_rv h).2.1

set_option maxHeartbeats 1000000 in
theorem sFlatMany_any (W T : Int) (a : Option Addr) (n cap : Nat) (xs : List Bool) (la : Option Addr) (m lcap : Nat) (L : List Int) (w : World) (hn : n = xs.length) (hn' : n ≤ 1048576) (hm : m = L.length) (hm' : m ≤ 1048576) (ha : BoolsAt w a xs) (hl : IntsAt w la L) :
    Calls Try.prog 42 #[.agg #[.int .i64 W, .int .i64 T, .slice a n cap], .slice la m lcap] w fun e w' => e = .returned (.int .i64 (flatN W T xs L)) ∧ Below w.heap.size w w' := by
  have HN := Lib.hid hn; clear hn
  have HM := Lib.hid hm; clear hm
  have HA := Lib.hid ha; clear ha
  have HL := Lib.hid hl; clear hl
  cases h : lok W T xs L
  · have H := Lib.hid h; clear h
    go_enter Try.func42, Try.ntmps42
    go_wp2_with fail
    refine (sLaidOk_any _ _ _ _ _ xs _ _ _ L _ HN.out hn' HM.out hm' (HA.out.one _) (HL.out.one _)).mono ?_; rintro e w1 ⟨rfl, hb1⟩
    rw [H.out]
    go_wp2
    go_ret
    exact ⟨ret_int (by unfold flatN; rw [H.out]; rfl), below_seq (below1 _ _) hb1⟩
  · have H := Lib.hid h; clear h
    go_enter Try.func42, Try.ntmps42
    go_wp2_with fail
    refine (sLaidOk_any _ _ _ _ _ xs _ _ _ L _ HN.out hn' HM.out hm' (HA.out.one _) (HL.out.one _)).mono ?_; rintro e w1 ⟨rfl, hb1⟩
    have b1 := below_seq (below1 w _) hb1
    rw [H.out]
    go_wp2
    go_loop [5, 6] (fun c i => ∃ k : Nat, k ≤ m ∧ i = .int .i64 k ∧ c = .int .i64 (wayN L 1 k)) (fun _ i => m - (intOf i).toNat)
    case atStart => exact ⟨0, Nat.zero_le _, rfl, rfl⟩
    case round =>
      obtain ⟨k, hk, rfl, rfl⟩ := hrel
      by_cases hlt : k < m
      · obtain ⟨lb, lo, rfl, hv⟩ := HL.out.below b1 k (by rw [← HM.out]; exact hlt)
        obtain ⟨lk, hlk⟩ : ∃ lk, lk = L.getD k 0 := ⟨_, rfl⟩
        rw [← hlk] at hv
        have hc1 := wayN_le L 1 k
        cases hz1 : (lk == 1)
        · have HZ1 := Lib.hid (wayN_miss hlk hz1)
          clear hlk
          go_wp2
          go_round
          case rel => exact ⟨k + 1, by omega, by go_num, by rw [HZ1.out]⟩
          case measure => simp [intOf]; omega
        · have HZ1 := Lib.hid (wayN_hit hlk hz1)
          clear hlk
          go_wp2
          go_round
          case rel => exact ⟨k + 1, by omega, by go_num, by rw [HZ1.out]; go_num⟩
          case measure => simp [intOf]; omega
      · obtain rfl : k = m := by omega
        go_wp2
        go_ret
        exact ⟨ret_int (by unfold flatN; rw [H.out, ← HM.out]; rfl), b1⟩

end Go.Proofs.Ytlnnoeojgdeagaa
