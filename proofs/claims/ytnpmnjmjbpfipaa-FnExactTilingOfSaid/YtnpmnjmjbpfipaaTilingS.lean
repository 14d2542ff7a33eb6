/- Contract of spec.TilingOk. -/
import Derived.Test.YtnpmnjmjbpfipaaFree
namespace Go.Proofs.Ytnpmnjmjbpfipaa
open Go.RowKit
set_option linter.unusedVariables false
set_option maxRecDepth 100000
set_option linter.unusedSimpArgs false

theorem tok_lok {W T : Int} {xs : List Bool} {L : List Int} (h : lok W T xs L = false) : tok W T xs L = false := by unfold tok; rw [h]; rfl
theorem tok_hit {W T : Int} {xs : List Bool} {L : List Int} {k : Nat} (hk : k < L.length) (hn : NoFree xs L 0 k) (hf : freeB xs L k = true) : tok W T xs L = false := by
  unfold tok; rw [first_some (Nat.zero_le _) hk hn hf]; simp
theorem tok_all {W T : Int} {xs : List Bool} {L : List Int} (h : lok W T xs L = true) (hn : NoFree xs L 0 L.length) : tok W T xs L = true := by
  unfold tok; rw [first_none hn, h]; rfl
theorem free_off {xs : List Bool} {L : List Int} {k : Nat} (h : xs.getD k false = false) : freeB xs L k = false := by unfold freeB; rw [h]; rfl
theorem free_on {xs : List Bool} {L : List Int} {k : Nat} (h : xs.getD k false = true) {v : Int} (hv : v = L.getD k 0) : freeB xs L k = (v == 0) := by unfold freeB; rw [h, ← hv]; rfl

set_option maxHeartbeats 1000000 in
theorem sTilingOk_any (W T : Int) (a : Option Addr) (n cap : Nat) (xs : List Bool) (la : Option Addr) (m lcap : Nat) (L : List Int) (w : World) (hn : n = xs.length) (hn' : n ≤ 1048576) (hm : m = L.length) (hm' : m ≤ 1048576) (ha : BoolsAt w a xs) (hl : IntsAt w la L) :
    Calls Try.prog 71 #[.agg #[.int .i64 W, .int .i64 T, .slice a n cap], .slice la m lcap] w fun e w' => e = .returned (.bool (tok W T xs L)) ∧ Below w.heap.size w w' := by
  have HN := Lib.hid hn; clear hn
  have HM := Lib.hid hm; clear hm
  have HA := Lib.hid ha; clear ha
  have HL := Lib.hid hl; clear hl
  cases h : lok W T xs L
  · have H := Lib.hid h; clear h
    go_enter Try.func71, Try.ntmps71
    go_wp2_with fail
    refine (sLaidOk_any _ _ _ _ _ xs _ _ _ L _ HN.out hn' HM.out hm' (HA.out.one _) (HL.out.one _)).mono ?_; rintro e w1 ⟨rfl, hb1⟩
    rw [H.out]
    go_wp2
    go_ret
    exact ⟨ret_bool (tok_lok H.out).symm, below_seq (below1 _ _) hb1⟩
  · obtain ⟨h1, h2, h3⟩ := lok_rv h
    have hle : m = n := by rw [HM.out, HN.out]; exact h2
    subst hle
    clear h2 h3
    have H := Lib.hid h; clear h h1
    go_enter Try.func71, Try.ntmps71
    go_wp2_with fail
    refine (sLaidOk_any _ _ _ _ _ xs _ _ _ L _ HN.out hn' HM.out hm' (HA.out.one _) (HL.out.one _)).mono ?_; rintro e w1 ⟨rfl, hb1⟩
    have p1 := heap_later (heap_new w _) hb1
    have b1 := below_seq (below1 w _) hb1
    clear hb1
    rw [H.out]
    obtain ⟨c0, c1, c2⟩ := cells3 p1
    go_wp2
    go_loopw [5] (fun i wr => ∃ k : Nat, k ≤ m ∧ i = .int .i64 k ∧ NoFree xs L 0 k ∧ wr.heap[w.heap.size]? = some (.cells #[.int .i64 W, .int .i64 T, .slice a m cap] 35 (0, 0)) ∧ Below w.heap.size w wr) (fun i _ => m - (intOf i).toNat)
    case atStart => exact ⟨0, Nat.zero_le _, rfl, fun j h1 h2 => by omega, p1, b1⟩
    case round =>
      clear c0 c1 c2
      obtain ⟨k, hk, rfl, hno, hp, hbel⟩ := hrel
      have HNO := Lib.hid hno; clear hno
      by_cases hlt : k < m
      · have AL := HA.out.below hbel
        obtain ⟨b, off, rfl, hx⟩ := AL k (by rw [← HN.out]; exact hlt)
        have IL := HL.out.below hbel
        obtain ⟨lb, lo, rfl, hv⟩ := IL k (by rw [← HM.out]; exact hlt)
        clear AL IL
        have BEL := Lib.hid hbel; clear hbel
        obtain ⟨c0, c1, c2⟩ := cells3 hp
        have e1 : (k : Int) < m := by omega
        have e0 : (0 : Int) ≤ k := by omega
        obtain ⟨lk, hlk⟩ : ∃ lk, lk = L.getD k 0 := ⟨_, rfl⟩
        rw [← hlk] at hv
        cases hxk : xs.getD k false
        · have HF := Lib.hid (free_off (L := L) hxk)
          rw [hxk] at hx
          have HXK := Lib.hid hxk; clear hxk
          have HLK := Lib.hid hlk; clear hlk
          go_wp2
          go_roundw
          case rel => exact ⟨k + 1, by omega, by go_num, HNO.out.step HF.out, hp, BEL.out⟩
          case measure => simp [intOf]; omega
        · have HF := Lib.hid (free_on hxk hlk)
          rw [hxk] at hx
          have HXK := Lib.hid hxk; clear hxk
          have HLK := Lib.hid hlk; clear hlk
          cases hz : (lk == 0)
          · have HZ := Lib.hid (HF.out.trans hz)
            go_wp2
            go_roundw
            case rel => exact ⟨k + 1, by omega, by go_num, HNO.out.step HZ.out, hp, BEL.out⟩
            case measure => simp [intOf]; omega
          · have HZ := Lib.hid (tok_hit (W := W) (T := T) (by rw [← HM.out]; exact hlt) HNO.out (HF.out.trans hz))
            go_wp2
            go_ret
            exact ⟨ret_bool HZ.out.symm, BEL.out⟩
      · obtain rfl : k = m := by omega
        have HZ := Lib.hid (tok_all H.out (by rw [← HM.out]; exact HNO.out))
        go_wp2
        go_ret
        exact ⟨ret_bool HZ.out.symm, hbel⟩

end Go.Proofs.Ytnpmnjmjbpfipaa
