/- Contracts of impl.freeAt, impl.firstFree and of the two functions TilingOk. -/
import Derived.Test.YtnpmnjmjbpfipaaLaidS
namespace Go.Proofs.Ytnpmnjmjbpfipaa
open Go.RowKit
set_option linter.unusedVariables false
set_option maxRecDepth 100000
set_option linter.unusedSimpArgs false

set_option maxHeartbeats 1000000 in
theorem freeAt_any (W T : Int) (a : Option Addr) (n cap : Nat) (xs : List Bool) (la : Option Addr) (m lcap : Nat) (L : List Int) (k : Nat) (w : World) (hn : n = xs.length) (hm : m = L.length) (hn' : n ≤ 1048576) (hm' : m ≤ 1048576) (hk : k < n) (hkm : k < m) (ha : BoolsAt w a xs) (hl : IntsAt w la L) :
    Calls Try.prog 101 #[.agg #[.int .i64 W, .int .i64 T, .slice a n cap], .slice la m lcap, .int .i64 k] w fun e w' => e = .returned (.bool (freeB xs L k)) ∧ Below w.heap.size w w' := by
  obtain ⟨b, off, rfl, hx⟩ := ha k (by rw [← hn]; exact hk)
  obtain ⟨lb, lo, rfl, hv⟩ := hl k (by rw [← hm]; exact hkm)
  have hlx := World.block_lt_of_cell? w _ hx
  have hll := World.block_lt_of_cell? w _ hv
  simp only at hlx hll
  clear ha hl hn hm
  have e1 : (k : Int) < n := by omega
  have e2 : (k : Int) < m := by omega
  have e0 : (0 : Int) ≤ k := by omega
  obtain ⟨lk, hlk⟩ : ∃ lk, lk = L.getD k 0 := ⟨_, rfl⟩
  have HF : Hid (freeB xs L k = (xs.getD k false && (lk == 0))) := by show _ = _; rw [hlk]; rfl
  rw [← hlk] at hv
  clear hlk
  obtain ⟨xk, hxk⟩ : ∃ xk, xk = xs.getD k false := ⟨_, rfl⟩
  rw [← hxk] at hx HF
  clear hxk
  cases xk
  · go_enter Try.func101, Try.ntmps101
    go_wp2
    go_ret
    exact ⟨ret_bool (by rw [HF.out]; rfl), below1 _ _⟩
  · cases hz : (lk == 0)
    all_goals
      rw [hz] at HF
      go_enter Try.func101, Try.ntmps101
      go_wp2
      go_ret
      exact ⟨ret_bool (by rw [HF.out]; rfl), below1 _ _⟩

theorem freeAt_is (W T : Int) (a : Option Addr) (n cap : Nat) (xs : List Bool) (la : Option Addr) (m lcap : Nat) (L : List Int) (k : Nat) (w : World) {v : Bool} (hn : n = xs.length) (hm : m = L.length) (hn' : n ≤ 1048576) (hm' : m ≤ 1048576) (hk : k < n) (hkm : k < m) (ha : BoolsAt w a xs) (hl : IntsAt w la L) (h : freeB xs L k = v) :
    Calls Try.prog 101 #[.agg #[.int .i64 W, .int .i64 T, .slice a n cap], .slice la m lcap, .int .i64 k] w fun e w' => e = .returned (.bool v) ∧ Below w.heap.size w w' := by
  subst h; exact freeAt_any W T a n cap xs la m lcap L k w hn hm hn' hm' hk hkm ha hl

/-- No cell from s to k is free. -/
def NoFree (xs : List Bool) (L : List Int) (s k : Nat) : Prop := ∀ j, s ≤ j → j < k → freeB xs L j = false
theorem NoFree.step {xs : List Bool} {L : List Int} {s k : Nat} (h : NoFree xs L s k) (hk : freeB xs L k = false) : NoFree xs L s (k + 1) := fun j h1 h2 => by
  by_cases e : j = k
  · rw [e]; exact hk
  · exact h j h1 (by omega)

set_option maxHeartbeats 1000000 in
theorem firstFree_any (W T : Int) (a : Option Addr) (n cap : Nat) (xs : List Bool) (la : Option Addr) (m lcap : Nat) (L : List Int) (s : Nat) (w : World) (hn : n = xs.length) (hm : m = L.length) (hn' : n ≤ 1048576) (hnm : m = n) (hs : s ≤ m) (ha : BoolsAt w a xs) (hl : IntsAt w la L) :
    Calls Try.prog 98 #[.agg #[.int .i64 W, .int .i64 T, .slice a n cap], .slice la m lcap, .int .i64 s] w fun e w' => e = .returned (.int .i64 (firstI xs L s m)) ∧ Below w.heap.size w w' := by
  subst hnm
  have HN := Lib.hid hn; clear hn
  have HM := Lib.hid hm; clear hm
  have HA := Lib.hid ha; clear ha
  have HL := Lib.hid hl; clear hl
  go_enter Try.func98, Try.ntmps98
  go_wp2
  go_loopw [7] (fun i wr => ∃ k : Nat, s ≤ k ∧ k ≤ m ∧ i = .int .i64 k ∧ NoFree xs L s k ∧ wr.heap[w.heap.size]? = some (.cells #[.int .i64 W, .int .i64 T, .slice a m cap] 35 (0, 0)) ∧ Below w.heap.size w wr) (fun i _ => m - (intOf i).toNat)
  case atStart => exact ⟨s, Nat.le_refl _, hs, rfl, fun j h1 h2 => by omega, heap_new w _, below1 _ _⟩
  case round =>
    obtain ⟨k, hsk, hk, rfl, hno, hp, hbel⟩ := hrel
    have HNO := Lib.hid hno; clear hno
    by_cases hlt : k < m
    · obtain ⟨c0, c1, c2⟩ := cells3 hp
      have lp := heap_lt hp
      have e1 : (k : Int) < m := by omega
      have BEL := Lib.hid hbel; clear hbel
      cases hf : freeB xs L k
      · have HF := Lib.hid hf; clear hf
        go_wp2_with fail
        refine (freeAt_is _ _ _ _ _ xs _ _ _ L k _ HN.out HM.out hn' hn' hlt hlt (HA.out.below BEL.out) (HL.out.below BEL.out) HF.out).mono ?_; rintro e w6 ⟨rfl, hb6⟩
        have p6 := heap_later hp hb6
        go_wp2
        go_roundw
        case rel => exact ⟨k + 1, by omega, by omega, by go_num, HNO.out.step HF.out, p6, below_seq BEL.out hb6⟩
        case measure => simp [intOf]; omega
      · have HF := Lib.hid hf; clear hf
        have HV : Hid (firstI xs L s m = k) := first_some hsk hlt HNO.out HF.out
        go_wp2_with fail
        refine (freeAt_is _ _ _ _ _ xs _ _ _ L k _ HN.out HM.out hn' hn' hlt hlt (HA.out.below BEL.out) (HL.out.below BEL.out) HF.out).mono ?_; rintro e w6 ⟨rfl, hb6⟩
        go_wp2
        go_ret
        exact ⟨ret_int HV.out.symm, below_seq BEL.out hb6⟩
    · obtain rfl : k = m := by omega
      have HV : Hid (firstI xs L s k = -1) := first_none HNO.out
      go_wp2
      go_ret
      exact ⟨ret_int HV.out.symm, hbel⟩

theorem firstFree_is (W T : Int) (a : Option Addr) (n cap : Nat) (xs : List Bool) (la : Option Addr) (m lcap : Nat) (L : List Int) (s : Int) (w : World) {v : Int} (hn : n = xs.length) (hm : m = L.length) (hn' : n ≤ 1048576) (hnm : m = n) (hs0 : 0 ≤ s) (hs : s ≤ m) (ha : BoolsAt w a xs) (hl : IntsAt w la L) (h : firstI xs L s.toNat m = v) :
    Calls Try.prog 98 #[.agg #[.int .i64 W, .int .i64 T, .slice a n cap], .slice la m lcap, .int .i64 s] w fun e w' => e = .returned (.int .i64 v) ∧ Below w.heap.size w w' := by
  subst h
  have := firstFree_any W T a n cap xs la m lcap L s.toNat w hn hm hn' hnm (by omega) ha hl
  rw [show ((s.toNat : Nat) : Int) = s by omega] at this
  exact this

set_option maxHeartbeats 1000000 in
theorem iTilingOk_any (W T : Int) (a : Option Addr) (n cap : Nat) (xs : List Bool) (la : Option Addr) (m lcap : Nat) (L : List Int) (w : World) (hn : n = xs.length) (hn' : n ≤ 1048576) (hm : m = L.length) (hm' : m ≤ 1048576) (ha : BoolsAt w a xs) (hl : IntsAt w la L) :
    Calls Try.prog 76 #[.agg #[.int .i64 W, .int .i64 T, .slice a n cap], .slice la m lcap] w fun e w' => e = .returned (.bool (tok W T xs L)) ∧ Below w.heap.size w w' := by
  have HN := Lib.hid hn; clear hn
  have HM := Lib.hid hm; clear hm
  have HA := Lib.hid ha; clear ha
  have HL := Lib.hid hl; clear hl
  cases h : lok W T xs L
  · have H := Lib.hid h; clear h
    go_enter Try.func76, Try.ntmps76
    go_wp2_with fail
    refine (iLaidOk_any _ _ _ _ _ xs _ _ _ L _ HN.out hn' HM.out hm' (HA.out.one _) (HL.out.one _)).mono ?_; rintro e w1 ⟨rfl, hb1⟩
    rw [H.out]
    go_wp2
    go_ret
    exact ⟨ret_bool (by unfold tok; rw [H.out]; rfl), below_seq (below1 _ _) hb1⟩
  · obtain ⟨h1, h2, h3⟩ := lok_rv h
    have HLE : Hid (m = n) := by show m = n; rw [HM.out, HN.out]; exact h2
    clear h2 h3
    have H := Lib.hid h; clear h h1
    obtain ⟨fv, hfv⟩ : ∃ fv, firstI xs L (0 : Int).toNat m = fv := ⟨_, rfl⟩
    have HT : Hid (tok W T xs L = decide (fv < 0)) := by show _ = _; unfold tok; rw [H.out, ← hfv, HM.out]; rfl
    have HFV := Lib.hid hfv; clear hfv
    go_enter Try.func76, Try.ntmps76
    go_wp2_with fail
    refine (iLaidOk_any _ _ _ _ _ xs _ _ _ L _ HN.out hn' HM.out hm' (HA.out.one _) (HL.out.one _)).mono ?_; rintro e w1 ⟨rfl, hb1⟩
    have p1 := heap_later (heap_new w _) hb1
    have b1 := below_seq (below1 w _) hb1
    obtain ⟨c0, c1, c2⟩ := cells3 p1
    rw [H.out]
    go_wp2_with fail
    refine (firstFree_is _ _ _ _ _ xs _ _ _ L 0 _ HN.out HM.out hn' HLE.out (by omega) (by omega) (HA.out.below b1) (HL.out.below b1) HFV.out).mono ?_; rintro e w2 ⟨rfl, hb2⟩
    by_cases h0 : fv < 0
    all_goals
      go_wp2
      go_ret
      exact ⟨ret_bool (by rw [HT.out] <;> simp [h0]), below_seq b1 hb2⟩

end Go.Proofs.Ytnpmnjmjbpfipaa
