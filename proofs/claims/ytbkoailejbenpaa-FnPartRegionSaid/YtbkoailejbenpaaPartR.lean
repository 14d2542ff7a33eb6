/- Contracts of slices.Contains, impl.markedRegion and impl.PartRegion. -/
import Derived.Test.YtbkoailejbenpaaPartsN
import Derived.Test.YtbkoailejbenpaaSetRet
import Derived.Test.YtbkoailejbenpaaFlip
namespace Go.Proofs.Ytbkoailejbenpaa
open Go.RowKit
set_option linter.unusedVariables false
set_option maxRecDepth 100000
set_option linter.unusedSimpArgs false

/-- Whether one of the first k numbers is v. -/
def hasN (L : List Int) (v : Int) (k : Nat) : Bool := (List.range k).any fun i => L.getD i 0 == v
theorem hasN_zero (L : List Int) (v : Int) : hasN L v 0 = false := rfl
theorem hasN_succ (L : List Int) (v : Int) (k : Nat) : hasN L v (k + 1) = (hasN L v k || L.getD k 0 == v) := by
  unfold hasN; rw [List.range_succ, List.any_append]; simp
theorem hasN_of {L : List Int} {v : Int} {k m : Nat} (hk : k < m) (h : L.getD k 0 = v) : hasN L v m = true := by
  unfold hasN; rw [List.any_eq_true]; exact ⟨k, List.mem_range.2 hk, by simp only [h, beq_self_eq_true]⟩
/-- Which cells are marked so. -/
def markT (L : List Int) (v : Int) : List Bool := tab L.length fun i => L.getD i 0 == v
theorem markT_len (L : List Int) (v : Int) : (markT L v).length = L.length := tab_len _ _

theorem index_any (la : Option Addr) (m lcap : Nat) (L : List Int) (v : Int) (w : World) (hm : m = L.length) (hm' : m ≤ 1048576) (hl : IntsAt w la L) :
    Calls Try.prog 28 #[.slice la m lcap, .int .i64 v] w fun e w' => (∃ r : Int, e = .returned (.int .i64 r) ∧ decide (0 ≤ r) = hasN L v m) ∧ w' = w := by
  have HM := Lib.hid hm; clear hm
  have HL := Lib.hid hl; clear hl
  go_enter Try.func28, Try.ntmps28
  go_wp2
  go_loop [8] (fun i => ∃ k : Nat, k ≤ m ∧ i = .int .i64 k ∧ hasN L v k = false) (fun i => m - (intOf i).toNat)
  case atStart => exact ⟨0, Nat.zero_le _, rfl, rfl⟩
  case round =>
    obtain ⟨k, hk, rfl, hh⟩ := hrel
    have HH := Lib.hid hh; clear hh
    by_cases hlt : k < m
    · obtain ⟨lb, lo, rfl, hcx⟩ := HL.out k (by rw [← HM.out]; exact hlt)
      obtain ⟨mu, hmu⟩ : ∃ mu, mu = L.getD k 0 := ⟨_, rfl⟩
      rw [← hmu] at hcx
      have HMU := Lib.hid hmu; clear hmu
      have e1 : (k : Int) < m := by omega
      have e2 : (0 : Int) ≤ k := by omega
      by_cases he : v = mu
      · subst he
        go_wp2
        go_ret
        refine ⟨⟨_, rfl, ?_⟩, rfl⟩
        rw [hasN_of hlt HMU.out.symm]; simp
      · have hne : (v == mu) = false := by simpa using he
        have hx : Hid (hasN L v (k + 1) = false) := by
          show _ = _
          rw [hasN_succ, HH.out, ← HMU.out]; simp; intro e; exact he e.symm
        go_wp2
        go_round
        case rel => exact ⟨k + 1, by omega, by go_num, hx.out⟩
        case measure => simp [intOf]; omega
    · obtain rfl : k = m := by omega
      go_wp2
      go_ret
      exact ⟨⟨_, rfl, by rw [HH.out]; decide⟩, rfl⟩
theorem contains_any (la : Option Addr) (m lcap : Nat) (L : List Int) (v : Int) (w : World) (hm : m = L.length) (hm' : m ≤ 1048576) (hl : IntsAt w la L) :
    Calls Try.prog 16 #[.slice la m lcap, .int .i64 v] w fun e w' => e = .returned (.bool (hasN L v m)) ∧ w' = w := by
  have HM := Lib.hid hm; clear hm
  have HL := Lib.hid hl; clear hl
  go_enter Try.func16, Try.ntmps16
  go_wp2_with (go_at_call 28; refine (index_any la m lcap L v _ HM.out hm' HL.out).mono ?_; rintro e w1 ⟨⟨r, rfl, hr⟩, hw⟩; rw [hw]; have HR := Lib.hid hr; clear hw hr)
  go_ret
  exact ⟨ret_bool HR.out, rfl⟩

set_option maxHeartbeats 1000000 in
theorem markedRegion_any (W T : Int) (a : Option Addr) (n cap : Nat) (xs : List Bool) (la : Option Addr) (lcap : Nat) (L : List Int) (v : Int) (w : World) (hn : n = L.length) (v1 : 1 ≤ W) (v2 : W ≤ 6) (v3 : 1 ≤ T) (v4 : T ≤ 6) (hWT : (n : Int) = W * T) (hl : IntsAt w la L) :
    Calls Try.prog 17 #[.agg #[.int .i64 W, .int .i64 T, .slice a n cap], .slice la n lcap, .int .i64 v] w fun e w' => ∃ g, e = .returned (.agg #[.int .i64 W, .int .i64 T, .slice (some ⟨g, 0, none⟩) n n]) ∧ OwnsB w' w.heap.size (.slice (some ⟨g, 0, none⟩) n n) (markT L v) ∧ Below w.heap.size w w' := by
  have n36 := (mul_bd v1 v2 v3 v4).2
  have n37 : n ≤ 36 := by omega
  clear n36
  have HN := Lib.hid hn; clear hn
  have HL := Lib.hid hl; clear hl
  have HWT := Lib.hid hWT.symm; clear hWT
  go_enter Try.func17, Try.ntmps17
  go_wp2_with fail
  have b1 := below2 w (.cells #[.int .i64 W, .int .i64 T, .slice a n cap] 25) (.cells #[.int .i64 0, .int .i64 0, .slice none 0 0] 25)
  refine (bareField_any W T n _ (by omega) (by omega) (by omega) (by omega) HWT.out (by omega)).mono ?_; rintro e w2 ⟨g, rfl, ho, hb2⟩
  have p2 := heap_later (heap_later (heap_new w (.cells #[.int .i64 W, .int .i64 T, .slice a n cap] 25 (0, 0))) (below1 _ _)) hb2
  have q2 := heap_later (heap_new2 w (.cells #[.int .i64 W, .int .i64 T, .slice a n cap] 25 (0, 0)) (.cells #[.int .i64 0, .int .i64 0, .slice none 0 0] 25 (0, 0))) hb2
  have b2 := below_seq b1 hb2
  have R2 : RowB w2 (w.heap.size + 2) g n n (fun _ => false) := (RowB.of (ho.lower (by simp)) (by simp)).congr (fun i hi => by simp [hi])
  have lg := R2.base
  clear ho hb2 b1
  have lp := heap_lt p2
  have lq := heap_lt q2
  go_wp2
  go_loopw [8, 17] (fun _ i wr => ∃ k : Nat, k ≤ n ∧ i = .int .i64 k ∧ RowB wr (w.heap.size + 2) g n n (fun j => decide (j < k) && (L.getD j 0 == v)) ∧ wr.heap[w.heap.size + 1]? = some (.cells #[.int .i64 0, .int .i64 0, .slice none 0 0] 25 (0, 0)) ∧ wr.heap[w2.heap.size]? = some (.cells #[.int .i64 W, .int .i64 T, .slice (some ⟨g, 0, none⟩) n n] 25 (0, 0)) ∧ Below w.heap.size w wr) (fun _ i _ => n - (intOf i).toNat)
  case atStart => exact ⟨0, Nat.zero_le _, rfl, (R2.below (below1 _ _)).congr (by intro i hi; simp), heap_later q2 (below1 _ _), heap_new _ _, below_seq b2 (below1 _ _)⟩
  case round =>
    obtain ⟨k, hk, rfl, hr, qr, sr, hbel⟩ := hrel
    rename World => wr
    have HR := Lib.hid hr; clear hr
    have BEL := Lib.hid hbel; clear hbel
    obtain ⟨s0, s1, s2⟩ := cells3 sr
    have l2 := heap_lt sr
    have SR := Lib.hid sr; clear sr
    have QR := Lib.hid qr; clear qr
    by_cases hlt : k < n
    · obtain ⟨lb, lo, rfl, hcx⟩ := (HL.out.below BEL.out) k (by rw [← HN.out]; exact hlt)
      obtain ⟨mu, hmu⟩ : ∃ mu, mu = L.getD k 0 := ⟨_, rfl⟩
      rw [← hmu] at hcx
      have HMU := Lib.hid hmu; clear hmu
      have e1 : (k : Int) < n := by omega
      have e0 : (0 : Int) ≤ k := by omega
      have hcell := HR.out.cell (k := k) hlt
      have hfree := HR.out.free k
      obtain ⟨old, hold⟩ : ∃ old, old = (decide (k < k) && (L.getD k 0 == v)) := ⟨_, rfl⟩
      rw [← hold] at hcell
      clear hold
      have hs := RowB.set HR.out k (mu == v)
      have hs1 := hs.1.congr (f' := fun j => decide (j < k + 1) && (L.getD j 0 == v)) (fun i hi => by
        by_cases e : i = k
        · subst e; rw [HMU.out]; simp
        · have : decide (i < k + 1) = decide (i < k) := by apply decide_eq_decide.2; omega
          simp only [if_neg e, this])
      have HS := Lib.hid hs1
      have HG := Lib.hid hs.2
      clear hs hs1
      go_upto_region 5 with fail
      go_region
      go_wp2_with fail
      go_roundw
      case rel => exact ⟨k + 1, by omega, by go_num, HS.out, heap_set_other QR.out (by simp; omega) _, heap_set_other SR.out (by simp; omega) _, (below_grown BEL.out HG.out (Nat.le_refl _) (fun q e => by have := Option.some.inj e; omega)).drew⟩
      case measure => simp [intOf]; omega
    · obtain rfl : k = n := by omega
      obtain ⟨d0, d1, d2⟩ := cells3 QR.out
      have e0 := free3 QR.out 0
      have e1 := free3 QR.out 1
      have e2 := free3 QR.out 2
      go_wp2
      refine bodyPost_ret (v := .agg #[.int .i64 W, .int .i64 T, .slice (some ⟨g, 0, none⟩) k k]) (by simp [results, Try.results17, go_sem, d0, d1, d2]) rfl ⟨_, rfl, ?_, ?_⟩
      · have := (HR.out.congr (f' := fun i => L.getD i 0 == v) (fun i hi => by simp [hi])).owns
        unfold markT
        rw [← HN.out]
        exact (OwnsB.set3 this (by omega) _ _ _).lower (by omega)
      · exact below_set3 BEL.out (by omega) _ _ _

/-- What PartRegion returns. -/
def partR (W T : Int) (xs : List Bool) (part : Int) : Int × Int × List Bool × Bool :=
  if decide (0 ≤ part) && hasN (partsF W T xs) part (partsF W T xs).length then (W, T, markT (partsF W T xs) part, true) else (0, 0, [], false)
theorem partR_len (W T : Int) (xs : List Bool) (part : Int) : (partR W T xs part).2.2.1.length ≤ xs.length := by
  unfold partR; split
  · simp only; rw [markT_len]; exact partsF_len W T xs
  · exact Nat.zero_le _
theorem parts_rv {W T : Int} {xs : List Bool} {v : Int} (h : hasN (partsF W T xs) v (partsF W T xs).length = true) : rv W T xs = true := by
  cases hr : rv W T xs
  · unfold partsF at h; rw [hr] at h; simp [hasN] at h
  · rfl
theorem partsF_rv {W T : Int} {xs : List Bool} (h : rv W T xs = true) : (partsF W T xs).length = xs.length := by
  unfold partsF; rw [h, if_pos rfl, marksL_len]

set_option maxHeartbeats 1000000 in
theorem iPartRegion_ret (W T part : Int) (a : Option Addr) (n cap : Nat) (xs : List Bool) (w : World) (hn : n = xs.length) (hn' : n ≤ 1048576) (ha : BoolsAt w a xs) :
    Calls Try.prog 5 #[.agg #[.int .i64 W, .int .i64 T, .slice a n cap], .int .i64 part] w (RetRegT w (partR W T xs part).1 (partR W T xs part).2.1 (partR W T xs part).2.2.1.length (partR W T xs part).2.2.1 (partR W T xs part).2.2.2) := by
  have HN := Lib.hid hn; clear hn
  have A2 := Lib.hid (ha.two (.cells #[.int .i64 W, .int .i64 T, .slice a n cap] 25) (.cells #[.int .i64 0, .int .i64 0, .slice none 0 0] 25))
  clear ha
  have hlen := partsF_len W T xs
  rw [← HN.out] at hlen
  have b0 := below2 w (.cells #[.int .i64 W, .int .i64 T, .slice a n cap] 25) (.cells #[.int .i64 0, .int .i64 0, .slice none 0 0] 25)
  have hI : Hid (∀ (w : World), BoolsAt w a xs → Calls Try.prog 15 #[.agg #[.int .i64 W, .int .i64 T, .slice a n cap]] w (RetL w (partsF W T xs).length (partsF W T xs))) := fun w h => iPartsOf_ret W T a n cap xs w HN.out hn' h
  by_cases hp : 0 ≤ part
  · cases hh : hasN (partsF W T xs) part (partsF W T xs).length
    · have e : partR W T xs part = (0, 0, [], false) := by unfold partR; rw [hh]; simp
      rw [e]
      have HH := Lib.hid hh; clear hh e
      have hpf : ¬ part < 0 := by omega
      go_enter Try.func5, Try.ntmps5
      go_wp2_with fail
      refine (hI.out _ A2.out).mono ?_; rintro e w1 ⟨la, lcap, rfl, ho, hb1⟩
      have q1 := heap_later (heap_new2 w (.cells #[.int .i64 W, .int .i64 T, .slice a n cap] 25 (0, 0)) (.cells #[.int .i64 0, .int .i64 0, .slice none 0 0] 25 (0, 0))) hb1
      have b1 := below_seq b0 hb1
      have L1 := Lib.hid (OwnsI.at ho)
      clear ho hb1
      obtain ⟨d0, d1, d2⟩ := cells3 q1
      have e0 := free3 q1 0
      have e1 := free3 q1 1
      have e2 := free3 q1 2
      go_wp2_with fail
      refine (contains_any _ _ _ (partsF W T xs) part _ rfl (by omega) L1.out).mono ?_; rintro e w2 ⟨rfl, hw⟩
      rw [hw, HH.out]
      clear hw
      go_wp2
      refine bodyPost_ret (v := .tuple #[.agg #[.int .i64 0, .int .i64 0, .slice none 0 0], .bool false]) (by simp [results, Try.results5, go_sem, d0, d1, d2]) rfl ⟨none, 0, rfl, OwnsB.nil _ _, below_set3 b1 (by omega) _ _ _⟩
    · obtain ⟨v1, v2, v3, v4, v5, _⟩ := rv_true (parts_rv hh)
      have hle := partsF_rv (parts_rv hh)
      rw [← HN.out] at hle v5
      have e : partR W T xs part = (W, T, markT (partsF W T xs) part, true) := by unfold partR; rw [hh, decide_eq_true hp]; rfl
      rw [e]
      simp only
      rw [markT_len]
      have HWT := Lib.hid v5; clear v5
      generalize partsF W T xs = L at hh hI hle hlen
      have HH := Lib.hid hh; clear hh e
      have hpf : ¬ part < 0 := by omega
      have hml := markT_len L part
      rw [hle] at hI hlen HH
      rw [hle]
      have HLE := Lib.hid hle.symm; clear hle hml
      go_enter Try.func5, Try.ntmps5
      go_wp2_with fail
      refine (hI.out _ A2.out).mono ?_; rintro e w1 ⟨la, lcap, rfl, ho, hb1⟩
      have p1 := heap_later (heap_later (heap_new w (.cells #[.int .i64 W, .int .i64 T, .slice a n cap] 25 (0, 0))) (below1 _ _)) hb1
      have q1 := heap_later (heap_new2 w (.cells #[.int .i64 W, .int .i64 T, .slice a n cap] 25 (0, 0)) (.cells #[.int .i64 0, .int .i64 0, .slice none 0 0] 25 (0, 0))) hb1
      have b1 := below_seq b0 hb1
      have L1 := Lib.hid (OwnsI.at ho)
      clear ho hb1
      obtain ⟨c0, c1, c2⟩ := cells3 p1
      go_wp2_with fail
      refine (contains_any _ _ _ L part _ HLE.out (by omega) L1.out).mono ?_; rintro e w2 ⟨rfl, hw⟩
      rw [hw, HH.out]
      clear hw
      go_wp2_with fail
      refine (markedRegion_any W T a n cap xs _ _ L part _ HLE.out v1 v2 v3 v4 HWT.out L1.out).mono ?_; rintro e w3 ⟨g, rfl, ho3, hb3⟩
      have q3 := heap_later q1 hb3
      have O3 := Lib.hid ho3
      have b3 := below_seq b1 hb3
      have hz := b1.size
      have hz0 := heap_lt q1
      clear ho3 hb3 c0 c1 c2
      obtain ⟨d0, d1, d2⟩ := cells3 q3
      have e0 := free3 q3 0
      have e1 := free3 q3 1
      have e2 := free3 q3 2
      go_wp2
      refine bodyPost_ret (v := .tuple #[.agg #[.int .i64 W, .int .i64 T, .slice (some ⟨g, 0, none⟩) n n], .bool true]) (by simp [results, Try.results5, go_sem, d0, d1, d2]) rfl ⟨_, _, rfl, ?_, below_set3 b3 (by omega) _ _ _⟩
      exact (OwnsB.set3 O3.out (by omega) _ _ _).lower hz
  · have e : partR W T xs part = (0, 0, [], false) := by unfold partR; rw [decide_eq_false hp]; rfl
    rw [e]
    clear e
    have hpf : part < 0 := by omega
    go_enter Try.func5, Try.ntmps5
    go_wp2_with fail
    refine (hI.out _ A2.out).mono ?_; rintro e w1 ⟨la, lcap, rfl, ho, hb1⟩
    have q1 := heap_later (heap_new2 w (.cells #[.int .i64 W, .int .i64 T, .slice a n cap] 25 (0, 0)) (.cells #[.int .i64 0, .int .i64 0, .slice none 0 0] 25 (0, 0))) hb1
    have b1 := below_seq b0 hb1
    clear ho hb1
    obtain ⟨d0, d1, d2⟩ := cells3 q1
    have e0 := free3 q1 0
    have e1 := free3 q1 1
    have e2 := free3 q1 2
    go_wp2
    refine bodyPost_ret (v := .tuple #[.agg #[.int .i64 0, .int .i64 0, .slice none 0 0], .bool false]) (by simp [results, Try.results5, go_sem, d0, d1, d2]) rfl ⟨none, 0, rfl, OwnsB.nil _ _, below_set3 b1 (by omega) _ _ _⟩
end Go.Proofs.Ytbkoailejbenpaa
