/- Contracts of slices.Contains, impl.markedRegion and impl.PartRegion. -/
import Derived.Test.YtfkhjaboafedpaaPartsN
import Derived.Test.YtfkhjaboafedpaaSetRet
import Derived.Test.YtfkhjaboafedpaaFlip
namespace Go.Proofs.Ytfkhjaboafedpaa
open Go.RowKit
set_option linter.unusedVariables false
set_option maxRecDepth 100000
set_option linter.unusedSimpArgs false

/-- Whether one of the first k numbers is v. -/
def hasN (L : List Int) (v : Int) (k : Nat) : Bool := (List.range k).any fun i => L.getD i 0 == v
theorem hasN_zero (L : List Int) (v : Int) : hasN L v 0 = false := rfl
theorem hasN_succ (L : List Int) (v : Int) (k : Nat) : hasN L v (k + 1) = (hasN L v k || L.getD k 0 == v) := by
  unfold hasN; rw [List.range_succ, List.any_append]; simp
theorem hasN_of {L : List Int} {v : Int} {k m : Nat} (hk : k < m) (h : L.getD k 0 = v) : hasN L v m = true := by
  unfold hasN; rw [List.any_eq_true]; exact ⟨k, List.mem_range.2 hk, by simp only [h, beq_self_eq_true]⟩
/-- Which cells are marked so. -/
def markT (L : List Int) (v : Int) : List Bool := tab L.length fun i => L.getD i 0 == v
theorem markT_len (L : List Int) (v : Int) : (markT L v).length = L.length := tab_len _ _

set_option maxHeartbeats 1000000 in
theorem markedRegion_any (W T : Int) (a : Option Addr) (n cap : Nat) (xs : List Bool) (la : Option Addr) (lcap : Nat) (L : List Int) (v : Int) (w : World) (hn : n = L.length) (v1 : 1 ≤ W) (v2 : W ≤ 6) (v3 : 1 ≤ T) (v4 : T ≤ 6) (hWT : (n : Int) = W * T) (hl : IntsAt w la L) :
    Calls Try.prog 32 #[.agg #[.int .i64 W, .int .i64 T, .slice a n cap], .slice la n lcap, .int .i64 v] w fun e w' => ∃ g, e = .returned (.agg #[.int .i64 W, .int .i64 T, .slice (some ⟨g, 0, none⟩) n n]) ∧ OwnsB w' w.heap.size (.slice (some ⟨g, 0, none⟩) n n) (markT L v) ∧ Below w.heap.size w w' := by
  have n36 := (mul_bd v1 v2 v3 v4).2
  have n37 : n ≤ 36 := by omega
  clear n36
  have HN := Lib.hid hn; clear hn
  have HL := Lib.hid hl; clear hl
  have HWT := Lib.hid hWT.symm; clear hWT
  go_enter Try.func32, Try.ntmps32
  go_wp2_with fail
  have b1 := below2 w (.cells #[.int .i64 W, .int .i64 T, .slice a n cap] 27) (.cells #[.int .i64 0, .int .i64 0, .slice none 0 0] 27)
  refine (bareField_any W T n _ (by omega) (by omega) (by omega) (by omega) HWT.out (by omega)).mono ?_; rintro e w2 ⟨g, rfl, ho, hb2⟩
  have p2 := heap_later (heap_later (heap_new w (.cells #[.int .i64 W, .int .i64 T, .slice a n cap] 27 (0, 0))) (below1 _ _)) hb2
  have q2 := heap_later (heap_new2 w (.cells #[.int .i64 W, .int .i64 T, .slice a n cap] 27 (0, 0)) (.cells #[.int .i64 0, .int .i64 0, .slice none 0 0] 27 (0, 0))) hb2
  have b2 := below_seq b1 hb2
  have R2 : RowB w2 (w.heap.size + 2) g n n (fun _ => false) := (RowB.of (ho.lower (by simp)) (by simp)).congr (fun i hi => by simp [hi])
  have lg := R2.base
  clear ho hb2 b1
  have lp := heap_lt p2
  have lq := heap_lt q2
  go_wp2
  go_loopw [8, 17] (fun _ i wr => ∃ k : Nat, k ≤ n ∧ i = .int .i64 k ∧ RowB wr (w.heap.size + 2) g n n (fun j => decide (j < k) && (L.getD j 0 == v)) ∧ wr.heap[w.heap.size + 1]? = some (.cells #[.int .i64 0, .int .i64 0, .slice none 0 0] 27 (0, 0)) ∧ wr.heap[w2.heap.size]? = some (.cells #[.int .i64 W, .int .i64 T, .slice (some ⟨g, 0, none⟩) n n] 27 (0, 0)) ∧ Below w.heap.size w wr) (fun _ i _ => n - (intOf i).toNat)
  case atStart => exact ⟨0, Nat.zero_le _, rfl, (R2.below (below1 _ _)).congr (by intro i hi; simp), heap_later q2 (below1 _ _), heap_new _ _, below_seq b2 (below1 _ _)⟩
  case round =>
    obtain ⟨k, hk, rfl, hr, qr, sr, hbel⟩ := hrel
    rename World => wr
    have HR := Lib.hid hr; clear hr
    have BEL := Lib.hid hbel; clear hbel
    obtain ⟨s0, s1, s2⟩ := cells3 sr
    have l2 := heap_lt sr
    have SR := Lib.hid sr; clear sr
    have QR := Lib.hid qr; clear qr
    by_cases hlt : k < n
    · obtain ⟨lb, lo, rfl, hcx⟩ := (HL.out.below BEL.out) k (by rw [← HN.out]; exact hlt)
      obtain ⟨mu, hmu⟩ : ∃ mu, mu = L.getD k 0 := ⟨_, rfl⟩
      rw [← hmu] at hcx
      have HMU := Lib.hid hmu; clear hmu
      have e1 : (k : Int) < n := by omega
      have e0 : (0 : Int) ≤ k := by omega
      have hcell := HR.out.cell (k := k) hlt
      have hfree := HR.out.free k
      obtain ⟨old, hold⟩ : ∃ old, old = (decide (k < k) && (L.getD k 0 == v)) := ⟨_, rfl⟩
      rw [← hold] at hcell
      clear hold
      have hs := RowB.set HR.out k (mu == v)
      have hs1 := hs.1.congr (f' := fun j => decide (j < k + 1) && (L.getD j 0 == v)) (fun i hi => by
        by_cases e : i = k
        · subst e; rw [HMU.out]; simp
        · have : decide (i < k + 1) = decide (i < k) := by apply decide_eq_decide.2; omega
          simp only [if_neg e, this])
      have HS := Lib.hid hs1
      have HG := Lib.hid hs.2
      clear hs hs1
      go_upto_region 5 with fail
      go_region
      go_wp2_with fail
      go_roundw
      case rel => exact ⟨k + 1, by omega, by go_num, HS.out, heap_set_other QR.out (by simp; omega) _, heap_set_other SR.out (by simp; omega) _, (below_grown BEL.out HG.out (Nat.le_refl _) (fun q e => by have := Option.some.inj e; omega)).drew⟩
      case measure => simp [intOf]; omega
    · obtain rfl : k = n := by omega
      obtain ⟨d0, d1, d2⟩ := cells3 QR.out
      have e0 := free3 QR.out 0
      have e1 := free3 QR.out 1
      have e2 := free3 QR.out 2
      go_wp2
      refine bodyPost_ret (v := .agg #[.int .i64 W, .int .i64 T, .slice (some ⟨g, 0, none⟩) k k]) (by simp [results, Try.results32, go_sem, d0, d1, d2]) rfl ⟨_, rfl, ?_, ?_⟩
      · have := (HR.out.congr (f' := fun i => L.getD i 0 == v) (fun i hi => by simp [hi])).owns
        unfold markT
        rw [← HN.out]
        exact (OwnsB.set3 this (by omega) _ _ _).lower (by omega)
      · exact below_set3 BEL.out (by omega) _ _ _

/-- What PartRegion returns. -/
def partR (W T : Int) (xs : List Bool) (part : Int) : Int × Int × List Bool × Bool :=
  if decide (0 ≤ part) && hasN (partsF W T xs) part (partsF W T xs).length then (W, T, markT (partsF W T xs) part, true) else (0, 0, [], false)
theorem partR_len (W T : Int) (xs : List Bool) (part : Int) : (partR W T xs part).2.2.1.length ≤ xs.length := by
  unfold partR; split
  · simp only; rw [markT_len]; exact partsF_len W T xs
  · exact Nat.zero_le _
theorem parts_rv {W T : Int} {xs : List Bool} {v : Int} (h : hasN (partsF W T xs) v (partsF W T xs).length = true) : rv W T xs = true := by
  cases hr : rv W T xs
  · unfold partsF at h; rw [hr] at h; simp [hasN] at h
  · rfl
theorem partsF_rv {W T : Int} {xs : List Bool} (h : rv W T xs = true) : (partsF W T xs).length = xs.length := by
  unfold partsF; rw [h, if_pos rfl, marksL_len]

end Go.Proofs.Ytfkhjaboafedpaa
