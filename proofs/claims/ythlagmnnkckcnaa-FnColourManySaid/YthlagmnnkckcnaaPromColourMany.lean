/- The law FnColourMany: its walk. -/
import Derived.Test.YthlagmnnkckcnaaDraw7
import Derived.Test.YthlagmnnkckcnaaColr
namespace Go.Proofs.Ythlagmnnkckcnaa
open Go.RowKit
set_option linter.unusedVariables false
set_option maxRecDepth 100000
set_option linter.unusedSimpArgs false

/-- The cells of the first k colours together. -/
def colSum (W : Int) (xs : List Bool) (r : Int) (n k : Nat) : Nat := ((List.range k).map fun s : Nat => colN W xs r s n).sum
theorem colSum_succ (W : Int) (xs : List Bool) (r : Int) (n k : Nat) : colSum W xs r n (k + 1) = colSum W xs r n k + colN W xs r k n := by
  unfold colSum; rw [List.range_succ, List.map_append, List.sum_append]; simp
theorem colSum_one (W : Int) (xs : List Bool) (r : Nat) (h1 : 1 ≤ r) (h4 : r ≤ 4) (n : Nat) : colSum W xs r (n + 1) r = colSum W xs r n r + if xs.getD n false then 1 else 0 := by
  obtain ⟨v, hv⟩ : ∃ v : Nat, (v : Int) = ((n : Int) % W + (n : Int) / W) % (r : Int) := ⟨(((n : Int) % W + (n : Int) / W) % (r : Int)).toNat, Int.toNat_of_nonneg (Int.emod_nonneg _ (by omega))⟩
  have hvr : v < r := by have := Int.emod_lt_of_pos ((n : Int) % W + (n : Int) / W) (show (0 : Int) < r by omega); omega
  have hc : ∀ s : Nat, clAt W r s n = decide (v = s) := by
    intro s; unfold clAt; rw [← hv]; apply Bool.eq_iff_iff.2; simp; omega
  have hr : r = 1 ∨ r = 2 ∨ r = 3 ∨ r = 4 := by omega
  cases hx : xs.getD n false
  · have h : ∀ s : Nat, colN W xs r s (n + 1) = colN W xs r s n := fun s => by rw [colN_succ, hx]; simp
    unfold colSum
    simp only [h]; simp
  · have h : ∀ s : Nat, colN W xs r s (n + 1) = colN W xs r s n + if v = s then 1 else 0 := fun s => by rw [colN_succ, hx, hc]; simp
    unfold colSum
    simp only [h, if_pos]
    rcases hr with rfl | rfl | rfl | rfl
    · have : v = 0 := by omega
      subst this; simp [List.range_succ]
    · have : v = 0 ∨ v = 1 := by omega
      rcases this with rfl | rfl <;> simp [List.range_succ] <;> omega
    · have : v = 0 ∨ v = 1 ∨ v = 2 := by omega
      rcases this with rfl | rfl | rfl <;> simp [List.range_succ] <;> omega
    · have : v = 0 ∨ v = 1 ∨ v = 2 ∨ v = 3 := by omega
      rcases this with rfl | rfl | rfl | rfl <;> simp [List.range_succ] <;> omega
theorem colSum_cnt (W : Int) (xs : List Bool) (r : Nat) (h1 : 1 ≤ r) (h4 : r ≤ 4) : ∀ n, n ≤ xs.length → colSum W xs r n r = cnt (xs.take n) := by
  intro n
  induction n with
  | zero =>
    intro _
    have h : ∀ l : List Nat, (l.map fun _ => 0).sum = 0 := fun l => by induction l with | nil => rfl | cons _ _ ih => simpa using ih
    unfold colSum colN cnt
    simpa using h (List.range r)
  | succ n ih => intro h; rw [colSum_one W xs r h1 h4, ih (by omega), cnt_take xs n (by omega)]
theorem colSum_all (W : Int) (xs : List Bool) (r : Nat) (h1 : 1 ≤ r) (h4 : r ≤ 4) : colSum W xs r xs.length r = cnt xs := by
  rw [colSum_cnt W xs r h1 h4 _ (Nat.le_refl _), List.take_length]

set_option maxHeartbeats 4000000 in
theorem promColourMany_walk (cb : Option Addr) (n cap : Nat) (zs : List Int) (w : World) (hn : n = zs.length) (hn' : n ≤ maxLen) (hcap : n ≤ cap) (hb : BytesAt w cb zs) :
    Calls Try.prog 6 #[.slice cb n cap] w fun e w' => e = .returned (.bool true) ∧ Below w.heap.size w w' := by
  have HN := Lib.hid hn; clear hn
  have HB := Lib.hid hb; clear hb
  by_cases hbig : 1048576 < n
  · unfold maxLen at hn'
    go_enter Try.func6, Try.ntmps6
    go_wp2
    go_ret
    exact ⟨rfl, Below.refl _ _⟩
  have hsm : n ≤ 1048576 := by omega
  clear hbig hn'
  go_enter Try.func6, Try.ntmps6
  go_wp2_with fail
  refine (drawColourMany_any _ _ _ zs _ HN.out hsm hcap HB.out).mono ?_; rintro e w1 ⟨W0, T0, a, m, c, xs, r, s, rfl, hm, h36, hs, hrs, ho, b1⟩
  have HM := Lib.hid hm; clear hm
  have AX := Lib.hid (OwnsB.at ho); clear ho
  obtain ⟨s0, s1, s2, s3⟩ := hs
  obtain ⟨r0, r1, r2, r3⟩ := hrs
  have hI : Hid (∀ (r s : Int) (w : World), BoolsAt w a xs → Calls Try.prog 31 #[.agg #[.int .i64 W0, .int .i64 T0, .slice a m c], .int .i64 r, .int .i64 s] w fun e w' => e = .returned (.int .i64 (colF W0 T0 xs r s)) ∧ Below w.heap.size w w') := fun r s w h => iColourMany_any W0 T0 r s a m c xs w HM.out (by omega) h
  obtain ⟨v, hv⟩ : ∃ v, v = colF W0 T0 xs r s := ⟨_, rfl⟩
  go_wp2_with fail
  refine (hI.out _ _ _ (AX.out.one _)).mono ?_; rintro e w2 ⟨rfl, hb2⟩
  have b2 := below_seq (below_seq b1 (below1 _ _)) hb2
  have p2 := heap_later (heap_new w1 _) hb2
  have A2 := Lib.hid ((AX.out.one (.cells #[.int .i64 W0, .int .i64 T0, .slice a m c] 25)).below hb2)
  obtain ⟨c0, c1, c2⟩ := cells3 p2
  rw [← hv]
  go_wp2_with fail
  refine (sColourMany_any W0 T0 r s a m c xs _ HM.out (by omega) A2.out).mono ?_; rintro e w3 ⟨rfl, hb3⟩
  have b3 := below_seq b2 hb3
  have p3 := heap_later p2 hb3
  have A3 := Lib.hid (A2.out.below hb3)
  rw [← hv]
  clear c0 c1 c2
  obtain ⟨c0, c1, c2⟩ := cells3 p3
  have hvv : (v != v) = false := by simp
  cases hok : colOk W0 T0 xs r s
  · have e : v = -1 := by rw [hv]; unfold colF; rw [hok]; rfl
    subst e
    clear hv hok
    go_wp2_with fail
    refine (alive_any _).mono ?_; rintro e w6 ⟨rfl, hb6⟩
    go_wp2
    go_ret
    exact ⟨rfl, below_seq b3 hb6⟩
  · have hok2 : rv W0 T0 xs = true ∧ barB r = true ∧ 0 ≤ s ∧ s < r := by
      unfold colOk at hok; simpa [Bool.and_eq_true, and_assoc] using hok
    obtain ⟨hrv, hbar, q0, q1⟩ := hok2
    have hr4 : 1 ≤ r ∧ r ≤ 4 := by simpa [barB] using hbar
    obtain ⟨q2, q3⟩ := hr4
    have hv0 : 0 ≤ v := by rw [hv]; unfold colF; rw [hok]; simp
    have hcol : ∀ k : Int, 0 ≤ k → k < r → colF W0 T0 xs r k = colN W0 xs r k m := by
      intro k h0 h1; unfold colF colOk; rw [hrv, hbar, decide_eq_true h0, decide_eq_true h1, HM.out]; rfl
    have hcol2 : colF W0 T0 xs 2 0 = colN W0 xs 2 0 m := by
      unfold colF colOk; rw [hrv, HM.out]; simp [barB]
    have hdk : dark W0 T0 xs = colN W0 xs 2 0 m := by
      unfold dark dkN colN; rw [hrv, if_pos rfl, HM.out]; rfl
    have hmany : many W0 T0 xs = cnt xs := by unfold many; rw [hrv]; rfl
    have hcnt : cnt xs ≤ 36 := Nat.le_trans (cnt_le xs) (by rw [← HM.out]; exact h36)
    obtain ⟨R, rfl⟩ := Int.eq_ofNat_of_zero_le (show 0 ≤ r by omega)
    have hall : colSum W0 xs R m R = cnt xs := by rw [HM.out]; exact colSum_all W0 xs R (by omega) (by omega)
    have hle : ∀ k, k ≤ R → colSum W0 xs R m k ≤ k * 36 := by
      intro k; induction k with
      | zero => intro _; simp [colSum]
      | succ k ih => intro h; rw [colSum_succ]; have := ih (by omega); have := colN_le W0 xs R k m; omega
    have HCOL := Lib.hid hcol; have HCOL2 := Lib.hid hcol2; have HDK := Lib.hid hdk; have HMANY := Lib.hid hmany; have HALL := Lib.hid hall; have HLE := Lib.hid hle
    clear hcol hcol2 hdk hmany hall hle hok hrv hbar hv
    clear c0 c1 c2
    have P3 := Lib.hid p3; clear p3
    obtain ⟨D, hD⟩ : ∃ D, D = colN W0 xs 2 0 m := ⟨_, rfl⟩
    have HD := Lib.hid hD; clear hD
    go_wp2_with fail
    go_loopw [7, 8] (fun c i wr => ∃ k : Nat, k ≤ R ∧ i = .int .i64 k ∧ c = .int .i64 (colSum W0 xs R m k) ∧ Below w3.heap.size w3 wr) (fun _ i _ => R - (intOf i).toNat)
    case atStart => exact ⟨0, Nat.zero_le _, rfl, by simp [colSum], Below.refl _ _⟩
    case round =>
      rename World => wq
      obtain ⟨k, hk, rfl, rfl, hbel⟩ := hrel
      have BEL := Lib.hid hbel; clear hbel
      have PQ := Lib.hid (heap_later P3.out BEL.out)
      obtain ⟨c0, c1, c2⟩ := cells3 PQ.out
      by_cases hlt : k < R
      · have e1 : (k : Int) < R := by omega
        have hcs := HCOL.out k (by omega) e1
        have HCS := Lib.hid hcs; clear hcs
        have hb1 := HLE.out k hk
        have hb2 := colN_le W0 xs R k m
        have hsu := colSum_succ W0 xs R m k
        have HSU := Lib.hid hsu; clear hsu
        go_wp2_with fail
        refine (hI.out _ _ _ (A3.out.below BEL.out)).mono ?_; rintro e w4 ⟨rfl, hb4⟩
        rw [HCS.out]
        have B4 := Lib.hid (below_seq BEL.out hb4)
        clear hb4
        go_wp2
        go_roundw
        case rel => exact ⟨k + 1, by omega, by go_num, by rw [HSU.out]; go_num, B4.out⟩
        case measure => simp [intOf]; omega
      · obtain rfl : k = R := by omega
        rw [HALL.out]
        go_wp2_with fail
        go_region_held3 (fun w' => w'.cell? ⟨w1.heap.size, 0, none⟩ = some (.int .i64 W0) ∧ w'.cell? ⟨w1.heap.size, 1, none⟩ = some (.int .i64 T0) ∧ w'.cell? ⟨w1.heap.size, 2, none⟩ = some (.slice a m c))
          (go_keep)
          (first
            | (go_at_call 21; refine (iDarkMany_any _ _ _ _ _ xs _ HM.out (by omega) (A3.out.below (below_seq (below_seq (below_seq BEL.out (drew_below _)) hb5) hb6))).mono ?_; rintro e w7 ⟨rfl, hb7⟩; have p7 := heap_later p6 hb7; obtain ⟨f0, f1, f2⟩ := cells3 p7)
            | (go_at_call 31; refine (hI.out _ _ _ (A3.out.below (below_seq (below_seq BEL.out (drew_below _)) hb5))).mono ?_; rintro e w6 ⟨rfl, hb6⟩; have p6 := heap_later p5 hb6; obtain ⟨t0, t1, t2⟩ := cells3 p6)
            | (go_at_call 33; refine (iCellsMany_any _ _ _ _ _ xs _ HM.out (by omega) (A3.out.below (below_seq BEL.out (drew_below _)))).mono ?_; rintro e w5 ⟨rfl, hb5⟩; rw [HMANY.out]; have p5 := heap_later (heap_later PQ.out (drew_below _)) hb5; obtain ⟨d0, d1, d2⟩ := cells3 p5))
        have BB := Lib.hid (below_seq b3 (below_seq (below_seq (below_seq (below_seq BEL.out (drew_below _)) hb5) hb6) hb7))
        have he : (colF W0 T0 xs 2 0 == dark W0 T0 xs) = true := by rw [HCOL2.out, HDK.out]; simp
        rw [he]
        go_wp2
        go_ret
        exact ⟨rfl, BB.out⟩

end Go.Proofs.Ythlagmnnkckcnaa
