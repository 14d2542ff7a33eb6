/- Contracts of spec.RegionFlip. -/
import Derived.Test.YtllcojeimnncoaaTurnS
import Derived.Test.YtllcojeimnncoaaFlip
namespace Go.Proofs.Ytllcojeimnncoaa
open Go.RowKit
set_option linter.unusedVariables false
set_option maxRecDepth 100000
set_option linter.unusedSimpArgs false

theorem fIdx_nat {W k : Nat} (hW : 0 < W) : k / W * W + W - 1 - k % W = fIdx W k := by
  have := Nat.mod_lt k hW
  unfold fIdx; omega
theorem fIdx_int' {W k : Nat} (hW : 0 < W) : (((k : Int) / W) * W + W - 1 - (k : Int) % W).toNat = fIdx W k := by
  rw [← fIdx_int hW]; congr 1; omega

theorem sRegionFlip_no (W T : Int) (a : Option Addr) (n cap : Nat) (xs : List Bool) (w : World) (hn : n = xs.length) (hn' : n ≤ 1048576) (ha : BoolsAt w a xs) (h : rv W T xs = false) :
    Calls Try.prog 35 #[.agg #[.int .i64 W, .int .i64 T, .slice a n cap]] w fun e w' => e = .returned (.agg #[.int .i64 0, .int .i64 0, .slice none 0 0]) ∧ Below w.heap.size w w' := by
  have HN := Lib.hid hn; clear hn
  have HA := Lib.hid ha; clear ha
  go_enter Try.func35, Try.ntmps35
  go_wp2_with fail
  refine (sRegionValid_any _ _ _ _ _ xs _ HN.out hn' (HA.out.two _ _)).mono ?_; rintro e w1 ⟨rfl, hb1⟩
  have b1 := below_seq (below2 w _ _) hb1
  have p1 := heap_later (heap_new2 w _ _) hb1
  obtain ⟨d0, d1, d2⟩ := cells3 p1
  have e0 := free3 p1 0
  have e1 := free3 p1 1
  have e2 := free3 p1 2
  go_wp2
  exact bodyPost_ret (v := .agg #[.int .i64 0, .int .i64 0, .slice none 0 0]) (by simp [results, Try.results35, go_sem, d0, d1, d2]) rfl ⟨rfl, below_set3 b1 (by omega) _ _ _⟩

set_option maxHeartbeats 2000000 in
theorem sRegionFlip_yes (W T : Nat) (a : Option Addr) (n cap : Nat) (xs : List Bool) (w : World) (hn : n = xs.length) (hn' : n ≤ 1048576) (ha : BoolsAt w a xs) (h : rv W T xs = true) (hnW : n = W * T) :
    Calls Try.prog 35 #[.agg #[.int .i64 W, .int .i64 T, .slice a n cap]] w fun e w' => ∃ g, e = .returned (.agg #[.int .i64 W, .int .i64 T, .slice (some ⟨g, 0, none⟩) n n]) ∧ OwnsB w' (w.heap.size + 2) (.slice (some ⟨g, 0, none⟩) n n) (flipped W T xs) ∧ Below w.heap.size w w' := by
  obtain ⟨v1, v2, v3, v4, v5, _⟩ := rv_true h
  have hW : 0 < W := by omega
  have hT : 0 < T := by omega
  have hNTW : Hid ((W : Int) * T = n) := by show (W : Int) * T = n; rw [hnW]; simp
  have n36 : n ≤ 36 := by
    have := mul_bd v1 v2 v3 v4
    have : ((W * T : Nat) : Int) ≤ 36 := by push_cast; exact this.2
    omega
  clear v5
  have HN := Lib.hid hn; clear hn
  have HA := Lib.hid ha; clear ha
  have HNW := Lib.hid hnW; clear hnW
  have hmk := run_makeB n hn'
  go_enter Try.func35, Try.ntmps35
  go_wp2_with fail
  refine (sRegionValid_any _ _ _ _ _ xs _ HN.out hn' (HA.out.two _ _)).mono ?_; rintro e w1 ⟨rfl, hb1⟩
  have b1 := below_seq (below2 w _ _) hb1
  have p1 := heap_later (heap_later (heap_new w _) (below1 _ _)) hb1
  have q1 := heap_later (heap_new2 w _ _) hb1
  clear hb1
  obtain ⟨c0, c1, c2⟩ := cells3 p1
  have lp := heap_lt p1
  have lq := heap_lt q1
  go_wp2_with fail
  go_region
  · obtain ⟨w2, hw2⟩ : ∃ w2, w2 = ((w1.alloc (.cells (falses n) 4)).alloc (.cells #[.int .i64 W, .int .i64 T, .slice (some ⟨w1.heap.size, 0, none⟩) n n] 28)).drew := ⟨_, rfl⟩
    have bb : Below w1.heap.size w1 w2 := by rw [hw2]; exact below_seq (below2 w1 _ _) (drew_below _)
    have b2 := below_seq b1 bb
    have p2 := heap_later p1 bb
    have q2 := heap_later q1 bb
    have s2 : w2.heap[w1.heap.size + 1]? = some (.cells #[.int .i64 W, .int .i64 T, .slice (some ⟨w1.heap.size, 0, none⟩) n n] 28 (0, 0)) := by rw [hw2]; exact (show (World.drew _).heap[_]? = some _ from heap_new2 w1 _ _)
    have R2 : RowB w2 (w.heap.size + 2) (w1.heap.size) n n (fun _ => false) := by rw [hw2]; exact (RowB.below (RowB.below (rowB_new _ n (by unfold maxLen; omega) (by omega)) (below1 _ _)) (drew_below _))
    rw [← hw2]
    clear hw2 c0 c1 c2
    go_wp2
    go_loopw [4] (fun i wr => ∃ k : Nat, k ≤ n ∧ i = .int .i64 k ∧ RowB wr (w.heap.size + 2) (w1.heap.size) n n (fPart W xs k) ∧ wr.heap[w.heap.size]? = some (.cells #[.int .i64 W, .int .i64 T, .slice a n cap] 28 (0, 0)) ∧ wr.heap[w.heap.size + 1]? = some (.cells #[.int .i64 0, .int .i64 0, .slice none 0 0] 28 (0, 0)) ∧ wr.heap[w1.heap.size + 1]? = some (.cells #[.int .i64 W, .int .i64 T, .slice (some ⟨w1.heap.size, 0, none⟩) n n] 28 (0, 0)) ∧ Below w.heap.size w wr) (fun i _ => n - (intOf i).toNat)
    case atStart => exact ⟨0, Nat.zero_le _, rfl, R2.congr (by intro i hi; simp [fPart]), p2, q2, s2, b2⟩
    case round =>
      obtain ⟨k, hk, rfl, hr, pr, qr, sr, hbel⟩ := hrel
      obtain ⟨c0, c1, c2⟩ := cells3 pr
      obtain ⟨s0, s1, s2'⟩ := cells3 sr
      have l1 := heap_lt pr
      have l2 := heap_lt sr
      by_cases hlt : k < n
      · obtain ⟨b, off, rfl, hc0⟩ := HA.out k (by rw [← HN.out]; exact hlt)
        have hbl := World.block_lt_of_cell? w _ hc0
        simp only at hbl
        have hc := (hbel.cell (p := ⟨b, off + k, none⟩) hbl).trans hc0
        clear hc0
        obtain ⟨m1, m2, m3, m4⟩ := divmod_bd (W := W) (k := k) v1
        have e1 : (k : Int) < n := by omega
        have e0 : (0 : Int) ≤ k := by omega
        have hW0 : (W : Int) ≠ 0 := by omega
        obtain ⟨x, hx⟩ : ∃ x, x = xs.getD k false := ⟨_, rfl⟩
        rw [← hx] at hc
        have HX := Lib.hid hx; clear hx
        have hkW : k < W * T := by rw [← HNW.out]; exact hlt
        have hdst := fIdx_lt hW hkW
        have hti := fIdx_int' (k := k) hW
        have hdv := div_lt_of hW hkW
        have hdv' : (k : Int) / W < T := by
          have : (((k / W : Nat)) : Int) < T := by omega
          simpa using this
        obtain ⟨i0, i1, i2⟩ := idx_bd (W := (W : Int)) (T := (T : Int)) (x := (W : Int) - 1 - (k : Int) % W) (y := (k : Int) / W) (by omega) (by omega) (by omega) (by omega)
        have i3 : ((k : Int) / W) * W + ((W : Int) - 1 - (k : Int) % W) < n := by rw [← hNTW.out]; exact i2
        have i4 : ((k : Int) / W) * W + W - 1 - (k : Int) % W < n := by omega
        have i5 : 0 ≤ ((k : Int) / W) * W + W - 1 - (k : Int) % W := by omega
        have i6 : (k : Int) % W ≤ ((k : Int) / W) * W + W - 1 := by omega
        have hcell := hr.cell (k := fIdx W k) (by rw [HNW.out]; exact hdst)
        have hfree := hr.free (fIdx W k)
        rw [← hti] at hcell hfree
        obtain ⟨old, hold⟩ : ∃ old, old = fPart W xs k (((k : Int) / W) * W + W - 1 - (k : Int) % W).toNat := ⟨_, rfl⟩
        rw [← hold] at hcell
        clear hold
        have n3 := hr.base
        have n1 : w1.heap.size ≠ w.heap.size := by omega
        have n2 : w1.heap.size ≠ w1.heap.size + 1 := by omega
        have n4 : w1.heap.size ≠ b := by omega
        have HTI := Lib.hid hti; clear hti
        have HR := Lib.hid hr; clear hr
        have BEL := Lib.hid hbel; clear hbel
        have W3 : IntKind.i64.wrap ((k : Int) / W * W) = (k : Int) / W * W := IntWalk.i64_in _ (by omega)
        have W4 : IntKind.i64.wrap ((k : Int) / W * W + W) = (k : Int) / W * W + W := IntWalk.i64_in _ (by clear W3; omega)
        have W5 : IntKind.i64.wrap ((k : Int) / W * W + W - 1) = (k : Int) / W * W + W - 1 := IntWalk.i64_in _ (by clear W3 W4; omega)
        have W6 : IntKind.i64.wrap ((k : Int) / W * W + W - 1 - (k : Int) % W) = (k : Int) / W * W + W - 1 - (k : Int) % W := IntWalk.i64_in _ (by clear W3 W4 W5; omega)
        go_wp2
        have T1 : (k : Int).tmod W = (k : Int) % W := Int.tmod_eq_emod_of_nonneg e0
        have T2 : IntKind.i64.wrap ((k : Int) / W) = (k : Int) / W := IntWalk.i64_in _ (by clear W3 W4 W5 W6; omega)
        have hW1 : W ≠ 0 := by clear W3 W4 W5 W6 T2; omega
        have hW2 : ((W : Int) == 0) = false := by simp; exact hW1
        go_still_tail 24, (by kernel_rfl)
        change wpList _ _ _ _ _ wr.drew
        clear W3 W4 W5 W6 T1 T2
        go_wp2
        have hi : k / W * W + W - 1 - k % W = fIdx W k := fIdx_nat hW
        have HS := (HR.out.set (fIdx W k) x).1.congr (f' := fPart W xs (k + 1)) (fun i hi => by rw [HX.out]; exact fPart_step xs hW i)
        rw [hi]
        go_roundw
        case rel => exact ⟨k + 1, by omega, by go_num, HS, heap_set_other pr (by simp; omega) _, heap_set_other qr (by simp; omega) _, heap_set_other sr (by simp) _, (BEL.out.setCell (by simp; omega) _).drew⟩
        case measure => simp [intOf]; omega
      · obtain rfl : k = n := by omega
        have HR := Lib.hid hr; clear hr
        obtain ⟨d0, d1, d2⟩ := cells3 qr
        have e0 := free3 qr 0
        have e1 := free3 qr 1
        have e2 := free3 qr 2
        go_wp2
        refine bodyPost_ret (v := .agg #[.int .i64 W, .int .i64 T, .slice (some ⟨w1.heap.size, 0, none⟩) k k]) (by simp [results, Try.results35, go_sem, d0, d1, d2]) rfl ⟨_, rfl, ?_, ?_⟩
        · have := (HR.out.congr (f' := fun j => xs.getD (fIdx W j) false) (fun i hi => by rw [HNW.out]; exact fPart_all xs hW i (by rw [← HNW.out]; exact hi))).owns
          rw [HNW.out] at this ⊢
          exact this.set3 (by omega) _ _ _
        · exact below_set3 hbel (by omega) _ _ _
  · obtain ⟨w2, hw2⟩ : ∃ w2, w2 = ((w1.alloc (.cells #[.int .i64 W, .int .i64 T, .slice (some ⟨w1.heap.size + 1, 0, none⟩) n n] 28)).alloc (.cells (falses n) 4)).drew := ⟨_, rfl⟩
    have bb : Below w1.heap.size w1 w2 := by rw [hw2]; exact below_seq (below2 w1 _ _) (drew_below _)
    have b2 := below_seq b1 bb
    have p2 := heap_later p1 bb
    have q2 := heap_later q1 bb
    have s2 : w2.heap[w1.heap.size]? = some (.cells #[.int .i64 W, .int .i64 T, .slice (some ⟨w1.heap.size + 1, 0, none⟩) n n] 28 (0, 0)) := by rw [hw2]; exact heap_later (heap_new w1 _) (below_seq (below1 _ _) (drew_below _))
    have R2 : RowB w2 (w.heap.size + 2) (w1.heap.size + 1) n n (fun _ => false) := by rw [hw2]; exact (RowB.below (rowB_new2 _ n _ (by unfold maxLen; omega) (by omega)) (drew_below _))
    rw [← hw2]
    clear hw2 c0 c1 c2
    go_wp2
    go_loopw [4] (fun i wr => ∃ k : Nat, k ≤ n ∧ i = .int .i64 k ∧ RowB wr (w.heap.size + 2) (w1.heap.size + 1) n n (fPart W xs k) ∧ wr.heap[w.heap.size]? = some (.cells #[.int .i64 W, .int .i64 T, .slice a n cap] 28 (0, 0)) ∧ wr.heap[w.heap.size + 1]? = some (.cells #[.int .i64 0, .int .i64 0, .slice none 0 0] 28 (0, 0)) ∧ wr.heap[w1.heap.size]? = some (.cells #[.int .i64 W, .int .i64 T, .slice (some ⟨w1.heap.size + 1, 0, none⟩) n n] 28 (0, 0)) ∧ Below w.heap.size w wr) (fun i _ => n - (intOf i).toNat)
    case atStart => exact ⟨0, Nat.zero_le _, rfl, R2.congr (by intro i hi; simp [fPart]), p2, q2, s2, b2⟩
    case round =>
      obtain ⟨k, hk, rfl, hr, pr, qr, sr, hbel⟩ := hrel
      obtain ⟨c0, c1, c2⟩ := cells3 pr
      obtain ⟨s0, s1, s2'⟩ := cells3 sr
      have l1 := heap_lt pr
      have l2 := heap_lt sr
      by_cases hlt : k < n
      · obtain ⟨b, off, rfl, hc0⟩ := HA.out k (by rw [← HN.out]; exact hlt)
        have hbl := World.block_lt_of_cell? w _ hc0
        simp only at hbl
        have hc := (hbel.cell (p := ⟨b, off + k, none⟩) hbl).trans hc0
        clear hc0
        obtain ⟨m1, m2, m3, m4⟩ := divmod_bd (W := W) (k := k) v1
        have e1 : (k : Int) < n := by omega
        have e0 : (0 : Int) ≤ k := by omega
        have hW0 : (W : Int) ≠ 0 := by omega
        obtain ⟨x, hx⟩ : ∃ x, x = xs.getD k false := ⟨_, rfl⟩
        rw [← hx] at hc
        have HX := Lib.hid hx; clear hx
        have hkW : k < W * T := by rw [← HNW.out]; exact hlt
        have hdst := fIdx_lt hW hkW
        have hti := fIdx_int' (k := k) hW
        have hdv := div_lt_of hW hkW
        have hdv' : (k : Int) / W < T := by
          have : (((k / W : Nat)) : Int) < T := by omega
          simpa using this
        obtain ⟨i0, i1, i2⟩ := idx_bd (W := (W : Int)) (T := (T : Int)) (x := (W : Int) - 1 - (k : Int) % W) (y := (k : Int) / W) (by omega) (by omega) (by omega) (by omega)
        have i3 : ((k : Int) / W) * W + ((W : Int) - 1 - (k : Int) % W) < n := by rw [← hNTW.out]; exact i2
        have i4 : ((k : Int) / W) * W + W - 1 - (k : Int) % W < n := by omega
        have i5 : 0 ≤ ((k : Int) / W) * W + W - 1 - (k : Int) % W := by omega
        have i6 : (k : Int) % W ≤ ((k : Int) / W) * W + W - 1 := by omega
        have hcell := hr.cell (k := fIdx W k) (by rw [HNW.out]; exact hdst)
        have hfree := hr.free (fIdx W k)
        rw [← hti] at hcell hfree
        obtain ⟨old, hold⟩ : ∃ old, old = fPart W xs k (((k : Int) / W) * W + W - 1 - (k : Int) % W).toNat := ⟨_, rfl⟩
        rw [← hold] at hcell
        clear hold
        have n3 := hr.base
        have n1 : w1.heap.size + 1 ≠ w.heap.size := by omega
        have n2 : w1.heap.size + 1 ≠ w1.heap.size := by omega
        have n4 : w1.heap.size + 1 ≠ b := by omega
        have HTI := Lib.hid hti; clear hti
        have HR := Lib.hid hr; clear hr
        have BEL := Lib.hid hbel; clear hbel
        have W3 : IntKind.i64.wrap ((k : Int) / W * W) = (k : Int) / W * W := IntWalk.i64_in _ (by omega)
        have W4 : IntKind.i64.wrap ((k : Int) / W * W + W) = (k : Int) / W * W + W := IntWalk.i64_in _ (by clear W3; omega)
        have W5 : IntKind.i64.wrap ((k : Int) / W * W + W - 1) = (k : Int) / W * W + W - 1 := IntWalk.i64_in _ (by clear W3 W4; omega)
        have W6 : IntKind.i64.wrap ((k : Int) / W * W + W - 1 - (k : Int) % W) = (k : Int) / W * W + W - 1 - (k : Int) % W := IntWalk.i64_in _ (by clear W3 W4 W5; omega)
        go_wp2
        have T1 : (k : Int).tmod W = (k : Int) % W := Int.tmod_eq_emod_of_nonneg e0
        have T2 : IntKind.i64.wrap ((k : Int) / W) = (k : Int) / W := IntWalk.i64_in _ (by clear W3 W4 W5 W6; omega)
        have hW1 : W ≠ 0 := by clear W3 W4 W5 W6 T2; omega
        have hW2 : ((W : Int) == 0) = false := by simp; exact hW1
        go_still_tail 24, (by kernel_rfl)
        change wpList _ _ _ _ _ wr.drew
        clear W3 W4 W5 W6 T1 T2
        go_wp2
        have hi : k / W * W + W - 1 - k % W = fIdx W k := fIdx_nat hW
        have HS := (HR.out.set (fIdx W k) x).1.congr (f' := fPart W xs (k + 1)) (fun i hi => by rw [HX.out]; exact fPart_step xs hW i)
        rw [hi]
        go_roundw
        case rel => exact ⟨k + 1, by omega, by go_num, HS, heap_set_other pr (by simp; omega) _, heap_set_other qr (by simp; omega) _, heap_set_other sr (by simp) _, (BEL.out.setCell (by simp; omega) _).drew⟩
        case measure => simp [intOf]; omega
      · obtain rfl : k = n := by omega
        have HR := Lib.hid hr; clear hr
        obtain ⟨d0, d1, d2⟩ := cells3 qr
        have e0 := free3 qr 0
        have e1 := free3 qr 1
        have e2 := free3 qr 2
        go_wp2
        refine bodyPost_ret (v := .agg #[.int .i64 W, .int .i64 T, .slice (some ⟨w1.heap.size + 1, 0, none⟩) k k]) (by simp [results, Try.results35, go_sem, d0, d1, d2]) rfl ⟨_, rfl, ?_, ?_⟩
        · have := (HR.out.congr (f' := fun j => xs.getD (fIdx W j) false) (fun i hi => by rw [HNW.out]; exact fPart_all xs hW i (by rw [← HNW.out]; exact hi))).owns
          rw [HNW.out] at this ⊢
          exact this.set3 (by omega) _ _ _
        · exact below_set3 hbel (by omega) _ _ _
end Go.Proofs.Ytllcojeimnncoaa
