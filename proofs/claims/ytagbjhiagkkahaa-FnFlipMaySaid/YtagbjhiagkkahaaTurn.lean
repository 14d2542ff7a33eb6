/- Plain facts on turning and mirroring lists of truths; nothing here knows of any program. Merged of: TurnMath, Turn. -/
import Derived.Test.YtagbjhiagkkahaaOwn
import Derived.Test.YtagbjhiagkkahaaDark
import Derived.Test.YtagbjhiagkkahaaBox
namespace Go.Proofs.Ytagbjhiagkkahaa
set_option linter.unusedVariables false
set_option maxRecDepth 100000

/-- Where a turned region's j-th truth comes from; where the k-th goes. -/
def tSrc (W T j : Nat) : Nat := (T - 1 - j % T) * W + j / T
def tDst (W T k : Nat) : Nat := k % W * T + (T - 1 - k / W)

theorem div_lt_of {W T k : Nat} (hW : 0 < W) (hk : k < W * T) : k / W < T := by
  rw [Nat.div_lt_iff_lt_mul hW, Nat.mul_comm]; exact hk
theorem comb_lt {a b A B : Nat} (ha : a < A) (hb : b < B) : a * B + b < A * B := by
  have : a * B + B ≤ A * B := by rw [← Nat.succ_mul]; exact Nat.mul_le_mul_right B ha
  omega
theorem comb_div {a b B : Nat} (hb : b < B) : (a * B + b) / B = a := by
  rw [Nat.mul_comm, Nat.mul_add_div (by omega), Nat.div_eq_of_lt hb]; omega
theorem comb_mod {a b B : Nat} (hb : b < B) : (a * B + b) % B = b := by
  rw [Nat.mul_comm, Nat.mul_add_mod, Nat.mod_eq_of_lt hb]
theorem comb_eq (k B : Nat) : k / B * B + k % B = k := by
  have := Nat.div_add_mod k B; rw [Nat.mul_comm] at this; exact this

theorem sub_lt {q T : Nat} (h : q < T) : T - 1 - q < T := by omega
theorem sub_sub {q T : Nat} (h : q < T) : T - 1 - (T - 1 - q) = q := by omega
theorem tDst_lt {W T k : Nat} (hW : 0 < W) (hT : 0 < T) (hk : k < W * T) : tDst W T k < W * T :=
  comb_lt (Nat.mod_lt k hW) (sub_lt (div_lt_of hW hk))
theorem tSrc_lt {W T j : Nat} (hW : 0 < W) (hT : 0 < T) (hj : j < W * T) : tSrc W T j < W * T := by
  have h1 : j / T < W := div_lt_of hT (by rw [Nat.mul_comm]; exact hj)
  rw [Nat.mul_comm W T]; exact comb_lt (sub_lt (Nat.mod_lt j hT)) h1
theorem tSrc_dst {W T k : Nat} (hW : 0 < W) (hT : 0 < T) (hk : k < W * T) : tSrc W T (tDst W T k) = k := by
  have h1 := div_lt_of hW hk
  unfold tSrc tDst
  rw [comb_mod (sub_lt h1), comb_div (sub_lt h1), sub_sub h1]
  exact comb_eq k W
theorem tDst_src {W T j : Nat} (hW : 0 < W) (hT : 0 < T) (hj : j < W * T) : tDst W T (tSrc W T j) = j := by
  have h1 : j / T < W := div_lt_of hT (by rw [Nat.mul_comm]; exact hj)
  have h2 := Nat.mod_lt j hT
  unfold tSrc tDst
  rw [comb_mod h1, comb_div h1, sub_sub h2]
  exact comb_eq j T

/-- The turned list behind k rounds, by its index. -/
def tPart (W T : Nat) (xs : List Bool) (k j : Nat) : Bool := decide (tSrc W T j < k) && xs.getD (tSrc W T j) false
def turned (W T : Nat) (xs : List Bool) : List Bool := tab (W * T) fun j => xs.getD (tSrc W T j) false
theorem tPart_step {W T : Nat} (xs : List Bool) {k : Nat} (hW : 0 < W) (hT : 0 < T) (hk : k < W * T) :
    ∀ j, j < W * T → (if j = tDst W T k then xs.getD k false else tPart W T xs k j) = tPart W T xs (k + 1) j := by
  intro j hj
  by_cases e : j = tDst W T k
  · rw [if_pos e, e]; unfold tPart; rw [tSrc_dst hW hT hk]; simp
  · rw [if_neg e]; unfold tPart
    have : tSrc W T j ≠ k := fun h => e (by rw [← h, tDst_src hW hT hj])
    have : (tSrc W T j < k) = (tSrc W T j < k + 1) := by apply propext; omega
    simp [this]
theorem tPart_all {W T : Nat} (xs : List Bool) (hW : 0 < W) (hT : 0 < T) : ∀ j, j < W * T → tPart W T xs (W * T) j = xs.getD (tSrc W T j) false := by
  intro j hj; unfold tPart; simp [tSrc_lt hW hT hj]

/-- The same for mirroring. -/
def fIdx (W k : Nat) : Nat := k / W * W + (W - 1 - k % W)
theorem fIdx_lt {W T k : Nat} (hW : 0 < W) (hk : k < W * T) : fIdx W k < W * T := by
  have h1 := div_lt_of hW hk
  have h2 := Nat.mod_lt k hW
  rw [Nat.mul_comm W T]; exact comb_lt h1 (sub_lt h2)
theorem fIdx_fIdx {W k : Nat} (hW : 0 < W) : fIdx W (fIdx W k) = k := by
  have h2 := Nat.mod_lt k hW
  have h3 : fIdx W k / W = k / W := comb_div (sub_lt h2)
  have h4 : fIdx W k % W = W - 1 - k % W := comb_mod (sub_lt h2)
  have := comb_eq k W
  show fIdx W k / W * W + (W - 1 - fIdx W k % W) = k
  rw [h3, h4, sub_sub h2]; exact this
def fPart (W : Nat) (xs : List Bool) (k j : Nat) : Bool := decide (fIdx W j < k) && xs.getD (fIdx W j) false
def flipped (W T : Nat) (xs : List Bool) : List Bool := tab (W * T) fun j => xs.getD (fIdx W j) false
theorem fPart_step {W : Nat} (xs : List Bool) {k : Nat} (hW : 0 < W) :
    ∀ j, (if j = fIdx W k then xs.getD k false else fPart W xs k j) = fPart W xs (k + 1) j := by
  intro j
  by_cases e : j = fIdx W k
  · rw [if_pos e, e]; unfold fPart; rw [fIdx_fIdx hW]; simp
  · rw [if_neg e]; unfold fPart
    have : fIdx W j ≠ k := fun h => e (by rw [← h, fIdx_fIdx hW])
    have : (fIdx W j < k) = (fIdx W j < k + 1) := by apply propext; omega
    simp [this]
theorem fPart_all {W T : Nat} (xs : List Bool) (hW : 0 < W) : ∀ j, j < W * T → fPart W xs (W * T) j = xs.getD (fIdx W j) false := by
  intro j hj; unfold fPart; simp [fIdx_lt hW hj]
end Go.Proofs.Ytagbjhiagkkahaa

namespace Go.Proofs.Ytagbjhiagkkahaa
open Go.RowKit
set_option linter.unusedVariables false
set_option maxRecDepth 100000
set_option linter.unusedSimpArgs false

theorem iRegionTurn_no (W T : Int) (a : Option Addr) (n cap : Nat) (xs : List Bool) (w : World) (hn : n = xs.length) (hn' : n ≤ 1048576) (ha : BoolsAt w a xs) (h : rv W T xs = false) :
    Calls Try.prog 28 #[.agg #[.int .i64 W, .int .i64 T, .slice a n cap]] w fun e w' => e = .returned (.agg #[.int .i64 0, .int .i64 0, .slice none 0 0]) ∧ Below w.heap.size w w' := by
  have HN := Lib.hid hn; clear hn
  have HA := Lib.hid ha; clear ha
  go_enter Try.func28, Try.ntmps28
  go_wp2_with fail
  refine (iRegionValid_any _ _ _ _ _ xs _ HN.out hn' (HA.out.two _ _)).mono ?_; rintro e w1 ⟨rfl, hb1⟩
  have b1 := below_seq (below2 w _ _) hb1
  have p1 := heap_later (heap_new2 w _ _) hb1
  obtain ⟨d0, d1, d2⟩ := cells3 p1
  have e0 := free3 p1 0
  have e1 := free3 p1 1
  have e2 := free3 p1 2
  go_wp2
  exact bodyPost_ret (v := .agg #[.int .i64 0, .int .i64 0, .slice none 0 0]) (by simp [results, Try.results28, go_sem, d0, d1, d2]) rfl ⟨rfl, below_set3 b1 (by omega) _ _ _⟩

theorem tDst_int {W T k : Nat} (hW : 0 < W) (hk : k < W * T) : (((k : Int) % W) * T + ((T : Int) - 1 - (k : Int) / W)).toNat = tDst W T k := by
  have h1 := div_lt_of hW hk
  have : (((k : Int) % W) * T + ((T : Int) - 1 - (k : Int) / W)) = ((tDst W T k : Nat) : Int) := by
    unfold tDst
    have e : ((T - 1 - k / W : Nat) : Int) = (T : Int) - 1 - ((k / W : Nat) : Int) := by omega
    push_cast
    rw [e]; simp
  rw [this]; simp

set_option maxHeartbeats 1000000 in
theorem turnedCell_any (W T : Nat) (a : Option Addr) (n cap k : Nat) (w : World) (hW : 0 < W) (hW6 : W ≤ 6) (hT : 0 < T) (hT6 : T ≤ 6) (hk : k < W * T) :
    Calls Try.prog 53 #[.agg #[.int .i64 W, .int .i64 T, .slice a n cap], .int .i64 k] w fun e w' => e = .returned (.int .i64 ((tDst W T k : Nat) : Int)) ∧ Below w.heap.size w w' := by
  have v1 : (1 : Int) ≤ W := by omega
  obtain ⟨m1, m2, m3, m4⟩ := divmod_bd (W := W) (k := k) v1
  have hdv := div_lt_of hW hk
  have hdv' : (k : Int) / W < T := by
    have : (((k / W : Nat)) : Int) < T := by omega
    simpa using this
  have h36 : W * T ≤ 6 * 6 := Nat.mul_le_mul hW6 hT6
  have hti := tDst_int hW hk
  obtain ⟨i0, i1, i2⟩ := idx_bd (W := (T : Int)) (T := (W : Int)) (x := (T : Int) - 1 - (k : Int) / W) (y := (k : Int) % W) (by omega) (by omega) (by omega) (by omega)
  have i3 : (T : Int) * W ≤ 36 := by rw [Int.mul_comm]; exact_mod_cast h36
  have hv : (k : Int) % W * T + T - 1 - (k : Int) / W = ((tDst W T k : Nat) : Int) := by omega
  have HV := Lib.hid hv
  have e0 : (0 : Int) ≤ k := by omega
  have e1 : (k : Int) ≤ 1000 := by omega
  have hW0 : (W : Int) ≠ 0 := by omega
  have j1 : (k : Int) % W * T ≤ 1000 := by omega
  clear hv hti i2 i3 h36
  go_enter Try.func53, Try.ntmps53
  go_wp2
  go_quiet (fail)
  go_wp2
  go_ret
  exact ⟨ret_int HV.out, below_seq (below1 _ _) (drewN_below _ _)⟩

set_option maxHeartbeats 2000000 in
theorem iRegionTurn_yes (W T : Nat) (a : Option Addr) (n cap : Nat) (xs : List Bool) (w : World) (hn : n = xs.length) (hn' : n ≤ 1048576) (ha : BoolsAt w a xs) (h : rv W T xs = true) (hnW : n = W * T) :
    Calls Try.prog 28 #[.agg #[.int .i64 W, .int .i64 T, .slice a n cap]] w fun e w' => ∃ g, e = .returned (.agg #[.int .i64 T, .int .i64 W, .slice (some ⟨g, 0, none⟩) n n]) ∧ OwnsB w' (w.heap.size + 2) (.slice (some ⟨g, 0, none⟩) n n) (turned W T xs) ∧ Below w.heap.size w w' := by
  obtain ⟨v1, v2, v3, v4, v5, _⟩ := rv_true h
  have hW : 0 < W := by omega
  have hT : 0 < T := by omega
  have hNTW : Hid ((T : Int) * W = n) := by show (T : Int) * W = n; rw [Int.mul_comm, hnW]; simp
  have n36 : n ≤ 36 := by
    have := mul_bd v1 v2 v3 v4
    have : ((W * T : Nat) : Int) ≤ 36 := by push_cast; exact this.2
    omega
  clear v5
  have HN := Lib.hid hn; clear hn
  have HA := Lib.hid ha; clear ha
  have HNW := Lib.hid hnW; clear hnW
  go_enter Try.func28, Try.ntmps28
  go_wp2_with fail
  refine (iRegionValid_any _ _ _ _ _ xs _ HN.out hn' (HA.out.two _ _)).mono ?_; rintro e w1 ⟨rfl, hb1⟩
  have b1 := below_seq (below2 w _ _) hb1
  have p1 := heap_later (heap_later (heap_new w _) (below1 _ _)) hb1
  have q1 := heap_later (heap_new2 w _ _) hb1
  clear hb1
  obtain ⟨c0, c1, c2⟩ := cells3 p1
  go_wp2_with fail
  refine (bareField_any T W n _ (by omega) (by omega) (by omega) (by omega) hNTW.out (by omega)).mono ?_; rintro e w2 ⟨g, rfl, ho, hb2⟩
  have b2 := below_seq b1 hb2
  have p2 := heap_later p1 hb2
  have q2 := heap_later q1 hb2
  have R2 : RowB w2 (w.heap.size + 2) g n n (fun _ => false) := (RowB.of (ho.lower (by have := heap_lt q1; omega)) (by simp)).congr (fun i hi => by simp [hi])
  have A2 := Lib.hid (HA.out.below b2)
  have lg := R2.base
  clear ho hb2 p1 q1 c0 c1 c2
  obtain ⟨c0, c1, c2⟩ := cells3 p2
  have lp := heap_lt p2
  have lq := heap_lt q2
  go_wp2
  go_loopw [4, 5, 18] (fun _ _ i wr => ∃ k : Nat, k ≤ n ∧ i = .int .i64 k ∧ RowB wr (w.heap.size + 2) g n n (tPart W T xs k) ∧ wr.heap[w.heap.size]? = some (.cells #[.int .i64 W, .int .i64 T, .slice a n cap] 25 (0, 0)) ∧ wr.heap[w.heap.size + 1]? = some (.cells #[.int .i64 0, .int .i64 0, .slice none 0 0] 25 (0, 0)) ∧ wr.heap[w2.heap.size]? = some (.cells #[.int .i64 T, .int .i64 W, .slice (some ⟨g, 0, none⟩) n n] 25 (0, 0)) ∧ Below w.heap.size w wr) (fun _ _ i _ => n - (intOf i).toNat)
  case atStart => exact ⟨0, Nat.zero_le _, rfl, (R2.below (below1 _ _)).congr (by intro i hi; simp [tPart]), heap_later p2 (below1 _ _), heap_later q2 (below1 _ _), heap_new _ _, below_seq b2 (below1 _ _)⟩
  case round =>
    obtain ⟨k, hk, rfl, hr, pr, qr, sr, hbel⟩ := hrel
    clear c0 c1 c2
    obtain ⟨c0, c1, c2⟩ := cells3 pr
    obtain ⟨s0, s1, s2⟩ := cells3 sr
    have l1 := heap_lt pr
    have l2 := heap_lt sr
    by_cases hlt : k < n
    · obtain ⟨b, off, rfl, hc⟩ := (HA.out.below hbel) k (by rw [← HN.out]; exact hlt)
      obtain ⟨m1, m2, m3, m4⟩ := divmod_bd (W := W) (k := k) v1
      have e1 : (k : Int) < n := by omega
      have e0 : (0 : Int) ≤ k := by omega
      have hW0 : (W : Int) ≠ 0 := by omega
      obtain ⟨x, hx⟩ : ∃ x, x = xs.getD k false := ⟨_, rfl⟩
      rw [← hx] at hc
      have HX := Lib.hid hx; clear hx
      have HR := Lib.hid hr; clear hr
      have BEL := Lib.hid hbel; clear hbel
      have hkW : k < W * T := by rw [← HNW.out]; exact hlt
      have hdst := tDst_lt hW hT hkW
      have i3 : ((tDst W T k : Nat) : Int) < n := by rw [HNW.out]; exact_mod_cast hdst
      have hcell := HR.out.cell (k := tDst W T k) (by rw [HNW.out]; exact hdst)
      have hfree := HR.out.free (tDst W T k)
      obtain ⟨old, hold⟩ : ∃ old, old = tPart W T xs k (tDst W T k) := ⟨_, rfl⟩
      rw [← hold] at hcell
      clear hold
      have PQ : wr.drew.heap[w.heap.size]? = some _ := pr
      have SQ : wr.drew.heap[w2.heap.size]? = some _ := sr
      have n1 : g ≠ w.heap.size := by omega
      have n2 : g ≠ w2.heap.size := by omega
      go_wp2_with fail
      go_region_held3 (fun w' => w'.cell? ⟨w.heap.size, 0, none⟩ = some (.int .i64 W) ∧ w'.cell? ⟨w.heap.size, 1, none⟩ = some (.int .i64 T) ∧ w'.cell? ⟨w.heap.size, 2, none⟩ = some (.slice (some ⟨b, off, none⟩) n cap) ∧ w'.cell? ⟨w2.heap.size, 2, none⟩ = some (.slice (some ⟨g, 0, none⟩) n n))
        (go_keep)
        (first
          | (go_at_call 53; refine (turnedCell_any W T _ n cap k _ hW (by omega) hT (by omega) hkW).mono ?_; rintro e w6 ⟨rfl, hb6⟩; have p6 := heap_later PQ hb6; have s6 := heap_later SQ hb6; obtain ⟨c60, c61, c62⟩ := cells3 p6; obtain ⟨d60, d61, d62⟩ := cells3 s6; have k6 := cell_later hb6 (show (World.drew wr).cell? _ = some _ from hcell); have r6 := RowB.free (RowB.below (show RowB (World.drew wr) _ _ _ _ _ from HR.out) hb6) (tDst W T k)))
      have q6 := heap_later (show (World.drew wr).heap[w.heap.size + 1]? = some _ from qr) hb6
      have R6 := RowB.below (show RowB (World.drew wr) _ _ _ _ _ from HR.out) hb6
      have hs := R6.set (tDst W T k) x
      have hs1 := hs.1.congr (f' := tPart W T xs (k + 1)) (fun i hi => by rw [HX.out]; exact tPart_step xs hW hT hkW i (by rw [← HNW.out]; exact hi))
      have HS := Lib.hid hs1
      have B6 := Lib.hid (below_seq BEL.out (below_seq (drew_below _) hb6))
      clear hs hs1 R6 r6 k6 c60 c61 c62 d60 d61 d62 c0 c1 c2 s0 s1 s2
      go_wp2
      go_roundw
      case rel => exact ⟨k + 1, by omega, by go_num, HS.out, heap_set_other p6 (by simp; omega) _, heap_set_other q6 (by simp; omega) _, heap_set_other s6 (by simp; omega) _, B6.out.setCell (by simp; omega) _⟩
      case measure => simp [intOf]; omega
    · obtain rfl : k = n := by omega
      have HR := Lib.hid hr; clear hr
      obtain ⟨d0, d1, d2⟩ := cells3 qr
      have e0 := free3 qr 0
      have e1 := free3 qr 1
      have e2 := free3 qr 2
      go_wp2
      refine bodyPost_ret (v := .agg #[.int .i64 T, .int .i64 W, .slice (some ⟨g, 0, none⟩) k k]) (by simp [results, Try.results28, go_sem, d0, d1, d2]) rfl ⟨_, rfl, ?_, ?_⟩
      · have := (HR.out.congr (f' := fun j => xs.getD (tSrc W T j) false) (fun i hi => by rw [HNW.out]; exact tPart_all xs hW hT i (by rw [← HNW.out]; exact hi))).owns
        rw [HNW.out] at this ⊢
        exact this.set3 (by omega) _ _ _
      · exact below_set3 hbel (by omega) _ _ _
end Go.Proofs.Ytagbjhiagkkahaa
