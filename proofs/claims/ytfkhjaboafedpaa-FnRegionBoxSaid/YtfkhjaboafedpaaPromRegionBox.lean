/- The law FnRegionBox: its walk. -/
import Derived.Test.YtfkhjaboafedpaaProm
import Derived.Test.YtfkhjaboafedpaaHolesN
import Derived.Test.YtfkhjaboafedpaaBorder
namespace Go.Proofs.Ytfkhjaboafedpaa
open Go.RowKit
set_option linter.unusedVariables false
set_option maxRecDepth 100000
set_option linter.unusedSimpArgs false

set_option maxHeartbeats 1000000 in
theorem drawRegionBox_any (cb : Option Addr) (n cap : Nat) (zs : List Int) (w : World) (hn : n = zs.length) (hn' : n ≤ 1048576) (hcap : n ≤ cap) (hb : BytesAt w cb zs) :
    Calls Try.prog 11 #[.slice cb n cap] w fun e w' => ∃ x y : Nat, x < 8 ∧ y < 8 ∧ e = .returned (.tuple #[.int .i64 x, .int .i64 y]) ∧ Below w.heap.size w w' := by
  have HN := Lib.hid hn; clear hn
  have HB := Lib.hid hb; clear hb
  go_enter Try.func11, Try.ntmps11
  go_wp2_with fail
  refine (l20Open_any _ _ _ zs _ HN.out hn' hcap HB.out).mono ?_; rintro e w1 ⟨rfl, r1, b1⟩
  go_wp2_with fail
  refine (pick_any w.heap.size 0 8 _ (by omega) (by omega) (by omega) r1).mono ?_; rintro e w2 ⟨x, hx, rfl, r2, g2⟩
  have b2 := below_grown b1 g2 (Nat.le_refl _) (by intro k hk; have := Option.some.inj hk; omega)
  go_wp2_with fail
  refine (pick_any w.heap.size 1 8 _ (by omega) (by omega) (by omega) r2).mono ?_; rintro e w3 ⟨y, hy, rfl, r3, g3⟩
  have b3 := below_grown b2 g3 (Nat.le_refl _) (by intro k hk; have := Option.some.inj hk; omega)
  go_wp2
  go_ret2
  exact ⟨x, y, hx, hy, rfl, b3⟩

/-- Where every cell has a lesser one beside it, all hang together with the first. -/
theorem conn_zero {N : Nat} {s : Nat → Bool} {adj : Nat → Nat → Bool} (h0 : 0 < N) (s0 : s 0 = true) (h : ∀ k, 0 < k → k < N → s k = true → ∃ i, i < k ∧ s i = true ∧ adj i k = true) : ∀ k, k < N → s k = true → Conn N s adj 0 k := by
  intro k
  induction k using Nat.strongRecOn with
  | _ k ih =>
    intro hk hs
    by_cases e : k = 0
    · subst e; exact .refl h0 s0
    · obtain ⟨i, hi, si, ha⟩ := h k (by omega) hk hs
      exact .step (ih i hi (by omega) si) ha hk hs
theorem adjW_true {V : Int} {j k : Nat} (h : adjW V false j k = true) : adjW V true j k = true := by
  unfold adjW at *
  simp only [Bool.and_eq_true, Bool.or_eq_true, Bool.not_eq_true', decide_eq_true_eq, decide_eq_false_iff_not, Bool.false_eq_true, false_or] at h ⊢
  exact ⟨h.1, Or.inl (by first | rfl | trivial)⟩
theorem one_self {N : Nat} {s : Nat → Bool} {adj : Nat → Nat → Bool} (h0 : 0 < N) (s0 : s 0 = true) (h : ∀ k, k < N → s k = true → Conn N s adj 0 k) : selfN (marksL N s adj) N = 1 := by
  have := (oneMark_iff (adj := adj) h0 s0).2 h
  unfold oneMark at this
  simpa using this
theorem less_one {V : Int} (hV : 1 ≤ V) {k : Nat} (h : 0 < (k : Int) % V) (h1 : 1 ≤ k) : ((k - 1 : Nat) : Int) % V = (k : Int) % V - 1 ∧ ((k - 1 : Nat) : Int) / V = (k : Int) / V := by
  have aw := Int.emod_lt_of_pos (k : Int) (show 0 < V by omega)
  have e : ((k - 1 : Nat) : Int) = (k : Int) - 1 := by omega
  have je := Int.emod_add_mul_ediv (k : Int) V
  have e2 : (k : Int) - 1 = (k : Int) % V - 1 + V * ((k : Int) / V) := by omega
  rw [e]
  constructor
  · rw [e2, Int.add_mul_emod_self_left, Int.emod_eq_of_lt (by omega) (by omega)]
  · rw [e2, Int.add_mul_ediv_left _ _ (by omega), Int.ediv_eq_zero_of_lt (by omega) (by omega)]; omega
theorem less_row {V : Int} (hV : 1 ≤ V) {i k : Nat} (h : (k : Int) = i + V) : (i : Int) % V = (k : Int) % V ∧ (i : Int) / V = (k : Int) / V - 1 := by
  constructor
  · rw [h, Int.add_emod_right]
  · rw [h, Int.add_ediv_of_dvd_right ⟨1, by omega⟩, Int.ediv_self (by omega)]; omega
section
variable {W T : Nat}
theorem rv_boxed (h : boxB W T = true) : rv W T (List.replicate (W * T) true) = true := by
  obtain ⟨_, _, h1, h2, h3, h4, h5, h6⟩ := boxB_yes h
  have : cnt (List.replicate (W * T) true) = W * T := by unfold cnt; simp [List.countP_replicate]
  unfold rv
  rw [this]
  have e : ((W * T : Nat) : Int) = (W : Int) * T := by simp
  simp
  omega
theorem box_get {k : Nat} (h : k < W * T) : (List.replicate (W * T) true).getD k false = true := by simp [h]
theorem parts_box (h : boxB W T = true) : partsN W T (List.replicate (W * T) true) = 1 := by
  obtain ⟨_, _, h1, h2, h3, h4, h5, h6⟩ := boxB_yes h
  have e : ((W * T : Nat) : Int) = (W : Int) * T := by simp
  unfold partsN partsF
  rw [rv_boxed h, if_pos rfl, if_pos rfl, marksL_len, List.length_replicate]
  have h0 : 0 < W * T := by omega
  have hs : ∀ k, k < W * T → (fun i => (List.replicate (W * T) true).getD i false) k = true := fun k hk => box_get hk
  rw [one_self h0 (hs 0 h0) (conn_zero h0 (hs 0 h0) fun k hk hkN _ => ?_)]
  · rfl
  · by_cases hx : 0 < (k : Int) % (W : Int)
    · exact ⟨k - 1, by omega, hs _ (by omega), by rw [adjW_symm]; exact adjW_left (by omega) hx (by omega)⟩
    · have a0 := Int.emod_nonneg (k : Int) (show (W : Int) ≠ 0 by omega)
      have ae := Int.emod_add_mul_ediv (k : Int) (W : Int)
      have hq : 1 ≤ (k : Int) / (W : Int) := by
        rcases Int.lt_or_le 0 ((k : Int) / (W : Int)) with h | h
        · exact h
        · have : (W : Int) * ((k : Int) / (W : Int)) ≤ 0 := by
            have h2 := Int.ediv_nonneg (show (0 : Int) ≤ k by omega) (show (0 : Int) ≤ W by omega)
            have : (k : Int) / (W : Int) = 0 := by omega
            rw [this]; simp
          omega
      have hm : (W : Int) * 1 ≤ (W : Int) * ((k : Int) / (W : Int)) := Int.mul_le_mul_of_nonneg_left hq (by omega)
      exact ⟨k - W, by omega, hs _ (by omega), by rw [adjW_symm]; exact adjW_down (by omega) (by omega)⟩
theorem holes_box (h : boxB W T = true) : holesN W T (List.replicate (W * T) true) = 0 := by
  obtain ⟨_, _, h1, h2, h3, h4, h5, h6⟩ := boxB_yes h
  have e : ((W * T : Nat) : Int) = (W : Int) * T := by simp
  unfold holesN
  rw [rv_boxed h, if_pos rfl]
  have hb := rim_bd h1 h2 h3 h4
  obtain ⟨N, hN⟩ := Int.eq_ofNat_of_zero_le (by omega : 0 ≤ ((W : Int) + 2) * ((T : Int) + 2))
  rw [hN, Int.toNat_natCast]
  have h0 : 0 < N := by omega
  have out : ∀ k, outB W T (List.replicate (W * T) true) k = !decide (1 ≤ (k : Int) % ((W : Int) + 2) ∧ (k : Int) % ((W : Int) + 2) ≤ W ∧ 1 ≤ (k : Int) / ((W : Int) + 2) ∧ (k : Int) / ((W : Int) + 2) ≤ T) := by
    intro k
    unfold outB atB inF
    generalize (k : Int) % ((W : Int) + 2) = x
    generalize (k : Int) / ((W : Int) + 2) = y
    by_cases hc : 1 ≤ x ∧ x ≤ W ∧ 1 ≤ y ∧ y ≤ T
    · have d1 : decide (1 ≤ x ∧ x ≤ W ∧ 1 ≤ y ∧ y ≤ T) = true := decide_eq_true hc
      have d2 : decide (0 ≤ x - 1 ∧ x - 1 < W ∧ 0 ≤ y - 1 ∧ y - 1 < T) = true := decide_eq_true (by omega)
      rw [d1, d2]
      obtain ⟨i0, i1, i2⟩ := idx_bd (W := (W : Int)) (T := (T : Int)) (x := x - 1) (y := y - 1) (by omega) (by omega) (by omega) (by omega)
      rw [box_get (by omega)]; rfl
    · have d1 : decide (1 ≤ x ∧ x ≤ W ∧ 1 ≤ y ∧ y ≤ T) = false := decide_eq_false hc
      have d2 : decide (0 ≤ x - 1 ∧ x - 1 < W ∧ 0 ≤ y - 1 ∧ y - 1 < T) = false := decide_eq_false (by omega)
      rw [d1, d2]; rfl
  have s0 : outB W T (List.replicate (W * T) true) 0 = true := by rw [out]; simp
  rw [one_self h0 s0 (conn_zero h0 s0 fun k hk hkN hs => ?_)]
  · rfl
  · rw [out] at hs
    have hs' : ¬ (1 ≤ (k : Int) % ((W : Int) + 2) ∧ (k : Int) % ((W : Int) + 2) ≤ W ∧ 1 ≤ (k : Int) / ((W : Int) + 2) ∧ (k : Int) / ((W : Int) + 2) ≤ T) := by simpa only [Bool.not_eq_true', decide_eq_false_iff_not] using hs
    have a0 := Int.emod_nonneg (k : Int) (show (W : Int) + 2 ≠ 0 by omega)
    have a1 := Int.emod_lt_of_pos (k : Int) (show 0 < (W : Int) + 2 by omega)
    have ae := Int.emod_add_mul_ediv (k : Int) ((W : Int) + 2)
    have b0 := Int.ediv_nonneg (show (0 : Int) ≤ k by omega) (show (0 : Int) ≤ (W : Int) + 2 by omega)
    have b1 : (k : Int) / ((W : Int) + 2) < (T : Int) + 2 := Int.ediv_lt_of_lt_mul (by omega) (by rw [Int.mul_comm, hN]; omega)
    by_cases hrow : 1 ≤ (k : Int) / ((W : Int) + 2) ∧ ((k : Int) % ((W : Int) + 2) = 0 ∨ (k : Int) % ((W : Int) + 2) = (W : Int) + 1)
    · have hm : ((W : Int) + 2) * 1 ≤ ((W : Int) + 2) * ((k : Int) / ((W : Int) + 2)) := Int.mul_le_mul_of_nonneg_left hrow.1 (by omega)
      have hk2 : (k : Int) = ((k - (W + 2) : Nat) : Int) + ((W : Int) + 2) := by omega
      obtain ⟨l1, l2⟩ := less_row (V := (W : Int) + 2) (by omega) hk2
      refine ⟨k - (W + 2), by omega, ?_, by rw [adjW_symm]; exact adjW_true (adjW_down (by omega) hk2)⟩
      rw [out, l1, l2, decide_eq_false (by omega)]; rfl
    · have hx : 0 < (k : Int) % ((W : Int) + 2) := by
        rcases Int.lt_or_le 0 ((k : Int) % ((W : Int) + 2)) with h | h
        · exact h
        · exfalso
          have hx0 : (k : Int) % ((W : Int) + 2) = 0 := by omega
          have hy0 : ¬ 1 ≤ (k : Int) / ((W : Int) + 2) := fun q => hrow ⟨q, Or.inl hx0⟩
          have hy1 : (k : Int) / ((W : Int) + 2) = 0 := by omega
          rw [hx0, hy1] at ae
          simp at ae
          omega
      obtain ⟨l1, l2⟩ := less_one (V := (W : Int) + 2) (by omega) hx (by omega)
      refine ⟨k - 1, by omega, ?_, by rw [adjW_symm]; exact adjW_true (adjW_left (by omega) hx (by omega))⟩
      rw [out, l1, l2, decide_eq_false (by omega)]; rfl
end
theorem bord_all : ∀ W : Fin 7, ∀ T : Fin 7, boxB (W.val : Int) (T.val : Int) = true → bord (W.val : Int) (T.val : Int) (List.replicate (W.val * T.val) true) = 2 * ((W.val : Int) + (T.val : Int)) := by decide +kernel

set_option maxHeartbeats 4000000 in
theorem promRegionBox_walk (cb : Option Addr) (n cap : Nat) (zs : List Int) (w : World) (hn : n = zs.length) (hn' : n ≤ maxLen) (hcap : n ≤ cap) (hb : BytesAt w cb zs) :
    Calls Try.prog 4 #[.slice cb n cap] w fun e w' => e = .returned (.bool true) ∧ Below w.heap.size w w' := by
  have HN := Lib.hid hn; clear hn
  have HB := Lib.hid hb; clear hb
  by_cases hbig : 1048576 < n
  · unfold maxLen at hn'
    go_enter Try.func4, Try.ntmps4
    go_wp2
    go_ret
    exact ⟨rfl, Below.refl _ _⟩
  have hsm : n ≤ 1048576 := by omega
  clear hbig hn'
  go_enter Try.func4, Try.ntmps4
  go_wp2_with fail
  refine (drawRegionBox_any _ _ _ zs _ HN.out hsm hcap HB.out).mono ?_; rintro e w1 ⟨W, T, hW, hT, rfl, b1⟩
  cases hbx : boxB W T
  · have HBX := Lib.hid hbx; clear hbx
    go_wp2_with fail
    refine (iRegionBox_no W T _ HBX.out).mono ?_; rintro e w2 ⟨rfl, hb2⟩
    have b2 := below_seq b1 hb2
    go_wp2_with fail
    obtain ⟨wA, hwA⟩ : ∃ wA, wA = w2.alloc (.cells #[.int .i64 0, .int .i64 0, .slice none 0 0] 27) := ⟨_, rfl⟩
    have pA : wA.heap[w2.heap.size]? = some (.cells #[.int .i64 0, .int .i64 0, .slice none 0 0] 27 (0, 0)) := by rw [hwA]; exact heap_new _ _
    have bA : Below w.heap.size w wA := by rw [hwA]; exact below_seq b2 (below1 _ _)
    rw [← hwA]
    clear hwA hb2
    obtain ⟨d0, d1, d2⟩ := cells3 pA
    have PQ : wA.drew.heap[w2.heap.size]? = some _ := pA
    go_region_held3 (fun w' => w'.cell? ⟨w2.heap.size, 0, none⟩ = some (.int .i64 0) ∧ w'.cell? ⟨w2.heap.size, 1, none⟩ = some (.int .i64 0) ∧ w'.cell? ⟨w2.heap.size, 2, none⟩ = some (.slice none 0 0))
      (go_keep)
      (first
        | (go_at_call 13; refine (sameRegion_same _ _ _ _ _ _ _ [] _ rfl (by simp) (BoolsAt.empty _ _) (BoolsAt.empty _ _)).mono ?_; rintro e w5 ⟨rfl, hb5⟩; have p5 := heap_later p4 hb5; obtain ⟨c50, c51, c52⟩ := cells3 p5)
        | (go_at_call 14; refine (sRegionBox_no W T _ HBX.out).mono ?_; rintro e w4 ⟨rfl, hb4⟩; have p4 := heap_later PQ hb4; obtain ⟨c40, c41, c42⟩ := cells3 p4))
    have b5 := below_seq bA (below_seq (drew_below _) (below_seq hb4 hb5))
    clear c40 c41 c42 d0 d1 d2
    go_wp2_with fail
    refine (alive_any _).mono ?_; rintro e w6 ⟨rfl, hb6⟩
    go_wp2
    go_ret
    exact ⟨rfl, below_seq b5 hb6⟩
  · obtain ⟨_, _, h1, h2, h3, h4, h5, h6⟩ := boxB_yes hbx
    have HRV := Lib.hid (rv_boxed hbx)
    have HPN := Lib.hid (parts_box hbx)
    have HHN := Lib.hid (holes_box hbx)
    have HBD : Hid (bord W T (List.replicate (W * T) true) = 2 * ((W : Int) + (T : Int))) := bord_all ⟨W, by omega⟩ ⟨T, by omega⟩ hbx
    have hwt : ((W * T : Nat) : Int) = (W : Int) * T := by simp
    have HMN : Hid (many W T (List.replicate (W * T) true) = (W : Int) * T) := by
      show _ = _
      unfold many
      rw [HRV.out, if_pos rfl]
      unfold cnt
      rw [← hwt]; simp [List.countP_replicate]
    have HBX := Lib.hid hbx; clear hbx
    obtain ⟨m, hm⟩ : ∃ m, m = W * T := ⟨_, rfl⟩
    have hmi : (W : Int) * T = m := by rw [hm]; simp
    have m24 : m ≤ 24 := by omega
    have m1 : 1 ≤ m := by omega
    rw [← hm] at HRV HPN HHN HBD HMN
    rw [hmi] at HMN
    clear hwt hm
    obtain ⟨xs, hxs⟩ : ∃ xs, xs = List.replicate m true := ⟨_, rfl⟩
    rw [← hxs] at HRV HPN HHN HBD HMN
    have HL : Hid (m = xs.length) := by show _ = _; rw [hxs]; simp
    have HXS := Lib.hid hxs; clear hxs
    go_wp2_with fail
    refine (iRegionBox_yes W T m _ HBX.out hmi).mono ?_; rintro e w2 ⟨g2, rfl, ho2, hb2⟩
    have b2 := below_seq b1 hb2
    rw [← HXS.out] at ho2
    have O2 := Lib.hid ho2; clear ho2
    go_wp2_with fail
    obtain ⟨wA, hwA⟩ : ∃ wA, wA = w2.alloc (.cells #[.int .i64 (W : Int), .int .i64 (T : Int), .slice (some ⟨g2, 0, none⟩) m m] 27) := ⟨_, rfl⟩
    have pA : wA.heap[w2.heap.size]? = some (.cells #[.int .i64 (W : Int), .int .i64 (T : Int), .slice (some ⟨g2, 0, none⟩) m m] 27 (0, 0)) := by rw [hwA]; exact heap_new _ _
    have bA : Below w.heap.size w wA := by rw [hwA]; exact below_seq b2 (below1 _ _)
    have AA : Hid (BoolsAt wA (some ⟨g2, 0, none⟩) xs) := by show BoolsAt _ _ _; rw [hwA]; exact (OwnsB.at O2.out).one _
    rw [← hwA]
    clear hwA hb2
    obtain ⟨d0, d1, d2⟩ := cells3 pA
    have PQ : wA.drew.heap[w2.heap.size]? = some _ := pA
    go_region_held3 (fun w' => w'.cell? ⟨w2.heap.size, 0, none⟩ = some (.int .i64 (W : Int)) ∧ w'.cell? ⟨w2.heap.size, 1, none⟩ = some (.int .i64 (T : Int)) ∧ w'.cell? ⟨w2.heap.size, 2, none⟩ = some (.slice (some ⟨g2, 0, none⟩) m m))
      (go_keep)
      (first
        | (go_at_call 13; refine (sameRegion_same _ _ _ _ _ _ _ xs _ HL.out (by omega) ((show BoolsAt wA.drew _ _ from AA.out).below hb4) (OwnsB.at O4.out)).mono ?_; rintro e w5 ⟨rfl, hb5⟩; have p5 := heap_later p4 hb5; obtain ⟨c50, c51, c52⟩ := cells3 p5)
        | (go_at_call 14; refine (sRegionBox_yes W T m _ HBX.out hmi).mono ?_; rintro e w4 ⟨g4, k4, rfl, ho4, hb4⟩; rw [← HXS.out] at ho4; have O4 := Lib.hid ho4; have p4 := heap_later PQ hb4; obtain ⟨c40, c41, c42⟩ := cells3 p4))
    have A5 := Lib.hid (((show BoolsAt wA.drew _ _ from AA.out).below hb4).below hb5)
    have b5 := below_seq bA (below_seq (drew_below _) (below_seq hb4 hb5))
    clear c40 c41 c42 d0 d1 d2 O2 O4 AA
    have hW1 : ((W : Int) == 0) = false := by simp; omega
    have hW2 : ¬ (W : Int) = 0 := by omega
    have hW3 : ¬ W = 0 := by omega
    go_wp2_with fail
    refine (iRegionValid_any _ _ _ _ _ xs _ HL.out (by omega) A5.out).mono ?_; rintro e w6 ⟨rfl, hb6⟩
    rw [HRV.out]
    have b6 := below_seq b5 hb6
    have p6 := heap_later p5 hb6
    have A6 := Lib.hid (A5.out.below hb6)
    clear c50 c51 c52
    obtain ⟨c0, c1, c2⟩ := cells3 p6
    go_wp2_with fail
    refine (iCellsMany_any _ _ _ _ _ xs _ HL.out (by omega) A6.out).mono ?_; rintro e w7 ⟨rfl, hb7⟩
    rw [HMN.out]
    have b7 := below_seq b6 hb7
    have p7 := heap_later p6 hb7
    have A7 := Lib.hid (A6.out.below hb7)
    clear c0 c1 c2
    obtain ⟨c0, c1, c2⟩ := cells3 p7
    go_wp2_with fail
    refine (iBorder_any _ _ _ _ _ xs _ HL.out (by omega) A7.out).mono ?_; rintro e w8 ⟨rfl, hb8⟩
    rw [HBD.out]
    have b8 := below_seq b7 hb8
    have p8 := heap_later p7 hb8
    have A8 := Lib.hid (A7.out.below hb8)
    clear c0 c1 c2
    obtain ⟨c0, c1, c2⟩ := cells3 p8
    go_wp2_with fail
    refine (iHolesMany_any _ _ _ _ _ xs _ HL.out (by omega) A8.out).mono ?_; rintro e w9 ⟨rfl, hb9⟩
    rw [HHN.out]
    have b9 := below_seq b8 hb9
    have p9 := heap_later p8 hb9
    have A9 := Lib.hid (A8.out.below hb9)
    clear c0 c1 c2
    obtain ⟨c0, c1, c2⟩ := cells3 p9
    go_wp2_with fail
    refine (iPartsMany_any _ _ _ _ _ xs _ HL.out (by omega) A9.out).mono ?_; rintro e w10 ⟨rfl, hb10⟩
    rw [HPN.out]
    go_wp2
    go_ret
    exact ⟨rfl, below_seq b9 hb10⟩
end Go.Proofs.Ytfkhjaboafedpaa
