/- Plain facts: the heights of a tiling of a simple region: that there are some, how great they are, and that they spread along sides. -/
import Derived.Test.YthdacjgechokcaaHForm
import Derived.Test.YthdacjgechokcaaSideM
import Derived.Test.YthdacjgechokcaaSimpleP
import Derived.Test.YthdacjgechokcaaOutsideN
import Derived.Test.YthdacjgechokcaaLayOne
namespace Go.Proofs.Ythdacjgechokcaa
open Go.RowKit
set_option linter.unusedVariables false
set_option maxRecDepth 100000
set_option linter.unusedSimpArgs false

/-- The entry of a list at a place, or 0 where no cell of the region is. -/
def lv (W T : Int) (xs : List Bool) (L : List Int) (x y : Int) : Int := if atB W T xs x y then L.getD (y * W + x).toNat 0 else 0
def dkP (x y : Int) : Bool := decide ((x + y + 2) % 2 = 0)
/-- By how much the height grows along a side with a dark, or light, cell on its left, with or without a domino across. -/
def rsB (d c : Bool) : Int := if c then (if d then -3 else 3) else (if d then 1 else -1)
theorem rsB_not (d c : Bool) : rsB (!d) c = -rsB d c := by cases d <;> cases c <;> rfl
theorem dkP_e (x y : Int) : dkP (x - 1) y = !dkP x y := by
  unfold dkP
  rw [Bool.eq_iff_iff]; simp; omega
theorem dkP_n (x y : Int) : dkP x (y + 1) = !dkP x y := by
  unfold dkP
  rw [Bool.eq_iff_iff]; simp; omega

theorem place_idx {W T x y : Int} (hx0 : 0 ≤ x) (hx1 : x < W) (hy0 : 0 ≤ y) (hy1 : y < T) : ∃ k : Nat, (k : Int) = y * W + x ∧ (k : Int) % W = x ∧ (k : Int) / W = y ∧ (k : Int) < W * T := by
  obtain ⟨_, h1, h2⟩ := idx_bd hx0 hx1 hy0 hy1
  obtain ⟨k, hk⟩ := Int.eq_ofNat_of_zero_le h1
  refine ⟨k, hk.symm, ?_, ?_, by omega⟩
  · rw [← hk, Int.add_comm, Int.add_mul_emod_self_right, Int.emod_eq_of_lt hx0 hx1]
  · rw [← hk, Int.add_comm, Int.add_mul_ediv_right _ _ (by omega), Int.ediv_eq_zero_of_lt hx0 hx1]; omega
theorem lv_at {W T : Int} {xs : List Bool} {L : List Int} {x y : Int} (h : lv W T xs L x y ≠ 0) : atB W T xs x y = true := by
  unfold lv at h
  cases ha : atB W T xs x y
  · rw [ha] at h; simp at h
  · rfl
theorem lv_next {W T : Int} {xs : List Bool} {L : List Int} (h : lok W T xs L = true) {x y : Int} (h0 : lv W T xs L x y ≠ 0) :
    (1 ≤ lv W T xs L x y ∧ lv W T xs L x y ≤ 4) ∧ (lv W T xs L x y = 1 → lv W T xs L (x + 1) y = 3) ∧ (lv W T xs L x y = 2 → lv W T xs L x (y + 1) = 4) ∧ (lv W T xs L x y = 3 → lv W T xs L (x - 1) y = 1) ∧ (lv W T xs L x y = 4 → lv W T xs L x (y - 1) = 2) := by
  have ha := lv_at h0
  obtain ⟨a0, a1, a2, a3⟩ := atB_in ha
  obtain ⟨k, hk, kx, ky, hkl⟩ := place_idx a0 a1 a2 a3
  obtain ⟨hr, hlen, _⟩ := lok_rv h
  obtain ⟨v1, v2, v3, v4, v5, _⟩ := rv_true hr
  have ek : (y * W + x).toNat = k := by omega
  have hv : lv W T xs L x y = L.getD k 0 := by unfold lv; rw [ha, if_pos rfl, ek]
  rw [hv] at h0 ⊢
  obtain ⟨o, hs, ho, _, hxk, hxo, hb, _, w1, w4⟩ := lok_at h (k := k) (by omega) h0
  have tgt : ∀ x' y' : Int, (o : Int) = y' * W + x' → 0 ≤ x' → x' < W → 0 ≤ y' → y' < T → lv W T xs L x' y' = backI (L.getD k 0) := by
    intro x' y' e b0 b1 b2 b3
    have eo : (y' * W + x').toNat = o := by omega
    unfold lv atB inF
    rw [eo, hxo, decide_eq_true ⟨b0, b1, b2, b3⟩, hb]; rfl
  generalize L.getD k 0 = v at *
  refine ⟨⟨w1, w4⟩, ?_, ?_, ?_, ?_⟩
  · rintro rfl
    unfold stepI at hs
    rw [kx, ky] at hs
    by_cases hc : x < W - 1
    · rw [if_pos ⟨rfl, hc⟩] at hs
      exact tgt (x + 1) y (by omega) (by omega) (by omega) a2 a3
    · rw [if_neg (by omega), if_neg (by omega), if_neg (by omega), if_neg (by omega)] at hs; omega
  · rintro rfl
    unfold stepI at hs
    rw [kx, ky] at hs
    by_cases hc : y < T - 1
    · rw [if_neg (by omega), if_pos ⟨rfl, hc⟩] at hs
      exact tgt x (y + 1) (by rw [Int.add_mul]; omega) a0 a1 (by omega) (by omega)
    · rw [if_neg (by omega), if_neg (by omega), if_neg (by omega), if_neg (by omega)] at hs; omega
  · rintro rfl
    unfold stepI at hs
    rw [kx, ky] at hs
    by_cases hc : 0 < x
    · rw [if_neg (by omega), if_neg (by omega), if_pos ⟨rfl, hc⟩] at hs
      exact tgt (x - 1) y (by omega) (by omega) (by omega) a2 a3
    · rw [if_neg (by omega), if_neg (by omega), if_neg (by omega), if_neg (by omega)] at hs; omega
  · rintro rfl
    unfold stepI at hs
    rw [kx, ky] at hs
    by_cases hc : 0 < y
    · rw [if_neg (by omega), if_neg (by omega), if_neg (by omega), if_pos ⟨rfl, hc⟩] at hs
      exact tgt x (y - 1) (by rw [Int.sub_mul]; omega) a0 a1 (by omega) (by omega)
    · rw [if_neg (by omega), if_neg (by omega), if_neg (by omega), if_neg (by omega)] at hs; omega
theorem tok_lok1 {W T : Int} {xs : List Bool} {L : List Int} (h : tok W T xs L = true) : lok W T xs L = true := by unfold tok at h; simp only [Bool.and_eq_true] at h; exact h.1
theorem tok_lv {W T : Int} {xs : List Bool} {L : List Int} (h : tok W T xs L = true) {x y : Int} (ha : atB W T xs x y = true) : lv W T xs L x y ≠ 0 := by
  have hl := tok_lok1 h
  obtain ⟨hr, hlen, _⟩ := lok_rv hl
  obtain ⟨v1, v2, v3, v4, v5, _⟩ := rv_true hr
  obtain ⟨a0, a1, a2, a3⟩ := atB_in ha
  obtain ⟨k, hk, kx, ky, hkl⟩ := place_idx a0 a1 a2 a3
  have ek : (y * W + x).toNat = k := by omega
  have hx : xs.getD k false = true := by
    unfold atB at ha
    rw [Bool.and_eq_true, ek] at ha
    exact ha.2
  unfold lv
  rw [ha, if_pos rfl, ek]
  intro h0
  have hf : freeB xs L k = true := by unfold freeB; rw [hx, h0]; rfl
  unfold tok at h
  rw [hl, Bool.true_and, decide_eq_true_eq] at h
  rcases first_cases xs L 0 L.length with ⟨_, hno⟩ | ⟨j, _, _, hj, _⟩
  · have := hno k (Nat.zero_le _) (by omega)
    rw [hf] at this; cases this
  · rw [hj] at h; omega

/-- The four sides round a cell of a tiling: exactly one has a domino across. -/
theorem lv_four {W T : Int} {xs : List Bool} {L : List Int} (h : tok W T xs L = true) {x y : Int} (ha : atB W T xs x y = true) :
    (lv W T xs L x (y + 1) == 4) = (lv W T xs L x y == 2) ∧ (lv W T xs L (x - 1) y == 1) = (lv W T xs L x y == 3) ∧ (1 ≤ lv W T xs L x y ∧ lv W T xs L x y ≤ 4) := by
  have hl := tok_lok1 h
  obtain ⟨hr, n1, n2, n3, n4⟩ := lv_next hl (tok_lv h ha)
  refine ⟨?_, ?_, hr⟩
  · rw [Bool.eq_iff_iff]; simp only [beq_iff_eq]
    constructor
    · intro e
      obtain ⟨_, _, _, _, m4⟩ := lv_next hl (x := x) (y := y + 1) (by omega)
      have := m4 e
      rwa [Int.add_sub_cancel] at this
    · exact n2
  · rw [Bool.eq_iff_iff]; simp only [beq_iff_eq]
    constructor
    · intro e
      obtain ⟨_, m1, _, _, _⟩ := lv_next hl (x := x - 1) (y := y) (by omega)
      have := m1 e
      rwa [Int.sub_add_cancel] at this
    · exact n3
theorem rs_round (d : Bool) {v : Int} (h1 : 1 ≤ v) (h4 : v ≤ 4) : rsB d (v == 4) + rsB d (v == 1) + rsB d (v == 2) + rsB d (v == 3) = 0 := by
  have : v = 1 ∨ v = 2 ∨ v = 3 ∨ v = 4 := by omega
  rcases this with rfl | rfl | rfl | rfl <;> cases d <;> rfl
/-- The numbers on the sides that a tiling tells, in the field with a rim. -/
def tilF (W T : Int) (xs : List Bool) (L : List Int) : Form :=
  ⟨fun X Y => rsB (dkP ((X : Int) - 1) ((Y : Int) - 1)) (lv W T xs L ((X : Int) - 1) ((Y : Int) - 1) == 4), fun X Y => rsB (dkP ((X : Int) - 2) ((Y : Int) - 1)) (lv W T xs L ((X : Int) - 2) ((Y : Int) - 1) == 1)⟩
theorem tilF_circ {W T : Int} {xs : List Bool} {L : List Int} (h : tok W T xs L = true) {X Y : Nat} (ha : atB W T xs ((X : Int) - 1) ((Y : Int) - 1) = true) : (tilF W T xs L).circ X Y = 0 := by
  obtain ⟨f1, f2, f3, f4⟩ := lv_four h ha
  obtain ⟨x, hx⟩ : ∃ x, x = (X : Int) - 1 := ⟨_, rfl⟩
  obtain ⟨y, hy⟩ : ∃ y, y = (Y : Int) - 1 := ⟨_, rfl⟩
  rw [← hx, ← hy] at f1 f2 f3 f4
  have e1 : ((X + 1 : Nat) : Int) - 2 = x := by omega
  have e2 : ((Y + 1 : Nat) : Int) - 1 = y + 1 := by omega
  have e3 : (X : Int) - 2 = x - 1 := by omega
  unfold Form.circ tilF
  simp only
  rw [e1, e2, e3, ← hx, ← hy, f1, f2, dkP_n, dkP_e, rsB_not, rsB_not]
  have := rs_round (dkP x y) f3 f4
  omega

/-- By how much the height grows along a side, for a tiling. -/
def rT (W T : Int) (xs : List Bool) (L : List Int) (k : Nat) (nth : Bool) : Int :=
  if sBoth W T xs k nth && (L.getD (sCell W k nth).toNat 0 == sWay nth) then -3 * sRise W k nth else sRise W k nth
theorem rT_eq {W T : Int} {xs : List Bool} {L : List Int} (h : lok W T xs L = true) (k : Nat) (nth : Bool) : rT W T xs L k nth = rsB (dkP (sLx W k nth) (ky W k)) (lv W T xs L (sLx W k nth) (ky W k) == sWay nth) := by
  have e : (sBoth W T xs k nth && (L.getD (sCell W k nth).toNat 0 == sWay nth)) = (lv W T xs L (sLx W k nth) (ky W k) == sWay nth) := by
    have hw : sWay nth ≠ 0 := by unfold sWay; cases nth <;> decide
    cases hl : sLeft W T xs k nth
    · have : lv W T xs L (sLx W k nth) (ky W k) = 0 := by unfold lv; unfold sLeft at hl; rw [hl]; rfl
      unfold sBoth
      rw [hl, this]
      simp only [Bool.false_and]
      symm; simp; omega
    · have hlv : lv W T xs L (sLx W k nth) (ky W k) = L.getD (sCell W k nth).toNat 0 := by unfold lv sCell; unfold sLeft at hl; rw [hl, if_pos rfl]
      unfold sBoth
      rw [hl, ← hlv, Bool.true_and]
      cases hr : sRight W T xs k nth
      · rw [Bool.false_and]
        symm
        rw [beq_eq_false_iff_ne]
        intro e
        obtain ⟨_, n1, _, _, n4⟩ := lv_next h (x := sLx W k nth) (y := ky W k) (by rw [e]; exact hw)
        unfold sRight at hr
        cases nth
        · have n := n4 e
          have := lv_at (W := W) (T := T) (xs := xs) (L := L) (x := sLx W k false) (y := ky W k - 1) (by omega)
          unfold sLx at this; unfold sRy at hr
          simp at this hr
          rw [hr] at this; cases this
        · have n := n1 e
          have := lv_at (W := W) (T := T) (xs := xs) (L := L) (x := sLx W k true + 1) (y := ky W k) (by omega)
          unfold sLx at this; unfold sRy at hr
          simp at this hr
          rw [hr] at this; cases this
      · rw [Bool.true_and]
  unfold rT
  rw [e]
  unfold rsB sRise sDark dkP
  split <;> split <;> rfl

/-- The end of a used side. -/
theorem to_xy {W T : Int} {xs : List Bool} {k : Nat} {nth : Bool} (hW : 1 ≤ W) (h : sUsed W T xs k nth = true) : kx W (sTo W k nth).toNat = (if nth then kx W k else kx W k + 1) ∧ ky W (sTo W k nth).toNat = (if nth then ky W k + 1 else ky W k) := by
  obtain ⟨a, b, c, d⟩ := kxy hW k
  have hu := sUsed_in hW h
  have h0 := (sTo_lt hW h).1
  unfold sTo at h0 ⊢
  cases nth
  · simp at hu h0 ⊢
    have e3 : (((k : Int) + 1).toNat : Int) = (kx W k + 1) + ky W k * (W + 1) := by omega
    refine ⟨?_, ?_⟩
    · show (((k : Int) + 1).toNat : Int) % (W + 1) = _
      rw [e3, Int.add_mul_emod_self_right, Int.emod_eq_of_lt (by omega) (by omega)]
    · show (((k : Int) + 1).toNat : Int) / (W + 1) = _
      rw [e3, Int.add_mul_ediv_right _ _ (by omega), Int.ediv_eq_zero_of_lt (by omega) (by omega)]; omega
  · simp at hu h0 ⊢
    have e3 : (((k : Int) + W + 1).toNat : Int) = kx W k + (ky W k + 1) * (W + 1) := by rw [Int.add_mul]; omega
    refine ⟨?_, ?_⟩
    · show (((k : Int) + W + 1).toNat : Int) % (W + 1) = _
      rw [e3, Int.add_mul_emod_self_right, Int.emod_eq_of_lt (by omega) (by omega)]
    · show (((k : Int) + W + 1).toNat : Int) / (W + 1) = _
      rw [e3, Int.add_mul_ediv_right _ _ (by omega), Int.ediv_eq_zero_of_lt (by omega) (by omega)]; omega
/-- There are heights along all used sides. -/
theorem height_fun {W T : Int} {xs : List Bool} {L : List Int} (hs : simpleB W T xs = true) (ht : tok W T xs L = true) : ∃ g : Nat → Int, ∀ k nth, sUsed W T xs k nth = true → g (sTo W k nth).toNat - g k = rT W T xs L k nth := by
  have hl := tok_lok1 ht
  obtain ⟨v1, v2, v3, v4, v5, _⟩ := rv_true (simpleB_rv hs)
  obtain ⟨V, hV⟩ := Int.eq_ofNat_of_zero_le (show 0 ≤ W + 2 by omega)
  obtain ⟨H, hH⟩ := Int.eq_ofNat_of_zero_le (show 0 ≤ T + 2 by omega)
  have hone : oneMark (V * H) (outB W T xs) (adjW (V : Int) false) = true := by
    unfold simpleB outOne at hs
    rw [Bool.and_eq_true, hV, hH] at hs
    have e : ((V : Int) * (H : Int)).toNat = V * H := by rw [← Int.natCast_mul, Int.toNat_natCast]
    rw [e] at hs
    exact hs.2
  have h0 : outB W T xs 0 = true := by
    unfold outB atB inF
    have e : ((0 : Nat) : Int) % (W + 2) - 1 = -1 := by rw [Int.natCast_zero, Int.zero_emod]; rfl
    rw [e, decide_eq_false (by omega)]; rfl
  have hconn := (oneMark_iff (Nat.mul_pos (by omega) (by omega)) h0).1 hone
  have hin : ∀ X Y : Nat, X < V → outB W T xs (Y * V + X) = !atB W T xs ((X : Int) - 1) ((Y : Int) - 1) := by
    intro X Y hX
    obtain ⟨w, rfl⟩ := Int.eq_ofNat_of_zero_le (show 0 ≤ W by omega)
    obtain ⟨t, rfl⟩ := Int.eq_ofNat_of_zero_le (show 0 ≤ T by omega)
    obtain rfl : V = w + 2 := by omega
    exact outB_at (W := w) (T := t) hX
  obtain ⟨h, hh⟩ := form_heights (V := V) (H := H) (N := V * H) (s := outB W T xs) (by omega) (by omega) rfl h0 hconn (tilF W T xs L) (fun X Y hX hY hXY => tilF_circ ht (by rw [hin X Y hX] at hXY; simpa using hXY))
  have hcell : ∀ x y : Int, atB W T xs x y = true → h (x + 2).toNat (y + 1).toNat - h (x + 1).toNat (y + 1).toNat = rsB (dkP x y) (lv W T xs L x y == 4) ∧ h (x + 2).toNat (y + 2).toNat - h (x + 1).toNat (y + 2).toNat = rsB (dkP x (y + 1)) (lv W T xs L x (y + 1) == 4) ∧
      h (x + 1).toNat (y + 2).toNat - h (x + 1).toNat (y + 1).toNat = rsB (dkP (x - 1) y) (lv W T xs L (x - 1) y == 1) ∧ h (x + 2).toNat (y + 2).toNat - h (x + 2).toNat (y + 1).toNat = rsB (dkP x y) (lv W T xs L x y == 1) := by
    intro x y ha
    obtain ⟨a0, a1, a2, a3⟩ := atB_in ha
    obtain ⟨X, hX⟩ := Int.eq_ofNat_of_zero_le (show 0 ≤ x + 1 by omega)
    obtain ⟨Y, hY⟩ := Int.eq_ofNat_of_zero_le (show 0 ≤ y + 1 by omega)
    have c1 : (x + 1).toNat = X := by omega
    have c2 : (y + 1).toNat = Y := by omega
    have c3 : (x + 2).toNat = X + 1 := by omega
    have c4 : (y + 2).toNat = Y + 1 := by omega
    have ex : (X : Int) - 1 = x := by omega
    have ey : (Y : Int) - 1 = y := by omega
    have q := hh X Y (by omega) (by omega) (by rw [hin X Y (by omega), ex, ey, ha]; rfl)
    have ex2 : ((X + 1 : Nat) : Int) - 2 = x := by omega
    have ex3 : (X : Int) - 2 = x - 1 := by omega
    have ey2 : ((Y + 1 : Nat) : Int) - 1 = y + 1 := by omega
    unfold tilF at q
    simp only [ex, ey, ex2, ex3, ey2] at q
    rw [c1, c2, c3, c4]
    exact q
  refine ⟨fun k => h (kx W k + 1).toNat (ky W k + 1).toNat, fun k nth hu => ?_⟩
  obtain ⟨t1, t2⟩ := to_xy v1 hu
  simp only
  rw [t1, t2, rT_eq hl]
  unfold sUsed at hu
  rw [Bool.or_eq_true] at hu
  cases nth
  · simp only [Bool.false_eq_true, if_false] at hu ⊢
    have el : sLx W k false = kx W k := rfl
    rw [el]
    rcases hu with hu | hu
    · unfold sLeft at hu
      rw [el] at hu
      have q := (hcell _ _ hu).1
      rw [show kx W k + 1 + 1 = kx W k + 2 by omega]
      exact q
    · unfold sRight sRy at hu
      simp only [Bool.false_eq_true, if_false] at hu
      have q := (hcell _ _ hu).2.1
      rw [show ky W k - 1 + 2 = ky W k + 1 by omega, show ky W k - 1 + 1 = ky W k by omega] at q
      rw [show kx W k + 1 + 1 = kx W k + 2 by omega]
      exact q
  · simp only [if_true] at hu ⊢
    have el : sLx W k true = kx W k - 1 := rfl
    rw [el]
    rcases hu with hu | hu
    · unfold sLeft at hu
      rw [el] at hu
      have q := (hcell _ _ hu).2.2.2
      rw [show kx W k - 1 + 2 = kx W k + 1 by omega] at q
      rw [show ky W k + 1 + 1 = ky W k + 2 by omega]
      exact q
    · unfold sRight sRy at hu
      simp only [if_true] at hu
      have q := (hcell _ _ hu).2.2.1
      rw [show ky W k + 1 + 1 = ky W k + 2 by omega]
      exact q
end Go.Proofs.Ythdacjgechokcaa
