/- Plain facts: the heights of a tiling of a simple region: that there are some, how great they are, and that they spread along sides. Merged of: HtsM, HtsN. -/
import Derived.Test.YtpcajacekmidbaaGreatKSimpleP
namespace Go.Proofs.YtpcajacekmidbaaGreat
open Go.RowKit
set_option linter.unusedVariables false
set_option maxRecDepth 100000
set_option linter.unusedSimpArgs false

def lv (W T : Int) (xs : List Bool) (L : List Int) (x y : Int) : Int := if atB W T xs x y then L.getD (y * W + x).toNat 0 else 0
def dkP (x y : Int) : Bool := decide ((x + y + 2) % 2 = 0)
def rsB (d c : Bool) : Int := if c then (if d then -3 else 3) else (if d then 1 else -1)
theorem rsB_not (d c : Bool) : rsB (!d) c = -rsB d c := by cases d <;> cases c <;> rfl
theorem dkP_e (x y : Int) : dkP (x - 1) y = !dkP x y := by
 unfold dkP
 rw [Bool.eq_iff_iff]; simp; omega
theorem dkP_n (x y : Int) : dkP x (y + 1) = !dkP x y := by
 unfold dkP
 rw [Bool.eq_iff_iff]; simp; omega

theorem place_idx {W T x y : Int} (hx0 : 0 ≤ x) (hx1 : x < W) (hy0 : 0 ≤ y) (hy1 : y < T) : ∃ k : Nat, (k : Int) = y * W + x ∧ (k : Int) % W = x ∧ (k : Int) / W = y ∧ (k : Int) < W * T := by
 obtain ⟨_, h1, h2⟩ := idx_bd hx0 hx1 hy0 hy1
 obtain ⟨k, hk⟩ := Int.eq_ofNat_of_zero_le h1
 refine ⟨k, hk.symm, ?_, ?_, by omega⟩
 · rw [← hk, Int.add_comm, Int.add_mul_emod_self_right, Int.emod_eq_of_lt hx0 hx1]
 · rw [← hk, Int.add_comm, Int.add_mul_ediv_right _ _ (by omega), Int.ediv_eq_zero_of_lt hx0 hx1]; omega
theorem lv_at {W T : Int} {xs : List Bool} {L : List Int} {x y : Int} (h : lv W T xs L x y ≠ 0) : atB W T xs x y = true := by
 unfold lv at h
 cases ha : atB W T xs x y
 · rw [ha] at h; simp at h
 · rfl
theorem lv_next {W T : Int} {xs : List Bool} {L : List Int} (h : lok W T xs L = true) {x y : Int} (h0 : lv W T xs L x y ≠ 0) :
 (1 ≤ lv W T xs L x y ∧ lv W T xs L x y ≤ 4) ∧ (lv W T xs L x y = 1 → lv W T xs L (x + 1) y = 3) ∧ (lv W T xs L x y = 2 → lv W T xs L x (y + 1) = 4) ∧ (lv W T xs L x y = 3 → lv W T xs L (x - 1) y = 1) ∧ (lv W T xs L x y = 4 → lv W T xs L x (y - 1) = 2) := by
 have ha := lv_at h0
 obtain ⟨a0, a1, a2, a3⟩ := atB_in ha
 obtain ⟨k, hk, kx, ky, hkl⟩ := place_idx a0 a1 a2 a3
 obtain ⟨hr, hlen, _⟩ := lok_rv h
 obtain ⟨v1, v2, v3, v4, v5, _⟩ := rv_true hr
 have ek : (y * W + x).toNat = k := by omega
 have hv : lv W T xs L x y = L.getD k 0 := by unfold lv; rw [ha, if_pos rfl, ek]
 rw [hv] at h0 ⊢
 obtain ⟨o, hs, ho, _, hxk, hxo, hb, _, w1, w4⟩ := lok_at h (k := k) (by omega) h0
 have tgt : ∀ x' y' : Int, (o : Int) = y' * W + x' → 0 ≤ x' → x' < W → 0 ≤ y' → y' < T → lv W T xs L x' y' = backI (L.getD k 0) := by
  intro x' y' e b0 b1 b2 b3
  have eo : (y' * W + x').toNat = o := by omega
  unfold lv atB inF
  rw [eo, hxo, decide_eq_true ⟨b0, b1, b2, b3⟩, hb]; rfl
 generalize L.getD k 0 = v at *
 refine ⟨⟨w1, w4⟩, ?_, ?_, ?_, ?_⟩
 · rintro rfl
   unfold stepI at hs
   rw [kx, ky] at hs
   by_cases hc : x < W - 1
   · rw [if_pos ⟨rfl, hc⟩] at hs
     exact tgt (x + 1) y (by omega) (by omega) (by omega) a2 a3
   · rw [if_neg (by omega), if_neg (by omega), if_neg (by omega), if_neg (by omega)] at hs; omega
 · rintro rfl
   unfold stepI at hs
   rw [kx, ky] at hs
   by_cases hc : y < T - 1
   · rw [if_neg (by omega), if_pos ⟨rfl, hc⟩] at hs
     exact tgt x (y + 1) (by rw [Int.add_mul]; omega) a0 a1 (by omega) (by omega)
   · rw [if_neg (by omega), if_neg (by omega), if_neg (by omega), if_neg (by omega)] at hs; omega
 · rintro rfl
   unfold stepI at hs
   rw [kx, ky] at hs
   by_cases hc : 0 < x
   · rw [if_neg (by omega), if_neg (by omega), if_pos ⟨rfl, hc⟩] at hs
     exact tgt (x - 1) y (by omega) (by omega) (by omega) a2 a3
   · rw [if_neg (by omega), if_neg (by omega), if_neg (by omega), if_neg (by omega)] at hs; omega
 · rintro rfl
   unfold stepI at hs
   rw [kx, ky] at hs
   by_cases hc : 0 < y
   · rw [if_neg (by omega), if_neg (by omega), if_neg (by omega), if_pos ⟨rfl, hc⟩] at hs
     exact tgt x (y - 1) (by rw [Int.sub_mul]; omega) a0 a1 (by omega) (by omega)
   · rw [if_neg (by omega), if_neg (by omega), if_neg (by omega), if_neg (by omega)] at hs; omega
theorem tok_lok1 {W T : Int} {xs : List Bool} {L : List Int} (h : tok W T xs L = true) : lok W T xs L = true := by unfold tok at h; simp only [Bool.and_eq_true] at h; exact h.1
theorem tok_lv {W T : Int} {xs : List Bool} {L : List Int} (h : tok W T xs L = true) {x y : Int} (ha : atB W T xs x y = true) : lv W T xs L x y ≠ 0 := by
 have hl := tok_lok1 h
 obtain ⟨hr, hlen, _⟩ := lok_rv hl
 obtain ⟨v1, v2, v3, v4, v5, _⟩ := rv_true hr
 obtain ⟨a0, a1, a2, a3⟩ := atB_in ha
 obtain ⟨k, hk, kx, ky, hkl⟩ := place_idx a0 a1 a2 a3
 have ek : (y * W + x).toNat = k := by omega
 have hx : xs.getD k false = true := by
  unfold atB at ha
  rw [Bool.and_eq_true, ek] at ha
  exact ha.2
 unfold lv
 rw [ha, if_pos rfl, ek]
 intro h0
 have hf : freeB xs L k = true := by unfold freeB; rw [hx, h0]; rfl
 unfold tok at h
 rw [hl, Bool.true_and, decide_eq_true_eq] at h
 rcases first_cases xs L 0 L.length with ⟨_, hno⟩ | ⟨j, _, _, hj, _⟩
 · have := hno k (Nat.zero_le _) (by omega)
   rw [hf] at this; cases this
 · rw [hj] at h; omega

theorem lv_four {W T : Int} {xs : List Bool} {L : List Int} (h : tok W T xs L = true) {x y : Int} (ha : atB W T xs x y = true) :
 (lv W T xs L x (y + 1) == 4) = (lv W T xs L x y == 2) ∧ (lv W T xs L (x - 1) y == 1) = (lv W T xs L x y == 3) ∧ (1 ≤ lv W T xs L x y ∧ lv W T xs L x y ≤ 4) := by
 have hl := tok_lok1 h
 obtain ⟨hr, n1, n2, n3, n4⟩ := lv_next hl (tok_lv h ha)
 refine ⟨?_, ?_, hr⟩
 · rw [Bool.eq_iff_iff]; simp only [beq_iff_eq]
   constructor
   · intro e
     obtain ⟨_, _, _, _, m4⟩ := lv_next hl (x := x) (y := y + 1) (by omega)
     have := m4 e
     rwa [Int.add_sub_cancel] at this
   · exact n2
 · rw [Bool.eq_iff_iff]; simp only [beq_iff_eq]
   constructor
   · intro e
     obtain ⟨_, m1, _, _, _⟩ := lv_next hl (x := x - 1) (y := y) (by omega)
     have := m1 e
     rwa [Int.sub_add_cancel] at this
   · exact n3
theorem rs_round (d : Bool) {v : Int} (h1 : 1 ≤ v) (h4 : v ≤ 4) : rsB d (v == 4) + rsB d (v == 1) + rsB d (v == 2) + rsB d (v == 3) = 0 := by
 have : v = 1 ∨ v = 2 ∨ v = 3 ∨ v = 4 := by omega
 rcases this with rfl | rfl | rfl | rfl <;> cases d <;> rfl
def tilF (W T : Int) (xs : List Bool) (L : List Int) : Form :=
 ⟨fun X Y => rsB (dkP ((X : Int) - 1) ((Y : Int) - 1)) (lv W T xs L ((X : Int) - 1) ((Y : Int) - 1) == 4), fun X Y => rsB (dkP ((X : Int) - 2) ((Y : Int) - 1)) (lv W T xs L ((X : Int) - 2) ((Y : Int) - 1) == 1)⟩
theorem tilF_circ {W T : Int} {xs : List Bool} {L : List Int} (h : tok W T xs L = true) {X Y : Nat} (ha : atB W T xs ((X : Int) - 1) ((Y : Int) - 1) = true) : (tilF W T xs L).circ X Y = 0 := by
 obtain ⟨f1, f2, f3, f4⟩ := lv_four h ha
 obtain ⟨x, hx⟩ : ∃ x, x = (X : Int) - 1 := ⟨_, rfl⟩
 obtain ⟨y, hy⟩ : ∃ y, y = (Y : Int) - 1 := ⟨_, rfl⟩
 rw [← hx, ← hy] at f1 f2 f3 f4
 have e1 : ((X + 1 : Nat) : Int) - 2 = x := by omega
 have e2 : ((Y + 1 : Nat) : Int) - 1 = y + 1 := by omega
 have e3 : (X : Int) - 2 = x - 1 := by omega
 unfold Form.circ tilF
 simp only
 rw [e1, e2, e3, ← hx, ← hy, f1, f2, dkP_n, dkP_e, rsB_not, rsB_not]
 have := rs_round (dkP x y) f3 f4
 omega

def rT (W T : Int) (xs : List Bool) (L : List Int) (k : Nat) (nth : Bool) : Int :=
 if sBoth W T xs k nth && (L.getD (sCell W k nth).toNat 0 == sWay nth) then -3 * sRise W k nth else sRise W k nth
theorem rT_eq {W T : Int} {xs : List Bool} {L : List Int} (h : lok W T xs L = true) (k : Nat) (nth : Bool) : rT W T xs L k nth = rsB (dkP (sLx W k nth) (ky W k)) (lv W T xs L (sLx W k nth) (ky W k) == sWay nth) := by
 have e : (sBoth W T xs k nth && (L.getD (sCell W k nth).toNat 0 == sWay nth)) = (lv W T xs L (sLx W k nth) (ky W k) == sWay nth) := by
  have hw : sWay nth ≠ 0 := by unfold sWay; cases nth <;> decide
  cases hl : sLeft W T xs k nth
  · have : lv W T xs L (sLx W k nth) (ky W k) = 0 := by unfold lv; unfold sLeft at hl; rw [hl]; rfl
    unfold sBoth
    rw [hl, this]
    simp only [Bool.false_and]
    symm; simp; omega
  · have hlv : lv W T xs L (sLx W k nth) (ky W k) = L.getD (sCell W k nth).toNat 0 := by unfold lv sCell; unfold sLeft at hl; rw [hl, if_pos rfl]
    unfold sBoth
    rw [hl, ← hlv, Bool.true_and]
    cases hr : sRight W T xs k nth
    · rw [Bool.false_and]
      symm
      rw [beq_eq_false_iff_ne]
      intro e
      obtain ⟨_, n1, _, _, n4⟩ := lv_next h (x := sLx W k nth) (y := ky W k) (by rw [e]; exact hw)
      unfold sRight at hr
      cases nth
      · have n := n4 e
        have := lv_at (W := W) (T := T) (xs := xs) (L := L) (x := sLx W k false) (y := ky W k - 1) (by omega)
        unfold sLx at this; unfold sRy at hr
        simp at this hr
        rw [hr] at this; cases this
      · have n := n1 e
        have := lv_at (W := W) (T := T) (xs := xs) (L := L) (x := sLx W k true + 1) (y := ky W k) (by omega)
        unfold sLx at this; unfold sRy at hr
        simp at this hr
        rw [hr] at this; cases this
    · rw [Bool.true_and]
 unfold rT
 rw [e]
 unfold rsB sRise sDark dkP
 split <;> split <;> rfl

theorem to_xy {W T : Int} {xs : List Bool} {k : Nat} {nth : Bool} (hW : 1 ≤ W) (h : sUsed W T xs k nth = true) : kx W (sTo W k nth).toNat = (if nth then kx W k else kx W k + 1) ∧ ky W (sTo W k nth).toNat = (if nth then ky W k + 1 else ky W k) := by
 obtain ⟨a, b, c, d⟩ := kxy hW k
 have hu := sUsed_in hW h
 have h0 := (sTo_lt hW h).1
 unfold sTo at h0 ⊢
 cases nth
 · simp at hu h0 ⊢
   have e3 : (((k : Int) + 1).toNat : Int) = (kx W k + 1) + ky W k * (W + 1) := by omega
   refine ⟨?_, ?_⟩
   · show (((k : Int) + 1).toNat : Int) % (W + 1) = _
     rw [e3, Int.add_mul_emod_self_right, Int.emod_eq_of_lt (by omega) (by omega)]
   · show (((k : Int) + 1).toNat : Int) / (W + 1) = _
     rw [e3, Int.add_mul_ediv_right _ _ (by omega), Int.ediv_eq_zero_of_lt (by omega) (by omega)]; omega
 · simp at hu h0 ⊢
   have e3 : (((k : Int) + W + 1).toNat : Int) = kx W k + (ky W k + 1) * (W + 1) := by rw [Int.add_mul]; omega
   refine ⟨?_, ?_⟩
   · show (((k : Int) + W + 1).toNat : Int) % (W + 1) = _
     rw [e3, Int.add_mul_emod_self_right, Int.emod_eq_of_lt (by omega) (by omega)]
   · show (((k : Int) + W + 1).toNat : Int) / (W + 1) = _
     rw [e3, Int.add_mul_ediv_right _ _ (by omega), Int.ediv_eq_zero_of_lt (by omega) (by omega)]; omega
theorem height_fun {W T : Int} {xs : List Bool} {L : List Int} (hs : simpleB W T xs = true) (ht : tok W T xs L = true) : ∃ g : Nat → Int, ∀ k nth, sUsed W T xs k nth = true → g (sTo W k nth).toNat - g k = rT W T xs L k nth := by
 have hl := tok_lok1 ht
 obtain ⟨v1, v2, v3, v4, v5, _⟩ := rv_true (simpleB_rv hs)
 obtain ⟨V, hV⟩ := Int.eq_ofNat_of_zero_le (show 0 ≤ W + 2 by omega)
 obtain ⟨H, hH⟩ := Int.eq_ofNat_of_zero_le (show 0 ≤ T + 2 by omega)
 have hone : oneMark (V * H) (outB W T xs) (adjW (V : Int) false) = true := by
  unfold simpleB outOne at hs
  rw [Bool.and_eq_true, hV, hH] at hs
  have e : ((V : Int) * (H : Int)).toNat = V * H := by rw [← Int.natCast_mul, Int.toNat_natCast]
  rw [e] at hs
  exact hs.2
 have h0 : outB W T xs 0 = true := by
  unfold outB atB inF
  have e : ((0 : Nat) : Int) % (W + 2) - 1 = -1 := by rw [Int.natCast_zero, Int.zero_emod]; rfl
  rw [e, decide_eq_false (by omega)]; rfl
 have hconn := (oneMark_iff (Nat.mul_pos (by omega) (by omega)) h0).1 hone
 have hin : ∀ X Y : Nat, X < V → outB W T xs (Y * V + X) = !atB W T xs ((X : Int) - 1) ((Y : Int) - 1) := by
  intro X Y hX
  obtain ⟨w, rfl⟩ := Int.eq_ofNat_of_zero_le (show 0 ≤ W by omega)
  obtain ⟨t, rfl⟩ := Int.eq_ofNat_of_zero_le (show 0 ≤ T by omega)
  obtain rfl : V = w + 2 := by omega
  exact outB_at (W := w) (T := t) hX
 obtain ⟨h, hh⟩ := form_heights (V := V) (H := H) (N := V * H) (s := outB W T xs) (by omega) (by omega) rfl h0 hconn (tilF W T xs L) (fun X Y hX hY hXY => tilF_circ ht (by rw [hin X Y hX] at hXY; simpa using hXY))
 have hcell : ∀ x y : Int, atB W T xs x y = true → h (x + 2).toNat (y + 1).toNat - h (x + 1).toNat (y + 1).toNat = rsB (dkP x y) (lv W T xs L x y == 4) ∧ h (x + 2).toNat (y + 2).toNat - h (x + 1).toNat (y + 2).toNat = rsB (dkP x (y + 1)) (lv W T xs L x (y + 1) == 4) ∧
  h (x + 1).toNat (y + 2).toNat - h (x + 1).toNat (y + 1).toNat = rsB (dkP (x - 1) y) (lv W T xs L (x - 1) y == 1) ∧ h (x + 2).toNat (y + 2).toNat - h (x + 2).toNat (y + 1).toNat = rsB (dkP x y) (lv W T xs L x y == 1) := by
  intro x y ha
  obtain ⟨a0, a1, a2, a3⟩ := atB_in ha
  obtain ⟨X, hX⟩ := Int.eq_ofNat_of_zero_le (show 0 ≤ x + 1 by omega)
  obtain ⟨Y, hY⟩ := Int.eq_ofNat_of_zero_le (show 0 ≤ y + 1 by omega)
  have c1 : (x + 1).toNat = X := by omega
  have c2 : (y + 1).toNat = Y := by omega
  have c3 : (x + 2).toNat = X + 1 := by omega
  have c4 : (y + 2).toNat = Y + 1 := by omega
  have ex : (X : Int) - 1 = x := by omega
  have ey : (Y : Int) - 1 = y := by omega
  have q := hh X Y (by omega) (by omega) (by rw [hin X Y (by omega), ex, ey, ha]; rfl)
  have ex2 : ((X + 1 : Nat) : Int) - 2 = x := by omega
  have ex3 : (X : Int) - 2 = x - 1 := by omega
  have ey2 : ((Y + 1 : Nat) : Int) - 1 = y + 1 := by omega
  unfold tilF at q
  simp only [ex, ey, ex2, ex3, ey2] at q
  rw [c1, c2, c3, c4]
  exact q
 refine ⟨fun k => h (kx W k + 1).toNat (ky W k + 1).toNat, fun k nth hu => ?_⟩
 obtain ⟨t1, t2⟩ := to_xy v1 hu
 simp only
 rw [t1, t2, rT_eq hl]
 unfold sUsed at hu
 rw [Bool.or_eq_true] at hu
 cases nth
 · simp only [Bool.false_eq_true, if_false] at hu ⊢
   have el : sLx W k false = kx W k := rfl
   rw [el]
   rcases hu with hu | hu
   · unfold sLeft at hu
     rw [el] at hu
     have q := (hcell _ _ hu).1
     rw [show kx W k + 1 + 1 = kx W k + 2 by omega]
     exact q
   · unfold sRight sRy at hu
     simp only [Bool.false_eq_true, if_false] at hu
     have q := (hcell _ _ hu).2.1
     rw [show ky W k - 1 + 2 = ky W k + 1 by omega, show ky W k - 1 + 1 = ky W k by omega] at q
     rw [show kx W k + 1 + 1 = kx W k + 2 by omega]
     exact q
 · simp only [if_true] at hu ⊢
   have el : sLx W k true = kx W k - 1 := rfl
   rw [el]
   rcases hu with hu | hu
   · unfold sLeft at hu
     rw [el] at hu
     have q := (hcell _ _ hu).2.2.2
     rw [show kx W k - 1 + 2 = kx W k + 1 by omega] at q
     rw [show ky W k + 1 + 1 = ky W k + 2 by omega]
     exact q
   · unfold sRight sRy at hu
     simp only [if_true] at hu
     have q := (hcell _ _ hu).2.2.1
     rw [show ky W k + 1 + 1 = ky W k + 2 by omega]
     exact q
end Go.Proofs.YtpcajacekmidbaaGreat

namespace Go.Proofs.YtpcajacekmidbaaGreat
open Go.RowKit
set_option linter.unusedVariables false
set_option maxRecDepth 100000
set_option linter.unusedSimpArgs false

def cI (W : Int) (x y : Int) : Nat := (y * (W + 1) + x).toNat
theorem cI_xy {W x y : Int} (hx0 : 0 ≤ x) (hx1 : x ≤ W) (hy0 : 0 ≤ y) : (cI W x y : Int) = y * (W + 1) + x ∧ kx W (cI W x y) = x ∧ ky W (cI W x y) = y := by
 have h0 : 0 ≤ y * (W + 1) := Int.mul_nonneg hy0 (by omega)
 have e : (cI W x y : Int) = y * (W + 1) + x := by unfold cI; omega
 refine ⟨e, ?_, ?_⟩
 · show (cI W x y : Int) % (W + 1) = x
   rw [e, Int.add_comm, Int.add_mul_emod_self_right, Int.emod_eq_of_lt hx0 (by omega)]
 · show (cI W x y : Int) / (W + 1) = y
   rw [e, Int.add_comm, Int.add_mul_ediv_right _ _ (by omega), Int.ediv_eq_zero_of_lt hx0 (by omega)]; omega
theorem cI_of {W : Int} (hW : 1 ≤ W) (k : Nat) : cI W (kx W k) (ky W k) = k := by
 obtain ⟨a, b, c, d⟩ := kxy hW k
 unfold cI; omega
theorem cell_sides {W T : Int} {xs : List Bool} (hW : 1 ≤ W) {x y : Int} (ha : atB W T xs x y = true) :
 (sUsed W T xs (cI W x y) false = true ∧ sTo W (cI W x y) false = cI W (x + 1) y) ∧ (sUsed W T xs (cI W x (y + 1)) false = true ∧ sTo W (cI W x (y + 1)) false = cI W (x + 1) (y + 1)) ∧
 (sUsed W T xs (cI W x y) true = true ∧ sTo W (cI W x y) true = cI W x (y + 1)) ∧ (sUsed W T xs (cI W (x + 1) y) true = true ∧ sTo W (cI W (x + 1) y) true = cI W (x + 1) (y + 1)) := by
 obtain ⟨a0, a1, a2, a3⟩ := atB_in ha
 obtain ⟨p1, p2, p3⟩ := cI_xy (W := W) (x := x) (y := y) a0 (by omega) a2
 obtain ⟨q1, q2, q3⟩ := cI_xy (W := W) (x := x) (y := y + 1) a0 (by omega) (by omega)
 obtain ⟨r1, r2, r3⟩ := cI_xy (W := W) (x := x + 1) (y := y) (by omega) (by omega) a2
 obtain ⟨s1, s2, s3⟩ := cI_xy (W := W) (x := x + 1) (y := y + 1) (by omega) (by omega) (by omega)
 rw [Int.add_mul] at q1 s1
 refine ⟨⟨?_, ?_⟩, ⟨?_, ?_⟩, ⟨?_, ?_⟩, ⟨?_, ?_⟩⟩
 · unfold sUsed sLeft sLx; rw [p2, p3]; simp [ha]
 · unfold sTo; simp only [Bool.false_eq_true, if_false]; omega
 · unfold sUsed sRight sRy; rw [q2, q3]; simp only [Bool.false_eq_true, if_false]; rw [Int.add_sub_cancel, ha, Bool.or_true]
 · unfold sTo; simp only [Bool.false_eq_true, if_false]; omega
 · unfold sUsed sRight sRy; rw [p2, p3]; simp only [if_true]; rw [ha, Bool.or_true]
 · unfold sTo; simp only [if_true]; omega
 · unfold sUsed sLeft sLx; rw [r2, r3]; simp only [if_true]; rw [Int.add_sub_cancel, ha, Bool.true_or]
 · unfold sTo; simp only [if_true]; omega
theorem hAt_cell {W T : Int} {xs : List Bool} (hW : 1 ≤ W) {k : Nat} (h : hAt W T xs k = true) : ∃ x y, atB W T xs x y = true ∧ (k = cI W x y ∨ k = cI W (x + 1) y ∨ k = cI W x (y + 1) ∨ k = cI W (x + 1) (y + 1)) := by
 have e := cI_of hW k
 unfold hAt at h
 simp only [Bool.or_eq_true] at h
 rcases h with ((h | h) | h) | h
 · exact ⟨_, _, h, Or.inl e.symm⟩
 · exact ⟨_, _, h, Or.inr (Or.inl (by rw [Int.sub_add_cancel]; exact e.symm))⟩
 · exact ⟨_, _, h, Or.inr (Or.inr (Or.inl (by rw [Int.sub_add_cancel]; exact e.symm)))⟩
 · exact ⟨_, _, h, Or.inr (Or.inr (Or.inr (by rw [Int.sub_add_cancel, Int.sub_add_cancel]; exact e.symm)))⟩
theorem first_hAt {W T : Int} {xs : List Bool} {N f : Nat} (hW : 1 ≤ W) (h : frstK W T xs N = f) : f < N ∧ hAt W T xs f = true := by
 obtain ⟨nth, rest, e⟩ := sidesK_head (W := W) (T := T) (xs := xs) (n := N) (by rw [h]; omega)
 have hm : ((frstK W T xs N).toNat, nth) ∈ sidesK W T xs N := by rw [e]; exact List.mem_cons_self
 rw [h, Int.toNat_natCast] at hm
 obtain ⟨h1, h2⟩ := sidesK_mem.1 hm
 exact ⟨h1, (hAt_iff hW).2 (Or.inl ⟨nth, h2⟩)⟩
theorem corners_all {W T : Int} {xs : List Bool} {N f : Nat} (hs : simpleB W T xs = true) (hf : frstK W T xs N = f) (R : Nat → Prop) (hR : R f) (hstep : ∀ k nth, sUsed W T xs k nth = true → (R k ↔ R (sTo W k nth).toNat)) : ∀ k, hAt W T xs k = true → R k := by
 obtain ⟨v1, v2, v3, v4, v5, _⟩ := rv_true (simpleB_rv hs)
 obtain ⟨_, _, hall, _⟩ := simple_iff.1 hs
 have cell : ∀ x y, atB W T xs x y = true → (R (cI W x y) ↔ R (cI W (x + 1) y)) ∧ (R (cI W x y) ↔ R (cI W x (y + 1))) ∧ (R (cI W x y) ↔ R (cI W (x + 1) (y + 1))) := by
  intro x y ha
  obtain ⟨⟨a1, a2⟩, ⟨b1, b2⟩, ⟨c1, c2⟩, ⟨d1, d2⟩⟩ := cell_sides v1 ha
  have a := hstep _ _ a1
  have b := hstep _ _ b1
  have c := hstep _ _ c1
  have d := hstep _ _ d1
  rw [a2, Int.toNat_natCast] at a
  rw [b2, Int.toNat_natCast] at b
  rw [c2, Int.toNat_natCast] at c
  rw [d2, Int.toNat_natCast] at d
  exact ⟨a, c, a.trans d⟩
 have one : ∀ {k : Nat} {x y : Int}, atB W T xs x y = true → (k = cI W x y ∨ k = cI W (x + 1) y ∨ k = cI W x (y + 1) ∨ k = cI W (x + 1) (y + 1)) → (R k ↔ R (cI W x y)) := by
  intro k x y ha hk
  obtain ⟨c1, c2, c3⟩ := cell x y ha
  rcases hk with rfl | rfl | rfl | rfl
  · exact Iff.rfl
  · exact c1.symm
  · exact c2.symm
  · exact c3.symm
 have path : ∀ {x y x' y' : Int}, CP (atB W T xs) x y x' y' → (R (cI W x y) ↔ R (cI W x' y')) := by
  intro x y x' y' h
  induction h with
  | refl _ => exact Iff.rfl
  | step hcp h1 h2 ih =>
    rename_i u v u' v'
    have hu : atB W T xs u v = true := by cases hcp <;> assumption
    obtain ⟨c1, c2, c3⟩ := cell u v hu
    obtain ⟨d1, d2, d3⟩ := cell u' v' h2
    refine ih.trans ?_
    unfold sideP at h1
    rcases h1 with ⟨rfl, rfl | rfl⟩ | ⟨rfl, rfl | rfl⟩
    · exact c2
    · rw [Int.sub_add_cancel] at d2; exact d2.symm
    · exact c1
    · rw [Int.sub_add_cancel] at d1; exact d1.symm
 obtain ⟨hfN, hfa⟩ := first_hAt v1 hf
 obtain ⟨x0, y0, h0, e0⟩ := hAt_cell v1 hfa
 intro k hk
 obtain ⟨x, y, h1, e1⟩ := hAt_cell v1 hk
 exact (one h1 e1).2 ((path (hall _ _ _ _ h0 h1)).1 ((one h0 e0).1 hR))

theorem nodup_leM {α : Type} [DecidableEq α] : ∀ (l m : List α), l.Nodup → (∀ x, x ∈ l → x ∈ m) → l.length ≤ m.length
 | [], m, _, _ => by simp
 | a :: l, m, hn, hs => by
   have ha := hs a List.mem_cons_self
   have hn' := List.nodup_cons.1 hn
   have h1 := nodup_leM l (m.erase a) hn'.2 (fun x hx => by
    have hne : x ≠ a := fun e => hn'.1 (by rw [← e]; exact hx)
    exact (List.mem_erase_of_ne hne).2 (hs x (List.mem_cons_of_mem _ hx)))
   rw [List.length_erase_of_mem ha] at h1
   have := List.length_pos_of_mem ha
   simp only [List.length_cons]
   omega
theorem conn_cross {N : Nat} {s : Nat → Bool} {adj : Nat → Nat → Bool} {q : List Nat} {i k : Nat} (h : Conn N s adj i k) (hi : i ∈ q) (hk : ¬ k ∈ q) : ∃ a b, a ∈ q ∧ ¬ b ∈ q ∧ adj a b = true ∧ b < N ∧ s b = true := by
 induction h with
 | refl _ _ => exact absurd hi hk
 | step hij a b c ih =>
   rename_i j k
   by_cases hj : j ∈ q
   · exact ⟨j, k, hj, hk, a, b, c⟩
   · exact ih hj
theorem grow_all {N : Nat} {s : Nat → Bool} {adj : Nat → Nat → Bool} (P : List Nat → Prop) {c : Nat} (h0 : P [c]) (hc : c < N) (hsc : s c = true) (hstep : ∀ q a b, P q → a ∈ q → (∀ z ∈ q, z < N ∧ s z = true) → b < N → s b = true → adj a b = true → P (q ++ [b]))
 (hconn : ∀ k, k < N → s k = true → Conn N s adj c k) : ∃ q, P q ∧ q.length ≤ (List.range N).countP s ∧ ∀ k, k < N → s k = true → k ∈ q := by
 have len : ∀ q : List Nat, q.Nodup → (∀ z ∈ q, z < N ∧ s z = true) → q.length ≤ (List.range N).countP s := by
  intro q hn hq
  rw [List.countP_eq_length_filter]
  exact nodup_leM _ _ hn fun z hz => List.mem_filter.2 ⟨List.mem_range.2 (hq z hz).1, (hq z hz).2⟩
 have main : ∀ (m : Nat) (q : List Nat), P q → q.Nodup → (∀ z ∈ q, z < N ∧ s z = true) → c ∈ q → (List.range N).countP s < q.length + m → ∃ q, P q ∧ q.length ≤ (List.range N).countP s ∧ ∀ k, k < N → s k = true → k ∈ q := by
  intro m
  induction m with
  | zero => intro q _ hn hq _ h; have := len q hn hq; omega
  | succ m ih =>
    intro q hP hn hq hcq h
    by_cases hall : ∀ k, k < N → s k = true → k ∈ q
    · exact ⟨q, hP, len q hn hq, hall⟩
    · have : ∃ k, k < N ∧ s k = true ∧ ¬ k ∈ q := by
       apply Classical.byContradiction; intro hx
       exact hall fun k h1 h2 => Classical.byContradiction fun h3 => hx ⟨k, h1, h2, h3⟩
      obtain ⟨k, k1, k2, k3⟩ := this
      obtain ⟨a, b, ha, hb, hab, hbN, hbs⟩ := conn_cross (hconn k k1 k2) hcq k3
      refine ih (q ++ [b]) (hstep q a b hP ha hq hbN hbs hab) ?_ ?_ (List.mem_append_left _ hcq) (by simp; omega)
      · rw [List.nodup_append]
        refine ⟨hn, by simp, fun x hx y hy => ?_⟩
        rw [List.mem_singleton] at hy
        subst hy
        exact fun e => hb (by rw [← e]; exact hx)
      · intro z hz
        rw [List.mem_append, List.mem_singleton] at hz
        rcases hz with hz | rfl
        · exact hq z hz
        · exact ⟨hbN, hbs⟩
 exact main ((List.range N).countP s + 1) [c] h0 (by simp) (fun z hz => by rw [List.mem_singleton] at hz; subst hz; exact ⟨hc, hsc⟩) (by simp) (by simp; omega)

theorem four_step (d : Bool) {v a b c e lo hi : Int} (h1 : 1 ≤ v) (h4 : v ≤ 4) (r1 : b - a = rsB d (v == 4)) (r2 : c - b = rsB d (v == 1)) (r3 : e - c = rsB d (v == 2)) (r4 : a - e = rsB d (v == 3)) :
 ∃ m, (m ≤ a ∧ a ≤ m + 3) ∧ (m ≤ b ∧ b ≤ m + 3) ∧ (m ≤ c ∧ c ≤ m + 3) ∧ (m ≤ e ∧ e ≤ m + 3) ∧ a ≠ b ∧ b ≠ c ∧ c ≠ e ∧ e ≠ a := by
 have : v = 1 ∨ v = 2 ∨ v = 3 ∨ v = 4 := by omega
 rcases this with rfl | rfl | rfl | rfl <;> cases d <;> simp [rsB] at r1 r2 r3 r4
 · exact ⟨c - 3, by omega⟩
 · exact ⟨c, by omega⟩
 · exact ⟨e - 3, by omega⟩
 · exact ⟨e, by omega⟩
 · exact ⟨a - 3, by omega⟩
 · exact ⟨a, by omega⟩
 · exact ⟨b - 3, by omega⟩
 · exact ⟨b, by omega⟩
theorem widen {lo hi m u v : Int} (hu : lo ≤ u ∧ u ≤ hi) (hv : lo ≤ v ∧ v ≤ hi) (mu : m ≤ u ∧ u ≤ m + 3) (mv : m ≤ v ∧ v ≤ m + 3) (hne : u ≠ v) : ∃ lo' hi', lo' ≤ lo ∧ hi ≤ hi' ∧ lo' ≤ m ∧ m + 3 ≤ hi' ∧ hi' - lo' ≤ hi - lo + 2 := by
 by_cases h1 : m < lo
 · by_cases h2 : hi < m + 3
   · exact ⟨m, m + 3, by omega⟩
   · exact ⟨m, hi, by omega⟩
 · by_cases h2 : hi < m + 3
   · exact ⟨lo, m + 3, by omega⟩
   · exact ⟨lo, hi, by omega⟩
theorem cnt_rangeH (xs : List Bool) : cnt xs = (List.range xs.length).countP fun i => xs.getD i false := by
 unfold cnt
 have h : xs = (List.range xs.length).map fun i => xs.getD i false := by
  refine List.ext_getElem (by simp) fun i a b => ?_
  simp [a]
 conv => lhs; rw [h]
 rw [List.countP_map]
 rfl
theorem height_bound {W T : Int} {xs : List Bool} {L : List Int} (hs : simpleB W T xs = true) (ht : tok W T xs L = true) (g : Nat → Int) (hg : ∀ k nth, sUsed W T xs k nth = true → g (sTo W k nth).toNat - g k = rT W T xs L k nth) :
 ∃ lo : Int, ∀ k, hAt W T xs k = true → lo ≤ g k ∧ g k ≤ lo + 49 := by
 have hl := tok_lok1 ht
 obtain ⟨v1, v2, v3, v4, v5, v6⟩ := rv_true (simpleB_rv hs)
 -- the four corners of a cell
 have four : ∀ x y, atB W T xs x y = true → ∃ m, (m ≤ g (cI W x y) ∧ g (cI W x y) ≤ m + 3) ∧ (m ≤ g (cI W (x + 1) y) ∧ g (cI W (x + 1) y) ≤ m + 3) ∧ (m ≤ g (cI W (x + 1) (y + 1)) ∧ g (cI W (x + 1) (y + 1)) ≤ m + 3) ∧ (m ≤ g (cI W x (y + 1)) ∧ g (cI W x (y + 1)) ≤ m + 3) ∧
  g (cI W x y) ≠ g (cI W (x + 1) y) ∧ g (cI W (x + 1) y) ≠ g (cI W (x + 1) (y + 1)) ∧ g (cI W (x + 1) (y + 1)) ≠ g (cI W x (y + 1)) ∧ g (cI W x (y + 1)) ≠ g (cI W x y) := by
  intro x y ha
  obtain ⟨a0, a1, a2, a3⟩ := atB_in ha
  obtain ⟨p1, p2, p3⟩ := cI_xy (W := W) (x := x) (y := y) a0 (by omega) a2
  obtain ⟨q1, q2, q3⟩ := cI_xy (W := W) (x := x) (y := y + 1) a0 (by omega) (by omega)
  obtain ⟨r1, r2, r3⟩ := cI_xy (W := W) (x := x + 1) (y := y) (by omega) (by omega) a2
  obtain ⟨⟨s1, s2⟩, ⟨b1, b2⟩, ⟨c1, c2⟩, ⟨d1, d2⟩⟩ := cell_sides v1 ha
  have ga := hg _ _ s1
  have gb := hg _ _ b1
  have gc := hg _ _ c1
  have gd := hg _ _ d1
  rw [s2, Int.toNat_natCast, rT_eq hl] at ga
  rw [b2, Int.toNat_natCast, rT_eq hl] at gb
  rw [c2, Int.toNat_natCast, rT_eq hl] at gc
  rw [d2, Int.toNat_natCast, rT_eq hl] at gd
  obtain ⟨f1, f2, f3, f4⟩ := lv_four ht ha
  unfold sLx sWay at ga gb gc gd
  simp only [Bool.false_eq_true, if_false, if_true, p2, p3, q2, q3, r2, r3] at ga gb gc gd
  rw [dkP_n, f1, rsB_not] at gb
  rw [dkP_e, f2, rsB_not] at gc
  rw [Int.add_sub_cancel] at gd
  exact four_step (dkP x y) (lo := 0) (hi := 0) f3 f4 ga gd (by omega) (by omega)
 -- cells by index
 have hat : ∀ k, k < xs.length → xs.getD k false = true → atB W T xs ((k : Int) % W) ((k : Int) / W) = true := by
  intro k hk hx
  have a0 := Int.emod_nonneg (k : Int) (show W ≠ 0 by omega)
  have a1 := Int.emod_lt_of_pos (k : Int) (show 0 < W by omega)
  have b0 := Int.ediv_nonneg (show (0 : Int) ≤ k by omega) (show 0 ≤ W by omega)
  have b1 : (k : Int) / W < T := Int.ediv_lt_of_lt_mul (by omega) (by rw [Int.mul_comm]; omega)
  have ae := Int.emod_add_mul_ediv (k : Int) W
  have ei : ((k : Int) / W * W + (k : Int) % W).toNat = k := by rw [Int.mul_comm]; omega
  unfold atB inF
  rw [decide_eq_true ⟨a0, a1, b0, b1⟩, ei, hx]; rfl
 have ef : partsF W T xs = marksL xs.length (fun i => xs.getD i false) (adjW W false) := by unfold partsF; rw [simpleB_rv hs, if_pos rfl]
 have e1 : selfN (marksL xs.length (fun i => xs.getD i false) (adjW W false)) xs.length = 1 := by
  have h := (simple_parts hs).1
  unfold partsN at h; rw [simpleB_rv hs, if_pos rfl, ef, marksL_len] at h; omega
 obtain ⟨⟨c, hc, hcs⟩, hconn⟩ := (one_iff (adjW_symm W false)).1 e1
 let In (lo hi : Int) (k : Nat) : Prop := (lo ≤ g (cI W ((k : Int) % W) ((k : Int) / W)) ∧ g (cI W ((k : Int) % W) ((k : Int) / W)) ≤ hi) ∧ (lo ≤ g (cI W ((k : Int) % W + 1) ((k : Int) / W)) ∧ g (cI W ((k : Int) % W + 1) ((k : Int) / W)) ≤ hi) ∧
  (lo ≤ g (cI W ((k : Int) % W + 1) ((k : Int) / W + 1)) ∧ g (cI W ((k : Int) % W + 1) ((k : Int) / W + 1)) ≤ hi) ∧ (lo ≤ g (cI W ((k : Int) % W) ((k : Int) / W + 1)) ∧ g (cI W ((k : Int) % W) ((k : Int) / W + 1)) ≤ hi)
 have inW : ∀ {lo hi lo' hi' k}, lo' ≤ lo → hi ≤ hi' → In lo hi k → In lo' hi' k := by
  rintro lo hi lo' hi' k h1 h2 ⟨⟨a1, a2⟩, ⟨b1, b2⟩, ⟨c1, c2⟩, ⟨d1, d2⟩⟩
  exact ⟨⟨by omega, by omega⟩, ⟨by omega, by omega⟩, ⟨by omega, by omega⟩, ⟨by omega, by omega⟩⟩
 obtain ⟨q, ⟨lo, hi, hlh, hq⟩, hlen, hall⟩ := grow_all (N := xs.length) (s := fun i => xs.getD i false) (adj := adjW W false) (fun q => ∃ lo hi : Int, hi - lo ≤ 1 + 2 * q.length ∧ ∀ k ∈ q, In lo hi k) (c := c)
  (by
    obtain ⟨m, a, b, cc, d, _⟩ := four _ _ (hat c hc hcs)
    exact ⟨m, m + 3, by simp; omega, fun k hk => by rw [List.mem_singleton] at hk; subst hk; exact ⟨a, b, cc, d⟩⟩)
  hc hcs
  (by
    rintro q a b ⟨lo, hi, hlh, hq⟩ ha hqs hbN hbs hadj
    obtain ⟨m, m1, m2, m3, m4, n1, n2, n3, n4⟩ := four _ _ (hat b hbN hbs)
    obtain ⟨A1, A2, A3, A4⟩ := hq a ha
    have key : ∃ u v : Int, (lo ≤ u ∧ u ≤ hi) ∧ (lo ≤ v ∧ v ≤ hi) ∧ (m ≤ u ∧ u ≤ m + 3) ∧ (m ≤ v ∧ v ≤ m + 3) ∧ u ≠ v := by
     obtain ⟨way, w1, w4, hx, hy⟩ := adj_way hadj
     rw [hx, hy] at m1 m2 m3 m4 n1 n2 n3 n4
     have hw : way = 1 ∨ way = 2 ∨ way = 3 ∨ way = 4 := by omega
     rcases hw with rfl | rfl | rfl | rfl
     · simp only [dxw, dyw, List.getD_cons_succ, List.getD_cons_zero, Int.add_zero] at m1 m2 m3 m4 n1 n2 n3 n4
       exact ⟨_, _, A2, A3, m1, m4, fun e => n4 e.symm⟩
     · simp only [dxw, dyw, List.getD_cons_succ, List.getD_cons_zero, Int.add_zero] at m1 m2 m3 m4 n1 n2 n3 n4
       exact ⟨_, _, A4, A3, m1, m2, n1⟩
     · simp only [dxw, dyw, List.getD_cons_succ, List.getD_cons_zero, Int.add_zero] at m1 m2 m3 m4 n1 n2 n3 n4
       rw [show (a : Int) % W + -1 + 1 = (a : Int) % W by omega] at m2 m3 n2
       exact ⟨_, _, A1, A4, m2, m3, n2⟩
     · simp only [dxw, dyw, List.getD_cons_succ, List.getD_cons_zero, Int.add_zero] at m1 m2 m3 m4 n1 n2 n3 n4
       rw [show (a : Int) / W + -1 + 1 = (a : Int) / W by omega] at m3 m4 n3
       exact ⟨_, _, A1, A2, m4, m3, fun e => n3 e.symm⟩
    obtain ⟨u, v, hu, hv, mu, mv, hne⟩ := key
    obtain ⟨lo', hi', w1, w2, w3, w4, w5⟩ := widen hu hv mu mv hne
    refine ⟨lo', hi', by simp; omega, fun k hk => ?_⟩
    rw [List.mem_append, List.mem_singleton] at hk
    rcases hk with hk | rfl
    · exact inW w1 w2 (hq k hk)
    · exact ⟨⟨by omega, by omega⟩, ⟨by omega, by omega⟩, ⟨by omega, by omega⟩, ⟨by omega, by omega⟩⟩)
  (fun k hk hks => hconn c k hc hk hcs hks)
 rw [← cnt_rangeH] at hlen
 refine ⟨lo, fun k hk => ?_⟩
 obtain ⟨x, y, ha, e⟩ := hAt_cell v1 hk
 obtain ⟨a0, a1, a2, a3⟩ := atB_in ha
 obtain ⟨j, hj, jx, jy, hjl⟩ := place_idx a0 a1 a2 a3
 have hjx : xs.getD j false = true := by
  unfold atB at ha
  rw [Bool.and_eq_true, show (y * W + x).toNat = j by omega] at ha
  exact ha.2
 obtain ⟨⟨b1, b2⟩, ⟨c1, c2⟩, ⟨d1, d2⟩, ⟨f1, f2⟩⟩ := hq j (hall j (by omega) hjx)
 rw [jx, jy] at b1 b2 c1 c2 d1 d2 f1 f2
 rcases e with rfl | rfl | rfl | rfl
 · exact ⟨by omega, by omega⟩
 · exact ⟨by omega, by omega⟩
 · exact ⟨by omega, by omega⟩
 · exact ⟨by omega, by omega⟩

structure HtsOf (W T : Int) (xs : List Bool) (L H : List Int) (N : Nat) : Prop where
 len : H.length = N
 off : ∀ k, k < N → hAt W T xs k = false → H.getD k 0 = 99
 bd : ∀ k, k < N → hAt W T xs k = true → -49 ≤ H.getD k 0 ∧ H.getD k 0 ≤ 49
 first : ∀ f : Nat, frstK W T xs N = f → H.getD f 0 = 0
 side : ∀ k nth, k < N → sUsed W T xs k nth = true → H.getD (sTo W k nth).toNat 0 - H.getD k 0 = rT W T xs L k nth
theorem hts_exist {W T : Int} {xs : List Bool} {L : List Int} {N f : Nat} (hs : simpleB W T xs = true) (ht : tok W T xs L = true) (hN : (W + 1) * (T + 1) = (N : Int)) (hf : frstK W T xs N = f) : ∃ H, HtsOf W T xs L H N := by
 obtain ⟨v1, v2, v3, v4, v5, v6⟩ := rv_true (simpleB_rv hs)
 obtain ⟨g, hg⟩ := height_fun hs ht
 obtain ⟨lo, hlo⟩ := height_bound hs ht g hg
 obtain ⟨hfN, hfa⟩ := first_hAt v1 hf
 have hfb := hlo f hfa
 have get : ∀ k, k < N → ((List.range N).map fun k => if hAt W T xs k then g k - g f else 99).getD k 0 = if hAt W T xs k then g k - g f else 99 := fun k hk => by simp [hk]
 refine ⟨(List.range N).map fun k => if hAt W T xs k then g k - g f else 99, by simp, ?_, ?_, ?_, ?_⟩
 · intro k hk h; rw [get k hk, h]; rfl
 · intro k hk h; rw [get k hk, h, if_pos rfl]; have := hlo k h; omega
 · intro f' hf'
   obtain rfl : f' = f := by rw [hf] at hf'; omega
   rw [get f' hfN, hfa, if_pos rfl]; omega
 · intro k nth hk hu
   obtain ⟨t0, t1, t2⟩ := sTo_lt v1 hu
   have a := (hAt_iff v1).2 (Or.inl ⟨nth, hu⟩)
   have b : hAt W T xs (sTo W k nth).toNat = true := (hAt_iff v1).2 (Or.inr ⟨k, nth, hu, by omega⟩)
   rw [get k hk, get _ (by omega), a, b, if_pos rfl, if_pos rfl, ← hg k nth hu]; omega
theorem hts_unique {W T : Int} {xs : List Bool} {L H H' : List Int} {N f : Nat} (hs : simpleB W T xs = true) (hN : (W + 1) * (T + 1) = (N : Int)) (hf : frstK W T xs N = f) (h : HtsOf W T xs L H N) (h' : HtsOf W T xs L H' N) : H = H' := by
 obtain ⟨v1, v2, v3, v4, v5, v6⟩ := rv_true (simpleB_rv hs)
 have all := corners_all hs hf (fun k => H.getD k 0 = H'.getD k 0) (by rw [h.first f hf, h'.first f hf]) (fun k nth hu => by
  obtain ⟨t0, t1, t2⟩ := sTo_lt v1 hu
  have a := h.side k nth (by omega) hu
  have b := h'.side k nth (by omega) hu
  omega)
 refine ext_getD (by rw [h.len, h'.len]) fun k hk => ?_
 rw [h.len] at hk
 cases ha : hAt W T xs k
 · rw [h.off k hk ha, h'.off k hk ha]
 · exact all k ha
end Go.Proofs.YtpcajacekmidbaaGreat
