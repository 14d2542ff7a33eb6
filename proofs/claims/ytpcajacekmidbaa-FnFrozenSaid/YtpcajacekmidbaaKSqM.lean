/- Plain facts on the square of four cells around a corner, and on the flip of two dominoes there. -/
import Derived.Test.YtpcajacekmidbaaKHolesN
namespace Go.Proofs.Ytpcajacekmidbaa
open Go.RowKit
set_option linter.unusedVariables false
set_option maxRecDepth 100000
set_option linter.unusedSimpArgs false

def cxI (W c : Int) : Int := c.tmod (W + 1)
def cyI (W c : Int) : Int := c.tdiv (W + 1)
def sqF (W T c : Int) : Bool := inF W T (cxI W c - 1) (cyI W c - 1) && inF W T (cxI W c) (cyI W c)
def sqI (W T c : Int) : Int := if sqF W T c then (cyI W c - 1) * W + (cxI W c - 1) else -1
def sqB (W T : Int) (xs : List Bool) (c : Int) : Bool :=
 atB W T xs (cxI W c - 1) (cyI W c - 1) && atB W T xs (cxI W c) (cyI W c - 1) && atB W T xs (cxI W c - 1) (cyI W c) && atB W T xs (cxI W c) (cyI W c)

theorem cx_neg {W c : Int} (hW : 1 ≤ W) (hc : c < 0) : cxI W c ≤ 0 := by
 unfold cxI
 obtain ⟨n, rfl⟩ : ∃ n : Nat, c = -(n : Int) := ⟨c.natAbs, by omega⟩
 rw [Int.neg_tmod]
 have : 0 ≤ (n : Int).tmod (W + 1) := Int.tmod_nonneg _ (by omega)
 omega
theorem cxy_pos {W c : Int} (hW : 1 ≤ W) (hc : 0 ≤ c) : cxI W c = c % (W + 1) ∧ cyI W c = c / (W + 1) ∧ 0 ≤ c % (W + 1) ∧ c % (W + 1) ≤ W ∧ 0 ≤ c / (W + 1) ∧ c / (W + 1) ≤ c := by
 refine ⟨Int.tmod_eq_emod_of_nonneg hc, Int.tdiv_eq_ediv_of_nonneg hc, Int.emod_nonneg _ (by omega), ?_, Int.ediv_nonneg hc (by omega), Int.ediv_le_self _ hc⟩
 have := Int.emod_lt_of_pos c (show 0 < W + 1 by omega)
 omega
theorem cy_big {W T c : Int} (hW : 1 ≤ W) (hc : (W + 1) * (T + 1) ≤ c) (h0 : 0 ≤ c) : T + 1 ≤ c / (W + 1) := by
 refine Int.le_ediv_of_mul_le (by omega) ?_
 rw [Int.mul_comm]; exact hc
theorem sqF_neg {W T c : Int} (hW : 1 ≤ W) (hc : c < 0) : inF W T (cxI W c - 1) (cyI W c - 1) = false := by
 have := cx_neg hW hc
 simp [inF]; omega
theorem sqF_big {W T c : Int} (hW : 1 ≤ W) (h0 : 0 ≤ c) (hc : (W + 1) * (T + 1) ≤ c) : inF W T (cxI W c - 1) (cyI W c - 1) = false ∧ inF W T (cxI W c) (cyI W c) = false := by
 have h1 := cy_big hW hc h0
 obtain ⟨e1, e2, b1, b2, b3, b4⟩ := cxy_pos hW h0
 rw [e1, e2]
 constructor <;> (simp [inF]; omega)
theorem sq_rng {W T c : Int} (hW : 1 ≤ W) (h : sqF W T c = true) : 0 ≤ c ∧ c < (W + 1) * (T + 1) := by
 unfold sqF at h
 rw [Bool.and_eq_true] at h
 by_cases h0 : c < 0
 · rw [sqF_neg hW h0] at h; simp at h
 · by_cases h1 : c < (W + 1) * (T + 1)
   · exact ⟨by omega, h1⟩
   · rw [(sqF_big hW (by omega) (by omega)).1] at h; simp at h

set_option maxHeartbeats 4000000 in
theorem sq_tab : ∀ (W T : Fin 7) (c : Fin 49), 1 ≤ W.val → 1 ≤ T.val → sqF (W.val : Int) T.val c.val = true →
 2 ≤ W.val ∧ 0 ≤ sqI (W.val : Int) T.val c.val ∧ sqI (W.val : Int) T.val c.val + W.val + 1 < (W.val : Int) * T.val ∧
 stepI (W.val : Int) T.val (sqI (W.val : Int) T.val c.val) 1 = sqI (W.val : Int) T.val c.val + 1 ∧
 stepI (W.val : Int) T.val (sqI (W.val : Int) T.val c.val) 2 = sqI (W.val : Int) T.val c.val + W.val ∧
 stepI (W.val : Int) T.val (sqI (W.val : Int) T.val c.val + W.val + 1) 3 = sqI (W.val : Int) T.val c.val + W.val ∧
 stepI (W.val : Int) T.val (sqI (W.val : Int) T.val c.val + W.val + 1) 4 = sqI (W.val : Int) T.val c.val + 1 ∧
 stepI (W.val : Int) T.val (sqI (W.val : Int) T.val c.val + 1) 2 = sqI (W.val : Int) T.val c.val + W.val + 1 ∧
 stepI (W.val : Int) T.val (sqI (W.val : Int) T.val c.val + W.val) 1 = sqI (W.val : Int) T.val c.val + W.val + 1 := by decide +kernel

theorem sq_at {W T c : Int} (hW : 1 ≤ W) (hW6 : W ≤ 6) (hT : 1 ≤ T) (hT6 : T ≤ 6) (h : sqF W T c = true) :
 ∃ a wn : Nat, W = wn ∧ 2 ≤ wn ∧ sqI W T c = a ∧ (a : Int) + wn + 1 < W * T ∧ stepI W T a 1 = a + 1 ∧ stepI W T a 2 = a + W ∧ stepI W T (a + W + 1) 3 = a + W ∧ stepI W T (a + W + 1) 4 = a + 1 ∧
  stepI W T (a + 1) 2 = a + W + 1 ∧ stepI W T (a + W) 1 = a + W + 1 := by
 obtain ⟨c0, c1⟩ := sq_rng hW h
 have hb := corn_bd hW hW6 hT hT6
 obtain ⟨wn, rfl⟩ := Int.eq_ofNat_of_zero_le (show 0 ≤ W by omega)
 obtain ⟨tn, rfl⟩ := Int.eq_ofNat_of_zero_le (show 0 ≤ T by omega)
 obtain ⟨cn, rfl⟩ := Int.eq_ofNat_of_zero_le c0
 have := sq_tab ⟨wn, by omega⟩ ⟨tn, by omega⟩ ⟨cn, by omega⟩ (by simp only []; omega) (by simp only []; omega) h
 simp only [] at this
 obtain ⟨hw, h0, h1, h2⟩ := this
 obtain ⟨a, ha⟩ := Int.eq_ofNat_of_zero_le h0
 rw [ha] at h1 h2
 exact ⟨a, wn, rfl, hw, ha, h1, h2⟩

def mayB (W T : Int) (L : List Int) (c : Int) : Bool :=
 sqF W T c && (L.getD (sqI W T c).toNat 0 == 1 || L.getD (sqI W T c).toNat 0 == 2) && (L.getD (sqI W T c + W + 1).toNat 0 == backI (L.getD (sqI W T c).toNat 0))
def fmayB (W T : Int) (xs : List Bool) (L : List Int) (c : Int) : Bool := lok W T xs L && mayB W T L c
theorem may_at {W T : Int} {xs : List Bool} {L : List Int} {c : Int} (h : lok W T xs L = true) (hm : mayB W T L c = true) :
 ∃ a wn : Nat, W = wn ∧ 2 ≤ wn ∧ sqI W T c = a ∧ a + wn + 1 < xs.length ∧ sqF W T c = true ∧
  (∀ i, i = a ∨ i = a + 1 ∨ i = a + wn ∨ i = a + wn + 1 → xs.getD i false = true) ∧
  ((L.getD a 0 = 1 ∧ L.getD (a + 1) 0 = 3 ∧ L.getD (a + wn) 0 = 1 ∧ L.getD (a + wn + 1) 0 = 3) ∨
   (L.getD a 0 = 2 ∧ L.getD (a + wn) 0 = 4 ∧ L.getD (a + 1) 0 = 2 ∧ L.getD (a + wn + 1) 0 = 4)) ∧
  stepI W T a 1 = (a + 1 : Nat) ∧ stepI W T a 2 = (a + wn : Nat) ∧ stepI W T (a + wn + 1 : Nat) 3 = (a + wn : Nat) ∧ stepI W T (a + wn + 1 : Nat) 4 = (a + 1 : Nat) := by
 obtain ⟨hr, hl, _⟩ := lok_rv h
 obtain ⟨v1, v2, v3, v4, v5, _⟩ := rv_true hr
 unfold mayB at hm
 simp only [Bool.and_eq_true, Bool.or_eq_true, beq_iff_eq] at hm
 obtain ⟨⟨h1, h2⟩, h3⟩ := hm
 obtain ⟨a, wn, rfl, hw2, ha, hb, s1, s2, s3, s4, s5, s6⟩ := sq_at v1 v2 v3 v4 h1
 rw [ha] at h2 h3
 rw [← v5] at hb
 simp only [Int.toNat_natCast] at h2 h3
 rw [show (a : Int) + wn + 1 = (a + wn + 1 : Nat) by omega] at s3 s4
 rw [show ((a : Int) + wn + 1).toNat = a + wn + 1 by omega] at h3
 refine ⟨a, wn, rfl, hw2, ha, by omega, h1, ?_, ?_, by rw [s1]; omega, by rw [s2]; omega, by rw [s3]; omega, by rw [s4]; omega⟩
 all_goals rcases h2 with h2 | h2
 all_goals
  rw [h2] at h3
  obtain ⟨o, o1, o2, o3, o4, o5, o6, o7, o8⟩ := lok_at h (k := a) (by omega) (by omega)
  obtain ⟨p, p1, p2, p3, p4, p5, p6, p7, p8⟩ := lok_at h (k := a + wn + 1) (by omega) (by rw [h3]; decide)
  rw [h2] at o1 o6
  rw [h3] at p1 p6
 · rw [s1] at o1
   rw [show backI 1 = 3 from rfl, s3] at p1
   obtain rfl : o = a + 1 := by omega
   obtain rfl : p = a + wn := by omega
   intro i hi; rcases hi with rfl | rfl | rfl | rfl <;> assumption
 · rw [s2] at o1
   rw [show backI 2 = 4 from rfl, s4] at p1
   obtain rfl : o = a + wn := by omega
   obtain rfl : p = a + 1 := by omega
   intro i hi; rcases hi with rfl | rfl | rfl | rfl <;> assumption
 · rw [s1] at o1
   rw [show backI 1 = 3 from rfl, s3] at p1
   obtain rfl : o = a + 1 := by omega
   obtain rfl : p = a + wn := by omega
   exact Or.inl ⟨h2, o6, p6, h3⟩
 · rw [s2] at o1
   rw [show backI 2 = 4 from rfl, s4] at p1
   obtain rfl : o = a + wn := by omega
   obtain rfl : p = a + 1 := by omega
   exact Or.inr ⟨h2, o6, p6, h3⟩

def mayS (W T : Int) (xs : List Bool) (L : List Int) (c : Int) : Bool :=
 sqB W T xs c && ((L.getD (sqI W T c).toNat 0 == 1 && L.getD ((sqI W T c).toNat + W.toNat) 0 == 1) || (L.getD (sqI W T c).toNat 0 == 2 && L.getD ((sqI W T c).toNat + 1) 0 == 2))
theorem sqB_F {W T : Int} {xs : List Bool} {c : Int} (h : sqB W T xs c = true) : sqF W T c = true := by
 unfold sqB atB at h
 unfold sqF
 simp only [Bool.and_eq_true] at h ⊢
 exact ⟨h.1.1.1.1, h.2.1⟩
theorem atB_idx {W T : Int} {xs : List Bool} {x y : Int} {k : Nat} (h : inF W T x y = true) (hk : y * W + x = k) : atB W T xs x y = xs.getD k false := by
 unfold atB; rw [h, hk, Int.toNat_natCast]; simp
theorem inF_four {W T x y : Int} (h1 : inF W T (x - 1) (y - 1) = true) (h2 : inF W T x y = true) : inF W T x (y - 1) = true ∧ inF W T (x - 1) y = true := by
 simp only [inF, decide_eq_true_eq] at h1 h2 ⊢
 omega
theorem sqB_idx {W T : Int} {xs : List Bool} {c : Int} {a wn : Nat} (h : sqF W T c = true) (hW : W = wn) (ha : sqI W T c = a) :
 sqB W T xs c = (xs.getD a false && xs.getD (a + 1) false && xs.getD (a + wn) false && xs.getD (a + wn + 1) false) := by
 have h' := h
 unfold sqF at h'
 rw [Bool.and_eq_true] at h'
 obtain ⟨f1, f2⟩ := inF_four h'.1 h'.2
 unfold sqI at ha
 rw [if_pos h] at ha
 unfold sqB
 have e : (cyI W c - 1) * W = cyI W c * W - W := by rw [Int.sub_mul]; omega
 rw [e] at ha
 rw [atB_idx h'.1 (k := a) (by rw [e]; omega), atB_idx f1 (k := a + 1) (by rw [e]; omega), atB_idx f2 (k := a + wn) (by omega), atB_idx h'.2 (k := a + wn + 1) (by omega)]
theorem may_eq {W T : Int} {xs : List Bool} {L : List Int} {c : Int} (h : lok W T xs L = true) : mayS W T xs L c = mayB W T L c := by
 obtain ⟨hr, hl, _⟩ := lok_rv h
 obtain ⟨v1, v2, v3, v4, v5, _⟩ := rv_true hr
 rw [Bool.eq_iff_iff]
 constructor
 · intro hs
   unfold mayS at hs
   simp only [Bool.and_eq_true, Bool.or_eq_true, beq_iff_eq] at hs
   obtain ⟨h1, h2⟩ := hs
   have hF := sqB_F h1
   obtain ⟨a, wn, rfl, hw2, ha, hb, s1, s2, s3, s4, s5, s6⟩ := sq_at v1 v2 v3 v4 hF
   rw [← v5] at hb
   rw [ha] at h2
   simp only [Int.toNat_natCast] at h2
   unfold mayB
   rw [ha, hF]
   simp only [Int.toNat_natCast, Bool.true_and, Bool.and_eq_true, Bool.or_eq_true, beq_iff_eq]
   rw [show ((a : Int) + wn + 1).toNat = a + wn + 1 by omega]
   rw [show (a : Int) + wn = (a + wn : Nat) by omega] at s6
   rw [show (a : Int) + 1 = (a + 1 : Nat) by omega] at s5
   rcases h2 with ⟨e1, e2⟩ | ⟨e1, e2⟩
   · obtain ⟨o, o1, o2, o3, o4, o5, o6, o7, o8⟩ := lok_at h (k := a + wn) (by omega) (by omega)
     rw [e2] at o1 o6
     rw [s6] at o1
     obtain rfl : o = a + wn + 1 := by omega
     exact ⟨Or.inl e1, by rw [o6, e1]⟩
   · obtain ⟨o, o1, o2, o3, o4, o5, o6, o7, o8⟩ := lok_at h (k := a + 1) (by omega) (by omega)
     rw [e2] at o1 o6
     rw [s5] at o1
     obtain rfl : o = a + wn + 1 := by omega
     exact ⟨Or.inr e1, by rw [o6, e1]⟩
 · intro hm
   obtain ⟨a, wn, rfl, hw2, ha, hb, hF, hx, hc, _⟩ := may_at h hm
   unfold mayS
   rw [sqB_idx hF rfl ha, ha]
   rw [hx a (by simp), hx (a + 1) (by simp), hx (a + wn) (by simp), hx (a + wn + 1) (by simp)]
   simp only [Int.toNat_natCast, Bool.true_and, Bool.and_eq_true, Bool.or_eq_true, beq_iff_eq]
   rcases hc with ⟨e1, e2, e3, e4⟩ | ⟨e1, e2, e3, e4⟩
   · exact Or.inl ⟨e1, e3⟩
   · exact Or.inr ⟨e1, e3⟩

end Go.Proofs.Ytpcajacekmidbaa
