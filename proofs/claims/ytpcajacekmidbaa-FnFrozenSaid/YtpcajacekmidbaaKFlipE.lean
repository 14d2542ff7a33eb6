/- In a simple region the corners at the border have the same height in all tilings, and where two tilings differ a flip leads nearer. Plain facts. No statement is proved here. -/
import Derived.Test.YtpcajacekmidbaaKLatW
import Derived.Test.YtpcajacekmidbaaKSqM
import Derived.Test.YtpcajacekmidbaaKFlipRise
namespace Go.Proofs.Ytpcajacekmidbaa
open Go.RowKit
set_option linter.unusedVariables false
set_option maxRecDepth 100000
set_option linter.unusedSimpArgs false

def psi (P κ : Int → Int → Bool) : Nat → Int → Bool
 | 0, _ => false
 | n + 1, y => xor (psi P κ n y) ((P ((n : Int) - 1) y != P n y) && κ n y)
theorem psi_step {P κ : Int → Int → Bool} (hP0 : ∀ y, P (-1) y = false) (hv : ∀ x y, P (x - 1) y ≠ P x y → κ x y = κ x (y + 1)) (hh : ∀ x y, P x (y - 1) ≠ P x y → κ x y = κ (x + 1) y) :
 ∀ n y, xor (psi P κ n y) (psi P κ n (y - 1)) = ((P ((n : Int) - 1) (y - 1) != P ((n : Int) - 1) y) && κ ((n : Int) - 1) y)
 | 0, y => by
   have e : ((0 : Nat) : Int) - 1 = -1 := rfl
   rw [e, hP0, hP0]; rfl
 | n + 1, y => by
   have ih := psi_step hP0 hv hh n y
   have e : ((n + 1 : Nat) : Int) - 1 = n := by omega
   rw [e]
   show xor (xor (psi P κ n y) ((P ((n : Int) - 1) y != P n y) && κ n y)) (xor (psi P κ n (y - 1)) ((P ((n : Int) - 1) (y - 1) != P n (y - 1)) && κ n (y - 1))) = _
   have h1 := hv n (y - 1)
   have h2 := hh ((n : Int) - 1) y
   rw [Int.sub_add_cancel] at h1 h2
   generalize psi P κ n y = p at ih ⊢
   generalize psi P κ n (y - 1) = q at ih ⊢
   generalize κ ((n : Int) - 1) y = k2 at ih h2
   generalize κ (n : Int) (y - 1) = k1 at h1 ⊢
   generalize κ (n : Int) y = k0 at h1 h2 ⊢
   generalize P ((n : Int) - 1) (y - 1) = a at ih h1 h2 ⊢
   generalize P (n : Int) (y - 1) = b at h1 ⊢
   generalize P ((n : Int) - 1) y = c at ih h2 ⊢
   generalize P (n : Int) y = d
   revert ih h1 h2
   cases p <;> cases q <;> cases k0 <;> cases k1 <;> cases k2 <;> cases a <;> cases b <;> cases c <;> cases d <;> decide
theorem at_east {W T : Int} {xs : List Bool} {x y : Int} (hx0 : 0 ≤ x) (hx1 : x ≤ W) (hy0 : 0 ≤ y) : sLeft W T xs (cI W x y) false = atB W T xs x y ∧ sRight W T xs (cI W x y) false = atB W T xs x (y - 1) ∧ sTo W (cI W x y) false = y * (W + 1) + (x + 1) ∧ (sRise W (cI W x y) false = if (x + y) % 2 = 0 then 1 else -1) ∧ sCell W (cI W x y) false = y * W + x := by
 obtain ⟨e, ex, ey⟩ := cI_xy (W := W) hx0 hx1 hy0
 unfold sLeft sRight sTo sRise sDark sCell sLx sRy
 simp only [Bool.false_eq_true, if_false]
 rw [ex, ey, e]
 refine ⟨rfl, rfl, by omega, ?_, rfl⟩
 by_cases h : (x + y) % 2 = 0
 · rw [if_pos h, decide_eq_true (by omega)]; rfl
 · rw [if_neg h, decide_eq_false (by omega)]; rfl
theorem at_north {W T : Int} {xs : List Bool} {x y : Int} (hx0 : 0 ≤ x) (hx1 : x ≤ W) (hy0 : 0 ≤ y) : sLeft W T xs (cI W x y) true = atB W T xs (x - 1) y ∧ sRight W T xs (cI W x y) true = atB W T xs x y ∧ sTo W (cI W x y) true = (y + 1) * (W + 1) + x ∧ (sRise W (cI W x y) true = if (x + y) % 2 = 0 then -1 else 1) ∧ sCell W (cI W x y) true = y * W + (x - 1) := by
 obtain ⟨e, ex, ey⟩ := cI_xy (W := W) hx0 hx1 hy0
 unfold sLeft sRight sTo sRise sDark sCell sLx sRy
 simp only [if_true]
 rw [ex, ey, e]
 refine ⟨rfl, rfl, by rw [Int.add_mul]; omega, ?_, rfl⟩
 by_cases h : (x + y) % 2 = 0
 · rw [if_pos h, decide_eq_false (by omega)]; rfl
 · rw [if_neg h, decide_eq_true (by omega)]; rfl
theorem border_all {W T : Int} {xs : List Bool} (hs : simpleB W T xs = true) (κ : Nat → Bool) (hstep : ∀ k nth, sUsed W T xs k nth = true → sBoth W T xs k nth = false → κ k = κ (sTo W k nth).toNat) :
 ∃ p, ∀ k nth, sUsed W T xs k nth = true → sBoth W T xs k nth = false → κ k = p := by
 obtain ⟨v1, v2, v3, v4, v5, _⟩ := rv_true (simpleB_rv hs)
 obtain ⟨_, ⟨x0, y0, h0⟩, hin, hout⟩ := simple_iff.1 hs
 obtain ⟨P, hP⟩ : ∃ P, P = atB W T xs := ⟨_, rfl⟩
 have pin : ∀ {x y}, P x y = true → 0 ≤ x ∧ x < W ∧ 0 ≤ y ∧ y < T := fun h => atB_in (by rw [← hP]; exact h)
 have pno : ∀ x y, ¬ (0 ≤ x ∧ x < W ∧ 0 ≤ y ∧ y < T) → P x y = false := fun x y h => by
  cases hb : P x y
  · rfl
  · exact absurd (pin hb) h
 obtain ⟨κ', hκ⟩ : ∃ κ' : Int → Int → Bool, κ' = fun x y => κ (cI W x y) := ⟨_, rfl⟩
 have hv : ∀ x y, P (x - 1) y ≠ P x y → κ' x y = κ' x (y + 1) := by
  intro x y hne
  have hr : 0 ≤ x ∧ x ≤ W ∧ 0 ≤ y ∧ y < T := by
   cases h1 : P (x - 1) y
   · cases h2 : P x y
     · rw [h1, h2] at hne; exact absurd rfl hne
     · have := pin h2; omega
   · have := pin h1; omega
  obtain ⟨r1, r2, r3, r4⟩ := hr
  obtain ⟨n1, n2, n3, _⟩ := at_north (T := T) (xs := xs) r1 r2 r3
  have := hstep (cI W x y) true (by unfold sUsed; rw [n1, n2, ← hP]; revert hne; cases P (x - 1) y <;> cases P x y <;> decide) (by unfold sBoth; rw [n1, n2, ← hP]; revert hne; cases P (x - 1) y <;> cases P x y <;> decide)
  rw [hκ]
  show κ (cI W x y) = κ (cI W x (y + 1))
  rw [this, n3]; rfl
 have hh : ∀ x y, P x (y - 1) ≠ P x y → κ' x y = κ' (x + 1) y := by
  intro x y hne
  have hr : 0 ≤ x ∧ x < W ∧ 0 ≤ y ∧ y ≤ T := by
   cases h1 : P x (y - 1)
   · cases h2 : P x y
     · rw [h1, h2] at hne; exact absurd rfl hne
     · have := pin h2; omega
   · have := pin h1; omega
  obtain ⟨r1, r2, r3, r4⟩ := hr
  obtain ⟨n1, n2, n3, _⟩ := at_east (T := T) (xs := xs) r1 (show x ≤ W by omega) r3
  have := hstep (cI W x y) false (by unfold sUsed; rw [n1, n2, ← hP]; revert hne; cases P x (y - 1) <;> cases P x y <;> decide) (by unfold sBoth; rw [n1, n2, ← hP]; revert hne; cases P x (y - 1) <;> cases P x y <;> decide)
  rw [hκ]
  show κ (cI W x y) = κ (cI W (x + 1) y)
  rw [this, n3]; rfl
 have hst := psi_step (P := P) (κ := κ') (fun y => pno _ _ (by omega)) hv hh
 obtain ⟨Q, hQ⟩ : ∃ Q : Int → Int → Bool, Q = fun x y => psi P κ' (x + 1).toNat y := ⟨_, rfl⟩
 have qv : ∀ x y, -1 ≤ x → xor (Q x y) (Q x (y - 1)) = ((P x (y - 1) != P x y) && κ' x y) := by
  intro x y hx
  have := hst (x + 1).toNat y
  rw [show (((x + 1).toNat : Nat) : Int) - 1 = x by omega] at this
  rw [hQ]; exact this
 have qh : ∀ x y, -1 ≤ x → Q (x + 1) y = xor (Q x y) ((P x y != P (x + 1) y) && κ' (x + 1) y) := by
  intro x y hx
  obtain ⟨n, hn⟩ : ∃ n : Nat, (x + 1).toNat = n := ⟨_, rfl⟩
  have e1 : (x + 1 + 1).toNat = n + 1 := by omega
  have e2 : (n : Int) - 1 = x := by omega
  have e3 : (n : Int) = x + 1 := by omega
  rw [hQ]
  show psi P κ' (x + 1 + 1).toNat y = xor (psi P κ' (x + 1).toNat y) _
  rw [e1, hn]
  show xor (psi P κ' n y) ((P ((n : Int) - 1) y != P n y) && κ' n y) = _
  rw [e2, e3]
 have sameV : ∀ x y, -1 ≤ x → P x (y - 1) = P x y → Q x y = Q x (y - 1) := by
  intro x y hx he
  have := qv x y hx
  rw [he] at this
  revert this
  cases Q x y <;> cases Q x (y - 1) <;> cases P x y <;> cases κ' x y <;> decide
 have sameH : ∀ x y, -1 ≤ x → P x y = P (x + 1) y → Q (x + 1) y = Q x y := by
  intro x y hx he
  have := qh x y hx
  rw [he] at this
  revert this
  cases Q x y <;> cases Q (x + 1) y <;> cases P (x + 1) y <;> cases κ' (x + 1) y <;> decide
 have inAll : ∀ {x y}, P x y = true → Q x y = Q x0 y0 := by
  intro x y hxy
  have path := hin x0 y0 x y h0 (by rw [← hP]; exact hxy)
  clear hxy
  induction path with
  | refl _ => rfl
  | step hcp h1 h2 ih =>
    rename_i u v u' v'
    have hu : P u v = true := by rw [hP]; cases hcp <;> assumption
    rw [← hP] at h2
    have r1 := pin hu
    have r2 := pin h2
    rw [← ih]
    unfold sideP at h1
    rcases h1 with ⟨rfl, rfl | rfl⟩ | ⟨rfl, rfl | rfl⟩
    · have := sameV u' (v + 1) (by omega) (by rw [Int.add_sub_cancel, hu, h2])
      rw [Int.add_sub_cancel] at this; exact this
    · exact (sameV u' v (by omega) (by rw [hu, h2])).symm
    · exact sameH u v' (by omega) (by rw [hu, h2])
    · have := sameH (u - 1) v' (by omega) (by rw [Int.sub_add_cancel, hu, h2])
      rw [Int.sub_add_cancel] at this; exact this.symm
 have outAll : ∀ {x y}, -1 ≤ x → x ≤ W → -1 ≤ y → y ≤ T → P x y = false → Q x y = false := by
  intro x y hx hx1 hy hy1 hxy
  have o0 : outP W T xs 0 0 = true := by
   unfold outP; rw [decide_eq_true (by omega), ← hP, pno _ _ (by omega)]; rfl
  have o1 : outP W T xs (x + 1) (y + 1) = true := by
   unfold outP; rw [decide_eq_true (by omega), ← hP, Int.add_sub_cancel, Int.add_sub_cancel, hxy]; rfl
  have path := hout 0 0 (x + 1) (y + 1) o0 o1
  have key : ∀ {a b}, CP (outP W T xs) 0 0 a b → Q (a - 1) (b - 1) = false := by
   intro a b hp
   have oin : ∀ {a b}, outP W T xs a b = true → (0 ≤ a ∧ a < W + 2 ∧ 0 ≤ b ∧ b < T + 2) ∧ P (a - 1) (b - 1) = false := by
    intro a b h
    unfold outP at h
    rw [Bool.and_eq_true, decide_eq_true_eq, ← hP] at h
    exact ⟨h.1, by simpa using h.2⟩
   induction hp with
   | refl _ => rw [hQ]; rfl
   | step hcp h1 h2 ih =>
     rename_i u v u' v'
     have hu : outP W T xs u v = true := by cases hcp <;> assumption
     obtain ⟨r1, r2⟩ := oin hu
     obtain ⟨r3, r4⟩ := oin h2
     rw [← ih]
     unfold sideP at h1
     rcases h1 with ⟨rfl, rfl | rfl⟩ | ⟨rfl, rfl | rfl⟩
     · have := sameV (u' - 1) (v + 1 - 1) (by omega) (by rw [r4, show v + 1 - 1 - 1 = v - 1 by omega, r2])
       rw [this, show v + 1 - 1 - 1 = v - 1 by omega]
     · have := sameV (u' - 1) (v - 1) (by omega) (by rw [r4, r2])
       exact this.symm
     · have := sameH (u - 1) (v' - 1) (by omega) (by rw [show u - 1 + 1 = u + 1 - 1 by omega, r4, r2])
       rw [show u - 1 + 1 = u + 1 - 1 by omega] at this; exact this
     · have := sameH (u - 1 - 1) (v' - 1) (by omega) (by rw [Int.sub_add_cancel, r4, r2])
       rw [Int.sub_add_cancel] at this; exact this.symm
  have := key path
  rwa [Int.add_sub_cancel, Int.add_sub_cancel] at this
 refine ⟨Q x0 y0, ?_⟩
 intro k nth hu hb
 obtain ⟨kx0, kx1, ky0, ke⟩ := kxy v1 k
 obtain ⟨x, hx⟩ : ∃ x, x = kx W k := ⟨_, rfl⟩
 obtain ⟨y, hy⟩ : ∃ y, y = ky W k := ⟨_, rfl⟩
 have hk := cI_of v1 k
 rw [← hx, ← hy] at hk
 have x0' : 0 ≤ x := by omega
 have x1' : x ≤ W := by omega
 have y0' : 0 ≤ y := by omega
 have ek : κ k = κ' x y := by rw [hκ]; show κ k = κ (cI W x y); rw [hk]
 rw [← hk] at hu hb
 rw [ek]
 cases nth
 · obtain ⟨n1, n2, _⟩ := at_east (T := T) (xs := xs) x0' x1' y0'
   unfold sUsed at hu; unfold sBoth at hb
   rw [n1, n2, ← hP] at hu hb
   have hq := qv x y (by omega)
   cases h1 : P x y
   · have h2 : P x (y - 1) = true := by revert hu hb; rw [h1]; cases P x (y - 1) <;> decide
     have r := pin h2
     rw [outAll (by omega) (by omega) (by omega) (by omega) h1, inAll h2, h1, h2] at hq
     revert hq; cases Q x0 y0 <;> cases κ' x y <;> decide
   · have h2 : P x (y - 1) = false := by revert hu hb; rw [h1]; cases P x (y - 1) <;> decide
     have r := pin h1
     rw [outAll (by omega) (by omega) (by omega) (by omega) h2, inAll h1, h1, h2] at hq
     revert hq; cases Q x0 y0 <;> cases κ' x y <;> decide
 · obtain ⟨n1, n2, _⟩ := at_north (T := T) (xs := xs) x0' x1' y0'
   unfold sUsed at hu; unfold sBoth at hb
   rw [n1, n2, ← hP] at hu hb
   have hq := qh (x - 1) y (by omega)
   rw [Int.sub_add_cancel] at hq
   cases h1 : P x y
   · have h2 : P (x - 1) y = true := by revert hu hb; rw [h1]; cases P (x - 1) y <;> decide
     have r := pin h2
     rw [outAll (by omega) (by omega) (by omega) (by omega) h1, inAll h2, h1, h2] at hq
     revert hq; cases Q x0 y0 <;> cases κ' x y <;> decide
   · have h2 : P (x - 1) y = false := by revert hu hb; rw [h1]; cases P (x - 1) y <;> decide
     have r := pin h1
     rw [outAll (by omega) (by omega) (by omega) (by omega) h2, inAll h1, h1, h2] at hq
     revert hq; cases Q x0 y0 <;> cases κ' x y <;> decide

theorem first_border {W T : Int} {xs : List Bool} {N f : Nat} (hW : 1 ≤ W) (hf : frstK W T xs N = f) : ∃ nth, sUsed W T xs f nth = true ∧ sBoth W T xs f nth = false := by
 unfold frstK at hf
 cases hc : (List.range N).find? fun k => sUsed W T xs k false || sUsed W T xs k true with
 | none => rw [hc] at hf; simp only [Option.map_none, Option.getD_none] at hf; omega
 | some g =>
   rw [hc] at hf
   simp only [Option.map_some, Option.getD_some] at hf
   obtain rfl : g = f := by omega
   obtain ⟨h1, i, hi, h2, h3⟩ := List.find?_eq_some_iff_getElem.1 hc
   rw [List.getElem_range] at h2
   subst h2
   have hmin : ∀ j, j < i → sUsed W T xs j false = false ∧ sUsed W T xs j true = false := by
    intro j hj
    have := h3 j hj
    rw [List.getElem_range] at this
    simpa using this
   obtain ⟨kx0, kx1, ky0, ke⟩ := kxy hW i
   obtain ⟨x, hx⟩ : ∃ x, x = kx W i := ⟨_, rfl⟩
   obtain ⟨y, hy⟩ : ∃ y, y = ky W i := ⟨_, rfl⟩
   have hk := cI_of hW i
   rw [← hx] at hk kx0 kx1
   rw [← hy] at hk ky0
   have no1 : atB W T xs x (y - 1) = false := by
    cases hb : atB W T xs x (y - 1)
    · rfl
    · have r := atB_in hb
      have cs := (cell_sides hW hb).1.1
      obtain ⟨e1, _⟩ := cI_xy (W := W) (x := x) (y := y - 1) (by omega) (by omega) (by omega)
      obtain ⟨e2, _⟩ := cI_xy (W := W) (x := x) (y := y) (by omega) (by omega) (by omega)
      have := (hmin (cI W x (y - 1)) (by rw [← hk]; rw [Int.sub_mul] at e1; omega)).1
      rw [this] at cs; cases cs
   have no2 : atB W T xs (x - 1) y = false := by
    cases hb : atB W T xs (x - 1) y
    · rfl
    · have r := atB_in hb
      have cs := (cell_sides hW hb).1.1
      obtain ⟨e1, _⟩ := cI_xy (W := W) (x := x - 1) (y := y) (by omega) (by omega) (by omega)
      obtain ⟨e2, _⟩ := cI_xy (W := W) (x := x) (y := y) (by omega) (by omega) (by omega)
      have := (hmin (cI W (x - 1) y) (by rw [← hk]; omega)).1
      rw [this] at cs; cases cs
   obtain ⟨n1, n2, _⟩ := at_east (T := T) (xs := xs) kx0 (show x ≤ W by omega) ky0
   obtain ⟨m1, m2, _⟩ := at_north (T := T) (xs := xs) kx0 (show x ≤ W by omega) ky0
   rw [hk] at n1 n2 m1 m2
   simp only [Bool.or_eq_true] at h1
   rcases h1 with h1 | h1
   · exact ⟨false, h1, by unfold sBoth; rw [n1, n2, no1, Bool.and_false]⟩
   · exact ⟨true, h1, by unfold sBoth; rw [m1, m2, no2, Bool.false_and]⟩
theorem jump_other {W T : Int} {xs : List Bool} {L : List Int} {k : Nat} {nth : Bool} (hl : lok W T xs L = true) (hb : sBoth W T xs k nth = true) (hj : L.getD (sCell W k nth).toNat 0 = sWay nth) : L.getD (sOther W k nth).toNat 0 = backI (sWay nth) := by
 obtain ⟨hr, hlen, _⟩ := lok_rv hl
 obtain ⟨v1, v2, v3, v4, v5, _⟩ := rv_true hr
 obtain ⟨a, b, e1, e2, h1, h2, _⟩ := side_left v1 hb
 have hw : 1 ≤ sWay nth ∧ sWay nth ≤ 4 := by cases nth <;> exact ⟨by decide, by decide⟩
 have hst := step_side v1 hb hw.1 hw.2
 rw [beq_self_eq_true, beq_iff_eq] at hst
 rw [e1, Int.toNat_natCast] at hj
 have hb2 := lok_both hl (show a < L.length by omega) (by omega)
 simp only [bothB, Bool.and_eq_true, beq_iff_eq] at hb2
 rw [hj] at hb2
 have h3 := hb2.2
 rw [← e1, hst] at h3
 exact h3
theorem max_exists (N : Nat) (P : Nat → Prop) (g : Nat → Int) (b : Int) (hP : ∀ k, P k → g k ≤ b) : ∀ d : Nat, ∀ k, P k → b - g k ≤ d → ∃ c, P c ∧ ∀ j, P j → g j ≤ g c
 | 0, k, hk, hd => ⟨k, hk, fun j hj => by have := hP j hj; omega⟩
 | d + 1, k, hk, hd => by
   by_cases h : ∃ j, P j ∧ g k < g j
   · obtain ⟨j, hj, hlt⟩ := h
     exact max_exists N P g b hP d j hj (by omega)
   · refine ⟨k, hk, fun j hj => ?_⟩
     apply Classical.byContradiction; intro hc
     exact h ⟨j, hj, by omega⟩

set_option maxHeartbeats 2000000 in
theorem flip_to {W T : Int} {xs : List Bool} {L M H G : List Int} {N f : Nat} (hs : simpleB W T xs = true) (hN : (W + 1) * (T + 1) = (N : Int)) (hf : frstK W T xs N = f) (ht : tok W T xs L = true) (ht' : tok W T xs M = true) (hH : HtsOf W T xs L H N) (hG : HtsOf W T xs M G N) (σ : Int) (hσ : σ = 1 ∨ σ = -1)
 (hex : ∃ k, k < N ∧ 0 < σ * (H.getD k 0 - G.getD k 0)) :
 ∃ c : Nat, c < N ∧ mayB W T L c = true ∧ flipD W T xs L c = -4 * σ ∧ 4 ≤ σ * (H.getD c 0 - G.getD c 0) := by
 have hlk := tok_lok1 ht
 obtain ⟨v1, v2, v3, v4, v5, _⟩ := rv_true (simpleB_rv hs)
 have hNt : ((W + 1) * (T + 1)).toNat = N := by omega
 have hRH : HtsR W T xs L H := Or.inl ⟨by rw [hs, ht]; rfl, by rw [hNt]; exact hH⟩
 have hRG : HtsR W T xs M G := Or.inl ⟨by rw [hs, ht']; rfl, by rw [hNt]; exact hG⟩
 obtain ⟨hlen, hmod⟩ := hts_mod hs ht ht' hRH hRG
 have mod4 : ∀ k, k < N → (H.getD k 0 - G.getD k 0) % 4 = 0 := fun k hk => (hmod k (by rw [hH.len]; exact hk)).1
 obtain ⟨Pc, hPc⟩ : ∃ P : Nat → Prop, P = fun k => k < N ∧ hAt W T xs k = true ∧ 0 < σ * (H.getD k 0 - G.getD k 0) := ⟨_, rfl⟩
 have hexP : ∃ k, Pc k := by
  obtain ⟨k, hk, h⟩ := hex
  refine ⟨k, ?_⟩
  rw [hPc]
  refine ⟨hk, ?_, h⟩
  cases hb : hAt W T xs k
  · rw [hH.off k hk hb, hG.off k hk hb] at h; simp at h
  · rfl
 obtain ⟨k0, hk0⟩ := hexP
 have hbd : ∀ k, Pc k → σ * H.getD k 0 ≤ 49 := by
  intro k hk
  rw [hPc] at hk
  have := hH.bd k hk.1 hk.2.1
  rcases hσ with rfl | rfl <;> omega
 have hbd0 : 49 - σ * H.getD k0 0 ≤ (98 : Nat) := by
  have hk := hk0
  rw [hPc] at hk
  have := hH.bd k0 hk.1 hk.2.1
  rcases hσ with rfl | rfl <;> omega
 obtain ⟨c, hc, hmax⟩ := max_exists N Pc (fun k => σ * H.getD k 0) 49 hbd 98 k0 hk0 hbd0
 rw [hPc] at hc
 obtain ⟨hcN, hcat, hcpos⟩ := hc
 have hmax' : ∀ j, j < N → hAt W T xs j = true → σ * H.getD c 0 < σ * H.getD j 0 → ¬ 0 < σ * (H.getD j 0 - G.getD j 0) := by
  intro j h1 h2 h3 h4
  have : σ * H.getD j 0 ≤ σ * H.getD c 0 := hmax j (by rw [hPc]; exact ⟨h1, h2, h4⟩)
  omega
 clear hmax hbd hbd0 hk0
 have hDc : 4 ≤ σ * (H.getD c 0 - G.getD c 0) := by
  have := mod4 c hcN
  rcases hσ with rfl | rfl <;> omega
 -- no side at the border
 have hinner : ∀ k nth, sUsed W T xs k nth = true → (k = c ∨ (sTo W k nth).toNat = c) → sBoth W T xs k nth = true := by
  intro k nth hu hkc
  cases hb : sBoth W T xs k nth
  · exfalso
    have hst : ∀ k nth, sUsed W T xs k nth = true → sBoth W T xs k nth = false → decide (H.getD k 0 = G.getD k 0) = decide (H.getD (sTo W k nth).toNat 0 = G.getD (sTo W k nth).toNat 0) := by
     intro k nth hu hb
     obtain ⟨t0, t1, t2⟩ := sTo_lt v1 hu
     have kN : k < N := by omega
     have a := hH.side k nth kN hu
     have b := hG.side k nth kN hu
     unfold rT at a b
     rw [hb, Bool.false_and] at a b
     simp only [Bool.false_eq_true, if_false] at a b
     apply decide_eq_decide.2
     constructor <;> intro h <;> omega
    obtain ⟨p, hp⟩ := border_all hs (fun k => decide (H.getD k 0 = G.getD k 0)) hst
    obtain ⟨nf, f1, f2⟩ := first_border v1 hf
    have h1 := hp f nf f1 f2
    rw [hH.first f hf, hG.first f hf] at h1
    have h2 := hp k nth hu hb
    rw [← h1] at h2
    simp only [decide_true, decide_eq_true_eq] at h2
    have h3 := hst k nth hu hb
    rw [h2] at h3
    simp only [decide_true, true_eq_decide_iff] at h3
    have h4 : H.getD c 0 = G.getD c 0 := by
     rcases hkc with rfl | rfl
     · exact h2
     · exact h3
    rw [h4] at hDc
    simp at hDc
  · rfl
 -- all neighbours are on the other side
 have nbr : ∀ k nth, sUsed W T xs k nth = true → (k = c → σ * rT W T xs L k nth < 0) ∧ ((sTo W k nth).toNat = c → 0 < σ * rT W T xs L k nth) := by
  intro k nth hu
  obtain ⟨t0, t1, t2⟩ := sTo_lt v1 hu
  have kN : k < N := by omega
  have tN : (sTo W k nth).toNat < N := by omega
  have a := hH.side k nth kN hu
  have b := hG.side k nth kN hu
  have ak := (hAt_iff v1).2 (Or.inl ⟨nth, hu⟩)
  have at' : hAt W T xs (sTo W k nth).toNat = true := (hAt_iff v1).2 (Or.inr ⟨k, nth, hu, by omega⟩)
  have mk := mod4 k kN
  have mt := mod4 _ tN
  have ra : rT W T xs L k nth = sRise W k nth ∨ rT W T xs L k nth = -3 * sRise W k nth := by unfold rT; split <;> simp
  have rb : rT W T xs M k nth = sRise W k nth ∨ rT W T xs M k nth = -3 * sRise W k nth := by unfold rT; split <;> simp
  have rr : sRise W k nth = 1 ∨ sRise W k nth = -1 := by unfold sRise; split <;> simp
  constructor
  · rintro rfl
    apply Classical.byContradiction; intro hn
    have h5 := hmax' _ tN at' (by rcases hσ with rfl | rfl <;> rcases rr with e | e <;> rw [e] at ra <;> omega)
    rcases hσ with rfl | rfl <;> rcases rr with e | e <;> rw [e] at ra rb <;> omega
  · intro hkc
    apply Classical.byContradiction; intro hn
    rw [hkc] at a b mt
    have h5 := hmax' k kN ak (by rcases hσ with rfl | rfl <;> rcases rr with e | e <;> rw [e] at ra <;> omega)
    rcases hσ with rfl | rfl <;> rcases rr with e | e <;> rw [e] at ra rb <;> omega
 -- the four cells
 obtain ⟨kx0, kx1, ky0, ke⟩ := kxy v1 c
 obtain ⟨x, hx⟩ : ∃ x, x = kx W c := ⟨_, rfl⟩
 obtain ⟨y, hy⟩ : ∃ y, y = ky W c := ⟨_, rfl⟩
 have hk := cI_of v1 c
 unfold hAt at hcat
 rw [← hx] at hk kx0 kx1 hcat
 rw [← hy] at hk ky0 hcat
 obtain ⟨E1, E2, E3, E4, E5⟩ := at_east (T := T) (xs := xs) kx0 (show x ≤ W by omega) ky0
 obtain ⟨N1, N2, N3, N4, N5⟩ := at_north (T := T) (xs := xs) kx0 (show x ≤ W by omega) ky0
 rw [hk] at E1 E2 E3 E4 E5 N1 N2 N3 N4 N5
 have hcI : (c : Int) = y * (W + 1) + x := by have := (cI_xy (W := W) kx0 (show x ≤ W by omega) ky0).1; rw [hk] at this; exact this
 have inE : atB W T xs x y = true ∨ atB W T xs x (y - 1) = true → atB W T xs x y = true ∧ atB W T xs x (y - 1) = true := by
  intro h
  have := hinner c false (by unfold sUsed; rw [E1, E2]; rcases h with h | h <;> rw [h] <;> simp) (Or.inl rfl)
  unfold sBoth at this; rw [E1, E2, Bool.and_eq_true] at this; exact this
 have inN : atB W T xs (x - 1) y = true ∨ atB W T xs x y = true → atB W T xs (x - 1) y = true ∧ atB W T xs x y = true := by
  intro h
  have := hinner c true (by unfold sUsed; rw [N1, N2]; rcases h with h | h <;> rw [h] <;> simp) (Or.inl rfl)
  unfold sBoth at this; rw [N1, N2, Bool.and_eq_true] at this; exact this
 have inW : atB W T xs (x - 1) y = true ∨ atB W T xs (x - 1) (y - 1) = true → atB W T xs (x - 1) y = true ∧ atB W T xs (x - 1) (y - 1) = true := by
  intro h
  have r : 0 ≤ x - 1 := by rcases h with h | h <;> (have := atB_in h; omega)
  obtain ⟨W1, W2, W3, _⟩ := at_east (T := T) (xs := xs) r (show x - 1 ≤ W by omega) ky0
  have := hinner (cI W (x - 1) y) false (by unfold sUsed; rw [W1, W2]; rcases h with h | h <;> rw [h] <;> simp) (Or.inr (by rw [W3]; omega))
  unfold sBoth at this; rw [W1, W2, Bool.and_eq_true] at this; exact this
 have inS : atB W T xs (x - 1) (y - 1) = true ∨ atB W T xs x (y - 1) = true → atB W T xs (x - 1) (y - 1) = true ∧ atB W T xs x (y - 1) = true := by
  intro h
  have r : 0 ≤ y - 1 := by rcases h with h | h <;> (have := atB_in h; omega)
  obtain ⟨S1, S2, S3, _⟩ := at_north (T := T) (xs := xs) kx0 (show x ≤ W by omega) r
  have := hinner (cI W x (y - 1)) true (by unfold sUsed; rw [S1, S2]; rcases h with h | h <;> rw [h] <;> simp) (Or.inr (by rw [S3, Int.sub_add_cancel]; omega))
  unfold sBoth at this; rw [S1, S2, Bool.and_eq_true] at this; exact this
 have all4 : atB W T xs x y = true ∧ atB W T xs (x - 1) y = true ∧ atB W T xs x (y - 1) = true ∧ atB W T xs (x - 1) (y - 1) = true := by
  simp only [Bool.or_eq_true] at hcat
  rcases hcat with ((h | h) | h) | h
  · have a := inE (Or.inl h)
    have b := inN (Or.inr h)
    have d := inW (Or.inl b.1)
    exact ⟨h, b.1, a.2, d.2⟩
  · have b := inN (Or.inl h)
    have a := inE (Or.inl b.2)
    have d := inW (Or.inl h)
    exact ⟨b.2, h, a.2, d.2⟩
  · have a := inE (Or.inr h)
    have b := inN (Or.inr a.1)
    have d := inW (Or.inl b.1)
    exact ⟨a.1, b.1, h, d.2⟩
  · have d := inW (Or.inr h)
    have b := inN (Or.inl d.1)
    have a := inE (Or.inl b.2)
    exact ⟨b.2, d.1, a.2, h⟩
 obtain ⟨cNE, cNW, cSE, cSW⟩ := all4
 have rSW := atB_in cSW
 have rNE := atB_in cNE
 obtain ⟨W1, W2, W3, W4, W5⟩ := at_east (T := T) (xs := xs) rSW.1 (show x - 1 ≤ W by omega) ky0
 obtain ⟨S1, S2, S3, S4, S5⟩ := at_north (T := T) (xs := xs) kx0 (show x ≤ W by omega) rSW.2.2.1
 have bE : sBoth W T xs c false = true := by unfold sBoth; rw [E1, E2, cNE, cSE]; rfl
 have bN : sBoth W T xs c true = true := by unfold sBoth; rw [N1, N2, cNW, cNE]; rfl
 have bW : sBoth W T xs (cI W (x - 1) y) false = true := by unfold sBoth; rw [W1, W2, cNW, cSW]; rfl
 have bS : sBoth W T xs (cI W x (y - 1)) true = true := by unfold sBoth; rw [S1, S2, cSW, cSE]; rfl
 have both_used : ∀ k nth, sBoth W T xs k nth = true → sUsed W T xs k nth = true := by
  intro k nth h; unfold sBoth at h; unfold sUsed; rw [Bool.and_eq_true] at h; rw [h.1]; rfl
 have qE := (nbr c false (both_used _ _ bE)).1 rfl
 have qN := (nbr c true (both_used _ _ bN)).1 rfl
 have qW := (nbr (cI W (x - 1) y) false (both_used _ _ bW)).2 (by rw [W3]; omega)
 have qS := (nbr (cI W x (y - 1)) true (both_used _ _ bS)).2 (by rw [S3, Int.sub_add_cancel]; omega)
 have jE : L.getD (sCell W c false).toNat 0 = sWay false ∧ rT W T xs L c false = -3 * sRise W c false ∨ L.getD (sCell W c false).toNat 0 ≠ sWay false ∧ rT W T xs L c false = sRise W c false := by
  unfold rT; rw [bE, Bool.true_and]; by_cases h : L.getD (sCell W c false).toNat 0 = sWay false
  · left; rw [h, beq_self_eq_true]; exact ⟨rfl, rfl⟩
  · right; rw [show (L.getD (sCell W c false).toNat 0 == sWay false) = false by simpa using h]; exact ⟨h, rfl⟩
 have jN : L.getD (sCell W c true).toNat 0 = sWay true ∧ rT W T xs L c true = -3 * sRise W c true ∨ L.getD (sCell W c true).toNat 0 ≠ sWay true ∧ rT W T xs L c true = sRise W c true := by
  unfold rT; rw [bN, Bool.true_and]; by_cases h : L.getD (sCell W c true).toNat 0 = sWay true
  · left; rw [h, beq_self_eq_true]; exact ⟨rfl, rfl⟩
  · right; rw [show (L.getD (sCell W c true).toNat 0 == sWay true) = false by simpa using h]; exact ⟨h, rfl⟩
 have jW : L.getD (sCell W (cI W (x - 1) y) false).toNat 0 = sWay false ∧ rT W T xs L (cI W (x - 1) y) false = -3 * sRise W (cI W (x - 1) y) false ∨ rT W T xs L (cI W (x - 1) y) false = sRise W (cI W (x - 1) y) false := by
  unfold rT; rw [bW, Bool.true_and]; by_cases h : L.getD (sCell W (cI W (x - 1) y) false).toNat 0 = sWay false
  · left; rw [h, beq_self_eq_true]; exact ⟨rfl, rfl⟩
  · right; rw [show (L.getD (sCell W (cI W (x - 1) y) false).toNat 0 == sWay false) = false by simpa using h]; rfl
 have jS : L.getD (sCell W (cI W x (y - 1)) true).toNat 0 = sWay true ∧ rT W T xs L (cI W x (y - 1)) true = -3 * sRise W (cI W x (y - 1)) true ∨ rT W T xs L (cI W x (y - 1)) true = sRise W (cI W x (y - 1)) true := by
  unfold rT; rw [bS, Bool.true_and]; by_cases h : L.getD (sCell W (cI W x (y - 1)) true).toNat 0 = sWay true
  · left; rw [h, beq_self_eq_true]; exact ⟨rfl, rfl⟩
  · right; rw [show (L.getD (sCell W (cI W x (y - 1)) true).toNat 0 == sWay true) = false by simpa using h]; rfl
 have hcx : cxI W c = x := by unfold cxI; rw [Int.tmod_eq_emod_of_nonneg (by omega), hx]; rfl
 have hcy : cyI W c = y := by unfold cyI; rw [Int.tdiv_eq_ediv_of_nonneg (by omega), hy]; rfl
 have hsq : sqF W T c = true := by
  unfold sqF inF; rw [hcx, hcy, decide_eq_true (by omega), decide_eq_true (by omega)]; rfl
 have hsi : sqI W T c = (y - 1) * W + (x - 1) := by unfold sqI; rw [hsq, if_pos rfl, hcx, hcy]
 have hne : sqI W T c + W + 1 = y * W + x := by rw [hsi, Int.sub_mul]; omega
 have hmayB : (L.getD ((y - 1) * W + (x - 1)).toNat 0 = 1 ∨ L.getD ((y - 1) * W + (x - 1)).toNat 0 = 2) → L.getD (y * W + x).toNat 0 = backI (L.getD ((y - 1) * W + (x - 1)).toNat 0) → mayB W T L c = true := by
  intro h1 h2
  unfold mayB
  rw [hsq, hsi, show (y - 1) * W + (x - 1) + W + 1 = y * W + x by rw [← hne, hsi], h2]
  rcases h1 with h1 | h1 <;> rw [h1] <;> rfl
 refine ⟨c, hcN, ?_, ?_, hDc⟩
 · by_cases hpar : (x + y) % 2 = 0
   · rw [if_pos hpar] at E4 N4
     rw [if_neg (by omega)] at W4 S4
     rcases hσ with rfl | rfl
     · -- both dominoes upright
       have a := jE.resolve_right (fun h => by rw [h.2, E4] at qE; omega)
       have b := jW.resolve_right (fun h => by rw [h, W4] at qW; omega)
       have o := jump_other hlk bW b.1
       have e1 : sOther W (cI W (x - 1) y) false = (y - 1) * W + (x - 1) := by
        unfold sOther sRy; simp only [Bool.false_eq_true, if_false]
        obtain ⟨_, q1, q2⟩ := cI_xy (W := W) rSW.1 (show x - 1 ≤ W by omega) ky0
        rw [q1, q2]
       rw [e1] at o
       rw [E5] at a
       refine hmayB (Or.inr ?_) ?_
       · rw [o]; rfl
       · rw [a.1, o]; rfl
     · have a := jN.resolve_right (fun h => by rw [h.2, N4] at qN; omega)
       have b := jS.resolve_right (fun h => by rw [h, S4] at qS; omega)
       have o := jump_other hlk bN a.1
       have e1 : sOther W c true = y * W + x := by
        unfold sOther sRy; simp only [if_true]; rw [← hx, ← hy]
       rw [e1] at o
       rw [S5] at b
       refine hmayB (Or.inl ?_) ?_
       · rw [b.1]; rfl
       · rw [o, b.1]
   · rw [if_neg hpar] at E4 N4
     rw [if_pos (by omega)] at W4 S4
     rcases hσ with rfl | rfl
     · have a := jN.resolve_right (fun h => by rw [h.2, N4] at qN; omega)
       have b := jS.resolve_right (fun h => by rw [h, S4] at qS; omega)
       have o := jump_other hlk bN a.1
       have e1 : sOther W c true = y * W + x := by
        unfold sOther sRy; simp only [if_true]; rw [← hx, ← hy]
       rw [e1] at o
       rw [S5] at b
       refine hmayB (Or.inl ?_) ?_
       · rw [b.1]; rfl
       · rw [o, b.1]
     · have a := jE.resolve_right (fun h => by rw [h.2, E4] at qE; omega)
       have b := jW.resolve_right (fun h => by rw [h, W4] at qW; omega)
       have o := jump_other hlk bW b.1
       have e1 : sOther W (cI W (x - 1) y) false = (y - 1) * W + (x - 1) := by
        unfold sOther sRy; simp only [Bool.false_eq_true, if_false]
        obtain ⟨_, q1, q2⟩ := cI_xy (W := W) rSW.1 (show x - 1 ≤ W by omega) ky0
        rw [q1, q2]
       rw [e1] at o
       rw [E5] at a
       refine hmayB (Or.inr ?_) ?_
       · rw [o]; rfl
       · rw [a.1, o]; rfl
 · unfold flipD
   rcases hσ with rfl | rfl
   · rw [if_neg (by omega)]; rfl
   · rw [if_pos (by omega)]; rfl

end Go.Proofs.Ytpcajacekmidbaa
