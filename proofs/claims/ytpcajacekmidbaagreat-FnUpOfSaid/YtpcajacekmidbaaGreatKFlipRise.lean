/- Plain facts: a flip moves the height of its corner by 4, and no other one. Merged of: RiseM, RiseI. Merged of: RiseI, FlipRise. -/
import Derived.Test.YtpcajacekmidbaaGreatKFlipOne
namespace Go.Proofs.YtpcajacekmidbaaGreat
open Go.RowKit
set_option linter.unusedVariables false
set_option maxRecDepth 100000
set_option linter.unusedSimpArgs false

theorem flip_lv {W T : Int} {xs : List Bool} {L : List Int} {c : Nat} (h : lok W T xs L = true) (hm : mayB W T L c = true) :
 ∃ hz : Bool, atB W T xs (kx W c - 1) (ky W c - 1) = true ∧ atB W T xs (kx W c) (ky W c - 1) = true ∧ atB W T xs (kx W c - 1) (ky W c) = true ∧ atB W T xs (kx W c) (ky W c) = true ∧
  (lv W T xs L (kx W c - 1) (ky W c - 1) = (if hz then 1 else 2) ∧ lv W T xs (flipL W T L c) (kx W c - 1) (ky W c - 1) = (if hz then 2 else 1)) ∧
  (lv W T xs L (kx W c) (ky W c - 1) = (if hz then 3 else 2) ∧ lv W T xs (flipL W T L c) (kx W c) (ky W c - 1) = (if hz then 2 else 3)) ∧
  (lv W T xs L (kx W c - 1) (ky W c) = (if hz then 1 else 4) ∧ lv W T xs (flipL W T L c) (kx W c - 1) (ky W c) = (if hz then 4 else 1)) ∧
  (lv W T xs L (kx W c) (ky W c) = (if hz then 3 else 4) ∧ lv W T xs (flipL W T L c) (kx W c) (ky W c) = (if hz then 4 else 3)) ∧
  (∀ x y, ¬ (x = kx W c - 1 ∧ y = ky W c - 1) → ¬ (x = kx W c ∧ y = ky W c - 1) → ¬ (x = kx W c - 1 ∧ y = ky W c) → ¬ (x = kx W c ∧ y = ky W c) → lv W T xs (flipL W T L c) x y = lv W T xs L x y) := by
 obtain ⟨hr, hlen, _⟩ := lok_rv h
 obtain ⟨v1, v2, v3, v4, v5, _⟩ := rv_true hr
 obtain ⟨a, wn, hWn, hw2, ha, hb, hsq, hcell, hval, _⟩ := may_at h hm
 obtain ⟨cx, cy, -, -, -, -⟩ := cxy_pos (W := W) (c := (c : Int)) v1 (by omega)
 have ex : cxI W (c : Int) = kx W c := cx
 have ey : cyI W (c : Int) = ky W c := cy
 have hin : inF W T (kx W c - 1) (ky W c - 1) = true ∧ inF W T (kx W c) (ky W c) = true := by
  unfold sqF at hsq
  rw [Bool.and_eq_true, ex, ey] at hsq
  exact hsq
 obtain ⟨X, hX⟩ : ∃ X, X = kx W c := ⟨_, rfl⟩
 obtain ⟨Y, hY⟩ : ∃ Y, Y = ky W c := ⟨_, rfl⟩
 have hsi : (a : Int) = (Y - 1) * W + (X - 1) := by
  unfold sqI at ha
  rw [hsq, if_pos rfl, ex, ey, ← hX, ← hY] at ha
  exact ha.symm
 rw [← hX, ← hY] at hin ⊢
 simp only [inF, decide_eq_true_eq] at hin
 obtain ⟨⟨i1, i2, i3, i4⟩, ⟨j1, j2, j3, j4⟩⟩ := hin
 have hYW : Y * W = (Y - 1) * W + W := by rw [Int.sub_mul]; omega
 -- the four places
 obtain ⟨k1, q1, q1x, q1y, _⟩ := place_idx (W := W) (T := T) (x := X - 1) (y := Y - 1) i1 i2 i3 i4
 obtain ⟨k2, q2, q2x, q2y, _⟩ := place_idx (W := W) (T := T) (x := X) (y := Y - 1) j1 j2 i3 i4
 obtain ⟨k3, q3, q3x, q3y, _⟩ := place_idx (W := W) (T := T) (x := X - 1) (y := Y) i1 i2 j3 j4
 obtain ⟨k4, q4, q4x, q4y, _⟩ := place_idx (W := W) (T := T) (x := X) (y := Y) j1 j2 j3 j4
 have e1 : k1 = a := by omega
 have e2 : k2 = a + 1 := by omega
 have e3 : k3 = a + wn := by omega
 have e4 : k4 = a + wn + 1 := by omega
 have wt : W.toNat = wn := by omega
 have hfl : flipL W T L c = flipA W a L := by unfold flipL; rw [hm, if_pos rfl, ha]; rfl
 obtain ⟨hz, hzv⟩ : ∃ hz : Bool, (L.getD a 0 = (if hz then 1 else 2) ∧ L.getD (a + 1) 0 = (if hz then 3 else 2) ∧ L.getD (a + wn) 0 = (if hz then 1 else 4) ∧ L.getD (a + wn + 1) 0 = (if hz then 3 else 4)) := by
  rcases hval with ⟨p1, p2, p3, p4⟩ | ⟨p1, p2, p3, p4⟩
  · exact ⟨true, p1, p2, p3, p4⟩
  · exact ⟨false, p1, p3, p2, p4⟩
 obtain ⟨z1, z2, z3, z4⟩ := hzv
 have get : ∀ k, (flipL W T L c).getD k 0 = if k = a then (if hz then 2 else 1) else if k = a + 1 then (if hz then 2 else 3) else if k = a + wn then (if hz then 4 else 1) else if k = a + wn + 1 then (if hz then 4 else 3) else L.getD k 0 := by
  intro k
  rw [hfl]
  unfold flipA
  rw [z1, wt]
  cases hz
  · rw [if_neg (by decide)]
    simp only [getD_set1, List.length_set, Bool.false_eq_true, if_false]
    by_cases c1 : k = a
    · subst c1; rw [if_neg (by omega), if_neg (by omega), if_neg (by omega), if_pos ⟨rfl, by omega⟩, if_pos rfl]
    · by_cases c2 : k = a + 1
      · subst c2; rw [if_neg (by omega), if_pos ⟨rfl, by omega⟩, if_neg (by omega), if_pos rfl]
      · by_cases c3 : k = a + wn
        · subst c3; rw [if_neg (by omega), if_neg (by omega), if_pos ⟨rfl, by omega⟩, if_neg (by omega), if_neg (by omega), if_pos rfl]
        · by_cases c4 : k = a + wn + 1
          · subst c4; rw [if_pos ⟨rfl, by omega⟩, if_neg (by omega), if_neg (by omega), if_neg (by omega), if_pos rfl]
          · rw [if_neg (by omega), if_neg (by omega), if_neg (by omega), if_neg (by omega), if_neg c1, if_neg c2, if_neg c3, if_neg c4]
  · rw [if_pos (by rfl)]
    simp only [getD_set1, List.length_set, if_true]
    by_cases c1 : k = a
    · subst c1; rw [if_neg (by omega), if_neg (by omega), if_neg (by omega), if_pos ⟨rfl, by omega⟩, if_pos rfl]
    · by_cases c2 : k = a + 1
      · subst c2; rw [if_neg (by omega), if_neg (by omega), if_pos ⟨rfl, by omega⟩, if_neg (by omega), if_pos rfl]
      · by_cases c3 : k = a + wn
        · subst c3; rw [if_neg (by omega), if_pos ⟨rfl, by omega⟩, if_neg (by omega), if_neg (by omega), if_pos rfl]
        · by_cases c4 : k = a + wn + 1
          · subst c4; rw [if_pos ⟨rfl, by omega⟩, if_neg (by omega), if_neg (by omega), if_neg (by omega), if_pos rfl]
          · rw [if_neg (by omega), if_neg (by omega), if_neg (by omega), if_neg (by omega), if_neg c1, if_neg c2, if_neg c3, if_neg c4]
 have at1 : ∀ {x y : Int} {k : Nat}, 0 ≤ x → x < W → 0 ≤ y → y < T → (k : Int) = y * W + x → xs.getD k false = true → atB W T xs x y = true ∧ ∀ M : List Int, lv W T xs M x y = M.getD k 0 := by
  intro x y k b0 b1 b2 b3 e hx
  have ek : (y * W + x).toNat = k := by omega
  have : atB W T xs x y = true := by unfold atB inF; rw [ek, hx, decide_eq_true ⟨b0, b1, b2, b3⟩]; rfl
  exact ⟨this, fun M => by unfold lv; rw [this, if_pos rfl, ek]⟩
 obtain ⟨A1, l1⟩ := at1 i1 i2 i3 i4 q1 (by rw [e1]; exact hcell _ (Or.inl rfl))
 obtain ⟨A2, l2⟩ := at1 j1 j2 i3 i4 q2 (by rw [e2]; exact hcell _ (Or.inr (Or.inl rfl)))
 obtain ⟨A3, l3⟩ := at1 i1 i2 j3 j4 q3 (by rw [e3]; exact hcell _ (Or.inr (Or.inr (Or.inl rfl))))
 obtain ⟨A4, l4⟩ := at1 j1 j2 j3 j4 q4 (by rw [e4]; exact hcell _ (Or.inr (Or.inr (Or.inr rfl))))
 refine ⟨hz, A1, A2, A3, A4, ⟨by rw [l1, e1, z1], ?_⟩, ⟨by rw [l2, e2, z2], ?_⟩, ⟨by rw [l3, e3, z3], ?_⟩, ⟨by rw [l4, e4, z4], ?_⟩, ?_⟩
 · rw [l1, e1, get, if_pos rfl]
 · rw [l2, e2, get, if_neg (by omega), if_pos rfl]
 · rw [l3, e3, get, if_neg (by omega), if_neg (by omega), if_pos rfl]
 · rw [l4, e4, get, if_neg (by omega), if_neg (by omega), if_neg (by omega), if_pos rfl]
 · intro x y n1 n2 n3 n4
   unfold lv
   cases hat : atB W T xs x y
   · rfl
   · rw [if_pos rfl, if_pos rfl]
     obtain ⟨b0, b1, b2, b3⟩ := atB_in hat
     obtain ⟨k, hk, hkx, hky, _⟩ := place_idx b0 b1 b2 b3
     have ek : (y * W + x).toNat = k := by omega
     rw [ek, get]
     have m1 : k ≠ a := by rintro rfl; rw [← e1] at hkx hky; rw [q1x] at hkx; rw [q1y] at hky; exact n1 ⟨hkx.symm, hky.symm⟩
     have m2 : k ≠ a + 1 := by rintro rfl; rw [← e2] at hkx hky; rw [q2x] at hkx; rw [q2y] at hky; exact n2 ⟨hkx.symm, hky.symm⟩
     have m3 : k ≠ a + wn := by rintro rfl; rw [← e3] at hkx hky; rw [q3x] at hkx; rw [q3y] at hky; exact n3 ⟨hkx.symm, hky.symm⟩
     have m4 : k ≠ a + wn + 1 := by rintro rfl; rw [← e4] at hkx hky; rw [q4x] at hkx; rw [q4y] at hky; exact n4 ⟨hkx.symm, hky.symm⟩
     rw [if_neg m1, if_neg m2, if_neg m3, if_neg m4]

def flipD (W T : Int) (xs : List Bool) (L : List Int) (c : Nat) : Int := if 0 < rT W T xs L c true then 4 else -4
theorem flip_rT {W T : Int} {xs : List Bool} {L : List Int} {c : Nat} (h : lok W T xs L = true) (h' : lok W T xs (flipL W T L c) = true) (hm : mayB W T L c = true) {k : Nat} {nth : Bool} (hu : sUsed W T xs k nth = true) :
 rT W T xs (flipL W T L c) k nth = rT W T xs L k nth + (if sTo W k nth = c then flipD W T xs L c else 0) - (if k = c then flipD W T xs L c else 0) := by
 obtain ⟨hr, hlen, _⟩ := lok_rv h
 obtain ⟨v1, v2, v3, v4, v5, _⟩ := rv_true hr
 obtain ⟨hz, A1, A2, A3, A4, ⟨f1, g1⟩, ⟨f2, g2⟩, ⟨f3, g3⟩, ⟨f4, g4⟩, f5⟩ := flip_lv h hm
 have ek := cI_of v1 k
 have ec := cI_of v1 c
 obtain ⟨t1, t2⟩ := to_xy v1 hu
 have et : cI W (kx W (sTo W k nth).toNat) (ky W (sTo W k nth).toNat) = (sTo W k nth).toNat := cI_of v1 _
 have t0 := (sTo_lt v1 hu).1
 have hkc : k = c ↔ kx W k = kx W c ∧ ky W k = ky W c := ⟨fun e => by rw [e]; exact ⟨rfl, rfl⟩, fun e => by rw [← ek, ← ec, e.1, e.2]⟩
 have htc : sTo W k nth = c ↔ kx W (sTo W k nth).toNat = kx W c ∧ ky W (sTo W k nth).toNat = ky W c := ⟨fun e => by rw [e, Int.toNat_natCast]; exact ⟨rfl, rfl⟩, fun e => by
  have : (sTo W k nth).toNat = c := by rw [← et, ← ec, e.1, e.2]
  omega⟩
 have hd : flipD W T xs L c = if hz == dkP (kx W c - 1) (ky W c) then -4 else 4 := by
  unfold flipD
  rw [rT_eq h]
  have e1 : sLx W c true = kx W c - 1 := rfl
  have e2 : sWay true = 1 := rfl
  rw [e1, e2, f3]
  generalize dkP (kx W c - 1) (ky W c) = d
  cases hz <;> cases d <;> rfl
 obtain ⟨D, hDD⟩ : ∃ D, D = flipD W T xs L c := ⟨_, rfl⟩
 rw [← hDD] at hd ⊢
 rw [rT_eq h, rT_eq h']
 have eL : sLx W k nth = if nth then kx W k - 1 else kx W k := rfl
 rw [eL]
 rw [t1, t2] at htc
 clear eL ek ec et t1 t2 t0 hu hDD
 generalize kx W c = X at *
 generalize ky W c = Y at *
 generalize kx W k = i at *
 generalize ky W k = j at *
 have dn : dkP X Y = !dkP (X - 1) Y := by rw [dkP_e]; simp
 have ds : dkP (X - 1) (Y - 1) = !dkP (X - 1) Y := by have := dkP_n (X - 1) (Y - 1); rw [Int.sub_add_cancel] at this; rw [this]; simp
 cases nth
 · simp only [Bool.false_eq_true, if_false] at htc ⊢
   have e2 : sWay false = 4 := rfl
   rw [e2]
   by_cases c1 : i = X - 1 ∧ j = Y - 1
   · obtain ⟨rfl, rfl⟩ := c1
     rw [if_neg (fun e => by have := (htc.1 e).2; omega), if_neg (fun e => by have := (hkc.1 e).2; omega), f1, g1]
     generalize dkP (X - 1) (Y - 1) = d
     cases hz <;> cases d <;> rfl
   · by_cases c2 : i = X ∧ j = Y - 1
     · obtain ⟨rfl, rfl⟩ := c2
       rw [if_neg (fun e => by have := (htc.1 e).2; omega), if_neg (fun e => by have := (hkc.1 e).2; omega), f2, g2]
       generalize dkP _ (Y - 1) = d
       cases hz <;> cases d <;> rfl
     · by_cases c3 : i = X - 1 ∧ j = Y
       · obtain ⟨rfl, rfl⟩ := c3
         rw [if_pos (htc.2 ⟨by omega, rfl⟩), if_neg (fun e => by have := (hkc.1 e).1; omega), f3, g3, hd]
         generalize dkP (X - 1) _ = d
         cases hz <;> cases d <;> rfl
       · by_cases c4 : i = X ∧ j = Y
         · obtain ⟨rfl, rfl⟩ := c4
           rw [if_neg (fun e => by have := (htc.1 e).1; omega), if_pos (hkc.2 ⟨rfl, rfl⟩), f4, g4, dn, hd]
           generalize dkP (i - 1) j = d
           cases hz <;> cases d <;> rfl
         · rw [if_neg (fun e => by have := htc.1 e; omega), if_neg (fun e => by have := hkc.1 e; omega), f5 i j c1 c2 c3 c4]; omega
 · simp only [if_true] at htc ⊢
   have e2 : sWay true = 1 := rfl
   rw [e2]
   by_cases c1 : i - 1 = X - 1 ∧ j = Y - 1
   · have ei : i = X := by omega
     obtain ⟨-, rfl⟩ := c1
     subst ei
     rw [if_pos (htc.2 ⟨rfl, by omega⟩), if_neg (fun e => by have := (hkc.1 e).2; omega), f1, g1, ds, hd]
     generalize dkP (i - 1) Y = d
     cases hz <;> cases d <;> rfl
   · by_cases c2 : i - 1 = X ∧ j = Y - 1
     · have ei : i = X + 1 := by omega
       obtain ⟨h1, rfl⟩ := c2
       rw [if_neg (fun e => by have := (htc.1 e).1; omega), if_neg (fun e => by have := (hkc.1 e).2; omega), h1, f2, g2]
       generalize dkP X (Y - 1) = d
       cases hz <;> cases d <;> rfl
     · by_cases c3 : i - 1 = X - 1 ∧ j = Y
       · have ei : i = X := by omega
         obtain ⟨-, rfl⟩ := c3
         subst ei
         rw [if_neg (fun e => by have := (htc.1 e).2; omega), if_pos (hkc.2 ⟨rfl, rfl⟩), f3, g3, hd]
         generalize dkP (i - 1) j = d
         cases hz <;> cases d <;> rfl
       · by_cases c4 : i - 1 = X ∧ j = Y
         · obtain ⟨h1, rfl⟩ := c4
           rw [if_neg (fun e => by have := (htc.1 e).2; omega), if_neg (fun e => by have := (hkc.1 e).1; omega), h1, f4, g4]
           generalize dkP X j = d
           cases hz <;> cases d <;> rfl
         · rw [if_neg (fun e => by have := htc.1 e; omega), if_neg (fun e => by have := hkc.1 e; omega), f5 (i - 1) j c1 c2 c3 c4]; omega
theorem flip_height {W T : Int} {xs : List Bool} {L H H' : List Int} {N c : Nat} (hs : simpleB W T xs = true) (hN : (W + 1) * (T + 1) = (N : Int)) (ht : tok W T xs L = true) (ht' : tok W T xs (flipL W T L c) = true) (hm : mayB W T L c = true) (hH : HtsOf W T xs L H N) (hH' : HtsOf W T xs (flipL W T L c) H' N) :
 c < N ∧ (∀ k, k < N → H'.getD k 0 = if k = c then H.getD k 0 + flipD W T xs L c else H.getD k 0) := by
 obtain ⟨v1, v2, v3, v4, v5, v6⟩ := rv_true (simpleB_rv hs)
 have hfr := simple_first hs hN
 obtain ⟨fk, hfk⟩ := Int.eq_ofNat_of_zero_le hfr
 obtain ⟨hfN, hfa⟩ := first_hAt v1 hfk
 obtain ⟨hz, A1, A2, A3, A4, _⟩ := flip_lv (tok_lok1 ht) hm
 obtain ⟨s1, s2⟩ := cell_sides v1 A1
 have ec := cI_of v1 c
 have hcN : c < N := by
  obtain ⟨_, ⟨b1, b2⟩, _⟩ := cell_sides v1 A1
  obtain ⟨u0, u1, u2⟩ := sTo_lt v1 b1
  rw [b2, Int.sub_add_cancel, Int.sub_add_cancel, ec] at u2
  omega
 have hne : fk ≠ c := by
  rintro rfl
  -- the corner in the south-west is an earlier one
  have hu := s1.1
  obtain ⟨_, ⟨b1, b2⟩, ⟨c1, c2⟩, _⟩ := cell_sides v1 A1
  obtain ⟨u0, u1, u2⟩ := sTo_lt v1 c1
  obtain ⟨w0, w1, w2⟩ := sTo_lt v1 b1
  rw [c2] at u1
  rw [b2, Int.sub_add_cancel, Int.sub_add_cancel, ec] at w1
  rw [Int.sub_add_cancel] at u1
  have hlt : cI W (kx W fk - 1) (ky W fk - 1) < fk := by omega
  have h1 : 0 ≤ frstK W T xs (cI W (kx W fk - 1) (ky W fk - 1) + 1) := by
   rw [frstK_succ]
   split
   · rw [hu]; simp
   · omega
  have h2 := frstK_stay (N := N) h1 (by omega)
  have h3 := (frstK_lt W T xs (cI W (kx W fk - 1) (ky W fk - 1) + 1)).2
  rw [hfk] at h2; omega
 have all := corners_all hs hfk (fun k => H'.getD k 0 = if k = c then H.getD k 0 + flipD W T xs L c else H.getD k 0) (by rw [if_neg hne, hH.first fk hfk, hH'.first fk hfk]) (fun k nth hu => by
  obtain ⟨t0, t1, t2⟩ := sTo_lt v1 hu
  have hk : k < N := by omega
  have a := hH.side k nth hk hu
  have b := hH'.side k nth hk hu
  have r := flip_rT (tok_lok1 ht) (tok_lok1 ht') hm hu
  rw [r, ← a] at b
  have et : (sTo W k nth).toNat = c ↔ sTo W k nth = c := by omega
  by_cases e1 : sTo W k nth = c
  · rw [if_pos e1] at b
    rw [if_pos (et.2 e1)]
    by_cases e2 : k = c
    · rw [if_pos e2] at b ⊢; omega
    · rw [if_neg e2] at b ⊢; omega
  · rw [if_neg e1] at b
    rw [if_neg (fun e => e1 (et.1 e))]
    by_cases e2 : k = c
    · rw [if_pos e2] at b ⊢; omega
    · rw [if_neg e2] at b ⊢; omega)
 refine ⟨hcN, fun k hk => ?_⟩
 cases ha : hAt W T xs k
 · rw [hH.off k hk ha, hH'.off k hk ha, if_neg]
   rintro rfl
   have : hAt W T xs k = true := by unfold hAt; rw [A4]; rfl
   rw [this] at ha; cases ha
 · exact all k ha
end Go.Proofs.YtpcajacekmidbaaGreat

namespace Go.Proofs.YtpcajacekmidbaaGreat
open Go.RowKit
set_option linter.unusedVariables false
set_option maxRecDepth 100000
set_option linter.unusedSimpArgs false

theorem bset6H {w : World} {b : Nat} {u0 u1 u2 u3 u4 u5 v0 v1 v2 v3 v4 v5 : Value} {t : TypeId} (h : w.heap[b]? = some (.cells #[u0, u1, u2, u3, u4, u5] t (0, 0))) :
 ((((((w.setCell ⟨b, 0, none⟩ v0).setCell ⟨b, 1, none⟩ v1).setCell ⟨b, 2, none⟩ v2).setCell ⟨b, 3, none⟩ v3).setCell ⟨b, 4, none⟩ v4).setCell ⟨b, 5, none⟩ v5).heap[b]? = some (.cells #[v0, v1, v2, v3, v4, v5] t (0, 0)) := by
 have h0 := block_setCell h (i := 0) v0
 have h1 := block_setCell h0 (i := 1) v1
 have h2 := block_setCell h1 (i := 2) v2
 have h3 := block_setCell h2 (i := 3) v3
 have h4 := block_setCell h3 (i := 4) v4
 have h5 := block_setCell h4 (i := 5) v5
 simpa using h5
theorem hset6H {w : World} {b b6 : Nat} {o : Obj} (h : w.heap[b]? = some o) (hb : b ≠ b6) (v0 v1 v2 v3 v4 v5 : Value) : ((((((w.setCell ⟨b6, 0, none⟩ v0).setCell ⟨b6, 1, none⟩ v1).setCell ⟨b6, 2, none⟩ v2).setCell ⟨b6, 3, none⟩ v3).setCell ⟨b6, 4, none⟩ v4).setCell ⟨b6, 5, none⟩ v5).heap[b]? = some o :=
 heap_set_other (heap_set_other (heap_set_other (heap_set_other (heap_set_other (heap_set_other h (p := ⟨b6, 0, none⟩) hb v0) (p := ⟨b6, 1, none⟩) hb v1) (p := ⟨b6, 2, none⟩) hb v2) (p := ⟨b6, 3, none⟩) hb v3) (p := ⟨b6, 4, none⟩) hb v4) (p := ⟨b6, 5, none⟩) hb v5
theorem below6H {w w' : World} {B b : Nat} (h : Below B w w') (hb : B ≤ b) (v0 v1 v2 v3 v4 v5 : Value) : Below B w ((((((w'.setCell ⟨b, 0, none⟩ v0).setCell ⟨b, 1, none⟩ v1).setCell ⟨b, 2, none⟩ v2).setCell ⟨b, 3, none⟩ v3).setCell ⟨b, 4, none⟩ v4).setCell ⟨b, 5, none⟩ v5) :=
 (((((h.setCell (p := ⟨b, 0, none⟩) hb v0).setCell (p := ⟨b, 1, none⟩) hb v1).setCell (p := ⟨b, 2, none⟩) hb v2).setCell (p := ⟨b, 3, none⟩) hb v3).setCell (p := ⟨b, 4, none⟩) hb v4).setCell (p := ⟨b, 5, none⟩) hb v5

set_option maxHeartbeats 8000000 in
theorem riseAt_any (W T : Int) (a : Option Addr) (n cap : Nat) (xs : List Bool) (la : Option Addr) (m lcap : Nat) (L : List Int) (c : Nat) (w : World) (hn : n = xs.length) (hm : m = L.length) (hm' : m ≤ 1048576) (hk : lok W T xs L = true) (hc : (c : Int) < (W + 1) * (T + 1)) (ha : BoolsAt w a xs) (hl : IntsAt w la L) :
 Calls Tryz.prog 57 #[.agg #[.int .i64 W, .int .i64 T, .slice a n cap], .slice la m lcap, .int .i64 c] w fun e w' => e = .returned (.int .i64 (flipD W T xs L c)) ∧ Below w.heap.size w w' := by
 obtain ⟨hr, hlen, -⟩ := lok_rv hk
 obtain ⟨v1, v2, v3, v4, v5, v6⟩ := rv_true hr
 have hcb := corn_bd v1 v2 v3 v4
 obtain ⟨q0, q1, q2, q3⟩ := kxy v1 c
 have q4 := ky_le v1 hc
 have HN := Lib.hid hn; clear hn
 have HM := Lib.hid hm; clear hm
 have HA := Lib.hid ha; clear ha
 have HL := Lib.hid hl; clear hl
 have HWT : Hid ((n : Int) = W * T) := by show _ = _; rw [HN.out]; exact v5
 have HLN : Hid (m = n) := by show _ = _; rw [HM.out, HN.out]; exact hlen
 have HCC := Lib.hid hc
 have hos : sBoth W T xs c true = true → 0 ≤ (if sBoth W T xs c true then sCell W c true else 0) ∧ (if sBoth W T xs c true then sCell W c true else 0) < (m : Int) := by
  intro hb
  rw [hb, if_pos rfl]
  unfold sBoth at hb
  rw [Bool.and_eq_true] at hb
  have hin := atB_in (show atB W T xs (sLx W c true) (ky W c) = true from hb.1)
  obtain ⟨_, j1, j2⟩ := idx_bd hin.1 hin.2.1 hin.2.2.1 hin.2.2.2
  rw [← HWT.out] at j2
  exact ⟨j1, by rw [HLN.out]; exact j2⟩
 have hrt : rT W T xs L c true = if sBoth W T xs c true && (L.getD (if sBoth W T xs c true then sCell W c true else 0).toNat 0 == (if sBoth W T xs c true then sWay true else 0)) then -3 * sRise W c true else sRise W c true := by
  unfold rT; cases sBoth W T xs c true <;> rfl
 have hr1 := rise_one W c true
 have hc48 : (c : Int) < 49 := by omega
 obtain ⟨kt, hkt⟩ : ∃ kt, kt = sTo W c true := ⟨_, rfl⟩
 obtain ⟨rs, hrs⟩ : ∃ rs, rs = sRise W c true := ⟨_, rfl⟩
 obtain ⟨bo, hbo⟩ : ∃ bo, bo = sBoth W T xs c true := ⟨_, rfl⟩
 obtain ⟨cl, hcl⟩ : ∃ cl, cl = (if sBoth W T xs c true then sCell W c true else 0) := ⟨_, rfl⟩
 obtain ⟨wy, hwy⟩ : ∃ wy, wy = (if sBoth W T xs c true then sWay true else 0) := ⟨_, rfl⟩
 obtain ⟨us, hus⟩ : ∃ us, us = sUsed W T xs c true := ⟨_, rfl⟩
 have HV : Hid (sdV W T xs c true = .agg #[.int .i64 c, .int .i64 kt, .int .i64 rs, .bool bo, .int .i64 cl, .int .i64 wy]) := by show _ = _; rw [hkt, hrs, hbo, hcl, hwy]; rfl
 rw [← hcl, ← hwy, ← hbo, ← hrs] at hrt
 rw [← hcl, ← hbo] at hos
 rw [← hrs] at hr1
 obtain ⟨z, hz⟩ : ∃ z, z = rT W T xs L c true := ⟨_, rfl⟩
 have hfd : flipD W T xs L c = if 0 < z then 4 else -4 := by rw [hz]; rfl
 rw [hfd]
 rw [← hz] at hrt
 obtain ⟨D, hDD⟩ : ∃ D : Int, D = if 0 < z then 4 else -4 := ⟨_, rfl⟩
 rw [← hDD]
 have HDD := Lib.hid hDD
 have HRT := Lib.hid hrt; have HOS := Lib.hid hos; have HUS := Lib.hid hus; have HR1 := Lib.hid hr1
 clear hkt hrs hbo hcl hwy hus hz hfd hrt hDD hos hr hlen v5 v6 hc hr1
 obtain ⟨X, hX⟩ : ∃ X, X = kx W c := ⟨_, rfl⟩
 obtain ⟨Y, hY⟩ : ∃ Y, Y = ky W c := ⟨_, rfl⟩
 have t1 : (c : Int).tmod (W + 1) = X := by rw [hX]; exact Int.tmod_eq_emod_of_nonneg (by omega)
 have t2 : (c : Int).tdiv (W + 1) = Y := by rw [hY]; exact Int.tdiv_eq_ediv_of_nonneg (by omega)
 have HSF := fun w' h => sideFrom_north W T a n cap xs c w' HN.out v1 v2 v3 v4 HWT.out HCC.out h
 rw [← hX, ← hY] at HSF
 rw [← hX] at q0 q1; rw [← hY] at q2 q4
 have HSFH := Lib.hid HSF
 clear hX hY HSF q3
 have dz : ¬ W + 1 = 0 := by omega
 have dz2 : (W + 1 == 0) = false := by simp; omega
 have wW : IntKind.i64.wrap (W + 1) = W + 1 := by rw [IntKind.wrap_i64]; omega
 have wX : IntKind.i64.wrap X = X := by rw [IntKind.wrap_i64]; omega
 have wY : IntKind.i64.wrap Y = Y := by rw [IntKind.wrap_i64]; omega
 obtain ⟨wA, hwA⟩ : ∃ wA, wA = w.alloc (.cells #[.int .i64 W, .int .i64 T, .slice a n cap] 25) := ⟨_, rfl⟩
 have pA : wA.heap[w.heap.size]? = some (.cells #[.int .i64 W, .int .i64 T, .slice a n cap] 25 (0, 0)) := by rw [hwA]; exact heap_new _ _
 have bA : Below w.heap.size w wA := by rw [hwA]; exact below1 _ _
 go_enter Tryz.func57, Tryz.ntmps57
 go_wp2_with fail
 rw [← hwA]; clear hwA
 refine cut_region (fun a0 aa w' => ∃ (x10 x11 x12 x13 x14 x15 x16 x17 x18 x19 x20 x21 x9 x22 x23 : Value) (b6 : Nat), aa = (((((((((((((((((a0.put (some 10) x10).put (some 11) x11).put (some 12) x12).put (some 13) x13).put (some 14) x14).put (some 15) x15).put (some 16) x16).put (some 17) x17).put (some 18) x18).put (some 19) x19).put (some 20) x20).put (some 21) x21).put (some 9) x9).put (some 22) x22).put (some 23) x23).put (some 7) (.pointer (some ⟨b6, 0, none⟩))).put (some 8) (.bool us)) ∧ w'.heap[b6]? = some (.cells #[.int .i64 c, .int .i64 kt, .int .i64 rs, .bool bo, .int .i64 cl, .int .i64 wy] 77 (0, 0)) ∧ Below wA.heap.size wA w') ?_ ?_
 · have DB := Lib.hid (show Below wA.heap.size wA wA.drew from drew_below _)
   have D0 : wA.drew.heap[w.heap.size]? = some _ := pA
   have HSD := Lib.hid (show (fun w' : World => w'.cell? ⟨w.heap.size, 0, none⟩ = some (.int .i64 W) ∧ w'.cell? ⟨w.heap.size, 1, none⟩ = some (.int .i64 T) ∧ w'.cell? ⟨w.heap.size, 2, none⟩ = some (.slice a n cap)) wA.drew from ⟨(cells3 pA).1, (cells3 pA).2.1, (cells3 pA).2.2⟩)
   have lA := heap_lt pA
   refine wp_region_till (fun w' : World => w'.cell? ⟨w.heap.size, 0, none⟩ = some (.int .i64 W) ∧ w'.cell? ⟨w.heap.size, 1, none⟩ = some (.int .i64 T) ∧ w'.cell? ⟨w.heap.size, 2, none⟩ = some (.slice a n cap)) 17 (by kernel_rfl) ?_
   refine Till.take (i := 0) (v := ?_) rfl (by kernel_rfl) (by kernel_rfl) (by kernel_rfl) (by kernel_rfl) (fun _ _ _ h => nomatch h.1) (Or.inl ⟨by kernel_rfl, ?_⟩) HSD.out ?_
   rotate_left
   · intro ws hsw
     obtain ⟨s1, s2, s3⟩ := hsw
     go_simp
     try with_reducible rfl
   try simp only [Act.put, List.setIfInBounds_toArray, List.set_cons_zero, List.set_cons_succ]
   refine Till.take (i := 1) (v := ?_) rfl (by kernel_rfl) (by kernel_rfl) (by kernel_rfl) (by kernel_rfl) (fun _ _ _ h => nomatch h.1) (Or.inl ⟨by kernel_rfl, ?_⟩) HSD.out ?_
   rotate_left
   · intro ws hsw
     obtain ⟨s1, s2, s3⟩ := hsw
     go_simp
     try with_reducible rfl
   try simp only [Act.put, List.setIfInBounds_toArray, List.set_cons_zero, List.set_cons_succ]
   refine Till.take (i := 2) (v := ?_) rfl (by kernel_rfl) (by kernel_rfl) (by kernel_rfl) (by kernel_rfl) (fun _ _ _ h => nomatch h.1) (Or.inl ⟨by kernel_rfl, ?_⟩) HSD.out ?_
   rotate_left
   · intro ws hsw
     obtain ⟨s1, s2, s3⟩ := hsw
     go_simp
     try with_reducible rfl
   try simp only [Act.put, List.setIfInBounds_toArray, List.set_cons_zero, List.set_cons_succ]
   refine Till.take (i := 3) (v := ?_) rfl (by kernel_rfl) (by kernel_rfl) (by kernel_rfl) (by kernel_rfl) (fun _ _ _ h => nomatch h.1) (Or.inl ⟨by kernel_rfl, ?_⟩) HSD.out ?_
   rotate_left
   · intro ws hsw
     obtain ⟨s1, s2, s3⟩ := hsw
     go_simp
     try with_reducible rfl
   try simp only [Act.put, List.setIfInBounds_toArray, List.set_cons_zero, List.set_cons_succ]
   refine Till.take (i := 4) (v := ?_) rfl (by kernel_rfl) (by kernel_rfl) (by kernel_rfl) (by kernel_rfl) (fun _ _ _ h => nomatch h.1) (Or.inl ⟨by kernel_rfl, ?_⟩) HSD.out ?_
   rotate_left
   · intro ws hsw
     obtain ⟨s1, s2, s3⟩ := hsw
     go_simp
     try with_reducible rfl
   try simp only [Act.put, List.setIfInBounds_toArray, List.set_cons_zero, List.set_cons_succ]
   refine Till.take (i := 5) (v := ?_) rfl (by kernel_rfl) (by kernel_rfl) (by kernel_rfl) (by kernel_rfl) (fun _ _ _ h => nomatch h.1) (Or.inl ⟨by kernel_rfl, ?_⟩) HSD.out ?_
   rotate_left
   · intro ws hsw
     obtain ⟨s1, s2, s3⟩ := hsw
     go_simp
     try with_reducible rfl
   try simp only [Act.put, List.setIfInBounds_toArray, List.set_cons_zero, List.set_cons_succ]
   refine Till.take (i := 6) (v := ?_) rfl (by kernel_rfl) (by kernel_rfl) (by kernel_rfl) (by kernel_rfl) (fun _ _ _ h => nomatch h.1) (Or.inl ⟨by kernel_rfl, ?_⟩) HSD.out ?_
   rotate_left
   · intro ws hsw
     obtain ⟨s1, s2, s3⟩ := hsw
     go_simp
     try with_reducible rfl
   try simp only [Act.put, List.setIfInBounds_toArray, List.set_cons_zero, List.set_cons_succ]
   refine Till.take (i := 7) (v := ?_) rfl (by kernel_rfl) (by kernel_rfl) (by kernel_rfl) (by kernel_rfl) (fun _ _ _ h => nomatch h.1) (Or.inl ⟨by kernel_rfl, ?_⟩) HSD.out ?_
   rotate_left
   · intro ws hsw
     obtain ⟨s1, s2, s3⟩ := hsw
     go_simp
     try with_reducible rfl
   try simp only [Act.put, List.setIfInBounds_toArray, List.set_cons_zero, List.set_cons_succ]
   refine Till.take (i := 8) (v := ?_) rfl (by kernel_rfl) (by kernel_rfl) (by kernel_rfl) (by kernel_rfl) (fun _ _ _ h => nomatch h.1) (Or.inl ⟨by kernel_rfl, ?_⟩) HSD.out ?_
   rotate_left
   · intro ws hsw
     obtain ⟨s1, s2, s3⟩ := hsw
     go_simp
     try with_reducible rfl
   try simp only [Act.put, List.setIfInBounds_toArray, List.set_cons_zero, List.set_cons_succ]
   refine Till.take (i := 9) (v := ?_) rfl (by kernel_rfl) (by kernel_rfl) (by kernel_rfl) (by kernel_rfl) (fun _ _ _ h => nomatch h.1) (Or.inl ⟨by kernel_rfl, ?_⟩) HSD.out ?_
   rotate_left
   · intro ws hsw
     obtain ⟨s1, s2, s3⟩ := hsw
     go_simp
     try with_reducible rfl
   try simp only [Act.put, List.setIfInBounds_toArray, List.set_cons_zero, List.set_cons_succ]
   refine Till.take (i := 10) (v := ?_) rfl (by kernel_rfl) (by kernel_rfl) (by kernel_rfl) (by kernel_rfl) (fun _ _ _ h => nomatch h.1) (Or.inl ⟨by kernel_rfl, ?_⟩) HSD.out ?_
   rotate_left
   · intro ws hsw
     obtain ⟨s1, s2, s3⟩ := hsw
     go_simp
     try with_reducible rfl
   try simp only [Act.put, List.setIfInBounds_toArray, List.set_cons_zero, List.set_cons_succ]
   refine Till.two (i := 11) (j := 15) (by kernel_rfl) rfl rfl (by rfl) (by rfl) (fun K hK => ?_) (fun K hK => ?_)
   · go_simp
     refine (HSFH.out _ (HA.out.below (below_seq bA DB.out))).mono ?_; rintro e w5 ⟨rfl, hb5⟩
     rw [HV.out, ← HUS.out]
     have p5 := heap_later D0 hb5
     have S5 := Lib.hid (show (fun w' : World => w'.cell? ⟨w.heap.size, 0, none⟩ = some (.int .i64 W) ∧ w'.cell? ⟨w.heap.size, 1, none⟩ = some (.int .i64 T) ∧ w'.cell? ⟨w.heap.size, 2, none⟩ = some (.slice a n cap)) w5 from ⟨(cells3 p5).1, (cells3 p5).2.1, (cells3 p5).2.2⟩)
     have B5 := Lib.hid (below_seq DB.out hb5)
     refine hK.out _ _ (fun _ => S5.out) ?_
     clear hK K
     refine Till.take (i := 12) (v := ?_) rfl (by kernel_rfl) (by kernel_rfl) (by kernel_rfl) (by kernel_rfl) (fun _ _ _ h => nomatch h.1) (Or.inl ⟨by kernel_rfl, ?_⟩) S5.out ?_
     rotate_left
     · intro ws hsw
       obtain ⟨s1, s2, s3⟩ := hsw
       go_simp
       try with_reducible rfl
     try simp only [Act.put, List.setIfInBounds_toArray, List.set_cons_zero, List.set_cons_succ]
     refine Till.take (i := 13) (v := ?_) rfl (by kernel_rfl) (by kernel_rfl) (by kernel_rfl) (by kernel_rfl) (fun _ _ _ h => nomatch h.1) (Or.inl ⟨by kernel_rfl, ?_⟩) S5.out ?_
     rotate_left
     · intro ws hsw
       obtain ⟨s1, s2, s3⟩ := hsw
       go_simp
       try with_reducible rfl
     try simp only [Act.put, List.setIfInBounds_toArray, List.set_cons_zero, List.set_cons_succ]
     refine Till.take (i := 14) (v := ?_) rfl (by kernel_rfl) (by kernel_rfl) (by kernel_rfl) (by kernel_rfl) (fun _ _ _ h => nomatch h.1) (Or.inl ⟨by kernel_rfl, ?_⟩) S5.out ?_
     rotate_left
     · intro ws hsw
       obtain ⟨s1, s2, s3⟩ := hsw
       go_simp
       try with_reducible rfl
     try simp only [Act.put, List.setIfInBounds_toArray, List.set_cons_zero, List.set_cons_succ]
     refine Till.one (i := 15) (by kernel_rfl) rfl (by rfl) (fun K hK => ?_)
     go_simp
     refine hK.out _ _ (fun _ => ⟨(cells3 (heap_later p5 (below1 w5 (.cells #[.int .i64 0, .int .i64 0, .int .i64 0, .bool false, .int .i64 0, .int .i64 0] 77)))).1, (cells3 (heap_later p5 (below1 w5 (.cells #[.int .i64 0, .int .i64 0, .int .i64 0, .bool false, .int .i64 0, .int .i64 0] 77)))).2.1, (cells3 (heap_later p5 (below1 w5 (.cells #[.int .i64 0, .int .i64 0, .int .i64 0, .bool false, .int .i64 0, .int .i64 0] 77)))).2.2⟩) ?_
     clear hK K
     refine Till.one (i := 16) (by kernel_rfl) rfl (by rfl) (fun K hK => ?_)
     go_simp
     refine hK.out _ _ (fun _ => ⟨(cells3 (heap_later p5 (below1 _ _))).1, (cells3 (heap_later p5 (below1 _ _))).2.1, (cells3 (heap_later p5 (below1 _ _))).2.2⟩) ?_
     clear hK K
     refine Till.one (i := 17) (by kernel_rfl) rfl (by rfl) (fun K hK => ?_)
     go_simp
     refine hK.out _ _ (fun h => absurd rfl h) ?_
     clear hK K
     refine Till.done (by kernel_rfl) ⟨rfl, _, _, _, _, _, _, _, _, _, _, _, _, _, _, _, _, rfl, ?_, ?_⟩ _
     · exact heap_new _ _
     · exact below_seq B5.out (below1 _ _)
   · go_simp
     have BN := Lib.hid (show Below wA.heap.size wA (wA.alloc (.cells #[.int .i64 0, .int .i64 0, .int .i64 0, .bool false, .int .i64 0, .int .i64 0] 77)).drew from below_seq (below1 _ _) (drew_below _))
     have p5 := heap_later pA BN.out
     have s5 : (wA.alloc (.cells #[.int .i64 0, .int .i64 0, .int .i64 0, .bool false, .int .i64 0, .int .i64 0] 77)).drew.heap[wA.heap.size]? = some _ := heap_new wA (.cells #[.int .i64 0, .int .i64 0, .int .i64 0, .bool false, .int .i64 0, .int .i64 0] 77)
     refine hK.out _ _ (fun _ => ⟨(cells3 p5).1, (cells3 p5).2.1, (cells3 p5).2.2⟩) ?_
     clear hK K
     refine Till.one (i := 11) (by kernel_rfl) rfl (by rfl) (fun K hK => ?_)
     go_simp
     refine (HSFH.out _ (HA.out.below (below_seq bA BN.out))).mono ?_; rintro e w6 ⟨rfl, hb5⟩
     rw [HV.out, ← HUS.out]
     have p6 := heap_later p5 hb5
     have s6 := heap_later s5 hb5
     have S6 := Lib.hid (show (fun w' : World => w'.cell? ⟨w.heap.size, 0, none⟩ = some (.int .i64 W) ∧ w'.cell? ⟨w.heap.size, 1, none⟩ = some (.int .i64 T) ∧ w'.cell? ⟨w.heap.size, 2, none⟩ = some (.slice a n cap)) w6 from ⟨(cells3 p6).1, (cells3 p6).2.1, (cells3 p6).2.2⟩)
     have B6 := Lib.hid (below_seq BN.out hb5)
     refine hK.out _ _ (fun _ => S6.out) ?_
     clear hK K
     refine Till.take (i := 12) (v := ?_) rfl (by kernel_rfl) (by kernel_rfl) (by kernel_rfl) (by kernel_rfl) (fun _ _ _ h => nomatch h.1) (Or.inl ⟨by kernel_rfl, ?_⟩) S6.out ?_
     rotate_left
     · intro ws hsw
       obtain ⟨s1, s2, s3⟩ := hsw
       go_simp
       try with_reducible rfl
     try simp only [Act.put, List.setIfInBounds_toArray, List.set_cons_zero, List.set_cons_succ]
     refine Till.take (i := 13) (v := ?_) rfl (by kernel_rfl) (by kernel_rfl) (by kernel_rfl) (by kernel_rfl) (fun _ _ _ h => nomatch h.1) (Or.inl ⟨by kernel_rfl, ?_⟩) S6.out ?_
     rotate_left
     · intro ws hsw
       obtain ⟨s1, s2, s3⟩ := hsw
       go_simp
       try with_reducible rfl
     try simp only [Act.put, List.setIfInBounds_toArray, List.set_cons_zero, List.set_cons_succ]
     refine Till.take (i := 14) (v := ?_) rfl (by kernel_rfl) (by kernel_rfl) (by kernel_rfl) (by kernel_rfl) (fun _ _ _ h => nomatch h.1) (Or.inl ⟨by kernel_rfl, ?_⟩) S6.out ?_
     rotate_left
     · intro ws hsw
       obtain ⟨s1, s2, s3⟩ := hsw
       go_simp
       try with_reducible rfl
     try simp only [Act.put, List.setIfInBounds_toArray, List.set_cons_zero, List.set_cons_succ]
     obtain ⟨y0, y1, y2, y3, y4, y5⟩ := cells6 s6
     have e0 := free3 s6 0
     have e1 := free3 s6 1
     have e2 := free3 s6 2
     have e3 := free3 s6 3
     have e4 := free3 s6 4
     have e5 := free3 s6 5
     refine Till.one (i := 16) (by kernel_rfl) rfl (by rfl) (fun K hK => ?_)
     go_simp
     have hne : w.heap.size ≠ wA.heap.size := by omega
     have P7 := fun u0 u1 u2 u3 u4 u5 => hset6H p6 hne u0 u1 u2 u3 u4 u5
     refine hK.out _ _ (fun _ => ⟨(cells3 (P7 _ _ _ _ _ _)).1, (cells3 (P7 _ _ _ _ _ _)).2.1, (cells3 (P7 _ _ _ _ _ _)).2.2⟩) ?_
     clear hK K
     refine Till.one (i := 17) (by kernel_rfl) rfl (by rfl) (fun K hK => ?_)
     go_simp
     refine hK.out _ _ (fun h => absurd rfl h) ?_
     clear hK K
     refine Till.done (by kernel_rfl) ⟨rfl, _, _, _, _, _, _, _, _, _, _, _, _, _, _, _, _, rfl, ?_, ?_⟩ _
     · exact bset6H s6
     · exact below6H B6.out (Nat.le_refl _) _ _ _ _ _ _
 rintro aa w5 ⟨x10, x11, x12, x13, x14, x15, x16, x17, x18, x19, x20, x21, x9, x22, x23, b6, rfl, pk, hb5⟩
 try simp only [Act.put, List.setIfInBounds_toArray, List.set_cons_zero, List.set_cons_succ]
 have B5 := Lib.hid (below_seq bA hb5)
 obtain ⟨y0, y1, y2, y3, y4, y5⟩ := cells6 pk
 clear pA bA hb5
 go_wp2_with fail
 refine (riseUnder_any c kt rs cl wy bo la m lcap L _ HR1.out HM.out hm' HOS.out (HL.out.below B5.out)).mono ?_; rintro e w6 ⟨rfl, hb6⟩
 rw [← HRT.out]
 by_cases hz : 0 < z
 · have hD : Hid (D = 4) := by show _ = _; rw [HDD.out, if_pos hz]
   go_wp2
   go_ret
   exact ⟨by rw [hD.out]; rfl, below_seq B5.out hb6⟩
 · have hD : Hid (D = -4) := by show _ = _; rw [HDD.out, if_neg hz]
   go_wp2
   go_ret
   exact ⟨by rw [hD.out]; rfl, below_seq B5.out hb6⟩
end Go.Proofs.YtpcajacekmidbaaGreat

namespace Go.Proofs.YtpcajacekmidbaaGreat
open Go.RowKit
set_option linter.unusedVariables false
set_option maxRecDepth 100000
set_option linter.unusedSimpArgs false

def riseF (W T : Int) (xs : List Bool) (L : List Int) (c : Int) : Int := if (simpleB W T xs && tok W T xs L) && mayB W T L c then flipD W T xs L c.toNat else 0
theorem tok_flip {W T : Int} {xs : List Bool} {L : List Int} {c : Nat} (h : tok W T xs L = true) (hm : mayB W T L c = true) : tok W T xs (flipL W T L c) = true := by
 have hl := tok_lok1 h
 obtain ⟨hr, hlen, _⟩ := lok_rv hl
 obtain ⟨v1, v2, v3, v4, v5, _⟩ := rv_true hr
 have hl' : lok W T xs (flipL W T L c) = true := lok_flip hl _
 obtain ⟨_, hlen', _⟩ := lok_rv hl'
 obtain ⟨hz, A1, A2, A3, A4, ⟨f1, g1⟩, ⟨f2, g2⟩, ⟨f3, g3⟩, ⟨f4, g4⟩, f5⟩ := flip_lv hl hm
 have nz : ∀ x y, atB W T xs x y = true → lv W T xs (flipL W T L c) x y ≠ 0 := by
  intro x y ha
  by_cases c1 : x = kx W c - 1 ∧ y = ky W c - 1
  · rw [c1.1, c1.2, g1]; cases hz <;> decide
  by_cases c2 : x = kx W c ∧ y = ky W c - 1
  · rw [c2.1, c2.2, g2]; cases hz <;> decide
  by_cases c3 : x = kx W c - 1 ∧ y = ky W c
  · rw [c3.1, c3.2, g3]; cases hz <;> decide
  by_cases c4 : x = kx W c ∧ y = ky W c
  · rw [c4.1, c4.2, g4]; cases hz <;> decide
  rw [f5 x y c1 c2 c3 c4]
  exact tok_lv h ha
 refine tok_all hl' fun k _ hk => ?_
 have hkx : k < xs.length := by omega
 cases hx : xs.getD k false
 · unfold freeB; rw [hx]; rfl
 · have a0 := Int.emod_nonneg (k : Int) (show W ≠ 0 by omega)
   have a1 := Int.emod_lt_of_pos (k : Int) (show 0 < W by omega)
   have b0 := Int.ediv_nonneg (show (0 : Int) ≤ k by omega) (show 0 ≤ W by omega)
   have b1 : (k : Int) / W < T := Int.ediv_lt_of_lt_mul (by omega) (by rw [Int.mul_comm]; omega)
   have ae := Int.emod_add_mul_ediv (k : Int) W
   have ei : ((k : Int) / W * W + (k : Int) % W).toNat = k := by rw [Int.mul_comm]; omega
   have hat : atB W T xs ((k : Int) % W) ((k : Int) / W) = true := by
    unfold atB inF
    rw [decide_eq_true ⟨a0, a1, b0, b1⟩, ei, hx]; rfl
   have := nz _ _ hat
   unfold lv at this
   rw [hat, if_pos rfl, ei] at this
   unfold freeB
   rw [hx]
   simpa using this
theorem may_nat {W T : Int} {xs : List Bool} {L : List Int} {c : Int} (h : lok W T xs L = true) (hm : mayB W T L c = true) : ∃ k : Nat, c = k ∧ (k : Int) < (W + 1) * (T + 1) := by
 obtain ⟨hr, _, _⟩ := lok_rv h
 obtain ⟨v1, _⟩ := rv_true hr
 unfold mayB at hm
 simp only [Bool.and_eq_true] at hm
 obtain ⟨c0, c1⟩ := sq_rng v1 hm.1.1
 obtain ⟨k, hk⟩ := Int.eq_ofNat_of_zero_le c0
 exact ⟨k, hk, by rw [← hk]; exact c1⟩
theorem HtsR.full {W T : Int} {xs : List Bool} {L H : List Int} {N : Nat} (hN : (W + 1) * (T + 1) = (N : Int)) (h : HtsR W T xs L H) (h2 : (simpleB W T xs && tok W T xs L) = true) : HtsOf W T xs L H N := by
 rcases h with ⟨_, q⟩ | ⟨q, _⟩
 · rw [hN, Int.toNat_natCast] at q; exact q
 · rw [h2] at q; cases q
theorem HtsR.ent {W T : Int} {xs : List Bool} {L H : List Int} (h : HtsR W T xs L H) {k : Nat} (hk : k < H.length) : -49 ≤ H.getD k 0 ∧ H.getD k 0 ≤ 99 := by
 rcases h with ⟨_, hH⟩ | ⟨_, rfl⟩
 · rw [hH.len] at hk
   cases ha : hAt W T xs k
   · have := hH.off k hk ha; omega
   · have := hH.bd k hk ha; omega
 · simp at hk
theorem HtsR.none {W T : Int} {xs : List Bool} {L H : List Int} (h : HtsR W T xs L H) (h2 : (simpleB W T xs && tok W T xs L) = false) : H = [] := by
 rcases h with ⟨q, _⟩ | ⟨_, q⟩
 · rw [h2] at q; cases q
 · exact q

set_option maxHeartbeats 4000000 in
theorem sFlipRise_any (W T : Int) (a : Option Addr) (n cap : Nat) (xs : List Bool) (la : Option Addr) (m lcap : Nat) (L : List Int) (c : Int) (w : World) (hn : n = xs.length) (hn' : n ≤ 1048576) (hm : m = L.length) (hm' : m ≤ 1048576) (ha : BoolsAt w a xs) (hl : IntsAt w la L) :
 Calls Tryz.prog 30 #[.agg #[.int .i64 W, .int .i64 T, .slice a n cap], .slice la m lcap, .int .i64 c] w fun e w' => e = .returned (.int .i64 (riseF W T xs L c)) ∧ Below w.heap.size w w' := by
 have HN := Lib.hid hn; clear hn
 have HM := Lib.hid hm; clear hm
 have HA := Lib.hid ha; clear ha
 have HL := Lib.hid hl; clear hl
 have p0 := heap_new w (.cells #[.int .i64 W, .int .i64 T, .slice a n cap] 25)
 have b0 := below1 w (.cells #[.int .i64 W, .int .i64 T, .slice a n cap] 25)
 obtain ⟨D, hD⟩ : ∃ D, D = riseF W T xs L c := ⟨_, rfl⟩
 rw [← hD]
 obtain ⟨F, hF⟩ : ∃ F, F = (flpF W T xs L c).1 := ⟨_, rfl⟩
 obtain ⟨ok, hok⟩ : ∃ ok, ok = (flpF W T xs L c).2 := ⟨_, rfl⟩
 obtain ⟨A, hA⟩ := htsR_exist W T xs L
 obtain ⟨B, hB⟩ := htsR_exist W T xs F
 have hla := hA.len; have hlb := hB.len
 have hfl := flpF_len W T xs L c
 rw [← hF, ← HM.out] at hfl
 have HC1 := fun w' h h2 => sFlipOne_ret W T a n cap xs la m lcap L c w' HN.out hn' HM.out hm' h h2
 rw [← hF, ← hok] at HC1
 have HC1H := Lib.hid HC1; clear HC1
 obtain ⟨f, hf⟩ : ∃ f, f = F.length := ⟨_, rfl⟩
 obtain ⟨p, hp⟩ : ∃ p, p = A.length := ⟨_, rfl⟩
 obtain ⟨q, hq⟩ : ∃ q, q = B.length := ⟨_, rfl⟩
 rw [← hf] at hfl HC1H
 rw [← hp] at hla; rw [← hq] at hlb
 -- what is returned
 have hmain : (ok = false ∧ D = 0) ∨ (ok = true ∧ p = 0 ∧ D = 0) ∨ (ok = true ∧ ∃ k : Nat, c = k ∧ k < p ∧ k < q ∧ p = q ∧ D = B.getD k 0 - A.getD k 0 ∧ (-49 ≤ A.getD k 0 ∧ A.getD k 0 ≤ 99) ∧ (-49 ≤ B.getD k 0 ∧ B.getD k 0 ≤ 99)) := by
  cases h2 : (simpleB W T xs && tok W T xs L)
  · have hD0 : D = 0 := by rw [hD]; unfold riseF; rw [h2]; rfl
    cases ok
    · exact Or.inl ⟨rfl, hD0⟩
    · exact Or.inr (Or.inl ⟨rfl, by rw [hp, hA.none h2]; rfl, hD0⟩)
  · have h2' := h2
    rw [Bool.and_eq_true] at h2'
    obtain ⟨hs, ht⟩ := h2'
    have hlok := tok_lok1 ht
    have hok' : ok = mayB W T L c := by rw [hok]; unfold flpF; rw [hlok]; rfl
    have hF' : F = flipL W T L c := by rw [hF]; unfold flpF; rw [hlok]; rfl
    cases hmy : mayB W T L c
    · exact Or.inl ⟨by rw [hok', hmy], by rw [hD]; unfold riseF; rw [h2, hmy]; rfl⟩
    · obtain ⟨k, rfl, hk⟩ := may_nat hlok hmy
      obtain ⟨v1, v2, v3, v4, v5, v6⟩ := rv_true (simpleB_rv hs)
      have hcb := corn_bd v1 v2 v3 v4
      obtain ⟨N, hN⟩ := Int.eq_ofNat_of_zero_le (show 0 ≤ (W + 1) * (T + 1) by omega)
      have ht' := tok_flip ht hmy
      have gA := hA.full hN h2
      rw [hF'] at hB
      have gB := hB.full hN (by rw [hs, ht']; rfl)
      obtain ⟨hkN, hh⟩ := flip_height hs hN ht ht' hmy gA gB
      have e1 : p = N := by rw [hp]; exact gA.len
      have e2 : q = N := by rw [hq]; exact gB.len
      refine Or.inr (Or.inr ⟨by rw [hok', hmy], k, rfl, by omega, by omega, by omega, ?_, hA.ent (by rw [← hp]; omega), hB.ent (by rw [← hq]; omega)⟩)
      rw [hh k hkN, if_pos rfl, hD]
      unfold riseF
      rw [h2, hmy, Int.toNat_natCast]
      simp; omega
 have HHA := Lib.hid hA; have HHB := Lib.hid hB
 have HF := Lib.hid hf; have HP := Lib.hid hp; have HQ := Lib.hid hq; have HMAIN := Lib.hid hmain
 clear hD hF hok hA hB hf hp hq hmain
 go_enter Tryz.func30, Tryz.ntmps30
 go_wp2_with fail
 refine (HC1H.out _ (HA.out.below b0) (HL.out.below b0)).mono ?_; rintro e w1 ⟨a1, k1, rfl, o1, hb1⟩
 have b1 := below_seq b0 hb1
 have p1 := heap_later p0 hb1
 obtain ⟨c0, c1, c2⟩ := cells3 p1
 go_wp2_with fail
 refine (sHeightsOf_ret W T a n cap xs la m lcap L A _ HN.out hn' HM.out hm' (HA.out.below b1) (HL.out.below b1) HHA.out).mono ?_; rintro e w2 ⟨a2, k2, rfl, o2, hb2⟩
 have b2 := below_seq b1 hb2
 have p2 := heap_later p1 hb2
 have I1 := Lib.hid (OwnsI.at (o1.below hb2))
 clear c0 c1 c2 o1
 obtain ⟨c0, c1, c2⟩ := cells3 p2
 go_wp2_with fail
 refine (sHeightsOf_ret W T a n cap xs a1 f k1 F B _ HN.out hn' HF.out (by omega) (HA.out.below b2) I1.out HHB.out).mono ?_; rintro e w3 ⟨a3, k3, rfl, o3, hb3⟩
 have B3 := Lib.hid (below_seq b2 hb3)
 have I2 := Lib.hid (OwnsI.at (o2.below hb3))
 have I3 := Lib.hid (OwnsI.at o3)
 rw [← HP.out, ← HQ.out]
 clear o2 o3 b0 b1 b2 p0 p1 p2 hb1 hb2 hb3 c0 c1 c2 I1
 rcases HMAIN.out with ⟨rfl, hd⟩ | ⟨rfl, rfl, hd⟩ | ⟨rfl, k, rfl, hkp, hkq, hpq, hd, ⟨x0, x1⟩, ⟨y0, y1⟩⟩
 · have HD := Lib.hid hd; clear hd HMAIN
   go_wp2
   go_ret
   exact ⟨by rw [HD.out]; rfl, B3.out⟩
 · have HD := Lib.hid hd; clear hd HMAIN
   go_wp2
   go_ret
   exact ⟨by rw [HD.out]; rfl, B3.out⟩
 · subst hpq
   have hp0 : ¬ p = 0 := by omega
   have hp1 : (p == 0) = false := by simpa using hp0
   obtain ⟨g2, o2, rfl, hx⟩ := I2.out k (by rw [← HP.out]; exact hkp)
   obtain ⟨g3, o3, rfl, hy⟩ := I3.out k (by rw [← HQ.out]; exact hkp)
   obtain ⟨x, hxx⟩ : ∃ x, x = A.getD k 0 := ⟨_, rfl⟩
   obtain ⟨y, hyy⟩ : ∃ y, y = B.getD k 0 := ⟨_, rfl⟩
   rw [← hxx] at hx x0 x1 hd; rw [← hyy] at hy y0 y1 hd
   have HD := Lib.hid hd; clear hd hxx hyy HMAIN
   have k1' : (k : Int) < p := by omega
   have s1 : IntKind.i64.wrap (y - x) = y - x := by rw [IntKind.wrap_i64]; omega
   go_wp2_with fail
   go_quiet (fail)
   go_wp2
   go_ret
   exact ⟨by rw [HD.out]; rfl, below_drewN B3.out _⟩
end Go.Proofs.YtpcajacekmidbaaGreat
