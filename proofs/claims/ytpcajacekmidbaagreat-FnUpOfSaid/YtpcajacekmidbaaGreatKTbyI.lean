/- Plain facts: right heights jump along exactly one of the four sides of each cell, and so tell a tiling. Merged of: TbyM, TbyS, TbyI. -/
import Derived.Test.YtpcajacekmidbaaGreatKLatM
import Derived.Test.YtpcajacekmidbaaGreatKHtsQ
namespace Go.Proofs.YtpcajacekmidbaaGreat
open Go.RowKit
set_option linter.unusedVariables false
set_option maxRecDepth 100000
set_option linter.unusedSimpArgs false

def jmpB (W T : Int) (xs : List Bool) (H : List Int) (k : Nat) (nth : Bool) : Bool := sBoth W T xs k nth && (H.getD (sTo W k nth).toNat 0 - H.getD k 0 == -3 * sRise W k nth)
def wayJ (W : Int) (J : Nat → Bool → Bool) (c : Nat) : Int :=
 if J (cI W ((c : Int) % W) ((c : Int) / W)) false then 4
 else if J (cI W ((c : Int) % W + 1) ((c : Int) / W)) true then 1
 else if J (cI W ((c : Int) % W) ((c : Int) / W + 1)) false then 2
 else if J (cI W ((c : Int) % W) ((c : Int) / W)) true then 3 else 0
def jmpP (W T : Int) (xs : List Bool) (H : List Int) (P : List (Nat × Bool)) (k : Nat) (nth : Bool) : Bool := P.contains (k, nth) && jmpB W T xs H k nth
def tbyP (W T : Int) (xs : List Bool) (H : List Int) (P : List (Nat × Bool)) : List Int := (List.range xs.length).map (wayJ W (jmpP W T xs H P))
def tbyF (W T : Int) (xs : List Bool) (H : List Int) : List Int × Bool :=
 if hokB W T xs H then (tbyP W T xs H (sidesK W T xs ((W + 1) * (T + 1)).toNat), true) else ([], false)
theorem tbyP_len (W T : Int) (xs : List Bool) (H : List Int) (P : List (Nat × Bool)) : (tbyP W T xs H P).length = xs.length := by simp [tbyP]
theorem tbyP_get {W T : Int} {xs : List Bool} {H : List Int} {P : List (Nat × Bool)} {c : Nat} (hc : c < xs.length) : (tbyP W T xs H P).getD c 0 = wayJ W (jmpP W T xs H P) c := by simp [tbyP, hc]
theorem tbyP_nil (W T : Int) (xs : List Bool) (H : List Int) : tbyP W T xs H [] = List.replicate xs.length 0 := by
 refine ext_getD (by simp [tbyP]) fun c hc => ?_
 rw [tbyP_len] at hc
 rw [tbyP_get hc]
 unfold wayJ jmpP
 simp [hc]

theorem sRise_rs (W : Int) (k : Nat) (nth : Bool) : sRise W k nth = if dkP (sLx W k nth) (ky W k) then 1 else -1 := rfl
theorem side_ok {W T : Int} {xs : List Bool} {H : List Int} {N : Nat} (hr : sdsOk W T xs H N = true) {k : Nat} {nth : Bool} (hk : k < N) (hu : sUsed W T xs k nth = true) :
 (H.getD (sTo W k nth).toNat 0 - H.getD k 0 = sRise W k nth ∧ jmpB W T xs H k nth = false) ∨ (H.getD (sTo W k nth).toNat 0 - H.getD k 0 = -3 * sRise W k nth ∧ jmpB W T xs H k nth = true) := by
 have h := sdsOk_iff.1 hr (k, nth) (sidesK_mem.2 ⟨hk, hu⟩)
 unfold rMay at h
 simp only [Bool.or_eq_true, Bool.and_eq_true, beq_iff_eq] at h
 have r1 : sRise W k nth = 1 ∨ sRise W k nth = -1 := by unfold sRise; split <;> simp
 unfold jmpB
 rcases h with h | ⟨hb, h⟩
 · left
   refine ⟨h, ?_⟩
   rw [h]
   rcases r1 with e | e <;> rw [e] <;> simp
 · right
   refine ⟨h, ?_⟩
   rw [hb, h]; simp
def b2i (b : Bool) : Int := if b then 1 else 0
theorem four_jump {W T : Int} {xs : List Bool} {H : List Int} {N : Nat} (hW : 1 ≤ W) (hN : (W + 1) * (T + 1) = (N : Int)) (hr : sdsOk W T xs H N = true) {x y : Int} (ha : atB W T xs x y = true) :
 b2i (jmpB W T xs H (cI W x y) false) + b2i (jmpB W T xs H (cI W (x + 1) y) true) + b2i (jmpB W T xs H (cI W x (y + 1)) false) + b2i (jmpB W T xs H (cI W x y) true) = 1 := by
 obtain ⟨a0, a1, a2, a3⟩ := atB_in ha
 obtain ⟨p1, p2, p3⟩ := cI_xy (W := W) (x := x) (y := y) a0 (by omega) a2
 obtain ⟨q1, q2, q3⟩ := cI_xy (W := W) (x := x) (y := y + 1) a0 (by omega) (by omega)
 obtain ⟨r1, r2, r3⟩ := cI_xy (W := W) (x := x + 1) (y := y) (by omega) (by omega) a2
 obtain ⟨⟨s1, s2⟩, ⟨b1, b2⟩, ⟨c1, c2⟩, ⟨d1, d2⟩⟩ := cell_sides hW ha
 have lt : ∀ {k : Nat} {nth : Bool}, sUsed W T xs k nth = true → k < N := fun h => by obtain ⟨t0, t1, t2⟩ := sTo_lt hW h; omega
 have ga := side_ok hr (lt s1) s1
 have gb := side_ok hr (lt b1) b1
 have gc := side_ok hr (lt c1) c1
 have gd := side_ok hr (lt d1) d1
 rw [s2, Int.toNat_natCast, sRise_rs] at ga
 rw [b2, Int.toNat_natCast, sRise_rs] at gb
 rw [c2, Int.toNat_natCast, sRise_rs] at gc
 rw [d2, Int.toNat_natCast, sRise_rs] at gd
 have el : ∀ k, sLx W k false = kx W k := fun k => rfl
 have er : ∀ k, sLx W k true = kx W k - 1 := fun k => rfl
 rw [el, p2, p3] at ga
 rw [el, q2, q3, dkP_n] at gb
 rw [er, p2, p3, dkP_e] at gc
 rw [er, r2, r3, Int.add_sub_cancel] at gd
 generalize jmpB W T xs H (cI W x y) false = jS at *
 generalize jmpB W T xs H (cI W (x + 1) y) true = jE at *
 generalize jmpB W T xs H (cI W x (y + 1)) false = jN at *
 generalize jmpB W T xs H (cI W x y) true = jW at *
 generalize H.getD (cI W x y) 0 = h00 at *
 generalize H.getD (cI W (x + 1) y) 0 = h10 at *
 generalize H.getD (cI W x (y + 1)) 0 = h01 at *
 generalize H.getD (cI W (x + 1) (y + 1)) 0 = h11 at *
 generalize dkP x y = D at ga gb gc gd
 clear lt el er
 cases D <;> simp at ga gb gc gd <;>
  rcases ga with ⟨ga, rfl⟩ | ⟨ga, rfl⟩ <;> rcases gb with ⟨gb, rfl⟩ | ⟨gb, rfl⟩ <;> rcases gc with ⟨gc, rfl⟩ | ⟨gc, rfl⟩ <;> rcases gd with ⟨gd, rfl⟩ | ⟨gd, rfl⟩ <;> simp only [b2i, Bool.false_eq_true, if_true, if_false] <;> omega

theorem side_left {W T : Int} {xs : List Bool} {k : Nat} {nth : Bool} (hW : 1 ≤ W) (h : sBoth W T xs k nth = true) : ∃ a b : Nat, sCell W k nth = a ∧ sOther W k nth = b ∧ (a : Int) < W * T ∧ (b : Int) < W * T ∧ a ≠ b ∧
 (a : Int) % W = sLx W k nth ∧ (a : Int) / W = ky W k ∧ (b : Int) % W = kx W k ∧ (b : Int) / W = sRy W k nth ∧ atB W T xs (sLx W k nth) (ky W k) = true ∧ atB W T xs (kx W k) (sRy W k nth) = true := by
 unfold sBoth at h
 rw [Bool.and_eq_true] at h
 have hl : atB W T xs (sLx W k nth) (ky W k) = true := h.1
 have hr : atB W T xs (kx W k) (sRy W k nth) = true := h.2
 have l := atB_in hl
 have r := atB_in hr
 obtain ⟨a, ha, ax, ay, al⟩ := place_idx l.1 l.2.1 l.2.2.1 l.2.2.2
 obtain ⟨b, hb, bx, by_, bl⟩ := place_idx r.1 r.2.1 r.2.2.1 r.2.2.2
 refine ⟨a, b, ha.symm, hb.symm, al, bl, ?_, ax, ay, bx, by_, hl, hr⟩
 rintro rfl
 rw [ax] at bx
 rw [ay] at by_
 unfold sLx at bx
 unfold sRy at by_
 cases nth
 · simp at by_; omega
 · simp at bx; omega
theorem side_of {W T : Int} {xs : List Bool} {k a b : Nat} {nth : Bool} (hW : 1 ≤ W) (hk : sBoth W T xs k nth = true) (ha : sCell W k nth = a) (hb : sOther W k nth = b) {c : Nat} (hc : (c : Int) < W * T) :
 (cI W ((c : Int) % W) ((c : Int) / W) = k ∧ nth = false ↔ c = a ∧ nth = false) ∧ (cI W ((c : Int) % W + 1) ((c : Int) / W) = k ∧ nth = true ↔ c = a ∧ nth = true) ∧
 (cI W ((c : Int) % W) ((c : Int) / W + 1) = k ∧ nth = false ↔ c = b ∧ nth = false) ∧ (cI W ((c : Int) % W) ((c : Int) / W) = k ∧ nth = true ↔ c = b ∧ nth = true) := by
 obtain ⟨a', b', e1, e2, al, bl, hne, ax, ay, bx, by_, hl, hr⟩ := side_left hW hk
 obtain rfl : a' = a := by rw [ha] at e1; omega
 obtain rfl : b' = b := by rw [hb] at e2; omega
 have c0 := Int.emod_nonneg (c : Int) (show W ≠ 0 by omega)
 have c1 := Int.emod_lt_of_pos (c : Int) (show 0 < W by omega)
 have c2 := Int.ediv_nonneg (show (0 : Int) ≤ c by omega) (show 0 ≤ W by omega)
 have ce := Int.emod_add_mul_ediv (c : Int) W
 have ae := Int.emod_add_mul_ediv (a' : Int) W
 have be := Int.emod_add_mul_ediv (b' : Int) W
 obtain ⟨p1, p2, p3⟩ := cI_xy (W := W) (x := (c : Int) % W) (y := (c : Int) / W) c0 (by omega) c2
 obtain ⟨q1, q2, q3⟩ := cI_xy (W := W) (x := (c : Int) % W) (y := (c : Int) / W + 1) c0 (by omega) (by omega)
 obtain ⟨r1, r2, r3⟩ := cI_xy (W := W) (x := (c : Int) % W + 1) (y := (c : Int) / W) (by omega) (by omega) c2
 have ek := cI_of hW k
 have eq_of : ∀ {u v : Nat}, (u : Int) % W = (v : Int) % W → (u : Int) / W = (v : Int) / W → u = v := by
  intro u v h1 h2
  have a := Int.emod_add_mul_ediv (u : Int) W
  have b := Int.emod_add_mul_ediv (v : Int) W
  rw [h1, h2] at a
  omega
 unfold sLx at ax
 unfold sRy at by_
 cases nth
 · simp only [Bool.false_eq_true, if_false] at ax by_
   refine ⟨⟨?_, ?_⟩, ⟨fun h => by simp at h, fun h => by simp at h⟩, ⟨?_, ?_⟩, ⟨fun h => by simp at h, fun h => by simp at h⟩⟩
   · rintro ⟨rfl, _⟩; rw [p2] at ax; rw [p3] at ay; exact ⟨eq_of ax.symm ay.symm, rfl⟩
   · rintro ⟨rfl, _⟩; rw [ax, ay]; exact ⟨ek, rfl⟩
   · rintro ⟨rfl, _⟩; rw [q2] at bx; rw [q3] at by_; exact ⟨eq_of bx.symm (by omega), rfl⟩
   · rintro ⟨rfl, _⟩; rw [bx, by_, Int.sub_add_cancel]; exact ⟨ek, rfl⟩
 · simp only [if_true] at ax by_
   refine ⟨⟨fun h => by simp at h, fun h => by simp at h⟩, ⟨?_, ?_⟩, ⟨fun h => by simp at h, fun h => by simp at h⟩, ⟨?_, ?_⟩⟩
   · rintro ⟨rfl, _⟩; rw [r2] at ax; rw [r3] at ay; exact ⟨eq_of (by omega) ay.symm, rfl⟩
   · rintro ⟨rfl, _⟩; rw [ax, ay, Int.sub_add_cancel]; exact ⟨ek, rfl⟩
   · rintro ⟨rfl, _⟩; rw [p2] at bx; rw [p3] at by_; exact ⟨eq_of bx.symm by_.symm, rfl⟩
   · rintro ⟨rfl, _⟩; rw [bx, by_]; exact ⟨ek, rfl⟩

theorem jmpP_snoc (W T : Int) (xs : List Bool) (H : List Int) (P : List (Nat × Bool)) (k k' : Nat) (nth nth' : Bool) : jmpP W T xs H (P ++ [(k, nth)]) k' nth' = (jmpP W T xs H P k' nth' || ((decide (k' = k ∧ nth' = nth)) && jmpB W T xs H k' nth')) := by
 unfold jmpP
 rw [← Bool.and_or_distrib_right]
 congr 1
 rw [Bool.eq_iff_iff]
 simp
theorem tby_skip {W T : Int} {xs : List Bool} {H : List Int} {P : List (Nat × Bool)} {k : Nat} {nth : Bool} (h : jmpB W T xs H k nth = false) : tbyP W T xs H (P ++ [(k, nth)]) = tbyP W T xs H P := by
 unfold tbyP
 refine congrArg (fun f => (List.range xs.length).map (wayJ W f)) (funext fun k' => funext fun nth' => ?_)
 rw [jmpP_snoc]
 by_cases e : k' = k ∧ nth' = nth
 · rw [e.1, e.2, h]; simp
 · rw [decide_eq_false e]; simp
theorem tby_jump {W T : Int} {xs : List Bool} {H : List Int} {N : Nat} {P : List (Nat × Bool)} {k a b : Nat} {nth : Bool} (hW : 1 ≤ W) (hN : (W + 1) * (T + 1) = (N : Int)) (hl : (xs.length : Int) = W * T) (hr : sdsOk W T xs H N = true) (hP : ¬ (k, nth) ∈ P) (hj : jmpB W T xs H k nth = true) (ha : sCell W k nth = a) (hb : sOther W k nth = b) :
 (tbyP W T xs H P).getD a 0 = 0 ∧ (tbyP W T xs H P).getD b 0 = 0 ∧ tbyP W T xs H (P ++ [(k, nth)]) = ((tbyP W T xs H P).set a (sWay nth)).set b (backI (sWay nth)) ∧ a < xs.length ∧ b < xs.length ∧ a ≠ b ∧ xs.getD a false = true ∧ xs.getD b false = true := by
 have hbo : sBoth W T xs k nth = true := by unfold jmpB at hj; rw [Bool.and_eq_true] at hj; exact hj.1
 obtain ⟨a', b', e1, e2, al, bl, hne, ax, ay, bx, by_, hla, hra⟩ := side_left hW hbo
 obtain rfl : a' = a := by rw [ha] at e1; omega
 obtain rfl : b' = b := by rw [hb] at e2; omega
 have haL : a' < xs.length := by omega
 have hbL : b' < xs.length := by omega
 have ha4 := four_jump hW hN hr hla
 have hb4 := four_jump hW hN hr hra
 rw [← ax, ← ay] at ha4
 rw [← bx, ← by_] at hb4
 obtain ⟨sa1, sa2, sa3, sa4⟩ := side_of hW hbo ha hb al
 obtain ⟨sb1, sb2, sb3, sb4⟩ := side_of hW hbo ha hb bl
 have hle : ∀ k' nth', jmpP W T xs H P k' nth' = true → jmpB W T xs H k' nth' = true ∧ ¬ (k' = k ∧ nth' = nth) := by
  intro k' nth' h
  unfold jmpP at h
  rw [Bool.and_eq_true, List.contains_iff_mem] at h
  refine ⟨h.2, ?_⟩
  rintro ⟨rfl, rfl⟩
  exact hP h.1
 have one : ∀ {p q r s : Bool}, b2i p + b2i q + b2i r + b2i s = 1 → (p = true → q = false ∧ r = false ∧ s = false) ∧ (q = true → p = false ∧ r = false ∧ s = false) ∧ (r = true → p = false ∧ q = false ∧ s = false) ∧ (s = true → p = false ∧ q = false ∧ r = false) := by
  intro p q r s
  cases p <;> cases q <;> cases r <;> cases s <;> simp [b2i]
 obtain ⟨oa1, oa2, oa3, oa4⟩ := one ha4
 obtain ⟨ob1, ob2, ob3, ob4⟩ := one hb4
 -- the old list is free at both cells
 have zero : ∀ {c : Nat}, (∀ k' nth', (k' = cI W ((c : Int) % W) ((c : Int) / W) ∧ nth' = false ∨ k' = cI W ((c : Int) % W + 1) ((c : Int) / W) ∧ nth' = true ∨ k' = cI W ((c : Int) % W) ((c : Int) / W + 1) ∧ nth' = false ∨ k' = cI W ((c : Int) % W) ((c : Int) / W) ∧ nth' = true) → jmpP W T xs H P k' nth' = false) → wayJ W (jmpP W T xs H P) c = 0 := by
  intro c h
  unfold wayJ
  rw [h _ _ (Or.inl ⟨rfl, rfl⟩), h _ _ (Or.inr (Or.inl ⟨rfl, rfl⟩)), h _ _ (Or.inr (Or.inr (Or.inl ⟨rfl, rfl⟩))), h _ _ (Or.inr (Or.inr (Or.inr ⟨rfl, rfl⟩)))]
  simp
 have no : ∀ {k' : Nat} {nth' : Bool}, jmpB W T xs H k' nth' = false ∨ (k' = k ∧ nth' = nth) → jmpP W T xs H P k' nth' = false := by
  intro k' nth' h
  cases hh : jmpP W T xs H P k' nth'
  · rfl
  · obtain ⟨h1, h2⟩ := hle _ _ hh
    rcases h with h | h
    · rw [h] at h1; cases h1
    · exact absurd h h2
 have za : wayJ W (jmpP W T xs H P) a' = 0 := by
  cases nth
  · have e := (sa1.2 ⟨rfl, rfl⟩).1
    obtain ⟨n1, n2, n3⟩ := oa1 (by rw [e]; exact hj)
    refine zero fun k' nth' h => ?_
    rcases h with ⟨rfl, rfl⟩ | ⟨rfl, rfl⟩ | ⟨rfl, rfl⟩ | ⟨rfl, rfl⟩
    · exact no (Or.inr ⟨e, rfl⟩)
    · exact no (Or.inl n1)
    · exact no (Or.inl n2)
    · exact no (Or.inl n3)
  · have e := (sa2.2 ⟨rfl, rfl⟩).1
    obtain ⟨n1, n2, n3⟩ := oa2 (by rw [e]; exact hj)
    refine zero fun k' nth' h => ?_
    rcases h with ⟨rfl, rfl⟩ | ⟨rfl, rfl⟩ | ⟨rfl, rfl⟩ | ⟨rfl, rfl⟩
    · exact no (Or.inl n1)
    · exact no (Or.inr ⟨e, rfl⟩)
    · exact no (Or.inl n2)
    · exact no (Or.inl n3)
 have zb : wayJ W (jmpP W T xs H P) b' = 0 := by
  cases nth
  · have e := (sb3.2 ⟨rfl, rfl⟩).1
    obtain ⟨n1, n2, n3⟩ := ob3 (by rw [e]; exact hj)
    refine zero fun k' nth' h => ?_
    rcases h with ⟨rfl, rfl⟩ | ⟨rfl, rfl⟩ | ⟨rfl, rfl⟩ | ⟨rfl, rfl⟩
    · exact no (Or.inl n1)
    · exact no (Or.inl n2)
    · exact no (Or.inr ⟨e, rfl⟩)
    · exact no (Or.inl n3)
  · have e := (sb4.2 ⟨rfl, rfl⟩).1
    obtain ⟨n1, n2, n3⟩ := ob4 (by rw [e]; exact hj)
    refine zero fun k' nth' h => ?_
    rcases h with ⟨rfl, rfl⟩ | ⟨rfl, rfl⟩ | ⟨rfl, rfl⟩ | ⟨rfl, rfl⟩
    · exact no (Or.inl n1)
    · exact no (Or.inl n2)
    · exact no (Or.inl n3)
    · exact no (Or.inr ⟨e, rfl⟩)
 have cell : ∀ {x y : Int} {c : Nat}, atB W T xs x y = true → (c : Int) = y * W + x → xs.getD c false = true := by
  intro x y c h e
  unfold atB at h
  rw [Bool.and_eq_true, show (y * W + x).toNat = c by omega] at h
  exact h.2
 refine ⟨by rw [tbyP_get haL]; exact za, by rw [tbyP_get hbL]; exact zb, ?_, haL, hbL, hne, cell hla (by rw [← ha]; rfl), cell hra (by rw [← hb]; rfl)⟩
 refine ext_getD (by simp [tbyP]) fun c hc => ?_
 rw [tbyP_len] at hc
 have hcl : (c : Int) < W * T := by omega
 rw [tbyP_get hc, getD_set2 (by rw [tbyP_len]; exact haL) (by rw [tbyP_len]; exact hbL), tbyP_get hc]
 obtain ⟨sc1, sc2, sc3, sc4⟩ := side_of hW hbo ha hb hcl
 have snoc := jmpP_snoc W T xs H P k
 unfold wayJ at za zb ⊢
 simp only [snoc]
 by_cases hcb : c = b'
 · rw [if_pos hcb]
   subst hcb
   cases nth
   · have e := (sc3.2 ⟨rfl, rfl⟩).1
     obtain ⟨n1, n2, n3⟩ := ob3 (by rw [e]; exact hj)
     rw [no (Or.inl n1), no (Or.inl n2), n1, n2]
     rw [e, hj]
     simp [sWay, backI]
   · have e := (sc4.2 ⟨rfl, rfl⟩).1
     obtain ⟨n1, n2, n3⟩ := ob4 (by rw [e]; exact hj)
     rw [no (Or.inl n1), no (Or.inl n2), no (Or.inl n3), n1, n2, n3]
     rw [e, hj]
     simp [sWay, backI]
 · rw [if_neg hcb]
   by_cases hca : c = a'
   · rw [if_pos hca]
     subst hca
     cases nth
     · have e := (sc1.2 ⟨rfl, rfl⟩).1
       rw [e, hj]
       simp [sWay]
     · have e := (sc2.2 ⟨rfl, rfl⟩).1
       obtain ⟨n1, n2, n3⟩ := oa2 (by rw [e]; exact hj)
       rw [no (Or.inl n1), n1, e, hj]
       simp [sWay]
   · rw [if_neg hca]
     have f1 : (decide (cI W ((c : Int) % W) ((c : Int) / W) = k ∧ false = nth)) = false := decide_eq_false fun h => hca (sc1.1 ⟨h.1, h.2.symm⟩).1
     have f2 : (decide (cI W ((c : Int) % W + 1) ((c : Int) / W) = k ∧ true = nth)) = false := decide_eq_false fun h => hca (sc2.1 ⟨h.1, h.2.symm⟩).1
     have f3 : (decide (cI W ((c : Int) % W) ((c : Int) / W + 1) = k ∧ false = nth)) = false := decide_eq_false fun h => hcb (sc3.1 ⟨h.1, h.2.symm⟩).1
     have f4 : (decide (cI W ((c : Int) % W) ((c : Int) / W) = k ∧ true = nth)) = false := decide_eq_false fun h => hcb (sc4.1 ⟨h.1, h.2.symm⟩).1
     rw [f1, f2, f3, f4]
     simp only [Bool.false_and, Bool.or_false]
theorem sidesK_nodup (W T : Int) (xs : List Bool) : ∀ n, (sidesK W T xs n).Nodup
 | 0 => by simp [sidesK]
 | n + 1 => by
   rw [sidesK_succ, List.nodup_append]
   refine ⟨sidesK_nodup W T xs n, ?_, fun s hs s' hs' e => ?_⟩
   · cases sUsed W T xs n false <;> cases sUsed W T xs n true <;> simp
   · subst e
     obtain ⟨k, nth⟩ := s
     have h1 := (sidesK_mem.1 hs).1
     rw [List.mem_append] at hs'
     rcases hs' with hs' | hs' <;> split at hs' <;> simp at hs' <;> omega
theorem take_not {α : Type} {l : List α} (hn : l.Nodup) {i : Nat} (hi : i < l.length) : ¬ l[i] ∈ l.take i := by
 intro h
 obtain ⟨j, hj, e⟩ := List.getElem_of_mem h
 have hji : j < i := by rw [List.length_take] at hj; omega
 rw [List.getElem_take] at e
 have := (List.getElem_inj hn).1 e
 omega
end Go.Proofs.YtpcajacekmidbaaGreat

namespace Go.Proofs.YtpcajacekmidbaaGreat
open Go.RowKit
set_option linter.unusedVariables false
set_option maxRecDepth 100000
set_option linter.unusedSimpArgs false

theorem hokB_parts {W T : Int} {xs : List Bool} {H : List Int} {N : Nat} (hN : (W + 1) * (T + 1) = (N : Int)) (h : hokB W T xs H = true) : simpleB W T xs = true ∧ H.length = N ∧ hsMay W T xs H N = true ∧ sdsOk W T xs H N = true := by
 unfold hokB at h
 simp only [Bool.and_eq_true, decide_eq_true_eq] at h
 have hl : H.length = N := by have := h.1.1.1.2; rw [hN] at this; omega
 refine ⟨h.1.1.1.1, hl, ?_, ?_⟩
 · have := h.1.1.2; rw [hl] at this; exact this
 · have := h.1.2; rw [hl] at this; exact this
end Go.Proofs.YtpcajacekmidbaaGreat

namespace Go.Proofs.YtpcajacekmidbaaGreat
open Go.RowKit
set_option linter.unusedVariables false
set_option maxRecDepth 100000
set_option linter.unusedSimpArgs false

theorem OwnsSd.keptB {w w' : World} {B : Nat} {v : Value} {W T : Int} {xs : List Bool} {l : List (Nat × Bool)} {g : Nat} (h : OwnsSd w B v W T xs l) (hg : w.grownBy w' (some g)) (hne : v.ownBlock ≠ some g) : OwnsSd w' B v W T xs l :=
 World.ownsRow.kept h hg (Or.inr hne)
theorem tby_lay {W T : Int} {xs : List Bool} {H : List Int} {N : Nat} {P : List (Nat × Bool)} {k : Nat} {nth : Bool} (hW : 1 ≤ W) (hN : (W + 1) * (T + 1) = (N : Int)) (hl : (xs.length : Int) = W * T) (hr : sdsOk W T xs H N = true) (hP : ¬ (k, nth) ∈ P) (hj : jmpB W T xs H k nth = true) :
 laidL W T xs (tbyP W T xs H P) (sCell W k nth) (sWay nth) = tbyP W T xs H (P ++ [(k, nth)]) := by
 have hbo : sBoth W T xs k nth = true := by unfold jmpB at hj; rw [Bool.and_eq_true] at hj; exact hj.1
 obtain ⟨p, q, e1, e2, _⟩ := side_left hW hbo
 obtain ⟨f1, f2, f3, f4, f5, f6, f7, f8⟩ := tby_jump hW hN hl hr hP hj e1 e2
 have hst := step_side hW hbo (v := sWay nth) (by unfold sWay; cases nth <;> decide) (by unfold sWay; cases nth <;> decide)
 rw [beq_self_eq_true, e1, e2, beq_iff_eq] at hst
 have hcb : cellB W T xs.length (p : Int) (sWay nth) = q := by unfold cellB; rw [if_pos (by omega)]; exact hst
 have hc : canLay W T xs (tbyP W T xs H P) (p : Int) (sWay nth) = true := by
  refine canLay_yes (by rw [hcb]; omega) ?_ ?_
  · rw [Int.toNat_natCast]; unfold freeB; rw [f7, f1]; rfl
  · rw [hcb, Int.toNat_natCast]; unfold freeB; rw [f8, f2]; rfl
 rw [e1]
 unfold laidL
 rw [hc, if_pos rfl, hcb, Int.toNat_natCast, Int.toNat_natCast, f3]

set_option maxHeartbeats 16000000 in
theorem iTilingBy_ret (W T : Int) (a : Option Addr) (n cap : Nat) (xs : List Bool) (la : Option Addr) (m lcap : Nat) (H : List Int) (w : World) (hn : n = xs.length) (hn' : n ≤ 1048576) (hm : m = H.length) (hm' : m ≤ 1048576) (ha : BoolsAt w a xs) (hl : IntsAt w la H) :
 Calls Tryz.prog 41 #[.agg #[.int .i64 W, .int .i64 T, .slice a n cap], .slice la m lcap] w (RetLT w (tbyF W T xs H).1.length (tbyF W T xs H).1 (tbyF W T xs H).2) := by
 have HN := Lib.hid hn; clear hn
 have HM := Lib.hid hm; clear hm
 have HA := Lib.hid ha; clear ha
 have HL := Lib.hid hl; clear hl
 cases h : hokB W T xs H
 · have e : tbyF W T xs H = ([], false) := by unfold tbyF; rw [h]; rfl
   rw [e]
   have HS := Lib.hid h; clear h e
   go_enter Tryz.func41, Tryz.ntmps41
   go_wp2_with fail
   refine (iHeightsOk_any _ _ _ _ _ xs _ _ _ H _ HN.out hn' HM.out hm' (HA.out.one _) (HL.out.one _)).mono ?_; rintro e w1 ⟨rfl, hb1⟩
   rw [HS.out]
   go_wp2
   go_ret2
   exact ⟨none, 0, rfl, OwnsI.nil _ _, below_seq (below1 _ _) hb1⟩
 have hr0 : rv W T xs = true := by
  unfold hokB at h
  simp only [Bool.and_eq_true, decide_eq_true_eq] at h
  exact simpleB_rv h.1.1.1.1
 obtain ⟨v1, v2, v3, v4, v5, v6⟩ := rv_true hr0
 have hcb := corn_bd v1 v2 v3 v4
 obtain ⟨N, hN⟩ := Int.eq_ofNat_of_zero_le (show 0 ≤ (W + 1) * (T + 1) by omega)
 obtain ⟨hs, hlN, hmay, hsds⟩ := hokB_parts hN h
 have hfr := simple_first hs hN
 obtain ⟨hd, rest, hsd⟩ := sidesK_head (W := W) (T := T) (xs := xs) (n := N) hfr
 rw [hN] at hcb
 have hN49 : N ≤ 49 := by omega
 have hmN : m = N := by rw [HM.out]; exact hlN
 subst hmN
 have e : tbyF W T xs H = (tbyP W T xs H (sidesK W T xs m), true) := by unfold tbyF; rw [h, hN]; rfl
 rw [e]
 obtain ⟨l, hl0⟩ : ∃ l, l = sidesK W T xs m := ⟨_, rfl⟩
 have hll : 0 < l.length := by rw [hl0, hsd]; simp
 have hlq : l.length ≤ 100 := by have := sidesK_len W T xs m; rw [← hl0] at this; omega
 have HMEM : Hid (∀ i (hi : i < l.length), l[i].1 < m ∧ sUsed W T xs l[i].1 l[i].2 = true) := by
  intro i hi; subst hl0; exact sidesK_mem.1 (List.getElem_mem hi)
 have HNOT : Hid (∀ i (hi : i < l.length), ¬ l[i] ∈ l.take i) := by
  intro i hi; subst hl0; exact take_not (sidesK_nodup W T xs m) hi
 rw [← hl0]
 have HLL := Lib.hid hl0
 have HE : Hid ((tbyP W T xs H l).length = n) := by show _ = _; rw [tbyP_len, HN.out]
 have HBL : Hid (bareL W T xs = tbyP W T xs H []) := by show _ = _; unfold bareL; rw [hr0, if_pos rfl, tbyP_nil]
 have HWT : Hid ((n : Int) = W * T) := by show _ = _; rw [HN.out]; exact v5
 have HXL : Hid ((xs.length : Int) = W * T) := v5
 have hpn : 0 < n := rv_pos v1 v3 HWT.out
 have HOK := Lib.hid h; have HMAY := Lib.hid hmay; have HSDS := Lib.hid hsds; have HNN := Lib.hid hN; have HR := Lib.hid hr0
 clear h hr0 hN hcb hs hlN hmay hsds e v5 v6 hfr hsd hl0
 obtain ⟨wA, hwA⟩ : ∃ wA, wA = w.alloc (.cells #[.int .i64 W, .int .i64 T, .slice a n cap] 25) := ⟨_, rfl⟩
 have pA : wA.heap[w.heap.size]? = some (.cells #[.int .i64 W, .int .i64 T, .slice a n cap] 25 (0, 0)) := by rw [hwA]; exact heap_new _ _
 have bA : Below w.heap.size w wA := by rw [hwA]; exact below1 _ _
 obtain ⟨c0, c1, c2⟩ := cells3 pA
 go_enter Tryz.func41, Tryz.ntmps41
 go_wp2_with fail
 rw [← hwA]; clear hwA
 refine (iHeightsOk_any _ _ _ _ _ xs _ _ _ H _ HN.out hn' HM.out hm' (HA.out.below bA) (HL.out.below bA)).mono ?_; rintro e w1 ⟨rfl, hb1⟩
 rw [HOK.out]
 have p1 := heap_later pA hb1
 have b1 := below_seq bA hb1
 clear hb1 c0 c1 c2 pA bA
 obtain ⟨c0, c1, c2⟩ := cells3 p1
 have lw1 := heap_lt p1
 go_wp2_with fail
 refine (iLaidBare_ret _ _ _ _ _ xs _ HN.out hn' (HA.out.below b1)).mono ?_; rintro e w2 ⟨a2, cap2, rfl, ho2, hb2⟩
 rw [HBL.out] at ho2 ⊢
 rw [tbyP_len, ← HN.out] at ho2 ⊢
 have p2 := heap_later p1 hb2
 have B2 := Lib.hid (below_seq b1 hb2)
 obtain ⟨g, pcap, hv, hg1, hg2⟩ := ho2.pos (by rw [tbyP_len, ← HN.out]; exact hpn)
 rw [tbyP_len, ← HN.out] at hv
 rw [hv] at ho2
 simp only [Value.slice.injEq] at hv
 obtain ⟨rfl, -, rfl⟩ := hv
 have O2 := Lib.hid ho2
 clear ho2 hb2 b1 p1 c0 c1 c2
 obtain ⟨c0, c1, c2⟩ := cells3 p2
 go_wp2_with fail
 refine (sidesOf_any _ _ _ _ _ xs m _ HN.out hn' HR.out HNN.out (HA.out.below B2.out)).mono ?_; rintro e w3 ⟨v3', rfl, ho3, hb3⟩
 rw [← HLL.out] at ho3
 obtain ⟨g3, cap3, hv⟩ := OwnsSd.pos ho3 hll
 obtain ⟨q, hq⟩ : ∃ q, q = l.length := ⟨_, rfl⟩
 rw [← hq] at hv hlq hll
 subst hv
 have HQ := Lib.hid hq; clear hq
 have O3 := Lib.hid ho3; clear ho3
 have M3 := Lib.hid (O2.out.below hb3)
 have B3 := Lib.hid (below_seq B2.out hb3)
 have p3 := heap_later p2 hb3
 clear hb3 O2 B2 p2 c0 c1 c2
 have hg3 : w2.heap.size ≤ g3 := (World.ownsRow.lt O3.out g3 rfl).1
 have hgg : g < w2.heap.size := hg2
 go_wp2
 go_loopw [18] (fun i wr => ∃ i' : Nat, i' ≤ q ∧ i = .int .i64 i' ∧ OwnsI wr w1.heap.size (.slice (some ⟨g, 0, none⟩) n cap2) (tbyP W T xs H (l.take i')) ∧ OwnsSd wr w2.heap.size (.slice (some ⟨g3, 0, none⟩) q cap3) W T xs l ∧ wr.heap[w.heap.size]? = some (.cells #[.int .i64 W, .int .i64 T, .slice a n cap] 25 (0, 0)) ∧ Below w.heap.size w wr) (fun i _ => q - (intOf i).toNat)
 case atStart => exact ⟨0, Nat.zero_le _, rfl, by rw [List.take_zero]; exact M3.out, O3.out, p3, B3.out⟩
 case round =>
  clear M3 O3 B3 p3
  rename World => wq
  obtain ⟨i, hi, rfl, ho, hos, pr, bo'⟩ := hrel
  have HO := Lib.hid ho; have OS := Lib.hid hos; have BO := Lib.hid bo'; clear ho hos bo'
  by_cases hlt2 : i < q
  · have hil : i < l.length := by rw [← HQ.out]; exact hlt2
    obtain ⟨hkk, hus⟩ := HMEM.out i hil
    have hnot := HNOT.out i hil
    have hcell := OwnsSd.cellAt OS.out hil
    have htk : l.take (i + 1) = l.take i ++ [l[i]] := List.take_succ_eq_append_getElem hil
    obtain ⟨s, hs⟩ : ∃ s, s = l[i] := ⟨_, rfl⟩
    rw [← hs] at hkk hus hcell htk hnot
    clear hs
    obtain ⟨kk, nth⟩ := s
    (try simp only at hkk); (try simp only at hus); (try simp only at hcell)
    obtain ⟨t0, t1, t2⟩ := sTo_lt v1 hus
    rw [HNN.out] at t2
    obtain ⟨kt, hkt⟩ := Int.eq_ofNat_of_zero_le t0
    rw [hkt] at t1 t2
    have htm : kt < m := by omega
    have ha1 := hsMay_at hkk HMAY.out
    have ha2 := hsMay_at htm HMAY.out
    unfold hMay at ha1 ha2
    rw [(hAt_iff v1).2 (Or.inl ⟨nth, hus⟩), if_pos rfl] at ha1
    rw [(hAt_iff v1).2 (Or.inr ⟨kk, nth, hus, hkt⟩), if_pos rfl] at ha2
    obtain ⟨x0, x1⟩ := inB_rng ha1
    obtain ⟨y0, y1⟩ := inB_rng ha2
    have hsd := side_ok HSDS.out hkk hus
    rw [hkt, Int.toNat_natCast] at hsd
    have HSK : Hid (jmpB W T xs H kk nth = false → tbyP W T xs H (l.take (i + 1)) = tbyP W T xs H (l.take i)) := fun h => by rw [htk]; exact tby_skip h
    have HLY : Hid (jmpB W T xs H kk nth = true → laidL W T xs (tbyP W T xs H (l.take i)) (sCell W kk nth) (sWay nth) = tbyP W T xs H (l.take (i + 1)) ∧ sBoth W T xs kk nth = true) := fun h => ⟨by rw [htk]; exact tby_lay v1 HNN.out HXL.out HSDS.out hnot h, by unfold jmpB at h; rw [Bool.and_eq_true] at h; exact h.1⟩
    obtain ⟨lb, lo, rfl, -⟩ := HL.out kk (by rw [← HM.out]; exact hkk)
    have gx := (HL.out.below BO.out).cellAt (i := kk) (by rw [← HM.out]; exact hkk)
    have gy := (HL.out.below BO.out).cellAt (i := kt) (by rw [← HM.out]; exact htm)
    obtain ⟨x, hx⟩ : ∃ x, x = H.getD kk 0 := ⟨_, rfl⟩
    obtain ⟨y, hy⟩ : ∃ y, y = H.getD kt 0 := ⟨_, rfl⟩
    rw [← hx] at x0 x1 gx hsd; rw [← hy] at y0 y1 gy hsd
    clear hx hy ha1 ha2
    have hr1 := rise_one W kk nth
    obtain ⟨rs, hrs⟩ : ∃ rs, rs = sRise W kk nth := ⟨_, rfl⟩
    obtain ⟨bo, hbo⟩ : ∃ bo, bo = sBoth W T xs kk nth := ⟨_, rfl⟩
    obtain ⟨cl, hcl⟩ : ∃ cl, cl = (if sBoth W T xs kk nth then sCell W kk nth else 0) := ⟨_, rfl⟩
    obtain ⟨wy, hwy⟩ : ∃ wy, wy = (if sBoth W T xs kk nth then sWay nth else 0) := ⟨_, rfl⟩
    have HEC : sdC W T xs (kk, nth) = [.int .i64 kk, .int .i64 kt, .int .i64 rs, .bool bo, .int .i64 cl, .int .i64 wy] := by unfold sdC; rw [hrs, hbo, hcl, hwy, ← hkt]
    rw [HEC] at hcell
    rw [← hrs] at hr1 hsd
    have HCL := Lib.hid hcl; have HWY := Lib.hid hwy
    have f0 : wq.cell? ⟨g3, i * 6, none⟩ = _ := hcell 0 _ rfl
    have f1 := hcell 1 _ rfl
    have f2 := hcell 2 _ rfl
    have f3 := hcell 3 _ rfl
    have f4 := hcell 4 _ rfl
    have f5 := hcell 5 _ rfl
    clear hrs hbo hcl hwy HEC hcell hus t0 hkt htk hnot
    have s1 : IntKind.i64.wrap (y - x) = y - x := by rw [IntKind.wrap_i64]; omega
    have k1 : (kk : Int) < m := by omega
    have k2 : (kt : Int) < m := by omega
    have i1 : (i : Int) < q := by omega
    have PB : (wq.alloc (.cells #[.int .i64 kk, .int .i64 kt, .int .i64 rs, .bool bo, .int .i64 cl, .int .i64 wy] 77)).drew.heap[wq.heap.size]? = some _ := heap_new wq (.cells #[.int .i64 kk, .int .i64 kt, .int .i64 rs, .bool bo, .int .i64 cl, .int .i64 wy] 77)
    obtain ⟨h0, h1, h2, h3, h4, h5⟩ := cells6 PB
    have bB : Below wq.heap.size wq (wq.alloc (.cells #[.int .i64 kk, .int .i64 kt, .int .i64 rs, .bool bo, .int .i64 cl, .int .i64 wy] 77)).drew := below_seq (below1 wq (.cells #[.int .i64 kk, .int .i64 kt, .int .i64 rs, .bool bo, .int .i64 cl, .int .i64 wy] 77)) (drew_below _)
    have gx2 := cell_later bB gx
    have gy2 := cell_later bB gy
    have HR1 := Lib.hid hr1
    rcases hsd with ⟨hd', hj⟩ | ⟨hd', hj⟩
    · have t1' : Hid ((y - x == -3 * rs) = false) := by show _ = _; rcases hr1 with e | e <;> simp <;> omega
      have HE0 := Lib.hid (HSK.out hj)
      clear hr1 hd' hj HLY HCL HWY
      go_wp2
      go_region_held3 (fun w' => w'.cell? ⟨wq.heap.size, 0, none⟩ = some (.int .i64 kk) ∧ w'.cell? ⟨wq.heap.size, 1, none⟩ = some (.int .i64 kt) ∧ w'.cell? ⟨wq.heap.size, 2, none⟩ = some (.int .i64 rs) ∧ w'.cell? ⟨wq.heap.size, 3, none⟩ = some (.bool bo) ∧ w'.cell? ⟨wq.heap.size, 4, none⟩ = some (.int .i64 cl) ∧ w'.cell? ⟨wq.heap.size, 5, none⟩ = some (.int .i64 wy) ∧ w'.cell? ⟨lb, lo + kk, none⟩ = some (.int .i64 x) ∧ w'.cell? ⟨lb, lo + kt, none⟩ = some (.int .i64 y))
       (go_keep)
       (first
         | (go_at_call 88; refine (jumpOf_any _ _ _ _ _ _ _ HR1.out).mono ?_; rintro e w4 ⟨rfl, hb4⟩; have p4 := heap_later PB hb4; obtain ⟨e0, e1, e2, e3, e4, e5⟩ := cells6 p4; have gx4 := cell_later hb4 gx2; have gy4 := cell_later hb4 gy2))
      rw [t1'.out]
      have b4 : Below wq.heap.size wq w4 := below_seq bB hb4
      have O4 := Lib.hid (HO.out.below b4)
      have S4 := Lib.hid (OS.out.below b4)
      have B4 := Lib.hid (below_seq BO.out b4)
      have P4 := heap_later pr b4
      go_wp2
      go_roundw
      case rel => exact ⟨i + 1, by omega, by go_num, by rw [HE0.out]; exact O4.out, S4.out, P4, B4.out⟩
      case measure => simp [intOf]; omega
    · have t1' : Hid ((y - x == -3 * rs) = true) := by show _ = _; rcases hr1 with e | e <;> simp <;> omega
      obtain ⟨hly, hbo⟩ := HLY.out hj
      have ecl := HCL.out
      have ewy := HWY.out
      rw [hbo, if_pos rfl] at ecl ewy
      rw [← ecl, ← ewy] at hly
      have HE1 := Lib.hid hly
      clear hr1 hd' hj hly HSK ecl ewy hbo HCL HWY HLY
      go_wp2
      go_region_held3 (fun w' => w'.cell? ⟨wq.heap.size, 0, none⟩ = some (.int .i64 kk) ∧ w'.cell? ⟨wq.heap.size, 1, none⟩ = some (.int .i64 kt) ∧ w'.cell? ⟨wq.heap.size, 2, none⟩ = some (.int .i64 rs) ∧ w'.cell? ⟨wq.heap.size, 3, none⟩ = some (.bool bo) ∧ w'.cell? ⟨wq.heap.size, 4, none⟩ = some (.int .i64 cl) ∧ w'.cell? ⟨wq.heap.size, 5, none⟩ = some (.int .i64 wy) ∧ w'.cell? ⟨lb, lo + kk, none⟩ = some (.int .i64 x) ∧ w'.cell? ⟨lb, lo + kt, none⟩ = some (.int .i64 y))
       (go_keep)
       (first
         | (go_at_call 88; refine (jumpOf_any _ _ _ _ _ _ _ HR1.out).mono ?_; rintro e w4 ⟨rfl, hb4⟩; have p4 := heap_later PB hb4; obtain ⟨e0, e1, e2, e3, e4, e5⟩ := cells6 p4; have gx4 := cell_later hb4 gx2; have gy4 := cell_later hb4 gy2))
      rw [t1'.out]
      have b4 : Below wq.heap.size wq w4 := below_seq bB hb4
      have O4 := Lib.hid (HO.out.below b4)
      have S4 := Lib.hid (OS.out.below b4)
      have B4 := Lib.hid (below_seq BO.out b4)
      have P4 := heap_later pr b4
      have PB4 := p4
      obtain ⟨d0, d1, d2⟩ := cells3 P4
      have l4 := heap_lt PB4
      clear h0 h1 h2 h3 h4 h5 gx gy gx2 gy2 f0 f1 f2 f3 f4 f5 bB PB
      go_wp2_with fail
      refine (layDown_any W T a n cap xs g cap2 w1.heap.size _ cl wy _ HN.out hn' (by rw [tbyP_len, HN.out]) v1 v2 v3 v4 HWT.out (HA.out.below B4.out) O4.out).mono ?_; rintro e w5 ⟨rfl, ho5, hg5⟩
      rw [HE1.out] at ho5
      have O5 := Lib.hid ho5; clear ho5
      have S5 := Lib.hid (OwnsSd.keptB S4.out hg5 (by simp [Value.ownBlock]; omega))
      have B5 := Lib.hid (below_grown B4.out hg5 (Nat.le_refl _) (fun k e => by have := Option.some.inj e; omega))
      have P5 := heap_grown P4 hg5 (by simp; omega)
      clear hg5
      generalize canLay W T xs (tbyP W T xs H (l.take i)) cl wy = cv
      go_wp2
      go_roundw
      case rel => exact ⟨i + 1, by omega, by go_num, O5.out, S5.out, P5, B5.out⟩
      case measure => simp [intOf]; omega
  · obtain rfl : i = q := by omega
    have hq : l.take i = l := List.take_of_length_le (by rw [← HQ.out]; exact Nat.le_refl _)
    have ho := HO.out
    rw [hq] at ho
    have HO2 := Lib.hid (ho.lower (B' := w.heap.size) (by omega)); clear ho hq HO
    go_wp2
    go_ret2
    exact ⟨some ⟨g, 0, none⟩, cap2, by rw [HE.out]; rfl, by rw [HE.out]; exact HO2.out, BO.out⟩
end Go.Proofs.YtpcajacekmidbaaGreat
