/- Plain facts: right heights jump along exactly one of the four sides of each cell, and so tell a tiling. -/
import Derived.Test.YthdacjgechokcaaHtsP
namespace Go.Proofs.Ythdacjgechokcaa
open Go.RowKit
set_option linter.unusedVariables false
set_option maxRecDepth 100000
set_option linter.unusedSimpArgs false

/-- Whether heights jump along a side. -/
def jmpB (W T : Int) (xs : List Bool) (H : List Int) (k : Nat) (nth : Bool) : Bool := sBoth W T xs k nth && (H.getD (sTo W k nth).toNat 0 - H.getD k 0 == -3 * sRise W k nth)
/-- Which way the domino of a cell lies, told by some sides. -/
def wayJ (W : Int) (J : Nat → Bool → Bool) (c : Nat) : Int :=
  if J (cI W ((c : Int) % W) ((c : Int) / W)) false then 4
  else if J (cI W ((c : Int) % W + 1) ((c : Int) / W)) true then 1
  else if J (cI W ((c : Int) % W) ((c : Int) / W + 1)) false then 2
  else if J (cI W ((c : Int) % W) ((c : Int) / W)) true then 3 else 0
def jmpP (W T : Int) (xs : List Bool) (H : List Int) (P : List (Nat × Bool)) (k : Nat) (nth : Bool) : Bool := P.contains (k, nth) && jmpB W T xs H k nth
def tbyP (W T : Int) (xs : List Bool) (H : List Int) (P : List (Nat × Bool)) : List Int := (List.range xs.length).map (wayJ W (jmpP W T xs H P))
def tbyF (W T : Int) (xs : List Bool) (H : List Int) : List Int × Bool :=
  if hokB W T xs H then (tbyP W T xs H (sidesK W T xs ((W + 1) * (T + 1)).toNat), true) else ([], false)
theorem tbyP_len (W T : Int) (xs : List Bool) (H : List Int) (P : List (Nat × Bool)) : (tbyP W T xs H P).length = xs.length := by simp [tbyP]
theorem tbyP_get {W T : Int} {xs : List Bool} {H : List Int} {P : List (Nat × Bool)} {c : Nat} (hc : c < xs.length) : (tbyP W T xs H P).getD c 0 = wayJ W (jmpP W T xs H P) c := by simp [tbyP, hc]
theorem tbyF_len (W T : Int) (xs : List Bool) (H : List Int) : (tbyF W T xs H).1.length ≤ xs.length := by
  unfold tbyF; split
  · simp [tbyP]
  · simp
theorem tbyP_nil (W T : Int) (xs : List Bool) (H : List Int) : tbyP W T xs H [] = List.replicate xs.length 0 := by
  refine ext_getD (by simp [tbyP]) fun c hc => ?_
  rw [tbyP_len] at hc
  rw [tbyP_get hc]
  unfold wayJ jmpP
  simp [hc]

theorem sRise_rs (W : Int) (k : Nat) (nth : Bool) : sRise W k nth = if dkP (sLx W k nth) (ky W k) then 1 else -1 := rfl
theorem side_ok {W T : Int} {xs : List Bool} {H : List Int} {N : Nat} (hr : sdsOk W T xs H N = true) {k : Nat} {nth : Bool} (hk : k < N) (hu : sUsed W T xs k nth = true) :
    (H.getD (sTo W k nth).toNat 0 - H.getD k 0 = sRise W k nth ∧ jmpB W T xs H k nth = false) ∨ (H.getD (sTo W k nth).toNat 0 - H.getD k 0 = -3 * sRise W k nth ∧ jmpB W T xs H k nth = true) := by
  have h := sdsOk_iff.1 hr (k, nth) (sidesK_mem.2 ⟨hk, hu⟩)
  unfold rMay at h
  simp only [Bool.or_eq_true, Bool.and_eq_true, beq_iff_eq] at h
  have r1 : sRise W k nth = 1 ∨ sRise W k nth = -1 := by unfold sRise; split <;> simp
  unfold jmpB
  rcases h with h | ⟨hb, h⟩
  · left
    refine ⟨h, ?_⟩
    rw [h]
    rcases r1 with e | e <;> rw [e] <;> simp
  · right
    refine ⟨h, ?_⟩
    rw [hb, h]; simp
def b2i (b : Bool) : Int := if b then 1 else 0
/-- Round a cell there is one jump. -/
theorem four_jump {W T : Int} {xs : List Bool} {H : List Int} {N : Nat} (hW : 1 ≤ W) (hN : (W + 1) * (T + 1) = (N : Int)) (hr : sdsOk W T xs H N = true) {x y : Int} (ha : atB W T xs x y = true) :
    b2i (jmpB W T xs H (cI W x y) false) + b2i (jmpB W T xs H (cI W (x + 1) y) true) + b2i (jmpB W T xs H (cI W x (y + 1)) false) + b2i (jmpB W T xs H (cI W x y) true) = 1 := by
  obtain ⟨a0, a1, a2, a3⟩ := atB_in ha
  obtain ⟨p1, p2, p3⟩ := cI_xy (W := W) (x := x) (y := y) a0 (by omega) a2
  obtain ⟨q1, q2, q3⟩ := cI_xy (W := W) (x := x) (y := y + 1) a0 (by omega) (by omega)
  obtain ⟨r1, r2, r3⟩ := cI_xy (W := W) (x := x + 1) (y := y) (by omega) (by omega) a2
  obtain ⟨⟨s1, s2⟩, ⟨b1, b2⟩, ⟨c1, c2⟩, ⟨d1, d2⟩⟩ := cell_sides hW ha
  have lt : ∀ {k : Nat} {nth : Bool}, sUsed W T xs k nth = true → k < N := fun h => by obtain ⟨t0, t1, t2⟩ := sTo_lt hW h; omega
  have ga := side_ok hr (lt s1) s1
  have gb := side_ok hr (lt b1) b1
  have gc := side_ok hr (lt c1) c1
  have gd := side_ok hr (lt d1) d1
  rw [s2, Int.toNat_natCast, sRise_rs] at ga
  rw [b2, Int.toNat_natCast, sRise_rs] at gb
  rw [c2, Int.toNat_natCast, sRise_rs] at gc
  rw [d2, Int.toNat_natCast, sRise_rs] at gd
  have el : ∀ k, sLx W k false = kx W k := fun k => rfl
  have er : ∀ k, sLx W k true = kx W k - 1 := fun k => rfl
  rw [el, p2, p3] at ga
  rw [el, q2, q3, dkP_n] at gb
  rw [er, p2, p3, dkP_e] at gc
  rw [er, r2, r3, Int.add_sub_cancel] at gd
  generalize jmpB W T xs H (cI W x y) false = jS at *
  generalize jmpB W T xs H (cI W (x + 1) y) true = jE at *
  generalize jmpB W T xs H (cI W x (y + 1)) false = jN at *
  generalize jmpB W T xs H (cI W x y) true = jW at *
  generalize H.getD (cI W x y) 0 = h00 at *
  generalize H.getD (cI W (x + 1) y) 0 = h10 at *
  generalize H.getD (cI W x (y + 1)) 0 = h01 at *
  generalize H.getD (cI W (x + 1) (y + 1)) 0 = h11 at *
  generalize dkP x y = D at ga gb gc gd
  clear lt el er
  cases D <;> simp at ga gb gc gd <;>
    rcases ga with ⟨ga, rfl⟩ | ⟨ga, rfl⟩ <;> rcases gb with ⟨gb, rfl⟩ | ⟨gb, rfl⟩ <;> rcases gc with ⟨gc, rfl⟩ | ⟨gc, rfl⟩ <;> rcases gd with ⟨gd, rfl⟩ | ⟨gd, rfl⟩ <;> simp only [b2i, Bool.false_eq_true, if_true, if_false] <;> omega

/-- Of which cell a side with cells on both sides is one. -/
theorem side_left {W T : Int} {xs : List Bool} {k : Nat} {nth : Bool} (hW : 1 ≤ W) (h : sBoth W T xs k nth = true) : ∃ a b : Nat, sCell W k nth = a ∧ sOther W k nth = b ∧ (a : Int) < W * T ∧ (b : Int) < W * T ∧ a ≠ b ∧
    (a : Int) % W = sLx W k nth ∧ (a : Int) / W = ky W k ∧ (b : Int) % W = kx W k ∧ (b : Int) / W = sRy W k nth ∧ atB W T xs (sLx W k nth) (ky W k) = true ∧ atB W T xs (kx W k) (sRy W k nth) = true := by
  unfold sBoth at h
  rw [Bool.and_eq_true] at h
  have hl : atB W T xs (sLx W k nth) (ky W k) = true := h.1
  have hr : atB W T xs (kx W k) (sRy W k nth) = true := h.2
  have l := atB_in hl
  have r := atB_in hr
  obtain ⟨a, ha, ax, ay, al⟩ := place_idx l.1 l.2.1 l.2.2.1 l.2.2.2
  obtain ⟨b, hb, bx, by_, bl⟩ := place_idx r.1 r.2.1 r.2.2.1 r.2.2.2
  refine ⟨a, b, ha.symm, hb.symm, al, bl, ?_, ax, ay, bx, by_, hl, hr⟩
  rintro rfl
  rw [ax] at bx
  rw [ay] at by_
  unfold sLx at bx
  unfold sRy at by_
  cases nth
  · simp at by_; omega
  · simp at bx; omega
/-- The four sides of a cell, told apart. -/
theorem side_of {W T : Int} {xs : List Bool} {k a b : Nat} {nth : Bool} (hW : 1 ≤ W) (hk : sBoth W T xs k nth = true) (ha : sCell W k nth = a) (hb : sOther W k nth = b) {c : Nat} (hc : (c : Int) < W * T) :
    (cI W ((c : Int) % W) ((c : Int) / W) = k ∧ nth = false ↔ c = a ∧ nth = false) ∧ (cI W ((c : Int) % W + 1) ((c : Int) / W) = k ∧ nth = true ↔ c = a ∧ nth = true) ∧
    (cI W ((c : Int) % W) ((c : Int) / W + 1) = k ∧ nth = false ↔ c = b ∧ nth = false) ∧ (cI W ((c : Int) % W) ((c : Int) / W) = k ∧ nth = true ↔ c = b ∧ nth = true) := by
  obtain ⟨a', b', e1, e2, al, bl, hne, ax, ay, bx, by_, hl, hr⟩ := side_left hW hk
  obtain rfl : a' = a := by rw [ha] at e1; omega
  obtain rfl : b' = b := by rw [hb] at e2; omega
  have c0 := Int.emod_nonneg (c : Int) (show W ≠ 0 by omega)
  have c1 := Int.emod_lt_of_pos (c : Int) (show 0 < W by omega)
  have c2 := Int.ediv_nonneg (show (0 : Int) ≤ c by omega) (show 0 ≤ W by omega)
  have ce := Int.emod_add_mul_ediv (c : Int) W
  have ae := Int.emod_add_mul_ediv (a' : Int) W
  have be := Int.emod_add_mul_ediv (b' : Int) W
  obtain ⟨p1, p2, p3⟩ := cI_xy (W := W) (x := (c : Int) % W) (y := (c : Int) / W) c0 (by omega) c2
  obtain ⟨q1, q2, q3⟩ := cI_xy (W := W) (x := (c : Int) % W) (y := (c : Int) / W + 1) c0 (by omega) (by omega)
  obtain ⟨r1, r2, r3⟩ := cI_xy (W := W) (x := (c : Int) % W + 1) (y := (c : Int) / W) (by omega) (by omega) c2
  have ek := cI_of hW k
  have eq_of : ∀ {u v : Nat}, (u : Int) % W = (v : Int) % W → (u : Int) / W = (v : Int) / W → u = v := by
    intro u v h1 h2
    have a := Int.emod_add_mul_ediv (u : Int) W
    have b := Int.emod_add_mul_ediv (v : Int) W
    rw [h1, h2] at a
    omega
  unfold sLx at ax
  unfold sRy at by_
  cases nth
  · simp only [Bool.false_eq_true, if_false] at ax by_
    refine ⟨⟨?_, ?_⟩, ⟨fun h => by simp at h, fun h => by simp at h⟩, ⟨?_, ?_⟩, ⟨fun h => by simp at h, fun h => by simp at h⟩⟩
    · rintro ⟨rfl, _⟩; rw [p2] at ax; rw [p3] at ay; exact ⟨eq_of ax.symm ay.symm, rfl⟩
    · rintro ⟨rfl, _⟩; rw [ax, ay]; exact ⟨ek, rfl⟩
    · rintro ⟨rfl, _⟩; rw [q2] at bx; rw [q3] at by_; exact ⟨eq_of bx.symm (by omega), rfl⟩
    · rintro ⟨rfl, _⟩; rw [bx, by_, Int.sub_add_cancel]; exact ⟨ek, rfl⟩
  · simp only [if_true] at ax by_
    refine ⟨⟨fun h => by simp at h, fun h => by simp at h⟩, ⟨?_, ?_⟩, ⟨fun h => by simp at h, fun h => by simp at h⟩, ⟨?_, ?_⟩⟩
    · rintro ⟨rfl, _⟩; rw [r2] at ax; rw [r3] at ay; exact ⟨eq_of (by omega) ay.symm, rfl⟩
    · rintro ⟨rfl, _⟩; rw [ax, ay, Int.sub_add_cancel]; exact ⟨ek, rfl⟩
    · rintro ⟨rfl, _⟩; rw [p2] at bx; rw [p3] at by_; exact ⟨eq_of bx.symm by_.symm, rfl⟩
    · rintro ⟨rfl, _⟩; rw [bx, by_]; exact ⟨ek, rfl⟩

theorem jmpP_snoc (W T : Int) (xs : List Bool) (H : List Int) (P : List (Nat × Bool)) (k k' : Nat) (nth nth' : Bool) : jmpP W T xs H (P ++ [(k, nth)]) k' nth' = (jmpP W T xs H P k' nth' || ((decide (k' = k ∧ nth' = nth)) && jmpB W T xs H k' nth')) := by
  unfold jmpP
  rw [← Bool.and_or_distrib_right]
  congr 1
  rw [Bool.eq_iff_iff]
  simp
theorem tby_skip {W T : Int} {xs : List Bool} {H : List Int} {P : List (Nat × Bool)} {k : Nat} {nth : Bool} (h : jmpB W T xs H k nth = false) : tbyP W T xs H (P ++ [(k, nth)]) = tbyP W T xs H P := by
  unfold tbyP
  refine congrArg (fun f => (List.range xs.length).map (wayJ W f)) (funext fun k' => funext fun nth' => ?_)
  rw [jmpP_snoc]
  by_cases e : k' = k ∧ nth' = nth
  · rw [e.1, e.2, h]; simp
  · rw [decide_eq_false e]; simp
/-- A jump that has not been taken yet: both cells are free, and are given their ways. -/
theorem tby_jump {W T : Int} {xs : List Bool} {H : List Int} {N : Nat} {P : List (Nat × Bool)} {k a b : Nat} {nth : Bool} (hW : 1 ≤ W) (hN : (W + 1) * (T + 1) = (N : Int)) (hl : (xs.length : Int) = W * T) (hr : sdsOk W T xs H N = true) (hP : ¬ (k, nth) ∈ P) (hj : jmpB W T xs H k nth = true) (ha : sCell W k nth = a) (hb : sOther W k nth = b) :
    (tbyP W T xs H P).getD a 0 = 0 ∧ (tbyP W T xs H P).getD b 0 = 0 ∧ tbyP W T xs H (P ++ [(k, nth)]) = ((tbyP W T xs H P).set a (sWay nth)).set b (backI (sWay nth)) ∧ a < xs.length ∧ b < xs.length ∧ a ≠ b ∧ xs.getD a false = true ∧ xs.getD b false = true := by
  have hbo : sBoth W T xs k nth = true := by unfold jmpB at hj; rw [Bool.and_eq_true] at hj; exact hj.1
  obtain ⟨a', b', e1, e2, al, bl, hne, ax, ay, bx, by_, hla, hra⟩ := side_left hW hbo
  obtain rfl : a' = a := by rw [ha] at e1; omega
  obtain rfl : b' = b := by rw [hb] at e2; omega
  have haL : a' < xs.length := by omega
  have hbL : b' < xs.length := by omega
  have ha4 := four_jump hW hN hr hla
  have hb4 := four_jump hW hN hr hra
  rw [← ax, ← ay] at ha4
  rw [← bx, ← by_] at hb4
  obtain ⟨sa1, sa2, sa3, sa4⟩ := side_of hW hbo ha hb al
  obtain ⟨sb1, sb2, sb3, sb4⟩ := side_of hW hbo ha hb bl
  have hle : ∀ k' nth', jmpP W T xs H P k' nth' = true → jmpB W T xs H k' nth' = true ∧ ¬ (k' = k ∧ nth' = nth) := by
    intro k' nth' h
    unfold jmpP at h
    rw [Bool.and_eq_true, List.contains_iff_mem] at h
    refine ⟨h.2, ?_⟩
    rintro ⟨rfl, rfl⟩
    exact hP h.1
  have one : ∀ {p q r s : Bool}, b2i p + b2i q + b2i r + b2i s = 1 → (p = true → q = false ∧ r = false ∧ s = false) ∧ (q = true → p = false ∧ r = false ∧ s = false) ∧ (r = true → p = false ∧ q = false ∧ s = false) ∧ (s = true → p = false ∧ q = false ∧ r = false) := by
    intro p q r s
    cases p <;> cases q <;> cases r <;> cases s <;> simp [b2i]
  obtain ⟨oa1, oa2, oa3, oa4⟩ := one ha4
  obtain ⟨ob1, ob2, ob3, ob4⟩ := one hb4
  -- the old list is free at both cells
  have zero : ∀ {c : Nat}, (∀ k' nth', (k' = cI W ((c : Int) % W) ((c : Int) / W) ∧ nth' = false ∨ k' = cI W ((c : Int) % W + 1) ((c : Int) / W) ∧ nth' = true ∨ k' = cI W ((c : Int) % W) ((c : Int) / W + 1) ∧ nth' = false ∨ k' = cI W ((c : Int) % W) ((c : Int) / W) ∧ nth' = true) → jmpP W T xs H P k' nth' = false) → wayJ W (jmpP W T xs H P) c = 0 := by
    intro c h
    unfold wayJ
    rw [h _ _ (Or.inl ⟨rfl, rfl⟩), h _ _ (Or.inr (Or.inl ⟨rfl, rfl⟩)), h _ _ (Or.inr (Or.inr (Or.inl ⟨rfl, rfl⟩))), h _ _ (Or.inr (Or.inr (Or.inr ⟨rfl, rfl⟩)))]
    simp
  have no : ∀ {k' : Nat} {nth' : Bool}, jmpB W T xs H k' nth' = false ∨ (k' = k ∧ nth' = nth) → jmpP W T xs H P k' nth' = false := by
    intro k' nth' h
    cases hh : jmpP W T xs H P k' nth'
    · rfl
    · obtain ⟨h1, h2⟩ := hle _ _ hh
      rcases h with h | h
      · rw [h] at h1; cases h1
      · exact absurd h h2
  have za : wayJ W (jmpP W T xs H P) a' = 0 := by
    cases nth
    · have e := (sa1.2 ⟨rfl, rfl⟩).1
      obtain ⟨n1, n2, n3⟩ := oa1 (by rw [e]; exact hj)
      refine zero fun k' nth' h => ?_
      rcases h with ⟨rfl, rfl⟩ | ⟨rfl, rfl⟩ | ⟨rfl, rfl⟩ | ⟨rfl, rfl⟩
      · exact no (Or.inr ⟨e, rfl⟩)
      · exact no (Or.inl n1)
      · exact no (Or.inl n2)
      · exact no (Or.inl n3)
    · have e := (sa2.2 ⟨rfl, rfl⟩).1
      obtain ⟨n1, n2, n3⟩ := oa2 (by rw [e]; exact hj)
      refine zero fun k' nth' h => ?_
      rcases h with ⟨rfl, rfl⟩ | ⟨rfl, rfl⟩ | ⟨rfl, rfl⟩ | ⟨rfl, rfl⟩
      · exact no (Or.inl n1)
      · exact no (Or.inr ⟨e, rfl⟩)
      · exact no (Or.inl n2)
      · exact no (Or.inl n3)
  have zb : wayJ W (jmpP W T xs H P) b' = 0 := by
    cases nth
    · have e := (sb3.2 ⟨rfl, rfl⟩).1
      obtain ⟨n1, n2, n3⟩ := ob3 (by rw [e]; exact hj)
      refine zero fun k' nth' h => ?_
      rcases h with ⟨rfl, rfl⟩ | ⟨rfl, rfl⟩ | ⟨rfl, rfl⟩ | ⟨rfl, rfl⟩
      · exact no (Or.inl n1)
      · exact no (Or.inl n2)
      · exact no (Or.inr ⟨e, rfl⟩)
      · exact no (Or.inl n3)
    · have e := (sb4.2 ⟨rfl, rfl⟩).1
      obtain ⟨n1, n2, n3⟩ := ob4 (by rw [e]; exact hj)
      refine zero fun k' nth' h => ?_
      rcases h with ⟨rfl, rfl⟩ | ⟨rfl, rfl⟩ | ⟨rfl, rfl⟩ | ⟨rfl, rfl⟩
      · exact no (Or.inl n1)
      · exact no (Or.inl n2)
      · exact no (Or.inl n3)
      · exact no (Or.inr ⟨e, rfl⟩)
  have cell : ∀ {x y : Int} {c : Nat}, atB W T xs x y = true → (c : Int) = y * W + x → xs.getD c false = true := by
    intro x y c h e
    unfold atB at h
    rw [Bool.and_eq_true, show (y * W + x).toNat = c by omega] at h
    exact h.2
  refine ⟨by rw [tbyP_get haL]; exact za, by rw [tbyP_get hbL]; exact zb, ?_, haL, hbL, hne, cell hla (by rw [← ha]; rfl), cell hra (by rw [← hb]; rfl)⟩
  refine ext_getD (by simp [tbyP]) fun c hc => ?_
  rw [tbyP_len] at hc
  have hcl : (c : Int) < W * T := by omega
  rw [tbyP_get hc, getD_set2 (by rw [tbyP_len]; exact haL) (by rw [tbyP_len]; exact hbL), tbyP_get hc]
  obtain ⟨sc1, sc2, sc3, sc4⟩ := side_of hW hbo ha hb hcl
  have snoc := jmpP_snoc W T xs H P k
  unfold wayJ at za zb ⊢
  simp only [snoc]
  by_cases hcb : c = b'
  · rw [if_pos hcb]
    subst hcb
    cases nth
    · have e := (sc3.2 ⟨rfl, rfl⟩).1
      obtain ⟨n1, n2, n3⟩ := ob3 (by rw [e]; exact hj)
      rw [no (Or.inl n1), no (Or.inl n2), n1, n2]
      rw [e, hj]
      simp [sWay, backI]
    · have e := (sc4.2 ⟨rfl, rfl⟩).1
      obtain ⟨n1, n2, n3⟩ := ob4 (by rw [e]; exact hj)
      rw [no (Or.inl n1), no (Or.inl n2), no (Or.inl n3), n1, n2, n3]
      rw [e, hj]
      simp [sWay, backI]
  · rw [if_neg hcb]
    by_cases hca : c = a'
    · rw [if_pos hca]
      subst hca
      cases nth
      · have e := (sc1.2 ⟨rfl, rfl⟩).1
        rw [e, hj]
        simp [sWay]
      · have e := (sc2.2 ⟨rfl, rfl⟩).1
        obtain ⟨n1, n2, n3⟩ := oa2 (by rw [e]; exact hj)
        rw [no (Or.inl n1), n1, e, hj]
        simp [sWay]
    · rw [if_neg hca]
      have f1 : (decide (cI W ((c : Int) % W) ((c : Int) / W) = k ∧ false = nth)) = false := decide_eq_false fun h => hca (sc1.1 ⟨h.1, h.2.symm⟩).1
      have f2 : (decide (cI W ((c : Int) % W + 1) ((c : Int) / W) = k ∧ true = nth)) = false := decide_eq_false fun h => hca (sc2.1 ⟨h.1, h.2.symm⟩).1
      have f3 : (decide (cI W ((c : Int) % W) ((c : Int) / W + 1) = k ∧ false = nth)) = false := decide_eq_false fun h => hcb (sc3.1 ⟨h.1, h.2.symm⟩).1
      have f4 : (decide (cI W ((c : Int) % W) ((c : Int) / W) = k ∧ true = nth)) = false := decide_eq_false fun h => hcb (sc4.1 ⟨h.1, h.2.symm⟩).1
      rw [f1, f2, f3, f4]
      simp only [Bool.false_and, Bool.or_false]
theorem sidesK_nodup (W T : Int) (xs : List Bool) : ∀ n, (sidesK W T xs n).Nodup
  | 0 => by simp [sidesK]
  | n + 1 => by
    rw [sidesK_succ, List.nodup_append]
    refine ⟨sidesK_nodup W T xs n, ?_, fun s hs s' hs' e => ?_⟩
    · cases sUsed W T xs n false <;> cases sUsed W T xs n true <;> simp
    · subst e
      obtain ⟨k, nth⟩ := s
      have h1 := (sidesK_mem.1 hs).1
      rw [List.mem_append] at hs'
      rcases hs' with hs' | hs' <;> split at hs' <;> simp at hs' <;> omega
theorem take_not {α : Type} {l : List α} (hn : l.Nodup) {i : Nat} (hi : i < l.length) : ¬ l[i] ∈ l.take i := by
  intro h
  obtain ⟨j, hj, e⟩ := List.getElem_of_mem h
  have hji : j < i := by rw [List.length_take] at hj; omega
  rw [List.getElem_take] at e
  have := (List.getElem_inj hn).1 e
  omega
end Go.Proofs.Ythdacjgechokcaa
