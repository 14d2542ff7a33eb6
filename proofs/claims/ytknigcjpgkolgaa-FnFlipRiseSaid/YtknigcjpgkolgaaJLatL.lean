/- Plain facts: the lattice of tilings: low and high ones, their order, and how far they are apart. -/
import Derived.Test.YtknigcjpgkolgaaJHtsI
namespace Go.Proofs.Ytknigcjpgkolgaa
open Go.RowKit
set_option linter.unusedVariables false
set_option maxRecDepth 100000
set_option linter.unusedSimpArgs false

theorem hokB_len {W T : Int} {xs : List Bool} {H : List Int} (h : hokB W T xs H = true) : (H.length : Int) = (W + 1) * (T + 1) ∧ rv W T xs = true := by
  unfold hokB at h
  simp only [Bool.and_eq_true, decide_eq_true_eq] at h
  exact ⟨h.1.1.1.2, simpleB_rv h.1.1.1.1⟩

end Go.Proofs.Ytknigcjpgkolgaa

namespace Go.Proofs.Ytknigcjpgkolgaa
open Go.RowKit
set_option linter.unusedVariables false
set_option maxRecDepth 100000
set_option linter.unusedSimpArgs false

end Go.Proofs.Ytknigcjpgkolgaa

namespace Go.Proofs.Ytknigcjpgkolgaa
open Go.RowKit
set_option linter.unusedVariables false
set_option maxRecDepth 100000
set_option linter.unusedSimpArgs false

/-- Whether heights jump along a side. -/
def jmpB (W T : Int) (xs : List Bool) (H : List Int) (k : Nat) (nth : Bool) : Bool := sBoth W T xs k nth && (H.getD (sTo W k nth).toNat 0 - H.getD k 0 == -3 * sRise W k nth)
/-- Which way the domino of a cell lies, told by some sides. -/
def wayJ (W : Int) (J : Nat → Bool → Bool) (c : Nat) : Int :=
  if J (cI W ((c : Int) % W) ((c : Int) / W)) false then 4
  else if J (cI W ((c : Int) % W + 1) ((c : Int) / W)) true then 1
  else if J (cI W ((c : Int) % W) ((c : Int) / W + 1)) false then 2
  else if J (cI W ((c : Int) % W) ((c : Int) / W)) true then 3 else 0
def jmpP (W T : Int) (xs : List Bool) (H : List Int) (P : List (Nat × Bool)) (k : Nat) (nth : Bool) : Bool := P.contains (k, nth) && jmpB W T xs H k nth
def tbyP (W T : Int) (xs : List Bool) (H : List Int) (P : List (Nat × Bool)) : List Int := (List.range xs.length).map (wayJ W (jmpP W T xs H P))
def tbyF (W T : Int) (xs : List Bool) (H : List Int) : List Int × Bool :=
  if hokB W T xs H then (tbyP W T xs H (sidesK W T xs ((W + 1) * (T + 1)).toNat), true) else ([], false)
theorem tbyP_len (W T : Int) (xs : List Bool) (H : List Int) (P : List (Nat × Bool)) : (tbyP W T xs H P).length = xs.length := by simp [tbyP]
theorem tbyP_get {W T : Int} {xs : List Bool} {H : List Int} {P : List (Nat × Bool)} {c : Nat} (hc : c < xs.length) : (tbyP W T xs H P).getD c 0 = wayJ W (jmpP W T xs H P) c := by simp [tbyP, hc]
theorem sRise_rs (W : Int) (k : Nat) (nth : Bool) : sRise W k nth = if dkP (sLx W k nth) (ky W k) then 1 else -1 := rfl
theorem side_ok {W T : Int} {xs : List Bool} {H : List Int} {N : Nat} (hr : sdsOk W T xs H N = true) {k : Nat} {nth : Bool} (hk : k < N) (hu : sUsed W T xs k nth = true) :
    (H.getD (sTo W k nth).toNat 0 - H.getD k 0 = sRise W k nth ∧ jmpB W T xs H k nth = false) ∨ (H.getD (sTo W k nth).toNat 0 - H.getD k 0 = -3 * sRise W k nth ∧ jmpB W T xs H k nth = true) := by
  have h := sdsOk_iff.1 hr (k, nth) (sidesK_mem.2 ⟨hk, hu⟩)
  unfold rMay at h
  simp only [Bool.or_eq_true, Bool.and_eq_true, beq_iff_eq] at h
  have r1 : sRise W k nth = 1 ∨ sRise W k nth = -1 := by unfold sRise; split <;> simp
  unfold jmpB
  rcases h with h | ⟨hb, h⟩
  · left
    refine ⟨h, ?_⟩
    rw [h]
    rcases r1 with e | e <;> rw [e] <;> simp
  · right
    refine ⟨h, ?_⟩
    rw [hb, h]; simp
def b2i (b : Bool) : Int := if b then 1 else 0
/-- Round a cell there is one jump. -/
theorem four_jump {W T : Int} {xs : List Bool} {H : List Int} {N : Nat} (hW : 1 ≤ W) (hN : (W + 1) * (T + 1) = (N : Int)) (hr : sdsOk W T xs H N = true) {x y : Int} (ha : atB W T xs x y = true) :
    b2i (jmpB W T xs H (cI W x y) false) + b2i (jmpB W T xs H (cI W (x + 1) y) true) + b2i (jmpB W T xs H (cI W x (y + 1)) false) + b2i (jmpB W T xs H (cI W x y) true) = 1 := by
  obtain ⟨a0, a1, a2, a3⟩ := atB_in ha
  obtain ⟨p1, p2, p3⟩ := cI_xy (W := W) (x := x) (y := y) a0 (by omega) a2
  obtain ⟨q1, q2, q3⟩ := cI_xy (W := W) (x := x) (y := y + 1) a0 (by omega) (by omega)
  obtain ⟨r1, r2, r3⟩ := cI_xy (W := W) (x := x + 1) (y := y) (by omega) (by omega) a2
  obtain ⟨⟨s1, s2⟩, ⟨b1, b2⟩, ⟨c1, c2⟩, ⟨d1, d2⟩⟩ := cell_sides hW ha
  have lt : ∀ {k : Nat} {nth : Bool}, sUsed W T xs k nth = true → k < N := fun h => by obtain ⟨t0, t1, t2⟩ := sTo_lt hW h; omega
  have ga := side_ok hr (lt s1) s1
  have gb := side_ok hr (lt b1) b1
  have gc := side_ok hr (lt c1) c1
  have gd := side_ok hr (lt d1) d1
  rw [s2, Int.toNat_natCast, sRise_rs] at ga
  rw [b2, Int.toNat_natCast, sRise_rs] at gb
  rw [c2, Int.toNat_natCast, sRise_rs] at gc
  rw [d2, Int.toNat_natCast, sRise_rs] at gd
  have el : ∀ k, sLx W k false = kx W k := fun k => rfl
  have er : ∀ k, sLx W k true = kx W k - 1 := fun k => rfl
  rw [el, p2, p3] at ga
  rw [el, q2, q3, dkP_n] at gb
  rw [er, p2, p3, dkP_e] at gc
  rw [er, r2, r3, Int.add_sub_cancel] at gd
  generalize jmpB W T xs H (cI W x y) false = jS at *
  generalize jmpB W T xs H (cI W (x + 1) y) true = jE at *
  generalize jmpB W T xs H (cI W x (y + 1)) false = jN at *
  generalize jmpB W T xs H (cI W x y) true = jW at *
  generalize H.getD (cI W x y) 0 = h00 at *
  generalize H.getD (cI W (x + 1) y) 0 = h10 at *
  generalize H.getD (cI W x (y + 1)) 0 = h01 at *
  generalize H.getD (cI W (x + 1) (y + 1)) 0 = h11 at *
  generalize dkP x y = D at ga gb gc gd
  clear lt el er
  cases D <;> simp at ga gb gc gd <;>
    rcases ga with ⟨ga, rfl⟩ | ⟨ga, rfl⟩ <;> rcases gb with ⟨gb, rfl⟩ | ⟨gb, rfl⟩ <;> rcases gc with ⟨gc, rfl⟩ | ⟨gc, rfl⟩ <;> rcases gd with ⟨gd, rfl⟩ | ⟨gd, rfl⟩ <;> simp only [b2i, Bool.false_eq_true, if_true, if_false] <;> omega

/-- Of which cell a side with cells on both sides is one. -/
theorem side_left {W T : Int} {xs : List Bool} {k : Nat} {nth : Bool} (hW : 1 ≤ W) (h : sBoth W T xs k nth = true) : ∃ a b : Nat, sCell W k nth = a ∧ sOther W k nth = b ∧ (a : Int) < W * T ∧ (b : Int) < W * T ∧ a ≠ b ∧
    (a : Int) % W = sLx W k nth ∧ (a : Int) / W = ky W k ∧ (b : Int) % W = kx W k ∧ (b : Int) / W = sRy W k nth ∧ atB W T xs (sLx W k nth) (ky W k) = true ∧ atB W T xs (kx W k) (sRy W k nth) = true := by
  unfold sBoth at h
  rw [Bool.and_eq_true] at h
  have hl : atB W T xs (sLx W k nth) (ky W k) = true := h.1
  have hr : atB W T xs (kx W k) (sRy W k nth) = true := h.2
  have l := atB_in hl
  have r := atB_in hr
  obtain ⟨a, ha, ax, ay, al⟩ := place_idx l.1 l.2.1 l.2.2.1 l.2.2.2
  obtain ⟨b, hb, bx, by_, bl⟩ := place_idx r.1 r.2.1 r.2.2.1 r.2.2.2
  refine ⟨a, b, ha.symm, hb.symm, al, bl, ?_, ax, ay, bx, by_, hl, hr⟩
  rintro rfl
  rw [ax] at bx
  rw [ay] at by_
  unfold sLx at bx
  unfold sRy at by_
  cases nth
  · simp at by_; omega
  · simp at bx; omega
end Go.Proofs.Ytknigcjpgkolgaa

namespace Go.Proofs.Ytknigcjpgkolgaa
open Go.RowKit
set_option linter.unusedVariables false
set_option maxRecDepth 100000
set_option linter.unusedSimpArgs false

end Go.Proofs.Ytknigcjpgkolgaa

namespace Go.Proofs.Ytknigcjpgkolgaa
open Go.RowKit
set_option linter.unusedVariables false
set_option maxRecDepth 100000
set_option linter.unusedSimpArgs false

end Go.Proofs.Ytknigcjpgkolgaa

namespace Go.Proofs.Ytknigcjpgkolgaa
open Go.RowKit
set_option linter.unusedVariables false
set_option maxRecDepth 100000
set_option linter.unusedSimpArgs false

/-- Right heights, fact by fact. -/
structure HokP (W T : Int) (xs : List Bool) (H : List Int) (N fk : Nat) : Prop where
  hs : simpleB W T xs = true
  hN : (W + 1) * (T + 1) = (N : Int)
  fst : frstK W T xs N = fk
  len : H.length = N
  off : ∀ k, k < N → hAt W T xs k = false → H.getD k 0 = 99
  bd : ∀ k, k < N → hAt W T xs k = true → -60 ≤ H.getD k 0 ∧ H.getD k 0 ≤ 60
  side : ∀ k nth, k < N → sUsed W T xs k nth = true → rMay W T xs k nth (H.getD (sTo W k nth).toNat 0 - H.getD k 0) = true
  first : H.getD fk 0 = 0
theorem hokP_size {W T : Int} {xs : List Bool} (hs : simpleB W T xs = true) : ∃ N fk : Nat, (W + 1) * (T + 1) = (N : Int) ∧ frstK W T xs N = fk := by
  obtain ⟨v1, v2, v3, v4, v5, v6⟩ := rv_true (simpleB_rv hs)
  have hcb := corn_bd v1 v2 v3 v4
  obtain ⟨N, hN⟩ := Int.eq_ofNat_of_zero_le (show 0 ≤ (W + 1) * (T + 1) by omega)
  have hfr := simple_first hs hN
  obtain ⟨fk, hfk⟩ := Int.eq_ofNat_of_zero_le hfr
  exact ⟨N, fk, hN, hfk⟩
theorem hok_to {W T : Int} {xs : List Bool} {H : List Int} {N fk : Nat} (hN : (W + 1) * (T + 1) = (N : Int)) (hf : frstK W T xs N = fk) (h : hokB W T xs H = true) : HokP W T xs H N fk := by
  unfold hokB at h
  simp only [Bool.and_eq_true, decide_eq_true_eq, beq_iff_eq] at h
  obtain ⟨⟨⟨⟨hs, hl⟩, hm⟩, hsd⟩, h0⟩ := h
  have el : H.length = N := by omega
  rw [el] at hm hsd h0
  have hm' : ∀ k, k < N → hMay W T xs k (H.getD k 0) = true := by
    intro k hk
    unfold hsMay at hm
    exact List.all_eq_true.1 hm k (List.mem_range.2 hk)
  refine ⟨hs, hN, hf, el, ?_, ?_, ?_, ?_⟩
  · intro k hk ha
    have := hm' k hk
    unfold hMay at this
    rw [ha] at this
    simpa using this
  · intro k hk ha
    have := hm' k hk
    unfold hMay inB at this
    rw [ha] at this
    simpa using this
  · intro k nth hk hu
    exact sdsOk_iff.1 hsd (k, nth) (sidesK_mem.2 ⟨hk, hu⟩)
  · rw [hf] at h0; simpa using h0
theorem hok_of {W T : Int} {xs : List Bool} {H : List Int} {N fk : Nat} (h : HokP W T xs H N fk) : hokB W T xs H = true := by
  unfold hokB
  simp only [Bool.and_eq_true, decide_eq_true_eq, beq_iff_eq]
  have hN := h.hN
  refine ⟨⟨⟨⟨h.hs, by rw [h.len]; omega⟩, ?_⟩, ?_⟩, ?_⟩
  · rw [h.len]
    unfold hsMay
    rw [List.all_eq_true]
    intro k hk
    have hk := List.mem_range.1 hk
    unfold hMay
    cases ha : hAt W T xs k
    · have := h.off k hk ha
      simpa using this
    · have := h.bd k hk ha
      unfold inB
      simpa using this
  · rw [h.len, sdsOk_iff]
    rintro ⟨k, nth⟩ hs
    obtain ⟨h1, h2⟩ := sidesK_mem.1 hs
    exact h.side k nth h1 h2
  · rw [h.len, h.fst]; simpa using h.first
theorem may_of {W T : Int} {xs : List Bool} {k : Nat} {nth : Bool} {d : Int} (h : d = sRise W k nth ∨ (sBoth W T xs k nth = true ∧ d = -3 * sRise W k nth)) : rMay W T xs k nth d = true := by
  unfold rMay
  simp only [Bool.or_eq_true, Bool.and_eq_true, beq_iff_eq]
  exact h
theorem hok_length {W T : Int} {xs : List Bool} {A B : List Int} (hA : hokB W T xs A = true) (hB : hokB W T xs B = true) : A.length = B.length := by
  have a := (hokB_len hA).1
  have b := (hokB_len hB).1
  omega
theorem hok_nil (W T : Int) (xs : List Bool) : hokB W T xs [] = false := by
  cases h : hokB W T xs []
  · rfl
  · obtain ⟨h1, h2⟩ := hokB_len h
    obtain ⟨v1, v2, v3, v4, v5, v6⟩ := rv_true h2
    have hcb := corn_bd v1 v2 v3 v4
    simp only [List.length_nil] at h1
    omega

end Go.Proofs.Ytknigcjpgkolgaa

namespace Go.Proofs.Ytknigcjpgkolgaa
open Go.RowKit
set_option linter.unusedVariables false
set_option maxRecDepth 100000
set_option linter.unusedSimpArgs false

/-- Which way the domino of the cell at a place lies, told by jumps. -/
def wayP (W T : Int) (xs : List Bool) (H : List Int) (x y : Int) : Int :=
  if jmpB W T xs H (cI W x y) false then 4
  else if jmpB W T xs H (cI W (x + 1) y) true then 1
  else if jmpB W T xs H (cI W x (y + 1)) false then 2
  else if jmpB W T xs H (cI W x y) true then 3 else 0
theorem jmpP_all {W T : Int} {xs : List Bool} {H : List Int} (hW : 1 ≤ W) {N : Nat} (hN : (W + 1) * (T + 1) = (N : Int)) : jmpP W T xs H (sidesK W T xs N) = jmpB W T xs H := by
  funext k nth
  unfold jmpP
  cases hj : jmpB W T xs H k nth
  · simp
  · have hb : sBoth W T xs k nth = true := by unfold jmpB at hj; rw [Bool.and_eq_true] at hj; exact hj.1
    have hu : sUsed W T xs k nth = true := by unfold sBoth at hb; unfold sUsed; rw [Bool.and_eq_true] at hb; rw [hb.1]; rfl
    obtain ⟨t0, t1, t2⟩ := sTo_lt hW hu
    have hm : (k, nth) ∈ sidesK W T xs N := sidesK_mem.2 ⟨by omega, hu⟩
    rw [Bool.and_true]
    simpa using hm
theorem tbyL_get {W T : Int} {xs : List Bool} {H : List Int} (hW : 1 ≤ W) {N : Nat} (hN : (W + 1) * (T + 1) = (N : Int)) {c : Nat} (hc : c < xs.length) : (tbyP W T xs H (sidesK W T xs N)).getD c 0 = wayP W T xs H ((c : Int) % W) ((c : Int) / W) := by
  rw [tbyP_get hc, jmpP_all hW hN]; rfl
theorem jmp_south {W T : Int} {xs : List Bool} {H : List Int} {x y : Int} (hx0 : 0 ≤ x) (hx1 : x ≤ W) (hy0 : 0 ≤ y) (h : jmpB W T xs H (cI W x y) false = true) : atB W T xs x y = true ∧ atB W T xs x (y - 1) = true := by
  obtain ⟨p1, p2, p3⟩ := cI_xy hx0 hx1 hy0
  unfold jmpB at h
  rw [Bool.and_eq_true] at h
  have hb := h.1
  unfold sBoth sLeft sRight sLx sRy at hb
  simp only [Bool.false_eq_true, if_false, Bool.and_eq_true, p2, p3] at hb
  exact hb
theorem jmp_west {W T : Int} {xs : List Bool} {H : List Int} {x y : Int} (hx0 : 0 ≤ x) (hx1 : x ≤ W) (hy0 : 0 ≤ y) (h : jmpB W T xs H (cI W x y) true = true) : atB W T xs (x - 1) y = true ∧ atB W T xs x y = true := by
  obtain ⟨p1, p2, p3⟩ := cI_xy hx0 hx1 hy0
  unfold jmpB at h
  rw [Bool.and_eq_true] at h
  have hb := h.1
  unfold sBoth sLeft sRight sLx sRy at hb
  simp only [if_true, Bool.and_eq_true, p2, p3] at hb
  exact hb
/-- The jumps round a cell: exactly one. -/
theorem way_cases {W T : Int} {xs : List Bool} {H : List Int} {N : Nat} (hW : 1 ≤ W) (hN : (W + 1) * (T + 1) = (N : Int)) (hr : sdsOk W T xs H N = true) {x y : Int} (ha : atB W T xs x y = true) :
    1 ≤ wayP W T xs H x y ∧ wayP W T xs H x y ≤ 4 ∧ (wayP W T xs H x y = 4 ↔ jmpB W T xs H (cI W x y) false = true) ∧ (wayP W T xs H x y = 1 ↔ jmpB W T xs H (cI W (x + 1) y) true = true) ∧
    (wayP W T xs H x y = 2 ↔ jmpB W T xs H (cI W x (y + 1)) false = true) ∧ (wayP W T xs H x y = 3 ↔ jmpB W T xs H (cI W x y) true = true) := by
  have h := four_jump hW hN hr ha
  unfold wayP
  generalize jmpB W T xs H (cI W x y) false = a at *
  generalize jmpB W T xs H (cI W (x + 1) y) true = b at *
  generalize jmpB W T xs H (cI W x (y + 1)) false = c at *
  generalize jmpB W T xs H (cI W x y) true = d at *
  cases a <;> cases b <;> cases c <;> cases d <;> simp [b2i] at h ⊢
theorem way_none {W T : Int} {xs : List Bool} {H : List Int} (hW : 1 ≤ W) {x y : Int} (hx0 : 0 ≤ x) (hx1 : x < W) (hy0 : 0 ≤ y) (ha : atB W T xs x y = false) : wayP W T xs H x y = 0 := by
  unfold wayP
  rw [if_neg (fun h => by rw [(jmp_south hx0 (by omega) hy0 h).1] at ha; cases ha)]
  rw [if_neg (fun h => by have := (jmp_west (by omega) (by omega) hy0 h).1; rw [Int.add_sub_cancel, ha] at this; cases this)]
  rw [if_neg (fun h => by have := (jmp_south hx0 (by omega) (by omega) h).2; rw [Int.add_sub_cancel, ha] at this; cases this)]
  rw [if_neg (fun h => by rw [(jmp_west hx0 (by omega) hy0 h).2] at ha; cases ha)]
/-- The way at the other cell of a domino that heights tell. -/
theorem way_next {W T : Int} {xs : List Bool} {H : List Int} {N : Nat} (hW : 1 ≤ W) (hN : (W + 1) * (T + 1) = (N : Int)) (hr : sdsOk W T xs H N = true) {x y : Int} (ha : atB W T xs x y = true) :
    (wayP W T xs H x y = 1 → atB W T xs (x + 1) y = true ∧ wayP W T xs H (x + 1) y = 3) ∧ (wayP W T xs H x y = 2 → atB W T xs x (y + 1) = true ∧ wayP W T xs H x (y + 1) = 4) ∧
    (wayP W T xs H x y = 3 → atB W T xs (x - 1) y = true ∧ wayP W T xs H (x - 1) y = 1) ∧ (wayP W T xs H x y = 4 → atB W T xs x (y - 1) = true ∧ wayP W T xs H x (y - 1) = 2) := by
  obtain ⟨a0, a1, a2, a3⟩ := atB_in ha
  obtain ⟨_, _, c4, c1, c2, c3⟩ := way_cases hW hN hr ha
  refine ⟨fun h => ?_, fun h => ?_, fun h => ?_, fun h => ?_⟩
  · have j := c1.1 h
    have ha' := (jmp_west (by omega) (by omega) a2 j).2
    exact ⟨ha', (way_cases hW hN hr ha').2.2.2.2.2.2 j⟩
  · have j := c2.1 h
    have ha' := (jmp_south a0 (by omega) (by omega) j).1
    exact ⟨ha', (way_cases hW hN hr ha').2.2.1.2 j⟩
  · have j := c3.1 h
    have ha' := (jmp_west (by omega) (by omega) a2 j).1
    exact ⟨ha', (way_cases hW hN hr ha').2.2.2.1.2 (by rw [Int.sub_add_cancel]; exact j)⟩
  · have j := c4.1 h
    have ha' := (jmp_south a0 (by omega) a2 j).2
    exact ⟨ha', (way_cases hW hN hr ha').2.2.2.2.1.2 (by rw [Int.sub_add_cancel]; exact j)⟩
theorem at_cell {W T : Int} {xs : List Bool} {c : Nat} (hW : 1 ≤ W) (hl : (xs.length : Int) = W * T) (hc : c < xs.length) : atB W T xs ((c : Int) % W) ((c : Int) / W) = xs.getD c false ∧ 0 ≤ (c : Int) % W ∧ (c : Int) % W < W ∧ 0 ≤ (c : Int) / W ∧ (c : Int) / W < T := by
  have c0 := Int.emod_nonneg (c : Int) (show W ≠ 0 by omega)
  have c1 := Int.emod_lt_of_pos (c : Int) (show 0 < W by omega)
  have c2 := Int.ediv_nonneg (show (0 : Int) ≤ c by omega) (show 0 ≤ W by omega)
  have ce := Int.emod_add_mul_ediv (c : Int) W
  have c3 : (c : Int) / W < T := Int.ediv_lt_of_lt_mul (by omega) (by rw [Int.mul_comm]; omega)
  refine ⟨?_, c0, c1, c2, c3⟩
  unfold atB inF
  rw [decide_eq_true ⟨c0, c1, c2, c3⟩, Bool.true_and]
  congr 1
  rw [Int.mul_comm]; omega
theorem at_idx {W T : Int} {xs : List Bool} {x y : Int} (ha : atB W T xs x y = true) (hl : (xs.length : Int) = W * T) : ∃ k : Nat, (k : Int) = y * W + x ∧ (k : Int) % W = x ∧ (k : Int) / W = y ∧ k < xs.length ∧ xs.getD k false = true := by
  obtain ⟨a0, a1, a2, a3⟩ := atB_in ha
  obtain ⟨k, hk, kx, ky, hkl⟩ := place_idx a0 a1 a2 a3
  refine ⟨k, hk, kx, ky, by omega, ?_⟩
  unfold atB at ha
  rw [Bool.and_eq_true, show (y * W + x).toNat = k by omega] at ha
  exact ha.2
/-- What right heights tell is a tiling. -/
theorem tby_tok {W T : Int} {xs : List Bool} {H : List Int} {N fk : Nat} (h : HokP W T xs H N fk) : tok W T xs (tbyP W T xs H (sidesK W T xs N)) = true := by
  have hrv := simpleB_rv h.hs
  obtain ⟨v1, v2, v3, v4, v5, v6⟩ := rv_true hrv
  have hN := h.hN
  have hr : sdsOk W T xs H N = true := sdsOk_iff.2 (fun s hs => by obtain ⟨k, nth⟩ := s; obtain ⟨h1, h2⟩ := sidesK_mem.1 hs; exact h.side k nth h1 h2)
  have G : ∀ c, c < xs.length → (tbyP W T xs H (sidesK W T xs N)).getD c 0 = wayP W T xs H ((c : Int) % W) ((c : Int) / W) := fun c hc => tbyL_get v1 hN hc
  have hlen : (tbyP W T xs H (sidesK W T xs N)).length = xs.length := tbyP_len _ _ _ _ _
  have hlok : lok W T xs (tbyP W T xs H (sidesK W T xs N)) = true := by
    unfold lok
    rw [hrv, hlen]
    simp only [BEq.rfl, Bool.true_and]
    unfold goodN
    rw [List.all_eq_true]
    intro c hc
    have hc := List.mem_range.1 hc
    obtain ⟨ea, c0, c1, c2, c3⟩ := at_cell (W := W) (T := T) v1 v5 hc
    cases hx : xs.getD c false
    · rw [hx] at ea
      exact good_zero (by rw [G c hc, way_none v1 c0 c1 c2 ea])
    · rw [hx] at ea
      obtain ⟨w1, w4, _⟩ := way_cases v1 hN hr ea
      obtain ⟨n1, n2, n3, n4⟩ := way_next v1 hN hr ea
      have ce := Int.emod_add_mul_ediv (c : Int) W
      have tgt : ∀ x' y' : Int, atB W T xs x' y' = true → wayP W T xs H x' y' = backI (wayP W T xs H ((c : Int) % W) ((c : Int) / W)) → stepI W T c (wayP W T xs H ((c : Int) % W) ((c : Int) / W)) = y' * W + x' → goodB W T xs (tbyP W T xs H (sidesK W T xs N)) c = true := by
        intro x' y' ha' hw' hs'
        obtain ⟨o, ho, ox, oy, hol, hox⟩ := at_idx ha' v5
        unfold goodB bothB
        rw [G c hc, hs', ← ho, Int.toNat_natCast, G o hol, ox, oy, hw', hx, hox]
        simp
      generalize hv : wayP W T xs H ((c : Int) % W) ((c : Int) / W) = v at *
      generalize hX : (c : Int) % W = X at *
      generalize hY : (c : Int) / W = Y at *
      have hmul : W * Y = Y * W := Int.mul_comm _ _
      have : v = 1 ∨ v = 2 ∨ v = 3 ∨ v = 4 := by omega
      rcases this with rfl | rfl | rfl | rfl
      · obtain ⟨b1, b2⟩ := n1 rfl
        obtain ⟨q0, q1, q2, q3⟩ := atB_in b1
        refine tgt _ _ b1 b2 ?_
        unfold stepI
        rw [hX, if_pos ⟨rfl, by omega⟩]; omega
      · obtain ⟨b1, b2⟩ := n2 rfl
        obtain ⟨q0, q1, q2, q3⟩ := atB_in b1
        refine tgt _ _ b1 b2 ?_
        unfold stepI
        rw [hY, if_neg (by omega), if_pos ⟨rfl, by omega⟩, Int.add_mul]; omega
      · obtain ⟨b1, b2⟩ := n3 rfl
        obtain ⟨q0, q1, q2, q3⟩ := atB_in b1
        refine tgt _ _ b1 b2 ?_
        unfold stepI
        rw [hX, if_neg (by omega), if_neg (by omega), if_pos ⟨rfl, by omega⟩]; omega
      · obtain ⟨b1, b2⟩ := n4 rfl
        obtain ⟨q0, q1, q2, q3⟩ := atB_in b1
        refine tgt _ _ b1 b2 ?_
        unfold stepI
        rw [hY, if_neg (by omega), if_neg (by omega), if_neg (by omega), if_pos ⟨rfl, by omega⟩, Int.sub_mul]; omega
  unfold tok
  rw [hlok, Bool.true_and, decide_eq_true_eq]
  rcases first_cases xs (tbyP W T xs H (sidesK W T xs N)) 0 (tbyP W T xs H (sidesK W T xs N)).length with ⟨e, _⟩ | ⟨j, _, hj, _, hf, _⟩
  · omega
  · exfalso
    rw [hlen] at hj
    unfold freeB at hf
    rw [Bool.and_eq_true, G j hj, beq_iff_eq] at hf
    obtain ⟨ea, _⟩ := at_cell (W := W) (T := T) v1 v5 hj
    rw [hf.1] at ea
    have := way_cases v1 hN hr ea
    omega
theorem hts_like {W T : Int} {xs : List Bool} {L H : List Int} {N fk : Nat} (hs : simpleB W T xs = true) (ht : tok W T xs L = true) (hN : (W + 1) * (T + 1) = (N : Int)) (hf : frstK W T xs N = fk) (hlen : H.length = N) (hoff : ∀ k, k < N → hAt W T xs k = false → H.getD k 0 = 99) (h0 : H.getD fk 0 = 0)
    (hside : ∀ k nth, k < N → sUsed W T xs k nth = true → H.getD (sTo W k nth).toNat 0 - H.getD k 0 = rT W T xs L k nth) : HtsOf W T xs L H N := by
  obtain ⟨H', h'⟩ := hts_exist hs ht hN hf
  obtain ⟨v1, v2, v3, v4, v5, v6⟩ := rv_true (simpleB_rv hs)
  have all := corners_all hs hf (fun k => H.getD k 0 = H'.getD k 0) (by rw [h0, h'.first fk hf]) (fun k nth hu => by
    obtain ⟨t0, t1, t2⟩ := sTo_lt v1 hu
    have a := hside k nth (by omega) hu
    have b := h'.side k nth (by omega) hu
    omega)
  have e : H = H' := by
    refine ext_getD (by rw [hlen, h'.len]) fun k hk => ?_
    rw [hlen] at hk
    cases ha : hAt W T xs k
    · rw [hoff k hk ha, h'.off k hk ha]
    · exact all k ha
  rw [e]; exact h'
/-- Right heights are the heights of the tiling that they tell. -/
theorem tby_hts {W T : Int} {xs : List Bool} {H : List Int} {N fk : Nat} (h : HokP W T xs H N fk) : HtsOf W T xs (tbyP W T xs H (sidesK W T xs N)) H N := by
  have hrv := simpleB_rv h.hs
  obtain ⟨v1, v2, v3, v4, v5, v6⟩ := rv_true hrv
  have hN := h.hN
  have hr : sdsOk W T xs H N = true := sdsOk_iff.2 (fun s hs => by obtain ⟨k, nth⟩ := s; obtain ⟨h1, h2⟩ := sidesK_mem.1 hs; exact h.side k nth h1 h2)
  refine hts_like h.hs (tby_tok h) hN h.fst h.len h.off h.first fun k nth hk hu => ?_
  have hside := side_ok hr hk hu
  have key : sBoth W T xs k nth = true → ((tbyP W T xs H (sidesK W T xs N)).getD (sCell W k nth).toNat 0 = sWay nth ↔ jmpB W T xs H k nth = true) := by
    intro hb
    obtain ⟨a, b, e1, e2, al, bl, hne, ax, ay, bx, by_, hl, hra⟩ := side_left v1 hb
    rw [e1, Int.toNat_natCast, tbyL_get v1 hN (by omega), ax, ay]
    obtain ⟨_, _, c4, c1, c2, c3⟩ := way_cases v1 hN hr hl
    have ek := cI_of v1 k
    cases nth
    · have ex : sLx W k false = kx W k := rfl
      rw [ex] at c4 ⊢
      rw [ek] at c4
      exact c4
    · have ex : sLx W k true = kx W k - 1 := rfl
      rw [ex] at c1 ⊢
      rw [Int.sub_add_cancel, ek] at c1
      exact c1
  unfold rT
  cases hb : sBoth W T xs k nth
  · rw [Bool.false_and, if_neg (by simp)]
    rcases hside with ⟨e, _⟩ | ⟨_, hj⟩
    · exact e
    · unfold jmpB at hj; rw [hb] at hj; simp at hj
  · have kk := key hb
    rcases hside with ⟨e, hj⟩ | ⟨e, hj⟩
    · rw [if_neg (by rw [Bool.true_and, beq_iff_eq, kk, hj]; simp)]; exact e
    · rw [if_pos (by rw [Bool.true_and, beq_iff_eq, kk]; exact hj)]; exact e
/-- The heights of a tiling are right. -/
theorem hts_hok {W T : Int} {xs : List Bool} {L H : List Int} {N fk : Nat} (hs : simpleB W T xs = true) (hN : (W + 1) * (T + 1) = (N : Int)) (hf : frstK W T xs N = fk) (h : HtsOf W T xs L H N) : HokP W T xs H N fk := by
  refine ⟨hs, hN, hf, h.len, h.off, fun k hk ha => by have := h.bd k hk ha; omega, fun k nth hk hu => ?_, h.first fk hf⟩
  rw [h.side k nth hk hu]
  refine may_of ?_
  unfold rT
  cases hb : sBoth W T xs k nth
  · left; simp
  · by_cases e : (true && (L.getD (sCell W k nth).toNat 0 == sWay nth)) = true
    · rw [if_pos e]; right; exact ⟨rfl, rfl⟩
    · rw [if_neg e]; left; rfl
theorem rs_inj (d a b : Bool) (h : rsB d a = rsB d b) : a = b := by cases d <;> cases a <;> cases b <;> first | rfl | (exfalso; revert h; decide)
/-- Tilings with the same heights are the same. -/
theorem hts_inj {W T : Int} {xs : List Bool} {L L' H : List Int} {N : Nat} (hN : (W + 1) * (T + 1) = (N : Int)) (ht : tok W T xs L = true) (ht' : tok W T xs L' = true) (h : HtsOf W T xs L H N) (h' : HtsOf W T xs L' H N) : L = L' := by
  have hl := tok_lok1 ht
  have hl' := tok_lok1 ht'
  obtain ⟨hrv, len, _⟩ := lok_rv hl
  obtain ⟨_, len', _⟩ := lok_rv hl'
  obtain ⟨v1, v2, v3, v4, v5, v6⟩ := rv_true hrv
  refine ext_getD (by rw [len, len']) fun c hc => ?_
  rw [len] at hc
  obtain ⟨ea, c0, c1, c2, c3⟩ := at_cell (W := W) (T := T) v1 v5 hc
  cases hx : xs.getD c false
  · have z : ∀ M : List Int, lok W T xs M = true → M.getD c 0 = 0 := by
      intro M hM
      by_cases e : M.getD c 0 = 0
      · exact e
      · obtain ⟨o, _, _, _, hxc, _⟩ := lok_at hM hc e
        rw [hx] at hxc; cases hxc
    rw [z L hl, z L' hl']
  · rw [hx] at ea
    have ce := Int.emod_add_mul_ediv (c : Int) W
    have hv : ∀ M : List Int, lv W T xs M ((c : Int) % W) ((c : Int) / W) = M.getD c 0 := by
      intro M
      unfold lv
      rw [ea, if_pos rfl]
      congr 1
      rw [Int.mul_comm]; omega
    obtain ⟨f1, f2, f3⟩ := lv_four ht ea
    obtain ⟨g1, g2, g3⟩ := lv_four ht' ea
    obtain ⟨⟨s1, s2⟩, ⟨b1, b2⟩, ⟨w1, w2⟩, ⟨d1, d2⟩⟩ := cell_sides v1 ea
    have lt : ∀ {k : Nat} {nth : Bool}, sUsed W T xs k nth = true → k < N := fun hh => by obtain ⟨t0, t1, t2⟩ := sTo_lt v1 hh; omega
    have same : ∀ k nth, sUsed W T xs k nth = true → (lv W T xs L (sLx W k nth) (ky W k) == sWay nth) = (lv W T xs L' (sLx W k nth) (ky W k) == sWay nth) := by
      intro k nth hu
      have a := h.side k nth (lt hu) hu
      have b := h'.side k nth (lt hu) hu
      rw [rT_eq hl] at a
      rw [rT_eq hl'] at b
      exact rs_inj _ _ _ (a.symm.trans b)
    obtain ⟨p1, p2, p3⟩ := cI_xy (W := W) (x := (c : Int) % W) (y := (c : Int) / W) c0 (by omega) c2
    obtain ⟨q1, q2, q3⟩ := cI_xy (W := W) (x := (c : Int) % W) (y := (c : Int) / W + 1) c0 (by omega) (by omega)
    obtain ⟨r1, r2, r3⟩ := cI_xy (W := W) (x := (c : Int) % W + 1) (y := (c : Int) / W) (by omega) (by omega) c2
    have t4 := same _ _ s1
    have t2 := same _ _ b1
    have t1 := same _ _ d1
    have el : ∀ k, sLx W k false = kx W k := fun k => rfl
    have er : ∀ k, sLx W k true = kx W k - 1 := fun k => rfl
    have wf : sWay false = 4 := rfl
    have wt : sWay true = 1 := rfl
    rw [el, p2, p3, wf] at t4
    rw [el, q2, q3, wf, f1, g1] at t2
    rw [er, r2, r3, Int.add_sub_cancel, wt] at t1
    rw [hv L] at f3 t4 t2 t1
    rw [hv L'] at g3 t4 t2 t1
    generalize L.getD c 0 = u at *
    generalize L'.getD c 0 = v at *
    have hu : u = 1 ∨ u = 2 ∨ u = 3 ∨ u = 4 := by omega
    have hv' : v = 1 ∨ v = 2 ∨ v = 3 ∨ v = 4 := by omega
    clear hv
    rcases hu with rfl | rfl | rfl | rfl <;> rcases hv' with rfl | rfl | rfl | rfl <;> first | rfl | (exfalso; revert t4; decide) | (exfalso; revert t2; decide) | (exfalso; revert t1; decide)

/-- The heights of a tiling, as the program's heights: they tell the tiling. -/
theorem tby_of {W T : Int} {xs : List Bool} {L H : List Int} (hs : simpleB W T xs = true) (ht : tok W T xs L = true) (h : HtsR W T xs L H) : hokB W T xs H = true ∧ tbyF W T xs H = (L, true) := by
  obtain ⟨N, fk, hN, hf⟩ := hokP_size hs
  rcases h with ⟨_, h⟩ | ⟨h, _⟩
  · have eN : ((W + 1) * (T + 1)).toNat = N := by omega
    rw [eN] at h
    have hp := hts_hok hs hN hf h
    have hk := hok_of hp
    refine ⟨hk, ?_⟩
    unfold tbyF
    rw [if_pos hk, eN, hts_inj hN (tby_tok hp) ht (tby_hts hp) h]
  · rw [hs, ht] at h; cases h
end Go.Proofs.Ytknigcjpgkolgaa

namespace Go.Proofs.Ytknigcjpgkolgaa
open Go.RowKit Go.Shelf
set_option linter.unusedVariables false
set_option maxRecDepth 100000
set_option linter.unusedSimpArgs false

/-- The values ws are lists of the call's own, from block B on, no two in one block. -/
structure RowsI (w : World) (B : Nat) (ws : List Value) (rows : List (List Int)) : Prop where
  len : ws.length = rows.length
  own : ∀ i, i < rows.length → OwnsI w B (ws.getD i (.slice none 0 0)) (rows.getD i [])
  apart : ∀ i j, i < j → j < rows.length → ∀ k, (ws.getD i (.slice none 0 0)).ownBlock = some k → (ws.getD j (.slice none 0 0)).ownBlock ≠ some k

/-- A list of lists that the call owns from block B on. -/
def OwnsSS (w : World) (B : Nat) (v : Value) (rows : List (List Int)) : Prop := ∃ ws, w.ownsRow B 26 1 v rows.length ws ∧ RowsI w B ws rows

theorem RowsI.nil (w : World) (B : Nat) : RowsI w B [] [] := ⟨rfl, fun i h => absurd h (Nat.not_lt_zero i), fun i j _ h => absurd h (Nat.not_lt_zero j)⟩
theorem OwnsSS.nil (w : World) (B : Nat) : OwnsSS w B (.slice none 0 0) [] := ⟨[], World.ownsRow_nil _ _ _ _, RowsI.nil w B⟩
/-- A step that turns none of the lists' own blocks. -/
theorem RowsI.kept {w w' : World} {B : Nat} {ws : List Value} {rows : List (List Int)} {row : Option Nat} (h : RowsI w B ws rows) (hg : w.grownBy w' row) (hr : ∀ i, i < rows.length → ∀ k, (ws.getD i (.slice none 0 0)).ownBlock = some k → row ≠ some k) : RowsI w' B ws rows :=
  ⟨h.len, fun i hi => World.ownsRow.kept (h.own i hi) hg (by
    cases hk : (ws.getD i (.slice none 0 0)).ownBlock with
    | none => exact Or.inl rfl
    | some k => exact Or.inr (fun e => hr i hi k hk e.symm)), h.apart⟩
theorem RowsI.below {w w' : World} {B : Nat} {ws : List Value} {rows : List (List Int)} (h : RowsI w B ws rows) (hb : Below w.heap.size w w') : RowsI w' B ws rows := ⟨h.len, fun i hi => (h.own i hi).below hb, h.apart⟩
theorem OwnsSS.below {w w' : World} {B : Nat} {v : Value} {rows : List (List Int)} (h : OwnsSS w B v rows) (hb : Below w.heap.size w w') : OwnsSS w' B v rows := by
  obtain ⟨ws, h1, h2⟩ := h
  refine ⟨ws, ?_, h2.below hb⟩
  exact h1.kept (grown_of_below hb none) (by cases v.ownBlock <;> simp)
/-- A list more. -/
theorem RowsI.snoc {w : World} {B : Nat} {ws : List Value} {rows : List (List Int)} {v : Value} {M : List Int} (h : RowsI w B ws rows) (ho : OwnsI w B v M) (hf : ∀ i, i < rows.length → ∀ k, (ws.getD i (.slice none 0 0)).ownBlock = some k → v.ownBlock ≠ some k) : RowsI w B (ws ++ [v]) (rows ++ [M]) := by
  have gl : ∀ i, i < rows.length → (ws ++ [v]).getD i (.slice none 0 0) = ws.getD i (.slice none 0 0) := fun i hi => by
    simp [List.getD, List.getElem?_append_left (show i < ws.length by rw [h.len]; exact hi)]
  have gr : ∀ i, i < rows.length → (rows ++ [M]).getD i [] = rows.getD i [] := fun i hi => by
    simp [List.getD, List.getElem?_append_left hi]
  have gv : (ws ++ [v]).getD rows.length (.slice none 0 0) = v := by rw [← h.len]; simp [List.getD]
  have gm : (rows ++ [M]).getD rows.length [] = M := by simp [List.getD]
  refine ⟨by simp [h.len], fun i hi => ?_, fun i j hij hj k hk => ?_⟩
  · rw [List.length_append, List.length_singleton] at hi
    by_cases e : i < rows.length
    · rw [gl i e, gr i e]; exact h.own i e
    · obtain rfl : i = rows.length := by omega
      rw [gv, gm]; exact ho
  · rw [List.length_append, List.length_singleton] at hj
    rw [gl i (by omega)] at hk
    by_cases e : j < rows.length
    · rw [gl j e]; exact h.apart i j hij e k hk
    · obtain rfl : j = rows.length := by omega
      rw [gv]; exact hf i hij k hk
/-- The blocks of the lists lie in the heap, from B on, and hold integers. -/
theorem RowsI.block {w : World} {B : Nat} {ws : List Value} {rows : List (List Int)} (h : RowsI w B ws rows) {i k : Nat} (hi : i < rows.length) (hk : (ws.getD i (.slice none 0 0)).ownBlock = some k) : B ≤ k ∧ ∃ cs, w.heap[k]? = some (.cells cs 3 (0, 0)) := by
  have ho := h.own i hi
  refine ⟨(World.ownsRow.lt ho k hk).1, ?_⟩
  rcases ho.2 with ⟨e, _⟩ | ⟨g, cap, cur, e, _, hh, _⟩
  · rw [e] at hk; cases hk
  · rw [e] at hk
    obtain rfl : g = k := by simpa [Value.ownBlock] using hk
    exact ⟨cur, hh⟩
end Go.Proofs.Ytknigcjpgkolgaa

namespace Go.Proofs.Ytknigcjpgkolgaa
open Go.RowKit
set_option linter.unusedVariables false
set_option maxRecDepth 100000
set_option linter.unusedSimpArgs false

theorem RowsI.one {w : World} {B : Nat} {v : Value} {M : List Int} (h : OwnsI w B v M) : RowsI w B [v] [M] :=
  RowsI.snoc (RowsI.nil w B) h (fun i hi => absurd hi (Nat.not_lt_zero i))

end Go.Proofs.Ytknigcjpgkolgaa

namespace Go.Proofs.Ytknigcjpgkolgaa
open Go.RowKit
set_option linter.unusedVariables false
set_option maxRecDepth 100000
set_option linter.unusedSimpArgs false

end Go.Proofs.Ytknigcjpgkolgaa

namespace Go.Proofs.Ytknigcjpgkolgaa
open Go.RowKit
set_option linter.unusedVariables false
set_option maxRecDepth 100000
set_option linter.unusedSimpArgs false

theorem nil_nilV (w : World) : Sem.run Try.prog (binOp BinOp.eql 26 (.slice none 0 0) (.slice none 0 0)) w = Result.ok (.bool true) w := by kernel_rfl
theorem some_nilV (g n c : Nat) (w : World) : Sem.run Try.prog (binOp BinOp.eql 26 (.slice (some ⟨g, 0, none⟩) n c) (.slice none 0 0)) w = Result.ok (.bool false) w := by kernel_rfl
attribute [local go_sem] nil_nilV some_nilV

theorem HtsR.entry {W T : Int} {xs : List Bool} {L H : List Int} (h : HtsR W T xs L H) {k : Nat} (hk : k < H.length) : -49 ≤ H.getD k 0 ∧ H.getD k 0 ≤ 99 := by
  rcases h with ⟨_, hH⟩ | ⟨_, rfl⟩
  · rw [hH.len] at hk
    cases ha : hAt W T xs k
    · have := hH.off k hk ha; omega
    · have := hH.bd k hk ha; omega
  · simp at hk
theorem HtsR.same {W T : Int} {xs : List Bool} {L H L' H' : List Int} (h : HtsR W T xs L H) (h' : HtsR W T xs L' H') (h0 : 0 < H.length) (h1 : 0 < H'.length) : H.length = H'.length := by
  rcases h with ⟨_, hH⟩ | ⟨_, rfl⟩
  · rcases h' with ⟨_, hH'⟩ | ⟨_, rfl⟩
    · rw [hH.len, hH'.len]
    · simp at h1
  · simp at h0
set_option maxHeartbeats 4000000 in
theorem iHeightsOf_nil (W T : Int) (a : Option Addr) (n cap : Nat) (xs : List Bool) (la0 : Option Addr) (m lcap : Nat) (L : List Int) (w : World) (hn : n = xs.length) (hn' : n ≤ 1048576) (hm : m = L.length) (hm' : m ≤ 1048576) (ha : BoolsAt w a xs) (hl : IntsAt w la0 L) (hH : HtsR W T xs L []) :
    Calls Try.prog 15 #[.agg #[.int .i64 W, .int .i64 T, .slice a n cap], .slice la0 m lcap] w fun e w' => e = .returned (.slice none 0 0) ∧ Below w.heap.size w w' := by
  have HN := Lib.hid hn; clear hn
  have HM := Lib.hid hm; clear hm
  have HA := Lib.hid ha; clear ha
  have HL := Lib.hid hl; clear hl
  obtain ⟨wA, hwA⟩ : ∃ wA, wA = (w.alloc (.cells #[.int .i64 W, .int .i64 T, .slice a n cap] 25)).alloc (.cells #[.slice la0 m lcap] 26) := ⟨_, rfl⟩
  have pA : wA.heap[w.heap.size]? = some (.cells #[.int .i64 W, .int .i64 T, .slice a n cap] 25 (0, 0)) := by rw [hwA]; exact heap_later (heap_new w _) (below1 _ _)
  have qA : wA.heap[w.heap.size + 1]? = some (.cells #[.slice la0 m lcap] 26 (0, 0)) := by rw [hwA]; have := heap_new (w.alloc (.cells #[.int .i64 W, .int .i64 T, .slice a n cap] 25)) (.cells #[.slice la0 m lcap] 26); simpa using this
  have bA : Below w.heap.size w wA := by rw [hwA]; exact below_seq (below1 _ _) (below1 _ _)
  have one : ∀ {w' : World} {b : Nat}, w'.heap[b]? = some (.cells #[.slice la0 m lcap] 26 (0, 0)) → w'.cell? ⟨b, 0, none⟩ = some (.slice la0 m lcap) := fun h => by simp [World.cell?, h]
  cases h1 : simpleB W T xs
  · have HS := Lib.hid h1; clear h1 hH one
    obtain ⟨c0, c1, c2⟩ := cells3 pA
    go_enter Try.func15, Try.ntmps15
    go_wp2_with fail
    rw [← hwA]; clear hwA
    refine (iSimple_any _ _ _ _ _ xs _ HN.out hn' (HA.out.below bA)).mono ?_; rintro e w1 ⟨rfl, hb1⟩
    rw [HS.out]
    go_wp2
    go_ret
    exact ⟨rfl, below_seq bA hb1⟩
  have h2 : tok W T xs L = false := by
    rcases hH with ⟨q, hq⟩ | ⟨q, _⟩
    · rw [Bool.and_eq_true] at q
      obtain ⟨v1, v2, v3, v4, v5, v6⟩ := rv_true (simpleB_rv q.1)
      have hcb := corn_bd v1 v2 v3 v4
      have := hq.len; simp at this; omega
    · rw [h1] at q; simpa using q
  have HS := Lib.hid h1; have HT := Lib.hid h2; clear h1 h2 hH
  obtain ⟨c0, c1, c2⟩ := cells3 pA
  have c3 := one qA
  go_enter Try.func15, Try.ntmps15
  go_wp2_with fail
  rw [← hwA]; clear hwA
  refine (iSimple_any _ _ _ _ _ xs _ HN.out hn' (HA.out.below bA)).mono ?_; rintro e w1 ⟨rfl, hb1⟩
  rw [HS.out]
  have b1 := below_seq bA hb1
  obtain ⟨d0, d1, d2⟩ := cells3 (heap_later pA hb1)
  have d3 := one (heap_later qA hb1)
  clear one
  go_wp2_with fail
  refine (iTilingOk_any _ _ _ _ _ xs _ _ _ L _ HN.out hn' HM.out hm' (HA.out.below b1) (HL.out.below b1)).mono ?_; rintro e w2 ⟨rfl, hb2⟩
  rw [HT.out]
  go_wp2
  go_ret
  exact ⟨rfl, below_seq b1 hb2⟩
/-- The heights, and nil where there are none. -/
def RetN (w : World) (H : List Int) (e : Ending) (w' : World) : Prop := ∃ a cap, e = .returned (.slice a H.length cap) ∧ OwnsI w' w.heap.size (.slice a H.length cap) H ∧ ((H = [] ∧ a = none ∧ cap = 0) ∨ (0 < H.length ∧ ∃ g, a = some ⟨g, 0, none⟩)) ∧ Below w.heap.size w w'
theorem iHeightsOf_n (W T : Int) (a : Option Addr) (n cap : Nat) (xs : List Bool) (la0 : Option Addr) (m lcap : Nat) (L : List Int) (H : List Int) (w : World) (hn : n = xs.length) (hn' : n ≤ 1048576) (hm : m = L.length) (hm' : m ≤ 1048576) (ha : BoolsAt w a xs) (hl : IntsAt w la0 L) (hH : HtsR W T xs L H) :
    Calls Try.prog 15 #[.agg #[.int .i64 W, .int .i64 T, .slice a n cap], .slice la0 m lcap] w (RetN w H) := by
  cases H with
  | nil => exact (iHeightsOf_nil W T a n cap xs la0 m lcap L w hn hn' hm hm' ha hl hH).mono fun e w' ⟨h1, h2⟩ => ⟨none, 0, h1, OwnsI.nil _ _, Or.inl ⟨rfl, rfl, rfl⟩, h2⟩
  | cons x H =>
    refine (iHeightsOf_ret W T a n cap xs la0 m lcap L (x :: H) w hn hn' hm hm' ha hl hH).mono ?_
    rintro e w' ⟨a', c', h1, h2, h3⟩
    obtain ⟨g, pc, hv, _⟩ := h2.pos (by simp)
    simp only [Value.slice.injEq] at hv
    exact ⟨a', c', h1, h2, Or.inr ⟨by simp, g, hv.1⟩, h3⟩

end Go.Proofs.Ytknigcjpgkolgaa

namespace Go.Proofs.Ytknigcjpgkolgaa
open Go.RowKit
set_option linter.unusedVariables false
set_option maxRecDepth 100000
set_option linter.unusedSimpArgs false

section
variable {W T : Int} {xs : List Bool} {L M A B : List Int}
theorem hts_len (hs : simpleB W T xs = true) (hL : tok W T xs L = true) (hM : tok W T xs M = true) (hA : HtsR W T xs L A) (hB : HtsR W T xs M B) : A.length = B.length ∧ 0 < A.length := by
  have oA := (tby_of hs hL hA).1
  have oB := (tby_of hs hM hB).1
  refine ⟨hok_length oA oB, ?_⟩
  rcases Nat.eq_zero_or_pos A.length with e | e
  · rw [List.eq_nil_of_length_eq_zero e, hok_nil] at oA; cases oA
  · exact e
end
end Go.Proofs.Ytknigcjpgkolgaa
