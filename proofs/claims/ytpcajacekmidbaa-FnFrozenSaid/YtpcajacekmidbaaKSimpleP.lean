/- Plain facts: with a further cell there is one part more at most, and three fewer at most. Merged of: PartsP, SimpleP. -/
import Derived.Test.YtpcajacekmidbaaKHolesN
namespace Go.Proofs.Ytpcajacekmidbaa
open Go.RowKit
set_option linter.unusedVariables false
set_option maxRecDepth 100000
set_option linter.unusedSimpArgs false

section
variable {N : Nat} {s s' : Nat → Bool} {adj : Nat → Nat → Bool}
theorem rep_iff {M : List Int} (hm : Marks N s adj M) {k : Nat} (hk : k < N) : (M.getD k 0 == (k : Int)) = true ↔ s k = true ∧ ∀ i, Conn N s adj i k → k ≤ i := by
 constructor
 · intro h
   have h' : M.getD k 0 = (k : Int) := by simpa using h
   cases hs : s k
   · have := (hm.2 k hk).1 hs; omega
   · obtain ⟨j, hj, _, hl⟩ := (hm.2 k hk).2 hs
     have : j = k := by omega
     subst this
     exact ⟨rfl, hl⟩
 · rintro ⟨hs, hl⟩
   obtain ⟨j, hj, hc, hl2⟩ := (hm.2 k hk).2 hs
   have h1 := hl j hc
   have h2 := hl2 k (.refl hk hs)
   have : j = k := by omega
   subst this
   simpa using hj
theorem Conn.more (hss : ∀ i, s i = true → s' i = true) {i k : Nat} (h : Conn N s adj i k) : Conn N s' adj i k := by
 induction h with
 | refl a b => exact .refl a (hss _ b)
 | step hij a b c ih => exact .step ih a b (hss _ c)
end
end Go.Proofs.Ytpcajacekmidbaa

namespace Go.Proofs.Ytpcajacekmidbaa
open Go.RowKit
set_option linter.unusedVariables false
set_option maxRecDepth 100000
set_option linter.unusedSimpArgs false

def sideP (x y x' y' : Int) : Prop := (x' = x ∧ (y' = y + 1 ∨ y' = y - 1)) ∨ (y' = y ∧ (x' = x + 1 ∨ x' = x - 1))
inductive CP (P : Int → Int → Bool) (x0 y0 : Int) : Int → Int → Prop
 | refl : P x0 y0 = true → CP P x0 y0 x0 y0
 | step {x y x' y' : Int} : CP P x0 y0 x y → sideP x y x' y' → P x' y' = true → CP P x0 y0 x' y'
theorem CP.map {P P' : Int → Int → Bool} {f g : Int → Int → Int} (hP : ∀ x y, P' (f x y) (g x y) = P x y) (hs : ∀ x y x' y', sideP x y x' y' → sideP (f x y) (g x y) (f x' y') (g x' y')) {x0 y0 x y : Int} (h : CP P x0 y0 x y) : CP P' (f x0 y0) (g x0 y0) (f x y) (g x y) := by
 induction h with
 | refl h0 => exact .refl (by rw [hP]; exact h0)
 | step _ h1 h2 ih => exact .step ih (hs _ _ _ _ h1) (by rw [hP]; exact h2)
def AllC (P : Int → Int → Bool) : Prop := ∀ x y x' y', P x y = true → P x' y' = true → CP P x y x' y'
theorem AllC.map {P P' : Int → Int → Bool} {f g f' g' : Int → Int → Int} (hP : ∀ x y, P' (f x y) (g x y) = P x y) (hs : ∀ x y x' y', sideP x y x' y' → sideP (f x y) (g x y) (f x' y') (g x' y')) (hf : ∀ x y, f (f' x y) (g' x y) = x) (hg : ∀ x y, g (f' x y) (g' x y) = y) (h : AllC P) : AllC P' := by
 intro x y x' y' h1 h2
 have h1' : P (f' x y) (g' x y) = true := by rw [← hP, hf, hg]; exact h1
 have h2' : P (f' x' y') (g' x' y') = true := by rw [← hP, hf, hg]; exact h2
 have := (h _ _ _ _ h1' h2').map hP hs
 rw [hf, hg, hf, hg] at this
 exact this
section
variable {V H : Int} {N : Nat} {s : Nat → Bool} {P : Int → Int → Bool}
theorem conn_cp (hV : 1 ≤ V) (hs : ∀ k, k < N → s k = P ((k : Int) % V) ((k : Int) / V)) {i k : Nat} (h : Conn N s (adjW V false) i k) : CP P ((i : Int) % V) ((i : Int) / V) ((k : Int) % V) ((k : Int) / V) := by
 induction h with
 | refl a b => exact .refl (by rw [← hs _ a]; exact b)
 | step hij a b c ih =>
   refine .step ih ?_ (by rw [← hs _ b]; exact c)
   unfold adjW at a
   simp only [Bool.and_eq_true, Bool.or_eq_true, Bool.not_eq_true', decide_eq_true_eq, decide_eq_false_iff_not, Bool.false_eq_true, false_or] at a
   unfold sideP
   obtain ⟨⟨⟨h1, h2, h3, h4⟩, hne⟩, hc⟩ := a
   rename_i j k
   generalize (k : Int) % V = x' at *
   generalize (j : Int) % V = x at *
   generalize (k : Int) / V = y' at *
   generalize (j : Int) / V = y at *
   omega
theorem cp_conn (hV : 1 ≤ V) (hVH : V * H = (N : Int)) (hin : ∀ x y, P x y = true → 0 ≤ x ∧ x < V ∧ 0 ≤ y ∧ y < H) (hs : ∀ k, k < N → s k = P ((k : Int) % V) ((k : Int) / V)) {i : Nat} (hi : i < N) {x y : Int} (h : CP P ((i : Int) % V) ((i : Int) / V) x y) : ∃ k : Nat, k < N ∧ (k : Int) % V = x ∧ (k : Int) / V = y ∧ Conn N s (adjW V false) i k := by
 induction h with
 | refl h0 => exact ⟨i, hi, rfl, rfl, .refl hi (by rw [hs i hi]; exact h0)⟩
 | step hcp h1 h2 ih =>
   rename_i x y x' y'
   obtain ⟨j, hj, e1, e2, hc⟩ := ih
   obtain ⟨b1, b2, b3, b4⟩ := hin _ _ h2
   obtain ⟨i0, i1, i2⟩ := idx_bd (W := V) (T := H) (x := x') (y := y') (by omega) (by omega) (by omega) (by omega)
   obtain ⟨k, hk⟩ := Int.eq_ofNat_of_zero_le i1
   have hkN : k < N := by rw [hk, hVH] at i2; omega
   have k1 : (k : Int) % V = x' := by rw [← hk, Int.add_comm, Int.add_mul_emod_self_right, Int.emod_eq_of_lt b1 b2]
   have k2 : (k : Int) / V = y' := by rw [← hk, Int.add_comm, Int.add_mul_ediv_right _ _ (by omega), Int.ediv_eq_zero_of_lt b1 b2]; omega
   refine ⟨k, hkN, k1, k2, .step hc ?_ hkN (by rw [hs k hkN, k1, k2]; exact h2)⟩
   unfold adjW
   rw [k1, k2, e1, e2]
   unfold sideP at h1
   simp only [Bool.and_eq_true, Bool.or_eq_true, Bool.not_eq_true', decide_eq_true_eq, decide_eq_false_iff_not, Bool.false_eq_true, false_or]
   refine ⟨⟨by omega, fun q => by omega⟩, by omega⟩
theorem one_iff {adj : Nat → Nat → Bool} (ha : ∀ j k, adj j k = adj k j) : selfN (marksL N s adj) N = 1 ↔ (∃ k, k < N ∧ s k = true) ∧ ∀ i k, i < N → k < N → s i = true → s k = true → Conn N s adj i k := by
 have hm := marksL_marks N s adj
 constructor
 · intro h
   have hpos : 0 < selfN (marksL N s adj) N := by omega
   unfold selfN at hpos h
   rw [List.countP_pos_iff] at hpos
   obtain ⟨r, hr, hrr⟩ := hpos
   have hrN := List.mem_range.1 hr
   obtain ⟨sr, _⟩ := (rep_iff hm hrN).1 hrr
   refine ⟨⟨r, hrN, sr⟩, ?_⟩
   have key : ∀ k, k < N → s k = true → Conn N s adj r k := by
    intro k hk hsk
    obtain ⟨j, hj, hc, hl⟩ := (hm.2 k hk).2 hsk
    have hjN := hc.left
    have hj2 : ((marksL N s adj).getD j 0 == (j : Int)) = true := (rep_iff hm hjN.1).2 ⟨hjN.2, fun i hi => hl i (hi.trans hc)⟩
    have := countP_one (List.mem_range.2 hrN) hrr h j (List.mem_range.2 hjN.1) hj2
    rw [this] at hc; exact hc
   intro i k hi hk hsi hsk
   exact ((key i hi hsi).symm ha).trans (key k hk hsk)
 · rintro ⟨⟨k0, hk0, hs0⟩, hall⟩
   obtain ⟨r, hr, hc, hl⟩ := (hm.2 k0 hk0).2 hs0
   have hrN := hc.left
   unfold selfN
   have hle : (List.range N).countP (fun i => (marksL N s adj).getD i 0 == (i : Int)) ≤ 1 := by
    refine countP_le_one (a := r) List.nodup_range (fun b hb hpb => ?_)
    have hbN := List.mem_range.1 hb
    obtain ⟨sb, hbl⟩ := (rep_iff hm hbN).1 hpb
    have h1 := hbl r (hall r b hrN.1 hbN hrN.2 sb)
    have h2 := hl b (hall b k0 hbN hk0 sb hs0)
    omega
   have hge : 0 < (List.range N).countP (fun i => (marksL N s adj).getD i 0 == (i : Int)) := by
    rw [List.countP_pos_iff]
    exact ⟨r, List.mem_range.2 hrN.1, (rep_iff hm hrN.1).2 ⟨hrN.2, fun i hi => hl i (hi.trans hc)⟩⟩
   omega
theorem all_iff (hV : 1 ≤ V) (hVH : V * H = (N : Int)) (hin : ∀ x y, P x y = true → 0 ≤ x ∧ x < V ∧ 0 ≤ y ∧ y < H) (hs : ∀ k, k < N → s k = P ((k : Int) % V) ((k : Int) / V)) :
 selfN (marksL N s (adjW V false)) N = 1 ↔ (∃ x y, P x y = true) ∧ AllC P := by
 have at_ : ∀ x y, P x y = true → ∃ k : Nat, k < N ∧ (k : Int) % V = x ∧ (k : Int) / V = y ∧ s k = true := by
  intro x y h
  obtain ⟨b1, b2, b3, b4⟩ := hin _ _ h
  obtain ⟨i0, i1, i2⟩ := idx_bd (W := V) (T := H) (x := x) (y := y) (by omega) (by omega) (by omega) (by omega)
  obtain ⟨k, hk⟩ := Int.eq_ofNat_of_zero_le i1
  have hkN : k < N := by rw [hk, hVH] at i2; omega
  have k1 : (k : Int) % V = x := by rw [← hk, Int.add_comm, Int.add_mul_emod_self_right, Int.emod_eq_of_lt b1 b2]
  have k2 : (k : Int) / V = y := by rw [← hk, Int.add_comm, Int.add_mul_ediv_right _ _ (by omega), Int.ediv_eq_zero_of_lt b1 b2]; omega
  exact ⟨k, hkN, k1, k2, by rw [hs k hkN, k1, k2]; exact h⟩
 rw [one_iff (adjW_symm V false)]
 constructor
 · rintro ⟨⟨k, hk, hsk⟩, hall⟩
   refine ⟨⟨_, _, by rw [← hs k hk]; exact hsk⟩, fun x y x' y' h1 h2 => ?_⟩
   obtain ⟨i, a1, a2, a3, a4⟩ := at_ x y h1
   obtain ⟨j, b1, b2, b3, b4⟩ := at_ x' y' h2
   have := conn_cp hV hs (hall i j a1 b1 a4 b4)
   rw [a2, a3, b2, b3] at this
   exact this
 · rintro ⟨⟨x, y, h⟩, hall⟩
   obtain ⟨k0, c1, c2, c3, c4⟩ := at_ x y h
   refine ⟨⟨k0, c1, c4⟩, fun i k hi hk hsi hsk => ?_⟩
   have h1 : P ((i : Int) % V) ((i : Int) / V) = true := by rw [← hs i hi]; exact hsi
   have h2 : P ((k : Int) % V) ((k : Int) / V) = true := by rw [← hs k hk]; exact hsk
   obtain ⟨j, d1, d2, d3, d4⟩ := cp_conn hV hVH hin hs hi (hall _ _ _ _ h1 h2)
   have e1 := Int.emod_add_mul_ediv (j : Int) V
   have e2 := Int.emod_add_mul_ediv (k : Int) V
   rw [d2, d3] at e1
   have : j = k := by omega
   rw [← this]; exact d4
end
def outP (W T : Int) (xs : List Bool) (x y : Int) : Bool := decide (0 ≤ x ∧ x < W + 2 ∧ 0 ≤ y ∧ y < T + 2) && !atB W T xs (x - 1) (y - 1)
theorem simple_iff {W T : Int} {xs : List Bool} : simpleB W T xs = true ↔ rv W T xs = true ∧ (∃ x y, atB W T xs x y = true) ∧ AllC (atB W T xs) ∧ AllC (outP W T xs) := by
 have main : rv W T xs = true → (simpleB W T xs = true ↔ (∃ x y, atB W T xs x y = true) ∧ AllC (atB W T xs) ∧ AllC (outP W T xs)) := by
  intro h
  obtain ⟨v1, v2, v3, v4, v5, v6⟩ := rv_true h
  have hb := rim_bd v1 v2 v3 v4
  obtain ⟨N, hN⟩ := Int.eq_ofNat_of_zero_le (by omega : 0 ≤ (W + 2) * (T + 2))
  have ef : partsF W T xs = marksL xs.length (fun i => xs.getD i false) (adjW W false) := by unfold partsF; rw [h, if_pos rfl]
  have e1 : partsN W T xs = 1 ↔ selfN (marksL xs.length (fun i => xs.getD i false) (adjW W false)) xs.length = 1 := by
   unfold partsN; rw [h, if_pos rfl, ef, marksL_len]; omega
  have inA : ∀ x y, atB W T xs x y = true → 0 ≤ x ∧ x < W ∧ 0 ≤ y ∧ y < T := by
   intro x y h; unfold atB inF at h; rw [Bool.and_eq_true, decide_eq_true_eq] at h; exact h.1
  have sA : ∀ k, k < xs.length → (fun i => xs.getD i false) k = atB W T xs ((k : Int) % W) ((k : Int) / W) := by
   intro k hk
   have a0 := Int.emod_nonneg (k : Int) (show W ≠ 0 by omega)
   have a1 := Int.emod_lt_of_pos (k : Int) (show 0 < W by omega)
   have b0 := Int.ediv_nonneg (show (0 : Int) ≤ k by omega) (show 0 ≤ W by omega)
   have b1 : (k : Int) / W < T := Int.ediv_lt_of_lt_mul (by omega) (by rw [Int.mul_comm]; omega)
   have ae := Int.emod_add_mul_ediv (k : Int) W
   have ei : ((k : Int) / W * W + (k : Int) % W).toNat = k := by rw [Int.mul_comm]; omega
   unfold atB inF
   rw [decide_eq_true ⟨a0, a1, b0, b1⟩, ei]; rfl
  have inO : ∀ x y, outP W T xs x y = true → 0 ≤ x ∧ x < W + 2 ∧ 0 ≤ y ∧ y < T + 2 := by
   intro x y h; unfold outP at h; rw [Bool.and_eq_true, decide_eq_true_eq] at h; exact h.1
  have sO : ∀ k, k < N → outB W T xs k = outP W T xs ((k : Int) % (W + 2)) ((k : Int) / (W + 2)) := by
   intro k hk
   have a0 := Int.emod_nonneg (k : Int) (show W + 2 ≠ 0 by omega)
   have a1 := Int.emod_lt_of_pos (k : Int) (show 0 < W + 2 by omega)
   have b0 := Int.ediv_nonneg (show (0 : Int) ≤ k by omega) (show 0 ≤ W + 2 by omega)
   have b1 : (k : Int) / (W + 2) < T + 2 := Int.ediv_lt_of_lt_mul (by omega) (by rw [Int.mul_comm, hN]; omega)
   unfold outB outP
   rw [decide_eq_true ⟨a0, a1, b0, b1⟩]; rfl
  have hA := all_iff (V := W) (H := T) (N := xs.length) (s := fun i => xs.getD i false) (P := atB W T xs) v1 v5.symm inA sA
  have hO := all_iff (V := W + 2) (H := T + 2) (N := N) (s := outB W T xs) (P := outP W T xs) (by omega) hN inO sO
  have hO0 : ∃ x y, outP W T xs x y = true := by
   refine ⟨0, 0, ?_⟩
   unfold outP atB inF
   rw [decide_eq_true (by omega), decide_eq_false (by omega)]; rfl
  have eo : outOne W T xs = true ↔ selfN (marksL N (outB W T xs) (adjW (W + 2) false)) N = 1 := by
   unfold outOne oneMark
   rw [hN, Int.toNat_natCast, decide_eq_true_eq]
  unfold simpleB
  rw [Bool.and_eq_true, decide_eq_true_eq, e1, eo, hA, hO]
  constructor
  · rintro ⟨⟨a, b⟩, _, d⟩; exact ⟨a, b, d⟩
  · rintro ⟨a, b, d⟩; exact ⟨⟨a, b⟩, hO0, d⟩
 constructor
 · intro h; exact ⟨simpleB_rv h, (main (simpleB_rv h)).1 h⟩
 · rintro ⟨h, h2⟩; exact (main h).2 h2
theorem simple_parts {W T : Int} {xs : List Bool} (h : simpleB W T xs = true) : partsN W T xs = 1 ∧ holesN W T xs = 0 := by
 have hr := simpleB_rv h
 obtain ⟨v1, v2, v3, v4, v5, v6⟩ := rv_true hr
 have hb := rim_bd v1 v2 v3 v4
 obtain ⟨N, hN⟩ := Int.eq_ofNat_of_zero_le (by omega : 0 ≤ (W + 2) * (T + 2))
 unfold simpleB at h
 rw [Bool.and_eq_true, decide_eq_true_eq] at h
 refine ⟨h.1, ?_⟩
 have ho := h.2
 unfold outOne oneMark at ho
 rw [hN, Int.toNat_natCast, decide_eq_true_eq, one_iff (adjW_symm _ false)] at ho
 have hup : ∀ {i k : Nat}, Conn N (outB W T xs) (adjW (W + 2) false) i k → Conn N (outB W T xs) (adjW (W + 2) true) i k := by
  intro i k hc
  induction hc with
  | refl a b => exact .refl a b
  | step hij a b c ih =>
    refine .step ih ?_ b c
    unfold adjW at *
    simp only [Bool.and_eq_true, Bool.or_eq_true, Bool.not_eq_true', decide_eq_true_eq, decide_eq_false_iff_not, Bool.false_eq_true, false_or] at a ⊢
    exact ⟨a.1, Or.inl (by first | rfl | trivial)⟩
 have ho2 : selfN (marksL N (outB W T xs) (adjW (W + 2) true)) N = 1 := (one_iff (adjW_symm _ true)).2 ⟨ho.1, fun i k a b c d => hup (ho.2 i k a b c d)⟩
 unfold holesN
 rw [hr, if_pos rfl, hN, Int.toNat_natCast, ho2]; rfl
section
variable {W T : Nat} {xs : List Bool}
end
end Go.Proofs.Ytpcajacekmidbaa
