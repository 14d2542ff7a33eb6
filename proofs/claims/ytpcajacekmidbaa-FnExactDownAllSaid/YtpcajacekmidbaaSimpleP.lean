/- Plain facts: with a further cell there is one part more at most, and three fewer at most. Merged of: PartsP, SimpleP. -/
import Derived.Test.YtpcajacekmidbaaOutsideM
import Derived.Test.YtpcajacekmidbaaHolesN
import Derived.Test.YtpcajacekmidbaaFlipM
namespace Go.Proofs.Ytpcajacekmidbaa
open Go.RowKit
set_option linter.unusedVariables false
set_option maxRecDepth 100000
set_option linter.unusedSimpArgs false

theorem countP_succ_le {l : List Nat} {p q : Nat → Bool} {a : Nat} (hn : l.Nodup) (h : ∀ x ∈ l, p x = true → q x = true ∨ x = a) : l.countP p ≤ l.countP q + 1 := by
  induction l with
  | nil => simp
  | cons x l ih =>
    rw [List.countP_cons, List.countP_cons]
    rw [List.nodup_cons] at hn
    by_cases hx : x = a
    · have hl : l.countP p ≤ l.countP q := List.countP_mono_left (fun b hb hp => by
        rcases h b (List.mem_cons_of_mem _ hb) hp with h1 | h1
        · exact h1
        · exfalso; rw [h1, ← hx] at hb; exact hn.1 hb)
      split <;> split <;> omega
    · have hl := ih hn.2 (fun b hb => h b (List.mem_cons_of_mem _ hb))
      by_cases hp : p x = true
      · rcases h x List.mem_cons_self hp with h1 | h1
        · rw [if_pos hp, if_pos h1]; omega
        · exact absurd h1 hx
      · rw [if_neg hp]; split <;> omega
theorem countP_among {l : List Nat} (hn : l.Nodup) : ∀ (bs : List Nat) (p : Nat → Bool), (∀ x ∈ l, p x = true → x ∈ bs) → l.countP p ≤ bs.length
  | [], p, h => by
    have : l.countP p = 0 := by
      rw [List.countP_eq_zero]; intro x hx hp
      have := h x hx hp; simp at this
    omega
  | a :: bs, p, h => by
    have h1 := countP_succ_le (p := p) (q := fun x => p x && decide (x ≠ a)) (a := a) hn (fun x hx hp => by
      by_cases e : x = a
      · exact Or.inr e
      · left; simp [hp, e])
    have h2 := countP_among hn bs (fun x => p x && decide (x ≠ a)) (fun x hx hp => by
      simp only [Bool.and_eq_true, decide_eq_true_eq] at hp
      rcases List.mem_cons.1 (h x hx hp.1) with e | e
      · exact absurd e hp.2
      · exact e)
    simp only [List.length_cons]; omega
section
variable {N : Nat} {s s' : Nat → Bool} {adj : Nat → Nat → Bool}
theorem rep_iff {M : List Int} (hm : Marks N s adj M) {k : Nat} (hk : k < N) : (M.getD k 0 == (k : Int)) = true ↔ s k = true ∧ ∀ i, Conn N s adj i k → k ≤ i := by
  constructor
  · intro h
    have h' : M.getD k 0 = (k : Int) := by simpa using h
    cases hs : s k
    · have := (hm.2 k hk).1 hs; omega
    · obtain ⟨j, hj, _, hl⟩ := (hm.2 k hk).2 hs
      have : j = k := by omega
      subst this
      exact ⟨rfl, hl⟩
  · rintro ⟨hs, hl⟩
    obtain ⟨j, hj, hc, hl2⟩ := (hm.2 k hk).2 hs
    have h1 := hl j hc
    have h2 := hl2 k (.refl hk hs)
    have : j = k := by omega
    subst this
    simpa using hj
theorem Conn.more (hss : ∀ i, s i = true → s' i = true) {i k : Nat} (h : Conn N s adj i k) : Conn N s' adj i k := by
  induction h with
  | refl a b => exact .refl a (hss _ b)
  | step hij a b c ih => exact .step ih a b (hss _ c)
theorem conn_split {c : Nat} (hs' : ∀ i, s' i = true → i ≠ c → s i = true) (hc : c < N) (hcc : s' c = true) {i k : Nat} (h : Conn N s' adj i k) : Conn N s adj i k ∨ Conn N s' adj c k := by
  induction h with
  | refl a b =>
    by_cases e : i = c
    · subst e; exact Or.inr (.refl hc hcc)
    · exact Or.inl (.refl a (hs' _ b e))
  | step hij a b d ih =>
    rename_i j k
    by_cases e : k = c
    · subst e; exact Or.inr (.refl hc hcc)
    · rcases ih with h1 | h1
      · exact Or.inl (.step h1 a b (hs' _ d e))
      · exact Or.inr (.step h1 a b d)
theorem conn_beside {c : Nat} (hs' : ∀ i, s' i = true → i ≠ c → s i = true) {k : Nat} (h : Conn N s' adj c k) (hk : k ≠ c) : ∃ i, adj c i = true ∧ i < N ∧ s i = true ∧ Conn N s adj i k := by
  induction h with
  | refl a b => exact absurd rfl hk
  | step hij a b d ih =>
    rename_i j k
    have sk := hs' _ d hk
    by_cases e : j = c
    · subst e; exact ⟨k, a, b, sk, .refl b sk⟩
    · obtain ⟨i, h1, h2, h3, h4⟩ := ih e
      exact ⟨i, h1, h2, h3, .step h4 a b sk⟩
end
/-- With a further cell there is one part more at most, and three fewer at most. -/
theorem parts_more {N : Nat} {s s' : Nat → Bool} {W : Int} {M M' : List Int} {c : Nat} (hW : 1 ≤ W) (hm : Marks N s (adjW W false) M) (hm' : Marks N s' (adjW W false) M') (hc : c < N) (hsc : s c = false) (hcc : s' c = true) (h1 : ∀ i, s i = true → s' i = true) (h2 : ∀ i, s' i = true → i ≠ c → s i = true) :
    selfN M' N ≤ selfN M N + 1 ∧ selfN M N ≤ selfN M' N + 3 := by
  have hsym := adjW_symm W false
  obtain ⟨r, hr, hrc, hrl⟩ := (hm'.2 c hc).2 hcc
  have hrN := hrc.left
  constructor
  · unfold selfN
    refine countP_succ_le (a := r) List.nodup_range (fun k hk hp => ?_)
    have hkN := List.mem_range.1 hk
    obtain ⟨p1, p2⟩ := (rep_iff hm' hkN).1 hp
    by_cases e : k = r
    · exact Or.inr e
    · left
      have hkc : k ≠ c := by
        intro e2
        subst e2
        have := p2 r hrc
        have := hrl k (.refl hkN p1)
        omega
      exact (rep_iff hm hkN).2 ⟨h2 k p1 hkc, fun i hi => p2 i (hi.more h1)⟩
  · have hK : ∀ k, k < N → (reachT N s' (adjW W false) c N k = true ↔ Conn N s' (adjW W false) c k) := fun k hk => ⟨fun h => reachT_conn hc hk h, fun h => conn_reach h⟩
    -- the heads that the new cell joins
    have hfour : (List.range N).countP (fun k => (M.getD k 0 == (k : Int)) && reachT N s' (adjW W false) c N k) ≤ 4 := by
      refine countP_among List.nodup_range [(M.getD (c + 1) 0).toNat, (M.getD ((c : Int) + W).toNat 0).toNat, (M.getD (c - 1) 0).toNat, (M.getD ((c : Int) - W).toNat 0).toNat] _ (fun k hk hp => ?_)
      have hkN := List.mem_range.1 hk
      rw [Bool.and_eq_true] at hp
      obtain ⟨p1, p2⟩ := (rep_iff hm hkN).1 hp.1
      have hkc : k ≠ c := fun e => by rw [e, hsc] at p1; cases p1
      obtain ⟨i, a1, a2, a3, a4⟩ := conn_beside h2 ((hK k hkN).1 hp.2) hkc
      have hMi : M.getD i 0 = (k : Int) := by
        obtain ⟨j, ej, cj, lj⟩ := (hm.2 i a2).2 a3
        have q1 := lj k (a4.symm hsym)
        have q2 := p2 j (cj.trans a4)
        rw [ej]; omega
      obtain ⟨way, w1, w2, wx, wy⟩ := adj_way a1
      have ai := Int.emod_add_mul_ediv (i : Int) W
      have ac := Int.emod_add_mul_ediv (c : Int) W
      rw [wx, wy, Int.mul_add] at ai
      have hw : way = 1 ∨ way = 2 ∨ way = 3 ∨ way = 4 := by omega
      have hk2 : k = (M.getD i 0).toNat := by rw [hMi]; simp
      rcases hw with rfl | rfl | rfl | rfl
      · have : i = c + 1 := by simp [dxw, dyw] at ai; omega
        rw [hk2, this]; simp
      · have : i = ((c : Int) + W).toNat := by simp [dxw, dyw] at ai; omega
        rw [hk2, this]; simp
      · have : i = c - 1 := by simp [dxw, dyw] at ai; omega
        rw [hk2, this]; simp
      · have : i = ((c : Int) - W).toNat := by simp [dxw, dyw] at ai; omega
        rw [hk2, this]; simp
    have hrest : (List.range N).countP (fun k => (M.getD k 0 == (k : Int)) && !reachT N s' (adjW W false) c N k) + 1 ≤ selfN M' N := by
      unfold selfN
      have hlt := countP_lt (List.range N) (fun k => (M.getD k 0 == (k : Int)) && !reachT N s' (adjW W false) c N k) (fun k => M'.getD k 0 == (k : Int)) (fun k hk hp => by
        have hkN := List.mem_range.1 hk
        rw [Bool.and_eq_true] at hp
        obtain ⟨p1, p2⟩ := (rep_iff hm hkN).1 hp.1
        refine (rep_iff hm' hkN).2 ⟨h1 k p1, fun i hi => ?_⟩
        rcases conn_split h2 hc hcc hi with h | h
        · exact p2 i h
        · have := conn_reach h
          rw [this] at hp; simp at hp) r (List.mem_range.2 hrN.1) (by
        have : reachT N s' (adjW W false) c N r = true := conn_reach (hrc.symm hsym)
        show ((M.getD r 0 == (r : Int)) && !reachT N s' (adjW W false) c N r) = false
        rw [this]; simp) (by
        refine (rep_iff hm' hrN.1).2 ⟨hrN.2, fun i hi => hrl i (hi.trans hrc)⟩)
      omega
    have hsplit : selfN M N = (List.range N).countP (fun k => (M.getD k 0 == (k : Int)) && reachT N s' (adjW W false) c N k) + (List.range N).countP (fun k => (M.getD k 0 == (k : Int)) && !reachT N s' (adjW W false) c N k) := by
      unfold selfN
      generalize List.range N = l
      induction l with
      | nil => rfl
      | cons x l ih =>
        rw [List.countP_cons, List.countP_cons, List.countP_cons, ih]
        cases (M.getD x 0 == (x : Int)) <;> cases reachT N s' (adjW W false) c N x <;> simp <;> omega
    omega
theorem parts_le {N : Nat} {s : Nat → Bool} {adj : Nat → Nat → Bool} {M : List Int} (hm : Marks N s adj M) : selfN M N ≤ (List.range N).countP s := by
  unfold selfN
  exact List.countP_mono_left fun k hk hp => ((rep_iff hm (List.mem_range.1 hk)).1 hp).1
end Go.Proofs.Ytpcajacekmidbaa

namespace Go.Proofs.Ytpcajacekmidbaa
open Go.RowKit
set_option linter.unusedVariables false
set_option maxRecDepth 100000
set_option linter.unusedSimpArgs false

/-- Two places are side by side. -/
def sideP (x y x' y' : Int) : Prop := (x' = x ∧ (y' = y + 1 ∨ y' = y - 1)) ∨ (y' = y ∧ (x' = x + 1 ∨ x' = x - 1))
/-- One place leads to another over places of a set. -/
inductive CP (P : Int → Int → Bool) (x0 y0 : Int) : Int → Int → Prop
  | refl : P x0 y0 = true → CP P x0 y0 x0 y0
  | step {x y x' y' : Int} : CP P x0 y0 x y → sideP x y x' y' → P x' y' = true → CP P x0 y0 x' y'
theorem CP.map {P P' : Int → Int → Bool} {f g : Int → Int → Int} (hP : ∀ x y, P' (f x y) (g x y) = P x y) (hs : ∀ x y x' y', sideP x y x' y' → sideP (f x y) (g x y) (f x' y') (g x' y')) {x0 y0 x y : Int} (h : CP P x0 y0 x y) : CP P' (f x0 y0) (g x0 y0) (f x y) (g x y) := by
  induction h with
  | refl h0 => exact .refl (by rw [hP]; exact h0)
  | step _ h1 h2 ih => exact .step ih (hs _ _ _ _ h1) (by rw [hP]; exact h2)
/-- All places of a set hang together. -/
def AllC (P : Int → Int → Bool) : Prop := ∀ x y x' y', P x y = true → P x' y' = true → CP P x y x' y'
theorem AllC.map {P P' : Int → Int → Bool} {f g f' g' : Int → Int → Int} (hP : ∀ x y, P' (f x y) (g x y) = P x y) (hs : ∀ x y x' y', sideP x y x' y' → sideP (f x y) (g x y) (f x' y') (g x' y')) (hf : ∀ x y, f (f' x y) (g' x y) = x) (hg : ∀ x y, g (f' x y) (g' x y) = y) (h : AllC P) : AllC P' := by
  intro x y x' y' h1 h2
  have h1' : P (f' x y) (g' x y) = true := by rw [← hP, hf, hg]; exact h1
  have h2' : P (f' x' y') (g' x' y') = true := by rw [← hP, hf, hg]; exact h2
  have := (h _ _ _ _ h1' h2').map hP hs
  rw [hf, hg, hf, hg] at this
  exact this
section
variable {V H : Int} {N : Nat} {s : Nat → Bool} {P : Int → Int → Bool}
/-- Cells of a field and places. -/
theorem conn_cp (hV : 1 ≤ V) (hs : ∀ k, k < N → s k = P ((k : Int) % V) ((k : Int) / V)) {i k : Nat} (h : Conn N s (adjW V false) i k) : CP P ((i : Int) % V) ((i : Int) / V) ((k : Int) % V) ((k : Int) / V) := by
  induction h with
  | refl a b => exact .refl (by rw [← hs _ a]; exact b)
  | step hij a b c ih =>
    refine .step ih ?_ (by rw [← hs _ b]; exact c)
    unfold adjW at a
    simp only [Bool.and_eq_true, Bool.or_eq_true, Bool.not_eq_true', decide_eq_true_eq, decide_eq_false_iff_not, Bool.false_eq_true, false_or] at a
    unfold sideP
    obtain ⟨⟨⟨h1, h2, h3, h4⟩, hne⟩, hc⟩ := a
    rename_i j k
    generalize (k : Int) % V = x' at *
    generalize (j : Int) % V = x at *
    generalize (k : Int) / V = y' at *
    generalize (j : Int) / V = y at *
    omega
theorem cp_conn (hV : 1 ≤ V) (hVH : V * H = (N : Int)) (hin : ∀ x y, P x y = true → 0 ≤ x ∧ x < V ∧ 0 ≤ y ∧ y < H) (hs : ∀ k, k < N → s k = P ((k : Int) % V) ((k : Int) / V)) {i : Nat} (hi : i < N) {x y : Int} (h : CP P ((i : Int) % V) ((i : Int) / V) x y) : ∃ k : Nat, k < N ∧ (k : Int) % V = x ∧ (k : Int) / V = y ∧ Conn N s (adjW V false) i k := by
  induction h with
  | refl h0 => exact ⟨i, hi, rfl, rfl, .refl hi (by rw [hs i hi]; exact h0)⟩
  | step hcp h1 h2 ih =>
    rename_i x y x' y'
    obtain ⟨j, hj, e1, e2, hc⟩ := ih
    obtain ⟨b1, b2, b3, b4⟩ := hin _ _ h2
    obtain ⟨i0, i1, i2⟩ := idx_bd (W := V) (T := H) (x := x') (y := y') (by omega) (by omega) (by omega) (by omega)
    obtain ⟨k, hk⟩ := Int.eq_ofNat_of_zero_le i1
    have hkN : k < N := by rw [hk, hVH] at i2; omega
    have k1 : (k : Int) % V = x' := by rw [← hk, Int.add_comm, Int.add_mul_emod_self_right, Int.emod_eq_of_lt b1 b2]
    have k2 : (k : Int) / V = y' := by rw [← hk, Int.add_comm, Int.add_mul_ediv_right _ _ (by omega), Int.ediv_eq_zero_of_lt b1 b2]; omega
    refine ⟨k, hkN, k1, k2, .step hc ?_ hkN (by rw [hs k hkN, k1, k2]; exact h2)⟩
    unfold adjW
    rw [k1, k2, e1, e2]
    unfold sideP at h1
    simp only [Bool.and_eq_true, Bool.or_eq_true, Bool.not_eq_true', decide_eq_true_eq, decide_eq_false_iff_not, Bool.false_eq_true, false_or]
    refine ⟨⟨by omega, fun q => by omega⟩, by omega⟩
/-- There is one part exactly if there is a cell and all hang together. -/
theorem one_iff {adj : Nat → Nat → Bool} (ha : ∀ j k, adj j k = adj k j) : selfN (marksL N s adj) N = 1 ↔ (∃ k, k < N ∧ s k = true) ∧ ∀ i k, i < N → k < N → s i = true → s k = true → Conn N s adj i k := by
  have hm := marksL_marks N s adj
  constructor
  · intro h
    have hpos : 0 < selfN (marksL N s adj) N := by omega
    unfold selfN at hpos h
    rw [List.countP_pos_iff] at hpos
    obtain ⟨r, hr, hrr⟩ := hpos
    have hrN := List.mem_range.1 hr
    obtain ⟨sr, _⟩ := (rep_iff hm hrN).1 hrr
    refine ⟨⟨r, hrN, sr⟩, ?_⟩
    have key : ∀ k, k < N → s k = true → Conn N s adj r k := by
      intro k hk hsk
      obtain ⟨j, hj, hc, hl⟩ := (hm.2 k hk).2 hsk
      have hjN := hc.left
      have hj2 : ((marksL N s adj).getD j 0 == (j : Int)) = true := (rep_iff hm hjN.1).2 ⟨hjN.2, fun i hi => hl i (hi.trans hc)⟩
      have := countP_one (List.mem_range.2 hrN) hrr h j (List.mem_range.2 hjN.1) hj2
      rw [this] at hc; exact hc
    intro i k hi hk hsi hsk
    exact ((key i hi hsi).symm ha).trans (key k hk hsk)
  · rintro ⟨⟨k0, hk0, hs0⟩, hall⟩
    obtain ⟨r, hr, hc, hl⟩ := (hm.2 k0 hk0).2 hs0
    have hrN := hc.left
    unfold selfN
    have hle : (List.range N).countP (fun i => (marksL N s adj).getD i 0 == (i : Int)) ≤ 1 := by
      refine countP_le_one (a := r) List.nodup_range (fun b hb hpb => ?_)
      have hbN := List.mem_range.1 hb
      obtain ⟨sb, hbl⟩ := (rep_iff hm hbN).1 hpb
      have h1 := hbl r (hall r b hrN.1 hbN hrN.2 sb)
      have h2 := hl b (hall b k0 hbN hk0 sb hs0)
      omega
    have hge : 0 < (List.range N).countP (fun i => (marksL N s adj).getD i 0 == (i : Int)) := by
      rw [List.countP_pos_iff]
      exact ⟨r, List.mem_range.2 hrN.1, (rep_iff hm hrN.1).2 ⟨hrN.2, fun i hi => hl i (hi.trans hc)⟩⟩
    omega
theorem all_iff (hV : 1 ≤ V) (hVH : V * H = (N : Int)) (hin : ∀ x y, P x y = true → 0 ≤ x ∧ x < V ∧ 0 ≤ y ∧ y < H) (hs : ∀ k, k < N → s k = P ((k : Int) % V) ((k : Int) / V)) :
    selfN (marksL N s (adjW V false)) N = 1 ↔ (∃ x y, P x y = true) ∧ AllC P := by
  have at_ : ∀ x y, P x y = true → ∃ k : Nat, k < N ∧ (k : Int) % V = x ∧ (k : Int) / V = y ∧ s k = true := by
    intro x y h
    obtain ⟨b1, b2, b3, b4⟩ := hin _ _ h
    obtain ⟨i0, i1, i2⟩ := idx_bd (W := V) (T := H) (x := x) (y := y) (by omega) (by omega) (by omega) (by omega)
    obtain ⟨k, hk⟩ := Int.eq_ofNat_of_zero_le i1
    have hkN : k < N := by rw [hk, hVH] at i2; omega
    have k1 : (k : Int) % V = x := by rw [← hk, Int.add_comm, Int.add_mul_emod_self_right, Int.emod_eq_of_lt b1 b2]
    have k2 : (k : Int) / V = y := by rw [← hk, Int.add_comm, Int.add_mul_ediv_right _ _ (by omega), Int.ediv_eq_zero_of_lt b1 b2]; omega
    exact ⟨k, hkN, k1, k2, by rw [hs k hkN, k1, k2]; exact h⟩
  rw [one_iff (adjW_symm V false)]
  constructor
  · rintro ⟨⟨k, hk, hsk⟩, hall⟩
    refine ⟨⟨_, _, by rw [← hs k hk]; exact hsk⟩, fun x y x' y' h1 h2 => ?_⟩
    obtain ⟨i, a1, a2, a3, a4⟩ := at_ x y h1
    obtain ⟨j, b1, b2, b3, b4⟩ := at_ x' y' h2
    have := conn_cp hV hs (hall i j a1 b1 a4 b4)
    rw [a2, a3, b2, b3] at this
    exact this
  · rintro ⟨⟨x, y, h⟩, hall⟩
    obtain ⟨k0, c1, c2, c3, c4⟩ := at_ x y h
    refine ⟨⟨k0, c1, c4⟩, fun i k hi hk hsi hsk => ?_⟩
    have h1 : P ((i : Int) % V) ((i : Int) / V) = true := by rw [← hs i hi]; exact hsi
    have h2 : P ((k : Int) % V) ((k : Int) / V) = true := by rw [← hs k hk]; exact hsk
    obtain ⟨j, d1, d2, d3, d4⟩ := cp_conn hV hVH hin hs hi (hall _ _ _ _ h1 h2)
    have e1 := Int.emod_add_mul_ediv (j : Int) V
    have e2 := Int.emod_add_mul_ediv (k : Int) V
    rw [d2, d3] at e1
    have : j = k := by omega
    rw [← this]; exact d4
end
/-- The places of the rim's field that do not belong to a region, counted from the rim's corner. -/
def outP (W T : Int) (xs : List Bool) (x y : Int) : Bool := decide (0 ≤ x ∧ x < W + 2 ∧ 0 ≤ y ∧ y < T + 2) && !atB W T xs (x - 1) (y - 1)
theorem simple_iff {W T : Int} {xs : List Bool} : simpleB W T xs = true ↔ rv W T xs = true ∧ (∃ x y, atB W T xs x y = true) ∧ AllC (atB W T xs) ∧ AllC (outP W T xs) := by
  have main : rv W T xs = true → (simpleB W T xs = true ↔ (∃ x y, atB W T xs x y = true) ∧ AllC (atB W T xs) ∧ AllC (outP W T xs)) := by
    intro h
    obtain ⟨v1, v2, v3, v4, v5, v6⟩ := rv_true h
    have hb := rim_bd v1 v2 v3 v4
    obtain ⟨N, hN⟩ := Int.eq_ofNat_of_zero_le (by omega : 0 ≤ (W + 2) * (T + 2))
    have ef : partsF W T xs = marksL xs.length (fun i => xs.getD i false) (adjW W false) := by unfold partsF; rw [h, if_pos rfl]
    have e1 : partsN W T xs = 1 ↔ selfN (marksL xs.length (fun i => xs.getD i false) (adjW W false)) xs.length = 1 := by
      unfold partsN; rw [h, if_pos rfl, ef, marksL_len]; omega
    have inA : ∀ x y, atB W T xs x y = true → 0 ≤ x ∧ x < W ∧ 0 ≤ y ∧ y < T := by
      intro x y h; unfold atB inF at h; rw [Bool.and_eq_true, decide_eq_true_eq] at h; exact h.1
    have sA : ∀ k, k < xs.length → (fun i => xs.getD i false) k = atB W T xs ((k : Int) % W) ((k : Int) / W) := by
      intro k hk
      have a0 := Int.emod_nonneg (k : Int) (show W ≠ 0 by omega)
      have a1 := Int.emod_lt_of_pos (k : Int) (show 0 < W by omega)
      have b0 := Int.ediv_nonneg (show (0 : Int) ≤ k by omega) (show 0 ≤ W by omega)
      have b1 : (k : Int) / W < T := Int.ediv_lt_of_lt_mul (by omega) (by rw [Int.mul_comm]; omega)
      have ae := Int.emod_add_mul_ediv (k : Int) W
      have ei : ((k : Int) / W * W + (k : Int) % W).toNat = k := by rw [Int.mul_comm]; omega
      unfold atB inF
      rw [decide_eq_true ⟨a0, a1, b0, b1⟩, ei]; rfl
    have inO : ∀ x y, outP W T xs x y = true → 0 ≤ x ∧ x < W + 2 ∧ 0 ≤ y ∧ y < T + 2 := by
      intro x y h; unfold outP at h; rw [Bool.and_eq_true, decide_eq_true_eq] at h; exact h.1
    have sO : ∀ k, k < N → outB W T xs k = outP W T xs ((k : Int) % (W + 2)) ((k : Int) / (W + 2)) := by
      intro k hk
      have a0 := Int.emod_nonneg (k : Int) (show W + 2 ≠ 0 by omega)
      have a1 := Int.emod_lt_of_pos (k : Int) (show 0 < W + 2 by omega)
      have b0 := Int.ediv_nonneg (show (0 : Int) ≤ k by omega) (show 0 ≤ W + 2 by omega)
      have b1 : (k : Int) / (W + 2) < T + 2 := Int.ediv_lt_of_lt_mul (by omega) (by rw [Int.mul_comm, hN]; omega)
      unfold outB outP
      rw [decide_eq_true ⟨a0, a1, b0, b1⟩]; rfl
    have hA := all_iff (V := W) (H := T) (N := xs.length) (s := fun i => xs.getD i false) (P := atB W T xs) v1 v5.symm inA sA
    have hO := all_iff (V := W + 2) (H := T + 2) (N := N) (s := outB W T xs) (P := outP W T xs) (by omega) hN inO sO
    have hO0 : ∃ x y, outP W T xs x y = true := by
      refine ⟨0, 0, ?_⟩
      unfold outP atB inF
      rw [decide_eq_true (by omega), decide_eq_false (by omega)]; rfl
    have eo : outOne W T xs = true ↔ selfN (marksL N (outB W T xs) (adjW (W + 2) false)) N = 1 := by
      unfold outOne oneMark
      rw [hN, Int.toNat_natCast, decide_eq_true_eq]
    unfold simpleB
    rw [Bool.and_eq_true, decide_eq_true_eq, e1, eo, hA, hO]
    constructor
    · rintro ⟨⟨a, b⟩, _, d⟩; exact ⟨a, b, d⟩
    · rintro ⟨a, b, d⟩; exact ⟨⟨a, b⟩, hO0, d⟩
  constructor
  · intro h; exact ⟨simpleB_rv h, (main (simpleB_rv h)).1 h⟩
  · rintro ⟨h, h2⟩; exact (main h).2 h2
/-- A simple region has one part and no holes. -/
theorem simple_parts {W T : Int} {xs : List Bool} (h : simpleB W T xs = true) : partsN W T xs = 1 ∧ holesN W T xs = 0 := by
  have hr := simpleB_rv h
  obtain ⟨v1, v2, v3, v4, v5, v6⟩ := rv_true hr
  have hb := rim_bd v1 v2 v3 v4
  obtain ⟨N, hN⟩ := Int.eq_ofNat_of_zero_le (by omega : 0 ≤ (W + 2) * (T + 2))
  unfold simpleB at h
  rw [Bool.and_eq_true, decide_eq_true_eq] at h
  refine ⟨h.1, ?_⟩
  have ho := h.2
  unfold outOne oneMark at ho
  rw [hN, Int.toNat_natCast, decide_eq_true_eq, one_iff (adjW_symm _ false)] at ho
  have hup : ∀ {i k : Nat}, Conn N (outB W T xs) (adjW (W + 2) false) i k → Conn N (outB W T xs) (adjW (W + 2) true) i k := by
    intro i k hc
    induction hc with
    | refl a b => exact .refl a b
    | step hij a b c ih =>
      refine .step ih ?_ b c
      unfold adjW at *
      simp only [Bool.and_eq_true, Bool.or_eq_true, Bool.not_eq_true', decide_eq_true_eq, decide_eq_false_iff_not, Bool.false_eq_true, false_or] at a ⊢
      exact ⟨a.1, Or.inl (by first | rfl | trivial)⟩
  have ho2 : selfN (marksL N (outB W T xs) (adjW (W + 2) true)) N = 1 := (one_iff (adjW_symm _ true)).2 ⟨ho.1, fun i k a b c d => hup (ho.2 i k a b c d)⟩
  unfold holesN
  rw [hr, if_pos rfl, hN, Int.toNat_natCast, ho2]; rfl
section
variable {W T : Nat} {xs : List Bool}
theorem at_turned (hl : xs.length = W * T) (x y : Int) : atB T W (turned W T xs) ((T : Int) - 1 - y) x = atB W T xs x y := by
  unfold atB inF
  by_cases h : 0 ≤ x ∧ x < W ∧ 0 ≤ y ∧ y < T
  · rw [decide_eq_true h, decide_eq_true (by omega)]
    obtain ⟨h1, h2, h3, h4⟩ := h
    obtain ⟨x, rfl⟩ := Int.eq_ofNat_of_zero_le h1
    obtain ⟨y, rfl⟩ := Int.eq_ofNat_of_zero_le h3
    have hx : x < W := by omega
    have hy : y < T := by omega
    have e : ((x : Int) * (T : Int) + ((T : Int) - 1 - (y : Int))).toNat = x * T + (T - 1 - y) := by
      have : (x : Int) * (T : Int) + ((T : Int) - 1 - (y : Int)) = ((x * T + (T - 1 - y) : Nat) : Int) := by
        rw [Int.natCast_add, Int.natCast_mul]; omega
      rw [this, Int.toNat_natCast]
    have e2 : ((y : Int) * (W : Int) + (x : Int)).toNat = y * W + x := by
      have : (y : Int) * (W : Int) + (x : Int) = ((y * W + x : Nat) : Int) := by rw [Int.natCast_add, Int.natCast_mul]
      rw [this, Int.toNat_natCast]
    rw [e, e2, turned_at xs (comb_lt hx (sub_lt hy))]
    unfold tSrc
    rw [comb_mod (sub_lt hy), comb_div (sub_lt hy), sub_sub hy]
  · rw [decide_eq_false h, decide_eq_false (by omega)]; rfl
theorem at_flipped (hl : xs.length = W * T) (x y : Int) : atB W T (flipped W T xs) ((W : Int) - 1 - x) y = atB W T xs x y := by
  unfold atB inF
  by_cases h : 0 ≤ x ∧ x < W ∧ 0 ≤ y ∧ y < T
  · rw [decide_eq_true h, decide_eq_true (by omega)]
    obtain ⟨h1, h2, h3, h4⟩ := h
    obtain ⟨x, rfl⟩ := Int.eq_ofNat_of_zero_le h1
    obtain ⟨y, rfl⟩ := Int.eq_ofNat_of_zero_le h3
    have hx : x < W := by omega
    have hy : y < T := by omega
    have e : ((y : Int) * (W : Int) + ((W : Int) - 1 - (x : Int))).toNat = y * W + (W - 1 - x) := by
      have : (y : Int) * (W : Int) + ((W : Int) - 1 - (x : Int)) = ((y * W + (W - 1 - x) : Nat) : Int) := by
        rw [Int.natCast_add, Int.natCast_mul]; omega
      rw [this, Int.toNat_natCast]
    have e2 : ((y : Int) * (W : Int) + (x : Int)).toNat = y * W + x := by
      have : (y : Int) * (W : Int) + (x : Int) = ((y * W + x : Nat) : Int) := by rw [Int.natCast_add, Int.natCast_mul]
      rw [this, Int.toNat_natCast]
    rw [e, e2, flipped_at xs (by rw [Nat.mul_comm W T]; exact comb_lt hy (sub_lt hx))]
    unfold fIdx
    rw [comb_mod (sub_lt hx), comb_div (sub_lt hx), sub_sub hx]
  · rw [decide_eq_false h, decide_eq_false (by omega)]; rfl
theorem out_turned (hl : xs.length = W * T) (x y : Int) : outP T W (turned W T xs) ((T : Int) + 1 - y) x = outP W T xs x y := by
  unfold outP
  have := at_turned hl (x - 1) (y - 1)
  rw [show (T : Int) - 1 - (y - 1) = (T : Int) + 1 - y - 1 by omega] at this
  rw [this]
  congr 1
  apply decide_eq_decide.2; omega
theorem out_flipped (hl : xs.length = W * T) (x y : Int) : outP W T (flipped W T xs) ((W : Int) + 1 - x) y = outP W T xs x y := by
  unfold outP
  have := at_flipped hl (x - 1) (y - 1)
  rw [show (W : Int) - 1 - (x - 1) = (W : Int) + 1 - x - 1 by omega] at this
  rw [this]
  congr 1
  apply decide_eq_decide.2; omega
theorem simple_turned (h : rv W T xs = true) : simpleB T W (turned W T xs) = simpleB W T xs := by
  obtain ⟨v1, v2, v3, v4, v5, v6⟩ := rv_parts.1 h
  have hr := rv_turned h
  apply Bool.eq_iff_iff.2
  rw [simple_iff, simple_iff]
  constructor
  · rintro ⟨_, ⟨x, y, hxy⟩, hA, hO⟩
    refine ⟨h, ⟨y, (T : Int) - 1 - x, by rw [← at_turned v5, show (T : Int) - 1 - ((T : Int) - 1 - x) = x by omega]; exact hxy⟩, ?_, ?_⟩
    · exact hA.map (f := fun x y => y) (g := fun x y => (T : Int) - 1 - x) (f' := fun x y => (T : Int) - 1 - y) (g' := fun x y => x) (fun x y => by rw [← at_turned v5, show (T : Int) - 1 - ((T : Int) - 1 - x) = x by omega]) (fun x y x' y' hs => by unfold sideP at *; omega) (fun x y => rfl) (fun x y => by omega)
    · exact hO.map (f := fun x y => y) (g := fun x y => (T : Int) + 1 - x) (f' := fun x y => (T : Int) + 1 - y) (g' := fun x y => x) (fun x y => by rw [← out_turned v5, show (T : Int) + 1 - ((T : Int) + 1 - x) = x by omega]) (fun x y x' y' hs => by unfold sideP at *; omega) (fun x y => rfl) (fun x y => by omega)
  · rintro ⟨_, ⟨x, y, hxy⟩, hA, hO⟩
    refine ⟨hr, ⟨(T : Int) - 1 - y, x, by rw [at_turned v5]; exact hxy⟩, ?_, ?_⟩
    · exact hA.map (f := fun x y => (T : Int) - 1 - y) (g := fun x y => x) (f' := fun x y => y) (g' := fun x y => (T : Int) - 1 - x) (fun x y => at_turned v5 x y) (fun x y x' y' hs => by unfold sideP at *; omega) (fun x y => by omega) (fun x y => rfl)
    · exact hO.map (f := fun x y => (T : Int) + 1 - y) (g := fun x y => x) (f' := fun x y => y) (g' := fun x y => (T : Int) + 1 - x) (fun x y => out_turned v5 x y) (fun x y x' y' hs => by unfold sideP at *; omega) (fun x y => by omega) (fun x y => rfl)
theorem simple_flipped (h : rv W T xs = true) : simpleB W T (flipped W T xs) = simpleB W T xs := by
  obtain ⟨v1, v2, v3, v4, v5, v6⟩ := rv_parts.1 h
  have hr := rv_flipped h
  apply Bool.eq_iff_iff.2
  rw [simple_iff, simple_iff]
  constructor
  · rintro ⟨_, ⟨x, y, hxy⟩, hA, hO⟩
    refine ⟨h, ⟨(W : Int) - 1 - x, y, by rw [← at_flipped v5, show (W : Int) - 1 - ((W : Int) - 1 - x) = x by omega]; exact hxy⟩, ?_, ?_⟩
    · exact hA.map (f := fun x y => (W : Int) - 1 - x) (g := fun x y => y) (f' := fun x y => (W : Int) - 1 - x) (g' := fun x y => y) (fun x y => by rw [← at_flipped v5, show (W : Int) - 1 - ((W : Int) - 1 - x) = x by omega]) (fun x y x' y' hs => by unfold sideP at *; omega) (fun x y => by omega) (fun x y => rfl)
    · exact hO.map (f := fun x y => (W : Int) + 1 - x) (g := fun x y => y) (f' := fun x y => (W : Int) + 1 - x) (g' := fun x y => y) (fun x y => by rw [← out_flipped v5, show (W : Int) + 1 - ((W : Int) + 1 - x) = x by omega]) (fun x y x' y' hs => by unfold sideP at *; omega) (fun x y => by omega) (fun x y => rfl)
  · rintro ⟨_, ⟨x, y, hxy⟩, hA, hO⟩
    refine ⟨hr, ⟨(W : Int) - 1 - x, y, by rw [at_flipped v5]; exact hxy⟩, ?_, ?_⟩
    · exact hA.map (f := fun x y => (W : Int) - 1 - x) (g := fun x y => y) (f' := fun x y => (W : Int) - 1 - x) (g' := fun x y => y) (fun x y => at_flipped v5 x y) (fun x y x' y' hs => by unfold sideP at *; omega) (fun x y => by omega) (fun x y => rfl)
    · exact hO.map (f := fun x y => (W : Int) + 1 - x) (g := fun x y => y) (f' := fun x y => (W : Int) + 1 - x) (g' := fun x y => y) (fun x y => out_flipped v5 x y) (fun x y x' y' hs => by unfold sideP at *; omega) (fun x y => by omega) (fun x y => rfl)
end
end Go.Proofs.Ytpcajacekmidbaa
