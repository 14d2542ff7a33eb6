/- Plain facts: with a further cell there is one part more at most, and three fewer at most. -/
import Derived.Test.YthdacjgechokcaaOutsideM
namespace Go.Proofs.Ythdacjgechokcaa
open Go.RowKit
set_option linter.unusedVariables false
set_option maxRecDepth 100000
set_option linter.unusedSimpArgs false

theorem countP_succ_le {l : List Nat} {p q : Nat → Bool} {a : Nat} (hn : l.Nodup) (h : ∀ x ∈ l, p x = true → q x = true ∨ x = a) : l.countP p ≤ l.countP q + 1 := by
  induction l with
  | nil => simp
  | cons x l ih =>
    rw [List.countP_cons, List.countP_cons]
    rw [List.nodup_cons] at hn
    by_cases hx : x = a
    · have hl : l.countP p ≤ l.countP q := List.countP_mono_left (fun b hb hp => by
        rcases h b (List.mem_cons_of_mem _ hb) hp with h1 | h1
        · exact h1
        · exfalso; rw [h1, ← hx] at hb; exact hn.1 hb)
      split <;> split <;> omega
    · have hl := ih hn.2 (fun b hb => h b (List.mem_cons_of_mem _ hb))
      by_cases hp : p x = true
      · rcases h x List.mem_cons_self hp with h1 | h1
        · rw [if_pos hp, if_pos h1]; omega
        · exact absurd h1 hx
      · rw [if_neg hp]; split <;> omega
theorem countP_among {l : List Nat} (hn : l.Nodup) : ∀ (bs : List Nat) (p : Nat → Bool), (∀ x ∈ l, p x = true → x ∈ bs) → l.countP p ≤ bs.length
  | [], p, h => by
    have : l.countP p = 0 := by
      rw [List.countP_eq_zero]; intro x hx hp
      have := h x hx hp; simp at this
    omega
  | a :: bs, p, h => by
    have h1 := countP_succ_le (p := p) (q := fun x => p x && decide (x ≠ a)) (a := a) hn (fun x hx hp => by
      by_cases e : x = a
      · exact Or.inr e
      · left; simp [hp, e])
    have h2 := countP_among hn bs (fun x => p x && decide (x ≠ a)) (fun x hx hp => by
      simp only [Bool.and_eq_true, decide_eq_true_eq] at hp
      rcases List.mem_cons.1 (h x hx hp.1) with e | e
      · exact absurd e hp.2
      · exact e)
    simp only [List.length_cons]; omega
section
variable {N : Nat} {s s' : Nat → Bool} {adj : Nat → Nat → Bool}
theorem rep_iff {M : List Int} (hm : Marks N s adj M) {k : Nat} (hk : k < N) : (M.getD k 0 == (k : Int)) = true ↔ s k = true ∧ ∀ i, Conn N s adj i k → k ≤ i := by
  constructor
  · intro h
    have h' : M.getD k 0 = (k : Int) := by simpa using h
    cases hs : s k
    · have := (hm.2 k hk).1 hs; omega
    · obtain ⟨j, hj, _, hl⟩ := (hm.2 k hk).2 hs
      have : j = k := by omega
      subst this
      exact ⟨rfl, hl⟩
  · rintro ⟨hs, hl⟩
    obtain ⟨j, hj, hc, hl2⟩ := (hm.2 k hk).2 hs
    have h1 := hl j hc
    have h2 := hl2 k (.refl hk hs)
    have : j = k := by omega
    subst this
    simpa using hj
theorem Conn.more (hss : ∀ i, s i = true → s' i = true) {i k : Nat} (h : Conn N s adj i k) : Conn N s' adj i k := by
  induction h with
  | refl a b => exact .refl a (hss _ b)
  | step hij a b c ih => exact .step ih a b (hss _ c)
theorem conn_split {c : Nat} (hs' : ∀ i, s' i = true → i ≠ c → s i = true) (hc : c < N) (hcc : s' c = true) {i k : Nat} (h : Conn N s' adj i k) : Conn N s adj i k ∨ Conn N s' adj c k := by
  induction h with
  | refl a b =>
    by_cases e : i = c
    · subst e; exact Or.inr (.refl hc hcc)
    · exact Or.inl (.refl a (hs' _ b e))
  | step hij a b d ih =>
    rename_i j k
    by_cases e : k = c
    · subst e; exact Or.inr (.refl hc hcc)
    · rcases ih with h1 | h1
      · exact Or.inl (.step h1 a b (hs' _ d e))
      · exact Or.inr (.step h1 a b d)
theorem conn_beside {c : Nat} (hs' : ∀ i, s' i = true → i ≠ c → s i = true) {k : Nat} (h : Conn N s' adj c k) (hk : k ≠ c) : ∃ i, adj c i = true ∧ i < N ∧ s i = true ∧ Conn N s adj i k := by
  induction h with
  | refl a b => exact absurd rfl hk
  | step hij a b d ih =>
    rename_i j k
    have sk := hs' _ d hk
    by_cases e : j = c
    · subst e; exact ⟨k, a, b, sk, .refl b sk⟩
    · obtain ⟨i, h1, h2, h3, h4⟩ := ih e
      exact ⟨i, h1, h2, h3, .step h4 a b sk⟩
end
/-- With a further cell there is one part more at most, and three fewer at most. -/
theorem parts_more {N : Nat} {s s' : Nat → Bool} {W : Int} {M M' : List Int} {c : Nat} (hW : 1 ≤ W) (hm : Marks N s (adjW W false) M) (hm' : Marks N s' (adjW W false) M') (hc : c < N) (hsc : s c = false) (hcc : s' c = true) (h1 : ∀ i, s i = true → s' i = true) (h2 : ∀ i, s' i = true → i ≠ c → s i = true) :
    selfN M' N ≤ selfN M N + 1 ∧ selfN M N ≤ selfN M' N + 3 := by
  have hsym := adjW_symm W false
  obtain ⟨r, hr, hrc, hrl⟩ := (hm'.2 c hc).2 hcc
  have hrN := hrc.left
  constructor
  · unfold selfN
    refine countP_succ_le (a := r) List.nodup_range (fun k hk hp => ?_)
    have hkN := List.mem_range.1 hk
    obtain ⟨p1, p2⟩ := (rep_iff hm' hkN).1 hp
    by_cases e : k = r
    · exact Or.inr e
    · left
      have hkc : k ≠ c := by
        intro e2
        subst e2
        have := p2 r hrc
        have := hrl k (.refl hkN p1)
        omega
      exact (rep_iff hm hkN).2 ⟨h2 k p1 hkc, fun i hi => p2 i (hi.more h1)⟩
  · have hK : ∀ k, k < N → (reachT N s' (adjW W false) c N k = true ↔ Conn N s' (adjW W false) c k) := fun k hk => ⟨fun h => reachT_conn hc hk h, fun h => conn_reach h⟩
    -- the heads that the new cell joins
    have hfour : (List.range N).countP (fun k => (M.getD k 0 == (k : Int)) && reachT N s' (adjW W false) c N k) ≤ 4 := by
      refine countP_among List.nodup_range [(M.getD (c + 1) 0).toNat, (M.getD ((c : Int) + W).toNat 0).toNat, (M.getD (c - 1) 0).toNat, (M.getD ((c : Int) - W).toNat 0).toNat] _ (fun k hk hp => ?_)
      have hkN := List.mem_range.1 hk
      rw [Bool.and_eq_true] at hp
      obtain ⟨p1, p2⟩ := (rep_iff hm hkN).1 hp.1
      have hkc : k ≠ c := fun e => by rw [e, hsc] at p1; cases p1
      obtain ⟨i, a1, a2, a3, a4⟩ := conn_beside h2 ((hK k hkN).1 hp.2) hkc
      have hMi : M.getD i 0 = (k : Int) := by
        obtain ⟨j, ej, cj, lj⟩ := (hm.2 i a2).2 a3
        have q1 := lj k (a4.symm hsym)
        have q2 := p2 j (cj.trans a4)
        rw [ej]; omega
      obtain ⟨way, w1, w2, wx, wy⟩ := adj_way a1
      have ai := Int.emod_add_mul_ediv (i : Int) W
      have ac := Int.emod_add_mul_ediv (c : Int) W
      rw [wx, wy, Int.mul_add] at ai
      have hw : way = 1 ∨ way = 2 ∨ way = 3 ∨ way = 4 := by omega
      have hk2 : k = (M.getD i 0).toNat := by rw [hMi]; simp
      rcases hw with rfl | rfl | rfl | rfl
      · have : i = c + 1 := by simp [dxw, dyw] at ai; omega
        rw [hk2, this]; simp
      · have : i = ((c : Int) + W).toNat := by simp [dxw, dyw] at ai; omega
        rw [hk2, this]; simp
      · have : i = c - 1 := by simp [dxw, dyw] at ai; omega
        rw [hk2, this]; simp
      · have : i = ((c : Int) - W).toNat := by simp [dxw, dyw] at ai; omega
        rw [hk2, this]; simp
    have hrest : (List.range N).countP (fun k => (M.getD k 0 == (k : Int)) && !reachT N s' (adjW W false) c N k) + 1 ≤ selfN M' N := by
      unfold selfN
      have hlt := countP_lt (List.range N) (fun k => (M.getD k 0 == (k : Int)) && !reachT N s' (adjW W false) c N k) (fun k => M'.getD k 0 == (k : Int)) (fun k hk hp => by
        have hkN := List.mem_range.1 hk
        rw [Bool.and_eq_true] at hp
        obtain ⟨p1, p2⟩ := (rep_iff hm hkN).1 hp.1
        refine (rep_iff hm' hkN).2 ⟨h1 k p1, fun i hi => ?_⟩
        rcases conn_split h2 hc hcc hi with h | h
        · exact p2 i h
        · have := conn_reach h
          rw [this] at hp; simp at hp) r (List.mem_range.2 hrN.1) (by
        have : reachT N s' (adjW W false) c N r = true := conn_reach (hrc.symm hsym)
        show ((M.getD r 0 == (r : Int)) && !reachT N s' (adjW W false) c N r) = false
        rw [this]; simp) (by
        refine (rep_iff hm' hrN.1).2 ⟨hrN.2, fun i hi => hrl i (hi.trans hrc)⟩)
      omega
    have hsplit : selfN M N = (List.range N).countP (fun k => (M.getD k 0 == (k : Int)) && reachT N s' (adjW W false) c N k) + (List.range N).countP (fun k => (M.getD k 0 == (k : Int)) && !reachT N s' (adjW W false) c N k) := by
      unfold selfN
      generalize List.range N = l
      induction l with
      | nil => rfl
      | cons x l ih =>
        rw [List.countP_cons, List.countP_cons, List.countP_cons, ih]
        cases (M.getD x 0 == (x : Int)) <;> cases reachT N s' (adjW W false) c N x <;> simp <;> omega
    omega
theorem parts_le {N : Nat} {s : Nat → Bool} {adj : Nat → Nat → Bool} {M : List Int} (hm : Marks N s adj M) : selfN M N ≤ (List.range N).countP s := by
  unfold selfN
  exact List.countP_mono_left fun k hk hp => ((rep_iff hm (List.mem_range.1 hk)).1 hp).1
end Go.Proofs.Ythdacjgechokcaa
