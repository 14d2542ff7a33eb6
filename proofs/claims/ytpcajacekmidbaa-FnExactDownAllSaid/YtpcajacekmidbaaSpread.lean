/- Plain facts on marks that spread from cell to cell, and on marks that are evened out sweep by sweep. -/
import Derived.Test.YtpcajacekmidbaaTill
import Derived.Test.YtpcajacekmidbaaAround
import Derived.Test.YtpcajacekmidbaaLayOne
namespace Go.Proofs.Ytpcajacekmidbaa
open Go.RowKit
set_option linter.unusedVariables false
set_option maxRecDepth 100000
set_option linter.unusedSimpArgs false

section
variable {N : Nat} {s : Nat → Bool} {adj : Nat → Nat → Bool}
/-- All neighbours are marked. -/
def AllM (N : Nat) (s : Nat → Bool) (adj : Nat → Nat → Bool) (M : List Int) (k : Nat) : Prop := ∀ j, adj k j = true → j < N → s j = true → 0 ≤ M.getD j 0
/-- A mark spreads: what is marked so far, what is still to be looked at. -/
structure SpI (N : Nat) (s : Nat → Bool) (adj : Nat → Nat → Bool) (first : Nat) (M0 M : List Int) (zs : List Int) (D : Nat → Prop) : Prop where
  len : M.length = N
  old : ∀ k, k < N → M.getD k 0 = M0.getD k 0 ∨ (M.getD k 0 = first ∧ Conn N s adj first k)
  fst : M.getD first 0 = first
  que : ∀ i, i < zs.length → ∃ z : Nat, zs.getD i 0 = z ∧ z < N ∧ Conn N s adj first z
  clo : ∀ j, Conn N s adj first j → M.getD j 0 = first → (∃ i, i < zs.length ∧ zs.getD i 0 = j) ∨ D j ∨ AllM N s adj M j
theorem SpI.start {first : Nat} {M0 : List Int} (hl : M0.length = N) (hf : first < N) (hs : s first = true) (hneg : ∀ j, Conn N s adj first j → M0.getD j 0 < 0) : SpI N s adj first M0 (M0.set first first) [(first : Int)] (fun _ => False) := by
  refine ⟨by simp [hl], fun k hk => ?_, ?_, fun i hi => ?_, fun j hj hm => ?_⟩
  · rw [getD_set1]
    by_cases e : k = first ∧ first < M0.length
    · rw [if_pos e]; right; exact ⟨rfl, by rw [e.1]; exact .refl hf hs⟩
    · rw [if_neg e]; exact Or.inl rfl
  · rw [getD_set1, if_pos ⟨rfl, by omega⟩]
  · simp at hi; subst hi; exact ⟨first, rfl, hf, .refl hf hs⟩
  · rw [getD_set1] at hm
    by_cases e : j = first ∧ first < M0.length
    · left; exact ⟨0, by simp, by rw [e.1]; rfl⟩
    · rw [if_neg e] at hm; have := hneg j hj; omega
theorem SpI.pop {first : Nat} {M0 M : List Int} {z : Int} {zs : List Int} (h : SpI N s adj first M0 M (z :: zs) (fun _ => False)) : ∃ c : Nat, z = c ∧ c < N ∧ Conn N s adj first c ∧ SpI N s adj first M0 M zs (fun j => j = c) := by
  obtain ⟨c, hc, hcN, hcc⟩ := h.que 0 (by simp)
  refine ⟨c, hc, hcN, hcc, h.len, h.old, h.fst, fun i hi => h.que (i + 1) (by simp; omega), fun j hj hm => ?_⟩
  rcases h.clo j hj hm with ⟨i, hi, e⟩ | hf | ha
  · cases i with
    | zero => right; left; have : z = j := e; have hz : z = c := hc; omega
    | succ i => left; exact ⟨i, by simp at hi; omega, e⟩
  · exact hf.elim
  · exact Or.inr (Or.inr ha)
theorem SpI.mark {first n : Nat} {M0 M zs : List Int} {D : Nat → Prop} (h : SpI N s adj first M0 M zs D) (hn : n < N) (hc : Conn N s adj first n) (hm : M.getD n 0 < 0) : SpI N s adj first M0 (M.set n first) (zs ++ [(n : Int)]) D := by
  have hl := h.len
  have hg : ∀ k, (M.set n (first : Int)).getD k 0 = if k = n then (first : Int) else M.getD k 0 := fun k => by
    rw [getD_set1]; by_cases e : k = n
    · rw [if_pos ⟨e, by omega⟩, if_pos e]
    · rw [if_neg (fun q => e q.1), if_neg e]
  refine ⟨by simp [hl], fun k hk => ?_, ?_, fun i hi => ?_, fun j hj hmj => ?_⟩
  · rw [hg]
    by_cases e : k = n
    · rw [if_pos e]; right; exact ⟨rfl, by rw [e]; exact hc⟩
    · rw [if_neg e]; exact h.old k hk
  · rw [hg]; split
    · rfl
    · exact h.fst
  · by_cases e : i < zs.length
    · obtain ⟨z, h1, h2, h3⟩ := h.que i e
      exact ⟨z, by rw [← h1]; simp [List.getD, List.getElem?_append_left e], h2, h3⟩
    · have : i = zs.length := by simp at hi; omega
      subst this
      exact ⟨n, by simp [List.getD], hn, hc⟩
  · rw [hg] at hmj
    by_cases e : j = n
    · left; exact ⟨zs.length, by simp, by rw [e]; simp [List.getD]⟩
    · rw [if_neg e] at hmj
      rcases h.clo j hj hmj with ⟨i, hi, e'⟩ | hd | ha
      · left; exact ⟨i, by simp; omega, by rw [← e']; simp [List.getD, List.getElem?_append_left hi]⟩
      · exact Or.inr (Or.inl hd)
      · refine Or.inr (Or.inr fun k h1 h2 h3 => ?_)
        rw [hg]; split
        · omega
        · exact ha k h1 h2 h3
theorem SpI.closed {first c : Nat} {M0 M zs : List Int} (h : SpI N s adj first M0 M zs (fun j => j = c)) (ha : AllM N s adj M c) : SpI N s adj first M0 M zs (fun _ => False) := by
  refine ⟨h.len, h.old, h.fst, h.que, fun j hj hm => ?_⟩
  rcases h.clo j hj hm with h1 | h2 | h3
  · exact Or.inl h1
  · subst h2; exact Or.inr (Or.inr ha)
  · exact Or.inr (Or.inr h3)
/-- What a mark that has spread leaves. -/
def Spread (N : Nat) (s : Nat → Bool) (adj : Nat → Nat → Bool) (first : Nat) (M0 M : List Int) : Prop :=
  M.length = N ∧ ∀ k, k < N → (Conn N s adj first k → M.getD k 0 = first) ∧ (¬ Conn N s adj first k → M.getD k 0 = M0.getD k 0)
theorem SpI.done {first : Nat} {M0 M : List Int} (h : SpI N s adj first M0 M [] (fun _ => False)) (hneg : ∀ j, Conn N s adj first j → M0.getD j 0 < 0) : Spread N s adj first M0 M := by
  have key : ∀ k, Conn N s adj first k → M.getD k 0 = first := by
    intro k hc
    induction hc with
    | refl _ _ => exact h.fst
    | step hij a b c ih =>
      rename_i j k
      have hj := ih
      rcases h.clo j hij hj with ⟨i, hi, _⟩ | hf | ha
      · simp at hi
      · exact hf.elim
      · have h0 := ha k a b c
        rcases h.old k b with e | e
        · have := hneg k (.step hij a b c); omega
        · exact e.1
  refine ⟨h.len, fun k hk => ⟨key k, fun hn => ?_⟩⟩
  rcases h.old k hk with e | e
  · exact e
  · exact absurd e.2 hn
/-- How many cells are not marked. -/
def unM (N : Nat) (M : List Int) : Nat := (List.range N).countP fun k => decide (M.getD k 0 < 0)
theorem unM_le (N : Nat) (M : List Int) : unM N M ≤ N := by
  have := List.countP_le_length (p := fun k => decide (M.getD k 0 < 0)) (l := List.range N)
  rwa [List.length_range] at this
theorem unM_set {n first : Nat} {M : List Int} (hn : n < N) (hl : M.length = N) (hm : M.getD n 0 < 0) : unM N (M.set n first) + 1 ≤ unM N M := by
  refine countP_lt _ _ _ (fun x _ hx => ?_) n (List.mem_range.2 hn) ?_ (by simpa using hm)
  · rw [decide_eq_true_eq] at hx ⊢
    rw [getD_set1] at hx
    split at hx
    · omega
    · exact hx
  · rw [decide_eq_false_iff_not, getD_set1, if_pos ⟨rfl, by omega⟩]; omega

/-- The marks of the cells whose least cell lies before k are laid. -/
structure MkI (N : Nat) (s : Nat → Bool) (adj : Nat → Nat → Bool) (k : Nat) (M : List Int) : Prop where
  len : M.length = N
  off : ∀ j, j < N → s j = false → M.getD j 0 = -1
  on : ∀ j, j < N → s j = true → (∃ i : Nat, i < k ∧ M.getD j 0 = i ∧ Conn N s adj i j ∧ ∀ i', Conn N s adj i' j → i ≤ i') ∨ (M.getD j 0 = -1 ∧ ∀ i, Conn N s adj i j → k ≤ i)
theorem MkI.start : MkI N s adj 0 (List.replicate N (-1)) :=
  ⟨by simp, fun j hj _ => by simp [List.getD, hj], fun j hj _ => Or.inr ⟨by simp [List.getD, hj], fun i _ => Nat.zero_le i⟩⟩
theorem MkI.skip {k : Nat} {M : List Int} (ha : ∀ j k, adj j k = adj k j) (h : MkI N s adj k M) (hk : s k = false ∨ (k < N ∧ 0 ≤ M.getD k 0)) : MkI N s adj (k + 1) M := by
  refine ⟨h.len, h.off, fun j hj hs => ?_⟩
  rcases h.on j hj hs with ⟨i, h1, h2, h3, h4⟩ | ⟨h1, h2⟩
  · exact Or.inl ⟨i, by omega, h2, h3, h4⟩
  · refine Or.inr ⟨h1, fun i hi => ?_⟩
    have := h2 i hi
    by_cases e : i = k
    · subst e
      exfalso
      rcases hk with hk | ⟨hkN, hk⟩
      · have := hi.left.2; rw [hk] at this; cases this
      · rcases h.on i hkN hi.left.2 with ⟨i', p1, p2, p3, p4⟩ | ⟨p1, _⟩
        · have := h2 i' (p3.trans hi); omega
        · omega
    · omega
theorem MkI.neg {k : Nat} {M : List Int} (ha : ∀ j k, adj j k = adj k j) (h : MkI N s adj k M) (hk : k < N) (hs : s k = true) (hm : M.getD k 0 < 0) : ∀ j, Conn N s adj k j → M.getD j 0 < 0 := by
  intro j hc
  rcases h.on j hc.right.1 hc.right.2 with ⟨i, h1, h2, h3, h4⟩ | ⟨h1, _⟩
  · exfalso
    rcases h.on k hk hs with ⟨i', p1, p2, _⟩ | ⟨_, p2⟩
    · omega
    · have := p2 i (h3.trans (hc.symm ha)); omega
  · omega
theorem MkI.spread {k : Nat} {M M' : List Int} (ha : ∀ j k, adj j k = adj k j) (h : MkI N s adj k M) (hk : k < N) (hs : s k = true) (hm : M.getD k 0 < 0) (hsp : Spread N s adj k M M') : MkI N s adj (k + 1) M' := by
  have hkk : ∀ i, Conn N s adj i k → k ≤ i := by
    rcases h.on k hk hs with ⟨i', p1, p2, _⟩ | ⟨_, p2⟩
    · omega
    · exact p2
  refine ⟨hsp.1, fun j hj hj0 => ?_, fun j hj hj1 => ?_⟩
  · rw [(hsp.2 j hj).2 (fun hc => by have := hc.right.2; rw [hj0] at this; cases this)]; exact h.off j hj hj0
  · by_cases hc : Conn N s adj k j
    · exact Or.inl ⟨k, by omega, (hsp.2 j hj).1 hc, hc, fun i' hi' => hkk i' (hi'.trans (hc.symm ha))⟩
    · rw [(hsp.2 j hj).2 hc]
      rcases h.on j hj hj1 with ⟨i, h1, h2, h3, h4⟩ | ⟨h1, h2⟩
      · exact Or.inl ⟨i, by omega, h2, h3, h4⟩
      · refine Or.inr ⟨h1, fun i hi => ?_⟩
        have := h2 i hi
        by_cases e : i = k
        · subst e; exact absurd hi hc
        · omega
theorem MkI.marks {M : List Int} (h : MkI N s adj N M) : Marks N s adj M := by
  refine ⟨h.len, fun k hk => ⟨h.off k hk, fun hs => ?_⟩⟩
  rcases h.on k hk hs with ⟨i, h1, h2, h3, h4⟩ | ⟨h1, h2⟩
  · exact ⟨i, h2, h3, h4⟩
  · have := h2 k (.refl hk hs); omega

/-- Numbers that are evened out: each cell of the set has the index of one that it hangs together with. -/
structure EvI (N : Nat) (s : Nat → Bool) (adj : Nat → Nat → Bool) (P Q : List Int) : Prop where
  len : Q.length = N
  off : ∀ j, j < N → s j = false → Q.getD j 0 = -1
  on : ∀ j, j < N → s j = true → ∃ i : Nat, Q.getD j 0 = i ∧ Conn N s adj i j
  dec : ∀ j, j < N → s j = true → Q.getD j 0 ≤ P.getD j 0
/-- Two neighbours get the less of both numbers. -/
def evenL (Q : List Int) (a b : Nat) : List Int := (Q.set a (min (Q.getD a 0) (Q.getD b 0))).set b (min (Q.getD a 0) (Q.getD b 0))
theorem evenL_get {Q : List Int} {a b : Nat} (ha : a < Q.length) (hb : b < Q.length) (j : Nat) : (evenL Q a b).getD j 0 = if j = a ∨ j = b then min (Q.getD a 0) (Q.getD b 0) else Q.getD j 0 := by
  unfold evenL
  rw [getD_set2 ha hb]
  by_cases e1 : j = b
  · rw [if_pos e1, if_pos (Or.inr e1)]
  · rw [if_neg e1]
    by_cases e2 : j = a
    · rw [if_pos e2, if_pos (Or.inl e2)]
    · rw [if_neg e2, if_neg (fun q => q.elim e2 e1)]
theorem EvI.even {P Q : List Int} {a b : Nat} (hsym : ∀ j k, adj j k = adj k j) (h : EvI N s adj P Q) (ha : a < N) (hb : b < N) (sa : s a = true) (sb : s b = true) (hab : adj a b = true) :
    EvI N s adj P (evenL Q a b) ∧ (∀ j, (evenL Q a b).getD j 0 ≤ Q.getD j 0) ∧ (evenL Q a b).getD a 0 ≤ P.getD b 0 ∧ (evenL Q a b).getD b 0 ≤ P.getD a 0 := by
  have hl := h.len
  have hg := evenL_get (Q := Q) (a := a) (b := b) (by omega) (by omega)
  have hle : ∀ j, (evenL Q a b).getD j 0 ≤ Q.getD j 0 := by
    intro j
    rw [hg]
    by_cases e : j = a ∨ j = b
    · rw [if_pos e]; rcases e with rfl | rfl <;> omega
    · rw [if_neg e]; exact Int.le_refl _
  have da := h.dec a ha sa
  have db := h.dec b hb sb
  refine ⟨⟨by unfold evenL; simp [hl], fun j hj hs => ?_, fun j hj hs => ?_, fun j hj hs => Int.le_trans (hle j) (h.dec j hj hs)⟩, hle, ?_, ?_⟩
  · rw [hg, if_neg (fun e => by rcases e with rfl | rfl <;> simp_all)]; exact h.off j hj hs
  · rw [hg]
    by_cases e : j = a ∨ j = b
    · rw [if_pos e]
      obtain ⟨i, hi, ci⟩ := h.on a ha sa
      obtain ⟨i2, hi2, ci2⟩ := h.on b hb sb
      by_cases hm : i ≤ i2
      · refine ⟨i, by rw [hi, hi2]; omega, ?_⟩
        rcases e with rfl | rfl
        · exact ci
        · exact .step ci hab hb sb
      · refine ⟨i2, by rw [hi, hi2]; omega, ?_⟩
        rcases e with rfl | rfl
        · exact .step ci2 (by rw [hsym]; exact hab) ha sa
        · exact ci2
    · rw [if_neg e]; exact h.on j hj hs
  · rw [hg, if_pos (Or.inl rfl)]; omega
  · rw [hg, if_pos (Or.inr rfl)]; omega
/-- Of the pairs below k both have got less than either had before the sweep. -/
def Paired (N : Nat) (s : Nat → Bool) (adj : Nat → Nat → Bool) (P : List Int) (k : Nat) (Q : List Int) : Prop := ∀ a b, a < N → b < N → s a = true → s b = true → adj a b = true → a < k → b < k → Q.getD a 0 ≤ P.getD b 0
theorem Paired.le {P Q Q' : List Int} {k : Nat} (h : Paired N s adj P k Q) (hle : ∀ j, Q'.getD j 0 ≤ Q.getD j 0) : Paired N s adj P k Q' :=
  fun a b h1 h2 h3 h4 h5 h6 h7 => Int.le_trans (hle a) (h a b h1 h2 h3 h4 h5 h6 h7)
/-- Behind t sweeps: no more than whoever reaches the cell in t steps. -/
structure SwI (N : Nat) (s : Nat → Bool) (adj : Nat → Nat → Bool) (t : Nat) (P : List Int) : Prop where
  len : P.length = N
  off : ∀ j, j < N → s j = false → P.getD j 0 = -1
  on : ∀ j, j < N → s j = true → ∃ i : Nat, P.getD j 0 = i ∧ Conn N s adj i j
  bd : ∀ i j, i < N → j < N → reachT N s adj i t j = true → P.getD j 0 ≤ i
theorem SwI.ev {t : Nat} {P : List Int} (h : SwI N s adj t P) : EvI N s adj P P := ⟨h.len, h.off, h.on, fun _ _ _ => Int.le_refl _⟩
theorem SwI.sweep {t : Nat} {P Q : List Int} (hsym : ∀ j k, adj j k = adj k j) (h : SwI N s adj t P) (he : EvI N s adj P Q) (hp : Paired N s adj P N Q) : SwI N s adj (t + 1) Q := by
  refine ⟨he.len, he.off, he.on, fun i j hi hj hr => ?_⟩
  have hsj : s j = true := by
    have hc := reachT_conn hi hj hr
    exact hc.right.2
  simp only [reachT, Bool.or_eq_true, Bool.and_eq_true, List.any_eq_true, List.mem_range] at hr
  rcases hr with hr | ⟨hs, k, hk, hr, hak⟩
  · exact Int.le_trans (he.dec j hj hsj) (h.bd i j hi hj hr)
  · have hsk : s k = true := (reachT_conn hi hk hr).right.2
    exact Int.le_trans (hp j k hj hk hs hsk (by rw [hsym]; exact hak) hj hk) (h.bd i k hi hk hr)
theorem SwI.marks {P : List Int} (h : SwI N s adj N P) : Marks N s adj P := by
  refine ⟨h.len, fun k hk => ⟨h.off k hk, fun hs => ?_⟩⟩
  obtain ⟨j, hj, hc⟩ := h.on k hk hs
  refine ⟨j, hj, hc, fun i hi => ?_⟩
  have := h.bd i k hi.left.1 hk (conn_reach hi)
  omega
end
end Go.Proofs.Ytpcajacekmidbaa

namespace Go.Proofs.Ytpcajacekmidbaa
open Go.RowKit
set_option linter.unusedVariables false
set_option maxRecDepth 100000
set_option linter.unusedSimpArgs false

/-- Cells hang together by sides, or by sides and corners. -/
def adjW (W : Int) (corners : Bool) (j k : Nat) : Bool :=
  decide (-1 ≤ (k : Int) % W - (j : Int) % W ∧ (k : Int) % W - (j : Int) % W ≤ 1 ∧ -1 ≤ (k : Int) / W - (j : Int) / W ∧ (k : Int) / W - (j : Int) / W ≤ 1) &&
    !decide ((k : Int) % W = (j : Int) % W ∧ (k : Int) / W = (j : Int) / W) && (corners || decide ((k : Int) % W = (j : Int) % W ∨ (k : Int) / W = (j : Int) / W))
theorem adjW_symm (W : Int) (corners : Bool) (j k : Nat) : adjW W corners j k = adjW W corners k j := by
  apply Bool.eq_iff_iff.2
  unfold adjW
  simp only [Bool.and_eq_true, Bool.or_eq_true, Bool.not_eq_true', decide_eq_true_eq, decide_eq_false_iff_not]
  constructor
  · rintro ⟨⟨h1, h2⟩, h3⟩
    exact ⟨⟨by omega, fun q => h2 ⟨q.1.symm, q.2.symm⟩⟩, h3.imp id fun q => q.imp Eq.symm Eq.symm⟩
  · rintro ⟨⟨h1, h2⟩, h3⟩
    exact ⟨⟨by omega, fun q => h2 ⟨q.1.symm, q.2.symm⟩⟩, h3.imp id fun q => q.imp Eq.symm Eq.symm⟩
theorem dXY_at {dx dy : Int} (h1 : -1 ≤ dx) (h2 : dx ≤ 1) (h3 : -1 ≤ dy) (h4 : dy ≤ 1) : ∃ d, d < 9 ∧ dX d = dx ∧ dY d = dy := by
  have c1 : dx = -1 ∨ dx = 0 ∨ dx = 1 := by omega
  have c2 : dy = -1 ∨ dy = 0 ∨ dy = 1 := by omega
  rcases c1 with rfl | rfl | rfl <;> rcases c2 with rfl | rfl | rfl
  · exact ⟨0, by decide, rfl, rfl⟩
  · exact ⟨3, by decide, rfl, rfl⟩
  · exact ⟨6, by decide, rfl, rfl⟩
  · exact ⟨1, by decide, rfl, rfl⟩
  · exact ⟨4, by decide, rfl, rfl⟩
  · exact ⟨7, by decide, rfl, rfl⟩
  · exact ⟨2, by decide, rfl, rfl⟩
  · exact ⟨5, by decide, rfl, rfl⟩
  · exact ⟨8, by decide, rfl, rfl⟩
theorem dXY_bd {d : Nat} (h : d < 9) : -1 ≤ dX d ∧ dX d ≤ 1 ∧ -1 ≤ dY d ∧ dY d ≤ 1 := by unfold dX dY; omega
theorem ar_mem {W T : Int} {xs : List Bool} {c : Nat} {corners : Bool} (hW : 1 ≤ W) (hWT : (xs.length : Int) = W * T) {v : Int} (h : v ∈ arList W T xs ((c : Int) % W) ((c : Int) / W) corners 9) :
    ∃ k : Nat, v = k ∧ k < xs.length ∧ xs.getD k false = true ∧ adjW W corners c k = true := by
  unfold arList at h
  rw [List.mem_map] at h
  obtain ⟨d, hd, rfl⟩ := h
  rw [List.mem_filter, List.mem_range] at hd
  obtain ⟨hd9, hok⟩ := hd
  unfold arOk atB inF at hok
  simp only [Bool.and_eq_true, Bool.not_eq_true', decide_eq_true_eq, Bool.and_eq_false_iff, bne_eq_false_iff_eq, beq_eq_false_iff_ne, ne_eq] at hok
  obtain ⟨⟨hz, hcn⟩, hin, hx⟩ := hok
  have hb := dXY_bd hd9
  generalize dX d = p at *
  generalize dY d = q at *
  generalize hxx : (c : Int) % W = x at *
  generalize hyy : (c : Int) / W = y at *
  have hi : 0 ≤ x + p ∧ x + p < W ∧ 0 ≤ y + q ∧ y + q < T := by simpa [and_assoc] using hin
  obtain ⟨i1, i2, i3, i4⟩ := hi
  have ib := idx_bd i1 i2 i3 i4
  obtain ⟨k, hk⟩ := Int.eq_ofNat_of_zero_le ib.2.1
  have hdiv : (k : Int) / W = y + q := by
    rw [← hk, Int.add_comm, Int.add_mul_ediv_right _ _ (by omega), Int.ediv_eq_zero_of_lt i1 i2]; omega
  have hmod : (k : Int) % W = x + p := by
    rw [← hk, Int.add_comm, Int.add_mul_emod_self_right, Int.emod_eq_of_lt i1 i2]
  rw [hk] at hx
  simp only [Int.toNat_natCast] at hx
  refine ⟨k, hk, by rw [hk] at ib; omega, hx, ?_⟩
  unfold adjW
  rw [hmod, hdiv, hxx, hyy]
  simp only [Bool.and_eq_true, Bool.or_eq_true, Bool.not_eq_true', decide_eq_true_eq, decide_eq_false_iff_not]
  refine ⟨⟨by omega, fun e => ?_⟩, ?_⟩
  · have : p = 0 ∧ q = 0 := by omega
    rcases hz with h | h
    · exact h this.1
    · exact h this.2
  · rcases hcn with (h | h) | h
    · right; left; omega
    · right; right; omega
    · left; simpa using h
theorem ar_all {W T : Int} {xs : List Bool} {c k : Nat} {corners : Bool} (hW : 1 ≤ W) (hT : 0 ≤ T) (hWT : (xs.length : Int) = W * T) (hk : k < xs.length) (hx : xs.getD k false = true) (ha : adjW W corners c k = true) :
    (k : Int) ∈ arList W T xs ((c : Int) % W) ((c : Int) / W) corners 9 := by
  unfold adjW at ha
  simp only [Bool.and_eq_true, Bool.or_eq_true, Bool.not_eq_true', decide_eq_true_eq, decide_eq_false_iff_not] at ha
  obtain ⟨⟨⟨h1, h2, h3, h4⟩, hne⟩, hcn⟩ := ha
  obtain ⟨d, hd, ex, ey⟩ := dXY_at h1 h2 h3 h4
  have m0 := Int.emod_nonneg (k : Int) (show W ≠ 0 by omega)
  have m1 := Int.emod_lt_of_pos (k : Int) (show 0 < W by omega)
  have hdm := Int.emod_add_mul_ediv (k : Int) W
  have d0 : 0 ≤ (k : Int) / W := Int.ediv_nonneg (by omega) (by omega)
  have d1 : (k : Int) / W < T := Int.ediv_lt_of_lt_mul (by omega) (by rw [Int.mul_comm]; omega)
  have e1 : (c : Int) % W + dX d = (k : Int) % W := by omega
  have e2 : (c : Int) / W + dY d = (k : Int) / W := by omega
  have e3 : (k : Int) / W * W + (k : Int) % W = k := by rw [Int.mul_comm]; omega
  unfold arList
  rw [List.mem_map]
  refine ⟨d, List.mem_filter.2 ⟨List.mem_range.2 hd, ?_⟩, by rw [e1, e2, e3]⟩
  unfold arOk atB inF
  rw [e1, e2, e3]
  simp only [Bool.and_eq_true, Bool.not_eq_true', decide_eq_true_eq, Bool.and_eq_false_iff, bne_eq_false_iff_eq, beq_eq_false_iff_ne, ne_eq, Int.toNat_natCast]
  refine ⟨⟨?_, ?_⟩, ?_, hx⟩
  · by_cases e : dX d = 0
    · right; intro e'; exact hne ⟨by omega, by omega⟩
    · left; exact e
  · rcases hcn with h | h | h
    · right; simpa using h
    · left; left; omega
    · left; right; omega
  · simp [m0, m1, d0, d1]
theorem mem_getD {L : List Int} {i : Nat} (h : i < L.length) : L.getD i 0 ∈ L := by
  have e : L.getD i 0 = L[i] := by simp [h]
  rw [e]; exact List.getElem_mem h
theorem getD_of_mem {L : List Int} {v : Int} (h : v ∈ L) : ∃ i, i < L.length ∧ L.getD i 0 = v := by
  obtain ⟨i, hi, e⟩ := List.mem_iff_getElem.1 h
  exact ⟨i, hi, by rw [← e]; simp [hi]⟩
end Go.Proofs.Ytpcajacekmidbaa
