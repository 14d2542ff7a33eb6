/- Contracts of both functions PartsOf: each cell of a valid region has the least index of a cell of its part. -/
import Derived.Test.YtpcajacekmidbaaKAround
import Derived.ArgAppend
import Derived.Deep.LoopGhost
import Derived.Deep.CutBlock
import Derived.Deep.RegionLaw
import Derived.Laws.Bits64b
namespace Go.Proofs.Ytpcajacekmidbaa
open Go.RowKit
set_option linter.unusedVariables false
set_option maxRecDepth 100000
set_option linter.unusedSimpArgs false

section
variable {N : Nat} {s : Nat → Bool} {adj : Nat → Nat → Bool}
def AllM (N : Nat) (s : Nat → Bool) (adj : Nat → Nat → Bool) (M : List Int) (k : Nat) : Prop := ∀ j, adj k j = true → j < N → s j = true → 0 ≤ M.getD j 0
structure SpI (N : Nat) (s : Nat → Bool) (adj : Nat → Nat → Bool) (first : Nat) (M0 M : List Int) (zs : List Int) (D : Nat → Prop) : Prop where
 len : M.length = N
 old : ∀ k, k < N → M.getD k 0 = M0.getD k 0 ∨ (M.getD k 0 = first ∧ Conn N s adj first k)
 fst : M.getD first 0 = first
 que : ∀ i, i < zs.length → ∃ z : Nat, zs.getD i 0 = z ∧ z < N ∧ Conn N s adj first z
 clo : ∀ j, Conn N s adj first j → M.getD j 0 = first → (∃ i, i < zs.length ∧ zs.getD i 0 = j) ∨ D j ∨ AllM N s adj M j
theorem SpI.start {first : Nat} {M0 : List Int} (hl : M0.length = N) (hf : first < N) (hs : s first = true) (hneg : ∀ j, Conn N s adj first j → M0.getD j 0 < 0) : SpI N s adj first M0 (M0.set first first) [(first : Int)] (fun _ => False) := by
 refine ⟨by simp [hl], fun k hk => ?_, ?_, fun i hi => ?_, fun j hj hm => ?_⟩
 · rw [getD_set1]
   by_cases e : k = first ∧ first < M0.length
   · rw [if_pos e]; right; exact ⟨rfl, by rw [e.1]; exact .refl hf hs⟩
   · rw [if_neg e]; exact Or.inl rfl
 · rw [getD_set1, if_pos ⟨rfl, by omega⟩]
 · simp at hi; subst hi; exact ⟨first, rfl, hf, .refl hf hs⟩
 · rw [getD_set1] at hm
   by_cases e : j = first ∧ first < M0.length
   · left; exact ⟨0, by simp, by rw [e.1]; rfl⟩
   · rw [if_neg e] at hm; have := hneg j hj; omega
theorem SpI.pop {first : Nat} {M0 M : List Int} {z : Int} {zs : List Int} (h : SpI N s adj first M0 M (z :: zs) (fun _ => False)) : ∃ c : Nat, z = c ∧ c < N ∧ Conn N s adj first c ∧ SpI N s adj first M0 M zs (fun j => j = c) := by
 obtain ⟨c, hc, hcN, hcc⟩ := h.que 0 (by simp)
 refine ⟨c, hc, hcN, hcc, h.len, h.old, h.fst, fun i hi => h.que (i + 1) (by simp; omega), fun j hj hm => ?_⟩
 rcases h.clo j hj hm with ⟨i, hi, e⟩ | hf | ha
 · cases i with
   | zero => right; left; have : z = j := e; have hz : z = c := hc; omega
   | succ i => left; exact ⟨i, by simp at hi; omega, e⟩
 · exact hf.elim
 · exact Or.inr (Or.inr ha)
theorem SpI.mark {first n : Nat} {M0 M zs : List Int} {D : Nat → Prop} (h : SpI N s adj first M0 M zs D) (hn : n < N) (hc : Conn N s adj first n) (hm : M.getD n 0 < 0) : SpI N s adj first M0 (M.set n first) (zs ++ [(n : Int)]) D := by
 have hl := h.len
 have hg : ∀ k, (M.set n (first : Int)).getD k 0 = if k = n then (first : Int) else M.getD k 0 := fun k => by
  rw [getD_set1]; by_cases e : k = n
  · rw [if_pos ⟨e, by omega⟩, if_pos e]
  · rw [if_neg (fun q => e q.1), if_neg e]
 refine ⟨by simp [hl], fun k hk => ?_, ?_, fun i hi => ?_, fun j hj hmj => ?_⟩
 · rw [hg]
   by_cases e : k = n
   · rw [if_pos e]; right; exact ⟨rfl, by rw [e]; exact hc⟩
   · rw [if_neg e]; exact h.old k hk
 · rw [hg]; split
   · rfl
   · exact h.fst
 · by_cases e : i < zs.length
   · obtain ⟨z, h1, h2, h3⟩ := h.que i e
     exact ⟨z, by rw [← h1]; simp [List.getD, List.getElem?_append_left e], h2, h3⟩
   · have : i = zs.length := by simp at hi; omega
     subst this
     exact ⟨n, by simp [List.getD], hn, hc⟩
 · rw [hg] at hmj
   by_cases e : j = n
   · left; exact ⟨zs.length, by simp, by rw [e]; simp [List.getD]⟩
   · rw [if_neg e] at hmj
     rcases h.clo j hj hmj with ⟨i, hi, e'⟩ | hd | ha
     · left; exact ⟨i, by simp; omega, by rw [← e']; simp [List.getD, List.getElem?_append_left hi]⟩
     · exact Or.inr (Or.inl hd)
     · refine Or.inr (Or.inr fun k h1 h2 h3 => ?_)
       rw [hg]; split
       · omega
       · exact ha k h1 h2 h3
theorem SpI.closed {first c : Nat} {M0 M zs : List Int} (h : SpI N s adj first M0 M zs (fun j => j = c)) (ha : AllM N s adj M c) : SpI N s adj first M0 M zs (fun _ => False) := by
 refine ⟨h.len, h.old, h.fst, h.que, fun j hj hm => ?_⟩
 rcases h.clo j hj hm with h1 | h2 | h3
 · exact Or.inl h1
 · subst h2; exact Or.inr (Or.inr ha)
 · exact Or.inr (Or.inr h3)
def Spread (N : Nat) (s : Nat → Bool) (adj : Nat → Nat → Bool) (first : Nat) (M0 M : List Int) : Prop :=
 M.length = N ∧ ∀ k, k < N → (Conn N s adj first k → M.getD k 0 = first) ∧ (¬ Conn N s adj first k → M.getD k 0 = M0.getD k 0)
theorem SpI.done {first : Nat} {M0 M : List Int} (h : SpI N s adj first M0 M [] (fun _ => False)) (hneg : ∀ j, Conn N s adj first j → M0.getD j 0 < 0) : Spread N s adj first M0 M := by
 have key : ∀ k, Conn N s adj first k → M.getD k 0 = first := by
  intro k hc
  induction hc with
  | refl _ _ => exact h.fst
  | step hij a b c ih =>
    rename_i j k
    have hj := ih
    rcases h.clo j hij hj with ⟨i, hi, _⟩ | hf | ha
    · simp at hi
    · exact hf.elim
    · have h0 := ha k a b c
      rcases h.old k b with e | e
      · have := hneg k (.step hij a b c); omega
      · exact e.1
 refine ⟨h.len, fun k hk => ⟨key k, fun hn => ?_⟩⟩
 rcases h.old k hk with e | e
 · exact e
 · exact absurd e.2 hn
def unM (N : Nat) (M : List Int) : Nat := (List.range N).countP fun k => decide (M.getD k 0 < 0)
theorem unM_le (N : Nat) (M : List Int) : unM N M ≤ N := by
 have := List.countP_le_length (p := fun k => decide (M.getD k 0 < 0)) (l := List.range N)
 rwa [List.length_range] at this
theorem unM_set {n first : Nat} {M : List Int} (hn : n < N) (hl : M.length = N) (hm : M.getD n 0 < 0) : unM N (M.set n first) + 1 ≤ unM N M := by
 refine countP_lt _ _ _ (fun x _ hx => ?_) n (List.mem_range.2 hn) ?_ (by simpa using hm)
 · rw [decide_eq_true_eq] at hx ⊢
   rw [getD_set1] at hx
   split at hx
   · omega
   · exact hx
 · rw [decide_eq_false_iff_not, getD_set1, if_pos ⟨rfl, by omega⟩]; omega

structure MkI (N : Nat) (s : Nat → Bool) (adj : Nat → Nat → Bool) (k : Nat) (M : List Int) : Prop where
 len : M.length = N
 off : ∀ j, j < N → s j = false → M.getD j 0 = -1
 on : ∀ j, j < N → s j = true → (∃ i : Nat, i < k ∧ M.getD j 0 = i ∧ Conn N s adj i j ∧ ∀ i', Conn N s adj i' j → i ≤ i') ∨ (M.getD j 0 = -1 ∧ ∀ i, Conn N s adj i j → k ≤ i)
theorem MkI.start : MkI N s adj 0 (List.replicate N (-1)) :=
 ⟨by simp, fun j hj _ => by simp [List.getD, hj], fun j hj _ => Or.inr ⟨by simp [List.getD, hj], fun i _ => Nat.zero_le i⟩⟩
theorem MkI.skip {k : Nat} {M : List Int} (ha : ∀ j k, adj j k = adj k j) (h : MkI N s adj k M) (hk : s k = false ∨ (k < N ∧ 0 ≤ M.getD k 0)) : MkI N s adj (k + 1) M := by
 refine ⟨h.len, h.off, fun j hj hs => ?_⟩
 rcases h.on j hj hs with ⟨i, h1, h2, h3, h4⟩ | ⟨h1, h2⟩
 · exact Or.inl ⟨i, by omega, h2, h3, h4⟩
 · refine Or.inr ⟨h1, fun i hi => ?_⟩
   have := h2 i hi
   by_cases e : i = k
   · subst e
     exfalso
     rcases hk with hk | ⟨hkN, hk⟩
     · have := hi.left.2; rw [hk] at this; cases this
     · rcases h.on i hkN hi.left.2 with ⟨i', p1, p2, p3, p4⟩ | ⟨p1, _⟩
       · have := h2 i' (p3.trans hi); omega
       · omega
   · omega
theorem MkI.neg {k : Nat} {M : List Int} (ha : ∀ j k, adj j k = adj k j) (h : MkI N s adj k M) (hk : k < N) (hs : s k = true) (hm : M.getD k 0 < 0) : ∀ j, Conn N s adj k j → M.getD j 0 < 0 := by
 intro j hc
 rcases h.on j hc.right.1 hc.right.2 with ⟨i, h1, h2, h3, h4⟩ | ⟨h1, _⟩
 · exfalso
   rcases h.on k hk hs with ⟨i', p1, p2, _⟩ | ⟨_, p2⟩
   · omega
   · have := p2 i (h3.trans (hc.symm ha)); omega
 · omega
theorem MkI.spread {k : Nat} {M M' : List Int} (ha : ∀ j k, adj j k = adj k j) (h : MkI N s adj k M) (hk : k < N) (hs : s k = true) (hm : M.getD k 0 < 0) (hsp : Spread N s adj k M M') : MkI N s adj (k + 1) M' := by
 have hkk : ∀ i, Conn N s adj i k → k ≤ i := by
  rcases h.on k hk hs with ⟨i', p1, p2, _⟩ | ⟨_, p2⟩
  · omega
  · exact p2
 refine ⟨hsp.1, fun j hj hj0 => ?_, fun j hj hj1 => ?_⟩
 · rw [(hsp.2 j hj).2 (fun hc => by have := hc.right.2; rw [hj0] at this; cases this)]; exact h.off j hj hj0
 · by_cases hc : Conn N s adj k j
   · exact Or.inl ⟨k, by omega, (hsp.2 j hj).1 hc, hc, fun i' hi' => hkk i' (hi'.trans (hc.symm ha))⟩
   · rw [(hsp.2 j hj).2 hc]
     rcases h.on j hj hj1 with ⟨i, h1, h2, h3, h4⟩ | ⟨h1, h2⟩
     · exact Or.inl ⟨i, by omega, h2, h3, h4⟩
     · refine Or.inr ⟨h1, fun i hi => ?_⟩
       have := h2 i hi
       by_cases e : i = k
       · subst e; exact absurd hi hc
       · omega
theorem MkI.marks {M : List Int} (h : MkI N s adj N M) : Marks N s adj M := by
 refine ⟨h.len, fun k hk => ⟨h.off k hk, fun hs => ?_⟩⟩
 rcases h.on k hk hs with ⟨i, h1, h2, h3, h4⟩ | ⟨h1, h2⟩
 · exact ⟨i, h2, h3, h4⟩
 · have := h2 k (.refl hk hs); omega

def Paired (N : Nat) (s : Nat → Bool) (adj : Nat → Nat → Bool) (P : List Int) (k : Nat) (Q : List Int) : Prop := ∀ a b, a < N → b < N → s a = true → s b = true → adj a b = true → a < k → b < k → Q.getD a 0 ≤ P.getD b 0
theorem Paired.le {P Q Q' : List Int} {k : Nat} (h : Paired N s adj P k Q) (hle : ∀ j, Q'.getD j 0 ≤ Q.getD j 0) : Paired N s adj P k Q' :=
 fun a b h1 h2 h3 h4 h5 h6 h7 => Int.le_trans (hle a) (h a b h1 h2 h3 h4 h5 h6 h7)
structure SwI (N : Nat) (s : Nat → Bool) (adj : Nat → Nat → Bool) (t : Nat) (P : List Int) : Prop where
 len : P.length = N
 off : ∀ j, j < N → s j = false → P.getD j 0 = -1
 on : ∀ j, j < N → s j = true → ∃ i : Nat, P.getD j 0 = i ∧ Conn N s adj i j
 bd : ∀ i j, i < N → j < N → reachT N s adj i t j = true → P.getD j 0 ≤ i
theorem SwI.marks {P : List Int} (h : SwI N s adj N P) : Marks N s adj P := by
 refine ⟨h.len, fun k hk => ⟨h.off k hk, fun hs => ?_⟩⟩
 obtain ⟨j, hj, hc⟩ := h.on k hk hs
 refine ⟨j, hj, hc, fun i hi => ?_⟩
 have := h.bd i k hi.left.1 hk (conn_reach hi)
 omega
end
end Go.Proofs.Ytpcajacekmidbaa

namespace Go.Proofs.Ytpcajacekmidbaa
open Go.RowKit
set_option linter.unusedVariables false
set_option maxRecDepth 100000
set_option linter.unusedSimpArgs false

def adjW (W : Int) (corners : Bool) (j k : Nat) : Bool :=
 decide (-1 ≤ (k : Int) % W - (j : Int) % W ∧ (k : Int) % W - (j : Int) % W ≤ 1 ∧ -1 ≤ (k : Int) / W - (j : Int) / W ∧ (k : Int) / W - (j : Int) / W ≤ 1) &&
  !decide ((k : Int) % W = (j : Int) % W ∧ (k : Int) / W = (j : Int) / W) && (corners || decide ((k : Int) % W = (j : Int) % W ∨ (k : Int) / W = (j : Int) / W))
theorem adjW_symm (W : Int) (corners : Bool) (j k : Nat) : adjW W corners j k = adjW W corners k j := by
 apply Bool.eq_iff_iff.2
 unfold adjW
 simp only [Bool.and_eq_true, Bool.or_eq_true, Bool.not_eq_true', decide_eq_true_eq, decide_eq_false_iff_not]
 constructor
 · rintro ⟨⟨h1, h2⟩, h3⟩
   exact ⟨⟨by omega, fun q => h2 ⟨q.1.symm, q.2.symm⟩⟩, h3.imp id fun q => q.imp Eq.symm Eq.symm⟩
 · rintro ⟨⟨h1, h2⟩, h3⟩
   exact ⟨⟨by omega, fun q => h2 ⟨q.1.symm, q.2.symm⟩⟩, h3.imp id fun q => q.imp Eq.symm Eq.symm⟩
theorem dXY_at {dx dy : Int} (h1 : -1 ≤ dx) (h2 : dx ≤ 1) (h3 : -1 ≤ dy) (h4 : dy ≤ 1) : ∃ d, d < 9 ∧ dX d = dx ∧ dY d = dy := by
 have c1 : dx = -1 ∨ dx = 0 ∨ dx = 1 := by omega
 have c2 : dy = -1 ∨ dy = 0 ∨ dy = 1 := by omega
 rcases c1 with rfl | rfl | rfl <;> rcases c2 with rfl | rfl | rfl
 · exact ⟨0, by decide, rfl, rfl⟩
 · exact ⟨3, by decide, rfl, rfl⟩
 · exact ⟨6, by decide, rfl, rfl⟩
 · exact ⟨1, by decide, rfl, rfl⟩
 · exact ⟨4, by decide, rfl, rfl⟩
 · exact ⟨7, by decide, rfl, rfl⟩
 · exact ⟨2, by decide, rfl, rfl⟩
 · exact ⟨5, by decide, rfl, rfl⟩
 · exact ⟨8, by decide, rfl, rfl⟩
theorem dXY_bd {d : Nat} (h : d < 9) : -1 ≤ dX d ∧ dX d ≤ 1 ∧ -1 ≤ dY d ∧ dY d ≤ 1 := by unfold dX dY; omega
theorem ar_mem {W T : Int} {xs : List Bool} {c : Nat} {corners : Bool} (hW : 1 ≤ W) (hWT : (xs.length : Int) = W * T) {v : Int} (h : v ∈ arList W T xs ((c : Int) % W) ((c : Int) / W) corners 9) :
 ∃ k : Nat, v = k ∧ k < xs.length ∧ xs.getD k false = true ∧ adjW W corners c k = true := by
 unfold arList at h
 rw [List.mem_map] at h
 obtain ⟨d, hd, rfl⟩ := h
 rw [List.mem_filter, List.mem_range] at hd
 obtain ⟨hd9, hok⟩ := hd
 unfold arOk atB inF at hok
 simp only [Bool.and_eq_true, Bool.not_eq_true', decide_eq_true_eq, Bool.and_eq_false_iff, bne_eq_false_iff_eq, beq_eq_false_iff_ne, ne_eq] at hok
 obtain ⟨⟨hz, hcn⟩, hin, hx⟩ := hok
 have hb := dXY_bd hd9
 generalize dX d = p at *
 generalize dY d = q at *
 generalize hxx : (c : Int) % W = x at *
 generalize hyy : (c : Int) / W = y at *
 have hi : 0 ≤ x + p ∧ x + p < W ∧ 0 ≤ y + q ∧ y + q < T := by simpa [and_assoc] using hin
 obtain ⟨i1, i2, i3, i4⟩ := hi
 have ib := idx_bd i1 i2 i3 i4
 obtain ⟨k, hk⟩ := Int.eq_ofNat_of_zero_le ib.2.1
 have hdiv : (k : Int) / W = y + q := by
  rw [← hk, Int.add_comm, Int.add_mul_ediv_right _ _ (by omega), Int.ediv_eq_zero_of_lt i1 i2]; omega
 have hmod : (k : Int) % W = x + p := by
  rw [← hk, Int.add_comm, Int.add_mul_emod_self_right, Int.emod_eq_of_lt i1 i2]
 rw [hk] at hx
 simp only [Int.toNat_natCast] at hx
 refine ⟨k, hk, by rw [hk] at ib; omega, hx, ?_⟩
 unfold adjW
 rw [hmod, hdiv, hxx, hyy]
 simp only [Bool.and_eq_true, Bool.or_eq_true, Bool.not_eq_true', decide_eq_true_eq, decide_eq_false_iff_not]
 refine ⟨⟨by omega, fun e => ?_⟩, ?_⟩
 · have : p = 0 ∧ q = 0 := by omega
   rcases hz with h | h
   · exact h this.1
   · exact h this.2
 · rcases hcn with (h | h) | h
   · right; left; omega
   · right; right; omega
   · left; simpa using h
theorem ar_all {W T : Int} {xs : List Bool} {c k : Nat} {corners : Bool} (hW : 1 ≤ W) (hT : 0 ≤ T) (hWT : (xs.length : Int) = W * T) (hk : k < xs.length) (hx : xs.getD k false = true) (ha : adjW W corners c k = true) :
 (k : Int) ∈ arList W T xs ((c : Int) % W) ((c : Int) / W) corners 9 := by
 unfold adjW at ha
 simp only [Bool.and_eq_true, Bool.or_eq_true, Bool.not_eq_true', decide_eq_true_eq, decide_eq_false_iff_not] at ha
 obtain ⟨⟨⟨h1, h2, h3, h4⟩, hne⟩, hcn⟩ := ha
 obtain ⟨d, hd, ex, ey⟩ := dXY_at h1 h2 h3 h4
 have m0 := Int.emod_nonneg (k : Int) (show W ≠ 0 by omega)
 have m1 := Int.emod_lt_of_pos (k : Int) (show 0 < W by omega)
 have hdm := Int.emod_add_mul_ediv (k : Int) W
 have d0 : 0 ≤ (k : Int) / W := Int.ediv_nonneg (by omega) (by omega)
 have d1 : (k : Int) / W < T := Int.ediv_lt_of_lt_mul (by omega) (by rw [Int.mul_comm]; omega)
 have e1 : (c : Int) % W + dX d = (k : Int) % W := by omega
 have e2 : (c : Int) / W + dY d = (k : Int) / W := by omega
 have e3 : (k : Int) / W * W + (k : Int) % W = k := by rw [Int.mul_comm]; omega
 unfold arList
 rw [List.mem_map]
 refine ⟨d, List.mem_filter.2 ⟨List.mem_range.2 hd, ?_⟩, by rw [e1, e2, e3]⟩
 unfold arOk atB inF
 rw [e1, e2, e3]
 simp only [Bool.and_eq_true, Bool.not_eq_true', decide_eq_true_eq, Bool.and_eq_false_iff, bne_eq_false_iff_eq, beq_eq_false_iff_ne, ne_eq, Int.toNat_natCast]
 refine ⟨⟨?_, ?_⟩, ?_, hx⟩
 · by_cases e : dX d = 0
   · right; intro e'; exact hne ⟨by omega, by omega⟩
   · left; exact e
 · rcases hcn with h | h | h
   · right; simpa using h
   · left; left; omega
   · left; right; omega
 · simp [m0, m1, d0, d1]
theorem mem_getD {L : List Int} {i : Nat} (h : i < L.length) : L.getD i 0 ∈ L := by
 have e : L.getD i 0 = L[i] := by simp [h]
 rw [e]; exact List.getElem_mem h
theorem getD_of_mem {L : List Int} {v : Int} (h : v ∈ L) : ∃ i, i < L.length ∧ L.getD i 0 = v := by
 obtain ⟨i, hi, e⟩ := List.mem_iff_getElem.1 h
 exact ⟨i, hi, by rw [← e]; simp [hi]⟩
end Go.Proofs.Ytpcajacekmidbaa

namespace Go.Proofs.Ytpcajacekmidbaa
open Go.RowKit
set_option linter.unusedVariables false
set_option maxRecDepth 100000
set_option linter.unusedSimpArgs false

theorem grown_setQ (w : World) (g i : Nat) (v : Value) : w.grownBy (w.setCell ⟨g, i, none⟩ v) (some g) := by
 refine ⟨rfl, rfl, rfl, by simp, fun k _ hk => ?_⟩
 exact Below.heap_setCell w ⟨g, i, none⟩ v k (fun e => hk (by simp at e; rw [e]))
def QAt (w : World) (g : Nat) (v : Value) (zs : List Int) : Prop :=
 ∃ (off cap : Nat) (cs : Array Value), v = .slice (some ⟨g, off, none⟩) zs.length cap ∧ w.heap[g]? = some (.cells cs 3 (0, 0)) ∧ zs.length ≤ cap ∧ off + cap ≤ cs.size ∧ cap ≤ maxLen ∧ ∀ j, j < zs.length → cs[off + j]? = some (.int .i64 (zs.getD j 0))
theorem QAt.lt {w : World} {g : Nat} {v : Value} {zs : List Int} (h : QAt w g v zs) : g < w.heap.size := by
 obtain ⟨_, _, _, _, h2, _⟩ := h; exact heap_lt h2
theorem QAt.kept {w w' : World} {g : Nat} {v : Value} {zs : List Int} (h : QAt w g v zs) (hk : ∀ o, w.heap[g]? = some o → w'.heap[g]? = some o) : QAt w' g v zs := by
 obtain ⟨off, cap, cs, h1, h2, h3⟩ := h; exact ⟨off, cap, cs, h1, hk _ h2, h3⟩
theorem QAt.below {w w' : World} {g : Nat} {v : Value} {zs : List Int} (h : QAt w g v zs) (hb : Below w.heap.size w w') : QAt w' g v zs := h.kept fun _ ho => heap_later ho hb
theorem QAt.grown {w w' : World} {g : Nat} {v : Value} {zs : List Int} {row : Option Nat} (h : QAt w g v zs) (hg : w.grownBy w' row) (hr : row ≠ some g) : QAt w' g v zs := h.kept fun _ ho => heap_grown ho hg hr
theorem QAt.one (w : World) (x : Int) : QAt (w.alloc (.cells #[.int .i64 x] 3 (0, 0))) w.heap.size (.slice (some ⟨w.heap.size, 0, none⟩) 1 1) [x] :=
 ⟨0, 1, #[.int .i64 x], rfl, heap_new _ _, Nat.le_refl _, by simp, by decide, fun j hj => by simp at hj; subst hj; rfl⟩
theorem QAt.head {w : World} {g : Nat} {v : Value} {z : Int} {zs : List Int} (h : QAt w g v (z :: zs)) : ∃ off cap, v = .slice (some ⟨g, off, none⟩) (zs.length + 1) (cap + 1) ∧ w.cell? ⟨g, off, none⟩ = some (.int .i64 z) ∧ cap ≤ maxLen ∧ zs.length ≤ cap ∧
 QAt w g (.slice (some ⟨g, off + 1, none⟩) zs.length cap) zs ∧ (zs = [] → QAt w g (.slice (some ⟨g, off, none⟩) 0 0) []) := by
 obtain ⟨off, cap, cs, h1, h2, h3, h4, h5, h6⟩ := h
 simp only [List.length_cons] at h1 h3
 obtain ⟨cap, rfl⟩ : ∃ c, cap = c + 1 := ⟨cap - 1, by omega⟩
 refine ⟨off, cap, h1, ?_, by omega, by omega, ⟨off + 1, cap, cs, rfl, h2, by omega, by omega, by omega, fun j hj => ?_⟩, fun _ => ⟨off, 0, cs, rfl, h2, Nat.le_refl _, by omega, by decide, fun j hj => by simp at hj⟩⟩
 · have := h6 0 (by simp)
   simp only [Nat.add_zero] at this
   simp [World.cell?, h2, this]
 · have := h6 (j + 1) (by simp; omega)
   rw [show off + 1 + j = off + (j + 1) by omega, this]
   rfl
theorem QAt.ofOwn {w : World} {B g cap : Nat} {L : List Int} (h : w.ownsRow B 3 1 (.slice (some ⟨g, 0, none⟩) L.length cap) L.length (L.map (Value.int .i64))) : QAt w g (.slice (some ⟨g, 0, none⟩) L.length cap) L := by
 rcases h.2 with ⟨h1, _⟩ | ⟨g', cap', cs, hv, hg, hh, hn, hm, hs, ht⟩
 · simp at h1
 · simp only [Value.slice.injEq, Option.some.injEq, Addr.mk.injEq] at hv
   obtain ⟨⟨rfl, _⟩, _, rfl⟩ := hv
   refine ⟨0, cap, cs, rfl, hh, hn, by omega, hm, fun j hj => ?_⟩
   have hj' : j < cs.size := by omega
   have e : cs.toList[j]? = (L.map (Value.int .i64))[j]? := by
    rw [← ht, List.getElem?_take_of_lt (by simpa using hj)]
   rw [Nat.zero_add, ← Array.getElem?_toList, e]
   simp [hj]

set_option maxHeartbeats 1000000 in
theorem wpList_push (w : World) {ops : Array Oper} {rest : List Oper} {o : Oper} {a : Act} {Q : Exit → Act → World → Prop} (hgd : o.guard = none) (s x : Operand)
 (ho : o.op = .call { callee := .builtin .append, args := #[s, x], argTypes := #[26, 26] })
 {g : Nat} {v : Value} {zs : List Int} (hs : a.eval s = v) (hq : QAt w g v zs) (ad : Addr) (c : Nat) (z : Int) (hx : a.eval x = .slice (some ad) 1 c) (hc : ∀ j u, [Value.int .i64 z][j]? = some u → w.cell? (ad.add j) = some u) (hlen : zs.length ≤ 1000000)
 (hK : ∀ g' v' w', QAt w' g' v' (zs ++ [z]) → w.grownBy w' (some g) → (g' = g ∨ w.heap.size ≤ g') → wpList Try.prog ops Q rest (a.put o.dst v') w') : wpList Try.prog ops Q (o :: rest) a w := by
 obtain ⟨i0, hi, hz0, hz1, hz2⟩ := info_parts infoInt
 obtain ⟨off, cap, cs, rfl, h2, h3, h4, h5, h6⟩ := hq
 refine wpList_append_arg w hgd s x 26 ho 3 i0 (.int .i64 0) 1 8 Try.underlying26 hi hz0 hz1 hz2 rfl (by decide) g off zs.length cap (zs.map (Value.int .i64)) hs (by simp) (fun j u hj => ?_) ad 1 c [.int .i64 z] hx rfl hc (one_int z) (fun hr j hj => ?_) (by unfold maxLen; omega) (by omega) (fun hr => ?_) (fun hr v' w' hown hgrow => ?_)
 · have hjl : j < zs.length := by
    have := (List.getElem?_eq_some_iff.1 hj).1; simpa using this
   have := h6 j hjl
   have e : u = .int .i64 (zs.getD j 0) := by
    have e2 : (zs.map (Value.int .i64))[j]? = some (.int .i64 (zs.getD j 0)) := by simp [hjl]
    rw [e2] at hj; exact (Option.some.inj hj).symm
   rw [e]
   simp [World.cell?, h2, this]
 · simp at hj
   subst hj
   have hsz : off + zs.length < cs.size := by omega
   constructor
   · simp [World.cell?, h2, hsz]
   · simp [World.frozen?, h2]
 · have e : w.setCells g (off + zs.length * 1) [.int .i64 z] = w.setCell ⟨g, off + zs.length, none⟩ (.int .i64 z) := by simp [World.setCells]
   rw [e]
   refine hK g _ _ ⟨off, cap, cs.setIfInBounds (off + zs.length) (.int .i64 z), by simp, block_setCell h2 _, by simp; omega, by simpa using h4, h5, fun j hj => ?_⟩ (grown_setQ _ _ _ _) (Or.inl rfl)
   by_cases ej : j < zs.length
   · rw [Array.getElem?_setIfInBounds_ne (by omega), h6 j ej]
     simp [List.getD, List.getElem?_append_left ej]
   · have : j = zs.length := by simp at hj; omega
     subst this
     rw [Array.getElem?_setIfInBounds_self_of_lt (by omega)]
     simp [List.getD]
 · have hl : (zs ++ [z]).length = zs.length + 1 := by simp
   have hm : (zs ++ [z]).map (Value.int .i64) = zs.map (Value.int .i64) ++ [.int .i64 z] := by simp
   rw [← hl, ← hm] at hown
   have hown0 := hown
   rcases hown.2 with ⟨_, h0⟩ | ⟨g', cap', cur, hv, hg, _⟩
   · simp at h0
   · subst hv
     exact hK g' _ _ (QAt.ofOwn hown0) ⟨hgrow.os, hgrow.tape, hgrow.output, hgrow.size, fun k hk _ => hgrow.block k hk (by simp)⟩ (Or.inr hg)
end Go.Proofs.Ytpcajacekmidbaa

namespace Go.Proofs.Ytpcajacekmidbaa
open Go.RowKit
set_option linter.unusedVariables false
set_option maxRecDepth 100000
set_option linter.unusedSimpArgs false

theorem OwnsI.keptUp {w w' : World} {B : Nat} {v : Value} {xs : List Int} {row : Option Nat} (h : OwnsI w B v xs) (hg : w.grownBy w' row) (hr : v.ownBlock = none ∨ v.ownBlock ≠ row) : OwnsI w' B v xs := World.ownsRow.kept h hg hr
theorem grown_trans {a b c : World} {row : Option Nat} (h : a.grownBy b row) (k : b.grownBy c row) : a.grownBy c row :=
 ⟨k.os.trans h.os, k.tape.trans h.tape, k.output.trans h.output, Nat.le_trans h.size k.size, fun i hi hr => (k.block i (Nat.lt_of_lt_of_le hi h.size) hr).trans (h.block i hi hr)⟩
theorem grown_new {a b c : World} {row : Option Nat} {g : Nat} (h : a.grownBy b row) (k : b.grownBy c (some g)) (hg : a.heap.size ≤ g) : a.grownBy c row :=
 ⟨k.os.trans h.os, k.tape.trans h.tape, k.output.trans h.output, Nat.le_trans h.size k.size, fun i hi hr => (k.block i (Nat.lt_of_lt_of_le hi h.size) (by intro e; have := Option.some.inj e; omega)).trans (h.block i hi hr)⟩
theorem grown_low {a b : World} (h : Below a.heap.size a b) (row : Option Nat) : a.grownBy b row :=
 ⟨h.os, h.tape, h.output, h.size, fun k hk _ => h.block k hk⟩
theorem own_two {gm n mcap : Nat} {g : Nat} (h : g ≠ gm) : (Value.slice (some ⟨gm, 0, none⟩) n mcap).ownBlock = none ∨ (Value.slice (some ⟨gm, 0, none⟩) n mcap).ownBlock ≠ some g := Or.inr (by simp [Value.ownBlock]; omega)

structure SpW (W T : Int) (a : Option Addr) (n cap : Nat) (xs : List Bool) (corners : Bool) (gm mcap B first : Nat) (M0 : List Int) (w : World) (D : Nat → Prop) (k : Nat) (v : Value) (g : Nat) (M zs : List Int) (wr : World) : Prop where
 q : QAt wr g v zs
 ne : g ≠ gm
 ge : w.heap.size + 1 ≤ g
 m : OwnsI wr B (.slice (some ⟨gm, 0, none⟩) n mcap) M
 sp : SpI n (fun i => xs.getD i false) (adjW W corners) first M0 M zs D
 le : 2 * unM n M + zs.length ≤ k
 box : wr.heap[w.heap.size]? = some (.cells #[.int .i64 W, .int .i64 T, .slice a n cap] 25 (0, 0))
 gr : w.grownBy wr (some gm)

set_option maxHeartbeats 4000000 in
theorem spreadMark_any (W T : Int) (a : Option Addr) (n cap : Nat) (xs : List Bool) (corners : Bool) (gm mcap B : Nat) (M0 : List Int) (first : Nat) (w w0 : World) (hn : n = xs.length) (hW0 : 1 ≤ W) (hW1 : W ≤ 100) (hT0 : 0 ≤ T) (hT1 : T ≤ 100) (hWT : (n : Int) = W * T)
 (hl : M0.length = n) (hf : first < n) (hs : xs.getD first false = true) (hneg : ∀ j, Conn n (fun i => xs.getD i false) (adjW W corners) first j → M0.getD j 0 < 0)
 (ha : BoolsAt w a xs) (ha0 : BoolsAt w0 a xs) (hB : w0.heap.size ≤ B) (ho : OwnsI w B (.slice (some ⟨gm, 0, none⟩) n mcap) M0) :
 Calls Try.prog 132 #[.agg #[.int .i64 W, .int .i64 T, .slice a n cap], .bool corners, .slice (some ⟨gm, 0, none⟩) n mcap, .int .i64 first] w fun e w' => (∃ v, e = .returned v) ∧ ∃ M', OwnsI w' B (.slice (some ⟨gm, 0, none⟩) n mcap) M' ∧ Spread n (fun i => xs.getD i false) (adjW W corners) first M0 M' ∧ w.grownBy w' (some gm) := by
 have pb := (prod_bd (by omega) hW1 hT0 hT1).2
 have n4 : n ≤ 10000 := by omega
 have HN := Lib.hid hn; clear hn
 have HWT := Lib.hid hWT; clear hWT
 have HA0 := Lib.hid ha0; clear ha0
 have HA := Lib.hid ha; clear ha
 have HNEG := Lib.hid hneg; clear hneg
 have HS := Lib.hid hs; clear hs
 have HL := Lib.hid hl; clear hl
 have lm := ho.lt
 have hc1 := ho.cell (k := first) (by rw [HL.out]; exact hf)
 have hz1 := ho.free first
 have hst := OwnsI.set ho first (first : Int)
 have e1 : (first : Int) < n := by omega
 obtain ⟨x0, hx0⟩ : ∃ x0, x0 = M0.getD first 0 := ⟨_, rfl⟩
 rw [← hx0] at hc1
 clear hx0
 have HO := Lib.hid ho; clear ho
 have HST := Lib.hid hst; clear hst
 go_enter Try.func132, Try.ntmps132
 obtain ⟨wA, hwA⟩ : ∃ wA, wA = ((w.setCell ⟨gm, first, none⟩ (.int .i64 first)).alloc (.cells #[.int .i64 W, .int .i64 T, .slice a n cap] 25)) := ⟨_, rfl⟩
 have zA : wA.heap.size = w.heap.size + 1 := by rw [hwA]; simp
 have MA : OwnsI wA B (.slice (some ⟨gm, 0, none⟩) n mcap) (M0.set first first) := by
  rw [hwA]; exact HST.out.1.alloc _
 have GA : w.grownBy wA (some gm) := by
  rw [hwA]; exact grown_trans HST.out.2 (World.grownBy_alloc _ _ _)
 have BA : wA.heap[w.heap.size]? = some (.cells #[.int .i64 W, .int .i64 T, .slice a n cap] 25 (0, 0)) := by
  rw [hwA]
  have := heap_new (w.setCell ⟨gm, first, none⟩ (.int .i64 first)) (.cells #[.int .i64 W, .int .i64 T, .slice a n cap] 25 (0, 0))
  rwa [World.size_setCell] at this
 have S0 : SpW W T a n cap xs corners gm mcap B first M0 w (fun _ => False) (2 * n + 1) (.slice (some ⟨wA.heap.size, 0, none⟩) 1 1) wA.heap.size (M0.set first first) [(first : Int)] (wA.alloc (.cells #[.int .i64 first] 3 (0, 0))) :=
  ⟨QAt.one wA first, by omega, by omega, MA.alloc _, SpI.start HL.out hf HS.out HNEG.out, by have := unM_le n (M0.set first (first : Int)); simp; omega, heap_later BA (below1 _ _), grown_trans GA (World.grownBy_alloc _ _ _)⟩
 have HS0 := Lib.hid S0; clear S0
 clear MA GA BA HST
 go_wp2
 rw [← hwA]
 go_loopg [8] (2 * n + 1) (fun k v wr => k ≤ 2 * n + 1 ∧ ∃ (g : Nat) (M zs : List Int), SpW W T a n cap xs corners gm mcap B first M0 w (fun _ => False) k v g M zs wr)
 case atStart => exact ⟨Nat.le_refl _, _, _, _, by rw [← zA]; exact HS0.out⟩
 case round =>
  clear HS0
  obtain ⟨hk, g, M, zs, hsp⟩ := hrel
  have SP := Lib.hid hsp; clear hsp
  cases zs with
  | nil =>
    obtain ⟨off, gcap, cs, rfl, -⟩ := SP.out.q
    go_wp2
    go_end0
    have h := SP.out
    exact ⟨⟨_, rfl⟩, M, h.m, h.sp.done HNEG.out, h.gr⟩
  | cons z zs =>
    obtain ⟨off, gcap, rfl, hc, hg1, hg2, hq1, hq2⟩ := SP.out.q.head
    obtain ⟨cl, rfl, hcl, hcc, hpop⟩ := SP.out.sp.pop
    obtain ⟨c0, c1, c2⟩ := cells3 SP.out.box
    have e2 : (0 : Int) < (zs.length + 1 : Nat) := by omega
    have HQ1 := Lib.hid hq1; clear hq1
    have HQ2 := Lib.hid hq2; clear hq2
    have HP := Lib.hid hpop; clear hpop
    have HCC := Lib.hid hcc; clear hcc
    have lg := SP.out.q.lt
    have zr := heap_lt SP.out.box
    have hK : 2 * unM n M + zs.length + 1 ≤ gk := by have := SP.out.le; simp at this; omega
    have hlenz : zs.length ≤ 2 * n + 1 := by omega
    go_upto_region 5 with fail
    go_cut [8] (fun v8 wx => QAt wr g v8 zs ∧ wx = wr)
    case first =>
     cases gcap with
     | zero =>
       have hz : zs = [] := List.eq_nil_of_length_eq_zero (by omega)
       subst hz
       go_wp2
       go_meet
       exact ⟨HQ2.out (by first | rfl | trivial), rfl⟩
     | succ gcap =>
       go_wp2
       go_meet
       exact ⟨HQ1.out, rfl⟩
    case rest =>
    obtain ⟨hq, hw⟩ := hcut
    rw [hw]
    clear hw
    have HQ := Lib.hid hq; clear hq HQ1 HQ2 hc hg1 hg2
    have ha1 : BoolsAt wr a xs := BoolsAt.grown HA.out HA0.out SP.out.gr (fun k e => by have := Option.some.inj e; omega)
    go_wp2_with fail
    refine (cellsAround_any W T a n cap xs cl corners _ HN.out hW0 hW1 hT0 hT1 HWT.out hcl ha1).mono ?_; rintro e w3 ⟨vl, rfl, hol, hb3⟩
    obtain ⟨LS, hLS⟩ : ∃ LS, arList W T xs ((cl : Int) % W) ((cl : Int) / W) corners 9 = LS := ⟨_, rfl⟩
    rw [hLS] at hol
    have HLS := Lib.hid hLS; clear hLS
    have hl9 : LS.length ≤ 9 := by rw [← HLS.out]; exact arList_len _ _ _ _ _ _ _
    have S3 : Hid (∃ (g' : Nat) (M' zs' : List Int), QAt w3 g' _ zs' ∧ g' ≠ gm ∧ w.heap.size + 1 ≤ g' ∧ (vl.ownBlock = none ∨ vl.ownBlock ≠ some g') ∧ OwnsI w3 wr.heap.size vl LS ∧ OwnsI w3 B (.slice (some ⟨gm, 0, none⟩) n mcap) M' ∧ SpI n (fun i => xs.getD i false) (adjW W corners) first M0 M' zs' (fun j => j = cl) ∧ (∀ q, q < 0 → 0 ≤ M'.getD (LS.getD q 0).toNat 0) ∧ 2 * unM n M' + zs'.length + 1 ≤ gk ∧ w3.heap[w.heap.size]? = some (.cells #[.int .i64 W, .int .i64 T, .slice a n cap] 25 (0, 0)) ∧ w.grownBy w3 (some gm)) :=
     ⟨g, M, zs, HQ.out.below hb3, SP.out.ne, SP.out.ge, (by
      cases hv : vl.ownBlock with
      | none => exact Or.inl rfl
      | some k => right; intro e; have := OwnsI.ownAt hol (Nat.le_refl _) k hv; have := Option.some.inj e; omega), hol, SP.out.m.below hb3, HP.out, fun q hq => absurd hq (Nat.not_lt_zero q), hK, heap_later SP.out.box hb3, grown_trans SP.out.gr (grown_low hb3 _)⟩
    obtain ⟨al, capl, rfl⟩ := hol.form2
    clear hol hb3 ha1 HQ c0 c1 c2 HP hlenz hK
    have hcl' := HCC
    clear SP lg
    go_wp2
    go_loopw [8, 31] (fun v i wi => ∃ (p g' : Nat) (M' zs' : List Int), p ≤ LS.length ∧ i = .int .i64 p ∧ QAt wi g' v zs' ∧ g' ≠ gm ∧ w.heap.size + 1 ≤ g' ∧ ((Value.slice al LS.length capl).ownBlock = none ∨ (Value.slice al LS.length capl).ownBlock ≠ some g') ∧ OwnsI wi wr.heap.size (.slice al LS.length capl) LS ∧ OwnsI wi B (.slice (some ⟨gm, 0, none⟩) n mcap) M' ∧ SpI n (fun i => xs.getD i false) (adjW W corners) first M0 M' zs' (fun j => j = cl) ∧ (∀ q, q < p → 0 ≤ M'.getD (LS.getD q 0).toNat 0) ∧ 2 * unM n M' + zs'.length + 1 ≤ gk ∧ wi.heap[w.heap.size]? = some (.cells #[.int .i64 W, .int .i64 T, .slice a n cap] 25 (0, 0)) ∧ w.grownBy wi (some gm)) (fun _ i _ => LS.length - (intOf i).toNat)
    case atStart =>
     obtain ⟨g', M', zs', h⟩ := S3.out
     exact ⟨0, g', M', zs', Nat.zero_le _, rfl, h⟩
    case round =>
     clear S3
     obtain ⟨p, g', M', zs', hp, rfl, hq, hne, hge, hsep, hls, hmk, hsi, hpos, hle, hbx, hgr⟩ := hrel
     rename World => wi
     have HQ := Lib.hid hq; clear hq
     have HLO := Lib.hid hls; clear hls
     have HMK := Lib.hid hmk; clear hmk
     have HSI := Lib.hid hsi; clear hsi
     have HPO := Lib.hid hpos; clear hpos
     have HGR := Lib.hid hgr; clear hgr
     have HSEP := Lib.hid hsep; clear hsep
     by_cases hlt : p < LS.length
     · obtain ⟨u, hu, hun, hux, hua⟩ := ar_mem hW0 (by rw [← HN.out]; exact HWT.out) (by rw [HLS.out]; exact mem_getD hlt)
       rw [← HN.out] at hun
       obtain ⟨lb, lo, rfl, hcx⟩ := (OwnsI.at HLO.out) p hlt
       rw [hu] at hcx
       have hcm := HMK.out.cell (k := u) (by rw [HSI.out.len]; exact hun)
       have hfz := HMK.out.free u
       obtain ⟨mu, hmu⟩ : ∃ mu, mu = M'.getD u 0 := ⟨_, rfl⟩
       rw [← hmu] at hcm
       have hst := OwnsI.set HMK.out u (first : Int)
       have HU := Lib.hid hu; clear hu
       have hcu : Conn n (fun i => xs.getD i false) (adjW W corners) first u := .step HCC.out hua hun hux
       have HCU := Lib.hid hcu; clear hcu
       have e5 : (p : Int) < LS.length := by omega
       have e6 : (u : Int) < n := by omega
       have e7 : (0 : Int) ≤ p := by omega
       have e8 : (0 : Int) ≤ u := by omega
       have HST := Lib.hid hst; clear hst
       have lq := HQ.out.lt
       have lmk := HMK.out.lt
       by_cases hneg2 : mu < 0
       · have HMN : Hid (M'.getD u 0 < 0) := by show _ < _; rw [← hmu]; exact hneg2
         clear hmu
         obtain ⟨wS, hwS⟩ : ∃ wS, wS = wi.setCell ⟨gm, u, none⟩ (.int .i64 first) := ⟨_, rfl⟩
         have ZS : Hid (wS.heap.size = wi.heap.size) := by show _ = _; rw [hwS]; simp
         rw [← hwS] at HST
         have bS : wS.heap[w.heap.size]? = some (.cells #[.int .i64 W, .int .i64 T, .slice a n cap] 25 (0, 0)) := by rw [hwS]; exact heap_set_other hbx (by simp; omega) _
         have QS := Lib.hid (HQ.out.grown HST.out.2 (by intro e; have := Option.some.inj e; omega))
         have LSS : Hid (OwnsI wS wr.heap.size (.slice (some ⟨lb, lo, none⟩) LS.length capl) LS) := HLO.out.keptUp HST.out.2 (by
          right; intro e
          have h1 := OwnsI.ownAt HLO.out (Nat.le_refl _) gm e
          omega)
         have GS := Lib.hid (grown_trans HGR.out HST.out.2)
         have hzl : zs'.length ≤ 1000000 := by omega
         go_upto_region 11 with fail
         rw [← hwS]
         clear hwS hcm hcx hfz
         go_wp2_with (at_builtin; refine wpList_push _ rfl _ _ rfl rfl (QS.out.below (below1 wS (.cells #[.int .i64 u] 3 (0, 0)))) ⟨wS.heap.size, 0, none⟩ 1 u rfl (new_int wS _) hzl ?_; intro g2 v2 w2 hq2 hgrow hor; have hq2' := Lib.hid hq2; clear hq2)
         have zS := ZS.out
         have b2 := heap_grown (heap_later bS (below1 wS (.cells #[.int .i64 u] 3 (0, 0)))) hgrow (by intro e; have := Option.some.inj e; omega)
         have M2 := Lib.hid ((HST.out.1.alloc (.cells #[.int .i64 u] 3 (0, 0))).keptUp hgrow (own_two hne))
         have L2 := Lib.hid ((LSS.out.alloc (.cells #[.int .i64 u] 3 (0, 0))).keptUp hgrow HSEP.out)
         have G2 := Lib.hid (grown_new (grown_trans GS.out (World.grownBy_alloc wS (.cells #[.int .i64 u] 3 (0, 0)) _)) hgrow (by omega))
         have l2 : ∀ k, (Value.slice (some ⟨lb, lo, none⟩) LS.length capl).ownBlock = some k → k < wS.heap.size := fun k e => OwnsI.blkLt LSS.out k e
         have hun2 := unM_set (first := first) hun HSI.out.len HMN.out
         go_roundw
         case rel =>
          refine ⟨p + 1, g2, M'.set u (first : Int), zs' ++ [(u : Int)], by omega, by go_num, hq2'.out, ?_, ?_, ?_, L2.out, M2.out, HSI.out.mark hun HCU.out HMN.out, fun q hq => ?_, ?_, b2, G2.out⟩
          · rcases hor with e | e
            · rw [e]; exact hne
            · simp at e; omega
          · rcases hor with e | e
            · rw [e]; exact hge
            · simp at e; omega
          · rcases hor with e | e
            · rw [e]; exact HSEP.out
            · right; intro e'; have := l2 _ e'; simp at e; omega
          · rw [getD_set1]
            split
            · omega
            · by_cases e : q = p
              · subst e; rename_i hno; exfalso; apply hno; rw [HU.out]; exact ⟨by simp, by rw [HSI.out.len]; exact hun⟩
              · exact HPO.out q (by omega)
          · simp; omega
         case measure => simp [intOf]; omega
       · have HMN : Hid (0 ≤ M'.getD u 0) := by show 0 ≤ _; rw [← hmu]; omega
         clear hmu HST
         go_wp2
         go_roundw
         case rel =>
          refine ⟨p + 1, g', M', zs', by omega, by go_num, HQ.out, hne, hge, HSEP.out, HLO.out, HMK.out, HSI.out, fun q hq => ?_, hle, hbx, HGR.out⟩
          by_cases e : q = p
          · subst e; rw [HU.out]; simpa using HMN.out
          · exact HPO.out q (by omega)
         case measure => simp [intOf]; omega
     · obtain rfl : p = LS.length := by omega
       have hall : AllM n (fun i => xs.getD i false) (adjW W corners) M' cl := by
        intro j h1 h2 h3
        have hm := ar_all (c := cl) (T := T) hW0 hT0 (by rw [← HN.out]; exact HWT.out) (by rw [← HN.out]; exact h2) h3 h1
        rw [HLS.out] at hm
        obtain ⟨q, hq, e⟩ := getD_of_mem hm
        have := HPO.out q hq
        rw [e] at this
        simpa using this
       have HSC := Lib.hid (HSI.out.closed hall)
       go_wp2
       go_roundg (gk - 1)
       case measure => omega
       case rel => exact ⟨by omega, g', M', zs', HQ.out, hne, hge, HMK.out, HSC.out, by omega, hbx, HGR.out⟩
end Go.Proofs.Ytpcajacekmidbaa

namespace Go.Proofs.Ytpcajacekmidbaa
open Go.RowKit
set_option linter.unusedVariables false
set_option maxRecDepth 100000
set_option linter.unusedSimpArgs false

set_option maxHeartbeats 1000000 in
theorem mul64_one (n : Nat) (hn : n ≤ 10000) (w : World) :
 Calls Try.prog 188 #[.int .u64 1, .int .u64 n] w fun e w' => e = .returned (.tuple #[.int .u64 0, .int .u64 n]) ∧ w' = w := by
 have e1 : bits .and .u64 (1 : Int) 4294967295 = 1 := by decide
 have e2 : bits .and .u64 (n : Int) 4294967295 = n := by
  have h := bits_and_u64_nat n 4294967295 (by omega) (by omega)
  have e : n &&& 4294967295 = n := by
   rw [show (4294967295 : Nat) = 2 ^ 32 - 1 from rfl, Nat.and_two_pow_sub_one_eq_mod]; omega
  rw [e] at h; exact h
 have e3 : (n : Int) / 4294967296 = 0 := by omega
 go_enter Try.func188, Try.ntmps188
 go_wp2
 go_ret2
 have e4 : IntKind.u64.wrap (IntKind.u64.wrap (bits .and .u64 0 4294967295) / 4294967296) = 0 := by decide
 have e5 : IntKind.u64.wrap (n : Int) = n := by rw [IntKind.wrap_u64]; omega
 exact ⟨by simp [*], rfl⟩

theorem mul_one (n : Nat) (hn : n ≤ 10000) (w : World) :
 Calls Try.prog 169 #[.int .u64 1, .int .u64 n] w fun e w' => e = .returned (.tuple #[.int .u64 0, .int .u64 n]) ∧ w' = w := by
 go_enter Try.func169, Try.ntmps169
 go_wp2_with (go_at_call 188; refine (mul64_one n hn _).mono ?_; rintro e w1 ⟨rfl, rfl⟩)
 go_ret2
 exact ⟨rfl, rfl⟩

def RepAt (w : World) (g n k : Nat) (z : Int) : Prop := ∃ cur : List Value, w.heap[g]? = some (.cells cur.toArray 3 (0, 0)) ∧ cur.length = n ∧ k ≤ n ∧ ∀ j, j < k → cur[j]? = some (.int .i64 z)
theorem RepAt.owns {w : World} {B g n : Nat} {z : Int} (h : RepAt w g n n z) (hB : B ≤ g) (hm : n ≤ maxLen) : OwnsI w B (.slice (some ⟨g, 0, none⟩) n n) (List.replicate n z) := by
 obtain ⟨cur, h1, h2, _, h3⟩ := h
 unfold OwnsI World.ownsRow
 have e : cur = (List.replicate n z).map (Value.int .i64) := by
  apply List.ext_getElem?
  intro j
  by_cases hj : j < n
  · rw [h3 j hj]; simp [hj]
  · rw [List.getElem?_eq_none (by omega), List.getElem?_eq_none (by simp; omega)]
 refine ⟨by simp, Or.inr ⟨g, n, cur.toArray, by simp, hB, h1, by simp, hm, by simp [h2], ?_⟩⟩
 rw [← e]; simp [h2, List.take_of_length_le]
theorem RepAt.splice {w : World} {g n k m : Nat} {z : Int} {cur : List Value} (hk : k + m ≤ n) (hl : cur.length = n) (hc : ∀ j, j < k → cur[j]? = some (.int .i64 z))
 (h : w.heap[g]? = some (.cells (Go.splice cur k (List.replicate m (.int .i64 z))).toArray 3 (0, 0))) : RepAt w g n (k + m) z := by
 refine ⟨_, h, by rw [length_splice _ _ _ (by simp; omega), hl], hk, fun j hj => ?_⟩
 unfold Go.splice
 by_cases h1 : j < k
 · rw [List.getElem?_append_left (by simp; omega), List.getElem?_take_of_lt h1, hc j h1]
 · rw [List.getElem?_append_right (by simp; omega), List.getElem?_append_left (by simp; omega)]
   simp only [List.length_take, hl, List.getElem?_replicate]
   rw [if_pos (by omega)]

theorem own_block {w : World} {B g n : Nat} {xs : List Value} (h : w.ownsRow B 3 1 (.slice (some ⟨g, 0, none⟩) n n) n xs) : ∃ cur : List Value, w.heap[g]? = some (.cells cur.toArray 3 (0, 0)) ∧ cur.length = n := by
 rcases h.2 with ⟨h1, _⟩ | ⟨g', cap', cs, hv, hg, hh, hn, hm, hs, ht⟩
 · simp at h1
 · simp only [Value.slice.injEq, Option.some.injEq, Addr.mk.injEq] at hv
   obtain ⟨⟨rfl, _⟩, _, rfl⟩ := hv
   exact ⟨cs.toList, by simpa using hh, by simpa using hs⟩
theorem rep_one (v : Value) (h : v.oneCell' = true) (m : Nat) : ∀ u ∈ List.replicate m v, u.oneCell' = true := fun u hu => by rw [List.eq_of_mem_replicate hu]; exact h
theorem rep_at {w : World} {ad : Addr} {m : Nat} {v : Value} (h : ∀ j, j < m → w.cell? (ad.add j) = some v) : ∀ j u, (List.replicate m v)[j]? = some u → w.cell? (ad.add j) = some u := by
 intro j u hj
 rw [List.getElem?_replicate] at hj
 split at hj
 · rename_i hl; rw [h j hl]; exact hj
 · cases hj
theorem add0 (b off j : Nat) : (⟨b, off, none⟩ : Addr).add j = ⟨b, off + j, none⟩ := by unfold Addr.add; split <;> simp_all
theorem RepAt.cellAt {w : World} {g n k : Nat} {z : Int} (h : RepAt w g n k z) {j : Nat} (hj : j < k) : w.cell? ⟨g, j, none⟩ = some (.int .i64 z) := by
 obtain ⟨cur, h1, h2, _, h3⟩ := h
 have := h3 j hj
 simp [World.cell?, h1, this]

set_option maxHeartbeats 2000000 in
theorem repeat_any (b off c : Nat) (z : Int) (n : Nat) (hn : n ≤ 10000) (w : World) (hz : w.cell? ⟨b, off, none⟩ = some (.int .i64 z)) :
 Calls Try.prog 131 #[.slice (some ⟨b, off, none⟩) 1 c, .int .i64 n] w fun e w' => ∃ g, e = .returned (.slice (some ⟨g, 0, none⟩) n n) ∧ OwnsI w' w.heap.size (.slice (some ⟨g, 0, none⟩) n n) (List.replicate n z) ∧ Below w.heap.size w w' := by
 obtain ⟨i0, hi, hz0, hz1, hz2⟩ := info_parts infoInt
 have hsz : Hid ((Try.prog.info? 3).map (·.size) = some 1) := by show _ = _; rw [hi]; simp [hz1]
 have hbl : b < w.heap.size := by
  rcases Nat.lt_or_ge b w.heap.size with h | h
  · exact h
  · simp [World.cell?, Array.getElem?_eq_none h] at hz
 have HZ := Lib.hid hz; clear hz
 have e0 : ¬ ((n : Int) < 0) := by omega
 have e1 : IntKind.u64.wrap (n : Int) = n := by rw [IntKind.wrap_u64]; omega
 have e2 : ¬ ((9223372036854775807 : Int) < n) := by omega
 obtain ⟨m0, hm0⟩ : ∃ m0, m0 = Nat.min 1 n := ⟨_, rfl⟩
 have hm1 : m0 ≤ n ∧ m0 ≤ 1 ∧ (0 < n → 1 ≤ m0) := by rw [hm0]; exact ⟨Nat.min_le_right _ _, Nat.min_le_left _ _, fun h => by show 1 ≤ min 1 n; omega⟩
 have HM := Lib.hid hm0; clear hm0
 have HM1 := Lib.hid hm1; clear hm1
 have HONE : Hid (∀ w1, Below w.heap.size w w1 → ∀ j, j < m0 → w1.cell? ((⟨b, off, none⟩ : Addr).add j) = some (.int .i64 z)) := by
  intro w1 hb j hj
  have h1 := HM1.out
  have : j = 0 := by omega
  subst this
  rw [add0, (bcell hb).1 _ _ hbl]; exact HZ.out
 go_enter Try.func131, Try.ntmps131
 go_wp2_with first
  | (go_at_call 169; refine (mul_one n hn _).mono ?_; rintro e w1 ⟨rfl, hw⟩; rw [hw]; clear hw)
  | (at_make; refine wpList_make_full _ rfl _ _ 26 rfl w.heap.size 3 i0 (.int .i64 0) 1 Try.underlying26 hi hz0 hz1 _ _ _ _ n rfl rfl rfl rfl (by rw [hz2]; omega) (by unfold maxLen; omega) (by simp) ?_; intro w1 hown hgrow; have hb := grown_below hgrow; obtain ⟨cur, hcur, hlc⟩ := own_block hown; have HC := Lib.hid hcur; have HLC := Lib.hid hlc; clear hown hcur hlc)
  | (refine wpList_copy_splice rfl _ _ _ _ rfl 3 Try.underlying26 hsz.out _ _ _ _ _ _ rfl rfl w.heap.size 0 cur 3 HC.out (List.replicate m0 (.int .i64 z)) (by rw [List.length_replicate]; exact HM.out) (fun hp => ⟨rfl, _, rfl, rep_at (HONE.out _ hb)⟩) (by rw [List.length_replicate, HLC.out]; have h1 := HM1.out; omega) (rep_one _ rfl _) w.heap.size w hb (Nat.le_refl _) ?_; intro w2 HG2 hB2)
  | fail
 have hlr : (List.replicate m0 (Value.int .i64 z)).length = m0 := List.length_replicate
 have R0 : Hid (RepAt w2 w.heap.size n m0 z) := by
  have h1 := HM1.out
  have := RepAt.splice (k := 0) (m := m0) (by omega) HLC.out (fun j hj => absurd hj (Nat.not_lt_zero j)) HG2.out
  rw [Nat.zero_add] at this; exact this
 clear HG2 HC HLC
 go_loopw [8] (fun v8 wr => ∃ k : Nat, v8 = .int .i64 k ∧ (0 < n → 1 ≤ k) ∧ RepAt wr w.heap.size n k z ∧ Below w.heap.size w wr) (fun v8 _ => n - (intOf v8).toNat)
 case atStart => exact ⟨m0, by simp [go_sem], HM1.out.2.2, R0.out, hB2⟩
 case round =>
  clear R0 hB2 HM HM1 hlr
  obtain ⟨k, rfl, hk1, hra, hbl2⟩ := hrel
  rename World => wr
  have hkn : k ≤ n := by obtain ⟨_, _, _, h, _⟩ := hra; exact h
  have HR := Lib.hid hra; clear hra
  have HB := Lib.hid hbl2; clear hbl2
  by_cases hlt : k < n
  · obtain ⟨cur2, hc1, hc2, _, hc4⟩ := HR.out
    have HC1 := Lib.hid hc1; clear hc1
    have HC2 := Lib.hid hc2; clear hc2
    have HC4 := Lib.hid hc4; clear hc4
    obtain ⟨m, hm⟩ : ∃ m, m = Nat.min k (n - k) := ⟨_, rfl⟩
    have hm1 : Hid (m ≤ k ∧ k + m ≤ n ∧ 1 ≤ m) := by
     have : m = min k (n - k) := hm
     refine ⟨?_, ?_, ?_⟩ <;> omega
    have HM := Lib.hid hm; clear hm
    have hk0 : ((k : Int)).toNat = k := by omega
    have hkc : (k : Int) < n := by omega
    have hk2 : (0 : Int) ≤ k := by omega
    have hk3 : (k : Int) ≤ n := by omega
    have hnk : ¬ n = k := by omega
    have s1 : Hid ((List.replicate m (Value.int .i64 z)).length = Nat.min k (n - k)) := by show _ = _; rw [List.length_replicate]; exact HM.out
    have s2 : Hid (0 < (List.replicate m (Value.int .i64 z)).length → some (⟨w.heap.size, k, none⟩ : Addr) = some ⟨w.heap.size, k, none⟩ ∧ ∃ ad, some (⟨w.heap.size, 0, none⟩ : Addr) = some ad ∧ ∀ j v, (List.replicate m (Value.int .i64 z))[j]? = some v → wr.drew.cell? (ad.add j) = some v) :=
     fun _ => ⟨rfl, _, rfl, rep_at fun j hj => by rw [add0, Nat.zero_add]; exact RepAt.cellAt (w := wr.drew) HR.out (by have := hm1.out; omega)⟩
    have s3 : Hid (k + (List.replicate m (Value.int .i64 z)).length ≤ cur2.length) := by show _ ≤ _; rw [List.length_replicate, HC2.out]; exact hm1.out.2.1
    have hlm : (List.replicate m (Value.int .i64 z)).length = m := List.length_replicate
    go_upto_region 9 with fail
    go_region_law (refine step_copy_splice rfl (.tmp 41) (.tmp 44) 26 26 rfl 3 Try.underlying26 hsz.out (some ⟨w.heap.size, k, none⟩) (some ⟨w.heap.size, 0, none⟩) (n - k) (n - k) k n (by simp [Act.eval, Act.put]) (by simp [Act.eval, Act.put]) w.heap.size k cur2 3 HC1.out (List.replicate m (.int .i64 z)) s1.out s2.out s3.out (rep_one _ rfl _) w.heap.size w HB.out.drew (Nat.le_refl _) ?_; intro w4 hg4 hb4)
    have hra := Lib.hid (RepAt.splice hm1.out.2.1 HC2.out HC4.out hg4.out)
    have hm2 := hm1.out
    clear hg4 s1 s2 s3 HC1 HC2 HC4 HR
    have hwr : IntKind.i64.wrap ((k : Int) + (m : Int)) = (k : Int) + (m : Int) := by rw [IntKind.wrap_i64]; omega
    have hnm : IntKind.i64.wrap ((k : Int) + (m : Int)) = ((k + m : Nat) : Int) := by rw [hwr]; omega
    rw [hnm]
    clear hnm hwr
    go_wp2_with fail
    simp [go_sem]
    exact ⟨⟨k + m, by omega, fun h => by omega, hra.out, hb4⟩, by simp only [intOf]; omega⟩
  · obtain rfl : k = n := by omega
    go_wp2
    go_ret
    exact ⟨_, rfl, HR.out.owns (Nat.le_refl _) (by unfold maxLen; omega), HB.out⟩
end Go.Proofs.Ytpcajacekmidbaa

namespace Go.Proofs.Ytpcajacekmidbaa
open Go.RowKit
set_option linter.unusedVariables false
set_option maxRecDepth 100000
set_option linter.unusedSimpArgs false

set_option maxHeartbeats 400000 in
theorem marksOf_any (W T : Int) (a : Option Addr) (n cap : Nat) (xs : List Bool) (corners : Bool) (w : World) (hn : n = xs.length) (hW0 : 1 ≤ W) (hW1 : W ≤ 100) (hT0 : 0 ≤ T) (hT1 : T ≤ 100) (hWT : (n : Int) = W * T) (ha : BoolsAt w a xs) :
 Calls Try.prog 83 #[.agg #[.int .i64 W, .int .i64 T, .slice a n cap], .bool corners] w fun e w' => ∃ g M, e = .returned (.slice (some ⟨g, 0, none⟩) n n) ∧ M.length = n ∧ OwnsI w' w.heap.size (.slice (some ⟨g, 0, none⟩) n n) M ∧ Marks n (fun i => xs.getD i false) (adjW W corners) M ∧ Below w.heap.size w w' := by
 have pb := (prod_bd (by omega) hW1 hT0 hT1).2
 have n4 : n ≤ 10000 := by omega
 have HN := Lib.hid hn; clear hn
 have HWT := Lib.hid hWT; clear hWT
 have HA := Lib.hid ha; clear ha
 have hz : ((w.alloc (.cells #[.int .i64 W, .int .i64 T, .slice a n cap] 25)).alloc (.cells #[.int .i64 (-1)] 3)).cell? ⟨w.heap.size + 1, 0, none⟩ = some (.int .i64 (-1)) := by
  have h := new_int (w.alloc (.cells #[.int .i64 W, .int .i64 T, .slice a n cap] 25)) (-1) 0 _ rfl
  rw [add0] at h
  simp at h ⊢
 have HZ := Lib.hid hz; clear hz
 go_enter Try.func83, Try.ntmps83
 go_wp2_with (go_at_call 131; refine (repeat_any (w.heap.size + 1) 0 1 (-1) n n4 _ HZ.out).mono ?_; rintro e w1 ⟨g, rfl, ho, hb⟩; have hbx := heap_later (heap_later (heap_new w (.cells #[.int .i64 W, .int .i64 T, .slice a n cap] 25 (0, 0))) (below1 _ _)) hb; have hb2 := below_seq (below2 _ _ _) hb; obtain ⟨c0, c1, c2⟩ := cells3 hbx; have hgb := (World.ownsRow.lt ho g rfl).1; have HO := Lib.hid (ho.lower (B' := w.heap.size) (by simp; omega)); clear ho hb)
 have hgb2 : w.heap.size + 2 ≤ g := by simp at hgb; omega
 clear hgb
 have HBX := Lib.hid hbx; clear hbx
 have HB2 := Lib.hid hb2; clear hb2
 clear c0 c1 c2 HZ
 go_loopw [16] (fun i wr => ∃ (k : Nat) (M : List Int), i = .int .i64 k ∧ k ≤ n ∧ OwnsI wr w.heap.size (.slice (some ⟨g, 0, none⟩) n n) M ∧ MkI n (fun i => xs.getD i false) (adjW W corners) k M ∧ wr.heap[w.heap.size]? = some (.cells #[.int .i64 W, .int .i64 T, .slice a n cap] 25 (0, 0)) ∧ Below w.heap.size w wr) (fun i _ => n - (intOf i).toNat)
 case atStart => exact ⟨0, _, rfl, Nat.zero_le _, HO.out, MkI.start, HBX.out, HB2.out⟩
 case round =>
  clear HBX HB2 HO
  obtain ⟨k, M, rfl, hk, hom, hmk, hbx, hbl⟩ := hrel
  rename World => wr
  have HOM := Lib.hid hom; clear hom
  have HMK := Lib.hid hmk; clear hmk
  have HBL := Lib.hid hbl; clear hbl
  obtain ⟨c0, c1, c2⟩ := cells3 hbx
  have HBX := Lib.hid hbx; clear hbx
  have lg := HOM.out.lt
  by_cases hlt : k < n
  · obtain ⟨ab, ao, rfl, hcx⟩ := (HA.out.below HBL.out) k (by rw [← HN.out]; exact hlt)
    have hcm := HOM.out.cell (k := k) (by rw [HMK.out.len]; exact hlt)
    obtain ⟨mu, hmu⟩ : ∃ mu, mu = M.getD k 0 := ⟨_, rfl⟩
    rw [← hmu] at hcm
    obtain ⟨xk, hxk⟩ : ∃ xk, xk = xs.getD k false := ⟨_, rfl⟩
    rw [← hxk] at hcx
    have HMU := Lib.hid hmu; clear hmu
    have HXK := Lib.hid hxk; clear hxk
    have e1 : (k : Int) < n := by omega
    have e2 : (0 : Int) ≤ k := by omega
    have e3 : ((k : Int)).toNat = k := by omega
    cases xk
    · go_wp2
      go_roundw
      case rel => exact ⟨k + 1, M, by go_num, by omega, HOM.out, HMK.out.skip (adjW_symm W corners) (Or.inl HXK.out.symm), HBX.out, HBL.out⟩
      case measure => simp [intOf]; omega
    · by_cases hm : mu < 0
      · have hmd : decide (mu < 0) = true := decide_eq_true hm
        have HNEG : Hid (M.getD k 0 < 0) := by show _ < _; rw [← HMU.out]; exact hm
        go_wp2_with (go_at_call 132; refine (spreadMark_any W T (some ⟨ab, ao, none⟩) n cap xs corners g n w.heap.size M k wr w HN.out hW0 hW1 hT0 hT1 HWT.out HMK.out.len hlt HXK.out.symm (HMK.out.neg (adjW_symm W corners) hlt HXK.out.symm HNEG.out) (HA.out.below HBL.out) HA.out (Nat.le_refl _) HOM.out).mono ?_; rintro e w3 ⟨⟨v, rfl⟩, M', ho3, hsp, hg3⟩; have HO3 := Lib.hid ho3; clear ho3; have HSP := Lib.hid hsp; clear hsp; have HG3 := Lib.hid hg3; clear hg3)
        go_roundw
        case rel => exact ⟨k + 1, M', by go_num, by omega, HO3.out, HMK.out.spread (adjW_symm W corners) hlt HXK.out.symm HNEG.out HSP.out, heap_grown HBX.out HG3.out (by intro e; have := Option.some.inj e; omega), below_grown HBL.out HG3.out (Nat.le_refl _) (fun k e => by have := Option.some.inj e; omega)⟩
        case measure => simp [intOf]; omega
      · have hmd : decide (mu < 0) = false := decide_eq_false hm
        go_wp2
        go_roundw
        case rel => exact ⟨k + 1, M, by go_num, by omega, HOM.out, HMK.out.skip (adjW_symm W corners) (Or.inr ⟨hlt, by rw [← HMU.out]; omega⟩), HBX.out, HBL.out⟩
        case measure => simp [intOf]; omega
  · obtain rfl : k = n := by omega
    go_wp2
    go_ret
    exact ⟨g, M, rfl, HMK.out.len, HOM.out, HMK.out.marks, HBL.out⟩
end Go.Proofs.Ytpcajacekmidbaa

namespace Go.Proofs.Ytpcajacekmidbaa
open Go.RowKit
set_option linter.unusedVariables false
set_option maxRecDepth 100000
set_option linter.unusedSimpArgs false

def firstN (p : Nat → Bool) : Nat → Nat → Nat
 | 0, s => s
 | f + 1, s => if p s then s else firstN p f (s + 1)
theorem firstN_spec (p : Nat → Bool) : ∀ f s i, s ≤ i → i < s + f → p i = true → p (firstN p f s) = true ∧ ∀ j, s ≤ j → p j = true → firstN p f s ≤ j
 | 0, s, i, h1, h2, _ => by omega
 | f + 1, s, i, h1, h2, h3 => by
   unfold firstN
   by_cases hp : p s = true
   · rw [if_pos hp]; exact ⟨hp, fun j hj _ => hj⟩
   · rw [if_neg hp]
     have hne : i ≠ s := fun e => hp (by rw [← e]; exact h3)
     obtain ⟨r1, r2⟩ := firstN_spec p f (s + 1) i (by omega) (by omega) h3
     refine ⟨r1, fun j hj hpj => r2 j ?_ hpj⟩
     have : j ≠ s := fun e => hp (by rw [← e]; exact hpj)
     omega
def marksL (N : Nat) (s : Nat → Bool) (adj : Nat → Nat → Bool) : List Int :=
 (List.range N).map fun k => if s k then ((firstN (fun i => reachT N s adj i N k) N 0 : Nat) : Int) else -1
theorem marksL_len (N : Nat) (s : Nat → Bool) (adj : Nat → Nat → Bool) : (marksL N s adj).length = N := by simp [marksL]
theorem marksL_marks (N : Nat) (s : Nat → Bool) (adj : Nat → Nat → Bool) : Marks N s adj (marksL N s adj) := by
 refine ⟨marksL_len _ _ _, fun k hk => ?_⟩
 have e : (marksL N s adj).getD k 0 = if s k then ((firstN (fun i => reachT N s adj i N k) N 0 : Nat) : Int) else -1 := by simp [marksL, hk]
 rw [e]
 refine ⟨fun h => by rw [h]; rfl, fun h => ?_⟩
 rw [h, if_pos rfl]
 obtain ⟨r1, r2⟩ := firstN_spec (fun i => reachT N s adj i N k) N 0 k (Nat.zero_le _) (by omega) (conn_reach (.refl hk h))
 have hlt : firstN (fun i => reachT N s adj i N k) N 0 ≤ k := r2 k (Nat.zero_le _) (conn_reach (.refl hk h))
 exact ⟨_, rfl, reachT_conn (by omega) hk r1, fun i hi => r2 i (Nat.zero_le _) (conn_reach hi)⟩
theorem marksL_eq {N : Nat} {s : Nat → Bool} {adj : Nat → Nat → Bool} {M : List Int} (h : Marks N s adj M) : M = marksL N s adj := marks_unique h (marksL_marks N s adj)

def partsF (W T : Int) (xs : List Bool) : List Int := if rv W T xs then marksL xs.length (fun i => xs.getD i false) (adjW W false) else []
theorem partsF_len (W T : Int) (xs : List Bool) : (partsF W T xs).length ≤ xs.length := by
 unfold partsF; split
 · rw [marksL_len]; exact Nat.le_refl _
 · exact Nat.zero_le _

end Go.Proofs.Ytpcajacekmidbaa
