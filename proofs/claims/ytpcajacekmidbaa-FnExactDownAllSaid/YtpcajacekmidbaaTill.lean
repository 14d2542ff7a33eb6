/- Plain facts on cells that hang together: which are reached, the least one, marks that are unique. Merged of: Reach, Till, Till2, Inv. -/
import Derived.Test.YtpcajacekmidbaaOwn
import Derived.OrdersHeld
namespace Go.Proofs.Ytpcajacekmidbaa
open Go.RowKit
set_option linter.unusedVariables false
set_option maxRecDepth 100000
set_option linter.unusedSimpArgs false

section
variable (N : Nat) (s : Nat → Bool) (adj : Nat → Nat → Bool)
/-- Cells of a set below N hang together. -/
inductive Conn : Nat → Nat → Prop
  | refl {i : Nat} : i < N → s i = true → Conn i i
  | step {i j k : Nat} : Conn i j → adj j k = true → k < N → s k = true → Conn i k

/-- What is reached from i in t steps. -/
def reachT (i : Nat) : Nat → Nat → Bool
  | 0, k => k == i && s k
  | t + 1, k => reachT i t k || (s k && (List.range N).any fun j => reachT i t j && adj j k)

variable {N s adj}
theorem Conn.left {i k : Nat} (h : Conn N s adj i k) : i < N ∧ s i = true := by
  induction h with
  | refl h1 h2 => exact ⟨h1, h2⟩
  | step _ _ _ _ ih => exact ih
theorem Conn.right {i k : Nat} (h : Conn N s adj i k) : k < N ∧ s k = true := by
  cases h with
  | refl h1 h2 => exact ⟨h1, h2⟩
  | step _ _ h1 h2 => exact ⟨h1, h2⟩
theorem Conn.trans {i j k : Nat} (h : Conn N s adj i j) (h2 : Conn N s adj j k) : Conn N s adj i k := by
  induction h2 with
  | refl _ _ => exact h
  | step _ a b c ih => exact .step ih a b c
theorem Conn.symm (ha : ∀ j k, adj j k = adj k j) {i k : Nat} (h : Conn N s adj i k) : Conn N s adj k i := by
  induction h with
  | refl h1 h2 => exact .refl h1 h2
  | step hij a b c ih =>
    have hj := hij.right
    exact Conn.trans (.step (.refl b c) (by rw [ha]; exact a) hj.1 hj.2) ih

theorem reachT_mono (i t k : Nat) (h : reachT N s adj i t k = true) : reachT N s adj i (t + 1) k = true := by
  simp [reachT, h]
theorem reachT_le {i t t' k : Nat} (ht : t ≤ t') (h : reachT N s adj i t k = true) : reachT N s adj i t' k = true := by
  induction ht with
  | refl => exact h
  | step _ ih => exact reachT_mono _ _ _ ih
theorem reachT_conn {i t k : Nat} (hi : i < N) (hk : k < N) (h : reachT N s adj i t k = true) : Conn N s adj i k := by
  induction t generalizing k with
  | zero =>
    simp only [reachT, Bool.and_eq_true, beq_iff_eq] at h
    obtain ⟨rfl, h⟩ := h
    exact .refl hk h
  | succ t ih =>
    simp only [reachT, Bool.or_eq_true, Bool.and_eq_true, List.any_eq_true, List.mem_range] at h
    rcases h with h | ⟨h1, j, hj, h2, h3⟩
    · exact ih hk h
    · exact .step (ih hj h2) h3 hk h1

def sizeT (N : Nat) (f : Nat → Bool) : Nat := (List.range N).countP f
theorem sizeT_le (N : Nat) (f : Nat → Bool) : sizeT N f ≤ N := by
  have := List.countP_le_length (p := f) (l := List.range N)
  rwa [List.length_range] at this
theorem countP_lt {α : Type} (l : List α) (p q : α → Bool) (h : ∀ x ∈ l, p x = true → q x = true) (x : α) (hx : x ∈ l) (h1 : p x = false) (h2 : q x = true) : l.countP p < l.countP q := by
  induction l with
  | nil => cases hx
  | cons a l ih =>
    have hm : l.countP p ≤ l.countP q := List.countP_mono_left fun y hy => h y (List.mem_cons_of_mem _ hy)
    rw [List.countP_cons, List.countP_cons]
    rcases List.mem_cons.1 hx with rfl | hx'
    · rw [h1, h2]; simp; omega
    · have := ih (fun y hy => h y (List.mem_cons_of_mem _ hy)) hx'
      cases hpa : p a
      · simp; omega
      · rw [h a List.mem_cons_self hpa]; omega
theorem countP_eq_of {α : Type} (l : List α) (p q : α → Bool) (h : ∀ x ∈ l, p x = true → q x = true) (e : l.countP p = l.countP q) : ∀ x ∈ l, q x = true → p x = true := by
  intro x hx hq
  cases hp : p x
  · have := countP_lt l p q h x hx hp hq; omega
  · rfl

/-- Either the sets have stopped growing before t, or there are more than t of them. -/
theorem reach_grow {i : Nat} (hi : i < N) (hs : s i = true) (t : Nat) : (∃ t' , t' < t ∧ ∀ k, k < N → reachT N s adj i (t' + 1) k = true → reachT N s adj i t' k = true) ∨ t + 1 ≤ sizeT N (reachT N s adj i t) := by
  induction t with
  | zero =>
    right
    have : 0 < (List.range N).countP (reachT N s adj i 0) := by
      rw [List.countP_pos_iff]
      exact ⟨i, List.mem_range.2 hi, by simp [reachT, hs]⟩
    exact this
  | succ t ih =>
    rcases ih with ⟨t', h1, h2⟩ | h
    · exact Or.inl ⟨t', by omega, h2⟩
    · by_cases hst : ∀ k, k < N → reachT N s adj i (t + 1) k = true → reachT N s adj i t k = true
      · exact Or.inl ⟨t, by omega, hst⟩
      · right
        have : ∃ k, k < N ∧ reachT N s adj i (t + 1) k = true ∧ reachT N s adj i t k = false := by
          apply Classical.byContradiction; intro hc
          exact hst fun k hk h1 => by
            cases hb : reachT N s adj i t k
            · exact absurd ⟨k, hk, h1, hb⟩ hc
            · rfl
        obtain ⟨k, hk, h1, h2⟩ := this
        have := countP_lt (List.range N) (reachT N s adj i t) (reachT N s adj i (t + 1)) (fun x _ => reachT_mono i t x) k (List.mem_range.2 hk) h2 h1
        unfold sizeT at h ⊢; omega
theorem reach_stable {i t : Nat} (h : ∀ k, k < N → reachT N s adj i (t + 1) k = true → reachT N s adj i t k = true) {k : Nat} (hi : reachT N s adj i t i = true) (hc : Conn N s adj i k) : reachT N s adj i t k = true := by
  induction hc with
  | refl _ _ => exact hi
  | step hij a b c ih =>
    rename_i j k'
    refine h _ b ?_
    have hj := hij.right
    simp only [reachT, Bool.or_eq_true, Bool.and_eq_true, List.any_eq_true, List.mem_range]
    exact Or.inr ⟨c, j, hj.1, ih, a⟩
/-- What hangs together is reached in N steps. -/
theorem conn_reach {i k : Nat} (hc : Conn N s adj i k) : reachT N s adj i N k = true := by
  obtain ⟨hi, hs⟩ := hc.left
  rcases reach_grow (adj := adj) hi hs N with ⟨t, h1, h2⟩ | h
  · have h0 : reachT N s adj i t i = true := reachT_le (Nat.zero_le t) (by simp [reachT, hs])
    exact reachT_le (by omega) (reach_stable h2 h0 hc)
  · have := sizeT_le N (reachT N s adj i N); omega

/-- The marks of a field: each cell of the set has the least one that it hangs together with. -/
def Marks (N : Nat) (s : Nat → Bool) (adj : Nat → Nat → Bool) (ys : List Int) : Prop :=
  ys.length = N ∧ ∀ k, k < N → (s k = false → ys.getD k 0 = -1) ∧ (s k = true → ∃ j : Nat, ys.getD k 0 = j ∧ Conn N s adj j k ∧ ∀ i, Conn N s adj i k → j ≤ i)
theorem marks_unique {ys zs : List Int} (h : Marks N s adj ys) (h2 : Marks N s adj zs) : ys = zs := by
  apply List.ext_getElem
  · rw [h.1, h2.1]
  · intro k a b
    have hk : k < N := by rw [← h.1]; exact a
    have e1 : ys.getD k 0 = ys[k] := by simp [a]
    have e2 : zs.getD k 0 = zs[k] := by simp [b]
    rw [← e1, ← e2]
    obtain ⟨p1, p2⟩ := h.2 k hk
    obtain ⟨q1, q2⟩ := h2.2 k hk
    cases hs : s k
    · rw [p1 hs, q1 hs]
    · obtain ⟨j, r1, r2, r3⟩ := p2 hs
      obtain ⟨j', t1, t2, t3⟩ := q2 hs
      have := r3 _ t2
      have := t3 _ r2
      rw [r1, t1]; omega
theorem least_nat {P : Nat → Prop} : ∀ n, P n → ∃ m, P m ∧ ∀ i, P i → m ≤ i := by
  intro n
  induction n using Nat.strongRecOn with
  | ind n ih =>
    intro h
    by_cases hx : ∃ m, m < n ∧ P m
    · obtain ⟨m, hm, hp⟩ := hx; exact ih m hm hp
    · exact ⟨n, h, fun i hi => by
        apply Classical.byContradiction; intro hc
        exact hx ⟨i, by omega, hi⟩⟩
theorem marks_exist (N : Nat) (s : Nat → Bool) (adj : Nat → Nat → Bool) : ∃ ys, Marks N s adj ys := by
  have : ∀ k : Nat, ∃ z : Int, k < N → (s k = false → z = -1) ∧ (s k = true → ∃ j : Nat, z = j ∧ Conn N s adj j k ∧ ∀ i, Conn N s adj i k → j ≤ i) := by
    intro k
    by_cases hk : k < N
    · cases hs : s k
      · exact ⟨-1, fun _ => ⟨fun _ => rfl, fun h => by simp at h⟩⟩
      · obtain ⟨m, h1, h2⟩ := least_nat (P := fun i => Conn N s adj i k) k (.refl hk hs)
        exact ⟨m, fun _ => ⟨fun h => by simp at h, fun _ => ⟨m, rfl, h1, h2⟩⟩⟩
    · exact ⟨0, fun h => absurd h hk⟩
  obtain ⟨f, hf⟩ := Classical.axiomOfChoice this
  refine ⟨(List.range N).map f, by simp, fun k hk => ?_⟩
  have e : ((List.range N).map f).getD k 0 = f k := by simp [hk]
  rw [e]; exact hf k hk
end

end Go.Proofs.Ytpcajacekmidbaa

namespace Go.Proofs.Ytpcajacekmidbaa
open Go.RowKit
set_option linter.unusedVariables false
set_option maxRecDepth 100000

section
variable {P : Program} {ops : Array Oper} {Q : Exit → Act → World → Prop} {md : Region.Mode} {S : World → Prop} {L : Nat}

/-- Whichever order is drawn from here on; behind every operation but number L the world meets S. -/
def Till (P : Program) (md : Region.Mode) (ops : Array Oper) (Q : Exit → Act → World → Prop) (S : World → Prop) (L : Nat) : Nat → Array Bool → Act → World → Prop
  | 0, d, a, w => Region.ready md ops d = [] ∧ Q .normal a w
  | m + 1, d, a, w =>
    (Region.ready md ops d = [] → Q .normal a w) ∧
    ∀ i ∈ Region.ready md ops d, wpOp P ops Q i (fun a' w' => (i ≠ L → S w') ∧ Till P md ops Q S L m (d.setIfInBounds i true) a' w') a w

theorem Till.any : ∀ (m : Nat) (d : Array Bool) (a : Act) (w : World), Till P md ops Q S L m d a w → wpAny P md ops Q m d a w
  | 0, _, _, _, h => h
  | m + 1, _, _, _, h => ⟨h.1, fun i hi => wpOp_mono (fun a' w' k => Till.any m _ a' w' k.2) (h.2 i hi)⟩

/-- The last operation waits for number i. -/
def waitsFor (md : Region.Mode) (ops : Array Oper) (L i : Nat) : Bool :=
  match ops[L]? with
  | some o => o.after.any fun e => Region.binds md e && e.on == i
  | none => false

theorem not_last {d : Array Bool} {i j : Nat} (hw : waitsFor md ops L i = true) (hi : i ∈ Region.ready md ops d) (hj : j ∈ Region.ready md ops d) : j ≠ L := by
  rintro rfl
  obtain ⟨_, o, ho, hall⟩ := mem_ready.1 hj
  unfold waitsFor at hw
  rw [ho] at hw
  obtain ⟨k, hk, he⟩ := Array.any_eq_true.1 hw
  simp only [Bool.and_eq_true, beq_iff_eq] at he
  have h1 := hall _ (Array.getElem_mem hk) he.1
  have h0 := (mem_ready.1 hi).1
  rw [he.2] at h1
  rcases Nat.lt_or_ge i d.size with h' | h'
  · simp [h'] at h0 h1; rw [h0] at h1; cases h1
  · simp [Array.getElem?_eq_none h'] at h1

theorem Till.take {i : Nat} {oi : Oper} {v : Value} {m : Nat} {d : Array Bool} {a : Act} {w : World} (hi : ops[i]? = some oi)
    (hs : Region.noSelect ops = true) (hf : Region.free md ops d i = true) (hr : (Region.ready md ops d).contains i = true) (hl : waitsFor md ops L i = true)
    (hQ : ∀ c a w, Q (.panic c) (a.put oi.dst v) w → Q (.panic c) a w) (hy : YieldsIf P ops S oi v a) (hS : S w)
    (h : Till P md ops Q S L m (d.setIfInBounds i true) (a.put oi.dst v) w) : Till P md ops Q S L (m + 1) d a w := by
  have key : ∀ (m : Nat) (d : Array Bool) (a : Act) (w : World),
      (∀ j oj, ops[j]? = some oj → j ≠ i → d.getD j true = false → (∀ e ∈ oj.after, Region.binds md e = true → e.on ≠ i) → oi.apart ops oj = true) →
      i ∈ Region.ready md ops d → YieldsIf P ops S oi v a → S w → Till P md ops Q S L m (d.setIfInBounds i true) (a.put oi.dst v) w → Till P md ops Q S L (m + 1) d a w := by
    intro m
    induction m with
    | zero =>
      intro d a w _ hrd hyd hSd H
      refine ⟨fun e => absurd hrd (by rw [e]; simp), fun j hj => ?_⟩
      by_cases e : j = i
      · subst e; exact hyd.wpOp hi hSd ⟨fun _ => hSd, H⟩
      · have := ready_mono hj e; rw [H.1] at this; simp at this
    | succ m ih =>
      intro d a w hfree hrd hyd hSd H
      refine ⟨fun e => absurd hrd (by rw [e]; simp), fun j hj => ?_⟩
      by_cases e : j = i
      · subst e; exact hyd.wpOp hi hSd ⟨fun _ => hSd, H⟩
      · have hjL := not_last hl hrd hj
        obtain ⟨hjd, oj, hoj, hall⟩ := mem_ready.1 hj
        have hni : ∀ e ∈ oj.after, Region.binds md e = true → e.on ≠ i := fun e he hb heq => by
          have h1 := hall e he hb
          have h0 := (mem_ready.1 hrd).1
          rw [heq] at h1
          rcases Nat.lt_or_ge i d.size with h' | h'
          · simp [h'] at h0 h1; rw [h0] at h1; cases h1
          · simp [Array.getElem?_eq_none h'] at h1
        have step := wpOp_putIf hoj (hfree j oj hoj e hjd hni) (fun cs b => Region.noSelect_spec hs i oi cs b hi) (fun cs b => Region.noSelect_spec hs j oj cs b hoj) hQ hyd (H.2 j (ready_mono hj e))
        refine wpOp_mono (fun a' w' k => ?_) step
        obtain ⟨ky, kS, kT⟩ := k
        refine ⟨kS, ih (d.setIfInBounds j true) a' w' (fun k ok hk hki hun hno => hfree k ok hk hki ?_ hno) (ready_mono hrd (Ne.symm e)) ky (kS hjL) ?_⟩
        · by_cases ejk : j = k
          · subst ejk; exact hjd
          · rw [getD_set_ne true ejk] at hun; exact hun
        · rw [Array.setIfInBounds_comm _ _ e]; exact kT
  exact key m d a w (Region.free_spec hi hf) (by simpa using hr) hy hS h

/-- One operation alone may come up: it is carried out. -/
theorem Till.one {i : Nat} {o : Oper} {m : Nat} {d : Array Bool} {a : Act} {w : World} (hr : Region.ready md ops d = [i]) (hi : ops[i]? = some o) (hw : Region.wanted o (yielded ops a.tmps) = true)
    (h : ∀ K, Hid (∀ a' w', (i ≠ L → S w') → Till P md ops Q S L m (d.setIfInBounds i true) a' w' → K a' w') → (if Region.wanted o (yielded ops a.tmps) = true then Oper.wp P o a w K Q else True)) : Till P md ops Q S L (m + 1) d a w := by
  refine ⟨fun e => (by rw [hr] at e; simp at e), fun j hj => ?_⟩
  rw [hr] at hj
  simp only [List.mem_singleton] at hj
  subst hj
  have k := h (fun a' w' => (j ≠ L → S w') ∧ Till P md ops Q S L m (d.setIfInBounds j true) a' w') (fun a' w' h1 h2 => ⟨h1, h2⟩)
  rw [if_pos hw] at k
  unfold wpOp
  simp only [hi, hw, if_true]
  exact Or.inl k

theorem Till.done {d : Array Bool} {a : Act} {w : World} (hr : Region.ready md ops d = []) (h : Q .normal a w) : ∀ m, Till P md ops Q S L m d a w
  | 0 => ⟨hr, h⟩
  | _ + 1 => ⟨fun _ => h, by rw [hr]; simp⟩

theorem wp_region_till {id : Nat} {a : Act} {w : World} (S : World → Prop) (L : Nat) (hm : P.follows .mixedOrders = true)
    (h : Till P .any ops Q S L ops.size (Array.replicate ops.size false) a w.drew) : (Code.region id ops true).wp P Q a w :=
  wp_region_any hm (Till.any _ _ _ _ h)
end
end Go.Proofs.Ytpcajacekmidbaa

namespace Go.Proofs.Ytpcajacekmidbaa
open Go.RowKit
set_option linter.unusedVariables false
set_option maxRecDepth 100000

section
variable {P : Program} {ops : Array Oper} {Q : Exit → Act → World → Prop} {md : Region.Mode} {S : World → Prop} {L : Nat}

/-- Two operations may come up: either is carried out. -/
theorem Till.two {i j : Nat} {oi oj : Oper} {m : Nat} {d : Array Bool} {a : Act} {w : World} (hr : Region.ready md ops d = [i, j]) (hi : ops[i]? = some oi) (hj : ops[j]? = some oj)
    (hwi : Region.wanted oi (yielded ops a.tmps) = true) (hwj : Region.wanted oj (yielded ops a.tmps) = true)
    (h1 : ∀ K, Hid (∀ a' w', (i ≠ L → S w') → Till P md ops Q S L m (d.setIfInBounds i true) a' w' → K a' w') → (if Region.wanted oi (yielded ops a.tmps) = true then Oper.wp P oi a w K Q else True))
    (h2 : ∀ K, Hid (∀ a' w', (j ≠ L → S w') → Till P md ops Q S L m (d.setIfInBounds j true) a' w' → K a' w') → (if Region.wanted oj (yielded ops a.tmps) = true then Oper.wp P oj a w K Q else True)) :
    Till P md ops Q S L (m + 1) d a w := by
  refine ⟨fun e => (by rw [hr] at e; simp at e), fun k hk => ?_⟩
  rw [hr] at hk
  simp only [List.mem_cons, List.not_mem_nil, or_false] at hk
  rcases hk with rfl | rfl
  · have x := h1 (fun a' w' => (k ≠ L → S w') ∧ Till P md ops Q S L m (d.setIfInBounds k true) a' w') (fun a' w' u v => ⟨u, v⟩)
    rw [if_pos hwi] at x
    unfold wpOp
    simp only [hi, hwi, if_true]
    exact Or.inl x
  · have x := h2 (fun a' w' => (k ≠ L → S w') ∧ Till P md ops Q S L m (d.setIfInBounds k true) a' w') (fun a' w' u v => ⟨u, v⟩)
    rw [if_pos hwj] at x
    unfold wpOp
    simp only [hj, hwj, if_true]
    exact Or.inl x

/-- A cut around a statement: what it leaves is said once, whatever way it went. -/
theorem cut_region {id : Nat} {b : Bool} {a : Act} {w : World} (R : Act → Act → World → Prop)
    (h1 : (Code.region id ops b).wp P (fun e a' w' => e = .normal ∧ R a a' w') a w) (h2 : ∀ a' w', R a a' w' → Q .normal a' w') : (Code.region id ops b).wp P Q a w :=
  Code.wp_mono (fun e a' w' ⟨he, hr⟩ => by subst he; exact h2 a' w' hr) h1
end
end Go.Proofs.Ytpcajacekmidbaa

namespace Go.Proofs.Ytpcajacekmidbaa
open Go.RowKit
set_option linter.unusedVariables false
set_option maxRecDepth 100000

section
variable {P : Program} {ops : Array Oper} {Q : Exit → Act → World → Prop} {md : Region.Mode}

theorem ready_dep {d : Array Bool} {i : Nat} (j : Nat) (h : i ∈ Region.ready md ops d) (hw : waitsFor md ops i j = true) : d.getD j false = true := by
  obtain ⟨_, o, ho, hall⟩ := mem_ready.1 h
  unfold waitsFor at hw
  rw [ho] at hw
  obtain ⟨k, hk, he⟩ := Array.any_eq_true.1 hw
  simp only [Bool.and_eq_true, beq_iff_eq] at he
  have := hall _ (Array.getElem_mem hk) he.1
  rw [he.2] at this; exact this
theorem ready_undone {d : Array Bool} {i : Nat} (h : i ∈ Region.ready md ops d) : d.getD i true = false := (mem_ready.1 h).1
theorem ready_lt {d : Array Bool} {i : Nat} (h : i ∈ Region.ready md ops d) : i < ops.size := by
  obtain ⟨_, o, ho, _⟩ := mem_ready.1 h
  exact (Array.getElem?_eq_some_iff.1 ho).1

/-- Each operation waits for earlier ones alone. -/
def earlier (ops : Array Oper) : Bool := (List.range ops.size).all fun i => match ops[i]? with
  | some o => o.after.all fun e => decide (e.on < i)
  | none => true
theorem all_done {d : Array Bool} (hd : ops.size ≤ d.size) (he : earlier ops = true) (h : Region.ready md ops d = []) : ∀ i, i < ops.size → d.getD i true = true := by
  intro i
  induction i using Nat.strongRecOn with
  | ind i ih =>
    intro hi
    cases hb : d.getD i true
    · exfalso
      have : i ∈ Region.ready md ops d := by
        refine mem_ready.2 ⟨hb, ops[i], by simp [hi], fun e hm _ => ?_⟩
        have hx := List.all_eq_true.1 he i (List.mem_range.2 hi)
        have ho : ops[i]? = some ops[i] := by simp [hi]
        rw [ho] at hx
        obtain ⟨k, hk, rfl⟩ := Array.mem_iff_getElem.1 hm
        have hlt : (ops[i].after[k]).on < i := of_decide_eq_true ((Array.all_eq_true.1 hx) k hk)
        have h1 := ih _ hlt (by omega)
        have hs : (ops[i].after[k]).on < d.size := by omega
        simp [hs] at h1 ⊢
        exact h1
      rw [h] at this; cases this
    · rfl
def undone (ops : Array Oper) (d : Array Bool) : Nat := (List.range ops.size).countP fun i => !d.getD i true
theorem undone_set {d : Array Bool} {i : Nat} (h : d.getD i true = false) (hi : i < ops.size) : undone ops (d.setIfInBounds i true) < undone ops d := by
  refine countP_lt _ _ _ (fun x _ hx => ?_) i (List.mem_range.2 hi) ?_ (by rw [h]; rfl)
  · by_cases e : i = x
    · subst e
      rcases Nat.lt_or_ge i d.size with h' | h'
      · simp [h'] at hx
      · simp [Array.getElem?_eq_none h'] at h
    · rwa [getD_set_ne true e] at hx
  · rcases Nat.lt_or_ge i d.size with h' | h'
    · simp [h']
    · simp [Array.getElem?_eq_none h'] at h
/-- One relation that each operation keeps. -/
theorem wpAny_inv (I : Array Bool → Act → World → Prop) (he : earlier ops = true) (hsz : ∀ d a w, I d a w → ops.size ≤ d.size)
    (hstep : ∀ d a w i, I d a w → i ∈ Region.ready md ops d → wpOp P ops Q i (fun a' w' => I (d.setIfInBounds i true) a' w') a w)
    (hend : ∀ d a w, I d a w → (∀ i, i < ops.size → d.getD i true = true) → Q .normal a w) :
    ∀ (m : Nat) (d : Array Bool) (a : Act) (w : World), I d a w → undone ops d ≤ m → wpAny P md ops Q m d a w
  | 0, d, a, w, hI, hm => by
    have hr : Region.ready md ops d = [] := by
      cases hr : Region.ready md ops d with
      | nil => rfl
      | cons i l =>
        have hi : i ∈ Region.ready md ops d := by rw [hr]; exact List.mem_cons_self
        have := undone_set (ready_undone hi) (ready_lt hi)
        omega
    exact ⟨hr, hend d a w hI (all_done (hsz d a w hI) he hr)⟩
  | m + 1, d, a, w, hI, hm => by
    refine ⟨fun hr => hend d a w hI (all_done (hsz d a w hI) he hr), fun i hi => ?_⟩
    refine wpOp_mono (fun a' w' k => ?_) (hstep d a w i hI hi)
    have := undone_set (ready_undone hi) (ready_lt hi)
    exact wpAny_inv I he hsz hstep hend m _ a' w' k (by omega)
theorem wp_region_inv {id : Nat} {a : Act} {w : World} (I : Array Bool → Act → World → Prop) (hm : P.follows .mixedOrders = true) (he : earlier ops = true) (hsz : ∀ d a w, I d a w → ops.size ≤ d.size)
    (h0 : I (Array.replicate ops.size false) a w.drew)
    (hstep : ∀ d a w i, I d a w → i ∈ Region.ready .any ops d → wpOp P ops Q i (fun a' w' => I (d.setIfInBounds i true) a' w') a w)
    (hend : ∀ d a w, I d a w → (∀ i, i < ops.size → d.getD i true = true) → Q .normal a w) : (Code.region id ops true).wp P Q a w :=
  wp_region_any hm (wpAny_inv I he hsz hstep hend _ _ _ _ h0 (by
    have := List.countP_le_length (p := fun i => !(Array.replicate ops.size false).getD i true) (l := List.range ops.size)
    rwa [List.length_range] at this))
/-- One operation, carried out. -/
theorem wpOp_go {i : Nat} {o : Oper} {K : Act → World → Prop} {a : Act} {w : World} (hi : ops[i]? = some o) (hw : Region.wanted o (yielded ops a.tmps) = true)
    (h : ∀ K', Hid (∀ a' w', K a' w' → K' a' w') → (if Region.wanted o (yielded ops a.tmps) = true then Oper.wp P o a w K' Q else True)) : wpOp P ops Q i K a w := by
  have x := h K (fun _ _ h => h)
  rw [if_pos hw] at x
  unfold wpOp
  simp only [hi, hw, if_true]
  exact Or.inl x
end
end Go.Proofs.Ytpcajacekmidbaa
