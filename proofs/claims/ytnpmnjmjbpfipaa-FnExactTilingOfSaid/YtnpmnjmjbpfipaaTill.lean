/- A statement whose order Go leaves open, and which ends in a store into a cell that it has read: a condition on the world serves for all operations but the last. -/
import Derived.Test.YtnpmnjmjbpfipaaBase
import Derived.OrdersHeld
namespace Go.Proofs.Ytnpmnjmjbpfipaa
open Go.RowKit
set_option linter.unusedVariables false
set_option maxRecDepth 100000

section
variable {P : Program} {ops : Array Oper} {Q : Exit → Act → World → Prop} {md : Region.Mode} {S : World → Prop} {L : Nat}

/-- Whichever order is drawn from here on; behind every operation but number L the world meets S. -/
def Till (P : Program) (md : Region.Mode) (ops : Array Oper) (Q : Exit → Act → World → Prop) (S : World → Prop) (L : Nat) : Nat → Array Bool → Act → World → Prop
  | 0, d, a, w => Region.ready md ops d = [] ∧ Q .normal a w
  | m + 1, d, a, w =>
    (Region.ready md ops d = [] → Q .normal a w) ∧
    ∀ i ∈ Region.ready md ops d, wpOp P ops Q i (fun a' w' => (i ≠ L → S w') ∧ Till P md ops Q S L m (d.setIfInBounds i true) a' w') a w

theorem Till.any : ∀ (m : Nat) (d : Array Bool) (a : Act) (w : World), Till P md ops Q S L m d a w → wpAny P md ops Q m d a w
  | 0, _, _, _, h => h
  | m + 1, _, _, _, h => ⟨h.1, fun i hi => wpOp_mono (fun a' w' k => Till.any m _ a' w' k.2) (h.2 i hi)⟩

/-- The last operation waits for number i. -/
def waitsFor (md : Region.Mode) (ops : Array Oper) (L i : Nat) : Bool :=
  match ops[L]? with
  | some o => o.after.any fun e => Region.binds md e && e.on == i
  | none => false

theorem not_last {d : Array Bool} {i j : Nat} (hw : waitsFor md ops L i = true) (hi : i ∈ Region.ready md ops d) (hj : j ∈ Region.ready md ops d) : j ≠ L := by
  rintro rfl
  obtain ⟨_, o, ho, hall⟩ := mem_ready.1 hj
  unfold waitsFor at hw
  rw [ho] at hw
  obtain ⟨k, hk, he⟩ := Array.any_eq_true.1 hw
  simp only [Bool.and_eq_true, beq_iff_eq] at he
  have h1 := hall _ (Array.getElem_mem hk) he.1
  have h0 := (mem_ready.1 hi).1
  rw [he.2] at h1
  rcases Nat.lt_or_ge i d.size with h' | h'
  · simp [h'] at h0 h1; rw [h0] at h1; cases h1
  · simp [Array.getElem?_eq_none h'] at h1

theorem Till.take {i : Nat} {oi : Oper} {v : Value} {m : Nat} {d : Array Bool} {a : Act} {w : World} (hi : ops[i]? = some oi)
    (hs : Region.noSelect ops = true) (hf : Region.free md ops d i = true) (hr : (Region.ready md ops d).contains i = true) (hl : waitsFor md ops L i = true)
    (hQ : ∀ c a w, Q (.panic c) (a.put oi.dst v) w → Q (.panic c) a w) (hy : YieldsIf P ops S oi v a) (hS : S w)
    (h : Till P md ops Q S L m (d.setIfInBounds i true) (a.put oi.dst v) w) : Till P md ops Q S L (m + 1) d a w := by
  have key : ∀ (m : Nat) (d : Array Bool) (a : Act) (w : World),
      (∀ j oj, ops[j]? = some oj → j ≠ i → d.getD j true = false → (∀ e ∈ oj.after, Region.binds md e = true → e.on ≠ i) → oi.apart ops oj = true) →
      i ∈ Region.ready md ops d → YieldsIf P ops S oi v a → S w → Till P md ops Q S L m (d.setIfInBounds i true) (a.put oi.dst v) w → Till P md ops Q S L (m + 1) d a w := by
    intro m
    induction m with
    | zero =>
      intro d a w _ hrd hyd hSd H
      refine ⟨fun e => absurd hrd (by rw [e]; simp), fun j hj => ?_⟩
      by_cases e : j = i
      · subst e; exact hyd.wpOp hi hSd ⟨fun _ => hSd, H⟩
      · have := ready_mono hj e; rw [H.1] at this; simp at this
    | succ m ih =>
      intro d a w hfree hrd hyd hSd H
      refine ⟨fun e => absurd hrd (by rw [e]; simp), fun j hj => ?_⟩
      by_cases e : j = i
      · subst e; exact hyd.wpOp hi hSd ⟨fun _ => hSd, H⟩
      · have hjL := not_last hl hrd hj
        obtain ⟨hjd, oj, hoj, hall⟩ := mem_ready.1 hj
        have hni : ∀ e ∈ oj.after, Region.binds md e = true → e.on ≠ i := fun e he hb heq => by
          have h1 := hall e he hb
          have h0 := (mem_ready.1 hrd).1
          rw [heq] at h1
          rcases Nat.lt_or_ge i d.size with h' | h'
          · simp [h'] at h0 h1; rw [h0] at h1; cases h1
          · simp [Array.getElem?_eq_none h'] at h1
        have step := wpOp_putIf hoj (hfree j oj hoj e hjd hni) (fun cs b => Region.noSelect_spec hs i oi cs b hi) (fun cs b => Region.noSelect_spec hs j oj cs b hoj) hQ hyd (H.2 j (ready_mono hj e))
        refine wpOp_mono (fun a' w' k => ?_) step
        obtain ⟨ky, kS, kT⟩ := k
        refine ⟨kS, ih (d.setIfInBounds j true) a' w' (fun k ok hk hki hun hno => hfree k ok hk hki ?_ hno) (ready_mono hrd (Ne.symm e)) ky (kS hjL) ?_⟩
        · by_cases ejk : j = k
          · subst ejk; exact hjd
          · rw [getD_set_ne true ejk] at hun; exact hun
        · rw [Array.setIfInBounds_comm _ _ e]; exact kT
  exact key m d a w (Region.free_spec hi hf) (by simpa using hr) hy hS h

/-- One operation alone may come up: it is carried out. -/
theorem Till.one {i : Nat} {o : Oper} {m : Nat} {d : Array Bool} {a : Act} {w : World} (hr : Region.ready md ops d = [i]) (hi : ops[i]? = some o) (hw : Region.wanted o (yielded ops a.tmps) = true)
    (h : ∀ K, Hid (∀ a' w', (i ≠ L → S w') → Till P md ops Q S L m (d.setIfInBounds i true) a' w' → K a' w') → (if Region.wanted o (yielded ops a.tmps) = true then Oper.wp P o a w K Q else True)) : Till P md ops Q S L (m + 1) d a w := by
  refine ⟨fun e => (by rw [hr] at e; simp at e), fun j hj => ?_⟩
  rw [hr] at hj
  simp only [List.mem_singleton] at hj
  subst hj
  have k := h (fun a' w' => (j ≠ L → S w') ∧ Till P md ops Q S L m (d.setIfInBounds j true) a' w') (fun a' w' h1 h2 => ⟨h1, h2⟩)
  rw [if_pos hw] at k
  unfold wpOp
  simp only [hi, hw, if_true]
  exact Or.inl k

theorem Till.done {d : Array Bool} {a : Act} {w : World} (hr : Region.ready md ops d = []) (h : Q .normal a w) : ∀ m, Till P md ops Q S L m d a w
  | 0 => ⟨hr, h⟩
  | _ + 1 => ⟨fun _ => h, by rw [hr]; simp⟩

theorem wp_region_till {id : Nat} {a : Act} {w : World} (S : World → Prop) (L : Nat) (hm : P.follows .mixedOrders = true)
    (h : Till P .any ops Q S L ops.size (Array.replicate ops.size false) a w.drew) : (Code.region id ops true).wp P Q a w :=
  wp_region_any hm (Till.any _ _ _ _ h)
end
end Go.Proofs.Ytnpmnjmjbpfipaa
