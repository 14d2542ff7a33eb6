/- Plain facts: all outside hangs together exactly if one cell alone has its own mark. -/
import Derived.Test.YtpcajacekmidbaaOutside
namespace Go.Proofs.Ytpcajacekmidbaa
open Go.RowKit
set_option linter.unusedVariables false
set_option maxRecDepth 100000
set_option linter.unusedSimpArgs false

/-- One cell alone is marked with its own index. -/
def oneMark (N : Nat) (s : Nat → Bool) (adj : Nat → Nat → Bool) : Bool := decide (selfN (marksL N s adj) N = 1)
theorem countP_one {l : List Nat} {p : Nat → Bool} {a : Nat} (ha : a ∈ l) (hp : p a = true) (h : l.countP p = 1) : ∀ b ∈ l, p b = true → b = a := by
  induction l with
  | nil => cases ha
  | cons x l ih =>
    intro b hb hpb
    rw [List.countP_cons] at h
    by_cases hx : p x = true
    · rw [if_pos hx] at h
      have h0 : l.countP p = 0 := by omega
      rw [List.countP_eq_zero] at h0
      have e1 : a = x := by
        rcases List.mem_cons.1 ha with e | e
        · exact e
        · exact absurd hp (h0 a e)
      have e2 : b = x := by
        rcases List.mem_cons.1 hb with e | e
        · exact e
        · exact absurd hpb (h0 b e)
      rw [e1, e2]
    · rw [if_neg hx] at h
      have ha' : a ∈ l := by
        rcases List.mem_cons.1 ha with e | e
        · subst e; exact absurd hp hx
        · exact e
      rcases List.mem_cons.1 hb with e | e
      · subst e; exact absurd hpb hx
      · exact ih ha' (by omega) b e hpb
theorem countP_le_one {l : List Nat} {p : Nat → Bool} {a : Nat} (hn : l.Nodup) (h : ∀ b ∈ l, p b = true → b = a) : l.countP p ≤ 1 := by
  induction l with
  | nil => simp
  | cons x l ih =>
    rw [List.countP_cons]
    rw [List.nodup_cons] at hn
    by_cases hx : p x = true
    · rw [if_pos hx]
      have : l.countP p = 0 := by
        rw [List.countP_eq_zero]
        intro b hb hpb
        have e1 := h b (List.mem_cons_of_mem _ hb) hpb
        have e2 := h x List.mem_cons_self hx
        rw [e1, ← e2] at hb
        exact hn.1 hb
      omega
    · rw [if_neg hx]
      have := ih hn.2 (fun b hb => h b (List.mem_cons_of_mem _ hb))
      omega
theorem oneMark_iff {N : Nat} {s : Nat → Bool} {adj : Nat → Nat → Bool} (h0 : 0 < N) (hs : s 0 = true) : oneMark N s adj = true ↔ ∀ k, k < N → s k = true → Conn N s adj 0 k := by
  have hm := marksL_marks N s adj
  have z : (marksL N s adj).getD 0 0 = 0 := by
    obtain ⟨j, hj, hc, hl⟩ := (hm.2 0 h0).2 hs
    have := hl 0 (.refl h0 hs)
    rw [hj]; omega
  unfold oneMark
  rw [decide_eq_true_eq]
  unfold selfN
  constructor
  · intro h k hk hsk
    obtain ⟨j, hj, hc, hl⟩ := (hm.2 k hk).2 hsk
    have hjN := hc.left
    have hself : (marksL N s adj).getD j 0 = (j : Int) := by
      obtain ⟨j2, hj2, hc2, hl2⟩ := (hm.2 j hjN.1).2 hjN.2
      have a1 := hl2 j (.refl hjN.1 hjN.2)
      have a2 := hl j2 (hc2.trans hc)
      rw [hj2]; omega
    have := countP_one (List.mem_range.2 h0) (by simpa using z) h j (List.mem_range.2 hjN.1) (by simpa using hself)
    rw [this] at hc; exact hc
  · intro h
    have hle : (List.range N).countP (fun i => (marksL N s adj).getD i 0 == (i : Int)) ≤ 1 := by
      refine countP_le_one (a := 0) List.nodup_range (fun b hb hpb => ?_)
      have hbN := List.mem_range.1 hb
      have hbe : (marksL N s adj).getD b 0 = (b : Int) := by simpa using hpb
      cases hsb : s b
      · have := (hm.2 b hbN).1 hsb; omega
      · obtain ⟨j, hj, hc, hl⟩ := (hm.2 b hbN).2 hsb
        have := hl 0 (h b hbN hsb)
        omega
    have hge : 0 < (List.range N).countP (fun i => (marksL N s adj).getD i 0 == (i : Int)) := by
      rw [List.countP_pos_iff]
      exact ⟨0, List.mem_range.2 h0, by simpa using z⟩
    omega

/-- How a cell is passed on: by the four ways. -/
def dxw (way : Nat) : Int := [0, 1, 0, -1, 0].getD way 0
def dyw (way : Nat) : Int := [0, 0, 1, 0, -1].getD way 0
theorem way_adj {V : Int} {c k way : Nat} (h1 : 1 ≤ way) (h2 : way ≤ 4) (hx : (k : Int) % V = (c : Int) % V + dxw way) (hy : (k : Int) / V = (c : Int) / V + dyw way) : adjW V false c k = true := by
  unfold adjW
  rw [hx, hy]
  have hw : way = 1 ∨ way = 2 ∨ way = 3 ∨ way = 4 := by omega
  simp only [Bool.and_eq_true, Bool.or_eq_true, Bool.not_eq_true', decide_eq_true_eq, decide_eq_false_iff_not, Bool.false_eq_true, false_or]
  rcases hw with rfl | rfl | rfl | rfl <;> simp [dxw, dyw] <;> omega
theorem adj_way {V : Int} {c k : Nat} (h : adjW V false c k = true) : ∃ way, 1 ≤ way ∧ way ≤ 4 ∧ (k : Int) % V = (c : Int) % V + dxw way ∧ (k : Int) / V = (c : Int) / V + dyw way := by
  unfold adjW at h
  simp only [Bool.and_eq_true, Bool.or_eq_true, Bool.not_eq_true', decide_eq_true_eq, decide_eq_false_iff_not, Bool.false_eq_true, false_or] at h
  obtain ⟨⟨⟨h1, h2, h3, h4⟩, hne⟩, hc⟩ := h
  generalize (k : Int) % V = x' at *
  generalize (c : Int) % V = x at *
  generalize (k : Int) / V = y' at *
  generalize (c : Int) / V = y at *
  rcases hc with hc | hc
  · have hy : y' = y + 1 ∨ y' = y - 1 := by
      have : y' ≠ y := fun e => hne ⟨hc, e⟩
      omega
    rcases hy with e | e
    · exact ⟨2, by omega, by omega, by simp [dxw]; omega, by simp [dyw]; omega⟩
    · exact ⟨4, by omega, by omega, by simp [dxw]; omega, by simp [dyw]; omega⟩
  · have hx : x' = x + 1 ∨ x' = x - 1 := by
      have : x' ≠ x := fun e => hne ⟨e, hc⟩
      omega
    rcases hx with e | e
    · exact ⟨1, by omega, by omega, by simp [dxw]; omega, by simp [dyw]; omega⟩
    · exact ⟨3, by omega, by omega, by simp [dxw]; omega, by simp [dyw]; omega⟩

/-- What is seen spreads: the queue, what is seen, how far the queue is handled. -/
structure QI (N : Nat) (s : Nat → Bool) (adj : Nat → Nat → Bool) (zs : List Int) (ys : Nat → Bool) (i : Nat) : Prop where
  cnt : zs.length = (List.range N).countP ys
  seen : ∀ j, j < N → ys j = true → Conn N s adj 0 j ∧ ∃ p, p < zs.length ∧ zs.getD p 0 = (j : Int)
  ent : ∀ p, p < zs.length → ∃ j : Nat, zs.getD p 0 = j ∧ j < N ∧ ys j = true
  zero : ys 0 = true
  clo : ∀ p, p < i → ∀ j k : Nat, zs.getD p 0 = j → adj j k = true → k < N → s k = true → ys k = true
/-- The ways below 'way' of cell c are handled. -/
def Done (N : Nat) (s : Nat → Bool) (V : Int) (c way : Nat) (ys : Nat → Bool) : Prop :=
  ∀ k, k < N → s k = true → ∀ q, 1 ≤ q → q < way → (k : Int) % V = (c : Int) % V + dxw q → (k : Int) / V = (c : Int) / V + dyw q → ys k = true
theorem QI.le {N : Nat} {s : Nat → Bool} {adj : Nat → Nat → Bool} {zs : List Int} {ys : Nat → Bool} {i : Nat} (h : QI N s adj zs ys i) : zs.length ≤ N := by
  have := List.countP_le_length (p := ys) (l := List.range N)
  rw [List.length_range] at this
  rw [h.cnt]; exact this
theorem countP_set {N n : Nat} {ys : Nat → Bool} (hn : n < N) (h : ys n = false) : (List.range N).countP (fun j => if j = n then true else ys j) = (List.range N).countP ys + 1 := by
  have key : ∀ M, (List.range M).countP (fun j => if j = n then true else ys j) = (List.range M).countP ys + if n < M then 1 else 0 := by
    intro M
    induction M with
    | zero => simp
    | succ M ih =>
      rw [List.range_succ, List.countP_append, List.countP_append, ih]
      by_cases e : M = n
      · subst e; simp [h]
      · have e1 : (if n < M + 1 then 1 else 0) = (if n < M then 1 else 0 : Nat) := by
          by_cases hlt : n < M
          · rw [if_pos hlt, if_pos (by omega)]
          · rw [if_neg hlt, if_neg (by omega)]
        rw [e1]
        simp [e]; omega
  rw [key, if_pos hn]
theorem QI.push {N : Nat} {s : Nat → Bool} {adj : Nat → Nat → Bool} {zs : List Int} {ys : Nat → Bool} {i n c : Nat} (h : QI N s adj zs ys i) (hi : i < zs.length) (hn : n < N) (hs : s n = true) (hy : ys n = false) (hc : zs.getD i 0 = (c : Int)) (hcn : c < N) (hcs : ys c = true) (ha : adj c n = true) :
    QI N s adj (zs ++ [(n : Int)]) (fun j => if j = n then true else ys j) i := by
  have hg : ∀ p, p < zs.length → (zs ++ [(n : Int)]).getD p 0 = zs.getD p 0 := fun p hp => by simp [List.getD, List.getElem?_append_left hp]
  refine ⟨?_, fun j hj hyj => ?_, fun p hp => ?_, ?_, fun p hp j k hj hk hkN hks => ?_⟩
  · rw [countP_set hn hy, ← h.cnt]; simp
  · by_cases e : j = n
    · subst e
      exact ⟨.step (h.seen c hcn hcs).1 ha hn hs, zs.length, by simp, by simp [List.getD]⟩
    · simp only [if_neg e] at hyj
      obtain ⟨h1, p, hp, h2⟩ := h.seen j hj hyj
      exact ⟨h1, p, by simp; omega, by rw [hg p hp]; exact h2⟩
  · by_cases hp' : p < zs.length
    · obtain ⟨j, h1, h2, h3⟩ := h.ent p hp'
      exact ⟨j, by rw [hg p hp']; exact h1, h2, by split; rfl; exact h3⟩
    · have : p = zs.length := by simp at hp; omega
      subst this
      exact ⟨n, by simp [List.getD], hn, by simp⟩
  · split
    · rfl
    · exact h.zero
  · rw [hg p (by omega)] at hj
    split
    · rfl
    · exact h.clo p hp j k hj hk hkN hks
theorem Done.push {N : Nat} {s : Nat → Bool} {V : Int} {c way n : Nat} {ys : Nat → Bool} (h : Done N s V c way ys) : Done N s V c way (fun j => if j = n then true else ys j) := by
  intro k hk hs q h1 h2 h3 h4
  show (if k = n then true else ys k) = true
  split
  · rfl
  · exact h k hk hs q h1 h2 h3 h4
theorem Done.next {N : Nat} {s : Nat → Bool} {V : Int} {c way : Nat} {ys : Nat → Bool} (h : Done N s V c way ys) (hw : ∀ k, k < N → s k = true → (k : Int) % V = (c : Int) % V + dxw way → (k : Int) / V = (c : Int) / V + dyw way → ys k = true) : Done N s V c (way + 1) ys := by
  intro k hk hs q h1 h2 h3 h4
  by_cases e : q = way
  · subst e; exact hw k hk hs h3 h4
  · exact h k hk hs q h1 (by omega) h3 h4
theorem QI.next {N : Nat} {s : Nat → Bool} {V : Int} {zs : List Int} {ys : Nat → Bool} {i c : Nat} (h : QI N s (adjW V false) zs ys i) (hc : zs.getD i 0 = (c : Int)) (hd : Done N s V c 5 ys) : QI N s (adjW V false) zs ys (i + 1) := by
  refine ⟨h.cnt, h.seen, h.ent, h.zero, fun p hp j k hj hk hkN hks => ?_⟩
  by_cases e : p = i
  · subst e
    have : j = c := by omega
    subst this
    obtain ⟨way, h1, h2, h3, h4⟩ := adj_way hk
    exact hd k hkN hks way h1 (by omega) h3 h4
  · exact h.clo p (by omega) j k hj hk hkN hks
theorem QI.done {N : Nat} {s : Nat → Bool} {adj : Nat → Nat → Bool} {zs : List Int} {ys : Nat → Bool} (h : QI N s adj zs ys zs.length) (h0 : 0 < N) (hs0 : s 0 = true) :
    decide (zs.length = (List.range N).countP s) = oneMark N s adj := by
  have key : ∀ k, Conn N s adj 0 k → ys k = true := by
    intro k hc
    induction hc with
    | refl _ _ => exact h.zero
    | step hij a b c ih =>
      rename_i j k
      obtain ⟨_, p, hp, e⟩ := h.seen j hij.right.1 ih
      exact h.clo p hp j k e a b c
  apply Bool.eq_iff_iff.2
  rw [oneMark_iff h0 hs0, decide_eq_true_eq, h.cnt]
  have hsub : ∀ x ∈ List.range N, ys x = true → s x = true := fun x hx hy => (h.seen x (List.mem_range.1 hx) hy).1.right.2
  constructor
  · intro e k hk hsk
    have := countP_eq_of (List.range N) ys s hsub e k (List.mem_range.2 hk) hsk
    exact (h.seen k hk this).1
  · intro hall
    refine Nat.le_antisymm (List.countP_mono_left hsub) (List.countP_mono_left fun x hx hsx => key x (hall x (List.mem_range.1 hx) hsx))
theorem QI.start {N : Nat} {s : Nat → Bool} {adj : Nat → Nat → Bool} (h0 : 0 < N) (hs0 : s 0 = true) : QI N s adj [0] (fun j => decide (j = 0)) 0 := by
  refine ⟨?_, fun j hj hy => ?_, fun p hp => ?_, by simp, fun p hp => absurd hp (Nat.not_lt_zero p)⟩
  · have := countP_set (N := N) (n := 0) (ys := fun _ => false) h0 rfl
    have e : (fun j : Nat => decide (j = 0)) = (fun j => if j = 0 then true else (fun _ => false) j) := by funext j; by_cases e : j = 0 <;> simp [e]
    rw [e, this]; simp
  · have : j = 0 := by simpa using hy
    subst this
    exact ⟨.refl h0 hs0, 0, by simp, rfl⟩
  · have : p = 0 := by simp at hp; exact hp
    subst this
    exact ⟨0, rfl, h0, rfl⟩
end Go.Proofs.Ytpcajacekmidbaa
