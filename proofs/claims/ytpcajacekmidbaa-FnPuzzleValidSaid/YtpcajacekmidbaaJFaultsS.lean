/- Contract of spec.FaultsOf. -/
import Derived.Test.YtpcajacekmidbaaJSetS
import Derived.Deep.DeepCutAuto
import Derived.ArgAppend
import Derived.Deep.LoopGhost
import Derived.Deep.RegionLaw
import Derived.Deep.CutBlock
import Derived.Laws.Bits64b
import Derived.Maps.RangeWalk
import Derived.Maps.OwnOps
import Derived.Maps.Ext
import Derived.Maps.AppendAt
namespace Go.Proofs.Ytpcajacekmidbaa
open Go.RowKit
set_option linter.unusedVariables false
set_option maxRecDepth 100000
set_option linter.unusedSimpArgs false

theorem alive_any (w : World) : Calls Try.prog 13 #[] w fun e w' => e = .returned (.bool true) ∧ Below w.heap.size w w' := by
  go_enter Try.func13, Try.ntmps13
  go_wp2_with fail
  refine (iRegionBox_yes 2 3 6 _ (by decide) (by decide)).mono ?_; rintro e w1 ⟨g, rfl, ho, hb⟩
  have HM : Hid (many 2 3 (List.replicate 6 true) = 6) := by show _ = _; rfl
  go_wp2_with fail
  refine (iCellsMany_any _ _ _ _ _ (List.replicate 6 true) _ rfl (by simp) (OwnsB.at ho)).mono ?_; rintro e w2 ⟨rfl, hb2⟩
  rw [HM.out]
  go_wp2
  go_ret
  exact ⟨rfl, below_seq hb hb2⟩

end Go.Proofs.Ytpcajacekmidbaa

namespace Go.Proofs.Ytpcajacekmidbaa
open Go.RowKit
set_option linter.unusedVariables false
set_option maxRecDepth 100000
set_option linter.unusedSimpArgs false

end Go.Proofs.Ytpcajacekmidbaa

namespace Go.Proofs.Ytpcajacekmidbaa
open Go.RowKit
set_option linter.unusedVariables false
set_option maxRecDepth 100000
set_option linter.unusedSimpArgs false

theorem pick_i (rb P : Nat) (m : Int) (w : World) (hm0 : 1 ≤ m) (hm1 : m ≤ 1000000) (hP : P ≤ 100000) (h : RD w rb P) :
    Calls Try.prog 97 #[.pointer (some ⟨rb, 0, none⟩), .int .i64 m] w (Picked rb P m.toNat w) := by
  have := pick_any rb P m.toNat w (by omega) (by omega) hP h
  rwa [show ((m.toNat : Nat) : Int) = m by omega] at this
end Go.Proofs.Ytpcajacekmidbaa

namespace Go.Proofs.Ytpcajacekmidbaa
open Go.RowKit
set_option linter.unusedVariables false
set_option maxRecDepth 100000
set_option linter.unusedSimpArgs false

section
variable {N : Nat} {s : Nat → Bool} {adj : Nat → Nat → Bool}
/-- All neighbours are marked. -/
def AllM (N : Nat) (s : Nat → Bool) (adj : Nat → Nat → Bool) (M : List Int) (k : Nat) : Prop := ∀ j, adj k j = true → j < N → s j = true → 0 ≤ M.getD j 0
/-- A mark spreads: what is marked so far, what is still to be looked at. -/
structure SpI (N : Nat) (s : Nat → Bool) (adj : Nat → Nat → Bool) (first : Nat) (M0 M : List Int) (zs : List Int) (D : Nat → Prop) : Prop where
  len : M.length = N
  old : ∀ k, k < N → M.getD k 0 = M0.getD k 0 ∨ (M.getD k 0 = first ∧ Conn N s adj first k)
  fst : M.getD first 0 = first
  que : ∀ i, i < zs.length → ∃ z : Nat, zs.getD i 0 = z ∧ z < N ∧ Conn N s adj first z
  clo : ∀ j, Conn N s adj first j → M.getD j 0 = first → (∃ i, i < zs.length ∧ zs.getD i 0 = j) ∨ D j ∨ AllM N s adj M j
/-- What a mark that has spread leaves. -/
def Spread (N : Nat) (s : Nat → Bool) (adj : Nat → Nat → Bool) (first : Nat) (M0 M : List Int) : Prop :=
  M.length = N ∧ ∀ k, k < N → (Conn N s adj first k → M.getD k 0 = first) ∧ (¬ Conn N s adj first k → M.getD k 0 = M0.getD k 0)
theorem SpI.done {first : Nat} {M0 M : List Int} (h : SpI N s adj first M0 M [] (fun _ => False)) (hneg : ∀ j, Conn N s adj first j → M0.getD j 0 < 0) : Spread N s adj first M0 M := by
  have key : ∀ k, Conn N s adj first k → M.getD k 0 = first := by
    intro k hc
    induction hc with
    | refl _ _ => exact h.fst
    | step hij a b c ih =>
      rename_i j k
      have hj := ih
      rcases h.clo j hij hj with ⟨i, hi, _⟩ | hf | ha
      · simp at hi
      · exact hf.elim
      · have h0 := ha k a b c
        rcases h.old k b with e | e
        · have := hneg k (.step hij a b c); omega
        · exact e.1
  refine ⟨h.len, fun k hk => ⟨key k, fun hn => ?_⟩⟩
  rcases h.old k hk with e | e
  · exact e
  · exact absurd e.2 hn
end
end Go.Proofs.Ytpcajacekmidbaa

namespace Go.Proofs.Ytpcajacekmidbaa
open Go.RowKit
set_option linter.unusedVariables false
set_option maxRecDepth 100000
set_option linter.unusedSimpArgs false

end Go.Proofs.Ytpcajacekmidbaa

namespace Go.Proofs.Ytpcajacekmidbaa
open Go.RowKit
set_option linter.unusedVariables false
set_option maxRecDepth 100000
set_option linter.unusedSimpArgs false

/-- The value is a slice into block g, with the numbers zs. -/
def QAt (w : World) (g : Nat) (v : Value) (zs : List Int) : Prop :=
  ∃ (off cap : Nat) (cs : Array Value), v = .slice (some ⟨g, off, none⟩) zs.length cap ∧ w.heap[g]? = some (.cells cs 3 (0, 0)) ∧ zs.length ≤ cap ∧ off + cap ≤ cs.size ∧ cap ≤ maxLen ∧ ∀ j, j < zs.length → cs[off + j]? = some (.int .i64 (zs.getD j 0))
theorem QAt.lt {w : World} {g : Nat} {v : Value} {zs : List Int} (h : QAt w g v zs) : g < w.heap.size := by
  obtain ⟨_, _, _, _, h2, _⟩ := h; exact heap_lt h2
theorem QAt.kept {w w' : World} {g : Nat} {v : Value} {zs : List Int} (h : QAt w g v zs) (hk : ∀ o, w.heap[g]? = some o → w'.heap[g]? = some o) : QAt w' g v zs := by
  obtain ⟨off, cap, cs, h1, h2, h3⟩ := h; exact ⟨off, cap, cs, h1, hk _ h2, h3⟩
theorem QAt.below {w w' : World} {g : Nat} {v : Value} {zs : List Int} (h : QAt w g v zs) (hb : Below w.heap.size w w') : QAt w' g v zs := h.kept fun _ ho => heap_later ho hb
theorem QAt.grown {w w' : World} {g : Nat} {v : Value} {zs : List Int} {row : Option Nat} (h : QAt w g v zs) (hg : w.grownBy w' row) (hr : row ≠ some g) : QAt w' g v zs := h.kept fun _ ho => heap_grown ho hg hr
theorem QAt.one (w : World) (x : Int) : QAt (w.alloc (.cells #[.int .i64 x] 3 (0, 0))) w.heap.size (.slice (some ⟨w.heap.size, 0, none⟩) 1 1) [x] :=
  ⟨0, 1, #[.int .i64 x], rfl, heap_new _ _, Nat.le_refl _, by simp, by decide, fun j hj => by simp at hj; subst hj; rfl⟩
end Go.Proofs.Ytpcajacekmidbaa

namespace Go.Proofs.Ytpcajacekmidbaa
open Go.RowKit
set_option linter.unusedVariables false
set_option maxRecDepth 100000
set_option linter.unusedSimpArgs false

/-- The first k cells of a block hold the number z. -/
def RepAt (w : World) (g n k : Nat) (z : Int) : Prop := ∃ cur : List Value, w.heap[g]? = some (.cells cur.toArray 3 (0, 0)) ∧ cur.length = n ∧ k ≤ n ∧ ∀ j, j < k → cur[j]? = some (.int .i64 z)
theorem RepAt.cellAt {w : World} {g n k : Nat} {z : Int} (h : RepAt w g n k z) {j : Nat} (hj : j < k) : w.cell? ⟨g, j, none⟩ = some (.int .i64 z) := by
  obtain ⟨cur, h1, h2, _, h3⟩ := h
  have := h3 j hj
  simp [World.cell?, h1, this]

end Go.Proofs.Ytpcajacekmidbaa

namespace Go.Proofs.Ytpcajacekmidbaa
open Go.RowKit
set_option linter.unusedVariables false
set_option maxRecDepth 100000
set_option linter.unusedSimpArgs false

/-- The first number from s on, of f numbers, that p holds of. -/
def firstN (p : Nat → Bool) : Nat → Nat → Nat
  | 0, s => s
  | f + 1, s => if p s then s else firstN p f (s + 1)
theorem firstN_spec (p : Nat → Bool) : ∀ f s i, s ≤ i → i < s + f → p i = true → p (firstN p f s) = true ∧ ∀ j, s ≤ j → p j = true → firstN p f s ≤ j
  | 0, s, i, h1, h2, _ => by omega
  | f + 1, s, i, h1, h2, h3 => by
    unfold firstN
    by_cases hp : p s = true
    · rw [if_pos hp]; exact ⟨hp, fun j hj _ => hj⟩
    · rw [if_neg hp]
      have hne : i ≠ s := fun e => hp (by rw [← e]; exact h3)
      obtain ⟨r1, r2⟩ := firstN_spec p f (s + 1) i (by omega) (by omega) h3
      refine ⟨r1, fun j hj hpj => r2 j ?_ hpj⟩
      have : j ≠ s := fun e => hp (by rw [← e]; exact hpj)
      omega
/-- For each cell the least index of one that it hangs together with. -/
def marksL (N : Nat) (s : Nat → Bool) (adj : Nat → Nat → Bool) : List Int :=
  (List.range N).map fun k => if s k then ((firstN (fun i => reachT N s adj i N k) N 0 : Nat) : Int) else -1
theorem marksL_len (N : Nat) (s : Nat → Bool) (adj : Nat → Nat → Bool) : (marksL N s adj).length = N := by simp [marksL]
theorem marksL_marks (N : Nat) (s : Nat → Bool) (adj : Nat → Nat → Bool) : Marks N s adj (marksL N s adj) := by
  refine ⟨marksL_len _ _ _, fun k hk => ?_⟩
  have e : (marksL N s adj).getD k 0 = if s k then ((firstN (fun i => reachT N s adj i N k) N 0 : Nat) : Int) else -1 := by simp [marksL, hk]
  rw [e]
  refine ⟨fun h => by rw [h]; rfl, fun h => ?_⟩
  rw [h, if_pos rfl]
  obtain ⟨r1, r2⟩ := firstN_spec (fun i => reachT N s adj i N k) N 0 k (Nat.zero_le _) (by omega) (conn_reach (.refl hk h))
  have hlt : firstN (fun i => reachT N s adj i N k) N 0 ≤ k := r2 k (Nat.zero_le _) (conn_reach (.refl hk h))
  exact ⟨_, rfl, reachT_conn (by omega) hk r1, fun i hi => r2 i (Nat.zero_le _) (conn_reach hi)⟩
end Go.Proofs.Ytpcajacekmidbaa

namespace Go.Proofs.Ytpcajacekmidbaa
open Go.RowKit
set_option linter.unusedVariables false
set_option maxRecDepth 100000
set_option linter.unusedSimpArgs false

/-- How many of the first k entries are their own index. -/
def selfN (L : List Int) (k : Nat) : Nat := (List.range k).countP fun i => L.getD i 0 == (i : Int)
end Go.Proofs.Ytpcajacekmidbaa

namespace Go.Proofs.Ytpcajacekmidbaa
open Go.RowKit
set_option linter.unusedVariables false
set_option maxRecDepth 100000
set_option linter.unusedSimpArgs false

/-- One cell alone is marked with its own index. -/
def oneMark (N : Nat) (s : Nat → Bool) (adj : Nat → Nat → Bool) : Bool := decide (selfN (marksL N s adj) N = 1)
theorem countP_one {l : List Nat} {p : Nat → Bool} {a : Nat} (ha : a ∈ l) (hp : p a = true) (h : l.countP p = 1) : ∀ b ∈ l, p b = true → b = a := by
  induction l with
  | nil => cases ha
  | cons x l ih =>
    intro b hb hpb
    rw [List.countP_cons] at h
    by_cases hx : p x = true
    · rw [if_pos hx] at h
      have h0 : l.countP p = 0 := by omega
      rw [List.countP_eq_zero] at h0
      have e1 : a = x := by
        rcases List.mem_cons.1 ha with e | e
        · exact e
        · exact absurd hp (h0 a e)
      have e2 : b = x := by
        rcases List.mem_cons.1 hb with e | e
        · exact e
        · exact absurd hpb (h0 b e)
      rw [e1, e2]
    · rw [if_neg hx] at h
      have ha' : a ∈ l := by
        rcases List.mem_cons.1 ha with e | e
        · subst e; exact absurd hp hx
        · exact e
      rcases List.mem_cons.1 hb with e | e
      · subst e; exact absurd hpb hx
      · exact ih ha' (by omega) b e hpb
theorem countP_le_one {l : List Nat} {p : Nat → Bool} {a : Nat} (hn : l.Nodup) (h : ∀ b ∈ l, p b = true → b = a) : l.countP p ≤ 1 := by
  induction l with
  | nil => simp
  | cons x l ih =>
    rw [List.countP_cons]
    rw [List.nodup_cons] at hn
    by_cases hx : p x = true
    · rw [if_pos hx]
      have : l.countP p = 0 := by
        rw [List.countP_eq_zero]
        intro b hb hpb
        have e1 := h b (List.mem_cons_of_mem _ hb) hpb
        have e2 := h x List.mem_cons_self hx
        rw [e1, ← e2] at hb
        exact hn.1 hb
      omega
    · rw [if_neg hx]
      have := ih hn.2 (fun b hb => h b (List.mem_cons_of_mem _ hb))
      omega
theorem oneMark_iff {N : Nat} {s : Nat → Bool} {adj : Nat → Nat → Bool} (h0 : 0 < N) (hs : s 0 = true) : oneMark N s adj = true ↔ ∀ k, k < N → s k = true → Conn N s adj 0 k := by
  have hm := marksL_marks N s adj
  have z : (marksL N s adj).getD 0 0 = 0 := by
    obtain ⟨j, hj, hc, hl⟩ := (hm.2 0 h0).2 hs
    have := hl 0 (.refl h0 hs)
    rw [hj]; omega
  unfold oneMark
  rw [decide_eq_true_eq]
  unfold selfN
  constructor
  · intro h k hk hsk
    obtain ⟨j, hj, hc, hl⟩ := (hm.2 k hk).2 hsk
    have hjN := hc.left
    have hself : (marksL N s adj).getD j 0 = (j : Int) := by
      obtain ⟨j2, hj2, hc2, hl2⟩ := (hm.2 j hjN.1).2 hjN.2
      have a1 := hl2 j (.refl hjN.1 hjN.2)
      have a2 := hl j2 (hc2.trans hc)
      rw [hj2]; omega
    have := countP_one (List.mem_range.2 h0) (by simpa using z) h j (List.mem_range.2 hjN.1) (by simpa using hself)
    rw [this] at hc; exact hc
  · intro h
    have hle : (List.range N).countP (fun i => (marksL N s adj).getD i 0 == (i : Int)) ≤ 1 := by
      refine countP_le_one (a := 0) List.nodup_range (fun b hb hpb => ?_)
      have hbN := List.mem_range.1 hb
      have hbe : (marksL N s adj).getD b 0 = (b : Int) := by simpa using hpb
      cases hsb : s b
      · have := (hm.2 b hbN).1 hsb; omega
      · obtain ⟨j, hj, hc, hl⟩ := (hm.2 b hbN).2 hsb
        have := hl 0 (h b hbN hsb)
        omega
    have hge : 0 < (List.range N).countP (fun i => (marksL N s adj).getD i 0 == (i : Int)) := by
      rw [List.countP_pos_iff]
      exact ⟨0, List.mem_range.2 h0, by simpa using z⟩
    omega

/-- What is seen spreads: the queue, what is seen, how far the queue is handled. -/
structure QI (N : Nat) (s : Nat → Bool) (adj : Nat → Nat → Bool) (zs : List Int) (ys : Nat → Bool) (i : Nat) : Prop where
  cnt : zs.length = (List.range N).countP ys
  seen : ∀ j, j < N → ys j = true → Conn N s adj 0 j ∧ ∃ p, p < zs.length ∧ zs.getD p 0 = (j : Int)
  ent : ∀ p, p < zs.length → ∃ j : Nat, zs.getD p 0 = j ∧ j < N ∧ ys j = true
  zero : ys 0 = true
  clo : ∀ p, p < i → ∀ j k : Nat, zs.getD p 0 = j → adj j k = true → k < N → s k = true → ys k = true
theorem QI.done {N : Nat} {s : Nat → Bool} {adj : Nat → Nat → Bool} {zs : List Int} {ys : Nat → Bool} (h : QI N s adj zs ys zs.length) (h0 : 0 < N) (hs0 : s 0 = true) :
    decide (zs.length = (List.range N).countP s) = oneMark N s adj := by
  have key : ∀ k, Conn N s adj 0 k → ys k = true := by
    intro k hc
    induction hc with
    | refl _ _ => exact h.zero
    | step hij a b c ih =>
      rename_i j k
      obtain ⟨_, p, hp, e⟩ := h.seen j hij.right.1 ih
      exact h.clo p hp j k e a b c
  apply Bool.eq_iff_iff.2
  rw [oneMark_iff h0 hs0, decide_eq_true_eq, h.cnt]
  have hsub : ∀ x ∈ List.range N, ys x = true → s x = true := fun x hx hy => (h.seen x (List.mem_range.1 hx) hy).1.right.2
  constructor
  · intro e k hk hsk
    have := countP_eq_of (List.range N) ys s hsub e k (List.mem_range.2 hk) hsk
    exact (h.seen k hk this).1
  · intro hall
    refine Nat.le_antisymm (List.countP_mono_left hsub) (List.countP_mono_left fun x hx hsx => key x (hall x (List.mem_range.1 hx) hsx))
end Go.Proofs.Ytpcajacekmidbaa

namespace Go.Proofs.Ytpcajacekmidbaa
open Go.RowKit
set_option linter.unusedVariables false
set_option maxRecDepth 100000
set_option linter.unusedSimpArgs false

/-- Where a domino from a cell in a direction leads, as far as the other cell belongs to the region and is not covered: the set of what is covered then. -/
def optW (W T : Int) (xs : List Bool) (k s : Nat) (way : Int) : List Nat :=
  if 0 ≤ stepI W T k way ∧ xs.getD (stepI W T k way).toNat false = true ∧ s / 2 ^ ((stepI W T k way).toNat - k) % 2 = 0 then [(s + 2 ^ ((stepI W T k way).toNat - k)) / 2] else []
def optsTo (W T : Int) (xs : List Bool) (k s : Nat) : Nat → List Nat
  | 0 => []
  | j + 1 => optsTo W T xs k s j ++ optW W T xs k s ((j : Int) + 1)
def dpOpts (W T : Int) (xs : List Bool) (k s : Nat) : List Nat :=
  if xs.getD k false = false ∨ s % 2 = 1 then [s / 2] else optsTo W T xs k s 2

def dpN (W T : Int) (xs : List Bool) : Nat → Nat → Nat → Nat
  | 0, _, s => if s = 0 then 1 else 0
  | m + 1, k, s => ((dpOpts W T xs k s).map (dpN W T xs m (k + 1))).sum
/-- How many tilings a region has. -/
def dpT (W T : Int) (xs : List Bool) : Nat := dpN W T xs xs.length 0 0

theorem optW_le (W T : Int) (xs : List Bool) (k s : Nat) (way : Int) : (optW W T xs k s way).length ≤ 1 := by
  unfold optW; split <;> simp
theorem optsTo_le (W T : Int) (xs : List Bool) (k s j : Nat) : (optsTo W T xs k s j).length ≤ j := by
  induction j with
  | zero => simp [optsTo]
  | succ j ih => have := optW_le W T xs k s ((j : Int) + 1); simp only [optsTo, List.length_append]; omega
theorem dpOpts_le (W T : Int) (xs : List Bool) (k s : Nat) : (dpOpts W T xs k s).length ≤ 2 := by
  unfold dpOpts
  split
  · simp
  · exact optsTo_le W T xs k s 2

theorem sum_le_len {f : Nat → Nat} {B : Nat} : ∀ {l : List Nat}, (∀ x ∈ l, f x ≤ B) → (l.map f).sum ≤ l.length * B
  | [], _ => by simp
  | x :: r, h => by
    have h1 := h x (by simp)
    have h2 := sum_le_len (l := r) (fun y hy => h y (by simp [hy]))
    simp only [List.map_cons, List.sum_cons, List.length_cons, Nat.add_mul, Nat.one_mul]
    omega

theorem dpN_le (W T : Int) (xs : List Bool) : ∀ (m k s : Nat), dpN W T xs m k s ≤ 2 ^ m
  | 0, k, s => by unfold dpN; split <;> simp
  | m + 1, k, s => by
    unfold dpN
    have h1 := sum_le_len (f := dpN W T xs m (k + 1)) (B := 2 ^ m) (l := dpOpts W T xs k s) (fun x _ => dpN_le W T xs m (k + 1) x)
    have h2 := Nat.mul_le_mul_right (2 ^ m) (dpOpts_le W T xs k s)
    have h3 : 2 ^ (m + 1) = 2 * 2 ^ m := by rw [Nat.pow_succ, Nat.mul_comm]
    omega

theorem dpT_le {W T : Int} {xs : List Bool} (h : xs.length ≤ 36) : dpT W T xs ≤ 68719476736 := by
  have h1 := dpN_le W T xs xs.length 0 0
  have h2 : (2 : Nat) ^ xs.length ≤ 2 ^ 36 := Nat.pow_le_pow_right (by decide) h
  have h3 : (2 : Nat) ^ 36 = 68719476736 := by decide
  unfold dpT; omega

/-- A step to the east or to the north leads to a later cell. -/
theorem step_up {W T : Int} {k : Nat} {way : Int} (hw : way = 1 ∨ way = 2) (hW : 1 ≤ W) (h : 0 ≤ stepI W T k way) : (way = 1 ∧ stepI W T k way = k + 1 ∧ 1 < W) ∨ (way = 2 ∧ stepI W T k way = k + W) := by
  rcases hw with rfl | rfl
  · left
    unfold stepI at h ⊢
    split at h
    · rename_i h1
      refine ⟨rfl, by rw [if_pos h1], ?_⟩
      have := Int.emod_nonneg (k : Int) (b := W) (by omega)
      omega
    · simp at h
  · right
    unfold stepI at h ⊢
    simp at h ⊢
    split at h
    · rename_i h1
      intro h2; omega
    · simp at h

/-- .. and a set of covered cells stays among as many later cells as the field is wide. -/
theorem optW_lt {W T : Int} {xs : List Bool} {k s : Nat} {way : Int} (hw : way = 1 ∨ way = 2) (hW : 1 ≤ W) (hW6 : W ≤ 6) (hs : s < 2 ^ W.toNat) : ∀ o ∈ optW W T xs k s way, o < 2 ^ W.toNat := by
  intro o ho
  unfold optW at ho
  split at ho
  · rename_i h
    obtain ⟨h0, _, _⟩ := h
    simp only [List.mem_singleton] at ho
    subst ho
    have hw' : W = 1 ∨ W = 2 ∨ W = 3 ∨ W = 4 ∨ W = 5 ∨ W = 6 := by omega
    rcases step_up hw hW h0 with ⟨_, e, h1⟩ | ⟨_, e⟩
    · have e2 : (stepI W T k way).toNat - k = 1 := by omega
      rw [e2]
      rcases hw' with rfl | rfl | rfl | rfl | rfl | rfl <;> simp at hs ⊢ <;> omega
    · have e2 : (stepI W T k way).toNat - k = W.toNat := by omega
      rw [e2]
      rcases hw' with rfl | rfl | rfl | rfl | rfl | rfl <;> simp at hs ⊢ <;> omega
  · simp at ho

theorem dpOpts_lt {W T : Int} {xs : List Bool} {k s : Nat} (hW : 1 ≤ W) (hW6 : W ≤ 6) (hs : s < 2 ^ W.toNat) : ∀ o ∈ dpOpts W T xs k s, o < 2 ^ W.toNat := by
  intro o ho
  unfold dpOpts at ho
  split at ho
  · simp only [List.mem_singleton] at ho
    subst ho
    exact Nat.lt_of_le_of_lt (Nat.div_le_self _ _) hs
  · simp only [optsTo, List.mem_append, List.nil_append] at ho
    rcases ho with ho | ho
    · exact optW_lt (Or.inl rfl) hW hW6 hs o ho
    · exact optW_lt (Or.inr rfl) hW hW6 hs o ho

/-- A step to the east or to the north, in cases. -/
theorem step_cases {W T : Int} {xs : List Bool} {k s : Nat} {way : Int} (hw : way = 1 ∨ way = 2) (hW : 1 ≤ W) (hW6 : W ≤ 6) (hWT : (xs.length : Int) = W * T) (hk : k < xs.length) :
    (stepI W T k way = -1 ∧ optW W T xs k s way = []) ∨ ∃ d : Nat, 1 ≤ d ∧ d ≤ 6 ∧ stepI W T k way = ((k + d : Nat) : Int) ∧ k + d < xs.length ∧
      (xs.getD (k + d) false = false ∧ optW W T xs k s way = [] ∨ xs.getD (k + d) false = true ∧ s / 2 ^ d % 2 ≠ 0 ∧ optW W T xs k s way = [] ∨ xs.getD (k + d) false = true ∧ s / 2 ^ d % 2 = 0 ∧ optW W T xs k s way = [(s + 2 ^ d) / 2]) := by
  rcases step_bd (W := W) (T := T) (k := (k : Int)) (way := way) hW (by omega) (by omega) with h | ⟨h0, h1⟩
  · left
    exact ⟨h, by unfold optW; rw [h, if_neg (by omega)]⟩
  · right
    obtain ⟨d, hd1, hd6, hd⟩ : ∃ d : Nat, 1 ≤ d ∧ d ≤ 6 ∧ stepI W T k way = ((k + d : Nat) : Int) := by
      rcases step_up hw hW h0 with ⟨_, e, _⟩ | ⟨_, e⟩
      · exact ⟨1, by omega, by omega, by omega⟩
      · exact ⟨W.toNat, by omega, by omega, by omega⟩
    refine ⟨d, hd1, hd6, hd, by omega, ?_⟩
    have e1 : (stepI W T k way).toNat = k + d := by omega
    have e2 : k + d - k = d := by omega
    unfold optW
    rw [e1, e2]
    cases hc : xs.getD (k + d) false
    · left
      exact ⟨rfl, by rw [if_neg (by intro h; exact absurd h.2.1 (by simp))]⟩
    · right
      by_cases hb : s / 2 ^ d % 2 = 0
      · right
        exact ⟨rfl, hb, by rw [if_pos ⟨h0, rfl, hb⟩]⟩
      · left
        exact ⟨rfl, hb, by rw [if_neg (by intro h; exact hb h.2.2)]⟩

theorem pow_le64 {W : Int} (hW : 1 ≤ W) (hW6 : W ≤ 6) : 2 ≤ 2 ^ W.toNat ∧ 2 ^ W.toNat ≤ 64 := by
  have hw' : W = 1 ∨ W = 2 ∨ W = 3 ∨ W = 4 ∨ W = 5 ∨ W = 6 := by omega
  rcases hw' with rfl | rfl | rfl | rfl | rfl | rfl <;> decide

/-- Alike but for multiples of 2^64. -/
def Eqv (a b : Int) : Prop := ∃ z : Int, a = b + z * 18446744073709551616
theorem Eqv.refl (a : Int) : Eqv a a := ⟨0, by omega⟩
theorem Eqv.of {a b : Int} (h : a = b) : Eqv a b := ⟨0, by omega⟩
theorem Eqv.symm {a b : Int} (h : Eqv a b) : Eqv b a := by obtain ⟨z, rfl⟩ := h; exact ⟨-z, by omega⟩
theorem Eqv.trans {a b c : Int} (h : Eqv a b) (k : Eqv b c) : Eqv a c := by obtain ⟨z, rfl⟩ := h; obtain ⟨y, rfl⟩ := k; exact ⟨y + z, by omega⟩
theorem Eqv.add {a b c d : Int} (h : Eqv a b) (k : Eqv c d) : Eqv (a + c) (b + d) := by obtain ⟨z, rfl⟩ := h; obtain ⟨y, rfl⟩ := k; exact ⟨y + z, by omega⟩
theorem Eqv.eq {a b : Int} (h : Eqv a b) (ha : -9223372036854775808 ≤ a ∧ a ≤ 9223372036854775807) (hb : -9223372036854775808 ≤ b ∧ b ≤ 9223372036854775807) : a = b := by
  obtain ⟨z, rfl⟩ := h
  omega

end Go.Proofs.Ytpcajacekmidbaa

/- Contract of impl.coveredAfter. -/
namespace Go.Proofs.Ytpcajacekmidbaa
open Go.RowKit
set_option linter.unusedVariables false
set_option maxRecDepth 100000
set_option linter.unusedSimpArgs false

theorem own_one_litQ1 (w : World) {B : Nat} (x : Int) (hB : B ≤ w.heap.size) : OwnsI (w.alloc (.cells #[.int .i64 x] 3 (0, 0))) B (.slice (some ⟨w.heap.size, 0, none⟩) 1 1) [x] :=
  ⟨by simp, .inr ⟨w.heap.size, 1, #[.int .i64 x], rfl, hB, heap_alloc_new w _, Nat.le_refl _, by decide, by simp, by simp⟩⟩

def coverL (W T : Int) (xs : List Bool) (k s : Nat) : List Int := (dpOpts W T xs k s).map fun o : Nat => (o : Int)
end Go.Proofs.Ytpcajacekmidbaa

/- Plain facts on what a map from numbers to numbers adds up to; and the law for an entry laid by a literal. No statement is proved here. -/
namespace Go.Proofs.Ytpcajacekmidbaa
open Go.RowKit Go.Maps
set_option linter.unusedVariables false
set_option maxRecDepth 100000
set_option linter.unusedSimpArgs false

def kI (z : Int) : Lit := .int .i64 z
/-- Every key is a number from 0 on and less than B. -/
def KeysLt (D : DataW Unit) (B : Nat) : Prop := ∀ kl, Maps.has D kl = true → ∃ z : Nat, kl = kI z ∧ z < B
theorem KeysLt.put {D : DataW Unit} {B z : Nat} (h : KeysLt D B) (hz : z < B) (d : DataW Unit) : KeysLt (D.put (kI z) d) B := by
  intro kl hk
  by_cases e : kl = kI z
  · exact ⟨z, e, hz⟩
  · rw [Maps.has_put_other e] at hk
    exact h kl hk

end Go.Proofs.Ytpcajacekmidbaa

/- Contract of impl.tilingsIn: how many tilings a region has. -/
namespace Go.Proofs.Ytpcajacekmidbaa
open Go.RowKit Go.Maps
set_option linter.unusedVariables false
set_option maxRecDepth 100000
set_option linter.unusedSimpArgs false

theorem wrap64_eqv (a : Int) : Eqv (wrap64 a) a := ⟨-((a + 9223372036854775808) / 18446744073709551616), by unfold wrap64; omega⟩
theorem eqv_put {P a c F : Int} : Eqv (P + (wrap64 (a + c) - a) * F) (P + c * F) := by
  obtain ⟨z, hz⟩ := wrap64_eqv (a + c)
  rw [hz]
  have e : a + c + z * 18446744073709551616 - a = c + z * 18446744073709551616 := by omega
  rw [e, Int.add_mul]
  refine ⟨z * F, ?_⟩
  rw [Int.mul_assoc, Int.mul_comm 18446744073709551616 F, ← Int.mul_assoc]
  omega

def sumTo (f : Nat → Nat) (l : List Nat) (j : Nat) : Nat := ((l.take j).map f).sum
theorem sumTo_succ (f : Nat → Nat) (l : List Nat) (j : Nat) (h : j < l.length) : sumTo f l (j + 1) = sumTo f l j + f (l.getD j 0) := by
  unfold sumTo
  rw [List.take_succ_eq_append_getElem h, List.map_append, List.sum_append]
  simp only [List.map_cons, List.map_nil, List.sum_cons, List.sum_nil, List.getD_eq_getElem?_getD, List.getElem?_eq_getElem h, Option.getD_some]
  omega
theorem sumTo_all (f : Nat → Nat) (l : List Nat) : sumTo f l l.length = (l.map f).sum := by unfold sumTo; rw [List.take_length]

end Go.Proofs.Ytpcajacekmidbaa

namespace Go.Proofs.Ytpcajacekmidbaa
open Go.RowKit Go.Maps
set_option linter.unusedVariables false
set_option maxRecDepth 100000
set_option linter.unusedSimpArgs false

def castL (S : List Nat) : List Int := S.map fun s : Nat => (s : Int)
theorem castL_len (S : List Nat) : (castL S).length = S.length := by simp [castL]
theorem castL_get (S : List Nat) (i : Nat) : (castL S).getD i 0 = ((S.getD i 0 : Nat) : Int) := by
  unfold castL
  rw [List.getD_eq_getElem?_getD, List.getD_eq_getElem?_getD, List.getElem?_map]
  cases S[i]? <;> rfl
theorem castL_snoc (S : List Nat) (o : Nat) : castL (S ++ [o]) = castL S ++ [(o : Int)] := by simp [castL]

def psiN (f : Nat → Nat) (S : List Nat) (C : List Int) : Nat → Int
  | 0 => 0
  | i + 1 => psiN f S C i + C.getD i 0 * (f (S.getD i 0) : Int)

theorem psiN_congr {f : Nat → Nat} {S S' : List Nat} {C C' : List Int} : ∀ {n : Nat}, (∀ i, i < n → S.getD i 0 = S'.getD i 0 ∧ C.getD i 0 = C'.getD i 0) → psiN f S C n = psiN f S' C' n
  | 0, _ => rfl
  | n + 1, h => by
    obtain ⟨h1, h2⟩ := h n (by omega)
    simp only [psiN]
    rw [psiN_congr (n := n) (fun i hi => h i (by omega)), h1, h2]

theorem getD_snoc_lt {α : Type} {l : List α} {x d : α} {i : Nat} (h : i < l.length) : (l ++ [x]).getD i d = l.getD i d := by
  simp [List.getD_eq_getElem?_getD, List.getElem?_append_left h]
theorem getD_snoc_at {α : Type} {l : List α} {x d : α} : (l ++ [x]).getD l.length d = x := by
  simp [List.getD_eq_getElem?_getD]

theorem psiN_snoc {f : Nat → Nat} {S : List Nat} {C : List Int} {s : Nat} {c : Int} (h : C.length = S.length) : psiN f (S ++ [s]) (C ++ [c]) (S.length + 1) = psiN f S C S.length + c * (f s : Int) := by
  simp only [psiN]
  rw [psiN_congr (S' := S) (C' := C) (fun i hi => ⟨getD_snoc_lt hi, getD_snoc_lt (by rw [h]; exact hi)⟩), getD_snoc_at]
  have e : (C ++ [c]).getD S.length 0 = c := by rw [← h]; exact getD_snoc_at
  rw [e]

theorem getD_set_ne {l : List Int} {p i : Nat} {v : Int} (h : i ≠ p) : (l.set p v).getD i 0 = l.getD i 0 := by
  simp [List.getD_eq_getElem?_getD, List.getElem?_set, Ne.symm h]
theorem getD_set_at {l : List Int} {p : Nat} {v : Int} (h : p < l.length) : (l.set p v).getD p 0 = v := by
  simp [List.getD_eq_getElem?_getD, List.getElem?_set, h]

theorem psiN_set {f : Nat → Nat} {S : List Nat} {C : List Int} {p : Nat} {v : Int} (hp : p < C.length) : ∀ {n : Nat}, p < n → psiN f S (C.set p v) n = psiN f S C n + (v - C.getD p 0) * (f (S.getD p 0) : Int)
  | 0, h => absurd h (Nat.not_lt_zero _)
  | n + 1, h => by
    simp only [psiN]
    by_cases e : p = n
    · subst e
      rw [psiN_congr (S' := S) (C' := C) (fun i hi => ⟨rfl, getD_set_ne (by omega)⟩), getD_set_at hp, Int.sub_mul]
      omega
    · rw [psiN_set hp (n := n) (by omega), getD_set_ne (fun h => e h.symm)]
      omega

/-- One more way at an entry that is there, or that was just laid with none. -/
theorem psiN_add {f : Nat → Nat} {S : List Nat} {C : List Int} {p o : Nat} {c : Int} (hp : p < S.length) (hl : C.length = S.length) (ho : S.getD p 0 = o) :
    Eqv (psiN f S (C.set p (wrap64 (C.getD p 0 + c))) S.length) (psiN f S C S.length + c * (f o : Int)) := by
  rw [psiN_set (by omega) hp, ho]
  exact eqv_put
theorem psiN_new {f : Nat → Nat} {S : List Nat} {C : List Int} {o : Nat} (hl : C.length = S.length) : psiN f (S ++ [o]) (C ++ [0]) (S.length + 1) = psiN f S C S.length := by
  rw [psiN_snoc hl]; omega

/-- Two rows are apart. -/
def Sep (v u : Value) : Prop := ∀ b, v.ownBlock = some b → u.ownBlock ≠ some b
theorem Sep.symm {v u : Value} (h : Sep v u) : Sep u v := fun b hb hv => h b hv hb
theorem Sep.new {w : World} {B : Nat} {v u v' : Value} {xs : List Int} (h : Sep v u) (hu : OwnsI w B u xs) (hloc : v'.ownBlock = v.ownBlock ∨ v'.ownBlock = some w.heap.size) : Sep v' u := by
  intro b hb hu'
  rcases hloc with e | e
  · exact h b (by rw [← e]; exact hb) hu'
  · rw [e] at hb
    have e2 := Option.some.inj hb
    have := OwnsI.blkLt hu b hu'
    omega
theorem OwnsI.keptSep {w w' : World} {B : Nat} {u v : Value} {xs : List Int} (h : OwnsI w B u xs) (hg : w.grownBy w' v.ownBlock) (hs : Sep v u) : OwnsI w' B u xs := by
  refine World.ownsRow.kept h hg ?_
  cases hu : u.ownBlock with
  | none => exact Or.inl rfl
  | some b =>
    right
    intro e
    exact hs b e.symm hu
theorem OwnsI.later' {w w' : World} {B : Nat} {v : Value} {xs : List Int} (h : OwnsI w B v xs) (hb : Below w.heap.size w w') : OwnsI w' B v xs := h.below hb
theorem OwnsI.drew1 {w : World} {B : Nat} {v : Value} {xs : List Int} (h : OwnsI w B v xs) : OwnsI w.drew B v xs := h
theorem Sep.of_base {w w' : World} {B : Nat} {v u : Value} {xs ys : List Int} (hv : OwnsI w B v xs) (hu : OwnsI w' w.heap.size u ys) : Sep v u := by
  intro b hb hu'
  have h1 := OwnsI.blkLt hv b hb
  have h2 := (World.ownsRow.lt hu b hu').1
  omega

theorem step_old {f : Nat → Nat} {S : List Nat} {C : List Int} {p o q : Nat} {c P : Int} {l : List Nat} (hl : C.length = S.length) (h : Eqv (psiN f S C S.length) (P + c * (sumTo f l q : Int))) (hq : q < l.length) (ho : o = l.getD q 0) (hp : p < S.length) (hpo : S.getD p 0 = o) :
    Eqv (psiN f S (C.set p (wrap64 (C.getD p 0 + c))) S.length) (P + c * (sumTo f l (q + 1) : Int)) := by
  refine (psiN_add hp hl hpo).trans ?_
  rw [sumTo_succ f l q hq, ← ho, Int.natCast_add, Int.mul_add, ← Int.add_assoc]
  exact h.add (Eqv.refl _)
theorem step_new {f : Nat → Nat} {S : List Nat} {C : List Int} {o q : Nat} {c P : Int} {l : List Nat} (hl : C.length = S.length) (h : Eqv (psiN f S C S.length) (P + c * (sumTo f l q : Int))) (hq : q < l.length) (ho : o = l.getD q 0) :
    Eqv (psiN f (S ++ [o]) ((C ++ [0]).set S.length (wrap64 c)) (S ++ [o]).length) (P + c * (sumTo f l (q + 1) : Int)) := by
  have e1 : (C ++ [0]).getD S.length 0 = (0 : Int) := by rw [← hl]; exact getD_snoc_at
  have e2 : (S ++ [o]).length = S.length + 1 := by simp
  have h1 := step_old (f := f) (S := S ++ [o]) (C := C ++ [0]) (p := S.length) (o := o) (q := q) (c := c) (P := P) (l := l) (by simp [hl]) (by rw [e2, psiN_new hl]; exact h) hq ho (by simp) getD_snoc_at
  rw [e1, Int.zero_add] at h1
  exact h1
theorem bound_snoc {S : List Nat} {o B : Nat} (h : ∀ q, q < S.length → S.getD q 0 < B) (ho : o < B) : ∀ q, q < (S ++ [o]).length → (S ++ [o]).getD q 0 < B := by
  intro q hq
  by_cases e : q < S.length
  · rw [getD_snoc_lt e]; exact h q e
  · have : q = S.length := by simp at hq; omega
    subst this
    rw [getD_snoc_at]; exact ho

end Go.Proofs.Ytpcajacekmidbaa

namespace Go.Proofs.Ytpcajacekmidbaa
open Go.RowKit
set_option linter.unusedVariables false
set_option maxRecDepth 100000
set_option linter.unusedSimpArgs false

theorem own_nil_lit (w : World) {B : Nat} (hB : B ≤ w.heap.size) : OwnsI (w.alloc (.cells #[] 3 (0, 0))) B (.slice (some ⟨w.heap.size, 0, none⟩) 0 0) [] :=
  World.ownsRow_made w #[] 0 hB (Nat.zero_le _) rfl

end Go.Proofs.Ytpcajacekmidbaa
