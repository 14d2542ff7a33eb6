/- Counting tilings cell by cell: the sets of covered later cells, what a map of numbers adds up to, and the contracts of impl.coveredAfter and impl.tilingsIn. No statement is proved here. -/
import Derived.Test.YtngececngelohaaStep
import Derived.Test.YtngececngelohaaLayOne
import Derived.Test.YtngececngelohaaInts
import Derived.Maps.RangeWalk
import Derived.Maps.OwnOps
import Derived.Maps.Ext

/- Plain facts on counting tilings cell by cell: the sets of covered later cells, how many ways lead from one to the end; no statement is proved here. -/
namespace Go.Proofs.Ytngececngelohaa
open Go.RowKit
set_option linter.unusedVariables false
set_option maxRecDepth 100000
set_option linter.unusedSimpArgs false

/-- Where a domino from a cell in a direction leads, as far as the other cell belongs to the region and is not covered: the set of what is covered then. -/
def optW (W T : Int) (xs : List Bool) (k s : Nat) (way : Int) : List Nat :=
  if 0 ≤ stepI W T k way ∧ xs.getD (stepI W T k way).toNat false = true ∧ s / 2 ^ ((stepI W T k way).toNat - k) % 2 = 0 then [(s + 2 ^ ((stepI W T k way).toNat - k)) / 2] else []
def optsTo (W T : Int) (xs : List Bool) (k s : Nat) : Nat → List Nat
  | 0 => []
  | j + 1 => optsTo W T xs k s j ++ optW W T xs k s ((j : Int) + 1)
def dpOpts (W T : Int) (xs : List Bool) (k s : Nat) : List Nat :=
  if xs.getD k false = false ∨ s % 2 = 1 then [s / 2] else optsTo W T xs k s 2

def dpN (W T : Int) (xs : List Bool) : Nat → Nat → Nat → Nat
  | 0, _, s => if s = 0 then 1 else 0
  | m + 1, k, s => ((dpOpts W T xs k s).map (dpN W T xs m (k + 1))).sum
/-- How many tilings a region has. -/
def dpT (W T : Int) (xs : List Bool) : Nat := dpN W T xs xs.length 0 0

theorem optW_le (W T : Int) (xs : List Bool) (k s : Nat) (way : Int) : (optW W T xs k s way).length ≤ 1 := by
  unfold optW; split <;> simp
theorem optsTo_le (W T : Int) (xs : List Bool) (k s j : Nat) : (optsTo W T xs k s j).length ≤ j := by
  induction j with
  | zero => simp [optsTo]
  | succ j ih => have := optW_le W T xs k s ((j : Int) + 1); simp only [optsTo, List.length_append]; omega
theorem dpOpts_le (W T : Int) (xs : List Bool) (k s : Nat) : (dpOpts W T xs k s).length ≤ 2 := by
  unfold dpOpts
  split
  · simp
  · exact optsTo_le W T xs k s 2

theorem sum_le_len {f : Nat → Nat} {B : Nat} : ∀ {l : List Nat}, (∀ x ∈ l, f x ≤ B) → (l.map f).sum ≤ l.length * B
  | [], _ => by simp
  | x :: r, h => by
    have h1 := h x (by simp)
    have h2 := sum_le_len (l := r) (fun y hy => h y (by simp [hy]))
    simp only [List.map_cons, List.sum_cons, List.length_cons, Nat.add_mul, Nat.one_mul]
    omega

theorem dpN_le (W T : Int) (xs : List Bool) : ∀ (m k s : Nat), dpN W T xs m k s ≤ 2 ^ m
  | 0, k, s => by unfold dpN; split <;> simp
  | m + 1, k, s => by
    unfold dpN
    have h1 := sum_le_len (f := dpN W T xs m (k + 1)) (B := 2 ^ m) (l := dpOpts W T xs k s) (fun x _ => dpN_le W T xs m (k + 1) x)
    have h2 := Nat.mul_le_mul_right (2 ^ m) (dpOpts_le W T xs k s)
    have h3 : 2 ^ (m + 1) = 2 * 2 ^ m := by rw [Nat.pow_succ, Nat.mul_comm]
    omega

theorem dpT_le {W T : Int} {xs : List Bool} (h : xs.length ≤ 36) : dpT W T xs ≤ 68719476736 := by
  have h1 := dpN_le W T xs xs.length 0 0
  have h2 : (2 : Nat) ^ xs.length ≤ 2 ^ 36 := Nat.pow_le_pow_right (by decide) h
  have h3 : (2 : Nat) ^ 36 = 68719476736 := by decide
  unfold dpT; omega

/-- A step to the east or to the north leads to a later cell. -/
theorem step_up {W T : Int} {k : Nat} {way : Int} (hw : way = 1 ∨ way = 2) (hW : 1 ≤ W) (h : 0 ≤ stepI W T k way) : (way = 1 ∧ stepI W T k way = k + 1 ∧ 1 < W) ∨ (way = 2 ∧ stepI W T k way = k + W) := by
  rcases hw with rfl | rfl
  · left
    unfold stepI at h ⊢
    split at h
    · rename_i h1
      refine ⟨rfl, by rw [if_pos h1], ?_⟩
      have := Int.emod_nonneg (k : Int) (b := W) (by omega)
      omega
    · simp at h
  · right
    unfold stepI at h ⊢
    simp at h ⊢
    split at h
    · rename_i h1
      intro h2; omega
    · simp at h

/-- .. and a set of covered cells stays among as many later cells as the field is wide. -/
theorem optW_lt {W T : Int} {xs : List Bool} {k s : Nat} {way : Int} (hw : way = 1 ∨ way = 2) (hW : 1 ≤ W) (hW6 : W ≤ 6) (hs : s < 2 ^ W.toNat) : ∀ o ∈ optW W T xs k s way, o < 2 ^ W.toNat := by
  intro o ho
  unfold optW at ho
  split at ho
  · rename_i h
    obtain ⟨h0, _, _⟩ := h
    simp only [List.mem_singleton] at ho
    subst ho
    have hw' : W = 1 ∨ W = 2 ∨ W = 3 ∨ W = 4 ∨ W = 5 ∨ W = 6 := by omega
    rcases step_up hw hW h0 with ⟨_, e, h1⟩ | ⟨_, e⟩
    · have e2 : (stepI W T k way).toNat - k = 1 := by omega
      rw [e2]
      rcases hw' with rfl | rfl | rfl | rfl | rfl | rfl <;> simp at hs ⊢ <;> omega
    · have e2 : (stepI W T k way).toNat - k = W.toNat := by omega
      rw [e2]
      rcases hw' with rfl | rfl | rfl | rfl | rfl | rfl <;> simp at hs ⊢ <;> omega
  · simp at ho

theorem dpOpts_lt {W T : Int} {xs : List Bool} {k s : Nat} (hW : 1 ≤ W) (hW6 : W ≤ 6) (hs : s < 2 ^ W.toNat) : ∀ o ∈ dpOpts W T xs k s, o < 2 ^ W.toNat := by
  intro o ho
  unfold dpOpts at ho
  split at ho
  · simp only [List.mem_singleton] at ho
    subst ho
    exact Nat.lt_of_le_of_lt (Nat.div_le_self _ _) hs
  · simp only [optsTo, List.mem_append, List.nil_append] at ho
    rcases ho with ho | ho
    · exact optW_lt (Or.inl rfl) hW hW6 hs o ho
    · exact optW_lt (Or.inr rfl) hW hW6 hs o ho

/-- A step to the east or to the north, in cases. -/
theorem step_cases {W T : Int} {xs : List Bool} {k s : Nat} {way : Int} (hw : way = 1 ∨ way = 2) (hW : 1 ≤ W) (hW6 : W ≤ 6) (hWT : (xs.length : Int) = W * T) (hk : k < xs.length) :
    (stepI W T k way = -1 ∧ optW W T xs k s way = []) ∨ ∃ d : Nat, 1 ≤ d ∧ d ≤ 6 ∧ stepI W T k way = ((k + d : Nat) : Int) ∧ k + d < xs.length ∧
      (xs.getD (k + d) false = false ∧ optW W T xs k s way = [] ∨ xs.getD (k + d) false = true ∧ s / 2 ^ d % 2 ≠ 0 ∧ optW W T xs k s way = [] ∨ xs.getD (k + d) false = true ∧ s / 2 ^ d % 2 = 0 ∧ optW W T xs k s way = [(s + 2 ^ d) / 2]) := by
  rcases step_bd (W := W) (T := T) (k := (k : Int)) (way := way) hW (by omega) (by omega) with h | ⟨h0, h1⟩
  · left
    exact ⟨h, by unfold optW; rw [h, if_neg (by omega)]⟩
  · right
    obtain ⟨d, hd1, hd6, hd⟩ : ∃ d : Nat, 1 ≤ d ∧ d ≤ 6 ∧ stepI W T k way = ((k + d : Nat) : Int) := by
      rcases step_up hw hW h0 with ⟨_, e, _⟩ | ⟨_, e⟩
      · exact ⟨1, by omega, by omega, by omega⟩
      · exact ⟨W.toNat, by omega, by omega, by omega⟩
    refine ⟨d, hd1, hd6, hd, by omega, ?_⟩
    have e1 : (stepI W T k way).toNat = k + d := by omega
    have e2 : k + d - k = d := by omega
    unfold optW
    rw [e1, e2]
    cases hc : xs.getD (k + d) false
    · left
      exact ⟨rfl, by rw [if_neg (by intro h; exact absurd h.2.1 (by simp))]⟩
    · right
      by_cases hb : s / 2 ^ d % 2 = 0
      · right
        exact ⟨rfl, hb, by rw [if_pos ⟨h0, rfl, hb⟩]⟩
      · left
        exact ⟨rfl, hb, by rw [if_neg (by intro h; exact hb h.2.2)]⟩

theorem pow_le64 {W : Int} (hW : 1 ≤ W) (hW6 : W ≤ 6) : 2 ≤ 2 ^ W.toNat ∧ 2 ^ W.toNat ≤ 64 := by
  have hw' : W = 1 ∨ W = 2 ∨ W = 3 ∨ W = 4 ∨ W = 5 ∨ W = 6 := by omega
  rcases hw' with rfl | rfl | rfl | rfl | rfl | rfl <;> decide

/-- Alike but for multiples of 2^64. -/
def Eqv (a b : Int) : Prop := ∃ z : Int, a = b + z * 18446744073709551616
theorem Eqv.refl (a : Int) : Eqv a a := ⟨0, by omega⟩
theorem Eqv.of {a b : Int} (h : a = b) : Eqv a b := ⟨0, by omega⟩
theorem Eqv.symm {a b : Int} (h : Eqv a b) : Eqv b a := by obtain ⟨z, rfl⟩ := h; exact ⟨-z, by omega⟩
theorem Eqv.trans {a b c : Int} (h : Eqv a b) (k : Eqv b c) : Eqv a c := by obtain ⟨z, rfl⟩ := h; obtain ⟨y, rfl⟩ := k; exact ⟨y + z, by omega⟩
theorem Eqv.add {a b c d : Int} (h : Eqv a b) (k : Eqv c d) : Eqv (a + c) (b + d) := by obtain ⟨z, rfl⟩ := h; obtain ⟨y, rfl⟩ := k; exact ⟨y + z, by omega⟩
theorem Eqv.mul {a b : Int} (h : Eqv a b) (c : Int) : Eqv (a * c) (b * c) := by
  obtain ⟨z, rfl⟩ := h
  exact ⟨z * c, by rw [Int.add_mul, Int.mul_assoc, Int.mul_assoc, Int.mul_comm 18446744073709551616 c]⟩
theorem wrap_eqv (a : Int) : Eqv (IntKind.i64.wrap a) a := by
  refine ⟨-((a + 9223372036854775808) / 18446744073709551616), ?_⟩
  simp [IntKind.wrap, IntKind.signed, IntKind.bits]
  omega
theorem Eqv.eq {a b : Int} (h : Eqv a b) (ha : -9223372036854775808 ≤ a ∧ a ≤ 9223372036854775807) (hb : -9223372036854775808 ≤ b ∧ b ≤ 9223372036854775807) : a = b := by
  obtain ⟨z, rfl⟩ := h
  omega

end Go.Proofs.Ytngececngelohaa

/- Contract of impl.coveredAfter. -/
namespace Go.Proofs.Ytngececngelohaa
open Go.RowKit
set_option linter.unusedVariables false
set_option maxRecDepth 100000
set_option linter.unusedSimpArgs false

theorem bits_odd : ∀ s : Fin 64, bits BinOp.and IntKind.i64 ((s.val : Nat) : Int) 1 = ((s.val % 2 : Nat) : Int) := by decide +kernel
theorem bits_free : ∀ s : Fin 64, ∀ d : Fin 7, s.val / 2 ^ d.val % 2 = 0 → bits BinOp.and IntKind.i64 ((s.val : Nat) : Int) ((2 ^ d.val : Nat) : Int) = 0 := by decide +kernel
theorem bits_set : ∀ s : Fin 64, ∀ d : Fin 7, s.val / 2 ^ d.val % 2 ≠ 0 → bits BinOp.and IntKind.i64 ((s.val : Nat) : Int) ((2 ^ d.val : Nat) : Int) = ((2 ^ d.val : Nat) : Int) := by decide +kernel
theorem bits_or : ∀ s : Fin 64, ∀ d : Fin 7, s.val / 2 ^ d.val % 2 = 0 → bits BinOp.or IntKind.i64 ((s.val : Nat) : Int) ((2 ^ d.val : Nat) : Int) = ((s.val + 2 ^ d.val : Nat) : Int) := by decide +kernel

theorem own_one_lit (w : World) {B : Nat} (x : Int) (hB : B ≤ w.heap.size) : OwnsI (w.alloc (.cells #[.int .i64 x] 3 (0, 0))) B (.slice (some ⟨w.heap.size, 0, none⟩) 1 1) [x] :=
  ⟨by simp, .inr ⟨w.heap.size, 1, #[.int .i64 x], rfl, hB, heap_alloc_new w _, Nat.le_refl _, by decide, by simp, by simp⟩⟩

theorem wrap_pow {d : Nat} (h1 : 1 ≤ d) (h6 : d ≤ 6) : wrap64 ((2 : Int) ^ d) = ((2 ^ d : Nat) : Int) := by
  have : d = 1 ∨ d = 2 ∨ d = 3 ∨ d = 4 ∨ d = 5 ∨ d = 6 := by omega
  rcases this with rfl | rfl | rfl | rfl | rfl | rfl <;> decide +kernel
theorem guard_set {s d : Nat} (hs : s < 64) (h1 : 1 ≤ d) (h6 : d ≤ 6) (h : s / 2 ^ d % 2 ≠ 0) : (bits BinOp.and IntKind.i64 (s : Int) (wrap64 ((2 : Int) ^ d)) == 0) = false := by
  have b := bits_set ⟨s, hs⟩ ⟨d, by omega⟩ h
  simp only at b
  have p := Nat.two_pow_pos d
  rw [wrap_pow h1 h6, b]
  simp only [beq_eq_false_iff_ne]
  omega
theorem guard_free {s d : Nat} (hs : s < 64) (h1 : 1 ≤ d) (h6 : d ≤ 6) (h : s / 2 ^ d % 2 = 0) : (bits BinOp.and IntKind.i64 (s : Int) (wrap64 ((2 : Int) ^ d)) == 0) = true := by
  have b := bits_free ⟨s, hs⟩ ⟨d, by omega⟩ h
  simp only at b
  rw [wrap_pow h1 h6, b]
  rfl
theorem or_free {s d : Nat} (hs : s < 64) (h1 : 1 ≤ d) (h6 : d ≤ 6) (h : s / 2 ^ d % 2 = 0) : bits BinOp.or IntKind.i64 (s : Int) (wrap64 ((2 : Int) ^ d)) / 2 = (((s + 2 ^ d) / 2 : Nat) : Int) := by
  have b := bits_or ⟨s, hs⟩ ⟨d, by omega⟩ h
  simp only at b
  rw [wrap_pow h1 h6, b]
  omega

theorem idx_way0 (w : World) : (Instr.index 56 (.agg #[.int .i64 1, .int .i64 2]) (.int .i64 0)).run Try.prog w = .ok (.int .i64 1) w := by kernel_rfl
theorem idx_way1 (w : World) : (Instr.index 56 (.agg #[.int .i64 1, .int .i64 2]) (.int .i64 1)).run Try.prog w = .ok (.int .i64 2) w := by kernel_rfl

def coverL (W T : Int) (xs : List Bool) (k s : Nat) : List Int := (dpOpts W T xs k s).map fun o : Nat => (o : Int)
def optsL (W T : Int) (xs : List Bool) (k s j : Nat) : List Int := (optsTo W T xs k s j).map fun o : Nat => (o : Int)

theorem optsL_le (W T : Int) (xs : List Bool) (k s j : Nat) : (optsL W T xs k s j).length ≤ j := by unfold optsL; rw [List.length_map]; exact optsTo_le W T xs k s j

end Go.Proofs.Ytngececngelohaa

/- Plain facts on what a map from numbers to numbers adds up to; and the law for an entry laid by a literal. No statement is proved here. -/
namespace Go.Proofs.Ytngececngelohaa
open Go.RowKit Go.Maps
set_option linter.unusedVariables false
set_option maxRecDepth 100000
set_option linter.unusedSimpArgs false

def litN : Lit → Nat
  | .int _ z => z.toNat
  | _ => 0
def datI : DataW Unit → Int
  | .lit (.int _ z) => z
  | _ => 0
def phiL (f : Nat → Nat) (left : Lit → Bool) : List (Lit × DataW Unit) → Int
  | [] => 0
  | p :: r => (if left p.1 then datI p.2 * (f (litN p.1) : Int) else 0) + phiL f left r
def phi (f : Nat → Nat) (left : Lit → Bool) : DataW Unit → Int
  | .map es => phiL f left es
  | _ => 0
def allKy (_ : Lit) : Bool := true
def kI (z : Int) : Lit := .int .i64 z
def dI (z : Int) : DataW Unit := .lit (.int .i64 z)

theorem phiL_insert (f : Nat → Nat) (left : Lit → Bool) (x : Lit × DataW Unit) : ∀ l : List (Lit × DataW Unit), phiL f left (DataW.insert x l) = (if left x.1 then datI x.2 * (f (litN x.1) : Int) else 0) + phiL f left l
  | [] => rfl
  | y :: r => by
    unfold DataW.insert
    split
    · rfl
    · simp only [phiL]
      rw [phiL_insert f left x r]
      omega

def found (f : Nat → Nat) (left : Lit → Bool) (k : Lit) (es : List (Lit × DataW Unit)) : Int :=
  match es.find? (fun p => p.1.sameKey k) with
  | some p => if left p.1 then datI p.2 * (f (litN p.1) : Int) else 0
  | none => 0

theorem phiL_filter (f : Nat → Nat) (left : Lit → Bool) (k : Lit) : ∀ es : List (Lit × DataW Unit), es.Pairwise (fun p q => p.1 ≠ q.1) →
    phiL f left es = phiL f left (es.filter fun p => !p.1.sameKey k) + found f left k es
  | [], _ => rfl
  | y :: r, h => by
    obtain ⟨h1, h2⟩ := List.pairwise_cons.1 h
    have ih := phiL_filter f left k r h2
    cases hy : y.1.sameKey k
    · have e1 : found f left k (y :: r) = found f left k r := by unfold found; simp [hy]
      rw [e1]
      simp only [List.filter_cons, hy, Bool.not_false, if_true, phiL]
      rw [ih]
      omega
    · have e0 : found f left k r = 0 := by
        unfold found
        rw [List.find?_eq_none.2 (fun p hp => ?_)]
        intro hs
        exact h1 p hp (by rw [WideAt.sameKey_eq hy, WideAt.sameKey_eq hs])
      have e1 : found f left k (y :: r) = if left y.1 then datI y.2 * (f (litN y.1) : Int) else 0 := by unfold found; simp [hy]
      rw [e1]
      simp only [List.filter_cons, hy, Bool.not_true, Bool.false_eq_true, if_false, phiL]
      rw [ih, e0]
      omega

theorem phi_put {f : Nat → Nat} {D : DataW Unit} {z c c' : Int} (hT : Tidy D) (hat : D.atKey (kI z) (dI 0) = dI c) :
    phi f allKy (D.put (kI z) (dI c')) = phi f allKy D + (c' - c) * (f z.toNat : Int) := by
  obtain ⟨es, rfl, hp⟩ := hT
  show phiL f allKy (DataW.insert (kI z, dI c') (es.filter fun p => !p.1.sameKey (kI z))) = phiL f allKy es + _
  rw [phiL_insert, phiL_filter f allKy (kI z) es hp]
  have hf : found f allKy (kI z) es = c * (f z.toNat : Int) := by
    unfold found
    have hat' := hat
    simp only [DataW.atKey] at hat'
    cases hq : es.find? (fun p => p.1.sameKey (kI z)) with
    | none =>
      rw [hq] at hat'
      have : (0 : Int) = c := by simpa [dI] using hat'
      simp [← this]
    | some p =>
      rw [hq] at hat'
      have hk : p.1 = kI z := WideAt.sameKey_eq (by simpa using List.find?_some hq)
      simp only at hat'
      simp [hk, hat', allKy, datI, dI, litN, kI]
  rw [hf]
  have e : (if allKy (kI z, dI c').1 = true then datI (kI z, dI c').2 * (f (litN (kI z, dI c').1) : Int) else 0) = c' * (f z.toNat : Int) := by simp [allKy, datI, dI, litN, kI]
  rw [e, Int.sub_mul]
  omega

theorem phiL_congr {f : Nat → Nat} {left left' : Lit → Bool} : ∀ {es : List (Lit × DataW Unit)}, (∀ p ∈ es, left p.1 = left' p.1) → phiL f left es = phiL f left' es
  | [], _ => rfl
  | y :: r, h => by
    simp only [phiL]
    rw [h y (by simp), phiL_congr (es := r) (fun p hp => h p (by simp [hp]))]

theorem phiL_strike {f : Nat → Nat} {left : Lit → Bool} {k : Lit} : ∀ es : List (Lit × DataW Unit), phiL f (fun x => left x && !x.sameKey k) es = phiL f left (es.filter fun p => !p.1.sameKey k)
  | [] => rfl
  | y :: r => by
    have ih := phiL_strike (f := f) (left := left) (k := k) r
    cases hy : y.1.sameKey k
    · simp only [List.filter_cons, hy, Bool.not_false, if_true, phiL, Bool.and_true, ih]
    · simp only [List.filter_cons, hy, Bool.not_true, Bool.false_eq_true, if_false, phiL, Bool.and_false, ih]
      omega

theorem phi_left {f : Nat → Nat} {left : Lit → Bool} {D : DataW Unit} {z c : Int} (hT : Tidy D) (hl : left (kI z) = true) (hat : ∀ zd, D.atKey (kI z) zd = dI c) :
    phi f left D = c * (f z.toNat : Int) + phi f (fun x => left x && !x.sameKey (kI z)) D := by
  obtain ⟨es, rfl, hp⟩ := hT
  show phiL f left es = _ + phiL f _ es
  rw [phiL_strike, phiL_filter f left (kI z) es hp]
  have hf : found f left (kI z) es = c * (f z.toNat : Int) := by
    unfold found
    have hat' := hat
    simp only [DataW.atKey] at hat'
    cases hq : es.find? (fun p => p.1.sameKey (kI z)) with
    | none =>
      simp only [hq] at hat'
      have h0 := hat' (dI (c + 1))
      have : c + 1 = c := by simpa [dI] using h0
      omega
    | some p =>
      simp only [hq] at hat'
      have hk : p.1 = kI z := WideAt.sameKey_eq (by simpa using List.find?_some hq)
      have h0 := hat' (dI 0)
      simp [hk, h0, hl, datI, dI, litN]
      simp [kI]
  omega

theorem phi_none {f : Nat → Nat} {left : Lit → Bool} {D : DataW Unit} (h : ∀ kl, left kl = false) : phi f left D = 0 := by
  cases D <;> try rfl
  rename_i es
  show phiL f left es = 0
  induction es with
  | nil => rfl
  | cons y r ih => simp [phiL, h y.1, ih]

theorem phi_has {f : Nat → Nat} {D : DataW Unit} {es : List (Lit × DataW Unit)} (e : D = .map es) (hk : ∀ p ∈ es, WideAt.IsKeyLit p.1) : phi f (Maps.has D) D = phi f allKy D := by
  subst e
  refine phiL_congr fun p hp => ?_
  show es.any (fun q => q.1.sameKey p.1) = true
  exact List.any_eq_true.2 ⟨p, hp, WideAt.sameKey_self (hk p hp)⟩

/-- Every key is a number from 0 on and less than B. -/
def KeysLt (D : DataW Unit) (B : Nat) : Prop := ∀ kl, Maps.has D kl = true → ∃ z : Nat, kl = kI z ∧ z < B
theorem keys_empty (B : Nat) : KeysLt (.map []) B := fun kl h => by cases h
theorem KeysLt.put {D : DataW Unit} {B z : Nat} (h : KeysLt D B) (hz : z < B) (d : DataW Unit) : KeysLt (D.put (kI z) d) B := by
  intro kl hk
  by_cases e : kl = kI z
  · exact ⟨z, e, hz⟩
  · rw [Maps.has_put_other e] at hk
    exact h kl hk

theorem phi_end {D : DataW Unit} {B : Nat} {c : Int} (hT : Tidy D) (hkey : ∀ es, D = .map es → ∀ p ∈ es, WideAt.IsKeyLit p.1) (hK : KeysLt D B) (hat : D.atKey (kI 0) (dI 0) = dI c) :
    phi (fun s => if s = 0 then 1 else 0) allKy D = c := by
  obtain ⟨es, rfl, hp⟩ := hT
  have hk := hkey es rfl
  show phiL _ allKy es = c
  rw [phiL_filter _ allKy (kI 0) es hp]
  have hf : found (fun s => if s = 0 then 1 else 0) allKy (kI 0) es = c := by
    unfold found
    have hat' := hat
    simp only [DataW.atKey] at hat'
    cases hq : es.find? (fun p => p.1.sameKey (kI 0)) with
    | none =>
      rw [hq] at hat'
      simpa [dI] using hat'
    | some p =>
      rw [hq] at hat'
      have hkk : p.1 = kI 0 := WideAt.sameKey_eq (by simpa using List.find?_some hq)
      simp only at hat'
      simp [hkk, hat', allKy, datI, dI, litN, kI]
  have h0 : ∀ l : List (Lit × DataW Unit), (∀ p ∈ l, p ∈ es ∧ p.1.sameKey (kI 0) = false) → phiL (fun s => if s = 0 then 1 else 0) allKy l = 0 := by
    intro l
    induction l with
    | nil => intro _; rfl
    | cons y r ih =>
      intro h
      obtain ⟨hy, hs⟩ := h y (by simp)
      obtain ⟨z, hz, _⟩ := hK y.1 (List.any_eq_true.2 ⟨y, hy, WideAt.sameKey_self (hk y hy)⟩)
      have hz0 : z ≠ 0 := by
        rintro rfl
        rw [hz] at hs
        simp [kI, Lit.sameKey] at hs
      simp only [phiL]
      rw [ih (fun p hp => h p (by simp [hp])), hz]
      simp [allKy, litN, kI, hz0]
  rw [h0 _ (fun p hp => ⟨(List.mem_filter.1 hp).1, by simpa using (List.mem_filter.1 hp).2⟩), hf]
  omega

theorem size_le {w : World} {P : Program} {k : TypeId} {R : Value → Option (DataW Unit × List MemPlace)} {b n : Nat} {D : DataW Unit} (h : w.ownsMap P k R b n D) : Maps.size D ≤ n := by
  obtain ⟨es, clock, hb, F, hs, rfl⟩ := h
  simp only [Maps.size, length_sorted, List.length_map, Array.length_toList]
  exact hs
theorem own_size {w : World} {P : Program} {k : TypeId} {R : Value → Option (DataW Unit × List MemPlace)} {b n : Nat} {D : DataW Unit} (h : w.ownsMap P k R b n D) : w.ownsMap P k R b (Maps.size D) D := by
  obtain ⟨es, clock, hb, F, hs, rfl⟩ := h
  exact ⟨es, clock, hb, F, by simp only [Maps.size, length_sorted, List.length_map, Array.length_toList]; exact Nat.le_refl _, rfl⟩
theorem own_tidy {w : World} {P : Program} {k : TypeId} {K : Keyed P k} {R : Value → Option (DataW Unit × List MemPlace)} {b n : Nat} {D : DataW Unit} (h : w.ownsMap P k R b n D) : Tidy D ∧ ∀ es, D = .map es → ∀ p ∈ es, WideAt.IsKeyLit p.1 := by
  obtain ⟨es, e, h1, h2⟩ := h.entries K
  refine ⟨⟨es, e, h1⟩, fun es' e' => ?_⟩
  rw [e] at e'
  cases e'
  exact h2

/-- An entry laid by a map's literal. -/
theorem wpList_insert_own {H : Type} {P : Program} (w : World) {ops : Array Oper} {rest : List Oper} {o : Oper} {a : Act} {Q : Exit → Act → World → Prop}
    (hg : o.guard = none) (m x v : Operand) (t : TypeId) (hop : o.op = Op.insert t m x v)
    (k e : TypeId) (K : Keyed P k) (ht : P.underlying t = some (.map k e)) (R : Value → Option (DataW H × List MemPlace)) (b n : Nat) (D : DataW H)
    (hm : a.eval m = .map (some b)) (hown : w.ownsMap P k R b n D) (hn : n < maxLen) (key val : Value) (kl : Lit) (hx : a.eval x = key) (hv : a.eval v = val) (hkey : keyOf P k key = some kl)
    (d : DataW H) (ps : List MemPlace) (hval : R val = some (d, ps))
    (hK : ∀ w', w'.ownsMap P k R b (n + 1) (D.put kl d) → w.grownBy w' (some b) → wpList P ops Q rest (a.put o.dst undef) w') :
    wpList P ops Q (o :: rest) a w := by
  refine wpList_plain hg fun K' hK' => ?_
  obtain ⟨w', hrun, r1, r2⟩ := hown.update K ht hn hkey hval
  unfold Oper.wp
  simp [execOp, hop, hm, hx, hv, hrun, Result.andThen]
  exact hK' _ _ (hK w' r1 r2)

end Go.Proofs.Ytngececngelohaa

/- Contract of impl.tilingsIn: how many tilings a region has. -/
namespace Go.Proofs.Ytngececngelohaa
open Go.RowKit Go.Maps
set_option linter.unusedVariables false
set_option maxRecDepth 100000
set_option linter.unusedSimpArgs false

theorem lawI : Keyed Try.prog 3 := int_keyed Try.underlying3
theorem zeroI (w : World) : (zeroValue 3).run Try.prog w = .ok (.int .i64 0) w := by kernel_rfl
def MapW (w : World) (b n : Nat) (D : DataW Unit) : Prop := w.ownsMap Try.prog 3 (plainElem (H := Unit) Try.prog 3) b n D
def RngW (w : World) (b r n : Nat) (D : DataW Unit) (left : Lit → Bool) (cnt : Nat) : Prop := w.ranges Try.prog 3 (plainElem (H := Unit) Try.prog 3) b r n D left cnt

theorem wrap64_eqv (a : Int) : Eqv (wrap64 a) a := ⟨-((a + 9223372036854775808) / 18446744073709551616), by unfold wrap64; omega⟩
theorem eqv_put {P a c F : Int} : Eqv (P + (wrap64 (a + c) - a) * F) (P + c * F) := by
  obtain ⟨z, hz⟩ := wrap64_eqv (a + c)
  rw [hz]
  have e : a + c + z * 18446744073709551616 - a = c + z * 18446744073709551616 := by omega
  rw [e, Int.add_mul]
  refine ⟨z * F, ?_⟩
  rw [Int.mul_assoc, Int.mul_comm 18446744073709551616 F, ← Int.mul_assoc]
  omega

theorem wf_inv {c : Int} (h : (Lit.int .i64 c).wf = true) : -9223372036854775808 ≤ c ∧ c ≤ 9223372036854775807 := by
  simp [Lit.wf, IntKind.min, IntKind.max, IntKind.signed, IntKind.bits] at h
  omega

def sumTo (f : Nat → Nat) (l : List Nat) (j : Nat) : Nat := ((l.take j).map f).sum
theorem sumTo_succ (f : Nat → Nat) (l : List Nat) (j : Nat) (h : j < l.length) : sumTo f l (j + 1) = sumTo f l j + f (l.getD j 0) := by
  unfold sumTo
  rw [List.take_succ_eq_append_getElem h, List.map_append, List.sum_append]
  simp only [List.map_cons, List.map_nil, List.sum_cons, List.sum_nil, List.getD_eq_getElem?_getD, List.getElem?_eq_getElem h, Option.getD_some]
  omega
theorem sumTo_all (f : Nat → Nat) (l : List Nat) : sumTo f l l.length = (l.map f).sum := by unfold sumTo; rw [List.take_length]

theorem insert_start (W T : Int) (xs : List Bool) (m : Nat) : phi (dpN W T xs m 0) allKy ((DataW.map [] : DataW Unit).put (.int .i64 0) (.lit (.int .i64 1))) = (dpN W T xs m 0 0 : Int) := by
  have h := phi_put (f := dpN W T xs m 0) (D := .map []) (z := 0) (c := 0) (c' := 1) tidy_empty rfl
  have e : phi (dpN W T xs m 0) allKy (.map [] : DataW Unit) = 0 := rfl
  rw [e] at h
  simp only [kI, dI] at h
  rw [h]
  simp

end Go.Proofs.Ytngececngelohaa
