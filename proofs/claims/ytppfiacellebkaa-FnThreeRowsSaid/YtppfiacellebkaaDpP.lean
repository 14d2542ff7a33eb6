/- Plain facts on what a map from numbers to numbers adds up to; and the law for an entry laid by a literal. No statement is proved here. -/
import Derived.Test.YtppfiacellebkaaDpM
import Derived.Maps.RangeWalk
import Derived.Maps.OwnOps
import Derived.Maps.Ext
namespace Go.Proofs.Ytppfiacellebkaa
open Go.RowKit Go.Maps
set_option linter.unusedVariables false
set_option maxRecDepth 100000
set_option linter.unusedSimpArgs false

def litN : Lit → Nat
  | .int _ z => z.toNat
  | _ => 0
def datI : DataW Unit → Int
  | .lit (.int _ z) => z
  | _ => 0
def phiL (f : Nat → Nat) (left : Lit → Bool) : List (Lit × DataW Unit) → Int
  | [] => 0
  | p :: r => (if left p.1 then datI p.2 * (f (litN p.1) : Int) else 0) + phiL f left r
def phi (f : Nat → Nat) (left : Lit → Bool) : DataW Unit → Int
  | .map es => phiL f left es
  | _ => 0
def allL (_ : Lit) : Bool := true
def kI (z : Int) : Lit := .int .i64 z
def dI (z : Int) : DataW Unit := .lit (.int .i64 z)

theorem phiL_insert (f : Nat → Nat) (left : Lit → Bool) (x : Lit × DataW Unit) : ∀ l : List (Lit × DataW Unit), phiL f left (DataW.insert x l) = (if left x.1 then datI x.2 * (f (litN x.1) : Int) else 0) + phiL f left l
  | [] => rfl
  | y :: r => by
    unfold DataW.insert
    split
    · rfl
    · simp only [phiL]
      rw [phiL_insert f left x r]
      omega

def found (f : Nat → Nat) (left : Lit → Bool) (k : Lit) (es : List (Lit × DataW Unit)) : Int :=
  match es.find? (fun p => p.1.sameKey k) with
  | some p => if left p.1 then datI p.2 * (f (litN p.1) : Int) else 0
  | none => 0

theorem phiL_filter (f : Nat → Nat) (left : Lit → Bool) (k : Lit) : ∀ es : List (Lit × DataW Unit), es.Pairwise (fun p q => p.1 ≠ q.1) →
    phiL f left es = phiL f left (es.filter fun p => !p.1.sameKey k) + found f left k es
  | [], _ => rfl
  | y :: r, h => by
    obtain ⟨h1, h2⟩ := List.pairwise_cons.1 h
    have ih := phiL_filter f left k r h2
    cases hy : y.1.sameKey k
    · have e1 : found f left k (y :: r) = found f left k r := by unfold found; simp [hy]
      rw [e1]
      simp only [List.filter_cons, hy, Bool.not_false, if_true, phiL]
      rw [ih]
      omega
    · have e0 : found f left k r = 0 := by
        unfold found
        rw [List.find?_eq_none.2 (fun p hp => ?_)]
        intro hs
        exact h1 p hp (by rw [WideAt.sameKey_eq hy, WideAt.sameKey_eq hs])
      have e1 : found f left k (y :: r) = if left y.1 then datI y.2 * (f (litN y.1) : Int) else 0 := by unfold found; simp [hy]
      rw [e1]
      simp only [List.filter_cons, hy, Bool.not_true, Bool.false_eq_true, if_false, phiL]
      rw [ih, e0]
      omega

theorem phi_put {f : Nat → Nat} {D : DataW Unit} {z c c' : Int} (hT : Tidy D) (hat : D.atKey (kI z) (dI 0) = dI c) :
    phi f allL (D.put (kI z) (dI c')) = phi f allL D + (c' - c) * (f z.toNat : Int) := by
  obtain ⟨es, rfl, hp⟩ := hT
  show phiL f allL (DataW.insert (kI z, dI c') (es.filter fun p => !p.1.sameKey (kI z))) = phiL f allL es + _
  rw [phiL_insert, phiL_filter f allL (kI z) es hp]
  have hf : found f allL (kI z) es = c * (f z.toNat : Int) := by
    unfold found
    have hat' := hat
    simp only [DataW.atKey] at hat'
    cases hq : es.find? (fun p => p.1.sameKey (kI z)) with
    | none =>
      rw [hq] at hat'
      have : (0 : Int) = c := by simpa [dI] using hat'
      simp [← this]
    | some p =>
      rw [hq] at hat'
      have hk : p.1 = kI z := WideAt.sameKey_eq (by simpa using List.find?_some hq)
      simp only at hat'
      simp [hk, hat', allL, datI, dI, litN, kI]
  rw [hf]
  have e : (if allL (kI z, dI c').1 = true then datI (kI z, dI c').2 * (f (litN (kI z, dI c').1) : Int) else 0) = c' * (f z.toNat : Int) := by simp [allL, datI, dI, litN, kI]
  rw [e, Int.sub_mul]
  omega

theorem phiL_congr {f : Nat → Nat} {left left' : Lit → Bool} : ∀ {es : List (Lit × DataW Unit)}, (∀ p ∈ es, left p.1 = left' p.1) → phiL f left es = phiL f left' es
  | [], _ => rfl
  | y :: r, h => by
    simp only [phiL]
    rw [h y (by simp), phiL_congr (es := r) (fun p hp => h p (by simp [hp]))]

theorem phiL_strike {f : Nat → Nat} {left : Lit → Bool} {k : Lit} : ∀ es : List (Lit × DataW Unit), phiL f (fun x => left x && !x.sameKey k) es = phiL f left (es.filter fun p => !p.1.sameKey k)
  | [] => rfl
  | y :: r => by
    have ih := phiL_strike (f := f) (left := left) (k := k) r
    cases hy : y.1.sameKey k
    · simp only [List.filter_cons, hy, Bool.not_false, if_true, phiL, Bool.and_true, ih]
    · simp only [List.filter_cons, hy, Bool.not_true, Bool.false_eq_true, if_false, phiL, Bool.and_false, ih]
      omega

theorem phi_left {f : Nat → Nat} {left : Lit → Bool} {D : DataW Unit} {z c : Int} (hT : Tidy D) (hl : left (kI z) = true) (hat : ∀ zd, D.atKey (kI z) zd = dI c) :
    phi f left D = c * (f z.toNat : Int) + phi f (fun x => left x && !x.sameKey (kI z)) D := by
  obtain ⟨es, rfl, hp⟩ := hT
  show phiL f left es = _ + phiL f _ es
  rw [phiL_strike, phiL_filter f left (kI z) es hp]
  have hf : found f left (kI z) es = c * (f z.toNat : Int) := by
    unfold found
    have hat' := hat
    simp only [DataW.atKey] at hat'
    cases hq : es.find? (fun p => p.1.sameKey (kI z)) with
    | none =>
      simp only [hq] at hat'
      have h0 := hat' (dI (c + 1))
      have : c + 1 = c := by simpa [dI] using h0
      omega
    | some p =>
      simp only [hq] at hat'
      have hk : p.1 = kI z := WideAt.sameKey_eq (by simpa using List.find?_some hq)
      have h0 := hat' (dI 0)
      simp [hk, h0, hl, datI, dI, litN]
      simp [kI]
  omega

theorem phi_none {f : Nat → Nat} {left : Lit → Bool} {D : DataW Unit} (h : ∀ kl, left kl = false) : phi f left D = 0 := by
  cases D <;> try rfl
  rename_i es
  show phiL f left es = 0
  induction es with
  | nil => rfl
  | cons y r ih => simp [phiL, h y.1, ih]

theorem phi_has {f : Nat → Nat} {D : DataW Unit} {es : List (Lit × DataW Unit)} (e : D = .map es) (hk : ∀ p ∈ es, WideAt.IsKeyLit p.1) : phi f (Maps.has D) D = phi f allL D := by
  subst e
  refine phiL_congr fun p hp => ?_
  show es.any (fun q => q.1.sameKey p.1) = true
  exact List.any_eq_true.2 ⟨p, hp, WideAt.sameKey_self (hk p hp)⟩

/-- Every key is a number from 0 on and less than B. -/
def KeysLt (D : DataW Unit) (B : Nat) : Prop := ∀ kl, Maps.has D kl = true → ∃ z : Nat, kl = kI z ∧ z < B
theorem keys_empty (B : Nat) : KeysLt (.map []) B := fun kl h => by cases h
theorem KeysLt.put {D : DataW Unit} {B z : Nat} (h : KeysLt D B) (hz : z < B) (d : DataW Unit) : KeysLt (D.put (kI z) d) B := by
  intro kl hk
  by_cases e : kl = kI z
  · exact ⟨z, e, hz⟩
  · rw [Maps.has_put_other e] at hk
    exact h kl hk

theorem phi_end {D : DataW Unit} {B : Nat} {c : Int} (hT : Tidy D) (hkey : ∀ es, D = .map es → ∀ p ∈ es, WideAt.IsKeyLit p.1) (hK : KeysLt D B) (hat : D.atKey (kI 0) (dI 0) = dI c) :
    phi (fun s => if s = 0 then 1 else 0) allL D = c := by
  obtain ⟨es, rfl, hp⟩ := hT
  have hk := hkey es rfl
  show phiL _ allL es = c
  rw [phiL_filter _ allL (kI 0) es hp]
  have hf : found (fun s => if s = 0 then 1 else 0) allL (kI 0) es = c := by
    unfold found
    have hat' := hat
    simp only [DataW.atKey] at hat'
    cases hq : es.find? (fun p => p.1.sameKey (kI 0)) with
    | none =>
      rw [hq] at hat'
      simpa [dI] using hat'
    | some p =>
      rw [hq] at hat'
      have hkk : p.1 = kI 0 := WideAt.sameKey_eq (by simpa using List.find?_some hq)
      simp only at hat'
      simp [hkk, hat', allL, datI, dI, litN, kI]
  have h0 : ∀ l : List (Lit × DataW Unit), (∀ p ∈ l, p ∈ es ∧ p.1.sameKey (kI 0) = false) → phiL (fun s => if s = 0 then 1 else 0) allL l = 0 := by
    intro l
    induction l with
    | nil => intro _; rfl
    | cons y r ih =>
      intro h
      obtain ⟨hy, hs⟩ := h y (by simp)
      obtain ⟨z, hz, _⟩ := hK y.1 (List.any_eq_true.2 ⟨y, hy, WideAt.sameKey_self (hk y hy)⟩)
      have hz0 : z ≠ 0 := by
        rintro rfl
        rw [hz] at hs
        simp [kI, Lit.sameKey] at hs
      simp only [phiL]
      rw [ih (fun p hp => h p (by simp [hp])), hz]
      simp [allL, litN, kI, hz0]
  rw [h0 _ (fun p hp => ⟨(List.mem_filter.1 hp).1, by simpa using (List.mem_filter.1 hp).2⟩), hf]
  omega

theorem size_le {w : World} {P : Program} {k : TypeId} {R : Value → Option (DataW Unit × List MemPlace)} {b n : Nat} {D : DataW Unit} (h : w.ownsMap P k R b n D) : Maps.size D ≤ n := by
  obtain ⟨es, clock, hb, F, hs, rfl⟩ := h
  simp only [Maps.size, length_sorted, List.length_map, Array.length_toList]
  exact hs
theorem own_size {w : World} {P : Program} {k : TypeId} {R : Value → Option (DataW Unit × List MemPlace)} {b n : Nat} {D : DataW Unit} (h : w.ownsMap P k R b n D) : w.ownsMap P k R b (Maps.size D) D := by
  obtain ⟨es, clock, hb, F, hs, rfl⟩ := h
  exact ⟨es, clock, hb, F, by simp only [Maps.size, length_sorted, List.length_map, Array.length_toList]; exact Nat.le_refl _, rfl⟩
theorem own_tidy {w : World} {P : Program} {k : TypeId} {K : Keyed P k} {R : Value → Option (DataW Unit × List MemPlace)} {b n : Nat} {D : DataW Unit} (h : w.ownsMap P k R b n D) : Tidy D ∧ ∀ es, D = .map es → ∀ p ∈ es, WideAt.IsKeyLit p.1 := by
  obtain ⟨es, e, h1, h2⟩ := h.entries K
  refine ⟨⟨es, e, h1⟩, fun es' e' => ?_⟩
  rw [e] at e'
  cases e'
  exact h2

/-- An entry laid by a map's literal. -/
theorem wpList_insert_own {H : Type} {P : Program} (w : World) {ops : Array Oper} {rest : List Oper} {o : Oper} {a : Act} {Q : Exit → Act → World → Prop}
    (hg : o.guard = none) (m x v : Operand) (t : TypeId) (hop : o.op = Op.insert t m x v)
    (k e : TypeId) (K : Keyed P k) (ht : P.underlying t = some (.map k e)) (R : Value → Option (DataW H × List MemPlace)) (b n : Nat) (D : DataW H)
    (hm : a.eval m = .map (some b)) (hown : w.ownsMap P k R b n D) (hn : n < maxLen) (key val : Value) (kl : Lit) (hx : a.eval x = key) (hv : a.eval v = val) (hkey : keyOf P k key = some kl)
    (d : DataW H) (ps : List MemPlace) (hval : R val = some (d, ps))
    (hK : ∀ w', w'.ownsMap P k R b (n + 1) (D.put kl d) → w.grownBy w' (some b) → wpList P ops Q rest (a.put o.dst undef) w') :
    wpList P ops Q (o :: rest) a w := by
  refine wpList_plain hg fun K' hK' => ?_
  obtain ⟨w', hrun, r1, r2⟩ := hown.update K ht hn hkey hval
  unfold Oper.wp
  simp [execOp, hop, hm, hx, hv, hrun, Result.andThen]
  exact hK' _ _ (hK w' r1 r2)

end Go.Proofs.Ytppfiacellebkaa
