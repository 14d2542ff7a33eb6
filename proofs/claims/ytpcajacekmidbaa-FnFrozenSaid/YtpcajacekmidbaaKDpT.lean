/- Counting tilings cell by cell: the sets of covered later cells, what a map of numbers adds up to, and the contracts of impl.coveredAfter and impl.tilingsIn. No statement is proved here. -/
import Derived.Test.YtpcajacekmidbaaKLayOne
import Derived.Maps.RangeWalk
import Derived.Maps.OwnOps
import Derived.Maps.Ext
namespace Go.Proofs.Ytpcajacekmidbaa
open Go.RowKit
set_option linter.unusedVariables false
set_option maxRecDepth 100000
set_option linter.unusedSimpArgs false

def optW (W T : Int) (xs : List Bool) (k s : Nat) (way : Int) : List Nat :=
 if 0 ≤ stepI W T k way ∧ xs.getD (stepI W T k way).toNat false = true ∧ s / 2 ^ ((stepI W T k way).toNat - k) % 2 = 0 then [(s + 2 ^ ((stepI W T k way).toNat - k)) / 2] else []
def optsTo (W T : Int) (xs : List Bool) (k s : Nat) : Nat → List Nat
 | 0 => []
 | j + 1 => optsTo W T xs k s j ++ optW W T xs k s ((j : Int) + 1)
def dpOpts (W T : Int) (xs : List Bool) (k s : Nat) : List Nat :=
 if xs.getD k false = false ∨ s % 2 = 1 then [s / 2] else optsTo W T xs k s 2

def dpN (W T : Int) (xs : List Bool) : Nat → Nat → Nat → Nat
 | 0, _, s => if s = 0 then 1 else 0
 | m + 1, k, s => ((dpOpts W T xs k s).map (dpN W T xs m (k + 1))).sum
def dpT (W T : Int) (xs : List Bool) : Nat := dpN W T xs xs.length 0 0

theorem optW_le (W T : Int) (xs : List Bool) (k s : Nat) (way : Int) : (optW W T xs k s way).length ≤ 1 := by
 unfold optW; split <;> simp
theorem optsTo_le (W T : Int) (xs : List Bool) (k s j : Nat) : (optsTo W T xs k s j).length ≤ j := by
 induction j with
 | zero => simp [optsTo]
 | succ j ih => have := optW_le W T xs k s ((j : Int) + 1); simp only [optsTo, List.length_append]; omega
theorem dpOpts_le (W T : Int) (xs : List Bool) (k s : Nat) : (dpOpts W T xs k s).length ≤ 2 := by
 unfold dpOpts
 split
 · simp
 · exact optsTo_le W T xs k s 2

theorem sum_le_len {f : Nat → Nat} {B : Nat} : ∀ {l : List Nat}, (∀ x ∈ l, f x ≤ B) → (l.map f).sum ≤ l.length * B
 | [], _ => by simp
 | x :: r, h => by
   have h1 := h x (by simp)
   have h2 := sum_le_len (l := r) (fun y hy => h y (by simp [hy]))
   simp only [List.map_cons, List.sum_cons, List.length_cons, Nat.add_mul, Nat.one_mul]
   omega

theorem dpN_le (W T : Int) (xs : List Bool) : ∀ (m k s : Nat), dpN W T xs m k s ≤ 2 ^ m
 | 0, k, s => by unfold dpN; split <;> simp
 | m + 1, k, s => by
   unfold dpN
   have h1 := sum_le_len (f := dpN W T xs m (k + 1)) (B := 2 ^ m) (l := dpOpts W T xs k s) (fun x _ => dpN_le W T xs m (k + 1) x)
   have h2 := Nat.mul_le_mul_right (2 ^ m) (dpOpts_le W T xs k s)
   have h3 : 2 ^ (m + 1) = 2 * 2 ^ m := by rw [Nat.pow_succ, Nat.mul_comm]
   omega

theorem dpT_le {W T : Int} {xs : List Bool} (h : xs.length ≤ 36) : dpT W T xs ≤ 68719476736 := by
 have h1 := dpN_le W T xs xs.length 0 0
 have h2 : (2 : Nat) ^ xs.length ≤ 2 ^ 36 := Nat.pow_le_pow_right (by decide) h
 have h3 : (2 : Nat) ^ 36 = 68719476736 := by decide
 unfold dpT; omega

theorem step_up {W T : Int} {k : Nat} {way : Int} (hw : way = 1 ∨ way = 2) (hW : 1 ≤ W) (h : 0 ≤ stepI W T k way) : (way = 1 ∧ stepI W T k way = k + 1 ∧ 1 < W) ∨ (way = 2 ∧ stepI W T k way = k + W) := by
 rcases hw with rfl | rfl
 · left
   unfold stepI at h ⊢
   split at h
   · rename_i h1
     refine ⟨rfl, by rw [if_pos h1], ?_⟩
     have := Int.emod_nonneg (k : Int) (b := W) (by omega)
     omega
   · simp at h
 · right
   unfold stepI at h ⊢
   simp at h ⊢
   split at h
   · rename_i h1
     intro h2; omega
   · simp at h

theorem optW_lt {W T : Int} {xs : List Bool} {k s : Nat} {way : Int} (hw : way = 1 ∨ way = 2) (hW : 1 ≤ W) (hW6 : W ≤ 6) (hs : s < 2 ^ W.toNat) : ∀ o ∈ optW W T xs k s way, o < 2 ^ W.toNat := by
 intro o ho
 unfold optW at ho
 split at ho
 · rename_i h
   obtain ⟨h0, _, _⟩ := h
   simp only [List.mem_singleton] at ho
   subst ho
   have hw' : W = 1 ∨ W = 2 ∨ W = 3 ∨ W = 4 ∨ W = 5 ∨ W = 6 := by omega
   rcases step_up hw hW h0 with ⟨_, e, h1⟩ | ⟨_, e⟩
   · have e2 : (stepI W T k way).toNat - k = 1 := by omega
     rw [e2]
     rcases hw' with rfl | rfl | rfl | rfl | rfl | rfl <;> simp at hs ⊢ <;> omega
   · have e2 : (stepI W T k way).toNat - k = W.toNat := by omega
     rw [e2]
     rcases hw' with rfl | rfl | rfl | rfl | rfl | rfl <;> simp at hs ⊢ <;> omega
 · simp at ho

theorem dpOpts_lt {W T : Int} {xs : List Bool} {k s : Nat} (hW : 1 ≤ W) (hW6 : W ≤ 6) (hs : s < 2 ^ W.toNat) : ∀ o ∈ dpOpts W T xs k s, o < 2 ^ W.toNat := by
 intro o ho
 unfold dpOpts at ho
 split at ho
 · simp only [List.mem_singleton] at ho
   subst ho
   exact Nat.lt_of_le_of_lt (Nat.div_le_self _ _) hs
 · simp only [optsTo, List.mem_append, List.nil_append] at ho
   rcases ho with ho | ho
   · exact optW_lt (Or.inl rfl) hW hW6 hs o ho
   · exact optW_lt (Or.inr rfl) hW hW6 hs o ho

theorem step_cases {W T : Int} {xs : List Bool} {k s : Nat} {way : Int} (hw : way = 1 ∨ way = 2) (hW : 1 ≤ W) (hW6 : W ≤ 6) (hWT : (xs.length : Int) = W * T) (hk : k < xs.length) :
 (stepI W T k way = -1 ∧ optW W T xs k s way = []) ∨ ∃ d : Nat, 1 ≤ d ∧ d ≤ 6 ∧ stepI W T k way = ((k + d : Nat) : Int) ∧ k + d < xs.length ∧
   (xs.getD (k + d) false = false ∧ optW W T xs k s way = [] ∨ xs.getD (k + d) false = true ∧ s / 2 ^ d % 2 ≠ 0 ∧ optW W T xs k s way = [] ∨ xs.getD (k + d) false = true ∧ s / 2 ^ d % 2 = 0 ∧ optW W T xs k s way = [(s + 2 ^ d) / 2]) := by
 rcases step_bd (W := W) (T := T) (k := (k : Int)) (way := way) hW (by omega) (by omega) with h | ⟨h0, h1⟩
 · left
   exact ⟨h, by unfold optW; rw [h, if_neg (by omega)]⟩
 · right
   obtain ⟨d, hd1, hd6, hd⟩ : ∃ d : Nat, 1 ≤ d ∧ d ≤ 6 ∧ stepI W T k way = ((k + d : Nat) : Int) := by
    rcases step_up hw hW h0 with ⟨_, e, _⟩ | ⟨_, e⟩
    · exact ⟨1, by omega, by omega, by omega⟩
    · exact ⟨W.toNat, by omega, by omega, by omega⟩
   refine ⟨d, hd1, hd6, hd, by omega, ?_⟩
   have e1 : (stepI W T k way).toNat = k + d := by omega
   have e2 : k + d - k = d := by omega
   unfold optW
   rw [e1, e2]
   cases hc : xs.getD (k + d) false
   · left
     exact ⟨rfl, by rw [if_neg (by intro h; exact absurd h.2.1 (by simp))]⟩
   · right
     by_cases hb : s / 2 ^ d % 2 = 0
     · right
       exact ⟨rfl, hb, by rw [if_pos ⟨h0, rfl, hb⟩]⟩
     · left
       exact ⟨rfl, hb, by rw [if_neg (by intro h; exact hb h.2.2)]⟩

theorem pow_le64 {W : Int} (hW : 1 ≤ W) (hW6 : W ≤ 6) : 2 ≤ 2 ^ W.toNat ∧ 2 ^ W.toNat ≤ 64 := by
 have hw' : W = 1 ∨ W = 2 ∨ W = 3 ∨ W = 4 ∨ W = 5 ∨ W = 6 := by omega
 rcases hw' with rfl | rfl | rfl | rfl | rfl | rfl <;> decide

def Eqv (a b : Int) : Prop := ∃ z : Int, a = b + z * 18446744073709551616
theorem Eqv.refl (a : Int) : Eqv a a := ⟨0, by omega⟩
theorem Eqv.of {a b : Int} (h : a = b) : Eqv a b := ⟨0, by omega⟩
theorem Eqv.symm {a b : Int} (h : Eqv a b) : Eqv b a := by obtain ⟨z, rfl⟩ := h; exact ⟨-z, by omega⟩
theorem Eqv.trans {a b c : Int} (h : Eqv a b) (k : Eqv b c) : Eqv a c := by obtain ⟨z, rfl⟩ := h; obtain ⟨y, rfl⟩ := k; exact ⟨y + z, by omega⟩
theorem Eqv.add {a b c d : Int} (h : Eqv a b) (k : Eqv c d) : Eqv (a + c) (b + d) := by obtain ⟨z, rfl⟩ := h; obtain ⟨y, rfl⟩ := k; exact ⟨y + z, by omega⟩
theorem Eqv.eq {a b : Int} (h : Eqv a b) (ha : -9223372036854775808 ≤ a ∧ a ≤ 9223372036854775807) (hb : -9223372036854775808 ≤ b ∧ b ≤ 9223372036854775807) : a = b := by
 obtain ⟨z, rfl⟩ := h
 omega

end Go.Proofs.Ytpcajacekmidbaa

/- Contract of impl.coveredAfter. -/
namespace Go.Proofs.Ytpcajacekmidbaa
open Go.RowKit
set_option linter.unusedVariables false
set_option maxRecDepth 100000
set_option linter.unusedSimpArgs false

theorem bits_odd : ∀ s : Fin 64, bits BinOp.and IntKind.i64 ((s.val : Nat) : Int) 1 = ((s.val % 2 : Nat) : Int) := by decide +kernel
theorem bits_free : ∀ s : Fin 64, ∀ d : Fin 7, s.val / 2 ^ d.val % 2 = 0 → bits BinOp.and IntKind.i64 ((s.val : Nat) : Int) ((2 ^ d.val : Nat) : Int) = 0 := by decide +kernel
theorem bits_set : ∀ s : Fin 64, ∀ d : Fin 7, s.val / 2 ^ d.val % 2 ≠ 0 → bits BinOp.and IntKind.i64 ((s.val : Nat) : Int) ((2 ^ d.val : Nat) : Int) = ((2 ^ d.val : Nat) : Int) := by decide +kernel
theorem bits_or : ∀ s : Fin 64, ∀ d : Fin 7, s.val / 2 ^ d.val % 2 = 0 → bits BinOp.or IntKind.i64 ((s.val : Nat) : Int) ((2 ^ d.val : Nat) : Int) = ((s.val + 2 ^ d.val : Nat) : Int) := by decide +kernel

theorem own_one_litQ1 (w : World) {B : Nat} (x : Int) (hB : B ≤ w.heap.size) : OwnsI (w.alloc (.cells #[.int .i64 x] 3 (0, 0))) B (.slice (some ⟨w.heap.size, 0, none⟩) 1 1) [x] :=
 ⟨by simp, .inr ⟨w.heap.size, 1, #[.int .i64 x], rfl, hB, heap_alloc_new w _, Nat.le_refl _, by decide, by simp, by simp⟩⟩

theorem wrap_pow {d : Nat} (h1 : 1 ≤ d) (h6 : d ≤ 6) : wrap64 ((2 : Int) ^ d) = ((2 ^ d : Nat) : Int) := by
 have : d = 1 ∨ d = 2 ∨ d = 3 ∨ d = 4 ∨ d = 5 ∨ d = 6 := by omega
 rcases this with rfl | rfl | rfl | rfl | rfl | rfl <;> decide +kernel
theorem guard_set {s d : Nat} (hs : s < 64) (h1 : 1 ≤ d) (h6 : d ≤ 6) (h : s / 2 ^ d % 2 ≠ 0) : (bits BinOp.and IntKind.i64 (s : Int) (wrap64 ((2 : Int) ^ d)) == 0) = false := by
 have b := bits_set ⟨s, hs⟩ ⟨d, by omega⟩ h
 simp only at b
 have p := Nat.two_pow_pos d
 rw [wrap_pow h1 h6, b]
 simp only [beq_eq_false_iff_ne]
 omega
theorem guard_free {s d : Nat} (hs : s < 64) (h1 : 1 ≤ d) (h6 : d ≤ 6) (h : s / 2 ^ d % 2 = 0) : (bits BinOp.and IntKind.i64 (s : Int) (wrap64 ((2 : Int) ^ d)) == 0) = true := by
 have b := bits_free ⟨s, hs⟩ ⟨d, by omega⟩ h
 simp only at b
 rw [wrap_pow h1 h6, b]
 rfl
theorem or_free {s d : Nat} (hs : s < 64) (h1 : 1 ≤ d) (h6 : d ≤ 6) (h : s / 2 ^ d % 2 = 0) : bits BinOp.or IntKind.i64 (s : Int) (wrap64 ((2 : Int) ^ d)) / 2 = (((s + 2 ^ d) / 2 : Nat) : Int) := by
 have b := bits_or ⟨s, hs⟩ ⟨d, by omega⟩ h
 simp only at b
 rw [wrap_pow h1 h6, b]
 omega

theorem idx_way0 (w : World) : (Instr.index 137 (.agg #[.int .i64 1, .int .i64 2]) (.int .i64 0)).run Try.prog w = .ok (.int .i64 1) w := by kernel_rfl
theorem idx_way1 (w : World) : (Instr.index 137 (.agg #[.int .i64 1, .int .i64 2]) (.int .i64 1)).run Try.prog w = .ok (.int .i64 2) w := by kernel_rfl

def coverL (W T : Int) (xs : List Bool) (k s : Nat) : List Int := (dpOpts W T xs k s).map fun o : Nat => (o : Int)
def optsL (W T : Int) (xs : List Bool) (k s j : Nat) : List Int := (optsTo W T xs k s j).map fun o : Nat => (o : Int)

theorem optsL_le (W T : Int) (xs : List Bool) (k s j : Nat) : (optsL W T xs k s j).length ≤ j := by unfold optsL; rw [List.length_map]; exact optsTo_le W T xs k s j

set_option maxHeartbeats 4000000 in
theorem coveredAfter_ret (W T : Int) (a : Option Addr) (n cap : Nat) (xs : List Bool) (k s : Nat) (w : World) (hn : n = xs.length) (hW0 : 1 ≤ W) (hW1 : W ≤ 6) (hT0 : 1 ≤ T) (hT1 : T ≤ 6) (hWT : (n : Int) = W * T) (hk : k < n) (hs : s < 64) (ha : BoolsAt w a xs) :
 Calls Try.prog 134 #[.agg #[.int .i64 W, .int .i64 T, .slice a n cap], .int .i64 k, .int .i64 s] w (RetL w (coverL W T xs k s).length (coverL W T xs k s)) := by
 have HN := Lib.hid hn; clear hn
 obtain ⟨b, off, rfl, hx⟩ := ha k (by rw [← HN.out]; exact hk)
 have hlx := World.block_lt_of_cell? w _ hx
 simp only at hlx
 have HA := Lib.hid ha; clear ha
 have HWT := Lib.hid hWT; clear hWT
 have pb := (prod_bd (W := W) (T := T) (by omega) (by omega) (by omega) (by omega)).2
 have n4 : n ≤ 10000 := by have := HWT.out; omega
 have o1 := bits_odd ⟨s, hs⟩
 simp only at o1
 have hkn : (k : Int) < n := by omega
 by_cases hc : xs.getD k false = false ∨ s % 2 = 1
 · have e : coverL W T xs k s = [((s / 2 : Nat) : Int)] := by unfold coverL dpOpts; rw [if_pos hc]; rfl
   rw [e]
   have e2 : ((s / 2 : Nat) : Int) = (s : Int) / 2 := by omega
   have fin : ∀ o1 : Obj, RetL w [((s / 2 : Nat) : Int)].length [((s / 2 : Nat) : Int)] (.returned (.slice (some ⟨w.heap.size + 1, 0, none⟩) 1 1)) ((w.alloc o1).alloc (.cells #[.int .i64 ((s : Int) / 2)] 3 (0, 0))) := by
    intro o1
    refine ⟨_, _, rfl, ?_, below2 _ _ _⟩
    rw [e2]
    have := own_one_litQ1 (w.alloc o1) (B := w.heap.size) ((s : Int) / 2) (by simp)
    simpa using this
   cases hcell : xs.getD k false
   · rw [hcell] at hx
     clear hc e o1
     go_enter Try.func134, Try.ntmps134
     go_wp2
     go_ret
     exact fin _
   · have h1 : s % 2 = 1 := by
      rcases hc with h | h
      · rw [hcell] at h; cases h
      · exact h
     rw [hcell] at hx
     rw [h1] at o1
     clear hc e
     go_enter Try.func134, Try.ntmps134
     go_wp2
     go_ret
     exact fin _
 · have hcell : xs.getD k false = true := by
    cases h : xs.getD k false
    · exact absurd (Or.inl h) hc
    · rfl
   have h1 : s % 2 = 0 := by
    have : ¬ (s % 2 = 1) := fun h => hc (Or.inr h)
    omega
   have e : coverL W T xs k s = optsL W T xs k s 2 := by unfold coverL dpOpts optsL; rw [if_neg hc]
   rw [e]
   rw [hcell] at hx
   rw [h1] at o1
   clear hc e
   obtain ⟨i0, hi, hz0, hz1, hz2⟩ := info_parts infoInt
   go_enter Try.func134, Try.ntmps134
   go_wp2
   go_loopw [7, 9, 10, 11, 27] (fun v _ _ _ i wr => ∃ j : Nat, j ≤ 2 ∧ i = .int .i64 j ∧ OwnsI wr (w.heap.size + 1) v (optsL W T xs k s j) ∧ wr.heap[w.heap.size]? = some (.cells #[.int .i64 W, .int .i64 T, .slice (some ⟨b, off, none⟩) n cap] 25 (0, 0)) ∧ Below w.heap.size w wr) (fun _ _ _ _ i _ => 2 - (intOf i).toNat)
   case atStart => exact ⟨0, by omega, rfl, OwnsI.nil _ _, heap_new _ _, below1 _ _⟩
   case round =>
    obtain ⟨j, hj, rfl, ho, pr, hbel⟩ := hrel
    have HO := Lib.hid ho; clear ho
    have BEL := Lib.hid hbel; clear hbel
    obtain ⟨c0, c1, c2⟩ := cells3 pr
    have l1 := heap_lt pr
    have ol := optsTo_le W T xs k s j
    have ix0 := idx_way0
    have ix1 := idx_way1
    have hj2 : j = 0 ∨ j = 1 ∨ j = 2 := by omega
    rcases hj2 with rfl | rfl | rfl
    · have hcb : cellB W T n k 1 = stepI W T k 1 := by unfold cellB; rw [if_pos (by omega)]
      have HNX : Hid (optsL W T xs k s 1 = optsL W T xs k s 0 ++ (optW W T xs k s 1).map fun o : Nat => (o : Int)) := by show _ = _; unfold optsL; simp [optsTo]
      rcases step_cases (s := s) (way := 1) (xs := xs) (Or.inl rfl) hW0 hW1 (by rw [← HN.out]; exact HWT.out) (by rw [← HN.out]; exact hk) with ⟨he, hO⟩ | ⟨d, hd1, hd6, he, hlt, hcase⟩
      · rw [hO] at HNX
        rw [he] at hcb
        clear he hO
        go_wp2_with fail
        refine (cellBeside_any _ _ _ _ _ _ _ _ hW0 hW1 hT0 hT1 HWT.out).mono ?_; rintro e w1 ⟨rfl, hb1⟩
        rw [hcb]
        have p1 := heap_later pr hb1
        have B1 := Lib.hid (below_seq BEL.out hb1)
        have O1 := Lib.hid (HO.out.below hb1)
        clear hb1 c0 c1 c2 pr l1
        go_wp2
        go_roundw
        case rel => exact ⟨1, by omega, by go_num, by rw [HNX.out]; simpa using O1.out, p1, B1.out⟩
        case measure => simp [intOf]
      · rw [he] at hcb
        have hdn : k + d < n := by rw [HN.out]; exact hlt
        obtain ⟨b', off', hbb, hy⟩ := HA.out (k + d) hlt
        cases hbb
        clear he hlt
        go_wp2_with fail
        refine (cellBeside_any _ _ _ _ _ _ _ _ hW0 hW1 hT0 hT1 HWT.out).mono ?_; rintro e w1 ⟨rfl, hb1⟩
        rw [hcb]
        have p1 := heap_later pr hb1
        have B1 := Lib.hid (below_seq BEL.out hb1)
        have O1 := Lib.hid (HO.out.below hb1)
        clear hb1 c0 c1 c2 pr l1 hcb
        obtain ⟨c0, c1, c2⟩ := cells3 p1
        have l1 := heap_lt p1
        have hy1 : w1.cell? ⟨b, off + (k + d), none⟩ = _ := (B1.out.cell (p := ⟨b, off + (k + d), none⟩) hlx).trans hy
        have hkd : ((k + d : Nat) : Int) < n := by omega
        rcases hcase with ⟨hcd, hO⟩ | ⟨hcd, hb0, hO⟩ | ⟨hcd, hb0, hO⟩
        · rw [hcd] at hy1
          rw [hO] at HNX
          go_wp2
          go_roundw
          case rel => exact ⟨1, by omega, by go_num, by rw [HNX.out]; simpa using O1.out, p1, B1.out⟩
          case measure => simp [intOf]
        · rw [hcd] at hy1
          rw [hO] at HNX
          have bs := guard_set hs hd1 hd6 hb0
          clear hb0
          go_wp2
          go_roundw
          case rel => exact ⟨1, by omega, by go_num, by rw [HNX.out]; simpa using O1.out, p1, B1.out⟩
          case measure => simp [intOf]
        · rw [hcd] at hy1
          rw [hO] at HNX
          have bs := guard_free hs hd1 hd6 hb0
          have bo := or_free hs hd1 hd6 hb0
          obtain ⟨V, hV⟩ : ∃ V : Nat, V = (s + 2 ^ d) / 2 := ⟨_, rfl⟩
          rw [← hV] at bo HNX
          clear hb0 hV
          go_wp2_with (at_builtin; refine wpList_append_own _ rfl _ _ 26 rfl (w.heap.size + 1) 3 i0 (.int .i64 0) 1 8 Try.underlying26 hi hz0 hz1 hz2 rfl (by decide) _ (optsL W T xs k s 0).length ((optsL W T xs k s 0).map (Value.int .i64)) rfl (World.ownsRow.alloc O1.out _) ⟨w1.heap.size, 0, none⟩ 1 1 [.int .i64 V] rfl rfl (new_int _ _) (one_int _) (by unfold maxLen; have := optsL_le W T xs k s 0; omega) (by have := optsL_le W T xs k s 0; omega) (by simp; omega) ?_; intro v' w8 hown' hgrow _; have p8 := heap_grown (heap_later p1 (below1 _ _)) hgrow (O1.out.ownBlock (by omega)); have O8 := Lib.hid (OwnsI.ofRow (xs := optsL W T xs k s 1) hown' (by rw [HNX.out]; simp) (by rw [HNX.out]; simp)); have B8 := Lib.hid (below_grown (below_seq B1.out (below1 _ _)) hgrow (Nat.le_refl _) (O1.out.ownAt (by omega))); clear hown' hgrow)
          go_roundw
          case rel => exact ⟨1, by omega, by go_num, O8.out, p8, B8.out⟩
          case measure => simp [intOf]
    · have hcb : cellB W T n k 2 = stepI W T k 2 := by unfold cellB; rw [if_pos (by omega)]
      have HNX : Hid (optsL W T xs k s 2 = optsL W T xs k s 1 ++ (optW W T xs k s 2).map fun o : Nat => (o : Int)) := by show _ = _; unfold optsL; simp [optsTo]
      rcases step_cases (s := s) (way := 2) (xs := xs) (Or.inr rfl) hW0 hW1 (by rw [← HN.out]; exact HWT.out) (by rw [← HN.out]; exact hk) with ⟨he, hO⟩ | ⟨d, hd1, hd6, he, hlt, hcase⟩
      · rw [hO] at HNX
        rw [he] at hcb
        clear he hO
        go_wp2_with fail
        refine (cellBeside_any _ _ _ _ _ _ _ _ hW0 hW1 hT0 hT1 HWT.out).mono ?_; rintro e w1 ⟨rfl, hb1⟩
        rw [hcb]
        have p1 := heap_later pr hb1
        have B1 := Lib.hid (below_seq BEL.out hb1)
        have O1 := Lib.hid (HO.out.below hb1)
        clear hb1 c0 c1 c2 pr l1
        go_wp2
        go_roundw
        case rel => exact ⟨2, by omega, by go_num, by rw [HNX.out]; simpa using O1.out, p1, B1.out⟩
        case measure => simp [intOf]
      · rw [he] at hcb
        have hdn : k + d < n := by rw [HN.out]; exact hlt
        obtain ⟨b', off', hbb, hy⟩ := HA.out (k + d) hlt
        cases hbb
        clear he hlt
        go_wp2_with fail
        refine (cellBeside_any _ _ _ _ _ _ _ _ hW0 hW1 hT0 hT1 HWT.out).mono ?_; rintro e w1 ⟨rfl, hb1⟩
        rw [hcb]
        have p1 := heap_later pr hb1
        have B1 := Lib.hid (below_seq BEL.out hb1)
        have O1 := Lib.hid (HO.out.below hb1)
        clear hb1 c0 c1 c2 pr l1 hcb
        obtain ⟨c0, c1, c2⟩ := cells3 p1
        have l1 := heap_lt p1
        have hy1 : w1.cell? ⟨b, off + (k + d), none⟩ = _ := (B1.out.cell (p := ⟨b, off + (k + d), none⟩) hlx).trans hy
        have hkd : ((k + d : Nat) : Int) < n := by omega
        rcases hcase with ⟨hcd, hO⟩ | ⟨hcd, hb0, hO⟩ | ⟨hcd, hb0, hO⟩
        · rw [hcd] at hy1
          rw [hO] at HNX
          go_wp2
          go_roundw
          case rel => exact ⟨2, by omega, by go_num, by rw [HNX.out]; simpa using O1.out, p1, B1.out⟩
          case measure => simp [intOf]
        · rw [hcd] at hy1
          rw [hO] at HNX
          have bs := guard_set hs hd1 hd6 hb0
          clear hb0
          go_wp2
          go_roundw
          case rel => exact ⟨2, by omega, by go_num, by rw [HNX.out]; simpa using O1.out, p1, B1.out⟩
          case measure => simp [intOf]
        · rw [hcd] at hy1
          rw [hO] at HNX
          have bs := guard_free hs hd1 hd6 hb0
          have bo := or_free hs hd1 hd6 hb0
          obtain ⟨V, hV⟩ : ∃ V : Nat, V = (s + 2 ^ d) / 2 := ⟨_, rfl⟩
          rw [← hV] at bo HNX
          clear hb0 hV
          go_wp2_with (at_builtin; refine wpList_append_own _ rfl _ _ 26 rfl (w.heap.size + 1) 3 i0 (.int .i64 0) 1 8 Try.underlying26 hi hz0 hz1 hz2 rfl (by decide) _ (optsL W T xs k s 1).length ((optsL W T xs k s 1).map (Value.int .i64)) rfl (World.ownsRow.alloc O1.out _) ⟨w1.heap.size, 0, none⟩ 1 1 [.int .i64 V] rfl rfl (new_int _ _) (one_int _) (by unfold maxLen; have := optsL_le W T xs k s 1; omega) (by have := optsL_le W T xs k s 1; omega) (by simp; omega) ?_; intro v' w8 hown' hgrow _; have p8 := heap_grown (heap_later p1 (below1 _ _)) hgrow (O1.out.ownBlock (by omega)); have O8 := Lib.hid (OwnsI.ofRow (xs := optsL W T xs k s 2) hown' (by rw [HNX.out]; simp) (by rw [HNX.out]; simp)); have B8 := Lib.hid (below_grown (below_seq B1.out (below1 _ _)) hgrow (Nat.le_refl _) (O1.out.ownAt (by omega))); clear hown' hgrow)
          go_roundw
          case rel => exact ⟨2, by omega, by go_num, O8.out, p8, B8.out⟩
          case measure => simp [intOf]
    · obtain ⟨a9, cap9, hv⟩ := HO.out.form2
      subst hv
      go_wp2
      go_ret
      exact ⟨a9, cap9, rfl, HO.out.lower (by omega), BEL.out⟩

end Go.Proofs.Ytpcajacekmidbaa

/- Plain facts on what a map from numbers to numbers adds up to; and the law for an entry laid by a literal. No statement is proved here. -/
namespace Go.Proofs.Ytpcajacekmidbaa
open Go.RowKit Go.Maps
set_option linter.unusedVariables false
set_option maxRecDepth 100000
set_option linter.unusedSimpArgs false

def litN : Lit → Nat
 | .int _ z => z.toNat
 | _ => 0
def datI : DataW Unit → Int
 | .lit (.int _ z) => z
 | _ => 0
def phiL (f : Nat → Nat) (left : Lit → Bool) : List (Lit × DataW Unit) → Int
 | [] => 0
 | p :: r => (if left p.1 then datI p.2 * (f (litN p.1) : Int) else 0) + phiL f left r
def phi (f : Nat → Nat) (left : Lit → Bool) : DataW Unit → Int
 | .map es => phiL f left es
 | _ => 0
def allKy (_ : Lit) : Bool := true
def kI (z : Int) : Lit := .int .i64 z
def dI (z : Int) : DataW Unit := .lit (.int .i64 z)

theorem phiL_insert (f : Nat → Nat) (left : Lit → Bool) (x : Lit × DataW Unit) : ∀ l : List (Lit × DataW Unit), phiL f left (DataW.insert x l) = (if left x.1 then datI x.2 * (f (litN x.1) : Int) else 0) + phiL f left l
 | [] => rfl
 | y :: r => by
   unfold DataW.insert
   split
   · rfl
   · simp only [phiL]
     rw [phiL_insert f left x r]
     omega

def found (f : Nat → Nat) (left : Lit → Bool) (k : Lit) (es : List (Lit × DataW Unit)) : Int :=
 match es.find? (fun p => p.1.sameKey k) with
 | some p => if left p.1 then datI p.2 * (f (litN p.1) : Int) else 0
 | none => 0

theorem phiL_filter (f : Nat → Nat) (left : Lit → Bool) (k : Lit) : ∀ es : List (Lit × DataW Unit), es.Pairwise (fun p q => p.1 ≠ q.1) →
 phiL f left es = phiL f left (es.filter fun p => !p.1.sameKey k) + found f left k es
 | [], _ => rfl
 | y :: r, h => by
   obtain ⟨h1, h2⟩ := List.pairwise_cons.1 h
   have ih := phiL_filter f left k r h2
   cases hy : y.1.sameKey k
   · have e1 : found f left k (y :: r) = found f left k r := by unfold found; simp [hy]
     rw [e1]
     simp only [List.filter_cons, hy, Bool.not_false, if_true, phiL]
     rw [ih]
     omega
   · have e0 : found f left k r = 0 := by
      unfold found
      rw [List.find?_eq_none.2 (fun p hp => ?_)]
      intro hs
      exact h1 p hp (by rw [WideAt.sameKey_eq hy, WideAt.sameKey_eq hs])
     have e1 : found f left k (y :: r) = if left y.1 then datI y.2 * (f (litN y.1) : Int) else 0 := by unfold found; simp [hy]
     rw [e1]
     simp only [List.filter_cons, hy, Bool.not_true, Bool.false_eq_true, if_false, phiL]
     rw [ih, e0]
     omega

theorem phi_put {f : Nat → Nat} {D : DataW Unit} {z c c' : Int} (hT : Tidy D) (hat : D.atKey (kI z) (dI 0) = dI c) :
 phi f allKy (D.put (kI z) (dI c')) = phi f allKy D + (c' - c) * (f z.toNat : Int) := by
 obtain ⟨es, rfl, hp⟩ := hT
 show phiL f allKy (DataW.insert (kI z, dI c') (es.filter fun p => !p.1.sameKey (kI z))) = phiL f allKy es + _
 rw [phiL_insert, phiL_filter f allKy (kI z) es hp]
 have hf : found f allKy (kI z) es = c * (f z.toNat : Int) := by
  unfold found
  have hat' := hat
  simp only [DataW.atKey] at hat'
  cases hq : es.find? (fun p => p.1.sameKey (kI z)) with
  | none =>
    rw [hq] at hat'
    have : (0 : Int) = c := by simpa [dI] using hat'
    simp [← this]
  | some p =>
    rw [hq] at hat'
    have hk : p.1 = kI z := WideAt.sameKey_eq (by simpa using List.find?_some hq)
    simp only at hat'
    simp [hk, hat', allKy, datI, dI, litN, kI]
 rw [hf]
 have e : (if allKy (kI z, dI c').1 = true then datI (kI z, dI c').2 * (f (litN (kI z, dI c').1) : Int) else 0) = c' * (f z.toNat : Int) := by simp [allKy, datI, dI, litN, kI]
 rw [e, Int.sub_mul]
 omega

theorem phiL_congr {f : Nat → Nat} {left left' : Lit → Bool} : ∀ {es : List (Lit × DataW Unit)}, (∀ p ∈ es, left p.1 = left' p.1) → phiL f left es = phiL f left' es
 | [], _ => rfl
 | y :: r, h => by
   simp only [phiL]
   rw [h y (by simp), phiL_congr (es := r) (fun p hp => h p (by simp [hp]))]

theorem phiL_strike {f : Nat → Nat} {left : Lit → Bool} {k : Lit} : ∀ es : List (Lit × DataW Unit), phiL f (fun x => left x && !x.sameKey k) es = phiL f left (es.filter fun p => !p.1.sameKey k)
 | [] => rfl
 | y :: r => by
   have ih := phiL_strike (f := f) (left := left) (k := k) r
   cases hy : y.1.sameKey k
   · simp only [List.filter_cons, hy, Bool.not_false, if_true, phiL, Bool.and_true, ih]
   · simp only [List.filter_cons, hy, Bool.not_true, Bool.false_eq_true, if_false, phiL, Bool.and_false, ih]
     omega

theorem phi_left {f : Nat → Nat} {left : Lit → Bool} {D : DataW Unit} {z c : Int} (hT : Tidy D) (hl : left (kI z) = true) (hat : ∀ zd, D.atKey (kI z) zd = dI c) :
 phi f left D = c * (f z.toNat : Int) + phi f (fun x => left x && !x.sameKey (kI z)) D := by
 obtain ⟨es, rfl, hp⟩ := hT
 show phiL f left es = _ + phiL f _ es
 rw [phiL_strike, phiL_filter f left (kI z) es hp]
 have hf : found f left (kI z) es = c * (f z.toNat : Int) := by
  unfold found
  have hat' := hat
  simp only [DataW.atKey] at hat'
  cases hq : es.find? (fun p => p.1.sameKey (kI z)) with
  | none =>
    simp only [hq] at hat'
    have h0 := hat' (dI (c + 1))
    have : c + 1 = c := by simpa [dI] using h0
    omega
  | some p =>
    simp only [hq] at hat'
    have hk : p.1 = kI z := WideAt.sameKey_eq (by simpa using List.find?_some hq)
    have h0 := hat' (dI 0)
    simp [hk, h0, hl, datI, dI, litN]
    simp [kI]
 omega

theorem phi_none {f : Nat → Nat} {left : Lit → Bool} {D : DataW Unit} (h : ∀ kl, left kl = false) : phi f left D = 0 := by
 cases D <;> try rfl
 rename_i es
 show phiL f left es = 0
 induction es with
 | nil => rfl
 | cons y r ih => simp [phiL, h y.1, ih]

theorem phi_has {f : Nat → Nat} {D : DataW Unit} {es : List (Lit × DataW Unit)} (e : D = .map es) (hk : ∀ p ∈ es, WideAt.IsKeyLit p.1) : phi f (Maps.has D) D = phi f allKy D := by
 subst e
 refine phiL_congr fun p hp => ?_
 show es.any (fun q => q.1.sameKey p.1) = true
 exact List.any_eq_true.2 ⟨p, hp, WideAt.sameKey_self (hk p hp)⟩

def KeysLt (D : DataW Unit) (B : Nat) : Prop := ∀ kl, Maps.has D kl = true → ∃ z : Nat, kl = kI z ∧ z < B
theorem keys_empty (B : Nat) : KeysLt (.map []) B := fun kl h => by cases h
theorem KeysLt.put {D : DataW Unit} {B z : Nat} (h : KeysLt D B) (hz : z < B) (d : DataW Unit) : KeysLt (D.put (kI z) d) B := by
 intro kl hk
 by_cases e : kl = kI z
 · exact ⟨z, e, hz⟩
 · rw [Maps.has_put_other e] at hk
   exact h kl hk

theorem phi_end {D : DataW Unit} {B : Nat} {c : Int} (hT : Tidy D) (hkey : ∀ es, D = .map es → ∀ p ∈ es, WideAt.IsKeyLit p.1) (hK : KeysLt D B) (hat : D.atKey (kI 0) (dI 0) = dI c) :
 phi (fun s => if s = 0 then 1 else 0) allKy D = c := by
 obtain ⟨es, rfl, hp⟩ := hT
 have hk := hkey es rfl
 show phiL _ allKy es = c
 rw [phiL_filter _ allKy (kI 0) es hp]
 have hf : found (fun s => if s = 0 then 1 else 0) allKy (kI 0) es = c := by
  unfold found
  have hat' := hat
  simp only [DataW.atKey] at hat'
  cases hq : es.find? (fun p => p.1.sameKey (kI 0)) with
  | none =>
    rw [hq] at hat'
    simpa [dI] using hat'
  | some p =>
    rw [hq] at hat'
    have hkk : p.1 = kI 0 := WideAt.sameKey_eq (by simpa using List.find?_some hq)
    simp only at hat'
    simp [hkk, hat', allKy, datI, dI, litN, kI]
 have h0 : ∀ l : List (Lit × DataW Unit), (∀ p ∈ l, p ∈ es ∧ p.1.sameKey (kI 0) = false) → phiL (fun s => if s = 0 then 1 else 0) allKy l = 0 := by
  intro l
  induction l with
  | nil => intro _; rfl
  | cons y r ih =>
    intro h
    obtain ⟨hy, hs⟩ := h y (by simp)
    obtain ⟨z, hz, _⟩ := hK y.1 (List.any_eq_true.2 ⟨y, hy, WideAt.sameKey_self (hk y hy)⟩)
    have hz0 : z ≠ 0 := by
     rintro rfl
     rw [hz] at hs
     simp [kI, Lit.sameKey] at hs
    simp only [phiL]
    rw [ih (fun p hp => h p (by simp [hp])), hz]
    simp [allKy, litN, kI, hz0]
 rw [h0 _ (fun p hp => ⟨(List.mem_filter.1 hp).1, by simpa using (List.mem_filter.1 hp).2⟩), hf]
 omega

theorem size_le {w : World} {P : Program} {k : TypeId} {R : Value → Option (DataW Unit × List MemPlace)} {b n : Nat} {D : DataW Unit} (h : w.ownsMap P k R b n D) : Maps.size D ≤ n := by
 obtain ⟨es, clock, hb, F, hs, rfl⟩ := h
 simp only [Maps.size, length_sorted, List.length_map, Array.length_toList]
 exact hs
theorem own_tidy {w : World} {P : Program} {k : TypeId} {K : Keyed P k} {R : Value → Option (DataW Unit × List MemPlace)} {b n : Nat} {D : DataW Unit} (h : w.ownsMap P k R b n D) : Tidy D ∧ ∀ es, D = .map es → ∀ p ∈ es, WideAt.IsKeyLit p.1 := by
 obtain ⟨es, e, h1, h2⟩ := h.entries K
 refine ⟨⟨es, e, h1⟩, fun es' e' => ?_⟩
 rw [e] at e'
 cases e'
 exact h2

end Go.Proofs.Ytpcajacekmidbaa

/- Contract of impl.tilingsIn: how many tilings a region has. -/
namespace Go.Proofs.Ytpcajacekmidbaa
open Go.RowKit Go.Maps
set_option linter.unusedVariables false
set_option maxRecDepth 100000
set_option linter.unusedSimpArgs false

theorem lawI : Keyed Try.prog 3 := int_keyed Try.underlying3
theorem zeroI (w : World) : (zeroValue 3).run Try.prog w = .ok (.int .i64 0) w := by kernel_rfl
def MapW (w : World) (b n : Nat) (D : DataW Unit) : Prop := w.ownsMap Try.prog 3 (plainElem (H := Unit) Try.prog 3) b n D
def RngW (w : World) (b r n : Nat) (D : DataW Unit) (left : Lit → Bool) (cnt : Nat) : Prop := w.ranges Try.prog 3 (plainElem (H := Unit) Try.prog 3) b r n D left cnt

theorem wrap64_eqv (a : Int) : Eqv (wrap64 a) a := ⟨-((a + 9223372036854775808) / 18446744073709551616), by unfold wrap64; omega⟩
theorem eqv_put {P a c F : Int} : Eqv (P + (wrap64 (a + c) - a) * F) (P + c * F) := by
 obtain ⟨z, hz⟩ := wrap64_eqv (a + c)
 rw [hz]
 have e : a + c + z * 18446744073709551616 - a = c + z * 18446744073709551616 := by omega
 rw [e, Int.add_mul]
 refine ⟨z * F, ?_⟩
 rw [Int.mul_assoc, Int.mul_comm 18446744073709551616 F, ← Int.mul_assoc]
 omega

theorem wf_inv {c : Int} (h : (Lit.int .i64 c).wf = true) : -9223372036854775808 ≤ c ∧ c ≤ 9223372036854775807 := by
 simp [Lit.wf, IntKind.min, IntKind.max, IntKind.signed, IntKind.bits] at h
 omega

def sumTo (f : Nat → Nat) (l : List Nat) (j : Nat) : Nat := ((l.take j).map f).sum
theorem sumTo_succ (f : Nat → Nat) (l : List Nat) (j : Nat) (h : j < l.length) : sumTo f l (j + 1) = sumTo f l j + f (l.getD j 0) := by
 unfold sumTo
 rw [List.take_succ_eq_append_getElem h, List.map_append, List.sum_append]
 simp only [List.map_cons, List.map_nil, List.sum_cons, List.sum_nil, List.getD_eq_getElem?_getD, List.getElem?_eq_getElem h, Option.getD_some]
 omega
theorem sumTo_all (f : Nat → Nat) (l : List Nat) : sumTo f l l.length = (l.map f).sum := by unfold sumTo; rw [List.take_length]

theorem insert_start (W T : Int) (xs : List Bool) (m : Nat) : phi (dpN W T xs m 0) allKy ((DataW.map [] : DataW Unit).put (.int .i64 0) (.lit (.int .i64 1))) = (dpN W T xs m 0 0 : Int) := by
 have h := phi_put (f := dpN W T xs m 0) (D := .map []) (z := 0) (c := 0) (c' := 1) tidy_empty rfl
 have e : phi (dpN W T xs m 0) allKy (.map [] : DataW Unit) = 0 := rfl
 rw [e] at h
 simp only [kI, dI] at h
 rw [h]
 simp

set_option maxHeartbeats 8000000 in
theorem tilingsIn_any (W T : Int) (a : Option Addr) (n cap : Nat) (xs : List Bool) (w : World) (hn : n = xs.length) (hW0 : 1 ≤ W) (hW1 : W ≤ 6) (hT0 : 1 ≤ T) (hT1 : T ≤ 6) (hWT : (n : Int) = W * T) (ha : BoolsAt w a xs) :
 Calls Try.prog 85 #[.agg #[.int .i64 W, .int .i64 T, .slice a n cap]] w fun e w' => e = .returned (.int .i64 (dpT W T xs)) ∧ Below w.heap.size w w' := by
 have HN := Lib.hid hn; clear hn
 have HA := Lib.hid ha; clear ha
 have n36 : n ≤ 36 := by
  have h1 : W * T ≤ 6 * 6 := Int.mul_le_mul hW1 hT1 (by omega) (by omega)
  omega
 have HWT := Lib.hid hWT; clear hWT
 obtain ⟨pw2, pw64⟩ := pow_le64 hW0 hW1
 have hmm := @run_makeMap Try.prog
 have hown0 : MapW ((w.alloc (.cells #[.int .i64 W, .int .i64 T, .slice a n cap] 25)).alloc (.map #[] 0)) (w.heap.size + 1) 0 (.map []) := by
  have := World.ownsMap_made (w.alloc (.cells #[.int .i64 W, .int .i64 T, .slice a n cap] 25)) Try.prog 3 (plainElem (H := Unit) Try.prog 3)
  simpa [MapW] using this
 obtain ⟨w1, hins, hown1, hg1⟩ := World.ownsMap.update (show World.ownsMap _ _ _ _ _ _ _ from hown0) lawI Try.underlying108 (by unfold maxLen; omega) (keyOf_int_mk Try.underlying3 (a := 0) (by decide)) (plainElem_int Try.underlying3 (a := 1) (by decide))
 have pr1 : w1.heap[w.heap.size]? = some (.cells #[.int .i64 W, .int .i64 T, .slice a n cap] 25 (0, 0)) := heap_grown (heap_later (heap_new w _) (below1 _ _)) hg1 (by intro h; have := Option.some.inj h; omega)
 have b1 : Below w.heap.size w w1 := below_grown (below2 w _ _) hg1 (Nat.le_refl _) (by intro k hk; have := Option.some.inj hk; omega)
 have zs1 : w.heap.size + 2 ≤ w1.heap.size := by have := hg1.size; simp at this; omega
 clear hg1
 obtain ⟨c0, c1, c2⟩ := cells3 pr1
 go_enter Try.func85, Try.ntmps85
 go_wp2
 clear hins hown0
 obtain ⟨TT, hTT⟩ : ∃ TT : Int, TT = (dpT W T xs : Int) := ⟨_, rfl⟩
 go_loopw [3, 15] (fun v i wr => ∃ k : Nat, k ≤ n ∧ i = .int .i64 k ∧ ∃ (B : Nat) (D : DataW Unit), v = .map (some B) ∧ w.heap.size < B ∧ MapW wr B (2 ^ k) D ∧ Eqv (phi (dpN W T xs (n - k) k) allKy D) TT ∧ KeysLt D (2 ^ W.toNat) ∧
  wr.heap[w.heap.size]? = some (.cells #[.int .i64 W, .int .i64 T, .slice a n cap] 25 (0, 0)) ∧ Below w.heap.size w wr) (fun _ i _ => n - (intOf i).toNat)
 case atStart =>
  refine ⟨0, Nat.zero_le _, rfl, w.heap.size + 1, _, rfl, Nat.lt_succ_self _, hown1.mono (by decide), Eqv.of ?_, (keys_empty _).put (z := 0) (by omega) _, pr1, b1⟩
  rw [Nat.sub_zero, insert_start, hTT]
  unfold dpT
  rw [HN.out]
 case round =>
  rename World => wo
  clear hown1 pr1 b1 zs1 c0 c1 c2
  obtain ⟨k, hk, rfl, B, D, rfl, hBw, hown, heq, hkeys, pr, hbel⟩ := hrel
  obtain ⟨c0, c1, c2⟩ := cells3 pr
  have l1 := heap_lt pr
  obtain ⟨N, hN⟩ : ∃ N : Nat, N = 2 ^ k := ⟨_, rfl⟩
  have hN36 : N ≤ 68719476736 := by
   have h2 : (2 : Nat) ^ k ≤ 2 ^ 36 := Nat.pow_le_pow_right (by decide) (by omega)
   have h3 : (2 : Nat) ^ 36 = 68719476736 := by decide
   omega
  rw [← hN] at hown
  have HNN := Lib.hid hN; clear hN
  by_cases hlt : k < n
  · have hown' : MapW (wo.alloc (.map #[] 0)) B N D := World.ownsMap.alloc hown _
    have hBlt : B < wo.heap.size := World.ownsMap.lt hown
    have e1 : (wo.alloc (.map #[] 0)).heap.size = wo.heap.size + 1 := by simp
    have hle0 := size_le hown
    obtain ⟨hT, hky⟩ := own_tidy (K := lawI) hown
    have hnk : n - k = (n - (k + 1)) + 1 := by omega
    rw [hnk] at heq
    obtain ⟨m, hm⟩ : ∃ m, m = n - (k + 1) := ⟨_, rfl⟩
    rw [← hm] at heq
    have HM := Lib.hid hm; clear hm hnk
    have hdp : ∀ s, dpN W T xs (m + 1) k s = ((dpOpts W T xs k s).map (dpN W T xs m (k + 1))).sum := fun s => rfl
    have HDP := Lib.hid hdp; clear hdp
    go_wp2_with (first
     | (at_range; refine wpList_range_own _ rfl _ 108 rfl 3 3 lawI Try.underlying108 _ B N _ rfl hown' ?_; intro w0 hrg0 hg0 hs0)
     | go_in)
    go_frame
    rw [e1] at hrg0 hs0 ⊢
    have pr0 := heap_later (heap_later pr (below1 _ (.map #[] 0))) (grown_below hg0)
    have bel0 := below_seq (below_seq hbel (below1 _ (.map #[] 0))) (grown_below hg0)
    have hmade : MapW w0 wo.heap.size 0 (.map []) := (World.ownsMap_made wo _ _ _).kept hg0 (by simp)
    clear hg0
    go_loopw [6] (fun _ w' => ∃ (left : Lit → Bool) (cnt : Nat) (D2 : DataW Unit), RngW w' B (wo.heap.size + 1) N D left cnt ∧ cnt ≤ N ∧ (∀ kl, left kl = true → Maps.has D kl = true) ∧ MapW w' wo.heap.size (2 * (N - cnt)) D2 ∧
     Eqv (phi (dpN W T xs m (k + 1)) allKy D2 + phi (dpN W T xs (m + 1) k) left D) TT ∧ KeysLt D2 (2 ^ W.toNat) ∧ w'.heap[w.heap.size]? = some (.cells #[.int .i64 W, .int .i64 T, .slice a n cap] 25 (0, 0)) ∧ Below w.heap.size w w')
     (fun _ w' => w'.rangeLeft B (wo.heap.size + 1))
    case atStart =>
     refine ⟨_, _, .map [], hrg0, hle0, fun kl h => h, hmade.mono (Nat.zero_le _), ?_, keys_empty _, pr0, bel0⟩
     obtain ⟨es, he⟩ := hT.isMap
     rw [phi_has he (hky es he)]
     have e0 : phi (dpN W T xs m (k + 1)) allKy (.map [] : DataW Unit) = 0 := rfl
     rw [e0, Int.zero_add]
     exact heq
    case round =>
     clear pr0 bel0 hmade hrg0 hs0 c0 c1 c2 pr hbel l1 heq hown'
     obtain ⟨left, cnt, D2, hrg, hcs, hle, hout, heq2, hk2, pr2, bel2⟩ := hrel
     rename World => wi
     have hsz : wo.heap.size + 2 ≤ wi.heap.size := World.ranges.lt hrg
     go_wp2_with (first
      | (at_next; refine wpList_next_ranges_ii _ rfl _ rfl 3 3 .i64 .i64 lawI Try.underlying3 Try.underlying3 B (wo.heap.size + 1) N _ _ _ rfl hrg ?_ ?_)
      | go_in)
     · intro hc0 hl0
       go_wp2
       subst hc0
       rw [phi_none hl0, Int.add_zero, HM.out] at heq2
       have eN : 2 * (N - 0) = 2 ^ (k + 1) := by rw [HNN.out, Nat.pow_succ]; omega
       rw [eN] at hout
       exact ⟨⟨k + 1, by omega, by go_num, wo.heap.size, D2, rfl, by omega, hout, heq2, hk2, pr2, bel2⟩, by simp [intOf]; omega⟩
     · intro x c w1 cnt1 hwx hwc hlx hat hrg1 hlt1 hg1 hs1 hen
       obtain ⟨z, hz, hzB⟩ := hkeys _ (hle _ hlx)
       have hxz : x = (z : Int) := by simpa [kI] using hz
       subst hxz
       clear hz
       have hwi : w.heap.size < wi.heap.size := by omega
       have pr3 := heap_grown pr2 hg1 (by intro h; have := Option.some.inj h; omega)
       have bel3 : Below w.heap.size w w1 := below_grown bel2 hg1 (Nat.le_refl _) (by intro j hj; have := Option.some.inj hj; omega)
       have hout3 : MapW w1 wo.heap.size (2 * (N - cnt)) D2 := World.ownsMap.kept hout hg1 (by intro h; have := Option.some.inj h; omega)
       have hq : phi (dpN W T xs (m + 1) k) left D = c * (dpN W T xs (m + 1) k z : Int) + phi (dpN W T xs (m + 1) k) (fun y => left y && !y.sameKey (kI z)) D := by
        have := phi_left (f := dpN W T xs (m + 1) k) (D := D) (z := z) (c := c) hT hlx hat
        simpa using this
       rw [hq] at heq2
       clear hq hg1 hout pr2 bel2
       obtain ⟨d0, d1, d2⟩ := cells3 pr3
       go_wp2_with fail
       refine (coveredAfter_ret W T _ _ _ xs k z _ HN.out hW0 hW1 hT0 hT1 HWT.out hlt (by omega) (HA.out.below bel3)).mono ?_; rintro e w2 ⟨a2, cap2, rfl, ho2, hb2⟩
       have pr4 := heap_later pr3 hb2
       have bel4 := below_seq bel3 hb2
       have hrg2 : RngW w2 B (wo.heap.size + 1) N D (fun y => left y && !y.sameKey (kI z)) cnt1 := World.ranges.kept hrg1 (grown_of_below hb2 none) (by simp) (by simp)
       have hout4 : MapW w2 wo.heap.size (2 * (N - cnt)) D2 := World.ownsMap.kept hout3 (grown_of_below hb2 none) (by simp)
       have hz2 := hb2.size
       clear hrg1 hout3 pr3 bel3 d0 d1 d2 hb2
       obtain ⟨LL, hLL⟩ : ∃ LL, LL = (coverL W T xs k z).length := ⟨_, rfl⟩
       have hLL2 : LL ≤ 2 := by rw [hLL]; unfold coverL; rw [List.length_map]; exact dpOpts_le W T xs k z
       rw [← hLL] at ho2 ⊢
       have HLL := Lib.hid hLL; clear hLL
       go_wp2
       go_loopw [9, 31] (fun _ i w' => ∃ j : Nat, j ≤ LL ∧ i = .int .i64 j ∧ ∃ D3 : DataW Unit, RngW w' B (wo.heap.size + 1) N D (fun y => left y && !y.sameKey (kI z)) cnt1 ∧ MapW w' wo.heap.size (2 * (N - cnt) + j) D3 ∧
        Eqv (phi (dpN W T xs m (k + 1)) allKy D3) (phi (dpN W T xs m (k + 1)) allKy D2 + c * (sumTo (dpN W T xs m (k + 1)) (dpOpts W T xs k z) j : Int)) ∧ KeysLt D3 (2 ^ W.toNat) ∧ OwnsI w' w1.heap.size (.slice a2 LL cap2) (coverL W T xs k z) ∧
        w'.heap[w.heap.size]? = some (.cells #[.int .i64 W, .int .i64 T, .slice a n cap] 25 (0, 0)) ∧ Below w.heap.size w w') (fun _ i _ => LL - (intOf i).toNat)
       case atStart =>
        refine ⟨0, Nat.zero_le _, rfl, D2, hrg2, hout4, Eqv.of ?_, hk2, ho2, pr4, bel4⟩
        simp [sumTo]
       case round =>
        clear hrg2 hout4 ho2 pr4 bel4
        obtain ⟨j, hj, rfl, D3, hrg3, hout5, heq3, hk3, ho3, pr5, bel5⟩ := hrel
        rename World => wj
        by_cases hjl : j < LL
        · obtain ⟨o, ho⟩ : ∃ o, o = (dpOpts W T xs k z).getD j 0 := ⟨_, rfl⟩
          have hjd : j < (dpOpts W T xs k z).length := by
           have := HLL.out
           unfold coverL at this
           rw [List.length_map] at this
           omega
          have hoB : o < 2 ^ W.toNat := by
           rw [ho, List.getD_eq_getElem?_getD, List.getElem?_eq_getElem hjd, Option.getD_some]
           exact dpOpts_lt hW0 hW1 hzB _ (List.getElem_mem _)
          have hco : (coverL W T xs k z).getD j 0 = (o : Int) := by
           unfold coverL
           rw [ho, List.getD_eq_getElem?_getD, List.getD_eq_getElem?_getD, List.getElem?_map, List.getElem?_eq_getElem hjd]
           rfl
          have hsum := sumTo_succ (dpN W T xs m (k + 1)) _ _ hjd
          rw [← ho] at hsum
          obtain ⟨gb, go, ea, hcell⟩ := (OwnsI.at ho3) j (by rw [← HLL.out]; exact hjl)
          rw [hco] at hcell
          cases ea
          have hgl := World.block_lt_of_cell? wj _ hcell
          simp only at hgl
          have hwo : (Lit.int .i64 (o : Int)).wf = true := WalkArith.wf_i64 (by omega)
          have HSUM := Lib.hid hsum; clear hsum ho hco
          have e0 : (j : Int) < LL := by omega
          go_wp2_with (first
           | (at_lookup; refine wpList_lookup_own_int _ rfl _ _ 108 rfl 3 3 .i64 lawI Try.underlying108 Try.underlying3 (zeroI _) wo.heap.size (2 * (N - cnt) + j) _ rfl hout5 _ _ rfl (keyOf_int_mk Try.underlying3 hwo) ?_; intro cv hat2 hwc2)
           | (at_mapUpdate; refine wpList_mapUpdate_own _ rfl _ _ _ 108 rfl 3 3 lawI Try.underlying108 _ wo.heap.size (2 * (N - cnt) + j) _ rfl hout5 (by unfold maxLen; omega) _ _ _ rfl rfl (keyOf_int_mk Try.underlying3 hwo) _ [] (plainElem_int Try.underlying3 (wrap64_wf _)) ?_; intro w4 hout6 hg4)
           | go_in)
          refine ⟨⟨j + 1, by omega, by go_num, _, World.ranges.kept hrg3 hg4 (by intro h; have := Option.some.inj h; omega) (by intro h; have := Option.some.inj h; omega), hout6, ?_, hk3.put hoB _, OwnsI.keptBy ho3 hg4 (by intro q hq; have := Option.some.inj hq; omega),
           heap_grown pr5 hg4 (by intro h; have := Option.some.inj h; omega), below_grown bel5 hg4 (Nat.le_refl _) (by intro q hq; have := Option.some.inj hq; omega)⟩, by simp [intOf]; omega⟩
          have hp := phi_put (f := dpN W T xs m (k + 1)) (z := (o : Int)) (c := cv) (c' := wrap64 (cv + c)) (own_tidy (K := lawI) hout5).1 hat2
          simp only [kI, dI] at hp
          rw [hp, HSUM.out]
          refine eqv_put.trans ?_
          have e3 : c * ((sumTo (dpN W T xs m (k + 1)) (dpOpts W T xs k z) j + dpN W T xs m (k + 1) o : Nat) : Int) = c * (sumTo (dpN W T xs m (k + 1)) (dpOpts W T xs k z) j : Int) + c * (dpN W T xs m (k + 1) o : Int) := by
           rw [Int.natCast_add, Int.mul_add]
          rw [e3, ← Int.add_assoc]
          simpa using heq3.add (Eqv.refl (c * (dpN W T xs m (k + 1) o : Int)))
        · obtain rfl : j = LL := by omega
          clear hjl
          go_wp2
          refine ⟨⟨_, cnt1, D3, hrg3, by omega, fun kl h => hle kl (by simp at h; exact h.1), World.ownsMap.mono hout5 (by omega), ?_, hk3, pr5, bel5⟩, by rw [World.ranges.left_eq hrg3, World.ranges.left_eq hrg]; exact hlt1⟩
          have e : sumTo (dpN W T xs m (k + 1)) (dpOpts W T xs k z) j = dpN W T xs (m + 1) k z := by
           rw [HDP.out z, ← sumTo_all, HLL.out]
           unfold coverL
           rw [List.length_map]
          rw [e] at heq3
          refine (heq3.add (Eqv.refl _)).trans ?_
          rw [Int.add_assoc]
          exact heq2
  · obtain rfl : k = n := by omega
    clear hlt
    go_wp2_with (first
     | (at_lookup; refine wpList_lookup_own_int _ rfl _ _ 108 rfl 3 3 .i64 lawI Try.underlying108 Try.underlying3 (zeroI _) B N _ rfl hown _ _ rfl (keyOf_int_mk Try.underlying3 (a := 0) (by decide)) ?_; intro c hat hwc)
     | go_in)
    go_ret
    obtain ⟨hT, hky⟩ := own_tidy (K := lawI) hown
    rw [Nat.sub_self] at heq
    have e1 : phi (dpN W T xs 0 k) allKy D = c := by
     have := phi_end (c := c) hT hky hkeys hat
     rw [← this]
     rfl
    rw [e1, hTT] at heq
    have hle := dpT_le (W := W) (T := T) (xs := xs) (by rw [← HN.out]; exact n36)
    have hb := wf_inv hwc
    exact ⟨ret_int (heq.eq hb (by omega)), hbel⟩

end Go.Proofs.Ytpcajacekmidbaa
