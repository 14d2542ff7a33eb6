/- Contract of impl.coveredAfter. -/
import Derived.Test.YtppfiacellebkaaDpM
import Derived.Test.YtppfiacellebkaaLayM
import Derived.Test.YtppfiacellebkaaRetI
namespace Go.Proofs.Ytppfiacellebkaa
open Go.RowKit
set_option linter.unusedVariables false
set_option maxRecDepth 100000
set_option linter.unusedSimpArgs false

theorem bits_odd : ∀ s : Fin 64, bits BinOp.and IntKind.i64 ((s.val : Nat) : Int) 1 = ((s.val % 2 : Nat) : Int) := by decide +kernel
theorem bits_free : ∀ s : Fin 64, ∀ d : Fin 7, s.val / 2 ^ d.val % 2 = 0 → bits BinOp.and IntKind.i64 ((s.val : Nat) : Int) ((2 ^ d.val : Nat) : Int) = 0 := by decide +kernel
theorem bits_set : ∀ s : Fin 64, ∀ d : Fin 7, s.val / 2 ^ d.val % 2 ≠ 0 → bits BinOp.and IntKind.i64 ((s.val : Nat) : Int) ((2 ^ d.val : Nat) : Int) = ((2 ^ d.val : Nat) : Int) := by decide +kernel
theorem bits_or : ∀ s : Fin 64, ∀ d : Fin 7, s.val / 2 ^ d.val % 2 = 0 → bits BinOp.or IntKind.i64 ((s.val : Nat) : Int) ((2 ^ d.val : Nat) : Int) = ((s.val + 2 ^ d.val : Nat) : Int) := by decide +kernel

theorem own_one_lit (w : World) {B : Nat} (x : Int) (hB : B ≤ w.heap.size) : OwnsI (w.alloc (.cells #[.int .i64 x] 3 (0, 0))) B (.slice (some ⟨w.heap.size, 0, none⟩) 1 1) [x] :=
  ⟨by simp, .inr ⟨w.heap.size, 1, #[.int .i64 x], rfl, hB, heap_alloc_new w _, Nat.le_refl _, by decide, by simp, by simp⟩⟩

theorem wrap_pow {d : Nat} (h1 : 1 ≤ d) (h6 : d ≤ 6) : wrap64 ((2 : Int) ^ d) = ((2 ^ d : Nat) : Int) := by
  have : d = 1 ∨ d = 2 ∨ d = 3 ∨ d = 4 ∨ d = 5 ∨ d = 6 := by omega
  rcases this with rfl | rfl | rfl | rfl | rfl | rfl <;> decide +kernel
theorem guard_set {s d : Nat} (hs : s < 64) (h1 : 1 ≤ d) (h6 : d ≤ 6) (h : s / 2 ^ d % 2 ≠ 0) : (bits BinOp.and IntKind.i64 (s : Int) (wrap64 ((2 : Int) ^ d)) == 0) = false := by
  have b := bits_set ⟨s, hs⟩ ⟨d, by omega⟩ h
  simp only at b
  have p := Nat.two_pow_pos d
  rw [wrap_pow h1 h6, b]
  simp only [beq_eq_false_iff_ne]
  omega
theorem guard_free {s d : Nat} (hs : s < 64) (h1 : 1 ≤ d) (h6 : d ≤ 6) (h : s / 2 ^ d % 2 = 0) : (bits BinOp.and IntKind.i64 (s : Int) (wrap64 ((2 : Int) ^ d)) == 0) = true := by
  have b := bits_free ⟨s, hs⟩ ⟨d, by omega⟩ h
  simp only at b
  rw [wrap_pow h1 h6, b]
  rfl
theorem or_free {s d : Nat} (hs : s < 64) (h1 : 1 ≤ d) (h6 : d ≤ 6) (h : s / 2 ^ d % 2 = 0) : bits BinOp.or IntKind.i64 (s : Int) (wrap64 ((2 : Int) ^ d)) / 2 = (((s + 2 ^ d) / 2 : Nat) : Int) := by
  have b := bits_or ⟨s, hs⟩ ⟨d, by omega⟩ h
  simp only at b
  rw [wrap_pow h1 h6, b]
  omega

theorem idx_way0 (w : World) : (Instr.index 43 (.agg #[.int .i64 1, .int .i64 2]) (.int .i64 0)).run Try.prog w = .ok (.int .i64 1) w := by kernel_rfl
theorem idx_way1 (w : World) : (Instr.index 43 (.agg #[.int .i64 1, .int .i64 2]) (.int .i64 1)).run Try.prog w = .ok (.int .i64 2) w := by kernel_rfl

def coverL (W T : Int) (xs : List Bool) (k s : Nat) : List Int := (dpOpts W T xs k s).map fun o : Nat => (o : Int)
def optsL (W T : Int) (xs : List Bool) (k s j : Nat) : List Int := (optsTo W T xs k s j).map fun o : Nat => (o : Int)

theorem optsL_le (W T : Int) (xs : List Bool) (k s j : Nat) : (optsL W T xs k s j).length ≤ j := by unfold optsL; rw [List.length_map]; exact optsTo_le W T xs k s j

set_option maxHeartbeats 4000000 in
theorem coveredAfter_ret (W T : Int) (a : Option Addr) (n cap : Nat) (xs : List Bool) (k s : Nat) (w : World) (hn : n = xs.length) (hW0 : 1 ≤ W) (hW1 : W ≤ 6) (hT0 : 1 ≤ T) (hT1 : T ≤ 6) (hWT : (n : Int) = W * T) (hk : k < n) (hs : s < 64) (ha : BoolsAt w a xs) :
    Calls Try.prog 23 #[.agg #[.int .i64 W, .int .i64 T, .slice a n cap], .int .i64 k, .int .i64 s] w (RetL w (coverL W T xs k s).length (coverL W T xs k s)) := by
  have HN := Lib.hid hn; clear hn
  obtain ⟨b, off, rfl, hx⟩ := ha k (by rw [← HN.out]; exact hk)
  have hlx := World.block_lt_of_cell? w _ hx
  simp only at hlx
  have HA := Lib.hid ha; clear ha
  have HWT := Lib.hid hWT; clear hWT
  have pb := (prod_bd (W := W) (T := T) (by omega) (by omega) (by omega) (by omega)).2
  have n4 : n ≤ 10000 := by have := HWT.out; omega
  have o1 := bits_odd ⟨s, hs⟩
  simp only at o1
  have hkn : (k : Int) < n := by omega
  by_cases hc : xs.getD k false = false ∨ s % 2 = 1
  · have e : coverL W T xs k s = [((s / 2 : Nat) : Int)] := by unfold coverL dpOpts; rw [if_pos hc]; rfl
    rw [e]
    have e2 : ((s / 2 : Nat) : Int) = (s : Int) / 2 := by omega
    have fin : ∀ o1 : Obj, RetL w [((s / 2 : Nat) : Int)].length [((s / 2 : Nat) : Int)] (.returned (.slice (some ⟨w.heap.size + 1, 0, none⟩) 1 1)) ((w.alloc o1).alloc (.cells #[.int .i64 ((s : Int) / 2)] 3 (0, 0))) := by
      intro o1
      refine ⟨_, _, rfl, ?_, below2 _ _ _⟩
      rw [e2]
      have := own_one_lit (w.alloc o1) (B := w.heap.size) ((s : Int) / 2) (by simp)
      simpa using this
    cases hcell : xs.getD k false
    · rw [hcell] at hx
      clear hc e o1
      go_enter Try.func23, Try.ntmps23
      go_wp2
      go_ret
      exact fin _
    · have h1 : s % 2 = 1 := by
        rcases hc with h | h
        · rw [hcell] at h; cases h
        · exact h
      rw [hcell] at hx
      rw [h1] at o1
      clear hc e
      go_enter Try.func23, Try.ntmps23
      go_wp2
      go_ret
      exact fin _
  · have hcell : xs.getD k false = true := by
      cases h : xs.getD k false
      · exact absurd (Or.inl h) hc
      · rfl
    have h1 : s % 2 = 0 := by
      have : ¬ (s % 2 = 1) := fun h => hc (Or.inr h)
      omega
    have e : coverL W T xs k s = optsL W T xs k s 2 := by unfold coverL dpOpts optsL; rw [if_neg hc]
    rw [e]
    rw [hcell] at hx
    rw [h1] at o1
    clear hc e
    obtain ⟨i0, hi, hz0, hz1, hz2⟩ := info_parts infoInt
    go_enter Try.func23, Try.ntmps23
    go_wp2
    go_loopw [7, 9, 10, 11, 27] (fun v _ _ _ i wr => ∃ j : Nat, j ≤ 2 ∧ i = .int .i64 j ∧ OwnsI wr (w.heap.size + 1) v (optsL W T xs k s j) ∧ wr.heap[w.heap.size]? = some (.cells #[.int .i64 W, .int .i64 T, .slice (some ⟨b, off, none⟩) n cap] 29 (0, 0)) ∧ Below w.heap.size w wr) (fun _ _ _ _ i _ => 2 - (intOf i).toNat)
    case atStart => exact ⟨0, by omega, rfl, OwnsI.nil _ _, heap_new _ _, below1 _ _⟩
    case round =>
      obtain ⟨j, hj, rfl, ho, pr, hbel⟩ := hrel
      have HO := Lib.hid ho; clear ho
      have BEL := Lib.hid hbel; clear hbel
      obtain ⟨c0, c1, c2⟩ := cells3 pr
      have l1 := heap_lt pr
      have ol := optsTo_le W T xs k s j
      have ix0 := idx_way0
      have ix1 := idx_way1
      have hj2 : j = 0 ∨ j = 1 ∨ j = 2 := by omega
      rcases hj2 with rfl | rfl | rfl
      · have hcb : cellB W T n k 1 = stepI W T k 1 := by unfold cellB; rw [if_pos (by omega)]
        have HNX : Hid (optsL W T xs k s 1 = optsL W T xs k s 0 ++ (optW W T xs k s 1).map fun o : Nat => (o : Int)) := by show _ = _; unfold optsL; simp [optsTo]
        rcases step_cases (s := s) (way := 1) (xs := xs) (Or.inl rfl) hW0 hW1 (by rw [← HN.out]; exact HWT.out) (by rw [← HN.out]; exact hk) with ⟨he, hO⟩ | ⟨d, hd1, hd6, he, hlt, hcase⟩
        · rw [hO] at HNX
          rw [he] at hcb
          clear he hO
          go_wp2_with fail
          refine (cellBeside_any _ _ _ _ _ _ _ _ hW0 hW1 hT0 hT1 HWT.out).mono ?_; rintro e w1 ⟨rfl, hb1⟩
          rw [hcb]
          have p1 := heap_later pr hb1
          have B1 := Lib.hid (below_seq BEL.out hb1)
          have O1 := Lib.hid (HO.out.below hb1)
          clear hb1 c0 c1 c2 pr l1
          go_wp2
          go_roundw
          case rel => exact ⟨1, by omega, by go_num, by rw [HNX.out]; simpa using O1.out, p1, B1.out⟩
          case measure => simp [intOf]
        · rw [he] at hcb
          have hdn : k + d < n := by rw [HN.out]; exact hlt
          obtain ⟨b', off', hbb, hy⟩ := HA.out (k + d) hlt
          cases hbb
          clear he hlt
          go_wp2_with fail
          refine (cellBeside_any _ _ _ _ _ _ _ _ hW0 hW1 hT0 hT1 HWT.out).mono ?_; rintro e w1 ⟨rfl, hb1⟩
          rw [hcb]
          have p1 := heap_later pr hb1
          have B1 := Lib.hid (below_seq BEL.out hb1)
          have O1 := Lib.hid (HO.out.below hb1)
          clear hb1 c0 c1 c2 pr l1 hcb
          obtain ⟨c0, c1, c2⟩ := cells3 p1
          have l1 := heap_lt p1
          have hy1 : w1.cell? ⟨b, off + (k + d), none⟩ = _ := (B1.out.cell (p := ⟨b, off + (k + d), none⟩) hlx).trans hy
          have hkd : ((k + d : Nat) : Int) < n := by omega
          rcases hcase with ⟨hcd, hO⟩ | ⟨hcd, hb0, hO⟩ | ⟨hcd, hb0, hO⟩
          · rw [hcd] at hy1
            rw [hO] at HNX
            go_wp2
            go_roundw
            case rel => exact ⟨1, by omega, by go_num, by rw [HNX.out]; simpa using O1.out, p1, B1.out⟩
            case measure => simp [intOf]
          · rw [hcd] at hy1
            rw [hO] at HNX
            have bs := guard_set hs hd1 hd6 hb0
            clear hb0
            go_wp2
            go_roundw
            case rel => exact ⟨1, by omega, by go_num, by rw [HNX.out]; simpa using O1.out, p1, B1.out⟩
            case measure => simp [intOf]
          · rw [hcd] at hy1
            rw [hO] at HNX
            have bs := guard_free hs hd1 hd6 hb0
            have bo := or_free hs hd1 hd6 hb0
            obtain ⟨V, hV⟩ : ∃ V : Nat, V = (s + 2 ^ d) / 2 := ⟨_, rfl⟩
            rw [← hV] at bo HNX
            clear hb0 hV
            go_wp2_with (at_builtin; refine wpList_append_own _ rfl _ _ 40 rfl (w.heap.size + 1) 3 i0 (.int .i64 0) 1 8 Try.underlying40 hi hz0 hz1 hz2 rfl (by decide) _ (optsL W T xs k s 0).length ((optsL W T xs k s 0).map (Value.int .i64)) rfl (World.ownsRow.alloc O1.out _) ⟨w1.heap.size, 0, none⟩ 1 1 [.int .i64 V] rfl rfl (new_int _ _) (one_int _) (by unfold maxLen; have := optsL_le W T xs k s 0; omega) (by have := optsL_le W T xs k s 0; omega) (by simp; omega) ?_; intro v' w8 hown' hgrow _; have p8 := heap_grown (heap_later p1 (below1 _ _)) hgrow (O1.out.ownBlock (by omega)); have O8 := Lib.hid (OwnsI.ofRow (xs := optsL W T xs k s 1) hown' (by rw [HNX.out]; simp) (by rw [HNX.out]; simp)); have B8 := Lib.hid (below_grown (below_seq B1.out (below1 _ _)) hgrow (Nat.le_refl _) (O1.out.ownAt (by omega))); clear hown' hgrow)
            go_roundw
            case rel => exact ⟨1, by omega, by go_num, O8.out, p8, B8.out⟩
            case measure => simp [intOf]
      · have hcb : cellB W T n k 2 = stepI W T k 2 := by unfold cellB; rw [if_pos (by omega)]
        have HNX : Hid (optsL W T xs k s 2 = optsL W T xs k s 1 ++ (optW W T xs k s 2).map fun o : Nat => (o : Int)) := by show _ = _; unfold optsL; simp [optsTo]
        rcases step_cases (s := s) (way := 2) (xs := xs) (Or.inr rfl) hW0 hW1 (by rw [← HN.out]; exact HWT.out) (by rw [← HN.out]; exact hk) with ⟨he, hO⟩ | ⟨d, hd1, hd6, he, hlt, hcase⟩
        · rw [hO] at HNX
          rw [he] at hcb
          clear he hO
          go_wp2_with fail
          refine (cellBeside_any _ _ _ _ _ _ _ _ hW0 hW1 hT0 hT1 HWT.out).mono ?_; rintro e w1 ⟨rfl, hb1⟩
          rw [hcb]
          have p1 := heap_later pr hb1
          have B1 := Lib.hid (below_seq BEL.out hb1)
          have O1 := Lib.hid (HO.out.below hb1)
          clear hb1 c0 c1 c2 pr l1
          go_wp2
          go_roundw
          case rel => exact ⟨2, by omega, by go_num, by rw [HNX.out]; simpa using O1.out, p1, B1.out⟩
          case measure => simp [intOf]
        · rw [he] at hcb
          have hdn : k + d < n := by rw [HN.out]; exact hlt
          obtain ⟨b', off', hbb, hy⟩ := HA.out (k + d) hlt
          cases hbb
          clear he hlt
          go_wp2_with fail
          refine (cellBeside_any _ _ _ _ _ _ _ _ hW0 hW1 hT0 hT1 HWT.out).mono ?_; rintro e w1 ⟨rfl, hb1⟩
          rw [hcb]
          have p1 := heap_later pr hb1
          have B1 := Lib.hid (below_seq BEL.out hb1)
          have O1 := Lib.hid (HO.out.below hb1)
          clear hb1 c0 c1 c2 pr l1 hcb
          obtain ⟨c0, c1, c2⟩ := cells3 p1
          have l1 := heap_lt p1
          have hy1 : w1.cell? ⟨b, off + (k + d), none⟩ = _ := (B1.out.cell (p := ⟨b, off + (k + d), none⟩) hlx).trans hy
          have hkd : ((k + d : Nat) : Int) < n := by omega
          rcases hcase with ⟨hcd, hO⟩ | ⟨hcd, hb0, hO⟩ | ⟨hcd, hb0, hO⟩
          · rw [hcd] at hy1
            rw [hO] at HNX
            go_wp2
            go_roundw
            case rel => exact ⟨2, by omega, by go_num, by rw [HNX.out]; simpa using O1.out, p1, B1.out⟩
            case measure => simp [intOf]
          · rw [hcd] at hy1
            rw [hO] at HNX
            have bs := guard_set hs hd1 hd6 hb0
            clear hb0
            go_wp2
            go_roundw
            case rel => exact ⟨2, by omega, by go_num, by rw [HNX.out]; simpa using O1.out, p1, B1.out⟩
            case measure => simp [intOf]
          · rw [hcd] at hy1
            rw [hO] at HNX
            have bs := guard_free hs hd1 hd6 hb0
            have bo := or_free hs hd1 hd6 hb0
            obtain ⟨V, hV⟩ : ∃ V : Nat, V = (s + 2 ^ d) / 2 := ⟨_, rfl⟩
            rw [← hV] at bo HNX
            clear hb0 hV
            go_wp2_with (at_builtin; refine wpList_append_own _ rfl _ _ 40 rfl (w.heap.size + 1) 3 i0 (.int .i64 0) 1 8 Try.underlying40 hi hz0 hz1 hz2 rfl (by decide) _ (optsL W T xs k s 1).length ((optsL W T xs k s 1).map (Value.int .i64)) rfl (World.ownsRow.alloc O1.out _) ⟨w1.heap.size, 0, none⟩ 1 1 [.int .i64 V] rfl rfl (new_int _ _) (one_int _) (by unfold maxLen; have := optsL_le W T xs k s 1; omega) (by have := optsL_le W T xs k s 1; omega) (by simp; omega) ?_; intro v' w8 hown' hgrow _; have p8 := heap_grown (heap_later p1 (below1 _ _)) hgrow (O1.out.ownBlock (by omega)); have O8 := Lib.hid (OwnsI.ofRow (xs := optsL W T xs k s 2) hown' (by rw [HNX.out]; simp) (by rw [HNX.out]; simp)); have B8 := Lib.hid (below_grown (below_seq B1.out (below1 _ _)) hgrow (Nat.le_refl _) (O1.out.ownAt (by omega))); clear hown' hgrow)
            go_roundw
            case rel => exact ⟨2, by omega, by go_num, O8.out, p8, B8.out⟩
            case measure => simp [intOf]
      · obtain ⟨a9, cap9, hv⟩ := HO.out.form2
        subst hv
        go_wp2
        go_ret
        exact ⟨a9, cap9, rfl, HO.out.lower (by omega), BEL.out⟩

end Go.Proofs.Ytppfiacellebkaa
