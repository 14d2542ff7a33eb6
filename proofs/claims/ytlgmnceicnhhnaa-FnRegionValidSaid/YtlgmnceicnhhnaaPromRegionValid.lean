/- The law FnRegionValid: its walk. -/
import Derived.Test.YtlgmnceicnhhnaaProm
import Derived.Test.YtlgmnceicnhhnaaFlipM
import Derived.Test.YtlgmnceicnhhnaaTurnS
namespace Go.Proofs.Ytlgmnceicnhhnaa
open Go.RowKit
set_option linter.unusedVariables false
set_option maxRecDepth 100000
set_option linter.unusedSimpArgs false

theorem falses_at (w : World) (n : Nat) (hn : n ≤ maxLen) : BoolsAt (w.alloc (.cells (falses n) 4)) (some ⟨w.heap.size, 0, none⟩) (List.replicate n false) := by
  have h := (rowB_new w n (B := w.heap.size) hn (Nat.le_refl _)).owns
  rw [tab_const] at h
  exact OwnsB.at h
theorem falses_drew (w : World) (n : Nat) (hn : n ≤ maxLen) : BoolsAt (w.alloc (.cells (falses n) 4)).drew (some ⟨w.heap.size, 0, none⟩) (List.replicate n false) := falses_at w n hn
theorem run_makeB1 (w : World) : (Instr.makeSlice 23 (.int .i64 1) (.int .i64 1)).run Try.prog w = .ok (.slice (some ⟨w.heap.size, 0, none⟩) 1 1) (w.alloc (.cells (falses 1) 4)) := run_makeB 1 (by omega) w
theorem cnt_falses (n : Nat) : cnt (List.replicate n false) = 0 := by simp [cnt]
theorem BoolsAt.tail {w : World} {b off : Nat} {xs : List Bool} (h : BoolsAt w (some ⟨b, off, none⟩) xs) : BoolsAt w (some ⟨b, off + 1, none⟩) xs.tail := by
  intro i hi
  rw [List.length_tail] at hi
  obtain ⟨b', off', e, hc⟩ := h (i + 1) (by omega)
  simp only [Option.some.injEq, Addr.mk.injEq, and_true] at e
  obtain ⟨rfl, rfl⟩ := e
  refine ⟨b, off + 1, rfl, ?_⟩
  rw [show off + 1 + i = off + (i + 1) by omega, hc]
  congr 2
  cases xs with
  | nil => simp at hi
  | cons x xs => simp
theorem rv_short {W T : Nat} {xs ys : List Bool} (h : rv W T xs = true) (hl : ys.length + 1 = xs.length) : rv W T ys = false := by
  obtain ⟨v1, v2, v3, v4, v5, v6⟩ := rv_parts.1 h
  cases h2 : rv W T ys
  · rfl
  · obtain ⟨u1, u2, u3, u4, u5, u6⟩ := rv_parts.1 h2
    omega

set_option maxHeartbeats 4000000 in
theorem promRegionValid_walk (cb : Option Addr) (n cap : Nat) (zs : List Int) (w : World) (hn : n = zs.length) (hn' : n ≤ maxLen) (hcap : n ≤ cap) (hb : BytesAt w cb zs) :
    Calls Try.prog 3 #[.slice cb n cap] w fun e w' => e = .returned (.bool true) ∧ Below w.heap.size w w' := by
  have HN := Lib.hid hn; clear hn
  have HB := Lib.hid hb; clear hb
  by_cases hbig : 1048576 < n
  · unfold maxLen at hn'
    go_enter Try.func3, Try.ntmps3
    go_wp2
    go_ret
    exact ⟨rfl, Below.refl _ _⟩
  have hsm : n ≤ 1048576 := by omega
  clear hbig hn'
  go_enter Try.func3, Try.ntmps3
  go_wp2_with fail
  refine (drawRegionValid_any _ _ _ zs _ HN.out hsm hcap HB.out).mono ?_; rintro e w1 ⟨W0, T0, a, m, c, xs, rfl, hm, h36, hs, ho, b1⟩
  have HM := Lib.hid hm; clear hm
  have hform := ho.forms
  have hown' := ho.2
  have AX := Lib.hid (OwnsB.at ho); clear ho
  obtain ⟨s0, s1, s2, s3⟩ := hs
  go_wp2_with fail
  refine (iRegionValid_any _ _ _ _ _ xs _ HM.out (by omega) (AX.out.one _)).mono ?_; rintro e w2 ⟨rfl, hb2⟩
  have b2 := below_seq (below_seq b1 (below1 _ _)) hb2
  have p2 := heap_later (heap_new w1 _) hb2
  have A2 := Lib.hid ((AX.out.one (.cells #[.int .i64 W0, .int .i64 T0, .slice a m c] 25)).below hb2)
  obtain ⟨c0, c1, c2⟩ := cells3 p2
  go_wp2_with fail
  refine (sRegionValid_any _ _ _ _ _ xs _ HM.out (by omega) A2.out).mono ?_; rintro e w3 ⟨rfl, hb3⟩
  have b3 := below_seq b2 hb3
  have p3 := heap_later p2 hb3
  have A3 := Lib.hid (A2.out.below hb3)
  clear c0 c1 c2
  obtain ⟨c0, c1, c2⟩ := cells3 p3
  cases h : rv W0 T0 xs
  · clear h hform
    have H0 : Hid (rv 0 0 [] = false) := rfl
    go_wp2_with fail
    refine (iRegionValid_any _ _ _ _ _ [] _ rfl (by simp) (BoolsAt.empty _ _)).mono ?_; rintro e w4 ⟨rfl, hb4⟩
    rw [H0.out]
    go_wp2_with fail
    refine (alive_any _).mono ?_; rintro e w5 ⟨rfl, hb5⟩
    go_wp2
    go_ret
    exact ⟨rfl, below_seq b3 (below_seq hb4 hb5)⟩
  · obtain ⟨Wn, Tn, rfl, rfl, hl⟩ := rv_nat h
    obtain ⟨v1, v2, v3, v4, v5, v6⟩ := rv_parts.1 h
    have hp : 0 < xs.length := by rw [v5]; exact Nat.mul_pos (by omega) (by omega)
    have hp' : 0 < m := by rw [HM.out]; exact hp
    have hf : ∃ g, a = some ⟨g, 0, none⟩ := by
      rcases hform with ⟨h1, h2⟩ | ⟨g, c', h1, _⟩
      · rw [h2] at hp; simp at hp
      · simp only [Value.slice.injEq] at h1; exact ⟨g, h1.1⟩
    obtain ⟨g, rfl⟩ := hf
    have hmc : m ≤ c := by
      rcases hown' with ⟨h1, h2⟩ | ⟨g', cap', cur, hv, hg, hh, hle, _⟩
      · omega
      · simp only [Value.slice.injEq] at hv; omega
    have HR1 : Hid (rv Wn Tn (List.replicate m false) = true) := rv_parts.2 ⟨v1, v2, v3, v4, by rw [List.length_replicate, HM.out]; exact v5, by rw [cnt_falses]; omega⟩
    have HR2 : Hid (rv Wn Tn xs.tail = false) := rv_short h (by rw [List.length_tail]; omega)
    have HMT : Hid (m - 1 = xs.tail.length) := by show m - 1 = _; rw [List.length_tail, HM.out]
    have hmk := run_makeB m (by omega)
    have HT3 := Lib.hid (BoolsAt.tail A3.out)
    have l3 := heap_lt p3
    clear h hl v5 hp hform hown'
    have e1 : (1 : Int) ≤ c := by omega
    have e2 : (1 : Int) ≤ m := by omega
    have e3 : (1 : Nat) ≤ m := by omega
    have e4 : (1 : Nat) ≤ c := by omega
    have P3 : w3.drew.heap[w1.heap.size]? = some _ := p3
    have n1 : w3.heap.size ≠ w1.heap.size := by omega
    go_wp2_with fail
    by_cases hc1 : c = 1
    · obtain rfl : m = 1 := by omega
      subst hc1
      have hmk1 := run_makeB1
      clear hmk
      have HR3 : Hid (rv Wn Tn [] = false) := by have := HR2.out; rwa [List.length_eq_zero_iff.1 HMT.out.symm] at this
      go_region_held3 (fun w' => w'.cell? ⟨w1.heap.size, 0, none⟩ = some (.int .i64 Wn) ∧ w'.cell? ⟨w1.heap.size, 1, none⟩ = some (.int .i64 Tn) ∧ w'.cell? ⟨w1.heap.size, 2, none⟩ = some (.slice (some ⟨g, 0, none⟩) 1 1))
        (go_keep)
        (first
          | (go_at_call 16; have B4' := B4.out; (with_reducible refine (iRegionValid_any _ _ _ 0 _ [] _ (show 0 = ([] : List Bool).length from rfl) (Nat.zero_le _) (BoolsAt.empty _ _)).mono ?_); rintro e w5 ⟨rfl, hb5⟩; rw [HR3.out]; have p5 := heap_later p4 hb5; obtain ⟨c50, c51, c52⟩ := cells3 p5)
          | (go_at_call 16; (with_reducible refine (iRegionValid_any _ _ _ _ _ (List.replicate 1 false) _ (List.length_replicate).symm (by omega) (falses_drew _ 1 (by unfold maxLen; omega))).mono ?_); rintro e w4 ⟨rfl, hb4⟩; rw [HR1.out]; have p4 := heap_later (show (World.drew (w3.alloc (.cells (falses 1) 4))).heap[w1.heap.size]? = some _ from heap_later p3 (below_seq (below1 _ _) (drew_below _))) hb4; have B4 := Lib.hid (below_seq (below_seq (below1 w3 (.cells (falses 1) 4)) (drew_below _)) hb4); obtain ⟨c40, c41, c42⟩ := cells3 p4))
      go_wp2
      go_ret
      exact ⟨rfl, below_seq b3 (below_seq B4.out hb5)⟩
    · have e5 : (c == 1) = false := by simpa using hc1
      have e6 : ((c : Int) == 1) = false := by simp; omega
      have e7 : ¬ (1 = c) := fun e => hc1 e.symm
      go_region_held3 (fun w' => w'.cell? ⟨w1.heap.size, 0, none⟩ = some (.int .i64 Wn) ∧ w'.cell? ⟨w1.heap.size, 1, none⟩ = some (.int .i64 Tn) ∧ w'.cell? ⟨w1.heap.size, 2, none⟩ = some (.slice (some ⟨g, 0, none⟩) m c))
        (go_keep)
        (first
          | (go_at_call 16; have B4' := B4.out; (with_reducible refine (iRegionValid_any _ _ _ _ _ xs.tail _ HMT.out (by omega) (HT3.out.below B4')).mono ?_); rintro e w5 ⟨rfl, hb5⟩; rw [HR2.out]; have p5 := heap_later p4 hb5; obtain ⟨c50, c51, c52⟩ := cells3 p5)
          | (go_at_call 16; (with_reducible refine (iRegionValid_any _ _ _ _ _ (List.replicate m false) _ (List.length_replicate).symm (by omega) (falses_drew _ m (by unfold maxLen; omega))).mono ?_); rintro e w4 ⟨rfl, hb4⟩; rw [HR1.out]; have p4 := heap_later (show (World.drew (w3.alloc (.cells (falses m) 4))).heap[w1.heap.size]? = some _ from heap_later p3 (below_seq (below1 _ _) (drew_below _))) hb4; have B4 := Lib.hid (below_seq (below_seq (below1 w3 (.cells (falses m) 4)) (drew_below _)) hb4); obtain ⟨c40, c41, c42⟩ := cells3 p4))
      go_wp2
      go_ret
      exact ⟨rfl, below_seq b3 (below_seq B4.out hb5)⟩

end Go.Proofs.Ytlgmnceicnhhnaa
