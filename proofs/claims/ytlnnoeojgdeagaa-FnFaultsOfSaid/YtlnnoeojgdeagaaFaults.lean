/- Contracts of impl.laidAcross and impl.FaultsOf. -/
import Derived.Test.YtlnnoeojgdeagaaTurnI
namespace Go.Proofs.Ytlnnoeojgdeagaa
open Go.RowKit
set_option linter.unusedVariables false
set_option maxRecDepth 100000
set_option linter.unusedSimpArgs false

/-- Whether a domino lies across the line in the west of column x, in one of the first y rows. -/
def acrossN (W : Nat) (L : List Int) (x y : Nat) : Bool := (List.range y).any fun j => L.getD (j * W + x) 0 == 3
def faultsTo (W T : Nat) (L : List Int) (k : Nat) : List Int := ((List.range k).filter fun x => decide (1 ≤ x) && !acrossN W L x T).map fun x : Nat => (x : Int)
def faultsF (W T : Int) (xs : List Bool) (L : List Int) : List Int := if lok W T xs L then faultsTo W.toNat T.toNat L W.toNat else []
theorem acrossN_succ (W : Nat) (L : List Int) (x y : Nat) : acrossN W L x (y + 1) = (acrossN W L x y || L.getD (y * W + x) 0 == 3) := by
  unfold acrossN; rw [List.range_succ, List.any_append]; simp
theorem acrossN_hit {W : Nat} {L : List Int} {x y T : Nat} (hy : y < T) (h : L.getD (y * W + x) 0 = 3) : acrossN W L x T = true := by
  unfold acrossN; rw [List.any_eq_true]; exact ⟨y, List.mem_range.2 hy, by simpa using h⟩
theorem faultsTo_one (W T : Nat) (L : List Int) : faultsTo W T L 1 = [] := by unfold faultsTo; simp
theorem faultsTo_add {W T : Nat} {L : List Int} {k : Nat} (hk : 1 ≤ k) (h : acrossN W L k T = false) : faultsTo W T L (k + 1) = faultsTo W T L k ++ [(k : Int)] := by
  unfold faultsTo; rw [List.range_succ, List.filter_append, List.map_append]; simp [h, hk]
theorem faultsTo_keep {W T : Nat} {L : List Int} {k : Nat} (h : acrossN W L k T = true) : faultsTo W T L (k + 1) = faultsTo W T L k := by
  unfold faultsTo; rw [List.range_succ, List.filter_append, List.map_append]; simp [h]
theorem faultsTo_le (W T : Nat) (L : List Int) (k : Nat) : (faultsTo W T L k).length ≤ k := by
  unfold faultsTo
  rw [List.length_map]
  have := List.length_filter_le (fun x => decide (1 ≤ x) && !acrossN W L x T) (List.range k)
  rw [List.length_range] at this; exact this
theorem faultsF_len (W T : Int) (xs : List Bool) (L : List Int) : (faultsF W T xs L).length ≤ 6 := by
  unfold faultsF
  by_cases h : lok W T xs L = true
  · obtain ⟨v1, v2, v3, v4, v5, _⟩ := rv_true (lok_rv h).1
    rw [if_pos h]
    have := faultsTo_le W.toNat T.toNat L W.toNat
    omega
  · rw [if_neg h]; simp
theorem row_lt {W T x y : Nat} (hx : x < W) (hy : y < T) : y * W + x < W * T := by
  rw [Nat.mul_comm W T]; exact comb_lt hy hx

theorem idx_toNat (y W x : Nat) : ((y : Int) * W + x).toNat = y * W + x := by
  rw [show ((y : Int) * W + x) = ((y * W + x : Nat) : Int) by push_cast; rfl]
  exact Int.toNat_natCast _

set_option maxHeartbeats 1000000 in
theorem laidAcross_any (W T : Nat) (a : Option Addr) (n cap : Nat) (la : Option Addr) (m lcap : Nat) (L : List Int) (x : Nat) (w : World) (hm : m = L.length) (hm' : m ≤ 1048576) (hW6 : W ≤ 6) (hT6 : T ≤ 6) (hx : x < W) (hWT : m = W * T) (hl : IntsAt w la L) :
    Calls Try.prog 95 #[.agg #[.int .i64 W, .int .i64 T, .slice a n cap], .slice la m lcap, .int .i64 x] w fun e w' => e = .returned (.bool (acrossN W L x T)) ∧ Below w.heap.size w w' := by
  have HM := Lib.hid hm; clear hm
  have HL := Lib.hid hl; clear hl
  have HWT := Lib.hid hWT; clear hWT
  go_enter Try.func95, Try.ntmps95
  go_wp2
  go_loopw [7, 10] (fun _ i wr => ∃ y : Nat, y ≤ T ∧ i = .int .i64 y ∧ acrossN W L x y = false ∧ wr.heap[w.heap.size]? = some (.cells #[.int .i64 W, .int .i64 T, .slice a n cap] 28 (0, 0)) ∧ Below w.heap.size w wr) (fun _ i _ => T - (intOf i).toNat)
  case atStart => exact ⟨0, Nat.zero_le _, rfl, rfl, heap_new w _, below1 _ _⟩
  case round =>
    obtain ⟨y, hy, rfl, hac, pr, hbel⟩ := hrel
    have HAC := Lib.hid hac; clear hac
    have BEL := Lib.hid hbel; clear hbel
    obtain ⟨c0, c1, c2⟩ := cells3 pr
    have l1 := heap_lt pr
    by_cases hlt : y < T
    · have hidx := row_lt hx hlt
      obtain ⟨i0, i1, i2⟩ := idx_bd (W := (W : Int)) (T := (T : Int)) (x := x) (y := y) (by omega) (by omega) (by omega) (by omega)
      have hT1 : 0 < T := by omega
      obtain ⟨lb, lo, rfl, -⟩ := HL.out (y * W + x) (by rw [← HM.out, HWT.out]; exact hidx)
      have h36 : W * T ≤ 6 * 6 := Nat.mul_le_mul hW6 hT6
      have i3 : (W : Int) * T ≤ 36 := by exact_mod_cast h36
      have i4 : (y : Int) * W + x < m := by have := HWT.out; rw [show (m : Int) = W * T by rw [this]; simp]; exact i2
      have e1 : (y : Int) < T := by omega
      have j1 : (y : Int) * W ≤ 100000 := by omega
      clear h36 i3 i2
      go_wp2_with fail
      refine (cellAt_any _ _ _ _ (.bool false) _ _ _ _ (by omega) (by omega) i0 j1).mono ?_; rintro e w6 ⟨rfl, hb6⟩
      have p6 := heap_later pr hb6
      have B6 := Lib.hid (below_seq BEL.out hb6)
      have hc6 := (HL.out.below B6.out).cellAt (i := y * W + x) (by rw [← HM.out, HWT.out]; exact hidx)
      obtain ⟨v, hv⟩ : ∃ v, v = L.getD (y * W + x) 0 := ⟨_, rfl⟩
      rw [← hv] at hc6
      have hc7 : w6.cell? ⟨lb, lo + ((y : Int) * W + x).toNat, none⟩ = some (.int .i64 v) := by
        rw [idx_toNat]; exact hc6
      by_cases h3 : v = 3
      · have HT : Hid (acrossN W L x T = true) := acrossN_hit hlt (by rw [← hv]; exact h3)
        subst h3
        clear hv
        go_wp2
        go_ret
        exact ⟨ret_bool HT.out.symm, B6.out⟩
      · have z3 : (v == 3) = false := by simpa using h3
        have HS : Hid (acrossN W L x (y + 1) = false) := by show _ = _; rw [acrossN_succ, HAC.out, ← hv, z3]; rfl
        clear hv h3
        go_wp2
        go_roundw
        case rel => exact ⟨y + 1, by omega, by go_num, HS.out, p6, B6.out⟩
        case measure => simp [intOf]; omega
    · obtain rfl : y = T := by omega
      go_wp2
      go_ret
      exact ⟨ret_bool HAC.out.symm, BEL.out⟩

set_option maxHeartbeats 2000000 in
theorem iFaultsOf_ret (W T : Int) (a : Option Addr) (n cap : Nat) (xs : List Bool) (la : Option Addr) (m lcap : Nat) (L : List Int) (w : World) (hn : n = xs.length) (hn' : n ≤ 1048576) (hm : m = L.length) (hm' : m ≤ 1048576) (ha : BoolsAt w a xs) (hl : IntsAt w la L) :
    Calls Try.prog 60 #[.agg #[.int .i64 W, .int .i64 T, .slice a n cap], .slice la m lcap] w (RetL w (faultsF W T xs L).length (faultsF W T xs L)) := by
  have HN := Lib.hid hn; clear hn
  have HM := Lib.hid hm; clear hm
  have HA := Lib.hid ha; clear ha
  have HL := Lib.hid hl; clear hl
  cases h : lok W T xs L
  · have e : faultsF W T xs L = [] := by unfold faultsF; rw [h]; rfl
    rw [e]
    have H := Lib.hid h; clear h e
    go_enter Try.func60, Try.ntmps60
    go_wp2_with fail
    refine (iLaidOk_any _ _ _ _ _ xs _ _ _ L _ HN.out hn' HM.out hm' (HA.out.one _) (HL.out.one _)).mono ?_; rintro e w1 ⟨rfl, hb1⟩
    have b1 := below_seq (below1 w _) hb1
    rw [H.out]
    go_wp2
    go_ret
    exact ⟨none, 0, rfl, OwnsI.nil _ _, b1⟩
  · obtain ⟨Wn, Tn, rfl, rfl, hlen⟩ := lok_nat h
    obtain ⟨h1, h2, h3⟩ := lok_rv h
    have hle : m = n := by rw [HM.out, HN.out]; exact h2
    subst hle
    obtain ⟨v1, v2, v3, v4, v5, _⟩ := rv_true h1
    have e : faultsF Wn Tn xs L = faultsTo Wn Tn L Wn := by unfold faultsF; rw [h, if_pos rfl]; simp
    rw [e]
    have HWT : Hid (m = Wn * Tn) := by show m = _; rw [HM.out]; exact hlen
    have hW6 : Wn ≤ 6 := by omega
    have hT6 : Tn ≤ 6 := by omega
    have hW1 : 1 ≤ Wn := by omega
    clear h1 h2 h3 v5 hlen e
    have H := Lib.hid h; clear h
    obtain ⟨i0, hi, hz0, hz1, hz2⟩ := info_parts infoInt
    go_enter Try.func60, Try.ntmps60
    go_wp2_with fail
    refine (iLaidOk_any _ _ _ _ _ xs _ _ _ L _ HN.out hn' HM.out hm' (HA.out.one _) (HL.out.one _)).mono ?_; rintro e w1 ⟨rfl, hb1⟩
    have p1 := heap_later (heap_new w _) hb1
    have b1 := below_seq (below1 w _) hb1
    rw [H.out]
    clear hb1
    obtain ⟨c0, c1, c2⟩ := cells3 p1
    go_wp2
    go_loopw [5, 6] (fun v i wr => ∃ k : Nat, 1 ≤ k ∧ k ≤ Wn ∧ i = .int .i64 k ∧ OwnsI wr (w.heap.size + 1) v (faultsTo Wn Tn L k) ∧ wr.heap[w.heap.size]? = some (.cells #[.int .i64 Wn, .int .i64 Tn, .slice a m cap] 28 (0, 0)) ∧ Below w.heap.size w wr) (fun _ i _ => Wn - (intOf i).toNat)
    case atStart => exact ⟨1, Nat.le_refl _, hW1, rfl, by rw [faultsTo_one]; exact OwnsI.nil _ _, p1, b1⟩
    case round =>
      clear c0 c1 c2
      obtain ⟨k, hk1, hk, rfl, ho, pr, hbel⟩ := hrel
      have HO := Lib.hid ho; clear ho
      have BEL := Lib.hid hbel; clear hbel
      obtain ⟨c0, c1, c2⟩ := cells3 pr
      have l1 := heap_lt pr
      by_cases hlt : k < Wn
      · have hfl := faultsTo_le Wn Tn L k
        have e1 : (k : Int) < Wn := by omega
        cases hac : acrossN Wn L k Tn
        · have HAC := Lib.hid hac; clear hac
          have HNX := Lib.hid (faultsTo_add hk1 HAC.out)
          go_wp2_with fail
          refine (laidAcross_any Wn Tn _ _ _ _ m _ L k _ HM.out hm' hW6 hT6 hlt HWT.out (HL.out.below BEL.out)).mono ?_; rintro e w6 ⟨rfl, hb6⟩
          have p6 := heap_later pr hb6
          have B6 := Lib.hid (below_seq BEL.out hb6)
          have O6 := Lib.hid (HO.out.below hb6)
          have l6 := heap_lt p6
          rw [HAC.out]
          go_wp2_with (at_builtin; refine wpList_append_own _ rfl _ _ 35 rfl (w.heap.size + 1) 3 i0 (.int .i64 0) 1 8 Try.underlying35 hi hz0 hz1 hz2 rfl (by decide) _ (faultsTo Wn Tn L k).length ((faultsTo Wn Tn L k).map (Value.int .i64)) rfl (World.ownsRow.alloc O6.out _) ⟨w6.heap.size, 0, none⟩ 1 1 [.int .i64 k] rfl rfl (new_int _ _) (one_int _) (by unfold maxLen; omega) (by omega) (by simp; omega) ?_; intro v' w8 hown' hgrow _; have p8 := heap_grown (heap_later p6 (below1 _ _)) hgrow (O6.out.ownBlock (by omega)); have O8 := Lib.hid (OwnsI.ofRow (xs := faultsTo Wn Tn L (k + 1)) hown' (by rw [HNX.out]; simp) (by rw [HNX.out]; simp)); have B8 := Lib.hid (below_grown (below_seq B6.out (below1 _ _)) hgrow (Nat.le_refl _) (O6.out.ownAt (by omega))); clear hown' hgrow)
          go_roundw
          case rel => exact ⟨k + 1, by omega, by omega, by go_num, O8.out, p8, B8.out⟩
          case measure => simp [intOf]; omega
        · have HAC := Lib.hid hac; clear hac
          have HNX := Lib.hid (faultsTo_keep HAC.out)
          go_wp2_with fail
          refine (laidAcross_any Wn Tn _ _ _ _ m _ L k _ HM.out hm' hW6 hT6 hlt HWT.out (HL.out.below BEL.out)).mono ?_; rintro e w6 ⟨rfl, hb6⟩
          have p6 := heap_later pr hb6
          have B6 := Lib.hid (below_seq BEL.out hb6)
          have O6 := Lib.hid (HO.out.below hb6)
          rw [HAC.out]
          go_wp2
          go_roundw
          case rel => exact ⟨k + 1, by omega, by omega, by go_num, by rw [HNX.out]; exact O6.out, p6, B6.out⟩
          case measure => simp [intOf]; omega
      · obtain rfl : k = Wn := by omega
        obtain ⟨a9, cap9, hv⟩ := HO.out.form2
        subst hv
        go_wp2
        go_ret
        exact ⟨a9, cap9, rfl, HO.out.lower (by omega), BEL.out⟩

end Go.Proofs.Ytlnnoeojgdeagaa
