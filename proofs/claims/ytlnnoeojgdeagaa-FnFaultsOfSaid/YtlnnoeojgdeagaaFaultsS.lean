/- Contract of spec.FaultsOf. -/
import Derived.Test.YtlnnoeojgdeagaaFaults
namespace Go.Proofs.Ytlnnoeojgdeagaa
open Go.RowKit
set_option linter.unusedVariables false
set_option maxRecDepth 100000
set_option linter.unusedSimpArgs false

theorem own_nil_lit (w : World) {B : Nat} (hB : B ≤ w.heap.size) : OwnsI (w.alloc (.cells #[] 3 (0, 0))) B (.slice (some ⟨w.heap.size, 0, none⟩) 0 0) [] :=
  World.ownsRow_made w #[] 0 hB (Nat.zero_le _) rfl

set_option maxHeartbeats 4000000 in
theorem sFaultsOf_ret (W T : Int) (a : Option Addr) (n cap : Nat) (xs : List Bool) (la : Option Addr) (m lcap : Nat) (L : List Int) (w : World) (hn : n = xs.length) (hn' : n ≤ 1048576) (hm : m = L.length) (hm' : m ≤ 1048576) (ha : BoolsAt w a xs) (hl : IntsAt w la L) :
    Calls Try.prog 61 #[.agg #[.int .i64 W, .int .i64 T, .slice a n cap], .slice la m lcap] w (RetL w (faultsF W T xs L).length (faultsF W T xs L)) := by
  have HN := Lib.hid hn; clear hn
  have HM := Lib.hid hm; clear hm
  have HA := Lib.hid ha; clear ha
  have HL := Lib.hid hl; clear hl
  obtain ⟨wA, hwA⟩ : ∃ wA, wA = (w.alloc (.cells #[.int .i64 W, .int .i64 T, .slice a n cap] 28)).alloc (.cells #[] 3 (0, 0)) := ⟨_, rfl⟩
  have pA : wA.heap[w.heap.size]? = some (.cells #[.int .i64 W, .int .i64 T, .slice a n cap] 28 (0, 0)) := by rw [hwA]; exact heap_later (heap_new w _) (below1 _ _)
  have bA : Below w.heap.size w wA := by rw [hwA]; exact below2 _ _ _
  have oA : OwnsI wA (w.heap.size + 1) (.slice (some ⟨w.heap.size + 1, 0, none⟩) 0 0) [] := by
    rw [hwA]; have := own_nil_lit (w.alloc (.cells #[.int .i64 W, .int .i64 T, .slice a n cap] 28)) (B := w.heap.size + 1) (by simp); simpa using this
  have HOA := Lib.hid oA; clear oA
  obtain ⟨c0, c1, c2⟩ := cells3 pA
  cases h : lok W T xs L
  · have e : faultsF W T xs L = [] := by unfold faultsF; rw [h]; rfl
    rw [e]
    have H := Lib.hid h; clear h e
    by_cases hW : 1 < W
    · go_enter Try.func61, Try.ntmps61
      go_wp2_with fail
      rw [← hwA]
      clear hwA
      refine wp_loop_rounds 1 ?_
      rw [rounds_succ]
      go_wp2_with fail
      refine (sLaidOk_any _ _ _ _ _ xs _ _ _ L _ HN.out hn' HM.out hm' (HA.out.below bA) (HL.out.below bA)).mono ?_; rintro e w1 ⟨rfl, hb1⟩
      rw [H.out]
      go_wp2
      go_ret
      exact ⟨some ⟨w.heap.size + 1, 0, none⟩, 0, rfl, (HOA.out.below hb1).lower (by omega), below_seq bA hb1⟩
    · go_enter Try.func61, Try.ntmps61
      go_wp2_with fail
      rw [← hwA]
      clear hwA
      refine wp_loop_rounds 1 ?_
      rw [rounds_succ]
      go_wp2
      go_ret
      exact ⟨some ⟨w.heap.size + 1, 0, none⟩, 0, rfl, HOA.out.lower (by omega), bA⟩
  · obtain ⟨Wn, Tn, rfl, rfl, hlen⟩ := lok_nat h
    obtain ⟨h1, h2, h3⟩ := lok_rv h
    have hle : m = n := by rw [HM.out, HN.out]; exact h2
    subst hle
    obtain ⟨v1, v2, v3, v4, v5, _⟩ := rv_true h1
    have e : faultsF Wn Tn xs L = faultsTo Wn Tn L Wn := by unfold faultsF; rw [h, if_pos rfl]; simp
    rw [e]
    have HWT : Hid (m = Wn * Tn) := by show m = _; rw [HM.out]; exact hlen
    have hW6 : Wn ≤ 6 := by omega
    have hT6 : Tn ≤ 6 := by omega
    have hW1 : 1 ≤ Wn := by omega
    clear h1 h2 h3 v5 hlen e
    have H := Lib.hid h; clear h
    obtain ⟨i0, hi, hz0, hz1, hz2⟩ := info_parts infoInt
    go_enter Try.func61, Try.ntmps61
    go_wp2_with fail
    rw [← hwA]
    clear hwA c0 c1 c2
    go_loopw [5, 6, 7, 8] (fun v i _ _ wr => ∃ k : Nat, 1 ≤ k ∧ k ≤ Wn ∧ i = .int .i64 k ∧ OwnsI wr (w.heap.size + 1) v (faultsTo Wn Tn L k) ∧ wr.heap[w.heap.size]? = some (.cells #[.int .i64 Wn, .int .i64 Tn, .slice a m cap] 28 (0, 0)) ∧ Below w.heap.size w wr) (fun _ i _ _ _ => Wn - (intOf i).toNat)
    case atStart => exact ⟨1, Nat.le_refl _, hW1, rfl, by rw [faultsTo_one]; exact HOA.out, pA, bA⟩
    case round =>
      obtain ⟨k, hk1, hk, rfl, ho, pr, hbel⟩ := hrel
      have HO := Lib.hid ho; clear ho
      have BEL := Lib.hid hbel; clear hbel
      obtain ⟨c0, c1, c2⟩ := cells3 pr
      have l1 := heap_lt pr
      by_cases hlt : k < Wn
      · have hfl := faultsTo_le Wn Tn L k
        have e1 : (k : Int) < Wn := by omega
        go_wp2_with fail
        refine (sLaidOk_any _ _ _ _ _ xs _ _ _ L _ HN.out hn' HM.out hm' (HA.out.below BEL.out) (HL.out.below BEL.out)).mono ?_; rintro e w1 ⟨rfl, hb1⟩
        have p1 := heap_later pr hb1
        have B1 := Lib.hid (below_seq BEL.out hb1)
        have O1 := Lib.hid (HO.out.below hb1)
        rw [H.out]
        clear c0 c1 c2 hb1 pr l1
        obtain ⟨c0, c1, c2⟩ := cells3 p1
        have l1 := heap_lt p1
        go_wp2
        go_loop [7, 8] (fun f i => ∃ y : Nat, y ≤ Tn ∧ i = .int .i64 y ∧ f = .bool (!acrossN Wn L k y)) (fun _ i => Tn - (intOf i).toNat)
        case atStart => exact ⟨0, Nat.zero_le _, rfl, rfl⟩
        case round =>
          obtain ⟨y, hy, rfl, rfl⟩ := hrel
          by_cases hlt2 : y < Tn
          · have hidx := row_lt hlt hlt2
            obtain ⟨i0', i1, i2⟩ := idx_bd (W := (Wn : Int)) (T := (Tn : Int)) (x := k) (y := y) (by omega) (by omega) (by omega) (by omega)
            obtain ⟨lb, lo, rfl, -⟩ := HL.out (y * Wn + k) (by rw [← HM.out, HWT.out]; exact hidx)
            have h36 : Wn * Tn ≤ 6 * 6 := Nat.mul_le_mul hW6 hT6
            have i3 : (Wn : Int) * Tn ≤ 36 := by exact_mod_cast h36
            have i4 : (y : Int) * Wn + k < m := by have := HWT.out; rw [show (m : Int) = Wn * Tn by rw [this]; simp]; exact i2
            have e2 : (y : Int) < Tn := by omega
            have j1 : (y : Int) * Wn ≤ 100000 := by omega
            have hc6 := (HL.out.below B1.out).cellAt (i := y * Wn + k) (by rw [← HM.out, HWT.out]; exact hidx)
            obtain ⟨v, hv⟩ : ∃ v, v = L.getD (y * Wn + k) 0 := ⟨_, rfl⟩
            rw [← hv] at hc6
            have hc7 : w1.cell? ⟨lb, lo + ((y : Int) * Wn + k).toNat, none⟩ = some (.int .i64 v) := by rw [idx_toNat]; exact hc6
            have hsu : acrossN Wn L k (y + 1) = (acrossN Wn L k y || v == 3) := by rw [acrossN_succ, ← hv]
            clear h36 i2 i3 hv
            cases hac : acrossN Wn L k y
            · rw [hac] at hsu
              have HAC := Lib.hid hac; clear hac
              by_cases h3 : v = 3
              · subst h3
                have HS : Hid ((!acrossN Wn L k (y + 1)) = false) := by show _ = _; rw [hsu]; rfl
                clear hsu
                go_wp2
                go_round
                case rel => exact ⟨y + 1, by omega, by go_num, by rw [HS.out]⟩
                case measure => simp [intOf]; omega
              · have z3 : (v != 3) = true := by simpa using h3
                have HS : Hid ((!acrossN Wn L k (y + 1)) = true) := by show _ = _; rw [hsu]; simpa using h3
                clear hsu h3
                go_wp2
                go_round
                case rel => exact ⟨y + 1, by omega, by go_num, by rw [HS.out]⟩
                case measure => simp [intOf]; omega
            · rw [hac] at hsu
              have HS : Hid ((!acrossN Wn L k (y + 1)) = false) := by show _ = _; rw [hsu]; rfl
              have HAC := Lib.hid hac; clear hac hsu
              go_wp2
              go_round
              case rel => exact ⟨y + 1, by omega, by go_num, by rw [HS.out]⟩
              case measure => simp [intOf]; omega
          · obtain rfl : y = Tn := by omega
            cases hac : acrossN Wn L k y
            · have HNX := Lib.hid (faultsTo_add hk1 hac)
              have HAC := Lib.hid hac; clear hac
              go_wp2_with (at_builtin; refine wpList_append_own _ rfl _ _ 35 rfl (w.heap.size + 1) 3 i0 (.int .i64 0) 1 8 Try.underlying35 hi hz0 hz1 hz2 rfl (by decide) _ (faultsTo Wn y L k).length ((faultsTo Wn y L k).map (Value.int .i64)) rfl (World.ownsRow.alloc O1.out _) ⟨w1.heap.size, 0, none⟩ 1 1 [.int .i64 k] rfl rfl (new_int _ _) (one_int _) (by unfold maxLen; omega) (by omega) (by simp; omega) ?_; intro v' w8 hown' hgrow _; have p8 := heap_grown (heap_later p1 (below1 _ _)) hgrow (O1.out.ownBlock (by omega)); have O8 := Lib.hid (OwnsI.ofRow (xs := faultsTo Wn y L (k + 1)) hown' (by rw [HNX.out]; simp) (by rw [HNX.out]; simp)); have B8 := Lib.hid (below_grown (below_seq B1.out (below1 _ _)) hgrow (Nat.le_refl _) (O1.out.ownAt (by omega))); clear hown' hgrow)
              go_roundw
              case rel => exact ⟨k + 1, by omega, by omega, by go_num, O8.out, p8, B8.out⟩
              case measure => simp [intOf]; omega
            · have HNX := Lib.hid (faultsTo_keep hac)
              have HAC := Lib.hid hac; clear hac
              go_wp2
              go_roundw
              case rel => exact ⟨k + 1, by omega, by omega, by go_num, by rw [HNX.out]; exact O1.out, p1, B1.out⟩
              case measure => simp [intOf]; omega
      · obtain rfl : k = Wn := by omega
        obtain ⟨a9, cap9, hv⟩ := HO.out.form2
        subst hv
        go_wp2
        go_ret
        exact ⟨a9, cap9, rfl, HO.out.lower (by omega), BEL.out⟩

end Go.Proofs.Ytlnnoeojgdeagaa
