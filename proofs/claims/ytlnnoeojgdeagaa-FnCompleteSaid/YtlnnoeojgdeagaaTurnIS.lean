/- Contracts of spec.TilingTurn and spec.TilingFlip. -/
import Derived.Test.YtlnnoeojgdeagaaTurnI
namespace Go.Proofs.Ytlnnoeojgdeagaa
open Go.RowKit
set_option linter.unusedVariables false
set_option maxRecDepth 100000
set_option linter.unusedSimpArgs false

theorem tDst_int' {W T k : Nat} (hW : 0 < W) (hk : k < W * T) : (((k : Int) % W) * T + T - 1 - (k : Int) / W).toNat = tDst W T k := by
  rw [← tDst_int hW hk]; congr 1; omega
theorem tDst_nat {W T k : Nat} (h : k / W < T) : k % W * T + T - 1 - k / W = tDst W T k := by
  unfold tDst; omega
theorem fIdx_nat {W k : Nat} (hW : 0 < W) : k / W * W + W - 1 - k % W = fIdx W k := by
  have := Nat.mod_lt k hW
  unfold fIdx; omega
theorem fIdx_int' {W k : Nat} (hW : 0 < W) : (((k : Int) / W) * W + W - 1 - (k : Int) % W).toNat = fIdx W k := by
  rw [← fIdx_int hW]; congr 1; omega

set_option maxHeartbeats 2000000 in
theorem sTilingTurn_ret (W T : Int) (a : Option Addr) (n cap : Nat) (xs : List Bool) (la : Option Addr) (m lcap : Nat) (L : List Int) (w : World) (hn : n = xs.length) (hn' : n ≤ 1048576) (hm : m = L.length) (hm' : m ≤ 1048576) (ha : BoolsAt w a xs) (hl : IntsAt w la L) :
    Calls Try.prog 54 #[.agg #[.int .i64 W, .int .i64 T, .slice a n cap], .slice la m lcap] w (RetL w (turnLF W T xs L).length (turnLF W T xs L)) := by
  have HN := Lib.hid hn; clear hn
  have HM := Lib.hid hm; clear hm
  have HA := Lib.hid ha; clear ha
  have HL := Lib.hid hl; clear hl
  cases h : lok W T xs L
  · have e : turnLF W T xs L = [] := by unfold turnLF; rw [h]; rfl
    rw [e]
    have H := Lib.hid h; clear h e
    go_enter Try.func54, Try.ntmps54
    go_wp2_with fail
    refine (sLaidOk_any _ _ _ _ _ xs _ _ _ L _ HN.out hn' HM.out hm' (HA.out.one _) (HL.out.one _)).mono ?_; rintro e w1 ⟨rfl, hb1⟩
    have b1 := below_seq (below1 w _) hb1
    rw [H.out]
    go_wp2
    go_ret
    exact ⟨some ⟨w1.heap.size, 0, none⟩, 0, rfl, World.ownsRow_made w1 #[] 0 b1.size (Nat.zero_le _) rfl, below_seq b1 (below1 _ _)⟩
  · obtain ⟨Wn, Tn, rfl, rfl, hlen⟩ := lok_nat h
    obtain ⟨h1, h2, h3⟩ := lok_rv h
    have hle : m = n := by rw [HM.out, HN.out]; exact h2
    subst hle
    obtain ⟨v1, v2, v3, v4, v5, _⟩ := rv_true h1
    have e : turnLF Wn Tn xs L = turnedI Wn Tn L := by unfold turnLF; rw [h, if_pos rfl]; simp
    rw [e]
    have hmWT : m = Wn * Tn := by rw [HM.out]; exact hlen
    have HE : Hid ((turnedI Wn Tn L).length = m) := by show _ = m; unfold turnedI; rw [tabI_len, hmWT]
    have hW : 0 < Wn := by omega
    have hT : 0 < Tn := by omega
    have HNW := Lib.hid hmWT; clear hmWT
    have hNTW : Hid ((Tn : Int) * Wn = m) := by show (Tn : Int) * Wn = m; rw [Int.mul_comm, HNW.out]; simp
    have n36 : m ≤ 36 := by
      have := mul_bd v1 v2 v3 v4
      have h9 : ((Wn * Tn : Nat) : Int) ≤ 36 := by push_cast; exact this.2
      have := HNW.out
      omega
    clear h1 h2 h3 v5 hlen e
    have H := Lib.hid h; clear h
    obtain ⟨i0, hi, hz0, hz1, hz2⟩ := info_parts infoInt
    go_enter Try.func54, Try.ntmps54
    go_wp2_with fail
    refine (sLaidOk_any _ _ _ _ _ xs _ _ _ L _ HN.out hn' HM.out hm' (HA.out.one _) (HL.out.one _)).mono ?_; rintro e w1 ⟨rfl, hb1⟩
    have p1 := heap_later (heap_new w _) hb1
    have b1 := below_seq (below1 w _) hb1
    have z1 : w.heap.size < w1.heap.size := heap_lt p1
    rw [H.out]
    clear hb1
    go_wp2_with (at_make; refine wpList_make_full _ rfl _ _ 35 rfl w1.heap.size 3 i0 (.int .i64 0) 1 Try.underlying35 hi hz0 hz1 _ _ _ _ m rfl rfl rfl rfl (by rw [hz2]; omega) (by unfold maxLen; omega) (Nat.le_refl _) ?_; intro w2 hown hgrow)
    rw [show (Value.int .i64 0).cells = #[.int .i64 0] from rfl, toList_madeCells_one] at hown
    have b2 := below_grown b1 hgrow (Nat.le_refl _) (by simp)
    have p2 := heap_grown p1 hgrow (by simp)
    have R2 : RowI w2 w1.heap.size w1.heap.size m m (tPartI Wn Tn L 0) := (RowI.of (OwnsI.ofRow (xs := List.replicate m 0) hown (by simp) (by simp)) (by simp)).congr (fun i hi => by simp [hi, tPartI])
    have lg := R2.base
    clear hown hgrow p1
    obtain ⟨c0, c1, c2⟩ := cells3 p2
    go_loopw [6] (fun i wr => ∃ k : Nat, k ≤ m ∧ i = .int .i64 k ∧ RowI wr w1.heap.size w1.heap.size m m (tPartI Wn Tn L k) ∧ wr.heap[w.heap.size]? = some (.cells #[.int .i64 Wn, .int .i64 Tn, .slice a m cap] 28 (0, 0)) ∧ Below w.heap.size w wr) (fun i _ => m - (intOf i).toNat)
    case atStart => exact ⟨0, Nat.zero_le _, rfl, R2, p2, b2⟩
    case round =>
      clear c0 c1 c2
      obtain ⟨k, hk, rfl, hr, pr, hbel⟩ := hrel
      obtain ⟨c0, c1, c2⟩ := cells3 pr
      have l1 := heap_lt pr
      by_cases hlt : k < m
      · have IL := HL.out.below hbel
        obtain ⟨lb, lo, rfl, hc⟩ := HL.out k (by rw [← HM.out]; exact hlt)
        have hbl := World.block_lt_of_cell? w _ hc
        simp only at hbl
        clear hc
        have hc := IL.cellAt (i := k) (by rw [← HM.out]; exact hlt)
        have hwy := lok_way H.out (k := k) (by rw [← HM.out]; exact hlt)
        obtain ⟨m1, m2, m3, m4⟩ := divmod_bd (W := Wn) (k := k) v1
        have e1 : (k : Int) < m := by omega
        have e0 : (0 : Int) ≤ k := by omega
        have hW0 : (Wn : Int) ≠ 0 := by omega
        obtain ⟨x, hx⟩ : ∃ x, x = L.getD k 0 := ⟨_, rfl⟩
        rw [← hx] at hc hwy
        obtain ⟨x0, x1⟩ := hwy
        have HX := Lib.hid hx; clear hx IL
        have hkW : k < Wn * Tn := by rw [← HNW.out]; exact hlt
        have hdst := tDst_lt hW hT hkW
        have hcell := hr.cell (k := tDst Wn Tn k) (by rw [HNW.out]; exact hdst)
        have hfree := hr.free (tDst Wn Tn k)
        obtain ⟨old, hold⟩ : ∃ old, old = tPartI Wn Tn L k (tDst Wn Tn k) := ⟨_, rfl⟩
        rw [← hold] at hcell
        clear hold
        have HR := Lib.hid hr; clear hr
        have BEL := Lib.hid hbel; clear hbel
        have hti := tDst_int' (T := Tn) hW hkW
        have hdv := div_lt_of hW hkW
        have hdv' : (k : Int) / Wn < Tn := by
          have : (((k / Wn : Nat)) : Int) < Tn := by omega
          simpa using this
        obtain ⟨i0', i1, i2⟩ := idx_bd (W := (Tn : Int)) (T := (Wn : Int)) (x := (Tn : Int) - 1 - (k : Int) / Wn) (y := (k : Int) % Wn) (by omega) (by omega) (by omega) (by omega)
        have i3 : ((k : Int) % Wn) * Tn + ((Tn : Int) - 1 - (k : Int) / Wn) < m := by rw [← hNTW.out]; exact i2
        have i4 : ((k : Int) % Wn) * Tn + Tn - 1 - (k : Int) / Wn < m := by omega
        have i5 : 0 ≤ ((k : Int) % Wn) * Tn + Tn - 1 - (k : Int) / Wn := by omega
        have i6 : (k : Int) / Wn ≤ ((k : Int) % Wn) * Tn + Tn - 1 := by omega
        rw [← hti] at hcell hfree
        have n1 : w1.heap.size ≠ w.heap.size := by omega
        have n4 : w1.heap.size ≠ lb := by omega
        have HTI := Lib.hid hti; clear hti
        by_cases hz : x = 0
        · have z1 : (x != 0) = false := by simpa using hz
          have HS := Lib.hid (HR.out.congr (f' := tPartI Wn Tn L (k + 1)) (fun i hi => tPartI_skip L (by rw [← HX.out]; exact hz) i))
          subst hz
          go_wp2
          go_roundw
          case rel => exact ⟨k + 1, by omega, by go_num, HS.out, pr, BEL.out⟩
          case measure => simp [intOf]; omega
        · have z1 : (x != 0) = true := by simpa using hz
          have HZ := Lib.hid hz; clear hz
          have W3 : IntKind.i64.wrap ((k : Int) % Wn * Tn) = (k : Int) % Wn * Tn := IntWalk.i64_in _ (by omega)
          have W4 : IntKind.i64.wrap ((k : Int) % Wn * Tn + Tn) = (k : Int) % Wn * Tn + Tn := IntWalk.i64_in _ (by clear W3; omega)
          have W5 : IntKind.i64.wrap ((k : Int) % Wn * Tn + Tn - 1) = (k : Int) % Wn * Tn + Tn - 1 := IntWalk.i64_in _ (by clear W3 W4; omega)
          have W6 : IntKind.i64.wrap ((k : Int) % Wn * Tn + Tn - 1 - (k : Int) / Wn) = (k : Int) % Wn * Tn + Tn - 1 - (k : Int) / Wn := IntWalk.i64_in _ (by clear W3 W4 W5; omega)
          go_wp2
          have T1 : (k : Int).tmod Wn = (k : Int) % Wn := Int.tmod_eq_emod_of_nonneg e0
          have T2 : IntKind.i64.wrap ((k : Int) / Wn) = (k : Int) / Wn := IntWalk.i64_in _ (by clear W3 W4 W5 W6; omega)
          have T3 : x.tmod 4 = x % 4 := Int.tmod_eq_emod_of_nonneg x0
          have T4 : IntKind.i64.wrap (x % 4 + 1) = x % 4 + 1 := IntWalk.i64_in _ (by clear W3 W4 W5 W6 T2; omega)
          have hW1 : Wn ≠ 0 := by clear W3 W4 W5 W6 T2; omega
          have hW2 : ((Wn : Int) == 0) = false := by simp; exact hW1
          go_still_tail 24, (by kernel_rfl)
          change wpList _ _ _ _ _ wr.drew
          clear W3 W4 W5 W6 T1 T2 T3 T4
          go_wp2
          have hi : k % Wn * Tn + Tn - 1 - k / Wn = tDst Wn Tn k := tDst_nat hdv
          have HS := (HR.out.set (tDst Wn Tn k) (x % 4 + 1)).1.congr (f' := tPartI Wn Tn L (k + 1)) (fun i hi => by rw [show x % 4 + 1 = turnW (L.getD k 0) from by rw [← HX.out]; unfold turnW; rw [if_neg HZ.out]]; exact tPartI_step L hW hT hkW i (by rw [← HNW.out]; exact hi))
          rw [hi]
          go_roundw
          case rel => exact ⟨k + 1, by omega, by go_num, HS, heap_set_other pr (by simp; omega) _, (BEL.out.setCell (by simp; omega) _).drew⟩
          case measure => simp [intOf]; omega
      · obtain rfl : k = m := by omega
        have HR := Lib.hid hr; clear hr
        go_wp2
        go_ret
        refine ⟨some ⟨w1.heap.size, 0, none⟩, k, ret_slice HE.out.symm, ?_, hbel⟩
        have := (HR.out.congr (f' := fun j => turnW (L.getD (tSrc Wn Tn j) 0)) (fun i hi => by rw [HNW.out]; exact tPartI_all L hW hT i (by rw [← HNW.out]; exact hi))).owns
        rw [HE.out]
        have h9 : turnedI Wn Tn L = tabI k (fun j => turnW (L.getD (tSrc Wn Tn j) 0)) := by unfold turnedI; rw [HNW.out]
        rw [h9]
        exact this.lower (by omega)

set_option maxHeartbeats 2000000 in
theorem sTilingFlip_ret (W T : Int) (a : Option Addr) (n cap : Nat) (xs : List Bool) (la : Option Addr) (m lcap : Nat) (L : List Int) (w : World) (hn : n = xs.length) (hn' : n ≤ 1048576) (hm : m = L.length) (hm' : m ≤ 1048576) (ha : BoolsAt w a xs) (hl : IntsAt w la L) :
    Calls Try.prog 58 #[.agg #[.int .i64 W, .int .i64 T, .slice a n cap], .slice la m lcap] w (RetL w (flipLF W T xs L).length (flipLF W T xs L)) := by
  have HN := Lib.hid hn; clear hn
  have HM := Lib.hid hm; clear hm
  have HA := Lib.hid ha; clear ha
  have HL := Lib.hid hl; clear hl
  cases h : lok W T xs L
  · have e : flipLF W T xs L = [] := by unfold flipLF; rw [h]; rfl
    rw [e]
    have H := Lib.hid h; clear h e
    go_enter Try.func58, Try.ntmps58
    go_wp2_with fail
    refine (sLaidOk_any _ _ _ _ _ xs _ _ _ L _ HN.out hn' HM.out hm' (HA.out.one _) (HL.out.one _)).mono ?_; rintro e w1 ⟨rfl, hb1⟩
    have b1 := below_seq (below1 w _) hb1
    rw [H.out]
    go_wp2
    go_ret
    exact ⟨some ⟨w1.heap.size, 0, none⟩, 0, rfl, World.ownsRow_made w1 #[] 0 b1.size (Nat.zero_le _) rfl, below_seq b1 (below1 _ _)⟩
  · obtain ⟨Wn, Tn, rfl, rfl, hlen⟩ := lok_nat h
    obtain ⟨h1, h2, h3⟩ := lok_rv h
    have hle : m = n := by rw [HM.out, HN.out]; exact h2
    subst hle
    obtain ⟨v1, v2, v3, v4, v5, _⟩ := rv_true h1
    have e : flipLF Wn Tn xs L = flippedI Wn Tn L := by unfold flipLF; rw [h, if_pos rfl]; simp
    rw [e]
    have hmWT : m = Wn * Tn := by rw [HM.out]; exact hlen
    have HE : Hid ((flippedI Wn Tn L).length = m) := by show _ = m; unfold flippedI; rw [tabI_len, hmWT]
    have hW : 0 < Wn := by omega
    have hT : 0 < Tn := by omega
    have HNW := Lib.hid hmWT; clear hmWT
    have hNTW : Hid ((Wn : Int) * Tn = m) := by show (Wn : Int) * Tn = m; rw [HNW.out]; simp
    have n36 : m ≤ 36 := by
      have := mul_bd v1 v2 v3 v4
      have h9 : ((Wn * Tn : Nat) : Int) ≤ 36 := by push_cast; exact this.2
      have := HNW.out
      omega
    clear h1 h2 h3 v5 hlen e
    have H := Lib.hid h; clear h
    obtain ⟨i0, hi, hz0, hz1, hz2⟩ := info_parts infoInt
    go_enter Try.func58, Try.ntmps58
    go_wp2_with fail
    refine (sLaidOk_any _ _ _ _ _ xs _ _ _ L _ HN.out hn' HM.out hm' (HA.out.one _) (HL.out.one _)).mono ?_; rintro e w1 ⟨rfl, hb1⟩
    have p1 := heap_later (heap_new w _) hb1
    have b1 := below_seq (below1 w _) hb1
    have z1 : w.heap.size < w1.heap.size := heap_lt p1
    rw [H.out]
    clear hb1
    go_wp2_with (at_make; refine wpList_make_full _ rfl _ _ 35 rfl w1.heap.size 3 i0 (.int .i64 0) 1 Try.underlying35 hi hz0 hz1 _ _ _ _ m rfl rfl rfl rfl (by rw [hz2]; omega) (by unfold maxLen; omega) (Nat.le_refl _) ?_; intro w2 hown hgrow)
    rw [show (Value.int .i64 0).cells = #[.int .i64 0] from rfl, toList_madeCells_one] at hown
    have b2 := below_grown b1 hgrow (Nat.le_refl _) (by simp)
    have p2 := heap_grown p1 hgrow (by simp)
    have R2 : RowI w2 w1.heap.size w1.heap.size m m (fPartI Wn Tn L 0) := (RowI.of (OwnsI.ofRow (xs := List.replicate m 0) hown (by simp) (by simp)) (by simp)).congr (fun i hi => by simp [hi, fPartI])
    have lg := R2.base
    clear hown hgrow p1
    obtain ⟨c0, c1, c2⟩ := cells3 p2
    go_loopw [6, 7] (fun i _ wr => ∃ k : Nat, k ≤ m ∧ i = .int .i64 k ∧ RowI wr w1.heap.size w1.heap.size m m (fPartI Wn Tn L k) ∧ wr.heap[w.heap.size]? = some (.cells #[.int .i64 Wn, .int .i64 Tn, .slice a m cap] 28 (0, 0)) ∧ Below w.heap.size w wr) (fun i _ _ => m - (intOf i).toNat)
    case atStart => exact ⟨0, Nat.zero_le _, rfl, R2, p2, b2⟩
    case round =>
      clear c0 c1 c2
      obtain ⟨k, hk, rfl, hr, pr, hbel⟩ := hrel
      obtain ⟨c0, c1, c2⟩ := cells3 pr
      have l1 := heap_lt pr
      by_cases hlt : k < m
      · have IL := HL.out.below hbel
        obtain ⟨lb, lo, rfl, hc⟩ := HL.out k (by rw [← HM.out]; exact hlt)
        have hbl := World.block_lt_of_cell? w _ hc
        simp only at hbl
        clear hc
        have hc := IL.cellAt (i := k) (by rw [← HM.out]; exact hlt)
        have hwy := lok_way H.out (k := k) (by rw [← HM.out]; exact hlt)
        obtain ⟨m1, m2, m3, m4⟩ := divmod_bd (W := Wn) (k := k) v1
        have e1 : (k : Int) < m := by omega
        have e0 : (0 : Int) ≤ k := by omega
        have hW0 : (Wn : Int) ≠ 0 := by omega
        obtain ⟨x, hx⟩ : ∃ x, x = L.getD k 0 := ⟨_, rfl⟩
        rw [← hx] at hc hwy
        obtain ⟨x0, x1⟩ := hwy
        have HX := Lib.hid hx; clear hx IL
        have hkW : k < Wn * Tn := by rw [← HNW.out]; exact hlt
        have hdst := fIdx_lt (T := Tn) hW hkW
        have hcell := hr.cell (k := fIdx Wn k) (by rw [HNW.out]; exact hdst)
        have hfree := hr.free (fIdx Wn k)
        obtain ⟨old, hold⟩ : ∃ old, old = fPartI Wn Tn L k (fIdx Wn k) := ⟨_, rfl⟩
        rw [← hold] at hcell
        clear hold
        have HR := Lib.hid hr; clear hr
        have BEL := Lib.hid hbel; clear hbel
        have hti := fIdx_int' (k := k) hW
        have hdv := div_lt_of hW hkW
        have hdv' : (k : Int) / Wn < Tn := by
          have : (((k / Wn : Nat)) : Int) < Tn := by omega
          simpa using this
        obtain ⟨i0', i1, i2⟩ := idx_bd (W := (Wn : Int)) (T := (Tn : Int)) (x := (Wn : Int) - 1 - (k : Int) % Wn) (y := (k : Int) / Wn) (by omega) (by omega) (by omega) (by omega)
        have i3 : ((k : Int) / Wn) * Wn + ((Wn : Int) - 1 - (k : Int) % Wn) < m := by rw [← hNTW.out]; exact i2
        have i4 : ((k : Int) / Wn) * Wn + Wn - 1 - (k : Int) % Wn < m := by omega
        have i5 : 0 ≤ ((k : Int) / Wn) * Wn + Wn - 1 - (k : Int) % Wn := by omega
        have i6 : (k : Int) % Wn ≤ ((k : Int) / Wn) * Wn + Wn - 1 := by omega
        rw [← hti] at hcell hfree
        have n1 : w1.heap.size ≠ w.heap.size := by omega
        have n4 : w1.heap.size ≠ lb := by omega
        have HTI := Lib.hid hti; clear hti
        by_cases hz : x = 1 ∨ x = 3
        · have HV : Hid (backI x = flipW x) := by show _ = _; unfold flipW; rw [if_pos hz]
          have hy : 0 ≤ backI x ∧ backI x ≤ 4 := by unfold backI; omega
          obtain ⟨y0, y1⟩ := hy
          rcases hz with rfl | rfl
          · go_wp2_with fail
            refine (l2Back_any _ _ (by omega) (by omega)).mono ?_; rintro e w6 ⟨rfl, rfl⟩
            obtain ⟨y, hy⟩ : ∃ y, y = backI 1 := ⟨_, rfl⟩
            rw [← hy] at y0 y1 HV ⊢
            have HY := Lib.hid hy; clear hy
            have W3 : IntKind.i64.wrap ((k : Int) / Wn * Wn) = (k : Int) / Wn * Wn := IntWalk.i64_in _ (by omega)
            have W4 : IntKind.i64.wrap ((k : Int) / Wn * Wn + Wn) = (k : Int) / Wn * Wn + Wn := IntWalk.i64_in _ (by clear W3; omega)
            have W5 : IntKind.i64.wrap ((k : Int) / Wn * Wn + Wn - 1) = (k : Int) / Wn * Wn + Wn - 1 := IntWalk.i64_in _ (by clear W3 W4; omega)
            have W6 : IntKind.i64.wrap ((k : Int) / Wn * Wn + Wn - 1 - (k : Int) % Wn) = (k : Int) / Wn * Wn + Wn - 1 - (k : Int) % Wn := IntWalk.i64_in _ (by clear W3 W4 W5; omega)
            go_wp2
            have T1 : (k : Int).tmod Wn = (k : Int) % Wn := Int.tmod_eq_emod_of_nonneg e0
            have T2 : IntKind.i64.wrap ((k : Int) / Wn) = (k : Int) / Wn := IntWalk.i64_in _ (by clear W3 W4 W5 W6; omega)
            have hW1 : Wn ≠ 0 := by clear W3 W4 W5 W6 T2; omega
            have hW2 : ((Wn : Int) == 0) = false := by simp; exact hW1
            go_still_tail 19, (by kernel_rfl)
            change wpList _ _ _ _ _ wr.drew
            clear W3 W4 W5 W6 T1 T2
            go_wp2
            have hi : k / Wn * Wn + Wn - 1 - k % Wn = fIdx Wn k := fIdx_nat hW
            have HS := (HR.out.set (fIdx Wn k) (y)).1.congr (f' := fPartI Wn Tn L (k + 1)) (fun i hi => by rw [show y = flipW (L.getD k 0) from by rw [← HX.out]; exact HV.out]; exact fPartI_step L hW hT hkW i (by rw [← HNW.out]; exact hi))
            rw [hi]
            go_roundw
            case rel => exact ⟨k + 1, by omega, by go_num, HS, heap_set_other pr (by simp; omega) _, (BEL.out.setCell (by simp; omega) _).drew⟩
            case measure => simp [intOf]; omega
          · go_wp2_with fail
            refine (l2Back_any _ _ (by omega) (by omega)).mono ?_; rintro e w6 ⟨rfl, rfl⟩
            obtain ⟨y, hy⟩ : ∃ y, y = backI 3 := ⟨_, rfl⟩
            rw [← hy] at y0 y1 HV ⊢
            have HY := Lib.hid hy; clear hy
            have W3 : IntKind.i64.wrap ((k : Int) / Wn * Wn) = (k : Int) / Wn * Wn := IntWalk.i64_in _ (by omega)
            have W4 : IntKind.i64.wrap ((k : Int) / Wn * Wn + Wn) = (k : Int) / Wn * Wn + Wn := IntWalk.i64_in _ (by clear W3; omega)
            have W5 : IntKind.i64.wrap ((k : Int) / Wn * Wn + Wn - 1) = (k : Int) / Wn * Wn + Wn - 1 := IntWalk.i64_in _ (by clear W3 W4; omega)
            have W6 : IntKind.i64.wrap ((k : Int) / Wn * Wn + Wn - 1 - (k : Int) % Wn) = (k : Int) / Wn * Wn + Wn - 1 - (k : Int) % Wn := IntWalk.i64_in _ (by clear W3 W4 W5; omega)
            go_wp2
            have T1 : (k : Int).tmod Wn = (k : Int) % Wn := Int.tmod_eq_emod_of_nonneg e0
            have T2 : IntKind.i64.wrap ((k : Int) / Wn) = (k : Int) / Wn := IntWalk.i64_in _ (by clear W3 W4 W5 W6; omega)
            have hW1 : Wn ≠ 0 := by clear W3 W4 W5 W6 T2; omega
            have hW2 : ((Wn : Int) == 0) = false := by simp; exact hW1
            go_still_tail 19, (by kernel_rfl)
            change wpList _ _ _ _ _ wr.drew
            clear W3 W4 W5 W6 T1 T2
            go_wp2
            have hi : k / Wn * Wn + Wn - 1 - k % Wn = fIdx Wn k := fIdx_nat hW
            have HS := (HR.out.set (fIdx Wn k) (y)).1.congr (f' := fPartI Wn Tn L (k + 1)) (fun i hi => by rw [show y = flipW (L.getD k 0) from by rw [← HX.out]; exact HV.out]; exact fPartI_step L hW hT hkW i (by rw [← HNW.out]; exact hi))
            rw [hi]
            go_roundw
            case rel => exact ⟨k + 1, by omega, by go_num, HS, heap_set_other pr (by simp; omega) _, (BEL.out.setCell (by simp; omega) _).drew⟩
            case measure => simp [intOf]; omega
        · have HV : Hid (x = flipW x) := by show _ = _; unfold flipW; rw [if_neg hz]
          have z1 : (x == 1) = false := by simp; omega
          have z3 : (x == 3) = false := by simp; omega
          clear hz
          have W3 : IntKind.i64.wrap ((k : Int) / Wn * Wn) = (k : Int) / Wn * Wn := IntWalk.i64_in _ (by omega)
          have W4 : IntKind.i64.wrap ((k : Int) / Wn * Wn + Wn) = (k : Int) / Wn * Wn + Wn := IntWalk.i64_in _ (by clear W3; omega)
          have W5 : IntKind.i64.wrap ((k : Int) / Wn * Wn + Wn - 1) = (k : Int) / Wn * Wn + Wn - 1 := IntWalk.i64_in _ (by clear W3 W4; omega)
          have W6 : IntKind.i64.wrap ((k : Int) / Wn * Wn + Wn - 1 - (k : Int) % Wn) = (k : Int) / Wn * Wn + Wn - 1 - (k : Int) % Wn := IntWalk.i64_in _ (by clear W3 W4 W5; omega)
          go_wp2
          have T1 : (k : Int).tmod Wn = (k : Int) % Wn := Int.tmod_eq_emod_of_nonneg e0
          have T2 : IntKind.i64.wrap ((k : Int) / Wn) = (k : Int) / Wn := IntWalk.i64_in _ (by clear W3 W4 W5 W6; omega)
          have hW1 : Wn ≠ 0 := by clear W3 W4 W5 W6 T2; omega
          have hW2 : ((Wn : Int) == 0) = false := by simp; exact hW1
          go_still_tail 19, (by kernel_rfl)
          change wpList _ _ _ _ _ wr.drew
          clear W3 W4 W5 W6 T1 T2
          go_wp2
          have hi : k / Wn * Wn + Wn - 1 - k % Wn = fIdx Wn k := fIdx_nat hW
          have HS := (HR.out.set (fIdx Wn k) (x)).1.congr (f' := fPartI Wn Tn L (k + 1)) (fun i hi => by rw [show x = flipW (L.getD k 0) from by rw [← HX.out]; exact HV.out]; exact fPartI_step L hW hT hkW i (by rw [← HNW.out]; exact hi))
          rw [hi]
          go_roundw
          case rel => exact ⟨k + 1, by omega, by go_num, HS, heap_set_other pr (by simp; omega) _, (BEL.out.setCell (by simp; omega) _).drew⟩
          case measure => simp [intOf]; omega
      · obtain rfl : k = m := by omega
        have HR := Lib.hid hr; clear hr
        go_wp2
        go_ret
        refine ⟨some ⟨w1.heap.size, 0, none⟩, k, ret_slice HE.out.symm, ?_, hbel⟩
        have := (HR.out.congr (f' := fun j => flipW (L.getD (fIdx Wn j) 0)) (fun i hi => by rw [HNW.out]; exact fPartI_all L hW hT i (by rw [← HNW.out]; exact hi))).owns
        rw [HE.out]
        have h9 : flippedI Wn Tn L = tabI k (fun j => flipW (L.getD (fIdx Wn j) 0)) := by unfold flippedI; rw [HNW.out]
        rw [h9]
        exact this.lower (by omega)

end Go.Proofs.Ytlnnoeojgdeagaa
