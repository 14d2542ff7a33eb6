/- Contract of spec.l4Outside: whether all outside hangs together. -/
import Derived.Test.YtpcajacekmidbaaOutsideN
import Derived.Deep.DeepMust
namespace Go.Proofs.Ytpcajacekmidbaa
open Go.RowKit
set_option linter.unusedVariables false
set_option maxRecDepth 100000
set_option linter.unusedSimpArgs false

theorem own_one_lit (w : World) {B : Nat} (z : Int) (hB : B ≤ w.heap.size) : OwnsI (w.alloc (.cells #[.int .i64 z] 3 (0, 0))) B (.slice (some ⟨w.heap.size, 0, none⟩) 1 1) [z] :=
  ⟨rfl, Or.inr ⟨w.heap.size, 1, #[.int .i64 z], rfl, hB, heap_new _ _, Nat.le_refl _, by decide, rfl, rfl⟩⟩
/-- Whether all that does not belong to a region hangs together. -/
def outOne (W T : Int) (xs : List Bool) : Bool := oneMark ((W + 2) * (T + 2)).toNat (outB W T xs) (adjW (W + 2) false)

set_option maxHeartbeats 1000000 in
theorem l4Outside_any (W T : Int) (a : Option Addr) (n cap : Nat) (xs : List Bool) (N : Nat) (w : World) (hn : n = xs.length) (v1 : 1 ≤ W) (v2 : W ≤ 6) (v3 : 1 ≤ T) (v4 : T ≤ 6) (hWT : (n : Int) = W * T) (hN : (W + 2) * (T + 2) = (N : Int)) (ha : BoolsAt w a xs) :
    Calls Try.prog 117 #[.agg #[.int .i64 W, .int .i64 T, .slice a n cap]] w fun e w' => e = .returned (.bool (outOne W T xs)) ∧ Below w.heap.size w w' := by
  have hb64 := rim_bd v1 v2 v3 v4
  have n64 : N ≤ 64 := by omega
  have n9 : 9 ≤ N := by omega
  clear hb64
  have HN := Lib.hid hn; clear hn
  have HA := Lib.hid ha; clear ha
  have HWT := Lib.hid hWT; clear hWT
  have HNN := Lib.hid hN; clear hN
  obtain ⟨i0, hi, hz0, hz1, hz2⟩ := info_parts infoBool
  obtain ⟨ii0, hii, hii0, hii1, hii2⟩ := info_parts infoInt
  obtain ⟨V, hV⟩ : ∃ V, W + 2 = V := ⟨_, rfl⟩
  obtain ⟨V2, hV2⟩ : ∃ V, T + 2 = V := ⟨_, rfl⟩
  rw [hV, hV2] at HNN
  have hNN := HNN.out
  have u1 : 3 ≤ V := by omega
  have u2 : V ≤ 8 := by omega
  have u3 : 3 ≤ V2 := by omega
  have u4 : V2 ≤ 8 := by omega
  go_enter Try.func117, Try.ntmps117
  have HV := Lib.hid hV
  have hV2T : T + 1 = V2 - 1 := by omega
  go_wp2_with first
    | (at_make; refine wpList_make_full _ rfl _ _ 23 rfl (w.heap.size + 1) 4 i0 (.bool false) 1 Try.underlying23 hi hz0 hz1 _ _ _ _ N rfl rfl (by omega) (by omega) (by rw [hz2]; omega) (by unfold maxLen; omega) (by simp) ?_; intro w1 hown hgrow; have hb := grown_below hgrow; have ho1 : OwnsB w1 (w.heap.size + 1) (.slice (some ⟨w.heap.size + 1, 0, none⟩) N N) (List.replicate N false) := (by have h := hown; rw [made_bools] at h; unfold OwnsB; simpa using h); have R1 := (RowB.of ho1 (by simp)).congr (f' := fun _ => false) (fun i hi => by simp [hi]); clear hown ho1; have hc0 := R1.cell (k := 0) (by omega); have hf0 := R1.free 0; have p1 := heap_later (heap_new w (.cells #[.int .i64 W, .int .i64 T, .slice a n cap] 25 (0, 0))) hb; obtain ⟨c0, c1, c2⟩ := cells3 p1; have b1 := below_seq (below1 w (.cells #[.int .i64 W, .int .i64 T, .slice a n cap] 25)) hb; have R1H := Lib.hid R1; clear R1 hb hgrow)
    | fail
  have hz1s : w.heap.size + 2 ≤ w1.heap.size := by have := (RowB.base R1H.out).2; omega
  have hR := (RowB.set R1H.out 0 true).1.congr (f' := fun j => decide (j = 0)) (fun i hi => by by_cases e : i = 0 <;> simp [e])
  have Q0 : OwnsI ((w1.setCell ⟨w.heap.size + 1, 0, none⟩ (.bool true)).alloc (.cells #[.int .i64 0] 3)) (w.heap.size + 2) (.slice (some ⟨w1.heap.size, 0, none⟩) 1 1) [0] := by
    have h := own_one_lit (w1.setCell ⟨w.heap.size + 1, 0, none⟩ (.bool true)) (B := w.heap.size + 2) 0 (by simp; omega)
    rw [World.size_setCell] at h
    exact h
  have s0 : outB W T xs 0 = true := by
    unfold outB atB inF; simp
  have QI0 := Lib.hid (QI.start (N := N) (s := outB W T xs) (adj := adjW V false) (by omega) s0)
  have HQ0 := Lib.hid Q0; clear Q0
  have HR0 := Lib.hid hR; clear hR
  have P1 := Lib.hid p1; clear p1
  have B1 := Lib.hid b1; clear b1
  clear c0 c1 c2 hc0 hf0 R1H
  go_loopw [5, 6] (fun v5 i wr => ∃ (p : Nat) (zs : List Int) (ys : Nat → Bool), i = .int .i64 p ∧ p ≤ zs.length ∧ OwnsI wr (w.heap.size + 2) v5 zs ∧ RowB wr (w.heap.size + 1) (w.heap.size + 1) N N ys ∧ QI N (outB W T xs) (adjW V false) zs ys p ∧ wr.heap[w.heap.size]? = some (.cells #[.int .i64 W, .int .i64 T, .slice a n cap] 25 (0, 0)) ∧ Below w.heap.size w wr) (fun _ i _ => N - (intOf i).toNat)
  case atStart => exact ⟨0, [0], _, rfl, Nat.zero_le _, HQ0.out, RowB.below HR0.out (below1 _ _), QI0.out, heap_later (heap_set_other P1.out (by simp) _) (below1 _ _), (B1.out.setCell (by simp) _).alloc (by simp; omega) _⟩
  case round =>
    clear QI0 HQ0 HR0 P1 B1
    obtain ⟨p, zs, ys, rfl, hp, ho, hr, hqi, pr, hbel⟩ := hrel
    rename World => wr
    have HO := Lib.hid ho; clear ho
    have HR := Lib.hid hr; clear hr
    have HQI := Lib.hid hqi; clear hqi
    have BEL := Lib.hid hbel; clear hbel
    have hzl := HQI.out.le
    obtain ⟨c0, c1, c2⟩ := cells3 pr
    have PR := Lib.hid pr; clear pr
    obtain ⟨al, qcap, rfl⟩ := HO.out.form2
    by_cases hlt : p < zs.length
    · obtain ⟨c, hc, hcN, hcy⟩ := HQI.out.ent p hlt
      obtain ⟨lb, lo, rfl, hcx⟩ := (OwnsI.at HO.out) p hlt
      rw [hc] at hcx
      obtain ⟨x, hx⟩ : ∃ x, x = (c : Int) % V := ⟨_, rfl⟩
      obtain ⟨y, hy⟩ : ∃ y, y = (c : Int) / V := ⟨_, rfl⟩
      have hV0 : V ≠ 0 := by omega
      have T1 : (c : Int).tmod V = x := by rw [hx]; exact Int.tmod_eq_emod_of_nonneg (by omega)
      have T2 : (c : Int).tdiv V = y := by rw [hy]; exact Int.tdiv_eq_ediv_of_nonneg (by omega)
      have x0 : 0 ≤ x := by rw [hx]; exact Int.emod_nonneg _ hV0
      have x1 : x < V := by rw [hx]; exact Int.emod_lt_of_pos _ (by omega)
      have y0 : 0 ≤ y := by rw [hy]; exact Int.ediv_nonneg (by omega) (by omega)
      have y1 : y < V2 := by rw [hy]; exact Int.ediv_lt_of_lt_mul (by omega) (by rw [Int.mul_comm, hNN]; omega)
      have HX := Lib.hid hx; clear hx
      have HY := Lib.hid hy; clear hy
      have HC := Lib.hid hc; clear hc
      have e1 : (p : Int) < zs.length := by omega
      have e2 : (0 : Int) ≤ p := by omega
      go_wp2_with fail
      clear c0 c1 c2 hcx T1 T2
      have hcy2 := hcy
      go_loopw [5, 9] (fun v5 i wr2 => ∃ (q : Nat) (zs2 : List Int) (ys2 : Nat → Bool), i = .int .i64 q ∧ 1 ≤ q ∧ q ≤ 5 ∧ p < zs2.length ∧ zs2.getD p 0 = c ∧ ys2 c = true ∧ Done N (outB W T xs) V c q ys2 ∧ OwnsI wr2 (w.heap.size + 2) v5 zs2 ∧ RowB wr2 (w.heap.size + 1) (w.heap.size + 1) N N ys2 ∧ QI N (outB W T xs) (adjW V false) zs2 ys2 p ∧ wr2.heap[w.heap.size]? = some (.cells #[.int .i64 W, .int .i64 T, .slice a n cap] 25 (0, 0)) ∧ Below w.heap.size w wr2) (fun _ i _ => 5 - (intOf i).toNat)
      case atStart => exact ⟨1, zs, ys, rfl, Nat.le_refl _, by omega, hlt, HC.out, hcy2, fun k _ _ q h1 h2 => by omega, HO.out, HR.out, HQI.out, PR.out, BEL.out⟩
      case round =>
        clear HO HR HQI BEL PR hp hlt HC hcy hcy2 hzl e1
        obtain ⟨q, zs, ys, rfl, hq1, hq5, hlt, hc, hcy, hdn, ho, hr, hqi, pr, hbel⟩ := hrel
        rename World => wr2
        have HO := Lib.hid ho; clear ho
        have HR := Lib.hid hr; clear hr
        have HQI := Lib.hid hqi; clear hqi
        have BEL := Lib.hid hbel; clear hbel
        have HDN := Lib.hid hdn; clear hdn
        have HC := Lib.hid hc; clear hc
        have hzl := HQI.out.le
        by_cases hq : q ≤ 4
        · have hqi4 : (q : Int) ≤ 4 := by omega
          have l1 := heap_lt pr
          obtain ⟨nx, hnx⟩ : ∃ nx, nx = x + dxw q := ⟨_, rfl⟩
          obtain ⟨ny, hny⟩ : ∃ ny, ny = y + dyw q := ⟨_, rfl⟩
          have hd : -1 ≤ dxw q ∧ dxw q ≤ 1 ∧ -1 ≤ dyw q ∧ dyw q ≤ 1 := by
            have : q = 1 ∨ q = 2 ∨ q = 3 ∨ q = 4 := by omega
            rcases this with rfl | rfl | rfl | rfl <;> decide
          have m1 : -1 ≤ nx := by omega
          have m2 : nx ≤ V := by omega
          have m3 : -1 ≤ ny := by omega
          have m4 : ny ≤ V2 := by omega
          have HNX := Lib.hid hnx; clear hnx
          have HNY := Lib.hid hny; clear hny
          clear hd
          obtain ⟨wB, hwB⟩ : ∃ wB, wB = (wr2.alloc (.cells #[.int .i64 0, .int .i64 1, .int .i64 0, .int .i64 (-1), .int .i64 0] 3)).alloc (.cells #[.int .i64 0, .int .i64 0, .int .i64 1, .int .i64 0, .int .i64 (-1)] 3) := ⟨_, rfl⟩
          have bB : Below wr2.heap.size wr2 wB := by rw [hwB]; exact below2 _ _ _
          have PB := heap_later pr bB
          have HOB := Lib.hid (HO.out.below bB)
          have HRB := Lib.hid (HR.out.below bB)
          have BELB := Lib.hid (below_seq BEL.out bB)
          clear BEL HO HR pr bB
          go_upto_region 13 with fail
          go_cut [10] (fun c wx => c = .int .i64 nx ∧ wx = wr2.alloc (.cells #[.int .i64 0, .int .i64 1, .int .i64 0, .int .i64 (-1), .int .i64 0] 3))
          case first =>
            have h4 : q = 1 ∨ q = 2 ∨ q = 3 ∨ q = 4 := by omega
            clear hwB
            rcases h4 with rfl | rfl | rfl | rfl
            all_goals
              go_wp2
              go_meet
              exact ⟨congrArg (Value.int .i64) (by rw [HNX.out]; simp [dxw]; try omega), rfl⟩
          case rest =>
          obtain ⟨rfl, hw⟩ := hcut
          rw [hw]
          clear hw
          go_upto_region 14 with fail
          go_cut [11] (fun c wx => c = .int .i64 ny ∧ wx = wB)
          case first =>
            have h4 : q = 1 ∨ q = 2 ∨ q = 3 ∨ q = 4 := by omega
            have HWB := Lib.hid hwB; clear hwB
            rcases h4 with rfl | rfl | rfl | rfl
            all_goals
              go_wp2
              go_meet
              exact ⟨congrArg (Value.int .i64) (by rw [HNY.out]; simp [dyw]; try omega), HWB.out.symm⟩
          case rest =>
          obtain ⟨rfl, hw⟩ := hcut
          rw [hw]
          clear hw hwB
          obtain ⟨c0, c1, c2⟩ := cells3 PB
          have hv1 : V - 1 ≤ 7 := by omega
          obtain ⟨al2, qcap2, hv5⟩ := HOB.out.form2
          subst hv5
          have KX : ∀ k : Nat, k < N → 0 ≤ (k : Int) % V ∧ (k : Int) % V < V ∧ 0 ≤ (k : Int) / V ∧ (k : Int) / V < V2 := fun k hk =>
            ⟨Int.emod_nonneg _ hV0, Int.emod_lt_of_pos _ (by omega), Int.ediv_nonneg (by omega) (by omega), Int.ediv_lt_of_lt_mul (by omega) (by rw [Int.mul_comm, hNN]; omega)⟩
          have KXH := Lib.hid KX; clear KX
          by_cases hX : inB nx 0 (V - 1) = true
          · have hx0 : 0 ≤ nx ∧ nx ≤ V - 1 := by simpa [inB] using hX
            have HX1 := Lib.hid hX; clear hX
            by_cases hY : inB ny 0 (V2 - 1) = true
            · have hy0 : 0 ≤ ny ∧ ny ≤ V2 - 1 := by simpa [inB] using hY
              have HY1 := Lib.hid hY; clear hY
              obtain ⟨j0, j1, j2⟩ := idx_bd (W := V) (T := V2) (x := nx) (y := ny) (by omega) (by omega) (by omega) (by omega)
              obtain ⟨k, hk⟩ := Int.eq_ofNat_of_zero_le j1
              have hkN : k < N := by rw [hk, hNN] at j2; omega
              have k1 : (k : Int) % V = nx := by rw [← hk, Int.add_comm, Int.add_mul_emod_self_right, Int.emod_eq_of_lt (by omega) (by omega)]
              have k2 : (k : Int) / V = ny := by rw [← hk, Int.add_comm, Int.add_mul_ediv_right _ _ (by omega), Int.ediv_eq_zero_of_lt (by omega) (by omega)]; omega
              have KU : ∀ k' : Nat, (k' : Int) % V = nx → (k' : Int) / V = ny → k' = k := by
                intro k' h1 h2
                have a1 := Int.emod_add_mul_ediv (k' : Int) V
                have a2 := Int.emod_add_mul_ediv (k : Int) V
                rw [h1, h2] at a1
                rw [k1, k2] at a2
                omega
              have hcs := RowB.cell HRB.out (k := k) hkN
              have hfr := RowB.free HRB.out k
              have hki : (k : Int) < N := by omega
              obtain ⟨yk, hyk⟩ : ∃ yk, yk = ys k := ⟨_, rfl⟩
              rw [← hyk] at hcs
              have HYK := Lib.hid hyk; clear hyk
              have KUH := Lib.hid KU; clear KU
              have K1 := Lib.hid k1; clear k1
              have K2 := Lib.hid k2; clear k2
              obtain ⟨m, hm⟩ : ∃ m, m = ny * V := ⟨_, rfl⟩
              rw [← hm] at j0 hk j1
              clear j2
              have hm2 : ny * V = m := hm.symm
              clear hm
              have m9 : m ≤ 100 := by omega
              cases yk
              · cases hat : atB W T xs (nx - 1) (ny - 1)
                · have hob : outB W T xs k = true := by
                    unfold outB
                    rw [HV.out, K1.out, K2.out, hat]; rfl
                  have HAT := Lib.hid hat; clear hat
                  have QP := Lib.hid (HQI.out.push hlt hkN hob HYK.out.symm HC.out hcN hcy (way_adj hq1 hq (by rw [K1.out, HNX.out, HX.out]) (by rw [K2.out, HNY.out, HY.out])))
                  have DN : Hid (Done N (outB W T xs) V c (q + 1) (fun j => if j = k then true else ys j)) := (Done.push HDN.out).next fun k' h1 h2 h3 h4 => by
                    have := KUH.out k' (by rw [h3, ← HX.out, HNX.out]) (by rw [h4, ← HY.out, HNY.out])
                    rw [this]; simp
                  go_upto_region 16 with first
                    | (go_at_call 51; refine (l1In_any _ _ _ _).mono ?_; rintro e w9 ⟨rfl, rfl⟩; first | rw [HX1.out] | rw [HY1.out])
                    | (go_at_call 163; refine (l1At_any W T (nx - 1) (ny - 1) a n cap xs _ HN.out (by omega) (by omega) (by omega) (by omega) HWT.out (HA.out.below BELB.out)).mono ?_; rintro e w5 ⟨rfl, hb5⟩; rw [HAT.out]; have hbl5 := Lib.hid hb5; clear hb5)
                    | fail
                  have R5 := Lib.hid (HRB.out.below hbl5.out)
                  have O5 := Lib.hid (HOB.out.below hbl5.out)
                  have P5 := Lib.hid (heap_later PB hbl5.out)
                  have B5 := Lib.hid (below_seq BELB.out hbl5.out)
                  clear hfr hcs PB hbl5 HOB HRB BELB c0 c1 c2
                  have hfr := RowB.free R5.out k
                  have hcs := RowB.cell R5.out (k := k) hkN
                  rw [← HYK.out] at hcs
                  have hst := RowB.set R5.out k true
                  obtain ⟨wS, hwS⟩ : ∃ wS, wS = w5.setCell ⟨w.heap.size + 1, k, none⟩ (.bool true) := ⟨_, rfl⟩
                  have ZS : Hid (wS.heap.size = w5.heap.size) := by show _ = _; rw [hwS]; simp
                  rw [← hwS] at hst
                  have RS := Lib.hid hst.1
                  have OS := Lib.hid (OwnsI.keptBy O5.out hst.2 (fun k e => by have := Option.some.inj e; omega))
                  have PS : wS.heap[w.heap.size]? = some (.cells #[.int .i64 W, .int .i64 T, .slice a n cap] 25 (0, 0)) := by rw [hwS]; exact heap_set_other P5.out (by simp) _
                  have BS := Lib.hid (below_grown B5.out hst.2 (Nat.le_refl _) (fun k e => by have := Option.some.inj e; omega))
                  have hzS : w.heap.size + 2 ≤ wS.heap.size := by obtain ⟨_, _, _, h1, h2⟩ := OS.out.pos (by omega); omega
                  clear hst
                  go_upto_region 17 with fail
                  rw [← hwS]
                  clear hwS hfr hcs
                  go_wp2_with (at_builtin; go_must (refine wpList_append_own _ rfl _ _ 26 rfl (w.heap.size + 2) 3 ii0 (.int .i64 0) 1 8 Try.underlying26 hii hii0 hii1 hii2 rfl (by decide) _ zs.length (zs.map (Value.int .i64)) rfl (World.ownsRow.alloc OS.out _) ⟨wS.heap.size, 0, none⟩ 1 1 [.int .i64 (k : Int)] rfl rfl (new_int _ _) (one_int _) (by unfold maxLen; omega) (by omega) (by simp; omega) ?_; intro v' w8 hown hgrow _; have p8 := heap_grown (heap_later PS (below1 _ _)) hgrow (OS.out.ownBlock (by omega)); have O8 := Lib.hid (OwnsI.ofRow (xs := zs ++ [(k : Int)]) hown (by simp) (by simp)); have R8 := Lib.hid (RowB.keptBy (RS.out.below (below1 _ _)) hgrow (OS.out.ownBlock (by omega))); have B8 := Lib.hid (below_grown (below_seq BS.out (below1 _ _)) hgrow (Nat.le_refl _) (fun k e => by have := OS.out.ownAt (Nat.le_refl _) k e; omega)); clear hown hgrow))
                  go_roundw
                  case rel => exact ⟨q + 1, zs ++ [(k : Int)], _, by go_num, by omega, by omega, by simp; omega, (by rw [show (zs ++ [(k : Int)]).getD p 0 = zs.getD p 0 by simp [List.getD, List.getElem?_append_left hlt]]; exact HC.out), (by simp [hcy]), DN.out, O8.out, R8.out, QP.out, p8, B8.out⟩
                  case measure => simp [intOf]; omega
                · have hob : outB W T xs k = false := by
                    unfold outB
                    rw [HV.out, K1.out, K2.out, hat]; rfl
                  have HAT := Lib.hid hat; clear hat
                  have DN : Hid (Done N (outB W T xs) V c (q + 1) ys) := HDN.out.next fun k' h1 h2 h3 h4 => by
                    have := KUH.out k' (by rw [h3, ← HX.out, HNX.out]) (by rw [h4, ← HY.out, HNY.out])
                    rw [this, hob] at h2; cases h2
                  go_wp2_with first
                    | (go_at_call 51; refine (l1In_any _ _ _ _).mono ?_; rintro e w9 ⟨rfl, rfl⟩; first | rw [HX1.out] | rw [HY1.out])
                    | (go_at_call 163; refine (l1At_any W T (nx - 1) (ny - 1) a n cap xs _ HN.out (by omega) (by omega) (by omega) (by omega) HWT.out (HA.out.below BELB.out)).mono ?_; rintro e w5 ⟨rfl, hb5⟩; rw [HAT.out]; have hbl5 := Lib.hid hb5; clear hb5)
                    | fail
                  go_roundw
                  case rel => exact ⟨q + 1, zs, ys, by go_num, by omega, by omega, hlt, HC.out, hcy, DN.out, HOB.out.below hbl5.out, HRB.out.below hbl5.out, HQI.out, heap_later PB hbl5.out, below_seq BELB.out hbl5.out⟩
                  case measure => simp [intOf]; omega
              · have DN : Hid (Done N (outB W T xs) V c (q + 1) ys) := HDN.out.next fun k' h1 h2 h3 h4 => by
                  have := KUH.out k' (by rw [h3, ← HX.out, HNX.out]) (by rw [h4, ← HY.out, HNY.out])
                  rw [this]; exact HYK.out.symm
                go_wp2_with first
                  | (go_at_call 51; refine (l1In_any _ _ _ _).mono ?_; rintro e w9 ⟨rfl, rfl⟩; first | rw [HX1.out] | rw [HY1.out])
                  | fail
                go_roundw
                case rel => exact ⟨q + 1, zs, ys, by go_num, by omega, by omega, hlt, HC.out, hcy, DN.out, HOB.out, HRB.out, HQI.out, PB, BELB.out⟩
                case measure => simp [intOf]; omega
            · rw [Bool.not_eq_true] at hY
              have hy0 : ¬ (0 ≤ ny ∧ ny ≤ V2 - 1) := by simpa [inB] using hY
              have HY1 := Lib.hid hY; clear hY
              have DN : Hid (Done N (outB W T xs) V c (q + 1) ys) := HDN.out.next fun k' h1 h2 h3 h4 => by
                have h5 := KXH.out k' h1
                rw [h4, ← HY.out, ← HNY.out] at h5
                exact absurd ⟨h5.2.2.1, by omega⟩ hy0
              clear hy0
              go_wp2_with first
                | (go_at_call 51; refine (l1In_any _ _ _ _).mono ?_; rintro e w9 ⟨rfl, rfl⟩; first | rw [HX1.out] | rw [HY1.out])
                | fail
              go_roundw
              case rel => exact ⟨q + 1, zs, ys, by go_num, by omega, by omega, hlt, HC.out, hcy, DN.out, HOB.out, HRB.out, HQI.out, PB, BELB.out⟩
              case measure => simp [intOf]; omega
          · rw [Bool.not_eq_true] at hX
            have hx0 : ¬ (0 ≤ nx ∧ nx ≤ V - 1) := by simpa [inB] using hX
            have HX1 := Lib.hid hX; clear hX
            have DN : Hid (Done N (outB W T xs) V c (q + 1) ys) := HDN.out.next fun k' h1 h2 h3 h4 => by
              have h5 := KXH.out k' h1
              rw [h3, ← HX.out, ← HNX.out] at h5
              exact absurd ⟨h5.1, by omega⟩ hx0
            clear hx0
            go_wp2_with first
              | (go_at_call 51; refine (l1In_any _ _ _ _).mono ?_; rintro e w9 ⟨rfl, rfl⟩; rw [HX1.out])
              | fail
            go_roundw
            case rel => exact ⟨q + 1, zs, ys, by go_num, by omega, by omega, hlt, HC.out, hcy, DN.out, HOB.out, HRB.out, HQI.out, PB, BELB.out⟩
            case measure => simp [intOf]; omega
        · obtain rfl : q = 5 := by omega
          have QN := Lib.hid (HQI.out.next HC.out HDN.out)
          go_wp2
          go_roundw
          case rel => exact ⟨p + 1, zs, ys, by go_num, by omega, HO.out, HR.out, QN.out, pr, BEL.out⟩
          case measure => simp [intOf]; omega
    · obtain rfl : p = zs.length := by omega
      obtain ⟨Wn, hWn⟩ := Int.eq_ofNat_of_zero_le (by omega : 0 ≤ W)
      obtain ⟨Tn, hTn⟩ := Int.eq_ofNat_of_zero_le (by omega : 0 ≤ T)
      have hcl := cnt_le xs
      have hnN : n ≤ N := by
        have e1 := HWT.out
        have e2 : (W + 2) * (T + 2) = W * T + 2 * W + 2 * T + 4 := by rw [Int.add_mul, Int.mul_add, Int.mul_add]; omega
        rw [hV, hV2, hNN] at e2
        omega
      have hcn : cnt xs ≤ n := by rw [HN.out]; exact hcl
      have hfin : decide ((zs.length : Int) = (N : Int) - (cnt xs : Int)) = outOne W T xs := by
        have hd := HQI.out.done (by omega) s0
        have hN2 : ((W + 2) * (T + 2)).toNat = N := by rw [hV, hV2, hNN]; simp
        have hoc : (List.range N).countP (outB W T xs) + cnt xs = N := by
          have hl : xs.length = Wn * Tn := by
            have := HWT.out; rw [HN.out, hWn, hTn] at this; exact_mod_cast this
          have h := out_count (xs := xs) hl
          have e : (Wn + 2) * (Tn + 2) = N := by
            have : (((Wn + 2) * (Tn + 2) : Nat) : Int) = (N : Int) := by rw [← hNN, ← hV, ← hV2, hWn, hTn]; push_cast; rfl
            exact_mod_cast this
          rw [e] at h
          rw [hWn, hTn]; exact h
        unfold outOne
        rw [hN2, hV, ← hd]
        apply decide_eq_decide.2
        omega
      have HF := Lib.hid hfin; clear hfin
      clear hWn hTn hcl
      have ha2 := HA.out.below BEL.out
      go_wp2_with fail
      refine (l1Count_any _ _ _ xs _ HN.out (by omega) ha2).mono ?_; rintro e w9 ⟨rfl, hw⟩
      rw [← hw]
      clear hw
      go_wp2
      go_ret
      exact ⟨ret_bool HF.out, BEL.out⟩
end Go.Proofs.Ytpcajacekmidbaa
