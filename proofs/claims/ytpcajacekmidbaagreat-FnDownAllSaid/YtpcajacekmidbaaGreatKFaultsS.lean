/- Contract of spec.FaultsOf. -/
import Derived.Test.YtpcajacekmidbaaGreatKOutsideN
import Derived.Deep.DeepMust
import Derived.Maps.RangeWalk
import Derived.Maps.OwnOps
import Derived.Maps.Ext
import Derived.Maps.AppendAt
namespace Go.Proofs.YtpcajacekmidbaaGreat
open Go.RowKit
set_option linter.unusedVariables false
set_option maxRecDepth 100000
set_option linter.unusedSimpArgs false

theorem own_one_lit (w : World) {B : Nat} (z : Int) (hB : B ≤ w.heap.size) : OwnsI (w.alloc (.cells #[.int .i64 z] 3 (0, 0))) B (.slice (some ⟨w.heap.size, 0, none⟩) 1 1) [z] :=
 ⟨rfl, Or.inr ⟨w.heap.size, 1, #[.int .i64 z], rfl, hB, heap_new _ _, Nat.le_refl _, by decide, rfl, rfl⟩⟩
def outOne (W T : Int) (xs : List Bool) : Bool := oneMark ((W + 2) * (T + 2)).toNat (outB W T xs) (adjW (W + 2) false)

set_option maxHeartbeats 1000000 in
theorem l4Outside_any (W T : Int) (a : Option Addr) (n cap : Nat) (xs : List Bool) (N : Nat) (w : World) (hn : n = xs.length) (v1 : 1 ≤ W) (v2 : W ≤ 6) (v3 : 1 ≤ T) (v4 : T ≤ 6) (hWT : (n : Int) = W * T) (hN : (W + 2) * (T + 2) = (N : Int)) (ha : BoolsAt w a xs) :
 Calls Tryz.prog 32 #[.agg #[.int .i64 W, .int .i64 T, .slice a n cap]] w fun e w' => e = .returned (.bool (outOne W T xs)) ∧ Below w.heap.size w w' := by
 have hb64 := rim_bd v1 v2 v3 v4
 have n64 : N ≤ 64 := by omega
 have n9 : 9 ≤ N := by omega
 clear hb64
 have HN := Lib.hid hn; clear hn
 have HA := Lib.hid ha; clear ha
 have HWT := Lib.hid hWT; clear hWT
 have HNN := Lib.hid hN; clear hN
 obtain ⟨i0, hi, hz0, hz1, hz2⟩ := info_parts infoBool
 obtain ⟨ii0, hii, hii0, hii1, hii2⟩ := info_parts infoInt
 obtain ⟨V, hV⟩ : ∃ V, W + 2 = V := ⟨_, rfl⟩
 obtain ⟨V2, hV2⟩ : ∃ V, T + 2 = V := ⟨_, rfl⟩
 rw [hV, hV2] at HNN
 have hNN := HNN.out
 have u1 : 3 ≤ V := by omega
 have u2 : V ≤ 8 := by omega
 have u3 : 3 ≤ V2 := by omega
 have u4 : V2 ≤ 8 := by omega
 go_enter Tryz.func32, Tryz.ntmps32
 have HV := Lib.hid hV
 have hV2T : T + 1 = V2 - 1 := by omega
 go_wp2_with first
  | (at_make; refine wpList_make_full _ rfl _ _ 23 rfl (w.heap.size + 1) 4 i0 (.bool false) 1 Tryz.underlying23 hi hz0 hz1 _ _ _ _ N rfl rfl (by omega) (by omega) (by rw [hz2]; omega) (by unfold maxLen; omega) (by simp) ?_; intro w1 hown hgrow; have hb := grown_below hgrow; have ho1 : OwnsB w1 (w.heap.size + 1) (.slice (some ⟨w.heap.size + 1, 0, none⟩) N N) (List.replicate N false) := (by have h := hown; rw [made_bools] at h; unfold OwnsB; simpa using h); have R1 := (RowB.of ho1 (by simp)).congr (f' := fun _ => false) (fun i hi => by simp [hi]); clear hown ho1; have hc0 := R1.cell (k := 0) (by omega); have hf0 := R1.free 0; have p1 := heap_later (heap_new w (.cells #[.int .i64 W, .int .i64 T, .slice a n cap] 25 (0, 0))) hb; obtain ⟨c0, c1, c2⟩ := cells3 p1; have b1 := below_seq (below1 w (.cells #[.int .i64 W, .int .i64 T, .slice a n cap] 25)) hb; have R1H := Lib.hid R1; clear R1 hb hgrow)
  | fail
 have hz1s : w.heap.size + 2 ≤ w1.heap.size := by have := (RowB.base R1H.out).2; omega
 have hR := (RowB.set R1H.out 0 true).1.congr (f' := fun j => decide (j = 0)) (fun i hi => by by_cases e : i = 0 <;> simp [e])
 have Q0 : OwnsI ((w1.setCell ⟨w.heap.size + 1, 0, none⟩ (.bool true)).alloc (.cells #[.int .i64 0] 3)) (w.heap.size + 2) (.slice (some ⟨w1.heap.size, 0, none⟩) 1 1) [0] := by
  have h := own_one_lit (w1.setCell ⟨w.heap.size + 1, 0, none⟩ (.bool true)) (B := w.heap.size + 2) 0 (by simp; omega)
  rw [World.size_setCell] at h
  exact h
 have s0 : outB W T xs 0 = true := by
  unfold outB atB inF; simp
 have QI0 := Lib.hid (QI.start (N := N) (s := outB W T xs) (adj := adjW V false) (by omega) s0)
 have HQ0 := Lib.hid Q0; clear Q0
 have HR0 := Lib.hid hR; clear hR
 have P1 := Lib.hid p1; clear p1
 have B1 := Lib.hid b1; clear b1
 clear c0 c1 c2 hc0 hf0 R1H
 go_loopw [5, 6] (fun v5 i wr => ∃ (p : Nat) (zs : List Int) (ys : Nat → Bool), i = .int .i64 p ∧ p ≤ zs.length ∧ OwnsI wr (w.heap.size + 2) v5 zs ∧ RowB wr (w.heap.size + 1) (w.heap.size + 1) N N ys ∧ QI N (outB W T xs) (adjW V false) zs ys p ∧ wr.heap[w.heap.size]? = some (.cells #[.int .i64 W, .int .i64 T, .slice a n cap] 25 (0, 0)) ∧ Below w.heap.size w wr) (fun _ i _ => N - (intOf i).toNat)
 case atStart => exact ⟨0, [0], _, rfl, Nat.zero_le _, HQ0.out, RowB.below HR0.out (below1 _ _), QI0.out, heap_later (heap_set_other P1.out (by simp) _) (below1 _ _), (B1.out.setCell (by simp) _).alloc (by simp; omega) _⟩
 case round =>
  clear QI0 HQ0 HR0 P1 B1
  obtain ⟨p, zs, ys, rfl, hp, ho, hr, hqi, pr, hbel⟩ := hrel
  rename World => wr
  have HO := Lib.hid ho; clear ho
  have HR := Lib.hid hr; clear hr
  have HQI := Lib.hid hqi; clear hqi
  have BEL := Lib.hid hbel; clear hbel
  have hzl := HQI.out.le
  obtain ⟨c0, c1, c2⟩ := cells3 pr
  have PR := Lib.hid pr; clear pr
  obtain ⟨al, qcap, rfl⟩ := HO.out.form2
  by_cases hlt : p < zs.length
  · obtain ⟨c, hc, hcN, hcy⟩ := HQI.out.ent p hlt
    obtain ⟨lb, lo, rfl, hcx⟩ := (OwnsI.at HO.out) p hlt
    rw [hc] at hcx
    obtain ⟨x, hx⟩ : ∃ x, x = (c : Int) % V := ⟨_, rfl⟩
    obtain ⟨y, hy⟩ : ∃ y, y = (c : Int) / V := ⟨_, rfl⟩
    have hV0 : V ≠ 0 := by omega
    have T1 : (c : Int).tmod V = x := by rw [hx]; exact Int.tmod_eq_emod_of_nonneg (by omega)
    have T2 : (c : Int).tdiv V = y := by rw [hy]; exact Int.tdiv_eq_ediv_of_nonneg (by omega)
    have x0 : 0 ≤ x := by rw [hx]; exact Int.emod_nonneg _ hV0
    have x1 : x < V := by rw [hx]; exact Int.emod_lt_of_pos _ (by omega)
    have y0 : 0 ≤ y := by rw [hy]; exact Int.ediv_nonneg (by omega) (by omega)
    have y1 : y < V2 := by rw [hy]; exact Int.ediv_lt_of_lt_mul (by omega) (by rw [Int.mul_comm, hNN]; omega)
    have HX := Lib.hid hx; clear hx
    have HY := Lib.hid hy; clear hy
    have HC := Lib.hid hc; clear hc
    have e1 : (p : Int) < zs.length := by omega
    have e2 : (0 : Int) ≤ p := by omega
    go_wp2_with fail
    clear c0 c1 c2 hcx T1 T2
    have hcy2 := hcy
    go_loopw [5, 9] (fun v5 i wr2 => ∃ (q : Nat) (zs2 : List Int) (ys2 : Nat → Bool), i = .int .i64 q ∧ 1 ≤ q ∧ q ≤ 5 ∧ p < zs2.length ∧ zs2.getD p 0 = c ∧ ys2 c = true ∧ Done N (outB W T xs) V c q ys2 ∧ OwnsI wr2 (w.heap.size + 2) v5 zs2 ∧ RowB wr2 (w.heap.size + 1) (w.heap.size + 1) N N ys2 ∧ QI N (outB W T xs) (adjW V false) zs2 ys2 p ∧ wr2.heap[w.heap.size]? = some (.cells #[.int .i64 W, .int .i64 T, .slice a n cap] 25 (0, 0)) ∧ Below w.heap.size w wr2) (fun _ i _ => 5 - (intOf i).toNat)
    case atStart => exact ⟨1, zs, ys, rfl, Nat.le_refl _, by omega, hlt, HC.out, hcy2, fun k _ _ q h1 h2 => by omega, HO.out, HR.out, HQI.out, PR.out, BEL.out⟩
    case round =>
     clear HO HR HQI BEL PR hp hlt HC hcy hcy2 hzl e1
     obtain ⟨q, zs, ys, rfl, hq1, hq5, hlt, hc, hcy, hdn, ho, hr, hqi, pr, hbel⟩ := hrel
     rename World => wr2
     have HO := Lib.hid ho; clear ho
     have HR := Lib.hid hr; clear hr
     have HQI := Lib.hid hqi; clear hqi
     have BEL := Lib.hid hbel; clear hbel
     have HDN := Lib.hid hdn; clear hdn
     have HC := Lib.hid hc; clear hc
     have hzl := HQI.out.le
     by_cases hq : q ≤ 4
     · have hqi4 : (q : Int) ≤ 4 := by omega
       have l1 := heap_lt pr
       obtain ⟨nx, hnx⟩ : ∃ nx, nx = x + dxw q := ⟨_, rfl⟩
       obtain ⟨ny, hny⟩ : ∃ ny, ny = y + dyw q := ⟨_, rfl⟩
       have hd : -1 ≤ dxw q ∧ dxw q ≤ 1 ∧ -1 ≤ dyw q ∧ dyw q ≤ 1 := by
        have : q = 1 ∨ q = 2 ∨ q = 3 ∨ q = 4 := by omega
        rcases this with rfl | rfl | rfl | rfl <;> decide
       have m1 : -1 ≤ nx := by omega
       have m2 : nx ≤ V := by omega
       have m3 : -1 ≤ ny := by omega
       have m4 : ny ≤ V2 := by omega
       have HNX := Lib.hid hnx; clear hnx
       have HNY := Lib.hid hny; clear hny
       clear hd
       obtain ⟨wB, hwB⟩ : ∃ wB, wB = (wr2.alloc (.cells #[.int .i64 0, .int .i64 1, .int .i64 0, .int .i64 (-1), .int .i64 0] 3)).alloc (.cells #[.int .i64 0, .int .i64 0, .int .i64 1, .int .i64 0, .int .i64 (-1)] 3) := ⟨_, rfl⟩
       have bB : Below wr2.heap.size wr2 wB := by rw [hwB]; exact below2 _ _ _
       have PB := heap_later pr bB
       have HOB := Lib.hid (HO.out.below bB)
       have HRB := Lib.hid (HR.out.below bB)
       have BELB := Lib.hid (below_seq BEL.out bB)
       clear BEL HO HR pr bB
       go_upto_region 13 with fail
       go_cut [10] (fun c wx => c = .int .i64 nx ∧ wx = wr2.alloc (.cells #[.int .i64 0, .int .i64 1, .int .i64 0, .int .i64 (-1), .int .i64 0] 3))
       case first =>
        have h4 : q = 1 ∨ q = 2 ∨ q = 3 ∨ q = 4 := by omega
        clear hwB
        rcases h4 with rfl | rfl | rfl | rfl
        all_goals
         go_wp2
         go_meet
         exact ⟨congrArg (Value.int .i64) (by rw [HNX.out]; simp [dxw]; try omega), rfl⟩
       case rest =>
       obtain ⟨rfl, hw⟩ := hcut
       rw [hw]
       clear hw
       go_upto_region 14 with fail
       go_cut [11] (fun c wx => c = .int .i64 ny ∧ wx = wB)
       case first =>
        have h4 : q = 1 ∨ q = 2 ∨ q = 3 ∨ q = 4 := by omega
        have HWB := Lib.hid hwB; clear hwB
        rcases h4 with rfl | rfl | rfl | rfl
        all_goals
         go_wp2
         go_meet
         exact ⟨congrArg (Value.int .i64) (by rw [HNY.out]; simp [dyw]; try omega), HWB.out.symm⟩
       case rest =>
       obtain ⟨rfl, hw⟩ := hcut
       rw [hw]
       clear hw hwB
       obtain ⟨c0, c1, c2⟩ := cells3 PB
       have hv1 : V - 1 ≤ 7 := by omega
       obtain ⟨al2, qcap2, hv5⟩ := HOB.out.form2
       subst hv5
       have KX : ∀ k : Nat, k < N → 0 ≤ (k : Int) % V ∧ (k : Int) % V < V ∧ 0 ≤ (k : Int) / V ∧ (k : Int) / V < V2 := fun k hk =>
        ⟨Int.emod_nonneg _ hV0, Int.emod_lt_of_pos _ (by omega), Int.ediv_nonneg (by omega) (by omega), Int.ediv_lt_of_lt_mul (by omega) (by rw [Int.mul_comm, hNN]; omega)⟩
       have KXH := Lib.hid KX; clear KX
       by_cases hX : inB nx 0 (V - 1) = true
       · have hx0 : 0 ≤ nx ∧ nx ≤ V - 1 := by simpa [inB] using hX
         have HX1 := Lib.hid hX; clear hX
         by_cases hY : inB ny 0 (V2 - 1) = true
         · have hy0 : 0 ≤ ny ∧ ny ≤ V2 - 1 := by simpa [inB] using hY
           have HY1 := Lib.hid hY; clear hY
           obtain ⟨j0, j1, j2⟩ := idx_bd (W := V) (T := V2) (x := nx) (y := ny) (by omega) (by omega) (by omega) (by omega)
           obtain ⟨k, hk⟩ := Int.eq_ofNat_of_zero_le j1
           have hkN : k < N := by rw [hk, hNN] at j2; omega
           have k1 : (k : Int) % V = nx := by rw [← hk, Int.add_comm, Int.add_mul_emod_self_right, Int.emod_eq_of_lt (by omega) (by omega)]
           have k2 : (k : Int) / V = ny := by rw [← hk, Int.add_comm, Int.add_mul_ediv_right _ _ (by omega), Int.ediv_eq_zero_of_lt (by omega) (by omega)]; omega
           have KU : ∀ k' : Nat, (k' : Int) % V = nx → (k' : Int) / V = ny → k' = k := by
            intro k' h1 h2
            have a1 := Int.emod_add_mul_ediv (k' : Int) V
            have a2 := Int.emod_add_mul_ediv (k : Int) V
            rw [h1, h2] at a1
            rw [k1, k2] at a2
            omega
           have hcs := RowB.cell HRB.out (k := k) hkN
           have hfr := RowB.free HRB.out k
           have hki : (k : Int) < N := by omega
           obtain ⟨yk, hyk⟩ : ∃ yk, yk = ys k := ⟨_, rfl⟩
           rw [← hyk] at hcs
           have HYK := Lib.hid hyk; clear hyk
           have KUH := Lib.hid KU; clear KU
           have K1 := Lib.hid k1; clear k1
           have K2 := Lib.hid k2; clear k2
           obtain ⟨m, hm⟩ : ∃ m, m = ny * V := ⟨_, rfl⟩
           rw [← hm] at j0 hk j1
           clear j2
           have hm2 : ny * V = m := hm.symm
           clear hm
           have m9 : m ≤ 100 := by omega
           cases yk
           · cases hat : atB W T xs (nx - 1) (ny - 1)
             · have hob : outB W T xs k = true := by
                unfold outB
                rw [HV.out, K1.out, K2.out, hat]; rfl
               have HAT := Lib.hid hat; clear hat
               have QP := Lib.hid (HQI.out.push hlt hkN hob HYK.out.symm HC.out hcN hcy (way_adj hq1 hq (by rw [K1.out, HNX.out, HX.out]) (by rw [K2.out, HNY.out, HY.out])))
               have DN : Hid (Done N (outB W T xs) V c (q + 1) (fun j => if j = k then true else ys j)) := (Done.push HDN.out).next fun k' h1 h2 h3 h4 => by
                have := KUH.out k' (by rw [h3, ← HX.out, HNX.out]) (by rw [h4, ← HY.out, HNY.out])
                rw [this]; simp
               go_upto_region 16 with first
                | (go_at_call 63; refine (l1In_any _ _ _ _).mono ?_; rintro e w9 ⟨rfl, rfl⟩; first | rw [HX1.out] | rw [HY1.out])
                | (go_at_call 64; refine (l1At_any W T (nx - 1) (ny - 1) a n cap xs _ HN.out (by omega) (by omega) (by omega) (by omega) HWT.out (HA.out.below BELB.out)).mono ?_; rintro e w5 ⟨rfl, hb5⟩; rw [HAT.out]; have hbl5 := Lib.hid hb5; clear hb5)
                | fail
               have R5 := Lib.hid (HRB.out.below hbl5.out)
               have O5 := Lib.hid (HOB.out.below hbl5.out)
               have P5 := Lib.hid (heap_later PB hbl5.out)
               have B5 := Lib.hid (below_seq BELB.out hbl5.out)
               clear hfr hcs PB hbl5 HOB HRB BELB c0 c1 c2
               have hfr := RowB.free R5.out k
               have hcs := RowB.cell R5.out (k := k) hkN
               rw [← HYK.out] at hcs
               have hst := RowB.set R5.out k true
               obtain ⟨wS, hwS⟩ : ∃ wS, wS = w5.setCell ⟨w.heap.size + 1, k, none⟩ (.bool true) := ⟨_, rfl⟩
               have ZS : Hid (wS.heap.size = w5.heap.size) := by show _ = _; rw [hwS]; simp
               rw [← hwS] at hst
               have RS := Lib.hid hst.1
               have OS := Lib.hid (OwnsI.keptBy O5.out hst.2 (fun k e => by have := Option.some.inj e; omega))
               have PS : wS.heap[w.heap.size]? = some (.cells #[.int .i64 W, .int .i64 T, .slice a n cap] 25 (0, 0)) := by rw [hwS]; exact heap_set_other P5.out (by simp) _
               have BS := Lib.hid (below_grown B5.out hst.2 (Nat.le_refl _) (fun k e => by have := Option.some.inj e; omega))
               have hzS : w.heap.size + 2 ≤ wS.heap.size := by obtain ⟨_, _, _, h1, h2⟩ := OS.out.pos (by omega); omega
               clear hst
               go_upto_region 17 with fail
               rw [← hwS]
               clear hwS hfr hcs
               go_wp2_with (at_builtin; go_must (refine wpList_append_own _ rfl _ _ 26 rfl (w.heap.size + 2) 3 ii0 (.int .i64 0) 1 8 Tryz.underlying26 hii hii0 hii1 hii2 rfl (by decide) _ zs.length (zs.map (Value.int .i64)) rfl (World.ownsRow.alloc OS.out _) ⟨wS.heap.size, 0, none⟩ 1 1 [.int .i64 (k : Int)] rfl rfl (new_int _ _) (one_int _) (by unfold maxLen; omega) (by omega) (by simp; omega) ?_; intro v' w8 hown hgrow _; have p8 := heap_grown (heap_later PS (below1 _ _)) hgrow (OS.out.ownBlock (by omega)); have O8 := Lib.hid (OwnsI.ofRow (xs := zs ++ [(k : Int)]) hown (by simp) (by simp)); have R8 := Lib.hid (RowB.keptBy (RS.out.below (below1 _ _)) hgrow (OS.out.ownBlock (by omega))); have B8 := Lib.hid (below_grown (below_seq BS.out (below1 _ _)) hgrow (Nat.le_refl _) (fun k e => by have := OS.out.ownAt (Nat.le_refl _) k e; omega)); clear hown hgrow))
               go_roundw
               case rel => exact ⟨q + 1, zs ++ [(k : Int)], _, by go_num, by omega, by omega, by simp; omega, (by rw [show (zs ++ [(k : Int)]).getD p 0 = zs.getD p 0 by simp [List.getD, List.getElem?_append_left hlt]]; exact HC.out), (by simp [hcy]), DN.out, O8.out, R8.out, QP.out, p8, B8.out⟩
               case measure => simp [intOf]; omega
             · have hob : outB W T xs k = false := by
                unfold outB
                rw [HV.out, K1.out, K2.out, hat]; rfl
               have HAT := Lib.hid hat; clear hat
               have DN : Hid (Done N (outB W T xs) V c (q + 1) ys) := HDN.out.next fun k' h1 h2 h3 h4 => by
                have := KUH.out k' (by rw [h3, ← HX.out, HNX.out]) (by rw [h4, ← HY.out, HNY.out])
                rw [this, hob] at h2; cases h2
               go_wp2_with first
                | (go_at_call 63; refine (l1In_any _ _ _ _).mono ?_; rintro e w9 ⟨rfl, rfl⟩; first | rw [HX1.out] | rw [HY1.out])
                | (go_at_call 64; refine (l1At_any W T (nx - 1) (ny - 1) a n cap xs _ HN.out (by omega) (by omega) (by omega) (by omega) HWT.out (HA.out.below BELB.out)).mono ?_; rintro e w5 ⟨rfl, hb5⟩; rw [HAT.out]; have hbl5 := Lib.hid hb5; clear hb5)
                | fail
               go_roundw
               case rel => exact ⟨q + 1, zs, ys, by go_num, by omega, by omega, hlt, HC.out, hcy, DN.out, HOB.out.below hbl5.out, HRB.out.below hbl5.out, HQI.out, heap_later PB hbl5.out, below_seq BELB.out hbl5.out⟩
               case measure => simp [intOf]; omega
           · have DN : Hid (Done N (outB W T xs) V c (q + 1) ys) := HDN.out.next fun k' h1 h2 h3 h4 => by
              have := KUH.out k' (by rw [h3, ← HX.out, HNX.out]) (by rw [h4, ← HY.out, HNY.out])
              rw [this]; exact HYK.out.symm
             go_wp2_with first
              | (go_at_call 63; refine (l1In_any _ _ _ _).mono ?_; rintro e w9 ⟨rfl, rfl⟩; first | rw [HX1.out] | rw [HY1.out])
              | fail
             go_roundw
             case rel => exact ⟨q + 1, zs, ys, by go_num, by omega, by omega, hlt, HC.out, hcy, DN.out, HOB.out, HRB.out, HQI.out, PB, BELB.out⟩
             case measure => simp [intOf]; omega
         · rw [Bool.not_eq_true] at hY
           have hy0 : ¬ (0 ≤ ny ∧ ny ≤ V2 - 1) := by simpa [inB] using hY
           have HY1 := Lib.hid hY; clear hY
           have DN : Hid (Done N (outB W T xs) V c (q + 1) ys) := HDN.out.next fun k' h1 h2 h3 h4 => by
            have h5 := KXH.out k' h1
            rw [h4, ← HY.out, ← HNY.out] at h5
            exact absurd ⟨h5.2.2.1, by omega⟩ hy0
           clear hy0
           go_wp2_with first
            | (go_at_call 63; refine (l1In_any _ _ _ _).mono ?_; rintro e w9 ⟨rfl, rfl⟩; first | rw [HX1.out] | rw [HY1.out])
            | fail
           go_roundw
           case rel => exact ⟨q + 1, zs, ys, by go_num, by omega, by omega, hlt, HC.out, hcy, DN.out, HOB.out, HRB.out, HQI.out, PB, BELB.out⟩
           case measure => simp [intOf]; omega
       · rw [Bool.not_eq_true] at hX
         have hx0 : ¬ (0 ≤ nx ∧ nx ≤ V - 1) := by simpa [inB] using hX
         have HX1 := Lib.hid hX; clear hX
         have DN : Hid (Done N (outB W T xs) V c (q + 1) ys) := HDN.out.next fun k' h1 h2 h3 h4 => by
          have h5 := KXH.out k' h1
          rw [h3, ← HX.out, ← HNX.out] at h5
          exact absurd ⟨h5.1, by omega⟩ hx0
         clear hx0
         go_wp2_with first
          | (go_at_call 63; refine (l1In_any _ _ _ _).mono ?_; rintro e w9 ⟨rfl, rfl⟩; rw [HX1.out])
          | fail
         go_roundw
         case rel => exact ⟨q + 1, zs, ys, by go_num, by omega, by omega, hlt, HC.out, hcy, DN.out, HOB.out, HRB.out, HQI.out, PB, BELB.out⟩
         case measure => simp [intOf]; omega
     · obtain rfl : q = 5 := by omega
       have QN := Lib.hid (HQI.out.next HC.out HDN.out)
       go_wp2
       go_roundw
       case rel => exact ⟨p + 1, zs, ys, by go_num, by omega, HO.out, HR.out, QN.out, pr, BEL.out⟩
       case measure => simp [intOf]; omega
  · obtain rfl : p = zs.length := by omega
    obtain ⟨Wn, hWn⟩ := Int.eq_ofNat_of_zero_le (by omega : 0 ≤ W)
    obtain ⟨Tn, hTn⟩ := Int.eq_ofNat_of_zero_le (by omega : 0 ≤ T)
    have hcl := cnt_le xs
    have hnN : n ≤ N := by
     have e1 := HWT.out
     have e2 : (W + 2) * (T + 2) = W * T + 2 * W + 2 * T + 4 := by rw [Int.add_mul, Int.mul_add, Int.mul_add]; omega
     rw [hV, hV2, hNN] at e2
     omega
    have hcn : cnt xs ≤ n := by rw [HN.out]; exact hcl
    have hfin : decide ((zs.length : Int) = (N : Int) - (cnt xs : Int)) = outOne W T xs := by
     have hd := HQI.out.done (by omega) s0
     have hN2 : ((W + 2) * (T + 2)).toNat = N := by rw [hV, hV2, hNN]; simp
     have hoc : (List.range N).countP (outB W T xs) + cnt xs = N := by
      have hl : xs.length = Wn * Tn := by
       have := HWT.out; rw [HN.out, hWn, hTn] at this; exact_mod_cast this
      have h := out_count (xs := xs) hl
      have e : (Wn + 2) * (Tn + 2) = N := by
       have : (((Wn + 2) * (Tn + 2) : Nat) : Int) = (N : Int) := by rw [← hNN, ← hV, ← hV2, hWn, hTn]; push_cast; rfl
       exact_mod_cast this
      rw [e] at h
      rw [hWn, hTn]; exact h
     unfold outOne
     rw [hN2, hV, ← hd]
     apply decide_eq_decide.2
     omega
    have HF := Lib.hid hfin; clear hfin
    clear hWn hTn hcl
    have ha2 := HA.out.below BEL.out
    go_wp2_with fail
    refine (l1Count_any _ _ _ xs _ HN.out (by omega) ha2).mono ?_; rintro e w9 ⟨rfl, hw⟩
    rw [← hw]
    clear hw
    go_wp2
    go_ret
    exact ⟨ret_bool HF.out, BEL.out⟩
end Go.Proofs.YtpcajacekmidbaaGreat

namespace Go.Proofs.YtpcajacekmidbaaGreat
open Go.RowKit
set_option linter.unusedVariables false
set_option maxRecDepth 100000
set_option linter.unusedSimpArgs false

theorem Conn.congr {N : Nat} {s s' : Nat → Bool} {adj : Nat → Nat → Bool} (h : ∀ i, i < N → s i = s' i) {i k : Nat} (hc : Conn N s adj i k) : Conn N s' adj i k := by
 induction hc with
 | refl a b => exact .refl a (by rw [← h _ a]; exact b)
 | step hij a b c ih => exact .step ih a b (by rw [← h _ b]; exact c)
theorem Marks.congr {N : Nat} {s s' : Nat → Bool} {adj : Nat → Nat → Bool} {M : List Int} (h : ∀ i, i < N → s i = s' i) (hm : Marks N s adj M) : Marks N s' adj M := by
 refine ⟨hm.1, fun k hk => ⟨fun h0 => (hm.2 k hk).1 (by rw [h k hk]; exact h0), fun h1 => ?_⟩⟩
 obtain ⟨j, hj, hc, hl⟩ := (hm.2 k hk).2 (by rw [h k hk]; exact h1)
 exact ⟨j, hj, hc.congr h, fun i hi => hl i (hi.congr (fun i hi => (h i hi).symm))⟩

def simpleB (W T : Int) (xs : List Bool) : Bool := decide (partsN W T xs = 1) && outOne W T xs
theorem simpleB_rv {W T : Int} {xs : List Bool} (h : simpleB W T xs = true) : rv W T xs = true := by
 unfold simpleB at h
 rw [Bool.and_eq_true, decide_eq_true_eq] at h
 cases hr : rv W T xs
 · have := h.1; unfold partsN at this; rw [hr] at this; simp at this
 · rfl
theorem partsN_rv {W T : Int} {xs : List Bool} (h : partsN W T xs = 1) : rv W T xs = true := by
 cases hr : rv W T xs
 · unfold partsN at h; rw [hr] at h; simp at h
 · rfl

theorem sSimple_any (W T : Int) (a : Option Addr) (n cap : Nat) (xs : List Bool) (w : World) (hn : n = xs.length) (hn' : n ≤ 1048576) (ha : BoolsAt w a xs) :
 Calls Tryz.prog 10 #[.agg #[.int .i64 W, .int .i64 T, .slice a n cap]] w fun e w' => e = .returned (.bool (simpleB W T xs)) ∧ Below w.heap.size w w' := by
 have HN := Lib.hid hn; clear hn
 have HA := Lib.hid ha; clear ha
 by_cases h : partsN W T xs = 1
 · obtain ⟨v1, v2, v3, v4, v5, _⟩ := rv_true (partsN_rv h)
   have hWT : Hid ((n : Int) = W * T) := by show (n : Int) = _; rw [HN.out]; exact v5
   have hb := rim_bd v1 v2 v3 v4
   obtain ⟨N, hN⟩ := Int.eq_ofNat_of_zero_le (by omega : 0 ≤ (W + 2) * (T + 2))
   have HNN := Lib.hid hN; clear hN hb v5
   have e : simpleB W T xs = outOne W T xs := by unfold simpleB; rw [decide_eq_true h]; rfl
   rw [e]
   have H := Lib.hid h; clear h e
   go_enter Tryz.func10, Tryz.ntmps10
   go_wp2_with fail
   refine (sPartsMany_any _ _ _ _ _ xs _ HN.out hn' (HA.out.one _)).mono ?_; rintro e w1 ⟨rfl, hb1⟩
   rw [H.out]
   have b1 := below_seq (below1 w (.cells #[.int .i64 W, .int .i64 T, .slice a n cap] 25)) hb1
   obtain ⟨c0, c1, c2⟩ := cells3 (heap_later (heap_new w (.cells #[.int .i64 W, .int .i64 T, .slice a n cap] 25)) hb1)
   go_wp2_with fail
   refine (l4Outside_any W T a n cap xs N _ HN.out v1 v2 v3 v4 hWT.out HNN.out (HA.out.below b1)).mono ?_; rintro e w2 ⟨rfl, hb2⟩
   go_wp2
   go_ret
   exact ⟨rfl, below_seq b1 hb2⟩
 · have e : simpleB W T xs = false := by unfold simpleB; rw [decide_eq_false h]; rfl
   rw [e]
   have hne : (partsN W T xs == 1) = false := by simpa using h
   have HNE := Lib.hid hne; clear hne
   have H := Lib.hid h; clear h e
   go_enter Tryz.func10, Tryz.ntmps10
   go_wp2_with fail
   refine (sPartsMany_any _ _ _ _ _ xs _ HN.out hn' (HA.out.one _)).mono ?_; rintro e w1 ⟨rfl, hb1⟩
   have hne := HNE.out
   have h := H.out
   generalize partsN W T xs = pn at hne h
   go_wp2
   go_ret
   exact ⟨rfl, below_seq (below1 _ _) hb1⟩

theorem iSimple_any (W T : Int) (a : Option Addr) (n cap : Nat) (xs : List Bool) (w : World) (hn : n = xs.length) (hn' : n ≤ 1048576) (ha : BoolsAt w a xs) :
 Calls Tryz.prog 40 #[.agg #[.int .i64 W, .int .i64 T, .slice a n cap]] w fun e w' => e = .returned (.bool (simpleB W T xs)) ∧ Below w.heap.size w w' := by
 have HN := Lib.hid hn; clear hn
 have HA := Lib.hid ha; clear ha
 by_cases h : partsN W T xs = 1
 · obtain ⟨v1, v2, v3, v4, v5, _⟩ := rv_true (partsN_rv h)
   have hWT : Hid ((n : Int) = W * T) := by show (n : Int) = _; rw [HN.out]; exact v5
   have hb := rim_bd v1 v2 v3 v4
   obtain ⟨N, hN⟩ := Int.eq_ofNat_of_zero_le (by omega : 0 ≤ (W + 2) * (T + 2))
   have n64 : N ≤ 64 := by omega
   have e : simpleB W T xs = oneMark N (outB W T xs) (adjW (W + 2) false) := by
    unfold simpleB outOne; rw [decide_eq_true h, hN]; simp
   rw [e]
   have HNN := Lib.hid hN; clear hN hb v5
   have H := Lib.hid h; clear h e
   go_enter Tryz.func40, Tryz.ntmps40
   go_wp2_with fail
   refine (iPartsMany_any _ _ _ _ _ xs _ HN.out hn' (HA.out.one _)).mono ?_; rintro e w1 ⟨rfl, hb1⟩
   rw [H.out]
   have b1 := below_seq (below1 w (.cells #[.int .i64 W, .int .i64 T, .slice a n cap] 25)) hb1
   obtain ⟨c0, c1, c2⟩ := cells3 (heap_later (heap_new w (.cells #[.int .i64 W, .int .i64 T, .slice a n cap] 25)) hb1)
   go_wp2_with fail
   refine (outside_any W T a n cap xs N _ HN.out v1 v2 v3 v4 hWT.out HNN.out (HA.out.below b1)).mono ?_; rintro e w2 ⟨g, rfl, ho, hb2⟩
   have O2 := Lib.hid (OwnsB.at ho)
   have b2 := below_seq b1 hb2
   clear ho hb2 c0 c1 c2
   go_wp2_with fail
   refine (marksOf_any (W + 2) (T + 2) _ N N (outL W T xs N) false _ (outL_len _ _ _ _).symm (by omega) (by omega) (by omega) (by omega) HNN.out.symm O2.out).mono ?_; rintro e w3 ⟨g3, M, rfl, hl, ho, hm, hb3⟩
   have O3 := Lib.hid (OwnsI.at ho)
   have HL := Lib.hid hl.symm
   have hM := marksL_eq (hm.congr (s' := outB W T xs) (fun i hi => outL_get hi))
   have hsel : (decide (((selfN M N : Nat) : Int) = 1)) = oneMark N (outB W T xs) (adjW (W + 2) false) := by
    unfold oneMark; rw [← hM]; apply decide_eq_decide.2; omega
   have HS := Lib.hid hsel
   have b3 := below_seq b2 hb3
   clear ho hb3 hl hm hM hsel
   go_wp2_with fail
   refine (marksMany_any _ N N M _ HL.out (by omega) O3.out).mono ?_; rintro e w4 ⟨rfl, hw⟩
   rw [hw]
   clear hw
   go_wp2
   go_ret
   exact ⟨ret_bool HS.out, b3⟩
 · have e : simpleB W T xs = false := by unfold simpleB; rw [decide_eq_false h]; rfl
   rw [e]
   have hne : (partsN W T xs == 1) = false := by simpa using h
   have HNE := Lib.hid hne; clear hne
   have H := Lib.hid h; clear h e
   go_enter Tryz.func40, Tryz.ntmps40
   go_wp2_with fail
   refine (iPartsMany_any _ _ _ _ _ xs _ HN.out hn' (HA.out.one _)).mono ?_; rintro e w1 ⟨rfl, hb1⟩
   have hne := HNE.out
   have h := H.out
   generalize partsN W T xs = pn at hne h
   go_wp2
   go_ret
   exact ⟨rfl, below_seq (below1 _ _) hb1⟩
end Go.Proofs.YtpcajacekmidbaaGreat

namespace Go.Proofs.YtpcajacekmidbaaGreat
open Go.RowKit
set_option linter.unusedVariables false
set_option maxRecDepth 100000
set_option linter.unusedSimpArgs false

def optW (W T : Int) (xs : List Bool) (k s : Nat) (way : Int) : List Nat :=
 if 0 ≤ stepI W T k way ∧ xs.getD (stepI W T k way).toNat false = true ∧ s / 2 ^ ((stepI W T k way).toNat - k) % 2 = 0 then [(s + 2 ^ ((stepI W T k way).toNat - k)) / 2] else []
def optsTo (W T : Int) (xs : List Bool) (k s : Nat) : Nat → List Nat
 | 0 => []
 | j + 1 => optsTo W T xs k s j ++ optW W T xs k s ((j : Int) + 1)
def dpOpts (W T : Int) (xs : List Bool) (k s : Nat) : List Nat :=
 if xs.getD k false = false ∨ s % 2 = 1 then [s / 2] else optsTo W T xs k s 2

def dpN (W T : Int) (xs : List Bool) : Nat → Nat → Nat → Nat
 | 0, _, s => if s = 0 then 1 else 0
 | m + 1, k, s => ((dpOpts W T xs k s).map (dpN W T xs m (k + 1))).sum
def dpT (W T : Int) (xs : List Bool) : Nat := dpN W T xs xs.length 0 0

theorem optW_le (W T : Int) (xs : List Bool) (k s : Nat) (way : Int) : (optW W T xs k s way).length ≤ 1 := by
 unfold optW; split <;> simp
theorem optsTo_le (W T : Int) (xs : List Bool) (k s j : Nat) : (optsTo W T xs k s j).length ≤ j := by
 induction j with
 | zero => simp [optsTo]
 | succ j ih => have := optW_le W T xs k s ((j : Int) + 1); simp only [optsTo, List.length_append]; omega
theorem dpOpts_le (W T : Int) (xs : List Bool) (k s : Nat) : (dpOpts W T xs k s).length ≤ 2 := by
 unfold dpOpts
 split
 · simp
 · exact optsTo_le W T xs k s 2

theorem sum_le_len {f : Nat → Nat} {B : Nat} : ∀ {l : List Nat}, (∀ x ∈ l, f x ≤ B) → (l.map f).sum ≤ l.length * B
 | [], _ => by simp
 | x :: r, h => by
   have h1 := h x (by simp)
   have h2 := sum_le_len (l := r) (fun y hy => h y (by simp [hy]))
   simp only [List.map_cons, List.sum_cons, List.length_cons, Nat.add_mul, Nat.one_mul]
   omega

theorem dpN_le (W T : Int) (xs : List Bool) : ∀ (m k s : Nat), dpN W T xs m k s ≤ 2 ^ m
 | 0, k, s => by unfold dpN; split <;> simp
 | m + 1, k, s => by
   unfold dpN
   have h1 := sum_le_len (f := dpN W T xs m (k + 1)) (B := 2 ^ m) (l := dpOpts W T xs k s) (fun x _ => dpN_le W T xs m (k + 1) x)
   have h2 := Nat.mul_le_mul_right (2 ^ m) (dpOpts_le W T xs k s)
   have h3 : 2 ^ (m + 1) = 2 * 2 ^ m := by rw [Nat.pow_succ, Nat.mul_comm]
   omega

theorem dpT_le {W T : Int} {xs : List Bool} (h : xs.length ≤ 36) : dpT W T xs ≤ 68719476736 := by
 have h1 := dpN_le W T xs xs.length 0 0
 have h2 : (2 : Nat) ^ xs.length ≤ 2 ^ 36 := Nat.pow_le_pow_right (by decide) h
 have h3 : (2 : Nat) ^ 36 = 68719476736 := by decide
 unfold dpT; omega

theorem step_up {W T : Int} {k : Nat} {way : Int} (hw : way = 1 ∨ way = 2) (hW : 1 ≤ W) (h : 0 ≤ stepI W T k way) : (way = 1 ∧ stepI W T k way = k + 1 ∧ 1 < W) ∨ (way = 2 ∧ stepI W T k way = k + W) := by
 rcases hw with rfl | rfl
 · left
   unfold stepI at h ⊢
   split at h
   · rename_i h1
     refine ⟨rfl, by rw [if_pos h1], ?_⟩
     have := Int.emod_nonneg (k : Int) (b := W) (by omega)
     omega
   · simp at h
 · right
   unfold stepI at h ⊢
   simp at h ⊢
   split at h
   · rename_i h1
     intro h2; omega
   · simp at h

theorem optW_lt {W T : Int} {xs : List Bool} {k s : Nat} {way : Int} (hw : way = 1 ∨ way = 2) (hW : 1 ≤ W) (hW6 : W ≤ 6) (hs : s < 2 ^ W.toNat) : ∀ o ∈ optW W T xs k s way, o < 2 ^ W.toNat := by
 intro o ho
 unfold optW at ho
 split at ho
 · rename_i h
   obtain ⟨h0, _, _⟩ := h
   simp only [List.mem_singleton] at ho
   subst ho
   have hw' : W = 1 ∨ W = 2 ∨ W = 3 ∨ W = 4 ∨ W = 5 ∨ W = 6 := by omega
   rcases step_up hw hW h0 with ⟨_, e, h1⟩ | ⟨_, e⟩
   · have e2 : (stepI W T k way).toNat - k = 1 := by omega
     rw [e2]
     rcases hw' with rfl | rfl | rfl | rfl | rfl | rfl <;> simp at hs ⊢ <;> omega
   · have e2 : (stepI W T k way).toNat - k = W.toNat := by omega
     rw [e2]
     rcases hw' with rfl | rfl | rfl | rfl | rfl | rfl <;> simp at hs ⊢ <;> omega
 · simp at ho

theorem dpOpts_lt {W T : Int} {xs : List Bool} {k s : Nat} (hW : 1 ≤ W) (hW6 : W ≤ 6) (hs : s < 2 ^ W.toNat) : ∀ o ∈ dpOpts W T xs k s, o < 2 ^ W.toNat := by
 intro o ho
 unfold dpOpts at ho
 split at ho
 · simp only [List.mem_singleton] at ho
   subst ho
   exact Nat.lt_of_le_of_lt (Nat.div_le_self _ _) hs
 · simp only [optsTo, List.mem_append, List.nil_append] at ho
   rcases ho with ho | ho
   · exact optW_lt (Or.inl rfl) hW hW6 hs o ho
   · exact optW_lt (Or.inr rfl) hW hW6 hs o ho

theorem step_cases {W T : Int} {xs : List Bool} {k s : Nat} {way : Int} (hw : way = 1 ∨ way = 2) (hW : 1 ≤ W) (hW6 : W ≤ 6) (hWT : (xs.length : Int) = W * T) (hk : k < xs.length) :
 (stepI W T k way = -1 ∧ optW W T xs k s way = []) ∨ ∃ d : Nat, 1 ≤ d ∧ d ≤ 6 ∧ stepI W T k way = ((k + d : Nat) : Int) ∧ k + d < xs.length ∧
   (xs.getD (k + d) false = false ∧ optW W T xs k s way = [] ∨ xs.getD (k + d) false = true ∧ s / 2 ^ d % 2 ≠ 0 ∧ optW W T xs k s way = [] ∨ xs.getD (k + d) false = true ∧ s / 2 ^ d % 2 = 0 ∧ optW W T xs k s way = [(s + 2 ^ d) / 2]) := by
 rcases step_bd (W := W) (T := T) (k := (k : Int)) (way := way) hW (by omega) (by omega) with h | ⟨h0, h1⟩
 · left
   exact ⟨h, by unfold optW; rw [h, if_neg (by omega)]⟩
 · right
   obtain ⟨d, hd1, hd6, hd⟩ : ∃ d : Nat, 1 ≤ d ∧ d ≤ 6 ∧ stepI W T k way = ((k + d : Nat) : Int) := by
    rcases step_up hw hW h0 with ⟨_, e, _⟩ | ⟨_, e⟩
    · exact ⟨1, by omega, by omega, by omega⟩
    · exact ⟨W.toNat, by omega, by omega, by omega⟩
   refine ⟨d, hd1, hd6, hd, by omega, ?_⟩
   have e1 : (stepI W T k way).toNat = k + d := by omega
   have e2 : k + d - k = d := by omega
   unfold optW
   rw [e1, e2]
   cases hc : xs.getD (k + d) false
   · left
     exact ⟨rfl, by rw [if_neg (by intro h; exact absurd h.2.1 (by simp))]⟩
   · right
     by_cases hb : s / 2 ^ d % 2 = 0
     · right
       exact ⟨rfl, hb, by rw [if_pos ⟨h0, rfl, hb⟩]⟩
     · left
       exact ⟨rfl, hb, by rw [if_neg (by intro h; exact hb h.2.2)]⟩

theorem pow_le64 {W : Int} (hW : 1 ≤ W) (hW6 : W ≤ 6) : 2 ≤ 2 ^ W.toNat ∧ 2 ^ W.toNat ≤ 64 := by
 have hw' : W = 1 ∨ W = 2 ∨ W = 3 ∨ W = 4 ∨ W = 5 ∨ W = 6 := by omega
 rcases hw' with rfl | rfl | rfl | rfl | rfl | rfl <;> decide

def Eqv (a b : Int) : Prop := ∃ z : Int, a = b + z * 18446744073709551616
theorem Eqv.refl (a : Int) : Eqv a a := ⟨0, by omega⟩
theorem Eqv.of {a b : Int} (h : a = b) : Eqv a b := ⟨0, by omega⟩
theorem Eqv.symm {a b : Int} (h : Eqv a b) : Eqv b a := by obtain ⟨z, rfl⟩ := h; exact ⟨-z, by omega⟩
theorem Eqv.trans {a b c : Int} (h : Eqv a b) (k : Eqv b c) : Eqv a c := by obtain ⟨z, rfl⟩ := h; obtain ⟨y, rfl⟩ := k; exact ⟨y + z, by omega⟩
theorem Eqv.add {a b c d : Int} (h : Eqv a b) (k : Eqv c d) : Eqv (a + c) (b + d) := by obtain ⟨z, rfl⟩ := h; obtain ⟨y, rfl⟩ := k; exact ⟨y + z, by omega⟩
theorem Eqv.eq {a b : Int} (h : Eqv a b) (ha : -9223372036854775808 ≤ a ∧ a ≤ 9223372036854775807) (hb : -9223372036854775808 ≤ b ∧ b ≤ 9223372036854775807) : a = b := by
 obtain ⟨z, rfl⟩ := h
 omega

end Go.Proofs.YtpcajacekmidbaaGreat

/- Contract of impl.coveredAfter. -/
namespace Go.Proofs.YtpcajacekmidbaaGreat
open Go.RowKit
set_option linter.unusedVariables false
set_option maxRecDepth 100000
set_option linter.unusedSimpArgs false

theorem own_one_litQ1 (w : World) {B : Nat} (x : Int) (hB : B ≤ w.heap.size) : OwnsI (w.alloc (.cells #[.int .i64 x] 3 (0, 0))) B (.slice (some ⟨w.heap.size, 0, none⟩) 1 1) [x] :=
 ⟨by simp, .inr ⟨w.heap.size, 1, #[.int .i64 x], rfl, hB, heap_alloc_new w _, Nat.le_refl _, by decide, by simp, by simp⟩⟩

def coverL (W T : Int) (xs : List Bool) (k s : Nat) : List Int := (dpOpts W T xs k s).map fun o : Nat => (o : Int)
end Go.Proofs.YtpcajacekmidbaaGreat

/- Plain facts on what a map from numbers to numbers adds up to; and the law for an entry laid by a literal. No statement is proved here. -/
namespace Go.Proofs.YtpcajacekmidbaaGreat
open Go.RowKit Go.Maps
set_option linter.unusedVariables false
set_option maxRecDepth 100000
set_option linter.unusedSimpArgs false

def kI (z : Int) : Lit := .int .i64 z
def KeysLt (D : DataW Unit) (B : Nat) : Prop := ∀ kl, Maps.has D kl = true → ∃ z : Nat, kl = kI z ∧ z < B
theorem KeysLt.put {D : DataW Unit} {B z : Nat} (h : KeysLt D B) (hz : z < B) (d : DataW Unit) : KeysLt (D.put (kI z) d) B := by
 intro kl hk
 by_cases e : kl = kI z
 · exact ⟨z, e, hz⟩
 · rw [Maps.has_put_other e] at hk
   exact h kl hk

end Go.Proofs.YtpcajacekmidbaaGreat

/- Contract of impl.tilingsIn: how many tilings a region has. -/
namespace Go.Proofs.YtpcajacekmidbaaGreat
open Go.RowKit Go.Maps
set_option linter.unusedVariables false
set_option maxRecDepth 100000
set_option linter.unusedSimpArgs false

theorem wrap64_eqv (a : Int) : Eqv (wrap64 a) a := ⟨-((a + 9223372036854775808) / 18446744073709551616), by unfold wrap64; omega⟩
theorem eqv_put {P a c F : Int} : Eqv (P + (wrap64 (a + c) - a) * F) (P + c * F) := by
 obtain ⟨z, hz⟩ := wrap64_eqv (a + c)
 rw [hz]
 have e : a + c + z * 18446744073709551616 - a = c + z * 18446744073709551616 := by omega
 rw [e, Int.add_mul]
 refine ⟨z * F, ?_⟩
 rw [Int.mul_assoc, Int.mul_comm 18446744073709551616 F, ← Int.mul_assoc]
 omega

def sumTo (f : Nat → Nat) (l : List Nat) (j : Nat) : Nat := ((l.take j).map f).sum
theorem sumTo_succ (f : Nat → Nat) (l : List Nat) (j : Nat) (h : j < l.length) : sumTo f l (j + 1) = sumTo f l j + f (l.getD j 0) := by
 unfold sumTo
 rw [List.take_succ_eq_append_getElem h, List.map_append, List.sum_append]
 simp only [List.map_cons, List.map_nil, List.sum_cons, List.sum_nil, List.getD_eq_getElem?_getD, List.getElem?_eq_getElem h, Option.getD_some]
 omega
theorem sumTo_all (f : Nat → Nat) (l : List Nat) : sumTo f l l.length = (l.map f).sum := by unfold sumTo; rw [List.take_length]

end Go.Proofs.YtpcajacekmidbaaGreat

namespace Go.Proofs.YtpcajacekmidbaaGreat
open Go.RowKit Go.Maps
set_option linter.unusedVariables false
set_option maxRecDepth 100000
set_option linter.unusedSimpArgs false

def castL (S : List Nat) : List Int := S.map fun s : Nat => (s : Int)
theorem castL_len (S : List Nat) : (castL S).length = S.length := by simp [castL]
theorem castL_get (S : List Nat) (i : Nat) : (castL S).getD i 0 = ((S.getD i 0 : Nat) : Int) := by
 unfold castL
 rw [List.getD_eq_getElem?_getD, List.getD_eq_getElem?_getD, List.getElem?_map]
 cases S[i]? <;> rfl
theorem castL_snoc (S : List Nat) (o : Nat) : castL (S ++ [o]) = castL S ++ [(o : Int)] := by simp [castL]

def psiN (f : Nat → Nat) (S : List Nat) (C : List Int) : Nat → Int
 | 0 => 0
 | i + 1 => psiN f S C i + C.getD i 0 * (f (S.getD i 0) : Int)

theorem psiN_congr {f : Nat → Nat} {S S' : List Nat} {C C' : List Int} : ∀ {n : Nat}, (∀ i, i < n → S.getD i 0 = S'.getD i 0 ∧ C.getD i 0 = C'.getD i 0) → psiN f S C n = psiN f S' C' n
 | 0, _ => rfl
 | n + 1, h => by
   obtain ⟨h1, h2⟩ := h n (by omega)
   simp only [psiN]
   rw [psiN_congr (n := n) (fun i hi => h i (by omega)), h1, h2]

theorem getD_snoc_lt {α : Type} {l : List α} {x d : α} {i : Nat} (h : i < l.length) : (l ++ [x]).getD i d = l.getD i d := by
 simp [List.getD_eq_getElem?_getD, List.getElem?_append_left h]
theorem getD_snoc_at {α : Type} {l : List α} {x d : α} : (l ++ [x]).getD l.length d = x := by
 simp [List.getD_eq_getElem?_getD]

theorem psiN_snoc {f : Nat → Nat} {S : List Nat} {C : List Int} {s : Nat} {c : Int} (h : C.length = S.length) : psiN f (S ++ [s]) (C ++ [c]) (S.length + 1) = psiN f S C S.length + c * (f s : Int) := by
 simp only [psiN]
 rw [psiN_congr (S' := S) (C' := C) (fun i hi => ⟨getD_snoc_lt hi, getD_snoc_lt (by rw [h]; exact hi)⟩), getD_snoc_at]
 have e : (C ++ [c]).getD S.length 0 = c := by rw [← h]; exact getD_snoc_at
 rw [e]

theorem getD_set_ne {l : List Int} {p i : Nat} {v : Int} (h : i ≠ p) : (l.set p v).getD i 0 = l.getD i 0 := by
 simp [List.getD_eq_getElem?_getD, List.getElem?_set, Ne.symm h]
theorem getD_set_at {l : List Int} {p : Nat} {v : Int} (h : p < l.length) : (l.set p v).getD p 0 = v := by
 simp [List.getD_eq_getElem?_getD, List.getElem?_set, h]

theorem psiN_set {f : Nat → Nat} {S : List Nat} {C : List Int} {p : Nat} {v : Int} (hp : p < C.length) : ∀ {n : Nat}, p < n → psiN f S (C.set p v) n = psiN f S C n + (v - C.getD p 0) * (f (S.getD p 0) : Int)
 | 0, h => absurd h (Nat.not_lt_zero _)
 | n + 1, h => by
   simp only [psiN]
   by_cases e : p = n
   · subst e
     rw [psiN_congr (S' := S) (C' := C) (fun i hi => ⟨rfl, getD_set_ne (by omega)⟩), getD_set_at hp, Int.sub_mul]
     omega
   · rw [psiN_set hp (n := n) (by omega), getD_set_ne (fun h => e h.symm)]
     omega

theorem psiN_add {f : Nat → Nat} {S : List Nat} {C : List Int} {p o : Nat} {c : Int} (hp : p < S.length) (hl : C.length = S.length) (ho : S.getD p 0 = o) :
 Eqv (psiN f S (C.set p (wrap64 (C.getD p 0 + c))) S.length) (psiN f S C S.length + c * (f o : Int)) := by
 rw [psiN_set (by omega) hp, ho]
 exact eqv_put
theorem psiN_new {f : Nat → Nat} {S : List Nat} {C : List Int} {o : Nat} (hl : C.length = S.length) : psiN f (S ++ [o]) (C ++ [0]) (S.length + 1) = psiN f S C S.length := by
 rw [psiN_snoc hl]; omega

def Sep (v u : Value) : Prop := ∀ b, v.ownBlock = some b → u.ownBlock ≠ some b
theorem Sep.symm {v u : Value} (h : Sep v u) : Sep u v := fun b hb hv => h b hv hb
theorem Sep.new {w : World} {B : Nat} {v u v' : Value} {xs : List Int} (h : Sep v u) (hu : OwnsI w B u xs) (hloc : v'.ownBlock = v.ownBlock ∨ v'.ownBlock = some w.heap.size) : Sep v' u := by
 intro b hb hu'
 rcases hloc with e | e
 · exact h b (by rw [← e]; exact hb) hu'
 · rw [e] at hb
   have e2 := Option.some.inj hb
   have := OwnsI.blkLt hu b hu'
   omega
theorem OwnsI.keptSep {w w' : World} {B : Nat} {u v : Value} {xs : List Int} (h : OwnsI w B u xs) (hg : w.grownBy w' v.ownBlock) (hs : Sep v u) : OwnsI w' B u xs := by
 refine World.ownsRow.kept h hg ?_
 cases hu : u.ownBlock with
 | none => exact Or.inl rfl
 | some b =>
   right
   intro e
   exact hs b e.symm hu
theorem OwnsI.later' {w w' : World} {B : Nat} {v : Value} {xs : List Int} (h : OwnsI w B v xs) (hb : Below w.heap.size w w') : OwnsI w' B v xs := h.below hb
theorem OwnsI.drew1 {w : World} {B : Nat} {v : Value} {xs : List Int} (h : OwnsI w B v xs) : OwnsI w.drew B v xs := h
theorem Sep.of_base {w w' : World} {B : Nat} {v u : Value} {xs ys : List Int} (hv : OwnsI w B v xs) (hu : OwnsI w' w.heap.size u ys) : Sep v u := by
 intro b hb hu'
 have h1 := OwnsI.blkLt hv b hb
 have h2 := (World.ownsRow.lt hu b hu').1
 omega

theorem step_old {f : Nat → Nat} {S : List Nat} {C : List Int} {p o q : Nat} {c P : Int} {l : List Nat} (hl : C.length = S.length) (h : Eqv (psiN f S C S.length) (P + c * (sumTo f l q : Int))) (hq : q < l.length) (ho : o = l.getD q 0) (hp : p < S.length) (hpo : S.getD p 0 = o) :
 Eqv (psiN f S (C.set p (wrap64 (C.getD p 0 + c))) S.length) (P + c * (sumTo f l (q + 1) : Int)) := by
 refine (psiN_add hp hl hpo).trans ?_
 rw [sumTo_succ f l q hq, ← ho, Int.natCast_add, Int.mul_add, ← Int.add_assoc]
 exact h.add (Eqv.refl _)
theorem step_new {f : Nat → Nat} {S : List Nat} {C : List Int} {o q : Nat} {c P : Int} {l : List Nat} (hl : C.length = S.length) (h : Eqv (psiN f S C S.length) (P + c * (sumTo f l q : Int))) (hq : q < l.length) (ho : o = l.getD q 0) :
 Eqv (psiN f (S ++ [o]) ((C ++ [0]).set S.length (wrap64 c)) (S ++ [o]).length) (P + c * (sumTo f l (q + 1) : Int)) := by
 have e1 : (C ++ [0]).getD S.length 0 = (0 : Int) := by rw [← hl]; exact getD_snoc_at
 have e2 : (S ++ [o]).length = S.length + 1 := by simp
 have h1 := step_old (f := f) (S := S ++ [o]) (C := C ++ [0]) (p := S.length) (o := o) (q := q) (c := c) (P := P) (l := l) (by simp [hl]) (by rw [e2, psiN_new hl]; exact h) hq ho (by simp) getD_snoc_at
 rw [e1, Int.zero_add] at h1
 exact h1
theorem bound_snoc {S : List Nat} {o B : Nat} (h : ∀ q, q < S.length → S.getD q 0 < B) (ho : o < B) : ∀ q, q < (S ++ [o]).length → (S ++ [o]).getD q 0 < B := by
 intro q hq
 by_cases e : q < S.length
 · rw [getD_snoc_lt e]; exact h q e
 · have : q = S.length := by simp at hq; omega
   subst this
   rw [getD_snoc_at]; exact ho

end Go.Proofs.YtpcajacekmidbaaGreat

namespace Go.Proofs.YtpcajacekmidbaaGreat
open Go.RowKit
set_option linter.unusedVariables false
set_option maxRecDepth 100000
set_option linter.unusedSimpArgs false

theorem own_nil_lit (w : World) {B : Nat} (hB : B ≤ w.heap.size) : OwnsI (w.alloc (.cells #[] 3 (0, 0))) B (.slice (some ⟨w.heap.size, 0, none⟩) 0 0) [] :=
 World.ownsRow_made w #[] 0 hB (Nat.zero_le _) rfl

end Go.Proofs.YtpcajacekmidbaaGreat
