/- Contracts of impl.heightMay, impl.riseMay, impl.firstCorner, impl.HeightsOk. -/
import Derived.Test.YtpcajacekmidbaaGreatKSidesE
import Derived.Test.YtpcajacekmidbaaGreatKSidesN
namespace Go.Proofs.YtpcajacekmidbaaGreat
open Go.RowKit
set_option linter.unusedVariables false
set_option maxRecDepth 100000
set_option linter.unusedSimpArgs false

theorem infoSide : (Tryz.prog.info? 77).map (fun i => (i.zero, i.size, i.bytes)) = some (some (.agg #[.int .i64 0, .int .i64 0, .int .i64 0, .bool false, .int .i64 0, .int .i64 0]), 6, 48) := by kernel_rfl
def sdC (W T : Int) (xs : List Bool) (s : Nat × Bool) : List Value :=
 [.int .i64 s.1, .int .i64 (sTo W s.1 s.2), .int .i64 (sRise W s.1 s.2), .bool (sBoth W T xs s.1 s.2), .int .i64 (if sBoth W T xs s.1 s.2 then sCell W s.1 s.2 else 0), .int .i64 (if sBoth W T xs s.1 s.2 then sWay s.2 else 0)]
def OwnsSd (w : World) (B : Nat) (v : Value) (W T : Int) (xs : List Bool) (l : List (Nat × Bool)) : Prop := w.ownsRow B 77 6 v l.length (l.flatMap (sdC W T xs))
theorem OwnsSd.below {w w' : World} {B : Nat} {v : Value} {W T : Int} {xs : List Bool} {l : List (Nat × Bool)} (h : OwnsSd w B v W T xs l) (hb : Below w.heap.size w w') : OwnsSd w' B v W T xs l :=
 World.ownsRow.kept (row := none) h ⟨hb.os, hb.tape, hb.output, hb.size, fun k hk _ => hb.block k hk⟩ (by cases v.ownBlock <;> simp)
theorem new_side (w : World) (v0 v1 v2 v3 v4 v5 : Value) : ∀ j u, [v0, v1, v2, v3, v4, v5][j]? = some u → (w.alloc (.cells #[v0, v1, v2, v3, v4, v5] 77)).cell? ((⟨w.heap.size, 0, none⟩ : Addr).add j) = some u := by
 intro j u h
 obtain ⟨c0, c1, c2, c3, c4, c5⟩ := cells6 (heap_new w (.cells #[v0, v1, v2, v3, v4, v5] 77))
 have hj : j < 6 := by
  have := List.getElem?_eq_some_iff.1 h
  obtain ⟨h1, _⟩ := this
  simpa using h1
 have : j = 0 ∨ j = 1 ∨ j = 2 ∨ j = 3 ∨ j = 4 ∨ j = 5 := by omega
 rcases this with rfl | rfl | rfl | rfl | rfl | rfl <;> simp at h <;> subst h <;> simp [Addr.add] <;> assumption
theorem one_side (k kt r c wy : Int) (b : Bool) : ∀ u ∈ [Value.int .i64 k, .int .i64 kt, .int .i64 r, .bool b, .int .i64 c, .int .i64 wy], u.oneCell' = true := by
 intro u hu; simp at hu; rcases hu with rfl | rfl | rfl | rfl | rfl | rfl <;> rfl

def sidesJ (W T : Int) (xs : List Bool) (k j : Nat) : List (Nat × Bool) := sidesK W T xs k ++ ((if 1 ≤ j ∧ sUsed W T xs k false = true then [(k, false)] else []) ++ (if 2 ≤ j ∧ sUsed W T xs k true = true then [(k, true)] else []))
theorem sidesJ_zero (W T : Int) (xs : List Bool) (k : Nat) : sidesJ W T xs k 0 = sidesK W T xs k := by simp [sidesJ]
theorem sidesJ_one (W T : Int) (xs : List Bool) (k : Nat) : sidesJ W T xs k 1 = if sUsed W T xs k false then sidesJ W T xs k 0 ++ [(k, false)] else sidesJ W T xs k 0 := by
 unfold sidesJ; cases h : sUsed W T xs k false <;> simp
theorem sidesJ_two (W T : Int) (xs : List Bool) (k : Nat) : sidesJ W T xs k 2 = if sUsed W T xs k true then sidesJ W T xs k 1 ++ [(k, true)] else sidesJ W T xs k 1 := by
 unfold sidesJ; cases h : sUsed W T xs k true <;> simp
theorem sidesJ_end (W T : Int) (xs : List Bool) (k : Nat) : sidesJ W T xs k 2 = sidesK W T xs (k + 1) := by
 unfold sidesJ; rw [sidesK_succ]; cases h : sUsed W T xs k true <;> cases h2 : sUsed W T xs k false <;> simp
theorem sidesJ_len (W T : Int) (xs : List Bool) (k j : Nat) : (sidesJ W T xs k j).length ≤ 2 * k + 2 := by
 unfold sidesJ
 rw [List.length_append, List.length_append]
 have := sidesK_len W T xs k
 have a : (if 1 ≤ j ∧ sUsed W T xs k false = true then [(k, false)] else [] : List (Nat × Bool)).length ≤ 1 := by split <;> simp
 have b : (if 2 ≤ j ∧ sUsed W T xs k true = true then [(k, true)] else [] : List (Nat × Bool)).length ≤ 1 := by split <;> simp
 omega
theorem OwnsSd.snoc {w : World} {B : Nat} {v : Value} {W T : Int} {xs : List Bool} {l : List (Nat × Bool)} {s : Nat × Bool} (h : w.ownsRow B 77 6 v (l.length + 1) (l.flatMap (sdC W T xs) ++ sdC W T xs s)) : OwnsSd w B v W T xs (l ++ [s]) := by
 unfold OwnsSd
 rw [List.length_append, List.length_singleton, List.flatMap_append]
 simpa using h
theorem OwnsSd.more {w : World} {B : Nat} {v : Value} {W T : Int} {xs : List Bool} {l l' : List (Nat × Bool)} {s : Nat × Bool} {cs : List Value} (he : sdC W T xs s = cs) (hx : l' = l ++ [s]) (h : w.ownsRow B 77 6 v (l.length + 1) (l.flatMap (sdC W T xs) ++ cs)) : OwnsSd w B v W T xs l' := by
 subst hx; subst he; exact OwnsSd.snoc h
theorem OwnsSd.form {w : World} {B : Nat} {v : Value} {W T : Int} {xs : List Bool} {l : List (Nat × Bool)} (h : OwnsSd w B v W T xs l) : ∃ (a : Option Addr) (cap : Nat), v = .slice a l.length cap := by
 rcases h.2 with ⟨e, h2⟩ | ⟨g, cap, cur, e, _⟩
 · exact ⟨none, 0, by rw [e, h2]⟩
 · exact ⟨some ⟨g, 0, none⟩, cap, e⟩
theorem OwnsSd.ownBlock {w : World} {B : Nat} {v : Value} {W T : Int} {xs : List Bool} {l : List (Nat × Bool)} (h : OwnsSd w B v W T xs l) {b : Nat} (hb : b < B) : v.ownBlock ≠ some b := fun e => by
 have := World.ownsRow.lt h b e; omega
theorem OwnsSd.ownAt {w : World} {B : Nat} {v : Value} {W T : Int} {xs : List Bool} {l : List (Nat × Bool)} (h : OwnsSd w B v W T xs l) {B' : Nat} (hB : B' ≤ B) : ∀ k, v.ownBlock = some k → B' ≤ k := fun k e => Nat.le_trans hB (World.ownsRow.lt h k e).1

theorem ownsRow_low {w : World} {B B' n size : Nat} {e : TypeId} {v : Value} {xs : List Value} (h : w.ownsRow B e size v n xs) (hB : B' ≤ B) : w.ownsRow B' e size v n xs := by
 refine ⟨h.1, ?_⟩
 rcases h.2 with hn | ⟨g, cap, cur, hv, hb, r⟩
 · exact .inl hn
 · exact .inr ⟨g, cap, cur, hv, Nat.le_trans hB hb, r⟩

set_option maxHeartbeats 4000000 in
theorem sidesOf_any (W T : Int) (a : Option Addr) (n cap : Nat) (xs : List Bool) (N : Nat) (w : World) (hn : n = xs.length) (hn' : n ≤ 1048576) (hr : rv W T xs = true) (hN : (W + 1) * (T + 1) = (N : Int)) (ha : BoolsAt w a xs) :
 Calls Tryz.prog 87 #[.agg #[.int .i64 W, .int .i64 T, .slice a n cap]] w fun e w' => ∃ v, e = .returned v ∧ OwnsSd w' w.heap.size v W T xs (sidesK W T xs N) ∧ Below w.heap.size w w' := by
 obtain ⟨v1, v2, v3, v4, v5, _⟩ := rv_true hr
 have hcb := corn_bd v1 v2 v3 v4
 have HC : Hid (cornN W T xs = (N : Int)) := by show _ = _; unfold cornN; rw [hr, if_pos rfl, hN]
 rw [hN] at hcb
 have HNN := Lib.hid hN; clear hN
 have HWT : Hid ((n : Int) = W * T) := by show _ = _; rw [hn]; exact v5
 have HN := Lib.hid hn; clear hn
 have HA := Lib.hid ha; clear ha
 have hN49 : N ≤ 49 := by omega
 clear hr v5 hcb
 obtain ⟨i0, hi, hz0, hz1, hz2⟩ := info_parts infoSide
 have ix0 : ∀ w : World, (Instr.index 100 (.agg #[.int .i64 1, .int .i64 2]) (.int .i64 0)).run Tryz.prog w = .ok (.int .i64 1) w := fun _ => by kernel_rfl
 have ix1 : ∀ w : World, (Instr.index 100 (.agg #[.int .i64 1, .int .i64 2]) (.int .i64 1)).run Tryz.prog w = .ok (.int .i64 2) w := fun _ => by kernel_rfl
 go_enter Tryz.func87, Tryz.ntmps87
 go_wp2_with fail
 refine (iCornerMany_any _ _ _ _ _ xs _ HN.out hn' (HA.out.one _)).mono ?_; rintro e w1 ⟨rfl, hb1⟩
 rw [HC.out]
 have p1 := heap_later (heap_new w (.cells #[.int .i64 W, .int .i64 T, .slice a n cap] 25)) hb1
 have b1 := below_seq (below1 w (.cells #[.int .i64 W, .int .i64 T, .slice a n cap] 25)) hb1
 clear hb1
 go_wp2
 go_loopw [3, 4, 5, 6, 8, 9, 10, 13, 27] (fun v _ _ _ _ _ _ i _ wr => ∃ k : Nat, k ≤ N ∧ i = .int .i64 k ∧ OwnsSd wr (w.heap.size + 1) v W T xs (sidesK W T xs k) ∧ wr.heap[w.heap.size]? = some (.cells #[.int .i64 W, .int .i64 T, .slice a n cap] 25 (0, 0)) ∧ Below w.heap.size w wr) (fun _ _ _ _ _ _ _ i _ _ => N - (intOf i).toNat)
 case atStart => exact ⟨0, Nat.zero_le _, rfl, World.ownsRow_nil _ _ _ _, p1, b1⟩
 case round =>
  rename World => wo
  obtain ⟨k, hk, rfl, ho, pr, hbel⟩ := hrel
  have HO := Lib.hid ho; clear ho
  have BEL := Lib.hid hbel; clear hbel
  by_cases hlt : k < N
  · obtain ⟨kx0, kx1, ky0, ke⟩ := kxy v1 k
    have hkN : (k : Int) < (W + 1) * (T + 1) := by rw [HNN.out]; omega
    have ky1 := ky_le v1 hkN
    have HKN := Lib.hid hkN; clear hkN ke
    have e1 : (k : Int) < N := by omega
    obtain ⟨c0, c1, c2⟩ := cells3 pr
    have r1 : (k : Int) % (W + 1) = kx W k := rfl
    have r2 : (k : Int) / (W + 1) = ky W k := rfl
    have r1' : (k : Int).tmod (W + 1) = kx W k := Int.tmod_eq_emod_of_nonneg (by omega)
    have r2' : (k : Int).tdiv (W + 1) = ky W k := Int.tdiv_eq_ediv_of_nonneg (by omega)
    have r3 : IntKind.i64.wrap (W + 1) = W + 1 := by rw [IntKind.wrap_i64]; omega
    have r4 : W + 1 ≠ 0 := by omega
    have r5 : ((W + 1 : Int) == 0) = false := by simpa using r4
    have r6 : IntKind.i64.wrap (kx W k) = kx W k := by rw [IntKind.wrap_i64]; omega
    have r7 : IntKind.i64.wrap (ky W k) = ky W k := by rw [IntKind.wrap_i64]; omega
    go_wp2
    go_quiet (fail)
    clear r1 r2 r1' r2' r3 r4 r5 r6 r7
    have PQ : (wo.drewN nq).heap[w.heap.size]? = some _ := pr
    obtain ⟨q0, q1, q2⟩ := cells3 PQ
    obtain ⟨wi, hwi⟩ : ∃ wi, wi = wo.drewN nq := ⟨_, rfl⟩
    go_wp2
    go_loopw [3, 8, 9, 10, 27] (fun v _ _ _ jv wr => ∃ j : Nat, j ≤ 2 ∧ jv = .int .i64 j ∧ OwnsSd wr (w.heap.size + 1) v W T xs (sidesJ W T xs k j) ∧ wr.heap[w.heap.size]? = some (.cells #[.int .i64 W, .int .i64 T, .slice a n cap] 25 (0, 0)) ∧ Below w.heap.size w wr) (fun _ _ _ _ jv _ => 2 - (intOf jv).toNat)
    case atStart => exact ⟨0, by omega, rfl, by rw [sidesJ_zero]; exact HO.out.below (drewN_below _ _), PQ, below_seq BEL.out (drewN_below _ _)⟩
    case round =>
     clear hwi wi
     rename World => wq
     obtain ⟨j, hj, rfl, hoj, pj, bj⟩ := hrel
     have HOJ := Lib.hid hoj; clear hoj
     have BELJ := Lib.hid bj; clear bj
     clear c0 c1 c2 q0 q1 q2
     obtain ⟨c0, c1, c2⟩ := cells3 pj
     by_cases hj2 : j = 2
     · subst hj2
       go_wp2
       go_roundw
       case rel => exact ⟨k + 1, by omega, by go_num, by rw [← sidesJ_end]; exact HOJ.out, pj, BELJ.out⟩
       case measure => simp [intOf]; omega
     by_cases hj0 : j = 0
     · subst hj0
       clear hj hj2
       obtain ⟨kt, hkt⟩ : ∃ kt, kt = sTo W k false := ⟨_, rfl⟩
       obtain ⟨rs, hrs⟩ : ∃ rs, rs = sRise W k false := ⟨_, rfl⟩
       obtain ⟨bo, hbo⟩ : ∃ bo, bo = sBoth W T xs k false := ⟨_, rfl⟩
       obtain ⟨cl, hcl⟩ : ∃ cl, cl = (if sBoth W T xs k false then sCell W k false else 0) := ⟨_, rfl⟩
       obtain ⟨wy, hwy⟩ : ∃ wy, wy = (if sBoth W T xs k false then sWay false else 0) := ⟨_, rfl⟩
       have HE : Hid (sdC W T xs (k, false) = [.int .i64 k, .int .i64 kt, .int .i64 rs, .bool bo, .int .i64 cl, .int .i64 wy]) := by show _ = _; rw [hkt, hrs, hbo, hcl, hwy]; rfl
       have HV : Hid (sdV W T xs k false = .agg #[.int .i64 k, .int .i64 kt, .int .i64 rs, .bool bo, .int .i64 cl, .int .i64 wy]) := by show _ = _; rw [hkt, hrs, hbo, hcl, hwy]; rfl
       clear hkt hrs hbo hcl hwy
       cases hu : sUsed W T xs k false
       · have HX : Hid (sidesJ W T xs k (0 + 1) = sidesJ W T xs k 0) := by show _ = _; rw [sidesJ_one, hu]; rfl
         have HU := Lib.hid hu; clear hu
         go_wp2_with fail
         refine (sideFrom_east _ _ _ _ _ xs k _ HN.out v1 v2 v3 v4 HWT.out HKN.out (HA.out.below BELJ.out)).mono ?_; rintro e w3 ⟨rfl, hb3⟩
         rw [HU.out, HV.out]
         have p3 := heap_later pj hb3
         have O3 := Lib.hid (HOJ.out.below hb3)
         have B3 := Lib.hid (below_seq BELJ.out hb3)
         go_wp2
         go_roundw
         case rel => exact ⟨0 + 1, by omega, by go_num, by rw [HX.out]; exact O3.out.below (below1 _ _), heap_later p3 (below1 _ _), below_seq B3.out (below1 _ _)⟩
         case measure => simp [intOf]
       · have HX : Hid (sidesJ W T xs k (0 + 1) = sidesJ W T xs k 0 ++ [(k, false)]) := by show _ = _; rw [sidesJ_one, hu]; rfl
         have HU := Lib.hid hu; clear hu
         have hlen := sidesJ_len W T xs k 0
         have zz := BELJ.out.size
         go_wp2_with fail
         refine (sideFrom_east _ _ _ _ _ xs k _ HN.out v1 v2 v3 v4 HWT.out HKN.out (HA.out.below BELJ.out)).mono ?_; rintro e w3 ⟨rfl, hb3⟩
         rw [HU.out, HV.out]
         have p3 := heap_later pj hb3
         have O3 := Lib.hid (HOJ.out.below hb3)
         have B3 := Lib.hid (below_seq BELJ.out hb3)
         have hz3 := hb3.size
         have lp3 := heap_lt p3
         clear hb3
         have NS := fun (w0 : World) => new_side (w0.alloc (.cells #[.int .i64 k, .int .i64 kt, .int .i64 rs, .bool bo, .int .i64 cl, .int .i64 wy] 77)) (.int .i64 k) (.int .i64 kt) (.int .i64 rs) (.bool bo) (.int .i64 cl) (.int .i64 wy)
         have NSH := Lib.hid NS; clear NS
         go_wp2_with (at_builtin; refine wpList_append_own _ rfl _ _ 82 rfl (w.heap.size + 1) 77 i0 (.agg #[.int .i64 0, .int .i64 0, .int .i64 0, .bool false, .int .i64 0, .int .i64 0]) 6 48 Tryz.underlying82 hi hz0 hz1 hz2 rfl (by decide) _ (sidesJ W T xs k 0).length ((sidesJ W T xs k 0).flatMap (sdC W T xs)) rfl (World.ownsRow.alloc (World.ownsRow.alloc O3.out _) _) ⟨w3.heap.size + 1, 0, none⟩ 1 1 [.int .i64 k, .int .i64 kt, .int .i64 rs, .bool bo, .int .i64 cl, .int .i64 wy] rfl rfl (by have h := NSH.out w3; rw [World.size_alloc] at h; exact h) (one_side _ _ _ _ _ _) (by unfold maxLen; omega) (by omega) (by first | (simp; done) | (simp; omega)) ?_; intro v' w8 hown' hgrow _; have p8 := heap_grown (heap_later (heap_later p3 (below1 _ _)) (below1 _ _)) hgrow (OwnsSd.ownBlock O3.out (by omega)); have O8 := Lib.hid (OwnsSd.more HE.out HX.out hown'); have B8 := Lib.hid (below_grown (below_seq (below_seq B3.out (below1 _ _)) (below1 _ _)) hgrow (Nat.le_refl _) (OwnsSd.ownAt O3.out (by omega))); clear hown' hgrow)
         go_roundw
         case rel => exact ⟨0 + 1, by omega, by go_num, O8.out, p8, B8.out⟩
         case measure => simp [intOf]
     · obtain rfl : j = 1 := by omega
       clear hj hj2 hj0
       obtain ⟨kt, hkt⟩ : ∃ kt, kt = sTo W k true := ⟨_, rfl⟩
       obtain ⟨rs, hrs⟩ : ∃ rs, rs = sRise W k true := ⟨_, rfl⟩
       obtain ⟨bo, hbo⟩ : ∃ bo, bo = sBoth W T xs k true := ⟨_, rfl⟩
       obtain ⟨cl, hcl⟩ : ∃ cl, cl = (if sBoth W T xs k true then sCell W k true else 0) := ⟨_, rfl⟩
       obtain ⟨wy, hwy⟩ : ∃ wy, wy = (if sBoth W T xs k true then sWay true else 0) := ⟨_, rfl⟩
       have HE : Hid (sdC W T xs (k, true) = [.int .i64 k, .int .i64 kt, .int .i64 rs, .bool bo, .int .i64 cl, .int .i64 wy]) := by show _ = _; rw [hkt, hrs, hbo, hcl, hwy]; rfl
       have HV : Hid (sdV W T xs k true = .agg #[.int .i64 k, .int .i64 kt, .int .i64 rs, .bool bo, .int .i64 cl, .int .i64 wy]) := by show _ = _; rw [hkt, hrs, hbo, hcl, hwy]; rfl
       clear hkt hrs hbo hcl hwy
       cases hu : sUsed W T xs k true
       · have HX : Hid (sidesJ W T xs k (1 + 1) = sidesJ W T xs k 1) := by show _ = _; rw [sidesJ_two, hu]; rfl
         have HU := Lib.hid hu; clear hu
         go_wp2_with fail
         refine (sideFrom_north _ _ _ _ _ xs k _ HN.out v1 v2 v3 v4 HWT.out HKN.out (HA.out.below BELJ.out)).mono ?_; rintro e w3 ⟨rfl, hb3⟩
         rw [HU.out, HV.out]
         have p3 := heap_later pj hb3
         have O3 := Lib.hid (HOJ.out.below hb3)
         have B3 := Lib.hid (below_seq BELJ.out hb3)
         go_wp2
         go_roundw
         case rel => exact ⟨1 + 1, by omega, by go_num, by rw [HX.out]; exact O3.out.below (below1 _ _), heap_later p3 (below1 _ _), below_seq B3.out (below1 _ _)⟩
         case measure => simp [intOf]
       · have HX : Hid (sidesJ W T xs k (1 + 1) = sidesJ W T xs k 1 ++ [(k, true)]) := by show _ = _; rw [sidesJ_two, hu]; rfl
         have HU := Lib.hid hu; clear hu
         have hlen := sidesJ_len W T xs k 1
         have zz := BELJ.out.size
         go_wp2_with fail
         refine (sideFrom_north _ _ _ _ _ xs k _ HN.out v1 v2 v3 v4 HWT.out HKN.out (HA.out.below BELJ.out)).mono ?_; rintro e w3 ⟨rfl, hb3⟩
         rw [HU.out, HV.out]
         have p3 := heap_later pj hb3
         have O3 := Lib.hid (HOJ.out.below hb3)
         have B3 := Lib.hid (below_seq BELJ.out hb3)
         have hz3 := hb3.size
         have lp3 := heap_lt p3
         clear hb3
         have NS := fun (w0 : World) => new_side (w0.alloc (.cells #[.int .i64 k, .int .i64 kt, .int .i64 rs, .bool bo, .int .i64 cl, .int .i64 wy] 77)) (.int .i64 k) (.int .i64 kt) (.int .i64 rs) (.bool bo) (.int .i64 cl) (.int .i64 wy)
         have NSH := Lib.hid NS; clear NS
         go_wp2_with (at_builtin; refine wpList_append_own _ rfl _ _ 82 rfl (w.heap.size + 1) 77 i0 (.agg #[.int .i64 0, .int .i64 0, .int .i64 0, .bool false, .int .i64 0, .int .i64 0]) 6 48 Tryz.underlying82 hi hz0 hz1 hz2 rfl (by decide) _ (sidesJ W T xs k 1).length ((sidesJ W T xs k 1).flatMap (sdC W T xs)) rfl (World.ownsRow.alloc (World.ownsRow.alloc O3.out _) _) ⟨w3.heap.size + 1, 0, none⟩ 1 1 [.int .i64 k, .int .i64 kt, .int .i64 rs, .bool bo, .int .i64 cl, .int .i64 wy] rfl rfl (by have h := NSH.out w3; rw [World.size_alloc] at h; exact h) (one_side _ _ _ _ _ _) (by unfold maxLen; omega) (by omega) (by first | (simp; done) | (simp; omega)) ?_; intro v' w8 hown' hgrow _; have p8 := heap_grown (heap_later (heap_later p3 (below1 _ _)) (below1 _ _)) hgrow (OwnsSd.ownBlock O3.out (by omega)); have O8 := Lib.hid (OwnsSd.more HE.out HX.out hown'); have B8 := Lib.hid (below_grown (below_seq (below_seq B3.out (below1 _ _)) (below1 _ _)) hgrow (Nat.le_refl _) (OwnsSd.ownAt O3.out (by omega))); clear hown' hgrow)
         go_roundw
         case rel => exact ⟨1 + 1, by omega, by go_num, O8.out, p8, B8.out⟩
         case measure => simp [intOf]
  · obtain rfl : k = N := by omega
    obtain ⟨a9, cap9, hv⟩ := OwnsSd.form HO.out
    subst hv
    go_wp2
    go_ret
    exact ⟨_, rfl, ownsRow_low HO.out (by omega), BEL.out⟩
end Go.Proofs.YtpcajacekmidbaaGreat

namespace Go.Proofs.YtpcajacekmidbaaGreat
open Go.RowKit
set_option linter.unusedVariables false
set_option maxRecDepth 100000
set_option linter.unusedSimpArgs false

theorem hasCell_is (W T x y : Int) (a : Option Addr) (n cap : Nat) (xs : List Bool) (w : World) {v : Bool} (hn : n = xs.length) (hW0 : 0 ≤ W) (hW1 : W ≤ 100) (hT0 : 0 ≤ T) (hT1 : T ≤ 100) (hWT : (n : Int) = W * T) (ha : BoolsAt w a xs) (h : atB W T xs x y = v) :
 Calls Tryz.prog 110 #[.agg #[.int .i64 W, .int .i64 T, .slice a n cap], .int .i64 x, .int .i64 y] w fun e w' => e = .returned (.bool v) ∧ Below w.heap.size w w' := by
 subst h; exact hasCell_any W T x y a n cap xs w hn hW0 hW1 hT0 hT1 hWT ha

set_option maxHeartbeats 4000000 in
theorem heightMay_any (W T : Int) (a : Option Addr) (n cap : Nat) (xs : List Bool) (k : Nat) (v : Int) (w : World) (hn : n = xs.length) (hW0 : 1 ≤ W) (hW1 : W ≤ 6) (hT0 : 1 ≤ T) (hT1 : T ≤ 6) (hWT : (n : Int) = W * T) (hk : (k : Int) < (W + 1) * (T + 1)) (ha : BoolsAt w a xs) :
 Calls Tryz.prog 111 #[.agg #[.int .i64 W, .int .i64 T, .slice a n cap], .int .i64 k, .int .i64 v] w fun e w' => e = .returned (.bool (hMay W T xs k v)) ∧ Below w.heap.size w w' := by
 obtain ⟨kx0, kx1, ky0, ke⟩ := kxy hW0 k
 have ky1 := ky_le hW0 hk
 have hcb := corn_bd hW0 hW1 hT0 hT1
 have hk49 : (k : Int) ≤ 49 := by omega
 have HN := Lib.hid hn; clear hn
 have HA := Lib.hid ha; clear ha
 have HWT := Lib.hid hWT; clear hWT
 have hM : hMay W T xs k v = if (atB W T xs (kx W k) (ky W k) || atB W T xs (kx W k - 1) (ky W k) || atB W T xs (kx W k) (ky W k - 1) || atB W T xs (kx W k - 1) (ky W k - 1)) then inB v (-60) 60 else v == 99 := rfl
 have r1 : (k : Int) % (W + 1) = kx W k := rfl
 have r2 : (k : Int) / (W + 1) = ky W k := rfl
 have r1' : (k : Int).tmod (W + 1) = kx W k := Int.tmod_eq_emod_of_nonneg (by omega)
 have r2' : (k : Int).tdiv (W + 1) = ky W k := Int.tdiv_eq_ediv_of_nonneg (by omega)
 obtain ⟨x, hx⟩ : ∃ x, kx W k = x := ⟨_, rfl⟩
 obtain ⟨y, hy⟩ : ∃ y, ky W k = y := ⟨_, rfl⟩
 rw [hx] at r1 r1' kx0 kx1; rw [hy] at r2 r2' ky0 ky1
 rw [hx, hy] at hM
 have r3 : IntKind.i64.wrap (W + 1) = W + 1 := by rw [IntKind.wrap_i64]; omega
 have r4 : W + 1 ≠ 0 := by omega
 have r5 : ((W + 1 : Int) == 0) = false := by simpa using r4
 have r6 : IntKind.i64.wrap x = x := by rw [IntKind.wrap_i64]; omega
 have r7 : IntKind.i64.wrap y = y := by rw [IntKind.wrap_i64]; omega
 clear hx hy ke hk
 obtain ⟨wA, hwA⟩ : ∃ wA, wA = w.alloc (.cells #[.int .i64 W, .int .i64 T, .slice a n cap] 25) := ⟨_, rfl⟩
 have pA : wA.heap[w.heap.size]? = some (.cells #[.int .i64 W, .int .i64 T, .slice a n cap] 25 (0, 0)) := by rw [hwA]; exact heap_new _ _
 have bA : Below w.heap.size w wA := by rw [hwA]; exact below1 _ _
 obtain ⟨d0, d1, d2⟩ := cells3 pA
 have hq : ∀ q : Nat, (wA.drewN q).heap[w.heap.size]? = some (.cells #[.int .i64 W, .int .i64 T, .slice a n cap] 25 (0, 0)) := fun q => pA
 have HQ := Lib.hid hq; clear hq
 cases h1 : atB W T xs (x) (y)
 ·
  cases h2 : atB W T xs (x - 1) (y)
  ·
   cases h3 : atB W T xs (x) (y - 1)
   ·
    cases h4 : atB W T xs (x - 1) (y - 1)
    ·
     have HM : Hid (hMay W T xs k v = (v == 99)) := by show _ = _; rw [hM, h1, h2, h3, h4]; rfl
     rw [HM.out]
     have H1 := Lib.hid h1
     have H2 := Lib.hid h2
     have H3 := Lib.hid h3
     have H4 := Lib.hid h4
     clear hM h1 h2 h3 h4
     go_enter Tryz.func111, Tryz.ntmps111
     go_wp2_with fail
     rw [← hwA]; clear hwA
     go_quiet (fail)
     clear r1 r2 r1' r2' r3 r4 r5 r6 r7
     have p0 := HQ.out nq; have b0 := below_seq bA (drewN_below wA nq)
     obtain ⟨c00, c01, c02⟩ := cells3 p0
     go_wp2_with fail
     refine (hasCell_is _ _ _ _ _ _ _ xs _ HN.out (by omega) (by omega) (by omega) (by omega) HWT.out (HA.out.below b0) H1.out).mono ?_; rintro e w1 ⟨rfl, hb1⟩
     have p1 := heap_later p0 hb1; have b1 := below_seq b0 hb1
     obtain ⟨c10, c11, c12⟩ := cells3 p1
     go_wp2_with fail
     refine (hasCell_is _ _ _ _ _ _ _ xs _ HN.out (by omega) (by omega) (by omega) (by omega) HWT.out (HA.out.below b1) H2.out).mono ?_; rintro e w2 ⟨rfl, hb2⟩
     have p2 := heap_later p1 hb2; have b2 := below_seq b1 hb2
     obtain ⟨c20, c21, c22⟩ := cells3 p2
     go_wp2_with fail
     refine (hasCell_is _ _ _ _ _ _ _ xs _ HN.out (by omega) (by omega) (by omega) (by omega) HWT.out (HA.out.below b2) H3.out).mono ?_; rintro e w3 ⟨rfl, hb3⟩
     have p3 := heap_later p2 hb3; have b3 := below_seq b2 hb3
     obtain ⟨c30, c31, c32⟩ := cells3 p3
     go_wp2_with fail
     refine (hasCell_is _ _ _ _ _ _ _ xs _ HN.out (by omega) (by omega) (by omega) (by omega) HWT.out (HA.out.below b3) H4.out).mono ?_; rintro e w4 ⟨rfl, hb4⟩
     have p4 := heap_later p3 hb4; have b4 := below_seq b3 hb4
     go_wp2
     go_ret
     exact ⟨rfl, b4⟩
    · have HM : Hid (hMay W T xs k v = inB v (-60) 60) := by show _ = _; rw [hM, h1, h2, h3, h4]; simp
      rw [HM.out]
      have H1 := Lib.hid h1
      have H2 := Lib.hid h2
      have H3 := Lib.hid h3
      have H4 := Lib.hid h4
      clear hM h1 h2 h3 h4
      by_cases g1 : -60 ≤ v
      · by_cases g2 : v ≤ 60
        all_goals
         go_enter Tryz.func111, Tryz.ntmps111
         go_wp2_with fail
         rw [← hwA]; clear hwA
         go_quiet (fail)
         clear r1 r2 r1' r2' r3 r4 r5 r6 r7
         have p0 := HQ.out nq; have b0 := below_seq bA (drewN_below wA nq)
         obtain ⟨c00, c01, c02⟩ := cells3 p0
         go_wp2_with fail
         refine (hasCell_is _ _ _ _ _ _ _ xs _ HN.out (by omega) (by omega) (by omega) (by omega) HWT.out (HA.out.below b0) H1.out).mono ?_; rintro e w1 ⟨rfl, hb1⟩
         have p1 := heap_later p0 hb1; have b1 := below_seq b0 hb1
         obtain ⟨c10, c11, c12⟩ := cells3 p1
         go_wp2_with fail
         refine (hasCell_is _ _ _ _ _ _ _ xs _ HN.out (by omega) (by omega) (by omega) (by omega) HWT.out (HA.out.below b1) H2.out).mono ?_; rintro e w2 ⟨rfl, hb2⟩
         have p2 := heap_later p1 hb2; have b2 := below_seq b1 hb2
         obtain ⟨c20, c21, c22⟩ := cells3 p2
         go_wp2_with fail
         refine (hasCell_is _ _ _ _ _ _ _ xs _ HN.out (by omega) (by omega) (by omega) (by omega) HWT.out (HA.out.below b2) H3.out).mono ?_; rintro e w3 ⟨rfl, hb3⟩
         have p3 := heap_later p2 hb3; have b3 := below_seq b2 hb3
         obtain ⟨c30, c31, c32⟩ := cells3 p3
         go_wp2_with fail
         refine (hasCell_is _ _ _ _ _ _ _ xs _ HN.out (by omega) (by omega) (by omega) (by omega) HWT.out (HA.out.below b3) H4.out).mono ?_; rintro e w4 ⟨rfl, hb4⟩
         have p4 := heap_later p3 hb4; have b4 := below_seq b3 hb4
         go_wp2
         go_ret
         exact ⟨ret_bool (by simp [inB]; omega), b4⟩
      · go_enter Tryz.func111, Tryz.ntmps111
        go_wp2_with fail
        rw [← hwA]; clear hwA
        go_quiet (fail)
        clear r1 r2 r1' r2' r3 r4 r5 r6 r7
        have p0 := HQ.out nq; have b0 := below_seq bA (drewN_below wA nq)
        obtain ⟨c00, c01, c02⟩ := cells3 p0
        go_wp2_with fail
        refine (hasCell_is _ _ _ _ _ _ _ xs _ HN.out (by omega) (by omega) (by omega) (by omega) HWT.out (HA.out.below b0) H1.out).mono ?_; rintro e w1 ⟨rfl, hb1⟩
        have p1 := heap_later p0 hb1; have b1 := below_seq b0 hb1
        obtain ⟨c10, c11, c12⟩ := cells3 p1
        go_wp2_with fail
        refine (hasCell_is _ _ _ _ _ _ _ xs _ HN.out (by omega) (by omega) (by omega) (by omega) HWT.out (HA.out.below b1) H2.out).mono ?_; rintro e w2 ⟨rfl, hb2⟩
        have p2 := heap_later p1 hb2; have b2 := below_seq b1 hb2
        obtain ⟨c20, c21, c22⟩ := cells3 p2
        go_wp2_with fail
        refine (hasCell_is _ _ _ _ _ _ _ xs _ HN.out (by omega) (by omega) (by omega) (by omega) HWT.out (HA.out.below b2) H3.out).mono ?_; rintro e w3 ⟨rfl, hb3⟩
        have p3 := heap_later p2 hb3; have b3 := below_seq b2 hb3
        obtain ⟨c30, c31, c32⟩ := cells3 p3
        go_wp2_with fail
        refine (hasCell_is _ _ _ _ _ _ _ xs _ HN.out (by omega) (by omega) (by omega) (by omega) HWT.out (HA.out.below b3) H4.out).mono ?_; rintro e w4 ⟨rfl, hb4⟩
        have p4 := heap_later p3 hb4; have b4 := below_seq b3 hb4
        go_wp2
        go_ret
        exact ⟨ret_bool (by simp [inB]; omega), b4⟩
   · have HM : Hid (hMay W T xs k v = inB v (-60) 60) := by show _ = _; rw [hM, h1, h2, h3]; simp
     rw [HM.out]
     have H1 := Lib.hid h1
     have H2 := Lib.hid h2
     have H3 := Lib.hid h3
     clear hM h1 h2 h3
     by_cases g1 : -60 ≤ v
     · by_cases g2 : v ≤ 60
       all_goals
        go_enter Tryz.func111, Tryz.ntmps111
        go_wp2_with fail
        rw [← hwA]; clear hwA
        go_quiet (fail)
        clear r1 r2 r1' r2' r3 r4 r5 r6 r7
        have p0 := HQ.out nq; have b0 := below_seq bA (drewN_below wA nq)
        obtain ⟨c00, c01, c02⟩ := cells3 p0
        go_wp2_with fail
        refine (hasCell_is _ _ _ _ _ _ _ xs _ HN.out (by omega) (by omega) (by omega) (by omega) HWT.out (HA.out.below b0) H1.out).mono ?_; rintro e w1 ⟨rfl, hb1⟩
        have p1 := heap_later p0 hb1; have b1 := below_seq b0 hb1
        obtain ⟨c10, c11, c12⟩ := cells3 p1
        go_wp2_with fail
        refine (hasCell_is _ _ _ _ _ _ _ xs _ HN.out (by omega) (by omega) (by omega) (by omega) HWT.out (HA.out.below b1) H2.out).mono ?_; rintro e w2 ⟨rfl, hb2⟩
        have p2 := heap_later p1 hb2; have b2 := below_seq b1 hb2
        obtain ⟨c20, c21, c22⟩ := cells3 p2
        go_wp2_with fail
        refine (hasCell_is _ _ _ _ _ _ _ xs _ HN.out (by omega) (by omega) (by omega) (by omega) HWT.out (HA.out.below b2) H3.out).mono ?_; rintro e w3 ⟨rfl, hb3⟩
        have p3 := heap_later p2 hb3; have b3 := below_seq b2 hb3
        go_wp2
        go_ret
        exact ⟨ret_bool (by simp [inB]; omega), b3⟩
     · go_enter Tryz.func111, Tryz.ntmps111
       go_wp2_with fail
       rw [← hwA]; clear hwA
       go_quiet (fail)
       clear r1 r2 r1' r2' r3 r4 r5 r6 r7
       have p0 := HQ.out nq; have b0 := below_seq bA (drewN_below wA nq)
       obtain ⟨c00, c01, c02⟩ := cells3 p0
       go_wp2_with fail
       refine (hasCell_is _ _ _ _ _ _ _ xs _ HN.out (by omega) (by omega) (by omega) (by omega) HWT.out (HA.out.below b0) H1.out).mono ?_; rintro e w1 ⟨rfl, hb1⟩
       have p1 := heap_later p0 hb1; have b1 := below_seq b0 hb1
       obtain ⟨c10, c11, c12⟩ := cells3 p1
       go_wp2_with fail
       refine (hasCell_is _ _ _ _ _ _ _ xs _ HN.out (by omega) (by omega) (by omega) (by omega) HWT.out (HA.out.below b1) H2.out).mono ?_; rintro e w2 ⟨rfl, hb2⟩
       have p2 := heap_later p1 hb2; have b2 := below_seq b1 hb2
       obtain ⟨c20, c21, c22⟩ := cells3 p2
       go_wp2_with fail
       refine (hasCell_is _ _ _ _ _ _ _ xs _ HN.out (by omega) (by omega) (by omega) (by omega) HWT.out (HA.out.below b2) H3.out).mono ?_; rintro e w3 ⟨rfl, hb3⟩
       have p3 := heap_later p2 hb3; have b3 := below_seq b2 hb3
       go_wp2
       go_ret
       exact ⟨ret_bool (by simp [inB]; omega), b3⟩
  · have HM : Hid (hMay W T xs k v = inB v (-60) 60) := by show _ = _; rw [hM, h1, h2]; simp
    rw [HM.out]
    have H1 := Lib.hid h1
    have H2 := Lib.hid h2
    clear hM h1 h2
    by_cases g1 : -60 ≤ v
    · by_cases g2 : v ≤ 60
      all_goals
       go_enter Tryz.func111, Tryz.ntmps111
       go_wp2_with fail
       rw [← hwA]; clear hwA
       go_quiet (fail)
       clear r1 r2 r1' r2' r3 r4 r5 r6 r7
       have p0 := HQ.out nq; have b0 := below_seq bA (drewN_below wA nq)
       obtain ⟨c00, c01, c02⟩ := cells3 p0
       go_wp2_with fail
       refine (hasCell_is _ _ _ _ _ _ _ xs _ HN.out (by omega) (by omega) (by omega) (by omega) HWT.out (HA.out.below b0) H1.out).mono ?_; rintro e w1 ⟨rfl, hb1⟩
       have p1 := heap_later p0 hb1; have b1 := below_seq b0 hb1
       obtain ⟨c10, c11, c12⟩ := cells3 p1
       go_wp2_with fail
       refine (hasCell_is _ _ _ _ _ _ _ xs _ HN.out (by omega) (by omega) (by omega) (by omega) HWT.out (HA.out.below b1) H2.out).mono ?_; rintro e w2 ⟨rfl, hb2⟩
       have p2 := heap_later p1 hb2; have b2 := below_seq b1 hb2
       go_wp2
       go_ret
       exact ⟨ret_bool (by simp [inB]; omega), b2⟩
    · go_enter Tryz.func111, Tryz.ntmps111
      go_wp2_with fail
      rw [← hwA]; clear hwA
      go_quiet (fail)
      clear r1 r2 r1' r2' r3 r4 r5 r6 r7
      have p0 := HQ.out nq; have b0 := below_seq bA (drewN_below wA nq)
      obtain ⟨c00, c01, c02⟩ := cells3 p0
      go_wp2_with fail
      refine (hasCell_is _ _ _ _ _ _ _ xs _ HN.out (by omega) (by omega) (by omega) (by omega) HWT.out (HA.out.below b0) H1.out).mono ?_; rintro e w1 ⟨rfl, hb1⟩
      have p1 := heap_later p0 hb1; have b1 := below_seq b0 hb1
      obtain ⟨c10, c11, c12⟩ := cells3 p1
      go_wp2_with fail
      refine (hasCell_is _ _ _ _ _ _ _ xs _ HN.out (by omega) (by omega) (by omega) (by omega) HWT.out (HA.out.below b1) H2.out).mono ?_; rintro e w2 ⟨rfl, hb2⟩
      have p2 := heap_later p1 hb2; have b2 := below_seq b1 hb2
      go_wp2
      go_ret
      exact ⟨ret_bool (by simp [inB]; omega), b2⟩
 · have HM : Hid (hMay W T xs k v = inB v (-60) 60) := by show _ = _; rw [hM, h1]; simp
   rw [HM.out]
   have H1 := Lib.hid h1
   clear hM h1
   by_cases g1 : -60 ≤ v
   · by_cases g2 : v ≤ 60
     all_goals
      go_enter Tryz.func111, Tryz.ntmps111
      go_wp2_with fail
      rw [← hwA]; clear hwA
      go_quiet (fail)
      clear r1 r2 r1' r2' r3 r4 r5 r6 r7
      have p0 := HQ.out nq; have b0 := below_seq bA (drewN_below wA nq)
      obtain ⟨c00, c01, c02⟩ := cells3 p0
      go_wp2_with fail
      refine (hasCell_is _ _ _ _ _ _ _ xs _ HN.out (by omega) (by omega) (by omega) (by omega) HWT.out (HA.out.below b0) H1.out).mono ?_; rintro e w1 ⟨rfl, hb1⟩
      have p1 := heap_later p0 hb1; have b1 := below_seq b0 hb1
      go_wp2
      go_ret
      exact ⟨ret_bool (by simp [inB]; omega), b1⟩
   · go_enter Tryz.func111, Tryz.ntmps111
     go_wp2_with fail
     rw [← hwA]; clear hwA
     go_quiet (fail)
     clear r1 r2 r1' r2' r3 r4 r5 r6 r7
     have p0 := HQ.out nq; have b0 := below_seq bA (drewN_below wA nq)
     obtain ⟨c00, c01, c02⟩ := cells3 p0
     go_wp2_with fail
     refine (hasCell_is _ _ _ _ _ _ _ xs _ HN.out (by omega) (by omega) (by omega) (by omega) HWT.out (HA.out.below b0) H1.out).mono ?_; rintro e w1 ⟨rfl, hb1⟩
     have p1 := heap_later p0 hb1; have b1 := below_seq b0 hb1
     go_wp2
     go_ret
     exact ⟨ret_bool (by simp [inB]; omega), b1⟩

theorem jumpOf_any (k kt r cl wy : Int) (b : Bool) (w : World) (hr : r = 1 ∨ r = -1) :
 Calls Tryz.prog 88 #[.agg #[.int .i64 k, .int .i64 kt, .int .i64 r, .bool b, .int .i64 cl, .int .i64 wy]] w fun e w' => e = .returned (.int .i64 (-3 * r)) ∧ Below w.heap.size w w' := by
 rcases hr with rfl | rfl
 all_goals
  go_enter Tryz.func88, Tryz.ntmps88
  go_wp2
  go_ret
  exact ⟨rfl, below1 _ _⟩
set_option maxHeartbeats 1000000 in
theorem riseMay_any (k kt r cl wy d : Int) (b : Bool) (w : World) (hr : r = 1 ∨ r = -1) :
 Calls Tryz.prog 112 #[.agg #[.int .i64 k, .int .i64 kt, .int .i64 r, .bool b, .int .i64 cl, .int .i64 wy], .int .i64 d] w fun e w' => e = .returned (.bool (d == r || (b && d == -3 * r))) ∧ Below w.heap.size w w' := by
 have p1 := heap_new w (.cells #[.int .i64 k, .int .i64 kt, .int .i64 r, .bool b, .int .i64 cl, .int .i64 wy] 77)
 have HR := Lib.hid hr; clear hr
 by_cases h1 : d = r
 · subst h1
   go_enter Tryz.func112, Tryz.ntmps112
   go_wp2
   go_ret
   exact ⟨ret_bool (by simp), below1 _ _⟩
 · have e1 : (d == r) = false := by simpa using h1
   have E1 := Lib.hid e1
   clear h1
   cases b
   · go_enter Tryz.func112, Tryz.ntmps112
     go_wp2
     go_ret
     exact ⟨ret_bool (by rw [E1.out]; rfl), below1 _ _⟩
   · go_enter Tryz.func112, Tryz.ntmps112
     go_wp2_with fail
     refine (jumpOf_any _ _ _ _ _ _ _ HR.out).mono ?_; rintro e w2 ⟨rfl, hb2⟩
     go_wp2
     go_ret
     exact ⟨ret_bool (by rw [E1.out]; rfl), below_seq (below1 _ _) hb2⟩
end Go.Proofs.YtpcajacekmidbaaGreat
