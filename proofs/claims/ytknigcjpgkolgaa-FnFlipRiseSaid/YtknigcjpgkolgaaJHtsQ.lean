/- Plain facts: what the spreading of heights keeps from side to side. Merged of: HtsP, HtsQ. -/
import Derived.Test.YtknigcjpgkolgaaJHtsN
import Derived.Test.YtknigcjpgkolgaaJSidesE
import Derived.Test.YtknigcjpgkolgaaJSidesN
namespace Go.Proofs.Ytknigcjpgkolgaa
open Go.RowKit
set_option linter.unusedVariables false
set_option maxRecDepth 100000
set_option linter.unusedSimpArgs false

theorem infoSide : (Try.prog.info? 57).map (fun i => (i.zero, i.size, i.bytes)) = some (some (.agg #[.int .i64 0, .int .i64 0, .int .i64 0, .bool false, .int .i64 0, .int .i64 0]), 6, 48) := by kernel_rfl
theorem new_side (w : World) (v0 v1 v2 v3 v4 v5 : Value) : ∀ j u, [v0, v1, v2, v3, v4, v5][j]? = some u → (w.alloc (.cells #[v0, v1, v2, v3, v4, v5] 57)).cell? ((⟨w.heap.size, 0, none⟩ : Addr).add j) = some u := by
  intro j u h
  obtain ⟨c0, c1, c2, c3, c4, c5⟩ := cells6 (heap_new w (.cells #[v0, v1, v2, v3, v4, v5] 57))
  have hj : j < 6 := by
    have := List.getElem?_eq_some_iff.1 h
    obtain ⟨h1, _⟩ := this
    simpa using h1
  have : j = 0 ∨ j = 1 ∨ j = 2 ∨ j = 3 ∨ j = 4 ∨ j = 5 := by omega
  rcases this with rfl | rfl | rfl | rfl | rfl | rfl <;> simp at h <;> subst h <;> simp [Addr.add] <;> assumption
theorem one_side (k kt r c wy : Int) (b : Bool) : ∀ u ∈ [Value.int .i64 k, .int .i64 kt, .int .i64 r, .bool b, .int .i64 c, .int .i64 wy], u.oneCell' = true := by
  intro u hu; simp at hu; rcases hu with rfl | rfl | rfl | rfl | rfl | rfl <;> rfl

/-- The sides gathered in the round of a corner. -/
def sidesJ (W T : Int) (xs : List Bool) (k j : Nat) : List (Nat × Bool) := sidesK W T xs k ++ ((if 1 ≤ j ∧ sUsed W T xs k false = true then [(k, false)] else []) ++ (if 2 ≤ j ∧ sUsed W T xs k true = true then [(k, true)] else []))
theorem sidesJ_zero (W T : Int) (xs : List Bool) (k : Nat) : sidesJ W T xs k 0 = sidesK W T xs k := by simp [sidesJ]
theorem sidesJ_one (W T : Int) (xs : List Bool) (k : Nat) : sidesJ W T xs k 1 = if sUsed W T xs k false then sidesJ W T xs k 0 ++ [(k, false)] else sidesJ W T xs k 0 := by
  unfold sidesJ; cases h : sUsed W T xs k false <;> simp
theorem sidesJ_two (W T : Int) (xs : List Bool) (k : Nat) : sidesJ W T xs k 2 = if sUsed W T xs k true then sidesJ W T xs k 1 ++ [(k, true)] else sidesJ W T xs k 1 := by
  unfold sidesJ; cases h : sUsed W T xs k true <;> simp
theorem sidesJ_end (W T : Int) (xs : List Bool) (k : Nat) : sidesJ W T xs k 2 = sidesK W T xs (k + 1) := by
  unfold sidesJ; rw [sidesK_succ]; cases h : sUsed W T xs k true <;> cases h2 : sUsed W T xs k false <;> simp
theorem sidesJ_len (W T : Int) (xs : List Bool) (k j : Nat) : (sidesJ W T xs k j).length ≤ 2 * k + 2 := by
  unfold sidesJ
  rw [List.length_append, List.length_append]
  have := sidesK_len W T xs k
  have a : (if 1 ≤ j ∧ sUsed W T xs k false = true then [(k, false)] else [] : List (Nat × Bool)).length ≤ 1 := by split <;> simp
  have b : (if 2 ≤ j ∧ sUsed W T xs k true = true then [(k, true)] else [] : List (Nat × Bool)).length ≤ 1 := by split <;> simp
  omega
theorem OwnsSd.snoc {w : World} {B : Nat} {v : Value} {W T : Int} {xs : List Bool} {l : List (Nat × Bool)} {s : Nat × Bool} (h : w.ownsRow B 57 6 v (l.length + 1) (l.flatMap (sdC W T xs) ++ sdC W T xs s)) : OwnsSd w B v W T xs (l ++ [s]) := by
  unfold OwnsSd
  rw [List.length_append, List.length_singleton, List.flatMap_append]
  simpa using h
theorem OwnsSd.more {w : World} {B : Nat} {v : Value} {W T : Int} {xs : List Bool} {l l' : List (Nat × Bool)} {s : Nat × Bool} {cs : List Value} (he : sdC W T xs s = cs) (hx : l' = l ++ [s]) (h : w.ownsRow B 57 6 v (l.length + 1) (l.flatMap (sdC W T xs) ++ cs)) : OwnsSd w B v W T xs l' := by
  subst hx; subst he; exact OwnsSd.snoc h
theorem OwnsSd.form {w : World} {B : Nat} {v : Value} {W T : Int} {xs : List Bool} {l : List (Nat × Bool)} (h : OwnsSd w B v W T xs l) : ∃ (a : Option Addr) (cap : Nat), v = .slice a l.length cap := by
  rcases h.2 with ⟨e, h2⟩ | ⟨g, cap, cur, e, _⟩
  · exact ⟨none, 0, by rw [e, h2]⟩
  · exact ⟨some ⟨g, 0, none⟩, cap, e⟩
theorem OwnsSd.ownAt {w : World} {B : Nat} {v : Value} {W T : Int} {xs : List Bool} {l : List (Nat × Bool)} (h : OwnsSd w B v W T xs l) {B' : Nat} (hB : B' ≤ B) : ∀ k, v.ownBlock = some k → B' ≤ k := fun k e => Nat.le_trans hB (World.ownsRow.lt h k e).1

theorem ownsRow_low {w : World} {B B' n size : Nat} {e : TypeId} {v : Value} {xs : List Value} (h : w.ownsRow B e size v n xs) (hB : B' ≤ B) : w.ownsRow B' e size v n xs := by
  refine ⟨h.1, ?_⟩
  rcases h.2 with hn | ⟨g, cap, cur, hv, hb, r⟩
  · exact .inl hn
  · exact .inr ⟨g, cap, cur, hv, Nat.le_trans hB hb, r⟩

set_option maxHeartbeats 4000000 in
theorem sidesOf_any (W T : Int) (a : Option Addr) (n cap : Nat) (xs : List Bool) (N : Nat) (w : World) (hn : n = xs.length) (hn' : n ≤ 1048576) (hr : rv W T xs = true) (hN : (W + 1) * (T + 1) = (N : Int)) (ha : BoolsAt w a xs) :
    Calls Try.prog 75 #[.agg #[.int .i64 W, .int .i64 T, .slice a n cap]] w fun e w' => ∃ v, e = .returned v ∧ OwnsSd w' w.heap.size v W T xs (sidesK W T xs N) ∧ Below w.heap.size w w' := by
  obtain ⟨v1, v2, v3, v4, v5, _⟩ := rv_true hr
  have hcb := corn_bd v1 v2 v3 v4
  have HC : Hid (cornN W T xs = (N : Int)) := by show _ = _; unfold cornN; rw [hr, if_pos rfl, hN]
  rw [hN] at hcb
  have HNN := Lib.hid hN; clear hN
  have HWT : Hid ((n : Int) = W * T) := by show _ = _; rw [hn]; exact v5
  have HN := Lib.hid hn; clear hn
  have HA := Lib.hid ha; clear ha
  have hN49 : N ≤ 49 := by omega
  clear hr v5 hcb
  obtain ⟨i0, hi, hz0, hz1, hz2⟩ := info_parts infoSide
  have ix0 : ∀ w : World, (Instr.index 93 (.agg #[.int .i64 1, .int .i64 2]) (.int .i64 0)).run Try.prog w = .ok (.int .i64 1) w := fun _ => by kernel_rfl
  have ix1 : ∀ w : World, (Instr.index 93 (.agg #[.int .i64 1, .int .i64 2]) (.int .i64 1)).run Try.prog w = .ok (.int .i64 2) w := fun _ => by kernel_rfl
  go_enter Try.func75, Try.ntmps75
  go_wp2_with fail
  refine (iCornerMany_any _ _ _ _ _ xs _ HN.out hn' (HA.out.one _)).mono ?_; rintro e w1 ⟨rfl, hb1⟩
  rw [HC.out]
  have p1 := heap_later (heap_new w (.cells #[.int .i64 W, .int .i64 T, .slice a n cap] 25)) hb1
  have b1 := below_seq (below1 w (.cells #[.int .i64 W, .int .i64 T, .slice a n cap] 25)) hb1
  clear hb1
  go_wp2
  go_loopw [3, 4, 5, 6, 8, 9, 10, 13, 27] (fun v _ _ _ _ _ _ i _ wr => ∃ k : Nat, k ≤ N ∧ i = .int .i64 k ∧ OwnsSd wr (w.heap.size + 1) v W T xs (sidesK W T xs k) ∧ wr.heap[w.heap.size]? = some (.cells #[.int .i64 W, .int .i64 T, .slice a n cap] 25 (0, 0)) ∧ Below w.heap.size w wr) (fun _ _ _ _ _ _ _ i _ _ => N - (intOf i).toNat)
  case atStart => exact ⟨0, Nat.zero_le _, rfl, World.ownsRow_nil _ _ _ _, p1, b1⟩
  case round =>
    rename World => wo
    obtain ⟨k, hk, rfl, ho, pr, hbel⟩ := hrel
    have HO := Lib.hid ho; clear ho
    have BEL := Lib.hid hbel; clear hbel
    by_cases hlt : k < N
    · obtain ⟨kx0, kx1, ky0, ke⟩ := kxy v1 k
      have hkN : (k : Int) < (W + 1) * (T + 1) := by rw [HNN.out]; omega
      have ky1 := ky_le v1 hkN
      have HKN := Lib.hid hkN; clear hkN ke
      have e1 : (k : Int) < N := by omega
      obtain ⟨c0, c1, c2⟩ := cells3 pr
      have r1 : (k : Int) % (W + 1) = kx W k := rfl
      have r2 : (k : Int) / (W + 1) = ky W k := rfl
      have r1' : (k : Int).tmod (W + 1) = kx W k := Int.tmod_eq_emod_of_nonneg (by omega)
      have r2' : (k : Int).tdiv (W + 1) = ky W k := Int.tdiv_eq_ediv_of_nonneg (by omega)
      have r3 : IntKind.i64.wrap (W + 1) = W + 1 := by rw [IntKind.wrap_i64]; omega
      have r4 : W + 1 ≠ 0 := by omega
      have r5 : ((W + 1 : Int) == 0) = false := by simpa using r4
      have r6 : IntKind.i64.wrap (kx W k) = kx W k := by rw [IntKind.wrap_i64]; omega
      have r7 : IntKind.i64.wrap (ky W k) = ky W k := by rw [IntKind.wrap_i64]; omega
      go_wp2
      go_quiet (fail)
      clear r1 r2 r1' r2' r3 r4 r5 r6 r7
      have PQ : (wo.drewN nq).heap[w.heap.size]? = some _ := pr
      obtain ⟨q0, q1, q2⟩ := cells3 PQ
      obtain ⟨wi, hwi⟩ : ∃ wi, wi = wo.drewN nq := ⟨_, rfl⟩
      go_wp2
      go_loopw [3, 8, 9, 10, 27] (fun v _ _ _ jv wr => ∃ j : Nat, j ≤ 2 ∧ jv = .int .i64 j ∧ OwnsSd wr (w.heap.size + 1) v W T xs (sidesJ W T xs k j) ∧ wr.heap[w.heap.size]? = some (.cells #[.int .i64 W, .int .i64 T, .slice a n cap] 25 (0, 0)) ∧ Below w.heap.size w wr) (fun _ _ _ _ jv _ => 2 - (intOf jv).toNat)
      case atStart => exact ⟨0, by omega, rfl, by rw [sidesJ_zero]; exact HO.out.below (drewN_below _ _), PQ, below_seq BEL.out (drewN_below _ _)⟩
      case round =>
        clear hwi wi
        rename World => wq
        obtain ⟨j, hj, rfl, hoj, pj, bj⟩ := hrel
        have HOJ := Lib.hid hoj; clear hoj
        have BELJ := Lib.hid bj; clear bj
        clear c0 c1 c2 q0 q1 q2
        obtain ⟨c0, c1, c2⟩ := cells3 pj
        by_cases hj2 : j = 2
        · subst hj2
          go_wp2
          go_roundw
          case rel => exact ⟨k + 1, by omega, by go_num, by rw [← sidesJ_end]; exact HOJ.out, pj, BELJ.out⟩
          case measure => simp [intOf]; omega
        by_cases hj0 : j = 0
        · subst hj0
          clear hj hj2
          obtain ⟨kt, hkt⟩ : ∃ kt, kt = sTo W k false := ⟨_, rfl⟩
          obtain ⟨rs, hrs⟩ : ∃ rs, rs = sRise W k false := ⟨_, rfl⟩
          obtain ⟨bo, hbo⟩ : ∃ bo, bo = sBoth W T xs k false := ⟨_, rfl⟩
          obtain ⟨cl, hcl⟩ : ∃ cl, cl = (if sBoth W T xs k false then sCell W k false else 0) := ⟨_, rfl⟩
          obtain ⟨wy, hwy⟩ : ∃ wy, wy = (if sBoth W T xs k false then sWay false else 0) := ⟨_, rfl⟩
          have HE : Hid (sdC W T xs (k, false) = [.int .i64 k, .int .i64 kt, .int .i64 rs, .bool bo, .int .i64 cl, .int .i64 wy]) := by show _ = _; rw [hkt, hrs, hbo, hcl, hwy]; rfl
          have HV : Hid (sdV W T xs k false = .agg #[.int .i64 k, .int .i64 kt, .int .i64 rs, .bool bo, .int .i64 cl, .int .i64 wy]) := by show _ = _; rw [hkt, hrs, hbo, hcl, hwy]; rfl
          clear hkt hrs hbo hcl hwy
          cases hu : sUsed W T xs k false
          · have HX : Hid (sidesJ W T xs k (0 + 1) = sidesJ W T xs k 0) := by show _ = _; rw [sidesJ_one, hu]; rfl
            have HU := Lib.hid hu; clear hu
            go_wp2_with fail
            refine (sideFrom_east _ _ _ _ _ xs k _ HN.out v1 v2 v3 v4 HWT.out HKN.out (HA.out.below BELJ.out)).mono ?_; rintro e w3 ⟨rfl, hb3⟩
            rw [HU.out, HV.out]
            have p3 := heap_later pj hb3
            have O3 := Lib.hid (HOJ.out.below hb3)
            have B3 := Lib.hid (below_seq BELJ.out hb3)
            go_wp2
            go_roundw
            case rel => exact ⟨0 + 1, by omega, by go_num, by rw [HX.out]; exact O3.out.below (below1 _ _), heap_later p3 (below1 _ _), below_seq B3.out (below1 _ _)⟩
            case measure => simp [intOf]
          · have HX : Hid (sidesJ W T xs k (0 + 1) = sidesJ W T xs k 0 ++ [(k, false)]) := by show _ = _; rw [sidesJ_one, hu]; rfl
            have HU := Lib.hid hu; clear hu
            have hlen := sidesJ_len W T xs k 0
            have zz := BELJ.out.size
            go_wp2_with fail
            refine (sideFrom_east _ _ _ _ _ xs k _ HN.out v1 v2 v3 v4 HWT.out HKN.out (HA.out.below BELJ.out)).mono ?_; rintro e w3 ⟨rfl, hb3⟩
            rw [HU.out, HV.out]
            have p3 := heap_later pj hb3
            have O3 := Lib.hid (HOJ.out.below hb3)
            have B3 := Lib.hid (below_seq BELJ.out hb3)
            have hz3 := hb3.size
            have lp3 := heap_lt p3
            clear hb3
            have NS := fun (w0 : World) => new_side (w0.alloc (.cells #[.int .i64 k, .int .i64 kt, .int .i64 rs, .bool bo, .int .i64 cl, .int .i64 wy] 57)) (.int .i64 k) (.int .i64 kt) (.int .i64 rs) (.bool bo) (.int .i64 cl) (.int .i64 wy)
            have NSH := Lib.hid NS; clear NS
            go_wp2_with (at_builtin; refine wpList_append_own _ rfl _ _ 69 rfl (w.heap.size + 1) 57 i0 (.agg #[.int .i64 0, .int .i64 0, .int .i64 0, .bool false, .int .i64 0, .int .i64 0]) 6 48 Try.underlying69 hi hz0 hz1 hz2 rfl (by decide) _ (sidesJ W T xs k 0).length ((sidesJ W T xs k 0).flatMap (sdC W T xs)) rfl (World.ownsRow.alloc (World.ownsRow.alloc O3.out _) _) ⟨w3.heap.size + 1, 0, none⟩ 1 1 [.int .i64 k, .int .i64 kt, .int .i64 rs, .bool bo, .int .i64 cl, .int .i64 wy] rfl rfl (by have h := NSH.out w3; rw [World.size_alloc] at h; exact h) (one_side _ _ _ _ _ _) (by unfold maxLen; omega) (by omega) (by first | (simp; done) | (simp; omega)) ?_; intro v' w8 hown' hgrow _; have p8 := heap_grown (heap_later (heap_later p3 (below1 _ _)) (below1 _ _)) hgrow (OwnsSd.ownBlock O3.out (by omega)); have O8 := Lib.hid (OwnsSd.more HE.out HX.out hown'); have B8 := Lib.hid (below_grown (below_seq (below_seq B3.out (below1 _ _)) (below1 _ _)) hgrow (Nat.le_refl _) (OwnsSd.ownAt O3.out (by omega))); clear hown' hgrow)
            go_roundw
            case rel => exact ⟨0 + 1, by omega, by go_num, O8.out, p8, B8.out⟩
            case measure => simp [intOf]
        · obtain rfl : j = 1 := by omega
          clear hj hj2 hj0
          obtain ⟨kt, hkt⟩ : ∃ kt, kt = sTo W k true := ⟨_, rfl⟩
          obtain ⟨rs, hrs⟩ : ∃ rs, rs = sRise W k true := ⟨_, rfl⟩
          obtain ⟨bo, hbo⟩ : ∃ bo, bo = sBoth W T xs k true := ⟨_, rfl⟩
          obtain ⟨cl, hcl⟩ : ∃ cl, cl = (if sBoth W T xs k true then sCell W k true else 0) := ⟨_, rfl⟩
          obtain ⟨wy, hwy⟩ : ∃ wy, wy = (if sBoth W T xs k true then sWay true else 0) := ⟨_, rfl⟩
          have HE : Hid (sdC W T xs (k, true) = [.int .i64 k, .int .i64 kt, .int .i64 rs, .bool bo, .int .i64 cl, .int .i64 wy]) := by show _ = _; rw [hkt, hrs, hbo, hcl, hwy]; rfl
          have HV : Hid (sdV W T xs k true = .agg #[.int .i64 k, .int .i64 kt, .int .i64 rs, .bool bo, .int .i64 cl, .int .i64 wy]) := by show _ = _; rw [hkt, hrs, hbo, hcl, hwy]; rfl
          clear hkt hrs hbo hcl hwy
          cases hu : sUsed W T xs k true
          · have HX : Hid (sidesJ W T xs k (1 + 1) = sidesJ W T xs k 1) := by show _ = _; rw [sidesJ_two, hu]; rfl
            have HU := Lib.hid hu; clear hu
            go_wp2_with fail
            refine (sideFrom_north _ _ _ _ _ xs k _ HN.out v1 v2 v3 v4 HWT.out HKN.out (HA.out.below BELJ.out)).mono ?_; rintro e w3 ⟨rfl, hb3⟩
            rw [HU.out, HV.out]
            have p3 := heap_later pj hb3
            have O3 := Lib.hid (HOJ.out.below hb3)
            have B3 := Lib.hid (below_seq BELJ.out hb3)
            go_wp2
            go_roundw
            case rel => exact ⟨1 + 1, by omega, by go_num, by rw [HX.out]; exact O3.out.below (below1 _ _), heap_later p3 (below1 _ _), below_seq B3.out (below1 _ _)⟩
            case measure => simp [intOf]
          · have HX : Hid (sidesJ W T xs k (1 + 1) = sidesJ W T xs k 1 ++ [(k, true)]) := by show _ = _; rw [sidesJ_two, hu]; rfl
            have HU := Lib.hid hu; clear hu
            have hlen := sidesJ_len W T xs k 1
            have zz := BELJ.out.size
            go_wp2_with fail
            refine (sideFrom_north _ _ _ _ _ xs k _ HN.out v1 v2 v3 v4 HWT.out HKN.out (HA.out.below BELJ.out)).mono ?_; rintro e w3 ⟨rfl, hb3⟩
            rw [HU.out, HV.out]
            have p3 := heap_later pj hb3
            have O3 := Lib.hid (HOJ.out.below hb3)
            have B3 := Lib.hid (below_seq BELJ.out hb3)
            have hz3 := hb3.size
            have lp3 := heap_lt p3
            clear hb3
            have NS := fun (w0 : World) => new_side (w0.alloc (.cells #[.int .i64 k, .int .i64 kt, .int .i64 rs, .bool bo, .int .i64 cl, .int .i64 wy] 57)) (.int .i64 k) (.int .i64 kt) (.int .i64 rs) (.bool bo) (.int .i64 cl) (.int .i64 wy)
            have NSH := Lib.hid NS; clear NS
            go_wp2_with (at_builtin; refine wpList_append_own _ rfl _ _ 69 rfl (w.heap.size + 1) 57 i0 (.agg #[.int .i64 0, .int .i64 0, .int .i64 0, .bool false, .int .i64 0, .int .i64 0]) 6 48 Try.underlying69 hi hz0 hz1 hz2 rfl (by decide) _ (sidesJ W T xs k 1).length ((sidesJ W T xs k 1).flatMap (sdC W T xs)) rfl (World.ownsRow.alloc (World.ownsRow.alloc O3.out _) _) ⟨w3.heap.size + 1, 0, none⟩ 1 1 [.int .i64 k, .int .i64 kt, .int .i64 rs, .bool bo, .int .i64 cl, .int .i64 wy] rfl rfl (by have h := NSH.out w3; rw [World.size_alloc] at h; exact h) (one_side _ _ _ _ _ _) (by unfold maxLen; omega) (by omega) (by first | (simp; done) | (simp; omega)) ?_; intro v' w8 hown' hgrow _; have p8 := heap_grown (heap_later (heap_later p3 (below1 _ _)) (below1 _ _)) hgrow (OwnsSd.ownBlock O3.out (by omega)); have O8 := Lib.hid (OwnsSd.more HE.out HX.out hown'); have B8 := Lib.hid (below_grown (below_seq (below_seq B3.out (below1 _ _)) (below1 _ _)) hgrow (Nat.le_refl _) (OwnsSd.ownAt O3.out (by omega))); clear hown' hgrow)
            go_roundw
            case rel => exact ⟨1 + 1, by omega, by go_num, O8.out, p8, B8.out⟩
            case measure => simp [intOf]
    · obtain rfl : k = N := by omega
      obtain ⟨a9, cap9, hv⟩ := OwnsSd.form HO.out
      subst hv
      go_wp2
      go_ret
      exact ⟨_, rfl, ownsRow_low HO.out (by omega), BEL.out⟩
end Go.Proofs.Ytknigcjpgkolgaa

namespace Go.Proofs.Ytknigcjpgkolgaa
open Go.RowKit
set_option linter.unusedVariables false
set_option maxRecDepth 100000
set_option linter.unusedSimpArgs false

theorem jumpOf_any (k kt r cl wy : Int) (b : Bool) (w : World) (hr : r = 1 ∨ r = -1) :
    Calls Try.prog 76 #[.agg #[.int .i64 k, .int .i64 kt, .int .i64 r, .bool b, .int .i64 cl, .int .i64 wy]] w fun e w' => e = .returned (.int .i64 (-3 * r)) ∧ Below w.heap.size w w' := by
  rcases hr with rfl | rfl
  all_goals
    go_enter Try.func76, Try.ntmps76
    go_wp2
    go_ret
    exact ⟨rfl, below1 _ _⟩
end Go.Proofs.Ytknigcjpgkolgaa

namespace Go.Proofs.Ytknigcjpgkolgaa
open Go.RowKit
set_option linter.unusedVariables false
set_option maxRecDepth 100000
set_option linter.unusedSimpArgs false

/-- Whether heights are right. -/
def hokB (W T : Int) (xs : List Bool) (H : List Int) : Bool :=
  simpleB W T xs && decide ((H.length : Int) = (W + 1) * (T + 1)) && hsMay W T xs H H.length && sdsOk W T xs H H.length && (H.getD (frstK W T xs H.length).toNat 0 == 0)

theorem flat6 (W T : Int) (xs : List Bool) : ∀ (l : List (Nat × Bool)) (i j : Nat) (hi : i < l.length), j < 6 → (l.flatMap (sdC W T xs))[i * 6 + j]? = (sdC W T xs l[i])[j]?
  | [], i, j, hi, _ => absurd hi (Nat.not_lt_zero _)
  | s :: l, 0, j, _, hj => by
    rw [List.flatMap_cons, List.getElem?_append_left (by simpa [sdC] using hj)]; simp
  | s :: l, i + 1, j, hi, hj => by
    rw [List.flatMap_cons, List.getElem?_append_right (by simp [sdC]; omega)]
    have e : (i + 1) * 6 + j - (sdC W T xs s).length = i * 6 + j := by simp [sdC]; omega
    rw [e]
    exact flat6 W T xs l i j (by simpa using hi) hj
theorem OwnsSd.cellAt {w : World} {B g n cap : Nat} {W T : Int} {xs : List Bool} {l : List (Nat × Bool)} (h : OwnsSd w B (.slice (some ⟨g, 0, none⟩) n cap) W T xs l) {i : Nat} (hi : i < l.length) : ∀ j u, (sdC W T xs l[i])[j]? = some u → w.cell? ⟨g, i * 6 + j, none⟩ = some u := by
  intro j u hu
  have hj : j < 6 := by
    obtain ⟨h1, _⟩ := List.getElem?_eq_some_iff.1 hu
    simpa [sdC] using h1
  have hn : n = l.length := by
    obtain ⟨a, c, e⟩ := OwnsSd.form h
    simp only [Value.slice.injEq] at e; exact e.2.1
  subst hn
  rw [World.ownsRow.cellAt h (i * 6 + j) (by omega), flat6 W T xs l i j hi hj, hu]
theorem OwnsSd.pos {w : World} {B : Nat} {v : Value} {W T : Int} {xs : List Bool} {l : List (Nat × Bool)} (h : OwnsSd w B v W T xs l) (h0 : 0 < l.length) : ∃ g cap, v = .slice (some ⟨g, 0, none⟩) l.length cap := by
  rcases h.2 with ⟨e, h2⟩ | ⟨g, cap, cur, e, _⟩
  · omega
  · exact ⟨g, cap, e⟩
theorem firstCorner_any (g q cap : Nat) (fk : Int) (w : World) (hq : 0 < q) (hq' : q ≤ 100000) (hc : w.cell? ⟨g, 0, none⟩ = some (.int .i64 fk)) :
    Calls Try.prog 82 #[.slice (some ⟨g, 0, none⟩) q cap] w fun e w' => e = .returned (.int .i64 fk) ∧ w' = w := by
  go_enter Try.func82, Try.ntmps82
  go_wp2
  go_ret
  exact ⟨rfl, rfl⟩
/-- A simple region has a cell, and so a first corner. -/
theorem simple_first {W T : Int} {xs : List Bool} (h : simpleB W T xs = true) {N : Nat} (hN : (W + 1) * (T + 1) = (N : Int)) : 0 ≤ frstK W T xs N := by
  have hr := simpleB_rv h
  obtain ⟨v1, v2, v3, v4, v5, _⟩ := rv_true hr
  have hp : partsN W T xs = 1 := by unfold simpleB at h; rw [Bool.and_eq_true, decide_eq_true_eq] at h; exact h.1
  unfold partsN at hp
  rw [hr, if_pos rfl] at hp
  have hpos : 0 < selfN (partsF W T xs) (partsF W T xs).length := by omega
  unfold selfN at hpos
  rw [List.countP_pos_iff] at hpos
  obtain ⟨i, hi, he⟩ := hpos
  have hi' : i < xs.length := Nat.lt_of_lt_of_le (List.mem_range.1 hi) (partsF_len W T xs)
  have hx : xs.getD i false = true := by
    cases hc : xs.getD i false
    · have hm := marksL_marks xs.length (fun i => xs.getD i false) (adjW W false)
      have := (hm.2 i hi').1 hc
      have e2 : partsF W T xs = marksL xs.length (fun i => xs.getD i false) (adjW W false) := by unfold partsF; rw [hr, if_pos rfl]
      rw [e2] at he
      simp only [beq_iff_eq] at he
      omega
    · rfl
  -- the corner in its south-west
  obtain ⟨m1, m2, m3, m4, m5⟩ := cell_split (W := W) (T := T) (k := (i : Int)) v1 (by omega) (by rw [← v5]; omega)
  obtain ⟨k, hk⟩ := Int.eq_ofNat_of_zero_le (show 0 ≤ (i : Int) / W * (W + 1) + (i : Int) % W by have := Int.mul_nonneg m3 (show 0 ≤ W + 1 by omega); omega)
  have kxe : kx W k = (i : Int) % W := by
    unfold kx
    rw [← hk, Int.add_comm, Int.add_mul_emod_self_right, Int.emod_eq_of_lt m1 (by omega)]
  have kye : ky W k = (i : Int) / W := by
    unfold ky
    rw [← hk, Int.add_comm, Int.add_mul_ediv_right _ _ (by omega), Int.ediv_eq_zero_of_lt m1 (by omega)]; omega
  have hu : sUsed W T xs k false = true := by
    have : sLeft W T xs k false = true := by
      unfold sLeft sLx
      rw [if_neg (by simp), kxe, kye]
      unfold atB inF
      rw [decide_eq_true ⟨m1, m2, m3, m4⟩, m5, Int.toNat_natCast, hx]; rfl
    unfold sUsed; rw [this]; rfl
  have hkN : k < N := by have := sTo_lt v1 hu; omega
  unfold frstK
  cases hf : (List.range N).find? fun k => sUsed W T xs k false || sUsed W T xs k true with
  | none =>
    rw [List.find?_eq_none] at hf
    have := hf k (List.mem_range.2 hkN)
    simp [hu] at this
  | some j => simp
theorem rise_one (W : Int) (k : Nat) (nth : Bool) : sRise W k nth = 1 ∨ sRise W k nth = -1 := by unfold sRise; split <;> simp
end Go.Proofs.Ytknigcjpgkolgaa

namespace Go.Proofs.Ytknigcjpgkolgaa
open Go.RowKit
set_option linter.unusedVariables false
set_option maxRecDepth 100000
set_option linter.unusedSimpArgs false

/-- The heights of the corners that are reached; 99 elsewhere. -/
def maskL (H : List Int) (R : Nat → Bool) (N : Nat) : List Int := (List.range N).map fun j => if R j then H.getD j 0 else 99
theorem maskL_len (H : List Int) (R : Nat → Bool) (N : Nat) : (maskL H R N).length = N := by simp [maskL]
theorem maskL_get {H : List Int} {R : Nat → Bool} {N k : Nat} (hk : k < N) : (maskL H R N).getD k 0 = if R k then H.getD k 0 else 99 := by simp [maskL, hk]
theorem maskL_set {H : List Int} {R : Nat → Bool} {N k : Nat} {v : Int} (hv : v = H.getD k 0) (hk : k < N) : (maskL H R N).set k v = maskL H (fun j => if j = k then true else R j) N := by
  subst hv
  refine ext_getD (by simp [maskL]) fun j hj => ?_
  rw [List.length_set, maskL_len] at hj
  rw [getD_set1, maskL_len, maskL_get hj, maskL_get hj]
  by_cases e : j = k
  · subst e; rw [if_pos ⟨rfl, hj⟩, if_pos rfl, if_pos rfl]
  · rw [if_neg (fun h => e h.1), if_neg e]
theorem maskL_none (H : List Int) (N : Nat) : maskL H (fun _ => false) N = List.replicate N 99 := by
  refine ext_getD (by simp [maskL]) fun j hj => ?_
  rw [maskL_len] at hj
  rw [maskL_get hj]; simp [hj]
/-- How many corners are reached. -/
def reN (R : Nat → Bool) (N : Nat) : Nat := (List.range N).countP R
theorem reN_le (R : Nat → Bool) (N : Nat) : reN R N ≤ N := by
  have := List.countP_le_length (p := R) (l := List.range N)
  rwa [List.length_range] at this
theorem reN_set {R : Nat → Bool} {N k : Nat} (hk : k < N) (h : R k = false) : reN (fun j => if j = k then true else R j) N = reN R N + 1 := countP_set hk h
theorem reN_none (N : Nat) : reN (fun _ => false) N = 0 := by unfold reN; simp

theorem frstK_stay {W T : Int} {xs : List Bool} {n N : Nat} (h : 0 ≤ frstK W T xs n) (hN : n ≤ N) : frstK W T xs N = frstK W T xs n := by
  induction hN with
  | refl => rfl
  | step _ ih => rw [frstK_succ, ih, if_neg (by omega)]
/-- The first used side begins at the first corner of a cell. -/
theorem first_is {W T : Int} {xs : List Bool} {N k j : Nat} {nth : Bool} (hk : k < N) (hu : sUsed W T xs k nth = true) (hP : sidesJ W T xs k j = []) : frstK W T xs N = k := by
  have h0 : frstK W T xs k < 0 := by
    apply Classical.byContradiction; intro hc
    obtain ⟨nth', rest, e⟩ := sidesK_head (W := W) (T := T) (xs := xs) (n := k) (by omega)
    unfold sidesJ at hP
    rw [e] at hP; simp at hP
  have h1 : frstK W T xs (k + 1) = k := by
    rw [frstK_succ, if_pos h0]
    cases nth
    · rw [hu]; simp
    · rw [hu]; simp
  rw [frstK_stay (n := k + 1) (by omega) (by omega), h1]

/-- What a pass over the sides keeps. -/
structure PassI (W T : Int) (xs : List Bool) (N fk : Nat) (P : List (Nat × Bool)) (R0 : Nat) (f : Int) (c : Bool) (R : Nat → Bool) : Prop where
  at_ : ∀ j, R j = true → hAt W T xs j = true
  fst : (f = fk ∧ R fk = true) ∨ (f = -1 ∧ P = [] ∧ R = fun _ => false)
  even : c = false → ∀ s ∈ P, R s.1 = R (sTo W s.1 s.2).toNat
  more : c = true → R0 < reN R N
  le : R0 ≤ reN R N
theorem PassI.begin {W T : Int} {xs : List Bool} {N fk : Nat} {R : Nat → Bool} {f : Int} (h1 : ∀ j, R j = true → hAt W T xs j = true) (h2 : (f = fk ∧ R fk = true) ∨ (f = -1 ∧ R = fun _ => false)) : PassI W T xs N fk (sidesK W T xs 0) (reN R N) f false R :=
  ⟨h1, h2.elim Or.inl (fun h => Or.inr ⟨h.1, rfl, h.2⟩), (fun _ s hs => by cases hs), (fun h => by cases h), Nat.le_refl _⟩
/-- The first corner is given its height. -/
theorem PassI.first {W T : Int} {xs : List Bool} {N fk : Nat} {P : List (Nat × Bool)} {R0 : Nat} {f : Int} {c : Bool} {R : Nat → Bool} (h : PassI W T xs N fk P R0 f c R) (hf : f < 0) (hfk : fk < N) (hat : hAt W T xs fk = true) : PassI W T xs N fk P R0 (fk : Int) c (fun j => if j = fk then true else R j) := by
  rcases h.fst with ⟨e, _⟩ | ⟨e, hP, hR⟩
  · omega
  have hc : c = false := by
    cases c
    · rfl
    · have := h.more rfl
      rw [hR, reN_none] at this; omega
  refine ⟨fun j hj => ?_, Or.inl ⟨rfl, by simp⟩, (fun _ s hs => by rw [hP] at hs; cases hs), (fun h' => by rw [hc] at h'; cases h'), ?_⟩
  · by_cases e : j = fk
    · rw [e]; exact hat
    · simp only [if_neg e] at hj; exact h.at_ j hj
  · rw [reN_set hfk (by rw [hR])]; have := h.le; omega
theorem PassI.same {W T : Int} {xs : List Bool} {N fk : Nat} {P : List (Nat × Bool)} {R0 : Nat} {c : Bool} {R : Nat → Bool} {k kt : Nat} {nth : Bool} (h : PassI W T xs N fk P R0 (fk : Int) c R) (ht : sTo W k nth = kt) (he : R k = R kt) : PassI W T xs N fk (P ++ [(k, nth)]) R0 (fk : Int) c R := by
  refine ⟨h.at_, Or.inl (h.fst.elim id fun q => by have := q.1; omega), fun hc s hs => ?_, h.more, h.le⟩
  rw [List.mem_append, List.mem_singleton] at hs
  rcases hs with hs | rfl
  · exact h.even hc s hs
  · rw [ht, Int.toNat_natCast]; exact he
theorem PassI.reach {W T : Int} {xs : List Bool} {N fk : Nat} {P P' : List (Nat × Bool)} {R0 : Nat} {c : Bool} {R : Nat → Bool} {q : Nat} (h : PassI W T xs N fk P R0 (fk : Int) c R) (hq : q < N) (hat : hAt W T xs q = true) (hR : R q = false) : PassI W T xs N fk P' R0 (fk : Int) true (fun j => if j = q then true else R j) := by
  have hf : R fk = true := h.fst.elim (fun q => q.2) fun q => by have := q.1; omega
  refine ⟨fun j hj => ?_, Or.inl ⟨rfl, ?_⟩, (fun h' => by cases h'), fun _ => ?_, ?_⟩
  · by_cases e : j = q
    · rw [e]; exact hat
    · simp only [if_neg e] at hj; exact h.at_ j hj
  · by_cases e : fk = q
    · rw [e] at hf; rw [hf] at hR; cases hR
    · simp only [if_neg e]; exact hf
  · rw [reN_set hq hR]; have := h.le; omega
  · rw [reN_set hq hR]; have := h.le; omega
/-- An even pass has reached all. -/
theorem PassI.done {W T : Int} {xs : List Bool} {L H : List Int} {N fk : Nat} {R0 : Nat} {f : Int} {R : Nat → Bool} (hs : simpleB W T xs = true) (hN : (W + 1) * (T + 1) = (N : Int)) (hfk : frstK W T xs N = fk) (hH : HtsOf W T xs L H N) (h : PassI W T xs N fk (sidesK W T xs N) R0 f false R) : maskL H R N = H := by
  obtain ⟨v1, v2, v3, v4, v5, v6⟩ := rv_true (simpleB_rv hs)
  have hf : R fk = true := by
    rcases h.fst with q | q
    · exact q.2
    · obtain ⟨nth, rest, e⟩ := sidesK_head (W := W) (T := T) (xs := xs) (n := N) (by rw [hfk]; omega)
      rw [q.2.1] at e; cases e
  have all := corners_all hs hfk (fun k => R k = true) hf (fun k nth hu => by
    obtain ⟨t0, t1, t2⟩ := sTo_lt v1 hu
    have := h.even rfl (k, nth) (sidesK_mem.2 ⟨by omega, hu⟩)
    simp only at this
    rw [this])
  refine ext_getD (by rw [maskL_len, hH.len]) fun j hj => ?_
  rw [maskL_len] at hj
  rw [maskL_get hj]
  cases hr : R j
  · rw [if_neg (by simp)]
    cases ha : hAt W T xs j
    · exact (hH.off j hj ha).symm
    · rw [all j ha] at hr; cases hr
  · rw [if_pos rfl]

/-- The cell on the right is the one to which the direction leads. -/
theorem step_side {W T : Int} {xs : List Bool} {k : Nat} {nth : Bool} (hW : 1 ≤ W) (h : sBoth W T xs k nth = true) {v : Int} (h1 : 1 ≤ v) (h4 : v ≤ 4) : (stepI W T (sCell W k nth) v == sOther W k nth) = (v == sWay nth) := by
  unfold sBoth at h
  rw [Bool.and_eq_true] at h
  obtain ⟨hl, hr⟩ := h
  obtain ⟨a0, a1, a2, a3⟩ := atB_in (show atB W T xs (sLx W k nth) (ky W k) = true from hl)
  obtain ⟨b0, b1, b2, b3⟩ := atB_in (show atB W T xs (kx W k) (sRy W k nth) = true from hr)
  obtain ⟨c, hc, cx, cy, hcl⟩ := place_idx a0 a1 a2 a3
  have e : sCell W k nth = (c : Int) := hc.symm
  rw [e]
  unfold stepI
  rw [cx, cy]
  have hce : nth = false → (c : Int) = ky W k * W + kx W k := by intro h; subst h; exact hc
  have ho : sOther W k nth = if nth then (c : Int) + 1 else (c : Int) - W := by
    unfold sOther
    rw [hc]
    cases nth
    · unfold sRy sLx; simp only [Bool.false_eq_true, if_false]; rw [Int.sub_mul]; omega
    · unfold sRy sLx; simp only [if_true]; omega
  clear e hc hl hr cx cy
  unfold sWay
  unfold sLx at a0 a1 ⊢
  unfold sRy at b2 b3
  have hv : v = 1 ∨ v = 2 ∨ v = 3 ∨ v = 4 := by omega
  rw [Bool.eq_iff_iff]
  simp only [beq_iff_eq]
  cases nth
  · simp only [Bool.false_eq_true, if_false] at a0 a1 b2 b3 ho ⊢
    rw [ho]
    have hcW : (c : Int) = ky W k * W + kx W k := hce rfl
    rcases hv with rfl | rfl | rfl | rfl
    · constructor
      · intro q
        by_cases h : kx W k < W - 1
        · rw [if_pos ⟨rfl, h⟩] at q; omega
        · rw [if_neg (by omega), if_neg (by omega), if_neg (by omega), if_neg (by omega)] at q
          have : 0 ≤ (ky W k - 1) * W := Int.mul_nonneg b2 (by omega)
          rw [Int.sub_mul] at this; omega
      · intro q; omega
    · constructor
      · intro q
        by_cases h : ky W k < T - 1
        · rw [if_neg (by omega), if_pos ⟨rfl, h⟩] at q; omega
        · rw [if_neg (by omega), if_neg (by omega), if_neg (by omega), if_neg (by omega)] at q
          have : 0 ≤ (ky W k - 1) * W := Int.mul_nonneg b2 (by omega)
          rw [Int.sub_mul] at this; omega
      · intro q; omega
    · constructor
      · intro q
        by_cases h : 0 < kx W k
        · rw [if_neg (by omega), if_neg (by omega), if_pos ⟨rfl, h⟩] at q; omega
        · rw [if_neg (by omega), if_neg (by omega), if_neg (by omega), if_neg (by omega)] at q
          have : 0 ≤ (ky W k - 1) * W := Int.mul_nonneg b2 (by omega)
          rw [Int.sub_mul] at this; omega
      · intro q; omega
    · rw [if_neg (by omega), if_neg (by omega), if_neg (by omega), if_pos ⟨rfl, by omega⟩]
      simp
  · simp only [if_true] at a0 a1 b2 b3 ho ⊢
    rw [ho]
    rcases hv with rfl | rfl | rfl | rfl
    · rw [if_pos ⟨rfl, by omega⟩]; simp
    · constructor
      · intro q
        by_cases h : ky W k < T - 1
        · rw [if_neg (by omega), if_pos ⟨rfl, h⟩] at q
          have : kx W k ≤ W - 1 := by omega
          omega
        · rw [if_neg (by omega), if_neg (by omega), if_neg (by omega), if_neg (by omega)] at q; omega
      · intro q; omega
    · constructor
      · intro q
        by_cases h : 0 < kx W k - 1
        · rw [if_neg (by omega), if_neg (by omega), if_pos ⟨rfl, h⟩] at q; omega
        · rw [if_neg (by omega), if_neg (by omega), if_neg (by omega), if_neg (by omega)] at q; omega
      · intro q; omega
    · constructor
      · intro q
        by_cases h : 0 < ky W k
        · rw [if_neg (by omega), if_neg (by omega), if_neg (by omega), if_pos ⟨rfl, h⟩] at q; omega
        · rw [if_neg (by omega), if_neg (by omega), if_neg (by omega), if_neg (by omega)] at q; omega
      · intro q; omega
end Go.Proofs.Ytknigcjpgkolgaa

namespace Go.Proofs.Ytknigcjpgkolgaa
open Go.RowKit
set_option linter.unusedVariables false
set_option maxRecDepth 100000
set_option linter.unusedSimpArgs false

/-- Heights within bounds that are told by the sides along which they grow by as much as they may. -/
structure GT (W T : Int) (xs : List Bool) (N fk : Nat) (lo hi : Nat × Bool → Int) (G : List Int) : Prop where
  fst : frstK W T xs N = fk
  len : G.length = N
  off : ∀ k, k < N → hAt W T xs k = false → G.getD k 0 = 99
  bd : ∀ k, k < N → hAt W T xs k = true → -60 ≤ G.getD k 0 ∧ G.getD k 0 ≤ 60
  first : G.getD fk 0 = 0
  side : ∀ k nth, k < N → sUsed W T xs k nth = true → lo (k, nth) ≤ G.getD (sTo W k nth).toNat 0 - G.getD k 0 ∧ G.getD (sTo W k nth).toNat 0 - G.getD k 0 ≤ hi (k, nth)
  small : ∀ s, -3 ≤ lo s ∧ lo s ≤ 3 ∧ -3 ≤ hi s ∧ hi s ≤ 3
  tight : ∀ E : Nat → Prop, E fk → (∀ k nth, k < N → sUsed W T xs k nth = true → (E k → G.getD (sTo W k nth).toNat 0 = G.getD k 0 + hi (k, nth) → E (sTo W k nth).toNat) ∧ (E (sTo W k nth).toNat → G.getD k 0 = G.getD (sTo W k nth).toNat 0 - lo (k, nth) → E k)) → ∀ k, k < N → hAt W T xs k = true → E k
/-- What the falling heights keep. -/
structure GInv (W T : Int) (xs : List Bool) (N fk : Nat) (G C : List Int) : Prop where
  len : C.length = N
  off : ∀ k, k < N → hAt W T xs k = false → C.getD k 0 = 99
  on : ∀ k, k < N → hAt W T xs k = true → G.getD k 0 ≤ C.getD k 0 ∧ C.getD k 0 ≤ 99
  first : C.getD fk 0 = 0
def exN (W T : Int) (xs : List Bool) (N : Nat) (G C : List Int) : Nat := (List.range N).countP fun k => hAt W T xs k && (C.getD k 0 == G.getD k 0)
def allE (W T : Int) (xs : List Bool) (N : Nat) (G C : List Int) : Prop := ∀ k, k < N → hAt W T xs k = true → C.getD k 0 = G.getD k 0
structure GPass (W T : Int) (xs : List Bool) (N fk : Nat) (lo hi : Nat × Bool → Int) (G C0 : List Int) (P : List (Nat × Bool)) (C : List Int) : Prop where
  inv : GInv W T xs N fk G C
  le : ∀ k, k < N → C.getD k 0 ≤ C0.getD k 0
  done : ∀ s ∈ P, (C0.getD s.1 0 = G.getD s.1 0 → G.getD (sTo W s.1 s.2).toNat 0 = G.getD s.1 0 + hi s → C.getD (sTo W s.1 s.2).toNat 0 = G.getD (sTo W s.1 s.2).toNat 0) ∧
    (C0.getD (sTo W s.1 s.2).toNat 0 = G.getD (sTo W s.1 s.2).toNat 0 → G.getD s.1 0 = G.getD (sTo W s.1 s.2).toNat 0 - lo s → C.getD s.1 0 = G.getD s.1 0)
theorem GPass.begin {W T : Int} {xs : List Bool} {N fk : Nat} {lo hi : Nat × Bool → Int} {G C : List Int} (h : GInv W T xs N fk G C) : GPass W T xs N fk lo hi G C [] C :=
  ⟨h, fun _ _ => Int.le_refl _, fun _ hs => by cases hs⟩
theorem GPass.step {W T : Int} {xs : List Bool} {N fk k kt : Nat} {nth : Bool} {lo hi : Nat × Bool → Int} {G C0 C : List Int} {P : List (Nat × Bool)} (hW : 1 ≤ W) (hg : GT W T xs N fk lo hi G) (h : GPass W T xs N fk lo hi G C0 P C) (hk : k < N) (hkt : kt < N) (hu : sUsed W T xs k nth = true) (ht : sTo W k nth = kt) (hne : k ≠ kt)
    {x1 y1 : Int} (hy : y1 = if C.getD k 0 + hi (k, nth) < C.getD kt 0 then C.getD k 0 + hi (k, nth) else C.getD kt 0) (hx : x1 = if y1 - lo (k, nth) < C.getD k 0 then y1 - lo (k, nth) else C.getD k 0) :
    GPass W T xs N fk lo hi G C0 (P ++ [(k, nth)]) ((C.set kt y1).set k x1) := by
  have hak : hAt W T xs k = true := (hAt_iff hW).2 (Or.inl ⟨nth, hu⟩)
  have hakt : hAt W T xs kt = true := (hAt_iff hW).2 (Or.inr ⟨k, nth, hu, ht⟩)
  have hsd := hg.side k nth hk hu
  rw [ht, Int.toNat_natCast] at hsd
  have ax := h.inv.on k hk hak
  have ay := h.inv.on kt hkt hakt
  have lx := h.le k hk
  have ly := h.le kt hkt
  have get : ∀ j, j < N → ((C.set kt y1).set k x1).getD j 0 = if j = k then x1 else if j = kt then y1 else C.getD j 0 := by
    intro j hj
    rw [getD_set2 (by rw [h.inv.len]; exact hkt) (by rw [h.inv.len]; exact hk)]
  have y1a : y1 ≤ C.getD kt 0 ∧ y1 ≤ C.getD k 0 + hi (k, nth) ∧ G.getD kt 0 ≤ y1 := by rw [hy]; split <;> omega
  have x1a : x1 ≤ C.getD k 0 ∧ x1 ≤ y1 - lo (k, nth) ∧ G.getD k 0 ≤ x1 := by rw [hx]; split <;> omega
  have mono : ∀ j, j < N → ((C.set kt y1).set k x1).getD j 0 ≤ C.getD j 0 := by
    intro j hj
    rw [get j hj]
    by_cases e : j = k
    · subst e; rw [if_pos rfl]; omega
    · rw [if_neg e]
      by_cases e2 : j = kt
      · subst e2; rw [if_pos rfl]; omega
      · rw [if_neg e2]; omega
  have low : ∀ j, j < N → hAt W T xs j = true → G.getD j 0 ≤ ((C.set kt y1).set k x1).getD j 0 := by
    intro j hj ha
    rw [get j hj]
    by_cases e : j = k
    · subst e; rw [if_pos rfl]; omega
    · rw [if_neg e]
      by_cases e2 : j = kt
      · subst e2; rw [if_pos rfl]; omega
      · rw [if_neg e2]; exact (h.inv.on j hj ha).1
  obtain ⟨hfN, hfa⟩ := first_hAt hW hg.fst
  refine ⟨⟨by rw [List.length_set, List.length_set]; exact h.inv.len, ?_, ?_, ?_⟩, fun j hj => Int.le_trans (mono j hj) (h.le j hj), ?_⟩
  · intro j hj ha
    rw [get j hj, if_neg (by rintro rfl; rw [hak] at ha; cases ha), if_neg (by rintro rfl; rw [hakt] at ha; cases ha)]
    exact h.inv.off j hj ha
  · intro j hj ha
    exact ⟨low j hj ha, Int.le_trans (mono j hj) (h.inv.on j hj ha).2⟩
  · have a := low fk hfN hfa
    have b := mono fk hfN
    rw [h.inv.first] at b
    rw [hg.first] at a
    omega
  · intro s hs
    rw [List.mem_append, List.mem_singleton] at hs
    rcases hs with hs | rfl
    · obtain ⟨d1, d2⟩ := h.done s hs
      refine ⟨fun e1 e2 => ?_, fun e1 e2 => ?_⟩
      · have d := d1 e1 e2
        by_cases hb : (sTo W s.1 s.2).toNat < N
        · have m := mono _ hb
          cases ha : hAt W T xs (sTo W s.1 s.2).toNat
          · rw [get _ hb, if_neg (by intro e; rw [e, hak] at ha; cases ha), if_neg (by intro e; rw [e, hakt] at ha; cases ha)]; exact d
          · have l := low _ hb ha; omega
        · have hl : ¬ (sTo W s.1 s.2).toNat < C.length := by rw [h.inv.len]; exact hb
          rw [← d]
          simp [List.getD, List.getElem?_eq_none (show ((C.set kt y1).set k x1).length ≤ (sTo W s.1 s.2).toNat by simp; omega), List.getElem?_eq_none (show C.length ≤ (sTo W s.1 s.2).toNat by omega)]
      · have d := d2 e1 e2
        by_cases hb : s.1 < N
        · have m := mono _ hb
          cases ha : hAt W T xs s.1
          · rw [get _ hb, if_neg (by intro e; rw [e, hak] at ha; cases ha), if_neg (by intro e; rw [e, hakt] at ha; cases ha)]; exact d
          · have l := low _ hb ha; omega
        · rw [← d]
          have hl := h.inv.len
          simp [List.getD, List.getElem?_eq_none (show ((C.set kt y1).set k x1).length ≤ s.1 by simp; omega), List.getElem?_eq_none (show C.length ≤ s.1 by omega)]
    · simp only
      rw [ht, Int.toNat_natCast]
      refine ⟨fun e1 e2 => ?_, fun e1 e2 => ?_⟩
      · rw [get kt hkt, if_neg (fun e => hne e.symm), if_pos rfl]; omega
      · rw [get k hk, if_pos rfl]; omega
theorem GPass.all {W T : Int} {xs : List Bool} {N fk : Nat} {lo hi : Nat × Bool → Int} {G C0 C : List Int} (hW : 1 ≤ W) (hN : (W + 1) * (T + 1) = (N : Int)) (hg : GT W T xs N fk lo hi G) (h0 : GInv W T xs N fk G C0) (h : GPass W T xs N fk lo hi G C0 (sidesK W T xs N) C) : allE W T xs N G C0 ∨ exN W T xs N G C0 < exN W T xs N G C := by
  by_cases hall : allE W T xs N G C0
  · exact Or.inl hall
  right
  have sub : ∀ k ∈ List.range N, (hAt W T xs k && (C0.getD k 0 == G.getD k 0)) = true → (hAt W T xs k && (C.getD k 0 == G.getD k 0)) = true := by
    intro k hk e
    have hkN := List.mem_range.1 hk
    simp only [Bool.and_eq_true, beq_iff_eq] at e ⊢
    refine ⟨e.1, ?_⟩
    have a := h.le k hkN
    have b := (h.inv.on k hkN e.1).1
    omega
  have : ∃ k, k < N ∧ hAt W T xs k = true ∧ C.getD k 0 = G.getD k 0 ∧ C0.getD k 0 ≠ G.getD k 0 := by
    apply Classical.byContradiction; intro hx
    have hno : ∀ k, k < N → hAt W T xs k = true → C.getD k 0 = G.getD k 0 → C0.getD k 0 = G.getD k 0 := fun k h1 h2 h3 => Classical.byContradiction fun h4 => hx ⟨k, h1, h2, h3, h4⟩
    refine hall (hg.tight (fun k => C0.getD k 0 = G.getD k 0) (by rw [h0.first, hg.first]) fun k nth hk hu => ?_)
    obtain ⟨t0, t1, t2⟩ := sTo_lt hW hu
    have hkt : (sTo W k nth).toNat < N := by omega
    have hak : hAt W T xs k = true := (hAt_iff hW).2 (Or.inl ⟨nth, hu⟩)
    have hakt : hAt W T xs (sTo W k nth).toNat = true := (hAt_iff hW).2 (Or.inr ⟨k, nth, hu, by omega⟩)
    obtain ⟨d1, d2⟩ := h.done (k, nth) (sidesK_mem.2 ⟨hk, hu⟩)
    exact ⟨fun e1 e2 => hno _ hkt hakt (d1 e1 e2), fun e1 e2 => hno _ hk hak (d2 e1 e2)⟩
  obtain ⟨k, hk, ha, e1, e2⟩ := this
  exact countP_lt (List.range N) _ _ sub k (List.mem_range.2 hk) (by rw [ha]; simpa using e2) (by rw [ha]; simpa using e1)
theorem allE_le {W T : Int} {xs : List Bool} {N fk : Nat} {lo hi : Nat × Bool → Int} {G C0 C : List Int} {P : List (Nat × Bool)} (h : GPass W T xs N fk lo hi G C0 P C) (h0 : allE W T xs N G C0) : allE W T xs N G C := by
  intro k hk ha
  have a := h.le k hk
  have b := (h.inv.on k hk ha).1
  have c := h0 k hk ha
  omega
theorem allE_eq {W T : Int} {xs : List Bool} {N fk : Nat} {lo hi : Nat × Bool → Int} {G C : List Int} (hg : GT W T xs N fk lo hi G) (h : GInv W T xs N fk G C) (h0 : allE W T xs N G C) : C = G := by
  refine ext_getD (by rw [h.len, hg.len]) fun k hk => ?_
  rw [h.len] at hk
  cases ha : hAt W T xs k
  · rw [h.off k hk ha, hg.off k hk ha]
  · exact h0 k hk ha
theorem exN_le (W T : Int) (xs : List Bool) (N : Nat) (G C : List Int) : exN W T xs N G C ≤ N := by
  have := List.countP_le_length (p := fun k => hAt W T xs k && (C.getD k 0 == G.getD k 0)) (l := List.range N)
  rwa [List.length_range] at this
theorem GInv.start {W T : Int} {xs : List Bool} {N fk : Nat} {lo hi : Nat × Bool → Int} {G : List Int} (hW : 1 ≤ W) (hg : GT W T xs N fk lo hi G) : GInv W T xs N fk G ((List.replicate N (99 : Int)).set fk 0) ∧ 1 ≤ exN W T xs N G ((List.replicate N (99 : Int)).set fk 0) := by
  obtain ⟨hfN, hfa⟩ := first_hAt hW hg.fst
  have get : ∀ j, j < N → ((List.replicate N (99 : Int)).set fk 0).getD j 0 = if j = fk then 0 else 99 := by
    intro j hj
    rw [getD_set1]
    by_cases e : j = fk
    · subst e; rw [if_pos ⟨rfl, by simpa using hfN⟩, if_pos rfl]
    · rw [if_neg (fun h => e h.1), if_neg e]; simp [hj]
  refine ⟨⟨by simp, ?_, ?_, ?_⟩, ?_⟩
  · intro k hk ha
    rw [get k hk, if_neg (by rintro rfl; rw [hfa] at ha; cases ha)]
  · intro k hk ha
    rw [get k hk]
    by_cases e : k = fk
    · subst e; rw [if_pos rfl, hg.first]; omega
    · rw [if_neg e]; have := hg.bd k hk ha; omega
  · rw [get fk hfN, if_pos rfl]
  · have : 0 < exN W T xs N G ((List.replicate N (99 : Int)).set fk 0) := by
      unfold exN
      rw [List.countP_pos_iff]
      exact ⟨fk, List.mem_range.2 hfN, by rw [hfa, get fk hfN, if_pos rfl, hg.first]; rfl⟩
    omega
/-- The heights of a tiling are told by any of their sides. -/
theorem gt_hts {W T : Int} {xs : List Bool} {L H : List Int} {N fk : Nat} (hs : simpleB W T xs = true) (hN : (W + 1) * (T + 1) = (N : Int)) (hf : frstK W T xs N = fk) (hH : HtsOf W T xs L H N) : GT W T xs N fk (fun s => rT W T xs L s.1 s.2) (fun s => rT W T xs L s.1 s.2) H := by
  obtain ⟨v1, v2, v3, v4, v5, v6⟩ := rv_true (simpleB_rv hs)
  have hr : ∀ s : Nat × Bool, -3 ≤ rT W T xs L s.1 s.2 ∧ rT W T xs L s.1 s.2 ≤ 3 := by
    intro s; unfold rT sRise; split <;> split <;> decide
  refine ⟨hf, hH.len, hH.off, fun k hk ha => by have := hH.bd k hk ha; omega, hH.first fk hf, fun k nth hk hu => by have := hH.side k nth hk hu; simp only; omega, fun s => ⟨(hr s).1, (hr s).2, (hr s).1, (hr s).2⟩, fun E h0 hst k hk ha => ?_⟩
  refine corners_all hs hf E h0 (fun j nth hu => ?_) k ha
  obtain ⟨t0, t1, t2⟩ := sTo_lt v1 hu
  have hj : j < N := by omega
  have sd := hH.side j nth hj hu
  obtain ⟨a, b⟩ := hst j nth hj hu
  simp only at a b
  exact ⟨fun e => a e (by omega), fun e => b e (by omega)⟩
end Go.Proofs.Ytknigcjpgkolgaa
