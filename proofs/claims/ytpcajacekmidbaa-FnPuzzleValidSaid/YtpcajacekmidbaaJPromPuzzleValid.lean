/- The law FnPuzzleValid: its walk. -/
import Derived.Test.YtpcajacekmidbaaJMakeS
namespace Go.Proofs.Ytpcajacekmidbaa
open Go.RowKit
set_option linter.unusedVariables false
set_option maxRecDepth 100000
set_option linter.unusedSimpArgs false

section
variable {rb N n c Pk : Nat} {w w1 w2 : World} {W T : Int} {a : Option Addr} {xs : List Bool} {v : Value}
/-- An append to a list of the call's own. -/
theorem LS.app (h : LS rb w N W T a n c xs Pk v w1) (lr : rb < w.heap.size) {row : Option Nat} (hg : w1.grownBy w2 row) (hrow : ∀ k, row = some k → N < k) {la : Option Addr} {m lcap : Nat} {L : List Int} (hm : m = L.length) (h36 : m ≤ 36) (ho : OwnsI w2 (N + 1) (.slice la m lcap) L) : LS rb w N W T a n c xs Pk (.slice la m lcap) w2 := by
  have hy := h.y
  refine ⟨heap_grown h.p hg (fun e => by have := hrow N e; omega), heap_grown h.q hg (fun e => by have := hrow _ e; omega), ?_, h.s, ⟨la, m, lcap, L, rfl, hm, h36, ho⟩, h.r.grown hg (fun k e => by have := hrow k e; omega), ?_, Nat.le_trans h.z hg.size, h.y⟩
  · refine OwnsB.keptUp2 h.o hg ?_
    cases he : (Value.slice a n c).ownBlock with
    | none => exact Or.inl rfl
    | some k => right; intro e; have h1 := h.s k he; have h2 := hrow k e.symm; omega
  · exact ⟨hg.os.trans h.g.os, hg.tape.trans h.g.tape, hg.output.trans h.g.output, Nat.le_trans h.g.size hg.size, fun i hi hr => (hg.block i (Nat.lt_of_lt_of_le hi h.g.size) (by intro e; have := hrow i e.symm; omega)).trans (h.g.block i hi hr)⟩
/-- One number is put at the end of the list. -/
theorem LS.app1 {k : Nat} {L : List Int} {x : Int} {v' : Value} (h : LS rb w N W T a n c xs Pk v w1) (lr : rb < w.heap.size) (hk : k = L.length) (hk36 : k + 1 ≤ 36) (hg : w1.grownBy w2 v.ownBlock) (ol : OwnsI w1 (N + 1) v L) (hown : OwnsI w2 (N + 1) v' (L ++ [x])) :
    ∃ a8 cap8, v' = .slice a8 (k + 1) cap8 ∧ LS rb w N W T a n c xs Pk (.slice a8 (k + 1) cap8) w2 := by
  obtain ⟨a8, cap8, rfl⟩ := hown.form2
  have hl : (L ++ [x]).length = k + 1 := by rw [List.length_append, ← hk]; rfl
  have S8 := h.app lr hg (fun q e => ol.ownAt (Nat.le_refl _) q e) (m := (L ++ [x]).length) rfl (by omega) hown
  rw [hl] at S8
  exact ⟨a8, cap8, by rw [hl], S8⟩
theorem LS.nil (h : LS rb w N W T a n c xs Pk v w1) : LS rb w N W T a n c xs Pk (.slice none 0 0) w1 :=
  ⟨h.p, h.q, h.o, h.s, ⟨none, 0, 0, [], rfl, rfl, by omega, OwnsI.nil _ _⟩, h.r, h.g, h.z, h.y⟩
end
theorem min_seven (D : Int) (h0 : 2 ≤ D) (h1 : D ≤ 100) : ∃ E : Int, (if D < 7 then D else (7 : Int)) = E ∧ (if (7 : Int) < D then (7 : Int) else D) = E ∧ 2 ≤ E ∧ E ≤ 7 := by
  by_cases hc : D < 7
  · exact ⟨D, if_pos hc, if_neg (by omega), by omega, by omega⟩
  · refine ⟨7, if_neg hc, ?_, by omega, by omega⟩
    by_cases h2 : (7 : Int) < D
    · exact if_pos h2
    · rw [if_neg h2]; omega
set_option maxHeartbeats 8000000 in
theorem l20Puzzle_any (rb P : Nat) (t : Int) (w : World) (hn0 : 0 ≤ t) (hn1 : t ≤ 100) (hP : P ≤ 1000) (h : RD w rb P) :
    Calls Try.prog 46 #[.pointer (some ⟨rb, 0, none⟩), .int .i64 t] w (DrawnL rb P w) := by
  have lr := h.lt
  have H := Lib.hid h; clear h
  have htt : IntKind.i64.wrap (2 * t) = 2 * t := IntWalk.i64_in _ (by omega)
  obtain ⟨i0, hi, hz0, hz1, hz2⟩ := info_parts infoInt
  go_enter Try.func46, Try.ntmps46
  go_wp2_with fail
  refine (l20Small_any rb P (2 * t) _ (by omega) (by omega) (by omega) (H.out.below (below1 _ _))).mono ?_; rintro e w2 ⟨W, T, a, n, c, xs, rfl, hm, h36, hs, o2, r2, g2⟩
  have HM := Lib.hid hm; clear hm
  have q2 := heap_grown (heap_new w (.cells #[.int .i64 0, .int .i64 0, .slice none 0 0] 25)) g2 (by intro e; have := Option.some.inj e; omega)
  have G2 := Lib.hid (grown_seq' (World.grownBy_alloc w _ _) g2)
  have O2 := Lib.hid (show OwnsB w2 (w.heap.size + 1) (.slice a n c) xs from by simpa using o2)
  have R2 := Lib.hid r2
  have lq := heap_lt q2
  clear o2 r2 g2 H
  obtain ⟨wB, hwB⟩ : ∃ wB, wB = w2.alloc (.cells #[.int .i64 W, .int .i64 T, .slice a n c] 25) := ⟨_, rfl⟩
  have LB : Hid (LS rb w w2.heap.size W T a n c xs (P + 310) (.slice none 0 0) wB) := by
    rw [hwB]
    exact ⟨heap_new _ _, heap_later q2 (below1 _ _), O2.out.alloc _, fun k e => O2.out.blkLt k e, ⟨none, 0, 0, [], rfl, rfl, by omega, OwnsI.nil _ _⟩, (R2.out.below (below1 _ _)).mono (by omega), grown_seq' G2.out (World.grownBy_alloc _ _ _), by simp, lq⟩
  obtain ⟨N, hN⟩ : ∃ N, N = w2.heap.size := ⟨_, rfl⟩
  rw [← hN] at LB
  have lrN : rb < N := by omega
  clear q2 G2 R2 O2
  obtain ⟨c0, c1, c2⟩ := cells3 LB.out.p
  go_upto_region 2 with fail
  rw [← hwB, ← hN]
  clear hwB hN lq htt
  go_cut [7, 8] (fun v7 v8 wx => ∃ b : Bool, v8 = .bool b ∧ LS rb w N W T a n c xs (P + 311) v7 wx)
  case first =>
    have SD : Hid (LS rb w N W T a n c xs (P + 310) (.slice none 0 0) wB.drew) := LB.out.below lr (drew_below _)
    obtain ⟨D, hD⟩ : ∃ D, tilT W T xs = D := ⟨_, rfl⟩
    have hD0 : -1 ≤ D ∧ D ≤ 100000000000 := by rw [← hD]; exact tilT_bd (by have := HM.out; omega)
    have HD := Lib.hid hD; clear hD
    obtain ⟨E, hE1, hE2, hE3, hE4⟩ := max_one D hD0.1 hD0.2
    have hE0 : ¬ E = 0 := by omega
    go_region_held3 (fun w' => w'.cell? ⟨N, 0, none⟩ = some (.int .i64 W) ∧ w'.cell? ⟨N, 1, none⟩ = some (.int .i64 T) ∧ w'.cell? ⟨N, 2, none⟩ = some (.slice a n c))
      (go_keep)
      (first
        | (go_at_call 96; refine (sTilingOf_ret _ _ _ _ _ xs _ _ HM.out (by omega) (OwnsB.at S9.out.o)).mono ?_; rintro e w10 ⟨a10, cap10, rfl, ho10, hb10⟩; have S10 := Lib.hid (S9.out.below lr hb10); obtain ⟨c100, c101, c102⟩ := cells3 S10.out.p)
        | (go_at_call 98; refine (sTilingsMany_any _ _ _ _ _ xs _ HM.out (by omega) (OwnsB.at S8.out.o)).mono ?_; rintro e w9 ⟨rfl, hb9⟩; have S9 := Lib.hid (S8.out.below lr hb9); obtain ⟨c90, c91, c92⟩ := cells3 S9.out.p; rw [HD.out])
        | (go_at_call 97; refine (pick_any rb _ 256 _ (by omega) (by omega) (by omega) SD.out.r).mono ?_; rintro e w8 ⟨x8, hx8, rfl, r8, g8⟩; have S8 := Lib.hid (SD.out.pick lr g8 r8); obtain ⟨c80, c81, c82⟩ := cells3 S8.out.p; obtain ⟨V, hV1, hV2, hV3, hV4, hV5, hV6, hV7⟩ := rem_small hE3 x8 hx8))
    all_goals
      go_wp2
      go_meet
      refine ⟨_, rfl, S10.out.list rfl ?_ ho10 (by have := S9.out.z; omega)⟩
      exact Nat.le_trans (tilOf_len _ _ _ _) (by have := HM.out; omega)
  case rest =>
  clear LB c0 c1 c2
  obtain ⟨b8, rfl, s8⟩ := hcut
  rename World => w8
  have S8 := Lib.hid s8; clear s8
  obtain ⟨la, m, lcap, L, rfl, hml, hm36, ol⟩ := S8.out.l
  have HML := Lib.hid hml; clear hml
  have OL := Lib.hid ol; clear ol
  obtain ⟨c0, c1, c2⟩ := cells3 S8.out.p
  go_upto_region 3 with fail
  go_cut [9] (fun v9 wx => LS rb w N W T a n c xs (P + 312) v9 wx)
  case first =>
    have SD : Hid (LS rb w N W T a n c xs (P + 311) (.slice la m lcap) w8.drew) := S8.out.below lr (drew_below _)
    have OD : Hid (OwnsI w8.drew (N + 1) (.slice la m lcap) L) := OL.out.below (drew_below _)
    go_region_held3 (fun w' => w'.cell? ⟨N, 0, none⟩ = some (.int .i64 W) ∧ w'.cell? ⟨N, 1, none⟩ = some (.int .i64 T) ∧ w'.cell? ⟨N, 2, none⟩ = some (.slice a n c))
      (go_keep)
      (first
        | (go_at_call 99; refine (sMakePuzzle_ret _ _ _ _ _ xs _ _ _ L _ _ HM.out (by omega) HML.out (by omega) (OwnsB.at S9.out.o) (OwnsI.at O9.out)).mono ?_; rintro e w10 ⟨a10, cap10, rfl, ho10, hb10⟩; have S10 := Lib.hid (S9.out.below lr hb10); obtain ⟨c100, c101, c102⟩ := cells3 S10.out.p)
        | (go_at_call 97; refine (pick_any rb _ 28 _ (by omega) (by omega) (by omega) SD.out.r).mono ?_; rintro e w9 ⟨x9, hx9, rfl, r9, g9⟩; have S9 := Lib.hid (SD.out.pick lr g9 r9); have O9 := Lib.hid (OwnsI.keptBy OD.out g9 (fun k e => by have := Option.some.inj e; omega)); obtain ⟨c90, c91, c92⟩ := cells3 S9.out.p))
    all_goals
      go_wp2
      go_meet
      refine S10.out.list rfl ?_ ho10 (by have := S9.out.z; omega)
      exact Nat.le_trans (mkF_le _ _ _ _ _) (by have := HML.out; omega)
  case rest =>
  clear S8 OL c0 c1 c2
  rename World => w9
  obtain ⟨ld, md, dcap, LD, rfl, -⟩ := hcut.l
  have S9 := Lib.hid hcut; clear hcut
  go_upto_region 4 with fail
  go_cut [38] (fun v38 wx => ∃ b : Bool, v38 = .bool b ∧ LS rb w N W T a n c xs (P + 313) (.slice ld md dcap) wx)
  case first =>
    cases b8
    · go_wp2
      go_meet
      exact ⟨true, rfl, S9.out.mono (by omega)⟩
    · go_wp2_with fail
      refine (pick_any rb _ 3 _ (by omega) (by omega) (by omega) S9.out.r).mono ?_; rintro e w4 ⟨x4, hx4, rfl, r4, g4⟩
      go_wp2
      go_meet
      exact ⟨_, rfl, S9.out.pick lr g4 r4⟩
  case rest =>
  clear S9
  obtain ⟨b4, rfl, s4⟩ := hcut
  rename World => w4
  have S4 := Lib.hid s4; clear s4
  go_upto_if 38 with fail
  go_cut [9] (fun v9 wx => LS rb w N W T a n c xs (P + 360) v9 wx)
  case first =>
    cases b4
    · go_wp2
      go_meet
      exact S4.out.mono (by omega)
    · have hN4 := S4.out.z
      have hy4 := S4.out.y
      obtain ⟨wE, hwE⟩ : ∃ wE, wE = w4.alloc (.cells #[] 3) := ⟨_, rfl⟩
      have SE : Hid (LS rb w N W T a n c xs (P + 313) (.slice (some ⟨w4.heap.size, 0, none⟩) 0 0) wE) := by
        rw [hwE]
        exact (S4.out.below lr (below1 _ _)).list (L := []) rfl (by omega) (own_nil7p w4 hN4) (Nat.le_refl _)
      go_wp2_with fail
      rw [← hwE]
      clear hwE S4
      refine (pick_any rb _ 6 _ (by omega) (by omega) (by omega) SE.out.r).mono ?_; rintro e w5 ⟨x5, hx5, rfl, r5, g5⟩
      have S5 := Lib.hid (SE.out.pick lr g5 r5)
      clear r5 g5 SE
      have hx5' : x5 ≤ 5 := by omega
      obtain ⟨D, hD⟩ : ∃ D : Int, IntKind.i64.wrap (2 + (x5 : Int)) = D := ⟨_, rfl⟩
      have hDv : D = 2 + x5 := by rw [← hD, IntWalk.i64_in _ (by omega)]
      obtain ⟨E, hE1, hE2, hE3, hE4⟩ := min_seven D (by omega) (by omega)
      clear hDv
      go_wp2
      go_loopw [9, 11] (fun v9 v11 wr => ∃ (k : Nat) (la : Option Addr) (lcap : Nat), k ≤ n ∧ v11 = .int .i64 k ∧ v9 = .slice la k lcap ∧ LS rb w N W T a n c xs (P + 315 + k) v9 wr) (fun _ v11 _ => n - (intOf v11).toNat)
      case atStart => exact ⟨0, _, _, Nat.zero_le _, rfl, rfl, S5.out.mono (by omega)⟩
      case round =>
        rename World => wo
        clear S5
        obtain ⟨k, la, lcap, hk, rfl, hv9, so⟩ := hrel
        have HV9 := Lib.hid hv9
        have SR := Lib.hid so; clear so
        obtain ⟨la', m', lcap', L', e1, hml, hm36, ol⟩ := SR.out.l
        rw [hv9] at e1
        clear hv9
        injection e1 with e11 e12 e13
        subst e11 e12 e13
        have HML := Lib.hid hml; clear hml
        have OL := Lib.hid ol; clear ol
        obtain ⟨c0, c1, c2⟩ := cells3 SR.out.p
        by_cases hlt : k < n
        · have e1 : (k : Int) < n := by omega
          have e0 : (0 : Int) ≤ k := by omega
          obtain ⟨ab, ao, rfl, hc⟩ := (OwnsB.at SR.out.o) k (by rw [← HM.out]; exact hlt)
          cases hb : xs.getD k false
          · rw [hb] at hc
            go_wp2_with (at_builtin; refine wpList_append_own _ rfl _ _ 26 rfl (N + 1) 3 i0 (.int .i64 0) 1 8 Try.underlying26 hi hz0 hz1 hz2 rfl (by decide) _ L'.length (L'.map (Value.int .i64)) rfl (World.ownsRow.alloc OL.out _) ⟨wo.heap.size, 0, none⟩ 1 1 [.int .i64 (-1)] rfl rfl (new_int _ _) (one_int _) (by unfold maxLen; have := HML.out; omega) (by have := HML.out; omega) (by have := SR.out.z; simp; omega) ?_; intro v' w8 hown' hgrow _; obtain ⟨a8, cap8, hv8, s8⟩ := LS.app1 (SR.out.below lr (below1 _ _)) lr HML.out (by omega) hgrow (OL.out.alloc _) (OwnsI.ofRow (xs := L' ++ [-1]) hown' (by simp) (by simp)); subst hv8; have S8 := Lib.hid s8; clear s8 hown' hgrow)
            go_roundw
            case rel => exact ⟨k + 1, _, _, by omega, by go_num, rfl, S8.out.mono (by omega)⟩
            case measure => simp [intOf]; omega
          · rw [hb] at hc
            go_wp2_with fail
            refine (pick_i rb (P + 315 + k) E _ (by omega) (by omega) (by omega) SR.out.r).mono ?_; rintro e w7 ⟨x7, hx7, rfl, r7, g7⟩
            have S7 := Lib.hid (SR.out.pick lr g7 r7)
            have OL7 := Lib.hid (OwnsI.keptBy OL.out g7 (fun q e => by have := Option.some.inj e; omega))
            clear r7 g7 OL c0 c1 c2
            have OL := OL7
            go_wp2_with (at_builtin; refine wpList_append_own _ rfl _ _ 26 rfl (N + 1) 3 i0 (.int .i64 0) 1 8 Try.underlying26 hi hz0 hz1 hz2 rfl (by decide) _ L'.length (L'.map (Value.int .i64)) rfl (World.ownsRow.alloc OL.out _) ⟨w7.heap.size, 0, none⟩ 1 1 [.int .i64 (x7 : Int)] rfl rfl (new_int _ _) (one_int _) (by unfold maxLen; have := HML.out; omega) (by have := HML.out; omega) (by have := S7.out.z; simp; omega) ?_; intro v' w8 hown' hgrow _; obtain ⟨a8, cap8, hv8, s8⟩ := LS.app1 (S7.out.below lr (below1 _ _)) lr HML.out (by omega) hgrow (OL.out.alloc _) (OwnsI.ofRow (xs := L' ++ [(x7 : Int)]) hown' (by simp) (by simp)); subst hv8; have S8 := Lib.hid s8; clear s8 hown' hgrow)
            go_roundw
            case rel => exact ⟨k + 1, _, _, by omega, by go_num, rfl, S8.out.mono (by omega)⟩
            case measure => simp [intOf]; omega
        · go_wp2
          go_meet
          exact SR.out.mono (by omega)
  case rest =>
  clear S4
  rename World => w5
  obtain ⟨le, me, ecap, LE, rfl, hme, hme36, oe⟩ := hcut.l
  have S5 := Lib.hid hcut; clear hcut
  have HME := Lib.hid hme; clear hme
  have OE := Lib.hid oe; clear oe
  have htt : IntKind.i64.wrap (2 * t) = 2 * t := IntWalk.i64_in _ (by omega)
  go_upto_region 13 with fail
  go_cut [73] (fun v73 wx => ∃ b : Bool, v73 = .bool b ∧ (b = true → 0 < me) ∧ LS rb w N W T a n c xs (P + 370) (.slice le me ecap) wx)
  case first =>
    go_wp2_with fail
    refine (odd_any rb _ (2 * t) _ (by omega) (by omega) (by omega) S5.out.r).mono ?_; rintro e w6 ⟨b6, rfl, r6, g6⟩
    have S6 := Lib.hid (S5.out.pick lr g6 r6)
    cases b6
    · go_wp2
      go_meet
      exact ⟨false, rfl, (fun e => nomatch e), S6.out.mono (by omega)⟩
    · by_cases hme0 : 0 < me
      · go_wp2
        go_meet
        exact ⟨true, rfl, fun _ => hme0, S6.out.mono (by omega)⟩
      · go_wp2
        go_meet
        exact ⟨false, rfl, (fun e => nomatch e), S6.out.mono (by omega)⟩
  case rest =>
  clear S5 OE HME htt
  obtain ⟨b7, rfl, hb7, s7⟩ := hcut
  rename World => w7
  have S7 := Lib.hid s7; clear s7
  go_upto_if 73 with fail
  go_cut [] (fun wx => LS rb w N W T a n c xs (P + 380) (.slice le me ecap) wx)
  case first =>
    cases b7
    · go_wp2
      go_meet
      exact S7.out.mono (by omega)
    · have hme0 := hb7 rfl
      obtain ⟨le', me', ecap', LE', e1, hme', hme36', oe'⟩ := S7.out.l
      injection e1 with e11 e12 e13
      subst e11 e12 e13
      obtain ⟨gD, cD, hv, hg1, hg2⟩ := oe'.posM (by omega)
      injection hv with hv1 hv2 hv3
      subst hv1
      have OE := Lib.hid oe'; clear oe' hv2 hv3
      have hml : me < 1000000 := by omega
      have HME := Lib.hid hme'; clear hme'
      go_wp2_with fail
      refine (pick_any rb _ me _ (by omega) (by omega) (by omega) S7.out.r).mono ?_; rintro e w8 ⟨y8, hy8, rfl, r8, g8⟩
      have S8 := Lib.hid (S7.out.pick lr g8 r8)
      have O8 := Lib.hid (OwnsI.keptBy OE.out g8 (fun q e => by have := Option.some.inj e; omega))
      clear r8 g8 S7 OE
      obtain ⟨wT, hwT⟩ : ∃ wT, wT = w8.alloc (.cells #[.int .i64 (-1), .int .i64 7, .int .i64 0] 3) := ⟨_, rfl⟩
      have pT : wT.heap[w8.heap.size]? = some (.cells #[.int .i64 (-1), .int .i64 7, .int .i64 0] 3 (0, 0)) := by rw [hwT]; exact heap_new _ _
      have ST := Lib.hid (show LS rb w N W T a n c xs _ (.slice (some ⟨gD, 0, none⟩) me ecap) wT by rw [hwT]; exact S8.out.below lr (below1 _ _))
      have OT := Lib.hid (show OwnsI wT (N + 1) (.slice (some ⟨gD, 0, none⟩) me ecap) LE' by rw [hwT]; exact O8.out.alloc _)
      have hz8 := S8.out.z
      clear S8 O8
      go_wp2_with fail
      rw [← hwT]
      clear hwT
      refine (pick_any rb _ 3 _ (by omega) (by omega) (by omega) ST.out.r).mono ?_; rintro e w9 ⟨z9, hz9, rfl, r9, g9⟩
      have S9 := Lib.hid (ST.out.pick lr g9 r9)
      have O9 := Lib.hid (OwnsI.keptBy OT.out g9 (fun q e => by have := Option.some.inj e; omega))
      have p9 := heap_grown pT g9 (by intro e; have := Option.some.inj e; omega)
      clear r9 g9 ST OT pT
      obtain ⟨c0, c1, c2⟩ := cells3 p9
      obtain ⟨u9, hu9⟩ : ∃ u9 : Int, w9.cell? ⟨w8.heap.size, z9, none⟩ = some (.int .i64 u9) := by
        rcases (by omega : z9 = 0 ∨ z9 = 1 ∨ z9 = 2) with rfl | rfl | rfl
        · exact ⟨_, c0⟩
        · exact ⟨_, c1⟩
        · exact ⟨_, c2⟩
      have z90 : (0 : Int) ≤ z9 := by omega
      have z91 : (z9 : Int) < 3 := by omega
      have y80 : (0 : Int) ≤ y8 := by omega
      have y81 : (y8 : Int) < me := by omega
      have hc9 := O9.out.cell (k := y8) (by rw [← HME.out]; exact hy8)
      have hf9 := O9.out.free y8
      clear c0 c1 c2 p9
      go_wp2
      go_meet
      exact (S9.out.store lr y8 u9).mono (by omega)
  case rest =>
  clear S7
  rename World => w8
  have S8 := Lib.hid hcut; clear hcut
  obtain ⟨c0, c1, c2⟩ := cells3 S8.out.p
  have q8 := S8.out.q
  obtain ⟨d0, d1, d2⟩ := cells3 q8
  have f0 := free3 q8 0
  have f1 := free3 q8 1
  have f2 := free3 q8 2
  go_wp2
  refine bodyPost_ret (v := .tuple #[.agg #[.int .i64 W, .int .i64 T, .slice a n c], .slice le me ecap]) (by simp [results, Try.results46, go_sem, d0, d1, d2]) rfl ?_
  exact S8.out.done lr HM.out h36 hs (by omega)

end Go.Proofs.Ytpcajacekmidbaa

namespace Go.Proofs.Ytpcajacekmidbaa
open Go.RowKit
set_option linter.unusedVariables false
set_option maxRecDepth 100000
set_option linter.unusedSimpArgs false

def DrawnPz (w : World) (e : Ending) (w' : World) : Prop :=
  ∃ (W T : Int) (a : Option Addr) (n cap : Nat) (xs : List Bool) (la : Option Addr) (m lcap : Nat) (L : List Int), e = .returned (.tuple #[.agg #[.int .i64 W, .int .i64 T, .slice a n cap], .slice la m lcap]) ∧ n = xs.length ∧ n ≤ 36 ∧ (0 ≤ W ∧ W ≤ 6 ∧ 0 ≤ T ∧ T ≤ 6) ∧ OwnsB w' (w.heap.size + 1) (.slice a n cap) xs ∧ m = L.length ∧ m ≤ 36 ∧ OwnsI w' (w.heap.size + 1) (.slice la m lcap) L ∧ Below w.heap.size w w'
theorem OwnsI.set3p {w : World} {B : Nat} {v : Value} {xs : List Int} (h : OwnsI w B v xs) {b : Nat} (hb : b < B) (x y z : Value) : OwnsI (((w.setCell ⟨b, 0, none⟩ x).setCell ⟨b, 1, none⟩ y).setCell ⟨b, 2, none⟩ z) B v xs :=
  ((h.setBelow (p := ⟨b, 0, none⟩) hb x).setBelow (p := ⟨b, 1, none⟩) hb y).setBelow (p := ⟨b, 2, none⟩) hb z

set_option maxHeartbeats 4000000 in
theorem drawPuzzleValid_any (cb : Option Addr) (n cap : Nat) (zs : List Int) (w : World) (hn : n = zs.length) (hn' : n ≤ 1048576) (hcap : n ≤ cap) (hb : BytesAt w cb zs) :
    Calls Try.prog 10 #[.slice cb n cap] w (DrawnPz w) := by
  have HN := Lib.hid hn; clear hn
  have HB := Lib.hid hb; clear hb
  go_enter Try.func10, Try.ntmps10
  go_wp2_with fail
  refine (l20Open_any _ _ _ zs _ HN.out hn' hcap (HB.out.below (below1 _ _))).mono ?_; rintro e w1 ⟨rfl, r1, b1⟩
  have q1 := heap_later (heap_new w (.cells #[.int .i64 0, .int .i64 0, .slice none 0 0] 25)) b1
  have B1 := Lib.hid (below_seq (below1 w _) b1)
  have R1 : Hid (RD w1 (w.heap.size + 1) 0) := by show RD _ _ _; simpa using r1
  have l1 := heap_lt q1
  have l2 := R1.out.lt
  clear r1 b1
  go_wp2_with fail
  refine (l20Puzzle_any (w.heap.size + 1) 0 2 _ (by omega) (by omega) (by omega) R1.out).mono ?_; rintro e w2 ⟨W, T, a, m, c, xs, la, q, lcap, L, rfl, hm, h36, hs, o2, hq, hq36, i2, r2, g2⟩
  have q2 := heap_grown q1 g2 (by simp)
  have B2 := Lib.hid (below_grown B1.out g2 (Nat.le_refl _) (fun k e => by cases e; omega))
  have HM := Lib.hid hm
  have HQ := Lib.hid hq
  have O2 := Lib.hid o2
  have I2 := Lib.hid i2
  clear o2 r2 g2 hm hq i2
  obtain ⟨d0, d1, d2⟩ := cells3 q2
  have f0 := free3 q2 0
  have f1 := free3 q2 1
  have f2 := free3 q2 2
  go_wp2
  refine bodyPost_ret (v := .tuple #[.agg #[.int .i64 W, .int .i64 T, .slice a m c], .slice la q lcap]) (by simp [results, Try.results10, go_sem, d0, d1, d2]) rfl ⟨W, T, a, m, c, xs, la, q, lcap, L, rfl, HM.out, h36, hs, ?_, HQ.out, hq36, ?_, below_set3 B2.out (Nat.le_refl _) _ _ _⟩
  · exact (O2.out.set3 (by omega) _ _ _).lower (by omega)
  · exact (I2.out.set3p (by omega) _ _ _).lower (by omega)

/-- The same number everywhere: the first k cells. -/
def zeroL (D : List Int) (k : Nat) : List Int := (List.range k).map fun i => min (D.getD i 0) 0
theorem zeroL_len (D : List Int) (k : Nat) : (zeroL D k).length = k := by simp [zeroL]
theorem zeroL_succ (D : List Int) (k : Nat) : zeroL D (k + 1) = zeroL D k ++ [min (D.getD k 0) 0] := by
  unfold zeroL; rw [List.range_succ, List.map_append]; rfl
theorem zeroL_get {D : List Int} {k i : Nat} (h : i < k) : (zeroL D k).getD i 0 = min (D.getD i 0) 0 := by simp [zeroL, h]
theorem zero_ok {W T : Int} {xs : List Bool} {D : List Int} (h : pzv W T xs D = true) : pzv W T xs (zeroL D D.length) = true := by
  obtain ⟨h1, h2, h3⟩ := pzv_rv h
  refine pzv_yes h1 (by rw [zeroL_len]; exact h2) ?_
  unfold pzN
  rw [List.all_eq_true]
  intro k hk
  rw [List.mem_range, zeroL_len] at hk
  have h4 := h3 k hk
  cases hx : xs.getD k false
  · rw [pzAt_out hx] at h4 ⊢
    rw [zeroL_get hk]
    have : D.getD k 0 = -1 := by simpa using h4
    rw [this]; rfl
  · rw [pzAt_in hx] at h4 ⊢
    rw [zeroL_get hk]
    have := dig_bd h4
    rw [show min (D.getD k 0) 0 = 0 by omega]; rfl
theorem more_no {W T : Int} {xs : List Bool} {D E : List Int} (h : pzv W T xs D = true) (hl : E.length = D.length) : pzv W T xs (E ++ [-1]) = false := by
  cases hc : pzv W T xs (E ++ [-1])
  · rfl
  · have h1 := (pzv_rv h).2.1
    have h2 := (pzv_rv hc).2.1
    rw [List.length_append] at h2
    simp at h2
    omega
theorem min_zero (D : Int) : (if D < 0 then D else (0 : Int)) = min D 0 ∧ (if (0 : Int) < D then (0 : Int) else D) = min D 0 := by
  constructor <;> split <;> omega
set_option maxHeartbeats 4000000 in
theorem promPuzzleValid_walk (cb : Option Addr) (n cap : Nat) (zs : List Int) (w : World) (hn : n = zs.length) (hn' : n ≤ maxLen) (hcap : n ≤ cap) (hb : BytesAt w cb zs) :
    Calls Try.prog 3 #[.slice cb n cap] w fun e w' => e = .returned (.bool true) ∧ Below w.heap.size w w' := by
  have HN := Lib.hid hn; clear hn
  have HB := Lib.hid hb; clear hb
  by_cases hbig : 1048576 < n
  · unfold maxLen at hn'
    go_enter Try.func3, Try.ntmps3
    go_wp2
    go_ret
    exact ⟨rfl, Below.refl _ _⟩
  have hsm : n ≤ 1048576 := by omega
  clear hbig hn'
  go_enter Try.func3, Try.ntmps3
  go_wp2_with fail
  refine (drawPuzzleValid_any _ _ _ zs _ HN.out hsm hcap HB.out).mono ?_; rintro e w1 ⟨W0, T0, a, m, c, xs, la, q, lcap, L, rfl, hm, h36, hs, ho, hq, hq36, hi1, b1⟩
  obtain ⟨i0, hi, hz0, hz1, hz2⟩ := info_parts infoInt
  have HM := Lib.hid hm; clear hm
  have HQ := Lib.hid hq; clear hq
  obtain ⟨E, hE⟩ : ∃ E, E = w1.heap.size := ⟨_, rfl⟩
  obtain ⟨wA, hwA⟩ : ∃ wA, wA = w1.alloc (.cells #[.int .i64 W0, .int .i64 T0, .slice a m c] 25) := ⟨_, rfl⟩
  have pA : wA.heap[E]? = some (.cells #[.int .i64 W0, .int .i64 T0, .slice a m c] 25 (0, 0)) := by rw [hwA, hE]; exact heap_new _ _
  have AX := Lib.hid (show BoolsAt wA a xs by rw [hwA]; exact OwnsB.at (ho.alloc _)); clear ho
  have LX := Lib.hid (show IntsAt wA la L by rw [hwA]; exact OwnsI.at (hi1.alloc _)); clear hi1
  have BA := Lib.hid (show Below w.heap.size w wA by rw [hwA]; exact below_seq b1 (below1 _ _)); clear b1
  obtain ⟨c0, c1, c2⟩ := cells3 pA
  go_wp2_with fail
  rw [← hwA]
  try rw [← hE]
  clear hwA hE
  refine (iPuzzleValid_any _ _ _ _ _ xs _ _ _ L _ HM.out (by omega) HQ.out (by omega) AX.out LX.out).mono ?_; rintro e w2 ⟨rfl, hb2⟩
  have p2 := heap_later pA hb2
  have A2 := Lib.hid (AX.out.below hb2)
  have L2 := Lib.hid (LX.out.below hb2)
  have B2 := Lib.hid (below_seq BA.out hb2)
  clear hb2 pA AX LX BA c0 c1 c2
  obtain ⟨c0, c1, c2⟩ := cells3 p2
  go_wp2_with fail
  refine (sPuzzleValid_any _ _ _ _ _ xs _ _ _ L _ HM.out (by omega) HQ.out (by omega) A2.out L2.out).mono ?_; rintro e w3 ⟨rfl, hb3⟩
  have p3 := heap_later p2 hb3
  have A3 := Lib.hid (A2.out.below hb3)
  have L3 := Lib.hid (L2.out.below hb3)
  have B3 := Lib.hid (below_seq B2.out hb3)
  clear hb3 p2 A2 L2 B2 c0 c1 c2
  obtain ⟨pv, hpv⟩ : ∃ pv, pzv W0 T0 xs L = pv := ⟨_, rfl⟩
  rw [hpv]
  have HPV := Lib.hid hpv; clear hpv
  cases pv
  · go_wp2_with fail
    refine (alive_any _).mono ?_; rintro e w4 ⟨rfl, hb4⟩
    go_wp2
    go_ret
    exact ⟨rfl, below_seq B3.out hb4⟩
  · have HZ := Lib.hid (zero_ok HPV.out)
    have HNO := Lib.hid (more_no (E := zeroL L L.length) HPV.out (zeroL_len _ _))
    rw [← HQ.out] at HZ HNO
    clear HPV
    obtain ⟨wE, hwE⟩ : ∃ wE, wE = w3.alloc (.cells #[] 3) := ⟨_, rfl⟩
    have hEl := heap_lt p3
    have OE := Lib.hid (show OwnsI wE w3.heap.size (.slice (some ⟨w3.heap.size, 0, none⟩) 0 0) [] by rw [hwE]; exact own_nil7p w3 (Nat.le_refl _))
    have BE := Lib.hid (show Below w3.heap.size w3 wE by rw [hwE]; exact below1 _ _)
    go_wp2
    rw [← hwE]
    clear hwE
    go_loopw [6, 7] (fun v i wr => ∃ k : Nat, k ≤ q ∧ i = .int .i64 k ∧ OwnsI wr w3.heap.size v (zeroL L k) ∧ Below w3.heap.size w3 wr) (fun _ i _ => q - (intOf i).toNat)
    case atStart => exact ⟨0, Nat.zero_le _, rfl, OE.out, BE.out⟩
    case round =>
      rename World => wo
      clear OE BE
      obtain ⟨k, hk, rfl, so, bo⟩ := hrel
      have OK := Lib.hid so; clear so
      have BK := Lib.hid bo; clear bo
      have zo := BK.out.size
      have hlk := zeroL_len L k
      have HLK := Lib.hid hlk; clear hlk
      by_cases hlt : k < q
      · have e1 : (k : Int) < q := by omega
        have e0 : (0 : Int) ≤ k := by omega
        obtain ⟨lb, lo, rfl, hc⟩ := (L3.out.below BK.out) k (by rw [← HQ.out]; exact hlt)
        obtain ⟨x, hx⟩ : ∃ x, x = L.getD k 0 := ⟨_, rfl⟩
        rw [← hx] at hc
        obtain ⟨hm1, hm2⟩ := min_zero x
        obtain ⟨z, hz⟩ : ∃ z, z = min x 0 := ⟨_, rfl⟩
        rw [← hz] at hm1 hm2
        have HZZ := Lib.hid (show zeroL L (k + 1) = zeroL L k ++ [z] by rw [hz, hx]; exact zeroL_succ L k)
        clear hz hx
        go_wp2_with (at_builtin; refine wpList_append_own _ rfl _ _ 26 rfl w3.heap.size 3 i0 (.int .i64 0) 1 8 Try.underlying26 hi hz0 hz1 hz2 rfl (by decide) _ (zeroL L k).length ((zeroL L k).map (Value.int .i64)) rfl (World.ownsRow.alloc OK.out _) ⟨wo.heap.size, 0, none⟩ 1 1 [.int .i64 z] rfl rfl (new_int _ _) (one_int _) (by unfold maxLen; have := HLK.out; omega) (by have := HLK.out; omega) (by simp; omega) ?_; intro v' w8 hown' hgrow _; have O8 := Lib.hid (OwnsI.ofRow (xs := zeroL L (k + 1)) hown' (by rw [HZZ.out]; simp) (by rw [HZZ.out]; simp)); have B8 := Lib.hid (below_grown (below_seq BK.out (below1 _ _)) hgrow (Nat.le_refl _) (OK.out.ownAt (by omega))); clear hown' hgrow)
        go_roundw
        case rel => exact ⟨k + 1, by omega, by go_num, O8.out, B8.out⟩
        case measure => simp [intOf]; omega
      · obtain rfl : k = q := by omega
        have p5 := heap_later p3 BK.out
        have A5 := Lib.hid (A3.out.below BK.out)
        clear L3
        obtain ⟨c0, c1, c2⟩ := cells3 p5
        have l5 := heap_lt p5
        rename Value => v
        obtain ⟨sa, scap, rfl⟩ := OK.out.form2
        rw [HLK.out] at OK
        try rw [HLK.out]
        have CC : ∀ w' : World, Below w3.heap.size w3 w' → w'.cell? ⟨E, 0, none⟩ = some (.int .i64 W0) ∧ w'.cell? ⟨E, 1, none⟩ = some (.int .i64 T0) ∧ w'.cell? ⟨E, 2, none⟩ = some (.slice a m c) := fun w' hb => by
          obtain ⟨d0, d1, d2⟩ := cells3 (heap_later p3 hb)
          exact ⟨d0, d1, d2⟩
        have CCH := Lib.hid CC; clear CC
        go_wp2_with fail
        refine cut_region (fun a0 a' w' => ∃ (v42 v43 v44 v45 v46 v47 v48 v49 v50 v51 v52 : Value), a' = ((((((((((((a0.put (some 42) v42).put (some 43) v43).put (some 44) v44).put (some 45) v45).put (some 46) v46).put (some 47) v47).put (some 48) v48).put (some 49) v49).put (some 50) v50).put (some 51) v51).put (some 52) v52).put (some 2) (.bool true)) ∧ Below w3.heap.size w3 w') ?_ ?_
        · have HSD := Lib.hid (CCH.out wo.drew (below_seq BK.out (drew_below _)))
          refine wp_region_till (fun w' : World => w'.cell? ⟨E, 0, none⟩ = some (.int .i64 W0) ∧ w'.cell? ⟨E, 1, none⟩ = some (.int .i64 T0) ∧ w'.cell? ⟨E, 2, none⟩ = some (.slice a m c)) 11 (by kernel_rfl) ?_
          refine Till.take (i := 0) (v := ?_) rfl (by kernel_rfl) (by kernel_rfl) (by kernel_rfl) (by kernel_rfl) (by first | exact (fun _ _ _ h => nomatch h.1) | exact (fun _ _ _ h => h)) (Or.inl ⟨by kernel_rfl, ?_⟩) HSD.out ?_
          rotate_left
          · intro ws hsw
            obtain ⟨s1, s2, s3⟩ := hsw
            go_simp
            try with_reducible rfl
          try simp only [Act.put, List.setIfInBounds_toArray, List.set_cons_zero, List.set_cons_succ]
          refine Till.take (i := 1) (v := ?_) rfl (by kernel_rfl) (by kernel_rfl) (by kernel_rfl) (by kernel_rfl) (by first | exact (fun _ _ _ h => nomatch h.1) | exact (fun _ _ _ h => h)) (Or.inl ⟨by kernel_rfl, ?_⟩) HSD.out ?_
          rotate_left
          · intro ws hsw
            obtain ⟨s1, s2, s3⟩ := hsw
            go_simp
            try with_reducible rfl
          try simp only [Act.put, List.setIfInBounds_toArray, List.set_cons_zero, List.set_cons_succ]
          refine Till.one (i := 2) (by kernel_rfl) rfl (by rfl) (fun K hK => ?_)
          go_simp
          refine (iPuzzleValid_any _ _ _ _ _ xs _ _ _ (zeroL L k) _ HM.out (by omega) HLK.out.symm (by omega) (A5.out.below (drew_below _)) (OwnsI.at (OK.out.below (drew_below _)))).mono ?_; rintro e w6 ⟨rfl, hb6⟩
          rw [HZ.out]
          have W6 := Lib.hid (below_seq BK.out (below_seq (drew_below wo) hb6))
          have O6 := Lib.hid ((OK.out.below (drew_below _)).below hb6)
          have z6 := W6.out.size
          have A6 := Lib.hid (A3.out.below W6.out)
          clear hb6
          refine hK.out _ _ (fun _ => CCH.out _ W6.out) ?_
          clear hK K
          refine Till.one (i := 3) (by kernel_rfl) rfl (by rfl) (fun K hK => ?_)
          go_simp
          refine hK.out _ _ (fun _ => CCH.out _ W6.out) ?_
          clear hK K
          refine Till.take (i := 4) (v := ?_) rfl (by kernel_rfl) (by kernel_rfl) (by kernel_rfl) (by kernel_rfl) (by first | exact (fun _ _ _ h => nomatch h.1) | exact (fun _ _ _ h => h)) (Or.inl ⟨by kernel_rfl, ?_⟩) (CCH.out _ W6.out) ?_
          rotate_left
          · intro ws hsw
            obtain ⟨s1, s2, s3⟩ := hsw
            go_simp
            try with_reducible rfl
          try simp only [Act.put, List.setIfInBounds_toArray, List.set_cons_zero, List.set_cons_succ]
          refine Till.take (i := 5) (v := ?_) rfl (by kernel_rfl) (by kernel_rfl) (by kernel_rfl) (by kernel_rfl) (by first | exact (fun _ _ _ h => nomatch h.1) | exact (fun _ _ _ h => h)) (Or.inl ⟨by kernel_rfl, ?_⟩) (CCH.out _ W6.out) ?_
          rotate_left
          · intro ws hsw
            obtain ⟨s1, s2, s3⟩ := hsw
            go_simp
            try with_reducible rfl
          try simp only [Act.put, List.setIfInBounds_toArray, List.set_cons_zero, List.set_cons_succ]
          refine Till.one (i := 6) (by kernel_rfl) rfl (by rfl) (fun K hK => ?_)
          go_simp
          have W7 := Lib.hid (show Below w3.heap.size w3 (w6.alloc (.cells #[.int .i64 (-1)] 3)) from below_seq W6.out (below1 _ _))
          refine hK.out _ _ (fun _ => CCH.out _ W7.out) ?_
          clear hK K
          refine Till.one (i := 7) (by kernel_rfl) rfl (by rfl) (fun K hK => ?_)
          rw [if_pos (by rfl)]
          refine wp_append_lies _ _ _ 26 rfl w3.heap.size 3 i0 (.int .i64 0) 1 8 Try.underlying26 hi hz0 hz1 hz2 rfl (by decide) (.slice sa k scap) (zeroL L k).length ((zeroL L k).map (Value.int .i64)) rfl (World.ownsRow.alloc O6.out _) ⟨w6.heap.size, 0, none⟩ 1 1 [.int .i64 (-1)] rfl rfl (new_int w6 _) (one_int _) (by omega) (by unfold maxLen; have := HLK.out; omega) (by have := HLK.out; omega) (by simp; omega) _ rfl ?_
          intro g' c' w7 hown7 hgrow7 _ _
          have hb7 := below_grown W7.out hgrow7 (Nat.le_refl _) (OK.out.ownAt (Nat.le_refl _))
          have W8 := Lib.hid hb7; clear hb7
          have OW7 := Lib.hid (OwnsI.ofRow (xs := zeroL L k ++ [-1]) hown7 (by simp) (by simp)); clear hown7 hgrow7
          refine hK.out _ _ (fun _ => CCH.out _ W8.out) ?_
          clear hK K
          refine Till.one (i := 8) (by kernel_rfl) rfl (by rfl) (fun K hK => ?_)
          go_simp
          refine (iPuzzleValid_any _ _ _ _ _ xs _ _ _ (zeroL L k ++ [-1]) _ HM.out (by omega) (by rw [List.length_append]; rfl) (by have := HLK.out; omega) (A3.out.below W8.out) (OwnsI.at OW7.out)).mono ?_; rintro e w9 ⟨rfl, hb9⟩
          rw [HNO.out]
          have W9 := Lib.hid (below_seq W8.out hb9)
          clear hb9
          refine hK.out _ _ (fun _ => CCH.out _ W9.out) ?_
          clear hK K
          refine Till.one (i := 9) (by kernel_rfl) rfl (by rfl) (fun K hK => ?_)
          go_simp
          refine hK.out _ _ (fun _ => CCH.out _ W9.out) ?_
          clear hK K
          refine Till.one (i := 10) (by kernel_rfl) rfl (by rfl) (fun K hK => ?_)
          go_simp
          refine hK.out _ _ (fun _ => CCH.out _ W9.out) ?_
          clear hK K
          refine Till.one (i := 11) (by kernel_rfl) rfl (by rfl) (fun K hK => ?_)
          go_simp
          refine hK.out _ _ (fun h => absurd rfl h) ?_
          clear hK K
          exact Till.done (by kernel_rfl) ⟨rfl, _, _, _, _, _, _, _, _, _, _, _, rfl, W9.out⟩ _
        · rintro a' w7 ⟨v42, v43, v44, v45, v46, v47, v48, v49, v50, v51, v52, rfl, hb7⟩
          try simp only [Act.put, List.setIfInBounds_toArray, List.set_cons_zero, List.set_cons_succ]
          go_wp2
          go_ret
          exact ⟨rfl, below_seq B3.out hb7⟩

end Go.Proofs.Ytpcajacekmidbaa
