/- The law FnFlipOne: its walk. -/
import Derived.Test.YtknigcjpgkolgaaJLaidN
namespace Go.Proofs.Ytknigcjpgkolgaa
open Go.RowKit
set_option linter.unusedVariables false
set_option maxRecDepth 100000
set_option linter.unusedSimpArgs false
theorem tok_flipI {W T : Int} {xs : List Bool} {L : List Int} {c : Int} (h : tok W T xs L = true) (hm : mayB W T L c = true) : tok W T xs (flipL W T L c) = true := by
  obtain ⟨k, rfl, _⟩ := may_nat (tok_lok1 h) hm
  exact tok_flip h hm
theorem sameInts_lenQ (a b : Option Addr) (n n' cap cap' : Nat) (w : World) (hne : n ≠ n') (h1 : n ≤ 1048576) (h2 : n' ≤ 1048576) :
    Calls Try.prog 16 #[.slice a n cap, .slice b n' cap'] w fun e w' => e = .returned (.bool false) ∧ Below w.heap.size w w' := by
  have hne' : ((n : Int) != n') = true := by simp; omega
  have hne2 : ¬ (n : Int) = n' := by omega
  go_enter Try.func16, Try.ntmps16
  go_wp2
  go_ret
  exact ⟨rfl, Below.refl _ _⟩


set_option maxHeartbeats 8000000 in
theorem promFlipOne_walk (cb : Option Addr) (n cap : Nat) (zs : List Int) (w : World) (hn : n = zs.length) (hn' : n ≤ maxLen) (hcap : n ≤ cap) (hb : BytesAt w cb zs) :
    Calls Try.prog 12 #[.slice cb n cap] w fun e w' => e = .returned (.bool true) ∧ Below w.heap.size w w' := by
  have HN := Lib.hid hn; clear hn
  have HB := Lib.hid hb; clear hb
  by_cases hbig : 1048576 < n
  · unfold maxLen at hn'
    go_enter Try.func12, Try.ntmps12
    go_wp2
    go_ret
    exact ⟨rfl, Below.refl _ _⟩
  have hsm : n ≤ 1048576 := by omega
  clear hbig hn'
  go_enter Try.func12, Try.ntmps12
  go_wp2_with fail
  refine (drawFlipOne_any _ _ _ zs _ HN.out hsm hcap HB.out).mono ?_; rintro e w1 ⟨W0, T0, a, m, c, xs, la, q, lcap, L, k0, rfl, hm, h36, hs, ho, hq, hq36, hi, hk0, b1⟩
  have HM := Lib.hid hm; clear hm
  have HQ := Lib.hid hq; clear hq
  have A1 := Lib.hid (OwnsB.at ho); clear ho
  have I1 := Lib.hid (OwnsI.at hi); clear hi
  obtain ⟨s0, s1, s2, s3⟩ := hs
  obtain ⟨R, hR⟩ : ∃ R, flpF W0 T0 xs L k0 = R := ⟨_, rfl⟩
  have hRl : R.1.length ≤ q := by rw [← hR, HQ.out]; exact flpF_len _ _ _ _ _
  obtain ⟨X, ok⟩ := R
  simp only at hRl
  obtain ⟨x, hx⟩ : ∃ x, x = X.length := ⟨_, rfl⟩
  rw [← hx] at hRl
  have HRR := Lib.hid hR; clear hR
  have HX := Lib.hid hx; clear hx
  have hbb : (ok != ok) = false := by simp
  go_wp2_with fail
  refine (iFlipOne_ret _ _ _ _ _ xs _ _ _ L _ _ HM.out (by omega) HQ.out (by omega) (by omega) (A1.out.one _) (I1.out.one _)).mono ?_; rintro e w2 ⟨a2, cap2, rfl, ho2, hb2⟩
  rw [HRR.out] at ho2 ⊢
  simp only at ho2 ⊢
  rw [← HX.out] at ho2 ⊢
  have b2 := below_seq (below_seq b1 (below1 _ _)) hb2
  have pr2 := heap_later (heap_new w1 (.cells #[.int .i64 W0, .int .i64 T0, .slice a m c] 25)) hb2
  have A2 := Lib.hid ((A1.out.one (.cells #[.int .i64 W0, .int .i64 T0, .slice a m c] 25)).below hb2)
  have I2 := Lib.hid ((I1.out.one (.cells #[.int .i64 W0, .int .i64 T0, .slice a m c] 25)).below hb2)
  have X2 := Lib.hid (OwnsI.at ho2)
  obtain ⟨cr20, cr21, cr22⟩ := cells3 pr2
  have lr2 := heap_lt pr2
  clear ho2
  go_wp2_with fail
  refine (sFlipOne_ret _ _ _ _ _ xs _ _ _ L _ _ HM.out (by omega) HQ.out (by omega) A2.out I2.out).mono ?_; rintro e w3 ⟨a3, cap3, rfl, ho3, hb3⟩
  rw [HRR.out] at ho3 ⊢
  simp only at ho3 ⊢
  rw [← HX.out] at ho3 ⊢
  have b3 := below_seq b2 hb3
  have pr3 := heap_later pr2 hb3
  have A3 := Lib.hid (A2.out.below hb3)
  have I3 := Lib.hid (I2.out.below hb3)
  have X3 := Lib.hid (X2.out.below hb3)
  have Y3 := Lib.hid (OwnsI.at ho3)
  clear cr20 cr21 cr22 lr2
  obtain ⟨cr30, cr31, cr32⟩ := cells3 pr3
  have lr3 := heap_lt pr3
  clear ho3
  go_wp2_with fail
  refine (sameInts_same _ _ _ _ _ X _ HX.out (by omega) X3.out Y3.out).mono ?_; rintro e w4 ⟨rfl, hb4⟩
  have b4 := below_seq b3 hb4
  have pr4 := heap_later pr3 hb4
  have A4 := Lib.hid (A3.out.below hb4)
  have I4 := Lib.hid (I3.out.below hb4)
  have X4 := Lib.hid (X3.out.below hb4)
  have Y4 := Lib.hid (Y3.out.below hb4)
  clear cr30 cr31 cr32 lr3
  obtain ⟨cr40, cr41, cr42⟩ := cells3 pr4
  have lr4 := heap_lt pr4
  cases ok
  · cases hlk : lok W0 T0 xs L
    · obtain rfl : X = [] := by have := HRR.out; unfold flpF at this; rw [hlk] at this; simp at this; exact this
      have hx0 : x = 0 := HX.out
      subst hx0
      have HLK := Lib.hid hlk; clear hlk
      by_cases hq0 : q = 0
      · subst hq0
        obtain rfl : L = [] := List.eq_nil_of_length_eq_zero HQ.out.symm
        go_wp2_with fail
        refine (sameInts_same _ _ 0 _ _ ([] : List Int) _ rfl (by omega) X4.out I4.out).mono ?_; rintro e w5 ⟨rfl, hb5⟩
        have b5 := below_seq b4 hb5
        have pr5 := heap_later pr4 hb5
        have A5 := Lib.hid (A4.out.below hb5)
        have I5 := Lib.hid (I4.out.below hb5)
        have X5 := Lib.hid (X4.out.below hb5)
        clear cr40 cr41 cr42 lr4
        obtain ⟨cr50, cr51, cr52⟩ := cells3 pr5
        have lr5 := heap_lt pr5
        go_wp2_with fail
        refine (alive_any _).mono ?_; rintro e w6 ⟨rfl, hb6⟩
        go_wp2
        go_ret
        exact ⟨rfl, below_seq b5 hb6⟩
      · skip
        go_wp2_with fail
        refine (sameInts_lenQ _ _ _ _ _ _ _ (by omega) (by omega) (by omega)).mono ?_; rintro e w5 ⟨rfl, hb5⟩
        have b5 := below_seq b4 hb5
        have pr5 := heap_later pr4 hb5
        have A5 := Lib.hid (A4.out.below hb5)
        have I5 := Lib.hid (I4.out.below hb5)
        have X5 := Lib.hid (X4.out.below hb5)
        clear cr40 cr41 cr42 lr4
        obtain ⟨cr50, cr51, cr52⟩ := cells3 pr5
        have lr5 := heap_lt pr5
        go_wp2_with fail
        refine (iLaidOk_any _ _ _ _ _ xs _ _ _ L _ HM.out (by omega) HQ.out (by omega) A5.out I5.out).mono ?_; rintro e w6 ⟨rfl, hb6⟩
        rw [HLK.out]
        have b6 := below_seq b5 hb6
        have pr6 := heap_later pr5 hb6
        have A6 := Lib.hid (A5.out.below hb6)
        have I6 := Lib.hid (I5.out.below hb6)
        have X6 := Lib.hid (X5.out.below hb6)
        clear cr50 cr51 cr52 lr5
        obtain ⟨cr60, cr61, cr62⟩ := cells3 pr6
        have lr6 := heap_lt pr6
        go_wp2_with fail
        refine (alive_any _).mono ?_; rintro e w7 ⟨rfl, hb7⟩
        go_wp2
        go_ret
        exact ⟨rfl, below_seq b6 hb7⟩
    · have hXL : X = L := by
        have := HRR.out
        unfold flpF at this
        rw [hlk, if_pos rfl] at this
        injection this with e1 e2
        rw [← e1]; unfold flipL; rw [e2]; rfl
      subst hXL
      obtain rfl : x = q := HX.out.trans HQ.out.symm
      clear hlk
      go_wp2_with fail
      refine (sameInts_same _ _ _ _ _ X _ HX.out (by omega) X4.out I4.out).mono ?_; rintro e w5 ⟨rfl, hb5⟩
      have b5 := below_seq b4 hb5
      have pr5 := heap_later pr4 hb5
      have A5 := Lib.hid (A4.out.below hb5)
      have I5 := Lib.hid (I4.out.below hb5)
      have X5 := Lib.hid (X4.out.below hb5)
      clear cr40 cr41 cr42 lr4
      obtain ⟨cr50, cr51, cr52⟩ := cells3 pr5
      have lr5 := heap_lt pr5
      go_wp2_with fail
      refine (alive_any _).mono ?_; rintro e w6 ⟨rfl, hb6⟩
      go_wp2
      go_ret
      exact ⟨rfl, below_seq b5 hb6⟩
  · obtain ⟨hlk, hmay, hXe⟩ : lok W0 T0 xs L = true ∧ mayB W0 T0 L k0 = true ∧ flipL W0 T0 L k0 = X := by
      have := HRR.out
      unfold flpF at this
      cases hl : lok W0 T0 xs L
      · rw [hl] at this; simp at this
      · rw [hl, if_pos rfl] at this
        injection this with e1 e2
        exact ⟨rfl, e2, e1⟩
    have hlx : lok W0 T0 xs X = true := by rw [← hXe]; exact lok_flip hlk k0
    have hback : flpF W0 T0 xs X k0 = (L, true) := by
      unfold flpF
      rw [if_pos hlx, ← hXe, flip_twice hlk hmay, may_backQ hlk hmay]
    have hdf : diffN X L q = 4 := by rw [← hXe, HQ.out]; exact flip_diff hlk hmay
    have hfl := flip_flat hlk hmay
    rw [hXe] at hfl
    obtain ⟨T, hTX, hTL⟩ : ∃ T, tok W0 T0 xs X = T ∧ tok W0 T0 xs L = T := by
      refine ⟨_, rfl, ?_⟩
      rw [Bool.eq_iff_iff]
      constructor
      · intro h; rw [← hXe]; exact tok_flipI h hmay
      · intro h
        have h2 := tok_flipI h (by rw [← hXe]; exact may_backQ hlk hmay : mayB W0 T0 X k0 = true)
        rw [← hXe, flip_twice hlk hmay] at h2; exact h2
    obtain ⟨fx, hfx⟩ : ∃ fx, flatN W0 T0 xs X = fx := ⟨_, rfl⟩
    obtain ⟨fl, hfll⟩ : ∃ fl, flatN W0 T0 xs L = fl := ⟨_, rfl⟩
    rw [hfx, hfll] at hfl
    have hxq : x = q := by rw [HX.out, HQ.out, ← hXe, flipL_len]
    have htt : (T == T) = true := by simp
    have HLX := Lib.hid hlx; clear hlx
    have HBK := Lib.hid hback; clear hback
    have HDF := Lib.hid hdf; clear hdf
    have HTX := Lib.hid hTX; clear hTX
    have HTL := Lib.hid hTL; clear hTL
    have HFX := Lib.hid hfx; clear hfx
    have HFL := Lib.hid hfll; clear hfll
    have HFD := Lib.hid hfl; clear hfl
    obtain rfl := hxq
    clear hlk hmay hXe
    go_wp2_with fail
    refine (iFlipOne_ret _ _ _ _ _ xs _ _ _ X _ _ HM.out (by omega) HX.out (by omega) (by omega) A4.out X4.out).mono ?_; rintro e w5 ⟨a5, cap5, rfl, ho5, hb5⟩
    rw [HBK.out] at ho5 ⊢
    simp only at ho5 ⊢
    rw [← HQ.out] at ho5 ⊢
    have b5 := below_seq b4 hb5
    have pr5 := heap_later pr4 hb5
    have A5 := Lib.hid (A4.out.below hb5)
    have I5 := Lib.hid (I4.out.below hb5)
    have X5 := Lib.hid (X4.out.below hb5)
    have B5 := Lib.hid (OwnsI.at ho5)
    clear cr40 cr41 cr42 lr4
    obtain ⟨cr50, cr51, cr52⟩ := cells3 pr5
    have lr5 := heap_lt pr5
    clear ho5
    have hdle := diffN_le X L
    go_wp2
    go_loopw [12, 13] (fun d i wr => ∃ k : Nat, k ≤ x ∧ i = .int .i64 k ∧ d = .int .i64 (diffN X L k) ∧ ∃ qq, wr = w5.drewN qq) (fun _ i _ => x - (intOf i).toNat)
    case atStart => exact ⟨0, Nat.zero_le _, rfl, rfl, 0, rfl⟩
    case round =>
      obtain ⟨k, hk, rfl, rfl, qq, rfl⟩ := hrel
      have hdk := hdle k
      obtain ⟨dk, hdke⟩ : ∃ dk, diffN X L k = dk := ⟨_, rfl⟩
      rw [hdke] at hdk ⊢
      by_cases hlt : k < x
      · have e1 : (k : Int) < x := by omega
        have e0 : (0 : Int) ≤ k := by omega
        have hsu := diffN_succ X L k
        rw [hdke] at hsu
        obtain ⟨g1, o1, rfl, hc1⟩ := X5.out k (by rw [← HX.out]; exact hlt)
        obtain ⟨g2, o2, rfl, hc2⟩ := I5.out k (by rw [← HQ.out]; exact hlt)
        generalize X.getD k 0 = xv at *
        generalize L.getD k 0 = yv at *
        have hwk : IntKind.i64.wrap ((dk : Int) + 1) = (dk : Int) + 1 := IntWalk.i64_in _ (by omega)
        have HSU := Lib.hid hsu; clear hsu
        clear hdke
        cases hne : (xv != yv)
        · have HS : Hid (diffN X L (k + 1) = dk) := by show _ = _; rw [HSU.out, hne]; rfl
          go_wp2
          go_quiet (fail)
          go_wp2
          go_roundw
          case rel => exact ⟨k + 1, by omega, by go_num, by rw [HS.out], _, rfl⟩
          case measure => simp [intOf]; omega
        · have HS : Hid (diffN X L (k + 1) = dk + 1) := by show _ = _; rw [HSU.out, hne]; rfl
          go_wp2
          go_quiet (fail)
          go_wp2
          go_roundw
          case rel => exact ⟨k + 1, by omega, by go_num, by rw [HS.out]; go_num, _, rfl⟩
          case measure => simp [intOf]; omega
      · obtain rfl : k = x := by omega
        obtain rfl : dk = 4 := hdke.symm.trans HDF.out
        clear hdk hdke hlt hk hdle
        obtain ⟨w6, hw6⟩ : ∃ w6, w6 = w5.drewN qq := ⟨_, rfl⟩
        have b6 : Below w.heap.size w w6 := by rw [hw6]; exact below_seq b5 (drewN_below _ _)
        have pr6 : w6.heap[w1.heap.size]? = some (.cells #[.int .i64 W0, .int .i64 T0, .slice a m c] 25 (0, 0)) := by rw [hw6]; exact heap_later pr5 (drewN_below _ _)
        have A6 : Hid (BoolsAt w6 a xs) := by rw [hw6]; exact A5.out.below (drewN_below _ _)
        have I6 : Hid (IntsAt w6 la L) := by rw [hw6]; exact I5.out.below (drewN_below _ _)
        have X6 : Hid (IntsAt w6 a2 X) := by rw [hw6]; exact X5.out.below (drewN_below _ _)
        have B6 : Hid (IntsAt w6 a5 L) := by rw [hw6]; exact B5.out.below (drewN_below _ _)
        rw [← hw6]
        clear hw6 cr50 cr51 cr52 lr5 A5 I5 X5 B5
        obtain ⟨cr60, cr61, cr62⟩ := cells3 pr6
        have lr6 := heap_lt pr6
        have hwd : IntKind.i64.wrap (fx - fl) = fx - fl := IntWalk.i64_in _ (by have := HFD.out; omega)
        go_wp2_with fail
        have prd6 : w6.drew.heap[w1.heap.size]? = some (.cells #[.int .i64 W0, .int .i64 T0, .slice a m c] 25 (0, 0)) := pr6
        have Ad6 : Hid (BoolsAt w6.drew a xs) := A6
        have Id6 : Hid (IntsAt w6.drew la L) := I6
        have Xd6 : Hid (IntsAt w6.drew a2 X) := X6
        have Bd6 : Hid (IntsAt w6.drew a5 L) := B6
        have bd6 : Below w.heap.size w w6.drew := below_seq b6 (drew_below _)
        go_region_held3 (fun w' => w'.cell? ⟨w1.heap.size, 0, none⟩ = some (.int .i64 W0) ∧ w'.cell? ⟨w1.heap.size, 1, none⟩ = some (.int .i64 T0) ∧ w'.cell? ⟨w1.heap.size, 2, none⟩ = some (.slice a m c))
          (go_keep)
          (first
            | (go_at_call 52; refine (iFlatMany_any _ _ _ _ _ xs _ _ _ L _ HM.out (by omega) HQ.out (by omega) A7.out I7.out).mono ?_; rintro e w8 ⟨rfl, hb8⟩; rw [HFL.out]; have b8 := below_seq b7 hb8; have pr8 := heap_later pr7 hb8; have A8 := Lib.hid (A7.out.below hb8); have I8 := Lib.hid (I7.out.below hb8); have X8 := Lib.hid (X7.out.below hb8); have B8 := Lib.hid (B7.out.below hb8); obtain ⟨cr80, cr81, cr82⟩ := cells3 pr8; have lr8 := heap_lt pr8)
            | (go_at_call 52; refine (iFlatMany_any _ _ _ _ _ xs _ _ _ X _ HM.out (by omega) HX.out (by omega) Ad6.out Xd6.out).mono ?_; rintro e w7 ⟨rfl, hb7⟩; rw [HFX.out]; have b7 := below_seq bd6 hb7; have pr7 := heap_later prd6 hb7; have A7 := Lib.hid (Ad6.out.below hb7); have I7 := Lib.hid (Id6.out.below hb7); have X7 := Lib.hid (Xd6.out.below hb7); have B7 := Lib.hid (Bd6.out.below hb7); obtain ⟨cr70, cr71, cr72⟩ := cells3 pr7; have lr7 := heap_lt pr7))
        try rw [hwd]
        obtain ⟨d, hd⟩ : ∃ d, fx - fl = d := ⟨_, rfl⟩
        have hdd := HFD.out
        rw [hd] at hdd ⊢
        clear hd hwd
        rcases hdd with rfl | rfl
        · skip
          go_wp2_with fail
          have prd8 : w8.drew.heap[w1.heap.size]? = some (.cells #[.int .i64 W0, .int .i64 T0, .slice a m c] 25 (0, 0)) := pr8
          have Ad8 : Hid (BoolsAt w8.drew a xs) := A8
          have Id8 : Hid (IntsAt w8.drew la L) := I8
          have Xd8 : Hid (IntsAt w8.drew a2 X) := X8
          have Bd8 : Hid (IntsAt w8.drew a5 L) := B8
          have bd8 : Below w.heap.size w w8.drew := below_seq b8 (drew_below _)
          refine wp_region_held_drew (S := (fun w' => w'.cell? ⟨w1.heap.size, 0, none⟩ = some (.int .i64 W0) ∧ w'.cell? ⟨w1.heap.size, 1, none⟩ = some (.int .i64 T0) ∧ w'.cell? ⟨w1.heap.size, 2, none⟩ = some (.slice a m c))) (by kernel_rfl) (by first | go_keep | (dsimp only; go_keep)) (fun hHeld => ?_)
          refine wpAnyH_take (i := 0) (oi := _) (v := ?_) rfl (by kernel_rfl) (by kernel_rfl) (by kernel_rfl) (fun _ _ _ h => h) (Or.inl ⟨by rfl, ?_⟩) (by assumption) ?_
          rotate_left
          · (intro w' hSw; (try dsimp only at hSw); go_simp; try with_reducible rfl)
          try simp only [Act.put, List.setIfInBounds_toArray, List.set_cons_zero, List.set_cons_succ, List.getElem_toArray, List.getElem_cons_zero, List.getElem_cons_succ]
          refine wpAnyH_take (i := 1) (oi := _) (v := ?_) rfl (by kernel_rfl) (by kernel_rfl) (by kernel_rfl) (fun _ _ _ h => h) (Or.inl ⟨by rfl, ?_⟩) (by assumption) ?_
          rotate_left
          · (intro w' hSw; (try dsimp only at hSw); go_simp; try with_reducible rfl)
          try simp only [Act.put, List.setIfInBounds_toArray, List.set_cons_zero, List.set_cons_succ, List.getElem_toArray, List.getElem_cons_zero, List.getElem_cons_succ]
          refine wpAnyH_ready (rs := [2]) (by kernel_rfl) (by simp) ?_
          refine AllReadyH.cons (o := _) rfl (fun K hK => ?_) AllReadyH.nil
          go_simp
          go_at_call 51
          refine (iLaidOk_any _ _ _ _ _ xs _ _ _ X _ HM.out (by omega) HX.out (by omega) Ad8.out Xd8.out).mono ?_
          rintro e w9 ⟨rfl, hb9⟩
          rw [HLX.out]
          have b9 := below_seq bd8 hb9
          have pr9 := heap_later prd8 hb9
          have A9 := Lib.hid (Ad8.out.below hb9)
          have I9 := Lib.hid (Id8.out.below hb9)
          have X9 := Lib.hid (Xd8.out.below hb9)
          have B9 := Lib.hid (Bd8.out.below hb9)
          clear cr80 cr81 cr82 lr8
          obtain ⟨cr90, cr91, cr92⟩ := cells3 pr9
          have lr9 := heap_lt pr9
          try go_wp2_with fail
          refine hK.out _ _ (by first | go_keep | (dsimp only; go_keep)) (fun hHeld2 => ?_)
          clear hK K
          try simp only [Act.put, List.setIfInBounds_toArray, List.set_cons_zero, List.set_cons_succ, List.getElem_toArray, List.getElem_cons_zero, List.getElem_cons_succ]
          refine wpAnyH_take (i := 3) (oi := _) (v := ?_) rfl (by kernel_rfl) (by kernel_rfl) (by kernel_rfl) (fun _ _ _ h => h) (Or.inl ⟨by rfl, ?_⟩) (by assumption) ?_
          rotate_left
          · (intro w' hSw; (try dsimp only at hSw); go_simp; try with_reducible rfl)
          try simp only [Act.put, List.setIfInBounds_toArray, List.set_cons_zero, List.set_cons_succ, List.getElem_toArray, List.getElem_cons_zero, List.getElem_cons_succ]
          refine wpAnyH_take (i := 4) (oi := _) (v := ?_) rfl (by kernel_rfl) (by kernel_rfl) (by kernel_rfl) (fun _ _ _ h => h) (Or.inl ⟨by rfl, ?_⟩) (by assumption) ?_
          rotate_left
          · (intro w' hSw; (try dsimp only at hSw); go_simp; try with_reducible rfl)
          try simp only [Act.put, List.setIfInBounds_toArray, List.set_cons_zero, List.set_cons_succ, List.getElem_toArray, List.getElem_cons_zero, List.getElem_cons_succ]
          refine wpAnyH_take (i := 5) (oi := _) (v := ?_) rfl (by kernel_rfl) (by kernel_rfl) (by kernel_rfl) (fun _ _ _ h => h) (Or.inl ⟨by rfl, ?_⟩) (by assumption) ?_
          rotate_left
          · (intro w' hSw; (try dsimp only at hSw); go_simp; try with_reducible rfl)
          try simp only [Act.put, List.setIfInBounds_toArray, List.set_cons_zero, List.set_cons_succ, List.getElem_toArray, List.getElem_cons_zero, List.getElem_cons_succ]
          refine wpAnyH_take (i := 6) (oi := _) (v := ?_) rfl (by kernel_rfl) (by kernel_rfl) (by kernel_rfl) (fun _ _ _ h => h) (Or.inl ⟨by rfl, ?_⟩) (by assumption) ?_
          rotate_left
          · (intro w' hSw; (try dsimp only at hSw); go_simp; try with_reducible rfl)
          try simp only [Act.put, List.setIfInBounds_toArray, List.set_cons_zero, List.set_cons_succ, List.getElem_toArray, List.getElem_cons_zero, List.getElem_cons_succ]
          refine wpAnyH_take (i := 7) (oi := _) (v := ?_) rfl (by kernel_rfl) (by kernel_rfl) (by kernel_rfl) (fun _ _ _ h => h) (Or.inl ⟨by rfl, ?_⟩) (by assumption) ?_
          rotate_left
          · (intro w' hSw; (try dsimp only at hSw); go_simp; try with_reducible rfl)
          try simp only [Act.put, List.setIfInBounds_toArray, List.set_cons_zero, List.set_cons_succ, List.getElem_toArray, List.getElem_cons_zero, List.getElem_cons_succ]
          refine wpAnyH_take (i := 8) (oi := _) (v := ?_) rfl (by kernel_rfl) (by kernel_rfl) (by kernel_rfl) (fun _ _ _ h => h) (Or.inl ⟨by rfl, ?_⟩) (by assumption) ?_
          rotate_left
          · (intro w' hSw; (try dsimp only at hSw); go_simp; try with_reducible rfl)
          try simp only [Act.put, List.setIfInBounds_toArray, List.set_cons_zero, List.set_cons_succ, List.getElem_toArray, List.getElem_cons_zero, List.getElem_cons_succ]
          refine wpAnyH_ready (rs := [9]) (by kernel_rfl) (by simp) ?_
          refine AllReadyH.cons (o := _) rfl (fun K hK => ?_) AllReadyH.nil
          go_simp
          go_at_call 16
          refine (sameInts_same _ _ _ _ _ L _ HQ.out (by omega) B9.out I9.out).mono ?_
          rintro e w10 ⟨rfl, hb10⟩
          have b10 := below_seq b9 hb10
          have pr10 := heap_later pr9 hb10
          have A10 := Lib.hid (A9.out.below hb10)
          have I10 := Lib.hid (I9.out.below hb10)
          have X10 := Lib.hid (X9.out.below hb10)
          have B10 := Lib.hid (B9.out.below hb10)
          clear cr90 cr91 cr92 lr9
          obtain ⟨cr100, cr101, cr102⟩ := cells3 pr10
          have lr10 := heap_lt pr10
          try go_wp2_with fail
          refine hK.out _ _ (by first | go_keep | (dsimp only; go_keep)) (fun hHeld2 => ?_)
          clear hK K
          try simp only [Act.put, List.setIfInBounds_toArray, List.set_cons_zero, List.set_cons_succ, List.getElem_toArray, List.getElem_cons_zero, List.getElem_cons_succ]
          refine wpAnyH_take (i := 10) (oi := _) (v := ?_) rfl (by kernel_rfl) (by kernel_rfl) (by kernel_rfl) (fun _ _ _ h => h) (Or.inl ⟨by rfl, ?_⟩) (by assumption) ?_
          rotate_left
          · (intro w' hSw; (try dsimp only at hSw); go_simp; try with_reducible rfl)
          try simp only [Act.put, List.setIfInBounds_toArray, List.set_cons_zero, List.set_cons_succ, List.getElem_toArray, List.getElem_cons_zero, List.getElem_cons_succ]
          refine wpAnyH_take (i := 11) (oi := _) (v := ?_) rfl (by kernel_rfl) (by kernel_rfl) (by kernel_rfl) (fun _ _ _ h => h) (Or.inl ⟨by rfl, ?_⟩) (by assumption) ?_
          rotate_left
          · (intro w' hSw; (try dsimp only at hSw); go_simp; try with_reducible rfl)
          try simp only [Act.put, List.setIfInBounds_toArray, List.set_cons_zero, List.set_cons_succ, List.getElem_toArray, List.getElem_cons_zero, List.getElem_cons_succ]
          refine wpAnyH_take (i := 12) (oi := _) (v := ?_) rfl (by kernel_rfl) (by kernel_rfl) (by kernel_rfl) (fun _ _ _ h => h) (Or.inl ⟨by rfl, ?_⟩) (by assumption) ?_
          rotate_left
          · (intro w' hSw; (try dsimp only at hSw); go_simp; try with_reducible rfl)
          try simp only [Act.put, List.setIfInBounds_toArray, List.set_cons_zero, List.set_cons_succ, List.getElem_toArray, List.getElem_cons_zero, List.getElem_cons_succ]
          refine wpAnyH_take (i := 13) (oi := _) (v := ?_) rfl (by kernel_rfl) (by kernel_rfl) (by kernel_rfl) (fun _ _ _ h => h) (Or.inl ⟨by rfl, ?_⟩) (by assumption) ?_
          rotate_left
          · (intro w' hSw; (try dsimp only at hSw); go_simp; try with_reducible rfl)
          try simp only [Act.put, List.setIfInBounds_toArray, List.set_cons_zero, List.set_cons_succ, List.getElem_toArray, List.getElem_cons_zero, List.getElem_cons_succ]
          refine wpAnyH_take (i := 14) (oi := _) (v := ?_) rfl (by kernel_rfl) (by kernel_rfl) (by kernel_rfl) (fun _ _ _ h => h) (Or.inl ⟨by rfl, ?_⟩) (by assumption) ?_
          rotate_left
          · (intro w' hSw; (try dsimp only at hSw); go_simp; try with_reducible rfl)
          try simp only [Act.put, List.setIfInBounds_toArray, List.set_cons_zero, List.set_cons_succ, List.getElem_toArray, List.getElem_cons_zero, List.getElem_cons_succ]
          refine wpAnyH_take (i := 15) (oi := _) (v := ?_) rfl (by kernel_rfl) (by kernel_rfl) (by kernel_rfl) (fun _ _ _ h => h) (Or.inl ⟨by rfl, ?_⟩) (by assumption) ?_
          rotate_left
          · (intro w' hSw; (try dsimp only at hSw); go_simp; try with_reducible rfl)
          try simp only [Act.put, List.setIfInBounds_toArray, List.set_cons_zero, List.set_cons_succ, List.getElem_toArray, List.getElem_cons_zero, List.getElem_cons_succ]
          refine wpAnyH_take (i := 16) (oi := _) (v := ?_) rfl (by kernel_rfl) (by kernel_rfl) (by kernel_rfl) (fun _ _ _ h => h) (Or.inl ⟨by rfl, ?_⟩) (by assumption) ?_
          rotate_left
          · (intro w' hSw; (try dsimp only at hSw); go_simp; try with_reducible rfl)
          try simp only [Act.put, List.setIfInBounds_toArray, List.set_cons_zero, List.set_cons_succ, List.getElem_toArray, List.getElem_cons_zero, List.getElem_cons_succ]
          refine wpAnyH_take (i := 17) (oi := _) (v := ?_) rfl (by kernel_rfl) (by kernel_rfl) (by kernel_rfl) (fun _ _ _ h => h) (Or.inl ⟨by rfl, ?_⟩) (by assumption) ?_
          rotate_left
          · (intro w' hSw; (try dsimp only at hSw); go_simp; try with_reducible rfl)
          try simp only [Act.put, List.setIfInBounds_toArray, List.set_cons_zero, List.set_cons_succ, List.getElem_toArray, List.getElem_cons_zero, List.getElem_cons_succ]
          refine wpAnyH_take (i := 18) (oi := _) (v := ?_) rfl (by kernel_rfl) (by kernel_rfl) (by kernel_rfl) (fun _ _ _ h => h) (Or.inl ⟨by rfl, ?_⟩) (by assumption) ?_
          rotate_left
          · (intro w' hSw; (try dsimp only at hSw); go_simp; try with_reducible rfl)
          try simp only [Act.put, List.setIfInBounds_toArray, List.set_cons_zero, List.set_cons_succ, List.getElem_toArray, List.getElem_cons_zero, List.getElem_cons_succ]
          refine wpAnyH_take (i := 19) (oi := _) (v := undef) rfl (by kernel_rfl) (by kernel_rfl) (by kernel_rfl) (fun _ _ _ h => h) (Or.inr ⟨by rfl, rfl⟩) (by assumption) ?_
          try simp only [Act.put, List.setIfInBounds_toArray, List.set_cons_zero, List.set_cons_succ, List.getElem_toArray, List.getElem_cons_zero, List.getElem_cons_succ]
          refine wpAnyH_take (i := 20) (oi := _) (v := undef) rfl (by kernel_rfl) (by kernel_rfl) (by kernel_rfl) (fun _ _ _ h => h) (Or.inr ⟨by rfl, rfl⟩) (by assumption) ?_
          try simp only [Act.put, List.setIfInBounds_toArray, List.set_cons_zero, List.set_cons_succ, List.getElem_toArray, List.getElem_cons_zero, List.getElem_cons_succ]
          refine wpAnyH_take (i := 21) (oi := _) (v := ?_) rfl (by kernel_rfl) (by kernel_rfl) (by kernel_rfl) (fun _ _ _ h => h) (Or.inl ⟨by rfl, ?_⟩) (by assumption) ?_
          rotate_left
          · (intro w' hSw; (try dsimp only at hSw); go_simp; try with_reducible rfl)
          try simp only [Act.put, List.setIfInBounds_toArray, List.set_cons_zero, List.set_cons_succ, List.getElem_toArray, List.getElem_cons_zero, List.getElem_cons_succ]
          refine wpAnyH_take (i := 22) (oi := _) (v := ?_) rfl (by kernel_rfl) (by kernel_rfl) (by kernel_rfl) (fun _ _ _ h => h) (Or.inl ⟨by rfl, ?_⟩) (by assumption) ?_
          rotate_left
          · (intro w' hSw; (try dsimp only at hSw); go_simp; try with_reducible rfl)
          try simp only [Act.put, List.setIfInBounds_toArray, List.set_cons_zero, List.set_cons_succ, List.getElem_toArray, List.getElem_cons_zero, List.getElem_cons_succ]
          refine wpAnyH_take (i := 23) (oi := _) (v := ?_) rfl (by kernel_rfl) (by kernel_rfl) (by kernel_rfl) (fun _ _ _ h => h) (Or.inl ⟨by rfl, ?_⟩) (by assumption) ?_
          rotate_left
          · (intro w' hSw; (try dsimp only at hSw); go_simp; try with_reducible rfl)
          try simp only [Act.put, List.setIfInBounds_toArray, List.set_cons_zero, List.set_cons_succ, List.getElem_toArray, List.getElem_cons_zero, List.getElem_cons_succ]
          refine wpAnyH_take (i := 24) (oi := _) (v := ?_) rfl (by kernel_rfl) (by kernel_rfl) (by kernel_rfl) (fun _ _ _ h => h) (Or.inl ⟨by rfl, ?_⟩) (by assumption) ?_
          rotate_left
          · (intro w' hSw; (try dsimp only at hSw); go_simp; try with_reducible rfl)
          try simp only [Act.put, List.setIfInBounds_toArray, List.set_cons_zero, List.set_cons_succ, List.getElem_toArray, List.getElem_cons_zero, List.getElem_cons_succ]
          refine wpAnyH_take (i := 25) (oi := _) (v := ?_) rfl (by kernel_rfl) (by kernel_rfl) (by kernel_rfl) (fun _ _ _ h => h) (Or.inl ⟨by rfl, ?_⟩) (by assumption) ?_
          rotate_left
          · (intro w' hSw; (try dsimp only at hSw); go_simp; try with_reducible rfl)
          try simp only [Act.put, List.setIfInBounds_toArray, List.set_cons_zero, List.set_cons_succ, List.getElem_toArray, List.getElem_cons_zero, List.getElem_cons_succ]
          refine wpAnyH_take (i := 27) (oi := _) (v := ?_) rfl (by kernel_rfl) (by kernel_rfl) (by kernel_rfl) (fun _ _ _ h => h) (Or.inl ⟨by rfl, ?_⟩) (by assumption) ?_
          rotate_left
          · (intro w' hSw; (try dsimp only at hSw); go_simp; try with_reducible rfl)
          try simp only [Act.put, List.setIfInBounds_toArray, List.set_cons_zero, List.set_cons_succ, List.getElem_toArray, List.getElem_cons_zero, List.getElem_cons_succ]
          refine wpAnyH_take (i := 28) (oi := _) (v := ?_) rfl (by kernel_rfl) (by kernel_rfl) (by kernel_rfl) (fun _ _ _ h => h) (Or.inl ⟨by rfl, ?_⟩) (by assumption) ?_
          rotate_left
          · (intro w' hSw; (try dsimp only at hSw); go_simp; try with_reducible rfl)
          try simp only [Act.put, List.setIfInBounds_toArray, List.set_cons_zero, List.set_cons_succ, List.getElem_toArray, List.getElem_cons_zero, List.getElem_cons_succ]
          refine wpAnyH_ready (rs := [26]) (by kernel_rfl) (by simp) ?_
          refine AllReadyH.cons (o := _) rfl (fun K hK => ?_) AllReadyH.nil
          go_simp
          go_at_call 19
          refine (iTilingOk_any _ _ _ _ _ xs _ _ _ X _ HM.out (by omega) HX.out (by omega) A10.out X10.out).mono ?_
          rintro e w11 ⟨rfl, hb11⟩
          rw [HTX.out]
          have b11 := below_seq b10 hb11
          have pr11 := heap_later pr10 hb11
          have A11 := Lib.hid (A10.out.below hb11)
          have I11 := Lib.hid (I10.out.below hb11)
          have X11 := Lib.hid (X10.out.below hb11)
          have B11 := Lib.hid (B10.out.below hb11)
          clear cr100 cr101 cr102 lr10
          obtain ⟨cr110, cr111, cr112⟩ := cells3 pr11
          have lr11 := heap_lt pr11
          try go_wp2_with fail
          refine hK.out _ _ (by first | go_keep | (dsimp only; go_keep)) (fun hHeld2 => ?_)
          clear hK K
          try simp only [Act.put, List.setIfInBounds_toArray, List.set_cons_zero, List.set_cons_succ, List.getElem_toArray, List.getElem_cons_zero, List.getElem_cons_succ]
          refine wpAnyH_ready (rs := [29]) (by kernel_rfl) (by simp) ?_
          refine AllReadyH.cons (o := _) rfl (fun K hK => ?_) AllReadyH.nil
          go_simp
          go_at_call 19
          refine (iTilingOk_any _ _ _ _ _ xs _ _ _ L _ HM.out (by omega) HQ.out (by omega) A11.out I11.out).mono ?_
          rintro e w12 ⟨rfl, hb12⟩
          rw [HTL.out]
          have b12 := below_seq b11 hb12
          have pr12 := heap_later pr11 hb12
          have A12 := Lib.hid (A11.out.below hb12)
          have I12 := Lib.hid (I11.out.below hb12)
          have X12 := Lib.hid (X11.out.below hb12)
          have B12 := Lib.hid (B11.out.below hb12)
          clear cr110 cr111 cr112 lr11
          obtain ⟨cr120, cr121, cr122⟩ := cells3 pr12
          have lr12 := heap_lt pr12
          try go_wp2_with fail
          refine hK.out _ _ (by first | go_keep | (dsimp only; go_keep)) (fun hHeld2 => ?_)
          clear hK K
          try simp only [Act.put, List.setIfInBounds_toArray, List.set_cons_zero, List.set_cons_succ, List.getElem_toArray, List.getElem_cons_zero, List.getElem_cons_succ]
          refine wpAnyH_take (i := 30) (oi := _) (v := ?_) rfl (by kernel_rfl) (by kernel_rfl) (by kernel_rfl) (fun _ _ _ h => h) (Or.inl ⟨by rfl, ?_⟩) (by assumption) ?_
          rotate_left
          · (intro w' hSw; (try dsimp only at hSw); go_simp; try with_reducible rfl)
          try simp only [Act.put, List.setIfInBounds_toArray, List.set_cons_zero, List.set_cons_succ, List.getElem_toArray, List.getElem_cons_zero, List.getElem_cons_succ]
          refine wpAnyH_take (i := 31) (oi := _) (v := ?_) rfl (by kernel_rfl) (by kernel_rfl) (by kernel_rfl) (fun _ _ _ h => h) (Or.inl ⟨by rfl, ?_⟩) (by assumption) ?_
          rotate_left
          · (intro w' hSw; (try dsimp only at hSw); go_simp; try with_reducible rfl)
          try simp only [Act.put, List.setIfInBounds_toArray, List.set_cons_zero, List.set_cons_succ, List.getElem_toArray, List.getElem_cons_zero, List.getElem_cons_succ]
          refine wpAnyH_take (i := 32) (oi := _) (v := ?_) rfl (by kernel_rfl) (by kernel_rfl) (by kernel_rfl) (fun _ _ _ h => h) (Or.inl ⟨by rfl, ?_⟩) (by assumption) ?_
          rotate_left
          · (intro w' hSw; (try dsimp only at hSw); go_simp; try with_reducible rfl)
          try simp only [Act.put, List.setIfInBounds_toArray, List.set_cons_zero, List.set_cons_succ, List.getElem_toArray, List.getElem_cons_zero, List.getElem_cons_succ]
          refine wpAnyH_done (by kernel_rfl) ?_ _
          go_wp2
          go_ret
          exact ⟨rfl, b12⟩
        · skip
          go_wp2_with fail
          have prd8 : w8.drew.heap[w1.heap.size]? = some (.cells #[.int .i64 W0, .int .i64 T0, .slice a m c] 25 (0, 0)) := pr8
          have Ad8 : Hid (BoolsAt w8.drew a xs) := A8
          have Id8 : Hid (IntsAt w8.drew la L) := I8
          have Xd8 : Hid (IntsAt w8.drew a2 X) := X8
          have Bd8 : Hid (IntsAt w8.drew a5 L) := B8
          have bd8 : Below w.heap.size w w8.drew := below_seq b8 (drew_below _)
          refine wp_region_held_drew (S := (fun w' => w'.cell? ⟨w1.heap.size, 0, none⟩ = some (.int .i64 W0) ∧ w'.cell? ⟨w1.heap.size, 1, none⟩ = some (.int .i64 T0) ∧ w'.cell? ⟨w1.heap.size, 2, none⟩ = some (.slice a m c))) (by kernel_rfl) (by first | go_keep | (dsimp only; go_keep)) (fun hHeld => ?_)
          refine wpAnyH_take (i := 0) (oi := _) (v := ?_) rfl (by kernel_rfl) (by kernel_rfl) (by kernel_rfl) (fun _ _ _ h => h) (Or.inl ⟨by rfl, ?_⟩) (by assumption) ?_
          rotate_left
          · (intro w' hSw; (try dsimp only at hSw); go_simp; try with_reducible rfl)
          try simp only [Act.put, List.setIfInBounds_toArray, List.set_cons_zero, List.set_cons_succ, List.getElem_toArray, List.getElem_cons_zero, List.getElem_cons_succ]
          refine wpAnyH_take (i := 1) (oi := _) (v := ?_) rfl (by kernel_rfl) (by kernel_rfl) (by kernel_rfl) (fun _ _ _ h => h) (Or.inl ⟨by rfl, ?_⟩) (by assumption) ?_
          rotate_left
          · (intro w' hSw; (try dsimp only at hSw); go_simp; try with_reducible rfl)
          try simp only [Act.put, List.setIfInBounds_toArray, List.set_cons_zero, List.set_cons_succ, List.getElem_toArray, List.getElem_cons_zero, List.getElem_cons_succ]
          refine wpAnyH_ready (rs := [2]) (by kernel_rfl) (by simp) ?_
          refine AllReadyH.cons (o := _) rfl (fun K hK => ?_) AllReadyH.nil
          go_simp
          go_at_call 51
          refine (iLaidOk_any _ _ _ _ _ xs _ _ _ X _ HM.out (by omega) HX.out (by omega) Ad8.out Xd8.out).mono ?_
          rintro e w9 ⟨rfl, hb9⟩
          rw [HLX.out]
          have b9 := below_seq bd8 hb9
          have pr9 := heap_later prd8 hb9
          have A9 := Lib.hid (Ad8.out.below hb9)
          have I9 := Lib.hid (Id8.out.below hb9)
          have X9 := Lib.hid (Xd8.out.below hb9)
          have B9 := Lib.hid (Bd8.out.below hb9)
          clear cr80 cr81 cr82 lr8
          obtain ⟨cr90, cr91, cr92⟩ := cells3 pr9
          have lr9 := heap_lt pr9
          try go_wp2_with fail
          refine hK.out _ _ (by first | go_keep | (dsimp only; go_keep)) (fun hHeld2 => ?_)
          clear hK K
          try simp only [Act.put, List.setIfInBounds_toArray, List.set_cons_zero, List.set_cons_succ, List.getElem_toArray, List.getElem_cons_zero, List.getElem_cons_succ]
          refine wpAnyH_take (i := 3) (oi := _) (v := ?_) rfl (by kernel_rfl) (by kernel_rfl) (by kernel_rfl) (fun _ _ _ h => h) (Or.inl ⟨by rfl, ?_⟩) (by assumption) ?_
          rotate_left
          · (intro w' hSw; (try dsimp only at hSw); go_simp; try with_reducible rfl)
          try simp only [Act.put, List.setIfInBounds_toArray, List.set_cons_zero, List.set_cons_succ, List.getElem_toArray, List.getElem_cons_zero, List.getElem_cons_succ]
          refine wpAnyH_take (i := 4) (oi := _) (v := ?_) rfl (by kernel_rfl) (by kernel_rfl) (by kernel_rfl) (fun _ _ _ h => h) (Or.inl ⟨by rfl, ?_⟩) (by assumption) ?_
          rotate_left
          · (intro w' hSw; (try dsimp only at hSw); go_simp; try with_reducible rfl)
          try simp only [Act.put, List.setIfInBounds_toArray, List.set_cons_zero, List.set_cons_succ, List.getElem_toArray, List.getElem_cons_zero, List.getElem_cons_succ]
          refine wpAnyH_take (i := 5) (oi := _) (v := ?_) rfl (by kernel_rfl) (by kernel_rfl) (by kernel_rfl) (fun _ _ _ h => h) (Or.inl ⟨by rfl, ?_⟩) (by assumption) ?_
          rotate_left
          · (intro w' hSw; (try dsimp only at hSw); go_simp; try with_reducible rfl)
          try simp only [Act.put, List.setIfInBounds_toArray, List.set_cons_zero, List.set_cons_succ, List.getElem_toArray, List.getElem_cons_zero, List.getElem_cons_succ]
          refine wpAnyH_take (i := 6) (oi := _) (v := ?_) rfl (by kernel_rfl) (by kernel_rfl) (by kernel_rfl) (fun _ _ _ h => h) (Or.inl ⟨by rfl, ?_⟩) (by assumption) ?_
          rotate_left
          · (intro w' hSw; (try dsimp only at hSw); go_simp; try with_reducible rfl)
          try simp only [Act.put, List.setIfInBounds_toArray, List.set_cons_zero, List.set_cons_succ, List.getElem_toArray, List.getElem_cons_zero, List.getElem_cons_succ]
          refine wpAnyH_take (i := 7) (oi := _) (v := ?_) rfl (by kernel_rfl) (by kernel_rfl) (by kernel_rfl) (fun _ _ _ h => h) (Or.inl ⟨by rfl, ?_⟩) (by assumption) ?_
          rotate_left
          · (intro w' hSw; (try dsimp only at hSw); go_simp; try with_reducible rfl)
          try simp only [Act.put, List.setIfInBounds_toArray, List.set_cons_zero, List.set_cons_succ, List.getElem_toArray, List.getElem_cons_zero, List.getElem_cons_succ]
          refine wpAnyH_take (i := 8) (oi := _) (v := ?_) rfl (by kernel_rfl) (by kernel_rfl) (by kernel_rfl) (fun _ _ _ h => h) (Or.inl ⟨by rfl, ?_⟩) (by assumption) ?_
          rotate_left
          · (intro w' hSw; (try dsimp only at hSw); go_simp; try with_reducible rfl)
          try simp only [Act.put, List.setIfInBounds_toArray, List.set_cons_zero, List.set_cons_succ, List.getElem_toArray, List.getElem_cons_zero, List.getElem_cons_succ]
          refine wpAnyH_ready (rs := [9]) (by kernel_rfl) (by simp) ?_
          refine AllReadyH.cons (o := _) rfl (fun K hK => ?_) AllReadyH.nil
          go_simp
          go_at_call 16
          refine (sameInts_same _ _ _ _ _ L _ HQ.out (by omega) B9.out I9.out).mono ?_
          rintro e w10 ⟨rfl, hb10⟩
          have b10 := below_seq b9 hb10
          have pr10 := heap_later pr9 hb10
          have A10 := Lib.hid (A9.out.below hb10)
          have I10 := Lib.hid (I9.out.below hb10)
          have X10 := Lib.hid (X9.out.below hb10)
          have B10 := Lib.hid (B9.out.below hb10)
          clear cr90 cr91 cr92 lr9
          obtain ⟨cr100, cr101, cr102⟩ := cells3 pr10
          have lr10 := heap_lt pr10
          try go_wp2_with fail
          refine hK.out _ _ (by first | go_keep | (dsimp only; go_keep)) (fun hHeld2 => ?_)
          clear hK K
          try simp only [Act.put, List.setIfInBounds_toArray, List.set_cons_zero, List.set_cons_succ, List.getElem_toArray, List.getElem_cons_zero, List.getElem_cons_succ]
          refine wpAnyH_take (i := 10) (oi := _) (v := ?_) rfl (by kernel_rfl) (by kernel_rfl) (by kernel_rfl) (fun _ _ _ h => h) (Or.inl ⟨by rfl, ?_⟩) (by assumption) ?_
          rotate_left
          · (intro w' hSw; (try dsimp only at hSw); go_simp; try with_reducible rfl)
          try simp only [Act.put, List.setIfInBounds_toArray, List.set_cons_zero, List.set_cons_succ, List.getElem_toArray, List.getElem_cons_zero, List.getElem_cons_succ]
          refine wpAnyH_take (i := 11) (oi := _) (v := ?_) rfl (by kernel_rfl) (by kernel_rfl) (by kernel_rfl) (fun _ _ _ h => h) (Or.inl ⟨by rfl, ?_⟩) (by assumption) ?_
          rotate_left
          · (intro w' hSw; (try dsimp only at hSw); go_simp; try with_reducible rfl)
          try simp only [Act.put, List.setIfInBounds_toArray, List.set_cons_zero, List.set_cons_succ, List.getElem_toArray, List.getElem_cons_zero, List.getElem_cons_succ]
          refine wpAnyH_take (i := 12) (oi := _) (v := ?_) rfl (by kernel_rfl) (by kernel_rfl) (by kernel_rfl) (fun _ _ _ h => h) (Or.inl ⟨by rfl, ?_⟩) (by assumption) ?_
          rotate_left
          · (intro w' hSw; (try dsimp only at hSw); go_simp; try with_reducible rfl)
          try simp only [Act.put, List.setIfInBounds_toArray, List.set_cons_zero, List.set_cons_succ, List.getElem_toArray, List.getElem_cons_zero, List.getElem_cons_succ]
          refine wpAnyH_take (i := 13) (oi := _) (v := ?_) rfl (by kernel_rfl) (by kernel_rfl) (by kernel_rfl) (fun _ _ _ h => h) (Or.inl ⟨by rfl, ?_⟩) (by assumption) ?_
          rotate_left
          · (intro w' hSw; (try dsimp only at hSw); go_simp; try with_reducible rfl)
          try simp only [Act.put, List.setIfInBounds_toArray, List.set_cons_zero, List.set_cons_succ, List.getElem_toArray, List.getElem_cons_zero, List.getElem_cons_succ]
          refine wpAnyH_take (i := 14) (oi := _) (v := ?_) rfl (by kernel_rfl) (by kernel_rfl) (by kernel_rfl) (fun _ _ _ h => h) (Or.inl ⟨by rfl, ?_⟩) (by assumption) ?_
          rotate_left
          · (intro w' hSw; (try dsimp only at hSw); go_simp; try with_reducible rfl)
          try simp only [Act.put, List.setIfInBounds_toArray, List.set_cons_zero, List.set_cons_succ, List.getElem_toArray, List.getElem_cons_zero, List.getElem_cons_succ]
          refine wpAnyH_take (i := 15) (oi := _) (v := ?_) rfl (by kernel_rfl) (by kernel_rfl) (by kernel_rfl) (fun _ _ _ h => h) (Or.inl ⟨by rfl, ?_⟩) (by assumption) ?_
          rotate_left
          · (intro w' hSw; (try dsimp only at hSw); go_simp; try with_reducible rfl)
          try simp only [Act.put, List.setIfInBounds_toArray, List.set_cons_zero, List.set_cons_succ, List.getElem_toArray, List.getElem_cons_zero, List.getElem_cons_succ]
          refine wpAnyH_take (i := 16) (oi := _) (v := ?_) rfl (by kernel_rfl) (by kernel_rfl) (by kernel_rfl) (fun _ _ _ h => h) (Or.inl ⟨by rfl, ?_⟩) (by assumption) ?_
          rotate_left
          · (intro w' hSw; (try dsimp only at hSw); go_simp; try with_reducible rfl)
          try simp only [Act.put, List.setIfInBounds_toArray, List.set_cons_zero, List.set_cons_succ, List.getElem_toArray, List.getElem_cons_zero, List.getElem_cons_succ]
          refine wpAnyH_take (i := 17) (oi := _) (v := ?_) rfl (by kernel_rfl) (by kernel_rfl) (by kernel_rfl) (fun _ _ _ h => h) (Or.inl ⟨by rfl, ?_⟩) (by assumption) ?_
          rotate_left
          · (intro w' hSw; (try dsimp only at hSw); go_simp; try with_reducible rfl)
          try simp only [Act.put, List.setIfInBounds_toArray, List.set_cons_zero, List.set_cons_succ, List.getElem_toArray, List.getElem_cons_zero, List.getElem_cons_succ]
          refine wpAnyH_take (i := 18) (oi := _) (v := ?_) rfl (by kernel_rfl) (by kernel_rfl) (by kernel_rfl) (fun _ _ _ h => h) (Or.inl ⟨by rfl, ?_⟩) (by assumption) ?_
          rotate_left
          · (intro w' hSw; (try dsimp only at hSw); go_simp; try with_reducible rfl)
          try simp only [Act.put, List.setIfInBounds_toArray, List.set_cons_zero, List.set_cons_succ, List.getElem_toArray, List.getElem_cons_zero, List.getElem_cons_succ]
          refine wpAnyH_take (i := 19) (oi := _) (v := ?_) rfl (by kernel_rfl) (by kernel_rfl) (by kernel_rfl) (fun _ _ _ h => h) (Or.inl ⟨by rfl, ?_⟩) (by assumption) ?_
          rotate_left
          · (intro w' hSw; (try dsimp only at hSw); go_simp; try with_reducible rfl)
          try simp only [Act.put, List.setIfInBounds_toArray, List.set_cons_zero, List.set_cons_succ, List.getElem_toArray, List.getElem_cons_zero, List.getElem_cons_succ]
          refine wpAnyH_take (i := 20) (oi := _) (v := ?_) rfl (by kernel_rfl) (by kernel_rfl) (by kernel_rfl) (fun _ _ _ h => h) (Or.inl ⟨by rfl, ?_⟩) (by assumption) ?_
          rotate_left
          · (intro w' hSw; (try dsimp only at hSw); go_simp; try with_reducible rfl)
          try simp only [Act.put, List.setIfInBounds_toArray, List.set_cons_zero, List.set_cons_succ, List.getElem_toArray, List.getElem_cons_zero, List.getElem_cons_succ]
          refine wpAnyH_take (i := 21) (oi := _) (v := ?_) rfl (by kernel_rfl) (by kernel_rfl) (by kernel_rfl) (fun _ _ _ h => h) (Or.inl ⟨by rfl, ?_⟩) (by assumption) ?_
          rotate_left
          · (intro w' hSw; (try dsimp only at hSw); go_simp; try with_reducible rfl)
          try simp only [Act.put, List.setIfInBounds_toArray, List.set_cons_zero, List.set_cons_succ, List.getElem_toArray, List.getElem_cons_zero, List.getElem_cons_succ]
          refine wpAnyH_take (i := 22) (oi := _) (v := ?_) rfl (by kernel_rfl) (by kernel_rfl) (by kernel_rfl) (fun _ _ _ h => h) (Or.inl ⟨by rfl, ?_⟩) (by assumption) ?_
          rotate_left
          · (intro w' hSw; (try dsimp only at hSw); go_simp; try with_reducible rfl)
          try simp only [Act.put, List.setIfInBounds_toArray, List.set_cons_zero, List.set_cons_succ, List.getElem_toArray, List.getElem_cons_zero, List.getElem_cons_succ]
          refine wpAnyH_take (i := 23) (oi := _) (v := ?_) rfl (by kernel_rfl) (by kernel_rfl) (by kernel_rfl) (fun _ _ _ h => h) (Or.inl ⟨by rfl, ?_⟩) (by assumption) ?_
          rotate_left
          · (intro w' hSw; (try dsimp only at hSw); go_simp; try with_reducible rfl)
          try simp only [Act.put, List.setIfInBounds_toArray, List.set_cons_zero, List.set_cons_succ, List.getElem_toArray, List.getElem_cons_zero, List.getElem_cons_succ]
          refine wpAnyH_take (i := 24) (oi := _) (v := ?_) rfl (by kernel_rfl) (by kernel_rfl) (by kernel_rfl) (fun _ _ _ h => h) (Or.inl ⟨by rfl, ?_⟩) (by assumption) ?_
          rotate_left
          · (intro w' hSw; (try dsimp only at hSw); go_simp; try with_reducible rfl)
          try simp only [Act.put, List.setIfInBounds_toArray, List.set_cons_zero, List.set_cons_succ, List.getElem_toArray, List.getElem_cons_zero, List.getElem_cons_succ]
          refine wpAnyH_take (i := 25) (oi := _) (v := ?_) rfl (by kernel_rfl) (by kernel_rfl) (by kernel_rfl) (fun _ _ _ h => h) (Or.inl ⟨by rfl, ?_⟩) (by assumption) ?_
          rotate_left
          · (intro w' hSw; (try dsimp only at hSw); go_simp; try with_reducible rfl)
          try simp only [Act.put, List.setIfInBounds_toArray, List.set_cons_zero, List.set_cons_succ, List.getElem_toArray, List.getElem_cons_zero, List.getElem_cons_succ]
          refine wpAnyH_take (i := 27) (oi := _) (v := ?_) rfl (by kernel_rfl) (by kernel_rfl) (by kernel_rfl) (fun _ _ _ h => h) (Or.inl ⟨by rfl, ?_⟩) (by assumption) ?_
          rotate_left
          · (intro w' hSw; (try dsimp only at hSw); go_simp; try with_reducible rfl)
          try simp only [Act.put, List.setIfInBounds_toArray, List.set_cons_zero, List.set_cons_succ, List.getElem_toArray, List.getElem_cons_zero, List.getElem_cons_succ]
          refine wpAnyH_take (i := 28) (oi := _) (v := ?_) rfl (by kernel_rfl) (by kernel_rfl) (by kernel_rfl) (fun _ _ _ h => h) (Or.inl ⟨by rfl, ?_⟩) (by assumption) ?_
          rotate_left
          · (intro w' hSw; (try dsimp only at hSw); go_simp; try with_reducible rfl)
          try simp only [Act.put, List.setIfInBounds_toArray, List.set_cons_zero, List.set_cons_succ, List.getElem_toArray, List.getElem_cons_zero, List.getElem_cons_succ]
          refine wpAnyH_ready (rs := [26]) (by kernel_rfl) (by simp) ?_
          refine AllReadyH.cons (o := _) rfl (fun K hK => ?_) AllReadyH.nil
          go_simp
          go_at_call 19
          refine (iTilingOk_any _ _ _ _ _ xs _ _ _ X _ HM.out (by omega) HX.out (by omega) A10.out X10.out).mono ?_
          rintro e w11 ⟨rfl, hb11⟩
          rw [HTX.out]
          have b11 := below_seq b10 hb11
          have pr11 := heap_later pr10 hb11
          have A11 := Lib.hid (A10.out.below hb11)
          have I11 := Lib.hid (I10.out.below hb11)
          have X11 := Lib.hid (X10.out.below hb11)
          have B11 := Lib.hid (B10.out.below hb11)
          clear cr100 cr101 cr102 lr10
          obtain ⟨cr110, cr111, cr112⟩ := cells3 pr11
          have lr11 := heap_lt pr11
          try go_wp2_with fail
          refine hK.out _ _ (by first | go_keep | (dsimp only; go_keep)) (fun hHeld2 => ?_)
          clear hK K
          try simp only [Act.put, List.setIfInBounds_toArray, List.set_cons_zero, List.set_cons_succ, List.getElem_toArray, List.getElem_cons_zero, List.getElem_cons_succ]
          refine wpAnyH_ready (rs := [29]) (by kernel_rfl) (by simp) ?_
          refine AllReadyH.cons (o := _) rfl (fun K hK => ?_) AllReadyH.nil
          go_simp
          go_at_call 19
          refine (iTilingOk_any _ _ _ _ _ xs _ _ _ L _ HM.out (by omega) HQ.out (by omega) A11.out I11.out).mono ?_
          rintro e w12 ⟨rfl, hb12⟩
          rw [HTL.out]
          have b12 := below_seq b11 hb12
          have pr12 := heap_later pr11 hb12
          have A12 := Lib.hid (A11.out.below hb12)
          have I12 := Lib.hid (I11.out.below hb12)
          have X12 := Lib.hid (X11.out.below hb12)
          have B12 := Lib.hid (B11.out.below hb12)
          clear cr110 cr111 cr112 lr11
          obtain ⟨cr120, cr121, cr122⟩ := cells3 pr12
          have lr12 := heap_lt pr12
          try go_wp2_with fail
          refine hK.out _ _ (by first | go_keep | (dsimp only; go_keep)) (fun hHeld2 => ?_)
          clear hK K
          try simp only [Act.put, List.setIfInBounds_toArray, List.set_cons_zero, List.set_cons_succ, List.getElem_toArray, List.getElem_cons_zero, List.getElem_cons_succ]
          refine wpAnyH_take (i := 30) (oi := _) (v := ?_) rfl (by kernel_rfl) (by kernel_rfl) (by kernel_rfl) (fun _ _ _ h => h) (Or.inl ⟨by rfl, ?_⟩) (by assumption) ?_
          rotate_left
          · (intro w' hSw; (try dsimp only at hSw); go_simp; try with_reducible rfl)
          try simp only [Act.put, List.setIfInBounds_toArray, List.set_cons_zero, List.set_cons_succ, List.getElem_toArray, List.getElem_cons_zero, List.getElem_cons_succ]
          refine wpAnyH_take (i := 31) (oi := _) (v := ?_) rfl (by kernel_rfl) (by kernel_rfl) (by kernel_rfl) (fun _ _ _ h => h) (Or.inl ⟨by rfl, ?_⟩) (by assumption) ?_
          rotate_left
          · (intro w' hSw; (try dsimp only at hSw); go_simp; try with_reducible rfl)
          try simp only [Act.put, List.setIfInBounds_toArray, List.set_cons_zero, List.set_cons_succ, List.getElem_toArray, List.getElem_cons_zero, List.getElem_cons_succ]
          refine wpAnyH_take (i := 32) (oi := _) (v := ?_) rfl (by kernel_rfl) (by kernel_rfl) (by kernel_rfl) (fun _ _ _ h => h) (Or.inl ⟨by rfl, ?_⟩) (by assumption) ?_
          rotate_left
          · (intro w' hSw; (try dsimp only at hSw); go_simp; try with_reducible rfl)
          try simp only [Act.put, List.setIfInBounds_toArray, List.set_cons_zero, List.set_cons_succ, List.getElem_toArray, List.getElem_cons_zero, List.getElem_cons_succ]
          refine wpAnyH_done (by kernel_rfl) ?_ _
          go_wp2
          go_ret
          exact ⟨rfl, b12⟩

end Go.Proofs.Ytknigcjpgkolgaa
