/- Plain facts: right heights jump along exactly one of the four sides of each cell, and so tell a tiling. Merged of: TbyM, TbyS, TbyI. -/
import Derived.Test.YtknigcjpgkolgaaKTbyI
import Derived.Test.YtknigcjpgkolgaaKHokS
namespace Go.Proofs.Ytknigcjpgkolgaa
open Go.RowKit
set_option linter.unusedVariables false
set_option maxRecDepth 100000
set_option linter.unusedSimpArgs false

end Go.Proofs.Ytknigcjpgkolgaa

namespace Go.Proofs.Ytknigcjpgkolgaa
open Go.RowKit
set_option linter.unusedVariables false
set_option maxRecDepth 100000
set_option linter.unusedSimpArgs false

theorem own_nil_litB (w : World) {B : Nat} (hB : B ≤ w.heap.size) : OwnsI (w.alloc (.cells #[] 3 (0, 0))) B (.slice (some ⟨w.heap.size, 0, none⟩) 0 0) [] :=
  World.ownsRow_made w #[] 0 hB (Nat.zero_le _) rfl

set_option maxHeartbeats 16000000 in
theorem sTilingBy_ret (W T : Int) (a : Option Addr) (n cap : Nat) (xs : List Bool) (la : Option Addr) (m lcap : Nat) (H : List Int) (w : World) (hn : n = xs.length) (hn' : n ≤ 1048576) (hm : m = H.length) (hm' : m ≤ 1048576) (ha : BoolsAt w a xs) (hl : IntsAt w la H) :
    Calls Try.prog 27 #[.agg #[.int .i64 W, .int .i64 T, .slice a n cap], .slice la m lcap] w (RetLT w (tbyF W T xs H).1.length (tbyF W T xs H).1 (tbyF W T xs H).2) := by
  have HN := Lib.hid hn; clear hn
  have HM := Lib.hid hm; clear hm
  have HA := Lib.hid ha; clear ha
  have HL := Lib.hid hl; clear hl
  cases h : hokB W T xs H
  · have e : tbyF W T xs H = ([], false) := by unfold tbyF; rw [h]; rfl
    rw [e]
    have HS := Lib.hid h; clear h e
    go_enter Try.func27, Try.ntmps27
    go_wp2_with fail
    refine (sHeightsOk_any _ _ _ _ _ xs _ _ _ H _ HN.out hn' HM.out hm' (HA.out.one _) (HL.out.one _)).mono ?_; rintro e w1 ⟨rfl, hb1⟩
    rw [HS.out]
    have z1 : w.heap.size + 1 ≤ w1.heap.size := by have := hb1.size; simp at this; omega
    go_wp2
    go_ret2
    exact ⟨some ⟨w1.heap.size, 0, none⟩, 0, rfl, own_nil_litB w1 (by omega), below_seq (below_seq (below1 _ _) hb1) (below1 _ _)⟩
  have hr0 : rv W T xs = true := by
    unfold hokB at h
    simp only [Bool.and_eq_true, decide_eq_true_eq] at h
    exact simpleB_rv h.1.1.1.1
  obtain ⟨v1, v2, v3, v4, v5, v6⟩ := rv_true hr0
  have hcb := corn_bd v1 v2 v3 v4
  obtain ⟨N, hN⟩ := Int.eq_ofNat_of_zero_le (show 0 ≤ (W + 1) * (T + 1) by omega)
  obtain ⟨hs, hlN, hmay, hsds⟩ := hokB_parts hN h
  rw [hN] at hcb
  have hN49 : N ≤ 49 := by omega
  have hmN : m = N := by rw [HM.out]; exact hlN
  subst hmN
  have e : tbyF W T xs H = (tbyP W T xs H (sidesK W T xs m), true) := by unfold tbyF; rw [h, hN]; rfl
  rw [e]
  have HE : Hid ((tbyP W T xs H (sidesK W T xs m)).length = n) := by show _ = _; rw [tbyP_len, HN.out]
  have HBL : Hid (bareL W T xs = tbyP W T xs H []) := by show _ = _; unfold bareL; rw [hr0, if_pos rfl, tbyP_nil]
  have HWT : Hid ((n : Int) = W * T) := by show _ = _; rw [HN.out]; exact v5
  have HXL : Hid ((xs.length : Int) = W * T) := v5
  have hpn : 0 < n := rv_pos v1 v3 HWT.out
  have HOK := Lib.hid h; have HMAY := Lib.hid hmay; have HSDS := Lib.hid hsds; have HNN := Lib.hid hN; have HR := Lib.hid hr0
  clear h hr0 hN hcb hs hlN hmay hsds e v5 v6
  obtain ⟨wA, hwA⟩ : ∃ wA, wA = w.alloc (.cells #[.int .i64 W, .int .i64 T, .slice a n cap] 25) := ⟨_, rfl⟩
  have pA : wA.heap[w.heap.size]? = some (.cells #[.int .i64 W, .int .i64 T, .slice a n cap] 25 (0, 0)) := by rw [hwA]; exact heap_new _ _
  have bA : Below w.heap.size w wA := by rw [hwA]; exact below1 _ _
  obtain ⟨c0, c1, c2⟩ := cells3 pA
  go_enter Try.func27, Try.ntmps27
  go_wp2_with fail
  rw [← hwA]; clear hwA
  refine (sHeightsOk_any _ _ _ _ _ xs _ _ _ H _ HN.out hn' HM.out hm' (HA.out.below bA) (HL.out.below bA)).mono ?_; rintro e w1 ⟨rfl, hb1⟩
  rw [HOK.out]
  have p1 := heap_later pA hb1
  have b1 := below_seq bA hb1
  clear hb1 c0 c1 c2 pA bA
  obtain ⟨c0, c1, c2⟩ := cells3 p1
  have lw1 := heap_lt p1
  go_wp2_with fail
  refine (sLaidBare_ret _ _ _ _ _ xs _ HN.out hn' (HA.out.below b1)).mono ?_; rintro e w2 ⟨a2, cap2, rfl, ho2, hb2⟩
  rw [HBL.out] at ho2 ⊢
  rw [tbyP_len, ← HN.out] at ho2 ⊢
  have p2 := heap_later p1 hb2
  have B2 := Lib.hid (below_seq b1 hb2)
  obtain ⟨g, pcap, hv, hg1, hg2⟩ := ho2.pos (by rw [tbyP_len, ← HN.out]; exact hpn)
  rw [tbyP_len, ← HN.out] at hv
  rw [hv] at ho2
  simp only [Value.slice.injEq] at hv
  obtain ⟨rfl, -, rfl⟩ := hv
  have O2 := Lib.hid ho2
  clear ho2 hb2 b1 p1 c0 c1 c2
  go_wp2
  go_loopw [7] (fun i wr => ∃ k : Nat, k ≤ m ∧ i = .int .i64 k ∧ OwnsI wr w1.heap.size (.slice (some ⟨g, 0, none⟩) n cap2) (tbyP W T xs H (sidesK W T xs k)) ∧ wr.heap[w.heap.size]? = some (.cells #[.int .i64 W, .int .i64 T, .slice a n cap] 25 (0, 0)) ∧ Below w.heap.size w wr) (fun i _ => m - (intOf i).toNat)
  case atStart => exact ⟨0, Nat.zero_le _, rfl, O2.out, p2, B2.out⟩
  case round =>
    clear O2 B2 p2
    rename World => wo
    obtain ⟨k, hk, rfl, ho, pr, bo⟩ := hrel
    have HO := Lib.hid ho; have BO := Lib.hid bo; clear ho bo
    by_cases hlt : k < m
    · have e1 : (k : Int) < m := by omega
      have hkN : (k : Int) < (W + 1) * (T + 1) := by rw [HNN.out]; omega
      have HKN := Lib.hid hkN; clear hkN
      go_wp2
      go_loopw [8] (fun jv wr => ∃ j : Nat, j ≤ 2 ∧ jv = .int .i64 j ∧ OwnsI wr w1.heap.size (.slice (some ⟨g, 0, none⟩) n cap2) (tbyP W T xs H (sidesJ W T xs k j)) ∧ wr.heap[w.heap.size]? = some (.cells #[.int .i64 W, .int .i64 T, .slice a n cap] 25 (0, 0)) ∧ Below w.heap.size w wr) (fun jv _ => 2 - (intOf jv).toNat)
      case atStart => exact ⟨0, by omega, rfl, by rw [sidesJ_zero]; exact HO.out, pr, BO.out⟩
      case round =>
        clear HO BO pr
        rename World => wq
        obtain ⟨j, hj, rfl, ho, pr, bo⟩ := hrel
        have HO := Lib.hid ho; have BO := Lib.hid bo; clear ho bo
        obtain ⟨c0, c1, c2⟩ := cells3 pr
        by_cases hj2 : j = 2
        · subst hj2
          have HSE : Hid (sidesJ W T xs k 2 = sidesK W T xs (k + 1)) := sidesJ_end W T xs k
          go_wp2
          go_roundw
          case rel => exact ⟨k + 1, by omega, by go_num, by rw [← HSE.out]; exact HO.out, pr, BO.out⟩
          case measure => simp [intOf]; omega
        by_cases hj0 : j = 0
        · subst hj0
          clear hj hj2
          have HEV : Hid (edV W T xs k false = .tuple #[.int .i64 (sTo W k false), .bool (sUsed W T xs k false), .bool (sBoth W T xs k false), .int .i64 (if sLeft W T xs k false then sCell W k false else -1), .int .i64 (if sRight W T xs k false then sOther W k false else -1), .bool (sDark W k false)]) := rfl
          have hUX : sidesJ W T xs k (0 + 1) = if sUsed W T xs k false then sidesJ W T xs k 0 ++ [(k, false)] else sidesJ W T xs k 0 := sidesJ_one W T xs k
          have hnot : ¬ (k, false) ∈ sidesJ W T xs k 0 := by
            unfold sidesJ
            intro h
            rw [List.mem_append] at h
            rcases h with h | h
            · have := (sidesK_mem.1 h).1; omega
            · simp at h
          have hbu : sBoth W T xs k false = true → sUsed W T xs k false = true := by unfold sBoth sUsed; cases sLeft W T xs k false <;> cases sRight W T xs k false <;> simp
          obtain ⟨J, hJ⟩ : ∃ J, J = jmpB W T xs H k false := ⟨_, rfl⟩
          have HJ0 : Hid (J = false → tbyP W T xs H (sidesJ W T xs k (0 + 1)) = tbyP W T xs H (sidesJ W T xs k 0)) := by
            intro h
            rw [hUX]
            split
            · exact tby_skip (by rw [← hJ]; exact h)
            · rfl
          have HJ1 : Hid (J = true → ∃ p q : Nat, sCell W k false = p ∧ sOther W k false = q ∧ sLeft W T xs k false = true ∧ sRight W T xs k false = true ∧ tbyP W T xs H (sidesJ W T xs k (0 + 1)) = ((tbyP W T xs H (sidesJ W T xs k 0)).set p 4).set q 2 ∧ p < n ∧ q < n ∧ p ≠ q ∧ ∀ v : Int, 1 ≤ v → v ≤ 4 → (stepI W T (p : Int) v == (q : Int)) = (v == 4)) := by
            intro h
            rw [h] at hJ
            have hbo : sBoth W T xs k false = true := by unfold jmpB at hJ; exact (Bool.and_eq_true _ _ ▸ hJ.symm : _ ∧ _).1
            obtain ⟨p, q, e1, e2, _⟩ := side_left v1 hbo
            obtain ⟨_, _, f3, f4, f5, f6, _, _⟩ := tby_jump v1 HNN.out HXL.out HSDS.out hnot hJ.symm e1 e2
            have hlr : sLeft W T xs k false = true ∧ sRight W T xs k false = true := by unfold sBoth at hbo; rw [Bool.and_eq_true] at hbo; exact hbo
            refine ⟨p, q, e1, e2, hlr.1, hlr.2, ?_, by rw [HN.out]; exact f4, by rw [HN.out]; exact f5, f6, fun v h1 h4 => ?_⟩
            · rw [hUX, if_pos (hbu hbo), f3]; rfl
            · rw [← e1, ← e2]; exact step_side v1 hbo h1 h4
          have HBU := Lib.hid hbu
          have HSD : Hid (sUsed W T xs k false = true → (0 ≤ sTo W k false ∧ sTo W k false < m ∧ (-60 ≤ H.getD k 0 ∧ H.getD k 0 ≤ 60) ∧ (-60 ≤ H.getD (sTo W k false).toNat 0 ∧ H.getD (sTo W k false).toNat 0 ≤ 60)) ∧ ((H.getD (sTo W k false).toNat 0 - H.getD k 0 = sRise W k false ∧ J = false) ∨ (H.getD (sTo W k false).toNat 0 - H.getD k 0 = -3 * sRise W k false ∧ J = true))) := by
            intro h
            obtain ⟨t0, t1, t2⟩ := sTo_lt v1 h
            rw [HNN.out] at t2
            obtain ⟨kt, hkt⟩ := Int.eq_ofNat_of_zero_le t0
            have htm : kt < m := by omega
            have a1 := hsMay_at hlt HMAY.out
            have a2 := hsMay_at htm HMAY.out
            unfold hMay at a1 a2
            rw [(hAt_iff v1).2 (Or.inl ⟨false, h⟩), if_pos rfl] at a1
            rw [(hAt_iff v1).2 (Or.inr ⟨k, false, h, hkt⟩), if_pos rfl] at a2
            refine ⟨⟨t0, t2, inB_rng a1, ?_⟩, by rw [hJ]; exact side_ok HSDS.out hlt h⟩
            rw [hkt, Int.toNat_natCast]; exact inB_rng a2
          have HJB : Hid (sBoth W T xs k false = false → J = false) := by intro h; rw [hJ]; unfold jmpB; rw [h]; rfl
          have hr1 := rise_one W k false
          obtain ⟨rs, hrs⟩ : ∃ rs, rs = sRise W k false := ⟨_, rfl⟩
          rw [← hrs] at hr1 HSD
          obtain ⟨kt, hkt⟩ : ∃ kt, kt = sTo W k false := ⟨_, rfl⟩
          rw [← hkt] at HEV HSD
          obtain ⟨ca, hca⟩ : ∃ ca, ca = (if sLeft W T xs k false then sCell W k false else -1) := ⟨_, rfl⟩
          obtain ⟨cb, hcb⟩ : ∃ cb, cb = (if sRight W T xs k false then sOther W k false else -1) := ⟨_, rfl⟩
          rw [← hca, ← hcb] at HEV
          have HCA := Lib.hid hca; have HCB := Lib.hid hcb
          obtain ⟨u, hu⟩ : ∃ u, u = sUsed W T xs k false := ⟨_, rfl⟩
          obtain ⟨bo, hbo⟩ : ∃ bo, bo = sBoth W T xs k false := ⟨_, rfl⟩
          obtain ⟨D, hD⟩ : ∃ D, D = sDark W k false := ⟨_, rfl⟩
          rw [← hu, ← hbo, ← hD] at HEV
          rw [← hu] at HSD
          rw [← hu, ← hbo] at HBU
          rw [← hbo] at HJB
          clear hUX hnot hbu hJ hrs hkt hca hcb hu hbo hD
          go_wp2_with fail
          refine (l4Edge_east _ _ _ _ _ xs k _ HN.out v1 v2 v3 v4 HWT.out HKN.out (HA.out.below BO.out)).mono ?_; rintro e w5 ⟨rfl, hb5⟩
          rw [HEV.out]
          have p5 := heap_later pr hb5
          have B5 := Lib.hid (below_seq BO.out hb5)
          have O5 := Lib.hid (HO.out.below hb5)
          clear hb5 c0 c1 c2 pr BO HO
          have pr := p5; have BO := B5; have HO := O5
          clear p5 B5 O5
          go_upto_region 11 with fail
          go_cut [72] (fun v wx => v = .bool J ∧ OwnsI wx w1.heap.size (.slice (some ⟨g, 0, none⟩) n cap2) (tbyP W T xs H (sidesJ W T xs k 0)) ∧ wx.heap[w.heap.size]? = some (.cells #[.int .i64 W, .int .i64 T, .slice a n cap] 25 (0, 0)) ∧ Below w.heap.size w wx)
          case first =>
            obtain ⟨c0, c1, c2⟩ := cells3 pr
            cases bo
            · have HJV : Hid (Value.bool false = .bool J) := by show _ = _; rw [HJB.out rfl]
              cases u
              · go_big_quiet (fail)
                go_wp2
                go_meet
                first
                  | exact ⟨HJV.out, HO.out, pr, BO.out⟩
                  | exact ⟨HJV.out, HO.out.below (drewN_below _ _), heap_later pr (drewN_below _ _), below_seq BO.out (drewN_below _ _)⟩
                  | exact ⟨HJV.out, HO.out.below (drew_below _), heap_later pr (drew_below _), below_seq BO.out (drew_below _)⟩
              · go_big_quiet (fail)
                go_wp2
                go_meet
                first
                  | exact ⟨HJV.out, HO.out, pr, BO.out⟩
                  | exact ⟨HJV.out, HO.out.below (drewN_below _ _), heap_later pr (drewN_below _ _), below_seq BO.out (drewN_below _ _)⟩
                  | exact ⟨HJV.out, HO.out.below (drew_below _), heap_later pr (drew_below _), below_seq BO.out (drew_below _)⟩
            · have hu := HBU.out rfl
              subst hu
              obtain ⟨⟨t0, t1, ⟨x0, x1⟩, ⟨y0, y1⟩⟩, hsd⟩ := HSD.out rfl
              obtain ⟨kn, hkn⟩ := Int.eq_ofNat_of_zero_le t0
              subst hkn
              rw [Int.toNat_natCast] at y0 y1 hsd
              have hknm : kn < m := by omega
              obtain ⟨lb, lo, rfl, -⟩ := HL.out k (by rw [← HM.out]; exact hlt)
              have gx := (HL.out.below BO.out).cellAt (i := k) (by rw [← HM.out]; exact hlt)
              have gy := (HL.out.below BO.out).cellAt (i := kn) (by rw [← HM.out]; exact hknm)
              obtain ⟨x, hx⟩ : ∃ x, x = H.getD k 0 := ⟨_, rfl⟩
              obtain ⟨y, hy⟩ : ∃ y, y = H.getD kn 0 := ⟨_, rfl⟩
              rw [← hx] at gx x0 x1 hsd; rw [← hy] at gy y0 y1 hsd
              clear hx hy t0
              have s1 : IntKind.i64.wrap (y - x) = y - x := by rw [IntKind.wrap_i64]; omega
              rcases hsd with ⟨hd, hj⟩ | ⟨hd, hj⟩
              · have t1' : (y - x == 3) = false := by simp; omega
                have t2' : (y - x == -3) = false := by simp; omega
                have HJV : Hid (Value.bool false = .bool J) := by show _ = _; rw [hj]
                clear hd hj hr1
                go_big_quiet (fail)
                go_wp2
                go_meet
                first
                  | exact ⟨HJV.out, HO.out, pr, BO.out⟩
                  | exact ⟨HJV.out, HO.out.below (drewN_below _ _), heap_later pr (drewN_below _ _), below_seq BO.out (drewN_below _ _)⟩
                  | exact ⟨HJV.out, HO.out.below (drew_below _), heap_later pr (drew_below _), below_seq BO.out (drew_below _)⟩
              · have HJV : Hid (Value.bool true = .bool J) := by show _ = _; rw [hj]
                rcases hr1 with e | e
                · have t1' : (y - x == 3) = false := by simp; omega
                  have t2' : (y - x == -3) = true := by simp; omega
                  clear hd hj e
                  go_big_quiet (fail)
                  go_wp2
                  go_meet
                  first
                    | exact ⟨HJV.out, HO.out, pr, BO.out⟩
                    | exact ⟨HJV.out, HO.out.below (drewN_below _ _), heap_later pr (drewN_below _ _), below_seq BO.out (drewN_below _ _)⟩
                    | exact ⟨HJV.out, HO.out.below (drew_below _), heap_later pr (drew_below _), below_seq BO.out (drew_below _)⟩
                · have t1' : (y - x == 3) = true := by simp; omega
                  have t2' : (y - x == -3) = false := by simp; omega
                  clear hd hj e
                  go_big_quiet (fail)
                  go_wp2
                  go_meet
                  first
                    | exact ⟨HJV.out, HO.out, pr, BO.out⟩
                    | exact ⟨HJV.out, HO.out.below (drewN_below _ _), heap_later pr (drewN_below _ _), below_seq BO.out (drewN_below _ _)⟩
                    | exact ⟨HJV.out, HO.out.below (drew_below _), heap_later pr (drew_below _), below_seq BO.out (drew_below _)⟩
          case rest =>
          clear HO BO pr HSD HBU HJB hr1
          obtain ⟨rfl, ho, pr, bo'⟩ := hcut
          have HO := Lib.hid ho; have BO := Lib.hid bo'; clear ho bo'
          cases J
          · have HE0 := Lib.hid (HJ0.out rfl)
            clear HJ1
            go_wp2
            go_roundw
            case rel => exact ⟨0 + 1, by omega, by go_num, by rw [HE0.out]; exact HO.out, pr, BO.out⟩
            case measure => simp [intOf]
          · obtain ⟨p, q, f1, f2, f3, f4, f5, hp, hq, hpq, hst⟩ := HJ1.out rfl
            have eca : ca = p := by rw [HCA.out, f3, if_pos rfl, f1]
            have ecb : cb = q := by rw [HCB.out, f4, if_pos rfl, f2]
            subst eca
            subst ecb
            have HF := Lib.hid f5; have HST := Lib.hid hst
            clear f1 f2 f3 f4 f5 hst HJ0 HJ1
            obtain ⟨M, hM⟩ : ∃ M, M = tbyP W T xs H (sidesJ W T xs k 0) := ⟨_, rfl⟩
            have hMl : M.length = n := by rw [hM, tbyP_len, HN.out]
            rw [← hM] at HO HF
            have HML := Lib.hid hMl
            clear hM hMl
            have k1 : (p : Int) < n := by omega
            have k2 : (q : Int) < n := by omega
            have hqp : ¬ q = p := fun e => hpq e.symm
            have hpW : (p : Int) < W * T := by rw [← HWT.out]; omega
            have HPW := Lib.hid hpW; clear hpW
            go_wp2
            go_loopw [15] (fun sv wr => ∃ st : Nat, 1 ≤ st ∧ st ≤ 5 ∧ sv = .int .i64 st ∧ OwnsI wr w1.heap.size (.slice (some ⟨g, 0, none⟩) n cap2) (if 4 < st then (M.set p 4).set q 2 else M) ∧ wr.heap[w.heap.size]? = some (.cells #[.int .i64 W, .int .i64 T, .slice a n cap] 25 (0, 0)) ∧ Below w.heap.size w wr) (fun sv _ => 5 - (intOf sv).toNat)
            case atStart => exact ⟨1, by omega, by omega, rfl, by rw [if_neg (by omega)]; exact HO.out, pr, BO.out⟩
            case round =>
              clear HO BO pr
              rename World => ws
              obtain ⟨st, st1, st5, rfl, ho, pr, bo'⟩ := hrel
              have HO := Lib.hid ho; have BO := Lib.hid bo'; clear ho bo'
              by_cases hlt5 : st < 5
              · have e5 : (st : Int) ≤ 4 := by omega
                have hsv := HST.out st (by omega) e5
                have hsv2 : (stepI W T (p : Int) (st : Int) != (q : Int)) = !((st : Int) == 4) := by rw [← hsv]; rfl
                obtain ⟨c0, c1, c2⟩ := cells3 pr
                by_cases hw : st = 4
                · subst hw
                  have ho := HO.out
                  rw [if_neg (by omega)] at ho
                  have HO2 := Lib.hid ho; clear ho HO
                  have t1 : (stepI W T (p : Int) 4 == (q : Int)) = true := by rw [HST.out 4 (by omega) (by omega)]; rfl
                  have HT1 := Lib.hid t1
                  clear hsv hsv2 t1
                  go_wp2_with fail
                  refine (l2Step_any W T _ _ _ (p : Int) _ _ v1 v2 v3 v4 (by omega) HPW.out).mono ?_; rintro e w6 ⟨rfl, hb6⟩
                  have hT1 := HT1.out
                  have p6 := heap_later pr hb6
                  have B6 := Lib.hid (below_seq BO.out hb6)
                  have O6 := Lib.hid (HO2.out.below hb6)
                  have s1 := OwnsI.set O6.out p 4
                  have s2 := OwnsI.set s1.1 q 2
                  have GW := grownBy_trans s1.2 s2.2
                  have OF := Lib.hid s2.1
                  have gl := O6.out.lt
                  have BF := Lib.hid (below_grown B6.out GW (Nat.le_refl _) (fun k e => by have := Option.some.inj e; omega))
                  have PF := heap_grown p6 GW (by simp; omega)
                  have gp := O6.out.cell (k := p) (by rw [HML.out]; exact hp)
                  have gq := O6.out.cell (k := q) (by rw [HML.out]; exact hq)
                  generalize M.getD p 0 = mp at gp
                  generalize M.getD q 0 = mq at gq
                  have fp := O6.out.free p
                  have fq := O6.out.free q
                  clear s1 s2 GW c0 c1 c2 pr BO hb6 p6
                  go_wp2_with fail
                  refine (l2Back_any _ _ (by omega) (by omega)).mono ?_; rintro e w7 ⟨rfl, rfl⟩
                  go_wp2
                  go_roundw
                  case rel => exact ⟨4 + 1, by omega, by omega, by go_num, by rw [if_pos (by omega)]; exact OF.out, PF, BF.out⟩
                  case measure => simp [intOf]
                · have t1 : (stepI W T (p : Int) (st : Int) == (q : Int)) = false := by rw [hsv]; simp; omega
                  have HT1 := Lib.hid t1
                  have ho := HO.out
                  have hif : (if 4 < st then (M.set p 4).set q 2 else M) = (if 4 < st + 1 then (M.set p 4).set q 2 else M) := by
                    by_cases h : 4 < st
                    · rw [if_pos h, if_pos (by omega)]
                    · rw [if_neg h, if_neg (by omega)]
                  rw [hif] at ho
                  have HO2 := Lib.hid ho
                  clear hsv hsv2 t1 ho hif HO hw
                  go_wp2_with fail
                  refine (l2Step_any W T _ _ _ (p : Int) _ _ v1 v2 v3 v4 (by omega) HPW.out).mono ?_; rintro e w6 ⟨rfl, hb6⟩
                  have hT1 := HT1.out
                  have p6 := heap_later pr hb6
                  have B6 := Lib.hid (below_seq BO.out hb6)
                  have O6 := Lib.hid (HO2.out.below hb6)
                  clear c0 c1 c2 pr BO hb6
                  go_wp2
                  go_roundw
                  case rel => exact ⟨st + 1, by omega, by omega, by go_num, O6.out, p6, B6.out⟩
                  case measure => simp [intOf]; omega
              · obtain rfl : st = 5 := by omega
                have ho := HO.out
                rw [if_pos (by omega), ← HF.out] at ho
                have HO2 := Lib.hid ho; clear ho HO
                go_wp2
                go_roundw
                case rel => exact ⟨0 + 1, by omega, by go_num, HO2.out, pr, BO.out⟩
                case measure => simp [intOf]
        · obtain rfl : j = 1 := by omega
          clear hj hj2 hj0
          have HEV : Hid (edV W T xs k true = .tuple #[.int .i64 (sTo W k true), .bool (sUsed W T xs k true), .bool (sBoth W T xs k true), .int .i64 (if sLeft W T xs k true then sCell W k true else -1), .int .i64 (if sRight W T xs k true then sOther W k true else -1), .bool (sDark W k true)]) := rfl
          have hUX : sidesJ W T xs k (1 + 1) = if sUsed W T xs k true then sidesJ W T xs k 1 ++ [(k, true)] else sidesJ W T xs k 1 := sidesJ_two W T xs k
          have hnot : ¬ (k, true) ∈ sidesJ W T xs k 1 := by
            unfold sidesJ
            intro h
            rw [List.mem_append] at h
            rcases h with h | h
            · have := (sidesK_mem.1 h).1; omega
            · simp at h
          have hbu : sBoth W T xs k true = true → sUsed W T xs k true = true := by unfold sBoth sUsed; cases sLeft W T xs k true <;> cases sRight W T xs k true <;> simp
          obtain ⟨J, hJ⟩ : ∃ J, J = jmpB W T xs H k true := ⟨_, rfl⟩
          have HJ0 : Hid (J = false → tbyP W T xs H (sidesJ W T xs k (1 + 1)) = tbyP W T xs H (sidesJ W T xs k 1)) := by
            intro h
            rw [hUX]
            split
            · exact tby_skip (by rw [← hJ]; exact h)
            · rfl
          have HJ1 : Hid (J = true → ∃ p q : Nat, sCell W k true = p ∧ sOther W k true = q ∧ sLeft W T xs k true = true ∧ sRight W T xs k true = true ∧ tbyP W T xs H (sidesJ W T xs k (1 + 1)) = ((tbyP W T xs H (sidesJ W T xs k 1)).set p 1).set q 3 ∧ p < n ∧ q < n ∧ p ≠ q ∧ ∀ v : Int, 1 ≤ v → v ≤ 4 → (stepI W T (p : Int) v == (q : Int)) = (v == 1)) := by
            intro h
            rw [h] at hJ
            have hbo : sBoth W T xs k true = true := by unfold jmpB at hJ; exact (Bool.and_eq_true _ _ ▸ hJ.symm : _ ∧ _).1
            obtain ⟨p, q, e1, e2, _⟩ := side_left v1 hbo
            obtain ⟨_, _, f3, f4, f5, f6, _, _⟩ := tby_jump v1 HNN.out HXL.out HSDS.out hnot hJ.symm e1 e2
            have hlr : sLeft W T xs k true = true ∧ sRight W T xs k true = true := by unfold sBoth at hbo; rw [Bool.and_eq_true] at hbo; exact hbo
            refine ⟨p, q, e1, e2, hlr.1, hlr.2, ?_, by rw [HN.out]; exact f4, by rw [HN.out]; exact f5, f6, fun v h1 h4 => ?_⟩
            · rw [hUX, if_pos (hbu hbo), f3]; rfl
            · rw [← e1, ← e2]; exact step_side v1 hbo h1 h4
          have HBU := Lib.hid hbu
          have HSD : Hid (sUsed W T xs k true = true → (0 ≤ sTo W k true ∧ sTo W k true < m ∧ (-60 ≤ H.getD k 0 ∧ H.getD k 0 ≤ 60) ∧ (-60 ≤ H.getD (sTo W k true).toNat 0 ∧ H.getD (sTo W k true).toNat 0 ≤ 60)) ∧ ((H.getD (sTo W k true).toNat 0 - H.getD k 0 = sRise W k true ∧ J = false) ∨ (H.getD (sTo W k true).toNat 0 - H.getD k 0 = -3 * sRise W k true ∧ J = true))) := by
            intro h
            obtain ⟨t0, t1, t2⟩ := sTo_lt v1 h
            rw [HNN.out] at t2
            obtain ⟨kt, hkt⟩ := Int.eq_ofNat_of_zero_le t0
            have htm : kt < m := by omega
            have a1 := hsMay_at hlt HMAY.out
            have a2 := hsMay_at htm HMAY.out
            unfold hMay at a1 a2
            rw [(hAt_iff v1).2 (Or.inl ⟨true, h⟩), if_pos rfl] at a1
            rw [(hAt_iff v1).2 (Or.inr ⟨k, true, h, hkt⟩), if_pos rfl] at a2
            refine ⟨⟨t0, t2, inB_rng a1, ?_⟩, by rw [hJ]; exact side_ok HSDS.out hlt h⟩
            rw [hkt, Int.toNat_natCast]; exact inB_rng a2
          have HJB : Hid (sBoth W T xs k true = false → J = false) := by intro h; rw [hJ]; unfold jmpB; rw [h]; rfl
          have hr1 := rise_one W k true
          obtain ⟨rs, hrs⟩ : ∃ rs, rs = sRise W k true := ⟨_, rfl⟩
          rw [← hrs] at hr1 HSD
          obtain ⟨kt, hkt⟩ : ∃ kt, kt = sTo W k true := ⟨_, rfl⟩
          rw [← hkt] at HEV HSD
          obtain ⟨ca, hca⟩ : ∃ ca, ca = (if sLeft W T xs k true then sCell W k true else -1) := ⟨_, rfl⟩
          obtain ⟨cb, hcb⟩ : ∃ cb, cb = (if sRight W T xs k true then sOther W k true else -1) := ⟨_, rfl⟩
          rw [← hca, ← hcb] at HEV
          have HCA := Lib.hid hca; have HCB := Lib.hid hcb
          obtain ⟨u, hu⟩ : ∃ u, u = sUsed W T xs k true := ⟨_, rfl⟩
          obtain ⟨bo, hbo⟩ : ∃ bo, bo = sBoth W T xs k true := ⟨_, rfl⟩
          obtain ⟨D, hD⟩ : ∃ D, D = sDark W k true := ⟨_, rfl⟩
          rw [← hu, ← hbo, ← hD] at HEV
          rw [← hu] at HSD
          rw [← hu, ← hbo] at HBU
          rw [← hbo] at HJB
          clear hUX hnot hbu hJ hrs hkt hca hcb hu hbo hD
          go_wp2_with fail
          refine (l4Edge_north _ _ _ _ _ xs k _ HN.out v1 v2 v3 v4 HWT.out HKN.out (HA.out.below BO.out)).mono ?_; rintro e w5 ⟨rfl, hb5⟩
          rw [HEV.out]
          have p5 := heap_later pr hb5
          have B5 := Lib.hid (below_seq BO.out hb5)
          have O5 := Lib.hid (HO.out.below hb5)
          clear hb5 c0 c1 c2 pr BO HO
          have pr := p5; have BO := B5; have HO := O5
          clear p5 B5 O5
          go_upto_region 11 with fail
          go_cut [72] (fun v wx => v = .bool J ∧ OwnsI wx w1.heap.size (.slice (some ⟨g, 0, none⟩) n cap2) (tbyP W T xs H (sidesJ W T xs k 1)) ∧ wx.heap[w.heap.size]? = some (.cells #[.int .i64 W, .int .i64 T, .slice a n cap] 25 (0, 0)) ∧ Below w.heap.size w wx)
          case first =>
            obtain ⟨c0, c1, c2⟩ := cells3 pr
            cases bo
            · have HJV : Hid (Value.bool false = .bool J) := by show _ = _; rw [HJB.out rfl]
              cases u
              · go_big_quiet (fail)
                go_wp2
                go_meet
                first
                  | exact ⟨HJV.out, HO.out, pr, BO.out⟩
                  | exact ⟨HJV.out, HO.out.below (drewN_below _ _), heap_later pr (drewN_below _ _), below_seq BO.out (drewN_below _ _)⟩
                  | exact ⟨HJV.out, HO.out.below (drew_below _), heap_later pr (drew_below _), below_seq BO.out (drew_below _)⟩
              · go_big_quiet (fail)
                go_wp2
                go_meet
                first
                  | exact ⟨HJV.out, HO.out, pr, BO.out⟩
                  | exact ⟨HJV.out, HO.out.below (drewN_below _ _), heap_later pr (drewN_below _ _), below_seq BO.out (drewN_below _ _)⟩
                  | exact ⟨HJV.out, HO.out.below (drew_below _), heap_later pr (drew_below _), below_seq BO.out (drew_below _)⟩
            · have hu := HBU.out rfl
              subst hu
              obtain ⟨⟨t0, t1, ⟨x0, x1⟩, ⟨y0, y1⟩⟩, hsd⟩ := HSD.out rfl
              obtain ⟨kn, hkn⟩ := Int.eq_ofNat_of_zero_le t0
              subst hkn
              rw [Int.toNat_natCast] at y0 y1 hsd
              have hknm : kn < m := by omega
              obtain ⟨lb, lo, rfl, -⟩ := HL.out k (by rw [← HM.out]; exact hlt)
              have gx := (HL.out.below BO.out).cellAt (i := k) (by rw [← HM.out]; exact hlt)
              have gy := (HL.out.below BO.out).cellAt (i := kn) (by rw [← HM.out]; exact hknm)
              obtain ⟨x, hx⟩ : ∃ x, x = H.getD k 0 := ⟨_, rfl⟩
              obtain ⟨y, hy⟩ : ∃ y, y = H.getD kn 0 := ⟨_, rfl⟩
              rw [← hx] at gx x0 x1 hsd; rw [← hy] at gy y0 y1 hsd
              clear hx hy t0
              have s1 : IntKind.i64.wrap (y - x) = y - x := by rw [IntKind.wrap_i64]; omega
              rcases hsd with ⟨hd, hj⟩ | ⟨hd, hj⟩
              · have t1' : (y - x == 3) = false := by simp; omega
                have t2' : (y - x == -3) = false := by simp; omega
                have HJV : Hid (Value.bool false = .bool J) := by show _ = _; rw [hj]
                clear hd hj hr1
                go_big_quiet (fail)
                go_wp2
                go_meet
                first
                  | exact ⟨HJV.out, HO.out, pr, BO.out⟩
                  | exact ⟨HJV.out, HO.out.below (drewN_below _ _), heap_later pr (drewN_below _ _), below_seq BO.out (drewN_below _ _)⟩
                  | exact ⟨HJV.out, HO.out.below (drew_below _), heap_later pr (drew_below _), below_seq BO.out (drew_below _)⟩
              · have HJV : Hid (Value.bool true = .bool J) := by show _ = _; rw [hj]
                rcases hr1 with e | e
                · have t1' : (y - x == 3) = false := by simp; omega
                  have t2' : (y - x == -3) = true := by simp; omega
                  clear hd hj e
                  go_big_quiet (fail)
                  go_wp2
                  go_meet
                  first
                    | exact ⟨HJV.out, HO.out, pr, BO.out⟩
                    | exact ⟨HJV.out, HO.out.below (drewN_below _ _), heap_later pr (drewN_below _ _), below_seq BO.out (drewN_below _ _)⟩
                    | exact ⟨HJV.out, HO.out.below (drew_below _), heap_later pr (drew_below _), below_seq BO.out (drew_below _)⟩
                · have t1' : (y - x == 3) = true := by simp; omega
                  have t2' : (y - x == -3) = false := by simp; omega
                  clear hd hj e
                  go_big_quiet (fail)
                  go_wp2
                  go_meet
                  first
                    | exact ⟨HJV.out, HO.out, pr, BO.out⟩
                    | exact ⟨HJV.out, HO.out.below (drewN_below _ _), heap_later pr (drewN_below _ _), below_seq BO.out (drewN_below _ _)⟩
                    | exact ⟨HJV.out, HO.out.below (drew_below _), heap_later pr (drew_below _), below_seq BO.out (drew_below _)⟩
          case rest =>
          clear HO BO pr HSD HBU HJB hr1
          obtain ⟨rfl, ho, pr, bo'⟩ := hcut
          have HO := Lib.hid ho; have BO := Lib.hid bo'; clear ho bo'
          cases J
          · have HE0 := Lib.hid (HJ0.out rfl)
            clear HJ1
            go_wp2
            go_roundw
            case rel => exact ⟨1 + 1, by omega, by go_num, by rw [HE0.out]; exact HO.out, pr, BO.out⟩
            case measure => simp [intOf]
          · obtain ⟨p, q, f1, f2, f3, f4, f5, hp, hq, hpq, hst⟩ := HJ1.out rfl
            have eca : ca = p := by rw [HCA.out, f3, if_pos rfl, f1]
            have ecb : cb = q := by rw [HCB.out, f4, if_pos rfl, f2]
            subst eca
            subst ecb
            have HF := Lib.hid f5; have HST := Lib.hid hst
            clear f1 f2 f3 f4 f5 hst HJ0 HJ1
            obtain ⟨M, hM⟩ : ∃ M, M = tbyP W T xs H (sidesJ W T xs k 1) := ⟨_, rfl⟩
            have hMl : M.length = n := by rw [hM, tbyP_len, HN.out]
            rw [← hM] at HO HF
            have HML := Lib.hid hMl
            clear hM hMl
            have k1 : (p : Int) < n := by omega
            have k2 : (q : Int) < n := by omega
            have hqp : ¬ q = p := fun e => hpq e.symm
            have hpW : (p : Int) < W * T := by rw [← HWT.out]; omega
            have HPW := Lib.hid hpW; clear hpW
            go_wp2
            go_loopw [15] (fun sv wr => ∃ st : Nat, 1 ≤ st ∧ st ≤ 5 ∧ sv = .int .i64 st ∧ OwnsI wr w1.heap.size (.slice (some ⟨g, 0, none⟩) n cap2) (if 1 < st then (M.set p 1).set q 3 else M) ∧ wr.heap[w.heap.size]? = some (.cells #[.int .i64 W, .int .i64 T, .slice a n cap] 25 (0, 0)) ∧ Below w.heap.size w wr) (fun sv _ => 5 - (intOf sv).toNat)
            case atStart => exact ⟨1, by omega, by omega, rfl, by rw [if_neg (by omega)]; exact HO.out, pr, BO.out⟩
            case round =>
              clear HO BO pr
              rename World => ws
              obtain ⟨st, st1, st5, rfl, ho, pr, bo'⟩ := hrel
              have HO := Lib.hid ho; have BO := Lib.hid bo'; clear ho bo'
              by_cases hlt5 : st < 5
              · have e5 : (st : Int) ≤ 4 := by omega
                have hsv := HST.out st (by omega) e5
                have hsv2 : (stepI W T (p : Int) (st : Int) != (q : Int)) = !((st : Int) == 1) := by rw [← hsv]; rfl
                obtain ⟨c0, c1, c2⟩ := cells3 pr
                by_cases hw : st = 1
                · subst hw
                  have ho := HO.out
                  rw [if_neg (by omega)] at ho
                  have HO2 := Lib.hid ho; clear ho HO
                  have t1 : (stepI W T (p : Int) 1 == (q : Int)) = true := by rw [HST.out 1 (by omega) (by omega)]; rfl
                  have HT1 := Lib.hid t1
                  clear hsv hsv2 t1
                  go_wp2_with fail
                  refine (l2Step_any W T _ _ _ (p : Int) _ _ v1 v2 v3 v4 (by omega) HPW.out).mono ?_; rintro e w6 ⟨rfl, hb6⟩
                  have hT1 := HT1.out
                  have p6 := heap_later pr hb6
                  have B6 := Lib.hid (below_seq BO.out hb6)
                  have O6 := Lib.hid (HO2.out.below hb6)
                  have s1 := OwnsI.set O6.out p 1
                  have s2 := OwnsI.set s1.1 q 3
                  have GW := grownBy_trans s1.2 s2.2
                  have OF := Lib.hid s2.1
                  have gl := O6.out.lt
                  have BF := Lib.hid (below_grown B6.out GW (Nat.le_refl _) (fun k e => by have := Option.some.inj e; omega))
                  have PF := heap_grown p6 GW (by simp; omega)
                  have gp := O6.out.cell (k := p) (by rw [HML.out]; exact hp)
                  have gq := O6.out.cell (k := q) (by rw [HML.out]; exact hq)
                  generalize M.getD p 0 = mp at gp
                  generalize M.getD q 0 = mq at gq
                  have fp := O6.out.free p
                  have fq := O6.out.free q
                  clear s1 s2 GW c0 c1 c2 pr BO hb6 p6
                  go_wp2_with fail
                  refine (l2Back_any _ _ (by omega) (by omega)).mono ?_; rintro e w7 ⟨rfl, rfl⟩
                  go_wp2
                  go_roundw
                  case rel => exact ⟨1 + 1, by omega, by omega, by go_num, by rw [if_pos (by omega)]; exact OF.out, PF, BF.out⟩
                  case measure => simp [intOf]
                · have t1 : (stepI W T (p : Int) (st : Int) == (q : Int)) = false := by rw [hsv]; simp; omega
                  have HT1 := Lib.hid t1
                  have ho := HO.out
                  have hif : (if 1 < st then (M.set p 1).set q 3 else M) = (if 1 < st + 1 then (M.set p 1).set q 3 else M) := by
                    by_cases h : 1 < st
                    · rw [if_pos h, if_pos (by omega)]
                    · rw [if_neg h, if_neg (by omega)]
                  rw [hif] at ho
                  have HO2 := Lib.hid ho
                  clear hsv hsv2 t1 ho hif HO hw
                  go_wp2_with fail
                  refine (l2Step_any W T _ _ _ (p : Int) _ _ v1 v2 v3 v4 (by omega) HPW.out).mono ?_; rintro e w6 ⟨rfl, hb6⟩
                  have hT1 := HT1.out
                  have p6 := heap_later pr hb6
                  have B6 := Lib.hid (below_seq BO.out hb6)
                  have O6 := Lib.hid (HO2.out.below hb6)
                  clear c0 c1 c2 pr BO hb6
                  go_wp2
                  go_roundw
                  case rel => exact ⟨st + 1, by omega, by omega, by go_num, O6.out, p6, B6.out⟩
                  case measure => simp [intOf]; omega
              · obtain rfl : st = 5 := by omega
                have ho := HO.out
                rw [if_pos (by omega), ← HF.out] at ho
                have HO2 := Lib.hid ho; clear ho HO
                go_wp2
                go_roundw
                case rel => exact ⟨1 + 1, by omega, by go_num, HO2.out, pr, BO.out⟩
                case measure => simp [intOf]
    · obtain rfl : k = m := by omega
      go_wp2
      go_ret2
      exact ⟨some ⟨g, 0, none⟩, cap2, by rw [HE.out]; rfl, by rw [HE.out]; exact HO.out.lower (by omega), BO.out⟩
end Go.Proofs.Ytknigcjpgkolgaa

namespace Go.Proofs.Ytknigcjpgkolgaa
open Go.RowKit
set_option linter.unusedVariables false
set_option maxRecDepth 100000
set_option linter.unusedSimpArgs false

end Go.Proofs.Ytknigcjpgkolgaa
