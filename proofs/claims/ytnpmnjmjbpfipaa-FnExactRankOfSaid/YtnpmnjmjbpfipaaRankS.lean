/- Contract of spec.RankOf. -/
import Derived.Test.YtnpmnjmjbpfipaaRank
import Derived.Deep.DeepCutAuto
namespace Go.Proofs.Ytnpmnjmjbpfipaa
open Go.RowKit
set_option linter.unusedVariables false
set_option maxRecDepth 100000
set_option linter.unusedSimpArgs false

/-- How many rounds may still come: none behind the last cell. -/
def mzI (n : Nat) (v : Value) : Nat := if intOf v < 0 then 0 else n + 1 - (intOf v).toNat

theorem mzI_nat (n f : Nat) : mzI n (.int .i64 (f : Int)) = n + 1 - f := by
  unfold mzI
  have h : ¬ ((f : Int) < 0) := by omega
  simp [intOf, h]

set_option maxHeartbeats 4000000 in
theorem sRankOf_any (W T : Int) (a : Option Addr) (n cap : Nat) (xs : List Bool) (la : Option Addr) (m lcap : Nat) (L : List Int) (w : World) (hn : n = xs.length) (hn' : n ≤ 1048576) (hm : m = L.length) (hm' : m ≤ 1048576) (ha : BoolsAt w a xs) (hl : IntsAt w la L) :
    Calls Try.prog 43 #[.agg #[.int .i64 W, .int .i64 T, .slice a n cap], .slice la m lcap] w fun e w' => e = .returned (.int .i64 (rankF W T xs L)) ∧ Below w.heap.size w w' := by
  have HN := Lib.hid hn; clear hn
  have HM := Lib.hid hm; clear hm
  have HA := Lib.hid ha; clear ha
  have HL := Lib.hid hl; clear hl
  cases ht : tok W T xs L
  · have e : rankF W T xs L = -1 := by unfold rankF; rw [ht]; rfl
    rw [e]
    go_enter Try.func43, Try.ntmps43
    go_wp2_with fail
    refine (sTilingOk_any _ _ _ _ _ xs _ _ _ L _ HN.out hn' HM.out hm' (HA.out.one _) (HL.out.one _)).mono ?_; rintro e w1 ⟨rfl, hb1⟩
    rw [ht]
    go_wp2
    go_ret
    exact ⟨rfl, below_seq (below1 _ _) hb1⟩
  · have e : rankF W T xs L = (rankN W T xs L xs.length : Int) := by unfold rankF; rw [ht]; rfl
    rw [e]
    have hlk : lok W T xs L = true := by unfold tok at ht; rw [Bool.and_eq_true] at ht; exact ht.1
    obtain ⟨hr, hlen, _⟩ := lok_rv hlk
    obtain ⟨hW0, hW1, hT0, hT1, v5, _⟩ := rv_true hr
    have hmn : m = n := by rw [HM.out, HN.out]; exact hlen
    subst hmn
    have hWT : (m : Int) = W * T := by rw [HN.out]; exact v5
    have n36 : m ≤ 36 := by
      have h1 : W * T ≤ 6 * 6 := Int.mul_le_mul hW1 hT1 (by omega) (by omega)
      omega
    have hp : 0 < m := by
      have h1 : 1 * 1 ≤ W * T := Int.mul_le_mul hW0 hT0 (by omega) (by omega)
      omega
    have hbr : bareL W T xs = List.replicate m 0 := by unfold bareL; rw [if_pos hr, HN.out]
    have hbl : m = (List.replicate m (0 : Int)).length := by simp
    have HBL := Lib.hid hbl; clear hbl
    have HWT := Lib.hid hWT; clear hWT v5 e hlen hlk hr
    have HST : Hid (RInv W T xs L 0 (List.replicate m 0) xs) := by have h := RInv.start ht; show RInv _ _ _ _ _ _ _; rw [HN.out]; exact h
    have HT := Lib.hid ht; clear ht
    go_enter Try.func43, Try.ntmps43
    go_wp2_with fail
    refine (sTilingOk_any _ _ _ _ _ xs _ _ _ L _ HN.out hn' HM.out hm' (HA.out.one _) (HL.out.one _)).mono ?_; rintro e w1 ⟨rfl, hb1⟩
    rw [HT.out]
    have p1 := heap_later (heap_new w _) hb1
    have b1 := below_seq (below1 _ _) hb1
    have zl : w.heap.size + 1 ≤ w1.heap.size := heap_lt p1
    obtain ⟨c0, c1, c2⟩ := cells3 p1
    go_wp2_with fail
    refine (sLaidBare_ret _ _ _ _ _ xs _ HN.out hn' (HA.out.below b1)).mono ?_; rintro e w2 ⟨a2, cap2, rfl, ho2, hb2⟩
    rw [hbr] at ho2 ⊢
    rw [← HBL.out]
    rw [← HBL.out] at ho2
    have p2 := heap_later p1 hb2
    have b2 := below_seq b1 hb2
    have O2 := Lib.hid (ho2.lower (show w.heap.size + 1 ≤ _ by omega))
    clear c0 c1 c2 p1 b1 hb1 hb2 ho2 hbr
    obtain ⟨c0, c1, c2⟩ := cells3 p2
    go_wp2_with fail
    refine (l2First_any _ _ _ _ _ xs _ _ (List.replicate m 0) _ HN.out HBL.out hn' (HA.out.below b2) (OwnsI.at O2.out)).mono ?_; rintro e w3 ⟨rfl, hb3⟩
    have p3 := heap_later p2 hb3
    have b3 := below_seq b2 hb3
    have O3 := Lib.hid (O2.out.below hb3)
    clear c0 c1 c2 p2 b2 hb3 O2
    go_wp2_with fail
    go_loopw [5, 6, 7] (fun r v cl wr => ∃ (c : Nat) (M : List Int) (ys : List Bool), c ≤ m ∧ RInv W T xs L c M ys ∧ ys = restN W T xs L c ∧ r = .int .i64 (rankN W T xs L c) ∧ cl = .int .i64 (firstI xs M 0 m) ∧ OwnsI wr (w.heap.size + 1) v M ∧ wr.heap[w.heap.size]? = some (.cells #[.int .i64 W, .int .i64 T, .slice a m cap] 35 (0, 0)) ∧ Below w.heap.size w wr) (fun _ _ cl _ => mzI m cl)
    case atStart => exact ⟨0, List.replicate m 0, xs, Nat.zero_le _, HST.out, rfl, rfl, rfl, O3.out, p3, b3⟩
    case round =>
      rename World => wo
      clear p3 b3 O3
      obtain ⟨c, M, ys, hcm, hinv, hys, rfl, rfl, ho, pr, hbel⟩ := hrel
      have HO := Lib.hid ho; clear ho
      have BEL := Lib.hid hbel; clear hbel
      obtain ⟨c0, c1, c2⟩ := cells3 pr
      have l1 := heap_lt pr
      have hml : m = M.length := by rw [hinv.lm]; exact HN.out
      obtain ⟨a6, cap6, hv6⟩ := HO.out.form2
      rw [← hml] at hv6
      subst hv6
      rcases first_cases xs M 0 m with ⟨hf, hno⟩ | ⟨f, _, hfm, hf, hfree, hno⟩
      · -- no cell is free any more
        have hz : ∀ j, c ≤ j → j < c + (m - c) → ys.getD j false = false := by
          intro j h1 h2
          rw [← hinv.free j (by rw [← HN.out]; omega)]
          exact hno j (Nat.zero_le _) (by omega)
        obtain ⟨_, e2⟩ := hinv.rest (m - c) hys hz
        rw [show c + (m - c) = m by omega] at e2
        rw [← e2, hf]
        clear e2 hz hno hf
        go_wp2
        go_ret
        exact ⟨ret_int (by rw [← HN.out]), BEL.out⟩
      · have hyf : ys.getD f false = true := by rw [← hinv.free f (by rw [← HN.out]; exact hfm)]; exact hfree
        have hcf : c ≤ f := by
          rcases Nat.lt_or_ge f c with h | h
          · rw [hinv.done f h] at hyf; cases hyf
          · exact h
        have hz : ∀ j, c ≤ j → j < c + (f - c) → ys.getD j false = false := by
          intro j h1 h2
          rw [← hinv.free j (by rw [← HN.out]; omega)]
          exact hno j (Nat.zero_le _) (by omega)
        have hinv2 := hinv.skips (f - c) hz
        obtain ⟨er, ek⟩ := hinv.rest (f - c) hys hz
        rw [show c + (f - c) = f by omega] at er ek hinv2
        obtain ⟨hlay, hinv3⟩ := hinv2.step HT.out (by rw [← HN.out]; exact hfm) hyf
        obtain ⟨es1, es2⟩ := rest_step er.symm hyf
        rw [← ek, hf]
        clear hz hno hf hfree hinv hys hcm
        have hcanE := hinv2.can (c := f) (by rw [← HN.out]; exact hfm) 1
        have hEast := hinv2.east (by rw [← HN.out]; exact hfm) 1 (by omega)
        rw [← HN.out] at hEast
        obtain ⟨v, hv⟩ : ∃ v, v = L.getD f 0 := ⟨_, rfl⟩
        obtain ⟨lb, lo, rfl, hy⟩ := (HL.out.below BEL.out) f (by rw [← HM.out]; exact hfm)
        rw [← hv] at hy hlay hinv3 es1 es2
        have hly := World.block_lt_of_cell? wo _ hy
        simp only at hly
        have hlyw : lb < w.heap.size := by
          obtain ⟨lb', lo', hbb, hc'⟩ := HL.out f (by rw [← HM.out]; exact hfm)
          cases hbb
          exact World.block_lt_of_cell? w _ hc'
        have hyw : w.cell? ⟨lb, lo + f, none⟩ = some (.int .i64 v) := by
          have := BEL.out.cell (p := ⟨lb, lo + f, none⟩) hlyw
          rw [← this]; exact hy
        have e1 : (f : Int) < m := by omega
        have hlokM := hinv2.ok
        have hfl : ∀ way : Int, layF W T xs M f way = (laidL W T xs M f way, canLay W T xs M f way) := fun way => by unfold layF; rw [hlokM]; rfl
        have HFL := Lib.hid hfl; clear hfl hlokM
        have hwl := withN_le' (W := W) (T := T) (xs := ys) (by rw [hinv2.ly, ← HN.out]; exact n36) f 1
        have hrk := rankN_le W T xs L (by rw [← HN.out]; exact n36) f (by omega)
        have HIN3 := Lib.hid hinv3; clear hinv3
        have HES1 := Lib.hid es1; clear es1
        obtain ⟨R, hR⟩ : ∃ R, R = rankN W T xs L f := ⟨_, rfl⟩
        rw [← hR] at es2 hrk ⊢
        have HML := Lib.hid hml; clear hml
        have HLAY := Lib.hid hlay; clear hlay
        clear hR ek er hinv2 hyf hv
        go_upto_if 30 with fail
        go_cut [5] (fun v5 wx => v5 = .int .i64 (rankN W T xs L (f + 1)) ∧ Below wo.heap.size wo wx)
        case first =>
          by_cases hv2 : v = 2
          · subst hv2
            rw [if_pos rfl] at es2
            obtain ⟨Q, hQ⟩ : ∃ Q, Q = withN W T ys f 1 := ⟨_, rfl⟩
            rw [← hQ] at es2 hwl hEast
            have ES2 := Lib.hid es2; clear es2
            cases hcl : canLay W T xs M f 1
            · have hQ0 : Q = 0 := by rw [hQ]; unfold withN; rw [← hcanE, hcl]; rfl
              clear hEast hcanE hQ
              go_wp2_with fail
              refine (sLayOne_ret _ _ _ _ _ xs _ _ _ M _ _ _ HN.out hn' HML.out hn' (HA.out.below BEL.out) (OwnsI.at HO.out)).mono ?_; rintro e w4 ⟨a4, cap4, rfl, ho4, hb4⟩
              rw [HFL.out, hcl]
              go_wp2_with fail
              go_meet
              exact ⟨by rw [ES2.out, hQ0]; rfl, hb4⟩
            · have hE := hEast hcl
              clear hEast hcanE hQ
              have HLL : Hid ((laidL W T xs M f 1).length = m) := by show _ = _; rw [laidL_len]; exact HML.out.symm
              go_wp2_with fail
              refine (sLayOne_ret _ _ _ _ _ xs _ _ _ M _ _ _ HN.out hn' HML.out hn' (HA.out.below BEL.out) (OwnsI.at HO.out)).mono ?_; rintro e w4 ⟨a4, cap4, rfl, ho4, hb4⟩
              rw [HFL.out, hcl]
              rw [HFL.out] at ho4
              simp only [HLL.out] at ho4 ⊢
              have p4 := heap_later pr hb4
              have B4 := below_seq BEL.out hb4
              have O4 := Lib.hid ho4; clear ho4
              clear c0 c1 c2
              obtain ⟨c0, c1, c2⟩ := cells3 p4
              go_wp2_with fail
              refine (l3With_any _ _ _ _ _ xs _ _ (laidL W T xs M f 1) _ HN.out HLL.out.symm hp n36 (HA.out.below B4) (OwnsI.at O4.out)).mono ?_; rintro e w5 ⟨rfl, hb5⟩
              rw [hE]
              have B5 := hb4.trans (hb5.mono hb4.size)
              clear hE
              go_wp2_with fail
              go_meet
              exact ⟨by rw [ES2.out]; go_num, B5⟩
          · rw [if_neg hv2] at es2
            have ES2 := Lib.hid es2; clear es2 hEast hcanE
            have zv : (v == 2) = false := by simpa using hv2
            go_wp2_with fail
            go_meet
            exact ⟨by rw [ES2.out]; rfl, Below.refl _ _⟩
        case rest =>
          obtain ⟨rfl, hbc⟩ := hcut
          clear es2 hEast hcanE hwl hrk c0 c1 c2 hy
          have pc := heap_later pr hbc
          have BC := Lib.hid (below_seq BEL.out hbc)
          have OC := Lib.hid (HO.out.below hbc)
          have hyc : wc.cell? ⟨lb, lo + f, none⟩ = _ := (BC.out.cell (p := ⟨lb, lo + f, none⟩) hlyw).trans hyw
          have lc := heap_lt pc
          have hlyc : lb < wc.heap.size := by omega
          have HLL : Hid ((laidL W T xs M f v).length = m) := by show _ = _; rw [laidL_len]; exact HML.out.symm
          clear pr hbc hyw hly HO BEL
          obtain ⟨c0, c1, c2⟩ := cells3 pc
          go_wp2_with fail
          have AD : BoolsAt wc.drew a xs := HA.out.below BC.out.drew
          have ID : IntsAt wc.drew a6 M := OwnsI.at OC.out
          go_region_with (go_at_call 74; refine (sLayOne_ret _ _ _ _ _ xs _ _ _ M _ _ _ HN.out hn' HML.out hn' AD ID).mono ?_; rintro e w4 ⟨a4, cap4, rfl, ho4, hb4⟩)
          all_goals
            simp only [HFL.out, HLL.out] at ho4 ⊢
            have bb : Below wc.heap.size wc w4 := below_seq (drew_below _) hb4
            have p4 := heap_later pc bb
            have B4 := Lib.hid (below_seq BC.out bb)
            have O4 := Lib.hid (OwnsI.lower ho4 (show w.heap.size + 1 ≤ wc.heap.size by omega))
            clear c0 c1 c2 hyc ho4 hb4 pc AD ID
            obtain ⟨c0, c1, c2⟩ := cells3 p4
            go_wp2_with fail
            refine (l2First_any _ _ _ _ _ xs _ _ (laidL W T xs M f v) _ HN.out HLL.out.symm hn' (HA.out.below B4.out) (OwnsI.at O4.out)).mono ?_; rintro e w5 ⟨rfl, hb5⟩
            have p5 := heap_later p4 hb5
            have B5 := below_seq B4.out hb5
            have O5 := O4.out.below hb5
            go_wp2_with fail
            refine ⟨⟨f + 1, laidL W T xs M f v, takeB W T ys f v, by omega, HIN3.out, HES1.out, rfl, rfl, O5, p5, B5⟩, ?_⟩
            have hm2 : mzI m (.int .i64 (f : Int)) = m + 1 - f := mzI_nat m f
            have hm3 : mzI m (.int .i64 (firstI xs (laidL W T xs M f v) 0 m)) < m + 1 - f := by
              rcases first_cases xs (laidL W T xs M f v) 0 m with ⟨hq, _⟩ | ⟨f2, _, hf2m, hq, hfr, _⟩
              · rw [hq]; unfold mzI; simp [intOf]; omega
              · rw [hq]
                have hge : f + 1 ≤ f2 := by
                  rcases Nat.lt_or_ge f2 (f + 1) with h | h
                  · have h1 := HIN3.out.free f2 (by rw [← HN.out]; exact hf2m)
                    rw [hfr, HIN3.out.done f2 h] at h1
                    cases h1
                  · exact h
                rw [mzI_nat]
                omega
            show mzI m (.int .i64 (firstI xs (laidL W T xs M f v) 0 m)) < mzI m (.int .i64 (f : Int))
            rw [hm2]
            exact hm3

end Go.Proofs.Ytnpmnjmjbpfipaa
