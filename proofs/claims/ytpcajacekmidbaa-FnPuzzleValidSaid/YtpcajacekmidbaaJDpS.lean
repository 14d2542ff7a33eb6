/- Contract of spec.TilingsMany. -/
import Derived.Test.YtpcajacekmidbaaJFaultsS
namespace Go.Proofs.Ytpcajacekmidbaa
open Go.RowKit Go.Maps
set_option linter.unusedVariables false
set_option maxRecDepth 100000
set_option linter.unusedSimpArgs false

theorem north_zero {W : Int} {s : Nat} (hsB : s < 2 ^ W.toNat) : (s : Int) / 2 ^ W.toNat = 0 := by
  refine Int.ediv_eq_zero_of_lt (by omega) ?_
  have e : (2 : Int) ^ W.toNat = ((2 ^ W.toNat : Nat) : Int) := by simp
  rw [e]
  omega
theorem north_free {W : Int} {s : Nat} (hW0 : 1 ≤ W) (hW1 : W ≤ 6) (hsB : s < 2 ^ W.toNat) (h : s / 2 ^ W.toNat % 2 = 0) : (((s : Int) / 2 ^ W.toNat).tmod 2 == 0) = true := by
  rw [north_zero hsB]; rfl
theorem north_val {W : Int} {s : Nat} (hW0 : 1 ≤ W) (hW1 : W ≤ 6) (hsB : s < 2 ^ W.toNat) : (((s + 2 ^ W.toNat) / 2 : Nat) : Int) = wrap64 ((s : Int) / 2 + wrap64 (2 ^ (W.toNat - 1))) := by
  have hw' : W = 1 ∨ W = 2 ∨ W = 3 ∨ W = 4 ∨ W = 5 ∨ W = 6 := by omega
  rcases hw' with rfl | rfl | rfl | rfl | rfl | rfl <;> simp [wrap64] at hsB ⊢ <;> omega

/-- What the functions TilingsMany answer. -/
def tilT (W T : Int) (xs : List Bool) : Int := if rv W T xs then (dpT W T xs : Int) else -1
def Box (w : World) (b : Nat) (W T : Int) (a : Option Addr) (n cap : Nat) : Prop := w.heap[b]? = some (.cells #[.int .i64 W, .int .i64 T, .slice a n cap] 25 (0, 0))

set_option maxHeartbeats 3000000 in
theorem sTilingsMany_any (W T : Int) (a : Option Addr) (n cap : Nat) (xs : List Bool) (w : World) (hn : n = xs.length) (hn' : n ≤ 1048576) (ha : BoolsAt w a xs) :
    Calls Try.prog 98 #[.agg #[.int .i64 W, .int .i64 T, .slice a n cap]] w fun e w' => e = .returned (.int .i64 (tilT W T xs)) ∧ Below w.heap.size w w' := by
  have HN := Lib.hid hn; clear hn
  have HA := Lib.hid ha; clear ha
  by_cases h : rv W T xs = true
  · obtain ⟨hW0, hW1, hT0, hT1, v5, _⟩ := rv_true h
    have hWT : (n : Int) = W * T := by rw [HN.out]; exact v5
    clear v5
    have n36 : n ≤ 36 := by
      have h1 : W * T ≤ 6 * 6 := Int.mul_le_mul hW1 hT1 (by omega) (by omega)
      omega
    have HWT := Lib.hid hWT; clear hWT
    obtain ⟨pw2, pw64⟩ := pow_le64 hW0 hW1
    have hres : tilT W T xs = (dpT W T xs : Int) := by unfold tilT; rw [if_pos h]
    rw [hres]
    clear hres
    obtain ⟨TT, hTT⟩ : ∃ TT : Int, TT = (dpT W T xs : Int) := ⟨_, rfl⟩
    have HTT := Lib.hid hTT; clear hTT
    obtain ⟨i0, hi, hz0, hz1, hz2⟩ := info_parts infoInt
    go_enter Try.func98, Try.ntmps98
    go_wp2_with fail
    refine (sRegionValid_any _ _ _ _ _ xs _ HN.out hn' (HA.out.one _)).mono ?_; rintro e w1 ⟨rfl, hb1⟩
    have p1 := heap_later (heap_new w _) hb1
    have b1 := below_seq (below1 _ _) hb1
    have z1 : w.heap.size + 1 ≤ w1.heap.size := by have := hb1.size; simp at this; omega
    have oS := OwnsI.alloc (own_one_litQ1 w1 (B := w.heap.size + 1) 0 z1) (.cells #[.int .i64 1] 3 (0, 0))
    have oC := own_one_litQ1 (w1.alloc (.cells #[.int .i64 0] 3 (0, 0))) (B := w.heap.size + 1) 1 (by simp; omega)
    have p2 := heap_later p1 (below2 w1 (.cells #[.int .i64 0] 3 (0, 0)) (.cells #[.int .i64 1] 3 (0, 0)))
    have b2 := below_seq b1 (below2 w1 (.cells #[.int .i64 0] 3 (0, 0)) (.cells #[.int .i64 1] 3 (0, 0)))
    have e1 : (w1.alloc (.cells #[.int .i64 0] 3 (0, 0))).heap.size = w1.heap.size + 1 := by simp
    rw [e1] at oC
    rw [h]
    clear hb1 p1 b1 e1
    go_wp2_with fail
    go_loopw [3, 4, 5] (fun v3 v4 i wr => ∃ k : Nat, k ≤ n ∧ i = .int .i64 k ∧ ∃ (S : List Nat) (C : List Int), OwnsI wr (w.heap.size + 1) v3 (castL S) ∧ OwnsI wr (w.heap.size + 1) v4 C ∧ C.length = S.length ∧ S.length ≤ 2 ^ k ∧ (∀ q, q < S.length → S.getD q 0 < 2 ^ W.toNat) ∧
        Eqv (psiN (dpN W T xs (n - k) k) S C S.length) TT ∧ Box wr w.heap.size W T a n cap ∧ Below w.heap.size w wr) (fun _ _ i _ => n - (intOf i).toNat)
    case atStart =>
      refine ⟨0, Nat.zero_le _, rfl, [0], [1], oS, oC, rfl, by decide, fun q hq => ?_, Eqv.of ?_, p2, b2⟩
      · have : q = 0 := by simp at hq; omega
        subst this
        simpa using (show 0 < 2 ^ W.toNat by omega)
      · rw [HTT.out]
        unfold dpT
        rw [← HN.out]
        simp [psiN]
    case round =>
      rename World => wo
      clear oS oC p2 b2 z1
      obtain ⟨k, hk, rfl, S, C, hS, hC, hlen, hSk, hSb, heq, pr, hbel⟩ := hrel
      obtain ⟨c0, c1, c2⟩ := cells3 pr
      have l1 := heap_lt pr
      obtain ⟨N, hN⟩ : ∃ N : Nat, N = 2 ^ k := ⟨_, rfl⟩
      have hN36 : N ≤ 68719476736 := by
        have h2 : (2 : Nat) ^ k ≤ 2 ^ 36 := Nat.pow_le_pow_right (by decide) (by omega)
        have h3 : (2 : Nat) ^ 36 = 68719476736 := by decide
        omega
      rw [← hN] at hSk
      have HNN := Lib.hid hN; clear hN
      obtain ⟨a3, cap3, hv3⟩ := hS.form2
      obtain ⟨a4, cap4, hv4⟩ := hC.form2
      rw [castL_len] at hv3
      rw [hlen] at hv4
      subst hv3
      subst hv4
      have AS := Lib.hid (OwnsI.at hS)
      have AC := Lib.hid (OwnsI.at hC)
      obtain ⟨M, hM⟩ : ∃ M, M = S.length := ⟨_, rfl⟩
      rw [← hM] at hS hC heq hSk hSb hlen ⊢
      have HMM := Lib.hid hM; clear hM
      have HLEN := Lib.hid hlen; clear hlen
      have HSB := Lib.hid hSb; clear hSb
      by_cases hlt : k < n
      · have hnk : n - k = (n - (k + 1)) + 1 := by omega
        rw [hnk] at heq
        obtain ⟨m, hm⟩ : ∃ m, m = n - (k + 1) := ⟨_, rfl⟩
        rw [← hm] at heq
        have HM := Lib.hid hm; clear hm hnk
        have HEQ := Lib.hid heq; clear heq
        have hdp : ∀ s, dpN W T xs (m + 1) k s = ((dpOpts W T xs k s).map (dpN W T xs m (k + 1))).sum := fun s => rfl
        have HDP := Lib.hid hdp; clear hdp
        have oN := OwnsI.alloc (own_nil_lit wo (B := wo.heap.size) (Nat.le_refl _)) (.cells #[] 3 (0, 0))
        have oM := own_nil_lit (wo.alloc (.cells #[] 3 (0, 0))) (B := wo.heap.size) (by simp)
        have e1 : (wo.alloc (.cells #[] 3 (0, 0))).heap.size = wo.heap.size + 1 := by simp
        rw [e1] at oM
        have pA := heap_later pr (below2 wo (.cells #[] 3 (0, 0)) (.cells #[] 3 (0, 0)))
        have bA := below2 wo (.cells #[] 3 (0, 0)) (.cells #[] 3 (0, 0))
        go_wp2_with fail
        go_loopw [6, 7, 8] (fun v6 v7 i w' => ∃ j : Nat, j ≤ M ∧ i = .int .i64 j ∧ ∃ (Nx : List Nat) (Mx : List Int), OwnsI w' wo.heap.size v6 (castL Nx) ∧ OwnsI w' wo.heap.size v7 Mx ∧ Sep v6 v7 ∧ Mx.length = Nx.length ∧ Nx.length ≤ 2 * j ∧ (∀ q, q < Nx.length → Nx.getD q 0 < 2 ^ W.toNat) ∧
            Eqv (psiN (dpN W T xs m (k + 1)) Nx Mx Nx.length) (psiN (dpN W T xs (m + 1) k) S C j) ∧ Box w' w.heap.size W T a n cap ∧ Below wo.heap.size wo w') (fun _ _ i _ => M - (intOf i).toNat)
        case atStart =>
          refine ⟨0, Nat.zero_le _, rfl, [], [], oN, oM, ?_, rfl, by decide, fun q hq => absurd hq (Nat.not_lt_zero _), Eqv.refl _, pA, bA⟩
          intro b hb hb'
          simp [Value.ownBlock] at hb hb'
          omega
        case round =>
          rename World => wi
          clear oN oM pA bA e1 c0 c1 c2
          obtain ⟨j, hj, rfl, Nx, Mx, h6, h7, hsep, hml, hnl, hnb, heq2, pr2, bel2⟩ := hrel
          obtain ⟨c0, c1, c2⟩ := cells3 pr2
          have l2 := heap_lt pr2
          by_cases hjM : j < M
          · obtain ⟨s, hs⟩ : ∃ s, s = S.getD j 0 := ⟨_, rfl⟩
            have hsB : s < 2 ^ W.toNat := by rw [hs]; exact HSB.out j hjM
            obtain ⟨b3, o3, ea3, hc3⟩ := (AS.out.later bel2 (Nat.le_refl _)) j (by rw [castL_len, ← HMM.out]; exact hjM)
            rw [castL_get, ← hs] at hc3
            cases ea3
            have hl3 := World.block_lt_of_cell? wi _ hc3
            simp only at hl3
            obtain ⟨bx, ox, rfl, hx⟩ := ((HA.out.below hbel).later bel2 (Nat.le_refl _)) k (by rw [← HN.out]; exact hlt)
            have hlx := World.block_lt_of_cell? wi _ hx
            simp only at hlx
            have t1 : (s : Int).tmod 2 = ((s % 2 : Nat) : Int) := by rw [Int.tmod_eq_emod_of_nonneg (by omega)]; omega
            have t2 : (s : Int).tdiv 2 = ((s / 2 : Nat) : Int) := by rw [Int.tdiv_eq_ediv_of_nonneg (by omega)]; omega
            have e3 : (j : Int) < M := by omega
            have e4 : (k : Int) < n := by omega
            have HS := Lib.hid hs; clear hs
            obtain ⟨cov, hcov⟩ : ∃ cov : Bool, cov = ((s : Int) % 2 == 1) := ⟨_, rfl⟩
            obtain ⟨wB, hwB⟩ : ∃ wB, wB = wi.alloc (.cells #[] 3 (0, 0)) := ⟨_, rfl⟩
            have bB : Below wi.heap.size wi wB := by rw [hwB]; exact below1 _ _
            have pB : Box wB w.heap.size W T (some ⟨bx, ox, none⟩) n cap := by rw [hwB]; exact heap_later pr2 (below1 _ _)
            have OB : OwnsI wB wi.heap.size (.slice (some ⟨wi.heap.size, 0, none⟩) 0 0) [] := by rw [hwB]; exact own_nil_lit wi (Nat.le_refl _)
            have zB : wi.heap.size + 1 = wB.heap.size := by rw [hwB]; simp
            go_upto_block 4 with fail
            rw [← hwB, ← hcov]
            have HCOV := Lib.hid hcov; clear hcov hwB
            go_cut [11] (fun v11 wx => ∃ cap11 a11, v11 = .slice a11 (coverL W T xs k s).length cap11 ∧ OwnsI wx wi.heap.size v11 (coverL W T xs k s) ∧ Below wi.heap.size wi wx)
            case first => as_aux_lemma =>
                obtain ⟨d0, d1, d2⟩ := cells3 pB
                have hxB : wB.cell? ⟨bx, ox + k, none⟩ = _ := (bB.cell (p := ⟨bx, ox + k, none⟩) hlx).trans hx
                clear c0 c1 c2 l1 hx hc3 h6 h7 hsep HEQ heq2 hnb AS AC hS hC
                by_cases hcv : xs.getD k false = false ∨ s % 2 = 1
                · have eO : coverL W T xs k s = [((s / 2 : Nat) : Int)] := by unfold coverL dpOpts; rw [if_pos hcv]; rfl
                  have e9 : ((s / 2 : Nat) : Int) = (s : Int) / 2 := by omega
                  rw [e9] at eO
                  have EO := Lib.hid eO; clear eO e9
                  by_cases hso : s % 2 = 1
                  · have hco : cov = true := by rw [HCOV.out]; simp; omega
                    subst hco
                    clear hcv t1 t2
                    go_wp2_with (at_builtin; refine wpList_append_own _ rfl _ _ 26 rfl wi.heap.size 3 i0 (.int .i64 0) 1 8 Try.underlying26 hi hz0 hz1 hz2 rfl (by decide) _ 0 [] rfl (World.ownsRow.alloc OB _) ⟨wB.heap.size, 0, none⟩ 1 1 [.int .i64 ((s : Int) / 2)] rfl rfl (new_int _ _) (one_int _) (by unfold maxLen; omega) (by omega) (by simp; omega) ?_; intro v' w8 hown' hgrow _; have O8 : OwnsI w8 wi.heap.size v' [(s : Int) / 2] := OwnsI.ofRow hown' rfl rfl; have B8 : Below wi.heap.size wi w8 := below_grown (below_seq bB (below1 _ _)) hgrow (Nat.le_refl _) (OB.ownAt (Nat.le_refl _)); clear hown' hgrow)
                    go_meet
                    obtain ⟨a9, cap9, hv9⟩ := O8.form2
                    rw [EO.out]
                    exact ⟨cap9, a9, hv9, O8, B8⟩
                  · have hco : cov = false := by rw [HCOV.out]; simp; omega
                    have hce : xs.getD k false = false := by rcases hcv with h | h; exact h; exact absurd h hso
                    rw [hce] at hxB
                    subst hco
                    clear hcv t1 t2
                    go_wp2_with (at_builtin; refine wpList_append_own _ rfl _ _ 26 rfl wi.heap.size 3 i0 (.int .i64 0) 1 8 Try.underlying26 hi hz0 hz1 hz2 rfl (by decide) _ 0 [] rfl (World.ownsRow.alloc OB _) ⟨wB.heap.size, 0, none⟩ 1 1 [.int .i64 ((s : Int) / 2)] rfl rfl (new_int _ _) (one_int _) (by unfold maxLen; omega) (by omega) (by simp; omega) ?_; intro v' w8 hown' hgrow _; have O8 : OwnsI w8 wi.heap.size v' [(s : Int) / 2] := OwnsI.ofRow hown' rfl rfl; have B8 : Below wi.heap.size wi w8 := below_grown (below_seq bB (below1 _ _)) hgrow (Nat.le_refl _) (OB.ownAt (Nat.le_refl _)); clear hown' hgrow)
                    go_meet
                    obtain ⟨a9, cap9, hv9⟩ := O8.form2
                    rw [EO.out]
                    exact ⟨cap9, a9, hv9, O8, B8⟩
                · have hce : xs.getD k false = true := by
                    cases h : xs.getD k false
                    · exact absurd (Or.inl h) hcv
                    · rfl
                  have hse : s % 2 = 0 := by
                    have : ¬ (s % 2 = 1) := fun h => hcv (Or.inr h)
                    omega
                  have hco : cov = false := by rw [HCOV.out]; simp; omega
                  have EO : Hid (coverL W T xs k s = (optW W T xs k s 1).map (fun o : Nat => (o : Int)) ++ (optW W T xs k s 2).map (fun o : Nat => (o : Int))) := by
                    show _ = _
                    unfold coverL dpOpts
                    rw [if_neg hcv]
                    simp [optsTo]
                  rw [hce] at hxB
                  subst hco
                  clear hcv hse t1 t2
                  have hkWT : (k : Int) < W * T := by rw [← HWT.out]; exact e4
                  go_wp2_with fail
                  refine (l2Step_any W T _ _ _ (k : Int) 1 _ hW0 hW1 hT0 hT1 (by omega) hkWT).mono ?_; rintro e wC ⟨rfl, hbC⟩
                  have pC := heap_later pB hbC
                  have bC := below_seq bB hbC
                  have OC := OwnsI.below OB hbC
                  have zC : wi.heap.size + 1 ≤ wC.heap.size := by have := hbC.size; omega
                  clear d0 d1 d2 hbC hxB pB
                  obtain ⟨d0, d1, d2⟩ := cells3 pC
                  go_wp2_with fail
                  refine (l2Step_any W T _ _ _ (k : Int) 2 _ hW0 hW1 hT0 hT1 (by omega) hkWT).mono ?_; rintro e wD ⟨rfl, hbD⟩
                  have pD := heap_later pC hbD
                  have bD := below_seq bC hbD
                  have OD := OwnsI.below OC hbD
                  have zD : wi.heap.size + 1 ≤ wD.heap.size := by have := hbD.size; omega
                  clear d0 d1 d2 hbD pC bC OC hkWT
                  obtain ⟨d0, d1, d2⟩ := cells3 pD
                  rcases step_cases (s := s) (way := 1) (xs := xs) (Or.inl rfl) hW0 hW1 (by rw [← HN.out]; exact HWT.out) (by rw [← HN.out]; exact hlt) with ⟨he, hO⟩ | ⟨d, hd1, hd6, he, hlt1, hcase⟩
                  · rw [he]
                    clear he
                    rw [hO] at EO
                    clear hO
                    rcases step_cases (s := s) (way := 2) (xs := xs) (Or.inr rfl) hW0 hW1 (by rw [← HN.out]; exact HWT.out) (by rw [← HN.out]; exact hlt) with ⟨he', hO'⟩ | ⟨d', hd1', hd6', he', hlt1', hcase'⟩
                    · rw [he']
                      rw [hO'] at EO
                      go_wp2
                      go_meet
                      obtain ⟨a9, cap9, hv9⟩ := OD.form2
                      rw [EO.out]
                      simp only [List.map_nil, List.map_cons, List.append_nil, List.nil_append, List.cons_append] at hv9 ⊢
                      exact ⟨cap9, a9, hv9, by simpa using OD, bD⟩
                    · have hd' : d' = W.toNat := by
                        rcases step_up (W := W) (T := T) (k := k) (way := 2) (Or.inr rfl) hW0 (by rw [he']; omega) with ⟨h, _⟩ | ⟨_, e⟩
                        · omega
                        · omega
                      rw [he']
                      have HD' := Lib.hid hd'; clear he' hd'
                      have hy2 : wD.cell? ⟨bx, ox + (k + d'), none⟩ = some (.bool (xs.getD (k + d') false)) := by
                        obtain ⟨b', o', hbb, hy⟩ := (HA.out.below (below_seq (below_seq hbel bel2) bD)) (k + d') hlt1'
                        cases hbb
                        exact hy
                      have hkd2 : ((k + d' : Nat) : Int) < n := by rw [HN.out]; omega
                      rcases hcase' with ⟨hcd', hO'⟩ | ⟨hcd', hb0', hO'⟩ | ⟨hcd', hb0', hO'⟩
                      · rw [hcd'] at hy2
                        rw [hO'] at EO
                        go_wp2
                        go_meet
                        obtain ⟨a9, cap9, hv9⟩ := OD.form2
                        rw [EO.out]
                        simp only [List.map_nil, List.map_cons, List.append_nil, List.nil_append, List.cons_append] at hv9 ⊢
                        exact ⟨cap9, a9, hv9, by simpa using OD, bD⟩
                      · exact absurd (by rw [HD'.out, Nat.div_eq_of_lt hsB]) hb0'
                      · rw [hcd'] at hy2
                        rw [hO'] at EO
                        have hg2 := north_free (W := W) hW0 hW1 hsB (by rw [← HD'.out]; exact hb0')
                        go_wp2_with (at_builtin; refine wpList_append_own _ rfl _ _ 26 rfl wi.heap.size 3 i0 (.int .i64 0) 1 8 Try.underlying26 hi hz0 hz1 hz2 rfl (by decide) _ ([] : List Int).length (([] : List Int).map (Value.int .i64)) rfl (World.ownsRow.alloc OD _) ⟨wD.heap.size, 0, none⟩ 1 1 [.int .i64 (wrap64 ((s : Int) / 2 + wrap64 (2 ^ (W.toNat - 1))))] rfl rfl (new_int _ _) (one_int _) (by unfold maxLen; simp) (by simp) (by simp; omega) ?_; intro v2 w9 hown' hgrow _; have O2 : OwnsI w9 wi.heap.size v2 ([] ++ [wrap64 ((s : Int) / 2 + wrap64 (2 ^ (W.toNat - 1)))]) := OwnsI.ofRow hown' (by simp) (by simp); have B2 : Below wi.heap.size wi w9 := below_grown (below_seq bD (below1 _ _)) hgrow (Nat.le_refl _) (OD.ownAt (Nat.le_refl _)); have P2 := heap_grown (heap_later pD (below1 _ _)) hgrow (OD.ownBlock (by omega)); have Z2 : wi.heap.size + 1 ≤ w9.heap.size := by have := hgrow.size; simp at this; omega)
                        go_meet
                        obtain ⟨a9, cap9, hv9⟩ := O2.form2
                        rw [EO.out]
                        have hv2 : (((s + 2 ^ d') / 2 : Nat) : Int) = wrap64 ((s : Int) / 2 + wrap64 (2 ^ (W.toNat - 1))) := by rw [HD'.out]; exact north_val hW0 hW1 hsB
                        simp only [List.map_nil, List.map_cons, List.append_nil, List.nil_append, List.cons_append, hv2] at hv9 ⊢
                        exact ⟨cap9, a9, hv9, by simpa using O2, B2⟩
                  · have hd : d = 1 := by
                      rcases step_up (W := W) (T := T) (k := k) (way := 1) (Or.inl rfl) hW0 (by rw [he]; omega) with ⟨_, e, _⟩ | ⟨h, _⟩
                      · omega
                      · omega
                    subst hd
                    rw [he]
                    clear he
                    have hy1 : wD.cell? ⟨bx, ox + (k + 1), none⟩ = some (.bool (xs.getD (k + 1) false)) := by
                      obtain ⟨b', o', hbb, hy⟩ := (HA.out.below (below_seq (below_seq hbel bel2) bD)) (k + 1) (by omega)
                      cases hbb
                      exact hy
                    have hkd1 : ((k + 1 : Nat) : Int) < n := by rw [HN.out]; omega
                    rcases hcase with ⟨hcd, hO⟩ | ⟨hcd, hb0, hO⟩ | ⟨hcd, hb0, hO⟩
                    · rw [hcd] at hy1
                      rw [hO] at EO
                      clear hO
                      rcases step_cases (s := s) (way := 2) (xs := xs) (Or.inr rfl) hW0 hW1 (by rw [← HN.out]; exact HWT.out) (by rw [← HN.out]; exact hlt) with ⟨he', hO'⟩ | ⟨d', hd1', hd6', he', hlt1', hcase'⟩
                      · rw [he']
                        rw [hO'] at EO
                        go_wp2
                        go_meet
                        obtain ⟨a9, cap9, hv9⟩ := OD.form2
                        rw [EO.out]
                        simp only [List.map_nil, List.map_cons, List.append_nil, List.nil_append, List.cons_append] at hv9 ⊢
                        exact ⟨cap9, a9, hv9, by simpa using OD, bD⟩
                      · have hd' : d' = W.toNat := by
                          rcases step_up (W := W) (T := T) (k := k) (way := 2) (Or.inr rfl) hW0 (by rw [he']; omega) with ⟨h, _⟩ | ⟨_, e⟩
                          · omega
                          · omega
                        rw [he']
                        have HD' := Lib.hid hd'; clear he' hd'
                        have hy2 : wD.cell? ⟨bx, ox + (k + d'), none⟩ = some (.bool (xs.getD (k + d') false)) := by
                          obtain ⟨b', o', hbb, hy⟩ := (HA.out.below (below_seq (below_seq hbel bel2) bD)) (k + d') hlt1'
                          cases hbb
                          exact hy
                        have hkd2 : ((k + d' : Nat) : Int) < n := by rw [HN.out]; omega
                        rcases hcase' with ⟨hcd', hO'⟩ | ⟨hcd', hb0', hO'⟩ | ⟨hcd', hb0', hO'⟩
                        · rw [hcd'] at hy2
                          rw [hO'] at EO
                          go_wp2
                          go_meet
                          obtain ⟨a9, cap9, hv9⟩ := OD.form2
                          rw [EO.out]
                          simp only [List.map_nil, List.map_cons, List.append_nil, List.nil_append, List.cons_append] at hv9 ⊢
                          exact ⟨cap9, a9, hv9, by simpa using OD, bD⟩
                        · exact absurd (by rw [HD'.out, Nat.div_eq_of_lt hsB]) hb0'
                        · rw [hcd'] at hy2
                          rw [hO'] at EO
                          have hg2 := north_free (W := W) hW0 hW1 hsB (by rw [← HD'.out]; exact hb0')
                          go_wp2_with (at_builtin; refine wpList_append_own _ rfl _ _ 26 rfl wi.heap.size 3 i0 (.int .i64 0) 1 8 Try.underlying26 hi hz0 hz1 hz2 rfl (by decide) _ ([] : List Int).length (([] : List Int).map (Value.int .i64)) rfl (World.ownsRow.alloc OD _) ⟨wD.heap.size, 0, none⟩ 1 1 [.int .i64 (wrap64 ((s : Int) / 2 + wrap64 (2 ^ (W.toNat - 1))))] rfl rfl (new_int _ _) (one_int _) (by unfold maxLen; simp) (by simp) (by simp; omega) ?_; intro v2 w9 hown' hgrow _; have O2 : OwnsI w9 wi.heap.size v2 ([] ++ [wrap64 ((s : Int) / 2 + wrap64 (2 ^ (W.toNat - 1)))]) := OwnsI.ofRow hown' (by simp) (by simp); have B2 : Below wi.heap.size wi w9 := below_grown (below_seq bD (below1 _ _)) hgrow (Nat.le_refl _) (OD.ownAt (Nat.le_refl _)); have P2 := heap_grown (heap_later pD (below1 _ _)) hgrow (OD.ownBlock (by omega)); have Z2 : wi.heap.size + 1 ≤ w9.heap.size := by have := hgrow.size; simp at this; omega)
                          go_meet
                          obtain ⟨a9, cap9, hv9⟩ := O2.form2
                          rw [EO.out]
                          have hv2 : (((s + 2 ^ d') / 2 : Nat) : Int) = wrap64 ((s : Int) / 2 + wrap64 (2 ^ (W.toNat - 1))) := by rw [HD'.out]; exact north_val hW0 hW1 hsB
                          simp only [List.map_nil, List.map_cons, List.append_nil, List.nil_append, List.cons_append, hv2] at hv9 ⊢
                          exact ⟨cap9, a9, hv9, by simpa using O2, B2⟩
                    · rw [hcd] at hy1
                      rw [hO] at EO
                      have hg1 : ((s : Int) / 2 % 2 == 0) = false := by simp at hb0 ⊢; omega
                      clear hO hb0
                      rcases step_cases (s := s) (way := 2) (xs := xs) (Or.inr rfl) hW0 hW1 (by rw [← HN.out]; exact HWT.out) (by rw [← HN.out]; exact hlt) with ⟨he', hO'⟩ | ⟨d', hd1', hd6', he', hlt1', hcase'⟩
                      · rw [he']
                        rw [hO'] at EO
                        go_wp2
                        go_meet
                        obtain ⟨a9, cap9, hv9⟩ := OD.form2
                        rw [EO.out]
                        simp only [List.map_nil, List.map_cons, List.append_nil, List.nil_append, List.cons_append] at hv9 ⊢
                        exact ⟨cap9, a9, hv9, by simpa using OD, bD⟩
                      · have hd' : d' = W.toNat := by
                          rcases step_up (W := W) (T := T) (k := k) (way := 2) (Or.inr rfl) hW0 (by rw [he']; omega) with ⟨h, _⟩ | ⟨_, e⟩
                          · omega
                          · omega
                        rw [he']
                        have HD' := Lib.hid hd'; clear he' hd'
                        have hy2 : wD.cell? ⟨bx, ox + (k + d'), none⟩ = some (.bool (xs.getD (k + d') false)) := by
                          obtain ⟨b', o', hbb, hy⟩ := (HA.out.below (below_seq (below_seq hbel bel2) bD)) (k + d') hlt1'
                          cases hbb
                          exact hy
                        have hkd2 : ((k + d' : Nat) : Int) < n := by rw [HN.out]; omega
                        rcases hcase' with ⟨hcd', hO'⟩ | ⟨hcd', hb0', hO'⟩ | ⟨hcd', hb0', hO'⟩
                        · rw [hcd'] at hy2
                          rw [hO'] at EO
                          go_wp2
                          go_meet
                          obtain ⟨a9, cap9, hv9⟩ := OD.form2
                          rw [EO.out]
                          simp only [List.map_nil, List.map_cons, List.append_nil, List.nil_append, List.cons_append] at hv9 ⊢
                          exact ⟨cap9, a9, hv9, by simpa using OD, bD⟩
                        · exact absurd (by rw [HD'.out, Nat.div_eq_of_lt hsB]) hb0'
                        · rw [hcd'] at hy2
                          rw [hO'] at EO
                          have hg2 := north_free (W := W) hW0 hW1 hsB (by rw [← HD'.out]; exact hb0')
                          go_wp2_with (at_builtin; refine wpList_append_own _ rfl _ _ 26 rfl wi.heap.size 3 i0 (.int .i64 0) 1 8 Try.underlying26 hi hz0 hz1 hz2 rfl (by decide) _ ([] : List Int).length (([] : List Int).map (Value.int .i64)) rfl (World.ownsRow.alloc OD _) ⟨wD.heap.size, 0, none⟩ 1 1 [.int .i64 (wrap64 ((s : Int) / 2 + wrap64 (2 ^ (W.toNat - 1))))] rfl rfl (new_int _ _) (one_int _) (by unfold maxLen; simp) (by simp) (by simp; omega) ?_; intro v2 w9 hown' hgrow _; have O2 : OwnsI w9 wi.heap.size v2 ([] ++ [wrap64 ((s : Int) / 2 + wrap64 (2 ^ (W.toNat - 1)))]) := OwnsI.ofRow hown' (by simp) (by simp); have B2 : Below wi.heap.size wi w9 := below_grown (below_seq bD (below1 _ _)) hgrow (Nat.le_refl _) (OD.ownAt (Nat.le_refl _)); have P2 := heap_grown (heap_later pD (below1 _ _)) hgrow (OD.ownBlock (by omega)); have Z2 : wi.heap.size + 1 ≤ w9.heap.size := by have := hgrow.size; simp at this; omega)
                          go_meet
                          obtain ⟨a9, cap9, hv9⟩ := O2.form2
                          rw [EO.out]
                          have hv2 : (((s + 2 ^ d') / 2 : Nat) : Int) = wrap64 ((s : Int) / 2 + wrap64 (2 ^ (W.toNat - 1))) := by rw [HD'.out]; exact north_val hW0 hW1 hsB
                          simp only [List.map_nil, List.map_cons, List.append_nil, List.nil_append, List.cons_append, hv2] at hv9 ⊢
                          exact ⟨cap9, a9, hv9, by simpa using O2, B2⟩
                    · rw [hcd] at hy1
                      rw [hO] at EO
                      have hg1 : ((s : Int) / 2 % 2 == 0) = true := by simp at hb0 ⊢; omega
                      have hv1 : (((s + 2 ^ 1) / 2 : Nat) : Int) = (s : Int) / 2 + 1 := by omega
                      clear hO hb0
                      go_upto_region 20 with (at_builtin; refine wpList_append_own _ rfl _ _ 26 rfl wi.heap.size 3 i0 (.int .i64 0) 1 8 Try.underlying26 hi hz0 hz1 hz2 rfl (by decide) _ ([] : List Int).length (([] : List Int).map (Value.int .i64)) rfl (World.ownsRow.alloc OD _) ⟨wD.heap.size, 0, none⟩ 1 1 [.int .i64 ((s : Int) / 2 + 1)] rfl rfl (new_int _ _) (one_int _) (by unfold maxLen; simp) (by simp) (by simp; omega) ?_; intro v1 w8 hown' hgrow _; have O1 : OwnsI w8 wi.heap.size v1 ([] ++ [(s : Int) / 2 + 1]) := OwnsI.ofRow hown' (by simp) (by simp); have B1 : Below wi.heap.size wi w8 := below_grown (below_seq bD (below1 _ _)) hgrow (Nat.le_refl _) (OD.ownAt (Nat.le_refl _)); have P1 := heap_grown (heap_later pD (below1 _ _)) hgrow (OD.ownBlock (by omega)); have Z1 : wi.heap.size + 1 ≤ w8.heap.size := by have := hgrow.size; simp at this; omega)
                      obtain ⟨f0, f1, f2⟩ := cells3 P1
                      rcases step_cases (s := s) (way := 2) (xs := xs) (Or.inr rfl) hW0 hW1 (by rw [← HN.out]; exact HWT.out) (by rw [← HN.out]; exact hlt) with ⟨he', hO'⟩ | ⟨d', hd1', hd6', he', hlt1', hcase'⟩
                      · rw [he']
                        rw [hO'] at EO
                        go_wp2
                        go_meet
                        obtain ⟨a9, cap9, hv9⟩ := O1.form2
                        rw [EO.out]
                        simp only [List.map_nil, List.map_cons, List.append_nil, List.nil_append, List.cons_append, hv1] at hv9 ⊢
                        exact ⟨cap9, a9, hv9, by simpa using O1, B1⟩
                      · have hd' : d' = W.toNat := by
                          rcases step_up (W := W) (T := T) (k := k) (way := 2) (Or.inr rfl) hW0 (by rw [he']; omega) with ⟨h, _⟩ | ⟨_, e⟩
                          · omega
                          · omega
                        rw [he']
                        have HD' := Lib.hid hd'; clear he' hd'
                        have hy2 : w8.cell? ⟨bx, ox + (k + d'), none⟩ = some (.bool (xs.getD (k + d') false)) := by
                          obtain ⟨b', o', hbb, hy⟩ := (HA.out.below (below_seq (below_seq hbel bel2) B1)) (k + d') hlt1'
                          cases hbb
                          exact hy
                        have hkd2 : ((k + d' : Nat) : Int) < n := by rw [HN.out]; omega
                        rcases hcase' with ⟨hcd', hO'⟩ | ⟨hcd', hb0', hO'⟩ | ⟨hcd', hb0', hO'⟩
                        · rw [hcd'] at hy2
                          rw [hO'] at EO
                          go_wp2
                          go_meet
                          obtain ⟨a9, cap9, hv9⟩ := O1.form2
                          rw [EO.out]
                          simp only [List.map_nil, List.map_cons, List.append_nil, List.nil_append, List.cons_append, hv1] at hv9 ⊢
                          exact ⟨cap9, a9, hv9, by simpa using O1, B1⟩
                        · exact absurd (by rw [HD'.out, Nat.div_eq_of_lt hsB]) hb0'
                        · rw [hcd'] at hy2
                          rw [hO'] at EO
                          have hg2 := north_free (W := W) hW0 hW1 hsB (by rw [← HD'.out]; exact hb0')
                          go_wp2_with (at_builtin; refine wpList_append_own _ rfl _ _ 26 rfl wi.heap.size 3 i0 (.int .i64 0) 1 8 Try.underlying26 hi hz0 hz1 hz2 rfl (by decide) _ (([] ++ [(s : Int) / 2 + 1]) : List Int).length ((([] ++ [(s : Int) / 2 + 1]) : List Int).map (Value.int .i64)) rfl (World.ownsRow.alloc O1 _) ⟨w8.heap.size, 0, none⟩ 1 1 [.int .i64 (wrap64 ((s : Int) / 2 + wrap64 (2 ^ (W.toNat - 1))))] rfl rfl (new_int _ _) (one_int _) (by unfold maxLen; simp) (by simp) (by simp; omega) ?_; intro v2 w9 hown' hgrow _; have O2 : OwnsI w9 wi.heap.size v2 (([] ++ [(s : Int) / 2 + 1]) ++ [wrap64 ((s : Int) / 2 + wrap64 (2 ^ (W.toNat - 1)))]) := OwnsI.ofRow hown' (by simp) (by simp); have B2 : Below wi.heap.size wi w9 := below_grown (below_seq B1 (below1 _ _)) hgrow (Nat.le_refl _) (O1.ownAt (Nat.le_refl _)); have P2 := heap_grown (heap_later P1 (below1 _ _)) hgrow (O1.ownBlock (by omega)); have Z2 : wi.heap.size + 1 ≤ w9.heap.size := by have := hgrow.size; simp at this; omega)
                          go_meet
                          obtain ⟨a9, cap9, hv9⟩ := O2.form2
                          rw [EO.out]
                          have hv2 : (((s + 2 ^ d') / 2 : Nat) : Int) = wrap64 ((s : Int) / 2 + wrap64 (2 ^ (W.toNat - 1))) := by rw [HD'.out]; exact north_val hW0 hW1 hsB
                          simp only [List.map_nil, List.map_cons, List.append_nil, List.nil_append, List.cons_append, hv1, hv2] at hv9 ⊢
                          exact ⟨cap9, a9, hv9, by simpa using O2, B2⟩
            case rest =>
              obtain ⟨cap11, a11, rfl, h11, bel3⟩ := hcut
              clear bB pB OB zB HCOV hc3 hx
              obtain ⟨Ol, hOl⟩ : ∃ Ol, Ol = dpOpts W T xs k s := ⟨_, rfl⟩
              have hOB : ∀ q, q < Ol.length → Ol.getD q 0 < 2 ^ W.toNat := by
                intro q hq
                rw [List.getD_eq_getElem?_getD, List.getElem?_eq_getElem hq, Option.getD_some]
                exact dpOpts_lt hW0 hW1 hsB _ (by rw [← hOl]; exact List.getElem_mem _)
              have hO2 : Ol.length ≤ 2 := by rw [hOl]; exact dpOpts_le W T xs k s
              have hcl : coverL W T xs k s = castL Ol := by rw [hOl]; rfl
              rw [hcl, castL_len] at h11 ⊢
              clear hcl
              have HOL := Lib.hid hOl; clear hOl
              have HOB := Lib.hid hOB; clear hOB
              have HNB := Lib.hid hnb; clear hnb
              obtain ⟨c, hc⟩ : ∃ c, c = C.getD j 0 := ⟨_, rfl⟩
              have h6' := OwnsI.later' h6 bel3
              have h7' := OwnsI.later' h7 bel3
              have pr3 : Box wc w.heap.size W T (some ⟨bx, ox, none⟩) n cap := heap_later pr2 bel3
              have bel4 := bel2.trans (bel3.mono (by have := bel2.size; omega))
              have s611 := Sep.of_base h6 h11
              have s711 := Sep.of_base h7 h11
              have HC9 := Lib.hid hc; clear hc
              go_wp2_with fail
              go_loopw [6, 7, 14, 15] (fun v6 v7 i _ w' => ∃ q : Nat, q ≤ Ol.length ∧ i = .int .i64 q ∧ ∃ (Ny : List Nat) (My : List Int), OwnsI w' wo.heap.size v6 (castL Ny) ∧ OwnsI w' wo.heap.size v7 My ∧ Sep v6 v7 ∧ Sep v6 (.slice a11 Ol.length cap11) ∧ Sep v7 (.slice a11 Ol.length cap11) ∧
                  OwnsI w' wi.heap.size (.slice a11 Ol.length cap11) (castL Ol) ∧ My.length = Ny.length ∧ Ny.length ≤ 2 * j + q ∧ (∀ q, q < Ny.length → Ny.getD q 0 < 2 ^ W.toNat) ∧
                  Eqv (psiN (dpN W T xs m (k + 1)) Ny My Ny.length) (psiN (dpN W T xs m (k + 1)) Nx Mx Nx.length + c * (sumTo (dpN W T xs m (k + 1)) Ol q : Int)) ∧ Box w' w.heap.size W T (some ⟨bx, ox, none⟩) n cap ∧ Below wo.heap.size wo w') (fun _ _ i _ _ => Ol.length - (intOf i).toNat)
              case atStart =>
                refine ⟨0, Nat.zero_le _, rfl, Nx, Mx, h6', h7', hsep, s611, s711, h11, hml, hnl, HNB.out, Eqv.of ?_, pr3, bel4⟩
                simp [sumTo]
              case round =>
                rename World => wj
                clear h6' h7' s611 s711 h11 pr3 bel4 h6 h7 hsep bel3
                obtain ⟨q, hq, rfl, Ny, My, h6, h7, hsep, s611, s711, h11, hmy, hny, hnb, heq3, pr3, bel4⟩ := hrel
                by_cases hqO : q < Ol.length
                · obtain ⟨o, ho⟩ : ∃ o, o = Ol.getD q 0 := ⟨_, rfl⟩
                  have hoB : o < 2 ^ W.toNat := by rw [ho]; exact HOB.out q hqO
                  obtain ⟨b11, o11, ea11, hc11⟩ := (OwnsI.at h11) q (by rw [castL_len]; exact hqO)
                  rw [castL_get, ← ho] at hc11
                  cases ea11
                  have hl11 := World.block_lt_of_cell? wj _ hc11
                  simp only at hl11
                  obtain ⟨a6, cap6, hv6⟩ := h6.form2
                  obtain ⟨a7, cap7, hv7⟩ := h7.form2
                  rw [castL_len] at hv6
                  rw [hmy] at hv7
                  subst hv6
                  subst hv7
                  have A6 := Lib.hid (OwnsI.at h6)
                  have e11 : (q : Int) < Ol.length := by omega
                  have HO := Lib.hid ho; clear ho
                  go_upto_block 7 with fail
                  go_cut [15] (fun v15 wx => ∃ p : Nat, v15 = .int .i64 p ∧ p ≤ Ny.length ∧ (p < Ny.length → Ny.getD p 0 = o) ∧ Below wj.heap.size wj wx)
                  case first => as_aux_lemma =>
                      clear h6 h7 hsep s611 s711 h11 heq3 pr3 c0 c1 c2 l1 l2 hnb
                      go_wp2_with fail
                      go_loopw [15] (fun v w' => ∃ p : Nat, v = .int .i64 p ∧ p ≤ Ny.length ∧ Below wj.heap.size wj w') (fun v _ => Ny.length - (intOf v).toNat)
                      case atStart => exact ⟨0, rfl, Nat.zero_le _, Below.refl _ _⟩
                      case round =>
                        rename World => wk
                        obtain ⟨p, rfl, hp, hbk⟩ := hrel
                        by_cases hpl : p < Ny.length
                        · obtain ⟨b6, o6, ea6, hc6⟩ := (A6.out.later hbk (Nat.le_refl _)) p (by rw [castL_len]; exact hpl)
                          obtain ⟨y, hy⟩ : ∃ y, y = Ny.getD p 0 := ⟨_, rfl⟩
                          rw [castL_get, ← hy] at hc6
                          cases ea6
                          have hck : wk.cell? ⟨b11, o11 + q, none⟩ = _ := (hbk.cell (p := ⟨b11, o11 + q, none⟩) hl11).trans hc11
                          have e6 : (p : Int) < Ny.length := by omega
                          have HY := Lib.hid hy; clear hy
                          have dl : decide ((p : Int) < Ny.length) = true := decide_eq_true e6
                          by_cases hyo : y = o
                          · subst hyo
                            go_wp2_with fail
                            go_big_quiet (fail)
                            go_wp2
                            go_meet
                            exact ⟨p, rfl, hp, fun _ => HY.out.symm, below_drewN hbk _⟩
                          · have zn : ((y : Int) != (o : Int)) = true := by simp; omega
                            have zd : decide ((y : Int) = (o : Int)) = false := decide_eq_false (by omega)
                            go_wp2_with fail
                            go_big_quiet (fail)
                            go_wp2
                            exact ⟨⟨p + 1, by go_num, by omega, below_drewN hbk _⟩, by simp [intOf]; omega⟩
                        · obtain rfl : p = Ny.length := by omega
                          have dl : decide (((Ny.length : Nat) : Int) < Ny.length) = false := decide_eq_false (by omega)
                          go_wp2_with fail
                          go_big_quiet (fail)
                          go_wp2
                          go_meet
                          exact ⟨_, rfl, Nat.le_refl _, fun h => absurd h (Nat.lt_irrefl _), below_drewN hbk _⟩
                  case rest =>
                    obtain ⟨p, rfl, hp, hpo, hbk⟩ := hcut
                    rename World => wk
                    have h6k := OwnsI.below h6 hbk
                    have h7k := OwnsI.below h7 hbk
                    have h11k := OwnsI.below h11 hbk
                    have prk : Box wk w.heap.size W T (some ⟨bx, ox, none⟩) n cap := heap_later pr3 hbk
                    have belk := bel4.trans (hbk.mono bel4.size)
                    have hck : wk.cell? ⟨b11, o11 + q, none⟩ = _ := (hbk.cell (p := ⟨b11, o11 + q, none⟩) hl11).trans hc11
                    have hkl : b11 < wk.heap.size := Nat.lt_of_lt_of_le hl11 hbk.size
                    have zk : wo.heap.size ≤ wk.heap.size := belk.size
                    clear h6 h7 h11 pr3 hbk hc11 c0 c1 c2 bel4
                    by_cases hpl : p = Ny.length
                    · subst hpl
                      clear hpo
                      go_upto_region 32 with (at_builtin; refine wpList_append_own_at _ rfl _ _ 26 rfl wo.heap.size 3 i0 (.int .i64 0) 1 8 Try.underlying26 hi hz0 hz1 hz2 rfl (by decide) _ (castL Ny).length ((castL Ny).map (Value.int .i64)) rfl (World.ownsRow.alloc h6k _) ⟨wk.heap.size, 0, none⟩ 1 1 [.int .i64 o] rfl rfl (new_int _ _) (one_int _) (by unfold maxLen; rw [castL_len]; omega) (by rw [castL_len]; omega) (by simp; omega) ?_; intro v6 we hown' hgrow _ hloc; have O6e : OwnsI we wo.heap.size v6 (castL (Ny ++ [o])) := OwnsI.ofRow hown' (by rw [castL_snoc]; simp) (by rw [castL_snoc]; simp); have O7e : OwnsI we wo.heap.size _ My := OwnsI.keptSep (h7k.alloc _) hgrow hsep; have S67 := Sep.new hsep (h7k.alloc _) hloc; have O11e : OwnsI we wi.heap.size _ (castL Ol) := OwnsI.keptSep (h11k.alloc _) hgrow s611; have S611 := Sep.new s611 (h11k.alloc _) hloc; have prE : Box we w.heap.size W T (some ⟨bx, ox, none⟩) n cap := heap_grown (heap_later prk (below1 _ _)) hgrow (h6k.ownBlock (by omega)); have belE := below_grown (belk.alloc zk _) hgrow (Nat.le_refl _) (h6k.ownAt (Nat.le_refl _)); have zE : wk.heap.size + 1 ≤ we.heap.size := by have := hgrow.size; simp at this; omega)
                      have S76 := S67.symm
                      go_upto_region 33 with (at_builtin; refine wpList_append_own_at _ rfl _ _ 26 rfl wo.heap.size 3 i0 (.int .i64 0) 1 8 Try.underlying26 hi hz0 hz1 hz2 rfl (by decide) _ My.length (My.map (Value.int .i64)) rfl (World.ownsRow.alloc O7e _) ⟨we.heap.size, 0, none⟩ 1 1 [.int .i64 0] rfl rfl (new_int _ _) (one_int _) (by unfold maxLen; rw [hmy]; omega) (by rw [hmy]; omega) (by simp; omega) ?_; intro v7 wf hown' hgrow _ hloc; have O7f : OwnsI wf wo.heap.size v7 (My ++ [0]) := OwnsI.ofRow hown' (by simp) (by simp); have O6f : OwnsI wf wo.heap.size _ (castL (Ny ++ [o])) := OwnsI.keptSep (O6e.alloc _) hgrow S76; have S67f := (Sep.new S76 (O6e.alloc _) hloc).symm; have O11f : OwnsI wf wi.heap.size _ (castL Ol) := OwnsI.keptSep (O11e.alloc _) hgrow s711; have S711 := Sep.new s711 (O11e.alloc _) hloc; have prF : Box wf w.heap.size W T (some ⟨bx, ox, none⟩) n cap := heap_grown (heap_later prE (below1 _ _)) hgrow (O7e.ownBlock (by omega)); have belF : Below wo.heap.size wo wf := below_grown (belE.alloc (by omega) _) hgrow (Nat.le_refl _) (O7e.ownAt (Nat.le_refl _)))
                      obtain ⟨b4, o4, ea4, hc4⟩ := (AC.out.later belF (Nat.le_refl _)) j (by rw [HLEN.out]; exact hjM)
                      rw [← HC9.out] at hc4
                      obtain ⟨b4', o4', ea4', hc4'⟩ := AC.out j (by rw [HLEN.out]; exact hjM)
                      cases ea4
                      cases ea4'
                      have hl4 : b4 < wo.heap.size := World.block_lt_of_cell? wo _ hc4'
                      have hfl : (My ++ [0]).length = Ny.length + 1 := by rw [List.length_append, hmy]; rfl
                      obtain ⟨g7, cg7, hvg⟩ := form_pos O7f (by rw [hfl]; omega)
                      rw [hfl] at hvg
                      subst hvg
                      obtain ⟨hg7, hgl7⟩ := OwnsI.lt O7f
                      have k7 : wf.cell? ⟨g7, Ny.length, none⟩ = some (.int .i64 0) := by
                        rw [OwnsI.cell O7f (k := Ny.length) (by rw [hfl]; omega)]
                        rw [← hmy, getD_snoc_at]
                      have f7 := OwnsI.free O7f Ny.length
                      clear hc4' O6e O7e O11e prE belE hck
                      go_wp2_with fail
                      go_region
                      go_wp2_with fail
                      obtain ⟨O7s, hgs⟩ := OwnsI.set O7f Ny.length (wrap64 c)
                      have O6s : OwnsI _ wo.heap.size _ (castL (Ny ++ [o])) := OwnsI.keptSep O6f hgs S67f.symm
                      have O11s : OwnsI _ wi.heap.size _ (castL Ol) := OwnsI.keptSep O11f hgs S711
                      have prS : Box _ w.heap.size W T (some ⟨bx, ox, none⟩) n cap := heap_grown prF hgs (by intro h; have := Option.some.inj h; omega)
                      have belS : Below wo.heap.size wo _ := (belF.setCell (p := ⟨g7, Ny.length, none⟩) hg7 (.int .i64 (wrap64 c))).drew
                      exact ⟨⟨q + 1, by omega, by go_num, Ny ++ [o], (My ++ [0]).set Ny.length (wrap64 c), O6s, OwnsI.drew1 O7s, S67f, S611, S711, O11s, by simp [hmy], by simp; omega, bound_snoc hnb hoB, step_new hmy heq3 hqO HO.out, prS, belS⟩, by simp [intOf]; omega⟩
                    · have hplt : p < Ny.length := by omega
                      have HPO := Lib.hid (hpo hplt)
                      obtain ⟨b4, o4, ea4, hc4⟩ := (AC.out.later belk (Nat.le_refl _)) j (by rw [HLEN.out]; exact hjM)
                      rw [← HC9.out] at hc4
                      obtain ⟨b4', o4', ea4', hc4'⟩ := AC.out j (by rw [HLEN.out]; exact hjM)
                      cases ea4
                      cases ea4'
                      have hl4 : b4 < wo.heap.size := World.block_lt_of_cell? wo _ hc4'
                      obtain ⟨g7, cg7, hvg⟩ := form_pos h7k (by rw [hmy]; omega)
                      rw [hmy] at hvg
                      cases hvg
                      obtain ⟨hg7, hgl7⟩ := OwnsI.lt h7k
                      have k7 := OwnsI.cell h7k (k := p) (by rw [hmy]; exact hplt)
                      have f7 := OwnsI.free h7k p
                      obtain ⟨mv, hmv⟩ : ∃ mv, mv = My.getD p 0 := ⟨_, rfl⟩
                      rw [← hmv] at k7
                      have HMV := Lib.hid hmv; clear hmv
                      have zpe : ((p : Int) == (Ny.length : Int)) = false := by simp; omega
                      have hpi : (p : Int) < Ny.length := by omega
                      clear hc4' hck hpl hpo
                      go_wp2_with fail
                      go_region
                      go_wp2_with fail
                      obtain ⟨O7s, hgs⟩ := OwnsI.set h7k p (wrap64 (mv + c))
                      have O6s : OwnsI _ wo.heap.size _ (castL Ny) := OwnsI.keptSep h6k hgs hsep.symm
                      have O11s : OwnsI _ wi.heap.size _ (castL Ol) := OwnsI.keptSep h11k hgs s711
                      have prS : Box _ w.heap.size W T (some ⟨bx, ox, none⟩) n cap := heap_grown prk hgs (by intro h; have := Option.some.inj h; omega)
                      have belS : Below wo.heap.size wo _ := (belk.setCell (p := ⟨g7, p, none⟩) hg7 (.int .i64 (wrap64 (mv + c)))).drew
                      refine ⟨⟨q + 1, by omega, by go_num, Ny, My.set p (wrap64 (mv + c)), O6s, OwnsI.drew1 O7s, hsep, s611, s711, O11s, by simp [hmy], by omega, hnb, ?_, prS, belS⟩, by simp [intOf]; omega⟩
                      rw [HMV.out]
                      exact step_old hmy heq3 hqO HO.out hplt HPO.out
                · obtain rfl : q = Ol.length := by omega
                  clear hqO
                  go_wp2_with fail
                  refine ⟨⟨j + 1, by omega, by go_num, Ny, My, h6, h7, hsep, hmy, by omega, hnb, ?_, pr3, bel4⟩, by simp [intOf]; omega⟩
                  rw [sumTo_all] at heq3
                  refine heq3.trans ?_
                  simp only [psiN]
                  rw [← HC9.out, ← HS.out, HDP.out s, ← HOL.out]
                  exact heq2.add (Eqv.refl _)
          · obtain rfl : j = M := by omega
            clear hjM
            go_wp2_with fail
            refine ⟨⟨k + 1, by omega, by go_num, Nx, Mx, h6.lower (by omega), h7.lower (by omega), hml, ?_, hnb, ?_, pr2, below_seq hbel bel2⟩, by simp [intOf]; omega⟩
            · rw [Nat.pow_succ, ← HNN.out]; omega
            · rw [← HM.out]
              exact heq2.trans HEQ.out
      · obtain rfl : k = n := by omega
        clear hlt
        rw [Nat.sub_self] at heq
        have HEQ := Lib.hid heq; clear heq
        go_wp2_with fail
        go_loop [16, 17] (fun sm i => ∃ q : Nat, q ≤ M ∧ i = .int .i64 q ∧ ∃ sg : Int, sm = .int .i64 sg ∧ Eqv sg (psiN (dpN W T xs 0 k) S C q) ∧ -9223372036854775808 ≤ sg ∧ sg ≤ 9223372036854775807) (fun _ i => M - (intOf i).toNat)
        case atStart => exact ⟨0, Nat.zero_le _, rfl, 0, rfl, Eqv.refl _, by decide, by decide⟩
        case round =>
          obtain ⟨q, hq, rfl, sg, rfl, heq2, hs0, hs1⟩ := hrel
          by_cases hqM : q < M
          · obtain ⟨s, hs⟩ : ∃ s, s = S.getD q 0 := ⟨_, rfl⟩
            obtain ⟨c, hc⟩ : ∃ c, c = C.getD q 0 := ⟨_, rfl⟩
            obtain ⟨b3, o3, ea3, hc3⟩ := AS.out q (by rw [castL_len, ← HMM.out]; exact hqM)
            obtain ⟨b4, o4, ea4, hc4⟩ := AC.out q (by rw [HLEN.out]; exact hqM)
            rw [castL_get, ← hs] at hc3
            rw [← hc] at hc4
            cases ea3
            cases ea4
            have e1 : (q : Int) < M := by omega
            have hps : psiN (dpN W T xs 0 k) S C (q + 1) = psiN (dpN W T xs 0 k) S C q + c * (dpN W T xs 0 k s : Int) := by simp only [psiN]; rw [← hs, ← hc]
            have HPS := Lib.hid hps; clear hps hs hc
            by_cases hsz : s = 0
            · subst hsz
              go_wp2
              go_round
              case rel =>
                obtain ⟨z, hz⟩ := wrap64_eqv (sg + c)
                refine ⟨q + 1, by omega, by go_num, _, rfl, ?_, by unfold wrap64; omega, by unfold wrap64; omega⟩
                rw [HPS.out]
                have e9 : (dpN W T xs 0 k 0 : Int) = 1 := by simp [dpN]
                rw [e9, Int.mul_one]
                exact (wrap64_eqv _).trans (heq2.add (Eqv.refl c))
              case measure => simp [intOf]; omega
            · have z0 : ((s : Int) == 0) = false := by simp; omega
              go_wp2
              go_round
              case rel =>
                refine ⟨q + 1, by omega, by go_num, _, rfl, ?_, hs0, hs1⟩
                rw [HPS.out]
                have e9 : (dpN W T xs 0 k s : Int) = 0 := by simp [dpN, hsz]
                rw [e9, Int.mul_zero, Int.add_zero]
                exact heq2
              case measure => simp [intOf]; omega
          · obtain rfl : q = M := by omega
            go_wp2
            go_ret
            have hle := dpT_le (W := W) (T := T) (xs := xs) (by rw [← HN.out]; exact n36)
            have he := heq2.trans HEQ.out
            rw [HTT.out] at he
            exact ⟨ret_int (he.eq ⟨hs0, hs1⟩ (by omega)), hbel⟩
  · have hres : tilT W T xs = -1 := by unfold tilT; rw [if_neg h]
    rw [hres]
    rw [Bool.not_eq_true] at h
    go_enter Try.func98, Try.ntmps98
    go_wp2_with fail
    refine (sRegionValid_any _ _ _ _ _ xs _ HN.out hn' (HA.out.one _)).mono ?_; rintro e w1 ⟨rfl, hb1⟩
    rw [h]
    go_wp2
    go_ret
    exact ⟨rfl, below_seq (below1 _ _) hb1⟩

end Go.Proofs.Ytpcajacekmidbaa
