/- Contract of impl.tilingsIn: how many tilings a region has. -/
import Derived.Test.YtppfiacellebkaaDpI
import Derived.Test.YtppfiacellebkaaDpP
namespace Go.Proofs.Ytppfiacellebkaa
open Go.RowKit Go.Maps
set_option linter.unusedVariables false
set_option maxRecDepth 100000
set_option linter.unusedSimpArgs false

theorem lawI : Keyed Try.prog 3 := int_keyed Try.underlying3
theorem zeroI (w : World) : (zeroValue 3).run Try.prog w = .ok (.int .i64 0) w := by kernel_rfl
def MapW (w : World) (b n : Nat) (D : DataW Unit) : Prop := w.ownsMap Try.prog 3 (plainElem (H := Unit) Try.prog 3) b n D
def RngW (w : World) (b r n : Nat) (D : DataW Unit) (left : Lit → Bool) (cnt : Nat) : Prop := w.ranges Try.prog 3 (plainElem (H := Unit) Try.prog 3) b r n D left cnt

theorem wrap64_eqv (a : Int) : Eqv (wrap64 a) a := ⟨-((a + 9223372036854775808) / 18446744073709551616), by unfold wrap64; omega⟩
theorem eqv_put {P a c F : Int} : Eqv (P + (wrap64 (a + c) - a) * F) (P + c * F) := by
  obtain ⟨z, hz⟩ := wrap64_eqv (a + c)
  rw [hz]
  have e : a + c + z * 18446744073709551616 - a = c + z * 18446744073709551616 := by omega
  rw [e, Int.add_mul]
  refine ⟨z * F, ?_⟩
  rw [Int.mul_assoc, Int.mul_comm 18446744073709551616 F, ← Int.mul_assoc]
  omega

theorem wf_inv {c : Int} (h : (Lit.int .i64 c).wf = true) : -9223372036854775808 ≤ c ∧ c ≤ 9223372036854775807 := by
  simp [Lit.wf, IntKind.min, IntKind.max, IntKind.signed, IntKind.bits] at h
  omega

def sumTo (f : Nat → Nat) (l : List Nat) (j : Nat) : Nat := ((l.take j).map f).sum
theorem sumTo_succ (f : Nat → Nat) (l : List Nat) (j : Nat) (h : j < l.length) : sumTo f l (j + 1) = sumTo f l j + f (l.getD j 0) := by
  unfold sumTo
  rw [List.take_succ_eq_append_getElem h, List.map_append, List.sum_append]
  simp only [List.map_cons, List.map_nil, List.sum_cons, List.sum_nil, List.getD_eq_getElem?_getD, List.getElem?_eq_getElem h, Option.getD_some]
  omega
theorem sumTo_all (f : Nat → Nat) (l : List Nat) : sumTo f l l.length = (l.map f).sum := by unfold sumTo; rw [List.take_length]

theorem insert_start (W T : Int) (xs : List Bool) (m : Nat) : phi (dpN W T xs m 0) allL ((DataW.map [] : DataW Unit).put (.int .i64 0) (.lit (.int .i64 1))) = (dpN W T xs m 0 0 : Int) := by
  have h := phi_put (f := dpN W T xs m 0) (D := .map []) (z := 0) (c := 0) (c' := 1) tidy_empty rfl
  have e : phi (dpN W T xs m 0) allL (.map [] : DataW Unit) = 0 := rfl
  rw [e] at h
  simp only [kI, dI] at h
  rw [h]
  simp

set_option maxHeartbeats 8000000 in
theorem tilingsIn_any (W T : Int) (a : Option Addr) (n cap : Nat) (xs : List Bool) (w : World) (hn : n = xs.length) (hW0 : 1 ≤ W) (hW1 : W ≤ 6) (hT0 : 1 ≤ T) (hT1 : T ≤ 6) (hWT : (n : Int) = W * T) (ha : BoolsAt w a xs) :
    Calls Try.prog 19 #[.agg #[.int .i64 W, .int .i64 T, .slice a n cap]] w fun e w' => e = .returned (.int .i64 (dpT W T xs)) ∧ Below w.heap.size w w' := by
  have HN := Lib.hid hn; clear hn
  have HA := Lib.hid ha; clear ha
  have n36 : n ≤ 36 := by
    have h1 : W * T ≤ 6 * 6 := Int.mul_le_mul hW1 hT1 (by omega) (by omega)
    omega
  have HWT := Lib.hid hWT; clear hWT
  obtain ⟨pw2, pw64⟩ := pow_le64 hW0 hW1
  have hmm := @run_makeMap Try.prog
  have hown0 : MapW ((w.alloc (.cells #[.int .i64 W, .int .i64 T, .slice a n cap] 29)).alloc (.map #[] 0)) (w.heap.size + 1) 0 (.map []) := by
    have := World.ownsMap_made (w.alloc (.cells #[.int .i64 W, .int .i64 T, .slice a n cap] 29)) Try.prog 3 (plainElem (H := Unit) Try.prog 3)
    simpa [MapW] using this
  obtain ⟨w1, hins, hown1, hg1⟩ := World.ownsMap.update (show World.ownsMap _ _ _ _ _ _ _ from hown0) lawI Try.underlying39 (by unfold maxLen; omega) (keyOf_int_mk Try.underlying3 (a := 0) (by decide)) (plainElem_int Try.underlying3 (a := 1) (by decide))
  have pr1 : w1.heap[w.heap.size]? = some (.cells #[.int .i64 W, .int .i64 T, .slice a n cap] 29 (0, 0)) := heap_grown (heap_later (heap_new w _) (below1 _ _)) hg1 (by intro h; have := Option.some.inj h; omega)
  have b1 : Below w.heap.size w w1 := below_grown (below2 w _ _) hg1 (Nat.le_refl _) (by intro k hk; have := Option.some.inj hk; omega)
  have zs1 : w.heap.size + 2 ≤ w1.heap.size := by have := hg1.size; simp at this; omega
  clear hg1
  obtain ⟨c0, c1, c2⟩ := cells3 pr1
  go_enter Try.func19, Try.ntmps19
  go_wp2
  clear hins hown0
  obtain ⟨TT, hTT⟩ : ∃ TT : Int, TT = (dpT W T xs : Int) := ⟨_, rfl⟩
  go_loopw [3, 15] (fun v i wr => ∃ k : Nat, k ≤ n ∧ i = .int .i64 k ∧ ∃ (B : Nat) (D : DataW Unit), v = .map (some B) ∧ w.heap.size < B ∧ MapW wr B (2 ^ k) D ∧ Eqv (phi (dpN W T xs (n - k) k) allL D) TT ∧ KeysLt D (2 ^ W.toNat) ∧
      wr.heap[w.heap.size]? = some (.cells #[.int .i64 W, .int .i64 T, .slice a n cap] 29 (0, 0)) ∧ Below w.heap.size w wr) (fun _ i _ => n - (intOf i).toNat)
  case atStart =>
    refine ⟨0, Nat.zero_le _, rfl, w.heap.size + 1, _, rfl, Nat.lt_succ_self _, hown1.mono (by decide), Eqv.of ?_, (keys_empty _).put (z := 0) (by omega) _, pr1, b1⟩
    rw [Nat.sub_zero, insert_start, hTT]
    unfold dpT
    rw [HN.out]
  case round =>
    rename World => wo
    clear hown1 pr1 b1 zs1 c0 c1 c2
    obtain ⟨k, hk, rfl, B, D, rfl, hBw, hown, heq, hkeys, pr, hbel⟩ := hrel
    obtain ⟨c0, c1, c2⟩ := cells3 pr
    have l1 := heap_lt pr
    obtain ⟨N, hN⟩ : ∃ N : Nat, N = 2 ^ k := ⟨_, rfl⟩
    have hN36 : N ≤ 68719476736 := by
      have h2 : (2 : Nat) ^ k ≤ 2 ^ 36 := Nat.pow_le_pow_right (by decide) (by omega)
      have h3 : (2 : Nat) ^ 36 = 68719476736 := by decide
      omega
    rw [← hN] at hown
    have HNN := Lib.hid hN; clear hN
    by_cases hlt : k < n
    · have hown' : MapW (wo.alloc (.map #[] 0)) B N D := World.ownsMap.alloc hown _
      have hBlt : B < wo.heap.size := World.ownsMap.lt hown
      have e1 : (wo.alloc (.map #[] 0)).heap.size = wo.heap.size + 1 := by simp
      have hle0 := size_le hown
      obtain ⟨hT, hky⟩ := own_tidy (K := lawI) hown
      have hnk : n - k = (n - (k + 1)) + 1 := by omega
      rw [hnk] at heq
      obtain ⟨m, hm⟩ : ∃ m, m = n - (k + 1) := ⟨_, rfl⟩
      rw [← hm] at heq
      have HM := Lib.hid hm; clear hm hnk
      have hdp : ∀ s, dpN W T xs (m + 1) k s = ((dpOpts W T xs k s).map (dpN W T xs m (k + 1))).sum := fun s => rfl
      have HDP := Lib.hid hdp; clear hdp
      go_wp2_with (first
        | (at_range; refine wpList_range_own _ rfl _ 39 rfl 3 3 lawI Try.underlying39 _ B N _ rfl hown' ?_; intro w0 hrg0 hg0 hs0)
        | go_in)
      go_frame
      rw [e1] at hrg0 hs0 ⊢
      have pr0 := heap_later (heap_later pr (below1 _ (.map #[] 0))) (grown_below hg0)
      have bel0 := below_seq (below_seq hbel (below1 _ (.map #[] 0))) (grown_below hg0)
      have hmade : MapW w0 wo.heap.size 0 (.map []) := (World.ownsMap_made wo _ _ _).kept hg0 (by simp)
      clear hg0
      go_loopw [6] (fun _ w' => ∃ (left : Lit → Bool) (cnt : Nat) (D2 : DataW Unit), RngW w' B (wo.heap.size + 1) N D left cnt ∧ cnt ≤ N ∧ (∀ kl, left kl = true → Maps.has D kl = true) ∧ MapW w' wo.heap.size (2 * (N - cnt)) D2 ∧
          Eqv (phi (dpN W T xs m (k + 1)) allL D2 + phi (dpN W T xs (m + 1) k) left D) TT ∧ KeysLt D2 (2 ^ W.toNat) ∧ w'.heap[w.heap.size]? = some (.cells #[.int .i64 W, .int .i64 T, .slice a n cap] 29 (0, 0)) ∧ Below w.heap.size w w')
        (fun _ w' => w'.rangeLeft B (wo.heap.size + 1))
      case atStart =>
        refine ⟨_, _, .map [], hrg0, hle0, fun kl h => h, hmade.mono (Nat.zero_le _), ?_, keys_empty _, pr0, bel0⟩
        obtain ⟨es, he⟩ := hT.isMap
        rw [phi_has he (hky es he)]
        have e0 : phi (dpN W T xs m (k + 1)) allL (.map [] : DataW Unit) = 0 := rfl
        rw [e0, Int.zero_add]
        exact heq
      case round =>
        clear pr0 bel0 hmade hrg0 hs0 c0 c1 c2 pr hbel l1 heq hown'
        obtain ⟨left, cnt, D2, hrg, hcs, hle, hout, heq2, hk2, pr2, bel2⟩ := hrel
        rename World => wi
        have hsz : wo.heap.size + 2 ≤ wi.heap.size := World.ranges.lt hrg
        go_wp2_with (first
          | (at_next; refine wpList_next_ranges_ii _ rfl _ rfl 3 3 .i64 .i64 lawI Try.underlying3 Try.underlying3 B (wo.heap.size + 1) N _ _ _ rfl hrg ?_ ?_)
          | go_in)
        · intro hc0 hl0
          go_wp2
          subst hc0
          rw [phi_none hl0, Int.add_zero, HM.out] at heq2
          have eN : 2 * (N - 0) = 2 ^ (k + 1) := by rw [HNN.out, Nat.pow_succ]; omega
          rw [eN] at hout
          exact ⟨⟨k + 1, by omega, by go_num, wo.heap.size, D2, rfl, by omega, hout, heq2, hk2, pr2, bel2⟩, by simp [intOf]; omega⟩
        · intro x c w1 cnt1 hwx hwc hlx hat hrg1 hlt1 hg1 hs1 hen
          obtain ⟨z, hz, hzB⟩ := hkeys _ (hle _ hlx)
          have hxz : x = (z : Int) := by simpa [kI] using hz
          subst hxz
          clear hz
          have hwi : w.heap.size < wi.heap.size := by omega
          have pr3 := heap_grown pr2 hg1 (by intro h; have := Option.some.inj h; omega)
          have bel3 : Below w.heap.size w w1 := below_grown bel2 hg1 (Nat.le_refl _) (by intro j hj; have := Option.some.inj hj; omega)
          have hout3 : MapW w1 wo.heap.size (2 * (N - cnt)) D2 := World.ownsMap.kept hout hg1 (by intro h; have := Option.some.inj h; omega)
          have hq : phi (dpN W T xs (m + 1) k) left D = c * (dpN W T xs (m + 1) k z : Int) + phi (dpN W T xs (m + 1) k) (fun y => left y && !y.sameKey (kI z)) D := by
            have := phi_left (f := dpN W T xs (m + 1) k) (D := D) (z := z) (c := c) hT hlx hat
            simpa using this
          rw [hq] at heq2
          clear hq hg1 hout pr2 bel2
          obtain ⟨d0, d1, d2⟩ := cells3 pr3
          go_wp2_with fail
          refine (coveredAfter_ret W T _ _ _ xs k z _ HN.out hW0 hW1 hT0 hT1 HWT.out hlt (by omega) (HA.out.below bel3)).mono ?_; rintro e w2 ⟨a2, cap2, rfl, ho2, hb2⟩
          have pr4 := heap_later pr3 hb2
          have bel4 := below_seq bel3 hb2
          have hrg2 : RngW w2 B (wo.heap.size + 1) N D (fun y => left y && !y.sameKey (kI z)) cnt1 := World.ranges.kept hrg1 (grown_of_below hb2 none) (by simp) (by simp)
          have hout4 : MapW w2 wo.heap.size (2 * (N - cnt)) D2 := World.ownsMap.kept hout3 (grown_of_below hb2 none) (by simp)
          have hz2 := hb2.size
          clear hrg1 hout3 pr3 bel3 d0 d1 d2 hb2
          obtain ⟨LL, hLL⟩ : ∃ LL, LL = (coverL W T xs k z).length := ⟨_, rfl⟩
          have hLL2 : LL ≤ 2 := by rw [hLL]; unfold coverL; rw [List.length_map]; exact dpOpts_le W T xs k z
          rw [← hLL] at ho2 ⊢
          have HLL := Lib.hid hLL; clear hLL
          go_wp2
          go_loopw [9, 31] (fun _ i w' => ∃ j : Nat, j ≤ LL ∧ i = .int .i64 j ∧ ∃ D3 : DataW Unit, RngW w' B (wo.heap.size + 1) N D (fun y => left y && !y.sameKey (kI z)) cnt1 ∧ MapW w' wo.heap.size (2 * (N - cnt) + j) D3 ∧
              Eqv (phi (dpN W T xs m (k + 1)) allL D3) (phi (dpN W T xs m (k + 1)) allL D2 + c * (sumTo (dpN W T xs m (k + 1)) (dpOpts W T xs k z) j : Int)) ∧ KeysLt D3 (2 ^ W.toNat) ∧ OwnsI w' w1.heap.size (.slice a2 LL cap2) (coverL W T xs k z) ∧
              w'.heap[w.heap.size]? = some (.cells #[.int .i64 W, .int .i64 T, .slice a n cap] 29 (0, 0)) ∧ Below w.heap.size w w') (fun _ i _ => LL - (intOf i).toNat)
          case atStart =>
            refine ⟨0, Nat.zero_le _, rfl, D2, hrg2, hout4, Eqv.of ?_, hk2, ho2, pr4, bel4⟩
            simp [sumTo]
          case round =>
            clear hrg2 hout4 ho2 pr4 bel4
            obtain ⟨j, hj, rfl, D3, hrg3, hout5, heq3, hk3, ho3, pr5, bel5⟩ := hrel
            rename World => wj
            by_cases hjl : j < LL
            · obtain ⟨o, ho⟩ : ∃ o, o = (dpOpts W T xs k z).getD j 0 := ⟨_, rfl⟩
              have hjd : j < (dpOpts W T xs k z).length := by
                have := HLL.out
                unfold coverL at this
                rw [List.length_map] at this
                omega
              have hoB : o < 2 ^ W.toNat := by
                rw [ho, List.getD_eq_getElem?_getD, List.getElem?_eq_getElem hjd, Option.getD_some]
                exact dpOpts_lt hW0 hW1 hzB _ (List.getElem_mem _)
              have hco : (coverL W T xs k z).getD j 0 = (o : Int) := by
                unfold coverL
                rw [ho, List.getD_eq_getElem?_getD, List.getD_eq_getElem?_getD, List.getElem?_map, List.getElem?_eq_getElem hjd]
                rfl
              have hsum := sumTo_succ (dpN W T xs m (k + 1)) _ _ hjd
              rw [← ho] at hsum
              obtain ⟨gb, go, ea, hcell⟩ := (OwnsI.at ho3) j (by rw [← HLL.out]; exact hjl)
              rw [hco] at hcell
              cases ea
              have hgl := World.block_lt_of_cell? wj _ hcell
              simp only at hgl
              have hwo : (Lit.int .i64 (o : Int)).wf = true := WalkArith.wf_i64 (by omega)
              have HSUM := Lib.hid hsum; clear hsum ho hco
              have e0 : (j : Int) < LL := by omega
              go_wp2_with (first
                | (at_lookup; refine wpList_lookup_own_int _ rfl _ _ 39 rfl 3 3 .i64 lawI Try.underlying39 Try.underlying3 (zeroI _) wo.heap.size (2 * (N - cnt) + j) _ rfl hout5 _ _ rfl (keyOf_int_mk Try.underlying3 hwo) ?_; intro cv hat2 hwc2)
                | (at_mapUpdate; refine wpList_mapUpdate_own _ rfl _ _ _ 39 rfl 3 3 lawI Try.underlying39 _ wo.heap.size (2 * (N - cnt) + j) _ rfl hout5 (by unfold maxLen; omega) _ _ _ rfl rfl (keyOf_int_mk Try.underlying3 hwo) _ [] (plainElem_int Try.underlying3 (wrap64_wf _)) ?_; intro w4 hout6 hg4)
                | go_in)
              refine ⟨⟨j + 1, by omega, by go_num, _, World.ranges.kept hrg3 hg4 (by intro h; have := Option.some.inj h; omega) (by intro h; have := Option.some.inj h; omega), hout6, ?_, hk3.put hoB _, OwnsI.keptBy ho3 hg4 (by intro q hq; have := Option.some.inj hq; omega),
                heap_grown pr5 hg4 (by intro h; have := Option.some.inj h; omega), below_grown bel5 hg4 (Nat.le_refl _) (by intro q hq; have := Option.some.inj hq; omega)⟩, by simp [intOf]; omega⟩
              have hp := phi_put (f := dpN W T xs m (k + 1)) (z := (o : Int)) (c := cv) (c' := wrap64 (cv + c)) (own_tidy (K := lawI) hout5).1 hat2
              simp only [kI, dI] at hp
              rw [hp, HSUM.out]
              refine eqv_put.trans ?_
              have e3 : c * ((sumTo (dpN W T xs m (k + 1)) (dpOpts W T xs k z) j + dpN W T xs m (k + 1) o : Nat) : Int) = c * (sumTo (dpN W T xs m (k + 1)) (dpOpts W T xs k z) j : Int) + c * (dpN W T xs m (k + 1) o : Int) := by
                rw [Int.natCast_add, Int.mul_add]
              rw [e3, ← Int.add_assoc]
              simpa using heq3.add (Eqv.refl (c * (dpN W T xs m (k + 1) o : Int)))
            · obtain rfl : j = LL := by omega
              clear hjl
              go_wp2
              refine ⟨⟨_, cnt1, D3, hrg3, by omega, fun kl h => hle kl (by simp at h; exact h.1), World.ownsMap.mono hout5 (by omega), ?_, hk3, pr5, bel5⟩, by rw [World.ranges.left_eq hrg3, World.ranges.left_eq hrg]; exact hlt1⟩
              have e : sumTo (dpN W T xs m (k + 1)) (dpOpts W T xs k z) j = dpN W T xs (m + 1) k z := by
                rw [HDP.out z, ← sumTo_all, HLL.out]
                unfold coverL
                rw [List.length_map]
              rw [e] at heq3
              refine (heq3.add (Eqv.refl _)).trans ?_
              rw [Int.add_assoc]
              exact heq2
    · obtain rfl : k = n := by omega
      clear hlt
      go_wp2_with (first
        | (at_lookup; refine wpList_lookup_own_int _ rfl _ _ 39 rfl 3 3 .i64 lawI Try.underlying39 Try.underlying3 (zeroI _) B N _ rfl hown _ _ rfl (keyOf_int_mk Try.underlying3 (a := 0) (by decide)) ?_; intro c hat hwc)
        | go_in)
      go_ret
      obtain ⟨hT, hky⟩ := own_tidy (K := lawI) hown
      rw [Nat.sub_self] at heq
      have e1 : phi (dpN W T xs 0 k) allL D = c := by
        have := phi_end (c := c) hT hky hkeys hat
        rw [← this]
        rfl
      rw [e1, hTT] at heq
      have hle := dpT_le (W := W) (T := T) (xs := xs) (by rw [← HN.out]; exact n36)
      have hb := wf_inv hwc
      exact ⟨ret_int (heq.eq hb (by omega)), hbel⟩

end Go.Proofs.Ytppfiacellebkaa
