/- Contracts of PairsOf, both sides. No statement is proved here. -/
import Derived.Test.YthjocjiiihebbaaPuz
import Derived.Test.YthjocjiiihebbaaInts
import Derived.Deep.AppendLies
namespace Go.Proofs.Ythjocjiiihebbaa
open Go.RowKit
set_option linter.unusedVariables false
set_option maxRecDepth 100000
set_option linter.unusedSimpArgs false

/-- Whether the k-th cell is the first one of a domino. -/
def goOn (L : List Int) (k : Nat) : Bool := (L.getD k 0 == 1) || (L.getD k 0 == 2)
def othN (W T : Int) (L : List Int) (k : Nat) : Nat := (stepI W T k (L.getD k 0)).toNat
def pairAt (W T : Int) (D L : List Int) (k : Nat) : Int := pairI (D.getD k 0) (D.getD (othN W T L k) 0)
def pairsK (W T : Int) (D L : List Int) (k : Nat) : List Int := ((List.range k).filter (goOn L)).map (pairAt W T D L)
def pairsF (W T : Int) (xs : List Bool) (D L : List Int) : List Int := if pzv W T xs D && lok W T xs L then pairsK W T D L L.length else []
theorem pairsK_yes {W T : Int} {D L : List Int} {k : Nat} (h : goOn L k = true) : pairsK W T D L (k + 1) = pairsK W T D L k ++ [pairAt W T D L k] := by
  unfold pairsK; rw [List.range_succ, List.filter_append, List.map_append]; simp only [List.filter_cons, h]; simp
theorem pairsK_no {W T : Int} {D L : List Int} {k : Nat} (h : goOn L k = false) : pairsK W T D L (k + 1) = pairsK W T D L k := by
  unfold pairsK; rw [List.range_succ, List.filter_append, List.map_append]; simp only [List.filter_cons, h]; simp
theorem pairsK_le (W T : Int) (D L : List Int) (k : Nat) : (pairsK W T D L k).length ≤ k := by
  unfold pairsK; rw [List.length_map]; have := List.length_filter_le (goOn L) (List.range k); rw [List.length_range] at this; exact this
theorem pairsF_le (W T : Int) (xs : List Bool) (D L : List Int) : (pairsF W T xs D L).length ≤ L.length := by
  unfold pairsF; split
  · exact pairsK_le _ _ _ _ _
  · simp
/-- The other cell of a domino in a list that is right. -/
theorem lok_oth {W T : Int} {xs : List Bool} {L : List Int} {k : Nat} (h : lok W T xs L = true) (hk : k < L.length) (h0 : L.getD k 0 ≠ 0) : stepI W T k (L.getD k 0) = (othN W T L k : Int) ∧ othN W T L k < L.length := by
  obtain ⟨hr, hl, _⟩ := lok_rv h
  obtain ⟨v1, v2, v3, v4, v5, _⟩ := rv_true hr
  have hb := lok_both h hk h0
  simp only [bothB, Bool.and_eq_true, decide_eq_true_eq] at hb
  have hs := step_bd (W := W) (T := T) (k := (k : Int)) (way := L.getD k 0) v1 (by omega) (by rw [← v5]; omega)
  unfold othN
  omega
theorem leadsOn_any (v : Int) (w : World) : Calls Try.prog 56 #[.int .i64 v] w fun e w' => e = .returned (.bool ((v == 1) || (v == 2))) ∧ w = w' := by
  by_cases h1 : v = 1
  · subst h1
    go_enter Try.func56, Try.ntmps56
    go_wp2
    go_ret
    exact ⟨ret_bool (by simp), rfl⟩
  · have z1 : (v == 1) = false := by simpa using h1
    by_cases h2 : v = 2
    · subst h2
      go_enter Try.func56, Try.ntmps56
      go_wp2
      go_ret
      exact ⟨ret_bool (by simp), rfl⟩
    · have z2 : (v == 2) = false := by simpa using h2
      go_enter Try.func56, Try.ntmps56
      go_wp2
      go_ret
      exact ⟨ret_bool (by rw [z1, z2]; rfl), rfl⟩
theorem leadsOn_is (v : Int) (w : World) {b : Bool} (h : ((v == 1) || (v == 2)) = b) : Calls Try.prog 56 #[.int .i64 v] w fun e w' => e = .returned (.bool b) ∧ w = w' := by subst h; exact leadsOn_any v w
theorem goOn_bd {L : List Int} {k : Nat} (h : goOn L k = true) : L.getD k 0 ≠ 0 := by
  unfold goOn at h; intro h0; rw [h0] at h; simp at h

theorem own_nil7p (w : World) {B : Nat} (hB : B ≤ w.heap.size) : OwnsI (w.alloc (.cells #[] 3 (0, 0))) B (.slice (some ⟨w.heap.size, 0, none⟩) 0 0) [] :=
  World.ownsRow_made w #[] 0 hB (Nat.zero_le _) rfl

set_option maxHeartbeats 4000000 in
theorem iPairsOf_ret (W T : Int) (a : Option Addr) (n cap : Nat) (xs : List Bool) (da : Option Addr) (md dcap : Nat) (D : List Int) (la : Option Addr) (m lcap : Nat) (L : List Int) (w : World) (hn : n = xs.length) (hn' : n ≤ 1048576) (hd : md = D.length) (hd' : md ≤ 1048576) (hm : m = L.length) (hm' : m ≤ 1048576) (ha : BoolsAt w a xs) (hld : IntsAt w da D) (hl : IntsAt w la L) :
    Calls Try.prog 25 #[.agg #[.int .i64 W, .int .i64 T, .slice a n cap], .slice da md dcap, .slice la m lcap] w (RetL w (pairsF W T xs D L).length (pairsF W T xs D L)) := by
  have HN := Lib.hid hn; clear hn
  have HM := Lib.hid hm; clear hm
  have HMD := Lib.hid hd; clear hd
  have HA := Lib.hid ha; clear ha
  have HL := Lib.hid hl; clear hl
  have HD := Lib.hid hld; clear hld
  cases hp : pzv W T xs D
  · have e : pairsF W T xs D L = [] := by unfold pairsF; rw [hp]; rfl
    rw [e]
    have HP := Lib.hid hp; clear hp e
    go_enter Try.func25, Try.ntmps25
    go_wp2_with fail
    refine (iPuzzleValid_any _ _ _ _ _ xs _ _ _ D _ HN.out hn' HMD.out hd' (HA.out.one _) (HD.out.one _)).mono ?_; rintro e w1 ⟨rfl, hb1⟩
    rw [HP.out]
    go_wp2
    go_ret
    exact ⟨none, 0, rfl, OwnsI.nil _ _, below_seq (below1 _ _) hb1⟩
  · obtain ⟨hr, hlenD, hall⟩ := pzv_rv hp
    cases hk : lok W T xs L
    · have e : pairsF W T xs D L = [] := by unfold pairsF; rw [hk, Bool.and_false]; rfl
      rw [e]
      have HP := Lib.hid hp; clear hp e hall hlenD
      have HK := Lib.hid hk; clear hk
      go_enter Try.func25, Try.ntmps25
      go_wp2_with fail
      refine (iPuzzleValid_any _ _ _ _ _ xs _ _ _ D _ HN.out hn' HMD.out hd' (HA.out.one _) (HD.out.one _)).mono ?_; rintro e w1 ⟨rfl, hb1⟩
      rw [HP.out]
      have p1 := heap_later (heap_new w (.cells #[.int .i64 W, .int .i64 T, .slice a n cap] 35)) hb1
      have b1 := below_seq (below1 w _) hb1
      clear hb1
      obtain ⟨c0, c1, c2⟩ := cells3 p1
      go_wp2_with fail
      refine (iLaidOk_any _ _ _ _ _ xs _ _ _ L _ HN.out hn' HM.out hm' (HA.out.below b1) (HL.out.below b1)).mono ?_; rintro e w2 ⟨rfl, hb2⟩
      rw [HK.out]
      go_wp2
      go_ret
      exact ⟨none, 0, rfl, OwnsI.nil _ _, below_seq b1 hb2⟩
    · have hlenL := lok_len' hk
      have e : pairsF W T xs D L = pairsK W T D L m := by unfold pairsF; rw [hk, hp, HM.out]; rfl
      rw [e]
      have hmn : m = n := by rw [HM.out, HN.out]; exact hlenL
      subst hmn
      have hmd : md = m := by rw [HMD.out, HN.out]; exact hlenD
      subst hmd
      obtain ⟨hW0, hW1, hT0, hT1, v5, _⟩ := rv_true hr
      have HV : Hid ((md : Int) = W * T) := by show (md : Int) = W * T; rw [HN.out]; exact v5
      have HP := Lib.hid hp; clear hp e hall v5
      have HK := Lib.hid hk; clear hk
      obtain ⟨i0, hi, hz0, hz1, hz2⟩ := info_parts infoInt
      go_enter Try.func25, Try.ntmps25
      go_wp2_with fail
      refine (iPuzzleValid_any _ _ _ _ _ xs _ _ _ D _ HN.out hn' HMD.out hd' (HA.out.one _) (HD.out.one _)).mono ?_; rintro e w1 ⟨rfl, hb1⟩
      rw [HP.out]
      have p1 := heap_later (heap_new w (.cells #[.int .i64 W, .int .i64 T, .slice a md cap] 35)) hb1
      have b1 := below_seq (below1 w _) hb1
      clear hb1
      obtain ⟨c0, c1, c2⟩ := cells3 p1
      go_wp2_with fail
      refine (iLaidOk_any _ _ _ _ _ xs _ _ _ L _ HN.out hn' HM.out hm' (HA.out.below b1) (HL.out.below b1)).mono ?_; rintro e w2 ⟨rfl, hb2⟩
      rw [HK.out]
      have p2 := heap_later p1 hb2
      have b2 := below_seq b1 hb2
      clear c0 c1 c2 hb2 p1 b1
      obtain ⟨c0, c1, c2⟩ := cells3 p2
      have l2 := heap_lt p2
      go_wp2
      clear c0 c1 c2
      go_loopw [7, 8, 9, 22] (fun v _ _ i wr => ∃ k : Nat, k ≤ md ∧ i = .int .i64 k ∧ OwnsI wr (w.heap.size + 1) v (pairsK W T D L k) ∧ wr.heap[w.heap.size]? = some (.cells #[.int .i64 W, .int .i64 T, .slice a md cap] 35 (0, 0)) ∧ Below w.heap.size w wr) (fun _ _ _ i _ => md - (intOf i).toNat)
      case atStart => exact ⟨0, Nat.zero_le _, rfl, OwnsI.nil _ _, p2, b2⟩
      case round =>
        rename World => wr
        clear p2 b2 l2
        obtain ⟨k, hk, rfl, ho, pr, hbel⟩ := hrel
        have HO := Lib.hid ho; clear ho
        have BEL := Lib.hid hbel; clear hbel
        obtain ⟨c0, c1, c2⟩ := cells3 pr
        have l1 := heap_lt pr
        by_cases hlt : k < md
        · have hle := pairsK_le W T D L k
          have e1 : (k : Int) < md := by omega
          have e0 : (0 : Int) ≤ k := by omega
          obtain ⟨lb, lo, rfl, hc⟩ := (HL.out.below BEL.out) k (by rw [← HM.out]; exact hlt)
          have hlb0 := World.block_lt_of_cell? wr _ hc
          obtain ⟨wy, hwy⟩ : ∃ wy, wy = L.getD k 0 := ⟨_, rfl⟩
          rw [← hwy] at hc
          cases hg : goOn L k
          · have HNX := Lib.hid (pairsK_no (W := W) (T := T) (D := D) hg)
            unfold goOn at hg
            rw [← hwy] at hg
            have hg1 : (wy == 1) = false ∧ (wy == 2) = false := by simpa using hg
            obtain ⟨g1, g2⟩ := hg1
            have HG := Lib.hid hg; clear hg hwy
            have HWT' := HV
            go_wp2_with (go_at_call 56; refine (leadsOn_is _ _ HG.out).mono ?_; rintro e w5 ⟨rfl, rfl⟩)
            go_roundw
            case rel => first | exact ⟨k + 1, by omega, by go_num, by rw [HNX.out]; exact HO.out, pr, BEL.out⟩ | exact ⟨k + 1, by omega, by go_num, by rw [HNX.out]; exact (HO.out.below (drewN_below _ _)), heap_later pr (drewN_below _ _), below_seq BEL.out (drewN_below _ _)⟩
            case measure => simp [intOf]; omega
          · obtain ⟨o, ho⟩ : ∃ o, o = othN W T L k := ⟨_, rfl⟩
            obtain ⟨hst, hom⟩ := lok_oth HK.out (k := k) (by rw [← HM.out]; exact hlt) (goOn_bd hg)
            rw [← hwy, ← ho] at hst
            rw [← ho, ← HM.out] at hom
            have HNX := Lib.hid (pairsK_yes (W := W) (T := T) (D := D) hg)
            unfold pairAt at HNX
            rw [← ho] at HNX
            have hcb : cellB W T md k wy = o := by unfold cellB; rw [if_pos ⟨by omega, by omega⟩, hst]
            unfold goOn at hg
            rw [← hwy] at hg
            obtain ⟨db, do', rfl, hck⟩ := (HD.out.below BEL.out) k (by rw [← HMD.out]; exact hlt)
            have hco := (HD.out.below BEL.out).cellAt (i := o) (by rw [← HMD.out]; exact hom)
            have hdb0 := World.block_lt_of_cell? _ _ (HD.out.cellAt (i := o) (by rw [← HMD.out]; exact hom))
            simp only at hdb0
            have hck0 := HD.out.cellAt (i := k) (by rw [← HMD.out]; exact hlt)
            have hco0 := HD.out.cellAt (i := o) (by rw [← HMD.out]; exact hom)
            have hc0 := HL.out.cellAt (i := k) (by rw [← HM.out]; exact hlt)
            have hlb := World.block_lt_of_cell? _ _ hc0
            simp only at hlb
            rw [← hwy] at hc0
            obtain ⟨d1, hd1⟩ : ∃ d1, d1 = D.getD k 0 := ⟨_, rfl⟩
            obtain ⟨d2, hd2⟩ : ∃ d2, d2 = D.getD o 0 := ⟨_, rfl⟩
            rw [← hd1] at hck hck0 HNX
            rw [← hd2] at hco hco0 HNX
            have hdb : db < w.heap.size := hdb0
            have HST := Lib.hid hst; clear hst
            have HCB := Lib.hid hcb; clear hcb
            clear hwy hd1 hd2 ho
            obtain ⟨a9, c9, hv⟩ := HO.out.form2
            subst hv
            have om1 : (o : Int) < md := by omega
            have om0 : (0 : Int) ≤ o := by omega
            have HG := Lib.hid hg; clear hg
            go_wp2_with (go_at_call 56; refine (leadsOn_is _ _ HG.out).mono ?_; rintro e w5 ⟨rfl, rfl⟩)
            have PQ : wr.drew.heap[w.heap.size]? = some _ := pr
            have ODR := Lib.hid (show OwnsI wr.drew (w.heap.size + 1) (.slice a9 (pairsK W T D L k).length c9) (pairsK W T D L k) from HO.out)
            go_region_held3 (fun w' => w'.cell? ⟨w.heap.size, 0, none⟩ = some (.int .i64 W) ∧ w'.cell? ⟨w.heap.size, 1, none⟩ = some (.int .i64 T) ∧ w'.cell? ⟨w.heap.size, 2, none⟩ = some (.slice a md cap) ∧ w'.cell? ⟨db, do' + k, none⟩ = some (.int .i64 d1) ∧ w'.cell? ⟨db, do' + o, none⟩ = some (.int .i64 d2))
              (go_keep)
              (first
                | (go_at_call 57; refine (cellBeside_is _ _ _ _ _ _ _ _ hW0 hW1 hT0 hT1 HV.out HCB.out).mono ?_; rintro e w6 ⟨rfl, hb6⟩; have p6 := heap_later PQ hb6; obtain ⟨c60, c61, c62⟩ := cells3 p6; have k6 := cell_later hb6 (show wr.drew.cell? ⟨db, do' + k, none⟩ = some _ from hck); have o6 := cell_later hb6 (show wr.drew.cell? ⟨db, do' + o, none⟩ = some _ from hco); have O6 := Lib.hid (ODR.out.below hb6); have B6 := Lib.hid (below_seq BEL.out (below_seq (drew_below _) hb6)); have l6 := heap_lt p6)
                | (go_at_call 14; refine (iPairOf_any _ _ _).mono ?_; rintro e w7 ⟨rfl, rfl⟩)
                | (refine step_append_lies _ rfl _ _ 32 rfl (w.heap.size + 1) 3 i0 (.int .i64 0) 1 8 Try.underlying32 hi hz0 hz1 hz2 rfl (by decide) (.slice a9 (pairsK W T D L k).length c9) (pairsK W T D L k).length ((pairsK W T D L k).map (Value.int .i64)) rfl (show World.ownsRow (World.alloc w7 _) _ _ _ _ _ _ from World.ownsRow.alloc O6.out _) ⟨w7.heap.size, 0, none⟩ 1 1 [.int .i64 (pairI d1 d2)] rfl rfl (new_int w7 _) (one_int _) (by omega) (by unfold maxLen; omega) (by omega) (by simp; omega) (w7.heap.size + 1) (by simp) ?_
                   intro g' c' w8 hown' hgrow _ _
                   have p8 := heap_grown (heap_later p6 (below1 _ _)) hgrow (O6.out.ownBlock (by omega))
                   obtain ⟨c80, c81, c82⟩ := cells3 p8
                   have B8 := Lib.hid (below_grown (below_seq B6.out (below1 _ _)) hgrow (Nat.le_refl _) (O6.out.ownAt (by omega)))
                   have O8 := Lib.hid (OwnsI.ofRow (xs := pairsK W T D L (k + 1)) hown' (by rw [HNX.out]; simp) (by rw [HNX.out]; simp))
                   have k8 := (B8.out.cell (p := ⟨db, do' + k, none⟩) hdb).trans hck0
                   have o8 := (B8.out.cell (p := ⟨db, do' + o, none⟩) hdb).trans hco0
                   clear hown' hgrow))
            go_wp2
            go_roundw
            case rel => exact ⟨k + 1, by omega, by go_num, O8.out, p8, B8.out⟩
            case measure => simp [intOf]; omega
        · obtain rfl : k = md := by omega
          obtain ⟨a9, cap9, hv⟩ := HO.out.form2
          subst hv
          go_wp2
          go_ret
          exact ⟨a9, cap9, rfl, HO.out.lower (by omega), BEL.out⟩

end Go.Proofs.Ythjocjiiihebbaa
