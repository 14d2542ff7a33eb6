/- The contract of spec.Relabel. No statement is proved here. -/
import Derived.Test.YthjocjiiihebbaaRelab
namespace Go.Proofs.Ythjocjiiihebbaa
open Go.RowKit
set_option linter.unusedVariables false
set_option maxRecDepth 100000
set_option linter.unusedSimpArgs false

theorem digIn_is9 (d : Int) (w : World) {b : Bool} (h : digB d = b) : Calls Try.prog 42 #[.int .i64 d, .int .i64 0, .int .i64 6] w fun e w' => e = .returned (.bool b) ∧ w = w' := by
  subst h; exact (l1In_any d 0 6 w).mono fun _ _ ⟨a, b⟩ => ⟨a.trans rfl, b⟩
set_option maxHeartbeats 4000000 in
theorem sRelabel_ret (W T : Int) (a : Option Addr) (n cap : Nat) (xs : List Bool) (da : Option Addr) (md dcap : Nat) (D : List Int) (la : Option Addr) (m lcap : Nat) (L : List Int) (w : World) (hn : n = xs.length) (hn' : n ≤ 1048576) (hd : md = D.length) (hd' : md ≤ 1048576) (hm : m = L.length) (hm' : m ≤ 1048576) (hlc : m ≤ lcap) (ha : BoolsAt w a xs) (hld : IntsAt w da D) (hl : IntsAt w la L) :
    Calls Try.prog 38 #[.agg #[.int .i64 W, .int .i64 T, .slice a n cap], .slice da md dcap, .slice la m lcap] w (RetL w (relF W T xs D L).length (relF W T xs D L)) := by
  have HN := Lib.hid hn; clear hn
  have HM := Lib.hid hm; clear hm
  have HMD := Lib.hid hd; clear hd
  have HA := Lib.hid ha; clear ha
  have HL := Lib.hid hl; clear hl
  have HD := Lib.hid hld; clear hld
  cases hp : pzv W T xs D
  · have e : relF W T xs D L = [] := by unfold relF; rw [hp]; rfl
    rw [e]
    have HP := Lib.hid hp; clear hp e
    go_enter Try.func38, Try.ntmps38
    go_wp2_with fail
    refine (sPuzzleValid_any _ _ _ _ _ xs _ _ _ D _ HN.out hn' HMD.out hd' (HA.out.one _) (HD.out.one _)).mono ?_; rintro e w1 ⟨rfl, hb1⟩
    rw [HP.out]
    have p1 := heap_later (heap_new w (.cells #[.int .i64 W, .int .i64 T, .slice a n cap] 35)) hb1
    have b1 := below_seq (below1 w _) hb1
    have z1 := b1.size
    have y1 := heap_lt p1
    have b9 := Lib.hid b1
    go_wp2
    go_ret
    exact ⟨some ⟨w1.heap.size, 0, none⟩, 0, rfl, own_nil7p w1 z1, below_seq b9.out (below1 _ _)⟩
  by_cases h7 : ¬ m = 7
  · have e : relF W T xs D L = [] := by
      unfold relF namesB
      rw [show decide (L.length = 7) = false by rw [decide_eq_false_iff_not, ← HM.out]; exact h7]; simp
    rw [e]
    have HP := Lib.hid hp; clear hp e
    have n1 : ((m : Int) != 7) = true := by simp; omega
    have n2 : ((m : Int) == 7) = false := by simp; omega
    go_enter Try.func38, Try.ntmps38
    go_wp2_with fail
    refine (sPuzzleValid_any _ _ _ _ _ xs _ _ _ D _ HN.out hn' HMD.out hd' (HA.out.one _) (HD.out.one _)).mono ?_; rintro e w1 ⟨rfl, hb1⟩
    rw [HP.out]
    have p1 := heap_later (heap_new w (.cells #[.int .i64 W, .int .i64 T, .slice a n cap] 35)) hb1
    have b1 := below_seq (below1 w _) hb1
    have z1 := b1.size
    have y1 := heap_lt p1
    have b9 := Lib.hid b1
    go_wp2
    go_ret
    exact ⟨some ⟨w1.heap.size, 0, none⟩, 0, rfl, own_nil7p w1 z1, below_seq b9.out (below1 _ _)⟩
  have h7 : m = 7 := Classical.byContradiction h7
  cases hq : onceB L
  · have e : relF W T xs D L = [] := by
      unfold relF
      rw [show namesB L = false by rw [Bool.eq_false_iff]; intro h; have := ((names_iff L).1 h).2.1; unfold onceB at hq; rw [decide_eq_false_iff_not] at hq; exact hq this, Bool.and_false]; rfl
    rw [e]
    subst h7
    have HP := Lib.hid hp; clear hp e
    have HQ := Lib.hid hq; clear hq
    go_enter Try.func38, Try.ntmps38
    go_wp2_with fail
    refine (sPuzzleValid_any _ _ _ _ _ xs _ _ _ D _ HN.out hn' HMD.out hd' (HA.out.one _) (HD.out.one _)).mono ?_; rintro e w1 ⟨rfl, hb1⟩
    rw [HP.out]
    have p1 := heap_later (heap_new w (.cells #[.int .i64 W, .int .i64 T, .slice a n cap] 35)) hb1
    have b1 := below_seq (below1 w _) hb1
    have z1 := b1.size
    have y1 := heap_lt p1
    have b9 := Lib.hid b1
    have y9 := b1.size
    go_wp2_with fail
    refine (l9Once_any _ _ _ L _ HM.out hm' hlc (HL.out.below b9.out)).mono ?_; rintro e w2 ⟨rfl, hb2⟩
    rw [HQ.out]
    have b2 := below_seq b9.out hb2
    have z2 := b2.size
    go_wp2
    go_ret
    exact ⟨some ⟨w2.heap.size, 0, none⟩, 0, rfl, own_nil7p w2 z2, below_seq b2 (below1 _ _)⟩
  cases hk : namesB L
  · have e : relF W T xs D L = [] := by unfold relF; rw [hk, Bool.and_false]; rfl
    rw [e]
    subst h7
    have hbad : Hid (∃ j, j < 7 ∧ digB (L.getD j 0) = false ∧ ∀ i, i < j → digB (L.getD i 0) = true) := by
      show ∃ j, _
      have h1 : ∃ j, j < 7 ∧ digB (L.getD j 0) = false := by
        apply Classical.byContradiction; intro hc
        rw [Bool.eq_false_iff] at hk
        refine hk ((names_iff L).2 ⟨HM.out.symm, by unfold onceB at hq; exact of_decide_eq_true hq, fun x hx => ?_⟩)
        have hx2 : x ∈ L.take L.length := by rwa [List.take_length]
        obtain ⟨i, _, h2, h3⟩ := take_mem.1 hx2
        have h4 : digB (L.getD i 0) = true := by
          cases hb : digB (L.getD i 0)
          · exact absurd ⟨i, by rw [HM.out]; exact h2, hb⟩ hc
          · rfl
        rw [h3] at h4
        exact dig_bd h4
      obtain ⟨j, hj, hb⟩ := h1
      have key : ∀ q, ∀ j, j ≤ q → j < 7 → digB (L.getD j 0) = false → ∃ j, j < 7 ∧ digB (L.getD j 0) = false ∧ ∀ i, i < j → digB (L.getD i 0) = true := by
        intro q
        induction q with
        | zero => intro j h0 h1 h2; exact ⟨j, h1, h2, fun i hi => by omega⟩
        | succ q ih =>
          intro j h0 h1 h2
          by_cases hx : ∃ i, i < j ∧ digB (L.getD i 0) = false
          · obtain ⟨i, i1, i2⟩ := hx
            exact ih i (by omega) (by omega) i2
          · exact ⟨j, h1, h2, fun i hi => by
              cases hb : digB (L.getD i 0)
              · exact absurd ⟨i, hi, hb⟩ hx
              · rfl⟩
      exact key j j (Nat.le_refl _) hj hb
    have HP := Lib.hid hp; clear hp e hk
    have HQ := Lib.hid hq; clear hq
    obtain ⟨j, hj, hbj, hlo⟩ := hbad.out
    clear hbad
    have HBJ := Lib.hid hbj
    have HLO := Lib.hid hlo
    clear hbj hlo
    go_enter Try.func38, Try.ntmps38
    go_wp2_with fail
    refine (sPuzzleValid_any _ _ _ _ _ xs _ _ _ D _ HN.out hn' HMD.out hd' (HA.out.one _) (HD.out.one _)).mono ?_; rintro e w1 ⟨rfl, hb1⟩
    rw [HP.out]
    have p1 := heap_later (heap_new w (.cells #[.int .i64 W, .int .i64 T, .slice a n cap] 35)) hb1
    have b1 := below_seq (below1 w _) hb1
    have z1 := b1.size
    have y1 := heap_lt p1
    have b9 := Lib.hid b1
    go_wp2_with fail
    refine (l9Once_any _ _ _ L _ HM.out hm' hlc (HL.out.below b9.out)).mono ?_; rintro e w2 ⟨rfl, hb2⟩
    rw [HQ.out]
    have b2 := Lib.hid (below_seq b9.out hb2)
    clear hb2 p1 hb1 b1
    go_wp2
    go_loopw [7] (fun i wr => ∃ k : Nat, k ≤ j ∧ i = .int .i64 k ∧ wr = w2) (fun i _ => 7 - (intOf i).toNat)
    case atStart => exact ⟨0, Nat.zero_le _, rfl, rfl⟩
    case round =>
      obtain ⟨k, hk, rfl, rfl⟩ := hrel
      obtain ⟨lb, lo, rfl, hc⟩ := (HL.out.below b2.out) k (by rw [← HM.out]; omega)
      obtain ⟨v, hv⟩ : ∃ v, v = L.getD k 0 := ⟨_, rfl⟩
      rw [← hv] at hc
      have e1 : (k : Int) < 7 := by omega
      have e0 : (0 : Int) ≤ k := by omega
      by_cases hkj : k < j
      · have hb := HLO.out k hkj
        rw [← hv] at hb
        have HB := Lib.hid hb; clear hb hv
        go_wp2_with (go_at_call 42; refine (digIn_is9 _ _ HB.out).mono ?_; rintro e w6 ⟨rfl, rfl⟩)
        go_roundw
        case rel => exact ⟨k + 1, by omega, by go_num, by first | rfl | trivial⟩
        case measure => simp [intOf]; omega
      · obtain rfl : k = j := by omega
        have hb := HBJ.out
        rw [← hv] at hb
        have HB := Lib.hid hb; clear hb hv
        have z2 := b2.out.size
        rename World => w2
        go_wp2_with (go_at_call 42; refine (digIn_is9 _ _ HB.out).mono ?_; rintro e w6 ⟨rfl, rfl⟩)
        go_ret
        exact ⟨some ⟨w2.heap.size, 0, none⟩, 0, rfl, own_nil7p w2 z2, below_seq b2.out (below1 _ _)⟩
  · clear h7
    have hnm := (names_iff L).1 hk
    obtain ⟨hlen7, hnd, hrng⟩ := hnm
    obtain ⟨hr, hlenD, hall⟩ := pzv_rv hp
    have e : relF W T xs D L = relL xs D L md := by unfold relF; rw [hk, hp, HMD.out]; rfl
    rw [e]
    have hmd : md = n := by rw [HMD.out, HN.out]; exact hlenD
    subst hmd
    have hm7 : m = 7 := by rw [HM.out]; exact hlen7
    subst hm7
    obtain ⟨hW0, hW1, hT0, hT1, v5, _⟩ := rv_true hr
    have m1 : 1 ≤ md := by
      have h1 : 1 * 1 ≤ W * T := Int.mul_le_mul hW0 hT0 (by omega) (by omega)
      have := HN.out; omega
    have HALL : Hid (∀ k, k < md → pzAt xs D k = true) := by show ∀ k, _; intro k hk; exact hall k (by rw [← HMD.out]; exact hk)
    have HP := Lib.hid hp; clear hp e hall v5
    have HK := Lib.hid hk
    have HND := Lib.hid hnd
    have HRNG := Lib.hid hrng
    clear hk hnd hrng
    have HQ := Lib.hid hq; clear hq
    obtain ⟨i0, hi, hz0, hz1, hz2⟩ := info_parts infoInt
    obtain ⟨lb, lo, rfl, hlc0⟩ := HD.out 0 (by rw [← HMD.out]; exact m1)
    clear hlc0
    go_enter Try.func38, Try.ntmps38
    go_wp2_with fail
    refine (sPuzzleValid_any _ _ _ _ _ xs _ _ _ D _ HN.out hn' HMD.out hd' (HA.out.one _) (HD.out.one _)).mono ?_; rintro e w1 ⟨rfl, hb1⟩
    rw [HP.out]
    have p1 := heap_later (heap_new w (.cells #[.int .i64 W, .int .i64 T, .slice a md cap] 35)) hb1
    have b1 := below_seq (below1 w _) hb1
    have z1 := b1.size
    have y1 := heap_lt p1
    have b9 := Lib.hid b1
    go_wp2_with fail
    refine (l9Once_any _ _ _ L _ HM.out hm' hlc (HL.out.below b9.out)).mono ?_; rintro e w2 ⟨rfl, hb2⟩
    rw [HQ.out]
    have b2 := Lib.hid (below_seq b9.out hb2)
    have p2 := heap_later p1 hb2
    clear hb2 p1 hb1 b1
    go_wp2
    go_loopw [7] (fun i wr => ∃ k : Nat, k ≤ 7 ∧ i = .int .i64 k ∧ wr = w2) (fun i _ => 7 - (intOf i).toNat)
    case atStart => exact ⟨0, Nat.zero_le _, rfl, rfl⟩
    case round =>
     obtain ⟨k, hk, rfl, hww⟩ := hrel
     subst hww
     by_cases hlt : k < 7
     · obtain ⟨lb', lo', rfl, hc⟩ := (HL.out.below b2.out) k (by rw [← HM.out]; omega)
       obtain ⟨v, hv⟩ : ∃ v, v = L.getD k 0 := ⟨_, rfl⟩
       rw [← hv] at hc
       have e1 : (k : Int) < 7 := by omega
       have e0 : (0 : Int) ≤ k := by omega
       have hb : digB v = true := by
         have hkl : k < L.length := by rw [← HM.out]; exact hlt
         have h1 := HRNG.out v (by rw [hv, List.getD_eq_getElem?_getD, List.getElem?_eq_getElem hkl, Option.getD_some]; exact List.getElem_mem hkl)
         simp only [digB, decide_eq_true_eq]; exact h1
       have HB := Lib.hid hb; clear hb hv
       go_wp2_with (go_at_call 42; refine (digIn_is9 _ _ HB.out).mono ?_; rintro e w6 ⟨rfl, rfl⟩)
       go_roundw
       case rel => exact ⟨k + 1, by omega, by go_num, by first | rfl | trivial⟩
       case measure => simp [intOf]; omega
     · obtain rfl : k = 7 := by omega
       rename World => w2
       clear hlt
       have z2 := b2.out.size
       have HL1 := Lib.hid ((HD.out.below b2.out).one (.cells #[] 3 (0, 0)))
       have p2' := heap_later p2 (below1 w2 (.cells #[] 3 (0, 0)))
       have y2 := heap_lt p2
       go_wp2_with (at_builtin; refine wpList_append_own _ rfl _ _ 32 rfl w2.heap.size 3 i0 (.int .i64 0) 1 8 Try.underlying32 hi hz0 hz1 hz2 rfl (by decide) _ _ _ rfl (World.ownsRow_made w2 #[] 0 (Nat.le_refl _) (Nat.zero_le _) rfl) ⟨lb, lo, none⟩ md dcap (D.map (Value.int .i64)) rfl (by rw [List.length_map, ← HMD.out]; omega) (ints_news HL1.out) (ints_one D) (by unfold maxLen; omega) (by omega) (by simp) ?_; intro v' w3 hown hgrow hnil; clear hnil; rw [Nat.zero_add, List.nil_append] at hown; obtain ⟨gD, cD, rfl, ho3⟩ := own_of_row (L := D) hown rfl HMD.out.symm m1; clear hown; have hg3 : (w2.alloc (.cells #[] 3 (0, 0))).grownBy w3 (some w2.heap.size) := hgrow; clear hgrow; have b3 := Lib.hid (below_grown (below_seq b2.out (below1 _ _)) hg3 (Nat.le_refl _) (fun k e => by cases e; exact z2)); have p3 := heap_grown p2' hg3 (by simp; omega); clear hg3)
       have HO3 : Hid (OwnsI w3 (w.heap.size + 1) (.slice (some ⟨gD, 0, none⟩) md cD) (relL xs D L 0)) := ho3.lower (by omega)
       clear ho3 p2 p2' HL1
       go_loopw [9] (fun i wr => ∃ k : Nat, k ≤ md ∧ i = .int .i64 k ∧ OwnsI wr (w.heap.size + 1) (.slice (some ⟨gD, 0, none⟩) md cD) (relL xs D L k) ∧ wr.heap[w.heap.size]? = some (.cells #[.int .i64 W, .int .i64 T, .slice a md cap] 35 (0, 0)) ∧ Below w.heap.size w wr) (fun i _ => md - (intOf i).toNat)
       case atStart => exact ⟨0, Nat.zero_le _, rfl, HO3.out, p3, b3.out⟩
       case round =>
        clear HO3 p3 b3
        rename World => wr
        obtain ⟨k, hk, rfl, ho, pr, hbel⟩ := hrel
        have HO := Lib.hid ho; clear ho
        have BEL := Lib.hid hbel; clear hbel
        have lq : w.heap.size ≤ wr.heap.size := BEL.out.size
        obtain ⟨c0, c1, c2⟩ := cells3 pr
        have l1 := heap_lt pr
        by_cases hlt : k < md
        · have e1 : (k : Int) < md := by omega
          have e0 : (0 : Int) ≤ k := by omega
          have hat := HALL.out k hlt
          obtain ⟨d, hd⟩ : ∃ d, d = D.getD k 0 := ⟨_, rfl⟩
          have HK6 : Hid (k < (relL xs D L k).length) := by show _ < _; rw [relL_len, ← HMD.out]; exact hlt
          have x6 := HO.out.cell (k := k) HK6.out
          have f6 := HO.out.free k
          rw [relL_get (Nat.le_refl k), ← hd] at x6
          have hgO := HO.out.lt
          have hgb : gD ≠ w.heap.size := by omega
          obtain ⟨b, off, rfl, hx⟩ := (HA.out.below BEL.out) k (by rw [← HN.out]; exact hlt)
          cases hxk : xs.getD k false
          · rw [pzAt_out hxk, ← hd] at hat
            have hd1 : d = -1 := by simpa using hat
            rw [hxk] at hx
            have HNX := Lib.hid (relL_no (D := D) (M := L) hxk)
            have HXK := Lib.hid hxk; clear hxk hat hd
            subst hd1
            go_wp2
            go_roundw
            case rel => exact ⟨k + 1, by omega, by go_num, by rw [HNX.out]; exact HO.out, pr, BEL.out⟩
            case measure => simp [intOf]; omega
          · rw [pzAt_in hxk, ← hd] at hat
            obtain ⟨d0, d6⟩ := dig_bd hat
            rw [hxk] at hx
            have HNX := Lib.hid (relL_yes (D := D) (M := L) hxk)
            rw [← hd] at HNX
            have HXK := Lib.hid hxk; clear hxk hat hd
            obtain ⟨dn, rfl⟩ : ∃ dn : Nat, d = dn := ⟨d.toNat, by omega⟩
            have hnc := (HL.out.below BEL.out) dn (by rw [← HM.out]; omega)
            obtain ⟨lb, lo, rfl, hnc⟩ := hnc
            obtain ⟨v, hv⟩ : ∃ v, v = L.getD dn 0 := ⟨_, rfl⟩
            rw [Int.toNat_natCast, ← hv] at HNX
            rw [← hv] at hnc
            clear hv
            have ed : (dn : Int) < 7 := by omega
            have s1 := OwnsI.set HO.out k v
            have O8 := Lib.hid s1.1
            have p8 := heap_grown pr s1.2 (by simp; omega)
            have B8 := Lib.hid (below_grown BEL.out s1.2 (Nat.le_refl _) (fun k e => by cases e; omega))
            clear s1
            go_wp2
            go_roundw
            case rel => exact ⟨k + 1, by omega, by go_num, by rw [HNX.out]; exact O8.out, p8, B8.out⟩
            case measure => simp [intOf]; omega
        · obtain rfl : k = md := by omega
          have hln := relL_len xs D L k
          rw [← HMD.out] at hln
          have HLN := Lib.hid hln; clear hln
          go_wp2
          go_ret
          rw [HLN.out]
          exact ⟨some ⟨gD, 0, none⟩, _, rfl, HO.out.lower (Nat.le_succ _), BEL.out⟩

end Go.Proofs.Ythjocjiiihebbaa
