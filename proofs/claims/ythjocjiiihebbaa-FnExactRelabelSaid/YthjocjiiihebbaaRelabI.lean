/- The contract of impl.Relabel. No statement is proved here. -/
import Derived.Test.YthjocjiiihebbaaRelab
namespace Go.Proofs.Ythjocjiiihebbaa
open Go.RowKit
set_option linter.unusedVariables false
set_option maxRecDepth 100000
set_option linter.unusedSimpArgs false

set_option maxHeartbeats 4000000 in
theorem iRelabel_ret (W T : Int) (a : Option Addr) (n cap : Nat) (xs : List Bool) (da : Option Addr) (md dcap : Nat) (D : List Int) (la : Option Addr) (m lcap : Nat) (L : List Int) (w : World) (hn : n = xs.length) (hn' : n ≤ 1048576) (hd : md = D.length) (hd' : md ≤ 1048576) (hm : m = L.length) (hm' : m ≤ 1048576) (hlc : m ≤ lcap) (ha : BoolsAt w a xs) (hld : IntsAt w da D) (hl : IntsAt w la L) :
    Calls Try.prog 39 #[.agg #[.int .i64 W, .int .i64 T, .slice a n cap], .slice da md dcap, .slice la m lcap] w (RetL w (relF W T xs D L).length (relF W T xs D L)) := by
  have HN := Lib.hid hn; clear hn
  have HM := Lib.hid hm; clear hm
  have HMD := Lib.hid hd; clear hd
  have HA := Lib.hid ha; clear ha
  have HL := Lib.hid hl; clear hl
  have HD := Lib.hid hld; clear hld
  cases hp : pzv W T xs D
  · have e : relF W T xs D L = [] := by unfold relF; rw [hp]; rfl
    rw [e]
    have HP := Lib.hid hp; clear hp e
    go_enter Try.func39, Try.ntmps39
    go_wp2_with fail
    refine (iPuzzleValid_any _ _ _ _ _ xs _ _ _ D _ HN.out hn' HMD.out hd' (HA.out.one _) (HD.out.one _)).mono ?_; rintro e w1 ⟨rfl, hb1⟩
    rw [HP.out]
    go_wp2
    go_ret
    exact ⟨none, 0, rfl, OwnsI.nil _ _, below_seq (below1 _ _) hb1⟩
  cases hk : namesB L
  · have e : relF W T xs D L = [] := by unfold relF; rw [hk, Bool.and_false]; rfl
    rw [e]
    have HP := Lib.hid hp; clear hp e
    have HK := Lib.hid hk; clear hk
    go_enter Try.func39, Try.ntmps39
    go_wp2_with fail
    refine (iPuzzleValid_any _ _ _ _ _ xs _ _ _ D _ HN.out hn' HMD.out hd' (HA.out.one _) (HD.out.one _)).mono ?_; rintro e w1 ⟨rfl, hb1⟩
    rw [HP.out]
    have p1 := heap_later (heap_new w (.cells #[.int .i64 W, .int .i64 T, .slice a n cap] 35)) hb1
    have b1 := below_seq (below1 w _) hb1
    have z1 := b1.size
    have y1 := heap_lt p1
    go_wp2_with fail
    refine (namesOk_any _ _ _ L _ HM.out hm' (HL.out.below b1)).mono ?_; rintro e w2 ⟨rfl, rfl⟩
    rw [HK.out]
    go_wp2
    go_ret
    exact ⟨none, 0, rfl, OwnsI.nil _ _, b1⟩
  · have hnm := (names_iff L).1 hk
    obtain ⟨hlen7, hnd, hrng⟩ := hnm
    obtain ⟨hr, hlenD, hall⟩ := pzv_rv hp
    have e : relF W T xs D L = relL xs D L md := by unfold relF; rw [hk, hp, HMD.out]; rfl
    rw [e]
    have hmd : md = n := by rw [HMD.out, HN.out]; exact hlenD
    subst hmd
    have hm7 : m = 7 := by rw [HM.out]; exact hlen7
    subst hm7
    obtain ⟨hW0, hW1, hT0, hT1, v5, _⟩ := rv_true hr
    have m1 : 1 ≤ md := by
      have h1 : 1 * 1 ≤ W * T := Int.mul_le_mul hW0 hT0 (by omega) (by omega)
      have := HN.out; omega
    have HALL : Hid (∀ k, k < md → pzAt xs D k = true) := by show ∀ k, _; intro k hk; exact hall k (by rw [← HMD.out]; exact hk)
    have HP := Lib.hid hp; clear hp e hall v5
    have HK := Lib.hid hk
    have HND := Lib.hid hnd
    have HRNG := Lib.hid hrng
    clear hk hnd hrng
    go_enter Try.func39, Try.ntmps39
    go_wp2_with fail
    refine (iPuzzleValid_any _ _ _ _ _ xs _ _ _ D _ HN.out hn' HMD.out hd' (HA.out.one _) (HD.out.one _)).mono ?_; rintro e w1 ⟨rfl, hb1⟩
    rw [HP.out]
    have p1 := heap_later (heap_new w (.cells #[.int .i64 W, .int .i64 T, .slice a md cap] 35)) hb1
    have b1 := below_seq (below1 w _) hb1
    have z1 := b1.size
    have y1 := heap_lt p1
    go_wp2_with fail
    refine (namesOk_any _ _ _ L _ HM.out hm' (HL.out.below b1)).mono ?_; rintro e w2 ⟨rfl, rfl⟩
    rw [HK.out]
    go_wp2_with fail
    refine (clone_own _ _ _ D _ HMD.out m1 hd' (HD.out.below b1)).mono ?_; rintro e w3 ⟨gD, cD, rfl, ho3, hb3⟩
    have p3 := heap_later p1 hb3
    have b3 := Lib.hid (below_seq b1 hb3)
    have HO3 : Hid (OwnsI w3 (w.heap.size + 1) (.slice (some ⟨gD, 0, none⟩) md cD) (relL xs D L 0)) := ho3.lower (by omega)
    clear ho3 hb3 p1 hb1 b1
    go_wp2
    go_loopw [8, 9, 23] (fun _ _ i wr => ∃ k : Nat, k ≤ md ∧ i = .int .i64 k ∧ OwnsI wr (w.heap.size + 1) (.slice (some ⟨gD, 0, none⟩) md cD) (relL xs D L k) ∧ wr.heap[w.heap.size]? = some (.cells #[.int .i64 W, .int .i64 T, .slice a md cap] 35 (0, 0)) ∧ Below w.heap.size w wr) (fun _ _ i _ => md - (intOf i).toNat)
    case atStart => exact ⟨0, Nat.zero_le _, rfl, HO3.out, p3, b3.out⟩
    case round =>
      clear HO3 p3 b3
      rename World => wr
      obtain ⟨k, hk, rfl, ho, pr, hbel⟩ := hrel
      have HO := Lib.hid ho; clear ho
      have BEL := Lib.hid hbel; clear hbel
      have lq : w.heap.size ≤ wr.heap.size := BEL.out.size
      obtain ⟨c0, c1, c2⟩ := cells3 pr
      have l1 := heap_lt pr
      by_cases hlt : k < md
      · have e1 : (k : Int) < md := by omega
        have e0 : (0 : Int) ≤ k := by omega
        have hat := HALL.out k hlt
        obtain ⟨d, hd⟩ : ∃ d, d = D.getD k 0 := ⟨_, rfl⟩
        have HK6 : Hid (k < (relL xs D L k).length) := by show _ < _; rw [relL_len, ← HMD.out]; exact hlt
        have x6 := HO.out.cell (k := k) HK6.out
        have f6 := HO.out.free k
        rw [relL_get (Nat.le_refl k), ← hd] at x6
        have hgO := HO.out.lt
        have hgb : gD ≠ w.heap.size := by omega
        obtain ⟨b, off, rfl, hx⟩ := (HA.out.below BEL.out) k (by rw [← HN.out]; exact hlt)
        obtain ⟨db, dof, rfl, hdc⟩ := (HD.out.below BEL.out) k (by rw [← HMD.out]; exact hlt)
        rw [← hd] at hdc
        cases hxk : xs.getD k false
        · rw [pzAt_out hxk, ← hd] at hat
          have hd1 : d = -1 := by simpa using hat
          rw [hxk] at hx
          have HNX := Lib.hid (relL_no (D := D) (M := L) hxk)
          have HXK := Lib.hid hxk; clear hxk hat hd
          subst hd1
          go_wp2
          go_roundw
          case rel => exact ⟨k + 1, by omega, by go_num, by rw [HNX.out]; exact HO.out, pr, BEL.out⟩
          case measure => simp [intOf]; omega
        · rw [pzAt_in hxk, ← hd] at hat
          obtain ⟨d0, d6⟩ := dig_bd hat
          rw [hxk] at hx
          have HNX := Lib.hid (relL_yes (D := D) (M := L) hxk)
          rw [← hd] at HNX
          have HXK := Lib.hid hxk; clear hxk hat hd
          obtain ⟨dn, rfl⟩ : ∃ dn : Nat, d = dn := ⟨d.toNat, by omega⟩
          have hnc := (HL.out.below BEL.out) dn (by rw [← HM.out]; omega)
          obtain ⟨lb, lo, rfl, hnc⟩ := hnc
          obtain ⟨v, hv⟩ : ∃ v, v = L.getD dn 0 := ⟨_, rfl⟩
          rw [Int.toNat_natCast, ← hv] at HNX
          rw [← hv] at hnc
          clear hv
          have ed : (dn : Int) < 7 := by omega
          have s1 := OwnsI.set HO.out k v
          have O8 := Lib.hid s1.1
          have p8 := heap_grown pr s1.2 (by simp; omega)
          have B8 := Lib.hid (below_grown BEL.out s1.2 (Nat.le_refl _) (fun k e => by cases e; omega))
          clear s1
          go_wp2
          go_roundw
          case rel => exact ⟨k + 1, by omega, by go_num, by rw [HNX.out]; exact O8.out, p8, B8.out⟩
          case measure => simp [intOf]; omega
      · obtain rfl : k = md := by omega
        have hln := relL_len xs D L k
        rw [← HMD.out] at hln
        have HLN := Lib.hid hln; clear hln
        go_wp2
        go_ret
        rw [HLN.out]
        exact ⟨some ⟨gD, 0, none⟩, _, rfl, HO.out.lower (Nat.le_succ _), BEL.out⟩

end Go.Proofs.Ythjocjiiihebbaa
