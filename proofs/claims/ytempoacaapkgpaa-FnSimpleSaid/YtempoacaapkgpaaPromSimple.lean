/- The law FnSimple: its walk. -/
import Derived.Test.YtempoacaapkgpaaProm
import Derived.Test.YtempoacaapkgpaaLaid20
import Derived.Test.YtempoacaapkgpaaSimpleP
import Derived.Test.YtempoacaapkgpaaSimple
import Derived.Test.YtempoacaapkgpaaHolesN
import Derived.Test.YtempoacaapkgpaaPartsN
import Derived.Test.YtempoacaapkgpaaTurnRet
namespace Go.Proofs.Ytempoacaapkgpaa
open Go.RowKit
set_option linter.unusedVariables false
set_option maxRecDepth 100000
set_option linter.unusedSimpArgs false
set_option maxHeartbeats 1000000 in
theorem drawSimple_any (cb : Option Addr) (n cap : Nat) (zs : List Int) (w : World) (hn : n = zs.length) (hn' : n ≤ 1048576) (hcap : n ≤ cap) (hb : BytesAt w cb zs) :
    Calls Try.prog 4 #[.slice cb n cap] w (DrawnX w) := by
  have HN := Lib.hid hn; clear hn
  have HB := Lib.hid hb; clear hb
  go_enter Try.func4, Try.ntmps4
  go_wp2_with fail
  refine (l20Open_any _ _ _ zs _ HN.out hn' hcap (HB.out.below (below1 _ _))).mono ?_; rintro e w1 ⟨rfl, r1, b1⟩
  have q1 := heap_later (heap_new w (.cells #[.int .i64 0, .int .i64 0, .slice none 0 0] 25)) b1
  have B1 := Lib.hid (below_seq (below1 w _) b1)
  have R1 : Hid (RD w1 (w.heap.size + 1) 0) := by show RD _ _ _; simpa using r1
  have l1 := heap_lt q1
  have l2 := R1.out.lt
  clear r1 b1
  go_wp2_with fail
  refine (l20Some_any (w.heap.size + 1) 0 6 _ (by omega) (by omega) (by omega) R1.out).mono ?_; rintro e w2 ⟨W, T, a, m, c, xs, rfl, hm, h36, hs, o2, r2, g2⟩
  have q2 := heap_grown q1 g2 (by simp)
  have B2 := Lib.hid (below_grown B1.out g2 (Nat.le_refl _) (fun k e => by cases e; omega))
  have O2 := Lib.hid o2
  have HM := Lib.hid hm
  clear o2 r2 g2 hm
  obtain ⟨d0, d1, d2⟩ := cells3 q2
  have f0 := free3 q2 0
  have f1 := free3 q2 1
  have f2 := free3 q2 2
  go_wp2
  refine bodyPost_ret (v := .agg #[.int .i64 W, .int .i64 T, .slice a m c]) (by simp [results, Try.results4, go_sem, d0, d1, d2]) rfl ⟨W, T, a, m, c, xs, rfl, HM.out, h36, hs, ?_, below_set3 B2.out (Nat.le_refl _) _ _ _⟩
  exact (O2.out.set3 (by omega) _ _ _).lower (by omega)

/-- A region is returned that is simple exactly if B. -/
def RetSimple (w : World) (B : Bool) (e : Ending) (w' : World) : Prop :=
  ∃ (W T : Int) (a : Option Addr) (n c : Nat) (ys : List Bool), e = .returned (.agg #[.int .i64 W, .int .i64 T, .slice a n c]) ∧ n = ys.length ∧ n ≤ 36 ∧ BoolsAt w' a ys ∧ simpleB W T ys = B ∧ Below w.heap.size w w'
theorem simple_zero : simpleB 0 0 [] = false := by
  cases h : simpleB 0 0 []
  · rfl
  · have := simpleB_rv h
    obtain ⟨v1, _⟩ := rv_true this
    omega
theorem simple_no {W T : Int} {xs : List Bool} (h : rv W T xs = false) : simpleB W T xs = false := by
  cases hs : simpleB W T xs
  · rfl
  · have := simpleB_rv hs; rw [h] at this; cases this
theorem turn_simple (W T : Int) (a : Option Addr) (n c : Nat) (xs : List Bool) (w : World) (hn : n = xs.length) (hn' : n ≤ 36) (ha : BoolsAt w a xs) : Calls Try.prog 7 #[.agg #[.int .i64 W, .int .i64 T, .slice a n c]] w (RetSimple w (simpleB W T xs)) := by
  cases h : rv W T xs
  · refine (iRegionTurn_no W T a n c xs w hn (by omega) ha h).mono ?_
    rintro e w' ⟨rfl, hb⟩
    exact ⟨0, 0, none, 0, 0, [], rfl, rfl, by omega, BoolsAt.empty _ _, by rw [simple_no h, simple_zero], hb⟩
  · obtain ⟨Wn, Tn, rfl, rfl, hl⟩ := rv_nat h
    refine (iRegionTurn_yes Wn Tn a n c xs w hn (by omega) ha h (hn.trans hl)).mono ?_
    rintro e w' ⟨g, rfl, ho, hb⟩
    exact ⟨Tn, Wn, _, n, n, _, rfl, by rw [turned_len, hn, hl], hn', OwnsB.at ho, simple_turned h, hb⟩
theorem flip_simple (W T : Int) (a : Option Addr) (n c : Nat) (xs : List Bool) (w : World) (hn : n = xs.length) (hn' : n ≤ 36) (ha : BoolsAt w a xs) : Calls Try.prog 8 #[.agg #[.int .i64 W, .int .i64 T, .slice a n c]] w (RetSimple w (simpleB W T xs)) := by
  cases h : rv W T xs
  · refine (iRegionFlip_no W T a n c xs w hn (by omega) ha h).mono ?_
    rintro e w' ⟨rfl, hb⟩
    exact ⟨0, 0, none, 0, 0, [], rfl, rfl, by omega, BoolsAt.empty _ _, by rw [simple_no h, simple_zero], hb⟩
  · obtain ⟨Wn, Tn, rfl, rfl, hl⟩ := rv_nat h
    refine (iRegionFlip_yes Wn Tn a n c xs w hn (by omega) ha h (hn.trans hl)).mono ?_
    rintro e w' ⟨g, rfl, ho, hb⟩
    exact ⟨Wn, Tn, _, n, n, _, rfl, by rw [flipped_len, hn, hl], hn', OwnsB.at ho, simple_flipped h, hb⟩

set_option maxHeartbeats 1000000 in
theorem promSimple_walk (cb : Option Addr) (n cap : Nat) (zs : List Int) (w : World) (hn : n = zs.length) (hn' : n ≤ maxLen) (hcap : n ≤ cap) (hb : BytesAt w cb zs) :
    Calls Try.prog 3 #[.slice cb n cap] w fun e w' => e = .returned (.bool true) ∧ Below w.heap.size w w' := by
  have HN := Lib.hid hn; clear hn
  have HB := Lib.hid hb; clear hb
  by_cases hbig : 1048576 < n
  · unfold maxLen at hn'
    go_enter Try.func3, Try.ntmps3
    go_wp2
    go_ret
    exact ⟨rfl, Below.refl _ _⟩
  have hsm : n ≤ 1048576 := by omega
  clear hbig hn'
  go_enter Try.func3, Try.ntmps3
  go_wp2_with fail
  refine (drawSimple_any _ _ _ zs _ HN.out hsm hcap HB.out).mono ?_; rintro e w1 ⟨W0, T0, a, m, c, xs, rfl, hm, h36, hs, ho, b1⟩
  have HM := Lib.hid hm; clear hm
  have AX := Lib.hid (OwnsB.at ho); clear ho
  obtain ⟨s0, s1, s2, s3⟩ := hs
  obtain ⟨B, hB⟩ : ∃ B, simpleB W0 T0 xs = B := ⟨_, rfl⟩
  have HT : Hid (∀ w, BoolsAt w a xs → Calls Try.prog 7 #[.agg #[.int .i64 W0, .int .i64 T0, .slice a m c]] w (RetSimple w B)) := fun w h => by rw [← hB]; exact turn_simple W0 T0 a m c xs w HM.out h36 h
  have HF : Hid (∀ w, BoolsAt w a xs → Calls Try.prog 8 #[.agg #[.int .i64 W0, .int .i64 T0, .slice a m c]] w (RetSimple w B)) := fun w h => by rw [← hB]; exact flip_simple W0 T0 a m c xs w HM.out h36 h
  have HPH : Hid (B = true → partsN W0 T0 xs = 1 ∧ holesN W0 T0 xs = 0) := fun h => simple_parts (hB.trans h)
  go_wp2_with fail
  refine (iSimple_any _ _ _ _ _ xs _ HM.out (by omega) (AX.out.one _)).mono ?_; rintro e w2 ⟨rfl, hb2⟩
  have b2 := below_seq (below_seq b1 (below1 _ _)) hb2
  have p2 := heap_later (heap_new w1 _) hb2
  have A2 := Lib.hid ((AX.out.one (.cells #[.int .i64 W0, .int .i64 T0, .slice a m c] 25)).below hb2)
  obtain ⟨c0, c1, c2⟩ := cells3 p2
  rw [hB]
  go_wp2_with fail
  refine (sSimple_any _ _ _ _ _ xs _ HM.out (by omega) A2.out).mono ?_; rintro e w3 ⟨rfl, hb3⟩
  rw [hB]
  have b3 := below_seq b2 hb3
  have p3 := heap_later p2 hb3
  have A3 := Lib.hid (A2.out.below hb3)
  clear c0 c1 c2 hB
  obtain ⟨c0, c1, c2⟩ := cells3 p3
  have hbb : (B == B) = true := by simp
  have hbn : (B != B) = false := by simp
  cases B
  all_goals
    clear hbb hbn
    go_wp2_with fail
    refine (HT.out _ A3.out).mono ?_; rintro e w4 ⟨Wt, Tt, at_, nt, ct, yt, rfl, hnt, h36t, hat, hst, hb4⟩
    have HNT := Lib.hid hnt
    have HST := Lib.hid hst
    have AT := Lib.hid hat
    clear hnt hst hat
    have b4 := below_seq b3 hb4
    have p4 := heap_later p3 hb4
    have A4 := Lib.hid (A3.out.below hb4)
    clear c0 c1 c2
    obtain ⟨c0, c1, c2⟩ := cells3 p4
    go_wp2_with fail
    refine (iSimple_any _ _ _ _ _ yt _ HNT.out (by omega) AT.out).mono ?_; rintro e w5 ⟨rfl, hb5⟩
    rw [HST.out]
    have b5 := below_seq b4 hb5
    have p5 := heap_later p4 hb5
    have A5 := Lib.hid (A4.out.below hb5)
    clear c0 c1 c2
    obtain ⟨c0, c1, c2⟩ := cells3 p5
    go_wp2_with fail
    refine (HF.out _ A5.out).mono ?_; rintro e w6 ⟨Wf, Tf, af, nf, cf, yf, rfl, hnf, h36f, haf, hsf, hb6⟩
    have HNF := Lib.hid hnf
    have HSF := Lib.hid hsf
    have AF := Lib.hid haf
    clear hnf hsf haf
    have b6 := below_seq b5 hb6
    have p6 := heap_later p5 hb6
    have A6 := Lib.hid (A5.out.below hb6)
    clear c0 c1 c2
    obtain ⟨c0, c1, c2⟩ := cells3 p6
    go_wp2_with fail
    refine (iSimple_any _ _ _ _ _ yf _ HNF.out (by omega) AF.out).mono ?_; rintro e w7 ⟨rfl, hb7⟩
    rw [HSF.out]
    have b7 := below_seq b6 hb7
    have p7 := heap_later p6 hb7
    have A7 := Lib.hid (A6.out.below hb7)
    clear c0 c1 c2
    obtain ⟨c0, c1, c2⟩ := cells3 p7
  · go_wp2_with fail
    refine (alive_any _).mono ?_; rintro e w8 ⟨rfl, hb8⟩
    go_wp2
    go_ret
    exact ⟨rfl, below_seq b7 hb8⟩
  · obtain ⟨hp1, hh0⟩ := HPH.out (by trivial)
    have HP1 := Lib.hid hp1
    have HH0 := Lib.hid hh0
    clear hp1 hh0
    go_wp2_with fail
    refine (iPartsMany_any _ _ _ _ _ xs _ HM.out (by omega) A7.out).mono ?_; rintro e w8 ⟨rfl, hb8⟩
    rw [HP1.out]
    have b8 := below_seq b7 hb8
    have p8 := heap_later p7 hb8
    have A8 := Lib.hid (A7.out.below hb8)
    clear c0 c1 c2
    obtain ⟨c0, c1, c2⟩ := cells3 p8
    go_wp2_with fail
    refine (iHolesMany_any _ _ _ _ _ xs _ HM.out (by omega) A8.out).mono ?_; rintro e w9 ⟨rfl, hb9⟩
    rw [HH0.out]
    have b9 := below_seq b8 hb9
    have p9 := heap_later p8 hb9
    have A9 := Lib.hid (A8.out.below hb9)
    clear c0 c1 c2
    obtain ⟨c0, c1, c2⟩ := cells3 p9
    go_wp2_with fail
    refine (alive_any _).mono ?_; rintro e w10 ⟨rfl, hb10⟩
    go_wp2
    go_ret
    exact ⟨rfl, below_seq b9 hb10⟩
end Go.Proofs.Ytempoacaapkgpaa
