/- Contracts of FairOk and SolvedOk, both sides. No statement is proved here. -/
import Derived.Test.YthjocjiiihebbaaSortI
import Derived.Test.YthjocjiiihebbaaLayOne
namespace Go.Proofs.Ythjocjiiihebbaa
open Go.RowKit
set_option linter.unusedVariables false
set_option maxRecDepth 100000
set_option linter.unusedSimpArgs false

/-- Whether no two dominoes have the same pair. -/
def fairB (W T : Int) (xs : List Bool) (D L : List Int) : Bool := pzv W T xs D && lok W T xs L && onceB (pairsF W T xs D L)

set_option maxHeartbeats 2000000 in
theorem iFairOk_any (W T : Int) (a : Option Addr) (n cap : Nat) (xs : List Bool) (da : Option Addr) (md dcap : Nat) (D : List Int) (la : Option Addr) (m lcap : Nat) (L : List Int) (w : World) (hn : n = xs.length) (hn' : n ≤ 1048576) (hd : md = D.length) (hd' : md ≤ 1048576) (hm : m = L.length) (hm' : m ≤ 1048576) (ha : BoolsAt w a xs) (hld : IntsAt w da D) (hl : IntsAt w la L) :
    Calls Try.prog 30 #[.agg #[.int .i64 W, .int .i64 T, .slice a n cap], .slice da md dcap, .slice la m lcap] w fun e w' => e = .returned (.bool (fairB W T xs D L)) ∧ Below w.heap.size w w' := by
  have HN := Lib.hid hn; clear hn
  have HM := Lib.hid hm; clear hm
  have HMD := Lib.hid hd; clear hd
  have HA := Lib.hid ha; clear ha
  have HL := Lib.hid hl; clear hl
  have HD := Lib.hid hld; clear hld
  cases hp : pzv W T xs D
  · have e : fairB W T xs D L = false := by unfold fairB; rw [hp]; rfl
    rw [e]
    have HP := Lib.hid hp; clear hp e
    go_enter Try.func30, Try.ntmps30
    go_wp2_with fail
    refine (iPuzzleValid_any _ _ _ _ _ xs _ _ _ D _ HN.out hn' HMD.out hd' (HA.out.one _) (HD.out.one _)).mono ?_; rintro e w1 ⟨rfl, hb1⟩
    rw [HP.out]
    go_wp2
    go_ret
    exact ⟨rfl, below_seq (below1 _ _) hb1⟩
  cases hk : lok W T xs L
  · have e : fairB W T xs D L = false := by unfold fairB; rw [hk, Bool.and_false]; rfl
    rw [e]
    have HP := Lib.hid hp; clear hp e
    have HK := Lib.hid hk; clear hk
    go_enter Try.func30, Try.ntmps30
    go_wp2_with fail
    refine (iPuzzleValid_any _ _ _ _ _ xs _ _ _ D _ HN.out hn' HMD.out hd' (HA.out.one _) (HD.out.one _)).mono ?_; rintro e w1 ⟨rfl, hb1⟩
    rw [HP.out]
    have p1 := heap_later (heap_new w (.cells #[.int .i64 W, .int .i64 T, .slice a n cap] 35)) hb1
    have b1 := below_seq (below1 w _) hb1
    obtain ⟨c0, c1, c2⟩ := cells3 p1
    go_wp2_with fail
    refine (iLaidOk_any _ _ _ _ _ xs _ _ _ L _ HN.out hn' HM.out hm' (HA.out.below b1) (HL.out.below b1)).mono ?_; rintro e w2 ⟨rfl, hb2⟩
    rw [HK.out]
    go_wp2
    go_ret
    exact ⟨rfl, below_seq b1 hb2⟩
  · have e : fairB W T xs D L = onceB (pairsF W T xs D L) := by unfold fairB; rw [hk, hp]; rfl
    rw [e]
    have HP := Lib.hid hp; clear hp e
    have HK := Lib.hid hk; clear hk
    have hple := pairsF_le W T xs D L
    rw [← HM.out] at hple
    obtain ⟨P, hPP⟩ : ∃ P, P = pairsF W T xs D L := ⟨_, rfl⟩
    rw [← hPP] at hple ⊢
    have HPP := Lib.hid hPP; clear hPP
    go_enter Try.func30, Try.ntmps30
    go_wp2_with fail
    refine (iPuzzleValid_any _ _ _ _ _ xs _ _ _ D _ HN.out hn' HMD.out hd' (HA.out.one _) (HD.out.one _)).mono ?_; rintro e w1 ⟨rfl, hb1⟩
    rw [HP.out]
    have p1 := heap_later (heap_new w (.cells #[.int .i64 W, .int .i64 T, .slice a n cap] 35)) hb1
    have b1 := below_seq (below1 w _) hb1
    obtain ⟨c0, c1, c2⟩ := cells3 p1
    go_wp2_with fail
    refine (iLaidOk_any _ _ _ _ _ xs _ _ _ L _ HN.out hn' HM.out hm' (HA.out.below b1) (HL.out.below b1)).mono ?_; rintro e w2 ⟨rfl, hb2⟩
    rw [HK.out]
    have p2 := heap_later p1 hb2
    have b2 := below_seq b1 hb2
    clear c0 c1 c2 hb1 hb2 p1 b1
    obtain ⟨c0, c1, c2⟩ := cells3 p2
    go_wp2_with fail
    refine (iPairsOf_ret _ _ _ _ _ xs _ _ _ D _ _ _ L _ HN.out hn' HMD.out hd' HM.out hm' (HA.out.below b2) (HD.out.below b2) (HL.out.below b2)).mono ?_; rintro e w3 ⟨a3, c3, rfl, ho3, hb3⟩
    rw [← HPP.out] at ho3 ⊢
    have b3 := below_seq b2 hb3
    have y2 := b2.size
    clear hb3 p2 b2 c0 c1 c2
    rcases ho3.forms with ⟨e3, hnil⟩ | ⟨g3, cap3, e3, hg3, hg4⟩
    · simp only [Value.slice.injEq] at e3
      obtain ⟨rfl, _, rfl⟩ := e3
      have e9 : P = [] := hnil
      subst e9
      have H1 : Hid (onceB ([] : List Int) = true) := by show _ = _; decide
      go_wp2_with (first
        | (go_at_call 60; refine (Any.slices_Sort_int_none lays189 _ _ _).mono ?_; rintro e w4 ⟨rfl, rfl⟩)
        | (go_at_call 61; refine (Any.slices_Compact_int_empty lays20 _ _ _).mono ?_; rintro e w5 ⟨rfl, rfl⟩))
      go_ret
      exact ⟨ret_bool (by rw [H1.out]), b3⟩
    · simp only [Value.slice.injEq] at e3
      obtain ⟨rfl, _, rfl⟩ := e3
      have O3 := Lib.hid ho3
      have B3 := Lib.hid b3
      clear ho3 b3
      have hlm : Hid ((P.mergeSort fun x y => decide (x ≤ y)).length = P.length) := List.length_mergeSort P
      have HSC := Lib.hid (sort_compact P)
      obtain ⟨S, hS⟩ : ∃ S, S = P.mergeSort fun x y => decide (x ≤ y) := ⟨_, rfl⟩
      have HSORT : Hid (∀ w0, OwnsI w0 w2.heap.size (.slice (some ⟨g3, 0, none⟩) P.length c3) P → Calls Try.prog 60 #[.slice (some ⟨g3, 0, none⟩) P.length c3] w0 fun e w' => e = .returned (.tuple #[]) ∧ OwnsI w' w2.heap.size (.slice (some ⟨g3, 0, none⟩) P.length c3) S ∧ w0.grownBy w' (some g3)) := by
        show ∀ w0, _
        intro w0 h0
        rw [hS]
        exact sort_own g3 c3 w2.heap.size P w0 (by omega) h0
      rw [← hS] at hlm HSC
      have HCOMP : Hid (∀ w0, OwnsI w0 w2.heap.size (.slice (some ⟨g3, 0, none⟩) P.length c3) S → Calls Try.prog 61 #[.slice (some ⟨g3, 0, none⟩) P.length c3] w0 fun e w' => e = .returned (.slice (some ⟨g3, 0, none⟩) (Go.Lib.compact S).length c3) ∧ w0.grownBy w' (some g3)) := by
        show ∀ w0, _
        intro w0 h0
        have h2 := hlm.out
        rw [← h2] at h0 ⊢
        exact compact_own g3 c3 w2.heap.size S w0 (by omega) h0
      clear hS
      obtain ⟨q, hq⟩ : ∃ q, q = P.length := ⟨_, rfl⟩
      rw [← hq] at O3 HSORT HCOMP HSC hple ⊢
      have HQ := Lib.hid hq; clear hq
      go_wp2_with fail
      refine (HSORT.out _ O3.out).mono ?_; rintro e w4 ⟨rfl, ho4, hg4'⟩
      have B4 := Lib.hid (below_grown B3.out hg4' (Nat.le_refl _) (fun k e => by cases e; omega))
      have O4 := Lib.hid ho4
      clear ho4 hg4'
      go_wp2_with fail
      refine (HCOMP.out _ O4.out).mono ?_; rintro e w5 ⟨rfl, hg5⟩
      have B5 := Lib.hid (below_grown B4.out hg5 (Nat.le_refl _) (fun k e => by cases e; omega))
      clear hg5
      obtain ⟨cl, hcl⟩ : ∃ cl, cl = (Go.Lib.compact S).length := ⟨_, rfl⟩
      rw [← hcl] at HSC ⊢
      clear hcl
      have hcq : ((cl : Int) == (q : Int)) = onceB P := by
        rw [← HSC.out]
        apply Bool.eq_iff_iff.2
        simp only [beq_iff_eq]
        omega
      cases ho : onceB P
      all_goals
        rw [ho] at hcq
        go_wp2
        go_ret
        exact ⟨ret_bool ho.symm, B5.out⟩

set_option maxHeartbeats 2000000 in
theorem sFairOk_any (W T : Int) (a : Option Addr) (n cap : Nat) (xs : List Bool) (da : Option Addr) (md dcap : Nat) (D : List Int) (la : Option Addr) (m lcap : Nat) (L : List Int) (w : World) (hn : n = xs.length) (hn' : n ≤ 1048576) (hd : md = D.length) (hd' : md ≤ 1048576) (hm : m = L.length) (hm' : m ≤ 1048576) (ha : BoolsAt w a xs) (hld : IntsAt w da D) (hl : IntsAt w la L) :
    Calls Try.prog 29 #[.agg #[.int .i64 W, .int .i64 T, .slice a n cap], .slice da md dcap, .slice la m lcap] w fun e w' => e = .returned (.bool (fairB W T xs D L)) ∧ Below w.heap.size w w' := by
  have HN := Lib.hid hn; clear hn
  have HM := Lib.hid hm; clear hm
  have HMD := Lib.hid hd; clear hd
  have HA := Lib.hid ha; clear ha
  have HL := Lib.hid hl; clear hl
  have HD := Lib.hid hld; clear hld
  cases hp : pzv W T xs D
  · have e : fairB W T xs D L = false := by unfold fairB; rw [hp]; rfl
    rw [e]
    have HP := Lib.hid hp; clear hp e
    go_enter Try.func29, Try.ntmps29
    go_wp2_with fail
    refine (sPuzzleValid_any _ _ _ _ _ xs _ _ _ D _ HN.out hn' HMD.out hd' (HA.out.one _) (HD.out.one _)).mono ?_; rintro e w1 ⟨rfl, hb1⟩
    rw [HP.out]
    go_wp2
    go_ret
    exact ⟨rfl, below_seq (below1 _ _) hb1⟩
  cases hk : lok W T xs L
  · have e : fairB W T xs D L = false := by unfold fairB; rw [hk, Bool.and_false]; rfl
    rw [e]
    have HP := Lib.hid hp; clear hp e
    have HK := Lib.hid hk; clear hk
    go_enter Try.func29, Try.ntmps29
    go_wp2_with fail
    refine (sPuzzleValid_any _ _ _ _ _ xs _ _ _ D _ HN.out hn' HMD.out hd' (HA.out.one _) (HD.out.one _)).mono ?_; rintro e w1 ⟨rfl, hb1⟩
    rw [HP.out]
    have p1 := heap_later (heap_new w (.cells #[.int .i64 W, .int .i64 T, .slice a n cap] 35)) hb1
    have b1 := below_seq (below1 w _) hb1
    obtain ⟨c0, c1, c2⟩ := cells3 p1
    go_wp2_with fail
    refine (sLaidOk_any _ _ _ _ _ xs _ _ _ L _ HN.out hn' HM.out hm' (HA.out.below b1) (HL.out.below b1)).mono ?_; rintro e w2 ⟨rfl, hb2⟩
    rw [HK.out]
    go_wp2
    go_ret
    exact ⟨rfl, below_seq b1 hb2⟩
  · have e : fairB W T xs D L = onceB (pairsF W T xs D L) := by unfold fairB; rw [hk, hp]; rfl
    rw [e]
    have HP := Lib.hid hp; clear hp e
    have HK := Lib.hid hk; clear hk
    have hple := pairsF_le W T xs D L
    rw [← HM.out] at hple
    obtain ⟨P, hPP⟩ : ∃ P, P = pairsF W T xs D L := ⟨_, rfl⟩
    rw [← hPP] at hple ⊢
    have HPP := Lib.hid hPP; clear hPP
    go_enter Try.func29, Try.ntmps29
    go_wp2_with fail
    refine (sPuzzleValid_any _ _ _ _ _ xs _ _ _ D _ HN.out hn' HMD.out hd' (HA.out.one _) (HD.out.one _)).mono ?_; rintro e w1 ⟨rfl, hb1⟩
    rw [HP.out]
    have p1 := heap_later (heap_new w (.cells #[.int .i64 W, .int .i64 T, .slice a n cap] 35)) hb1
    have b1 := below_seq (below1 w _) hb1
    obtain ⟨c0, c1, c2⟩ := cells3 p1
    go_wp2_with fail
    refine (sLaidOk_any _ _ _ _ _ xs _ _ _ L _ HN.out hn' HM.out hm' (HA.out.below b1) (HL.out.below b1)).mono ?_; rintro e w2 ⟨rfl, hb2⟩
    rw [HK.out]
    have p2 := heap_later p1 hb2
    have b2 := below_seq b1 hb2
    clear c0 c1 c2 hb1 hb2 p1 b1
    obtain ⟨c0, c1, c2⟩ := cells3 p2
    go_wp2_with fail
    refine (sPairsOf_ret _ _ _ _ _ xs _ _ _ D _ _ _ L _ HN.out hn' HMD.out hd' HM.out hm' (HA.out.below b2) (HD.out.below b2) (HL.out.below b2)).mono ?_; rintro e w3 ⟨a3, c3, rfl, ho3, hb3⟩
    rw [← HPP.out] at ho3 ⊢
    have b3 := below_seq b2 hb3
    have hcap : P.length ≤ c3 := by
      rcases ho3.2 with ⟨e, e2⟩ | ⟨g', cap', cur, e, _, _, q1, _⟩
      · rw [e2]; exact Nat.zero_le _
      · simp only [Value.slice.injEq] at e; rw [e.2.2]; exact q1
    have I3 := OwnsI.at ho3
    clear hb3 p2 b2 c0 c1 c2
    go_wp2_with fail
    refine (l9Once_any _ _ _ P _ rfl (by omega) hcap I3).mono ?_; rintro e w4 ⟨rfl, hb4⟩
    go_wp2
    go_ret
    exact ⟨rfl, below_seq b3 hb4⟩

/-- Whether a list solves a puzzle. -/
def solvedB (W T : Int) (xs : List Bool) (D L : List Int) : Bool := fairB W T xs D L && tok W T xs L

set_option maxHeartbeats 1000000 in
theorem iSolvedOk_any (W T : Int) (a : Option Addr) (n cap : Nat) (xs : List Bool) (da : Option Addr) (md dcap : Nat) (D : List Int) (la : Option Addr) (m lcap : Nat) (L : List Int) (w : World) (hn : n = xs.length) (hn' : n ≤ 1048576) (hd : md = D.length) (hd' : md ≤ 1048576) (hm : m = L.length) (hm' : m ≤ 1048576) (ha : BoolsAt w a xs) (hld : IntsAt w da D) (hl : IntsAt w la L) :
    Calls Try.prog 32 #[.agg #[.int .i64 W, .int .i64 T, .slice a n cap], .slice da md dcap, .slice la m lcap] w fun e w' => e = .returned (.bool (solvedB W T xs D L)) ∧ Below w.heap.size w w' := by
  have HN := Lib.hid hn; clear hn
  have HM := Lib.hid hm; clear hm
  have HMD := Lib.hid hd; clear hd
  have HA := Lib.hid ha; clear ha
  have HL := Lib.hid hl; clear hl
  have HD := Lib.hid hld; clear hld
  cases hp : fairB W T xs D L
  · have e : solvedB W T xs D L = false := by unfold solvedB; rw [hp]; rfl
    rw [e]
    have HP := Lib.hid hp; clear hp e
    go_enter Try.func32, Try.ntmps32
    go_wp2_with fail
    refine (iFairOk_any _ _ _ _ _ xs _ _ _ D _ _ _ L _ HN.out hn' HMD.out hd' HM.out hm' (HA.out.one _) (HD.out.one _) (HL.out.one _)).mono ?_; rintro e w1 ⟨rfl, hb1⟩
    rw [HP.out]
    go_wp2
    go_ret
    exact ⟨rfl, below_seq (below1 _ _) hb1⟩
  · have e : solvedB W T xs D L = tok W T xs L := by unfold solvedB; rw [hp]; rfl
    rw [e]
    have HP := Lib.hid hp; clear hp e
    obtain ⟨v, hv⟩ : ∃ v, v = tok W T xs L := ⟨_, rfl⟩
    rw [← hv]
    have HV := Lib.hid hv; clear hv
    go_enter Try.func32, Try.ntmps32
    go_wp2_with fail
    refine (iFairOk_any _ _ _ _ _ xs _ _ _ D _ _ _ L _ HN.out hn' HMD.out hd' HM.out hm' (HA.out.one _) (HD.out.one _) (HL.out.one _)).mono ?_; rintro e w1 ⟨rfl, hb1⟩
    rw [HP.out]
    have p1 := heap_later (heap_new w (.cells #[.int .i64 W, .int .i64 T, .slice a n cap] 35)) hb1
    have b1 := below_seq (below1 w _) hb1
    obtain ⟨c0, c1, c2⟩ := cells3 p1
    go_wp2_with fail
    refine (iTilingOk_any _ _ _ _ _ xs _ _ _ L _ HN.out hn' HM.out hm' (HA.out.below b1) (HL.out.below b1)).mono ?_; rintro e w2 ⟨rfl, hb2⟩
    rw [← HV.out]
    go_wp2
    go_ret
    exact ⟨rfl, below_seq b1 hb2⟩

set_option maxHeartbeats 1000000 in
theorem sSolvedOk_any (W T : Int) (a : Option Addr) (n cap : Nat) (xs : List Bool) (da : Option Addr) (md dcap : Nat) (D : List Int) (la : Option Addr) (m lcap : Nat) (L : List Int) (w : World) (hn : n = xs.length) (hn' : n ≤ 1048576) (hd : md = D.length) (hd' : md ≤ 1048576) (hm : m = L.length) (hm' : m ≤ 1048576) (ha : BoolsAt w a xs) (hld : IntsAt w da D) (hl : IntsAt w la L) :
    Calls Try.prog 31 #[.agg #[.int .i64 W, .int .i64 T, .slice a n cap], .slice da md dcap, .slice la m lcap] w fun e w' => e = .returned (.bool (solvedB W T xs D L)) ∧ Below w.heap.size w w' := by
  have HN := Lib.hid hn; clear hn
  have HM := Lib.hid hm; clear hm
  have HMD := Lib.hid hd; clear hd
  have HA := Lib.hid ha; clear ha
  have HL := Lib.hid hl; clear hl
  have HD := Lib.hid hld; clear hld
  cases hp : tok W T xs L
  · have e : solvedB W T xs D L = false := by unfold solvedB; rw [hp]; exact Bool.and_false _
    rw [e]
    have HP := Lib.hid hp; clear hp e
    go_enter Try.func31, Try.ntmps31
    go_wp2_with fail
    refine (sTilingOk_any _ _ _ _ _ xs _ _ _ L _ HN.out hn' HM.out hm' (HA.out.one _) (HL.out.one _)).mono ?_; rintro e w1 ⟨rfl, hb1⟩
    rw [HP.out]
    go_wp2
    go_ret
    exact ⟨rfl, below_seq (below1 _ _) hb1⟩
  · have e : solvedB W T xs D L = fairB W T xs D L := by unfold solvedB; rw [hp]; exact Bool.and_true _
    rw [e]
    have HP := Lib.hid hp; clear hp e
    obtain ⟨v, hv⟩ : ∃ v, v = fairB W T xs D L := ⟨_, rfl⟩
    rw [← hv]
    have HV := Lib.hid hv; clear hv
    go_enter Try.func31, Try.ntmps31
    go_wp2_with fail
    refine (sTilingOk_any _ _ _ _ _ xs _ _ _ L _ HN.out hn' HM.out hm' (HA.out.one _) (HL.out.one _)).mono ?_; rintro e w1 ⟨rfl, hb1⟩
    rw [HP.out]
    have p1 := heap_later (heap_new w (.cells #[.int .i64 W, .int .i64 T, .slice a n cap] 35)) hb1
    have b1 := below_seq (below1 w _) hb1
    obtain ⟨c0, c1, c2⟩ := cells3 p1
    go_wp2_with fail
    refine (sFairOk_any _ _ _ _ _ xs _ _ _ D _ _ _ L _ HN.out hn' HMD.out hd' HM.out hm' (HA.out.below b1) (HD.out.below b1) (HL.out.below b1)).mono ?_; rintro e w2 ⟨rfl, hb2⟩
    rw [← HV.out]
    go_wp2
    go_ret
    exact ⟨rfl, below_seq b1 hb2⟩

end Go.Proofs.Ythjocjiiihebbaa
