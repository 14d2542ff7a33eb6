/- Contracts of both functions FlipRun. -/
import Derived.Test.YtjhonkhholehkaaFlipOne
namespace Go.Proofs.Ytjhonkhholehkaa
open Go.RowKit
set_option linter.unusedVariables false
set_option maxRecDepth 100000
set_option linter.unusedSimpArgs false

/-- A list and a number. -/
def RetLI (w : World) (n : Nat) (ys : List Int) (v : Int) (e : Ending) (w' : World) : Prop :=
  ∃ a cap, e = .returned (.tuple #[.slice a n cap, .int .i64 v]) ∧ OwnsI w' w.heap.size (.slice a n cap) ys ∧ Below w.heap.size w w'
theorem ret_slN {a : Option Addr} {n n' cap : Nat} {b b' : Int} (h : n = n') (hb : b = b') : Ending.returned (.tuple #[.slice a n cap, .int .i64 b]) = .returned (.tuple #[.slice a n' cap, .int .i64 b']) := by rw [h, hb]

/-- The list and the number of flips done behind the first k ones. -/
def runK (W T : Int) (L cs : List Int) : Nat → List Int × Int
  | 0 => (L, 0)
  | k + 1 => if mayB W T (runK W T L cs k).1 (cs.getD k 0) then (flipL W T (runK W T L cs k).1 (cs.getD k 0), (runK W T L cs k).2 + 1) else runK W T L cs k
theorem runK_yes {W T : Int} {L cs : List Int} {k : Nat} (h : mayB W T (runK W T L cs k).1 (cs.getD k 0) = true) : runK W T L cs (k + 1) = (flipL W T (runK W T L cs k).1 (cs.getD k 0), (runK W T L cs k).2 + 1) := by
  rw [runK, if_pos h]
theorem runK_no {W T : Int} {L cs : List Int} {k : Nat} (h : mayB W T (runK W T L cs k).1 (cs.getD k 0) = false) : runK W T L cs (k + 1) = runK W T L cs k := by
  rw [runK, if_neg (by rw [h]; exact Bool.false_ne_true)]
theorem runK_lok {W T : Int} {xs : List Bool} {L : List Int} (cs : List Int) (h : lok W T xs L = true) (k : Nat) : lok W T xs (runK W T L cs k).1 = true := by
  induction k with
  | zero => exact h
  | succ k ih =>
    cases hm : mayB W T (runK W T L cs k).1 (cs.getD k 0)
    · rw [runK_no hm]; exact ih
    · rw [runK_yes hm]; exact lok_flip ih _
theorem runK_len (W T : Int) (L cs : List Int) (k : Nat) : (runK W T L cs k).1.length = L.length := by
  induction k with
  | zero => rfl
  | succ k ih =>
    cases hm : mayB W T (runK W T L cs k).1 (cs.getD k 0)
    · rw [runK_no hm]; exact ih
    · rw [runK_yes hm]; show (flipL _ _ _ _).length = _; rw [flipL_len]; exact ih
theorem runK_bd (W T : Int) (L cs : List Int) (k : Nat) : 0 ≤ (runK W T L cs k).2 ∧ (runK W T L cs k).2 ≤ k := by
  induction k with
  | zero => exact ⟨Int.le_refl _, Int.le_refl _⟩
  | succ k ih =>
    cases hm : mayB W T (runK W T L cs k).1 (cs.getD k 0)
    · rw [runK_no hm]; omega
    · rw [runK_yes hm]; show 0 ≤ (runK W T L cs k).2 + 1 ∧ (runK W T L cs k).2 + 1 ≤ _; omega
def flipRunF (W T : Int) (xs : List Bool) (L cs : List Int) : List Int × Int :=
  if lok W T xs L = true ∧ cs.length ≤ 60 then runK W T L cs cs.length else ([], 0)
theorem flipRunF_len (W T : Int) (xs : List Bool) (L cs : List Int) : (flipRunF W T xs L cs).1.length ≤ L.length := by
  unfold flipRunF; split
  · rw [runK_len]; exact Nat.le_refl _
  · simp

set_option maxHeartbeats 2000000 in
theorem iFlipRun_ret (W T : Int) (a : Option Addr) (n cap : Nat) (xs : List Bool) (la : Option Addr) (m lcap : Nat) (L : List Int) (ca : Option Addr) (q ccap : Nat) (cs : List Int) (w : World) (hn : n = xs.length) (hn' : n ≤ 1048576) (hm : m = L.length) (hm' : m ≤ 1048576) (hq : q = cs.length) (hq' : q ≤ 1048576) (hc : ∀ i, i < cs.length → -9223372036854775808 ≤ cs.getD i 0 ∧ cs.getD i 0 ≤ 9223372036854775807) (ha : BoolsAt w a xs) (hl : IntsAt w la L) (hcs : IntsAt w ca cs) :
    Calls Try.prog 24 #[.agg #[.int .i64 W, .int .i64 T, .slice a n cap], .slice la m lcap, .slice ca q ccap] w (RetLI w (flipRunF W T xs L cs).1.length (flipRunF W T xs L cs).1 (flipRunF W T xs L cs).2) := by
  have HN := Lib.hid hn; clear hn
  have HM := Lib.hid hm; clear hm
  have HQ := Lib.hid hq; clear hq
  have HA := Lib.hid ha; clear ha
  have HL := Lib.hid hl; clear hl
  have HC := Lib.hid hc; clear hc
  have HCS := Lib.hid hcs; clear hcs
  cases h : lok W T xs L
  · have e : flipRunF W T xs L cs = ([], 0) := by unfold flipRunF; rw [h]; simp
    rw [e]
    have H := Lib.hid h; clear h e
    go_enter Try.func24, Try.ntmps24
    go_wp2_with fail
    refine (iLaidOk_any _ _ _ _ _ xs _ _ _ L _ HN.out hn' HM.out hm' (HA.out.one _) (HL.out.one _)).mono ?_; rintro e w1 ⟨rfl, hb1⟩
    rw [H.out]
    go_wp2
    go_ret2
    exact ⟨none, 0, rfl, OwnsI.nil _ _, below_seq (below1 _ _) hb1⟩
  · obtain ⟨h1, h2, h3⟩ := lok_rv h
    have hle : m = n := by rw [HM.out, HN.out]; exact h2
    subst hle
    obtain ⟨v1, v2, v3, v4, v5, _⟩ := rv_true h1
    have hpos : 0 < m := rv_pos v1 v3 (by rw [HN.out]; exact v5)
    clear h2 h3 h1 v5
    have H := Lib.hid h; clear h
    by_cases h60 : q ≤ 60
    · have e : flipRunF W T xs L cs = runK W T L cs q := by unfold flipRunF; rw [if_pos ⟨H.out, by rw [← HQ.out]; exact h60⟩, ← HQ.out]
      rw [e]
      clear e
      have HE : Hid ((runK W T L cs q).1.length = m) := by show _ = m; rw [runK_len, HM.out]
      go_enter Try.func24, Try.ntmps24
      go_wp2_with fail
      refine (iLaidOk_any _ _ _ _ _ xs _ _ _ L _ HN.out hn' HM.out hm' (HA.out.one _) (HL.out.one _)).mono ?_; rintro e w1 ⟨rfl, hb1⟩
      have p1 := heap_later (heap_new w _) hb1
      have b1 := below_seq (below1 w _) hb1
      rw [H.out]
      go_wp2_with fail
      refine (clone_own _ _ _ L _ HM.out hpos hm' (HL.out.below b1)).mono ?_; rintro e w2 ⟨g, gc, rfl, ho2, hb2⟩
      have p2 := heap_later p1 hb2
      have b2 := below_seq b1 hb2
      have z2 := b1.size
      have O2 := Lib.hid (ho2.lower z2)
      have hgl := O2.out.lt
      have hwg : g ≠ w.heap.size := by have h1 := ho2.lt.1; have h2 := heap_lt p1; omega
      clear ho2 hb1 hb2 p1 b1
      go_wp2
      go_loopw [9, 11, 25] (fun d _ i wr => ∃ k : Nat, k ≤ q ∧ i = .int .i64 k ∧ d = .int .i64 (runK W T L cs k).2 ∧ OwnsI wr w.heap.size (.slice (some ⟨g, 0, none⟩) m gc) (runK W T L cs k).1 ∧ wr.heap[w.heap.size]? = some (.cells #[.int .i64 W, .int .i64 T, .slice a m cap] 28 (0, 0)) ∧ Below w.heap.size w wr) (fun _ _ i _ => q - (intOf i).toNat)
      case atStart => exact ⟨0, Nat.zero_le _, rfl, rfl, O2.out, p2, b2⟩
      case round =>
        rename World => wo
        obtain ⟨k, hk, rfl, rfl, ho, hp, hbel⟩ := hrel
        have HO := Lib.hid ho; clear ho
        have BEL := Lib.hid hbel; clear hbel
        have AO := Lib.hid (HA.out.below BEL.out)
        have CO := Lib.hid (HCS.out.below BEL.out)
        have hrb := runK_bd W T L cs k
        have HK := Lib.hid (runK_lok cs H.out k)
        have HLN : Hid (m = (runK W T L cs k).1.length) := by show _ = _; rw [runK_len]; exact HM.out
        by_cases hlt : k < q
        · obtain ⟨r0, r1⟩ := hrb
          have hcb := HC.out k (by rw [← HQ.out]; exact hlt)
          have RY : Hid (mayB W T (runK W T L cs k).1 (cs.getD k 0) = true → runK W T L cs (k + 1) = (flipL W T (runK W T L cs k).1 (cs.getD k 0), (runK W T L cs k).2 + 1)) := runK_yes
          have RN : Hid (mayB W T (runK W T L cs k).1 (cs.getD k 0) = false → runK W T L cs (k + 1) = runK W T L cs k) := runK_no
          obtain ⟨cb, co, rfl, hcc⟩ := CO.out k (by rw [← HQ.out]; exact hlt)
          obtain ⟨c, hcv⟩ : ∃ c, c = cs.getD k 0 := ⟨_, rfl⟩
          rw [← hcv] at hcc hcb RY RN
          clear hcv
          obtain ⟨hc0, hc1⟩ := hcb
          obtain ⟨M, hM⟩ : ∃ M, M = (runK W T L cs k).1 := ⟨_, rfl⟩
          obtain ⟨D, hD⟩ : ∃ D, D = (runK W T L cs k).2 := ⟨_, rfl⟩
          have RR : Hid (runK W T L cs k = (M, D)) := by show _ = _; rw [hM, hD]
          rw [← hM] at HO HK HLN RY RN
          rw [← hD] at RY r0 r1 ⊢
          clear hM hD
          have hke : (k : Int) < q := by omega
          have hD2 : D ≤ 60 := by omega
          obtain ⟨c0, c1, c2⟩ := cells3 hp
          cases hmay : mayB W T M c
          · have HMY := Lib.hid hmay; clear hmay
            go_wp2_with fail
            refine (turnTwo_no _ _ _ _ _ xs _ _ M _ _ HN.out HLN.out HK.out hc0 hc1 (OwnsI.at HO.out) HMY.out).mono ?_; rintro e w3 ⟨rfl, hb3⟩
            have p3 := heap_later hp hb3
            go_wp2
            go_roundw
            case rel => exact ⟨k + 1, by omega, by go_num, by rw [RN.out HMY.out, RR.out], by rw [RN.out HMY.out, RR.out]; exact HO.out.below hb3, p3, below_seq BEL.out hb3⟩
            case measure => simp [intOf]; omega
          · have HMY := Lib.hid hmay; clear hmay
            go_wp2_with fail
            refine (turnTwo_yes _ _ _ _ _ xs _ _ _ M _ _ HN.out hn' HLN.out HK.out hc0 hc1 AO.out w HA.out (Nat.le_refl _) HO.out HMY.out).mono ?_; rintro e w3 ⟨rfl, ho3, hg3⟩
            have HO3 := Lib.hid ho3; clear ho3
            have p3 := heap_grown hp hg3 (fun e => hwg (by cases e; rfl))
            have BEL3 := Lib.hid (below_grown BEL.out hg3 (Nat.le_refl _) (fun k e => by cases e; exact hgl.1))
            go_wp2
            go_roundw
            case rel => exact ⟨k + 1, by omega, by go_num, by rw [RY.out HMY.out], by rw [RY.out HMY.out]; exact HO3.out, p3, BEL3.out⟩
            case measure => simp [intOf]; omega
        · obtain rfl : k = q := by omega
          go_wp2
          go_ret2
          exact ⟨some ⟨g, 0, none⟩, gc, ret_slN HE.out.symm rfl, by rw [HE.out]; exact HO.out, BEL.out⟩
    · have e : flipRunF W T xs L cs = ([], 0) := by unfold flipRunF; rw [if_neg (fun x => h60 (by rw [HQ.out]; exact x.2))]
      rw [e]
      clear e
      have h60' : 60 < (q : Int) := by omega
      go_enter Try.func24, Try.ntmps24
      go_wp2_with fail
      refine (iLaidOk_any _ _ _ _ _ xs _ _ _ L _ HN.out hn' HM.out hm' (HA.out.one _) (HL.out.one _)).mono ?_; rintro e w1 ⟨rfl, hb1⟩
      rw [H.out]
      go_wp2
      go_ret2
      exact ⟨none, 0, rfl, OwnsI.nil _ _, below_seq (below1 _ _) hb1⟩

set_option maxHeartbeats 4000000 in
theorem sFlipRun_ret (W T : Int) (a : Option Addr) (n cap : Nat) (xs : List Bool) (la : Option Addr) (m lcap : Nat) (L : List Int) (ca : Option Addr) (q ccap : Nat) (cs : List Int) (w : World) (hn : n = xs.length) (hn' : n ≤ 1048576) (hm : m = L.length) (hm' : m ≤ 1048576) (hq : q = cs.length) (hq' : q ≤ 1048576) (ha : BoolsAt w a xs) (hl : IntsAt w la L) (hcs : IntsAt w ca cs) :
    Calls Try.prog 23 #[.agg #[.int .i64 W, .int .i64 T, .slice a n cap], .slice la m lcap, .slice ca q ccap] w (RetLI w (flipRunF W T xs L cs).1.length (flipRunF W T xs L cs).1 (flipRunF W T xs L cs).2) := by
  have HN := Lib.hid hn; clear hn
  have HM := Lib.hid hm; clear hm
  have HQ := Lib.hid hq; clear hq
  have HA := Lib.hid ha; clear ha
  have HL := Lib.hid hl; clear hl
  have HCS := Lib.hid hcs; clear hcs
  cases h : lok W T xs L
  · have e : flipRunF W T xs L cs = ([], 0) := by unfold flipRunF; rw [h]; simp
    rw [e]
    have H := Lib.hid h; clear h e
    go_enter Try.func23, Try.ntmps23
    go_wp2_with fail
    refine (sLaidOk_any _ _ _ _ _ xs _ _ _ L _ HN.out hn' HM.out hm' (HA.out.one _) (HL.out.one _)).mono ?_; rintro e w1 ⟨rfl, hb1⟩
    have b1 := below_seq (below1 w _) hb1
    rw [H.out]
    go_wp2
    go_ret2
    exact ⟨some ⟨w1.heap.size, 0, none⟩, 0, rfl, World.ownsRow_made w1 #[] 0 b1.size (Nat.zero_le _) rfl, below_seq b1 (below1 _ _)⟩
  · obtain ⟨h1, h2, h3⟩ := lok_rv h
    have hle : m = n := by rw [HM.out, HN.out]; exact h2
    subst hle
    obtain ⟨v1, v2, v3, v4, v5, _⟩ := rv_true h1
    have hpos : 0 < m := rv_pos v1 v3 (by rw [HN.out]; exact v5)
    clear h2 h3 h1 v5
    have H := Lib.hid h; clear h
    by_cases h60 : q ≤ 60
    · have e : flipRunF W T xs L cs = runK W T L cs q := by unfold flipRunF; rw [if_pos ⟨H.out, by rw [← HQ.out]; exact h60⟩, ← HQ.out]
      rw [e]
      clear e
      have HE : Hid ((runK W T L cs q).1.length = m) := by show _ = m; rw [runK_len, HM.out]
      obtain ⟨i0, hi, hz0, hz1, hz2⟩ := info_parts infoInt
      obtain ⟨lb, lo, rfl, hlc⟩ := HL.out 0 (by rw [← HM.out]; exact hpos)
      clear hlc
      go_enter Try.func23, Try.ntmps23
      go_wp2_with fail
      refine (sLaidOk_any _ _ _ _ _ xs _ _ _ L _ HN.out hn' HM.out hm' (HA.out.one _) (HL.out.one _)).mono ?_; rintro e w1 ⟨rfl, hb1⟩
      have p1 := heap_later (heap_new w _) hb1
      have b1 := below_seq (below1 w _) hb1
      have z1 := b1.size
      rw [H.out]
      clear hb1
      have HL1 := Lib.hid ((HL.out.below b1).one (.cells #[] 3 (0, 0)))
      have p1' := heap_later p1 (below1 w1 (.cells #[] 3 (0, 0)))
      obtain ⟨c0, c1, c2⟩ := cells3 p1'
      go_wp2_with (at_builtin; refine wpList_append_own _ rfl _ _ 25 rfl w1.heap.size 3 i0 (.int .i64 0) 1 8 Try.underlying25 hi hz0 hz1 hz2 rfl (by decide) _ _ _ rfl (World.ownsRow_made w1 #[] 0 (Nat.le_refl _) (Nat.zero_le _) rfl) ⟨lb, lo, none⟩ m lcap (L.map (Value.int .i64)) rfl (by rw [List.length_map, ← HM.out]; omega) (ints_news HL1.out) (ints_one L) (by unfold maxLen; omega) (by omega) (by simp) ?_; intro v' w2 hown hgrow hnil; clear hnil; rw [Nat.zero_add, List.nil_append] at hown; obtain ⟨g, gc, rfl, ho2⟩ := own_of_row (L := L) hown rfl HM.out.symm hpos; clear hown; have hgw : w.heap.size < g := Nat.lt_of_lt_of_le (heap_lt p1) ho2.lt.1; have hg2 : (w1.alloc (.cells #[] 3 (0, 0))).grownBy w2 (some w1.heap.size) := hgrow; clear hgrow; have b2 := below_grown (below_seq b1 (below1 _ _)) hg2 (Nat.le_refl _) (fun k e => by cases e; exact z1); have p2 := heap_grown p1' hg2 (by simp; have := heap_lt p1; omega); clear c0 c1 c2; obtain ⟨c0, c1, c2⟩ := cells3 p2; have HB2 := Lib.hid b2; clear hg2)
      have O2 := Lib.hid (ho2.lower z1); clear ho2
      clear c0 c1 c2 p1 p1' HL1 b1 b2
      go_loopw [8, 9, 10, 11, 12] (fun s d i _ _ wr => ∃ (k : Nat) (a8 : Option Addr) (c8 : Nat), k ≤ q ∧ i = .int .i64 k ∧ d = .int .i64 (runK W T L cs k).2 ∧ s = .slice a8 m c8 ∧ OwnsI wr w.heap.size (.slice a8 m c8) (runK W T L cs k).1 ∧ wr.heap[w.heap.size]? = some (.cells #[.int .i64 W, .int .i64 T, .slice a m cap] 28 (0, 0)) ∧ Below w.heap.size w wr) (fun _ _ i _ _ _ => q - (intOf i).toNat)
      case atStart => exact ⟨0, some ⟨g, 0, none⟩, gc, Nat.zero_le _, rfl, rfl, rfl, O2.out, p2, HB2.out⟩
      case round =>
        rename World => wo
        obtain ⟨k, a8, c8, hk, rfl, rfl, rfl, ho, hp, hbel⟩ := hrel
        have HO := Lib.hid ho; clear ho
        have BEL := Lib.hid hbel; clear hbel
        have AO := Lib.hid (HA.out.below BEL.out)
        have CO := Lib.hid (HCS.out.below BEL.out)
        have hrb := runK_bd W T L cs k
        have HK := Lib.hid (runK_lok cs H.out k)
        have HLN : Hid (m = (runK W T L cs k).1.length) := by show _ = _; rw [runK_len]; exact HM.out
        by_cases hlt : k < q
        · obtain ⟨r0, r1⟩ := hrb
          have RY : Hid (mayB W T (runK W T L cs k).1 (cs.getD k 0) = true → runK W T L cs (k + 1) = (flipL W T (runK W T L cs k).1 (cs.getD k 0), (runK W T L cs k).2 + 1)) := runK_yes
          have RN : Hid (mayB W T (runK W T L cs k).1 (cs.getD k 0) = false → runK W T L cs (k + 1) = runK W T L cs k) := runK_no
          obtain ⟨cb, co, rfl, hcc⟩ := CO.out k (by rw [← HQ.out]; exact hlt)
          obtain ⟨c, hcv⟩ : ∃ c, c = cs.getD k 0 := ⟨_, rfl⟩
          rw [← hcv] at hcc RY RN
          clear hcv
          obtain ⟨M, hM⟩ : ∃ M, M = (runK W T L cs k).1 := ⟨_, rfl⟩
          obtain ⟨D, hD⟩ : ∃ D, D = (runK W T L cs k).2 := ⟨_, rfl⟩
          have RR : Hid (runK W T L cs k = (M, D)) := by show _ = _; rw [hM, hD]
          rw [← hM] at HO HK HLN RY RN
          rw [← hD] at RY r0 r1 ⊢
          clear hM hD
          have hke : (k : Int) < q := by omega
          have hD2 : D ≤ 60 := by omega
          have FF : Hid (flipF W T xs M c = (flipL W T M c, mayB W T M c)) := by show _ = _; unfold flipF; rw [HK.out]; rfl
          have FL : Hid ((flipL W T M c).length = m) := by show _ = _; rw [flipL_len]; exact HLN.out.symm
          obtain ⟨c0, c1, c2⟩ := cells3 hp
          go_wp2
          have P1 : wo.drew.heap[w.heap.size]? = some _ := hp
          go_region_held3 (fun w' => w'.cell? ⟨w.heap.size, 0, none⟩ = some (.int .i64 W) ∧ w'.cell? ⟨w.heap.size, 1, none⟩ = some (.int .i64 T) ∧ w'.cell? ⟨w.heap.size, 2, none⟩ = some (.slice a m cap) ∧ w'.cell? ⟨cb, co + k, none⟩ = some (.int .i64 c))
            (go_keep)
            (first
              | (go_at_call 16; refine (sFlipOne_ret _ _ _ _ _ xs _ _ _ M _ _ HN.out hn' HLN.out hm' (show BoolsAt wo.drew _ _ from AO.out) (show IntsAt wo.drew _ _ from OwnsI.at HO.out)).mono ?_; rintro e w3 ⟨a3, c3, rfl, ho3, hb3⟩; have p3 := heap_later P1 hb3; obtain ⟨c30, c31, c32⟩ := cells3 p3; have k3 := cell_later hb3 (show wo.drew.cell? _ = some _ from hcc)))
          rw [FF.out] at ho3 ⊢
          have O3 := Lib.hid (show OwnsI w3 wo.heap.size (.slice a3 (flipL W T M c).length c3) (flipL W T M c) from ho3)
          clear ho3
          rw [FL.out] at O3
          have BEL3 := Lib.hid (below_seq BEL.out (below_seq (drew_below _) hb3))
          have zz := BEL.out.size
          cases hmay : mayB W T M c
          · have HMY := Lib.hid hmay; clear hmay
            have HO' := Lib.hid ((show OwnsI wo.drew _ _ _ from HO.out).below hb3)
            go_wp2
            go_roundw
            case rel => exact ⟨k + 1, a8, c8, by omega, by go_num, by rw [RN.out HMY.out, RR.out], rfl, by rw [RN.out HMY.out, RR.out]; exact HO'.out, p3, BEL3.out⟩
            case measure => simp [intOf]; omega
          · have HMY := Lib.hid hmay; clear hmay
            go_wp2
            go_roundw
            case rel => exact ⟨k + 1, a3, c3, by omega, by go_num, by rw [RY.out HMY.out], by simp only [FL.out], by rw [RY.out HMY.out]; exact O3.out.lower zz, p3, BEL3.out⟩
            case measure => simp [intOf]; omega
        · obtain rfl : k = q := by omega
          go_wp2
          go_ret2
          exact ⟨a8, c8, ret_slN HE.out.symm rfl, by rw [HE.out]; exact HO.out, BEL.out⟩
    · have e : flipRunF W T xs L cs = ([], 0) := by unfold flipRunF; rw [if_neg (fun x => h60 (by rw [HQ.out]; exact x.2))]
      rw [e]
      clear e
      have h60' : 60 < (q : Int) := by omega
      go_enter Try.func23, Try.ntmps23
      go_wp2_with fail
      refine (sLaidOk_any _ _ _ _ _ xs _ _ _ L _ HN.out hn' HM.out hm' (HA.out.one _) (HL.out.one _)).mono ?_; rintro e w1 ⟨rfl, hb1⟩
      have b1 := below_seq (below1 w _) hb1
      rw [H.out]
      go_wp2
      go_ret2
      exact ⟨some ⟨w1.heap.size, 0, none⟩, 0, rfl, World.ownsRow_made w1 #[] 0 b1.size (Nat.zero_le _) rfl, below_seq b1 (below1 _ _)⟩
end Go.Proofs.Ytjhonkhholehkaa
