/- Contracts of both functions PartsProduct. -/
import Derived.Test.YtfkhjaboafedpaaPartRS
import Derived.Test.YtfkhjaboafedpaaDpC
import Derived.Test.YtfkhjaboafedpaaDpS
namespace Go.Proofs.Ytfkhjaboafedpaa
open Go.RowKit
set_option linter.unusedVariables false
set_option maxRecDepth 100000
set_option linter.unusedSimpArgs false

/-- The product over the parts whose number is less than k. -/
def prodP (W T : Int) (L : List Int) : Nat → Int
  | 0 => 1
  | k + 1 => if L.getD k 0 = (k : Int) then wrap64 (prodP W T L k * (dpT W T (markT L k) : Nat)) else prodP W T L k
def prodF (W T : Int) (xs : List Bool) : Int := if rv W T xs then prodP W T (partsF W T xs) (partsF W T xs).length else -1
theorem cnt_rangeP (xs : List Bool) : cnt xs = (List.range xs.length).countP fun i => xs.getD i false := by
  unfold cnt
  have key : ∀ k, k ≤ xs.length → (xs.take k).countP id = (List.range k).countP fun i => xs.getD i false := by
    intro k
    induction k with
    | zero => intro _; simp
    | succ k ih =>
      intro hk
      rw [List.range_succ, List.countP_append, ← ih (by omega), List.take_succ_eq_append_getElem (by omega), List.countP_append]
      have : k < xs.length := by omega
      simp [List.countP_cons, this]
  have := key xs.length (Nat.le_refl _)
  rwa [List.take_length] at this
/-- A part of a valid region is a valid region. -/
theorem rv_part {W T : Int} {xs : List Bool} (h : rv W T xs = true) (k : Nat) : rv W T (markT (partsF W T xs) k) = true := by
  obtain ⟨v1, v2, v3, v4, v5, v6⟩ := rv_true h
  have hl := partsF_rv h
  have hm : Marks xs.length (fun i => xs.getD i false) (adjW W false) (partsF W T xs) := by
    unfold partsF; rw [h, if_pos rfl]; exact marksL_marks _ _ _
  have hml : (markT (partsF W T xs) k).length = xs.length := by rw [markT_len, hl]
  have hc : cnt (markT (partsF W T xs) k) ≤ cnt xs := by
    rw [cnt_rangeP, cnt_rangeP, hml]
    refine List.countP_mono_left fun i hi hp => ?_
    have hiN := List.mem_range.1 hi
    cases hs : xs.getD i false
    · exfalso
      have h1 := (hm.2 i hiN).1 hs
      have h2 : (markT (partsF W T xs) k).getD i false = ((partsF W T xs).getD i 0 == (k : Int)) := by
        unfold markT tab; rw [hl]; simp [hiN]
      rw [h2, h1] at hp
      simp at hp
      try omega
    · rfl
  unfold rv
  rw [hml]
  simp
  omega

set_option maxHeartbeats 1000000 in
theorem iPartsProduct_any (W T : Int) (a : Option Addr) (n cap : Nat) (xs : List Bool) (w : World) (hn : n = xs.length) (hn' : n ≤ 1048576) (ha : BoolsAt w a xs) :
    Calls Try.prog 9 #[.agg #[.int .i64 W, .int .i64 T, .slice a n cap]] w fun e w' => e = .returned (.int .i64 (prodF W T xs)) ∧ Below w.heap.size w w' := by
  have HN := Lib.hid hn; clear hn
  have HA := Lib.hid ha; clear ha
  cases h : rv W T xs
  · have e : prodF W T xs = -1 := by unfold prodF; rw [h]; rfl
    rw [e]
    have H := Lib.hid h; clear h e
    go_enter Try.func9, Try.ntmps9
    go_wp2_with fail
    refine (iRegionValid_any _ _ _ _ _ xs _ HN.out hn' (HA.out.one _)).mono ?_; rintro e w1 ⟨rfl, hb1⟩
    rw [H.out]
    go_wp2
    go_ret
    exact ⟨rfl, below_seq (below1 _ _) hb1⟩
  · obtain ⟨v1, v2, v3, v4, v5, _⟩ := rv_true h
    have ef : partsF W T xs = marksL n (fun i => xs.getD i false) (adjW W false) := by unfold partsF; rw [h, if_pos rfl, HN.out]
    have e : prodF W T xs = prodP W T (marksL n (fun i => xs.getD i false) (adjW W false)) n := by unfold prodF; rw [h, if_pos rfl, ef, marksL_len]
    rw [e]
    obtain ⟨M0, hM0⟩ : ∃ M0, M0 = marksL n (fun i => xs.getD i false) (adjW W false) := ⟨_, rfl⟩
    rw [← hM0]
    have HM0 := Lib.hid hM0; clear hM0
    have H := Lib.hid h; clear h e ef
    have hWT : (n : Int) = W * T := by rw [HN.out]; exact v5
    have HWT := Lib.hid hWT; clear hWT v5
    go_enter Try.func9, Try.ntmps9
    go_wp2_with fail
    refine (iRegionValid_any _ _ _ _ _ xs _ HN.out hn' (HA.out.one _)).mono ?_; rintro e w1 ⟨rfl, hb1⟩
    rw [H.out]
    have b1 := below_seq (below1 w (.cells #[.int .i64 W, .int .i64 T, .slice a n cap] 27)) hb1
    have p1 := heap_later (heap_new w (.cells #[.int .i64 W, .int .i64 T, .slice a n cap] 27)) hb1
    obtain ⟨c0, c1, c2⟩ := cells3 p1
    go_wp2_with fail
    refine (marksOf_any W T a n cap xs false _ HN.out v1 (by omega) (by omega) (by omega) HWT.out (HA.out.below b1)).mono ?_; rintro e w2 ⟨g, M, rfl, hl, ho, hm, hb2⟩
    have hM : M = M0 := by rw [HM0.out]; exact marksL_eq hm
    clear HM0
    subst hM
    have HO := Lib.hid ho.at
    have HL := Lib.hid hl.symm
    have b2 := below_seq b1 hb2
    have P2 := Lib.hid (heap_later p1 hb2)
    clear ho hl hm hb2 b1 c0 c1 c2 p1
    go_wp2
    go_loopw [3, 14] (fun c i wr => ∃ k : Nat, k ≤ n ∧ i = .int .i64 k ∧ c = .int .i64 (prodP W T M k) ∧ Below w2.heap.size w2 wr) (fun _ i _ => n - (intOf i).toNat)
    case atStart => exact ⟨0, Nat.zero_le _, rfl, rfl, Below.refl _ _⟩
    case round =>
      obtain ⟨k, hk, rfl, rfl, hbel⟩ := hrel
      rename World => wr
      have BEL := Lib.hid hbel; clear hbel
      by_cases hlt : k < n
      · obtain ⟨lb, lo, hla, hcx⟩ := (HO.out.below BEL.out) k (by rw [← HL.out]; exact hlt)
        simp only [Option.some.injEq, Addr.mk.injEq] at hla
        obtain ⟨rfl, rfl, -⟩ := hla
        rw [Nat.zero_add] at hcx
        obtain ⟨c0, c1, c2⟩ := cells3 (heap_later P2.out BEL.out)
        have hsu : prodP W T M (k + 1) = if M.getD k 0 = (k : Int) then wrap64 (prodP W T M k * (dpT W T (markT M k) : Nat)) else prodP W T M k := rfl
        obtain ⟨mu, hmu⟩ : ∃ mu, mu = M.getD k 0 := ⟨_, rfl⟩
        rw [← hmu] at hcx hsu
        clear hmu
        have e1 : (k : Int) < n := by omega
        have e2 : (0 : Int) ≤ k := by omega
        obtain ⟨p, hp⟩ : ∃ p, p = prodP W T M k := ⟨_, rfl⟩
        rw [← hp] at hsu
        rw [← hp]
        clear hp
        by_cases he : mu = k
        · rw [if_pos he] at hsu
          have HS := Lib.hid hsu; clear hsu
          subst he
          go_wp2_with fail
          refine (markedRegion_any W T a n cap xs _ _ M k _ HL.out v1 v2 v3 v4 HWT.out (HO.out.below BEL.out)).mono ?_; rintro e w4 ⟨g4, rfl, ho4, hb4⟩
          have b4 := below_seq BEL.out hb4
          have O4 := Lib.hid (OwnsB.at ho4)
          have HML : Hid (n = (markT M k).length) := by show _ = _; rw [markT_len]; exact HL.out
          clear ho4 c0 c1 c2
          go_wp2_with fail
          refine (tilingsIn_any W T _ n n (markT M k) _ HML.out v1 v2 v3 v4 HWT.out O4.out).mono ?_; rintro e w5 ⟨rfl, hb5⟩
          have hs2 := HS.out
          generalize ((dpT W T (markT M k) : Nat) : Int) = tk at hs2
          have HS2 := Lib.hid hs2
          go_wp2
          go_roundw
          case rel => exact ⟨k + 1, by omega, by go_num, by rw [HS2.out], below_seq b4 hb5⟩
          case measure => simp [intOf]; omega
        · rw [if_neg he] at hsu
          have hne : (mu == (k : Int)) = false := by simpa using he
          have HS := Lib.hid hsu; clear hsu
          go_wp2
          go_roundw
          case rel => exact ⟨k + 1, by omega, by go_num, by rw [HS.out], BEL.out⟩
          case measure => simp [intOf]; omega
      · obtain rfl : k = n := by omega
        go_wp2
        go_ret
        exact ⟨rfl, below_seq b2 BEL.out⟩

set_option maxHeartbeats 1000000 in
theorem sPartsProduct_any (W T : Int) (a : Option Addr) (n cap : Nat) (xs : List Bool) (w : World) (hn : n = xs.length) (hn' : n ≤ 1048576) (ha : BoolsAt w a xs) :
    Calls Try.prog 7 #[.agg #[.int .i64 W, .int .i64 T, .slice a n cap]] w fun e w' => e = .returned (.int .i64 (prodF W T xs)) ∧ Below w.heap.size w w' := by
  have HN := Lib.hid hn; clear hn
  have HA := Lib.hid ha; clear ha
  cases h : rv W T xs
  · have e : prodF W T xs = -1 := by unfold prodF; rw [h]; rfl
    rw [e]
    have H := Lib.hid h; clear h e
    go_enter Try.func7, Try.ntmps7
    go_wp2_with fail
    refine (sRegionValid_any _ _ _ _ _ xs _ HN.out hn' (HA.out.one _)).mono ?_; rintro e w1 ⟨rfl, hb1⟩
    rw [H.out]
    go_wp2
    go_ret
    exact ⟨rfl, below_seq (below1 _ _) hb1⟩
  · have hlen := partsF_rv h
    have e : prodF W T xs = prodP W T (partsF W T xs) (partsF W T xs).length := by unfold prodF; rw [h, if_pos rfl]
    rw [e]
    have hrp : ∀ k : Nat, rv W T (markT (partsF W T xs) k) = true := fun k => rv_part h k
    have hR : ∀ (k : Nat) (w : World), k < (partsF W T xs).length → (partsF W T xs).getD k 0 = k → BoolsAt w a xs → Calls Try.prog 27 #[.agg #[.int .i64 W, .int .i64 T, .slice a n cap], .int .i64 (k : Int)] w (RetRegT w W T (markT (partsF W T xs) k).length (markT (partsF W T xs) k) true) := by
      intro k w hk hkk hb
      have hc := sPartRegion_ret W T k a n cap xs w HN.out hn' hb
      have hpr : partR W T xs k = (W, T, markT (partsF W T xs) k, true) := by
        unfold partR; rw [hasN_of hk hkk, decide_eq_true (by omega : (0 : Int) ≤ (k : Int))]; rfl
      rw [hpr] at hc
      exact hc
    have H := Lib.hid h; clear h e
    rw [← HN.out] at hlen
    have hS : ∀ (w : World), BoolsAt w a xs → Calls Try.prog 26 #[.agg #[.int .i64 W, .int .i64 T, .slice a n cap]] w (RetL w (partsF W T xs).length (partsF W T xs)) := fun w h => sPartsOf_ret W T a n cap xs w HN.out hn' h
    generalize partsF W T xs = L at hlen hS hR hrp
    have HS := Lib.hid hS; clear hS
    have HRR := Lib.hid hR; clear hR
    have HRP := Lib.hid hrp; clear hrp
    rw [hlen] at HS HRR
    rw [hlen]
    have HL := Lib.hid hlen.symm; clear hlen
    go_enter Try.func7, Try.ntmps7
    go_wp2_with fail
    refine (sRegionValid_any _ _ _ _ _ xs _ HN.out hn' (HA.out.one _)).mono ?_; rintro e w1 ⟨rfl, hb1⟩
    rw [H.out]
    have b1 := below_seq (below1 w (.cells #[.int .i64 W, .int .i64 T, .slice a n cap] 27)) hb1
    have p1 := heap_later (heap_new w (.cells #[.int .i64 W, .int .i64 T, .slice a n cap] 27)) hb1
    obtain ⟨c0, c1, c2⟩ := cells3 p1
    go_wp2_with fail
    refine (HS.out _ (HA.out.below b1)).mono ?_; rintro e w2 ⟨la, lcap, rfl, ho, hb2⟩
    have HO := Lib.hid (OwnsI.at ho)
    have b2 := below_seq b1 hb2
    have P2 := Lib.hid (heap_later p1 hb2)
    have A2 := Lib.hid (HA.out.below b2)
    clear ho hb2 b1 c0 c1 c2 HS hb1 p1
    go_wp2
    go_loopw [3, 5] (fun c i wr => ∃ k : Nat, k ≤ n ∧ i = .int .i64 k ∧ c = .int .i64 (prodP W T L k) ∧ Below w2.heap.size w2 wr) (fun _ i _ => n - (intOf i).toNat)
    case atStart => exact ⟨0, Nat.zero_le _, rfl, rfl, Below.refl _ _⟩
    case round =>
      obtain ⟨k, hk, rfl, rfl, hbel⟩ := hrel
      rename World => wr
      have BEL := Lib.hid hbel; clear hbel
      by_cases hlt : k < n
      · obtain ⟨lb, lo, hla, hcx⟩ := (HO.out.below BEL.out) k (by rw [← HL.out]; exact hlt)
        have hpr := heap_later P2.out BEL.out
        obtain ⟨c0, c1, c2⟩ := cells3 hpr
        have hsu : prodP W T L (k + 1) = if L.getD k 0 = (k : Int) then wrap64 (prodP W T L k * (dpT W T (markT L k) : Nat)) else prodP W T L k := rfl
        obtain ⟨mu, hmu⟩ : ∃ mu, mu = L.getD k 0 := ⟨_, rfl⟩
        rw [← hmu] at hcx hsu
        have HMU := Lib.hid hmu; clear hmu
        subst hla
        have e1 : (k : Int) < n := by omega
        have e2 : (0 : Int) ≤ k := by omega
        obtain ⟨p, hp⟩ : ∃ p, p = prodP W T L k := ⟨_, rfl⟩
        rw [← hp] at hsu
        rw [← hp]
        clear hp
        by_cases he : mu = k
        · rw [if_pos he] at hsu
          have HS := Lib.hid hsu; clear hsu
          have hkk : Hid (L.getD k 0 = (k : Int)) := by show _ = _; rw [← HMU.out]; exact he
          subst he
          go_wp2_with fail
          refine (HRR.out k _ hlt hkk.out (A2.out.below BEL.out)).mono ?_; rintro e w4 ⟨a4, c4, rfl, ho4, hb4⟩
          have b4 := below_seq BEL.out hb4
          have O4 := Lib.hid (OwnsB.at ho4)
          have hm4 : (markT L k).length = n := by rw [markT_len]; exact HL.out.symm
          have ht : tilT W T (markT L k) = (dpT W T (markT L k) : Nat) := by unfold tilT; rw [HRP.out k, if_pos rfl]
          have HT := Lib.hid ht; clear ht
          have hml := hm4.symm
          rw [hm4]
          have HML := Lib.hid hml; clear hml hm4 ho4 c0 c1 c2 hpr hb4
          go_wp2_with fail
          refine (sTilingsMany_any W T _ n _ (markT L k) _ HML.out hn' (O4.out.one _)).mono ?_; rintro e w5 ⟨rfl, hb5⟩
          rw [HT.out]
          have hs2 := HS.out
          generalize ((dpT W T (markT L k) : Nat) : Int) = tk at hs2
          have HS2 := Lib.hid hs2
          go_wp2
          go_roundw
          case rel => exact ⟨k + 1, by omega, by go_num, by rw [HS2.out], below_seq (below_seq b4 (below1 _ _)) hb5⟩
          case measure => simp [intOf]; omega
        · rw [if_neg he] at hsu
          have hne : (mu == (k : Int)) = false := by simpa using he
          have HS := Lib.hid hsu; clear hsu
          go_wp2
          go_roundw
          case rel => exact ⟨k + 1, by omega, by go_num, by rw [HS.out], BEL.out⟩
          case measure => simp [intOf]; omega
      · obtain rfl : k = n := by omega
        go_wp2
        go_ret
        exact ⟨rfl, below_seq b2 BEL.out⟩
end Go.Proofs.Ytfkhjaboafedpaa
