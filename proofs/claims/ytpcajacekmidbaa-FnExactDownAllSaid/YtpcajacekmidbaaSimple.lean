/- Contracts of both functions Simple. -/
import Derived.Test.YtpcajacekmidbaaOutsideS
namespace Go.Proofs.Ytpcajacekmidbaa
open Go.RowKit
set_option linter.unusedVariables false
set_option maxRecDepth 100000
set_option linter.unusedSimpArgs false

theorem Conn.congr {N : Nat} {s s' : Nat → Bool} {adj : Nat → Nat → Bool} (h : ∀ i, i < N → s i = s' i) {i k : Nat} (hc : Conn N s adj i k) : Conn N s' adj i k := by
  induction hc with
  | refl a b => exact .refl a (by rw [← h _ a]; exact b)
  | step hij a b c ih => exact .step ih a b (by rw [← h _ b]; exact c)
theorem Marks.congr {N : Nat} {s s' : Nat → Bool} {adj : Nat → Nat → Bool} {M : List Int} (h : ∀ i, i < N → s i = s' i) (hm : Marks N s adj M) : Marks N s' adj M := by
  refine ⟨hm.1, fun k hk => ⟨fun h0 => (hm.2 k hk).1 (by rw [h k hk]; exact h0), fun h1 => ?_⟩⟩
  obtain ⟨j, hj, hc, hl⟩ := (hm.2 k hk).2 (by rw [h k hk]; exact h1)
  exact ⟨j, hj, hc.congr h, fun i hi => hl i (hi.congr (fun i hi => (h i hi).symm))⟩

/-- Whether a region is simple. -/
def simpleB (W T : Int) (xs : List Bool) : Bool := decide (partsN W T xs = 1) && outOne W T xs
theorem simpleB_rv {W T : Int} {xs : List Bool} (h : simpleB W T xs = true) : rv W T xs = true := by
  unfold simpleB at h
  rw [Bool.and_eq_true, decide_eq_true_eq] at h
  cases hr : rv W T xs
  · have := h.1; unfold partsN at this; rw [hr] at this; simp at this
  · rfl
theorem partsN_rv {W T : Int} {xs : List Bool} (h : partsN W T xs = 1) : rv W T xs = true := by
  cases hr : rv W T xs
  · unfold partsN at h; rw [hr] at h; simp at h
  · rfl

theorem sSimple_any (W T : Int) (a : Option Addr) (n cap : Nat) (xs : List Bool) (w : World) (hn : n = xs.length) (hn' : n ≤ 1048576) (ha : BoolsAt w a xs) :
    Calls Try.prog 69 #[.agg #[.int .i64 W, .int .i64 T, .slice a n cap]] w fun e w' => e = .returned (.bool (simpleB W T xs)) ∧ Below w.heap.size w w' := by
  have HN := Lib.hid hn; clear hn
  have HA := Lib.hid ha; clear ha
  by_cases h : partsN W T xs = 1
  · obtain ⟨v1, v2, v3, v4, v5, _⟩ := rv_true (partsN_rv h)
    have hWT : Hid ((n : Int) = W * T) := by show (n : Int) = _; rw [HN.out]; exact v5
    have hb := rim_bd v1 v2 v3 v4
    obtain ⟨N, hN⟩ := Int.eq_ofNat_of_zero_le (by omega : 0 ≤ (W + 2) * (T + 2))
    have HNN := Lib.hid hN; clear hN hb v5
    have e : simpleB W T xs = outOne W T xs := by unfold simpleB; rw [decide_eq_true h]; rfl
    rw [e]
    have H := Lib.hid h; clear h e
    go_enter Try.func69, Try.ntmps69
    go_wp2_with fail
    refine (sPartsMany_any _ _ _ _ _ xs _ HN.out hn' (HA.out.one _)).mono ?_; rintro e w1 ⟨rfl, hb1⟩
    rw [H.out]
    have b1 := below_seq (below1 w (.cells #[.int .i64 W, .int .i64 T, .slice a n cap] 25)) hb1
    obtain ⟨c0, c1, c2⟩ := cells3 (heap_later (heap_new w (.cells #[.int .i64 W, .int .i64 T, .slice a n cap] 25)) hb1)
    go_wp2_with fail
    refine (l4Outside_any W T a n cap xs N _ HN.out v1 v2 v3 v4 hWT.out HNN.out (HA.out.below b1)).mono ?_; rintro e w2 ⟨rfl, hb2⟩
    go_wp2
    go_ret
    exact ⟨rfl, below_seq b1 hb2⟩
  · have e : simpleB W T xs = false := by unfold simpleB; rw [decide_eq_false h]; rfl
    rw [e]
    have hne : (partsN W T xs == 1) = false := by simpa using h
    have HNE := Lib.hid hne; clear hne
    have H := Lib.hid h; clear h e
    go_enter Try.func69, Try.ntmps69
    go_wp2_with fail
    refine (sPartsMany_any _ _ _ _ _ xs _ HN.out hn' (HA.out.one _)).mono ?_; rintro e w1 ⟨rfl, hb1⟩
    have hne := HNE.out
    have h := H.out
    generalize partsN W T xs = pn at hne h
    go_wp2
    go_ret
    exact ⟨rfl, below_seq (below1 _ _) hb1⟩

theorem iSimple_any (W T : Int) (a : Option Addr) (n cap : Nat) (xs : List Bool) (w : World) (hn : n = xs.length) (hn' : n ≤ 1048576) (ha : BoolsAt w a xs) :
    Calls Try.prog 38 #[.agg #[.int .i64 W, .int .i64 T, .slice a n cap]] w fun e w' => e = .returned (.bool (simpleB W T xs)) ∧ Below w.heap.size w w' := by
  have HN := Lib.hid hn; clear hn
  have HA := Lib.hid ha; clear ha
  by_cases h : partsN W T xs = 1
  · obtain ⟨v1, v2, v3, v4, v5, _⟩ := rv_true (partsN_rv h)
    have hWT : Hid ((n : Int) = W * T) := by show (n : Int) = _; rw [HN.out]; exact v5
    have hb := rim_bd v1 v2 v3 v4
    obtain ⟨N, hN⟩ := Int.eq_ofNat_of_zero_le (by omega : 0 ≤ (W + 2) * (T + 2))
    have n64 : N ≤ 64 := by omega
    have e : simpleB W T xs = oneMark N (outB W T xs) (adjW (W + 2) false) := by
      unfold simpleB outOne; rw [decide_eq_true h, hN]; simp
    rw [e]
    have HNN := Lib.hid hN; clear hN hb v5
    have H := Lib.hid h; clear h e
    go_enter Try.func38, Try.ntmps38
    go_wp2_with fail
    refine (iPartsMany_any _ _ _ _ _ xs _ HN.out hn' (HA.out.one _)).mono ?_; rintro e w1 ⟨rfl, hb1⟩
    rw [H.out]
    have b1 := below_seq (below1 w (.cells #[.int .i64 W, .int .i64 T, .slice a n cap] 25)) hb1
    obtain ⟨c0, c1, c2⟩ := cells3 (heap_later (heap_new w (.cells #[.int .i64 W, .int .i64 T, .slice a n cap] 25)) hb1)
    go_wp2_with fail
    refine (outside_any W T a n cap xs N _ HN.out v1 v2 v3 v4 hWT.out HNN.out (HA.out.below b1)).mono ?_; rintro e w2 ⟨g, rfl, ho, hb2⟩
    have O2 := Lib.hid (OwnsB.at ho)
    have b2 := below_seq b1 hb2
    clear ho hb2 c0 c1 c2
    go_wp2_with fail
    refine (marksOf_any (W + 2) (T + 2) _ N N (outL W T xs N) false _ (outL_len _ _ _ _).symm (by omega) (by omega) (by omega) (by omega) HNN.out.symm O2.out).mono ?_; rintro e w3 ⟨g3, M, rfl, hl, ho, hm, hb3⟩
    have O3 := Lib.hid (OwnsI.at ho)
    have HL := Lib.hid hl.symm
    have hM := marksL_eq (hm.congr (s' := outB W T xs) (fun i hi => outL_get hi))
    have hsel : (decide (((selfN M N : Nat) : Int) = 1)) = oneMark N (outB W T xs) (adjW (W + 2) false) := by
      unfold oneMark; rw [← hM]; apply decide_eq_decide.2; omega
    have HS := Lib.hid hsel
    have b3 := below_seq b2 hb3
    clear ho hb3 hl hm hM hsel
    go_wp2_with fail
    refine (marksMany_any _ N N M _ HL.out (by omega) O3.out).mono ?_; rintro e w4 ⟨rfl, hw⟩
    rw [hw]
    clear hw
    go_wp2
    go_ret
    exact ⟨ret_bool HS.out, b3⟩
  · have e : simpleB W T xs = false := by unfold simpleB; rw [decide_eq_false h]; rfl
    rw [e]
    have hne : (partsN W T xs == 1) = false := by simpa using h
    have HNE := Lib.hid hne; clear hne
    have H := Lib.hid h; clear h e
    go_enter Try.func38, Try.ntmps38
    go_wp2_with fail
    refine (iPartsMany_any _ _ _ _ _ xs _ HN.out hn' (HA.out.one _)).mono ?_; rintro e w1 ⟨rfl, hb1⟩
    have hne := HNE.out
    have h := H.out
    generalize partsN W T xs = pn at hne h
    go_wp2
    go_ret
    exact ⟨rfl, below_seq (below1 _ _) hb1⟩
end Go.Proofs.Ytpcajacekmidbaa
