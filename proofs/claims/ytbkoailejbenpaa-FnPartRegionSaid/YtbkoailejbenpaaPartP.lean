/- Plain facts on parts as regions: each is one part, and all together have all cells. -/
import Derived.Test.YtbkoailejbenpaaPartRS
import Derived.Test.YtbkoailejbenpaaPartsP
import Derived.Test.YtbkoailejbenpaaSimple
namespace Go.Proofs.Ytbkoailejbenpaa
open Go.RowKit
set_option linter.unusedVariables false
set_option maxRecDepth 100000
set_option linter.unusedSimpArgs false

theorem cnt_rangeQ (xs : List Bool) : cnt xs = (List.range xs.length).countP fun i => xs.getD i false := by
  unfold cnt
  have key : ∀ k, k ≤ xs.length → (xs.take k).countP id = (List.range k).countP fun i => xs.getD i false := by
    intro k
    induction k with
    | zero => intro _; simp
    | succ k ih =>
      intro hk
      rw [List.range_succ, List.countP_append, ← ih (by omega), List.take_succ_eq_append_getElem (by omega), List.countP_append]
      have : k < xs.length := by omega
      simp [List.countP_cons, this]
  have := key xs.length (Nat.le_refl _)
  rwa [List.take_length] at this
theorem marks_adj2 {N : Nat} {s : Nat → Bool} {adj : Nat → Nat → Bool} {M : List Int} (ha : ∀ j k, adj j k = adj k j) (h : Marks N s adj M) {i k : Nat} (hi : i < N) (hk : k < N) (si : s i = true) (sk : s k = true) (hik : adj i k = true) : M.getD i 0 = M.getD k 0 := by
  obtain ⟨a, ea, ca, la⟩ := (h.2 i hi).2 si
  obtain ⟨b, eb, cb, lb⟩ := (h.2 k hk).2 sk
  have h1 := lb a (.step ca hik hk sk)
  have h2 := la b (.step cb (by rw [ha]; exact hik) hi si)
  rw [ea, eb]; omega
/-- A part alone is one part. -/
theorem part_one {N : Nat} {s : Nat → Bool} {adj : Nat → Nat → Bool} {M : List Int} (ha : ∀ j k, adj j k = adj k j) (hm : Marks N s adj M) {i0 : Nat} {v : Int} (hi0 : i0 < N) (hv : M.getD i0 0 = v) (hv0 : 0 ≤ v) :
    selfN (marksL N (fun i => M.getD i 0 == v) adj) N = 1 := by
  have hs0 : s i0 = true := by
    cases e : s i0
    · have := (hm.2 i0 hi0).1 e; omega
    · rfl
  obtain ⟨p, ep, cp, lp⟩ := (hm.2 i0 hi0).2 hs0
  have hvp : v = (p : Int) := by omega
  subst hvp
  have hpN := cp.left
  have hpp : M.getD p 0 = (p : Int) := by
    obtain ⟨p2, e2, c2, l2⟩ := (hm.2 p hpN.1).2 hpN.2
    have h1 := l2 p (.refl hpN.1 hpN.2)
    have h2 := lp p2 (c2.trans cp)
    rw [e2]; omega
  have sp : (fun i => M.getD i 0 == (p : Int)) p = true := by simpa using hpp
  have key : ∀ k, Conn N s adj p k → Conn N (fun i => M.getD i 0 == (p : Int)) adj p k ∧ M.getD k 0 = (p : Int) := by
    intro k hc
    induction hc with
    | refl a b => exact ⟨.refl a sp, hpp⟩
    | step hij a b d ih =>
      rename_i j k
      have e := marks_adj2 ha hm hij.right.1 b hij.right.2 d a
      have e2 : M.getD k 0 = (p : Int) := by rw [← e]; exact ih.2
      exact ⟨.step ih.1 a b (by simpa using e2), e2⟩
  have all : ∀ k, k < N → (fun i => M.getD i 0 == (p : Int)) k = true → Conn N (fun i => M.getD i 0 == (p : Int)) adj p k := by
    intro k hk hs
    have hkp : M.getD k 0 = (p : Int) := by simpa using hs
    have sk : s k = true := by
      cases e : s k
      · have := (hm.2 k hk).1 e; omega
      · rfl
    obtain ⟨q, eq, cq, lq⟩ := (hm.2 k hk).2 sk
    have : q = p := by omega
    subst this
    exact (key k cq).1
  have hm2 := marksL_marks N (fun i => M.getD i 0 == (p : Int)) adj
  unfold selfN
  have hle : (List.range N).countP (fun i => (marksL N (fun i => M.getD i 0 == (p : Int)) adj).getD i 0 == (i : Int)) ≤ 1 := by
    refine countP_le_one (a := p) List.nodup_range (fun k hk hp => ?_)
    have hkN := List.mem_range.1 hk
    obtain ⟨q1, q2⟩ := (rep_iff hm2 hkN).1 hp
    have h1 := q2 p (all k hkN q1)
    have hkp : M.getD k 0 = (p : Int) := by simpa using q1
    have sk : s k = true := by
      cases e : s k
      · have := (hm.2 k hkN).1 e; omega
      · rfl
    obtain ⟨q, eq, cq, lq⟩ := (hm.2 k hkN).2 sk
    have h2 := lq k (.refl hkN sk)
    omega
  have hge : 0 < (List.range N).countP (fun i => (marksL N (fun i => M.getD i 0 == (p : Int)) adj).getD i 0 == (i : Int)) := by
    rw [List.countP_pos_iff]
    refine ⟨p, List.mem_range.2 hpN.1, (rep_iff hm2 hpN.1).2 ⟨sp, fun i hi => ?_⟩⟩
    have hi1 := hi.left
    have hip : M.getD i 0 = (p : Int) := by simpa using hi1.2
    have si : s i = true := by
      cases e : s i
      · have := (hm.2 i hi1.1).1 e; omega
      · rfl
    obtain ⟨q, eq, cq, lq⟩ := (hm.2 i hi1.1).2 si
    have := lq i (.refl hi1.1 si)
    omega
  omega
/-- How many cells have a mark below k. -/
def lowN (L : List Int) (k : Nat) : Nat := (List.range L.length).countP fun i => decide (0 ≤ L.getD i 0 ∧ L.getD i 0 < (k : Int))
theorem lowN_zero (L : List Int) : lowN L 0 = 0 := by
  unfold lowN; rw [List.countP_eq_zero]; intro i _ h; simp at h; omega
theorem lowN_le (L : List Int) (k : Nat) : lowN L k ≤ L.length := by
  have := List.countP_le_length (p := fun i => decide (0 ≤ L.getD i 0 ∧ L.getD i 0 < (k : Int))) (l := List.range L.length)
  rwa [List.length_range] at this
theorem markT_get {L : List Int} {v : Int} {i : Nat} (h : i < L.length) : (markT L v).getD i false = (L.getD i 0 == v) := by unfold markT tab; simp [h]
theorem lowN_succ (L : List Int) (k : Nat) : lowN L (k + 1) = lowN L k + cnt (markT L k) := by
  rw [cnt_rangeQ, markT_len]
  have e : (List.range L.length).countP (fun i => (markT L k).getD i false) = (List.range L.length).countP (fun i => L.getD i 0 == (k : Int)) := by
    refine List.countP_congr fun i hi => ?_
    rw [markT_get (List.mem_range.1 hi)]
  rw [e]
  unfold lowN
  generalize List.range L.length = l
  induction l with
  | nil => rfl
  | cons x l ih =>
    rw [List.countP_cons, List.countP_cons, List.countP_cons, ih]
    by_cases h1 : L.getD x 0 = (k : Int)
    · have a1 : decide (0 ≤ L.getD x 0 ∧ L.getD x 0 < ((k + 1 : Nat) : Int)) = true := decide_eq_true (by omega)
      have a2 : decide (0 ≤ L.getD x 0 ∧ L.getD x 0 < (k : Int)) = false := decide_eq_false (by omega)
      have a3 : (L.getD x 0 == (k : Int)) = true := by simp only [h1, beq_self_eq_true]
      rw [a1, a2, a3]; simp; omega
    · have a3 : (L.getD x 0 == (k : Int)) = false := beq_false_of_ne h1
      by_cases h2 : 0 ≤ L.getD x 0 ∧ L.getD x 0 < (k : Int)
      · have a1 : decide (0 ≤ L.getD x 0 ∧ L.getD x 0 < ((k + 1 : Nat) : Int)) = true := decide_eq_true (by omega)
        rw [a1, decide_eq_true h2, a3]; simp; omega
      · have a1 : decide (0 ≤ L.getD x 0 ∧ L.getD x 0 < ((k + 1 : Nat) : Int)) = false := decide_eq_false (by omega)
        rw [a1, decide_eq_false h2, a3]; simp
theorem hasN_no {L : List Int} {v : Int} (h : hasN L v L.length = false) : cnt (markT L v) = 0 := by
  rw [cnt_rangeQ, markT_len, List.countP_eq_zero]
  intro i hi hp
  have hiN := List.mem_range.1 hi
  rw [markT_get hiN] at hp
  rw [hasN_of hiN (by simpa using hp)] at h
  cases h
theorem parts_of {W T : Int} {xs : List Bool} (h : rv W T xs = true) : Marks xs.length (fun i => xs.getD i false) (adjW W false) (partsF W T xs) ∧ (partsF W T xs).length = xs.length := by
  refine ⟨?_, partsF_rv h⟩
  unfold partsF; rw [h, if_pos rfl]; exact marksL_marks _ _ _
theorem lowN_all {W T : Int} {xs : List Bool} (h : rv W T xs = true) : lowN (partsF W T xs) xs.length = cnt xs := by
  obtain ⟨hm, hl⟩ := parts_of h
  rw [cnt_rangeQ]
  unfold lowN
  rw [hl]
  refine List.countP_congr fun i hi => ?_
  have hiN := List.mem_range.1 hi
  rw [decide_eq_true_eq]
  cases hs : xs.getD i false
  · have := (hm.2 i hiN).1 hs
    constructor
    · intro h; omega
    · intro h; cases h
  · obtain ⟨j, ej, cj, lj⟩ := (hm.2 i hiN).2 hs
    have := lj i (.refl hiN hs)
    constructor
    · intro _; rfl
    · intro _; omega
theorem rv_markT {W T : Int} {xs : List Bool} {v : Int} (h : rv W T xs = true) (hv : 0 ≤ v) : rv W T (markT (partsF W T xs) v) = true := by
  obtain ⟨v1, v2, v3, v4, v5, v6⟩ := rv_true h
  obtain ⟨hm, hl⟩ := parts_of h
  have hml : (markT (partsF W T xs) v).length = xs.length := by rw [markT_len, hl]
  have hc : cnt (markT (partsF W T xs) v) ≤ cnt xs := by
    rw [cnt_rangeQ, cnt_rangeQ, hml]
    refine List.countP_mono_left fun i hi hp => ?_
    have hiN := List.mem_range.1 hi
    cases hs : xs.getD i false
    · exfalso
      have h1 := (hm.2 i hiN).1 hs
      rw [markT_get (by rw [hl]; exact hiN), h1] at hp
      have : (-1 : Int) = v := by simpa using hp
      omega
    · rfl
  unfold rv
  rw [hml]
  simp
  omega
/-- A part's region has one part. -/
theorem part_parts {W T : Int} {xs : List Bool} {v : Int} (h : rv W T xs = true) (hv : 0 ≤ v) (hh : hasN (partsF W T xs) v (partsF W T xs).length = true) : partsN W T (markT (partsF W T xs) v) = 1 := by
  obtain ⟨hm, hl⟩ := parts_of h
  unfold hasN at hh
  rw [List.any_eq_true] at hh
  obtain ⟨i0, hi0, he⟩ := hh
  have hi0N := List.mem_range.1 hi0
  rw [hl] at hi0N
  have hone := part_one (adjW_symm W false) hm hi0N (by simpa using he) hv
  have hrv := rv_markT h hv
  have hml : (markT (partsF W T xs) v).length = xs.length := by rw [markT_len, hl]
  have ef : partsF W T (markT (partsF W T xs) v) = marksL xs.length (fun i => (partsF W T xs).getD i 0 == v) (adjW W false) := by
    have hm2 := marksL_marks xs.length (fun i => (markT (partsF W T xs) v).getD i false) (adjW W false)
    have hm3 := marksL_eq (hm2.congr (s' := fun i => (partsF W T xs).getD i 0 == v) (fun i hi => markT_get (by rw [hl]; exact hi)))
    rw [← hm3]
    show partsF W T (markT (partsF W T xs) v) = _
    rw [show partsF W T (markT (partsF W T xs) v) = if rv W T (markT (partsF W T xs) v) then marksL (markT (partsF W T xs) v).length (fun i => (markT (partsF W T xs) v).getD i false) (adjW W false) else [] from rfl, hrv, if_pos rfl, hml]
  unfold partsN
  rw [hrv, if_pos rfl, ef, marksL_len, hone]
  rfl
end Go.Proofs.Ytbkoailejbenpaa
