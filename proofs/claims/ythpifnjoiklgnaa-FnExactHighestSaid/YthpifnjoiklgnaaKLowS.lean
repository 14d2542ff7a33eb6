/- Contracts of spec.Lowest and spec.Highest: of all tilings, one after the other, the low (high) one. -/
import Derived.Test.YthpifnjoiklgnaaKAllS
import Derived.Maps.AppendAt
namespace Go.Proofs.Ythpifnjoiklgnaa
open Go.RowKit
set_option linter.unusedVariables false
set_option maxRecDepth 100000
set_option linter.unusedSimpArgs false

end Go.Proofs.Ythpifnjoiklgnaa

namespace Go.Proofs.Ythpifnjoiklgnaa
open Go.RowKit
set_option linter.unusedVariables false
set_option maxRecDepth 100000
set_option linter.unusedSimpArgs false

theorem tok_lokP {W T : Int} {xs : List Bool} {L : List Int} (h : tok W T xs L = true) : lok W T xs L = true := by unfold tok at h; simp only [Bool.and_eq_true] at h; exact h.1
theorem tok_cell {W T : Int} {xs : List Bool} {L : List Int} (h : tok W T xs L = true) {i : Nat} (hi : i < xs.length) (hx : xs.getD i false = true) : L.getD i 0 ≠ 0 := by
  have hl := tok_lokP h
  obtain ⟨_, hlen, _⟩ := lok_rv hl
  intro h0
  have hf : freeB xs L i = true := by unfold freeB; rw [hx, h0]; rfl
  unfold tok at h
  rw [hl, Bool.true_and, decide_eq_true_eq] at h
  rcases first_cases xs L 0 L.length with ⟨_, hno⟩ | ⟨k, _, _, hk, _⟩
  · have := hno i (Nat.zero_le _) (by omega)
    rw [hf] at this; cases this
  · rw [hk] at h; omega
end Go.Proofs.Ythpifnjoiklgnaa

namespace Go.Proofs.Ythpifnjoiklgnaa
open Go.RowKit
set_option linter.unusedVariables false
set_option maxRecDepth 100000
set_option linter.unusedSimpArgs false

/-- M has all dominoes of L. -/
def Has (L M : List Int) : Prop := ∀ k, L.getD k 0 ≠ 0 → M.getD k 0 = L.getD k 0
theorem canLay_of {W T : Int} {xs : List Bool} {L : List Int} {c o : Nat} {way : Int} (hr : rv W T xs = true) (hc : c < xs.length) (hs : stepI W T c way = o) (h1 : freeB xs L c = true) (h2 : freeB xs L o = true) : canLay W T xs L c way = true ∧ laidL W T xs L c way = (L.set c way).set o (backI way) := by
  have hcell : cellB W T xs.length c way = o := by unfold cellB; rw [if_pos ⟨by omega, by omega⟩]; exact hs
  have h : canLay W T xs L c way = true := canLay_yes (by rw [hcell]; omega) (by simpa using h1) (by rw [hcell]; simpa using h2)
  refine ⟨h, ?_⟩
  unfold laidL
  rw [if_pos h, hcell]
  rfl
theorem allL_mem {W T : Int} {xs : List Bool} : ∀ (f : Nat) (L M : List Int), freeN xs L < f → lok W T xs L = true → tok W T xs M = true → Has L M → M ∈ allL W T xs f L
  | 0, L, M, h, _, _, _ => absurd h (Nat.not_lt_zero _)
  | f + 1, L, M, hf, hl, hM, hh => by
    have hlM := tok_lokP hM
    obtain ⟨hr, hlen, _⟩ := lok_rv hl
    obtain ⟨_, hlenM, _⟩ := lok_rv hlM
    obtain ⟨v1, v2, v3, v4, v5, _⟩ := rv_true hr
    rcases first_cases xs L 0 xs.length with ⟨h0, hno⟩ | ⟨c, _, hc, h0, hfc, hno⟩
    · rw [allL_done h0 (by omega)]
      have e : M = L := by
        refine ext_getD (by rw [hlenM, hlen]) fun k hk => ?_
        rw [hlenM] at hk
        by_cases hz : L.getD k 0 = 0
        · have hx : xs.getD k false = false := by
            cases hx : xs.getD k false
            · rfl
            · have h1 := hno k (Nat.zero_le _) hk
              unfold freeB at h1
              rw [hx, hz] at h1; cases h1
          rw [hz]
          by_cases hm : M.getD k 0 = 0
          · exact hm
          · obtain ⟨_, _, _, _, hx', _⟩ := lok_at hlM hk hm
            rw [hx] at hx'; cases hx'
        · exact hh k hz
      rw [e]; exact List.mem_cons_self
    · rw [allL_succ h0 (by omega)]
      obtain ⟨hxc, hLc⟩ := free_zero hfc
      have hMc := tok_cell hM hc hxc
      obtain ⟨o, hs, ho, hne, _, hxo, hMo, hback, w1, w4⟩ := lok_at hlM hc hMc
      have hLo : L.getD o 0 = 0 := by
        by_cases hz : L.getD o 0 = 0
        · exact hz
        · exfalso
          have e1 := hh o hz
          obtain ⟨o2, hs2, _, _, _, _, hb2, _, _, _⟩ := lok_at hl ho hz
          rw [← e1, hMo, hback] at hs2
          have : o2 = c := by omega
          subst this
          rw [← e1, hMo, back_back ⟨w1, w4⟩] at hb2
          exact hMc (by rw [← hb2]; exact hLc)
      have hfo : freeB xs L o = true := by unfold freeB; rw [hxo, hLo]; rfl
      have hway : M.getD c 0 = 1 ∨ M.getD c 0 = 2 := by
        have hoc : c < o := by
          rcases Nat.lt_or_ge o c with h | h
          · have := hno o (Nat.zero_le _) h
            rw [hfo] at this; cases this
          · omega
        have : M.getD c 0 = 1 ∨ M.getD c 0 = 2 ∨ M.getD c 0 = 3 ∨ M.getD c 0 = 4 := by omega
        rcases this with e | e | e | e
        · exact Or.inl e
        · exact Or.inr e
        · rw [e] at hs; have := step_three hs (by omega); omega
        · rw [e] at hs; have := step_four hs (by omega); omega
      obtain ⟨hcan, hlaid⟩ := canLay_of hr hc hs hfc hfo
      have hhas : Has (laidL W T xs L c (M.getD c 0)) M := by
        rw [hlaid]
        intro k hk
        rw [getD_set2 (by rw [hlen]; exact hc) (by rw [hlen]; exact ho)] at hk ⊢
        by_cases e1 : k = o
        · rw [if_pos e1, e1, hMo]
        · rw [if_neg e1] at hk ⊢
          by_cases e2 : k = c
          · rw [if_pos e2, e2]
          · rw [if_neg e2] at hk ⊢; exact hh k hk
      have hrec := allL_mem f (laidL W T xs L c (M.getD c 0)) M (by have := free_drop' hway hl hcan; omega) (lok_laid hl hcan) hM hhas
      rw [List.mem_append]
      rcases hway with e | e
      · rw [e] at hcan hrec
        exact Or.inl (by rw [if_pos hcan]; exact hrec)
      · rw [e] at hcan hrec
        exact Or.inr (by rw [if_pos hcan]; exact hrec)
theorem bare_zero (W T : Int) (xs : List Bool) (k : Nat) : (bareL W T xs).getD k 0 = 0 := by
  unfold bareL
  split
  · by_cases h : k < xs.length
    · simp [List.getD, h]
    · simp [List.getD, h]
  · simp [List.getD]
/-- Every tiling is in the list. -/
theorem mem_allF {W T : Int} {xs : List Bool} {M : List Int} (h : tok W T xs M = true) : M ∈ allF W T xs := by
  have hl := tok_lokP h
  obtain ⟨hr, _, _⟩ := lok_rv hl
  unfold allF
  rw [if_pos hr]
  exact allL_mem _ _ _ (by have := freeN_le xs (bareL W T xs); omega) (by rw [lok_bareL]; exact hr) h (fun k hk => absurd (bare_zero W T xs k) hk)
end Go.Proofs.Ythpifnjoiklgnaa

namespace Go.Proofs.Ythpifnjoiklgnaa
open Go.RowKit
set_option linter.unusedVariables false
set_option maxRecDepth 100000
set_option linter.unusedSimpArgs false

def cellsOf (N : Nat) (f : Nat → Bool) : Array Value := ((tab N f).map Value.bool).toArray
theorem RowB.block {w : World} {B g N : Nat} {f : Nat → Bool} (h : RowB w B g N N f) : w.heap[g]? = some (.cells (cellsOf N f) 4 (0, 0)) := by
  rcases h.2 with ⟨h', _⟩ | ⟨g', cap', cur, h', _, hg, _, _, hs, ht⟩
  · simp at h'
  · simp only [Value.slice.injEq, Option.some.injEq, Addr.mk.injEq, and_true, true_and] at h'
    obtain ⟨rfl, rfl⟩ := h'
    rw [hg]
    have e : cur = cellsOf N f := by
      apply Array.toList_inj.1
      rw [List.take_of_length_le (by simp [hs])] at ht
      rw [ht]; simp [cellsOf]
    rw [e]
end Go.Proofs.Ythpifnjoiklgnaa

namespace Go.Proofs.Ythpifnjoiklgnaa
open Go.RowKit
set_option linter.unusedVariables false
set_option maxRecDepth 100000
set_option linter.unusedSimpArgs false

end Go.Proofs.Ythpifnjoiklgnaa

namespace Go.Proofs.Ythpifnjoiklgnaa
open Go.RowKit
set_option linter.unusedVariables false
set_option maxRecDepth 100000
set_option linter.unusedSimpArgs false

end Go.Proofs.Ythpifnjoiklgnaa

namespace Go.Proofs.Ythpifnjoiklgnaa
open Go.RowKit
set_option linter.unusedVariables false
set_option maxRecDepth 100000
set_option linter.unusedSimpArgs false

set_option maxHeartbeats 2000000 in
theorem equalI_any (la : Option Addr) (m ca : Nat) (A : List Int) (lb : Option Addr) (q cb : Nat) (B : List Int) (w : World) (hm : m = A.length) (hm' : m ≤ 1048576) (hq : q = B.length) (hq' : q ≤ 1048576) (ha : IntsAt w la A) (hb : IntsAt w lb B) :
    Calls Try.prog 52 #[.slice la m ca, .slice lb q cb] w fun e w' => e = .returned (.bool (decide (A = B))) ∧ Below w.heap.size w w' := by
  have HM := Lib.hid hm; clear hm
  have HQ := Lib.hid hq; clear hq
  have HA := Lib.hid ha; clear ha
  have HB := Lib.hid hb; clear hb
  by_cases hne : m = q
  · subst hne
    go_enter Try.func52, Try.ntmps52
    go_wp2
    go_loopw [13] (fun i wr => ∃ k : Nat, k ≤ m ∧ i = .int .i64 k ∧ Hid (∀ j, j < k → A.getD j 0 = B.getD j 0) ∧ Below w.heap.size w wr) (fun i _ => m - (intOf i).toNat)
    case atStart => exact ⟨0, Nat.zero_le _, rfl, (fun j hj => absurd hj (Nat.not_lt_zero j)), Below.refl _ _⟩
    case round =>
      rename World => wo
      obtain ⟨k, hk, rfl, HE, bo⟩ := hrel
      by_cases hlt : k < m
      · obtain ⟨b1, o1, rfl, hx⟩ := (HA.out.below bo) k (by rw [← HM.out]; exact hlt)
        obtain ⟨b2, o2, rfl, hy⟩ := (HB.out.below bo) k (by rw [← HQ.out]; exact hlt)
        obtain ⟨x, hxx⟩ : ∃ x, x = A.getD k 0 := ⟨_, rfl⟩
        obtain ⟨y, hyy⟩ : ∃ y, y = B.getD k 0 := ⟨_, rfl⟩
        rw [← hxx] at hx; rw [← hyy] at hy
        have HX := Lib.hid hxx; have HY := Lib.hid hyy; clear hxx hyy
        have BO := Lib.hid bo; clear bo
        have e1 : (k : Int) < m := by omega
        by_cases e : x = y
        · have t1 : (x == y) = true := by simpa using e
          have t2 : (x != y) = false := by simpa using e
          have HE2 : Hid (∀ j, j < k + 1 → A.getD j 0 = B.getD j 0) := fun j hj => by
            by_cases ej : j = k
            · subst ej; rw [← HX.out, ← HY.out]; exact e
            · exact HE.out j (by omega)
          clear e
          go_wp2
          go_quiet (fail)
          go_wp2
          go_roundw
          case rel => exact ⟨k + 1, by omega, by go_num, HE2, below_drewN BO.out _⟩
          case measure => simp [intOf]; omega
        · have t1 : (x == y) = false := by simpa using e
          have t2 : (x != y) = true := by simpa using e
          have HD : Hid (decide (A = B) = false) := decide_eq_false fun h => e (by rw [HX.out, HY.out, h])
          clear e
          go_wp2
          go_quiet (fail)
          go_wp2
          go_ret
          exact ⟨ret_bool HD.out.symm, below_drewN BO.out _⟩
      · have HD : Hid (decide (A = B) = true) := decide_eq_true (ext_getD (by rw [← HM.out, ← HQ.out]) fun j hj => HE.out j (by rw [← HM.out] at hj; omega))
        have BO := Lib.hid bo; clear bo
        go_wp2
        go_ret
        exact ⟨ret_bool HD.out.symm, BO.out⟩
  · have HD : Hid (decide (A = B) = false) := decide_eq_false fun h => hne (by rw [HM.out, HQ.out, h])
    have t1 : (m == q) = false := by simpa using hne
    have t2 : (m != q) = true := by simpa using hne
    have t3 : ((m : Int) == q) = false := by simp; omega
    have t4 : ((m : Int) != q) = true := by simp; omega
    clear hne
    go_enter Try.func52, Try.ntmps52
    go_wp2
    go_ret
    exact ⟨ret_bool HD.out.symm, Below.refl _ _⟩

end Go.Proofs.Ythpifnjoiklgnaa

namespace Go.Proofs.Ythpifnjoiklgnaa
open Go.RowKit
set_option linter.unusedVariables false
set_option maxRecDepth 100000
set_option linter.unusedSimpArgs false

theorem OwnsSd.kept {w w' : World} {B : Nat} {v : Value} {W T : Int} {xs : List Bool} {l : List (Nat × Bool)} {g : Nat} (h : OwnsSd w B v W T xs l) (hg : w.grownBy w' (some g)) (hne : v.ownBlock ≠ some g) : OwnsSd w' B v W T xs l :=
  World.ownsRow.kept h hg (Or.inr hne)

end Go.Proofs.Ythpifnjoiklgnaa

namespace Go.Proofs.Ythpifnjoiklgnaa
open Go.RowKit
set_option linter.unusedVariables false
set_option maxRecDepth 100000
set_option linter.unusedSimpArgs false

def tlowF (hi : Bool) (W T : Int) (xs : List Bool) (A B : List Int) : List Int × Bool := tbyF W T xs (bothF hi W T xs A B)
end Go.Proofs.Ythpifnjoiklgnaa

namespace Go.Proofs.Ythpifnjoiklgnaa
open Go.RowKit
set_option linter.unusedVariables false
set_option maxRecDepth 100000
set_option linter.unusedSimpArgs false

section
variable {W T : Int} {xs : List Bool} {L M A B : List Int}
theorem low_mk (hi : Bool) (hs : simpleB W T xs = true) (hL : tok W T xs L = true) (hM : tok W T xs M = true) (hA : HtsR W T xs L A) (hB : HtsR W T xs M B) :
    ∃ X, tlowF hi W T xs A B = (X, true) ∧ tok W T xs X = true ∧ HtsR W T xs X (bothL hi A B A.length) ∧ X.length = xs.length := by
  have oA := (tby_of hs hL hA).1
  have oB := (tby_of hs hM hB).1
  have e : bothF hi W T xs A B = bothL hi A B A.length := by unfold bothF; rw [oA, oB]; rfl
  have ho := both_hok hi oA oB
  obtain ⟨_, h2, h3, h4⟩ := tby_to ho
  refine ⟨(tbyF W T xs (bothL hi A B A.length)).1, ?_, h3, h4, (lok_rv (tok_lok1 h3)).2.1⟩
  unfold tlowF
  rw [e, ← h2]
theorem hts_same (hs : simpleB W T xs = true) (hL : tok W T xs L = true) (hM : tok W T xs M = true) (hA : HtsR W T xs L A) (hB : HtsR W T xs M A) : L = M := by
  have a := (tby_of hs hL hA).2
  have b := (tby_of hs hM hB).2
  rw [a] at b
  injection b
theorem hts_len (hs : simpleB W T xs = true) (hL : tok W T xs L = true) (hM : tok W T xs M = true) (hA : HtsR W T xs L A) (hB : HtsR W T xs M B) : A.length = B.length ∧ 0 < A.length := by
  have oA := (tby_of hs hL hA).1
  have oB := (tby_of hs hM hB).1
  refine ⟨hok_length oA oB, ?_⟩
  rcases Nat.eq_zero_or_pos A.length with e | e
  · rw [List.eq_nil_of_length_eq_zero e, hok_nil] at oA; cases oA
  · exact e
end
theorem pick_le (hi : Bool) (x y : Int) : if hi then x ≤ pickI hi x y ∧ y ≤ pickI hi x y else pickI hi x y ≤ x ∧ pickI hi x y ≤ y := by
  unfold pickI
  cases hi
  · simp only [Bool.false_eq_true, if_false]; split <;> omega
  · simp only [if_true]; split <;> omega
end Go.Proofs.Ythpifnjoiklgnaa

namespace Go.Proofs.Ythpifnjoiklgnaa
open Go.RowKit
set_option linter.unusedVariables false
set_option maxRecDepth 100000
set_option linter.unusedSimpArgs false

/-- Least and most that the height may grow along a side. -/
def loB (W T : Int) (xs : List Bool) (s : Nat × Bool) : Int := if sBoth W T xs s.1 s.2 then (if -3 * sRise W s.1 s.2 < sRise W s.1 s.2 then -3 * sRise W s.1 s.2 else sRise W s.1 s.2) else sRise W s.1 s.2
def hiB (W T : Int) (xs : List Bool) (s : Nat × Bool) : Int := if sBoth W T xs s.1 s.2 then (if sRise W s.1 s.2 < -3 * sRise W s.1 s.2 then -3 * sRise W s.1 s.2 else sRise W s.1 s.2) else sRise W s.1 s.2
def loW (up : Bool) (W T : Int) (xs : List Bool) (s : Nat × Bool) : Int := if up then loB W T xs s else -hiB W T xs s
def hiW (up : Bool) (W T : Int) (xs : List Bool) (s : Nat × Bool) : Int := if up then hiB W T xs s else -loB W T xs s
/-- The heights, or the depths, at the corners of the region. -/
def sgnL (up : Bool) (W T : Int) (xs : List Bool) (H : List Int) (N : Nat) : List Int := (List.range N).map fun k => if hAt W T xs k then (if up then H.getD k 0 else -H.getD k 0) else 99
theorem sgnL_get {up : Bool} {W T : Int} {xs : List Bool} {H : List Int} {N k : Nat} (hk : k < N) : (sgnL up W T xs H N).getD k 0 = if hAt W T xs k then (if up then H.getD k 0 else -H.getD k 0) else 99 := by simp [sgnL, hk]
theorem sgnL_len (up : Bool) (W T : Int) (xs : List Bool) (H : List Int) (N : Nat) : (sgnL up W T xs H N).length = N := by simp [sgnL]
theorem bnd_cases {W T : Int} {xs : List Bool} (k : Nat) (nth : Bool) : (sRise W k nth = 1 ∨ sRise W k nth = -1) ∧ ((sBoth W T xs k nth = false ∧ loB W T xs (k, nth) = sRise W k nth ∧ hiB W T xs (k, nth) = sRise W k nth) ∨ (sBoth W T xs k nth = true ∧ ((sRise W k nth = 1 ∧ loB W T xs (k, nth) = -3 ∧ hiB W T xs (k, nth) = 1) ∨ (sRise W k nth = -1 ∧ loB W T xs (k, nth) = -1 ∧ hiB W T xs (k, nth) = 3)))) := by
  have hr : sRise W k nth = 1 ∨ sRise W k nth = -1 := by unfold sRise; split <;> simp
  refine ⟨hr, ?_⟩
  unfold loB hiB
  cases hb : sBoth W T xs k nth
  · left; simp
  · right
    refine ⟨rfl, ?_⟩
    rcases hr with e | e
    · left; rw [e]; exact ⟨rfl, rfl, rfl⟩
    · right; rw [e]; exact ⟨rfl, rfl, rfl⟩
theorem gt_wide (up : Bool) {W T : Int} {xs : List Bool} {X H : List Int} {N fk : Nat} (hs : simpleB W T xs = true) (hN : (W + 1) * (T + 1) = (N : Int)) (hf : frstK W T xs N = fk) (ht : tok W T xs X = true) (hH : HtsOf W T xs X H N)
    (hmax : ∀ M B, tok W T xs M = true → HtsOf W T xs M B N → ∀ k, k < N → if up then B.getD k 0 ≤ H.getD k 0 else H.getD k 0 ≤ B.getD k 0) :
    GT W T xs N fk (loW up W T xs) (hiW up W T xs) (sgnL up W T xs H N) := by
  obtain ⟨v1, v2, v3, v4, v5, v6⟩ := rv_true (simpleB_rv hs)
  have hp := hts_hok hs hN hf hH
  obtain ⟨hfN, hfa⟩ := first_hAt v1 hf
  have hend : ∀ k nth, k < N → sUsed W T xs k nth = true → (sTo W k nth).toNat < N ∧ hAt W T xs k = true ∧ hAt W T xs (sTo W k nth).toNat = true := by
    intro k nth hk hu
    obtain ⟨t0, t1, t2⟩ := sTo_lt v1 hu
    refine ⟨by omega, (hAt_iff v1).2 (Or.inl ⟨nth, hu⟩), (hAt_iff v1).2 (Or.inr ⟨k, nth, hu, by omega⟩)⟩
  have hdiff : ∀ k nth, k < N → sUsed W T xs k nth = true → (sRise W k nth = 1 ∨ sRise W k nth = -1) ∧ (H.getD (sTo W k nth).toNat 0 - H.getD k 0 = sRise W k nth ∨ (sBoth W T xs k nth = true ∧ H.getD (sTo W k nth).toNat 0 - H.getD k 0 = -3 * sRise W k nth)) := fun k nth hk hu => may_cases (hp.side k nth hk hu)
  refine ⟨hf, sgnL_len _ _ _ _ _ _, ?_, ?_, ?_, ?_, ?_, ?_⟩
  · intro k hk ha
    rw [sgnL_get hk, ha]; rfl
  · intro k hk ha
    have := hH.bd k hk ha
    rw [sgnL_get hk, ha, if_pos rfl]
    cases up <;> simp only [Bool.false_eq_true, if_false, if_true] <;> omega
  · rw [sgnL_get hfN, hfa, if_pos rfl, hp.first]; cases up <;> rfl
  · intro k nth hk hu
    obtain ⟨e1, e2, e3⟩ := hend k nth hk hu
    obtain ⟨hr, hd⟩ := hdiff k nth hk hu
    obtain ⟨_, hb⟩ := bnd_cases (W := W) (T := T) (xs := xs) k nth
    rw [sgnL_get e1, sgnL_get hk, e2, e3, if_pos rfl, if_pos rfl]
    unfold loW hiW
    generalize H.getD (sTo W k nth).toNat 0 = y at *
    generalize H.getD k 0 = x at *
    generalize loB W T xs (k, nth) = lo at *
    generalize hiB W T xs (k, nth) = hi at *
    generalize sRise W k nth = r at *
    generalize sBoth W T xs k nth = b at *
    rcases hb with ⟨rfl, rfl, rfl⟩ | ⟨rfl, ⟨rfl, rfl, rfl⟩ | ⟨rfl, rfl, rfl⟩⟩ <;> cases up <;> simp only [Bool.false_eq_true, if_false, if_true, false_and, or_false, true_and] at hd ⊢ <;> omega
  · rintro ⟨k, nth⟩
    obtain ⟨hr, hb⟩ := bnd_cases (W := W) (T := T) (xs := xs) k nth
    unfold loW hiW
    generalize loB W T xs (k, nth) = lo at *
    generalize hiB W T xs (k, nth) = hi at *
    generalize sRise W k nth = r at *
    generalize sBoth W T xs k nth = b at *
    rcases hb with ⟨rfl, rfl, rfl⟩ | ⟨rfl, ⟨rfl, rfl, rfl⟩ | ⟨rfl, rfl, rfl⟩⟩ <;> cases up <;> simp only [Bool.false_eq_true, if_false, if_true] <;> omega
  · intro E hE0 hE k0 hk0 ha0
    refine Classical.byContradiction fun hne => ?_
    classical
    obtain ⟨mv, hmv⟩ : ∃ mv : Int → Int, ∀ x, mv x = if up then x + 4 else x - 4 := ⟨_, fun _ => rfl⟩
    obtain ⟨K, hK⟩ : ∃ K : List Int, K = (List.range N).map fun k => if hAt W T xs k = true ∧ ¬ E k then mv (H.getD k 0) else H.getD k 0 := ⟨_, rfl⟩
    have hKg : ∀ k, k < N → K.getD k 0 = if hAt W T xs k = true ∧ ¬ E k then mv (H.getD k 0) else H.getD k 0 := by
      intro k hk; rw [hK]; simp [hk]
    have hKp : HokP W T xs K N fk := by
      refine ⟨hs, hN, hf, by rw [hK]; simp, ?_, ?_, ?_, ?_⟩
      · intro k hk ha
        rw [hKg k hk, if_neg (fun h => by rw [ha] at h; cases h.1)]
        exact hH.off k hk ha
      · intro k hk ha
        have := hH.bd k hk ha
        rw [hKg k hk]
        have hm1 := hmv (H.getD k 0)
        split
        · rw [hm1]; split <;> omega
        · omega
      · intro k nth hk hu
        obtain ⟨e1, e2, e3⟩ := hend k nth hk hu
        obtain ⟨hr, hd⟩ := hdiff k nth hk hu
        obtain ⟨_, hb⟩ := bnd_cases (W := W) (T := T) (xs := xs) k nth
        obtain ⟨t1, t2⟩ := hE k nth hk hu
        rw [sgnL_get e1, sgnL_get hk, e2, e3, if_pos rfl, if_pos rfl] at t1 t2
        unfold hiW at t1
        unfold loW at t2
        rw [hKg k hk, hKg _ e1]
        refine may_of ?_
        by_cases h1 : E k <;> by_cases h2 : E (sTo W k nth).toNat
        · rw [if_neg (fun h => h.2 h2), if_neg (fun h => h.2 h1)]; exact hd
        · rw [if_pos ⟨e3, h2⟩, if_neg (fun h => h.2 h1)]
          have t1' : ¬ _ := fun e => h2 (t1 h1 e)
          rw [hmv]
          clear t1 t2
          generalize H.getD (sTo W k nth).toNat 0 = y at *
          generalize H.getD k 0 = x at *
          generalize loB W T xs (k, nth) = lo at *
          generalize hiB W T xs (k, nth) = hi at *
          generalize sRise W k nth = r at *
          generalize sBoth W T xs k nth = b at *
          rcases hb with ⟨rfl, rfl, rfl⟩ | ⟨rfl, ⟨rfl, rfl, rfl⟩ | ⟨rfl, rfl, rfl⟩⟩ <;> cases up <;> simp only [Bool.false_eq_true, if_false, if_true, false_and, or_false, true_and] at hd t1' ⊢ <;> omega
        · rw [if_neg (fun h => h.2 h2), if_pos ⟨e2, h1⟩]
          have t2' : ¬ _ := fun e => h1 (t2 h2 e)
          rw [hmv]
          clear t1 t2
          generalize H.getD (sTo W k nth).toNat 0 = y at *
          generalize H.getD k 0 = x at *
          generalize loB W T xs (k, nth) = lo at *
          generalize hiB W T xs (k, nth) = hi at *
          generalize sRise W k nth = r at *
          generalize sBoth W T xs k nth = b at *
          rcases hb with ⟨rfl, rfl, rfl⟩ | ⟨rfl, ⟨rfl, rfl, rfl⟩ | ⟨rfl, rfl, rfl⟩⟩ <;> cases up <;> simp only [Bool.false_eq_true, if_false, if_true, false_and, or_false, true_and] at hd t2' ⊢ <;> omega
        · rw [if_pos ⟨e3, h2⟩, if_pos ⟨e2, h1⟩]
          have e : ∀ x y : Int, mv y - mv x = y - x := by intro x y; rw [hmv, hmv]; split <;> omega
          rw [e]; exact hd
      · rw [hKg fk hfN, if_neg (fun h => h.2 hE0)]; exact hp.first
    have hm := hmax _ K (tby_tok hKp) (tby_hts hKp) k0 hk0
    have hk0' : K.getD k0 0 = mv (H.getD k0 0) := by rw [hKg k0 hk0, if_pos ⟨ha0, hne⟩]
    rw [hk0', hmv] at hm
    cases up <;> simp only [Bool.false_eq_true, if_false, if_true] at hm <;> omega

/-- A tiling that is above all (below all). -/
def EdgeR (up : Bool) (W T : Int) (xs : List Bool) (X H : List Int) : Prop :=
  simpleB W T xs = true ∧ tok W T xs X = true ∧ HtsR W T xs X H ∧ ∀ M B, tok W T xs M = true → HtsR W T xs M B → ∀ k, k < H.length → if up then B.getD k 0 ≤ H.getD k 0 else H.getD k 0 ≤ B.getD k 0
theorem edge_unique {up : Bool} {W T : Int} {xs : List Bool} {X H X' H' : List Int} (h : EdgeR up W T xs X H) (h' : EdgeR up W T xs X' H') : X = X' ∧ H = H' := by
  obtain ⟨hs, ht, hH, hm⟩ := h
  obtain ⟨_, ht', hH', hm'⟩ := h'
  obtain ⟨hl, _⟩ := hts_len hs ht ht' hH hH'
  have e : H = H' := by
    refine ext_getD hl fun k hk => ?_
    have a := hm X' H' ht' hH' k hk
    have b := hm' X H ht hH k (by omega)
    cases up <;> simp only [Bool.false_eq_true, if_false, if_true] at a b <;> omega
  subst e
  exact ⟨hts_same hs ht ht' hH hH', rfl⟩
/-- One of a list of tilings, and what is above (below) all of them. -/
theorem fold_step (up : Bool) {W T : Int} {xs : List Bool} {X H M B : List Int} (hs : simpleB W T xs = true) (ht : tok W T xs X = true) (hH : HtsR W T xs X H) (htM : tok W T xs M = true) (hB : HtsR W T xs M B) :
    ∃ Y K, tlowF up W T xs H B = (Y, true) ∧ tok W T xs Y = true ∧ HtsR W T xs Y K ∧ Y.length = xs.length ∧ K.length = H.length ∧ (∀ k, k < H.length → if up then H.getD k 0 ≤ K.getD k 0 ∧ B.getD k 0 ≤ K.getD k 0 else K.getD k 0 ≤ H.getD k 0 ∧ K.getD k 0 ≤ B.getD k 0) := by
  obtain ⟨Y, h1, h2, h3, h4⟩ := low_mk up hs ht htM hH hB
  refine ⟨Y, _, h1, h2, h3, h4, bothL_len _ _ _ _, fun k hk => ?_⟩
  rw [both_get up H B hk]
  exact pick_le up _ _
theorem edge_exist (up : Bool) {W T : Int} {xs : List Bool} (hs : simpleB W T xs = true) : ∀ l : List (List Int), (∀ M ∈ l, tok W T xs M = true) → ∀ X H, tok W T xs X = true → HtsR W T xs X H → ∃ Y K, tok W T xs Y = true ∧ HtsR W T xs Y K ∧ K.length = H.length ∧ (∀ k, k < H.length → if up then H.getD k 0 ≤ K.getD k 0 else K.getD k 0 ≤ H.getD k 0) ∧ ∀ M ∈ l, ∀ B, HtsR W T xs M B → ∀ k, k < H.length → if up then B.getD k 0 ≤ K.getD k 0 else K.getD k 0 ≤ B.getD k 0
  | [], _, X, H, ht, hH => ⟨X, H, ht, hH, rfl, fun k _ => by cases up <;> simp, fun M hM => by cases hM⟩
  | M :: l, hl, X, H, ht, hH => by
    obtain ⟨B, hB⟩ := htsR_exist W T xs M
    obtain ⟨Y, K, _, h2, h3, _, h5, h6⟩ := fold_step up hs ht hH (hl M (List.mem_cons_self ..)) hB
    obtain ⟨Z, J, j1, j2, j3, j4, j5⟩ := edge_exist up hs l (fun N hN => hl N (List.mem_cons_of_mem _ hN)) Y K h2 h3
    refine ⟨Z, J, j1, j2, by rw [j3, h5], fun k hk => ?_, fun N hN C hC k hk => ?_⟩
    · have a := j4 k (by omega)
      have b := h6 k hk
      cases up <;> simp only [Bool.false_eq_true, if_false, if_true] at a b ⊢ <;> omega
    · rcases List.mem_cons.1 hN with rfl | hN'
      · have e := htsR_unique hC hB
        subst e
        have a := j4 k (by omega)
        have b := h6 k hk
        cases up <;> simp only [Bool.false_eq_true, if_false, if_true] at a b ⊢ <;> omega
      · exact j5 N hN' C hC k (by omega)
theorem edge_some (up : Bool) {W T : Int} {xs : List Bool} {L : List Int} (hs : simpleB W T xs = true) (ht : tok W T xs L = true) : ∃ X H, EdgeR up W T xs X H := by
  obtain ⟨A, hA⟩ := htsR_exist W T xs L
  obtain ⟨X, H, h1, h2, h3, _, h5⟩ := edge_exist up hs (allF W T xs) (fun M hM => by
    obtain ⟨i, hi, e⟩ := List.getElem_of_mem hM
    have := (allF_row (W := W) (T := T) (xs := xs) hi).2
    rw [show (allF W T xs).getD i [] = M by rw [← e]; simp [List.getD, hi]] at this
    exact this) L A ht hA
  exact ⟨X, H, hs, h1, h2, fun M B hM hB k hk => h5 M (mem_allF hM) B hB k (by omega)⟩
theorem edge_gt {up : Bool} {W T : Int} {xs : List Bool} {X H : List Int} {N fk : Nat} (hN : (W + 1) * (T + 1) = (N : Int)) (hf : frstK W T xs N = fk) (h : EdgeR up W T xs X H) : GT W T xs N fk (loW up W T xs) (hiW up W T xs) (sgnL up W T xs H N) := by
  obtain ⟨hs, ht, hH, hm⟩ := h
  have eN : ((W + 1) * (T + 1)).toNat = N := by omega
  have full : ∀ {M B : List Int}, tok W T xs M = true → HtsR W T xs M B → HtsOf W T xs M B N := by
    intro M B hM hB
    rcases hB with ⟨_, h⟩ | ⟨h, _⟩
    · rw [eN] at h; exact h
    · rw [hs, hM] at h; cases h
  have hHf := full ht hH
  refine gt_wide up hs hN hf ht hHf fun M B hM hB k hk => hm M B hM (Or.inl ⟨by rw [hs, hM]; rfl, by rw [eN]; exact hB⟩) k (by rw [hHf.len]; exact hk)
/-- What Highest (Lowest) tells. -/
def LowRes (up : Bool) (W T : Int) (xs : List Bool) (X : List Int) (ok : Bool) : Prop :=
  (ok = true ∧ ∃ H, EdgeR up W T xs X H) ∨ (ok = false ∧ X = [] ∧ (simpleB W T xs = false ∨ ∀ L, tok W T xs L = false))
theorem lowRes_exist (up : Bool) (W T : Int) (xs : List Bool) : ∃ X ok, LowRes up W T xs X ok := by
  cases hs : simpleB W T xs
  · exact ⟨[], false, Or.inr ⟨rfl, rfl, Or.inl hs⟩⟩
  · cases hl : allF W T xs with
    | nil =>
      refine ⟨[], false, Or.inr ⟨rfl, rfl, Or.inr fun L => ?_⟩⟩
      cases ht : tok W T xs L
      · rfl
      · have := mem_allF ht; rw [hl] at this; cases this
    | cons M l =>
      have ht : tok W T xs M = true := by
        have := (allF_row (W := W) (T := T) (xs := xs) (i := 0) (by rw [hl]; simp)).2
        rw [hl] at this; exact this
      obtain ⟨X, H, h⟩ := edge_some up hs ht
      exact ⟨X, true, Or.inl ⟨rfl, H, h⟩⟩
theorem LowRes.len {up : Bool} {W T : Int} {xs : List Bool} {X : List Int} {ok : Bool} (h : LowRes up W T xs X ok) : X.length ≤ xs.length := by
  rcases h with ⟨_, H, _, ht, _⟩ | ⟨_, rfl, _⟩
  · rw [(lok_rv (tok_lok1 ht)).2.1]; exact Nat.le_refl _
  · simp
/-- Where there is no tiling, no heights are right. -/
theorem hok_none {W T : Int} {xs : List Bool} (h : ∀ L, tok W T xs L = false) (H : List Int) : hokB W T xs H = false := by
  cases hc : hokB W T xs H
  · rfl
  · have := (tby_to hc).2.2.1
    rw [h] at this; cases this

end Go.Proofs.Ythpifnjoiklgnaa

namespace Go.Proofs.Ythpifnjoiklgnaa
open Go.RowKit
set_option linter.unusedVariables false
set_option maxRecDepth 100000
set_option linter.unusedSimpArgs false

/-- Least and most along a side, by what a side holds. -/
def loR (b : Bool) (r : Int) : Int := if b then (if -3 * r < r then -3 * r else r) else r
def hiR (b : Bool) (r : Int) : Int := if b then (if r < -3 * r then -3 * r else r) else r
set_option maxHeartbeats 4000000 in
theorem boundsOf_any (k kt r cl wy : Int) (b : Bool) (w : World) (hr : r = 1 ∨ r = -1) :
    Calls Try.prog 28 #[.agg #[.int .i64 k, .int .i64 kt, .int .i64 r, .bool b, .int .i64 cl, .int .i64 wy]] w fun e w' => e = .returned (.tuple #[.int .i64 (loR b r), .int .i64 (hiR b r)]) ∧ Below w.heap.size w w' := by
  obtain ⟨wA, hwA⟩ : ∃ wA, wA = w.alloc (.cells #[.int .i64 k, .int .i64 kt, .int .i64 r, .bool b, .int .i64 cl, .int .i64 wy] 58) := ⟨_, rfl⟩
  have pA : wA.heap[w.heap.size]? = some (.cells #[.int .i64 k, .int .i64 kt, .int .i64 r, .bool b, .int .i64 cl, .int .i64 wy] 58 (0, 0)) := by rw [hwA]; exact heap_new _ _
  have bA : Below w.heap.size w wA := by rw [hwA]; exact below1 _ _
  obtain ⟨c0, c1, c2, c3, c4, c5⟩ := cells6 pA
  cases b
  · go_enter Try.func28, Try.ntmps28
    go_wp2_with fail
    rw [← hwA]; clear hwA
    go_wp2
    go_quiet (fail)
    go_wp2
    go_ret2
    first
      | exact ⟨rfl, bA⟩
      | exact ⟨rfl, below_seq bA (drew_below _)⟩
      | exact ⟨rfl, below_seq bA (drewN_below _ _)⟩
  · obtain ⟨j, hj⟩ : ∃ j, -3 * r = j := ⟨_, rfl⟩
    obtain ⟨lo, hlo⟩ : ∃ lo, loR true r = lo := ⟨_, rfl⟩
    obtain ⟨hi, hhi⟩ : ∃ hi, hiR true r = hi := ⟨_, rfl⟩
    rw [hlo, hhi]
    unfold loR at hlo
    unfold hiR at hhi
    simp only [if_true] at hlo hhi
    rw [hj] at hlo hhi
    have m1 : (if r < j then r else j) = lo := by rw [← hlo]; split <;> split <;> omega
    have m2 : (if j < r then r else j) = hi := by rw [← hhi]; split <;> split <;> omega
    have HJ := Lib.hid hj; clear hj
    have HR := Lib.hid hr; clear hr
    go_enter Try.func28, Try.ntmps28
    go_wp2_with fail
    rw [← hwA]; clear hwA
    go_region_held3 (fun w' => w'.cell? ⟨w.heap.size, 0, none⟩ = some (.int .i64 k) ∧ w'.cell? ⟨w.heap.size, 1, none⟩ = some (.int .i64 kt) ∧ w'.cell? ⟨w.heap.size, 2, none⟩ = some (.int .i64 r) ∧ w'.cell? ⟨w.heap.size, 3, none⟩ = some (.bool true) ∧ w'.cell? ⟨w.heap.size, 4, none⟩ = some (.int .i64 cl) ∧ w'.cell? ⟨w.heap.size, 5, none⟩ = some (.int .i64 wy))
      (go_keep)
      (first
        | (go_at_call 44; refine (jumpOf_any k kt r cl wy true _ HR.out).mono ?_; rintro e w2 ⟨rfl, hb2⟩; rw [HJ.out]; have p2 := heap_later p1 hb2; have b2 := below_seq b1 hb2; obtain ⟨e0, e1, e2, e3, e4, e5⟩ := cells6 p2)
        | (go_at_call 44; refine (jumpOf_any k kt r cl wy true _ HR.out).mono ?_; rintro e w1 ⟨rfl, hb1⟩; rw [HJ.out]; have p1 := heap_later (show wA.drew.heap[w.heap.size]? = some _ from pA) hb1; have b1 : Below w.heap.size w w1 := below_seq bA (below_seq (drew_below _) hb1); obtain ⟨d0, d1, d2, d3, d4, d5⟩ := cells6 p1))
    all_goals
      go_wp2
      go_ret2
      exact ⟨rfl, b2⟩
end Go.Proofs.Ythpifnjoiklgnaa

namespace Go.Proofs.Ythpifnjoiklgnaa
open Go.RowKit
set_option linter.unusedVariables false
set_option maxRecDepth 100000
set_option linter.unusedSimpArgs false

/-- At a lie lists that read so. -/
def RowsAt (w : World) (a : Option Addr) (rows : List (List Int)) : Prop :=
  ∀ i, i < rows.length → ∃ b off a' cap, a = some ⟨b, off, none⟩ ∧ w.cell? ⟨b, off + i, none⟩ = some (.slice a' (rows.getD i []).length cap) ∧ IntsAt w a' (rows.getD i [])
theorem RowsAt.later {w w' : World} {B : Nat} {a : Option Addr} {rows : List (List Int)} (h : RowsAt w a rows) (hb : Below B w w') (hB : w.heap.size ≤ B) : RowsAt w' a rows := by
  intro i hi
  obtain ⟨b, off, a', cap, e, hc, hx⟩ := h i hi
  have hlt := World.block_lt_of_cell? w _ hc
  simp only at hlt
  exact ⟨b, off, a', cap, e, (hb.cell (p := ⟨b, off + i, none⟩) (by show b < B; omega)).trans hc, hx.later hb hB⟩
theorem RowsAt.below {w w' : World} {a : Option Addr} {rows : List (List Int)} (h : RowsAt w a rows) (hb : Below w.heap.size w w') : RowsAt w' a rows := h.later hb (Nat.le_refl _)
theorem RowsAt.one {w : World} {a : Option Addr} {rows : List (List Int)} (h : RowsAt w a rows) (o : Obj) : RowsAt (w.alloc o) a rows := h.below (below1 w o)
theorem own_form {w : World} {B : Nat} {v : Value} {M : List Int} (h : OwnsI w B v M) : ∃ a cap, v = .slice a M.length cap ∧ IntsAt w a M := by
  obtain ⟨a, cap, rfl⟩ := h.form2
  exact ⟨a, cap, rfl, OwnsI.at h⟩
theorem OwnsSS.at {w : World} {B : Nat} {a : Option Addr} {n cap : Nat} {rows : List (List Int)} (h : OwnsSS w B (.slice a n cap) rows) : RowsAt w a rows := by
  obtain ⟨ws, h1, h2⟩ := h
  intro i hi
  obtain ⟨a', cap', e, hx⟩ := own_form (h2.own i hi)
  rcases h1.2 with ⟨_, h0⟩ | ⟨g, cap2, cur, hv, _⟩
  · omega
  · simp only [Value.slice.injEq] at hv
    obtain ⟨rfl, rfl, rfl⟩ := hv
    refine ⟨g, 0, a', cap', rfl, ?_, hx⟩
    have hl : i < ws.length := by rw [h2.len]; exact hi
    rw [Nat.zero_add, World.ownsRow.cellAt (xs := ws) h1 i (by omega)]
    have e2 : ws.getD i (.slice none 0 0) = ws[i] := by simp [List.getD, hl]
    rw [e2] at e
    rw [List.getElem?_eq_getElem hl, e]
theorem RowsAt.cell {w : World} {a : Option Addr} {rows : List (List Int)} (h : RowsAt w a rows) {i : Nat} (hi : i < rows.length) {b off : Nat} (e : a = some ⟨b, off, none⟩) : ∃ a' cap, w.cell? ⟨b, off + i, none⟩ = some (.slice a' (rows.getD i []).length cap) ∧ IntsAt w a' (rows.getD i []) := by
  obtain ⟨b', off', a', cap, e', hc, hx⟩ := h i hi
  rw [e] at e'
  cases e'
  exact ⟨a', cap, hc, hx⟩

end Go.Proofs.Ythpifnjoiklgnaa

namespace Go.Proofs.Ythpifnjoiklgnaa
open Go.RowKit
set_option linter.unusedVariables false
set_option maxRecDepth 100000
set_option linter.unusedSimpArgs false

theorem own_nil_litL (w : World) {B : Nat} (hB : B ≤ w.heap.size) : OwnsI (w.alloc (.cells #[] 3 (0, 0))) B (.slice (some ⟨w.heap.size, 0, none⟩) 0 0) [] :=
  own_nil_litT w hB
theorem ownsRow_belowW {w w' : World} {B n : Nat} {e : TypeId} {v : Value} {xs : List Value} (h : w.ownsRow B e 1 v n xs) (hb : Below w.heap.size w w') : w'.ownsRow B e 1 v n xs := h.kept (grown_of_below hb none) (by cases v.ownBlock <;> simp)
/-- A row that is read out of lists of one's own is one's own. -/
theorem row_owned {w : World} {B n acap : Nat} {aa : Option Addr} {ws : List Value} {rows : List (List Int)} (h1 : w.ownsRow B 26 1 (.slice aa n acap) n ws) (hn : n = rows.length) (h2 : RowsI w B ws rows) {y b o m cap' : Nat} {a' : Option Addr} (hy : y < n) (e : aa = some ⟨b, o, none⟩) (hc : w.cell? ⟨b, o + y, none⟩ = some (.slice a' m cap')) : OwnsI w B (.slice a' m cap') (rows.getD y []) := by
  have ho := h2.own y (by omega)
  have hl : y < ws.length := by rw [h2.len]; omega
  have h1' := h1
  rcases h1.2 with ⟨hv, _⟩ | ⟨g, cap2, cur, hv, _⟩
  · rw [e] at hv; simp at hv
  · simp only [Value.slice.injEq] at hv
    obtain ⟨rfl, _, rfl⟩ := hv
    simp only [Option.some.injEq, Addr.mk.injEq] at e
    obtain ⟨rfl, rfl, _⟩ := e
    rw [Nat.zero_add, World.ownsRow.cellAt (xs := ws) h1' y (show y < n * 1 by omega), List.getElem?_eq_getElem hl] at hc
    have e2 : ws.getD y (.slice none 0 0) = ws[y] := by simp [List.getD, hl]
    rw [e2, Option.some.inj hc] at ho
    exact ho
end Go.Proofs.Ythpifnjoiklgnaa
