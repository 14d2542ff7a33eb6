/- Plain facts: what the spreading of heights keeps from side to side. Merged of: HtsP, HtsQ. -/
import Derived.Test.YtpcajacekmidbaaGreatKHtsN
import Derived.Test.YtpcajacekmidbaaGreatKHokI
namespace Go.Proofs.YtpcajacekmidbaaGreat
open Go.RowKit
set_option linter.unusedVariables false
set_option maxRecDepth 100000
set_option linter.unusedSimpArgs false

def maskL (H : List Int) (R : Nat → Bool) (N : Nat) : List Int := (List.range N).map fun j => if R j then H.getD j 0 else 99
theorem maskL_len (H : List Int) (R : Nat → Bool) (N : Nat) : (maskL H R N).length = N := by simp [maskL]
theorem maskL_get {H : List Int} {R : Nat → Bool} {N k : Nat} (hk : k < N) : (maskL H R N).getD k 0 = if R k then H.getD k 0 else 99 := by simp [maskL, hk]
theorem maskL_set {H : List Int} {R : Nat → Bool} {N k : Nat} {v : Int} (hv : v = H.getD k 0) (hk : k < N) : (maskL H R N).set k v = maskL H (fun j => if j = k then true else R j) N := by
 subst hv
 refine ext_getD (by simp [maskL]) fun j hj => ?_
 rw [List.length_set, maskL_len] at hj
 rw [getD_set1, maskL_len, maskL_get hj, maskL_get hj]
 by_cases e : j = k
 · subst e; rw [if_pos ⟨rfl, hj⟩, if_pos rfl, if_pos rfl]
 · rw [if_neg (fun h => e h.1), if_neg e]
theorem maskL_none (H : List Int) (N : Nat) : maskL H (fun _ => false) N = List.replicate N 99 := by
 refine ext_getD (by simp [maskL]) fun j hj => ?_
 rw [maskL_len] at hj
 rw [maskL_get hj]; simp [hj]
def reN (R : Nat → Bool) (N : Nat) : Nat := (List.range N).countP R
theorem reN_le (R : Nat → Bool) (N : Nat) : reN R N ≤ N := by
 have := List.countP_le_length (p := R) (l := List.range N)
 rwa [List.length_range] at this
theorem reN_set {R : Nat → Bool} {N k : Nat} (hk : k < N) (h : R k = false) : reN (fun j => if j = k then true else R j) N = reN R N + 1 := countP_set hk h
theorem reN_none (N : Nat) : reN (fun _ => false) N = 0 := by unfold reN; simp

theorem frstK_stay {W T : Int} {xs : List Bool} {n N : Nat} (h : 0 ≤ frstK W T xs n) (hN : n ≤ N) : frstK W T xs N = frstK W T xs n := by
 induction hN with
 | refl => rfl
 | step _ ih => rw [frstK_succ, ih, if_neg (by omega)]
theorem first_is {W T : Int} {xs : List Bool} {N k j : Nat} {nth : Bool} (hk : k < N) (hu : sUsed W T xs k nth = true) (hP : sidesJ W T xs k j = []) : frstK W T xs N = k := by
 have h0 : frstK W T xs k < 0 := by
  apply Classical.byContradiction; intro hc
  obtain ⟨nth', rest, e⟩ := sidesK_head (W := W) (T := T) (xs := xs) (n := k) (by omega)
  unfold sidesJ at hP
  rw [e] at hP; simp at hP
 have h1 : frstK W T xs (k + 1) = k := by
  rw [frstK_succ, if_pos h0]
  cases nth
  · rw [hu]; simp
  · rw [hu]; simp
 rw [frstK_stay (n := k + 1) (by omega) (by omega), h1]

structure PassI (W T : Int) (xs : List Bool) (N fk : Nat) (P : List (Nat × Bool)) (R0 : Nat) (f : Int) (c : Bool) (R : Nat → Bool) : Prop where
 at_ : ∀ j, R j = true → hAt W T xs j = true
 fst : (f = fk ∧ R fk = true) ∨ (f = -1 ∧ P = [] ∧ R = fun _ => false)
 even : c = false → ∀ s ∈ P, R s.1 = R (sTo W s.1 s.2).toNat
 more : c = true → R0 < reN R N
 le : R0 ≤ reN R N
theorem PassI.begin {W T : Int} {xs : List Bool} {N fk : Nat} {R : Nat → Bool} {f : Int} (h1 : ∀ j, R j = true → hAt W T xs j = true) (h2 : (f = fk ∧ R fk = true) ∨ (f = -1 ∧ R = fun _ => false)) : PassI W T xs N fk (sidesK W T xs 0) (reN R N) f false R :=
 ⟨h1, h2.elim Or.inl (fun h => Or.inr ⟨h.1, rfl, h.2⟩), (fun _ s hs => by cases hs), (fun h => by cases h), Nat.le_refl _⟩
theorem PassI.first {W T : Int} {xs : List Bool} {N fk : Nat} {P : List (Nat × Bool)} {R0 : Nat} {f : Int} {c : Bool} {R : Nat → Bool} (h : PassI W T xs N fk P R0 f c R) (hf : f < 0) (hfk : fk < N) (hat : hAt W T xs fk = true) : PassI W T xs N fk P R0 (fk : Int) c (fun j => if j = fk then true else R j) := by
 rcases h.fst with ⟨e, _⟩ | ⟨e, hP, hR⟩
 · omega
 have hc : c = false := by
  cases c
  · rfl
  · have := h.more rfl
    rw [hR, reN_none] at this; omega
 refine ⟨fun j hj => ?_, Or.inl ⟨rfl, by simp⟩, (fun _ s hs => by rw [hP] at hs; cases hs), (fun h' => by rw [hc] at h'; cases h'), ?_⟩
 · by_cases e : j = fk
   · rw [e]; exact hat
   · simp only [if_neg e] at hj; exact h.at_ j hj
 · rw [reN_set hfk (by rw [hR])]; have := h.le; omega
theorem PassI.same {W T : Int} {xs : List Bool} {N fk : Nat} {P : List (Nat × Bool)} {R0 : Nat} {c : Bool} {R : Nat → Bool} {k kt : Nat} {nth : Bool} (h : PassI W T xs N fk P R0 (fk : Int) c R) (ht : sTo W k nth = kt) (he : R k = R kt) : PassI W T xs N fk (P ++ [(k, nth)]) R0 (fk : Int) c R := by
 refine ⟨h.at_, Or.inl (h.fst.elim id fun q => by have := q.1; omega), fun hc s hs => ?_, h.more, h.le⟩
 rw [List.mem_append, List.mem_singleton] at hs
 rcases hs with hs | rfl
 · exact h.even hc s hs
 · rw [ht, Int.toNat_natCast]; exact he
theorem PassI.reach {W T : Int} {xs : List Bool} {N fk : Nat} {P P' : List (Nat × Bool)} {R0 : Nat} {c : Bool} {R : Nat → Bool} {q : Nat} (h : PassI W T xs N fk P R0 (fk : Int) c R) (hq : q < N) (hat : hAt W T xs q = true) (hR : R q = false) : PassI W T xs N fk P' R0 (fk : Int) true (fun j => if j = q then true else R j) := by
 have hf : R fk = true := h.fst.elim (fun q => q.2) fun q => by have := q.1; omega
 refine ⟨fun j hj => ?_, Or.inl ⟨rfl, ?_⟩, (fun h' => by cases h'), fun _ => ?_, ?_⟩
 · by_cases e : j = q
   · rw [e]; exact hat
   · simp only [if_neg e] at hj; exact h.at_ j hj
 · by_cases e : fk = q
   · rw [e] at hf; rw [hf] at hR; cases hR
   · simp only [if_neg e]; exact hf
 · rw [reN_set hq hR]; have := h.le; omega
 · rw [reN_set hq hR]; have := h.le; omega
theorem PassI.done {W T : Int} {xs : List Bool} {L H : List Int} {N fk : Nat} {R0 : Nat} {f : Int} {R : Nat → Bool} (hs : simpleB W T xs = true) (hN : (W + 1) * (T + 1) = (N : Int)) (hfk : frstK W T xs N = fk) (hH : HtsOf W T xs L H N) (h : PassI W T xs N fk (sidesK W T xs N) R0 f false R) : maskL H R N = H := by
 obtain ⟨v1, v2, v3, v4, v5, v6⟩ := rv_true (simpleB_rv hs)
 have hf : R fk = true := by
  rcases h.fst with q | q
  · exact q.2
  · obtain ⟨nth, rest, e⟩ := sidesK_head (W := W) (T := T) (xs := xs) (n := N) (by rw [hfk]; omega)
    rw [q.2.1] at e; cases e
 have all := corners_all hs hfk (fun k => R k = true) hf (fun k nth hu => by
  obtain ⟨t0, t1, t2⟩ := sTo_lt v1 hu
  have := h.even rfl (k, nth) (sidesK_mem.2 ⟨by omega, hu⟩)
  simp only at this
  rw [this])
 refine ext_getD (by rw [maskL_len, hH.len]) fun j hj => ?_
 rw [maskL_len] at hj
 rw [maskL_get hj]
 cases hr : R j
 · rw [if_neg (by simp)]
   cases ha : hAt W T xs j
   · exact (hH.off j hj ha).symm
   · rw [all j ha] at hr; cases hr
 · rw [if_pos rfl]

theorem step_side {W T : Int} {xs : List Bool} {k : Nat} {nth : Bool} (hW : 1 ≤ W) (h : sBoth W T xs k nth = true) {v : Int} (h1 : 1 ≤ v) (h4 : v ≤ 4) : (stepI W T (sCell W k nth) v == sOther W k nth) = (v == sWay nth) := by
 unfold sBoth at h
 rw [Bool.and_eq_true] at h
 obtain ⟨hl, hr⟩ := h
 obtain ⟨a0, a1, a2, a3⟩ := atB_in (show atB W T xs (sLx W k nth) (ky W k) = true from hl)
 obtain ⟨b0, b1, b2, b3⟩ := atB_in (show atB W T xs (kx W k) (sRy W k nth) = true from hr)
 obtain ⟨c, hc, cx, cy, hcl⟩ := place_idx a0 a1 a2 a3
 have e : sCell W k nth = (c : Int) := hc.symm
 rw [e]
 unfold stepI
 rw [cx, cy]
 have hce : nth = false → (c : Int) = ky W k * W + kx W k := by intro h; subst h; exact hc
 have ho : sOther W k nth = if nth then (c : Int) + 1 else (c : Int) - W := by
  unfold sOther
  rw [hc]
  cases nth
  · unfold sRy sLx; simp only [Bool.false_eq_true, if_false]; rw [Int.sub_mul]; omega
  · unfold sRy sLx; simp only [if_true]; omega
 clear e hc hl hr cx cy
 unfold sWay
 unfold sLx at a0 a1 ⊢
 unfold sRy at b2 b3
 have hv : v = 1 ∨ v = 2 ∨ v = 3 ∨ v = 4 := by omega
 rw [Bool.eq_iff_iff]
 simp only [beq_iff_eq]
 cases nth
 · simp only [Bool.false_eq_true, if_false] at a0 a1 b2 b3 ho ⊢
   rw [ho]
   have hcW : (c : Int) = ky W k * W + kx W k := hce rfl
   rcases hv with rfl | rfl | rfl | rfl
   · constructor
     · intro q
       by_cases h : kx W k < W - 1
       · rw [if_pos ⟨rfl, h⟩] at q; omega
       · rw [if_neg (by omega), if_neg (by omega), if_neg (by omega), if_neg (by omega)] at q
         have : 0 ≤ (ky W k - 1) * W := Int.mul_nonneg b2 (by omega)
         rw [Int.sub_mul] at this; omega
     · intro q; omega
   · constructor
     · intro q
       by_cases h : ky W k < T - 1
       · rw [if_neg (by omega), if_pos ⟨rfl, h⟩] at q; omega
       · rw [if_neg (by omega), if_neg (by omega), if_neg (by omega), if_neg (by omega)] at q
         have : 0 ≤ (ky W k - 1) * W := Int.mul_nonneg b2 (by omega)
         rw [Int.sub_mul] at this; omega
     · intro q; omega
   · constructor
     · intro q
       by_cases h : 0 < kx W k
       · rw [if_neg (by omega), if_neg (by omega), if_pos ⟨rfl, h⟩] at q; omega
       · rw [if_neg (by omega), if_neg (by omega), if_neg (by omega), if_neg (by omega)] at q
         have : 0 ≤ (ky W k - 1) * W := Int.mul_nonneg b2 (by omega)
         rw [Int.sub_mul] at this; omega
     · intro q; omega
   · rw [if_neg (by omega), if_neg (by omega), if_neg (by omega), if_pos ⟨rfl, by omega⟩]
     simp
 · simp only [if_true] at a0 a1 b2 b3 ho ⊢
   rw [ho]
   rcases hv with rfl | rfl | rfl | rfl
   · rw [if_pos ⟨rfl, by omega⟩]; simp
   · constructor
     · intro q
       by_cases h : ky W k < T - 1
       · rw [if_neg (by omega), if_pos ⟨rfl, h⟩] at q
         have : kx W k ≤ W - 1 := by omega
         omega
       · rw [if_neg (by omega), if_neg (by omega), if_neg (by omega), if_neg (by omega)] at q; omega
     · intro q; omega
   · constructor
     · intro q
       by_cases h : 0 < kx W k - 1
       · rw [if_neg (by omega), if_neg (by omega), if_pos ⟨rfl, h⟩] at q; omega
       · rw [if_neg (by omega), if_neg (by omega), if_neg (by omega), if_neg (by omega)] at q; omega
     · intro q; omega
   · constructor
     · intro q
       by_cases h : 0 < ky W k
       · rw [if_neg (by omega), if_neg (by omega), if_neg (by omega), if_pos ⟨rfl, h⟩] at q; omega
       · rw [if_neg (by omega), if_neg (by omega), if_neg (by omega), if_neg (by omega)] at q; omega
     · intro q; omega
end Go.Proofs.YtpcajacekmidbaaGreat

namespace Go.Proofs.YtpcajacekmidbaaGreat
open Go.RowKit
set_option linter.unusedVariables false
set_option maxRecDepth 100000
set_option linter.unusedSimpArgs false

structure GT (W T : Int) (xs : List Bool) (N fk : Nat) (lo hi : Nat × Bool → Int) (G : List Int) : Prop where
 fst : frstK W T xs N = fk
 len : G.length = N
 off : ∀ k, k < N → hAt W T xs k = false → G.getD k 0 = 99
 bd : ∀ k, k < N → hAt W T xs k = true → -60 ≤ G.getD k 0 ∧ G.getD k 0 ≤ 60
 first : G.getD fk 0 = 0
 side : ∀ k nth, k < N → sUsed W T xs k nth = true → lo (k, nth) ≤ G.getD (sTo W k nth).toNat 0 - G.getD k 0 ∧ G.getD (sTo W k nth).toNat 0 - G.getD k 0 ≤ hi (k, nth)
 small : ∀ s, -3 ≤ lo s ∧ lo s ≤ 3 ∧ -3 ≤ hi s ∧ hi s ≤ 3
 tight : ∀ E : Nat → Prop, E fk → (∀ k nth, k < N → sUsed W T xs k nth = true → (E k → G.getD (sTo W k nth).toNat 0 = G.getD k 0 + hi (k, nth) → E (sTo W k nth).toNat) ∧ (E (sTo W k nth).toNat → G.getD k 0 = G.getD (sTo W k nth).toNat 0 - lo (k, nth) → E k)) → ∀ k, k < N → hAt W T xs k = true → E k
structure GInv (W T : Int) (xs : List Bool) (N fk : Nat) (G C : List Int) : Prop where
 len : C.length = N
 off : ∀ k, k < N → hAt W T xs k = false → C.getD k 0 = 99
 on : ∀ k, k < N → hAt W T xs k = true → G.getD k 0 ≤ C.getD k 0 ∧ C.getD k 0 ≤ 99
 first : C.getD fk 0 = 0
def exN (W T : Int) (xs : List Bool) (N : Nat) (G C : List Int) : Nat := (List.range N).countP fun k => hAt W T xs k && (C.getD k 0 == G.getD k 0)
def allE (W T : Int) (xs : List Bool) (N : Nat) (G C : List Int) : Prop := ∀ k, k < N → hAt W T xs k = true → C.getD k 0 = G.getD k 0
structure GPass (W T : Int) (xs : List Bool) (N fk : Nat) (lo hi : Nat × Bool → Int) (G C0 : List Int) (P : List (Nat × Bool)) (C : List Int) : Prop where
 inv : GInv W T xs N fk G C
 le : ∀ k, k < N → C.getD k 0 ≤ C0.getD k 0
 done : ∀ s ∈ P, (C0.getD s.1 0 = G.getD s.1 0 → G.getD (sTo W s.1 s.2).toNat 0 = G.getD s.1 0 + hi s → C.getD (sTo W s.1 s.2).toNat 0 = G.getD (sTo W s.1 s.2).toNat 0) ∧
  (C0.getD (sTo W s.1 s.2).toNat 0 = G.getD (sTo W s.1 s.2).toNat 0 → G.getD s.1 0 = G.getD (sTo W s.1 s.2).toNat 0 - lo s → C.getD s.1 0 = G.getD s.1 0)
theorem GPass.begin {W T : Int} {xs : List Bool} {N fk : Nat} {lo hi : Nat × Bool → Int} {G C : List Int} (h : GInv W T xs N fk G C) : GPass W T xs N fk lo hi G C [] C :=
 ⟨h, fun _ _ => Int.le_refl _, fun _ hs => by cases hs⟩
theorem GPass.step {W T : Int} {xs : List Bool} {N fk k kt : Nat} {nth : Bool} {lo hi : Nat × Bool → Int} {G C0 C : List Int} {P : List (Nat × Bool)} (hW : 1 ≤ W) (hg : GT W T xs N fk lo hi G) (h : GPass W T xs N fk lo hi G C0 P C) (hk : k < N) (hkt : kt < N) (hu : sUsed W T xs k nth = true) (ht : sTo W k nth = kt) (hne : k ≠ kt)
 {x1 y1 : Int} (hy : y1 = if C.getD k 0 + hi (k, nth) < C.getD kt 0 then C.getD k 0 + hi (k, nth) else C.getD kt 0) (hx : x1 = if y1 - lo (k, nth) < C.getD k 0 then y1 - lo (k, nth) else C.getD k 0) :
 GPass W T xs N fk lo hi G C0 (P ++ [(k, nth)]) ((C.set kt y1).set k x1) := by
 have hak : hAt W T xs k = true := (hAt_iff hW).2 (Or.inl ⟨nth, hu⟩)
 have hakt : hAt W T xs kt = true := (hAt_iff hW).2 (Or.inr ⟨k, nth, hu, ht⟩)
 have hsd := hg.side k nth hk hu
 rw [ht, Int.toNat_natCast] at hsd
 have ax := h.inv.on k hk hak
 have ay := h.inv.on kt hkt hakt
 have lx := h.le k hk
 have ly := h.le kt hkt
 have get : ∀ j, j < N → ((C.set kt y1).set k x1).getD j 0 = if j = k then x1 else if j = kt then y1 else C.getD j 0 := by
  intro j hj
  rw [getD_set2 (by rw [h.inv.len]; exact hkt) (by rw [h.inv.len]; exact hk)]
 have y1a : y1 ≤ C.getD kt 0 ∧ y1 ≤ C.getD k 0 + hi (k, nth) ∧ G.getD kt 0 ≤ y1 := by rw [hy]; split <;> omega
 have x1a : x1 ≤ C.getD k 0 ∧ x1 ≤ y1 - lo (k, nth) ∧ G.getD k 0 ≤ x1 := by rw [hx]; split <;> omega
 have mono : ∀ j, j < N → ((C.set kt y1).set k x1).getD j 0 ≤ C.getD j 0 := by
  intro j hj
  rw [get j hj]
  by_cases e : j = k
  · subst e; rw [if_pos rfl]; omega
  · rw [if_neg e]
    by_cases e2 : j = kt
    · subst e2; rw [if_pos rfl]; omega
    · rw [if_neg e2]; omega
 have low : ∀ j, j < N → hAt W T xs j = true → G.getD j 0 ≤ ((C.set kt y1).set k x1).getD j 0 := by
  intro j hj ha
  rw [get j hj]
  by_cases e : j = k
  · subst e; rw [if_pos rfl]; omega
  · rw [if_neg e]
    by_cases e2 : j = kt
    · subst e2; rw [if_pos rfl]; omega
    · rw [if_neg e2]; exact (h.inv.on j hj ha).1
 obtain ⟨hfN, hfa⟩ := first_hAt hW hg.fst
 refine ⟨⟨by rw [List.length_set, List.length_set]; exact h.inv.len, ?_, ?_, ?_⟩, fun j hj => Int.le_trans (mono j hj) (h.le j hj), ?_⟩
 · intro j hj ha
   rw [get j hj, if_neg (by rintro rfl; rw [hak] at ha; cases ha), if_neg (by rintro rfl; rw [hakt] at ha; cases ha)]
   exact h.inv.off j hj ha
 · intro j hj ha
   exact ⟨low j hj ha, Int.le_trans (mono j hj) (h.inv.on j hj ha).2⟩
 · have a := low fk hfN hfa
   have b := mono fk hfN
   rw [h.inv.first] at b
   rw [hg.first] at a
   omega
 · intro s hs
   rw [List.mem_append, List.mem_singleton] at hs
   rcases hs with hs | rfl
   · obtain ⟨d1, d2⟩ := h.done s hs
     refine ⟨fun e1 e2 => ?_, fun e1 e2 => ?_⟩
     · have d := d1 e1 e2
       by_cases hb : (sTo W s.1 s.2).toNat < N
       · have m := mono _ hb
         cases ha : hAt W T xs (sTo W s.1 s.2).toNat
         · rw [get _ hb, if_neg (by intro e; rw [e, hak] at ha; cases ha), if_neg (by intro e; rw [e, hakt] at ha; cases ha)]; exact d
         · have l := low _ hb ha; omega
       · have hl : ¬ (sTo W s.1 s.2).toNat < C.length := by rw [h.inv.len]; exact hb
         rw [← d]
         simp [List.getD, List.getElem?_eq_none (show ((C.set kt y1).set k x1).length ≤ (sTo W s.1 s.2).toNat by simp; omega), List.getElem?_eq_none (show C.length ≤ (sTo W s.1 s.2).toNat by omega)]
     · have d := d2 e1 e2
       by_cases hb : s.1 < N
       · have m := mono _ hb
         cases ha : hAt W T xs s.1
         · rw [get _ hb, if_neg (by intro e; rw [e, hak] at ha; cases ha), if_neg (by intro e; rw [e, hakt] at ha; cases ha)]; exact d
         · have l := low _ hb ha; omega
       · rw [← d]
         have hl := h.inv.len
         simp [List.getD, List.getElem?_eq_none (show ((C.set kt y1).set k x1).length ≤ s.1 by simp; omega), List.getElem?_eq_none (show C.length ≤ s.1 by omega)]
   · simp only
     rw [ht, Int.toNat_natCast]
     refine ⟨fun e1 e2 => ?_, fun e1 e2 => ?_⟩
     · rw [get kt hkt, if_neg (fun e => hne e.symm), if_pos rfl]; omega
     · rw [get k hk, if_pos rfl]; omega
theorem GPass.all {W T : Int} {xs : List Bool} {N fk : Nat} {lo hi : Nat × Bool → Int} {G C0 C : List Int} (hW : 1 ≤ W) (hN : (W + 1) * (T + 1) = (N : Int)) (hg : GT W T xs N fk lo hi G) (h0 : GInv W T xs N fk G C0) (h : GPass W T xs N fk lo hi G C0 (sidesK W T xs N) C) : allE W T xs N G C0 ∨ exN W T xs N G C0 < exN W T xs N G C := by
 by_cases hall : allE W T xs N G C0
 · exact Or.inl hall
 right
 have sub : ∀ k ∈ List.range N, (hAt W T xs k && (C0.getD k 0 == G.getD k 0)) = true → (hAt W T xs k && (C.getD k 0 == G.getD k 0)) = true := by
  intro k hk e
  have hkN := List.mem_range.1 hk
  simp only [Bool.and_eq_true, beq_iff_eq] at e ⊢
  refine ⟨e.1, ?_⟩
  have a := h.le k hkN
  have b := (h.inv.on k hkN e.1).1
  omega
 have : ∃ k, k < N ∧ hAt W T xs k = true ∧ C.getD k 0 = G.getD k 0 ∧ C0.getD k 0 ≠ G.getD k 0 := by
  apply Classical.byContradiction; intro hx
  have hno : ∀ k, k < N → hAt W T xs k = true → C.getD k 0 = G.getD k 0 → C0.getD k 0 = G.getD k 0 := fun k h1 h2 h3 => Classical.byContradiction fun h4 => hx ⟨k, h1, h2, h3, h4⟩
  refine hall (hg.tight (fun k => C0.getD k 0 = G.getD k 0) (by rw [h0.first, hg.first]) fun k nth hk hu => ?_)
  obtain ⟨t0, t1, t2⟩ := sTo_lt hW hu
  have hkt : (sTo W k nth).toNat < N := by omega
  have hak : hAt W T xs k = true := (hAt_iff hW).2 (Or.inl ⟨nth, hu⟩)
  have hakt : hAt W T xs (sTo W k nth).toNat = true := (hAt_iff hW).2 (Or.inr ⟨k, nth, hu, by omega⟩)
  obtain ⟨d1, d2⟩ := h.done (k, nth) (sidesK_mem.2 ⟨hk, hu⟩)
  exact ⟨fun e1 e2 => hno _ hkt hakt (d1 e1 e2), fun e1 e2 => hno _ hk hak (d2 e1 e2)⟩
 obtain ⟨k, hk, ha, e1, e2⟩ := this
 exact countP_lt (List.range N) _ _ sub k (List.mem_range.2 hk) (by rw [ha]; simpa using e2) (by rw [ha]; simpa using e1)
theorem allE_le {W T : Int} {xs : List Bool} {N fk : Nat} {lo hi : Nat × Bool → Int} {G C0 C : List Int} {P : List (Nat × Bool)} (h : GPass W T xs N fk lo hi G C0 P C) (h0 : allE W T xs N G C0) : allE W T xs N G C := by
 intro k hk ha
 have a := h.le k hk
 have b := (h.inv.on k hk ha).1
 have c := h0 k hk ha
 omega
theorem allE_eq {W T : Int} {xs : List Bool} {N fk : Nat} {lo hi : Nat × Bool → Int} {G C : List Int} (hg : GT W T xs N fk lo hi G) (h : GInv W T xs N fk G C) (h0 : allE W T xs N G C) : C = G := by
 refine ext_getD (by rw [h.len, hg.len]) fun k hk => ?_
 rw [h.len] at hk
 cases ha : hAt W T xs k
 · rw [h.off k hk ha, hg.off k hk ha]
 · exact h0 k hk ha
theorem exN_le (W T : Int) (xs : List Bool) (N : Nat) (G C : List Int) : exN W T xs N G C ≤ N := by
 have := List.countP_le_length (p := fun k => hAt W T xs k && (C.getD k 0 == G.getD k 0)) (l := List.range N)
 rwa [List.length_range] at this
theorem GInv.start {W T : Int} {xs : List Bool} {N fk : Nat} {lo hi : Nat × Bool → Int} {G : List Int} (hW : 1 ≤ W) (hg : GT W T xs N fk lo hi G) : GInv W T xs N fk G ((List.replicate N (99 : Int)).set fk 0) ∧ 1 ≤ exN W T xs N G ((List.replicate N (99 : Int)).set fk 0) := by
 obtain ⟨hfN, hfa⟩ := first_hAt hW hg.fst
 have get : ∀ j, j < N → ((List.replicate N (99 : Int)).set fk 0).getD j 0 = if j = fk then 0 else 99 := by
  intro j hj
  rw [getD_set1]
  by_cases e : j = fk
  · subst e; rw [if_pos ⟨rfl, by simpa using hfN⟩, if_pos rfl]
  · rw [if_neg (fun h => e h.1), if_neg e]; simp [hj]
 refine ⟨⟨by simp, ?_, ?_, ?_⟩, ?_⟩
 · intro k hk ha
   rw [get k hk, if_neg (by rintro rfl; rw [hfa] at ha; cases ha)]
 · intro k hk ha
   rw [get k hk]
   by_cases e : k = fk
   · subst e; rw [if_pos rfl, hg.first]; omega
   · rw [if_neg e]; have := hg.bd k hk ha; omega
 · rw [get fk hfN, if_pos rfl]
 · have : 0 < exN W T xs N G ((List.replicate N (99 : Int)).set fk 0) := by
    unfold exN
    rw [List.countP_pos_iff]
    exact ⟨fk, List.mem_range.2 hfN, by rw [hfa, get fk hfN, if_pos rfl, hg.first]; rfl⟩
   omega
end Go.Proofs.YtpcajacekmidbaaGreat
