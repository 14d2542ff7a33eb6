/- Plain facts: the heights of the highest, and of the lowest, tiling are the greatest ones within the bounds of the sides. -/
import Derived.Test.YtpcajacekmidbaaKHtsN
import Derived.Maps.AppendAt
namespace Go.Proofs.Ytpcajacekmidbaa
open Go.RowKit
set_option linter.unusedVariables false
set_option maxRecDepth 100000
set_option linter.unusedSimpArgs false

def sdC (W T : Int) (xs : List Bool) (s : Nat × Bool) : List Value :=
 [.int .i64 s.1, .int .i64 (sTo W s.1 s.2), .int .i64 (sRise W s.1 s.2), .bool (sBoth W T xs s.1 s.2), .int .i64 (if sBoth W T xs s.1 s.2 then sCell W s.1 s.2 else 0), .int .i64 (if sBoth W T xs s.1 s.2 then sWay s.2 else 0)]
def OwnsSd (w : World) (B : Nat) (v : Value) (W T : Int) (xs : List Bool) (l : List (Nat × Bool)) : Prop := w.ownsRow B 116 6 v l.length (l.flatMap (sdC W T xs))
theorem OwnsSd.below {w w' : World} {B : Nat} {v : Value} {W T : Int} {xs : List Bool} {l : List (Nat × Bool)} (h : OwnsSd w B v W T xs l) (hb : Below w.heap.size w w') : OwnsSd w' B v W T xs l :=
 World.ownsRow.kept (row := none) h ⟨hb.os, hb.tape, hb.output, hb.size, fun k hk _ => hb.block k hk⟩ (by cases v.ownBlock <;> simp)
theorem OwnsSd.snoc {w : World} {B : Nat} {v : Value} {W T : Int} {xs : List Bool} {l : List (Nat × Bool)} {s : Nat × Bool} (h : w.ownsRow B 116 6 v (l.length + 1) (l.flatMap (sdC W T xs) ++ sdC W T xs s)) : OwnsSd w B v W T xs (l ++ [s]) := by
 unfold OwnsSd
 rw [List.length_append, List.length_singleton, List.flatMap_append]
 simpa using h
theorem OwnsSd.more {w : World} {B : Nat} {v : Value} {W T : Int} {xs : List Bool} {l l' : List (Nat × Bool)} {s : Nat × Bool} {cs : List Value} (he : sdC W T xs s = cs) (hx : l' = l ++ [s]) (h : w.ownsRow B 116 6 v (l.length + 1) (l.flatMap (sdC W T xs) ++ cs)) : OwnsSd w B v W T xs l' := by
 subst hx; subst he; exact OwnsSd.snoc h
theorem OwnsSd.ownBlock {w : World} {B : Nat} {v : Value} {W T : Int} {xs : List Bool} {l : List (Nat × Bool)} (h : OwnsSd w B v W T xs l) {b : Nat} (hb : b < B) : v.ownBlock ≠ some b := fun e => by
 have := World.ownsRow.lt h b e; omega
end Go.Proofs.Ytpcajacekmidbaa

namespace Go.Proofs.Ytpcajacekmidbaa
open Go.RowKit
set_option linter.unusedVariables false
set_option maxRecDepth 100000
set_option linter.unusedSimpArgs false

def hokB (W T : Int) (xs : List Bool) (H : List Int) : Bool :=
 simpleB W T xs && decide ((H.length : Int) = (W + 1) * (T + 1)) && hsMay W T xs H H.length && sdsOk W T xs H H.length && (H.getD (frstK W T xs H.length).toNat 0 == 0)

theorem simple_first {W T : Int} {xs : List Bool} (h : simpleB W T xs = true) {N : Nat} (hN : (W + 1) * (T + 1) = (N : Int)) : 0 ≤ frstK W T xs N := by
 have hr := simpleB_rv h
 obtain ⟨v1, v2, v3, v4, v5, _⟩ := rv_true hr
 have hp : partsN W T xs = 1 := by unfold simpleB at h; rw [Bool.and_eq_true, decide_eq_true_eq] at h; exact h.1
 unfold partsN at hp
 rw [hr, if_pos rfl] at hp
 have hpos : 0 < selfN (partsF W T xs) (partsF W T xs).length := by omega
 unfold selfN at hpos
 rw [List.countP_pos_iff] at hpos
 obtain ⟨i, hi, he⟩ := hpos
 have hi' : i < xs.length := Nat.lt_of_lt_of_le (List.mem_range.1 hi) (partsF_len W T xs)
 have hx : xs.getD i false = true := by
  cases hc : xs.getD i false
  · have hm := marksL_marks xs.length (fun i => xs.getD i false) (adjW W false)
    have := (hm.2 i hi').1 hc
    have e2 : partsF W T xs = marksL xs.length (fun i => xs.getD i false) (adjW W false) := by unfold partsF; rw [hr, if_pos rfl]
    rw [e2] at he
    simp only [beq_iff_eq] at he
    omega
  · rfl
 -- the corner in its south-west
 obtain ⟨m1, m2, m3, m4, m5⟩ := cell_split (W := W) (T := T) (k := (i : Int)) v1 (by omega) (by rw [← v5]; omega)
 obtain ⟨k, hk⟩ := Int.eq_ofNat_of_zero_le (show 0 ≤ (i : Int) / W * (W + 1) + (i : Int) % W by have := Int.mul_nonneg m3 (show 0 ≤ W + 1 by omega); omega)
 have kxe : kx W k = (i : Int) % W := by
  unfold kx
  rw [← hk, Int.add_comm, Int.add_mul_emod_self_right, Int.emod_eq_of_lt m1 (by omega)]
 have kye : ky W k = (i : Int) / W := by
  unfold ky
  rw [← hk, Int.add_comm, Int.add_mul_ediv_right _ _ (by omega), Int.ediv_eq_zero_of_lt m1 (by omega)]; omega
 have hu : sUsed W T xs k false = true := by
  have : sLeft W T xs k false = true := by
   unfold sLeft sLx
   rw [if_neg (by simp), kxe, kye]
   unfold atB inF
   rw [decide_eq_true ⟨m1, m2, m3, m4⟩, m5, Int.toNat_natCast, hx]; rfl
  unfold sUsed; rw [this]; rfl
 have hkN : k < N := by have := sTo_lt v1 hu; omega
 unfold frstK
 cases hf : (List.range N).find? fun k => sUsed W T xs k false || sUsed W T xs k true with
 | none =>
   rw [List.find?_eq_none] at hf
   have := hf k (List.mem_range.2 hkN)
   simp [hu] at this
 | some j => simp
end Go.Proofs.Ytpcajacekmidbaa

namespace Go.Proofs.Ytpcajacekmidbaa
open Go.RowKit
set_option linter.unusedVariables false
set_option maxRecDepth 100000
set_option linter.unusedSimpArgs false

theorem hokB_len {W T : Int} {xs : List Bool} {H : List Int} (h : hokB W T xs H = true) : (H.length : Int) = (W + 1) * (T + 1) ∧ rv W T xs = true := by
 unfold hokB at h
 simp only [Bool.and_eq_true, decide_eq_true_eq] at h
 exact ⟨h.1.1.1.2, simpleB_rv h.1.1.1.1⟩

end Go.Proofs.Ytpcajacekmidbaa

namespace Go.Proofs.Ytpcajacekmidbaa
open Go.RowKit
set_option linter.unusedVariables false
set_option maxRecDepth 100000
set_option linter.unusedSimpArgs false

end Go.Proofs.Ytpcajacekmidbaa

namespace Go.Proofs.Ytpcajacekmidbaa
open Go.RowKit
set_option linter.unusedVariables false
set_option maxRecDepth 100000
set_option linter.unusedSimpArgs false

structure HokP (W T : Int) (xs : List Bool) (H : List Int) (N fk : Nat) : Prop where
 hs : simpleB W T xs = true
 hN : (W + 1) * (T + 1) = (N : Int)
 fst : frstK W T xs N = fk
 len : H.length = N
 off : ∀ k, k < N → hAt W T xs k = false → H.getD k 0 = 99
 bd : ∀ k, k < N → hAt W T xs k = true → -60 ≤ H.getD k 0 ∧ H.getD k 0 ≤ 60
 side : ∀ k nth, k < N → sUsed W T xs k nth = true → rMay W T xs k nth (H.getD (sTo W k nth).toNat 0 - H.getD k 0) = true
 first : H.getD fk 0 = 0
theorem hokP_size {W T : Int} {xs : List Bool} (hs : simpleB W T xs = true) : ∃ N fk : Nat, (W + 1) * (T + 1) = (N : Int) ∧ frstK W T xs N = fk := by
 obtain ⟨v1, v2, v3, v4, v5, v6⟩ := rv_true (simpleB_rv hs)
 have hcb := corn_bd v1 v2 v3 v4
 obtain ⟨N, hN⟩ := Int.eq_ofNat_of_zero_le (show 0 ≤ (W + 1) * (T + 1) by omega)
 have hfr := simple_first hs hN
 obtain ⟨fk, hfk⟩ := Int.eq_ofNat_of_zero_le hfr
 exact ⟨N, fk, hN, hfk⟩
theorem hok_to {W T : Int} {xs : List Bool} {H : List Int} {N fk : Nat} (hN : (W + 1) * (T + 1) = (N : Int)) (hf : frstK W T xs N = fk) (h : hokB W T xs H = true) : HokP W T xs H N fk := by
 unfold hokB at h
 simp only [Bool.and_eq_true, decide_eq_true_eq, beq_iff_eq] at h
 obtain ⟨⟨⟨⟨hs, hl⟩, hm⟩, hsd⟩, h0⟩ := h
 have el : H.length = N := by omega
 rw [el] at hm hsd h0
 have hm' : ∀ k, k < N → hMay W T xs k (H.getD k 0) = true := by
  intro k hk
  unfold hsMay at hm
  exact List.all_eq_true.1 hm k (List.mem_range.2 hk)
 refine ⟨hs, hN, hf, el, ?_, ?_, ?_, ?_⟩
 · intro k hk ha
   have := hm' k hk
   unfold hMay at this
   rw [ha] at this
   simpa using this
 · intro k hk ha
   have := hm' k hk
   unfold hMay inB at this
   rw [ha] at this
   simpa using this
 · intro k nth hk hu
   exact sdsOk_iff.1 hsd (k, nth) (sidesK_mem.2 ⟨hk, hu⟩)
 · rw [hf] at h0; simpa using h0
theorem hok_of {W T : Int} {xs : List Bool} {H : List Int} {N fk : Nat} (h : HokP W T xs H N fk) : hokB W T xs H = true := by
 unfold hokB
 simp only [Bool.and_eq_true, decide_eq_true_eq, beq_iff_eq]
 have hN := h.hN
 refine ⟨⟨⟨⟨h.hs, by rw [h.len]; omega⟩, ?_⟩, ?_⟩, ?_⟩
 · rw [h.len]
   unfold hsMay
   rw [List.all_eq_true]
   intro k hk
   have hk := List.mem_range.1 hk
   unfold hMay
   cases ha : hAt W T xs k
   · have := h.off k hk ha
     simpa using this
   · have := h.bd k hk ha
     unfold inB
     simpa using this
 · rw [h.len, sdsOk_iff]
   rintro ⟨k, nth⟩ hs
   obtain ⟨h1, h2⟩ := sidesK_mem.1 hs
   exact h.side k nth h1 h2
 · rw [h.len, h.fst]; simpa using h.first
theorem may_cases {W T : Int} {xs : List Bool} {k : Nat} {nth : Bool} {d : Int} (h : rMay W T xs k nth d = true) : (sRise W k nth = 1 ∨ sRise W k nth = -1) ∧ (d = sRise W k nth ∨ (sBoth W T xs k nth = true ∧ d = -3 * sRise W k nth)) := by
 unfold rMay at h
 simp only [Bool.or_eq_true, Bool.and_eq_true, beq_iff_eq] at h
 exact ⟨by unfold sRise; split <;> simp, h⟩
theorem may_of {W T : Int} {xs : List Bool} {k : Nat} {nth : Bool} {d : Int} (h : d = sRise W k nth ∨ (sBoth W T xs k nth = true ∧ d = -3 * sRise W k nth)) : rMay W T xs k nth d = true := by
 unfold rMay
 simp only [Bool.or_eq_true, Bool.and_eq_true, beq_iff_eq]
 exact h
theorem hok_mod {W T : Int} {xs : List Bool} {A B : List Int} {N fk : Nat} (hA : HokP W T xs A N fk) (hB : HokP W T xs B N fk) : ∀ k, hAt W T xs k = true → (A.getD k 0 - B.getD k 0) % 4 = 0 := by
 obtain ⟨v1, v2, v3, v4, v5, v6⟩ := rv_true (simpleB_rv hA.hs)
 have hN := hA.hN
 refine corners_all hA.hs hA.fst (fun k => (A.getD k 0 - B.getD k 0) % 4 = 0) ?_ ?_
 · rw [hA.first, hB.first]; rfl
 · intro k nth hu
   obtain ⟨t0, t1, t2⟩ := sTo_lt v1 hu
   have a := may_cases (hA.side k nth (by omega) hu)
   have b := may_cases (hB.side k nth (by omega) hu)
   omega
theorem hok_length {W T : Int} {xs : List Bool} {A B : List Int} (hA : hokB W T xs A = true) (hB : hokB W T xs B = true) : A.length = B.length := by
 have a := (hokB_len hA).1
 have b := (hokB_len hB).1
 omega
theorem hok_entry {W T : Int} {xs : List Bool} {H : List Int} (h : hokB W T xs H = true) {k : Nat} (hk : k < H.length) : -60 ≤ H.getD k 0 ∧ H.getD k 0 ≤ 99 := by
 have hs : simpleB W T xs = true := by unfold hokB at h; simp only [Bool.and_eq_true] at h; exact h.1.1.1.1
 obtain ⟨N, fk, hN, hf⟩ := hokP_size hs
 have hp := hok_to hN hf h
 rw [hp.len] at hk
 cases ha : hAt W T xs k
 · have := hp.off k hk ha; omega
 · have := hp.bd k hk ha; omega
end Go.Proofs.Ytpcajacekmidbaa

namespace Go.Proofs.Ytpcajacekmidbaa
open Go.RowKit
set_option linter.unusedVariables false
set_option maxRecDepth 100000
set_option linter.unusedSimpArgs false

def reN (R : Nat → Bool) (N : Nat) : Nat := (List.range N).countP R
theorem reN_set {R : Nat → Bool} {N k : Nat} (hk : k < N) (h : R k = false) : reN (fun j => if j = k then true else R j) N = reN R N + 1 := countP_set hk h
theorem reN_none (N : Nat) : reN (fun _ => false) N = 0 := by unfold reN; simp

structure PassI (W T : Int) (xs : List Bool) (N fk : Nat) (P : List (Nat × Bool)) (R0 : Nat) (f : Int) (c : Bool) (R : Nat → Bool) : Prop where
 at_ : ∀ j, R j = true → hAt W T xs j = true
 fst : (f = fk ∧ R fk = true) ∨ (f = -1 ∧ P = [] ∧ R = fun _ => false)
 even : c = false → ∀ s ∈ P, R s.1 = R (sTo W s.1 s.2).toNat
 more : c = true → R0 < reN R N
 le : R0 ≤ reN R N
theorem PassI.first {W T : Int} {xs : List Bool} {N fk : Nat} {P : List (Nat × Bool)} {R0 : Nat} {f : Int} {c : Bool} {R : Nat → Bool} (h : PassI W T xs N fk P R0 f c R) (hf : f < 0) (hfk : fk < N) (hat : hAt W T xs fk = true) : PassI W T xs N fk P R0 (fk : Int) c (fun j => if j = fk then true else R j) := by
 rcases h.fst with ⟨e, _⟩ | ⟨e, hP, hR⟩
 · omega
 have hc : c = false := by
  cases c
  · rfl
  · have := h.more rfl
    rw [hR, reN_none] at this; omega
 refine ⟨fun j hj => ?_, Or.inl ⟨rfl, by simp⟩, (fun _ s hs => by rw [hP] at hs; cases hs), (fun h' => by rw [hc] at h'; cases h'), ?_⟩
 · by_cases e : j = fk
   · rw [e]; exact hat
   · simp only [if_neg e] at hj; exact h.at_ j hj
 · rw [reN_set hfk (by rw [hR])]; have := h.le; omega
theorem step_side {W T : Int} {xs : List Bool} {k : Nat} {nth : Bool} (hW : 1 ≤ W) (h : sBoth W T xs k nth = true) {v : Int} (h1 : 1 ≤ v) (h4 : v ≤ 4) : (stepI W T (sCell W k nth) v == sOther W k nth) = (v == sWay nth) := by
 unfold sBoth at h
 rw [Bool.and_eq_true] at h
 obtain ⟨hl, hr⟩ := h
 obtain ⟨a0, a1, a2, a3⟩ := atB_in (show atB W T xs (sLx W k nth) (ky W k) = true from hl)
 obtain ⟨b0, b1, b2, b3⟩ := atB_in (show atB W T xs (kx W k) (sRy W k nth) = true from hr)
 obtain ⟨c, hc, cx, cy, hcl⟩ := place_idx a0 a1 a2 a3
 have e : sCell W k nth = (c : Int) := hc.symm
 rw [e]
 unfold stepI
 rw [cx, cy]
 have hce : nth = false → (c : Int) = ky W k * W + kx W k := by intro h; subst h; exact hc
 have ho : sOther W k nth = if nth then (c : Int) + 1 else (c : Int) - W := by
  unfold sOther
  rw [hc]
  cases nth
  · unfold sRy sLx; simp only [Bool.false_eq_true, if_false]; rw [Int.sub_mul]; omega
  · unfold sRy sLx; simp only [if_true]; omega
 clear e hc hl hr cx cy
 unfold sWay
 unfold sLx at a0 a1 ⊢
 unfold sRy at b2 b3
 have hv : v = 1 ∨ v = 2 ∨ v = 3 ∨ v = 4 := by omega
 rw [Bool.eq_iff_iff]
 simp only [beq_iff_eq]
 cases nth
 · simp only [Bool.false_eq_true, if_false] at a0 a1 b2 b3 ho ⊢
   rw [ho]
   have hcW : (c : Int) = ky W k * W + kx W k := hce rfl
   rcases hv with rfl | rfl | rfl | rfl
   · constructor
     · intro q
       by_cases h : kx W k < W - 1
       · rw [if_pos ⟨rfl, h⟩] at q; omega
       · rw [if_neg (by omega), if_neg (by omega), if_neg (by omega), if_neg (by omega)] at q
         have : 0 ≤ (ky W k - 1) * W := Int.mul_nonneg b2 (by omega)
         rw [Int.sub_mul] at this; omega
     · intro q; omega
   · constructor
     · intro q
       by_cases h : ky W k < T - 1
       · rw [if_neg (by omega), if_pos ⟨rfl, h⟩] at q; omega
       · rw [if_neg (by omega), if_neg (by omega), if_neg (by omega), if_neg (by omega)] at q
         have : 0 ≤ (ky W k - 1) * W := Int.mul_nonneg b2 (by omega)
         rw [Int.sub_mul] at this; omega
     · intro q; omega
   · constructor
     · intro q
       by_cases h : 0 < kx W k
       · rw [if_neg (by omega), if_neg (by omega), if_pos ⟨rfl, h⟩] at q; omega
       · rw [if_neg (by omega), if_neg (by omega), if_neg (by omega), if_neg (by omega)] at q
         have : 0 ≤ (ky W k - 1) * W := Int.mul_nonneg b2 (by omega)
         rw [Int.sub_mul] at this; omega
     · intro q; omega
   · rw [if_neg (by omega), if_neg (by omega), if_neg (by omega), if_pos ⟨rfl, by omega⟩]
     simp
 · simp only [if_true] at a0 a1 b2 b3 ho ⊢
   rw [ho]
   rcases hv with rfl | rfl | rfl | rfl
   · rw [if_pos ⟨rfl, by omega⟩]; simp
   · constructor
     · intro q
       by_cases h : ky W k < T - 1
       · rw [if_neg (by omega), if_pos ⟨rfl, h⟩] at q
         have : kx W k ≤ W - 1 := by omega
         omega
       · rw [if_neg (by omega), if_neg (by omega), if_neg (by omega), if_neg (by omega)] at q; omega
     · intro q; omega
   · constructor
     · intro q
       by_cases h : 0 < kx W k - 1
       · rw [if_neg (by omega), if_neg (by omega), if_pos ⟨rfl, h⟩] at q; omega
       · rw [if_neg (by omega), if_neg (by omega), if_neg (by omega), if_neg (by omega)] at q; omega
     · intro q; omega
   · constructor
     · intro q
       by_cases h : 0 < ky W k
       · rw [if_neg (by omega), if_neg (by omega), if_neg (by omega), if_pos ⟨rfl, h⟩] at q; omega
       · rw [if_neg (by omega), if_neg (by omega), if_neg (by omega), if_neg (by omega)] at q; omega
     · intro q; omega
end Go.Proofs.Ytpcajacekmidbaa

namespace Go.Proofs.Ytpcajacekmidbaa
open Go.RowKit
set_option linter.unusedVariables false
set_option maxRecDepth 100000
set_option linter.unusedSimpArgs false

end Go.Proofs.Ytpcajacekmidbaa

namespace Go.Proofs.Ytpcajacekmidbaa
open Go.RowKit
set_option linter.unusedVariables false
set_option maxRecDepth 100000
set_option linter.unusedSimpArgs false

def jmpB (W T : Int) (xs : List Bool) (H : List Int) (k : Nat) (nth : Bool) : Bool := sBoth W T xs k nth && (H.getD (sTo W k nth).toNat 0 - H.getD k 0 == -3 * sRise W k nth)
def wayJ (W : Int) (J : Nat → Bool → Bool) (c : Nat) : Int :=
 if J (cI W ((c : Int) % W) ((c : Int) / W)) false then 4
 else if J (cI W ((c : Int) % W + 1) ((c : Int) / W)) true then 1
 else if J (cI W ((c : Int) % W) ((c : Int) / W + 1)) false then 2
 else if J (cI W ((c : Int) % W) ((c : Int) / W)) true then 3 else 0
def jmpP (W T : Int) (xs : List Bool) (H : List Int) (P : List (Nat × Bool)) (k : Nat) (nth : Bool) : Bool := P.contains (k, nth) && jmpB W T xs H k nth
def tbyP (W T : Int) (xs : List Bool) (H : List Int) (P : List (Nat × Bool)) : List Int := (List.range xs.length).map (wayJ W (jmpP W T xs H P))
def tbyF (W T : Int) (xs : List Bool) (H : List Int) : List Int × Bool :=
 if hokB W T xs H then (tbyP W T xs H (sidesK W T xs ((W + 1) * (T + 1)).toNat), true) else ([], false)
theorem tbyP_len (W T : Int) (xs : List Bool) (H : List Int) (P : List (Nat × Bool)) : (tbyP W T xs H P).length = xs.length := by simp [tbyP]
theorem tbyP_get {W T : Int} {xs : List Bool} {H : List Int} {P : List (Nat × Bool)} {c : Nat} (hc : c < xs.length) : (tbyP W T xs H P).getD c 0 = wayJ W (jmpP W T xs H P) c := by simp [tbyP, hc]
theorem sRise_rs (W : Int) (k : Nat) (nth : Bool) : sRise W k nth = if dkP (sLx W k nth) (ky W k) then 1 else -1 := rfl
theorem side_ok {W T : Int} {xs : List Bool} {H : List Int} {N : Nat} (hr : sdsOk W T xs H N = true) {k : Nat} {nth : Bool} (hk : k < N) (hu : sUsed W T xs k nth = true) :
 (H.getD (sTo W k nth).toNat 0 - H.getD k 0 = sRise W k nth ∧ jmpB W T xs H k nth = false) ∨ (H.getD (sTo W k nth).toNat 0 - H.getD k 0 = -3 * sRise W k nth ∧ jmpB W T xs H k nth = true) := by
 have h := sdsOk_iff.1 hr (k, nth) (sidesK_mem.2 ⟨hk, hu⟩)
 unfold rMay at h
 simp only [Bool.or_eq_true, Bool.and_eq_true, beq_iff_eq] at h
 have r1 : sRise W k nth = 1 ∨ sRise W k nth = -1 := by unfold sRise; split <;> simp
 unfold jmpB
 rcases h with h | ⟨hb, h⟩
 · left
   refine ⟨h, ?_⟩
   rw [h]
   rcases r1 with e | e <;> rw [e] <;> simp
 · right
   refine ⟨h, ?_⟩
   rw [hb, h]; simp
def b2i (b : Bool) : Int := if b then 1 else 0
theorem four_jump {W T : Int} {xs : List Bool} {H : List Int} {N : Nat} (hW : 1 ≤ W) (hN : (W + 1) * (T + 1) = (N : Int)) (hr : sdsOk W T xs H N = true) {x y : Int} (ha : atB W T xs x y = true) :
 b2i (jmpB W T xs H (cI W x y) false) + b2i (jmpB W T xs H (cI W (x + 1) y) true) + b2i (jmpB W T xs H (cI W x (y + 1)) false) + b2i (jmpB W T xs H (cI W x y) true) = 1 := by
 obtain ⟨a0, a1, a2, a3⟩ := atB_in ha
 obtain ⟨p1, p2, p3⟩ := cI_xy (W := W) (x := x) (y := y) a0 (by omega) a2
 obtain ⟨q1, q2, q3⟩ := cI_xy (W := W) (x := x) (y := y + 1) a0 (by omega) (by omega)
 obtain ⟨r1, r2, r3⟩ := cI_xy (W := W) (x := x + 1) (y := y) (by omega) (by omega) a2
 obtain ⟨⟨s1, s2⟩, ⟨b1, b2⟩, ⟨c1, c2⟩, ⟨d1, d2⟩⟩ := cell_sides hW ha
 have lt : ∀ {k : Nat} {nth : Bool}, sUsed W T xs k nth = true → k < N := fun h => by obtain ⟨t0, t1, t2⟩ := sTo_lt hW h; omega
 have ga := side_ok hr (lt s1) s1
 have gb := side_ok hr (lt b1) b1
 have gc := side_ok hr (lt c1) c1
 have gd := side_ok hr (lt d1) d1
 rw [s2, Int.toNat_natCast, sRise_rs] at ga
 rw [b2, Int.toNat_natCast, sRise_rs] at gb
 rw [c2, Int.toNat_natCast, sRise_rs] at gc
 rw [d2, Int.toNat_natCast, sRise_rs] at gd
 have el : ∀ k, sLx W k false = kx W k := fun k => rfl
 have er : ∀ k, sLx W k true = kx W k - 1 := fun k => rfl
 rw [el, p2, p3] at ga
 rw [el, q2, q3, dkP_n] at gb
 rw [er, p2, p3, dkP_e] at gc
 rw [er, r2, r3, Int.add_sub_cancel] at gd
 generalize jmpB W T xs H (cI W x y) false = jS at *
 generalize jmpB W T xs H (cI W (x + 1) y) true = jE at *
 generalize jmpB W T xs H (cI W x (y + 1)) false = jN at *
 generalize jmpB W T xs H (cI W x y) true = jW at *
 generalize H.getD (cI W x y) 0 = h00 at *
 generalize H.getD (cI W (x + 1) y) 0 = h10 at *
 generalize H.getD (cI W x (y + 1)) 0 = h01 at *
 generalize H.getD (cI W (x + 1) (y + 1)) 0 = h11 at *
 generalize dkP x y = D at ga gb gc gd
 clear lt el er
 cases D <;> simp at ga gb gc gd <;>
  rcases ga with ⟨ga, rfl⟩ | ⟨ga, rfl⟩ <;> rcases gb with ⟨gb, rfl⟩ | ⟨gb, rfl⟩ <;> rcases gc with ⟨gc, rfl⟩ | ⟨gc, rfl⟩ <;> rcases gd with ⟨gd, rfl⟩ | ⟨gd, rfl⟩ <;> simp only [b2i, Bool.false_eq_true, if_true, if_false] <;> omega

theorem side_left {W T : Int} {xs : List Bool} {k : Nat} {nth : Bool} (hW : 1 ≤ W) (h : sBoth W T xs k nth = true) : ∃ a b : Nat, sCell W k nth = a ∧ sOther W k nth = b ∧ (a : Int) < W * T ∧ (b : Int) < W * T ∧ a ≠ b ∧
 (a : Int) % W = sLx W k nth ∧ (a : Int) / W = ky W k ∧ (b : Int) % W = kx W k ∧ (b : Int) / W = sRy W k nth ∧ atB W T xs (sLx W k nth) (ky W k) = true ∧ atB W T xs (kx W k) (sRy W k nth) = true := by
 unfold sBoth at h
 rw [Bool.and_eq_true] at h
 have hl : atB W T xs (sLx W k nth) (ky W k) = true := h.1
 have hr : atB W T xs (kx W k) (sRy W k nth) = true := h.2
 have l := atB_in hl
 have r := atB_in hr
 obtain ⟨a, ha, ax, ay, al⟩ := place_idx l.1 l.2.1 l.2.2.1 l.2.2.2
 obtain ⟨b, hb, bx, by_, bl⟩ := place_idx r.1 r.2.1 r.2.2.1 r.2.2.2
 refine ⟨a, b, ha.symm, hb.symm, al, bl, ?_, ax, ay, bx, by_, hl, hr⟩
 rintro rfl
 rw [ax] at bx
 rw [ay] at by_
 unfold sLx at bx
 unfold sRy at by_
 cases nth
 · simp at by_; omega
 · simp at bx; omega
end Go.Proofs.Ytpcajacekmidbaa

namespace Go.Proofs.Ytpcajacekmidbaa
open Go.RowKit
set_option linter.unusedVariables false
set_option maxRecDepth 100000
set_option linter.unusedSimpArgs false

end Go.Proofs.Ytpcajacekmidbaa

namespace Go.Proofs.Ytpcajacekmidbaa
open Go.RowKit
set_option linter.unusedVariables false
set_option maxRecDepth 100000
set_option linter.unusedSimpArgs false

end Go.Proofs.Ytpcajacekmidbaa

namespace Go.Proofs.Ytpcajacekmidbaa
open Go.RowKit
set_option linter.unusedVariables false
set_option maxRecDepth 100000
set_option linter.unusedSimpArgs false

def HtsR (W T : Int) (xs : List Bool) (L H : List Int) : Prop :=
 ((simpleB W T xs && tok W T xs L) = true ∧ HtsOf W T xs L H ((W + 1) * (T + 1)).toNat) ∨ ((simpleB W T xs && tok W T xs L) = false ∧ H = [])
theorem HtsR.len {W T : Int} {xs : List Bool} {L H : List Int} (h : HtsR W T xs L H) : H.length ≤ 49 := by
 rcases h with ⟨h, hH⟩ | ⟨_, rfl⟩
 · rw [Bool.and_eq_true] at h
   obtain ⟨v1, v2, v3, v4, v5, v6⟩ := rv_true (simpleB_rv h.1)
   have hcb := corn_bd v1 v2 v3 v4
   rw [hH.len]; omega
 · simp
end Go.Proofs.Ytpcajacekmidbaa

namespace Go.Proofs.Ytpcajacekmidbaa
open Go.RowKit
set_option linter.unusedVariables false
set_option maxRecDepth 100000
set_option linter.unusedSimpArgs false

def wayP (W T : Int) (xs : List Bool) (H : List Int) (x y : Int) : Int :=
 if jmpB W T xs H (cI W x y) false then 4
 else if jmpB W T xs H (cI W (x + 1) y) true then 1
 else if jmpB W T xs H (cI W x (y + 1)) false then 2
 else if jmpB W T xs H (cI W x y) true then 3 else 0
theorem jmpP_all {W T : Int} {xs : List Bool} {H : List Int} (hW : 1 ≤ W) {N : Nat} (hN : (W + 1) * (T + 1) = (N : Int)) : jmpP W T xs H (sidesK W T xs N) = jmpB W T xs H := by
 funext k nth
 unfold jmpP
 cases hj : jmpB W T xs H k nth
 · simp
 · have hb : sBoth W T xs k nth = true := by unfold jmpB at hj; rw [Bool.and_eq_true] at hj; exact hj.1
   have hu : sUsed W T xs k nth = true := by unfold sBoth at hb; unfold sUsed; rw [Bool.and_eq_true] at hb; rw [hb.1]; rfl
   obtain ⟨t0, t1, t2⟩ := sTo_lt hW hu
   have hm : (k, nth) ∈ sidesK W T xs N := sidesK_mem.2 ⟨by omega, hu⟩
   rw [Bool.and_true]
   simpa using hm
theorem tbyL_get {W T : Int} {xs : List Bool} {H : List Int} (hW : 1 ≤ W) {N : Nat} (hN : (W + 1) * (T + 1) = (N : Int)) {c : Nat} (hc : c < xs.length) : (tbyP W T xs H (sidesK W T xs N)).getD c 0 = wayP W T xs H ((c : Int) % W) ((c : Int) / W) := by
 rw [tbyP_get hc, jmpP_all hW hN]; rfl
theorem jmp_south {W T : Int} {xs : List Bool} {H : List Int} {x y : Int} (hx0 : 0 ≤ x) (hx1 : x ≤ W) (hy0 : 0 ≤ y) (h : jmpB W T xs H (cI W x y) false = true) : atB W T xs x y = true ∧ atB W T xs x (y - 1) = true := by
 obtain ⟨p1, p2, p3⟩ := cI_xy hx0 hx1 hy0
 unfold jmpB at h
 rw [Bool.and_eq_true] at h
 have hb := h.1
 unfold sBoth sLeft sRight sLx sRy at hb
 simp only [Bool.false_eq_true, if_false, Bool.and_eq_true, p2, p3] at hb
 exact hb
theorem jmp_west {W T : Int} {xs : List Bool} {H : List Int} {x y : Int} (hx0 : 0 ≤ x) (hx1 : x ≤ W) (hy0 : 0 ≤ y) (h : jmpB W T xs H (cI W x y) true = true) : atB W T xs (x - 1) y = true ∧ atB W T xs x y = true := by
 obtain ⟨p1, p2, p3⟩ := cI_xy hx0 hx1 hy0
 unfold jmpB at h
 rw [Bool.and_eq_true] at h
 have hb := h.1
 unfold sBoth sLeft sRight sLx sRy at hb
 simp only [if_true, Bool.and_eq_true, p2, p3] at hb
 exact hb
theorem way_cases {W T : Int} {xs : List Bool} {H : List Int} {N : Nat} (hW : 1 ≤ W) (hN : (W + 1) * (T + 1) = (N : Int)) (hr : sdsOk W T xs H N = true) {x y : Int} (ha : atB W T xs x y = true) :
 1 ≤ wayP W T xs H x y ∧ wayP W T xs H x y ≤ 4 ∧ (wayP W T xs H x y = 4 ↔ jmpB W T xs H (cI W x y) false = true) ∧ (wayP W T xs H x y = 1 ↔ jmpB W T xs H (cI W (x + 1) y) true = true) ∧
 (wayP W T xs H x y = 2 ↔ jmpB W T xs H (cI W x (y + 1)) false = true) ∧ (wayP W T xs H x y = 3 ↔ jmpB W T xs H (cI W x y) true = true) := by
 have h := four_jump hW hN hr ha
 unfold wayP
 generalize jmpB W T xs H (cI W x y) false = a at *
 generalize jmpB W T xs H (cI W (x + 1) y) true = b at *
 generalize jmpB W T xs H (cI W x (y + 1)) false = c at *
 generalize jmpB W T xs H (cI W x y) true = d at *
 cases a <;> cases b <;> cases c <;> cases d <;> simp [b2i] at h ⊢
theorem way_none {W T : Int} {xs : List Bool} {H : List Int} (hW : 1 ≤ W) {x y : Int} (hx0 : 0 ≤ x) (hx1 : x < W) (hy0 : 0 ≤ y) (ha : atB W T xs x y = false) : wayP W T xs H x y = 0 := by
 unfold wayP
 rw [if_neg (fun h => by rw [(jmp_south hx0 (by omega) hy0 h).1] at ha; cases ha)]
 rw [if_neg (fun h => by have := (jmp_west (by omega) (by omega) hy0 h).1; rw [Int.add_sub_cancel, ha] at this; cases this)]
 rw [if_neg (fun h => by have := (jmp_south hx0 (by omega) (by omega) h).2; rw [Int.add_sub_cancel, ha] at this; cases this)]
 rw [if_neg (fun h => by rw [(jmp_west hx0 (by omega) hy0 h).2] at ha; cases ha)]
theorem way_next {W T : Int} {xs : List Bool} {H : List Int} {N : Nat} (hW : 1 ≤ W) (hN : (W + 1) * (T + 1) = (N : Int)) (hr : sdsOk W T xs H N = true) {x y : Int} (ha : atB W T xs x y = true) :
 (wayP W T xs H x y = 1 → atB W T xs (x + 1) y = true ∧ wayP W T xs H (x + 1) y = 3) ∧ (wayP W T xs H x y = 2 → atB W T xs x (y + 1) = true ∧ wayP W T xs H x (y + 1) = 4) ∧
 (wayP W T xs H x y = 3 → atB W T xs (x - 1) y = true ∧ wayP W T xs H (x - 1) y = 1) ∧ (wayP W T xs H x y = 4 → atB W T xs x (y - 1) = true ∧ wayP W T xs H x (y - 1) = 2) := by
 obtain ⟨a0, a1, a2, a3⟩ := atB_in ha
 obtain ⟨_, _, c4, c1, c2, c3⟩ := way_cases hW hN hr ha
 refine ⟨fun h => ?_, fun h => ?_, fun h => ?_, fun h => ?_⟩
 · have j := c1.1 h
   have ha' := (jmp_west (by omega) (by omega) a2 j).2
   exact ⟨ha', (way_cases hW hN hr ha').2.2.2.2.2.2 j⟩
 · have j := c2.1 h
   have ha' := (jmp_south a0 (by omega) (by omega) j).1
   exact ⟨ha', (way_cases hW hN hr ha').2.2.1.2 j⟩
 · have j := c3.1 h
   have ha' := (jmp_west (by omega) (by omega) a2 j).1
   exact ⟨ha', (way_cases hW hN hr ha').2.2.2.1.2 (by rw [Int.sub_add_cancel]; exact j)⟩
 · have j := c4.1 h
   have ha' := (jmp_south a0 (by omega) a2 j).2
   exact ⟨ha', (way_cases hW hN hr ha').2.2.2.2.1.2 (by rw [Int.sub_add_cancel]; exact j)⟩
theorem at_cell {W T : Int} {xs : List Bool} {c : Nat} (hW : 1 ≤ W) (hl : (xs.length : Int) = W * T) (hc : c < xs.length) : atB W T xs ((c : Int) % W) ((c : Int) / W) = xs.getD c false ∧ 0 ≤ (c : Int) % W ∧ (c : Int) % W < W ∧ 0 ≤ (c : Int) / W ∧ (c : Int) / W < T := by
 have c0 := Int.emod_nonneg (c : Int) (show W ≠ 0 by omega)
 have c1 := Int.emod_lt_of_pos (c : Int) (show 0 < W by omega)
 have c2 := Int.ediv_nonneg (show (0 : Int) ≤ c by omega) (show 0 ≤ W by omega)
 have ce := Int.emod_add_mul_ediv (c : Int) W
 have c3 : (c : Int) / W < T := Int.ediv_lt_of_lt_mul (by omega) (by rw [Int.mul_comm]; omega)
 refine ⟨?_, c0, c1, c2, c3⟩
 unfold atB inF
 rw [decide_eq_true ⟨c0, c1, c2, c3⟩, Bool.true_and]
 congr 1
 rw [Int.mul_comm]; omega
theorem at_idx {W T : Int} {xs : List Bool} {x y : Int} (ha : atB W T xs x y = true) (hl : (xs.length : Int) = W * T) : ∃ k : Nat, (k : Int) = y * W + x ∧ (k : Int) % W = x ∧ (k : Int) / W = y ∧ k < xs.length ∧ xs.getD k false = true := by
 obtain ⟨a0, a1, a2, a3⟩ := atB_in ha
 obtain ⟨k, hk, kx, ky, hkl⟩ := place_idx a0 a1 a2 a3
 refine ⟨k, hk, kx, ky, by omega, ?_⟩
 unfold atB at ha
 rw [Bool.and_eq_true, show (y * W + x).toNat = k by omega] at ha
 exact ha.2
theorem tby_tok {W T : Int} {xs : List Bool} {H : List Int} {N fk : Nat} (h : HokP W T xs H N fk) : tok W T xs (tbyP W T xs H (sidesK W T xs N)) = true := by
 have hrv := simpleB_rv h.hs
 obtain ⟨v1, v2, v3, v4, v5, v6⟩ := rv_true hrv
 have hN := h.hN
 have hr : sdsOk W T xs H N = true := sdsOk_iff.2 (fun s hs => by obtain ⟨k, nth⟩ := s; obtain ⟨h1, h2⟩ := sidesK_mem.1 hs; exact h.side k nth h1 h2)
 have G : ∀ c, c < xs.length → (tbyP W T xs H (sidesK W T xs N)).getD c 0 = wayP W T xs H ((c : Int) % W) ((c : Int) / W) := fun c hc => tbyL_get v1 hN hc
 have hlen : (tbyP W T xs H (sidesK W T xs N)).length = xs.length := tbyP_len _ _ _ _ _
 have hlok : lok W T xs (tbyP W T xs H (sidesK W T xs N)) = true := by
  unfold lok
  rw [hrv, hlen]
  simp only [BEq.rfl, Bool.true_and]
  unfold goodN
  rw [List.all_eq_true]
  intro c hc
  have hc := List.mem_range.1 hc
  obtain ⟨ea, c0, c1, c2, c3⟩ := at_cell (W := W) (T := T) v1 v5 hc
  cases hx : xs.getD c false
  · rw [hx] at ea
    exact good_zero (by rw [G c hc, way_none v1 c0 c1 c2 ea])
  · rw [hx] at ea
    obtain ⟨w1, w4, _⟩ := way_cases v1 hN hr ea
    obtain ⟨n1, n2, n3, n4⟩ := way_next v1 hN hr ea
    have ce := Int.emod_add_mul_ediv (c : Int) W
    have tgt : ∀ x' y' : Int, atB W T xs x' y' = true → wayP W T xs H x' y' = backI (wayP W T xs H ((c : Int) % W) ((c : Int) / W)) → stepI W T c (wayP W T xs H ((c : Int) % W) ((c : Int) / W)) = y' * W + x' → goodB W T xs (tbyP W T xs H (sidesK W T xs N)) c = true := by
     intro x' y' ha' hw' hs'
     obtain ⟨o, ho, ox, oy, hol, hox⟩ := at_idx ha' v5
     unfold goodB bothB
     rw [G c hc, hs', ← ho, Int.toNat_natCast, G o hol, ox, oy, hw', hx, hox]
     simp
    generalize hv : wayP W T xs H ((c : Int) % W) ((c : Int) / W) = v at *
    generalize hX : (c : Int) % W = X at *
    generalize hY : (c : Int) / W = Y at *
    have hmul : W * Y = Y * W := Int.mul_comm _ _
    have : v = 1 ∨ v = 2 ∨ v = 3 ∨ v = 4 := by omega
    rcases this with rfl | rfl | rfl | rfl
    · obtain ⟨b1, b2⟩ := n1 rfl
      obtain ⟨q0, q1, q2, q3⟩ := atB_in b1
      refine tgt _ _ b1 b2 ?_
      unfold stepI
      rw [hX, if_pos ⟨rfl, by omega⟩]; omega
    · obtain ⟨b1, b2⟩ := n2 rfl
      obtain ⟨q0, q1, q2, q3⟩ := atB_in b1
      refine tgt _ _ b1 b2 ?_
      unfold stepI
      rw [hY, if_neg (by omega), if_pos ⟨rfl, by omega⟩, Int.add_mul]; omega
    · obtain ⟨b1, b2⟩ := n3 rfl
      obtain ⟨q0, q1, q2, q3⟩ := atB_in b1
      refine tgt _ _ b1 b2 ?_
      unfold stepI
      rw [hX, if_neg (by omega), if_neg (by omega), if_pos ⟨rfl, by omega⟩]; omega
    · obtain ⟨b1, b2⟩ := n4 rfl
      obtain ⟨q0, q1, q2, q3⟩ := atB_in b1
      refine tgt _ _ b1 b2 ?_
      unfold stepI
      rw [hY, if_neg (by omega), if_neg (by omega), if_neg (by omega), if_pos ⟨rfl, by omega⟩, Int.sub_mul]; omega
 unfold tok
 rw [hlok, Bool.true_and, decide_eq_true_eq]
 rcases first_cases xs (tbyP W T xs H (sidesK W T xs N)) 0 (tbyP W T xs H (sidesK W T xs N)).length with ⟨e, _⟩ | ⟨j, _, hj, _, hf, _⟩
 · omega
 · exfalso
   rw [hlen] at hj
   unfold freeB at hf
   rw [Bool.and_eq_true, G j hj, beq_iff_eq] at hf
   obtain ⟨ea, _⟩ := at_cell (W := W) (T := T) v1 v5 hj
   rw [hf.1] at ea
   have := way_cases v1 hN hr ea
   omega
theorem hts_like {W T : Int} {xs : List Bool} {L H : List Int} {N fk : Nat} (hs : simpleB W T xs = true) (ht : tok W T xs L = true) (hN : (W + 1) * (T + 1) = (N : Int)) (hf : frstK W T xs N = fk) (hlen : H.length = N) (hoff : ∀ k, k < N → hAt W T xs k = false → H.getD k 0 = 99) (h0 : H.getD fk 0 = 0)
 (hside : ∀ k nth, k < N → sUsed W T xs k nth = true → H.getD (sTo W k nth).toNat 0 - H.getD k 0 = rT W T xs L k nth) : HtsOf W T xs L H N := by
 obtain ⟨H', h'⟩ := hts_exist hs ht hN hf
 obtain ⟨v1, v2, v3, v4, v5, v6⟩ := rv_true (simpleB_rv hs)
 have all := corners_all hs hf (fun k => H.getD k 0 = H'.getD k 0) (by rw [h0, h'.first fk hf]) (fun k nth hu => by
  obtain ⟨t0, t1, t2⟩ := sTo_lt v1 hu
  have a := hside k nth (by omega) hu
  have b := h'.side k nth (by omega) hu
  omega)
 have e : H = H' := by
  refine ext_getD (by rw [hlen, h'.len]) fun k hk => ?_
  rw [hlen] at hk
  cases ha : hAt W T xs k
  · rw [hoff k hk ha, h'.off k hk ha]
  · exact all k ha
 rw [e]; exact h'
theorem tby_hts {W T : Int} {xs : List Bool} {H : List Int} {N fk : Nat} (h : HokP W T xs H N fk) : HtsOf W T xs (tbyP W T xs H (sidesK W T xs N)) H N := by
 have hrv := simpleB_rv h.hs
 obtain ⟨v1, v2, v3, v4, v5, v6⟩ := rv_true hrv
 have hN := h.hN
 have hr : sdsOk W T xs H N = true := sdsOk_iff.2 (fun s hs => by obtain ⟨k, nth⟩ := s; obtain ⟨h1, h2⟩ := sidesK_mem.1 hs; exact h.side k nth h1 h2)
 refine hts_like h.hs (tby_tok h) hN h.fst h.len h.off h.first fun k nth hk hu => ?_
 have hside := side_ok hr hk hu
 have key : sBoth W T xs k nth = true → ((tbyP W T xs H (sidesK W T xs N)).getD (sCell W k nth).toNat 0 = sWay nth ↔ jmpB W T xs H k nth = true) := by
  intro hb
  obtain ⟨a, b, e1, e2, al, bl, hne, ax, ay, bx, by_, hl, hra⟩ := side_left v1 hb
  rw [e1, Int.toNat_natCast, tbyL_get v1 hN (by omega), ax, ay]
  obtain ⟨_, _, c4, c1, c2, c3⟩ := way_cases v1 hN hr hl
  have ek := cI_of v1 k
  cases nth
  · have ex : sLx W k false = kx W k := rfl
    rw [ex] at c4 ⊢
    rw [ek] at c4
    exact c4
  · have ex : sLx W k true = kx W k - 1 := rfl
    rw [ex] at c1 ⊢
    rw [Int.sub_add_cancel, ek] at c1
    exact c1
 unfold rT
 cases hb : sBoth W T xs k nth
 · rw [Bool.false_and, if_neg (by simp)]
   rcases hside with ⟨e, _⟩ | ⟨_, hj⟩
   · exact e
   · unfold jmpB at hj; rw [hb] at hj; simp at hj
 · have kk := key hb
   rcases hside with ⟨e, hj⟩ | ⟨e, hj⟩
   · rw [if_neg (by rw [Bool.true_and, beq_iff_eq, kk, hj]; simp)]; exact e
   · rw [if_pos (by rw [Bool.true_and, beq_iff_eq, kk]; exact hj)]; exact e
theorem hts_hok {W T : Int} {xs : List Bool} {L H : List Int} {N fk : Nat} (hs : simpleB W T xs = true) (hN : (W + 1) * (T + 1) = (N : Int)) (hf : frstK W T xs N = fk) (h : HtsOf W T xs L H N) : HokP W T xs H N fk := by
 refine ⟨hs, hN, hf, h.len, h.off, fun k hk ha => by have := h.bd k hk ha; omega, fun k nth hk hu => ?_, h.first fk hf⟩
 rw [h.side k nth hk hu]
 refine may_of ?_
 unfold rT
 cases hb : sBoth W T xs k nth
 · left; simp
 · by_cases e : (true && (L.getD (sCell W k nth).toNat 0 == sWay nth)) = true
   · rw [if_pos e]; right; exact ⟨rfl, rfl⟩
   · rw [if_neg e]; left; rfl
theorem rs_inj (d a b : Bool) (h : rsB d a = rsB d b) : a = b := by cases d <;> cases a <;> cases b <;> first | rfl | (exfalso; revert h; decide)
theorem hts_inj {W T : Int} {xs : List Bool} {L L' H : List Int} {N : Nat} (hN : (W + 1) * (T + 1) = (N : Int)) (ht : tok W T xs L = true) (ht' : tok W T xs L' = true) (h : HtsOf W T xs L H N) (h' : HtsOf W T xs L' H N) : L = L' := by
 have hl := tok_lok1 ht
 have hl' := tok_lok1 ht'
 obtain ⟨hrv, len, _⟩ := lok_rv hl
 obtain ⟨_, len', _⟩ := lok_rv hl'
 obtain ⟨v1, v2, v3, v4, v5, v6⟩ := rv_true hrv
 refine ext_getD (by rw [len, len']) fun c hc => ?_
 rw [len] at hc
 obtain ⟨ea, c0, c1, c2, c3⟩ := at_cell (W := W) (T := T) v1 v5 hc
 cases hx : xs.getD c false
 · have z : ∀ M : List Int, lok W T xs M = true → M.getD c 0 = 0 := by
    intro M hM
    by_cases e : M.getD c 0 = 0
    · exact e
    · obtain ⟨o, _, _, _, hxc, _⟩ := lok_at hM hc e
      rw [hx] at hxc; cases hxc
   rw [z L hl, z L' hl']
 · rw [hx] at ea
   have ce := Int.emod_add_mul_ediv (c : Int) W
   have hv : ∀ M : List Int, lv W T xs M ((c : Int) % W) ((c : Int) / W) = M.getD c 0 := by
    intro M
    unfold lv
    rw [ea, if_pos rfl]
    congr 1
    rw [Int.mul_comm]; omega
   obtain ⟨f1, f2, f3⟩ := lv_four ht ea
   obtain ⟨g1, g2, g3⟩ := lv_four ht' ea
   obtain ⟨⟨s1, s2⟩, ⟨b1, b2⟩, ⟨w1, w2⟩, ⟨d1, d2⟩⟩ := cell_sides v1 ea
   have lt : ∀ {k : Nat} {nth : Bool}, sUsed W T xs k nth = true → k < N := fun hh => by obtain ⟨t0, t1, t2⟩ := sTo_lt v1 hh; omega
   have same : ∀ k nth, sUsed W T xs k nth = true → (lv W T xs L (sLx W k nth) (ky W k) == sWay nth) = (lv W T xs L' (sLx W k nth) (ky W k) == sWay nth) := by
    intro k nth hu
    have a := h.side k nth (lt hu) hu
    have b := h'.side k nth (lt hu) hu
    rw [rT_eq hl] at a
    rw [rT_eq hl'] at b
    exact rs_inj _ _ _ (a.symm.trans b)
   obtain ⟨p1, p2, p3⟩ := cI_xy (W := W) (x := (c : Int) % W) (y := (c : Int) / W) c0 (by omega) c2
   obtain ⟨q1, q2, q3⟩ := cI_xy (W := W) (x := (c : Int) % W) (y := (c : Int) / W + 1) c0 (by omega) (by omega)
   obtain ⟨r1, r2, r3⟩ := cI_xy (W := W) (x := (c : Int) % W + 1) (y := (c : Int) / W) (by omega) (by omega) c2
   have t4 := same _ _ s1
   have t2 := same _ _ b1
   have t1 := same _ _ d1
   have el : ∀ k, sLx W k false = kx W k := fun k => rfl
   have er : ∀ k, sLx W k true = kx W k - 1 := fun k => rfl
   have wf : sWay false = 4 := rfl
   have wt : sWay true = 1 := rfl
   rw [el, p2, p3, wf] at t4
   rw [el, q2, q3, wf, f1, g1] at t2
   rw [er, r2, r3, Int.add_sub_cancel, wt] at t1
   rw [hv L] at f3 t4 t2 t1
   rw [hv L'] at g3 t4 t2 t1
   generalize L.getD c 0 = u at *
   generalize L'.getD c 0 = v at *
   have hu : u = 1 ∨ u = 2 ∨ u = 3 ∨ u = 4 := by omega
   have hv' : v = 1 ∨ v = 2 ∨ v = 3 ∨ v = 4 := by omega
   clear hv
   rcases hu with rfl | rfl | rfl | rfl <;> rcases hv' with rfl | rfl | rfl | rfl <;> first | rfl | (exfalso; revert t4; decide) | (exfalso; revert t2; decide) | (exfalso; revert t1; decide)

theorem tby_of {W T : Int} {xs : List Bool} {L H : List Int} (hs : simpleB W T xs = true) (ht : tok W T xs L = true) (h : HtsR W T xs L H) : hokB W T xs H = true ∧ tbyF W T xs H = (L, true) := by
 obtain ⟨N, fk, hN, hf⟩ := hokP_size hs
 rcases h with ⟨_, h⟩ | ⟨h, _⟩
 · have eN : ((W + 1) * (T + 1)).toNat = N := by omega
   rw [eN] at h
   have hp := hts_hok hs hN hf h
   have hk := hok_of hp
   refine ⟨hk, ?_⟩
   unfold tbyF
   rw [if_pos hk, eN, hts_inj hN (tby_tok hp) ht (tby_hts hp) h]
 · rw [hs, ht] at h; cases h
end Go.Proofs.Ytpcajacekmidbaa

namespace Go.Proofs.Ytpcajacekmidbaa
open Go.RowKit
set_option linter.unusedVariables false
set_option maxRecDepth 100000
set_option linter.unusedSimpArgs false

theorem all4 {p : Nat → Nat → Nat → Nat → Bool} (h : ((List.range 7).all fun W => (List.range 7).all fun T => (List.range (W * T)).all fun k => (List.range 5).all fun v => p W T k v) = true) {W T k v : Nat} (hW : W ≤ 6) (hT : T ≤ 6) (hk : k < W * T) (hv : v ≤ 4) : p W T k v = true := by
 have h1 := List.all_eq_true.1 h W (List.mem_range.2 (by omega))
 have h2 := List.all_eq_true.1 h1 T (List.mem_range.2 (by omega))
 have h3 := List.all_eq_true.1 h2 k (List.mem_range.2 hk)
 exact List.all_eq_true.1 h3 v (List.mem_range.2 (by omega))
end Go.Proofs.Ytpcajacekmidbaa

namespace Go.Proofs.Ytpcajacekmidbaa
open Go.RowKit
set_option linter.unusedVariables false
set_option maxRecDepth 100000
set_option linter.unusedSimpArgs false

theorem tok_lokP {W T : Int} {xs : List Bool} {L : List Int} (h : tok W T xs L = true) : lok W T xs L = true := by unfold tok at h; simp only [Bool.and_eq_true] at h; exact h.1
theorem tok_cell {W T : Int} {xs : List Bool} {L : List Int} (h : tok W T xs L = true) {i : Nat} (hi : i < xs.length) (hx : xs.getD i false = true) : L.getD i 0 ≠ 0 := by
 have hl := tok_lokP h
 obtain ⟨_, hlen, _⟩ := lok_rv hl
 intro h0
 have hf : freeB xs L i = true := by unfold freeB; rw [hx, h0]; rfl
 unfold tok at h
 rw [hl, Bool.true_and, decide_eq_true_eq] at h
 rcases first_cases xs L 0 L.length with ⟨_, hno⟩ | ⟨k, _, _, hk, _⟩
 · have := hno i (Nat.zero_le _) (by omega)
   rw [hf] at this; cases this
 · rw [hk] at h; omega
end Go.Proofs.Ytpcajacekmidbaa

namespace Go.Proofs.Ytpcajacekmidbaa
open Go.RowKit
set_option linter.unusedVariables false
set_option maxRecDepth 100000
set_option linter.unusedSimpArgs false

def Has (L M : List Int) : Prop := ∀ k, L.getD k 0 ≠ 0 → M.getD k 0 = L.getD k 0
theorem canLay_of {W T : Int} {xs : List Bool} {L : List Int} {c o : Nat} {way : Int} (hr : rv W T xs = true) (hc : c < xs.length) (hs : stepI W T c way = o) (h1 : freeB xs L c = true) (h2 : freeB xs L o = true) : canLay W T xs L c way = true ∧ laidL W T xs L c way = (L.set c way).set o (backI way) := by
 have hcell : cellB W T xs.length c way = o := by unfold cellB; rw [if_pos ⟨by omega, by omega⟩]; exact hs
 have h : canLay W T xs L c way = true := canLay_yes (by rw [hcell]; omega) (by simpa using h1) (by rw [hcell]; simpa using h2)
 refine ⟨h, ?_⟩
 unfold laidL
 rw [if_pos h, hcell]
 rfl
theorem allL_mem {W T : Int} {xs : List Bool} : ∀ (f : Nat) (L M : List Int), freeN xs L < f → lok W T xs L = true → tok W T xs M = true → Has L M → M ∈ allL W T xs f L
 | 0, L, M, h, _, _, _ => absurd h (Nat.not_lt_zero _)
 | f + 1, L, M, hf, hl, hM, hh => by
   have hlM := tok_lokP hM
   obtain ⟨hr, hlen, _⟩ := lok_rv hl
   obtain ⟨_, hlenM, _⟩ := lok_rv hlM
   obtain ⟨v1, v2, v3, v4, v5, _⟩ := rv_true hr
   rcases first_cases xs L 0 xs.length with ⟨h0, hno⟩ | ⟨c, _, hc, h0, hfc, hno⟩
   · rw [allL_done h0 (by omega)]
     have e : M = L := by
      refine ext_getD (by rw [hlenM, hlen]) fun k hk => ?_
      rw [hlenM] at hk
      by_cases hz : L.getD k 0 = 0
      · have hx : xs.getD k false = false := by
         cases hx : xs.getD k false
         · rfl
         · have h1 := hno k (Nat.zero_le _) hk
           unfold freeB at h1
           rw [hx, hz] at h1; cases h1
        rw [hz]
        by_cases hm : M.getD k 0 = 0
        · exact hm
        · obtain ⟨_, _, _, _, hx', _⟩ := lok_at hlM hk hm
          rw [hx] at hx'; cases hx'
      · exact hh k hz
     rw [e]; exact List.mem_cons_self
   · rw [allL_succ h0 (by omega)]
     obtain ⟨hxc, hLc⟩ := free_zero hfc
     have hMc := tok_cell hM hc hxc
     obtain ⟨o, hs, ho, hne, _, hxo, hMo, hback, w1, w4⟩ := lok_at hlM hc hMc
     have hLo : L.getD o 0 = 0 := by
      by_cases hz : L.getD o 0 = 0
      · exact hz
      · exfalso
        have e1 := hh o hz
        obtain ⟨o2, hs2, _, _, _, _, hb2, _, _, _⟩ := lok_at hl ho hz
        rw [← e1, hMo, hback] at hs2
        have : o2 = c := by omega
        subst this
        rw [← e1, hMo, back_back ⟨w1, w4⟩] at hb2
        exact hMc (by rw [← hb2]; exact hLc)
     have hfo : freeB xs L o = true := by unfold freeB; rw [hxo, hLo]; rfl
     have hway : M.getD c 0 = 1 ∨ M.getD c 0 = 2 := by
      have hoc : c < o := by
       rcases Nat.lt_or_ge o c with h | h
       · have := hno o (Nat.zero_le _) h
         rw [hfo] at this; cases this
       · omega
      have : M.getD c 0 = 1 ∨ M.getD c 0 = 2 ∨ M.getD c 0 = 3 ∨ M.getD c 0 = 4 := by omega
      rcases this with e | e | e | e
      · exact Or.inl e
      · exact Or.inr e
      · rw [e] at hs; have := step_three hs (by omega); omega
      · rw [e] at hs; have := step_four hs (by omega); omega
     obtain ⟨hcan, hlaid⟩ := canLay_of hr hc hs hfc hfo
     have hhas : Has (laidL W T xs L c (M.getD c 0)) M := by
      rw [hlaid]
      intro k hk
      rw [getD_set2 (by rw [hlen]; exact hc) (by rw [hlen]; exact ho)] at hk ⊢
      by_cases e1 : k = o
      · rw [if_pos e1, e1, hMo]
      · rw [if_neg e1] at hk ⊢
        by_cases e2 : k = c
        · rw [if_pos e2, e2]
        · rw [if_neg e2] at hk ⊢; exact hh k hk
     have hrec := allL_mem f (laidL W T xs L c (M.getD c 0)) M (by have := free_drop' hway hl hcan; omega) (lok_laid hl hcan) hM hhas
     rw [List.mem_append]
     rcases hway with e | e
     · rw [e] at hcan hrec
       exact Or.inl (by rw [if_pos hcan]; exact hrec)
     · rw [e] at hcan hrec
       exact Or.inr (by rw [if_pos hcan]; exact hrec)
theorem bare_zero (W T : Int) (xs : List Bool) (k : Nat) : (bareL W T xs).getD k 0 = 0 := by
 unfold bareL
 split
 · by_cases h : k < xs.length
   · simp [List.getD, h]
   · simp [List.getD, h]
 · simp [List.getD]
theorem mem_allF {W T : Int} {xs : List Bool} {M : List Int} (h : tok W T xs M = true) : M ∈ allF W T xs := by
 have hl := tok_lokP h
 obtain ⟨hr, _, _⟩ := lok_rv hl
 unfold allF
 rw [if_pos hr]
 exact allL_mem _ _ _ (by have := freeN_le xs (bareL W T xs); omega) (by rw [lok_bareL]; exact hr) h (fun k hk => absurd (bare_zero W T xs k) hk)
theorem mem_allF_iff {W T : Int} {xs : List Bool} {M : List Int} : M ∈ allF W T xs ↔ tok W T xs M = true := ⟨fun h => (allF_each h).2, mem_allF⟩
theorem allL_has {W T : Int} {xs : List Bool} : ∀ (f : Nat) (L M : List Int), lok W T xs L = true → M ∈ allL W T xs f L → Has L M
 | 0, L, M, _, h => by simp [allL] at h
 | f + 1, L, M, hl, h => by
   obtain ⟨hr, hlen, _⟩ := lok_rv hl
   rcases first_cases xs L 0 xs.length with ⟨h0, hno⟩ | ⟨c, _, hc, h0, hfc, hno⟩
   · rw [allL_done h0 (by omega)] at h
     simp only [List.mem_cons, List.not_mem_nil, or_false] at h
     subst h
     exact fun k _ => rfl
   · rw [allL_succ h0 (by omega), List.mem_append] at h
     have part : ∀ way : Int, M ∈ (if canLay W T xs L c way = true then allL W T xs f (laidL W T xs L c way) else []) → Has L M := by
      intro way hm
      split at hm
      · rename_i hcan
        obtain ⟨kn, o, e, hk, ho, hne, hs, hf, hfo, w1, w4, hb, el⟩ := canLay_at hr hlen hcan
        have : kn = c := by omega
        subst this
        have h1 := allL_has f _ M (lok_laid hl hcan) hm
        rw [el] at h1
        intro k hk0
        have hkc : k ≠ kn := by intro e2; rw [e2] at hk0; exact hk0 (free_zero hf).2
        have hko : k ≠ o := by intro e2; rw [e2] at hk0; exact hk0 (free_zero hfo).2
        have h2 := h1 k
        rw [getD_set2 (by rw [hlen]; exact hk) (by rw [hlen]; exact ho), if_neg hko, if_neg hkc] at h2
        exact h2 hk0
      · simp at hm
     rcases h with h | h
     · exact part 1 h
     · exact part 2 h
theorem has_at {W T : Int} {xs : List Bool} {L : List Int} {c : Nat} {way : Int} (hl : lok W T xs L = true) (hcan : canLay W T xs L c way = true) : (laidL W T xs L c way).getD c 0 = way ∧ way ≠ 0 := by
 obtain ⟨hr, hlen, _⟩ := lok_rv hl
 obtain ⟨kn, o, e, hk, ho, hne, hs, hf, hfo, w1, w4, hb, el⟩ := canLay_at hr hlen hcan
 have : kn = c := by omega
 subst this
 rw [el, getD_set2 (by rw [hlen]; exact hk) (by rw [hlen]; exact ho), if_neg (Ne.symm hne), if_pos rfl]
 exact ⟨rfl, by omega⟩
def Before (A B : List Int) : Prop := ∃ c, c < A.length ∧ c < B.length ∧ (∀ k, k < c → A.getD k 0 = B.getD k 0) ∧ A.getD c 0 < B.getD c 0
theorem allL_sorted {W T : Int} {xs : List Bool} : ∀ (f : Nat) (L : List Int), lok W T xs L = true → (allL W T xs f L).Pairwise Before
 | 0, L, _ => by simp [allL]
 | f + 1, L, hl => by
   obtain ⟨hr, hlen, _⟩ := lok_rv hl
   rcases first_cases xs L 0 xs.length with ⟨h0, hno⟩ | ⟨c, _, hc, h0, hfc, hno⟩
   · rw [allL_done h0 (by omega)]
     simp
   · rw [allL_succ h0 (by omega), List.pairwise_append]
     refine ⟨?_, ?_, ?_⟩
     · split
       · rename_i hcan
         exact allL_sorted f _ (lok_laid hl hcan)
       · simp
     · split
       · rename_i hcan
         exact allL_sorted f _ (lok_laid hl hcan)
       · simp
     · intro A hA B hB
       split at hA
       · rename_i c1
         split at hB
         · rename_i c2
           have a1 := allL_has f _ A (lok_laid hl c1) hA
           have b1 := allL_has f _ B (lok_laid hl c2) hB
           obtain ⟨la, ta⟩ := allL_each f _ (lok_laid hl c1) A hA
           obtain ⟨lb, tb⟩ := allL_each f _ (lok_laid hl c2) B hB
           have a2 := a1 c (by rw [(has_at hl c1).1]; exact (has_at hl c1).2)
           have b2 := b1 c (by rw [(has_at hl c2).1]; exact (has_at hl c2).2)
           rw [(has_at hl c1).1] at a2
           rw [(has_at hl c2).1] at b2
           have hA' : Has L A := allL_has (f + 1) L A hl (by rw [allL_succ h0 (by omega), List.mem_append]; exact Or.inl (by rw [if_pos c1]; exact hA))
           have hB' : Has L B := allL_has (f + 1) L B hl (by rw [allL_succ h0 (by omega), List.mem_append]; exact Or.inr (by rw [if_pos c2]; exact hB))
           refine ⟨c, by omega, by omega, fun k hk => ?_, by rw [a2, b2]; omega⟩
           by_cases hz : L.getD k 0 = 0
           · have hx : xs.getD k false = false := by
              cases hx : xs.getD k false
              · rfl
              · have h1 := hno k (Nat.zero_le _) hk
                unfold freeB at h1
                rw [hx, hz] at h1; cases h1
             have zero : ∀ M : List Int, tok W T xs M = true → M.getD k 0 = 0 := by
              intro M hM
              by_cases hm : M.getD k 0 = 0
              · exact hm
              · obtain ⟨_, _, _, _, hx', _⟩ := lok_at (tok_lokP hM) (show k < xs.length by omega) hm
                rw [hx] at hx'; cases hx'
             rw [zero A ta, zero B tb]
           · rw [hA' k hz, hB' k hz]
         · simp at hB
       · simp at hA
theorem Before.ne {A B : List Int} (h : Before A B) : A ≠ B := by
 obtain ⟨c, _, _, _, h⟩ := h
 intro e; rw [e] at h; omega
theorem allF_sorted (W T : Int) (xs : List Bool) : (allF W T xs).Pairwise Before := by
 unfold allF
 split
 · rename_i h
   exact allL_sorted _ _ (by rw [lok_bareL]; exact h)
 · simp
theorem allF_nodup (W T : Int) (xs : List Bool) : (allF W T xs).Nodup := (allF_sorted W T xs).imp fun h => h.ne

end Go.Proofs.Ytpcajacekmidbaa

namespace Go.Proofs.Ytpcajacekmidbaa
open Go.RowKit
set_option linter.unusedVariables false
set_option maxRecDepth 100000
set_option linter.unusedSimpArgs false

theorem hts_mod {W T : Int} {xs : List Bool} {L M A B : List Int} (hs : simpleB W T xs = true) (hL : tok W T xs L = true) (hM : tok W T xs M = true) (hA : HtsR W T xs L A) (hB : HtsR W T xs M B) :
 A.length = B.length ∧ ∀ k, k < A.length → (A.getD k 0 - B.getD k 0) % 4 = 0 ∧ (-200 ≤ A.getD k 0 - B.getD k 0 ∧ A.getD k 0 - B.getD k 0 ≤ 200) := by
 have hoA := (tby_of hs hL hA).1
 have hoB := (tby_of hs hM hB).1
 have hl := hok_length hoA hoB
 obtain ⟨N, fk, hN, hf⟩ := hokP_size hs
 have a := hok_to hN hf hoA
 have b := hok_to hN hf hoB
 refine ⟨hl, fun k hk => ?_⟩
 have e1 := hok_entry hoA hk
 have e2 := hok_entry hoB (k := k) (by omega)
 refine ⟨?_, by omega, by omega⟩
 cases ha : hAt W T xs k
 · rw [a.off k (by rw [← a.len]; exact hk) ha, b.off k (by rw [← a.len]; exact hk) ha]; rfl
 · exact hok_mod a b k ha
end Go.Proofs.Ytpcajacekmidbaa

namespace Go.Proofs.Ytpcajacekmidbaa
open Go.RowKit
set_option linter.unusedVariables false
set_option maxRecDepth 100000
set_option linter.unusedSimpArgs false

def EdgeR (up : Bool) (W T : Int) (xs : List Bool) (X H : List Int) : Prop :=
 simpleB W T xs = true ∧ tok W T xs X = true ∧ HtsR W T xs X H ∧ ∀ M B, tok W T xs M = true → HtsR W T xs M B → ∀ k, k < H.length → if up then B.getD k 0 ≤ H.getD k 0 else H.getD k 0 ≤ B.getD k 0
def LowRes (up : Bool) (W T : Int) (xs : List Bool) (X : List Int) (ok : Bool) : Prop :=
 (ok = true ∧ ∃ H, EdgeR up W T xs X H) ∨ (ok = false ∧ X = [] ∧ (simpleB W T xs = false ∨ ∀ L, tok W T xs L = false))
theorem LowRes.len {up : Bool} {W T : Int} {xs : List Bool} {X : List Int} {ok : Bool} (h : LowRes up W T xs X ok) : X.length ≤ xs.length := by
 rcases h with ⟨_, H, _, ht, _⟩ | ⟨_, rfl, _⟩
 · rw [(lok_rv (tok_lok1 ht)).2.1]; exact Nat.le_refl _
 · simp
end Go.Proofs.Ytpcajacekmidbaa
