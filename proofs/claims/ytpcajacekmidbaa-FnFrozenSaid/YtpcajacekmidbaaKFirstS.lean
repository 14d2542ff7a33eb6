/- Contracts of spec.Complete and spec.TilingFirst. -/
import Derived.Test.YtpcajacekmidbaaKLayOne
import Derived.Laws.CopyOwn
namespace Go.Proofs.Ytpcajacekmidbaa
open Go.RowKit
set_option linter.unusedVariables false
set_option maxRecDepth 100000
set_option linter.unusedSimpArgs false

def cellsOf (N : Nat) (f : Nat → Bool) : Array Value := ((tab N f).map Value.bool).toArray
theorem RowB.block {w : World} {B g N : Nat} {f : Nat → Bool} (h : RowB w B g N N f) : w.heap[g]? = some (.cells (cellsOf N f) 4 (0, 0)) := by
 rcases h.2 with ⟨h', _⟩ | ⟨g', cap', cur, h', _, hg, _, _, hs, ht⟩
 · simp at h'
 · simp only [Value.slice.injEq, Option.some.injEq, Addr.mk.injEq, and_true, true_and] at h'
   obtain ⟨rfl, rfl⟩ := h'
   rw [hg]
   have e : cur = cellsOf N f := by
    apply Array.toList_inj.1
    rw [List.take_of_length_le (by simp [hs])] at ht
    rw [ht]; simp [cellsOf]
   rw [e]
end Go.Proofs.Ytpcajacekmidbaa

namespace Go.Proofs.Ytpcajacekmidbaa
open Go.RowKit
set_option linter.unusedVariables false
set_option maxRecDepth 100000
set_option linter.unusedSimpArgs false

end Go.Proofs.Ytpcajacekmidbaa

namespace Go.Proofs.Ytpcajacekmidbaa
open Go.RowKit
set_option linter.unusedVariables false
set_option maxRecDepth 100000
set_option linter.unusedSimpArgs false

theorem ne_own {x y : Nat} (h : x ≠ y) : (some x : Option Nat) ≠ some y := fun e => h (Option.some.inj e)

end Go.Proofs.Ytpcajacekmidbaa

namespace Go.Proofs.Ytpcajacekmidbaa
open Go.RowKit
set_option linter.unusedVariables false
set_option maxRecDepth 100000
set_option linter.unusedSimpArgs false

def RetLB (B : Nat) (w : World) (n : Nat) (ys : List Int) (ok : Bool) (e : Ending) (w' : World) : Prop :=
 ∃ a cap, e = .returned (.tuple #[.slice a n cap, .bool ok]) ∧ OwnsI w' B (.slice a n cap) ys ∧ Below w.heap.size w w'

def compL (W T : Int) (xs : List Bool) : Nat → List Int → List Int × Bool
 | 0, _ => ([], false)
 | f + 1, L =>
   if firstI xs L 0 xs.length < 0 then (L, true)
   else if ((layF W T xs L (firstI xs L 0 xs.length) 1).2 && (compL W T xs f (layF W T xs L (firstI xs L 0 xs.length) 1).1).2) = true then compL W T xs f (layF W T xs L (firstI xs L 0 xs.length) 1).1
   else if ((layF W T xs L (firstI xs L 0 xs.length) 2).2 && (compL W T xs f (layF W T xs L (firstI xs L 0 xs.length) 2).1).2) = true then compL W T xs f (layF W T xs L (firstI xs L 0 xs.length) 2).1
   else ([], false)
theorem compL_succ {W T : Int} {xs : List Bool} {f : Nat} {L : List Int} {c : Int} (h : firstI xs L 0 xs.length = c) (h0 : ¬ c < 0) : compL W T xs (f + 1) L =
 if ((layF W T xs L c 1).2 && (compL W T xs f (layF W T xs L c 1).1).2) = true then compL W T xs f (layF W T xs L c 1).1
  else if ((layF W T xs L c 2).2 && (compL W T xs f (layF W T xs L c 2).1).2) = true then compL W T xs f (layF W T xs L c 2).1 else ([], false) := by
 subst h
 have e : compL W T xs (f + 1) L = if firstI xs L 0 xs.length < 0 then (L, true)
  else if ((layF W T xs L (firstI xs L 0 xs.length) 1).2 && (compL W T xs f (layF W T xs L (firstI xs L 0 xs.length) 1).1).2) = true then compL W T xs f (layF W T xs L (firstI xs L 0 xs.length) 1).1
  else if ((layF W T xs L (firstI xs L 0 xs.length) 2).2 && (compL W T xs f (layF W T xs L (firstI xs L 0 xs.length) 2).1).2) = true then compL W T xs f (layF W T xs L (firstI xs L 0 xs.length) 2).1
  else ([], false) := rfl
 rw [e, if_neg h0]
theorem compL_len (W T : Int) (xs : List Bool) : ∀ f L, (compL W T xs f L).1.length ≤ L.length
 | 0, L => by simp [compL]
 | f + 1, L => by
   unfold compL
   split
   · exact Nat.le_refl _
   · split
     · exact Nat.le_trans (compL_len W T xs f _) (layF_len _ _ _ _ _ _)
     · split
       · exact Nat.le_trans (compL_len W T xs f _) (layF_len _ _ _ _ _ _)
       · simp
def freeN (xs : List Bool) (L : List Int) : Nat := (List.range xs.length).countP (freeB xs L)
theorem freeN_le (xs : List Bool) (L : List Int) : freeN xs L ≤ xs.length := by
 have := List.countP_le_length (p := freeB xs L) (l := List.range xs.length)
 rwa [List.length_range] at this
theorem layF_yes {W T : Int} {xs : List Bool} {L : List Int} {k way : Int} (h : (layF W T xs L k way).2 = true) : lok W T xs L = true ∧ canLay W T xs L k way = true ∧ (layF W T xs L k way).1 = laidL W T xs L k way := by
 unfold layF at h ⊢
 by_cases hl : lok W T xs L = true
 · rw [if_pos hl] at h ⊢; exact ⟨hl, h, rfl⟩
 · rw [if_neg hl] at h; cases h
theorem layF_length {W T : Int} {xs : List Bool} {L : List Int} {k way : Int} (h : (layF W T xs L k way).2 = true) : (layF W T xs L k way).1.length = L.length := by
 rw [(layF_yes h).2.2, laidL_len]
theorem free_drop {W T : Int} {xs : List Bool} {L : List Int} {k way : Int} (hw : way = 1 ∨ way = 2) (h : (layF W T xs L k way).2 = true) : freeN xs (layF W T xs L k way).1 < freeN xs L := by
 obtain ⟨hl, hc, e⟩ := layF_yes h
 rw [e]
 obtain ⟨hr, hlen, _⟩ := lok_rv hl
 obtain ⟨v1, v2, v3, v4, v5, _⟩ := rv_true hr
 have hc0 := hc
 unfold canLay at hc
 simp only [Bool.and_eq_true, decide_eq_true_eq] at hc
 obtain ⟨⟨h0, h1⟩, h2⟩ := hc
 obtain ⟨k0, k1, o1, ok, hway⟩ := cellB_bd (W := W) (T := T) (n := xs.length) v1 v5 h0
 obtain ⟨kn, rfl⟩ := Int.eq_ofNat_of_zero_le k0
 obtain ⟨on, ho⟩ := Int.eq_ofNat_of_zero_le h0
 rw [ho] at h2 o1 ok
 simp only [Int.toNat_natCast] at h1 h2
 unfold laidL
 rw [if_pos hc0, ho]
 simp only [Int.toNat_natCast]
 have hb : backI way ≠ 0 := by unfold backI; omega
 have hw0 : way ≠ 0 := by omega
 unfold freeN
 refine countP_lt _ _ _ (fun j _ hj => ?_) kn (List.mem_range.2 (by omega)) ?_ h1
 · unfold freeB at hj ⊢
   rw [getD_set1, getD_set1] at hj
   simp only [Bool.and_eq_true, beq_iff_eq] at hj ⊢
   refine ⟨hj.1, ?_⟩
   have h3 := hj.2
   split at h3
   · exact absurd h3 hb
   · split at h3
     · exact absurd h3 hw0
     · exact h3
 · unfold freeB
   rw [getD_set1, getD_set1]
   have hne : ¬ kn = on := by intro e; apply ok; rw [e]
   rw [if_neg (fun q => hne q.1), if_pos ⟨rfl, by omega⟩]
   simp [hw0]
theorem ret_slC {a : Option Addr} {n n' cap : Nat} {b b' : Bool} (h : n = n') (hb : b = b') : Ending.returned (.tuple #[.slice a n cap, .bool b]) = .returned (.tuple #[.slice a n' cap, .bool b']) := by rw [h, hb]

set_option maxHeartbeats 4000000 in
theorem l2Complete_ret (W T : Int) (xs : List Bool) : ∀ (f : Nat) (a : Option Addr) (n cap : Nat) (la : Option Addr) (lcap : Nat) (L : List Int) (B : Nat) (w : World), n = xs.length → n ≤ 1048576 → n = L.length → freeN xs L < f → BoolsAt w a xs → OwnsI w B (.slice la n lcap) L → B ≤ w.heap.size →
 Calls Try.prog 186 #[.agg #[.int .i64 W, .int .i64 T, .slice a n cap], .slice la n lcap] w (RetLB B w (compL W T xs f L).1.length (compL W T xs f L).1 (compL W T xs f L).2) := by
 intro f
 induction f with
 | zero => intro a n cap la lcap L B w _ _ _ h; exact absurd h (Nat.not_lt_zero _)
 | succ f ih =>
 intro a n cap la lcap L B w hn hn' hm hf ha hl hBw
 have HN := Lib.hid hn; clear hn
 have HM := Lib.hid hm; clear hm
 have HA := Lib.hid ha; clear ha
 have HL := Lib.hid hl; clear hl
 have HI := Lib.hid ih; clear ih
 have HF := Lib.hid hf; clear hf
 obtain ⟨fv, hfv⟩ : ∃ fv, firstI xs L 0 n = fv := ⟨_, rfl⟩
 by_cases h0 : fv < 0
 · have HE : Hid (compL W T xs (f + 1) L = (L, true)) := by show _ = _; unfold compL; rw [← HN.out, hfv, if_pos h0]
   have HFV := Lib.hid hfv; clear hfv
   rw [HE.out]
   go_enter Try.func186, Try.ntmps186
   go_wp2_with fail
   refine (l2First_any _ _ _ _ _ xs _ _ L _ HN.out HM.out hn' (HA.out.one _) (OwnsI.at (HL.out.alloc _))).mono ?_; rintro e w1 ⟨rfl, hb1⟩
   have b1 := below_seq (below1 w _) hb1
   rw [HFV.out]
   go_wp2
   go_ret2
   exact ⟨la, lcap, ret_slC HM.out rfl, by rw [← HM.out]; exact HL.out.below b1, b1⟩
 · obtain ⟨c, rfl⟩ : ∃ c : Nat, fv = c := ⟨fv.toNat, by omega⟩
   obtain ⟨V, hV⟩ : ∃ V, compL W T xs (f + 1) L = V := ⟨_, rfl⟩
   have HV : Hid (V = if ((layF W T xs L c 1).2 && (compL W T xs f (layF W T xs L c 1).1).2) = true then compL W T xs f (layF W T xs L c 1).1
    else if ((layF W T xs L c 2).2 && (compL W T xs f (layF W T xs L c 2).1).2) = true then compL W T xs f (layF W T xs L c 2).1 else ([], false)) := by
    show V = _
    rw [← hV]; exact compL_succ (by rw [← HN.out]; exact hfv) h0
   rw [hV]
   clear hV
   have HFV := Lib.hid hfv; clear hfv
   have HB := Lib.hid hBw; clear hBw
   go_enter Try.func186, Try.ntmps186
   go_wp2_with fail
   refine (l2First_any _ _ _ _ _ xs _ _ L _ HN.out HM.out hn' (HA.out.one _) (OwnsI.at (HL.out.alloc _))).mono ?_; rintro e w1 ⟨rfl, hb1⟩
   have p1 := heap_later (heap_new w (.cells #[.int .i64 W, .int .i64 T, .slice a n cap] 25)) hb1
   have B1 := Lib.hid (below_seq (below1 w _) hb1)
   rw [HFV.out]
   clear hb1
   have hc0 : ¬ ((c : Int) < 0) := by omega
   clear h0
   go_wp2
   go_loopw [7] (fun i wr => ∃ wy : Nat, (wy = 1 ∨ wy = 2 ∨ wy = 3) ∧ i = .int .i64 wy ∧ (1 < wy → ((layF W T xs L c 1).2 && (compL W T xs f (layF W T xs L c 1).1).2) = false) ∧ (2 < wy → ((layF W T xs L c 2).2 && (compL W T xs f (layF W T xs L c 2).1).2) = false) ∧
    wr.heap[w.heap.size]? = some (.cells #[.int .i64 W, .int .i64 T, .slice a n cap] 25 (0, 0)) ∧ Below w.heap.size w wr) (fun i _ => 3 - (intOf i).toNat)
   case atStart => exact ⟨1, Or.inl rfl, rfl, fun h => absurd h (by omega), fun h => absurd h (by omega), p1, B1.out⟩
   case round =>
    rename World => wo
    clear p1 B1
    obtain ⟨wy, hwy, rfl, no1, no2, po, bo⟩ := hrel
    have BO := Lib.hid bo; clear bo
    have N1 := Lib.hid no1; clear no1
    have N2 := Lib.hid no2; clear no2
    obtain ⟨c0, c1, c2⟩ := cells3 po
    have zo := BO.out.size
    rcases hwy with rfl | rfl | rfl
    · go_wp2_with fail
      refine (sLayOne_ret _ _ _ _ _ xs _ _ _ L _ _ _ HN.out hn' HM.out (by omega) (HA.out.below BO.out) (OwnsI.at (HL.out.below BO.out))).mono ?_; rintro e w2 ⟨a2, cap2, rfl, ho2, hb2⟩
      have B2 := Lib.hid (below_seq BO.out hb2)
      have p2 := heap_later po hb2
      clear c0 c1 c2
      obtain ⟨c0, c1, c2⟩ := cells3 p2
      have z2 := hb2.size
      clear hb2
      cases hok : (layF W T xs L (c : Int) 1).2
      · have HOK : Hid (((layF W T xs L c 1).2 && (compL W T xs f (layF W T xs L c 1).1).2) = false) := by show _ = _; rw [hok]; rfl
        clear hok
        go_wp2
        go_roundw
        case rel => exact ⟨2, Or.inr (Or.inl rfl), by go_num, fun _ => HOK.out, fun h => absurd h (by omega), p2, B2.out⟩
        case measure => simp [intOf]
      · have hl2 : (layF W T xs L (c : Int) 1).1.length = n := by rw [layF_length hok, HM.out]
        have hfr := free_drop (Or.inl rfl) hok
        have HFR : Hid (freeN xs (layF W T xs L (c : Int) 1).1 < f) := by show _ < _; have := HF.out; omega
        have HL2 := Lib.hid hl2.symm
        rw [hl2] at ho2 ⊢
        have O2 := Lib.hid ho2; clear ho2 hl2 hfr
        have HOK := Lib.hid hok; clear hok
        go_wp2_with fail
        refine (HI.out _ _ _ _ _ _ wo.heap.size _ HN.out hn' HL2.out HFR.out (HA.out.below B2.out) O2.out z2).mono ?_; rintro e w3 ⟨a3, cap3, rfl, ho3, hb3⟩
        have B3 := Lib.hid (below_seq B2.out hb3)
        have p3 := heap_later p2 hb3
        have O3 := Lib.hid (ho3.lower (B' := B) (by have := HB.out; omega))
        clear c0 c1 c2 ho3 hb3
        obtain ⟨c0, c1, c2⟩ := cells3 p3
        cases hdone : (compL W T xs f (layF W T xs L (c : Int) 1).1).2
        · have HD : Hid (((layF W T xs L c 1).2 && (compL W T xs f (layF W T xs L c 1).1).2) = false) := by show _ = _; rw [hdone]; simp
          clear hdone
          go_wp2
          go_roundw
          case rel => exact ⟨2, Or.inr (Or.inl rfl), by go_num, fun _ => HD.out, fun h => absurd h (by omega), p3, B3.out⟩
          case measure => simp [intOf]
        · have HD : Hid (V = compL W T xs f (layF W T xs L (c : Int) 1).1) := by
           show V = _
           have hok := HOK.out
           rw [HV.out]
           rw [if_pos (by rw [hok, hdone]; rfl)]
          have HD2 := Lib.hid hdone; clear hdone
          go_wp2
          go_ret2
          exact ⟨a3, cap3, ret_slC (by rw [HD.out]) (by rw [HD.out, HD2.out]), by rw [HD.out]; exact O3.out, B3.out⟩
    · go_wp2_with fail
      refine (sLayOne_ret _ _ _ _ _ xs _ _ _ L _ _ _ HN.out hn' HM.out (by omega) (HA.out.below BO.out) (OwnsI.at (HL.out.below BO.out))).mono ?_; rintro e w2 ⟨a2, cap2, rfl, ho2, hb2⟩
      have B2 := Lib.hid (below_seq BO.out hb2)
      have p2 := heap_later po hb2
      clear c0 c1 c2
      obtain ⟨c0, c1, c2⟩ := cells3 p2
      have z2 := hb2.size
      clear hb2
      cases hok : (layF W T xs L (c : Int) 2).2
      · have HOK : Hid (((layF W T xs L c 2).2 && (compL W T xs f (layF W T xs L c 2).1).2) = false) := by show _ = _; rw [hok]; rfl
        clear hok
        go_wp2
        go_roundw
        case rel => exact ⟨3, Or.inr (Or.inr rfl), by go_num, fun _ => N1.out (by decide), fun _ => HOK.out, p2, B2.out⟩
        case measure => simp [intOf]
      · have hl2 : (layF W T xs L (c : Int) 2).1.length = n := by rw [layF_length hok, HM.out]
        have hfr := free_drop (Or.inr rfl) hok
        have HFR : Hid (freeN xs (layF W T xs L (c : Int) 2).1 < f) := by show _ < _; have := HF.out; omega
        have HL2 := Lib.hid hl2.symm
        rw [hl2] at ho2 ⊢
        have O2 := Lib.hid ho2; clear ho2 hl2 hfr
        have HOK := Lib.hid hok; clear hok
        go_wp2_with fail
        refine (HI.out _ _ _ _ _ _ wo.heap.size _ HN.out hn' HL2.out HFR.out (HA.out.below B2.out) O2.out z2).mono ?_; rintro e w3 ⟨a3, cap3, rfl, ho3, hb3⟩
        have B3 := Lib.hid (below_seq B2.out hb3)
        have p3 := heap_later p2 hb3
        have O3 := Lib.hid (ho3.lower (B' := B) (by have := HB.out; omega))
        clear c0 c1 c2 ho3 hb3
        obtain ⟨c0, c1, c2⟩ := cells3 p3
        cases hdone : (compL W T xs f (layF W T xs L (c : Int) 2).1).2
        · have HD : Hid (((layF W T xs L c 2).2 && (compL W T xs f (layF W T xs L c 2).1).2) = false) := by show _ = _; rw [hdone]; simp
          clear hdone
          go_wp2
          go_roundw
          case rel => exact ⟨3, Or.inr (Or.inr rfl), by go_num, fun _ => N1.out (by decide), fun _ => HD.out, p3, B3.out⟩
          case measure => simp [intOf]
        · have HD : Hid (V = compL W T xs f (layF W T xs L (c : Int) 2).1) := by
           show V = _
           have hok := HOK.out
           rw [HV.out]
           rw [if_neg (by rw [N1.out (by decide)]; exact Bool.false_ne_true), if_pos (by rw [hok, hdone]; rfl)]
          have HD2 := Lib.hid hdone; clear hdone
          go_wp2
          go_ret2
          exact ⟨a3, cap3, ret_slC (by rw [HD.out]) (by rw [HD.out, HD2.out]), by rw [HD.out]; exact O3.out, B3.out⟩
    · have HD : Hid (V = ([], false)) := by
       show V = _
       rw [HV.out, if_neg (by rw [N1.out (by decide)]; exact Bool.false_ne_true), if_neg (by rw [N2.out (by decide)]; exact Bool.false_ne_true)]
      go_wp2
      go_ret2
      exact ⟨some ⟨wo.heap.size, 0, none⟩, 0, ret_slC (by rw [HD.out]; rfl) (by rw [HD.out]), by rw [HD.out]; exact World.ownsRow_made wo #[] 0 (by have := HB.out; omega) (Nat.zero_le _) rfl, below_seq BO.out (below1 _ _)⟩
end Go.Proofs.Ytpcajacekmidbaa

namespace Go.Proofs.Ytpcajacekmidbaa
open Go.RowKit
set_option linter.unusedVariables false
set_option maxRecDepth 100000
set_option linter.unusedSimpArgs false

def compF (W T : Int) (xs : List Bool) (L : List Int) : List Int × Bool := if lok W T xs L then compL W T xs (xs.length + 1) L else ([], false)
theorem compF_len (W T : Int) (xs : List Bool) (L : List Int) : (compF W T xs L).1.length ≤ L.length := by
 unfold compF; split
 · exact compL_len _ _ _ _ _
 · simp

set_option maxHeartbeats 4000000 in
theorem sComplete_ret (W T : Int) (a : Option Addr) (n cap : Nat) (xs : List Bool) (la : Option Addr) (m lcap : Nat) (L : List Int) (w : World) (hn : n = xs.length) (hn' : n ≤ 1048576) (hm : m = L.length) (hm' : m ≤ 1048576) (ha : BoolsAt w a xs) (hl : IntsAt w la L) :
 Calls Try.prog 168 #[.agg #[.int .i64 W, .int .i64 T, .slice a n cap], .slice la m lcap] w (RetLT w (compF W T xs L).1.length (compF W T xs L).1 (compF W T xs L).2) := by
 have HN := Lib.hid hn; clear hn
 have HM := Lib.hid hm; clear hm
 have HA := Lib.hid ha; clear ha
 have HL := Lib.hid hl; clear hl
 cases h : lok W T xs L
 · have e : compF W T xs L = ([], false) := by unfold compF; rw [h]; rfl
   rw [e]
   have H := Lib.hid h; clear h e
   go_enter Try.func168, Try.ntmps168
   go_wp2_with fail
   refine (sLaidOk_any _ _ _ _ _ xs _ _ _ L _ HN.out hn' HM.out hm' (HA.out.one _) (HL.out.one _)).mono ?_; rintro e w1 ⟨rfl, hb1⟩
   have b1 := below_seq (below1 w _) hb1
   rw [H.out]
   go_wp2
   go_ret2
   exact ⟨some ⟨w1.heap.size, 0, none⟩, 0, rfl, World.ownsRow_made w1 #[] 0 b1.size (Nat.zero_le _) rfl, below_seq b1 (below1 _ _)⟩
 · obtain ⟨h1, h2, h3⟩ := lok_rv h
   have hle : m = n := by rw [HM.out, HN.out]; exact h2
   subst hle
   obtain ⟨v1, v2, v3, v4, v5, _⟩ := rv_true h1
   have HV : Hid ((m : Int) = W * T) := by show (m : Int) = W * T; rw [HN.out]; exact v5
   have hpos := rv_pos v1 v3 HV.out
   have e : compF W T xs L = compL W T xs (m + 1) L := by unfold compF; rw [h, HN.out]; rfl
   rw [e]
   clear h2 h3 v5 e h1
   have H := Lib.hid h; clear h
   obtain ⟨i0, hi, hz0, hz1, hz2⟩ := info_parts infoInt
   obtain ⟨lb, lo, rfl, -⟩ := HL.out 0 (by rw [← HM.out]; exact hpos)
   have hfr : freeN xs L < m + 1 := by have := freeN_le xs L; have := HN.out; omega
   have HFR := Lib.hid hfr; clear hfr
   go_enter Try.func168, Try.ntmps168
   go_wp2_with fail
   refine (sLaidOk_any _ _ _ _ _ xs _ _ _ L _ HN.out hn' HM.out hm' (HA.out.one _) (HL.out.one _)).mono ?_; rintro e w1 ⟨rfl, hb1⟩
   have p1 := heap_later (heap_new w (.cells #[.int .i64 W, .int .i64 T, .slice a m cap] 25)) hb1
   have b1 := below_seq (below1 w _) hb1
   have z1 := b1.size
   have zl := heap_lt p1
   rw [H.out]
   clear hb1
   obtain ⟨c0, c1, c2⟩ := cells3 p1
   go_wp2
   have HSD := Lib.hid (show (fun w' : World => w'.cell? ⟨w.heap.size, 0, none⟩ = some (.int .i64 W) ∧ w'.cell? ⟨w.heap.size, 1, none⟩ = some (.int .i64 T) ∧ w'.cell? ⟨w.heap.size, 2, none⟩ = some (.slice a m cap)) w1.drew from ⟨c0, c1, c2⟩)
   refine cut_region (fun a0 aa w' => ∃ (v11 v12 v13 v14 v15 v16 v17 : Value) (a6 : Option Addr) (cap6 : Nat), aa = (((((((((a0.put (some 11) v11).put (some 12) v12).put (some 13) v13).put (some 14) v14).put (some 15) v15).put (some 16) v16).put (some 17) v17).put (some 4) (.slice a6 (compL W T xs (m + 1) L).1.length cap6)).put (some 5) (.bool (compL W T xs (m + 1) L).2)) ∧ OwnsI w' w.heap.size (.slice a6 (compL W T xs (m + 1) L).1.length cap6) (compL W T xs (m + 1) L).1 ∧ Below w.heap.size w w') ?_ ?_
   · refine wp_region_till (fun w' : World => w'.cell? ⟨w.heap.size, 0, none⟩ = some (.int .i64 W) ∧ w'.cell? ⟨w.heap.size, 1, none⟩ = some (.int .i64 T) ∧ w'.cell? ⟨w.heap.size, 2, none⟩ = some (.slice a m cap)) 8 (by kernel_rfl) ?_
     refine Till.take (i := 0) (v := ?_) rfl (by kernel_rfl) (by kernel_rfl) (by kernel_rfl) (by kernel_rfl) (fun _ _ _ h => nomatch h.1) (Or.inl ⟨by kernel_rfl, ?_⟩) HSD.out ?_
     rotate_left
     · intro ws hsw
       obtain ⟨s1, s2, s3⟩ := hsw
       go_simp
       try with_reducible rfl
     try simp only [Act.put, List.setIfInBounds_toArray, List.set_cons_zero, List.set_cons_succ]
     refine Till.take (i := 2) (v := ?_) rfl (by kernel_rfl) (by kernel_rfl) (by kernel_rfl) (by kernel_rfl) (fun _ _ _ h => nomatch h.1) (Or.inl ⟨by kernel_rfl, ?_⟩) HSD.out ?_
     rotate_left
     · intro ws hsw
       obtain ⟨s1, s2, s3⟩ := hsw
       go_simp
       try with_reducible rfl
     try simp only [Act.put, List.setIfInBounds_toArray, List.set_cons_zero, List.set_cons_succ]
     refine Till.one (i := 1) (by kernel_rfl) rfl (by rfl) (fun K hK => ?_)
     go_simp
     have WNA := Lib.hid (show Below w1.heap.size w1 (w1.alloc (.cells #[] 3)).drew from below_seq (below1 _ _) (drew_below _))
     refine hK.out _ _ (fun _ => ⟨cell_later WNA.out c0, cell_later WNA.out c1, cell_later WNA.out c2⟩) ?_
     clear hK K
     have HL1 := Lib.hid ((HL.out.below b1).below WNA.out)
     refine Till.one (i := 3) (by kernel_rfl) rfl (by rfl) (fun K hK => ?_)
     refine step_append_lies _ rfl _ _ 26 rfl (w.heap.size + 1) 3 i0 (.int .i64 0) 1 8 Try.underlying26 hi hz0 hz1 hz2 rfl (by decide) _ 0 [] rfl (show World.ownsRow (World.drew (w1.alloc _)) _ _ _ _ _ _ from World.ownsRow_made w1 #[] 0 (by omega) (Nat.zero_le _) rfl) ⟨lb, lo, none⟩ m lcap (L.map (Value.int .i64)) rfl (by rw [List.length_map, ← HM.out]; omega) (ints_news HL1.out) (ints_one L) hpos (by unfold maxLen; omega) (by omega) (by simp; omega) (w1.heap.size + 1) (by simp) ?_
     intro g' c' w5 hown' hgrow hor glt
     have p5 := heap_grown (heap_later p1 WNA.out) hgrow (ne_own (show w1.heap.size ≠ w.heap.size by omega))
     have B5 := Lib.hid (below_grown (below_seq b1 WNA.out) hgrow (Nat.le_refl _) (fun k e => by have e' : w1.heap.size = k := Option.some.inj e; omega))
     have O5 : Hid (OwnsI w5 (w.heap.size + 1) (.slice (some ⟨g', 0, none⟩) m c') L) := by have h := OwnsI.ofRow (xs := L) hown' (by simp) (by rw [← HM.out]; simp); rwa [Nat.zero_add] at h
     have S5 : (fun w' : World => w'.cell? ⟨w.heap.size, 0, none⟩ = some (.int .i64 W) ∧ w'.cell? ⟨w.heap.size, 1, none⟩ = some (.int .i64 T) ∧ w'.cell? ⟨w.heap.size, 2, none⟩ = some (.slice a m cap)) w5 := ⟨(cells3 p5).1, (cells3 p5).2.1, (cells3 p5).2.2⟩
     have z5 := heap_lt p5
     clear hown' hgrow
     refine hK.out _ _ (fun _ => S5) ?_
     clear hK K
     try simp only [Nat.zero_add]
     refine Till.one (i := 4) (by kernel_rfl) rfl (by rfl) (fun K hK => ?_)
     go_simp
     refine (l2Complete_ret W T xs (m + 1) _ _ _ _ _ L (w.heap.size + 1) _ HN.out hn' HM.out HFR.out (HA.out.below B5.out) O5.out (by omega)).mono ?_; rintro e w6 ⟨a6, cap6, rfl, ho6, hb6⟩
     have p6 := heap_later p5 hb6
     have S6 : (fun w' : World => w'.cell? ⟨w.heap.size, 0, none⟩ = some (.int .i64 W) ∧ w'.cell? ⟨w.heap.size, 1, none⟩ = some (.int .i64 T) ∧ w'.cell? ⟨w.heap.size, 2, none⟩ = some (.slice a m cap)) w6 := ⟨(cells3 p6).1, (cells3 p6).2.1, (cells3 p6).2.2⟩
     have B6 := Lib.hid (below_seq B5.out hb6)
     have O6 := Lib.hid (ho6.lower (show w.heap.size ≤ _ by omega))
     clear ho6 hb6
     refine hK.out _ _ (fun _ => S6) ?_
     clear hK K
     try simp only [Act.put, List.setIfInBounds_toArray, List.set_cons_zero, List.set_cons_succ]
     refine Till.take (i := 5) (v := ?_) rfl (by kernel_rfl) (by kernel_rfl) (by kernel_rfl) (by kernel_rfl) (fun _ _ _ h => nomatch h.1) (Or.inl ⟨by kernel_rfl, ?_⟩) S6 ?_
     rotate_left
     · intro ws hsw
       obtain ⟨s1, s2, s3⟩ := hsw
       go_simp
       try with_reducible rfl
     try simp only [Act.put, List.setIfInBounds_toArray, List.set_cons_zero, List.set_cons_succ]
     refine Till.take (i := 6) (v := ?_) rfl (by kernel_rfl) (by kernel_rfl) (by kernel_rfl) (by kernel_rfl) (fun _ _ _ h => nomatch h.1) (Or.inl ⟨by kernel_rfl, ?_⟩) S6 ?_
     rotate_left
     · intro ws hsw
       obtain ⟨s1, s2, s3⟩ := hsw
       go_simp
       try with_reducible rfl
     try simp only [Act.put, List.setIfInBounds_toArray, List.set_cons_zero, List.set_cons_succ]
     refine Till.take (i := 7) (v := ?_) rfl (by kernel_rfl) (by kernel_rfl) (by kernel_rfl) (by kernel_rfl) (fun _ _ _ h => nomatch h.1) (Or.inl ⟨by kernel_rfl, ?_⟩) S6 ?_
     rotate_left
     · intro ws hsw
       obtain ⟨s1, s2, s3⟩ := hsw
       go_simp
       try with_reducible rfl
     try simp only [Act.put, List.setIfInBounds_toArray, List.set_cons_zero, List.set_cons_succ]
     refine Till.one (i := 8) (by kernel_rfl) rfl (by rfl) (fun K hK => ?_)
     go_simp
     refine hK.out _ _ (fun h => absurd rfl h) ?_
     clear hK K
     exact Till.done (by kernel_rfl) ⟨rfl, _, _, _, _, _, _, _, a6, cap6, rfl, O6.out, B6.out⟩ _
   · rintro a' w6 ⟨v11, v12, v13, v14, v15, v16, v17, a6, cap6, rfl, O6, B6⟩
     go_wp2
     go_ret2
     exact ⟨a6, cap6, rfl, O6, B6⟩

def firstF (W T : Int) (xs : List Bool) : List Int × Bool := compF W T xs (bareL W T xs)
theorem firstF_len (W T : Int) (xs : List Bool) : (firstF W T xs).1.length ≤ xs.length := by
 refine Nat.le_trans (compF_len _ _ _ _) ?_
 unfold bareL; split <;> simp

set_option maxHeartbeats 2000000 in
theorem sTilingFirst_ret (W T : Int) (a : Option Addr) (n cap : Nat) (xs : List Bool) (w : World) (hn : n = xs.length) (hn' : n ≤ 1048576) (ha : BoolsAt w a xs) :
 Calls Try.prog 167 #[.agg #[.int .i64 W, .int .i64 T, .slice a n cap]] w (RetLT w (firstF W T xs).1.length (firstF W T xs).1 (firstF W T xs).2) := by
 have HN := Lib.hid hn; clear hn
 have HA := Lib.hid ha; clear ha
 have hbl := bareL_len W T xs
 rw [← HN.out] at hbl
 have p1 := heap_new w (.cells #[.int .i64 W, .int .i64 T, .slice a n cap] 25)
 have zl := heap_lt p1
 obtain ⟨w1, hw1⟩ : ∃ w1, w1 = w.alloc (.cells #[.int .i64 W, .int .i64 T, .slice a n cap] 25) := ⟨_, rfl⟩
 have b1 : Hid (Below w.heap.size w w1) := by rw [hw1]; exact below1 _ _
 rw [← hw1] at p1
 have A1 : Hid (BoolsAt w1 a xs) := HA.out.below b1.out
 obtain ⟨c0, c1, c2⟩ := cells3 p1
 go_enter Try.func167, Try.ntmps167
 go_wp2
 rw [← hw1]
 clear hw1 zl
 go_region_held3 (fun w' : World => w'.cell? ⟨w.heap.size, 0, none⟩ = some (.int .i64 W) ∧ w'.cell? ⟨w.heap.size, 1, none⟩ = some (.int .i64 T) ∧ w'.cell? ⟨w.heap.size, 2, none⟩ = some (.slice a n cap))
  (go_keep)
  (first
    | (go_at_call 168; refine (sComplete_ret _ _ _ _ _ xs _ _ _ (bareL W T xs) _ HN.out hn' rfl (by omega) (A1.out.below b3) (OwnsI.at ho3)).mono ?_; rintro e w4 ⟨a4, cap4, rfl, ho4, hb4⟩; have p4 := heap_later p3 hb4; obtain ⟨c40, c41, c42⟩ := cells3 p4)
    | (go_at_call 105; refine (sLaidBare_ret _ _ _ _ _ xs _ HN.out hn' (show BoolsAt w1.drew _ _ from A1.out)).mono ?_; rintro e w3 ⟨a3, cap3, rfl, ho3, hb3⟩; have p3 := heap_later (show w1.drew.heap[w.heap.size]? = some _ from p1) hb3; have b3 : Below w1.heap.size w1 w3 := below_seq (drew_below _) hb3; obtain ⟨c30, c31, c32⟩ := cells3 p3))
 go_wp2
 go_ret2
 exact ⟨a4, cap4, rfl, ho4.lower (by have := b1.out.size; have := b3.size; omega), below_seq b1.out (below_seq b3 hb4)⟩
end Go.Proofs.Ytpcajacekmidbaa
