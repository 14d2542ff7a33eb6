/- Contract of spec.l2Complete: a list is completed, the east first. -/
import Derived.Test.YtpcajacekmidbaaLaid
import Derived.Test.YtpcajacekmidbaaLayOne
import Derived.Test.YtpcajacekmidbaaTill
namespace Go.Proofs.Ytpcajacekmidbaa
open Go.RowKit
set_option linter.unusedVariables false
set_option maxRecDepth 100000
set_option linter.unusedSimpArgs false

/-- The call returns a list that lies at B or beyond, and a mark. -/
def RetLB (B : Nat) (w : World) (n : Nat) (ys : List Int) (ok : Bool) (e : Ending) (w' : World) : Prop :=
  ∃ a cap, e = .returned (.tuple #[.slice a n cap, .bool ok]) ∧ OwnsI w' B (.slice a n cap) ys ∧ Below w.heap.size w w'

/-- The first completion, and whether there is one; f is more than there are free cells. -/
def compL (W T : Int) (xs : List Bool) : Nat → List Int → List Int × Bool
  | 0, _ => ([], false)
  | f + 1, L =>
    if firstI xs L 0 xs.length < 0 then (L, true)
    else if ((layF W T xs L (firstI xs L 0 xs.length) 1).2 && (compL W T xs f (layF W T xs L (firstI xs L 0 xs.length) 1).1).2) = true then compL W T xs f (layF W T xs L (firstI xs L 0 xs.length) 1).1
    else if ((layF W T xs L (firstI xs L 0 xs.length) 2).2 && (compL W T xs f (layF W T xs L (firstI xs L 0 xs.length) 2).1).2) = true then compL W T xs f (layF W T xs L (firstI xs L 0 xs.length) 2).1
    else ([], false)
theorem compL_succ {W T : Int} {xs : List Bool} {f : Nat} {L : List Int} {c : Int} (h : firstI xs L 0 xs.length = c) (h0 : ¬ c < 0) : compL W T xs (f + 1) L =
    if ((layF W T xs L c 1).2 && (compL W T xs f (layF W T xs L c 1).1).2) = true then compL W T xs f (layF W T xs L c 1).1
      else if ((layF W T xs L c 2).2 && (compL W T xs f (layF W T xs L c 2).1).2) = true then compL W T xs f (layF W T xs L c 2).1 else ([], false) := by
  subst h
  have e : compL W T xs (f + 1) L = if firstI xs L 0 xs.length < 0 then (L, true)
    else if ((layF W T xs L (firstI xs L 0 xs.length) 1).2 && (compL W T xs f (layF W T xs L (firstI xs L 0 xs.length) 1).1).2) = true then compL W T xs f (layF W T xs L (firstI xs L 0 xs.length) 1).1
    else if ((layF W T xs L (firstI xs L 0 xs.length) 2).2 && (compL W T xs f (layF W T xs L (firstI xs L 0 xs.length) 2).1).2) = true then compL W T xs f (layF W T xs L (firstI xs L 0 xs.length) 2).1
    else ([], false) := rfl
  rw [e, if_neg h0]
theorem compL_len (W T : Int) (xs : List Bool) : ∀ f L, (compL W T xs f L).1.length ≤ L.length
  | 0, L => by simp [compL]
  | f + 1, L => by
    unfold compL
    split
    · exact Nat.le_refl _
    · split
      · exact Nat.le_trans (compL_len W T xs f _) (layF_len _ _ _ _ _ _)
      · split
        · exact Nat.le_trans (compL_len W T xs f _) (layF_len _ _ _ _ _ _)
        · simp
/-- How many cells are free. -/
def freeN (xs : List Bool) (L : List Int) : Nat := (List.range xs.length).countP (freeB xs L)
theorem freeN_le (xs : List Bool) (L : List Int) : freeN xs L ≤ xs.length := by
  have := List.countP_le_length (p := freeB xs L) (l := List.range xs.length)
  rwa [List.length_range] at this
theorem layF_yes {W T : Int} {xs : List Bool} {L : List Int} {k way : Int} (h : (layF W T xs L k way).2 = true) : lok W T xs L = true ∧ canLay W T xs L k way = true ∧ (layF W T xs L k way).1 = laidL W T xs L k way := by
  unfold layF at h ⊢
  by_cases hl : lok W T xs L = true
  · rw [if_pos hl] at h ⊢; exact ⟨hl, h, rfl⟩
  · rw [if_neg hl] at h; cases h
theorem layF_length {W T : Int} {xs : List Bool} {L : List Int} {k way : Int} (h : (layF W T xs L k way).2 = true) : (layF W T xs L k way).1.length = L.length := by
  rw [(layF_yes h).2.2, laidL_len]
theorem free_drop {W T : Int} {xs : List Bool} {L : List Int} {k way : Int} (hw : way = 1 ∨ way = 2) (h : (layF W T xs L k way).2 = true) : freeN xs (layF W T xs L k way).1 < freeN xs L := by
  obtain ⟨hl, hc, e⟩ := layF_yes h
  rw [e]
  obtain ⟨hr, hlen, _⟩ := lok_rv hl
  obtain ⟨v1, v2, v3, v4, v5, _⟩ := rv_true hr
  have hc0 := hc
  unfold canLay at hc
  simp only [Bool.and_eq_true, decide_eq_true_eq] at hc
  obtain ⟨⟨h0, h1⟩, h2⟩ := hc
  obtain ⟨k0, k1, o1, ok, hway⟩ := cellB_bd (W := W) (T := T) (n := xs.length) v1 v5 h0
  obtain ⟨kn, rfl⟩ := Int.eq_ofNat_of_zero_le k0
  obtain ⟨on, ho⟩ := Int.eq_ofNat_of_zero_le h0
  rw [ho] at h2 o1 ok
  simp only [Int.toNat_natCast] at h1 h2
  unfold laidL
  rw [if_pos hc0, ho]
  simp only [Int.toNat_natCast]
  have hb : backI way ≠ 0 := by unfold backI; omega
  have hw0 : way ≠ 0 := by omega
  unfold freeN
  refine countP_lt _ _ _ (fun j _ hj => ?_) kn (List.mem_range.2 (by omega)) ?_ h1
  · unfold freeB at hj ⊢
    rw [getD_set1, getD_set1] at hj
    simp only [Bool.and_eq_true, beq_iff_eq] at hj ⊢
    refine ⟨hj.1, ?_⟩
    have h3 := hj.2
    split at h3
    · exact absurd h3 hb
    · split at h3
      · exact absurd h3 hw0
      · exact h3
  · unfold freeB
    rw [getD_set1, getD_set1]
    have hne : ¬ kn = on := by intro e; apply ok; rw [e]
    rw [if_neg (fun q => hne q.1), if_pos ⟨rfl, by omega⟩]
    simp [hw0]
theorem ret_slC {a : Option Addr} {n n' cap : Nat} {b b' : Bool} (h : n = n') (hb : b = b') : Ending.returned (.tuple #[.slice a n cap, .bool b]) = .returned (.tuple #[.slice a n' cap, .bool b']) := by rw [h, hb]

set_option maxHeartbeats 4000000 in
theorem l2Complete_ret (W T : Int) (xs : List Bool) : ∀ (f : Nat) (a : Option Addr) (n cap : Nat) (la : Option Addr) (lcap : Nat) (L : List Int) (B : Nat) (w : World), n = xs.length → n ≤ 1048576 → n = L.length → freeN xs L < f → BoolsAt w a xs → OwnsI w B (.slice la n lcap) L → B ≤ w.heap.size →
    Calls Try.prog 186 #[.agg #[.int .i64 W, .int .i64 T, .slice a n cap], .slice la n lcap] w (RetLB B w (compL W T xs f L).1.length (compL W T xs f L).1 (compL W T xs f L).2) := by
  intro f
  induction f with
  | zero => intro a n cap la lcap L B w _ _ _ h; exact absurd h (Nat.not_lt_zero _)
  | succ f ih =>
  intro a n cap la lcap L B w hn hn' hm hf ha hl hBw
  have HN := Lib.hid hn; clear hn
  have HM := Lib.hid hm; clear hm
  have HA := Lib.hid ha; clear ha
  have HL := Lib.hid hl; clear hl
  have HI := Lib.hid ih; clear ih
  have HF := Lib.hid hf; clear hf
  obtain ⟨fv, hfv⟩ : ∃ fv, firstI xs L 0 n = fv := ⟨_, rfl⟩
  by_cases h0 : fv < 0
  · have HE : Hid (compL W T xs (f + 1) L = (L, true)) := by show _ = _; unfold compL; rw [← HN.out, hfv, if_pos h0]
    have HFV := Lib.hid hfv; clear hfv
    rw [HE.out]
    go_enter Try.func186, Try.ntmps186
    go_wp2_with fail
    refine (l2First_any _ _ _ _ _ xs _ _ L _ HN.out HM.out hn' (HA.out.one _) (OwnsI.at (HL.out.alloc _))).mono ?_; rintro e w1 ⟨rfl, hb1⟩
    have b1 := below_seq (below1 w _) hb1
    rw [HFV.out]
    go_wp2
    go_ret2
    exact ⟨la, lcap, ret_slC HM.out rfl, by rw [← HM.out]; exact HL.out.below b1, b1⟩
  · obtain ⟨c, rfl⟩ : ∃ c : Nat, fv = c := ⟨fv.toNat, by omega⟩
    obtain ⟨V, hV⟩ : ∃ V, compL W T xs (f + 1) L = V := ⟨_, rfl⟩
    have HV : Hid (V = if ((layF W T xs L c 1).2 && (compL W T xs f (layF W T xs L c 1).1).2) = true then compL W T xs f (layF W T xs L c 1).1
      else if ((layF W T xs L c 2).2 && (compL W T xs f (layF W T xs L c 2).1).2) = true then compL W T xs f (layF W T xs L c 2).1 else ([], false)) := by
      show V = _
      rw [← hV]; exact compL_succ (by rw [← HN.out]; exact hfv) h0
    rw [hV]
    clear hV
    have HFV := Lib.hid hfv; clear hfv
    have HB := Lib.hid hBw; clear hBw
    go_enter Try.func186, Try.ntmps186
    go_wp2_with fail
    refine (l2First_any _ _ _ _ _ xs _ _ L _ HN.out HM.out hn' (HA.out.one _) (OwnsI.at (HL.out.alloc _))).mono ?_; rintro e w1 ⟨rfl, hb1⟩
    have p1 := heap_later (heap_new w (.cells #[.int .i64 W, .int .i64 T, .slice a n cap] 25)) hb1
    have B1 := Lib.hid (below_seq (below1 w _) hb1)
    rw [HFV.out]
    clear hb1
    have hc0 : ¬ ((c : Int) < 0) := by omega
    clear h0
    go_wp2
    go_loopw [7] (fun i wr => ∃ wy : Nat, (wy = 1 ∨ wy = 2 ∨ wy = 3) ∧ i = .int .i64 wy ∧ (1 < wy → ((layF W T xs L c 1).2 && (compL W T xs f (layF W T xs L c 1).1).2) = false) ∧ (2 < wy → ((layF W T xs L c 2).2 && (compL W T xs f (layF W T xs L c 2).1).2) = false) ∧
        wr.heap[w.heap.size]? = some (.cells #[.int .i64 W, .int .i64 T, .slice a n cap] 25 (0, 0)) ∧ Below w.heap.size w wr) (fun i _ => 3 - (intOf i).toNat)
    case atStart => exact ⟨1, Or.inl rfl, rfl, fun h => absurd h (by omega), fun h => absurd h (by omega), p1, B1.out⟩
    case round =>
      rename World => wo
      clear p1 B1
      obtain ⟨wy, hwy, rfl, no1, no2, po, bo⟩ := hrel
      have BO := Lib.hid bo; clear bo
      have N1 := Lib.hid no1; clear no1
      have N2 := Lib.hid no2; clear no2
      obtain ⟨c0, c1, c2⟩ := cells3 po
      have zo := BO.out.size
      rcases hwy with rfl | rfl | rfl
      · go_wp2_with fail
        refine (sLayOne_ret _ _ _ _ _ xs _ _ _ L _ _ _ HN.out hn' HM.out (by omega) (HA.out.below BO.out) (OwnsI.at (HL.out.below BO.out))).mono ?_; rintro e w2 ⟨a2, cap2, rfl, ho2, hb2⟩
        have B2 := Lib.hid (below_seq BO.out hb2)
        have p2 := heap_later po hb2
        clear c0 c1 c2
        obtain ⟨c0, c1, c2⟩ := cells3 p2
        have z2 := hb2.size
        clear hb2
        cases hok : (layF W T xs L (c : Int) 1).2
        · have HOK : Hid (((layF W T xs L c 1).2 && (compL W T xs f (layF W T xs L c 1).1).2) = false) := by show _ = _; rw [hok]; rfl
          clear hok
          go_wp2
          go_roundw
          case rel => exact ⟨2, Or.inr (Or.inl rfl), by go_num, fun _ => HOK.out, fun h => absurd h (by omega), p2, B2.out⟩
          case measure => simp [intOf]
        · have hl2 : (layF W T xs L (c : Int) 1).1.length = n := by rw [layF_length hok, HM.out]
          have hfr := free_drop (Or.inl rfl) hok
          have HFR : Hid (freeN xs (layF W T xs L (c : Int) 1).1 < f) := by show _ < _; have := HF.out; omega
          have HL2 := Lib.hid hl2.symm
          rw [hl2] at ho2 ⊢
          have O2 := Lib.hid ho2; clear ho2 hl2 hfr
          have HOK := Lib.hid hok; clear hok
          go_wp2_with fail
          refine (HI.out _ _ _ _ _ _ wo.heap.size _ HN.out hn' HL2.out HFR.out (HA.out.below B2.out) O2.out z2).mono ?_; rintro e w3 ⟨a3, cap3, rfl, ho3, hb3⟩
          have B3 := Lib.hid (below_seq B2.out hb3)
          have p3 := heap_later p2 hb3
          have O3 := Lib.hid (ho3.lower (B' := B) (by have := HB.out; omega))
          clear c0 c1 c2 ho3 hb3
          obtain ⟨c0, c1, c2⟩ := cells3 p3
          cases hdone : (compL W T xs f (layF W T xs L (c : Int) 1).1).2
          · have HD : Hid (((layF W T xs L c 1).2 && (compL W T xs f (layF W T xs L c 1).1).2) = false) := by show _ = _; rw [hdone]; simp
            clear hdone
            go_wp2
            go_roundw
            case rel => exact ⟨2, Or.inr (Or.inl rfl), by go_num, fun _ => HD.out, fun h => absurd h (by omega), p3, B3.out⟩
            case measure => simp [intOf]
          · have HD : Hid (V = compL W T xs f (layF W T xs L (c : Int) 1).1) := by
              show V = _
              have hok := HOK.out
              rw [HV.out]
              rw [if_pos (by rw [hok, hdone]; rfl)]
            have HD2 := Lib.hid hdone; clear hdone
            go_wp2
            go_ret2
            exact ⟨a3, cap3, ret_slC (by rw [HD.out]) (by rw [HD.out, HD2.out]), by rw [HD.out]; exact O3.out, B3.out⟩
      · go_wp2_with fail
        refine (sLayOne_ret _ _ _ _ _ xs _ _ _ L _ _ _ HN.out hn' HM.out (by omega) (HA.out.below BO.out) (OwnsI.at (HL.out.below BO.out))).mono ?_; rintro e w2 ⟨a2, cap2, rfl, ho2, hb2⟩
        have B2 := Lib.hid (below_seq BO.out hb2)
        have p2 := heap_later po hb2
        clear c0 c1 c2
        obtain ⟨c0, c1, c2⟩ := cells3 p2
        have z2 := hb2.size
        clear hb2
        cases hok : (layF W T xs L (c : Int) 2).2
        · have HOK : Hid (((layF W T xs L c 2).2 && (compL W T xs f (layF W T xs L c 2).1).2) = false) := by show _ = _; rw [hok]; rfl
          clear hok
          go_wp2
          go_roundw
          case rel => exact ⟨3, Or.inr (Or.inr rfl), by go_num, fun _ => N1.out (by decide), fun _ => HOK.out, p2, B2.out⟩
          case measure => simp [intOf]
        · have hl2 : (layF W T xs L (c : Int) 2).1.length = n := by rw [layF_length hok, HM.out]
          have hfr := free_drop (Or.inr rfl) hok
          have HFR : Hid (freeN xs (layF W T xs L (c : Int) 2).1 < f) := by show _ < _; have := HF.out; omega
          have HL2 := Lib.hid hl2.symm
          rw [hl2] at ho2 ⊢
          have O2 := Lib.hid ho2; clear ho2 hl2 hfr
          have HOK := Lib.hid hok; clear hok
          go_wp2_with fail
          refine (HI.out _ _ _ _ _ _ wo.heap.size _ HN.out hn' HL2.out HFR.out (HA.out.below B2.out) O2.out z2).mono ?_; rintro e w3 ⟨a3, cap3, rfl, ho3, hb3⟩
          have B3 := Lib.hid (below_seq B2.out hb3)
          have p3 := heap_later p2 hb3
          have O3 := Lib.hid (ho3.lower (B' := B) (by have := HB.out; omega))
          clear c0 c1 c2 ho3 hb3
          obtain ⟨c0, c1, c2⟩ := cells3 p3
          cases hdone : (compL W T xs f (layF W T xs L (c : Int) 2).1).2
          · have HD : Hid (((layF W T xs L c 2).2 && (compL W T xs f (layF W T xs L c 2).1).2) = false) := by show _ = _; rw [hdone]; simp
            clear hdone
            go_wp2
            go_roundw
            case rel => exact ⟨3, Or.inr (Or.inr rfl), by go_num, fun _ => N1.out (by decide), fun _ => HD.out, p3, B3.out⟩
            case measure => simp [intOf]
          · have HD : Hid (V = compL W T xs f (layF W T xs L (c : Int) 2).1) := by
              show V = _
              have hok := HOK.out
              rw [HV.out]
              rw [if_neg (by rw [N1.out (by decide)]; exact Bool.false_ne_true), if_pos (by rw [hok, hdone]; rfl)]
            have HD2 := Lib.hid hdone; clear hdone
            go_wp2
            go_ret2
            exact ⟨a3, cap3, ret_slC (by rw [HD.out]) (by rw [HD.out, HD2.out]), by rw [HD.out]; exact O3.out, B3.out⟩
      · have HD : Hid (V = ([], false)) := by
          show V = _
          rw [HV.out, if_neg (by rw [N1.out (by decide)]; exact Bool.false_ne_true), if_neg (by rw [N2.out (by decide)]; exact Bool.false_ne_true)]
        go_wp2
        go_ret2
        exact ⟨some ⟨wo.heap.size, 0, none⟩, 0, ret_slC (by rw [HD.out]; rfl) (by rw [HD.out]), by rw [HD.out]; exact World.ownsRow_made wo #[] 0 (by have := HB.out; omega) (Nat.zero_le _) rfl, below_seq BO.out (below1 _ _)⟩
end Go.Proofs.Ytpcajacekmidbaa
