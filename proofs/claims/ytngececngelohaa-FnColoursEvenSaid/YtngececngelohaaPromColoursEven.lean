/- The law FnColoursEven: its walk. -/
import Derived.Test.YtngececngelohaaDraw7
import Derived.Test.YtngececngelohaaEven
import Derived.Test.YtngececngelohaaBarsS
import Derived.Test.YtngececngelohaaPromColourMany
namespace Go.Proofs.Ytngececngelohaa
open Go.RowKit
set_option linter.unusedVariables false
set_option maxRecDepth 100000
set_option linter.unusedSimpArgs false

/-- Without a cell there is one cell less of its colour. -/
theorem colN_drop {W : Int} {xs : List Bool} {r s : Int} {c : Nat} (hx : xs.getD c false = true) {ys : List Bool} (hy : ∀ i, ys.getD i false = if i = c then false else xs.getD i false) : ∀ k, colN W xs r s k = colN W ys r s k + if c < k ∧ clAt W r s c = true then 1 else 0
  | 0 => by unfold colN; simp
  | k + 1 => by
    rw [colN_succ, colN_succ, colN_drop hx hy k, hy k]
    by_cases hk : k = c
    · subst hk
      rw [hx]
      cases clAt W r s k <;> simp
    · rw [if_neg hk]
      have e : (c < k + 1 ∧ clAt W r s c = true) ↔ (c < k ∧ clAt W r s c = true) := ⟨fun h => ⟨by omega, h.2⟩, fun h => ⟨by omega, h.2⟩⟩
      by_cases h2 : c < k ∧ clAt W r s c = true
      · rw [if_pos h2, if_pos (e.2 h2)]; omega
      · rw [if_neg h2, if_neg (fun h => h2 (e.1 h))]; omega
/-- A step to the east or to the north leads to the next colour. -/
theorem clAt_step {W T way r s : Int} {k o : Nat} (hw : way = 1 ∨ way = 2) (hW : 1 ≤ W) (hW6 : W ≤ 6) (h : stepI W T k way = o) : (o : Int) % W + (o : Int) / W = (k : Int) % W + (k : Int) / W + 1 := by
  rcases hw with rfl | rfl
  · unfold stepI at h
    by_cases h1 : (k : Int) % W < W - 1
    · rw [if_pos ⟨rfl, h1⟩] at h
      have e : (o : Int) = k + 1 := by omega
      rw [e]
      have hWs : W = 1 ∨ W = 2 ∨ W = 3 ∨ W = 4 ∨ W = 5 ∨ W = 6 := by omega
      rcases hWs with rfl | rfl | rfl | rfl | rfl | rfl <;> omega
    · rw [if_neg (fun q => h1 q.2)] at h
      simp at h
  · rcases step_up (W := W) (T := T) (k := k) (Or.inr rfl) hW (by omega) with ⟨h', _, _⟩ | ⟨_, h2⟩
    · omega
    · have e : (o : Int) = k + W := by omega
      rw [e]
      have hWs : W = 1 ∨ W = 2 ∨ W = 3 ∨ W = 4 ∨ W = 5 ∨ W = 6 := by omega
      rcases hWs with rfl | rfl | rfl | rfl | rfl | rfl <;> omega
/-- How many of the next m colours from v on are s. -/
def hits (r s v : Int) (m : Nat) : Nat := (List.range m).countP fun (i : Nat) => (v + i) % r == s
theorem hits_succ (r s v : Int) (m : Nat) : hits r s v (m + 1) = (if v % r = s then 1 else 0) + hits r s (v + 1) m := by
  unfold hits
  rw [List.range_succ_eq_map, List.countP_cons, List.countP_map]
  have e : (fun (i : Nat) => (v + (i : Int)) % r == s) ∘ Nat.succ = fun (i : Nat) => (v + 1 + (i : Int)) % r == s := by
    funext i; simp only [Function.comp]; congr 2; omega
  rw [e, Nat.add_comm]
  congr 1
  simp
theorem hits_all {r : Nat} (h1 : 1 ≤ r) (h4 : r ≤ 4) {s : Nat} (hs : s < r) (v : Int) : hits r s v r = 1 := by
  have hr : r = 1 ∨ r = 2 ∨ r = 3 ∨ r = 4 := by omega
  rcases hr with rfl | rfl | rfl | rfl
  · simp only [hits_succ]; unfold hits; simp; omega
  · have hv : v % 2 = 0 ∨ v % 2 = 1 := by omega
    have hs' : s = 0 ∨ s = 1 := by omega
    simp only [hits_succ]; unfold hits
    rcases hs' with rfl | rfl <;> rcases hv with hv | hv <;> simp <;> (repeat' split) <;> omega
  · have hs' : s = 0 ∨ s = 1 ∨ s = 2 := by omega
    simp only [hits_succ]; unfold hits
    rcases hs' with rfl | rfl | rfl <;> simp <;> (repeat' split) <;> omega
  · have hs' : s = 0 ∨ s = 1 ∨ s = 2 ∨ s = 3 := by omega
    simp only [hits_succ]; unfold hits
    rcases hs' with rfl | rfl | rfl | rfl <;> simp <;> (repeat' split) <;> omega
/-- A bar takes as many cells of a colour as its length tells. -/
theorem barL_col {W T way r s : Int} {xs : List Bool} {n : Nat} (hw : way = 1 ∨ way = 2) (hW : 1 ≤ W) (hW6 : W ≤ 6) (hn : n = xs.length) (hWT : (n : Int) = W * T) : ∀ (m : Nat) (c : Nat) (P Q : List Nat), c < n → barL W T way xs m c P = some Q → colN W (lessB xs P) r s n = colN W (lessB xs Q) r s n + hits r s ((c : Int) % W + (c : Int) / W) m
  | 0, c, P, Q, hc, h => by unfold barL at h; cases h; unfold hits; simp
  | 1, c, P, Q, hc, h => by
    unfold barL at h
    split at h
    · rename_i h1
      rw [Int.toNat_natCast] at h h1
      unfold barL at h
      cases h
      have hd := colN_drop (W := W) (r := r) (s := s) h1.2 (ys := lessB xs (P ++ [c])) (fun i => by
        rw [lessB_snoc]
        by_cases hi : i < xs.length
        · rw [tab_getD _ hi]
        · rw [List.getD_eq_getElem?_getD, List.getElem?_eq_none (by rw [tab_len]; omega)]
          split
          · rfl
          · rw [List.getD_eq_getElem?_getD, List.getElem?_eq_none (by rw [lessB_len]; omega)]) n
      rw [hd, hits_succ]
      unfold hits clAt
      simp [hc]
    · cases h
  | m + 2, c, P, Q, hc, h => by
    have h0 := h
    unfold barL at h
    split at h
    · rename_i h1
      rw [Int.toNat_natCast] at h h1
      have hst : 0 ≤ stepI W T c way := by
        unfold barL at h
        split at h
        · rename_i h2; exact h2.1
        · cases h
      obtain ⟨o, ho⟩ := Int.eq_ofNat_of_zero_le hst
      have hb := step_bd (W := W) (T := T) (k := (c : Int)) (way := way) hW (by omega) (by omega)
      rw [ho] at h hb
      have hon : o < n := by omega
      have ih := barL_col (r := r) (s := s) hw hW hW6 hn hWT (m + 1) o (P ++ [c]) Q hon h
      have hcl := clAt_step (r := r) (s := s) hw hW hW6 ho
      rw [hcl] at ih
      have hd := colN_drop (W := W) (r := r) (s := s) h1.2 (ys := lessB xs (P ++ [c])) (fun i => by
        rw [lessB_snoc]
        by_cases hi : i < xs.length
        · rw [tab_getD _ hi]
        · rw [List.getD_eq_getElem?_getD, List.getElem?_eq_none (by rw [tab_len]; omega)]
          split
          · rfl
          · rw [List.getD_eq_getElem?_getD, List.getElem?_eq_none (by rw [lessB_len]; omega)]) n
      have e : (if c < n ∧ clAt W r s c = true then 1 else 0) = (if ((c : Int) % W + (c : Int) / W) % r = s then 1 else 0) := by unfold clAt; simp [hc]
      have hh := hits_succ r s ((c : Int) % W + (c : Int) / W) (m + 1)
      rw [hd, e, ih, show m + 2 = m + 1 + 1 from rfl, hh, Nat.add_assoc]
      congr 1
      exact Nat.add_comm _ _
    · cases h
theorem colN_none {W r s : Int} {xs : List Bool} {n : Nat} (h : ∀ j, j < n → xs.getD j false = false) : colN W xs r s n = 0 := by
  unfold colN
  rw [List.countP_eq_zero]
  intro a ha
  rw [h a (List.mem_range.1 ha)]; simp
/-- Bars have every colour once. -/
theorem bars_even {W T : Int} {r n : Nat} (hW : 1 ≤ W) (hW6 : W ≤ 6) (hWT : (n : Int) = W * T) (h1 : 1 ≤ r) (h4 : r ≤ 4) : ∀ (f : Nat) (xs : List Bool), n = xs.length → cnt xs < f → 1 ≤ barsF W T r f xs → ∀ s : Nat, s < r → colN W xs r s n = colN W xs r 0 n
  | 0, xs, _, h, _, _, _ => absurd h (Nat.not_lt_zero _)
  | f + 1, xs, hn, hf, hb, s, hs => by
    by_cases hfi : xs.findIdx id < xs.length
    · have hc : xs.findIdx id < n := by omega
      have key : ∀ way : Int, (way = 1 ∨ way = 2) → 1 ≤ barOne (barsF W T r f) xs (barL W T way xs r (xs.findIdx id) []) → colN W xs r s n = colN W xs r 0 n := by
        intro way hw hone
        cases hL : barL W T way xs r (xs.findIdx id) [] with
        | none => rw [hL] at hone; exact absurd hone (by simp [barOne])
        | some P =>
          rw [hL] at hone
          have hlt := barL_lt h1 hL
          have ih := bars_even hW hW6 hWT h1 h4 f (lessB xs P) (by rw [lessB_len]; exact hn) (by omega) hone s hs
          have a := barL_col (r := r) (s := s) hw hW hW6 hn hWT r _ [] P hc hL
          have b := barL_col (r := r) (s := 0) hw hW hW6 hn hWT r _ [] P hc hL
          rw [lessB_nil] at a b
          have e1 := hits_all h1 h4 hs ((xs.findIdx id : Nat) % W + (xs.findIdx id : Nat) / W)
          have e0 := hits_all h1 h4 (show 0 < r by omega) ((xs.findIdx id : Nat) % W + (xs.findIdx id : Nat) / W)
          rw [e1] at a
          rw [show (((0 : Nat) : Int)) = 0 from rfl] at e0
          rw [e0] at b
          omega
      unfold barsF at hb
      rw [if_pos hfi] at hb
      rcases Nat.lt_or_ge 0 (barOne (barsF W T r f) xs (barL W T 1 xs r (xs.findIdx id) [])) with h | h
      · exact key 1 (Or.inl rfl) h
      · split at hb
        · omega
        · exact key 2 (Or.inr rfl) (by omega)
    · have hno : ∀ j, j < n → xs.getD j false = false := fun j hj => findIdx_none (by have : xs.findIdx id ≤ xs.length := List.findIdx_le_length; omega)
      rw [colN_none hno, colN_none hno]

set_option maxHeartbeats 4000000 in
theorem promColoursEven_walk (cb : Option Addr) (n cap : Nat) (zs : List Int) (w : World) (hn : n = zs.length) (hn' : n ≤ maxLen) (hcap : n ≤ cap) (hb : BytesAt w cb zs) :
    Calls Try.prog 4 #[.slice cb n cap] w fun e w' => e = .returned (.bool true) ∧ Below w.heap.size w w' := by
  have HN := Lib.hid hn; clear hn
  have HB := Lib.hid hb; clear hb
  by_cases hbig : 1048576 < n
  · unfold maxLen at hn'
    go_enter Try.func4, Try.ntmps4
    go_wp2
    go_ret
    exact ⟨rfl, Below.refl _ _⟩
  have hsm : n ≤ 1048576 := by omega
  clear hbig hn'
  go_enter Try.func4, Try.ntmps4
  go_wp2_with fail
  refine (drawColoursEven_any _ _ _ zs _ HN.out hsm hcap HB.out).mono ?_; rintro e w1 ⟨W0, T0, a, m, c, xs, r, rfl, hm, h36, hs, hrs, ho, b1⟩
  have HM := Lib.hid hm; clear hm
  have AX := Lib.hid (OwnsB.at ho); clear ho
  obtain ⟨s0, s1, s2, s3⟩ := hs
  obtain ⟨r0, r1⟩ := hrs
  -- what is told of the numbers
  obtain ⟨ev, hev⟩ : ∃ ev, ev = evenF W0 T0 xs r := ⟨_, rfl⟩
  obtain ⟨bm, hbm⟩ : ∃ bm, bm = barsM W0 T0 xs r := ⟨_, rfl⟩
  obtain ⟨cm, hcm⟩ : ∃ cm, cm = many W0 T0 xs := ⟨_, rfl⟩
  have hfacts : (bm < 1 ∨ ev = true) ∧ (ev = true → (1 ≤ r ∧ r ≤ 4 ∧ 0 ≤ cm ∧ cm ≤ 36 ∧ cm % r = 0)) := by
    by_cases hok : rv W0 T0 xs = true ∧ barB r = true
    · obtain ⟨hrv, hbar⟩ := hok
      have hr4 : 1 ≤ r ∧ r ≤ 4 := by simpa [barB] using hbar
      obtain ⟨q2, q3⟩ := hr4
      obtain ⟨v1, v2, v3, v4, v5, v6⟩ := rv_true hrv
      obtain ⟨R, rfl⟩ := Int.eq_ofNat_of_zero_le (show 0 ≤ r by omega)
      have e1 : evenF W0 T0 xs R = evenTo W0 xs R R := by unfold evenF; rw [hrv, hbar]; rfl
      have e2 : barsM W0 T0 xs R = barsF W0 T0 R (cnt xs + 1) xs := by unfold barsM; rw [hrv, hbar]; rfl
      have e3 : many W0 T0 xs = cnt xs := by unfold many; rw [hrv]; rfl
      rw [e1] at hev; rw [e2] at hbm; rw [e3] at hcm
      constructor
      · rcases Nat.lt_or_ge 0 (barsF W0 T0 R (cnt xs + 1) xs) with h | h
        · right
          rw [hev, evenTo_iff]
          exact fun s hs => bars_even v1 v2 v5 (by omega) (by omega) _ xs rfl (Nat.lt_succ_self _) h s hs
        · left; omega
      · intro he
        rw [hev, evenTo_iff] at he
        refine ⟨q2, q3, by omega, ?_, ?_⟩
        · have := cnt_le xs; omega
        · have hsum := colSum_all W0 xs R (by omega) (by omega)
          have hk : ∀ k, k ≤ R → colSum W0 xs R xs.length k = k * colN W0 xs R 0 xs.length := by
            intro k; induction k with
            | zero => intro _; simp [colSum]
            | succ k ih => intro h; rw [colSum_succ, ih (by omega), he k (by omega), Nat.succ_mul]
          rw [hk R (Nat.le_refl _)] at hsum
          rw [hcm, ← hsum]
          simp
    · have e1 : evenF W0 T0 xs r = false := by
        unfold evenF; rw [Bool.eq_false_iff]; intro h; rw [Bool.and_eq_true, Bool.and_eq_true] at h; exact hok h.1
      have e2 : barsM W0 T0 xs r = -1 := by
        unfold barsM; rw [if_neg (by rw [Bool.and_eq_true]; exact hok)]
      rw [e1] at hev; rw [e2] at hbm
      exact ⟨Or.inl (by omega), fun h => by rw [hev] at h; cases h⟩
  obtain ⟨F1, F2⟩ := hfacts
  have HF2 := Lib.hid F2; clear F2
  have HF1 := Lib.hid F1; clear F1
  go_wp2_with fail
  refine (iColoursEven_any W0 T0 r a m c xs _ HM.out (by omega) (AX.out.one _)).mono ?_; rintro e w2 ⟨rfl, hb2⟩
  have b2 := below_seq (below_seq b1 (below1 _ _)) hb2
  have p2 := heap_later (heap_new w1 _) hb2
  have A2 := Lib.hid ((AX.out.one (.cells #[.int .i64 W0, .int .i64 T0, .slice a m c] 30)).below hb2)
  obtain ⟨c0, c1, c2⟩ := cells3 p2
  rw [← hev]
  go_wp2_with fail
  refine (sColoursEven_any W0 T0 r a m c xs _ HM.out (by omega) A2.out).mono ?_; rintro e w3 ⟨rfl, hb3⟩
  have b3 := below_seq b2 hb3
  have p3 := heap_later p2 hb3
  have A3 := Lib.hid (A2.out.below hb3)
  rw [← hev]
  clear c0 c1 c2
  obtain ⟨c0, c1, c2⟩ := cells3 p3
  have HEV := Lib.hid hev; clear hev
  cases ev
  · have hb0 : bm < 1 := HF1.out.elim id (fun h => by cases h)
    have HBM := Lib.hid hbm; clear hbm
    go_wp2_with fail
    refine (iBarsMany_any W0 T0 r a m c xs _ HM.out (by omega) A3.out).mono ?_; rintro e w4 ⟨rfl, hb4⟩
    rw [← HBM.out]
    have b4 := below_seq b3 hb4
    go_wp2_with fail
    refine (alive_any _).mono ?_; rintro e w6 ⟨rfl, hb6⟩
    go_wp2
    go_ret
    exact ⟨rfl, below_seq b4 hb6⟩
  · obtain ⟨g1, g2, g3, g4, g5⟩ := HF2.out rfl
    have HBM := Lib.hid hbm; clear hbm
    have HCM := Lib.hid hcm; clear hcm
    have hr0 : r ≠ 0 := by omega
    go_wp2_with fail
    refine (iBarsMany_any W0 T0 r a m c xs _ HM.out (by omega) A3.out).mono ?_; rintro e w4 ⟨rfl, hb4⟩
    rw [← HBM.out]
    have b4 := below_seq b3 hb4
    have p4 := heap_later p3 hb4
    have A4 := Lib.hid (A3.out.below hb4)
    clear c0 c1 c2
    obtain ⟨c0, c1, c2⟩ := cells3 p4
    by_cases hb1 : bm < 1
    · go_wp2_with fail
      refine (iCellsMany_any _ _ _ _ _ xs _ HM.out (by omega) A4.out).mono ?_; rintro e w5 ⟨rfl, hb5⟩
      rw [← HCM.out]
      have b5 := below_seq b4 hb5
      go_wp2_with fail
      refine (alive_any _).mono ?_; rintro e w6 ⟨rfl, hb6⟩
      go_wp2
      go_ret
      exact ⟨rfl, below_seq b5 hb6⟩
    · go_wp2_with fail
      refine (iCellsMany_any _ _ _ _ _ xs _ HM.out (by omega) A4.out).mono ?_; rintro e w5 ⟨rfl, hb5⟩
      rw [← HCM.out]
      have b5 := below_seq b4 hb5
      go_wp2_with fail
      refine (alive_any _).mono ?_; rintro e w6 ⟨rfl, hb6⟩
      go_wp2
      go_ret
      exact ⟨rfl, below_seq b5 hb6⟩

end Go.Proofs.Ytngececngelohaa
