/- Plain facts: the tiling of a rank below their number is one. -/
import Derived.Test.YtknigcjpgkolgaaKDrawTwo
import Derived.Test.YtknigcjpgkolgaaKAllP
import Derived.Test.YtknigcjpgkolgaaKTbyIv1
import Derived.Test.YtknigcjpgkolgaaKHlowSv1
import Derived.Test.YtknigcjpgkolgaaKLatLv1
import Derived.Test.YtknigcjpgkolgaaKSetSv1
import Derived.Test.YtknigcjpgkolgaaKDpT
namespace Go.Proofs.Ytknigcjpgkolgaa
open Go.RowKit
set_option linter.unusedVariables false
set_option maxRecDepth 100000
set_option linter.unusedSimpArgs false

set_option maxHeartbeats 1000000 in
theorem takeOut_any (W T : Int) (g n cg B : Nat) (xs : List Bool) (k way : Int) (w : World) (hn : n = xs.length) (hW0 : 1 ≤ W) (hW1 : W ≤ 6) (hT0 : 1 ≤ T) (hT1 : T ≤ 6) (hWT : (n : Int) = W * T) (ho : OwnsB w B (.slice (some ⟨g, 0, none⟩) n cg) xs) :
    Calls Try.prog 90 #[.agg #[.int .i64 W, .int .i64 T, .slice (some ⟨g, 0, none⟩) n cg], .int .i64 k, .int .i64 way] w fun e w' => e = .returned (.bool (canTake W T xs k way)) ∧ OwnsB w' B (.slice (some ⟨g, 0, none⟩) n cg) (takeB W T xs k way) ∧ w.grownBy w' (some g) := by
  have HN := Lib.hid hn; clear hn
  have HWT := Lib.hid hWT; clear hWT
  obtain ⟨wA, hwA⟩ : ∃ wA, wA = w.alloc (.cells #[.int .i64 W, .int .i64 T, .slice (some ⟨g, 0, none⟩) n cg] 25) := ⟨_, rfl⟩
  have pA : wA.heap[w.heap.size]? = some (.cells #[.int .i64 W, .int .i64 T, .slice (some ⟨g, 0, none⟩) n cg] 25 (0, 0)) := by rw [hwA]; exact heap_new _ _
  have gA : w.grownBy wA (some g) := by rw [hwA]; exact World.grownBy_alloc w _ _
  have oA : OwnsB wA B (.slice (some ⟨g, 0, none⟩) n cg) xs := by rw [hwA]; exact ho.alloc _
  have hg : g < w.heap.size := (World.ownsRow.lt ho g rfl).2
  have HO := Lib.hid ho; clear ho
  obtain ⟨c0, c1, c2⟩ := cells3 pA
  have lA := heap_lt pA
  obtain ⟨o, hoo⟩ : ∃ o, o = cellB W T n k way := ⟨_, rfl⟩
  by_cases hneg : o < 0
  · have hcan : canTake W T xs k way = false := by
      unfold canTake
      rw [← HN.out, ← hoo, decide_eq_false (by omega)]
      rfl
    have htk : takeB W T xs k way = xs := by unfold takeB; rw [hcan]; rfl
    rw [hcan, htk]
    have HOO := Lib.hid hoo; clear hoo hcan htk
    go_enter Try.func90, Try.ntmps90
    go_wp2_with fail
    rw [← hwA]
    clear hwA
    refine (cellBeside_any _ _ _ _ _ _ _ _ hW0 hW1 hT0 hT1 HWT.out).mono ?_; rintro e w1 ⟨rfl, hb1⟩
    rw [← HOO.out]
    go_wp2
    go_ret
    exact ⟨rfl, OwnsB.below oA hb1, grown_seq gA (grown_of_below hb1 _)⟩
  · obtain ⟨on, hon⟩ : ∃ on : Nat, o = on := ⟨o.toNat, by omega⟩
    subst hon
    have hbd := cellB_bd (W := W) (T := T) (n := n) (k := k) (way := way) hW0 HWT.out (by rw [← hoo]; omega)
    obtain ⟨kn, hkn⟩ : ∃ kn : Nat, k = kn := ⟨k.toNat, by omega⟩
    subst hkn
    have hk : kn < n := by omega
    have hon : on < n := by omega
    have hne : on ≠ kn := by omega
    have hcan : canTake W T xs kn way = (xs.getD kn false && xs.getD on false) := by
      unfold canTake
      rw [← HN.out, ← hoo, decide_eq_true (by omega)]
      simp
    have htk : takeB W T xs kn way = if (xs.getD kn false && xs.getD on false) then lessB xs [kn, on] else xs := by
      unfold takeB
      rw [hcan, ← HN.out, ← hoo]
      simp
    rw [hcan, htk]
    have HOO := Lib.hid hoo; clear hoo hcan htk hbd
    have RA : RowB wA B g n cg (fun i => xs.getD i false) := RowB.of oA HN.out
    have e1 : (kn : Int) < n := by omega
    have e2 : (on : Int) < n := by omega
    obtain ⟨xk, hxk⟩ : ∃ xk, xk = xs.getD kn false := ⟨_, rfl⟩
    obtain ⟨xo, hxo⟩ : ∃ xo, xo = xs.getD on false := ⟨_, rfl⟩
    have hck := RA.cell hk
    have hco := RA.cell hon
    simp only [← hxk, ← hxo] at hck hco ⊢
    have HXK := Lib.hid hxk; clear hxk
    have HXO := Lib.hid hxo; clear hxo
    cases hxk : xk
    · subst hxk
      go_enter Try.func90, Try.ntmps90
      go_wp2_with fail
      rw [← hwA]
      clear hwA
      refine (cellBeside_any _ _ _ _ _ _ _ _ hW0 hW1 hT0 hT1 HWT.out).mono ?_; rintro e w1 ⟨rfl, hb1⟩
      rw [← HOO.out]
      have p1 := heap_later pA hb1
      obtain ⟨d0, d1, d2⟩ := cells3 p1
      have hck1 := (RA.below hb1).cell hk
      simp only [← HXK.out] at hck1
      clear c0 c1 c2 hck hco
      go_wp2
      go_ret
      exact ⟨rfl, OwnsB.below oA hb1, grown_seq gA (grown_of_below hb1 _)⟩
    · subst hxk
      cases hxo : xo
      · subst hxo
        go_enter Try.func90, Try.ntmps90
        go_wp2_with fail
        rw [← hwA]
        clear hwA
        refine (cellBeside_any _ _ _ _ _ _ _ _ hW0 hW1 hT0 hT1 HWT.out).mono ?_; rintro e w1 ⟨rfl, hb1⟩
        rw [← HOO.out]
        have p1 := heap_later pA hb1
        obtain ⟨d0, d1, d2⟩ := cells3 p1
        have hck1 := (RA.below hb1).cell hk
        have hco1 := (RA.below hb1).cell hon
        simp only [← HXK.out, ← HXO.out] at hck1 hco1
        clear c0 c1 c2 hck hco
        go_wp2
        go_ret
        exact ⟨rfl, OwnsB.below oA hb1, grown_seq gA (grown_of_below hb1 _)⟩
      · subst hxo
        go_enter Try.func90, Try.ntmps90
        go_wp2_with fail
        rw [← hwA]
        clear hwA
        refine (cellBeside_any _ _ _ _ _ _ _ _ hW0 hW1 hT0 hT1 HWT.out).mono ?_; rintro e w1 ⟨rfl, hb1⟩
        rw [← HOO.out]
        have p1 := heap_later pA hb1
        obtain ⟨d0, d1, d2⟩ := cells3 p1
        have R1 := RA.below hb1
        have hck1 := R1.cell hk
        have hco1 := R1.cell hon
        have f1 := R1.free kn
        have f2 := R1.free on
        simp only [← HXK.out, ← HXO.out] at hck1 hco1
        have l1 := heap_lt p1
        have hgb : g ≠ w.heap.size := by omega
        have G1 := Lib.hid (grown_seq gA (grown_of_below hb1 (some g)))
        have RR := Lib.hid R1; clear R1
        clear c0 c1 c2 hck hco hb1 gA oA RA
        have eT : ∀ (a b : Nat), (a = kn ∧ b = on ∨ a = on ∧ b = kn) → tab n (fun i => if i = b then false else if i = a then false else xs.getD i false) = lessB xs [kn, on] := by
          intro a b hab
          unfold lessB
          rw [← HN.out]
          refine tab_congr (fun i hi => ?_)
          unfold lessF
          rcases hab with ⟨rfl, rfl⟩ | ⟨rfl, rfl⟩
          all_goals
            by_cases h1 : i = a
            · subst h1; simp
            · by_cases h2 : i = b
              · subst h2; simp
              · simp [h1, h2]
        have ET := Lib.hid eT; clear eT
        go_wp2_with fail
        go_region
        all_goals
          go_wp2_with fail
          go_ret
          first
            | (obtain ⟨r1, g1⟩ := RR.out.set kn false
               obtain ⟨r2, g2⟩ := r1.set on false
               have hO := r2.owns
               rw [ET.out kn on (Or.inl ⟨rfl, rfl⟩)] at hO
               exact ⟨rfl, hO, grown_seq (grown_seq (grown_seq G1.out g1) g2) ⟨rfl, rfl, rfl, Nat.le_refl _, fun _ _ _ => rfl⟩⟩)
            | (obtain ⟨r1, g1⟩ := RR.out.set on false
               obtain ⟨r2, g2⟩ := r1.set kn false
               have hO := r2.owns
               rw [ET.out on kn (Or.inr ⟨rfl, rfl⟩)] at hO
               exact ⟨rfl, hO, grown_seq (grown_seq (grown_seq G1.out g1) g2) ⟨rfl, rfl, rfl, Nat.le_refl _, fun _ _ _ => rfl⟩⟩)

set_option maxHeartbeats 1000000 in
theorem countWith_any (W T : Int) (a : Option Addr) (n cap : Nat) (xs : List Bool) (k way : Int) (w : World) (hn : n = xs.length) (hW0 : 1 ≤ W) (hW1 : W ≤ 6) (hT0 : 1 ≤ T) (hT1 : T ≤ 6) (hWT : (n : Int) = W * T) (ha : BoolsAt w a xs) :
    Calls Try.prog 89 #[.agg #[.int .i64 W, .int .i64 T, .slice a n cap], .int .i64 k, .int .i64 way] w fun e w' => e = .returned (.int .i64 (withN W T xs k way)) ∧ Below w.heap.size w w' := by
  have hp : 0 < n := by
    have h1 : 1 * 1 ≤ W * T := Int.mul_le_mul hW0 hT0 (by omega) (by omega)
    omega
  have HN := Lib.hid hn; clear hn
  have HWT := Lib.hid hWT; clear hWT
  have HA := Lib.hid ha; clear ha
  go_enter Try.func89, Try.ntmps89
  go_wp2_with fail
  refine (copyField_any _ _ _ _ _ xs _ HN.out (by omega) (by omega) (by omega) (by omega) HWT.out hp (HA.out.one _)).mono ?_; rintro e w1 ⟨g, rfl, ho1, hb1⟩
  have b1 := below_seq (below1 _ _) hb1
  have hgl := (World.ownsRow.lt ho1 g rfl)
  simp at hgl
  have O1 := Lib.hid (ho1.alloc (.cells #[.int .i64 W, .int .i64 T, .slice (some ⟨g, 0, none⟩) n n] 25)); clear ho1 hb1
  have pB := heap_new w1 (.cells #[.int .i64 W, .int .i64 T, .slice (some ⟨g, 0, none⟩) n n] 25)
  obtain ⟨wB, hwB⟩ : ∃ wB, wB = w1.alloc (.cells #[.int .i64 W, .int .i64 T, .slice (some ⟨g, 0, none⟩) n n] 25) := ⟨_, rfl⟩
  have bB : Below w.heap.size w wB := by rw [hwB]; exact below_seq b1 (below1 _ _)
  rw [← hwB] at pB O1
  obtain ⟨c0, c1, c2⟩ := cells3 pB
  go_wp2_with fail
  rw [← hwB]
  clear hwB
  refine (takeOut_any _ _ _ _ _ _ xs _ _ _ HN.out hW0 hW1 hT0 hT1 HWT.out O1.out).mono ?_; rintro e w2 ⟨rfl, ho2, g2⟩
  have p2 := heap_grown pB g2 (by intro h; have := Option.some.inj h; omega)
  have B2 : Below w.heap.size w w2 := below_grown bB g2 (Nat.le_refl _) (by intro j hj; have := Option.some.inj hj; omega)
  clear g2 c0 c1 c2
  obtain ⟨c0, c1, c2⟩ := cells3 p2
  cases hcan : canTake W T xs k way
  · go_wp2
    go_ret
    exact ⟨ret_int (by unfold withN; rw [hcan]; rfl), B2⟩
  · have e : takeB W T xs k way = lessB xs [k.toNat, (cellB W T xs.length k way).toNat] := by unfold takeB; rw [hcan]; rfl
    rw [e] at ho2
    have O2 := Lib.hid ho2; clear ho2
    have hres : withN W T xs k way = dpT W T (lessB xs [k.toNat, (cellB W T xs.length k way).toNat]) := by unfold withN; rw [hcan]; rfl
    have HR := Lib.hid hres; clear hres e
    go_wp2_with fail
    refine (tilingsIn_any _ _ _ _ _ (lessB xs [k.toNat, (cellB W T xs.length k way).toNat]) _ (by rw [lessB_len]; exact HN.out) hW0 hW1 hT0 hT1 HWT.out (OwnsB.at O2.out)).mono ?_; rintro e w3 ⟨rfl, hb3⟩
    go_wp2
    go_ret
    exact ⟨ret_int (by rw [HR.out]), below_seq B2 hb3⟩

end Go.Proofs.Ytknigcjpgkolgaa

namespace Go.Proofs.Ytknigcjpgkolgaa
open Go.RowKit
set_option linter.unusedVariables false
set_option maxRecDepth 100000
set_option linter.unusedSimpArgs false

end Go.Proofs.Ytknigcjpgkolgaa

namespace Go.Proofs.Ytknigcjpgkolgaa
open Go.RowKit
set_option linter.unusedVariables false
set_option maxRecDepth 100000
set_option linter.unusedSimpArgs false

end Go.Proofs.Ytknigcjpgkolgaa

namespace Go.Proofs.Ytknigcjpgkolgaa
open Go.RowKit
set_option linter.unusedVariables false
set_option maxRecDepth 100000
set_option linter.unusedSimpArgs false

theorem lessB_at {ys : List Bool} (L : List Nat) (i : Nat) : (lessB ys L).getD i false = (ys.getD i false && !L.contains i) := by
  rcases Nat.lt_or_ge i ys.length with h | h
  · exact lessB_get L h
  · rw [List.getD_eq_getElem?_getD, List.getD_eq_getElem?_getD, List.getElem?_eq_none (by rw [lessB_len]; exact h), List.getElem?_eq_none h]
    rfl
theorem lessB_two (ys : List Bool) (a b i : Nat) : (lessB ys [a, b]).getD i false = (ys.getD i false && !(decide (i = a) || decide (i = b))) := by
  rw [lessB_at]
  by_cases h1 : i = a
  · subst h1; simp
  · by_cases h2 : i = b
    · subst h2; simp
    · simp [h1, h2]
/-- What a domino from a cell is made of. -/
theorem can_parts {W T : Int} {ys : List Bool} {k way : Int} (hW : 1 ≤ W) (hWT : (ys.length : Int) = W * T) (h : canTake W T ys k way = true) :
    ∃ kn on : Nat, k = kn ∧ stepI W T kn way = on ∧ kn < ys.length ∧ on < ys.length ∧ on ≠ kn ∧ ys.getD kn false = true ∧ ys.getD on false = true ∧ 1 ≤ way ∧ way ≤ 4 ∧ withN W T ys k way = dpT W T (lessB ys [kn, on]) := by
  have hc := h
  unfold canTake at h
  rw [Bool.and_eq_true, Bool.and_eq_true, decide_eq_true_eq] at h
  obtain ⟨h0, h1, h2⟩ := h
  have hbd := cellB_bd (W := W) (T := T) (n := ys.length) (k := k) (way := way) hW hWT h0
  obtain ⟨kn, rfl⟩ : ∃ kn : Nat, k = kn := ⟨k.toNat, by omega⟩
  obtain ⟨on, hon⟩ : ∃ on : Nat, cellB W T ys.length kn way = on := ⟨(cellB W T ys.length kn way).toNat, by omega⟩
  have hok := hbd.2.2.2.2
  simp only [okOf, decide_eq_true_eq] at hok
  rw [hon] at hbd h2
  rw [Int.toNat_natCast] at h1 h2
  have hs : stepI W T kn way = on := by have := hon; unfold cellB at this; rw [if_pos (by omega)] at this; exact this
  refine ⟨kn, on, rfl, hs, by omega, by omega, by omega, h1, h2, hok.1, hok.2, ?_⟩
  unfold withN
  rw [hc, hon, Int.toNat_natCast, Int.toNat_natCast]
  rfl

theorem can_of {W T : Int} {ys : List Bool} {kn on : Nat} {way : Int} (hk : kn < ys.length) (hs : stepI W T kn way = on) (h1 : ys.getD kn false = true) (h2 : ys.getD on false = true) : canTake W T ys kn way = true ∧ withN W T ys kn way = dpT W T (lessB ys [kn, on]) := by
  have hcell : cellB W T ys.length kn way = on := by unfold cellB; rw [if_pos (by omega)]; exact hs
  have hc : canTake W T ys kn way = true := by
    unfold canTake
    rw [hcell, decide_eq_true (by omega), Int.toNat_natCast, Int.toNat_natCast, h1, h2]
    rfl
  refine ⟨hc, ?_⟩
  unfold withN
  rw [hc, hcell, Int.toNat_natCast, Int.toNat_natCast]
  rfl

end Go.Proofs.Ytknigcjpgkolgaa

namespace Go.Proofs.Ytknigcjpgkolgaa
open Go.RowKit
set_option linter.unusedVariables false
set_option maxRecDepth 100000
set_option linter.unusedSimpArgs false

set_option maxHeartbeats 1000000 in
theorem iTilingsMany_any (W T : Int) (a : Option Addr) (n cap : Nat) (xs : List Bool) (w : World) (hn : n = xs.length) (hn' : n ≤ 1048576) (ha : BoolsAt w a xs) :
    Calls Try.prog 38 #[.agg #[.int .i64 W, .int .i64 T, .slice a n cap]] w fun e w' => e = .returned (.int .i64 (tilT W T xs)) ∧ Below w.heap.size w w' := by
  have HN := Lib.hid hn; clear hn
  have HA := Lib.hid ha; clear ha
  by_cases h : rv W T xs = true
  · obtain ⟨hW0, hW1, hT0, hT1, v5, _⟩ := rv_true h
    have HWT : Hid ((n : Int) = W * T) := by show _ = _; rw [HN.out]; exact v5
    clear v5
    have hres : tilT W T xs = (dpT W T xs : Int) := by unfold tilT; rw [if_pos h]
    rw [hres]
    clear hres
    have H := Lib.hid h; clear h
    go_enter Try.func38, Try.ntmps38
    go_wp2_with fail
    refine (iRegionValid_any _ _ _ _ _ xs _ HN.out hn' (HA.out.one _)).mono ?_; rintro e w1 ⟨rfl, hb1⟩
    have p1 := heap_later (heap_new w _) hb1
    have b1 := below_seq (below1 _ _) hb1
    obtain ⟨c0, c1, c2⟩ := cells3 p1
    rw [H.out]
    go_wp2_with fail
    refine (tilingsIn_any _ _ _ _ _ xs _ HN.out hW0 hW1 hT0 hT1 HWT.out (HA.out.below b1)).mono ?_; rintro e w2 ⟨rfl, hb2⟩
    go_wp2
    go_ret
    exact ⟨rfl, below_seq b1 hb2⟩
  · have hres : tilT W T xs = -1 := by unfold tilT; rw [if_neg h]
    rw [hres]
    rw [Bool.not_eq_true] at h
    clear hres
    go_enter Try.func38, Try.ntmps38
    go_wp2_with fail
    refine (iRegionValid_any _ _ _ _ _ xs _ HN.out hn' (HA.out.one _)).mono ?_; rintro e w1 ⟨rfl, hb1⟩
    rw [h]
    go_wp2
    go_ret
    exact ⟨rfl, below_seq (below1 _ _) hb1⟩

end Go.Proofs.Ytknigcjpgkolgaa

namespace Go.Proofs.Ytknigcjpgkolgaa
open Go.RowKit
set_option linter.unusedVariables false
set_option maxRecDepth 100000
set_option linter.unusedSimpArgs false

end Go.Proofs.Ytknigcjpgkolgaa

namespace Go.Proofs.Ytknigcjpgkolgaa
open Go.RowKit
set_option linter.unusedVariables false
set_option maxRecDepth 100000
set_option linter.unusedSimpArgs false

set_option maxHeartbeats 4000000 in
theorem iTilingOf_ret (W T : Int) (a : Option Addr) (n cap : Nat) (xs : List Bool) (rank : Int) (w : World) (hn : n = xs.length) (hn' : n ≤ 1048576) (ha : BoolsAt w a xs) :
    Calls Try.prog 37 #[.agg #[.int .i64 W, .int .i64 T, .slice a n cap], .int .i64 rank] w (RetLT w (tilOf W T xs rank).1.length (tilOf W T xs rank).1 (tilOf W T xs rank).2) := by
  have HN := Lib.hid hn; clear hn
  have HA := Lib.hid ha; clear ha
  by_cases h : rv W T xs = true ∧ 0 ≤ rank ∧ rank < dpT W T xs
  · obtain ⟨hr, h0, h1⟩ := h
    obtain ⟨q, hq⟩ : ∃ q : Nat, rank = q := ⟨rank.toNat, by omega⟩
    subst hq
    have e : tilOf W T xs q = ((tlS W T xs q xs.length).M, true) := by unfold tilOf; rw [if_pos ⟨hr, h0, h1⟩, Int.toNat_natCast]
    rw [e]
    clear e
    have ht : tilT W T xs = (dpT W T xs : Int) := by unfold tilT; rw [if_pos hr]
    obtain ⟨hW0, hW1, hT0, hT1, v5, _⟩ := rv_true hr
    have hWT : (n : Int) = W * T := by rw [HN.out]; exact v5
    have n36 : n ≤ 36 := by
      have h1 : W * T ≤ 6 * 6 := Int.mul_le_mul hW1 hT1 (by omega) (by omega)
      omega
    have hp : 0 < n := by
      have h1 : 1 * 1 ≤ W * T := Int.mul_le_mul hW0 hT0 (by omega) (by omega)
      omega
    have hdl := dpT_le (W := W) (T := T) (xs := xs) (by rw [← HN.out]; exact n36)
    obtain ⟨D, hD⟩ : ∃ D, D = dpT W T xs := ⟨_, rfl⟩
    rw [← hD] at ht hdl h1
    have hbr : bareL W T xs = List.replicate n 0 := by unfold bareL; rw [if_pos hr, HN.out]
    have HBL : Hid (n = (List.replicate n (0 : Int)).length) := by show n = _; simp
    have HWT := Lib.hid hWT; clear hWT v5
    have HT := Lib.hid ht; clear ht hD
    have hml := (tlS_len (W := W) (T := T) (xs := xs) (rank := q) xs.length).2
    have HML := Lib.hid hml; clear hml hr
    simp only [HML.out]
    rw [← HN.out]
    go_enter Try.func37, Try.ntmps37
    go_wp2_with fail
    refine (iTilingsMany_any _ _ _ _ _ xs _ HN.out hn' (HA.out.one _)).mono ?_; rintro e w1 ⟨rfl, hb1⟩
    rw [HT.out]
    have p1 := heap_later (heap_new w _) hb1
    have b1 := below_seq (below1 _ _) hb1
    have zl : w.heap.size + 1 ≤ w1.heap.size := heap_lt p1
    obtain ⟨c0, c1, c2⟩ := cells3 p1
    go_wp2_with fail
    refine (iLaidBare_ret _ _ _ _ _ xs _ HN.out hn' (HA.out.below b1)).mono ?_; rintro e w2 ⟨a2, cap2, rfl, ho2, hb2⟩
    rw [hbr] at ho2 ⊢
    rw [← HBL.out] at ho2 ⊢
    have p2 := heap_later p1 hb2
    have b2 := below_seq b1 hb2
    have hf2 := OwnsI.forms ho2
    obtain ⟨g2, hg2⟩ : ∃ g2, a2 = some ⟨g2, 0, none⟩ := by
      rcases hf2 with ⟨_, h⟩ | ⟨g, cp, h, _⟩
      · exact absurd (congrArg List.length h) (by rw [← HBL.out]; simp; omega)
      · simp only [Value.slice.injEq] at h; exact ⟨g, h.1⟩
    subst hg2
    have O2 := Lib.hid (ho2.lower (show w.heap.size + 1 ≤ _ by omega))
    obtain ⟨hgl0, hgl1⟩ := OwnsI.lt ho2
    clear c0 c1 c2 p1 b1 hb1 hb2 ho2 hbr hf2
    obtain ⟨c0, c1, c2⟩ := cells3 p2
    go_wp2_with fail
    refine (copyField_any _ _ _ _ _ xs _ HN.out (by omega) (by omega) (by omega) (by omega) HWT.out hp (HA.out.below b2)).mono ?_; rintro e w3 ⟨g, rfl, ho3, hb3⟩
    have b3 := below_seq b2 hb3
    have p3 := heap_later p2 hb3
    have hgl := World.ownsRow.lt ho3 g rfl
    have O3 := Lib.hid ((ho3.lower (show w.heap.size + 1 ≤ _ by omega)).alloc (.cells #[.int .i64 W, .int .i64 T, .slice (some ⟨g, 0, none⟩) n n] 25))
    have OM := Lib.hid ((O2.out.below hb3).alloc (.cells #[.int .i64 W, .int .i64 T, .slice (some ⟨g, 0, none⟩) n n] 25))
    have pB := heap_new w3 (.cells #[.int .i64 W, .int .i64 T, .slice (some ⟨g, 0, none⟩) n n] 25)
    have pA := heap_later p3 (below1 w3 (.cells #[.int .i64 W, .int .i64 T, .slice (some ⟨g, 0, none⟩) n n] 25))
    obtain ⟨wB, hwB⟩ : ∃ wB, wB = w3.alloc (.cells #[.int .i64 W, .int .i64 T, .slice (some ⟨g, 0, none⟩) n n] 25) := ⟨_, rfl⟩
    have bB : Below w.heap.size w wB := by rw [hwB]; exact below_seq b3 (below1 _ _)
    rw [← hwB] at pB pA O3 OM
    have z3 := hb3.size
    have hgg : g ≠ g2 := by omega
    have hgb : g ≠ w3.heap.size := by omega
    have hg2b : g2 ≠ w3.heap.size := by omega
    have hga : g ≠ w.heap.size := by omega
    have hg2a : g2 ≠ w.heap.size := by omega
    clear c0 c1 c2 p2 b2 hb3 ho3 b3 O2 p3
    go_wp2_with fail
    rw [← hwB]
    clear hwB
    go_loopw [1, 9, 10, 25] (fun r _ _ i wr => ∃ k : Nat, k ≤ n ∧ i = .int .i64 k ∧ r = .int .i64 ((tlS W T xs q k).q : Int) ∧ OwnsB wr (w.heap.size + 1) (.slice (some ⟨g, 0, none⟩) n n) (tlS W T xs q k).ys ∧ OwnsI wr (w.heap.size + 1) (.slice (some ⟨g2, 0, none⟩) n cap2) (tlS W T xs q k).M ∧ (tlS W T xs q k).q ≤ q ∧
        wr.heap[w3.heap.size]? = some (.cells #[.int .i64 W, .int .i64 T, .slice (some ⟨g, 0, none⟩) n n] 25 (0, 0)) ∧ wr.heap[w.heap.size]? = some (.cells #[.int .i64 W, .int .i64 T, .slice a n cap] 25 (0, 0)) ∧ Below w.heap.size w wr) (fun _ _ _ i _ => n - (intOf i).toNat)
    case atStart => exact ⟨0, Nat.zero_le _, rfl, rfl, O3.out, by show OwnsI _ _ _ (List.replicate xs.length 0); rw [← HN.out]; exact OM.out, Nat.le_refl _, pB, pA, bB⟩
    case round =>
      rename World => wo
      clear O3 OM pB pA bB
      obtain ⟨k, hk, rfl, rfl, ho, hm, hqq, pr, pa, hbel⟩ := hrel
      have BEL := Lib.hid hbel; clear hbel
      by_cases hlt : k < n
      · obtain ⟨c0, c1, c2⟩ := cells3 pr
        obtain ⟨a0, a1, a2⟩ := cells3 pa
        have l1 := heap_lt pr
        have l2 := heap_lt pa
        have e1 : (k : Int) < n := by omega
        obtain ⟨hyl, hMl⟩ := tlS_len (W := W) (T := T) (xs := xs) (rank := q) k
        have hgo := tlS_go (W := W) (T := T) (xs := xs) (rank := q) (k := k)
        have hsk := tlS_skip (W := W) (T := T) (xs := xs) (rank := q) (k := k)
        obtain ⟨S, hS⟩ : ∃ S, S = tlS W T xs q k := ⟨_, rfl⟩
        rw [← hS] at ho hm hyl hMl hgo hsk hqq ⊢
        clear hS
        obtain ⟨ys, M, r⟩ := S
        simp only at ho hm hyl hMl hgo hsk hqq ⊢
        rw [← HN.out] at hyl hMl
        have HO := Lib.hid ho; clear ho
        have HMo := Lib.hid hm; clear hm
        have hcell : wo.cell? ⟨g, k, none⟩ = some (.bool (ys.getD k false)) := (RowB.of HO.out hyl.symm).cell hlt
        obtain ⟨yk, hyk⟩ : ∃ yk, yk = ys.getD k false := ⟨_, rfl⟩
        rw [← hyk] at hcell hgo hsk
        have HYL := Lib.hid hyl.symm; clear hyl
        have HMLn := Lib.hid hMl.symm; clear hMl
        clear hyk
        cases yk
        · have HSK := Lib.hid (hsk rfl); clear hsk hgo
          go_wp2_with fail
          exact ⟨⟨k + 1, by omega, by go_num, by rw [HSK.out], by rw [HSK.out]; exact HO.out, by rw [HSK.out]; exact HMo.out, by rw [HSK.out]; exact hqq, pr, pa, BEL.out⟩, by simp [intOf]; omega⟩
        · have hgo' := hgo rfl
          clear hsk hgo
          have hwl := withN_le' (W := W) (T := T) (xs := ys) (by rw [← HYL.out]; exact n36) k 1
          obtain ⟨Q, hQ⟩ : ∃ Q, Q = withN W T ys k 1 := ⟨_, rfl⟩
          rw [← hQ] at hgo' hwl
          go_wp2_with fail
          refine (countWith_any _ _ _ _ _ ys _ _ _ HYL.out hW0 hW1 hT0 hT1 HWT.out (OwnsB.at HO.out)).mono ?_; rintro e w4 ⟨rfl, hb4⟩
          rw [← hQ]
          have p4 := heap_later pr hb4
          have q4 := heap_later pa hb4
          have B4 := Lib.hid (below_seq BEL.out hb4)
          have O4 := Lib.hid (HO.out.below hb4)
          have M4 := Lib.hid (HMo.out.below hb4)
          clear c0 c1 c2 a0 a1 a2 pr pa hQ hcell hb4 l1 l2
          obtain ⟨c0, c1, c2⟩ := cells3 p4
          obtain ⟨a0, a1, a2⟩ := cells3 q4
          have l1 := heap_lt p4
          have l2 := heap_lt q4
          by_cases hle : Q ≤ r
          · rw [if_pos hle] at hgo'
            have HGO := Lib.hid hgo'; clear hgo'
            have e3 : (Q : Int) ≤ r := by omega
            go_wp2_with fail
            refine (takeOut_any _ _ _ _ _ _ ys _ _ _ HYL.out hW0 hW1 hT0 hT1 HWT.out O4.out).mono ?_; rintro e w5 ⟨rfl, ho5, g5⟩
            have p5 := heap_grown p4 g5 (by intro h; exact hgb (Option.some.inj h))
            have q5 := heap_grown q4 g5 (by intro h; exact hga (Option.some.inj h))
            have M5 := Lib.hid (World.ownsRow.kept M4.out g5 (Or.inr (by intro h; exact hgg (Option.some.inj h).symm)))
            have B5 := Lib.hid (below_grown B4.out g5 (Nat.le_refl _) (by intro j hj; have := Option.some.inj hj; omega))
            clear c0 c1 c2 a0 a1 a2
            obtain ⟨a0, a1, a2⟩ := cells3 q5
            have l3 := heap_lt q5
            go_wp2_with fail
            refine (layDown_any _ _ _ _ _ xs _ _ _ M _ _ _ HN.out hn' HMLn.out hW0 hW1 hT0 hT1 HWT.out (HA.out.below B5.out) M5.out).mono ?_; rintro e w6 ⟨rfl, hm6, g6⟩
            have p6 := heap_grown p5 g6 (by intro h; exact hg2b (Option.some.inj h))
            have q6 := heap_grown q5 g6 (by intro h; exact hg2a (Option.some.inj h))
            have O6 := World.ownsRow.kept ho5 g6 (Or.inr (by intro h; exact hgg (Option.some.inj h)))
            have B6 := below_grown B5.out g6 (Nat.le_refl _) (by intro j hj; have := Option.some.inj hj; omega)
            go_wp2_with fail
            refine ⟨⟨k + 1, by omega, by go_num, ?_, by rw [HGO.out]; exact O6, by rw [HGO.out]; exact hm6, by rw [HGO.out]; show r - Q ≤ q; omega, p6, q6, B6⟩, by simp [intOf]; omega⟩
            rw [HGO.out]
            show Value.int _ _ = Value.int _ _
            congr 1
            show _ = ((r - Q : Nat) : Int)
            omega
          · rw [if_neg hle] at hgo'
            have HGO := Lib.hid hgo'; clear hgo'
            have e3 : (r : Int) < Q := by omega
            go_wp2_with fail
            refine (takeOut_any _ _ _ _ _ _ ys _ _ _ HYL.out hW0 hW1 hT0 hT1 HWT.out O4.out).mono ?_; rintro e w5 ⟨rfl, ho5, g5⟩
            have p5 := heap_grown p4 g5 (by intro h; exact hgb (Option.some.inj h))
            have q5 := heap_grown q4 g5 (by intro h; exact hga (Option.some.inj h))
            have M5 := Lib.hid (World.ownsRow.kept M4.out g5 (Or.inr (by intro h; exact hgg (Option.some.inj h).symm)))
            have B5 := Lib.hid (below_grown B4.out g5 (Nat.le_refl _) (by intro j hj; have := Option.some.inj hj; omega))
            clear c0 c1 c2 a0 a1 a2
            obtain ⟨a0, a1, a2⟩ := cells3 q5
            have l3 := heap_lt q5
            go_wp2_with fail
            refine (layDown_any _ _ _ _ _ xs _ _ _ M _ _ _ HN.out hn' HMLn.out hW0 hW1 hT0 hT1 HWT.out (HA.out.below B5.out) M5.out).mono ?_; rintro e w6 ⟨rfl, hm6, g6⟩
            have p6 := heap_grown p5 g6 (by intro h; exact hg2b (Option.some.inj h))
            have q6 := heap_grown q5 g6 (by intro h; exact hg2a (Option.some.inj h))
            have O6 := World.ownsRow.kept ho5 g6 (Or.inr (by intro h; exact hgg (Option.some.inj h)))
            have B6 := below_grown B5.out g6 (Nat.le_refl _) (by intro j hj; have := Option.some.inj hj; omega)
            go_wp2_with fail
            exact ⟨⟨k + 1, by omega, by go_num, by rw [HGO.out], by rw [HGO.out]; exact O6, by rw [HGO.out]; exact hm6, by rw [HGO.out]; exact hqq, p6, q6, B6⟩, by simp [intOf]; omega⟩
      · obtain rfl : k = n := by omega
        have HMo := Lib.hid hm; clear hm
        go_wp2
        go_ret2
        exact ⟨_, _, rfl, HMo.out.lower (show w.heap.size ≤ _ by omega), BEL.out⟩
  · have e : tilOf W T xs rank = ([], false) := by unfold tilOf; rw [if_neg h]
    rw [e]
    clear e
    obtain ⟨t, ht⟩ : ∃ t, t = tilT W T xs := ⟨_, rfl⟩
    by_cases hneg : rank < 0
    · go_enter Try.func37, Try.ntmps37
      go_wp2
      go_ret2
      exact ⟨none, 0, rfl, OwnsI.nil _ _, below1 _ _⟩
    · have hge : t ≤ rank := by
        rw [ht]; unfold tilT
        by_cases hr : rv W T xs = true
        · rw [if_pos hr]
          have : ¬ rank < dpT W T xs := fun q => h ⟨hr, by omega, q⟩
          omega
        · rw [if_neg hr]; omega
      clear h
      go_enter Try.func37, Try.ntmps37
      go_wp2_with fail
      refine (iTilingsMany_any _ _ _ _ _ xs _ HN.out hn' (HA.out.one _)).mono ?_; rintro e w1 ⟨rfl, hb1⟩
      rw [← ht]
      clear ht
      go_wp2
      go_ret2
      exact ⟨none, 0, rfl, OwnsI.nil _ _, below_seq (below1 _ _) hb1⟩

end Go.Proofs.Ytknigcjpgkolgaa

namespace Go.Proofs.Ytknigcjpgkolgaa
set_option linter.unusedVariables false
set_option maxRecDepth 100000
set_option linter.unusedSimpArgs false

end Go.Proofs.Ytknigcjpgkolgaa

namespace Go.Proofs.Ytknigcjpgkolgaa
open Go.RowKit
set_option linter.unusedVariables false
set_option maxRecDepth 100000
set_option linter.unusedSimpArgs false

end Go.Proofs.Ytknigcjpgkolgaa

namespace Go.Proofs.Ytknigcjpgkolgaa
set_option linter.unusedVariables false
set_option maxRecDepth 100000
set_option linter.unusedSimpArgs false

theorem list_ext {xs ys : List Bool} (h : xs.length = ys.length) (he : ∀ i, i < xs.length → xs.getD i false = ys.getD i false) : xs = ys := by
  apply List.ext_getElem h
  intro i h1 h2
  have := he i h1
  simpa [h1, h2] using this

variable {W T : Nat} {xs : List Bool}
end Go.Proofs.Ytknigcjpgkolgaa

namespace Go.Proofs.Ytknigcjpgkolgaa
open Go.RowKit
set_option linter.unusedVariables false
set_option maxRecDepth 100000
set_option linter.unusedSimpArgs false

set_option maxHeartbeats 4000000 in
theorem drawTilingLow_any (cb : Option Addr) (n cap : Nat) (zs : List Int) (w : World) (hn : n = zs.length) (hn' : n ≤ 1048576) (hcap : n ≤ cap) (hb : BytesAt w cb zs) :
    Calls Try.prog 34 #[.slice cb n cap] w (DrawnRLL w) := by
  have HN := Lib.hid hn; clear hn
  have HB := Lib.hid hb; clear hb
  go_enter Try.func34, Try.ntmps34
  go_wp2_with fail
  refine (l20Open_any _ _ _ zs _ HN.out hn' hcap (HB.out.below (below1 _ _))).mono ?_; rintro e w1 ⟨rfl, r1, b1⟩
  have q1 := heap_later (heap_new w (.cells #[.int .i64 0, .int .i64 0, .slice none 0 0] 25)) b1
  have B1 := Lib.hid (below_seq (below1 w _) b1)
  have R1 : Hid (RD w1 (w.heap.size + 1) 0) := by show RD _ _ _; simpa using r1
  have l1 := heap_lt q1
  have l2 := R1.out.lt
  clear r1 b1
  go_wp2_with fail
  refine (l20Two_any (w.heap.size + 1) 0 _ (by omega) R1.out).mono ?_; rintro e w2 ⟨W, T, a, m, c, xs, la, q, lcap, L, lb, r, bcap, M, rfl, hm, h36, hs, o2, hq, hq36, i2, hr, hr36, j2, r2, g2⟩
  have q2 := heap_grown q1 g2 (by simp)
  have B2 := Lib.hid (below_grown B1.out g2 (Nat.le_refl _) (fun k e => by cases e; omega))
  have HM := Lib.hid hm; clear hm
  have HQ := Lib.hid hq; clear hq
  have HR := Lib.hid hr; clear hr
  have O2 := Lib.hid o2; clear o2
  have I2 := Lib.hid i2; clear i2
  have J2 := Lib.hid j2; clear j2
  clear r2 g2
  obtain ⟨d0, d1, d2⟩ := cells3 q2
  have f0 := free3 q2 0
  have f1 := free3 q2 1
  have f2 := free3 q2 2
  go_wp2
  refine bodyPost_ret (v := .tuple #[.agg #[.int .i64 W, .int .i64 T, .slice a m c], .slice la q lcap, .slice lb r bcap]) (by simp [results, Try.results34, go_sem, d0, d1, d2]) rfl ⟨W, T, a, m, c, xs, la, q, lcap, L, lb, r, bcap, M, rfl, HM.out, h36, hs, (O2.out.set3 (by omega) _ _ _).lower (by omega), HQ.out, by omega, (own_set3 I2.out (by omega) _ _ _).lower (by omega), HR.out, by omega, (own_set3 J2.out (by omega) _ _ _).lower (by omega), below_set3 B2.out (Nat.le_refl _) _ _ _⟩

end Go.Proofs.Ytknigcjpgkolgaa

namespace Go.Proofs.Ytknigcjpgkolgaa
open Go.RowKit
set_option linter.unusedVariables false
set_option maxRecDepth 100000
set_option linter.unusedSimpArgs false

/-- All tilings of a region, in order. -/
def allF (W T : Int) (xs : List Bool) : List (List Int) := if rv W T xs then allL W T xs (xs.length + 1) (bareL W T xs) else []
theorem allF_each {W T : Int} {xs : List Bool} {M : List Int} (hM : M ∈ allF W T xs) : M.length = xs.length ∧ tok W T xs M = true := by
  unfold allF at hM
  split at hM
  · rename_i h
    exact allL_each _ _ (by rw [lok_bareL]; exact h) M hM
  · simp at hM

theorem allF_row {W T : Int} {xs : List Bool} {i : Nat} (hi : i < (allF W T xs).length) : ((allF W T xs).getD i []).length = xs.length ∧ tok W T xs ((allF W T xs).getD i []) = true := by
  have e : (allF W T xs).getD i [] = (allF W T xs)[i] := by simp [List.getD, hi]
  rw [e]
  exact allF_each (List.getElem_mem hi)
end Go.Proofs.Ytknigcjpgkolgaa

namespace Go.Proofs.Ytknigcjpgkolgaa
open Go.RowKit
set_option linter.unusedVariables false
set_option maxRecDepth 100000
set_option linter.unusedSimpArgs false

end Go.Proofs.Ytknigcjpgkolgaa

namespace Go.Proofs.Ytknigcjpgkolgaa
open Go.RowKit
set_option linter.unusedVariables false
set_option maxRecDepth 100000
set_option linter.unusedSimpArgs false

end Go.Proofs.Ytknigcjpgkolgaa

namespace Go.Proofs.Ytknigcjpgkolgaa
open Go.RowKit
set_option linter.unusedVariables false
set_option maxRecDepth 100000
set_option linter.unusedSimpArgs false

end Go.Proofs.Ytknigcjpgkolgaa

namespace Go.Proofs.Ytknigcjpgkolgaa
open Go.RowKit
set_option linter.unusedVariables false
set_option maxRecDepth 100000
set_option linter.unusedSimpArgs false

theorem bare_zero (W T : Int) (xs : List Bool) (k : Nat) : (bareL W T xs).getD k 0 = 0 := by
  unfold bareL
  split
  · by_cases h : k < xs.length
    · simp [List.getD, h]
    · simp [List.getD, h]
  · simp [List.getD]
/-- Every tiling is in the list. -/
theorem mem_allF {W T : Int} {xs : List Bool} {M : List Int} (h : tok W T xs M = true) : M ∈ allF W T xs := by
  have hl := tok_lokP h
  obtain ⟨hr, _, _⟩ := lok_rv hl
  unfold allF
  rw [if_pos hr]
  exact allL_mem _ _ _ (by have := freeN_le xs (bareL W T xs); omega) (by rw [lok_bareL]; exact hr) h (fun k hk => absurd (bare_zero W T xs k) hk)
end Go.Proofs.Ytknigcjpgkolgaa

namespace Go.Proofs.Ytknigcjpgkolgaa
open Go.RowKit
set_option linter.unusedVariables false
set_option maxRecDepth 100000
set_option linter.unusedSimpArgs false

set_option maxHeartbeats 4000000 in
theorem sTilingLow_ret (W T : Int) (a : Option Addr) (n cap : Nat) (xs : List Bool) (la0 : Option Addr) (m0 lcap0 : Nat) (L0 : List Int) (la1 : Option Addr) (m1 lcap1 : Nat) (L1 : List Int) (A B : List Int) (w : World) (hn : n = xs.length) (hn' : n ≤ 1048576) (hm0 : m0 = L0.length) (hm0' : m0 ≤ 1048576) (hm1 : m1 = L1.length) (hm1' : m1 ≤ 1048576) (ha : BoolsAt w a xs) (hl0 : IntsAt w la0 L0) (hl1 : IntsAt w la1 L1) (hA : HtsR W T xs L0 A) (hB : HtsR W T xs L1 B) :
    Calls Try.prog 36 #[.agg #[.int .i64 W, .int .i64 T, .slice a n cap], .slice la0 m0 lcap0, .slice la1 m1 lcap1] w (RetLT w (tlowF false W T xs A B).1.length (tlowF false W T xs A B).1 (tlowF false W T xs A B).2) := by
  have HN := Lib.hid hn; clear hn
  have HM0 := Lib.hid hm0; clear hm0
  have HM1 := Lib.hid hm1; clear hm1
  have HA := Lib.hid ha; clear ha
  have HL0 := Lib.hid hl0; clear hl0
  have HL1 := Lib.hid hl1; clear hl1
  have hla := hA.len; have hlb := hB.len
  have HHA := Lib.hid hA; have HHB := Lib.hid hB
  clear hA hB
  have hlf := bothF_len false W T xs A B
  obtain ⟨p, hp⟩ : ∃ p, p = A.length := ⟨_, rfl⟩
  obtain ⟨q, hq⟩ : ∃ q, q = B.length := ⟨_, rfl⟩
  obtain ⟨F, hF⟩ : ∃ F, F = bothF false W T xs A B := ⟨_, rfl⟩
  obtain ⟨r, hr⟩ : ∃ r, r = F.length := ⟨_, rfl⟩
  have HFF : Hid (tlowF false W T xs A B = tbyF W T xs F) := by show _ = _; rw [hF]; rfl
  rw [HFF.out]
  rw [← hF, ← hp, ← hr] at hlf
  rw [← hp] at hla; rw [← hq] at hlb
  have HP := Lib.hid hp; have HQ := Lib.hid hq; have HF := Lib.hid hF; have HR := Lib.hid hr
  clear hp hq hF hr
  have cA : ∀ w : World, RetL w A.length A = RetL w p A := fun w => by rw [HP.out]
  have cB : ∀ w : World, RetL w B.length B = RetL w q B := fun w => by rw [HQ.out]
  have cF : ∀ w : World, RetL w (bothF false W T xs A B).length (bothF false W T xs A B) = RetL w r F := fun w => by rw [← HF.out, HR.out]
  have HcA := Lib.hid cA; have HcB := Lib.hid cB; have HcF := Lib.hid cF
  clear cA cB cF
  have K1 : ∀ w', BoolsAt w' a xs → IntsAt w' la0 L0 → Calls Try.prog 17 #[.agg #[.int .i64 W, .int .i64 T, .slice a n cap], .slice la0 m0 lcap0] w' (RetL w' p A) := fun w' h1 h2 => by have := sHeightsOf_ret W T a n cap xs la0 m0 lcap0 L0 A w' HN.out hn' HM0.out hm0' h1 h2 HHA.out; rwa [HcA.out] at this
  have K2 : ∀ w', BoolsAt w' a xs → IntsAt w' la1 L1 → Calls Try.prog 17 #[.agg #[.int .i64 W, .int .i64 T, .slice a n cap], .slice la1 m1 lcap1] w' (RetL w' q B) := fun w' h1 h2 => by have := sHeightsOf_ret W T a n cap xs la1 m1 lcap1 L1 B w' HN.out hn' HM1.out hm1' h1 h2 HHB.out; rwa [HcB.out] at this
  have K3 : ∀ w' a1 c1 a2 c2, BoolsAt w' a xs → IntsAt w' a1 A → IntsAt w' a2 B → Calls Try.prog 30 #[.agg #[.int .i64 W, .int .i64 T, .slice a n cap], .slice a1 p c1, .slice a2 q c2] w' (RetL w' r F) := fun w' a1 c1 a2 c2 h1 h2 h3 => by have := sHeightsLow_ret W T a n cap xs a1 p c1 A a2 q c2 B w' HN.out hn' HP.out (by omega) HQ.out (by omega) h1 h2 h3; rwa [HcF.out] at this
  have K4 : ∀ w' a3 c3, BoolsAt w' a xs → IntsAt w' a3 F → Calls Try.prog 27 #[.agg #[.int .i64 W, .int .i64 T, .slice a n cap], .slice a3 r c3] w' (RetLT w' (tbyF W T xs F).1.length (tbyF W T xs F).1 (tbyF W T xs F).2) := fun w' a3 c3 h1 h2 => sTilingBy_ret W T a n cap xs a3 r c3 F w' HN.out hn' HR.out (by omega) h1 h2
  have HK1 := Lib.hid K1; have HK2 := Lib.hid K2; have HK3 := Lib.hid K3; have HK4 := Lib.hid K4
  clear K1 K2 K3 K4
  generalize (tbyF W T xs F).2 = okv at HK4 ⊢
  generalize (tbyF W T xs F).1 = ys at HK4 ⊢
  obtain ⟨z, hz⟩ : ∃ z, z = ys.length := ⟨_, rfl⟩
  rw [← hz] at HK4 ⊢
  have HZ := Lib.hid hz; clear hz
  have PA : (w.alloc (.cells #[.int .i64 W, .int .i64 T, .slice a n cap] 25)).drew.heap[w.heap.size]? = some _ := heap_new w (.cells #[.int .i64 W, .int .i64 T, .slice a n cap] 25)
  have bA : Below w.heap.size w (w.alloc (.cells #[.int .i64 W, .int .i64 T, .slice a n cap] 25)).drew := below_seq (below1 _ _) (drew_below _)
  obtain ⟨c0, c1, c2⟩ := cells3 (heap_new w (.cells #[.int .i64 W, .int .i64 T, .slice a n cap] 25))
  go_enter Try.func36, Try.ntmps36
  go_wp2_with fail
  go_region_held3 (fun w' => w'.cell? ⟨w.heap.size, 0, none⟩ = some (.int .i64 W) ∧ w'.cell? ⟨w.heap.size, 1, none⟩ = some (.int .i64 T) ∧ w'.cell? ⟨w.heap.size, 2, none⟩ = some (.slice a n cap))
    (go_keep)
    (first
      | (go_at_call 27; refine (HK4.out _ _ _ (HA.out.below b3) (OwnsI.at o3)).mono ?_; rintro e w4 ⟨a4, k4, rfl, o4, hb4⟩; have b4 := below_seq b3 hb4; have p4 := heap_later p3 hb4; obtain ⟨g0, g1, g2⟩ := cells3 p4)
      | (go_at_call 30; refine (HK3.out _ _ _ _ _ (HA.out.below b2) (OwnsI.at (o1.below hb2)) (OwnsI.at o2)).mono ?_; rintro e w3 ⟨a3, k3, rfl, o3, hb3⟩; have b3 := below_seq b2 hb3; have p3 := heap_later p2 hb3; obtain ⟨f0, f1, f2⟩ := cells3 p3)
      | (go_at_call 17; refine (HK2.out _ (HA.out.below b1) (HL1.out.below b1)).mono ?_; rintro e w2 ⟨a2, k2, rfl, o2, hb2⟩; have b2 := below_seq b1 hb2; have p2 := heap_later p1 hb2; obtain ⟨e0, e1, e2⟩ := cells3 p2)
      | (go_at_call 17; refine (HK1.out _ (HA.out.below bA) (HL0.out.below bA)).mono ?_; rintro e w1 ⟨a1, k1, rfl, o1, hb1⟩; have b1 := below_seq bA hb1; have p1 := heap_later PA hb1; obtain ⟨d0, d1, d2⟩ := cells3 p1))
  have O4 := Lib.hid (o4.lower b3.size)
  have B4 := Lib.hid b4
  clear o1 o2 o3 o4 hb1 hb2 hb3 hb4 b1 b2 b3 b4
  go_wp2
  go_ret2
  exact ⟨a4, k4, rfl, O4.out, B4.out⟩

end Go.Proofs.Ytknigcjpgkolgaa

namespace Go.Proofs.Ytknigcjpgkolgaa
open Go.RowKit
set_option linter.unusedVariables false
set_option maxRecDepth 100000
set_option linter.unusedSimpArgs false

section
variable {W T : Int} {xs : List Bool} {L M A B : List Int}
end
theorem pick_absorb (a b : Int) : pickI false a (pickI true a b) = a := by
  unfold pickI
  simp only [Bool.false_eq_true, if_false, if_true]
  split <;> split <;> omega
theorem pick_distr (a b c : Int) : pickI false a (pickI true b c) = pickI true (pickI false a b) (pickI false a c) := by
  unfold pickI
  simp only [Bool.false_eq_true, if_false, if_true]
  repeat' split
  all_goals omega
theorem both_absorb {A B : List Int} (h : A.length = B.length) : bothL false A (bothL true A B A.length) A.length = A := by
  refine ext_getD (bothL_len _ _ _ _) fun k hk => ?_
  rw [bothL_len] at hk
  rw [both_get false A _ hk, both_get true A B hk, pick_absorb]
theorem both_distr {A B C : List Int} (h1 : A.length = B.length) (h2 : A.length = C.length) : bothL false A (bothL true B C B.length) A.length = bothL true (bothL false A B A.length) (bothL false A C A.length) (bothL false A B A.length).length := by
  refine ext_getD (by rw [bothL_len, bothL_len, bothL_len]) fun k hk => ?_
  rw [bothL_len] at hk
  rw [both_get false A _ hk, both_get true B C (by omega), both_get true (bothL false A B A.length) _ (by rw [bothL_len]; exact hk), both_get false A B hk, both_get false A C hk, pick_distr]
theorem below_low {A B : List Int} (h0 : 0 < A.length) (h : A.length = B.length) : belowB (bothL false A B A.length) A = true ∧ belowB (bothL false A B A.length) B = true := by
  rw [below_iff (by rw [bothL_len]; exact h0) (by rw [bothL_len]), below_iff (by rw [bothL_len]; exact h0) (by rw [bothL_len]; exact h)]
  refine ⟨fun k hk => ?_, fun k hk => ?_⟩ <;> rw [bothL_len] at hk <;> rw [both_get false A B hk] <;> have := pick_le false (A.getD k 0) (B.getD k 0) <;> simp only [Bool.false_eq_true, if_false] at this
  · exact this.1
  · exact this.2
end Go.Proofs.Ytknigcjpgkolgaa

namespace Go.Proofs.Ytknigcjpgkolgaa
open Go.RowKit
set_option linter.unusedVariables false
set_option maxRecDepth 100000
set_option linter.unusedSimpArgs false

/-- The cells that no domino covers. -/
def freeL (xs : List Bool) (L : List Int) : List Bool := tab xs.length (freeB xs L)
theorem freeL_len (xs : List Bool) (L : List Int) : (freeL xs L).length = xs.length := tab_len _ _
theorem freeL_at {xs : List Bool} {L : List Int} {i : Nat} (h : i < xs.length) : (freeL xs L).getD i false = freeB xs L i := tab_getD _ h
theorem dp_none {W T : Int} {ys : List Bool} (h : ∀ i, i < ys.length → ys.getD i false = false) : dpT W T ys = 1 := by
  unfold dpT
  rw [skip_eq ys.length (Nat.le_refl _) h, Nat.sub_self]
  rfl
theorem free_less {xs : List Bool} {L : List Int} {a o : Nat} {x y : Int} (ha : a < L.length) (ho : o < L.length) (hl : L.length = xs.length) (hx : x ≠ 0) (hy : y ≠ 0) : freeL xs ((L.set a x).set o y) = lessB (freeL xs L) [a, o] := by
  refine list_ext (by rw [freeL_len]; unfold lessB; rw [tab_len, freeL_len]) fun i hi => ?_
  rw [freeL_len] at hi
  rw [lessB_two, freeL_at hi, freeL_at hi]
  unfold freeB
  rw [getD_set2 ha ho]
  by_cases e1 : i = o
  · rw [if_pos e1, e1]
    have : (y == 0) = false := by simpa using hy
    rw [this]; simp
  · rw [if_neg e1]
    by_cases e2 : i = a
    · rw [if_pos e2, e2]
      have : (x == 0) = false := by simpa using hx
      rw [this]; simp
    · rw [if_neg e2]; simp [e1, e2]
theorem allL_dp {W T : Int} {xs : List Bool} : ∀ (f : Nat) (L : List Int), freeN xs L < f → lok W T xs L = true → (allL W T xs f L).length = dpT W T (freeL xs L)
  | 0, L, h, _ => absurd h (Nat.not_lt_zero _)
  | f + 1, L, hf, hl => by
    obtain ⟨hr, hlen, _⟩ := lok_rv hl
    obtain ⟨v1, v2, v3, v4, v5, _⟩ := rv_true hr
    have h36 : xs.length ≤ 36 := by
      have : W * T ≤ 6 * 6 := Int.mul_le_mul v2 v4 (by omega) (by omega)
      omega
    rcases first_cases xs L 0 xs.length with ⟨h0, hno⟩ | ⟨c, _, hc, h0, hfc, hno⟩
    · rw [allL_done h0 (by omega), dp_none]
      · rfl
      · intro i hi
        rw [freeL_len] at hi
        rw [freeL_at hi]; exact hno i (Nat.zero_le _) hi
    · rw [allL_succ h0 (by omega), List.length_append]
      rw [dp_split v1 v2 (c := c) (by rw [freeL_len]; exact v5) (by rw [freeL_len]; exact h36) (by rw [freeL_len]; exact hc) (fun i hi => by rw [freeL_at (by omega)]; exact hno i (Nat.zero_le _) hi) (by rw [freeL_at hc]; exact hfc)]
      have part : ∀ way : Int, way = 1 ∨ way = 2 → (if canLay W T xs L c way = true then allL W T xs f (laidL W T xs L c way) else []).length = withN W T (freeL xs L) c way := by
        intro way hw
        by_cases hcan : canLay W T xs L c way = true
        · rw [if_pos hcan]
          obtain ⟨kn, o, e, hk, ho, hne, hs, hfk, hfo, w1, w4, hb, el⟩ := canLay_at hr hlen hcan
          have : kn = c := by omega
          subst this
          rw [allL_dp f _ (by have := free_drop' hw hl hcan; omega) (lok_laid hl hcan)]
          rw [(can_of (ys := freeL xs L) (kn := kn) (on := o) (by rw [freeL_len]; exact hk) hs (by rw [freeL_at hk]; exact hfk) (by rw [freeL_at ho]; exact hfo)).2]
          rw [el, free_less (by omega) (by omega) hlen (by omega) (by unfold backI; omega)]
        · rw [if_neg hcan]
          by_cases ht : canTake W T (freeL xs L) c way = true
          · exfalso
            obtain ⟨kn, on, e, hs, hk, ho, hne, h1, h2, w1, w4, _⟩ := can_parts v1 (by rw [freeL_len]; exact v5) ht
            have : kn = c := by omega
            subst this
            rw [freeL_len] at hk ho
            rw [freeL_at hk] at h1
            rw [freeL_at ho] at h2
            exact hcan (canLay_of hr hk hs h1 h2).1
          · unfold withN
            rw [if_neg ht]; rfl
      rw [part 1 (Or.inl rfl), part 2 (Or.inr rfl)]
/-- As many tilings are counted as there are in the list. -/
theorem allF_dp {W T : Int} {xs : List Bool} (h : rv W T xs = true) : (allF W T xs).length = dpT W T xs := by
  unfold allF
  rw [if_pos h, allL_dp _ _ (by have := freeN_le xs (bareL W T xs); omega) (by rw [lok_bareL]; exact h)]
  congr 1
  refine list_ext (freeL_len _ _) fun i hi => ?_
  rw [freeL_len] at hi
  rw [freeL_at hi]
  unfold freeB
  rw [bare_zero]
  simp
end Go.Proofs.Ytknigcjpgkolgaa

namespace Go.Proofs.Ytknigcjpgkolgaa
open Go.RowKit
set_option linter.unusedVariables false
set_option maxRecDepth 100000
set_option linter.unusedSimpArgs false

theorem allL_part {W T : Int} {xs : List Bool} {f : Nat} {M : List Int} {c : Nat} {way : Int} (hf : freeN xs M < f + 1) (hl : lok W T xs M = true) (hw : way = 1 ∨ way = 2) (hc : c < xs.length) :
    (if canLay W T xs M c way = true then allL W T xs f (laidL W T xs M c way) else []).length = withN W T (freeL xs M) c way := by
  obtain ⟨hr, hlen, _⟩ := lok_rv hl
  obtain ⟨v1, v2, v3, v4, v5, _⟩ := rv_true hr
  by_cases hcan : canLay W T xs M c way = true
  · rw [if_pos hcan]
    obtain ⟨kn, o, e, hk, ho, hne, hs, hfk, hfo, w1, w4, hb, el⟩ := canLay_at hr hlen hcan
    have : kn = c := by omega
    subst this
    rw [allL_dp f _ (by have := free_drop' hw hl hcan; omega) (lok_laid hl hcan)]
    rw [(can_of (ys := freeL xs M) (kn := kn) (on := o) (by rw [freeL_len]; exact hk) hs (by rw [freeL_at hk]; exact hfk) (by rw [freeL_at ho]; exact hfo)).2]
    rw [el, free_less (by omega) (by omega) hlen (by omega) (by unfold backI; omega)]
  · rw [if_neg hcan]
    by_cases ht : canTake W T (freeL xs M) c way = true
    · exfalso
      obtain ⟨kn, on, e, hs, hk, ho, hne, h1, h2, w1, w4, _⟩ := can_parts v1 (by rw [freeL_len]; exact v5) ht
      have : kn = c := by omega
      subst this
      rw [freeL_len] at hk ho
      rw [freeL_at hk] at h1
      rw [freeL_at ho] at h2
      exact hcan (canLay_of hr hk hs h1 h2).1
    · unfold withN
      rw [if_neg ht]; rfl
theorem getD_app {l m : List (List Int)} {i : Nat} : (l ++ m).getD i [] = if i < l.length then l.getD i [] else m.getD (i - l.length) [] := by
  by_cases h : i < l.length
  · rw [if_pos h]; simp [List.getD, List.getElem?_append_left h]
  · rw [if_neg h]; simp [List.getD, List.getElem?_append_right (Nat.le_of_not_lt h)]
theorem til_walk {W T : Int} {xs : List Bool} {r : Nat} (hr : rv W T xs = true) (hq : r < dpT W T xs) : ∀ k, k ≤ xs.length → ∃ f, freeN xs (tlS W T xs r k).M < f ∧ (allF W T xs).getD r [] = (allL W T xs f (tlS W T xs r k).M).getD (tlS W T xs r k).q []
  | 0, _ => by
    have e : bareL W T xs = List.replicate xs.length 0 := by unfold bareL; rw [if_pos hr]
    refine ⟨xs.length + 1, ?_, ?_⟩
    · have := freeN_le xs (tlS W T xs r 0).M; omega
    · unfold allF
      rw [if_pos hr, e]
      rfl
  | k + 1, hk => by
    obtain ⟨f, hf, hE⟩ := til_walk hr hq k (by omega)
    obtain ⟨h1, h2⟩ := tlS_inv hr hq k (by omega)
    cases hy : (tlS W T xs r k).ys.getD k false
    · rw [tlS_skip hy]; exact ⟨f, hf, hE⟩
    · obtain ⟨v1, v2, v3, v4, v5, _⟩ := rv_true hr
      have hkn : k < xs.length := by omega
      have hfk : freeB xs (tlS W T xs r k).M k = true := by rw [h1.free k hkn]; exact hy
      have hfl : freeL xs (tlS W T xs r k).M = (tlS W T xs r k).ys := by
        refine list_ext (by rw [freeL_len, h1.ly]) fun i hi => ?_
        rw [freeL_len] at hi
        rw [freeL_at hi]; exact h1.free i hi
      rcases f with _ | f
      · exact absurd hf (Nat.not_lt_zero _)
      have hfirst : firstI xs (tlS W T xs r k).M 0 xs.length = (k : Int) := by
        rcases first_cases xs (tlS W T xs r k).M 0 xs.length with ⟨_, hno⟩ | ⟨c, _, hc, h0, hfc, hno⟩
        · have := hno k (Nat.zero_le _) hkn
          rw [hfk] at this; cases this
        · rcases Nat.lt_trichotomy c k with e | e | e
          · rw [h1.free c hc, h1.done c e] at hfc; cases hfc
          · rw [h0, e]
          · have := hno k (Nat.zero_le _) e
            rw [hfk] at this; cases this
      have p1 := allL_part (f := f) (way := 1) hf h1.ok (Or.inl rfl) hkn
      have p2 := allL_part (f := f) (way := 2) hf h1.ok (Or.inr rfl) hkn
      rw [hfl] at p1 p2
      rw [allL_succ hfirst (by omega), getD_app, p1] at hE
      rw [tlS_go hy]
      have h36 : xs.length ≤ 36 := by
        have h1 : W * T ≤ 6 * 6 := Int.mul_le_mul v2 v4 (by omega) (by omega)
        omega
      have hsp := dp_split (W := W) (T := T) (ys := (tlS W T xs r k).ys) (c := k) v1 v2 (by rw [h1.ly]; exact v5) (by rw [h1.ly]; exact h36) (by rw [h1.ly]; omega) h1.done hy
      have free_lt : ∀ way : Int, way = 1 ∨ way = 2 → canLay W T xs (tlS W T xs r k).M k way = true → freeN xs (laidL W T xs (tlS W T xs r k).M k way) < f := fun way hw hcan => by
        have := free_drop' hw h1.ok hcan; omega
      by_cases hle : withN W T (tlS W T xs r k).ys k 1 ≤ (tlS W T xs r k).q
      · rw [if_pos hle]
        rw [if_neg (by omega)] at hE
        have hcan : canLay W T xs (tlS W T xs r k).M k 2 = true := by
          by_cases hc : canLay W T xs (tlS W T xs r k).M k 2 = true
          · exact hc
          · rw [if_neg hc] at p2
            have : (0 : Nat) = withN W T (tlS W T xs r k).ys k 2 := p2
            omega
        rw [if_pos hcan] at hE
        exact ⟨f, free_lt 2 (Or.inr rfl) hcan, hE⟩
      · rw [if_neg hle]
        rw [if_pos (by omega)] at hE
        have hcan : canLay W T xs (tlS W T xs r k).M k 1 = true := by
          by_cases hc : canLay W T xs (tlS W T xs r k).M k 1 = true
          · exact hc
          · rw [if_neg hc] at p1
            have : (0 : Nat) = withN W T (tlS W T xs r k).ys k 1 := p1
            omega
        rw [if_pos hcan] at hE
        exact ⟨f, free_lt 1 (Or.inl rfl) hcan, hE⟩
/-- The tiling of rank r is the r-th of all. -/
theorem til_at {W T : Int} {xs : List Bool} {r : Nat} (hr : rv W T xs = true) (hq : r < dpT W T xs) : tilOf W T xs r = ((allF W T xs).getD r [], true) := by
  obtain ⟨f, hf, hE⟩ := til_walk hr hq xs.length (Nat.le_refl _)
  obtain ⟨h1, h2⟩ := tlS_inv hr hq xs.length (Nat.le_refl _)
  have hn : ∀ j, j < xs.length → freeB xs (tlS W T xs r xs.length).M j = false := fun j hj => by rw [h1.free j hj]; exact h1.done j hj
  have hq0 : (tlS W T xs r xs.length).q = 0 := by
    rw [dp_none (fun i hi => h1.done i (by rw [← h1.ly]; exact hi))] at h2
    omega
  rcases f with _ | f
  · exact absurd hf (Nat.not_lt_zero _)
  rcases first_cases xs (tlS W T xs r xs.length).M 0 xs.length with ⟨h0, _⟩ | ⟨c, _, hc, _, hfc, _⟩
  · rw [allL_done h0 (by omega), hq0] at hE
    unfold tilOf
    rw [if_pos ⟨hr, by omega, by omega⟩, Int.toNat_natCast, hE]
    rfl
  · rw [hn c hc] at hfc; cases hfc
end Go.Proofs.Ytknigcjpgkolgaa

namespace Go.Proofs.Ytknigcjpgkolgaa
open Go.RowKit
set_option linter.unusedVariables false
set_option maxRecDepth 100000
set_option linter.unusedSimpArgs false

theorem til_some {W T : Int} {xs : List Bool} (hr : rv W T xs = true) {V : Int} (h0 : 0 ≤ V) (h1 : V < dpT W T xs) : ∃ C, tilOf W T xs V = (C, true) ∧ tok W T xs C = true ∧ C.length = xs.length := by
  obtain ⟨r, rfl⟩ := Int.eq_ofNat_of_zero_le h0
  have hq : r < dpT W T xs := by omega
  have hi : r < (allF W T xs).length := by rw [allF_dp hr]; exact hq
  exact ⟨_, til_at hr hq, (allF_row hi).2, (allF_row hi).1⟩
theorem dp_pos {W T : Int} {xs : List Bool} {L : List Int} (h : tok W T xs L = true) : 0 < dpT W T xs := by
  have hr : rv W T xs = true := (lok_rv (tok_lok1 h)).1
  have hm := mem_allF h
  have : 0 < (allF W T xs).length := by
    rcases Nat.eq_zero_or_pos (allF W T xs).length with e | e
    · rw [List.eq_nil_of_length_eq_zero e] at hm; cases hm
    · exact e
  rw [allF_dp hr] at this; exact this
/-- The remainder by their number is the rank of one. -/
theorem til_rem {W T : Int} {xs : List Bool} {L : List Int} (h : tok W T xs L = true) (hx : xs.length ≤ 36) (n : Nat) (hn : n ≤ 1048576) :
    ∃ D V C, tilT W T xs = D ∧ (if D < 1 then (1 : Int) else D) = D ∧ (if (1 : Int) < D then D else (1 : Int)) = D ∧ ¬ D = 0 ∧ (n : Int).tmod D = V ∧ (n : Int) % D = V ∧ IntKind.i64.wrap V = V ∧ tilOf W T xs V = (C, true) ∧ tok W T xs C = true ∧ C.length = xs.length := by
  have hr : rv W T xs = true := (lok_rv (tok_lok1 h)).1
  have hp := dp_pos h
  have hle := dpT_le (W := W) (T := T) hx
  have eD : tilT W T xs = (dpT W T xs : Int) := by unfold tilT; rw [if_pos hr]
  have e1 : (n : Int).tmod (dpT W T xs : Int) = (n : Int) % (dpT W T xs : Int) := Int.tmod_eq_emod_of_nonneg (by omega)
  have h0 := Int.emod_nonneg (n : Int) (show (dpT W T xs : Int) ≠ 0 by omega)
  have h1 := Int.emod_lt_of_pos (n : Int) (show 0 < (dpT W T xs : Int) by omega)
  obtain ⟨C, c1, c2, c3⟩ := til_some hr h0 h1
  refine ⟨_, _, C, eD, if_neg (by omega), ?_, by omega, e1, rfl, IntWalk.i64_in _ (by omega), c1, c2, c3⟩
  by_cases hc : (1 : Int) < dpT W T xs
  · exact if_pos hc
  · rw [if_neg hc]; omega

end Go.Proofs.Ytknigcjpgkolgaa
