/- Contracts of impl.takeOut and impl.countWith. Merged of: With, WithS. -/
import Derived.Test.YtdmnfafmbdmjmaaLess
import Derived.Test.YtdmnfafmbdmjmaaLayOne
import Derived.Test.YtdmnfafmbdmjmaaSetS
import Derived.Test.YtdmnfafmbdmjmaaLaid
import Derived.Test.YtdmnfafmbdmjmaaDpS
namespace Go.Proofs.Ytdmnfafmbdmjmaa
open Go.RowKit
set_option linter.unusedVariables false
set_option maxRecDepth 100000
set_option linter.unusedSimpArgs false

def canTake (W T : Int) (xs : List Bool) (k way : Int) : Bool := decide (0 ≤ cellB W T xs.length k way) && (xs.getD k.toNat false && xs.getD (cellB W T xs.length k way).toNat false)
def takeB (W T : Int) (xs : List Bool) (k way : Int) : List Bool := if canTake W T xs k way then lessB xs [k.toNat, (cellB W T xs.length k way).toNat] else xs
/-- How many tilings have a domino from a cell in a direction. -/
def withN (W T : Int) (xs : List Bool) (k way : Int) : Nat := if canTake W T xs k way then dpT W T (lessB xs [k.toNat, (cellB W T xs.length k way).toNat]) else 0
theorem takeB_len (W T : Int) (xs : List Bool) (k way : Int) : (takeB W T xs k way).length = xs.length := by unfold takeB; split; exact lessB_len _ _; rfl

theorem cnt_tab (N : Nat) (f : Nat → Bool) : cnt (tab N f) = (List.range N).countP f := by
  unfold cnt tab
  rw [List.countP_map]
  rfl
theorem cnt_less (xs : List Bool) (L : List Nat) : cnt (lessB xs L) ≤ cnt xs := by
  have e : cnt xs = cnt (tab xs.length (fun i => xs.getD i false)) := by rw [tab_of]
  rw [e]
  unfold lessB
  rw [cnt_tab, cnt_tab]
  refine List.countP_mono_left (fun i _ h => ?_)
  unfold lessF at h
  rw [Bool.and_eq_true] at h
  exact h.1
theorem rv_less {W T : Int} {xs : List Bool} {L : List Nat} (h : rv W T xs = true) : rv W T (lessB xs L) = true := by
  obtain ⟨h1, h2, h3, h4, h5, h6⟩ := rv_true h
  have := cnt_less xs L
  have e := lessB_len xs L
  unfold rv
  simp only [e]
  simp
  omega

set_option maxHeartbeats 1000000 in
theorem takeOut_any (W T : Int) (g n cg B : Nat) (xs : List Bool) (k way : Int) (w : World) (hn : n = xs.length) (hW0 : 1 ≤ W) (hW1 : W ≤ 6) (hT0 : 1 ≤ T) (hT1 : T ≤ 6) (hWT : (n : Int) = W * T) (ho : OwnsB w B (.slice (some ⟨g, 0, none⟩) n cg) xs) :
    Calls Try.prog 46 #[.agg #[.int .i64 W, .int .i64 T, .slice (some ⟨g, 0, none⟩) n cg], .int .i64 k, .int .i64 way] w fun e w' => e = .returned (.bool (canTake W T xs k way)) ∧ OwnsB w' B (.slice (some ⟨g, 0, none⟩) n cg) (takeB W T xs k way) ∧ w.grownBy w' (some g) := by
  have HN := Lib.hid hn; clear hn
  have HWT := Lib.hid hWT; clear hWT
  obtain ⟨wA, hwA⟩ : ∃ wA, wA = w.alloc (.cells #[.int .i64 W, .int .i64 T, .slice (some ⟨g, 0, none⟩) n cg] 25) := ⟨_, rfl⟩
  have pA : wA.heap[w.heap.size]? = some (.cells #[.int .i64 W, .int .i64 T, .slice (some ⟨g, 0, none⟩) n cg] 25 (0, 0)) := by rw [hwA]; exact heap_new _ _
  have gA : w.grownBy wA (some g) := by rw [hwA]; exact World.grownBy_alloc w _ _
  have oA : OwnsB wA B (.slice (some ⟨g, 0, none⟩) n cg) xs := by rw [hwA]; exact ho.alloc _
  have hg : g < w.heap.size := (World.ownsRow.lt ho g rfl).2
  have HO := Lib.hid ho; clear ho
  obtain ⟨c0, c1, c2⟩ := cells3 pA
  have lA := heap_lt pA
  obtain ⟨o, hoo⟩ : ∃ o, o = cellB W T n k way := ⟨_, rfl⟩
  by_cases hneg : o < 0
  · have hcan : canTake W T xs k way = false := by
      unfold canTake
      rw [← HN.out, ← hoo, decide_eq_false (by omega)]
      rfl
    have htk : takeB W T xs k way = xs := by unfold takeB; rw [hcan]; rfl
    rw [hcan, htk]
    have HOO := Lib.hid hoo; clear hoo hcan htk
    go_enter Try.func46, Try.ntmps46
    go_wp2_with fail
    rw [← hwA]
    clear hwA
    refine (cellBeside_any _ _ _ _ _ _ _ _ hW0 hW1 hT0 hT1 HWT.out).mono ?_; rintro e w1 ⟨rfl, hb1⟩
    rw [← HOO.out]
    go_wp2
    go_ret
    exact ⟨rfl, OwnsB.below oA hb1, grown_seq gA (grown_of_below hb1 _)⟩
  · obtain ⟨on, hon⟩ : ∃ on : Nat, o = on := ⟨o.toNat, by omega⟩
    subst hon
    have hbd := cellB_bd (W := W) (T := T) (n := n) (k := k) (way := way) hW0 HWT.out (by rw [← hoo]; omega)
    obtain ⟨kn, hkn⟩ : ∃ kn : Nat, k = kn := ⟨k.toNat, by omega⟩
    subst hkn
    have hk : kn < n := by omega
    have hon : on < n := by omega
    have hne : on ≠ kn := by omega
    have hcan : canTake W T xs kn way = (xs.getD kn false && xs.getD on false) := by
      unfold canTake
      rw [← HN.out, ← hoo, decide_eq_true (by omega)]
      simp
    have htk : takeB W T xs kn way = if (xs.getD kn false && xs.getD on false) then lessB xs [kn, on] else xs := by
      unfold takeB
      rw [hcan, ← HN.out, ← hoo]
      simp
    rw [hcan, htk]
    have HOO := Lib.hid hoo; clear hoo hcan htk hbd
    have RA : RowB wA B g n cg (fun i => xs.getD i false) := RowB.of oA HN.out
    have e1 : (kn : Int) < n := by omega
    have e2 : (on : Int) < n := by omega
    obtain ⟨xk, hxk⟩ : ∃ xk, xk = xs.getD kn false := ⟨_, rfl⟩
    obtain ⟨xo, hxo⟩ : ∃ xo, xo = xs.getD on false := ⟨_, rfl⟩
    have hck := RA.cell hk
    have hco := RA.cell hon
    simp only [← hxk, ← hxo] at hck hco ⊢
    have HXK := Lib.hid hxk; clear hxk
    have HXO := Lib.hid hxo; clear hxo
    cases hxk : xk
    · subst hxk
      go_enter Try.func46, Try.ntmps46
      go_wp2_with fail
      rw [← hwA]
      clear hwA
      refine (cellBeside_any _ _ _ _ _ _ _ _ hW0 hW1 hT0 hT1 HWT.out).mono ?_; rintro e w1 ⟨rfl, hb1⟩
      rw [← HOO.out]
      have p1 := heap_later pA hb1
      obtain ⟨d0, d1, d2⟩ := cells3 p1
      have hck1 := (RA.below hb1).cell hk
      simp only [← HXK.out] at hck1
      clear c0 c1 c2 hck hco
      go_wp2
      go_ret
      exact ⟨rfl, OwnsB.below oA hb1, grown_seq gA (grown_of_below hb1 _)⟩
    · subst hxk
      cases hxo : xo
      · subst hxo
        go_enter Try.func46, Try.ntmps46
        go_wp2_with fail
        rw [← hwA]
        clear hwA
        refine (cellBeside_any _ _ _ _ _ _ _ _ hW0 hW1 hT0 hT1 HWT.out).mono ?_; rintro e w1 ⟨rfl, hb1⟩
        rw [← HOO.out]
        have p1 := heap_later pA hb1
        obtain ⟨d0, d1, d2⟩ := cells3 p1
        have hck1 := (RA.below hb1).cell hk
        have hco1 := (RA.below hb1).cell hon
        simp only [← HXK.out, ← HXO.out] at hck1 hco1
        clear c0 c1 c2 hck hco
        go_wp2
        go_ret
        exact ⟨rfl, OwnsB.below oA hb1, grown_seq gA (grown_of_below hb1 _)⟩
      · subst hxo
        go_enter Try.func46, Try.ntmps46
        go_wp2_with fail
        rw [← hwA]
        clear hwA
        refine (cellBeside_any _ _ _ _ _ _ _ _ hW0 hW1 hT0 hT1 HWT.out).mono ?_; rintro e w1 ⟨rfl, hb1⟩
        rw [← HOO.out]
        have p1 := heap_later pA hb1
        obtain ⟨d0, d1, d2⟩ := cells3 p1
        have R1 := RA.below hb1
        have hck1 := R1.cell hk
        have hco1 := R1.cell hon
        have f1 := R1.free kn
        have f2 := R1.free on
        simp only [← HXK.out, ← HXO.out] at hck1 hco1
        have l1 := heap_lt p1
        have hgb : g ≠ w.heap.size := by omega
        have G1 := Lib.hid (grown_seq gA (grown_of_below hb1 (some g)))
        have RR := Lib.hid R1; clear R1
        clear c0 c1 c2 hck hco hb1 gA oA RA
        have eT : ∀ (a b : Nat), (a = kn ∧ b = on ∨ a = on ∧ b = kn) → tab n (fun i => if i = b then false else if i = a then false else xs.getD i false) = lessB xs [kn, on] := by
          intro a b hab
          unfold lessB
          rw [← HN.out]
          refine tab_congr (fun i hi => ?_)
          unfold lessF
          rcases hab with ⟨rfl, rfl⟩ | ⟨rfl, rfl⟩
          all_goals
            by_cases h1 : i = a
            · subst h1; simp
            · by_cases h2 : i = b
              · subst h2; simp
              · simp [h1, h2]
        have ET := Lib.hid eT; clear eT
        go_wp2_with fail
        go_region
        all_goals
          go_wp2_with fail
          go_ret
          first
            | (obtain ⟨r1, g1⟩ := RR.out.set kn false
               obtain ⟨r2, g2⟩ := r1.set on false
               have hO := r2.owns
               rw [ET.out kn on (Or.inl ⟨rfl, rfl⟩)] at hO
               exact ⟨rfl, hO, grown_seq (grown_seq (grown_seq G1.out g1) g2) ⟨rfl, rfl, rfl, Nat.le_refl _, fun _ _ _ => rfl⟩⟩)
            | (obtain ⟨r1, g1⟩ := RR.out.set on false
               obtain ⟨r2, g2⟩ := r1.set kn false
               have hO := r2.owns
               rw [ET.out on kn (Or.inr ⟨rfl, rfl⟩)] at hO
               exact ⟨rfl, hO, grown_seq (grown_seq (grown_seq G1.out g1) g2) ⟨rfl, rfl, rfl, Nat.le_refl _, fun _ _ _ => rfl⟩⟩)

set_option maxHeartbeats 1000000 in
theorem countWith_any (W T : Int) (a : Option Addr) (n cap : Nat) (xs : List Bool) (k way : Int) (w : World) (hn : n = xs.length) (hW0 : 1 ≤ W) (hW1 : W ≤ 6) (hT0 : 1 ≤ T) (hT1 : T ≤ 6) (hWT : (n : Int) = W * T) (ha : BoolsAt w a xs) :
    Calls Try.prog 37 #[.agg #[.int .i64 W, .int .i64 T, .slice a n cap], .int .i64 k, .int .i64 way] w fun e w' => e = .returned (.int .i64 (withN W T xs k way)) ∧ Below w.heap.size w w' := by
  have hp : 0 < n := by
    have h1 : 1 * 1 ≤ W * T := Int.mul_le_mul hW0 hT0 (by omega) (by omega)
    omega
  have HN := Lib.hid hn; clear hn
  have HWT := Lib.hid hWT; clear hWT
  have HA := Lib.hid ha; clear ha
  go_enter Try.func37, Try.ntmps37
  go_wp2_with fail
  refine (copyField_any _ _ _ _ _ xs _ HN.out (by omega) (by omega) (by omega) (by omega) HWT.out hp (HA.out.one _)).mono ?_; rintro e w1 ⟨g, rfl, ho1, hb1⟩
  have b1 := below_seq (below1 _ _) hb1
  have hgl := (World.ownsRow.lt ho1 g rfl)
  simp at hgl
  have O1 := Lib.hid (ho1.alloc (.cells #[.int .i64 W, .int .i64 T, .slice (some ⟨g, 0, none⟩) n n] 25)); clear ho1 hb1
  have pB := heap_new w1 (.cells #[.int .i64 W, .int .i64 T, .slice (some ⟨g, 0, none⟩) n n] 25)
  obtain ⟨wB, hwB⟩ : ∃ wB, wB = w1.alloc (.cells #[.int .i64 W, .int .i64 T, .slice (some ⟨g, 0, none⟩) n n] 25) := ⟨_, rfl⟩
  have bB : Below w.heap.size w wB := by rw [hwB]; exact below_seq b1 (below1 _ _)
  rw [← hwB] at pB O1
  obtain ⟨c0, c1, c2⟩ := cells3 pB
  go_wp2_with fail
  rw [← hwB]
  clear hwB
  refine (takeOut_any _ _ _ _ _ _ xs _ _ _ HN.out hW0 hW1 hT0 hT1 HWT.out O1.out).mono ?_; rintro e w2 ⟨rfl, ho2, g2⟩
  have p2 := heap_grown pB g2 (by intro h; have := Option.some.inj h; omega)
  have B2 : Below w.heap.size w w2 := below_grown bB g2 (Nat.le_refl _) (by intro j hj; have := Option.some.inj hj; omega)
  clear g2 c0 c1 c2
  obtain ⟨c0, c1, c2⟩ := cells3 p2
  cases hcan : canTake W T xs k way
  · go_wp2
    go_ret
    exact ⟨ret_int (by unfold withN; rw [hcan]; rfl), B2⟩
  · have e : takeB W T xs k way = lessB xs [k.toNat, (cellB W T xs.length k way).toNat] := by unfold takeB; rw [hcan]; rfl
    rw [e] at ho2
    have O2 := Lib.hid ho2; clear ho2
    have hres : withN W T xs k way = dpT W T (lessB xs [k.toNat, (cellB W T xs.length k way).toNat]) := by unfold withN; rw [hcan]; rfl
    have HR := Lib.hid hres; clear hres e
    go_wp2_with fail
    refine (tilingsIn_any _ _ _ _ _ (lessB xs [k.toNat, (cellB W T xs.length k way).toNat]) _ (by rw [lessB_len]; exact HN.out) hW0 hW1 hT0 hT1 HWT.out (OwnsB.at O2.out)).mono ?_; rintro e w3 ⟨rfl, hb3⟩
    go_wp2
    go_ret
    exact ⟨ret_int (by rw [HR.out]), below_seq B2 hb3⟩

/-- What the functions TilingsWith answer. -/
def withT (W T : Int) (xs : List Bool) (k way : Int) : Int := if rv W T xs then (withN W T xs k way : Int) else -1

set_option maxHeartbeats 1000000 in
theorem iTilingsWith_any (W T : Int) (a : Option Addr) (n cap : Nat) (xs : List Bool) (k way : Int) (w : World) (hn : n = xs.length) (hn' : n ≤ 1048576) (ha : BoolsAt w a xs) :
    Calls Try.prog 12 #[.agg #[.int .i64 W, .int .i64 T, .slice a n cap], .int .i64 k, .int .i64 way] w fun e w' => e = .returned (.int .i64 (withT W T xs k way)) ∧ Below w.heap.size w w' := by
  have HN := Lib.hid hn; clear hn
  have HA := Lib.hid ha; clear ha
  by_cases h : rv W T xs = true
  · obtain ⟨hW0, hW1, hT0, hT1, v5, _⟩ := rv_true h
    have HWT : Hid ((n : Int) = W * T) := by show _ = _; rw [HN.out]; exact v5
    clear v5
    have hres : withT W T xs k way = (withN W T xs k way : Int) := by unfold withT; rw [if_pos h]
    rw [hres]
    clear hres
    have H := Lib.hid h; clear h
    go_enter Try.func12, Try.ntmps12
    go_wp2_with fail
    refine (iRegionValid_any _ _ _ _ _ xs _ HN.out hn' (HA.out.one _)).mono ?_; rintro e w1 ⟨rfl, hb1⟩
    have p1 := heap_later (heap_new w _) hb1
    have b1 := below_seq (below1 _ _) hb1
    obtain ⟨c0, c1, c2⟩ := cells3 p1
    rw [H.out]
    go_wp2_with fail
    refine (countWith_any _ _ _ _ _ xs _ _ _ HN.out hW0 hW1 hT0 hT1 HWT.out (HA.out.below b1)).mono ?_; rintro e w2 ⟨rfl, hb2⟩
    go_wp2
    go_ret
    exact ⟨rfl, below_seq b1 hb2⟩
  · have hres : withT W T xs k way = -1 := by unfold withT; rw [if_neg h]
    rw [hres]
    rw [Bool.not_eq_true] at h
    clear hres
    go_enter Try.func12, Try.ntmps12
    go_wp2_with fail
    refine (iRegionValid_any _ _ _ _ _ xs _ HN.out hn' (HA.out.one _)).mono ?_; rintro e w1 ⟨rfl, hb1⟩
    rw [h]
    go_wp2
    go_ret
    exact ⟨rfl, below_seq (below1 _ _) hb1⟩

end Go.Proofs.Ytdmnfafmbdmjmaa

namespace Go.Proofs.Ytdmnfafmbdmjmaa
open Go.RowKit
set_option linter.unusedVariables false
set_option maxRecDepth 100000
set_option linter.unusedSimpArgs false

theorem own_two_lit (w : World) {B : Nat} (x y : Int) (hB : B ≤ w.heap.size) : OwnsI (w.alloc (.cells #[.int .i64 x, .int .i64 y] 3 (0, 0))) B (.slice (some ⟨w.heap.size, 0, none⟩) 2 2) [x, y] :=
  ⟨by simp, .inr ⟨w.heap.size, 2, #[.int .i64 x, .int .i64 y], rfl, hB, heap_alloc_new w _, Nat.le_refl _, by decide, by simp, by simp⟩⟩

set_option maxHeartbeats 2000000 in
theorem sTilingsWith_any (W T : Int) (a : Option Addr) (n cap : Nat) (xs : List Bool) (k way : Int) (w : World) (hn : n = xs.length) (hn' : n ≤ 1048576) (ha : BoolsAt w a xs) :
    Calls Try.prog 43 #[.agg #[.int .i64 W, .int .i64 T, .slice a n cap], .int .i64 k, .int .i64 way] w fun e w' => e = .returned (.int .i64 (withT W T xs k way)) ∧ Below w.heap.size w w' := by
  have HN := Lib.hid hn; clear hn
  have HA := Lib.hid ha; clear ha
  by_cases h : rv W T xs = true
  · obtain ⟨hW0, hW1, hT0, hT1, v5, _⟩ := rv_true h
    have HWT : Hid ((n : Int) = W * T) := by show _ = _; rw [HN.out]; exact v5
    clear v5
    have hp : 0 < n := by
      have h1 : 1 * 1 ≤ W * T := Int.mul_le_mul hW0 hT0 (by omega) (by omega)
      have := HWT.out
      omega
    have hres : withT W T xs k way = (withN W T xs k way : Int) := by unfold withT; rw [if_pos h]
    rw [hres]
    clear hres
    obtain ⟨o, hoo⟩ : ∃ o, o = cellB W T n k way := ⟨_, rfl⟩
    have hst : stepTo W T xs k way = o := by unfold stepTo; rw [if_pos h, ← HN.out, hoo]
    have HST := Lib.hid hst; clear hst
    have H := Lib.hid h; clear h
    by_cases hneg : o < 0
    · have hcan : canTake W T xs k way = false := by
        unfold canTake
        rw [← HN.out, ← hoo, decide_eq_false (by omega)]
        rfl
      have hr : withN W T xs k way = 0 := by unfold withN; rw [hcan]; rfl
      rw [hr]
      clear hr hcan hoo
      go_enter Try.func43, Try.ntmps43
      go_wp2_with fail
      refine (sRegionValid_any _ _ _ _ _ xs _ HN.out hn' (HA.out.one _)).mono ?_; rintro e w1 ⟨rfl, hb1⟩
      have p1 := heap_later (heap_new w _) hb1
      have b1 := below_seq (below1 _ _) hb1
      obtain ⟨c0, c1, c2⟩ := cells3 p1
      rw [H.out]
      go_wp2_with fail
      refine (sStepTo_any _ _ _ _ _ _ _ xs _ HN.out hn' (HA.out.below b1)).mono ?_; rintro e w2 ⟨rfl, hb2⟩
      rw [HST.out]
      have b2 := below_seq b1 hb2
      go_wp2
      go_ret
      exact ⟨rfl, b2⟩
    · obtain ⟨on, hon⟩ : ∃ on : Nat, o = on := ⟨o.toNat, by omega⟩
      subst hon
      have hbd := cellB_bd (W := W) (T := T) (n := n) (k := k) (way := way) hW0 HWT.out (by rw [← hoo]; omega)
      obtain ⟨kn, hkn⟩ : ∃ kn : Nat, k = kn := ⟨k.toNat, by omega⟩
      subst hkn
      have hk : kn < n := by omega
      have hon : on < n := by omega
      have hcan : canTake W T xs kn way = (xs.getD kn false && xs.getD on false) := by
        unfold canTake
        rw [← HN.out, ← hoo, decide_eq_true (by omega)]
        simp
      have hwn : withN W T xs kn way = if (xs.getD kn false && xs.getD on false) then dpT W T (lessB xs [kn, on]) else 0 := by
        unfold withN
        rw [hcan, ← HN.out, ← hoo]
        simp
      rw [hwn]
      clear hwn hcan hoo hbd
      have e1 : (kn : Int) < n := by omega
      have e2 : (on : Int) < n := by omega
      obtain ⟨b, off, rfl, hck⟩ := HA.out kn (by rw [← HN.out]; exact hk)
      obtain ⟨b', off', hbb, hco⟩ := HA.out on (by rw [← HN.out]; exact hon)
      cases hbb
      have hbl := World.block_lt_of_cell? w _ hck
      simp only at hbl
      obtain ⟨xk, hxk⟩ : ∃ xk, xk = xs.getD kn false := ⟨_, rfl⟩
      obtain ⟨xo, hxo⟩ : ∃ xo, xo = xs.getD on false := ⟨_, rfl⟩
      rw [← hxk] at hck
      rw [← hxo] at hco
      simp only [← hxk, ← hxo]
      clear hxk hxo
      go_enter Try.func43, Try.ntmps43
      go_wp2_with fail
      refine (sRegionValid_any _ _ _ _ _ xs _ HN.out hn' (HA.out.one _)).mono ?_; rintro e w1 ⟨rfl, hb1⟩
      have p1 := heap_later (heap_new w _) hb1
      have b1 := below_seq (below1 _ _) hb1
      obtain ⟨c0, c1, c2⟩ := cells3 p1
      rw [H.out]
      go_wp2_with fail
      refine (sStepTo_any _ _ _ _ _ _ _ xs _ HN.out hn' (HA.out.below b1)).mono ?_; rintro e w2 ⟨rfl, hb2⟩
      rw [HST.out]
      have b2 := below_seq b1 hb2
      have p2 := heap_later p1 hb2
      clear c0 c1 c2 p1 hb1 hb2
      obtain ⟨c0, c1, c2⟩ := cells3 p2
      have k2 : w2.cell? ⟨b, off + kn, none⟩ = _ := (b2.cell (p := ⟨b, off + kn, none⟩) hbl).trans hck
      have o2 : w2.cell? ⟨b, off + on, none⟩ = _ := (b2.cell (p := ⟨b, off + on, none⟩) hbl).trans hco
      clear hck hco
      cases xk
      · go_wp2
        go_ret
        exact ⟨rfl, b2⟩
      · cases xo
        · go_wp2
          go_ret
          exact ⟨rfl, b2⟩
        · have O2 := Lib.hid (OwnsI.at (own_two_lit w2 (B := 0) (kn : Int) (on : Int) (Nat.zero_le _)))
          have A3 := Lib.hid ((HA.out.below b2).one (.cells #[.int .i64 (kn : Int), .int .i64 (on : Int)] 3 (0, 0)))
          go_wp2_with fail
          have hq2 : ∀ q, q < 2 → ([kn, on] : List Nat).getD q 0 < n := by
            intro q hq
            have : q = 0 ∨ q = 1 := by omega
            rcases this with rfl | rfl
            · exact hk
            · exact hon
          refine (l3Less_any W T _ n cap xs _ 2 2 [kn, on] _ HN.out hn' hp rfl (by decide) hq2 A3.out O2.out).mono ?_; rintro e w3 ⟨g, cg, rfl, ho3, hb3⟩
          have b3 := below_seq (below_seq b2 (below1 _ _)) hb3
          have O3 := Lib.hid ho3; clear ho3
          go_wp2_with fail
          refine (sTilingsMany_any W T _ n cg (lessB xs [kn, on]) _ (by rw [lessB_len]; exact HN.out) hn' (OwnsB.at O3.out)).mono ?_; rintro e w4 ⟨rfl, hb4⟩
          go_wp2
          go_ret
          exact ⟨ret_int (by unfold tilT; rw [if_pos (rv_less H.out)]), below_seq b3 hb4⟩
  · have hres : withT W T xs k way = -1 := by unfold withT; rw [if_neg h]
    rw [hres]
    rw [Bool.not_eq_true] at h
    clear hres
    go_enter Try.func43, Try.ntmps43
    go_wp2_with fail
    refine (sRegionValid_any _ _ _ _ _ xs _ HN.out hn' (HA.out.one _)).mono ?_; rintro e w1 ⟨rfl, hb1⟩
    rw [h]
    go_wp2
    go_ret
    exact ⟨rfl, below_seq (below1 _ _) hb1⟩

theorem sTilingsWith_ord (W T : Int) (k way : Int) (a : Option Addr) (n cap : Nat) (xs : List Bool) (w : World) (hn : n = xs.length) (hn' : n ≤ 1048576) (ha : BoolsAt w a xs) :
    Calls Try.prog 43 #[.agg #[.int .i64 W, .int .i64 T, .slice a n cap], .int .i64 k, .int .i64 way] w fun e w' => e = .returned (.int .i64 (withT W T xs k way)) ∧ Below w.heap.size w w' := sTilingsWith_any W T a n cap xs k way w hn hn' ha
theorem iTilingsWith_ord (W T : Int) (k way : Int) (a : Option Addr) (n cap : Nat) (xs : List Bool) (w : World) (hn : n = xs.length) (hn' : n ≤ 1048576) (ha : BoolsAt w a xs) :
    Calls Try.prog 12 #[.agg #[.int .i64 W, .int .i64 T, .slice a n cap], .int .i64 k, .int .i64 way] w fun e w' => e = .returned (.int .i64 (withT W T xs k way)) ∧ Below w.heap.size w w' := iTilingsWith_any W T a n cap xs k way w hn hn' ha

end Go.Proofs.Ytdmnfafmbdmjmaa
