/- Contracts of impl.takeOut and impl.countWith. -/
import Derived.Test.YthdojiaaoaiioaaLess
import Derived.Test.YthdojiaaoaiioaaLayOne
import Derived.Test.YthdojiaaoaiioaaSetS
namespace Go.Proofs.Ythdojiaaoaiioaa
open Go.RowKit
set_option linter.unusedVariables false
set_option maxRecDepth 100000
set_option linter.unusedSimpArgs false

def canTake (W T : Int) (xs : List Bool) (k way : Int) : Bool := decide (0 ≤ cellB W T xs.length k way) && (xs.getD k.toNat false && xs.getD (cellB W T xs.length k way).toNat false)
def takeB (W T : Int) (xs : List Bool) (k way : Int) : List Bool := if canTake W T xs k way then lessB xs [k.toNat, (cellB W T xs.length k way).toNat] else xs
/-- How many tilings have a domino from a cell in a direction. -/
def withN (W T : Int) (xs : List Bool) (k way : Int) : Nat := if canTake W T xs k way then dpT W T (lessB xs [k.toNat, (cellB W T xs.length k way).toNat]) else 0
theorem takeB_len (W T : Int) (xs : List Bool) (k way : Int) : (takeB W T xs k way).length = xs.length := by unfold takeB; split; exact lessB_len _ _; rfl

theorem cnt_tab (N : Nat) (f : Nat → Bool) : cnt (tab N f) = (List.range N).countP f := by
  unfold cnt tab
  rw [List.countP_map]
  rfl
theorem cnt_less (xs : List Bool) (L : List Nat) : cnt (lessB xs L) ≤ cnt xs := by
  have e : cnt xs = cnt (tab xs.length (fun i => xs.getD i false)) := by rw [tab_of]
  rw [e]
  unfold lessB
  rw [cnt_tab, cnt_tab]
  refine List.countP_mono_left (fun i _ h => ?_)
  unfold lessF at h
  rw [Bool.and_eq_true] at h
  exact h.1
theorem rv_less {W T : Int} {xs : List Bool} {L : List Nat} (h : rv W T xs = true) : rv W T (lessB xs L) = true := by
  obtain ⟨h1, h2, h3, h4, h5, h6⟩ := rv_true h
  have := cnt_less xs L
  have e := lessB_len xs L
  unfold rv
  simp only [e]
  simp
  omega

set_option maxHeartbeats 1000000 in
theorem takeOut_any (W T : Int) (g n cg B : Nat) (xs : List Bool) (k way : Int) (w : World) (hn : n = xs.length) (hW0 : 1 ≤ W) (hW1 : W ≤ 6) (hT0 : 1 ≤ T) (hT1 : T ≤ 6) (hWT : (n : Int) = W * T) (ho : OwnsB w B (.slice (some ⟨g, 0, none⟩) n cg) xs) :
    Calls Try.prog 79 #[.agg #[.int .i64 W, .int .i64 T, .slice (some ⟨g, 0, none⟩) n cg], .int .i64 k, .int .i64 way] w fun e w' => e = .returned (.bool (canTake W T xs k way)) ∧ OwnsB w' B (.slice (some ⟨g, 0, none⟩) n cg) (takeB W T xs k way) ∧ w.grownBy w' (some g) := by
  have HN := Lib.hid hn; clear hn
  have HWT := Lib.hid hWT; clear hWT
  obtain ⟨wA, hwA⟩ : ∃ wA, wA = w.alloc (.cells #[.int .i64 W, .int .i64 T, .slice (some ⟨g, 0, none⟩) n cg] 25) := ⟨_, rfl⟩
  have pA : wA.heap[w.heap.size]? = some (.cells #[.int .i64 W, .int .i64 T, .slice (some ⟨g, 0, none⟩) n cg] 25 (0, 0)) := by rw [hwA]; exact heap_new _ _
  have gA : w.grownBy wA (some g) := by rw [hwA]; exact World.grownBy_alloc w _ _
  have oA : OwnsB wA B (.slice (some ⟨g, 0, none⟩) n cg) xs := by rw [hwA]; exact ho.alloc _
  have hg : g < w.heap.size := (World.ownsRow.lt ho g rfl).2
  have HO := Lib.hid ho; clear ho
  obtain ⟨c0, c1, c2⟩ := cells3 pA
  have lA := heap_lt pA
  obtain ⟨o, hoo⟩ : ∃ o, o = cellB W T n k way := ⟨_, rfl⟩
  by_cases hneg : o < 0
  · have hcan : canTake W T xs k way = false := by
      unfold canTake
      rw [← HN.out, ← hoo, decide_eq_false (by omega)]
      rfl
    have htk : takeB W T xs k way = xs := by unfold takeB; rw [hcan]; rfl
    rw [hcan, htk]
    have HOO := Lib.hid hoo; clear hoo hcan htk
    go_enter Try.func79, Try.ntmps79
    go_wp2_with fail
    rw [← hwA]
    clear hwA
    refine (cellBeside_any _ _ _ _ _ _ _ _ hW0 hW1 hT0 hT1 HWT.out).mono ?_; rintro e w1 ⟨rfl, hb1⟩
    rw [← HOO.out]
    go_wp2
    go_ret
    exact ⟨rfl, OwnsB.below oA hb1, grown_seq gA (grown_of_below hb1 _)⟩
  · obtain ⟨on, hon⟩ : ∃ on : Nat, o = on := ⟨o.toNat, by omega⟩
    subst hon
    have hbd := cellB_bd (W := W) (T := T) (n := n) (k := k) (way := way) hW0 HWT.out (by rw [← hoo]; omega)
    obtain ⟨kn, hkn⟩ : ∃ kn : Nat, k = kn := ⟨k.toNat, by omega⟩
    subst hkn
    have hk : kn < n := by omega
    have hon : on < n := by omega
    have hne : on ≠ kn := by omega
    have hcan : canTake W T xs kn way = (xs.getD kn false && xs.getD on false) := by
      unfold canTake
      rw [← HN.out, ← hoo, decide_eq_true (by omega)]
      simp
    have htk : takeB W T xs kn way = if (xs.getD kn false && xs.getD on false) then lessB xs [kn, on] else xs := by
      unfold takeB
      rw [hcan, ← HN.out, ← hoo]
      simp
    rw [hcan, htk]
    have HOO := Lib.hid hoo; clear hoo hcan htk hbd
    have RA : RowB wA B g n cg (fun i => xs.getD i false) := RowB.of oA HN.out
    have e1 : (kn : Int) < n := by omega
    have e2 : (on : Int) < n := by omega
    obtain ⟨xk, hxk⟩ : ∃ xk, xk = xs.getD kn false := ⟨_, rfl⟩
    obtain ⟨xo, hxo⟩ : ∃ xo, xo = xs.getD on false := ⟨_, rfl⟩
    have hck := RA.cell hk
    have hco := RA.cell hon
    simp only [← hxk, ← hxo] at hck hco ⊢
    have HXK := Lib.hid hxk; clear hxk
    have HXO := Lib.hid hxo; clear hxo
    cases hxk : xk
    · subst hxk
      go_enter Try.func79, Try.ntmps79
      go_wp2_with fail
      rw [← hwA]
      clear hwA
      refine (cellBeside_any _ _ _ _ _ _ _ _ hW0 hW1 hT0 hT1 HWT.out).mono ?_; rintro e w1 ⟨rfl, hb1⟩
      rw [← HOO.out]
      have p1 := heap_later pA hb1
      obtain ⟨d0, d1, d2⟩ := cells3 p1
      have hck1 := (RA.below hb1).cell hk
      simp only [← HXK.out] at hck1
      clear c0 c1 c2 hck hco
      go_wp2
      go_ret
      exact ⟨rfl, OwnsB.below oA hb1, grown_seq gA (grown_of_below hb1 _)⟩
    · subst hxk
      cases hxo : xo
      · subst hxo
        go_enter Try.func79, Try.ntmps79
        go_wp2_with fail
        rw [← hwA]
        clear hwA
        refine (cellBeside_any _ _ _ _ _ _ _ _ hW0 hW1 hT0 hT1 HWT.out).mono ?_; rintro e w1 ⟨rfl, hb1⟩
        rw [← HOO.out]
        have p1 := heap_later pA hb1
        obtain ⟨d0, d1, d2⟩ := cells3 p1
        have hck1 := (RA.below hb1).cell hk
        have hco1 := (RA.below hb1).cell hon
        simp only [← HXK.out, ← HXO.out] at hck1 hco1
        clear c0 c1 c2 hck hco
        go_wp2
        go_ret
        exact ⟨rfl, OwnsB.below oA hb1, grown_seq gA (grown_of_below hb1 _)⟩
      · subst hxo
        go_enter Try.func79, Try.ntmps79
        go_wp2_with fail
        rw [← hwA]
        clear hwA
        refine (cellBeside_any _ _ _ _ _ _ _ _ hW0 hW1 hT0 hT1 HWT.out).mono ?_; rintro e w1 ⟨rfl, hb1⟩
        rw [← HOO.out]
        have p1 := heap_later pA hb1
        obtain ⟨d0, d1, d2⟩ := cells3 p1
        have R1 := RA.below hb1
        have hck1 := R1.cell hk
        have hco1 := R1.cell hon
        have f1 := R1.free kn
        have f2 := R1.free on
        simp only [← HXK.out, ← HXO.out] at hck1 hco1
        have l1 := heap_lt p1
        have hgb : g ≠ w.heap.size := by omega
        have G1 := Lib.hid (grown_seq gA (grown_of_below hb1 (some g)))
        have RR := Lib.hid R1; clear R1
        clear c0 c1 c2 hck hco hb1 gA oA RA
        have eT : ∀ (a b : Nat), (a = kn ∧ b = on ∨ a = on ∧ b = kn) → tab n (fun i => if i = b then false else if i = a then false else xs.getD i false) = lessB xs [kn, on] := by
          intro a b hab
          unfold lessB
          rw [← HN.out]
          refine tab_congr (fun i hi => ?_)
          unfold lessF
          rcases hab with ⟨rfl, rfl⟩ | ⟨rfl, rfl⟩
          all_goals
            by_cases h1 : i = a
            · subst h1; simp
            · by_cases h2 : i = b
              · subst h2; simp
              · simp [h1, h2]
        have ET := Lib.hid eT; clear eT
        go_wp2_with fail
        go_region
        all_goals
          go_wp2_with fail
          go_ret
          first
            | (obtain ⟨r1, g1⟩ := RR.out.set kn false
               obtain ⟨r2, g2⟩ := r1.set on false
               have hO := r2.owns
               rw [ET.out kn on (Or.inl ⟨rfl, rfl⟩)] at hO
               exact ⟨rfl, hO, grown_seq (grown_seq (grown_seq G1.out g1) g2) ⟨rfl, rfl, rfl, Nat.le_refl _, fun _ _ _ => rfl⟩⟩)
            | (obtain ⟨r1, g1⟩ := RR.out.set on false
               obtain ⟨r2, g2⟩ := r1.set kn false
               have hO := r2.owns
               rw [ET.out on kn (Or.inr ⟨rfl, rfl⟩)] at hO
               exact ⟨rfl, hO, grown_seq (grown_seq (grown_seq G1.out g1) g2) ⟨rfl, rfl, rfl, Nat.le_refl _, fun _ _ _ => rfl⟩⟩)

set_option maxHeartbeats 1000000 in
theorem countWith_any (W T : Int) (a : Option Addr) (n cap : Nat) (xs : List Bool) (k way : Int) (w : World) (hn : n = xs.length) (hW0 : 1 ≤ W) (hW1 : W ≤ 6) (hT0 : 1 ≤ T) (hT1 : T ≤ 6) (hWT : (n : Int) = W * T) (ha : BoolsAt w a xs) :
    Calls Try.prog 54 #[.agg #[.int .i64 W, .int .i64 T, .slice a n cap], .int .i64 k, .int .i64 way] w fun e w' => e = .returned (.int .i64 (withN W T xs k way)) ∧ Below w.heap.size w w' := by
  have hp : 0 < n := by
    have h1 : 1 * 1 ≤ W * T := Int.mul_le_mul hW0 hT0 (by omega) (by omega)
    omega
  have HN := Lib.hid hn; clear hn
  have HWT := Lib.hid hWT; clear hWT
  have HA := Lib.hid ha; clear ha
  go_enter Try.func54, Try.ntmps54
  go_wp2_with fail
  refine (copyField_any _ _ _ _ _ xs _ HN.out (by omega) (by omega) (by omega) (by omega) HWT.out hp (HA.out.one _)).mono ?_; rintro e w1 ⟨g, rfl, ho1, hb1⟩
  have b1 := below_seq (below1 _ _) hb1
  have hgl := (World.ownsRow.lt ho1 g rfl)
  simp at hgl
  have O1 := Lib.hid (ho1.alloc (.cells #[.int .i64 W, .int .i64 T, .slice (some ⟨g, 0, none⟩) n n] 25)); clear ho1 hb1
  have pB := heap_new w1 (.cells #[.int .i64 W, .int .i64 T, .slice (some ⟨g, 0, none⟩) n n] 25)
  obtain ⟨wB, hwB⟩ : ∃ wB, wB = w1.alloc (.cells #[.int .i64 W, .int .i64 T, .slice (some ⟨g, 0, none⟩) n n] 25) := ⟨_, rfl⟩
  have bB : Below w.heap.size w wB := by rw [hwB]; exact below_seq b1 (below1 _ _)
  rw [← hwB] at pB O1
  obtain ⟨c0, c1, c2⟩ := cells3 pB
  go_wp2_with fail
  rw [← hwB]
  clear hwB
  refine (takeOut_any _ _ _ _ _ _ xs _ _ _ HN.out hW0 hW1 hT0 hT1 HWT.out O1.out).mono ?_; rintro e w2 ⟨rfl, ho2, g2⟩
  have p2 := heap_grown pB g2 (by intro h; have := Option.some.inj h; omega)
  have B2 : Below w.heap.size w w2 := below_grown bB g2 (Nat.le_refl _) (by intro j hj; have := Option.some.inj hj; omega)
  clear g2 c0 c1 c2
  obtain ⟨c0, c1, c2⟩ := cells3 p2
  cases hcan : canTake W T xs k way
  · go_wp2
    go_ret
    exact ⟨ret_int (by unfold withN; rw [hcan]; rfl), B2⟩
  · have e : takeB W T xs k way = lessB xs [k.toNat, (cellB W T xs.length k way).toNat] := by unfold takeB; rw [hcan]; rfl
    rw [e] at ho2
    have O2 := Lib.hid ho2; clear ho2
    have hres : withN W T xs k way = dpT W T (lessB xs [k.toNat, (cellB W T xs.length k way).toNat]) := by unfold withN; rw [hcan]; rfl
    have HR := Lib.hid hres; clear hres e
    go_wp2_with fail
    refine (tilingsIn_any _ _ _ _ _ (lessB xs [k.toNat, (cellB W T xs.length k way).toNat]) _ (by rw [lessB_len]; exact HN.out) hW0 hW1 hT0 hT1 HWT.out (OwnsB.at O2.out)).mono ?_; rintro e w3 ⟨rfl, hb3⟩
    go_wp2
    go_ret
    exact ⟨ret_int (by rw [HR.out]), below_seq B2 hb3⟩

/-- What the functions TilingsWith answer. -/
def withT (W T : Int) (xs : List Bool) (k way : Int) : Int := if rv W T xs then (withN W T xs k way : Int) else -1

set_option maxHeartbeats 1000000 in
theorem iTilingsWith_any (W T : Int) (a : Option Addr) (n cap : Nat) (xs : List Bool) (k way : Int) (w : World) (hn : n = xs.length) (hn' : n ≤ 1048576) (ha : BoolsAt w a xs) :
    Calls Try.prog 21 #[.agg #[.int .i64 W, .int .i64 T, .slice a n cap], .int .i64 k, .int .i64 way] w fun e w' => e = .returned (.int .i64 (withT W T xs k way)) ∧ Below w.heap.size w w' := by
  have HN := Lib.hid hn; clear hn
  have HA := Lib.hid ha; clear ha
  by_cases h : rv W T xs = true
  · obtain ⟨hW0, hW1, hT0, hT1, v5, _⟩ := rv_true h
    have HWT : Hid ((n : Int) = W * T) := by show _ = _; rw [HN.out]; exact v5
    clear v5
    have hres : withT W T xs k way = (withN W T xs k way : Int) := by unfold withT; rw [if_pos h]
    rw [hres]
    clear hres
    have H := Lib.hid h; clear h
    go_enter Try.func21, Try.ntmps21
    go_wp2_with fail
    refine (iRegionValid_any _ _ _ _ _ xs _ HN.out hn' (HA.out.one _)).mono ?_; rintro e w1 ⟨rfl, hb1⟩
    have p1 := heap_later (heap_new w _) hb1
    have b1 := below_seq (below1 _ _) hb1
    obtain ⟨c0, c1, c2⟩ := cells3 p1
    rw [H.out]
    go_wp2_with fail
    refine (countWith_any _ _ _ _ _ xs _ _ _ HN.out hW0 hW1 hT0 hT1 HWT.out (HA.out.below b1)).mono ?_; rintro e w2 ⟨rfl, hb2⟩
    go_wp2
    go_ret
    exact ⟨rfl, below_seq b1 hb2⟩
  · have hres : withT W T xs k way = -1 := by unfold withT; rw [if_neg h]
    rw [hres]
    rw [Bool.not_eq_true] at h
    clear hres
    go_enter Try.func21, Try.ntmps21
    go_wp2_with fail
    refine (iRegionValid_any _ _ _ _ _ xs _ HN.out hn' (HA.out.one _)).mono ?_; rintro e w1 ⟨rfl, hb1⟩
    rw [h]
    go_wp2
    go_ret
    exact ⟨rfl, below_seq (below1 _ _) hb1⟩

end Go.Proofs.Ythdojiaaoaiioaa
