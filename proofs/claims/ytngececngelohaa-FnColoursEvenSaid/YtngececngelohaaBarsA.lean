/- Bars: plain facts, and the contracts of slices.Index at a list of truths, impl.withoutBar and impl.barsIn. No statement is proved here. -/
import Derived.Test.YtngececngelohaaLess
import Derived.Test.YtngececngelohaaColr
namespace Go.Proofs.Ytngececngelohaa
open Go.RowKit
set_option linter.unusedVariables false
set_option maxRecDepth 100000
set_option linter.unusedSimpArgs false

theorem countP_lt7 {α : Type} {p q : α → Bool} : ∀ {l : List α}, (∀ x, q x = true → p x = true) → (∃ a, a ∈ l ∧ p a = true ∧ q a = false) → l.countP q < l.countP p
  | [], _, ⟨a, h, _⟩ => by cases h
  | x :: r, hqp, ⟨a, ha, h1, h2⟩ => by
    have hle : r.countP q ≤ r.countP p := List.countP_mono_left (fun y _ h => hqp y h)
    rw [List.countP_cons, List.countP_cons]
    rcases List.mem_cons.1 ha with rfl | ha
    · rw [h1, h2]; simp; omega
    · have := countP_lt7 (l := r) hqp ⟨a, ha, h1, h2⟩
      cases hq : q x
      · rw [if_neg (by simp)]
        exact Nat.lt_of_lt_of_le this (Nat.le_add_right _ _)
      · rw [hqp x hq]; simp; exact this
theorem cnt_rangeB (xs : List Bool) : cnt xs = (List.range xs.length).countP fun i => xs.getD i false := by
  unfold cnt
  have e : xs = (List.range xs.length).map fun i => xs.getD i false := by
    apply List.ext_getElem
    · simp
    · intro i h1 h2; simp [h1]
  conv => lhs; rw [e]
  rw [List.countP_map]; rfl
theorem lessB_lt {xs : List Bool} {L : List Nat} {c : Nat} (hc : c ∈ L) (hx : xs.getD c false = true) : cnt (lessB xs L) < cnt xs := by
  have hcl : c < xs.length := by
    apply Classical.byContradiction; intro h
    rw [List.getD_eq_getElem?_getD, List.getElem?_eq_none (by omega)] at hx; cases hx
  rw [cnt_rangeB, cnt_rangeB, lessB_len]
  refine countP_lt7 (p := fun i => xs.getD i false) (q := fun i => (lessB xs L).getD i false) ?_ ⟨c, List.mem_range.2 hcl, hx, ?_⟩
  · intro i hi
    by_cases h : i < xs.length
    · rw [lessB_get L h, Bool.and_eq_true] at hi; exact hi.1
    · rw [List.getD_eq_getElem?_getD, List.getElem?_eq_none (by rw [lessB_len]; omega)] at hi; cases hi
  · show (lessB xs L).getD c false = false
    rw [lessB_get L hcl]; simp [hc]
theorem lessB_nil (xs : List Bool) : lessB xs [] = xs := by
  unfold lessB lessF
  simp only [List.contains_nil, Bool.not_false, Bool.and_true]
  exact tab_of xs
theorem lessB_snoc (xs : List Bool) (P : List Nat) (c : Nat) : lessB xs (P ++ [c]) = tab xs.length fun i => if i = c then false else (lessB xs P).getD i false := by
  unfold lessB
  apply tab_congr
  intro i hi
  rw [tab_getD _ hi]
  unfold lessF
  by_cases h : i = c
  · subst h; simp
  · rw [if_neg h]; simp [h]

/-- The cells of a bar of m more cells from a cell on, behind those taken already; none if one of them is not there. -/
def barL (W T way : Int) (xs : List Bool) : Nat → Int → List Nat → Option (List Nat)
  | 0, _, P => some P
  | m + 1, c, P => if 0 ≤ c ∧ (lessB xs P).getD c.toNat false = true then barL W T way xs m (stepI W T c way) (P ++ [c.toNat]) else none
def barOne (F : List Bool → Nat) (xs : List Bool) : Option (List Nat) → Nat
  | some P => F (lessB xs P)
  | none => 0
/-- In how many ways bars cover all cells. -/
def barsF (W T : Int) (long : Nat) : Nat → List Bool → Nat
  | 0, _ => 1
  | f + 1, xs => if xs.findIdx id < xs.length then
      barOne (barsF W T long f) xs (barL W T 1 xs long (xs.findIdx id) []) + (if long = 1 then 0 else barOne (barsF W T long f) xs (barL W T 2 xs long (xs.findIdx id) []))
    else 1
theorem barL_pre {W T way : Int} {xs : List Bool} : ∀ (m : Nat) (c : Int) (P Q : List Nat), barL W T way xs m c P = some Q → ∃ R, Q = P ++ R ∧ (0 < m → 0 ≤ c ∧ (lessB xs P).getD c.toNat false = true ∧ c.toNat ∈ Q)
  | 0, c, P, Q, h => by unfold barL at h; cases h; exact ⟨[], by simp, fun h => absurd h (by omega)⟩
  | m + 1, c, P, Q, h => by
    unfold barL at h
    split at h
    · rename_i hc
      obtain ⟨R, rfl, _⟩ := barL_pre m _ _ _ h
      exact ⟨c.toNat :: R, by simp, fun _ => ⟨hc.1, hc.2, by simp⟩⟩
    · cases h
theorem barL_lt {W T way : Int} {xs : List Bool} {long : Nat} {c : Int} {P : List Nat} (h1 : 1 ≤ long) (h : barL W T way xs long c [] = some P) : cnt (lessB xs P) < cnt xs := by
  obtain ⟨R, _, hr⟩ := barL_pre long c [] P h
  obtain ⟨h0, hx, hm⟩ := hr (by omega)
  rw [lessB_nil] at hx
  exact lessB_lt hm hx
theorem barsF_le {W T : Int} {long : Nat} (h1 : 1 ≤ long) : ∀ (f : Nat) (xs : List Bool), barsF W T long f xs ≤ 2 ^ cnt xs
  | 0, xs => by unfold barsF; exact Nat.one_le_two_pow
  | f + 1, xs => by
    have hm : ∀ way : Int, barOne (barsF W T long f) xs (barL W T way xs long (xs.findIdx id) []) * 2 ≤ 2 ^ cnt xs := by
      intro way
      cases h : barL W T way xs long (xs.findIdx id) [] with
      | none => simp [barOne]
      | some P =>
        have h2 := barL_lt h1 h
        have h3 := barsF_le (W := W) (T := T) h1 f (lessB xs P)
        have h4 : 2 ^ (cnt (lessB xs P) + 1) ≤ 2 ^ cnt xs := Nat.pow_le_pow_right (by decide) h2
        rw [Nat.pow_succ] at h4
        show barsF W T long f (lessB xs P) * 2 ≤ _
        omega
    have a := hm 1
    have b := hm 2
    unfold barsF
    by_cases h : xs.findIdx id < xs.length
    · rw [if_pos h]
      by_cases hl : long = 1
      · rw [if_pos hl]; omega
      · rw [if_neg hl]; omega
    · rw [if_neg h]; exact Nat.one_le_two_pow
theorem findIdx_true {xs : List Bool} (h : xs.findIdx id < xs.length) : xs.getD (xs.findIdx id) false = true := by
  have := List.findIdx_getElem (w := h)
  simpa [List.getD, h] using this
theorem findIdx_none {xs : List Bool} {k : Nat} (h : k < xs.findIdx id) : xs.getD k false = false := by
  have := List.not_of_lt_findIdx h
  have hl : k < xs.length := Nat.lt_of_lt_of_le h List.findIdx_le_length
  simpa [List.getD, hl] using this
theorem findIdx_at {xs : List Bool} {k : Nat} (hk : k < xs.length) (hx : xs.getD k false = true) (h : ∀ j, j < k → xs.getD j false = false) : xs.findIdx id = k := by
  rcases Nat.lt_trichotomy (xs.findIdx id) k with h1 | h1 | h1
  · have h2 := findIdx_true (xs := xs) (by omega)
    rw [h _ h1] at h2; cases h2
  · exact h1
  · rw [findIdx_none h1] at hx; cases hx
theorem findIdx_end {xs : List Bool} (h : ∀ j, j < xs.length → xs.getD j false = false) : xs.findIdx id = xs.length := by
  have h1 : xs.findIdx id ≤ xs.length := List.findIdx_le_length
  rcases Nat.lt_or_ge (xs.findIdx id) xs.length with h2 | h2
  · have h3 := findIdx_true h2
    rw [h _ h2] at h3; cases h3
  · omega
theorem barsF_zero {W T : Int} {long f : Nat} {xs : List Bool} (h : xs.findIdx id = xs.length) : barsF W T long f xs = 1 := by
  cases f with
  | zero => rfl
  | succ f => unfold barsF; rw [if_neg (by omega)]

def idxI (xs : List Bool) : Int := if xs.findIdx id < xs.length then (xs.findIdx id : Int) else -1
theorem indexB_any (a : Option Addr) (n cap : Nat) (xs : List Bool) (w : World) (hn : n = xs.length) (hn' : n ≤ 1048576) (ha : BoolsAt w a xs) :
    Calls Try.prog 39 #[.slice a n cap, .bool true] w fun e w' => e = .returned (.int .i64 (idxI xs)) ∧ w' = w := by
  have HN := Lib.hid hn; clear hn
  have HA := Lib.hid ha; clear ha
  go_enter Try.func39, Try.ntmps39
  go_wp2
  go_loop [5, 8] (fun _ i => ∃ k : Nat, k ≤ n ∧ i = .int .i64 k ∧ ∀ j, j < k → xs.getD j false = false) (fun _ i => n - (intOf i).toNat)
  case atStart => exact ⟨0, Nat.zero_le _, rfl, fun j hj => absurd hj (Nat.not_lt_zero j)⟩
  case round =>
    obtain ⟨k, hk, rfl, hno⟩ := hrel
    have HNO := Lib.hid hno; clear hno
    by_cases hlt : k < n
    · obtain ⟨b, off, rfl, hc⟩ := HA.out k (by rw [← HN.out]; exact hlt)
      have e1 : (k : Int) < n := by omega
      cases hx : xs.getD k false
      · rw [hx] at hc
        have HX := Lib.hid hx; clear hx
        go_wp2
        go_round
        case rel => exact ⟨k + 1, by omega, by go_num, fun j hj => by rcases Nat.lt_or_ge j k with h | h; exact HNO.out j h; exact (by rw [show j = k by omega]; exact HX.out)⟩
        case measure => simp [intOf]; omega
      · rw [hx] at hc
        have hi := findIdx_at (by rw [← HN.out]; exact hlt) hx HNO.out
        have hid : idxI xs = k := by unfold idxI; rw [hi, if_pos (by rw [← HN.out]; exact hlt)]
        have HID := Lib.hid hid; clear hid hi hx
        go_wp2
        go_ret
        exact ⟨ret_int HID.out.symm, rfl⟩
    · obtain rfl : k = n := by omega
      have hi := findIdx_end (xs := xs) (by rw [← HN.out]; exact HNO.out)
      have hid : idxI xs = -1 := by unfold idxI; rw [hi, if_neg (by omega)]
      have HID := Lib.hid hid; clear hid hi
      go_wp2
      go_ret
      exact ⟨ret_int HID.out.symm, rfl⟩

set_option maxHeartbeats 2000000 in
theorem withoutBar_any (W T way : Int) (long c : Nat) (a : Option Addr) (n cap : Nat) (xs : List Bool) (w : World) (hn : n = xs.length) (hW0 : 1 ≤ W) (hW1 : W ≤ 6) (hT0 : 1 ≤ T) (hT1 : T ≤ 6) (hWT : (n : Int) = W * T) (hc : c < n) (hl : long ≤ 4) (hway : 1 ≤ way ∧ way ≤ 4) (ha : BoolsAt w a xs) :
    Calls Try.prog 40 #[.agg #[.int .i64 W, .int .i64 T, .slice a n cap], .int .i64 c, .int .i64 way, .int .i64 long] w fun e w' => Below w.heap.size w w' ∧
      ((barL W T way xs long c [] = none ∧ e = .returned (.tuple #[.agg #[.int .i64 0, .int .i64 0, .slice none 0 0], .bool false])) ∨
      ∃ P g, barL W T way xs long c [] = some P ∧ e = .returned (.tuple #[.agg #[.int .i64 W, .int .i64 T, .slice (some ⟨g, 0, none⟩) n n], .bool true]) ∧ OwnsB w' w.heap.size (.slice (some ⟨g, 0, none⟩) n n) (lessB xs P)) := by
  have HN := Lib.hid hn; clear hn
  have HA := Lib.hid ha; clear ha
  have pb := (prod_bd (W := W) (T := T) (by omega) (by omega) (by omega) (by omega)).2
  have n4 : n ≤ 10000 := by omega
  have HWT := Lib.hid hWT; clear hWT
  have hpos : 0 < n := by omega
  obtain ⟨wA, hwA⟩ : ∃ wA, wA = (w.alloc (.cells #[.int .i64 W, .int .i64 T, .slice a n cap] 30)).alloc (.cells #[.int .i64 0, .int .i64 0, .slice none 0 0] 30) := ⟨_, rfl⟩
  have pA : wA.heap[w.heap.size]? = some (.cells #[.int .i64 W, .int .i64 T, .slice a n cap] 30 (0, 0)) := by rw [hwA]; exact heap_later (heap_new w _) (below1 _ _)
  have qA : wA.heap[w.heap.size + 1]? = some (.cells #[.int .i64 0, .int .i64 0, .slice none 0 0] 30 (0, 0)) := by rw [hwA]; exact heap_new2 w _ _
  have bA : Below w.heap.size w wA := by rw [hwA]; exact below2 _ _ _
  have zA : wA.heap.size = w.heap.size + 2 := by rw [hwA]; simp
  obtain ⟨c0, c1, c2⟩ := cells3 pA
  go_enter Try.func40, Try.ntmps40
  go_wp2_with fail
  rw [← hwA]
  clear hwA
  go_wp2_with fail
  refine (copyField_any W T a n cap xs _ HN.out (by omega) (by omega) (by omega) (by omega) HWT.out hpos (HA.out.below bA)).mono ?_; rintro e w2 ⟨g, rfl, ho, hb2⟩
  have hg := World.ownsRow.lt ho g rfl
  obtain ⟨wB, hwB⟩ : ∃ wB, wB = w2.alloc (.cells #[.int .i64 W, .int .i64 T, .slice (some ⟨g, 0, none⟩) n n] 30) := ⟨_, rfl⟩
  have pB : wB.heap[w2.heap.size]? = some (.cells #[.int .i64 W, .int .i64 T, .slice (some ⟨g, 0, none⟩) n n] 30 (0, 0)) := by rw [hwB]; exact heap_new _ _
  have qB : wB.heap[w.heap.size + 1]? = some (.cells #[.int .i64 0, .int .i64 0, .slice none 0 0] 30 (0, 0)) := by rw [hwB]; exact heap_later (heap_later qA hb2) (below1 _ _)
  have bB : Below w.heap.size w wB := by rw [hwB]; exact below_seq (below_seq bA hb2) (below1 _ _)
  have oB : OwnsB wB (w.heap.size + 2) (.slice (some ⟨g, 0, none⟩) n n) (lessB xs []) := by rw [hwB, lessB_nil]; exact (ho.alloc _).lower (by omega)
  have z2 : wA.heap.size ≤ w2.heap.size := hb2.size
  clear c0 c1 c2 pA qA bA ho hb2
  have OB := Lib.hid oB; clear oB
  go_wp2_with fail
  rw [← hwB]
  clear hwB
  go_loopw [1, 14] (fun cv i wr => ∃ (j : Nat) (c' : Int) (P : List Nat), j ≤ long ∧ i = .int .i64 j ∧ cv = .int .i64 c' ∧ barL W T way xs (long - j) c' P = barL W T way xs long c [] ∧ (c' = -1 ∨ 0 ≤ c' ∧ c' < n) ∧ OwnsB wr (w.heap.size + 2) (.slice (some ⟨g, 0, none⟩) n n) (lessB xs P) ∧ wr.heap[w2.heap.size]? = some (.cells #[.int .i64 W, .int .i64 T, .slice (some ⟨g, 0, none⟩) n n] 30 (0, 0)) ∧ wr.heap[w.heap.size + 1]? = some (.cells #[.int .i64 0, .int .i64 0, .slice none 0 0] 30 (0, 0)) ∧ Below w.heap.size w wr) (fun _ i _ => long - (intOf i).toNat)
  case atStart => exact ⟨0, c, [], Nat.zero_le _, rfl, rfl, rfl, Or.inr ⟨by omega, by omega⟩, OB.out, pB, qB, bB⟩
  case round =>
    clear OB pB qB bB
    rename World => wr
    obtain ⟨j, c', P, hj, rfl, rfl, heq, hcc, ho, pr, qr, hbel⟩ := hrel
    have HO := Lib.hid ho; clear ho
    have BEL := Lib.hid hbel; clear hbel
    obtain ⟨d0, d1, d2⟩ := cells3 pr
    obtain ⟨e0, e1, e2⟩ := cells3 qr
    have f0 := free3 qr 0
    have f1 := free3 qr 1
    have f2 := free3 qr 2
    have l1 := heap_lt pr
    by_cases hlt : j < long
    · have j1 : (j : Int) < long := by omega
      obtain ⟨m, hm⟩ : ∃ m, long - j = m + 1 := ⟨long - j - 1, by omega⟩
      have hm2 : long - (j + 1) = m := by omega
      rw [hm] at heq
      rcases hcc with rfl | ⟨h0, h1⟩
      · have hbad : barL W T way xs long c [] = none := by rw [← heq]; unfold barL; rw [if_neg (by omega)]
        have HBAD := Lib.hid hbad; clear hbad heq
        go_wp2
        refine bodyPost_ret (v := .tuple #[.agg #[.int .i64 0, .int .i64 0, .slice none 0 0], .bool false]) (by simp [results, Try.results40, go_sem, e0, e1, e2]) rfl ⟨?_, Or.inl ⟨HBAD.out, rfl⟩⟩
        exact below_set3 BEL.out (by omega) _ _ _
      · obtain ⟨k, rfl⟩ := Int.eq_ofNat_of_zero_le h0
        have hkn : k < n := by omega
        have hrow := RowB.of HO.out (by rw [lessB_len, ← HN.out])
        have hcell := hrow.cell hkn
        have hfree := hrow.free k
        cases hx : (lessB xs P).getD k false
        · rw [hx] at hcell
          have hbad : barL W T way xs long c [] = none := by
            rw [← heq]; unfold barL; rw [if_neg (by rintro ⟨_, h⟩; rw [Int.toNat_natCast, hx] at h; cases h)]
          have HBAD := Lib.hid hbad; clear hbad heq hx
          have HR := Lib.hid hrow; clear hrow
          go_wp2
          refine bodyPost_ret (v := .tuple #[.agg #[.int .i64 0, .int .i64 0, .slice none 0 0], .bool false]) (by simp [results, Try.results40, go_sem, e0, e1, e2]) rfl ⟨?_, Or.inl ⟨HBAD.out, rfl⟩⟩
          exact below_set3 BEL.out (by omega) _ _ _
        · rw [hx] at hcell
          have hnx : barL W T way xs m (stepI W T k way) (P ++ [k]) = barL W T way xs long c [] := by
            rw [← heq]; conv => rhs; unfold barL
            rw [if_pos ⟨h0, by rw [Int.toNat_natCast]; exact hx⟩, Int.toNat_natCast]
          have HNX := Lib.hid hnx; clear hnx heq hx
          have hset := hrow.set k false
          have hso := hset.1.owns
          rw [show n = xs.length from HN.out] at hso
          rw [← lessB_snoc, ← HN.out] at hso
          have HSO := Lib.hid hso; clear hso
          have HSG := Lib.hid hset.2; clear hset
          have HR := Lib.hid hrow; clear hrow
          have hsb := step_bd (W := W) (T := T) (k := (k : Int)) (way := way) hW0 h0 (by rw [← HWT.out]; exact h1)
          rw [← HWT.out] at hsb
          have hcb : cellB W T n k way = stepI W T k way := by unfold cellB; rw [if_pos ⟨h0, h1⟩]
          obtain ⟨s, hs⟩ : ∃ s, s = stepI W T k way := ⟨_, rfl⟩
          rw [← hs] at HNX hsb hcb
          have HCB := Lib.hid hcb; clear hcb hs
          have hgne : w2.heap.size ≠ g := by omega
          have hgne2 : ¬ g = w2.heap.size := by omega
          have hgne3 : w.heap.size + 1 ≠ g := by omega
          have hgne4 : ¬ g = w.heap.size + 1 := by omega
          have P3 := heap_set_other pr (p := ⟨g, k, none⟩) hgne (.bool false)
          have Q3 := heap_set_other qr (p := ⟨g, k, none⟩) hgne3 (.bool false)
          have B3 := Lib.hid (BEL.out.setCell (p := ⟨g, k, none⟩) (by simp; omega) (.bool false))
          obtain ⟨w3, hw3⟩ : ∃ w3, w3 = wr.setCell ⟨g, k, none⟩ (.bool false) := ⟨_, rfl⟩
          rw [← hw3] at P3 Q3 B3 HSO
          go_wp2_with fail
          rw [← hw3]
          clear d0 d1 d2 e0 e1 e2 f0 f1 f2 pr qr HSG hw3
          obtain ⟨d0, d1, d2⟩ := cells3 P3
          have l3 := heap_lt P3
          go_wp2_with fail
          refine (cellBeside_any W T _ n n k way _ hW0 hW1 hT0 hT1 HWT.out).mono ?_; rintro e w4 ⟨rfl, hb4⟩
          rw [HCB.out]
          have P4 := heap_later P3 hb4
          have Q4 := heap_later Q3 hb4
          have B4 := Lib.hid (below_seq B3.out hb4)
          have O4 := Lib.hid (HSO.out.below hb4)
          clear hb4
          go_wp2
          go_roundw
          case rel => exact ⟨j + 1, s, P ++ [k], by omega, by go_num, rfl, by rw [hm2]; exact HNX.out, hsb, O4.out, P4, Q4, B4.out⟩
          case measure => simp [intOf]; omega
    · obtain rfl : j = long := by omega
      rw [Nat.sub_self] at heq
      have hgood : barL W T way xs j c [] = some P := by rw [← heq]; unfold barL; rfl
      have HG := Lib.hid hgood; clear hgood heq
      go_wp2
      refine bodyPost_ret (v := .tuple #[.agg #[.int .i64 W, .int .i64 T, .slice (some ⟨g, 0, none⟩) n n], .bool true]) (by simp [results, Try.results40, go_sem, e0, e1, e2]) rfl ⟨?_, Or.inr ⟨P, g, HG.out, rfl, ?_⟩⟩
      · exact below_set3 BEL.out (by omega) _ _ _
      · exact (HO.out.set3 (by omega) _ _ _).lower (by omega)


end Go.Proofs.Ytngececngelohaa
