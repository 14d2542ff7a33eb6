/- The contracts of spec.l7Bars and of both functions BarsMany. No statement is proved here. -/
import Derived.Test.YthlagmnnkckcnaaBarsB
namespace Go.Proofs.Ythlagmnnkckcnaa
open Go.RowKit
set_option linter.unusedVariables false
set_option maxRecDepth 100000
set_option linter.unusedSimpArgs false

/-- In how many ways bars cover a region. -/
def barsM (W T : Int) (xs : List Bool) (long : Int) : Int := if rv W T xs && barB long then (barsF W T long.toNat (cnt xs + 1) xs : Int) else -1

set_option maxHeartbeats 1000000 in
theorem iBarsMany_any (W T long : Int) (a : Option Addr) (n cap : Nat) (xs : List Bool) (w : World) (hn : n = xs.length) (hn' : n ≤ 1048576) (ha : BoolsAt w a xs) :
    Calls Try.prog 45 #[.agg #[.int .i64 W, .int .i64 T, .slice a n cap], .int .i64 long] w fun e w' => e = .returned (.int .i64 (barsM W T xs long)) ∧ Below w.heap.size w w' := by
  have HN := Lib.hid hn; clear hn
  have HA := Lib.hid ha; clear ha
  cases h : rv W T xs
  · have e : barsM W T xs long = -1 := by unfold barsM; rw [h]; rfl
    rw [e]
    have H := Lib.hid h; clear h e
    go_enter Try.func45, Try.ntmps45
    go_wp2_with fail
    refine (iRegionValid_any _ _ _ _ _ xs _ HN.out hn' (HA.out.one _)).mono ?_; rintro e w1 ⟨rfl, hb1⟩
    rw [H.out]
    go_wp2
    go_ret
    exact ⟨rfl, below_seq (below1 _ _) hb1⟩
  · obtain ⟨v1, v2, v3, v4, v5, v6⟩ := rv_true h
    have HV := Lib.hid v5; clear v5
    cases hb : barB long
    · have e : barsM W T xs long = -1 := by unfold barsM; rw [h, hb]; rfl
      rw [e]
      have H := Lib.hid h; clear h e
      have HB := Lib.hid hb; clear hb
      go_enter Try.func45, Try.ntmps45
      go_wp2_with fail
      refine (iRegionValid_any _ _ _ _ _ xs _ HN.out hn' (HA.out.one _)).mono ?_; rintro e w1 ⟨rfl, hb1⟩
      rw [H.out]
      go_wp2_with fail
      refine (barOk_any _ _).mono ?_; rintro e w2 ⟨rfl, rfl⟩
      rw [HB.out]
      go_wp2
      go_ret
      exact ⟨rfl, below_seq (below1 _ _) hb1⟩
    · have hr : 1 ≤ long ∧ long ≤ 4 := by simpa [barB] using hb
      obtain ⟨r1, r4⟩ := hr
      have e : barsM W T xs long = barsF W T long.toNat (cnt xs + 1) xs := by unfold barsM; rw [h, hb]; rfl
      rw [e]
      obtain ⟨N, rfl⟩ := Int.eq_ofNat_of_zero_le (show 0 ≤ long by omega)
      rw [Int.toNat_natCast]
      have H := Lib.hid h; clear h e
      have HB := Lib.hid hb; clear hb
      go_enter Try.func45, Try.ntmps45
      go_wp2_with fail
      refine (iRegionValid_any _ _ _ _ _ xs _ HN.out hn' (HA.out.one _)).mono ?_; rintro e w1 ⟨rfl, hb1⟩
      rw [H.out]
      have p1 := heap_later (heap_new w (.cells #[.int .i64 W, .int .i64 T, .slice a n cap] 25)) hb1
      have b1 := below_seq (below1 _ _) hb1
      clear hb1
      have l1 := heap_lt p1
      obtain ⟨c0, c1, c2⟩ := cells3 p1
      go_wp2_with fail
      refine (barOk_any _ _).mono ?_; rintro e w2 ⟨rfl, hw2⟩
      subst hw2
      rw [HB.out]
      go_wp2_with fail
      refine (barsIn_any W T N n v1 v2 v3 v4 (by rw [HN.out]; exact HV.out) (by omega) (by omega) (cnt xs + 1) xs HN.out v6 (Nat.lt_succ_self _) _ _ _ (HA.out.below b1)).mono ?_; rintro e w3 ⟨rfl, hb3⟩
      go_wp2
      go_ret
      exact ⟨rfl, below_seq b1 hb3⟩

/-- How long a list is. -/
def sliceLen : Value → Nat
  | .slice _ n _ => n
  | _ => 0
theorem own_nilB (w : World) {B : Nat} (hB : B ≤ w.heap.size) : OwnsI (w.alloc (.cells #[] 3 (0, 0))) B (.slice (some ⟨w.heap.size, 0, none⟩) 0 0) (castL []) :=
  World.ownsRow_made w #[] 0 hB (Nat.zero_le _) rfl
theorem lessB_new {xs : List Bool} {P : List Nat} {c : Nat} (hc : c < xs.length) (h : ∀ p ∈ P, p < c) : (lessB xs P).getD c false = xs.getD c false := by
  rw [lessB_get P hc]
  have : P.contains c = false := by rw [Bool.eq_false_iff]; intro h2; have := h c (List.contains_iff_mem.1 h2); omega
  rw [this]; simp

theorem barsJ_step {W T : Int} {long f : Nat} {xs : List Bool} {j : Nat} (h1 : 1 ≤ long) (hj : j < 2) : barsJ W T long f xs (j + 1) = barsJ W T long f xs j + if 1 < long ∨ j = 0 then barOne (barsF W T long f) xs (barL W T ((j : Int) + 1) xs long (xs.findIdx id) []) else 0 := by
  have : j = 0 ∨ j = 1 := by omega
  rcases this with rfl | rfl
  · rw [barsJ_one, barsJ_zero, if_pos (Or.inr rfl), Nat.zero_add]; rfl
  · by_cases h : long = 1
    · subst h
      rw [if_neg (by omega), Nat.add_zero]; exact barsJ_skip
    · rw [if_pos (Or.inl (by omega))]; exact barsJ_next h
theorem bar_up {W T way : Int} {k n : Nat} (hw : way = 1 ∨ way = 2) (hW : 1 ≤ W) (hWT : (n : Int) = W * T) (hk : k < n) : stepI W T k way = -1 ∨ (0 ≤ stepI W T k way ∧ stepI W T k way < n ∧ (k : Int) < stepI W T k way) := by
  rcases step_bd (W := W) (T := T) (k := (k : Int)) (way := way) hW (by omega) (by rw [← hWT]; omega) with h | ⟨h0, h1⟩
  · exact Or.inl h
  · right
    refine ⟨h0, by rw [hWT]; exact h1, ?_⟩
    rcases step_up hw hW h0 with ⟨_, h, _⟩ | ⟨_, h⟩ <;> omega

set_option maxHeartbeats 2000000 in
theorem l7Bars_any (W T : Int) (long n : Nat) (hW0 : 1 ≤ W) (hW1 : W ≤ 6) (hT0 : 1 ≤ T) (hT1 : T ≤ 6) (hWT : (n : Int) = W * T) (hl1 : 1 ≤ long) (hl : long ≤ 4) : ∀ (f : Nat) (xs : List Bool), n = xs.length → cnt xs ≤ 24 → cnt xs < f → ∀ (a : Option Addr) (cap : Nat) (w : World), BoolsAt w a xs →
    Calls Try.prog 70 #[.agg #[.int .i64 W, .int .i64 T, .slice a n cap], .int .i64 long] w fun e w' => e = .returned (.int .i64 (barsF W T long f xs)) ∧ Below w.heap.size w w' := by
  intro f
  induction f with
  | zero => intro xs _ _ h; exact absurd h (Nat.not_lt_zero _)
  | succ f ih =>
    intro xs hn h24 hf a cap w ha
    have IH := Lib.hid ih; clear ih
    have pb := (prod_bd (W := W) (T := T) (by omega) (by omega) (by omega) (by omega)).2
    have n4 : n ≤ 10000 := by omega
    have HN := Lib.hid hn; clear hn
    have HA := Lib.hid ha; clear ha
    have HWT := Lib.hid hWT; clear hWT
    obtain ⟨i0, hi, hz0, hz1, hz2⟩ := info_parts infoInt
    have pA := heap_new w (.cells #[.int .i64 W, .int .i64 T, .slice a n cap] 25)
    obtain ⟨c0, c1, c2⟩ := cells3 pA
    go_enter Try.func70, Try.ntmps70
    go_wp2_with fail
    clear c0 c1 c2
    go_loopw [5] (fun i wr => ∃ k : Nat, k ≤ n ∧ i = .int .i64 k ∧ (∀ j, j < k → xs.getD j false = false) ∧ wr.heap[w.heap.size]? = some (.cells #[.int .i64 W, .int .i64 T, .slice a n cap] 25 (0, 0)) ∧ Below w.heap.size w wr) (fun i _ => n - (intOf i).toNat)
    case atStart => exact ⟨0, Nat.zero_le _, rfl, fun j hj => absurd hj (Nat.not_lt_zero j), pA, below1 _ _⟩
    case round =>
      rename World => wo
      obtain ⟨k, hk, rfl, hno, pr, hbel⟩ := hrel
      have HNO := Lib.hid hno; clear hno
      have BEL := Lib.hid hbel; clear hbel
      obtain ⟨c0, c1, c2⟩ := cells3 pr
      have l1 := heap_lt pr
      by_cases hlt : k < n
      · obtain ⟨b, off, rfl, hc⟩ := (HA.out.below BEL.out) k (by rw [← HN.out]; exact hlt)
        have e1 : (k : Int) < n := by omega
        cases hx : xs.getD k false
        · rw [hx] at hc
          have HX := Lib.hid hx; clear hx
          go_wp2
          go_roundw
          case rel => exact ⟨k + 1, by omega, by go_num, fun j hj => (by rcases Nat.lt_or_ge j k with h | h; exact HNO.out j h; exact (by rw [show j = k by omega]; exact HX.out)), pr, BEL.out⟩
          case measure => simp [intOf]; omega
        · rw [hx] at hc
          have hfi : xs.findIdx id = k := findIdx_at (by rw [← HN.out]; exact hlt) hx HNO.out
          have hfl : xs.findIdx id < xs.length := by rw [hfi, ← HN.out]; exact hlt
          have hle := fun j => barsJ_le (W := W) (T := T) (f := f) hl1 hfl j
          have h2 := barsJ_two (W := W) (T := T) (long := long) (f := f) hfl
          have hp24 : 2 ^ cnt xs ≤ 2 ^ 24 := Nat.pow_le_pow_right (by decide) h24
          have hstep := fun j hj => barsJ_step (W := W) (T := T) (long := long) (f := f) (xs := xs) (j := j) hl1 hj
          rw [hfi] at hstep
          have HLE := Lib.hid hle; have H2 := Lib.hid h2; have HSTEP := Lib.hid hstep; have HP := Lib.hid hp24
          clear hle h2 hstep hp24 hfi hfl hx
          have kn : ¬ (k : Int) = n := by omega
          have kn2 : ((k : Int) == (n : Int)) = false := by rw [beq_eq_false_iff_ne]; exact kn
          go_wp2_with fail
          clear c0 c1 c2
          go_loopw [6, 7, 8, 9] (fun s i _ _ wr => ∃ j : Nat, j ≤ 2 ∧ i = .int .i64 ((j : Int) + 1) ∧ s = .int .i64 (barsJ W T long f xs j) ∧ wr.heap[w.heap.size]? = some (.cells #[.int .i64 W, .int .i64 T, .slice (some ⟨b, off, none⟩) n cap] 25 (0, 0)) ∧ Below w.heap.size w wr) (fun _ i _ _ _ => 3 - (intOf i).toNat)
          case atStart => exact ⟨0, Nat.zero_le _, rfl, by rw [barsJ_zero]; rfl, pr, BEL.out⟩
          case round =>
            clear BEL pr l1
            rename World => wr
            obtain ⟨j, hj, rfl, rfl, pr, hbel⟩ := hrel
            have BEL := Lib.hid hbel; clear hbel
            obtain ⟨c0, c1, c2⟩ := cells3 pr
            have l1 := heap_lt pr
            have hlej := HLE.out j
            have hp := HP.out
            obtain ⟨S, hS⟩ : ∃ S, S = barsJ W T long f xs j := ⟨_, rfl⟩
            rw [← hS] at hlej ⊢
            have hS24 : S ≤ 16777216 := by omega
            clear hlej hp
            have hj3 : j = 0 ∨ j = 1 ∨ j = 2 := by omega
            by_cases hj2 : j < 2
            · obtain ⟨wy, hwy⟩ : ∃ wy, wy = (j : Int) + 1 := ⟨_, rfl⟩
              have hwyb : wy = 1 ∨ wy = 2 := by omega
              have hwy2 : wy ≤ 2 := by omega
              have hst := HSTEP.out j hj2
              rw [← hS, ← hwy] at hst
              rw [← hwy]
              have HST := Lib.hid hst
              have HWY := Lib.hid hwy
              clear hst hwy hj3 hS
              go_wp2_with fail
              obtain ⟨wN, hwN⟩ : ∃ wN, wN = wr.alloc (.cells #[] 3 (0, 0)) := ⟨_, rfl⟩
              have pN : wN.heap[w.heap.size]? = some (.cells #[.int .i64 W, .int .i64 T, .slice (some ⟨b, off, none⟩) n cap] 25 (0, 0)) := by rw [hwN]; exact heap_later pr (below1 _ _)
              have bN : Below w.heap.size w wN := by rw [hwN]; exact below_seq BEL.out (below1 _ _)
              have oN : OwnsI wN (w.heap.size + 1) (.slice (some ⟨wr.heap.size, 0, none⟩) 0 0) (castL []) := by rw [hwN]; exact own_nilB wr (by omega)
              have ON := Lib.hid oN; clear oN
              rw [← hwN]
              clear hwN c0 c1 c2 pr BEL
              go_loopw [8, 9] (fun v cv w9 => ∃ (P : List Nat) (c' : Int), P.length ≤ long ∧ cv = .int .i64 c' ∧ OwnsI w9 (w.heap.size + 1) v (castL P) ∧ barL W T wy xs (long - P.length) c' P = barL W T wy xs long k [] ∧ (∀ p ∈ P, p < n) ∧ (c' = -1 ∨ 0 ≤ c' ∧ c' < n ∧ ∀ p ∈ P, (p : Int) < c') ∧ w9.heap[w.heap.size]? = some (.cells #[.int .i64 W, .int .i64 T, .slice (some ⟨b, off, none⟩) n cap] 25 (0, 0)) ∧ Below w.heap.size w w9) (fun v _ _ => long - sliceLen v)
              case atStart => exact ⟨[], k, Nat.zero_le _, rfl, ON.out, rfl, (fun p hp => by cases hp), Or.inr ⟨by omega, by omega, (fun p hp => by cases hp)⟩, pN, bN⟩
              case round =>
                clear ON pN bN
                rename World => wq
                obtain ⟨P, c', hPl, rfl, ho, heq, hpn, hcc, pr2, hbel⟩ := hrel
                have OQ := Lib.hid ho; clear ho
                have BQ := Lib.hid hbel; clear hbel
                have HPN := Lib.hid hpn; clear hpn
                obtain ⟨aP, cP, hvP⟩ := OQ.out.form2
                rw [castL_len] at hvP
                subst hvP
                obtain ⟨c0, c1, c2⟩ := cells3 pr2
                have l2 := heap_lt pr2
                by_cases hlen : P.length < long
                · have n1 : (P.length : Int) < long := by omega
                  have n2 : ((P.length : Int) == (long : Int)) = false := by rw [beq_eq_false_iff_ne]; omega
                  have n3 : ¬ (P.length : Int) = long := by omega
                  obtain ⟨m, hm⟩ : ∃ m, long - P.length = m + 1 := ⟨long - P.length - 1, by omega⟩
                  rw [hm] at heq
                  rcases hcc with rfl | ⟨h0, h1, hlt2⟩
                  · have hbad : barL W T wy xs long k [] = none := by rw [← heq]; unfold barL; rw [if_neg (by omega)]
                    have hsum := HST.out
                    rw [hbad] at hsum
                    have HSUM : Hid (barsJ W T long f xs (j + 1) = S) := by show _ = _; rw [hsum]; split <;> rfl
                    clear hbad hsum heq
                    go_wp2
                    go_roundw
                    case rel => exact ⟨j + 1, by omega, by rw [HWY.out]; go_num, by rw [HSUM.out], pr2, BQ.out⟩
                    case measure => simp [intOf]; omega
                  · obtain ⟨q, rfl⟩ := Int.eq_ofNat_of_zero_le h0
                    have hqn : q < n := by omega
                    have hnew : (lessB xs P).getD q false = xs.getD q false := lessB_new (by rw [← HN.out]; exact hqn) (fun p hp => by have := hlt2 p hp; omega)
                    obtain ⟨b9, o9, he9, hcq⟩ := (HA.out.below BQ.out) q (by rw [← HN.out]; exact hqn)
                    simp only [Option.some.injEq, Addr.mk.injEq, and_true] at he9
                    obtain ⟨rfl, rfl⟩ := he9
                    cases hx : xs.getD q false
                    · rw [hx] at hcq hnew
                      have hbad : barL W T wy xs long k [] = none := by
                        rw [← heq]; unfold barL; rw [if_neg (by rintro ⟨_, h⟩; rw [Int.toNat_natCast, hnew] at h; cases h)]
                      have hsum := HST.out
                      rw [hbad] at hsum
                      have HSUM : Hid (barsJ W T long f xs (j + 1) = S) := by show _ = _; rw [hsum]; split <;> rfl
                      clear hbad hsum heq hnew hx
                      go_wp2
                      go_roundw
                      case rel => exact ⟨j + 1, by omega, by rw [HWY.out]; go_num, by rw [HSUM.out], pr2, BQ.out⟩
                      case measure => simp [intOf]; omega
                    · rw [hx] at hcq hnew
                      have hnx : barL W T wy xs m (stepI W T q wy) (P ++ [q]) = barL W T wy xs long k [] := by
                        rw [← heq]; conv => rhs; unfold barL
                        rw [if_pos ⟨h0, by rw [Int.toNat_natCast]; exact hnew⟩, Int.toNat_natCast]
                      have hm2 : long - (P ++ [q]).length = m := by rw [List.length_append, List.length_singleton]; omega
                      rw [← hm2] at hnx
                      have HNX := Lib.hid hnx
                      have hup := bar_up (way := wy) (T := T) hwyb hW0 HWT.out hqn
                      obtain ⟨s, hs⟩ : ∃ s, s = stepI W T q wy := ⟨_, rfl⟩
                      rw [← hs] at HNX hup
                      have HS := Lib.hid hs
                      have hcs := castL_snoc P q
                      have HCS := Lib.hid hcs
                      have HUP : Hid (s = -1 ∨ 0 ≤ s ∧ s < n ∧ ∀ p ∈ P ++ [q], (p : Int) < s) := by
                        show _ ∨ _
                        rcases hup with h | ⟨h, h', h''⟩
                        · exact Or.inl h
                        · refine Or.inr ⟨h, h', fun p hp => ?_⟩
                          rcases List.mem_append.1 hp with h3 | h3
                          · have := hlt2 p h3; omega
                          · have := List.mem_singleton.1 h3; omega
                      have HPN2 : Hid (∀ p ∈ P ++ [q], p < n) := by
                        intro p hp
                        rcases List.mem_append.1 hp with h3 | h3
                        · exact HPN.out p h3
                        · have := List.mem_singleton.1 h3; omega
                      have hqWT : (q : Int) < W * T := by rw [← HWT.out]; exact h1
                      clear heq hnew hx hnx hm hm2 hup hs hcs hlt2
                      go_wp2_with (at_builtin; refine wpList_append_own _ rfl _ _ 27 rfl (w.heap.size + 1) 3 i0 (.int .i64 0) 1 8 Try.underlying27 hi hz0 hz1 hz2 rfl (by decide) _ P.length ((castL P).map (Value.int .i64)) rfl (World.ownsRow.alloc (OwnsI.row OQ.out (castL_len P)) _) ⟨wq.heap.size, 0, none⟩ 1 1 [.int .i64 q] rfl rfl (new_int _ _) (one_int _) (by unfold maxLen; omega) (by omega) (by simp; omega) ?_; intro v' w8 hown' hgrow _; have p8 := heap_grown (heap_later pr2 (below1 _ _)) hgrow (OQ.out.ownBlock (by omega)); have O8 := Lib.hid (OwnsI.ofRow (xs := castL (P ++ [q])) hown' (by rw [HCS.out]; simp) (by rw [castL_len]; simp)); have B8 := Lib.hid (below_grown (below_seq BQ.out (below1 _ _)) hgrow (Nat.le_refl _) (OQ.out.ownAt (by omega))); clear hown' hgrow; clear c0 c1 c2; obtain ⟨c0, c1, c2⟩ := cells3 p8; have l8 := heap_lt p8; obtain ⟨a8, cap8, hv8⟩ := O8.out.form2; rw [castL_len, List.length_append, List.length_singleton] at hv8; subst hv8)
                      refine (l2Step_any W T _ n cap q _ _ hW0 hW1 hT0 hT1 h0 hqWT).mono ?_; rintro e w9 ⟨rfl, hb9⟩
                      rw [← HS.out]
                      have p9 := heap_later p8 hb9
                      have B9 := Lib.hid (below_seq B8.out hb9)
                      have O9 := Lib.hid (O8.out.below hb9)
                      clear hb9
                      go_wp2
                      go_roundw
                      case rel => exact ⟨P ++ [q], s, by rw [List.length_append, List.length_singleton]; omega, rfl, O9.out, HNX.out, HPN2.out, HUP.out, p9, B9.out⟩
                      case measure => simp [sliceLen]; omega
                · obtain rfl : long = P.length := by omega
                  rw [Nat.sub_self] at heq
                  have hgood : barL W T wy xs P.length k [] = some P := by rw [← heq]; unfold barL; rfl
                  have n1 : ¬ (P.length : Int) < P.length := by omega
                  clear heq
                  by_cases hone : 1 < P.length
                  · have HBE : 1 < P.length ∨ j = 0 := Or.inl hone
                    have h1l : (1 : Int) < P.length := by omega
                    have hsum := HST.out
                    rw [hgood, if_pos HBE] at hsum
                    obtain ⟨V, hV⟩ : ∃ V, V = barsF W T P.length f (lessB xs P) := ⟨_, rfl⟩
                    have HSUM := Lib.hid (show barsJ W T P.length f xs (j + 1) = S + V by rw [hV]; exact hsum)
                    have hltc := barL_lt hl1 hgood
                    have hle2 := HLE.out (j + 1)
                    rw [HSUM.out] at hle2
                    have hp := HP.out
                    have hVb : S + V ≤ 16777216 := by omega
                    have h244 : cnt (lessB xs P) ≤ 24 := by omega
                    have hf4 : cnt (lessB xs P) < f := by omega
                    clear hsum hgood hltc hle2 hp HBE
                    go_wp2_with (first | (go_at_call 78; refine (l3Less_any W T _ n cap xs _ P.length _ P _ HN.out (by omega) (by omega) rfl (by omega) (fun q hq => HPN.out _ (by rw [List.getD_eq_getElem?_getD, List.getElem?_eq_getElem hq, Option.getD_some]; exact List.getElem_mem hq)) (HA.out.below BQ.out) (OwnsI.at OQ.out)).mono ?_; rintro e w5 ⟨g, cg, rfl, ho5, hb5⟩; have p5 := heap_later pr2 hb5; have B5 := Lib.hid (below_seq BQ.out hb5); have A5 := Lib.hid (OwnsB.at ho5); clear ho5 hb5 c0 c1 c2) | (go_at_call 70; refine (IH.out (lessB xs P) (by rw [lessB_len]; exact HN.out) h244 hf4 _ _ _ A5.out).mono ?_; rintro e w6 ⟨rfl, hb6⟩; rw [← hV]; have p6 := heap_later p5 hb6; have B6 := Lib.hid (below_seq B5.out hb6); clear hb6 hV))
                    all_goals
                      go_roundw
                      case rel => exact ⟨j + 1, by omega, by rw [HWY.out]; go_num, by rw [HSUM.out]; go_num, p6, B6.out⟩
                      case measure => simp [intOf]; omega
                  · have h1l : ¬ (1 : Int) < P.length := by omega
                    by_cases hj0 : j = 0
                    · have HBE : 1 < P.length ∨ j = 0 := Or.inr hj0
                      have hwy1 : (wy == 1) = true := by rw [HWY.out, hj0]; rfl
                      have hsum := HST.out
                      rw [hgood, if_pos HBE] at hsum
                      obtain ⟨V, hV⟩ : ∃ V, V = barsF W T P.length f (lessB xs P) := ⟨_, rfl⟩
                      have HSUM := Lib.hid (show barsJ W T P.length f xs (j + 1) = S + V by rw [hV]; exact hsum)
                      have hltc := barL_lt hl1 hgood
                      have hle2 := HLE.out (j + 1)
                      rw [HSUM.out] at hle2
                      have hp := HP.out
                      have hVb : S + V ≤ 16777216 := by omega
                      have h244 : cnt (lessB xs P) ≤ 24 := by omega
                      have hf4 : cnt (lessB xs P) < f := by omega
                      clear hsum hgood hltc hle2 hp HBE
                      go_wp2_with (first | (go_at_call 78; refine (l3Less_any W T _ n cap xs _ P.length _ P _ HN.out (by omega) (by omega) rfl (by omega) (fun q hq => HPN.out _ (by rw [List.getD_eq_getElem?_getD, List.getElem?_eq_getElem hq, Option.getD_some]; exact List.getElem_mem hq)) (HA.out.below BQ.out) (OwnsI.at OQ.out)).mono ?_; rintro e w5 ⟨g, cg, rfl, ho5, hb5⟩; have p5 := heap_later pr2 hb5; have B5 := Lib.hid (below_seq BQ.out hb5); have A5 := Lib.hid (OwnsB.at ho5); clear ho5 hb5 c0 c1 c2) | (go_at_call 70; refine (IH.out (lessB xs P) (by rw [lessB_len]; exact HN.out) h244 hf4 _ _ _ A5.out).mono ?_; rintro e w6 ⟨rfl, hb6⟩; rw [← hV]; have p6 := heap_later p5 hb6; have B6 := Lib.hid (below_seq B5.out hb6); clear hb6 hV))
                      all_goals
                        go_roundw
                        case rel => exact ⟨j + 1, by omega, by rw [HWY.out]; go_num, by rw [HSUM.out]; go_num, p6, B6.out⟩
                        case measure => simp [intOf]; omega
                    · have hwy1 : (wy == 1) = false := by rw [beq_eq_false_iff_ne, HWY.out]; omega
                      have hsum := HST.out
                      rw [if_neg (by rintro (h | h); exact hone h; exact hj0 h)] at hsum
                      have HSUM := Lib.hid (show barsJ W T P.length f xs (j + 1) = S from hsum)
                      clear hsum hgood
                      go_wp2
                      all_goals
                        go_roundw
                        case rel => exact ⟨j + 1, by omega, by rw [HWY.out]; go_num, by rw [HSUM.out], pr2, BQ.out⟩
                        case measure => simp [intOf]; omega
            · obtain rfl : j = 2 := by omega
              clear hj3 hj2
              go_wp2
              go_ret
              exact ⟨ret_int (by rw [hS, H2.out]), BEL.out⟩
      · obtain rfl : k = n := by omega
        have hz : xs.findIdx id = xs.length := findIdx_end (by rw [← HN.out]; exact HNO.out)
        have hb := barsF_zero (W := W) (T := T) (long := long) (f := f + 1) hz
        have HBZ := Lib.hid hb; clear hb hz
        go_wp2
        go_ret
        exact ⟨ret_int (by rw [HBZ.out]; rfl), BEL.out⟩

set_option maxHeartbeats 1000000 in
theorem sBarsMany_any (W T long : Int) (a : Option Addr) (n cap : Nat) (xs : List Bool) (w : World) (hn : n = xs.length) (hn' : n ≤ 1048576) (ha : BoolsAt w a xs) :
    Calls Try.prog 44 #[.agg #[.int .i64 W, .int .i64 T, .slice a n cap], .int .i64 long] w fun e w' => e = .returned (.int .i64 (barsM W T xs long)) ∧ Below w.heap.size w w' := by
  have HN := Lib.hid hn; clear hn
  have HA := Lib.hid ha; clear ha
  cases h : rv W T xs
  · have e : barsM W T xs long = -1 := by unfold barsM; rw [h]; rfl
    rw [e]
    have H := Lib.hid h; clear h e
    go_enter Try.func44, Try.ntmps44
    go_wp2_with fail
    refine (sRegionValid_any _ _ _ _ _ xs _ HN.out hn' (HA.out.one _)).mono ?_; rintro e w1 ⟨rfl, hb1⟩
    rw [H.out]
    go_wp2
    go_ret
    exact ⟨rfl, below_seq (below1 _ _) hb1⟩
  · obtain ⟨v1, v2, v3, v4, v5, v6⟩ := rv_true h
    have HV := Lib.hid v5; clear v5
    cases hb : barB long
    · have e : barsM W T xs long = -1 := by unfold barsM; rw [h, hb]; rfl
      rw [e]
      have H := Lib.hid h; clear h e
      have hb' : inB long 1 4 = false := by rw [← hb]; simp [inB, barB]
      have HB := Lib.hid hb'; clear hb hb'
      go_enter Try.func44, Try.ntmps44
      go_wp2_with fail
      refine (sRegionValid_any _ _ _ _ _ xs _ HN.out hn' (HA.out.one _)).mono ?_; rintro e w1 ⟨rfl, hb1⟩
      rw [H.out]
      go_wp2_with fail
      refine (l1In_same7 _ _ _ _ HB.out).mono ?_; rintro e w2 ⟨rfl, rfl⟩
      go_wp2
      go_ret
      exact ⟨rfl, below_seq (below1 _ _) hb1⟩
    · have hr : 1 ≤ long ∧ long ≤ 4 := by simpa [barB] using hb
      obtain ⟨r1, r4⟩ := hr
      have e : barsM W T xs long = barsF W T long.toNat (cnt xs + 1) xs := by unfold barsM; rw [h, hb]; rfl
      rw [e]
      obtain ⟨N, rfl⟩ := Int.eq_ofNat_of_zero_le (show 0 ≤ long by omega)
      rw [Int.toNat_natCast]
      have H := Lib.hid h; clear h e
      have HB := Lib.hid (show inB (N : Int) 1 4 = true by rw [← hb]; simp [inB, barB])
      go_enter Try.func44, Try.ntmps44
      go_wp2_with fail
      refine (sRegionValid_any _ _ _ _ _ xs _ HN.out hn' (HA.out.one _)).mono ?_; rintro e w1 ⟨rfl, hb1⟩
      rw [H.out]
      have p1 := heap_later (heap_new w (.cells #[.int .i64 W, .int .i64 T, .slice a n cap] 25)) hb1
      have b1 := below_seq (below1 _ _) hb1
      clear hb1
      have l1 := heap_lt p1
      obtain ⟨c0, c1, c2⟩ := cells3 p1
      go_wp2_with fail
      refine (l1In_same7 _ _ _ _ HB.out).mono ?_; rintro e w2 ⟨rfl, rfl⟩
      go_wp2_with fail
      refine (l7Bars_any W T N n v1 v2 v3 v4 (by rw [HN.out]; exact HV.out) (by omega) (by omega) (cnt xs + 1) xs HN.out v6 (Nat.lt_succ_self _) _ _ _ (HA.out.below b1)).mono ?_; rintro e w3 ⟨rfl, hb3⟩
      go_wp2
      go_ret
      exact ⟨rfl, below_seq b1 hb3⟩

end Go.Proofs.Ythlagmnnkckcnaa
