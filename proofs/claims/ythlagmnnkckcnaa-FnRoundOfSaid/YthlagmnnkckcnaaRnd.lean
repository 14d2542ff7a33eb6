/- The way round a box: plain facts, and the contracts of impl.roundBy and of both functions RoundOf. No statement is proved here. -/
import Derived.Test.YthlagmnnkckcnaaValid
import Derived.Test.YthlagmnnkckcnaaInts
import Derived.Test.YthlagmnnkckcnaaTill
import Derived.Deep.AppendLies
namespace Go.Proofs.Ythlagmnnkckcnaa
open Go.RowKit
set_option linter.unusedVariables false
set_option maxRecDepth 100000
set_option linter.unusedSimpArgs false

theorem wf_bd7 {x : Int} (h : (Lit.int .i64 x).wf = true) : -9223372036854775808 ≤ x ∧ x ≤ 9223372036854775807 := by
  simp [Lit.wf, IntKind.min, IntKind.max, IntKind.signed, IntKind.bits] at h
  omega

def rdT (C R p : Nat) : Nat := (p - R) / (C - 1)
def rdI (C R p : Nat) : Nat := (p - R) % (C - 1) + 1
def rdY (C R p : Nat) : Nat := R - 1 - rdT C R p
/-- The p-th cell of the way in a box of C columns and R rows, where a step to the east is E and one to the north is N. -/
def roundAt (C R : Nat) (E N : Int) (p : Nat) : Int :=
  if p < R then (p : Int) * N else (if rdY C R p % 2 = 0 then (C : Int) - (rdI C R p : Int) else (rdI C R p : Int)) * E + (rdY C R p : Int) * N
def roundL (C R : Nat) (E N : Int) (k : Nat) : List Int := (List.range k).map (roundAt C R E N)
theorem roundL_len (C R : Nat) (E N : Int) (k : Nat) : (roundL C R E N k).length = k := by simp [roundL]
theorem roundL_succ (C R : Nat) (E N : Int) (k : Nat) : roundL C R E N (k + 1) = roundL C R E N k ++ [roundAt C R E N k] := by
  unfold roundL; rw [List.range_succ, List.map_append]; rfl
theorem rd_at {C R t i : Nat} (hC : 2 ≤ C) (h1 : 1 ≤ i) (hi : i < C) : rdT C R (R + t * (C - 1) + (i - 1)) = t ∧ rdI C R (R + t * (C - 1) + (i - 1)) = i := by
  have e : R + t * (C - 1) + (i - 1) - R = (C - 1) * t + (i - 1) := by rw [Nat.mul_comm t]; omega
  unfold rdT rdI
  rw [e, Nat.mul_add_div (by omega), Nat.mul_add_mod, Nat.div_eq_of_lt (by omega), Nat.mod_eq_of_lt (by omega)]
  omega
theorem round_up {C R : Nat} (E N : Int) {p : Nat} (h : p < R) : roundAt C R E N p = (p : Int) * N := by unfold roundAt; rw [if_pos h]
theorem round_in {C R : Nat} (E N : Int) {t i : Nat} (hC : 2 ≤ C) (h1 : 1 ≤ i) (hi : i < C) : roundAt C R E N (R + t * (C - 1) + (i - 1)) = (if (R - 1 - t) % 2 = 0 then (C : Int) - (i : Int) else (i : Int)) * E + ((R - 1 - t : Nat) : Int) * N := by
  obtain ⟨h2, h3⟩ := rd_at (R := R) (t := t) hC h1 hi
  unfold roundAt rdY
  rw [if_neg (by omega), h2, h3]
theorem round_all {C R : Nat} (hC : 2 ≤ C) : R + R * (C - 1) = R * C := by
  obtain ⟨c, rfl⟩ : ∃ c, C = c + 1 := ⟨C - 1, by omega⟩
  rw [Nat.add_sub_cancel, Nat.mul_succ]; omega
theorem prod36 {a b : Int} (h1 : 0 ≤ a) (h2 : a ≤ 6) (h3 : 0 ≤ b) (h4 : b ≤ 6) : 0 ≤ a * b ∧ a * b ≤ 36 :=
  ⟨Int.mul_nonneg h1 h3, Int.le_trans (Int.mul_le_mul h2 h4 h3 (by omega)) (by decide)⟩

set_option maxHeartbeats 2000000 in
theorem roundBy_ret (C R : Nat) (E N : Int) (w : World) (hC : 2 ≤ C) (hC6 : C ≤ 6) (hR : 1 ≤ R) (hR6 : R ≤ 6) (hE : 0 ≤ E) (hE6 : E ≤ 6) (hN : 0 ≤ N) (hN6 : N ≤ 6) :
    Calls Try.prog 58 #[.int .i64 C, .int .i64 R, .int .i64 E, .int .i64 N] w (RetL w (R * C) (roundL C R E N (R * C))) := by
  obtain ⟨i0, hi, hz0, hz1, hz2⟩ := info_parts infoInt
  have hall := round_all (C := C) (R := R) hC
  have hRC : R * C ≤ 36 := Nat.mul_le_mul hR6 hC6
  have HALL := Lib.hid hall; clear hall
  go_enter Try.func58, Try.ntmps58
  go_wp2
  go_loopw [9, 10, 15] (fun v _ i wr => ∃ k : Nat, k ≤ R ∧ i = .int .i64 k ∧ OwnsI wr w.heap.size v (roundL C R E N k) ∧ Below w.heap.size w wr) (fun _ _ i _ => R - (intOf i).toNat)
  case atStart => exact ⟨0, Nat.zero_le _, rfl, OwnsI.nil _ _, Below.refl _ _⟩
  case round =>
    rename World => wq
    obtain ⟨k, hk, rfl, ho, hbel⟩ := hrel
    have HO := Lib.hid ho; clear ho
    have BEL := Lib.hid hbel; clear hbel
    have lq : w.heap.size ≤ wq.heap.size := BEL.out.size
    by_cases hlt : k < R
    · have e1 : (k : Int) < R := by omega
      have hln := roundL_len C R E N k
      have HNX := Lib.hid (show roundL C R E N (k + 1) = roundL C R E N k ++ [(k : Int) * N] by rw [roundL_succ, round_up E N hlt])
      obtain ⟨m1, m2⟩ := prod36 (a := (k : Int)) (b := N) (by omega) (by omega) hN hN6
      go_wp2_with (at_builtin; refine wpList_append_own _ rfl _ _ 27 rfl w.heap.size 3 i0 (.int .i64 0) 1 8 Try.underlying27 hi hz0 hz1 hz2 rfl (by decide) _ (roundL C R E N k).length ((roundL C R E N k).map (Value.int .i64)) rfl (World.ownsRow.alloc HO.out _) ⟨wq.heap.size, 0, none⟩ 1 1 [.int .i64 ((k : Int) * N)] rfl rfl (new_int _ _) (one_int _) (by unfold maxLen; omega) (by omega) (by simp; omega) ?_; intro v' w8 hown' hgrow _; have O8 := Lib.hid (OwnsI.ofRow (xs := roundL C R E N (k + 1)) hown' (by rw [HNX.out]; simp) (by rw [HNX.out]; simp)); have B8 := Lib.hid (below_grown (below_seq BEL.out (below1 _ _)) hgrow (Nat.le_refl _) (HO.out.ownAt (Nat.le_refl _))); clear hown' hgrow)
      go_roundw
      case rel => exact ⟨k + 1, by omega, by go_num, O8.out, B8.out⟩
      case measure => simp [intOf]; omega
    · obtain rfl : k = R := by omega
      go_wp2
      go_loopw [9, 11, 12, 13] (fun v y _ _ wr => ∃ t : Nat, t ≤ k ∧ y = .int .i64 ((k : Int) - 1 - t) ∧ OwnsI wr w.heap.size v (roundL C k E N (k + t * (C - 1))) ∧ Below w.heap.size w wr) (fun _ y _ _ _ => (intOf y + 1).toNat)
      case atStart => exact ⟨0, Nat.zero_le _, by simp, by simpa using HO.out, BEL.out⟩
      case round =>
        clear HO BEL lq
        rename World => wt
        obtain ⟨t, ht, rfl, ho, hbel⟩ := hrel
        have HO := Lib.hid ho; clear ho
        have BEL := Lib.hid hbel; clear hbel
        by_cases hlt : t < k
        · have e1 : (t : Int) ≤ (k : Int) - 1 := by omega
          go_wp2
          go_loopw [9, 12, 13] (fun v i _ wr => ∃ j : Nat, 1 ≤ j ∧ j ≤ C ∧ i = .int .i64 j ∧ OwnsI wr w.heap.size v (roundL C k E N (k + t * (C - 1) + (j - 1))) ∧ Below w.heap.size w wr) (fun _ i _ _ => C - (intOf i).toNat)
          case atStart => exact ⟨1, Nat.le_refl _, by omega, rfl, HO.out, BEL.out⟩
          case round =>
            clear HO BEL
            rename World => wi
            obtain ⟨j, hj1, hj, rfl, ho, hbel⟩ := hrel
            have HO := Lib.hid ho; clear ho
            have BEL := Lib.hid hbel; clear hbel
            have lq : w.heap.size ≤ wi.heap.size := BEL.out.size
            by_cases hjlt : j < C
            · have j1 : (j : Int) < C := by omega
              have hin := round_in (R := k) E N (t := t) hC hj1 hjlt
              have hln := roundL_len C k E N (k + t * (C - 1) + (j - 1))
              have htC : t * (C - 1) ≤ 6 * 5 := Nat.mul_le_mul (by omega) (by omega)
              have hyy : ((k - 1 - t : Nat) : Int) = (k : Int) - 1 - t := by omega
              rw [hyy] at hin
              obtain ⟨m1, m2⟩ := prod36 (a := (k : Int) - 1 - t) (b := N) (by omega) (by omega) hN hN6
              obtain ⟨m3, m4⟩ := prod36 (a := (C : Int) - j) (b := E) (by omega) (by omega) hE hE6
              obtain ⟨m5, m6⟩ := prod36 (a := (j : Int)) (b := E) (by omega) (by omega) hE hE6
              by_cases hev : (k - 1 - t) % 2 = 0
              · have hev' : ((k : Int) - 1 - t) % 2 = 0 := by omega
                rw [if_pos hev] at hin
                have HNX := Lib.hid (show roundL C k E N (k + t * (C - 1) + (j - 1) + 1) = roundL C k E N (k + t * (C - 1) + (j - 1)) ++ [((C : Int) - j) * E + ((k : Int) - 1 - t) * N] by rw [roundL_succ, hin])
                clear hin hyy
                obtain ⟨P, hP⟩ : ∃ P, P = k + t * (C - 1) + (j - 1) := ⟨_, rfl⟩
                have hP2 : k + t * (C - 1) + (j + 1 - 1) = P + 1 := by omega
                rw [← hP] at HO HNX hln
                have HP2 := Lib.hid hP2; clear hP2
                have hPb : P ≤ 100 := by omega
                clear hP htC
                go_wp2_with (at_builtin; refine wpList_append_own _ rfl _ _ 27 rfl w.heap.size 3 i0 (.int .i64 0) 1 8 Try.underlying27 hi hz0 hz1 hz2 rfl (by decide) _ (roundL C k E N P).length ((roundL C k E N P).map (Value.int .i64)) rfl (World.ownsRow.alloc HO.out _) ⟨wi.heap.size, 0, none⟩ 1 1 [.int .i64 (((C : Int) - j) * E + ((k : Int) - 1 - t) * N)] rfl rfl (new_int _ _) (one_int _) (by unfold maxLen; omega) (by omega) (by simp; omega) ?_; intro v' w8 hown' hgrow _; have O8 := Lib.hid (OwnsI.ofRow (xs := roundL C k E N (P + 1)) hown' (by rw [HNX.out]; simp) (by rw [HNX.out]; simp)); have B8 := Lib.hid (below_grown (below_seq BEL.out (below1 _ _)) hgrow (Nat.le_refl _) (HO.out.ownAt (Nat.le_refl _))); clear hown' hgrow)
                go_roundw
                case rel => exact ⟨j + 1, by omega, by omega, by go_num, by rw [HP2.out]; exact O8.out, B8.out⟩
                case measure => simp [intOf]; omega
              · have hev' : ¬ ((k : Int) - 1 - t) % 2 = 0 := by omega
                have hev2 : ((k : Int) - 1 - t) % 2 = 1 := by omega
                rw [if_neg hev] at hin
                have HNX := Lib.hid (show roundL C k E N (k + t * (C - 1) + (j - 1) + 1) = roundL C k E N (k + t * (C - 1) + (j - 1)) ++ [(j : Int) * E + ((k : Int) - 1 - t) * N] by rw [roundL_succ, hin])
                clear hin hyy
                obtain ⟨P, hP⟩ : ∃ P, P = k + t * (C - 1) + (j - 1) := ⟨_, rfl⟩
                have hP2 : k + t * (C - 1) + (j + 1 - 1) = P + 1 := by omega
                rw [← hP] at HO HNX hln
                have HP2 := Lib.hid hP2; clear hP2
                have hPb : P ≤ 100 := by omega
                clear hP htC
                go_wp2_with (at_builtin; refine wpList_append_own _ rfl _ _ 27 rfl w.heap.size 3 i0 (.int .i64 0) 1 8 Try.underlying27 hi hz0 hz1 hz2 rfl (by decide) _ (roundL C k E N P).length ((roundL C k E N P).map (Value.int .i64)) rfl (World.ownsRow.alloc HO.out _) ⟨wi.heap.size, 0, none⟩ 1 1 [.int .i64 ((j : Int) * E + ((k : Int) - 1 - t) * N)] rfl rfl (new_int _ _) (one_int _) (by unfold maxLen; omega) (by omega) (by simp; omega) ?_; intro v' w8 hown' hgrow _; have O8 := Lib.hid (OwnsI.ofRow (xs := roundL C k E N (P + 1)) hown' (by rw [HNX.out]; simp) (by rw [HNX.out]; simp)); have B8 := Lib.hid (below_grown (below_seq BEL.out (below1 _ _)) hgrow (Nat.le_refl _) (HO.out.ownAt (Nat.le_refl _))); clear hown' hgrow)
                go_roundw
                case rel => exact ⟨j + 1, by omega, by omega, by go_num, by rw [HP2.out]; exact O8.out, B8.out⟩
                case measure => simp [intOf]; omega
            · obtain rfl : j = C := by omega
              have HE := Lib.hid (show k + (t + 1) * (j - 1) = k + t * (j - 1) + (j - 1) by rw [Nat.succ_mul]; omega)
              go_wp2
              go_roundw
              case rel => exact ⟨t + 1, by omega, by go_num, by rw [HE.out]; exact HO.out, BEL.out⟩
              case measure => simp [intOf]; omega
        · obtain rfl : t = k := by omega
          have e1 : ¬ (t : Int) ≤ (t : Int) - 1 := by omega
          have h8 := HO.out
          rw [HALL.out] at h8
          obtain ⟨a9, cap9, hv⟩ := h8.form2
          rw [roundL_len] at hv
          subst hv
          have HO2 := Lib.hid h8; clear h8 HO
          go_wp2
          go_ret
          exact ⟨a9, cap9, rfl, HO2.out, BEL.out⟩

def rdOk (W T : Int) : Bool := decide (2 ≤ W ∧ W ≤ 6 ∧ 2 ≤ T ∧ T ≤ 6 ∧ W * T ≤ 24 ∧ W * T % 2 = 0)
/-- The way round a box. -/
def roundF (W T : Int) : List Int := if rdOk W T then (if T % 2 = 0 then roundL W.toNat T.toNat 1 W (T.toNat * W.toNat) else roundL T.toNat W.toNat W 1 (W.toNat * T.toNat)) else []
theorem roundF_le (W T : Int) : (roundF W T).length ≤ 36 := by
  unfold roundF
  split
  · rename_i h
    have h' : 2 ≤ W ∧ W ≤ 6 ∧ 2 ≤ T ∧ T ≤ 6 ∧ W * T ≤ 24 ∧ W * T % 2 = 0 := of_decide_eq_true h
    have h1 : W.toNat * T.toNat ≤ 6 * 6 := Nat.mul_le_mul (by omega) (by omega)
    have h2 : T.toNat * W.toNat ≤ 6 * 6 := Nat.mul_le_mul (by omega) (by omega)
    split
    · rw [roundL_len]; exact h2
    · rw [roundL_len]; exact h1
  · simp
theorem odd_prod {a b : Int} (h1 : 1 ≤ a) (h2 : a ≤ 6) (ha : ¬ a % 2 = 0) (hb : ¬ b % 2 = 0) : ¬ a * b % 2 = 0 := by
  rw [Int.mul_emod]; have : a % 2 = 1 := by omega
  have : b % 2 = 1 := by omega
  simp [*]
theorem even_prod {a b : Int} (h : a % 2 = 0 ∨ b % 2 = 0) : a * b % 2 = 0 := by
  rw [Int.mul_emod]; rcases h with h | h <;> simp [h]

set_option maxHeartbeats 1000000 in
theorem iRoundOf_ret (W T : Int) (w : World) (hw : -9223372036854775808 ≤ W ∧ W ≤ 9223372036854775807) (ht : -9223372036854775808 ≤ T ∧ T ≤ 9223372036854775807) :
    Calls Try.prog 26 #[.int .i64 W, .int .i64 T] w (RetL w (roundF W T).length (roundF W T)) := by
  cases hs : sidesB W T
  · have e : roundF W T = [] := by
      unfold roundF
      have : rdOk W T = false := by
        unfold rdOk; rw [decide_eq_false_iff_not]; intro h
        have : sidesB W T = true := by unfold sidesB; rw [decide_eq_true_eq]; omega
        rw [hs] at this; cases this
      rw [this]; rfl
    rw [e]
    have H := Lib.hid hs; clear hs e
    go_enter Try.func26, Try.ntmps26
    go_wp2_with fail
    refine (sidesOk_any _ _ _).mono ?_; rintro e w1 ⟨rfl, rfl⟩
    rw [H.out]
    go_wp2
    go_ret
    exact ⟨none, 0, rfl, OwnsI.nil _ _, Below.refl _ _⟩
  · have hsd : 1 ≤ W ∧ W ≤ 6 ∧ 1 ≤ T ∧ T ≤ 6 := of_decide_eq_true hs
    obtain ⟨s1, s2, s3, s4⟩ := hsd
    have hp36 := prod36 (a := W) (b := T) (by omega) s2 (by omega) s4
    obtain ⟨q1, q2⟩ := hp36
    have H := Lib.hid hs; clear hs
    by_cases hW1 : W = 1
    · subst hW1
      have e : roundF 1 T = [] := by unfold roundF rdOk; simp
      rw [e]
      clear e
      go_enter Try.func26, Try.ntmps26
      go_wp2_with fail
      refine (sidesOk_any _ _ _).mono ?_; rintro e w1 ⟨rfl, rfl⟩
      rw [H.out]
      go_wp2
      go_ret
      exact ⟨none, 0, rfl, OwnsI.nil _ _, Below.refl _ _⟩
    · have z1 : (W == 1) = false := by simpa using hW1
      by_cases hT1 : T = 1
      · subst hT1
        have e : roundF W 1 = [] := by unfold roundF rdOk; simp
        rw [e]
        clear e
        go_enter Try.func26, Try.ntmps26
        go_wp2_with fail
        refine (sidesOk_any _ _ _).mono ?_; rintro e w1 ⟨rfl, rfl⟩
        rw [H.out]
        go_wp2
        go_ret
        exact ⟨none, 0, rfl, OwnsI.nil _ _, Below.refl _ _⟩
      · have z2 : (T == 1) = false := by simpa using hT1
        by_cases hp : W * T ≤ 24
        · by_cases hT2 : T % 2 = 0
          · have e : roundF W T = roundL W.toNat T.toNat 1 W (T.toNat * W.toNat) := by
              unfold roundF
              have : rdOk W T = true := by unfold rdOk; rw [decide_eq_true_eq]; exact ⟨by omega, by omega, by omega, by omega, hp, even_prod (Or.inr hT2)⟩
              rw [this, if_pos rfl, if_pos hT2]
            rw [e, roundL_len]
            obtain ⟨C, rfl⟩ := Int.eq_ofNat_of_zero_le (show 0 ≤ W by omega)
            obtain ⟨R, rfl⟩ := Int.eq_ofNat_of_zero_le (show 0 ≤ T by omega)
            clear e
            go_enter Try.func26, Try.ntmps26
            go_wp2_with fail
            refine (sidesOk_any _ _ _).mono ?_; rintro e w1 ⟨rfl, rfl⟩
            rw [H.out]
            go_wp2_with fail
            refine (roundBy_ret C R 1 C _ (by omega) (by omega) (by omega) (by omega) (by omega) (by omega) (by omega) (by omega)).mono ?_; rintro e w2 ⟨a2, cap2, rfl, ho2, hb2⟩
            go_wp2
            go_ret
            exact ⟨a2, cap2, by simp, by simpa using ho2, hb2⟩
          · have z3 : (T % 2 == 0) = false := by simpa using hT2
            have t2 : T % 2 = 1 := by omega
            by_cases hW2 : W % 2 = 0
            · have e : roundF W T = roundL T.toNat W.toNat W 1 (W.toNat * T.toNat) := by
                unfold roundF
                have : rdOk W T = true := by unfold rdOk; rw [decide_eq_true_eq]; exact ⟨by omega, by omega, by omega, by omega, hp, even_prod (Or.inl hW2)⟩
                rw [this, if_pos rfl, if_neg hT2]
              rw [e, roundL_len]
              obtain ⟨C, rfl⟩ := Int.eq_ofNat_of_zero_le (show 0 ≤ W by omega)
              obtain ⟨R, rfl⟩ := Int.eq_ofNat_of_zero_le (show 0 ≤ T by omega)
              clear e
              go_enter Try.func26, Try.ntmps26
              go_wp2_with fail
              refine (sidesOk_any _ _ _).mono ?_; rintro e w1 ⟨rfl, rfl⟩
              rw [H.out]
              go_wp2_with fail
              refine (roundBy_ret R C C 1 _ (by omega) (by omega) (by omega) (by omega) (by omega) (by omega) (by omega) (by omega)).mono ?_; rintro e w2 ⟨a2, cap2, rfl, ho2, hb2⟩
              go_wp2
              go_ret
              exact ⟨a2, cap2, by simp, by simpa using ho2, hb2⟩
            · have w2 : W % 2 = 1 := by omega
              have e : roundF W T = [] := by
                unfold roundF
                have : rdOk W T = false := by unfold rdOk; rw [decide_eq_false_iff_not]; intro h; exact odd_prod (by omega) s2 hW2 hT2 h.2.2.2.2.2
                rw [this]; rfl
              rw [e]
              clear e
              go_enter Try.func26, Try.ntmps26
              go_wp2_with fail
              refine (sidesOk_any _ _ _).mono ?_; rintro e w1 ⟨rfl, rfl⟩
              rw [H.out]
              go_wp2
              go_ret
              exact ⟨none, 0, rfl, OwnsI.nil _ _, Below.refl _ _⟩
        · have e : roundF W T = [] := by
            unfold roundF
            have : rdOk W T = false := by unfold rdOk; rw [decide_eq_false_iff_not]; intro h; exact hp h.2.2.2.2.1
            rw [this]; rfl
          rw [e]
          have hp' : 24 < W * T := by omega
          clear e
          go_enter Try.func26, Try.ntmps26
          go_wp2_with fail
          refine (sidesOk_any _ _ _).mono ?_; rintro e w1 ⟨rfl, rfl⟩
          rw [H.out]
          go_wp2
          go_ret
          exact ⟨none, 0, rfl, OwnsI.nil _ _, Below.refl _ _⟩

theorem l1In_same9 (n lo hi : Int) (w : World) {b : Bool} (h : inB n lo hi = b) :
    Calls Try.prog 50 #[.int .i64 n, .int .i64 lo, .int .i64 hi] w fun e w' => e = .returned (.bool b) ∧ w = w' :=
  (l1In_any n lo hi w).mono fun _ _ ⟨he, hw⟩ => ⟨by rw [he, h], hw⟩
theorem own_nil9 (w : World) {B : Nat} (hB : B ≤ w.heap.size) : OwnsI (w.alloc (.cells #[] 3 (0, 0))) B (.slice (some ⟨w.heap.size, 0, none⟩) 0 0) [] :=
  World.ownsRow_made w #[] 0 hB (Nat.zero_le _) rfl

set_option maxHeartbeats 2000000 in
theorem sRoundOf_even (C R : Nat) (w : World) (hC : 2 ≤ C) (hC6 : C ≤ 6) (hR : 2 ≤ R) (hR6 : R ≤ 6) (hp : (C : Int) * R ≤ 24) (hev : R % 2 = 0) :
    Calls Try.prog 27 #[.int .i64 C, .int .i64 R] w (RetL w (R * C) (roundL C R 1 C (R * C))) := by
  obtain ⟨i0, hi, hz0, hz1, hz2⟩ := info_parts infoInt
  have hall := round_all (C := C) (R := R) hC
  have hRC : R * C ≤ 36 := Nat.mul_le_mul hR6 hC6
  have HALL := Lib.hid hall; clear hall
  have HIC : Hid (inB (C : Int) 2 6 = true) := by show _ = _; unfold inB; simp; omega
  have HIR : Hid (inB (R : Int) 2 6 = true) := by show _ = _; unfold inB; simp; omega
  have p0 : 0 ≤ (C : Int) * R := (prod36 (a := (C : Int)) (b := R) (by omega) (by omega) (by omega) (by omega)).1
  have pe : (C : Int) * R % 2 = 0 := even_prod (Or.inr (by omega))
  have re : (R : Int) % 2 = 0 := by omega
  obtain ⟨wA, hwA⟩ : ∃ wA, wA = w.alloc (.cells #[] 3 (0, 0)) := ⟨_, rfl⟩
  have bA : Below w.heap.size w wA := by rw [hwA]; exact below1 _ _
  have oA : OwnsI wA w.heap.size (.slice (some ⟨w.heap.size, 0, none⟩) 0 0) [] := by rw [hwA]; exact own_nil9 w (Nat.le_refl _)
  have HOA := Lib.hid oA; clear oA
  go_enter Try.func27, Try.ntmps27
  go_wp2_with fail
  rw [← hwA]
  clear hwA
  refine (l1In_same9 _ _ _ _ HIC.out).mono ?_; rintro e w1 ⟨rfl, rfl⟩
  go_wp2_with fail
  refine (l1In_same9 _ _ _ _ HIR.out).mono ?_; rintro e w1 ⟨rfl, rfl⟩
  go_wp2
  have HEV := Lib.hid hev
  clear p0 pe hp re hev
  go_loopw [5, 8] (fun v i wr => ∃ k : Nat, k ≤ R ∧ i = .int .i64 k ∧ OwnsI wr w.heap.size v (roundL C R 1 C k) ∧ Below w.heap.size w wr) (fun _ i _ => R - (intOf i).toNat)
  case atStart => exact ⟨0, Nat.zero_le _, rfl, HOA.out, bA⟩
  case round =>
    clear HOA bA
    rename World => wq
    obtain ⟨k, hk, rfl, ho, hbel⟩ := hrel
    have HO := Lib.hid ho; clear ho
    have BEL := Lib.hid hbel; clear hbel
    have lq : w.heap.size ≤ wq.heap.size := BEL.out.size
    by_cases hlt : k < R
    · have e1 : (k : Int) < R := by omega
      have hln := roundL_len C R 1 C k
      have HNX := Lib.hid (show roundL C R 1 C (k + 1) = roundL C R 1 C k ++ [(k : Int) * C] by rw [roundL_succ, round_up 1 C hlt])
      obtain ⟨m1, m2⟩ := prod36 (a := (k : Int)) (b := C) (by omega) (by omega) (by omega) (by omega)
      go_wp2_with (at_builtin; refine wpList_append_own _ rfl _ _ 27 rfl w.heap.size 3 i0 (.int .i64 0) 1 8 Try.underlying27 hi hz0 hz1 hz2 rfl (by decide) _ (roundL C R 1 C k).length ((roundL C R 1 C k).map (Value.int .i64)) rfl (World.ownsRow.alloc HO.out _) ⟨wq.heap.size, 0, none⟩ 1 1 [.int .i64 ((k : Int) * C)] rfl rfl (new_int _ _) (one_int _) (by unfold maxLen; omega) (by omega) (by simp; omega) ?_; intro v' w8 hown' hgrow _; have O8 := Lib.hid (OwnsI.ofRow (xs := roundL C R 1 C (k + 1)) hown' (by rw [HNX.out]; simp) (by rw [HNX.out]; simp)); have B8 := Lib.hid (below_grown (below_seq BEL.out (below1 _ _)) hgrow (Nat.le_refl _) (HO.out.ownAt (Nat.le_refl _))); clear hown' hgrow)
      go_roundw
      case rel => exact ⟨k + 1, by omega, by go_num, O8.out, B8.out⟩
      case measure => simp [intOf]; omega
    · obtain rfl : k = R := by omega
      go_wp2
      go_loopw [5, 9, 10, 11] (fun v y _ _ wr => ∃ t : Nat, t ≤ k ∧ y = .int .i64 ((k : Int) - 1 - t) ∧ OwnsI wr w.heap.size v (roundL C k 1 C (k + t * (C - 1))) ∧ Below w.heap.size w wr) (fun _ y _ _ _ => (intOf y + 1).toNat)
      case atStart => exact ⟨0, Nat.zero_le _, by simp, by simpa using HO.out, BEL.out⟩
      case round =>
        clear HO BEL lq
        rename World => wt
        obtain ⟨t, ht, rfl, ho, hbel⟩ := hrel
        have HO := Lib.hid ho; clear ho
        have BEL := Lib.hid hbel; clear hbel
        by_cases hlt : t < k
        · have e1 : (t : Int) ≤ (k : Int) - 1 := by omega
          go_wp2
          go_loopw [5, 10, 11] (fun v i _ wr => ∃ j : Nat, 1 ≤ j ∧ j ≤ C ∧ i = .int .i64 j ∧ OwnsI wr w.heap.size v (roundL C k 1 C (k + t * (C - 1) + (j - 1))) ∧ Below w.heap.size w wr) (fun _ i _ _ => C - (intOf i).toNat)
          case atStart => exact ⟨1, Nat.le_refl _, by omega, rfl, HO.out, BEL.out⟩
          case round =>
            clear HO BEL
            rename World => wi
            obtain ⟨j, hj1, hj, rfl, ho, hbel⟩ := hrel
            have HO := Lib.hid ho; clear ho
            have BEL := Lib.hid hbel; clear hbel
            have lq : w.heap.size ≤ wi.heap.size := BEL.out.size
            by_cases hjlt : j < C
            · have j1 : (j : Int) < C := by omega
              have hin := round_in (R := k) 1 C (t := t) hC hj1 hjlt
              have hln := roundL_len C k 1 C (k + t * (C - 1) + (j - 1))
              have htC : t * (C - 1) ≤ 6 * 5 := Nat.mul_le_mul (by omega) (by omega)
              have hyy : ((k - 1 - t : Nat) : Int) = (k : Int) - 1 - t := by omega
              rw [hyy] at hin
              obtain ⟨m1, m2⟩ := prod36 (a := (k : Int) - 1 - t) (b := C) (by omega) (by omega) (by omega) (by omega)
              have htt : (k : Int) - 1 - ((k : Int) - 1 - t) = t := by omega
              by_cases ht2 : t % 2 = 1
              · have hev2 : (t : Int) % 2 = 1 := by omega
                have hev : (k - 1 - t) % 2 = 0 := by have := HEV.out; omega
                rw [if_pos hev] at hin
                clear hev
                have HNX := Lib.hid (show roundL C k 1 C (k + t * (C - 1) + (j - 1) + 1) = roundL C k 1 C (k + t * (C - 1) + (j - 1)) ++ [((k : Int) - 1 - t) * C + ((C : Int) - j)] by rw [roundL_succ, hin, Int.mul_one, Int.add_comm])
                clear hin hyy
                obtain ⟨P, hP⟩ : ∃ P, P = k + t * (C - 1) + (j - 1) := ⟨_, rfl⟩
                have hP2 : k + t * (C - 1) + (j + 1 - 1) = P + 1 := by omega
                rw [← hP] at HO HNX hln
                have HP2 := Lib.hid hP2; clear hP2
                have hPb : P ≤ 100 := by omega
                clear hP htC
                go_wp2_with (at_builtin; refine wpList_append_own _ rfl _ _ 27 rfl w.heap.size 3 i0 (.int .i64 0) 1 8 Try.underlying27 hi hz0 hz1 hz2 rfl (by decide) _ (roundL C k 1 C P).length ((roundL C k 1 C P).map (Value.int .i64)) rfl (World.ownsRow.alloc HO.out _) ⟨wi.heap.size, 0, none⟩ 1 1 [.int .i64 (((k : Int) - 1 - t) * C + ((C : Int) - j))] rfl rfl (new_int _ _) (one_int _) (by unfold maxLen; omega) (by omega) (by simp; omega) ?_; intro v' w8 hown' hgrow _; have O8 := Lib.hid (OwnsI.ofRow (xs := roundL C k 1 C (P + 1)) hown' (by rw [HNX.out]; simp) (by rw [HNX.out]; simp)); have B8 := Lib.hid (below_grown (below_seq BEL.out (below1 _ _)) hgrow (Nat.le_refl _) (HO.out.ownAt (Nat.le_refl _))); clear hown' hgrow)
                go_roundw
                case rel => exact ⟨j + 1, by omega, by omega, by go_num, by rw [HP2.out]; exact O8.out, B8.out⟩
                case measure => simp [intOf]; omega
              · have hev2 : (t : Int) % 2 = 0 := by omega
                have hev : ¬ (k - 1 - t) % 2 = 0 := by have := HEV.out; omega
                rw [if_neg hev] at hin
                clear hev
                have HNX := Lib.hid (show roundL C k 1 C (k + t * (C - 1) + (j - 1) + 1) = roundL C k 1 C (k + t * (C - 1) + (j - 1)) ++ [((k : Int) - 1 - t) * C + (j : Int)] by rw [roundL_succ, hin, Int.mul_one, Int.add_comm])
                clear hin hyy
                obtain ⟨P, hP⟩ : ∃ P, P = k + t * (C - 1) + (j - 1) := ⟨_, rfl⟩
                have hP2 : k + t * (C - 1) + (j + 1 - 1) = P + 1 := by omega
                rw [← hP] at HO HNX hln
                have HP2 := Lib.hid hP2; clear hP2
                have hPb : P ≤ 100 := by omega
                clear hP htC
                go_wp2_with (at_builtin; refine wpList_append_own _ rfl _ _ 27 rfl w.heap.size 3 i0 (.int .i64 0) 1 8 Try.underlying27 hi hz0 hz1 hz2 rfl (by decide) _ (roundL C k 1 C P).length ((roundL C k 1 C P).map (Value.int .i64)) rfl (World.ownsRow.alloc HO.out _) ⟨wi.heap.size, 0, none⟩ 1 1 [.int .i64 (((k : Int) - 1 - t) * C + (j : Int))] rfl rfl (new_int _ _) (one_int _) (by unfold maxLen; omega) (by omega) (by simp; omega) ?_; intro v' w8 hown' hgrow _; have O8 := Lib.hid (OwnsI.ofRow (xs := roundL C k 1 C (P + 1)) hown' (by rw [HNX.out]; simp) (by rw [HNX.out]; simp)); have B8 := Lib.hid (below_grown (below_seq BEL.out (below1 _ _)) hgrow (Nat.le_refl _) (HO.out.ownAt (Nat.le_refl _))); clear hown' hgrow)
                go_roundw
                case rel => exact ⟨j + 1, by omega, by omega, by go_num, by rw [HP2.out]; exact O8.out, B8.out⟩
                case measure => simp [intOf]; omega
            · obtain rfl : j = C := by omega
              have HE := Lib.hid (show k + (t + 1) * (j - 1) = k + t * (j - 1) + (j - 1) by rw [Nat.succ_mul]; omega)
              go_wp2
              go_roundw
              case rel => exact ⟨t + 1, by omega, by go_num, by rw [HE.out]; exact HO.out, BEL.out⟩
              case measure => simp [intOf]; omega
        · obtain rfl : t = k := by omega
          have e1 : ¬ (t : Int) ≤ (t : Int) - 1 := by omega
          have h8 := HO.out
          rw [HALL.out] at h8
          obtain ⟨a9, cap9, hv⟩ := h8.form2
          rw [roundL_len] at hv
          subst hv
          have HO2 := Lib.hid h8; clear h8 HO
          go_wp2
          go_ret
          exact ⟨a9, cap9, rfl, HO2.out, BEL.out⟩

theorem IntsAt.far7 {w w' : World} {g : Nat} {xs : List Int} {row : Option Nat} (h : IntsAt w (some ⟨g, 0, none⟩) xs) (hg : w.grownBy w' row) (hr : row ≠ some g) : IntsAt w' (some ⟨g, 0, none⟩) xs := by
  intro i hi
  obtain ⟨b, off, he, hc⟩ := h i hi
  simp only [Option.some.injEq, Addr.mk.injEq, and_true] at he
  obtain ⟨rfl, rfl⟩ := he
  exact ⟨g, 0, rfl, hg.cell hc (fun e => hr e.symm)⟩

theorem round_swap {C R p : Nat} (hC : 2 ≤ C) (hC6 : C ≤ 6) (hR6 : R ≤ 6) (hp : p < R * C) : 0 ≤ roundAt C R 1 C p ∧ roundAt C R 1 C p ≤ 100 ∧ 0 ≤ roundAt C R 1 C p % C * R ∧ roundAt C R 1 C p % C * R ≤ 36 ∧ roundAt C R 1 C p % C * R + roundAt C R 1 C p / C = roundAt C R R 1 p := by
  have hC0 : (C : Int) ≠ 0 := by omega
  by_cases h : p < R
  · rw [round_up 1 C h, round_up R 1 h]
    obtain ⟨m1, m2⟩ := prod36 (a := (p : Int)) (b := C) (by omega) (by omega) (by omega) (by omega)
    rw [Int.mul_emod_left, Int.mul_ediv_cancel _ hC0]
    omega
  · have hq : p - R < R * (C - 1) := by have := round_all (R := R) hC; omega
    obtain ⟨t, i, rfl, h1, h2⟩ : ∃ t i, p = R + t * (C - 1) + (i - 1) ∧ 1 ≤ i ∧ i < C := by
      refine ⟨(p - R) / (C - 1), (p - R) % (C - 1) + 1, ?_, by omega, ?_⟩
      · have := Nat.div_add_mod (p - R) (C - 1)
        rw [Nat.mul_comm] at this
        omega
      · have := Nat.mod_lt (p - R) (show 0 < C - 1 by omega)
        omega
    rw [round_in 1 C hC h1 h2, round_in R 1 hC h1 h2]
    obtain ⟨x, hx⟩ : ∃ x : Int, x = if (R - 1 - t) % 2 = 0 then (C : Int) - (i : Int) else (i : Int) := ⟨_, rfl⟩
    have hx1 : 0 ≤ x ∧ x < C := by rw [hx]; split <;> omega
    rw [← hx, Int.mul_one, Int.add_mul_emod_self_right, Int.add_mul_ediv_right _ _ hC0, Int.emod_eq_of_lt hx1.1 hx1.2, Int.ediv_eq_zero_of_lt hx1.1 hx1.2]
    obtain ⟨m1, m2⟩ := prod36 (a := ((R - 1 - t : Nat) : Int)) (b := C) (by omega) (by omega) (by omega) (by omega)
    obtain ⟨m3, m4⟩ := prod36 (a := x) (b := R) (by omega) (by omega) (by omega) (by omega)
    omega

set_option maxHeartbeats 2000000 in
theorem sRoundOf_odd (W T : Nat) (w : World) (hW : 2 ≤ W) (hW6 : W ≤ 6) (hT : 2 ≤ T) (hT6 : T ≤ 6) (hp : (W : Int) * T ≤ 24) (hev : W % 2 = 0) (hod : T % 2 = 1) :
    Calls Try.prog 27 #[.int .i64 W, .int .i64 T] w (RetL w (W * T) (roundL T W W 1 (W * T))) := by
  obtain ⟨i0, hi, hz0, hz1, hz2⟩ := info_parts infoInt
  have hWT : W * T ≤ 36 := Nat.mul_le_mul hW6 hT6
  have hWT0 : 0 < W * T := Nat.mul_pos (by omega) (by omega)
  have HIC : Hid (inB (W : Int) 2 6 = true) := by show _ = _; unfold inB; simp; omega
  have HIR : Hid (inB (T : Int) 2 6 = true) := by show _ = _; unfold inB; simp; omega
  have p0 : 0 ≤ (W : Int) * T := (prod36 (a := (W : Int)) (b := T) (by omega) (by omega) (by omega) (by omega)).1
  have pe : (W : Int) * T % 2 = 0 := even_prod (Or.inl (by omega))
  have re : (T : Int) % 2 = 1 := by omega
  have HEV := Lib.hid hev
  obtain ⟨wA, hwA⟩ : ∃ wA, wA = w.alloc (.cells #[] 3 (0, 0)) := ⟨_, rfl⟩
  have bA : Below w.heap.size w wA := by rw [hwA]; exact below1 _ _
  have zA : wA.heap.size = w.heap.size + 1 := by rw [hwA]; simp
  have oA : OwnsI wA w.heap.size (.slice (some ⟨w.heap.size, 0, none⟩) 0 0) [] := by rw [hwA]; exact own_nil9 w (Nat.le_refl _)
  have HOA := Lib.hid oA; clear oA
  go_enter Try.func27, Try.ntmps27
  go_wp2_with fail
  rw [← hwA]
  clear hwA
  refine (l1In_same9 _ _ _ _ HIC.out).mono ?_; rintro e w1 ⟨rfl, rfl⟩
  go_wp2_with fail
  refine (l1In_same9 _ _ _ _ HIR.out).mono ?_; rintro e w1 ⟨rfl, rfl⟩
  go_wp2_with fail
  refine (sRoundOf_even T W _ hT hT6 hW hW6 (by rw [Int.mul_comm]; exact hp) HEV.out).mono ?_; rintro e w2 ⟨a2, cap2, rfl, ho2, hb2⟩
  have hO1 := HOA.out.below hb2
  have hb3 := below_seq bA hb2
  obtain ⟨g2, rfl⟩ : ∃ g, a2 = some ⟨g, 0, none⟩ := by
    rcases ho2.forms with ⟨_, h⟩ | ⟨g, cap, h, _, _⟩
    · exact absurd h (by rw [← List.length_eq_zero_iff, roundL_len]; omega)
    · simp only [Value.slice.injEq] at h; exact ⟨g, h.1⟩
  have hg2 : wA.heap.size ≤ g2 ∧ g2 < w2.heap.size := World.ownsRow.lt ho2 g2 rfl
  have HI2 := Lib.hid (OwnsI.at ho2)
  clear ho2 hb2 HOA bA p0 pe re hev hod hp
  have HO1 := Lib.hid hO1; clear hO1
  have HB3 := Lib.hid hb3; clear hb3
  go_wp2
  go_loopw [5, 7] (fun v i wr => ∃ k : Nat, k ≤ W * T ∧ i = .int .i64 k ∧ OwnsI wr w.heap.size v (roundL T W W 1 k) ∧ v.ownBlock ≠ some g2 ∧ IntsAt wr (some ⟨g2, 0, none⟩) (roundL T W 1 T (W * T)) ∧ g2 < wr.heap.size ∧ Below w.heap.size w wr) (fun _ i _ => W * T - (intOf i).toNat)
  case atStart => exact ⟨0, Nat.zero_le _, rfl, HO1.out, by simp [Value.ownBlock]; omega, HI2.out, hg2.2, HB3.out⟩
  case round =>
    clear HO1 HB3 HI2
    rename World => wq
    obtain ⟨k, hk, rfl, ho, hnb, hia, hgq, hbel⟩ := hrel
    have HO := Lib.hid ho; clear ho
    have HNB := Lib.hid hnb; clear hnb
    have HIA := Lib.hid hia; clear hia
    have BEL := Lib.hid hbel; clear hbel
    have lq : w.heap.size ≤ wq.heap.size := BEL.out.size
    by_cases hlt : k < W * T
    · have e1 : (k : Int) < (W : Int) * T := by exact_mod_cast hlt
      have hln := roundL_len T W W 1 k
      obtain ⟨s1, s2, s3, s4, s5⟩ := round_swap hT hT6 hW6 hlt
      obtain ⟨b9, o9, he9, hc⟩ := HIA.out k (by rw [roundL_len]; exact hlt)
      simp only [Option.some.injEq, Addr.mk.injEq, and_true] at he9
      obtain ⟨rfl, rfl⟩ := he9
      rw [Nat.zero_add] at hc
      have hgd : (roundL T W 1 T (W * T)).getD k 0 = roundAt T W 1 T k := by unfold roundL; simp [hlt]
      rw [hgd] at hc
      clear hgd
      obtain ⟨v, hv⟩ : ∃ v, v = roundAt T W 1 T k := ⟨_, rfl⟩
      rw [← hv] at s1 s2 s3 s4 s5 hc
      have HNX := Lib.hid (show roundL T W W 1 (k + 1) = roundL T W W 1 k ++ [v % T * W + v / T] by rw [roundL_succ, s5])
      have hT0 : (T : Int) ≠ 0 := by omega
      have hT00 : ¬ T = 0 := by omega
      have k1 : k < W * T := hlt
      have m1 := Int.emod_nonneg v hT0
      have m2 := Int.emod_lt_of_pos v (show (0 : Int) < T by omega)
      have m3 : 0 ≤ v / T := Int.ediv_nonneg s1 (by omega)
      have m4 : v / T ≤ v := Int.ediv_le_self _ s1
      clear s5 hv
      have HVV : Hid (IntKind.i64.wrap (IntKind.i64.wrap (v.tmod T * W) + IntKind.i64.wrap (v.tdiv T)) = v % T * W + v / T) := by
        show _ = _
        rw [Int.tmod_eq_emod_of_nonneg s1, Int.tdiv_eq_ediv_of_nonneg s1, IntWalk.i64_in (v % T * W) (by omega), IntWalk.i64_in (v / T) (by omega)]
        exact IntWalk.i64_in _ (by omega)
      go_wp2_with fail
      have HSD := Lib.hid (show (fun w' : World => w'.cell? ⟨g2, k, none⟩ = some (.int .i64 v)) wq.drew from hc)
      refine wp_region_till (fun w' : World => w'.cell? ⟨g2, k, none⟩ = some (.int .i64 v)) 18 (by kernel_rfl) ?_
      refine Till.take (i := 0) (v := ?_) rfl (by kernel_rfl) (by kernel_rfl) (by kernel_rfl) (by kernel_rfl) (fun _ _ _ h => h) (Or.inl ⟨by kernel_rfl, ?_⟩) HSD.out ?_
      rotate_left
      · intro ws hsw
        go_simp
        try with_reducible rfl
      try simp only [Act.put, List.setIfInBounds_toArray, List.set_cons_zero, List.set_cons_succ]
      refine Till.take (i := 1) (v := ?_) rfl (by kernel_rfl) (by kernel_rfl) (by kernel_rfl) (by kernel_rfl) (fun _ _ _ h => h) (Or.inl ⟨by kernel_rfl, ?_⟩) HSD.out ?_
      rotate_left
      · intro ws hsw
        go_simp
        try with_reducible rfl
      try simp only [Act.put, List.setIfInBounds_toArray, List.set_cons_zero, List.set_cons_succ]
      refine Till.take (i := 2) (v := ?_) rfl (by kernel_rfl) (by kernel_rfl) (by kernel_rfl) (by kernel_rfl) (fun _ _ _ h => h) (Or.inl ⟨by kernel_rfl, ?_⟩) HSD.out ?_
      rotate_left
      · intro ws hsw
        go_simp
        try with_reducible rfl
      try simp only [Act.put, List.setIfInBounds_toArray, List.set_cons_zero, List.set_cons_succ]
      refine Till.take (i := 3) (v := ?_) rfl (by kernel_rfl) (by kernel_rfl) (by kernel_rfl) (by kernel_rfl) (fun _ _ _ h => h) (Or.inl ⟨by kernel_rfl, ?_⟩) HSD.out ?_
      rotate_left
      · intro ws hsw
        go_simp
        try with_reducible rfl
      try simp only [Act.put, List.setIfInBounds_toArray, List.set_cons_zero, List.set_cons_succ]
      refine Till.take (i := 4) (v := ?_) rfl (by kernel_rfl) (by kernel_rfl) (by kernel_rfl) (by kernel_rfl) (fun _ _ _ h => h) (Or.inl ⟨by kernel_rfl, ?_⟩) HSD.out ?_
      rotate_left
      · intro ws hsw
        go_simp
        try with_reducible rfl
      try simp only [Act.put, List.setIfInBounds_toArray, List.set_cons_zero, List.set_cons_succ]
      refine Till.take (i := 5) (v := ?_) rfl (by kernel_rfl) (by kernel_rfl) (by kernel_rfl) (by kernel_rfl) (fun _ _ _ h => h) (Or.inl ⟨by kernel_rfl, ?_⟩) HSD.out ?_
      rotate_left
      · intro ws hsw
        go_simp
        try with_reducible rfl
      try simp only [Act.put, List.setIfInBounds_toArray, List.set_cons_zero, List.set_cons_succ]
      refine Till.take (i := 6) (v := ?_) rfl (by kernel_rfl) (by kernel_rfl) (by kernel_rfl) (by kernel_rfl) (fun _ _ _ h => h) (Or.inl ⟨by kernel_rfl, ?_⟩) HSD.out ?_
      rotate_left
      · intro ws hsw
        go_simp
        try with_reducible rfl
      try simp only [Act.put, List.setIfInBounds_toArray, List.set_cons_zero, List.set_cons_succ]
      refine Till.take (i := 7) (v := ?_) rfl (by kernel_rfl) (by kernel_rfl) (by kernel_rfl) (by kernel_rfl) (fun _ _ _ h => h) (Or.inl ⟨by kernel_rfl, ?_⟩) HSD.out ?_
      rotate_left
      · intro ws hsw
        go_simp
        try with_reducible rfl
      try simp only [Act.put, List.setIfInBounds_toArray, List.set_cons_zero, List.set_cons_succ]
      refine Till.take (i := 8) (v := ?_) rfl (by kernel_rfl) (by kernel_rfl) (by kernel_rfl) (by kernel_rfl) (fun _ _ _ h => h) (Or.inl ⟨by kernel_rfl, ?_⟩) HSD.out ?_
      rotate_left
      · intro ws hsw
        go_simp
        try with_reducible rfl
      try simp only [Act.put, List.setIfInBounds_toArray, List.set_cons_zero, List.set_cons_succ]
      refine Till.take (i := 9) (v := ?_) rfl (by kernel_rfl) (by kernel_rfl) (by kernel_rfl) (by kernel_rfl) (fun _ _ _ h => h) (Or.inl ⟨by kernel_rfl, ?_⟩) HSD.out ?_
      rotate_left
      · intro ws hsw
        go_simp
        try with_reducible rfl
      try simp only [Act.put, List.setIfInBounds_toArray, List.set_cons_zero, List.set_cons_succ]
      refine Till.take (i := 10) (v := ?_) rfl (by kernel_rfl) (by kernel_rfl) (by kernel_rfl) (by kernel_rfl) (fun _ _ _ h => h) (Or.inl ⟨by kernel_rfl, ?_⟩) HSD.out ?_
      rotate_left
      · intro ws hsw
        go_simp
        try with_reducible rfl
      try simp only [Act.put, List.setIfInBounds_toArray, List.set_cons_zero, List.set_cons_succ]
      refine Till.take (i := 11) (v := ?_) rfl (by kernel_rfl) (by kernel_rfl) (by kernel_rfl) (by kernel_rfl) (fun _ _ _ h => h) (Or.inl ⟨by kernel_rfl, ?_⟩) HSD.out ?_
      rotate_left
      · intro ws hsw
        go_simp
        try with_reducible rfl
      try simp only [Act.put, List.setIfInBounds_toArray, List.set_cons_zero, List.set_cons_succ]
      refine Till.take (i := 12) (v := ?_) rfl (by kernel_rfl) (by kernel_rfl) (by kernel_rfl) (by kernel_rfl) (fun _ _ _ h => h) (Or.inl ⟨by kernel_rfl, ?_⟩) HSD.out ?_
      rotate_left
      · intro ws hsw
        go_simp
        try with_reducible rfl
      try simp only [Act.put, List.setIfInBounds_toArray, List.set_cons_zero, List.set_cons_succ]
      refine Till.take (i := 13) (v := ?_) rfl (by kernel_rfl) (by kernel_rfl) (by kernel_rfl) (by kernel_rfl) (fun _ _ _ h => h) (Or.inl ⟨by kernel_rfl, ?_⟩) HSD.out ?_
      rotate_left
      · intro ws hsw
        go_simp
        try with_reducible rfl
      try simp only [Act.put, List.setIfInBounds_toArray, List.set_cons_zero, List.set_cons_succ]
      refine Till.take (i := 14) (v := ?_) rfl (by kernel_rfl) (by kernel_rfl) (by kernel_rfl) (by kernel_rfl) (fun _ _ _ h => h) (Or.inl ⟨by kernel_rfl, ?_⟩) HSD.out ?_
      rotate_left
      · intro ws hsw
        go_simp
        try with_reducible rfl
      try simp only [Act.put, List.setIfInBounds_toArray, List.set_cons_zero, List.set_cons_succ]
      refine Till.take (i := 15) (v := ?_) rfl (by kernel_rfl) (by kernel_rfl) (by kernel_rfl) (by kernel_rfl) (fun _ _ _ h => h) (Or.inl ⟨by kernel_rfl, ?_⟩) HSD.out ?_
      rotate_left
      · intro ws hsw
        go_simp
        try with_reducible rfl
      try simp only [Act.put, List.setIfInBounds_toArray, List.set_cons_zero, List.set_cons_succ]
      have WN := Lib.hid (show Below wq.heap.size wq (World.drew (wq.alloc (.cells #[.int .i64 (v % T * W + v / T)] 3))) from below_seq (below1 _ _) (drew_below _))
      refine Till.one (i := 16) (by kernel_rfl) rfl (by rfl) (fun K hK => ?_)
      go_simp
      rw [HVV.out]
      refine hK.out _ _ (fun _ => cell_later WN.out hc) ?_
      clear hK K
      refine Till.one (i := 17) (by kernel_rfl) rfl (by rfl) (fun K hK => ?_)
      refine step_append_lies _ rfl _ _ 27 rfl w.heap.size 3 i0 (.int .i64 0) 1 8 Try.underlying27 hi hz0 hz1 hz2 rfl (by decide) _ k ((roundL T W W 1 k).map (Value.int .i64)) rfl (show World.ownsRow (World.drew (wq.alloc _)) _ _ _ _ _ _ from (HO.out.alloc _).row (roundL_len _ _ _ _ _)) ⟨wq.heap.size, 0, none⟩ 1 1 [.int .i64 (v % T * W + v / T)] rfl rfl (new_int wq _) (one_int _) (by omega) (by unfold maxLen; omega) (by omega) (by simp; omega) (wq.heap.size + 1) (by simp) ?_
      intro g' c' w5 hown' hgrow hor glt
      have B5 := Lib.hid (below_grown (below_seq BEL.out WN.out) hgrow (Nat.le_refl _) (HO.out.ownAt (Nat.le_refl _)))
      have O5 := Lib.hid (OwnsI.ofRow (xs := roundL T W W 1 (k + 1)) hown' (by rw [HNX.out]; simp) (roundL_len _ _ _ _ _))
      have I5 := Lib.hid (IntsAt.far7 (show IntsAt (World.drew (wq.alloc (.cells #[.int .i64 (v % T * W + v / T)] 3))) _ _ from HIA.out.below WN.out) hgrow HNB.out)
      have N5 : Hid ((Value.slice (some ⟨g', 0, none⟩) (k + 1) c').ownBlock ≠ some g2) := by
        show ¬ _
        intro e
        have e' : some g' = some g2 := e
        have e2 : g' = g2 := Option.some.inj e'
        rcases hor with h | h
        · exact HNB.out (Eq.trans h (congrArg some e2))
        · omega
      have L5 : g2 < w5.heap.size := by have h8 := hgrow.size; have h9 := WN.out.size; omega
      have hc5 : w5.cell? ⟨g2, k, none⟩ = some (.int .i64 v) := hgrow.cell (cell_later WN.out hc) (fun e => HNB.out e.symm)
      clear hown' hgrow hor glt
      refine hK.out _ _ (fun _ => hc5) ?_
      clear hK K
      refine Till.one (i := 18) (by kernel_rfl) rfl (by rfl) (fun K hK => ?_)
      go_simp
      refine hK.out _ _ (fun h => absurd rfl h) ?_
      clear hK K
      refine Till.done (by kernel_rfl) ?_ _
      go_wp2
      go_roundw
      case rel => exact ⟨k + 1, by omega, by go_num, O5.out, N5.out, I5.out, L5, B5.out⟩
      case measure => simp [intOf]; omega
    · obtain rfl : k = W * T := by omega
      obtain ⟨a9, cap9, hv⟩ := HO.out.form2
      rw [roundL_len] at hv
      subst hv
      go_wp2
      go_ret
      exact ⟨a9, cap9, rfl, HO.out, BEL.out⟩

set_option maxHeartbeats 1000000 in
theorem sRoundOf_ret (W T : Int) (w : World) (hw : -9223372036854775808 ≤ W ∧ W ≤ 9223372036854775807) (ht : -9223372036854775808 ≤ T ∧ T ≤ 9223372036854775807) :
    Calls Try.prog 27 #[.int .i64 W, .int .i64 T] w (RetL w (roundF W T).length (roundF W T)) := by
  cases ok : rdOk W T
  · have e : roundF W T = [] := by unfold roundF; rw [ok]; rfl
    rw [e]
    have hno : ¬ (2 ≤ W ∧ W ≤ 6 ∧ 2 ≤ T ∧ T ≤ 6 ∧ W * T ≤ 24 ∧ W * T % 2 = 0) := of_decide_eq_false ok
    clear ok e
    obtain ⟨wA, hwA⟩ : ∃ wA, wA = w.alloc (.cells #[] 3 (0, 0)) := ⟨_, rfl⟩
    have bA : Below w.heap.size w wA := by rw [hwA]; exact below1 _ _
    have oA : OwnsI wA w.heap.size (.slice (some ⟨w.heap.size, 0, none⟩) 0 0) [] := by rw [hwA]; exact own_nil9 w (Nat.le_refl _)
    have HOA := Lib.hid oA; clear oA
    cases h1 : inB W 2 6
    · have H1 := Lib.hid h1; clear h1
      go_enter Try.func27, Try.ntmps27
      go_wp2_with fail
      rw [← hwA]
      clear hwA
      refine (l1In_same9 _ _ _ _ H1.out).mono ?_; rintro e w1 ⟨rfl, rfl⟩
      go_wp2
      go_ret
      exact ⟨some ⟨w.heap.size, 0, none⟩, 0, rfl, HOA.out, bA⟩
    · have hW : 2 ≤ W ∧ W ≤ 6 := by unfold inB at h1; simpa using h1
      have H1 := Lib.hid h1; clear h1
      cases h2 : inB T 2 6
      · have H2 := Lib.hid h2; clear h2
        go_enter Try.func27, Try.ntmps27
        go_wp2_with fail
        rw [← hwA]
        clear hwA
        refine (l1In_same9 _ _ _ _ H1.out).mono ?_; rintro e w1 ⟨rfl, rfl⟩
        go_wp2_with fail
        refine (l1In_same9 _ _ _ _ H2.out).mono ?_; rintro e w1 ⟨rfl, rfl⟩
        go_wp2
        go_ret
        exact ⟨some ⟨w.heap.size, 0, none⟩, 0, rfl, HOA.out, bA⟩
      · have hT : 2 ≤ T ∧ T ≤ 6 := by unfold inB at h2; simpa using h2
        have H2 := Lib.hid h2; clear h2
        obtain ⟨q1, q2⟩ := prod36 (a := W) (b := T) (by omega) hW.2 (by omega) hT.2
        by_cases hp : W * T ≤ 24
        · have hod : ¬ W * T % 2 = 0 := fun h => hno ⟨hW.1, hW.2, hT.1, hT.2, hp, h⟩
          have hod2 : W * T % 2 = 1 := by omega
          clear hno hod
          go_enter Try.func27, Try.ntmps27
          go_wp2_with fail
          rw [← hwA]
          clear hwA
          refine (l1In_same9 _ _ _ _ H1.out).mono ?_; rintro e w1 ⟨rfl, rfl⟩
          go_wp2_with fail
          refine (l1In_same9 _ _ _ _ H2.out).mono ?_; rintro e w1 ⟨rfl, rfl⟩
          go_wp2
          go_ret
          exact ⟨some ⟨w.heap.size, 0, none⟩, 0, rfl, HOA.out, bA⟩
        · have hp' : 24 < W * T := by omega
          clear hno hp
          go_enter Try.func27, Try.ntmps27
          go_wp2_with fail
          rw [← hwA]
          clear hwA
          refine (l1In_same9 _ _ _ _ H1.out).mono ?_; rintro e w1 ⟨rfl, rfl⟩
          go_wp2_with fail
          refine (l1In_same9 _ _ _ _ H2.out).mono ?_; rintro e w1 ⟨rfl, rfl⟩
          go_wp2
          go_ret
          exact ⟨some ⟨w.heap.size, 0, none⟩, 0, rfl, HOA.out, bA⟩
  · have hy : 2 ≤ W ∧ W ≤ 6 ∧ 2 ≤ T ∧ T ≤ 6 ∧ W * T ≤ 24 ∧ W * T % 2 = 0 := of_decide_eq_true ok
    obtain ⟨y1, y2, y3, y4, y5, y6⟩ := hy
    obtain ⟨C, rfl⟩ := Int.eq_ofNat_of_zero_le (show 0 ≤ W by omega)
    obtain ⟨R, rfl⟩ := Int.eq_ofNat_of_zero_le (show 0 ≤ T by omega)
    unfold roundF
    rw [ok, if_pos rfl]
    by_cases hT : (R : Int) % 2 = 0
    · rw [if_pos hT, roundL_len, Int.toNat_natCast, Int.toNat_natCast]
      exact sRoundOf_even C R w (by omega) (by omega) (by omega) (by omega) y5 (by omega)
    · rw [if_neg hT, roundL_len, Int.toNat_natCast, Int.toNat_natCast]
      have hW : (C : Int) % 2 = 0 := by
        by_cases h : (C : Int) % 2 = 0
        · exact h
        · exact absurd y6 (odd_prod (by omega) y2 h hT)
      exact sRoundOf_odd C R w (by omega) (by omega) (by omega) (by omega) y5 (by omega) (by omega)

end Go.Proofs.Ythlagmnnkckcnaa
