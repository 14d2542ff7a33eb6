/- Contracts of spec.l2First, spec.l3With and of the two functions RankOf. -/
import Derived.Test.YtnpmnjmjbpfipaaRankM
import Derived.Test.YtnpmnjmjbpfipaaWithS
import Derived.Test.YtnpmnjmjbpfipaaLayOneS
import Derived.Test.YtnpmnjmjbpfipaaCloneI
import Derived.Test.YtnpmnjmjbpfipaaTilingS
import Derived.Test.YtnpmnjmjbpfipaaFaultsS
namespace Go.Proofs.Ytnpmnjmjbpfipaa
open Go.RowKit
set_option linter.unusedVariables false
set_option maxRecDepth 100000
set_option linter.unusedSimpArgs false

theorem RInv.skips {W T : Int} {xs : List Bool} {L M : List Int} {c : Nat} {ys : List Bool} (h : RInv W T xs L c M ys) : ∀ d, (∀ j, c ≤ j → j < c + d → ys.getD j false = false) → RInv W T xs L (c + d) M ys
  | 0, _ => h
  | d + 1, hz => (RInv.skips h d (fun j h1 h2 => hz j h1 (by omega))).skip (hz (c + d) (by omega) (by omega))
theorem rest_step {W T : Int} {xs : List Bool} {L : List Int} {f : Nat} {ys : List Bool} (e : ys = restN W T xs L f) (hy : ys.getD f false = true) :
    takeB W T ys f (L.getD f 0) = restN W T xs L (f + 1) ∧ rankN W T xs L (f + 1) = rankN W T xs L f + (if L.getD f 0 = 2 then withN W T ys f 1 else 0) := by
  have e1 : restN W T xs L (f + 1) = if (restN W T xs L f).getD f false = true then takeB W T (restN W T xs L f) f (L.getD f 0) else restN W T xs L f := rfl
  have e2 : rankN W T xs L (f + 1) = rankN W T xs L f + (if (restN W T xs L f).getD f false = true ∧ L.getD f 0 = 2 then withN W T (restN W T xs L f) f 1 else 0) := rfl
  rw [e1, e2, ← e, if_pos hy]
  refine ⟨rfl, ?_⟩
  by_cases h2 : L.getD f 0 = 2
  · rw [if_pos h2, if_pos ⟨hy, h2⟩]
  · rw [if_neg h2, if_neg (fun q => h2 q.2)]

set_option maxHeartbeats 1000000 in
theorem l2First_any (W T : Int) (a : Option Addr) (n cap : Nat) (xs : List Bool) (la : Option Addr) (lcap : Nat) (L : List Int) (w : World) (hn : n = xs.length) (hm : n = L.length) (hn' : n ≤ 1048576) (ha : BoolsAt w a xs) (hl : IntsAt w la L) :
    Calls Try.prog 73 #[.agg #[.int .i64 W, .int .i64 T, .slice a n cap], .slice la n lcap] w fun e w' => e = .returned (.int .i64 (firstI xs L 0 n)) ∧ Below w.heap.size w w' := by
  have HN := Lib.hid hn; clear hn
  have HM := Lib.hid hm; clear hm
  have HA := Lib.hid ha; clear ha
  have HL := Lib.hid hl; clear hl
  go_enter Try.func73, Try.ntmps73
  go_wp2
  go_loop [5] (fun i => ∃ k : Nat, k ≤ n ∧ i = .int .i64 k ∧ NoFree xs L 0 k) (fun i => n - (intOf i).toNat)
  case atStart => exact ⟨0, Nat.zero_le _, rfl, fun j h1 h2 => absurd h2 (Nat.not_lt_zero _)⟩
  case round =>
    obtain ⟨k, hk, rfl, hno⟩ := hrel
    have HNO := Lib.hid hno; clear hno
    by_cases hlt : k < n
    · have e1 : (k : Int) < n := by omega
      obtain ⟨b, o, rfl, hx⟩ := HA.out k (by rw [← HN.out]; exact hlt)
      obtain ⟨lb, lo, rfl, hy⟩ := HL.out k (by rw [← HM.out]; exact hlt)
      have hlx := World.block_lt_of_cell? w _ hx
      have hly := World.block_lt_of_cell? w _ hy
      simp only at hlx hly
      obtain ⟨xk, hxk⟩ : ∃ xk, xk = xs.getD k false := ⟨_, rfl⟩
      obtain ⟨v, hv⟩ : ∃ v, v = L.getD k 0 := ⟨_, rfl⟩
      rw [← hxk] at hx
      rw [← hv] at hy
      have HF : Hid (freeB xs L k = (xk && (v == 0))) := by show _ = _; unfold freeB; rw [hxk, hv]
      clear hxk hv
      cases xk
      · go_wp2
        go_round
        case rel => exact ⟨k + 1, by omega, by go_num, HNO.out.step (by rw [HF.out]; rfl)⟩
        case measure => simp [intOf]; omega
      · by_cases hv0 : v = 0
        · subst hv0
          have HV : Hid (firstI xs L 0 n = k) := first_some (Nat.zero_le _) hlt HNO.out (by rw [HF.out]; rfl)
          go_wp2
          go_ret
          exact ⟨ret_int HV.out.symm, below1 _ _⟩
        · have zv : (v == 0) = false := by simpa using hv0
          go_wp2
          go_round
          case rel => exact ⟨k + 1, by omega, by go_num, HNO.out.step (by rw [HF.out, zv]; rfl)⟩
          case measure => simp [intOf]; omega
    · obtain rfl : k = n := by omega
      have HV : Hid (firstI xs L 0 k = -1) := first_none HNO.out
      go_wp2
      go_ret
      exact ⟨ret_int HV.out.symm, below1 _ _⟩

set_option maxHeartbeats 2000000 in
theorem l3With_any (W T : Int) (a : Option Addr) (n cap : Nat) (xs : List Bool) (la : Option Addr) (lcap : Nat) (M : List Int) (w : World) (hn : n = xs.length) (hm : n = M.length) (hp : 0 < n) (hn' : n ≤ 36) (ha : BoolsAt w a xs) (hl : IntsAt w la M) :
    Calls Try.prog 75 #[.agg #[.int .i64 W, .int .i64 T, .slice a n cap], .slice la n lcap] w fun e w' => e = .returned (.int .i64 (tilT W T (lessB xs (covN M n)))) ∧ Below w.heap.size w w' := by
  have HN := Lib.hid hn; clear hn
  have HM := Lib.hid hm; clear hm
  have HA := Lib.hid ha; clear ha
  have HL := Lib.hid hl; clear hl
  obtain ⟨wA, hwA⟩ : ∃ wA, wA = (w.alloc (.cells #[.int .i64 W, .int .i64 T, .slice a n cap] 35)).alloc (.cells #[] 3 (0, 0)) := ⟨_, rfl⟩
  have pA : wA.heap[w.heap.size]? = some (.cells #[.int .i64 W, .int .i64 T, .slice a n cap] 35 (0, 0)) := by rw [hwA]; exact heap_later (heap_new w _) (below1 _ _)
  have bA : Below w.heap.size w wA := by rw [hwA]; exact below2 _ _ _
  have oA : OwnsI wA (w.heap.size + 1) (.slice (some ⟨w.heap.size + 1, 0, none⟩) 0 0) [] := by
    rw [hwA]; have := own_nil_lit (w.alloc (.cells #[.int .i64 W, .int .i64 T, .slice a n cap] 35)) (B := w.heap.size + 1) (by simp); simpa using this
  obtain ⟨i0, hi, hz0, hz1, hz2⟩ := info_parts infoInt
  go_enter Try.func75, Try.ntmps75
  go_wp2_with fail
  rw [← hwA]
  clear hwA
  go_loopw [5, 6] (fun v i wr => ∃ k : Nat, k ≤ n ∧ i = .int .i64 k ∧ OwnsI wr (w.heap.size + 1) v (castL (covN M k)) ∧ wr.heap[w.heap.size]? = some (.cells #[.int .i64 W, .int .i64 T, .slice a n cap] 35 (0, 0)) ∧ Below w.heap.size w wr) (fun _ i _ => n - (intOf i).toNat)
  case atStart => exact ⟨0, Nat.zero_le _, rfl, oA, pA, bA⟩
  case round =>
    rename World => wo
    clear oA pA bA
    obtain ⟨k, hk, rfl, ho, pr, hbel⟩ := hrel
    have HO := Lib.hid ho; clear ho
    have BEL := Lib.hid hbel; clear hbel
    have l1 := heap_lt pr
    have cl := covN_le M k
    by_cases hlt : k < n
    · obtain ⟨lb, lo, rfl, hy⟩ := (HL.out.below BEL.out) k (by rw [← HM.out]; exact hlt)
      have hly := World.block_lt_of_cell? wo _ hy
      simp only at hly
      obtain ⟨v, hv⟩ : ∃ v, v = M.getD k 0 := ⟨_, rfl⟩
      rw [← hv] at hy
      have e1 : (k : Int) < n := by omega
      have hnx : covN M (k + 1) = covN M k ++ (if v = 0 then [] else [k]) := by rw [hv]; rfl
      clear hv
      by_cases hv0 : v = 0
      · rw [if_pos hv0, List.append_nil] at hnx
        have HNX := Lib.hid hnx; clear hnx
        subst hv0
        go_wp2_with fail
        exact ⟨⟨k + 1, by omega, by go_num, by rw [HNX.out]; exact HO.out, pr, BEL.out⟩, by simp [intOf]; omega⟩
      · rw [if_neg hv0] at hnx
        have HNX : Hid (castL (covN M (k + 1)) = castL (covN M k) ++ [(k : Int)]) := by show _ = _; rw [hnx, castL_snoc]
        clear hnx
        have zv : (v != 0) = true := by simpa using hv0
        go_wp2_with (at_builtin; refine wpList_append_own _ rfl _ _ 41 rfl (w.heap.size + 1) 3 i0 (.int .i64 0) 1 8 Try.underlying41 hi hz0 hz1 hz2 rfl (by decide) _ (castL (covN M k)).length ((castL (covN M k)).map (Value.int .i64)) rfl (World.ownsRow.alloc HO.out _) ⟨wo.heap.size, 0, none⟩ 1 1 [.int .i64 k] rfl rfl (new_int _ _) (one_int _) (by unfold maxLen; rw [castL_len]; omega) (by rw [castL_len]; omega) (by simp; omega) ?_; intro v' w8 hown' hgrow _; have p8 := heap_grown (heap_later pr (below1 _ _)) hgrow (HO.out.ownBlock (by omega)); have O8 := Lib.hid (OwnsI.ofRow (xs := castL (covN M (k + 1))) hown' (by rw [HNX.out]; simp) (by rw [HNX.out]; simp)); have B8 := Lib.hid (below_grown (below_seq BEL.out (below1 _ _)) hgrow (Nat.le_refl _) (HO.out.ownAt (by omega))); clear hown' hgrow)
        exact ⟨⟨k + 1, by omega, by go_num, O8.out, p8, B8.out⟩, by simp [intOf]; omega⟩
    · obtain rfl : k = n := by omega
      obtain ⟨a9, cap9, hv⟩ := HO.out.form2
      rw [castL_len] at hv
      subst hv
      obtain ⟨c0, c1, c2⟩ := cells3 pr
      have hcb : ∀ q, q < (covN M k).length → (covN M k).getD q 0 < k := by
        intro q hq
        rw [List.getD_eq_getElem?_getD, List.getElem?_eq_getElem hq, Option.getD_some]
        exact ((covN_mem k).1 (List.getElem_mem hq)).1
      go_wp2_with fail
      refine (l3Less_any W T _ k cap xs _ _ _ (covN M k) _ HN.out (by omega) hp rfl (by omega) hcb (HA.out.below BEL.out) (OwnsI.at HO.out)).mono ?_; rintro e w3 ⟨g, cg, rfl, ho3, hb3⟩
      have b3 := below_seq BEL.out hb3
      have O3 := Lib.hid ho3; clear ho3
      go_wp2_with fail
      refine (sTilingsMany_any W T _ k cg (lessB xs (covN M k)) _ (by rw [lessB_len]; exact HN.out) (by omega) (OwnsB.at O3.out)).mono ?_; rintro e w4 ⟨rfl, hb4⟩
      go_wp2
      go_ret
      exact ⟨rfl, below_seq b3 hb4⟩

end Go.Proofs.Ytnpmnjmjbpfipaa
