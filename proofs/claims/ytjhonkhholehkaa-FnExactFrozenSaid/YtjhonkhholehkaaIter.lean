/- Contract of the function that calls itself within impl.completions: it yields all tilings with the dominoes of a list. -/
import Derived.Test.YtjhonkhholehkaaIterM
import Derived.RangeFuncKeeps
import Derived.RangeFuncBound
import Derived.RangeFuncLeaves
import Derived.Shelf.Abstract
import Derived.Shelf.RegionOpen
import Derived.WalkKit
import Derived.OwnWalkIn
import Derived.TacticsInMore
import Derived.LoopNIn
import Derived.LoopIn
namespace Go.Proofs.Ytjhonkhholehkaa
open Go.RowKit Go.Shelf
set_option linter.unusedVariables false
set_option maxRecDepth 100000
set_option linter.unusedSimpArgs false
attribute [local go_sem] Oper.semAt_some

theorem room_of_none' {F : Fence} (hd : F.depth = none) (k : Nat) : F.room k := fun d h => by rw [hd] at h; cases h
theorem RoundIn.anyDepth' {F : Fence} (hd : F.depth = none) {m m' : Nat} {P : Program} {l : Nat} {f : FuncId} {tmps : Array Value} {assign body : Code} {w : World} {R : Ending → World → Prop}
    (h : RoundIn F m P l f tmps assign body w R) : RoundIn F m' P l f tmps assign body w R := ⟨h.1, fun c cs _ => h.2 c cs (room_of_none' hd _)⟩
theorem YieldAt.anyDepth' {F : Fence} (hd : F.depth = none) {m : Nat} (m' : Nat) {P : Program} {l : Nat} {args : Array Value} {W : World} {R : Ending → World → Prop} (h : YieldAt F m P l args W R) : YieldAt F m' P l args W R := by
  obtain ⟨fn, tmps, assign, body, hy, hR⟩ := h
  exact ⟨fn, tmps, assign, body, hy, RoundIn.anyDepth' hd hR⟩

/-- How a part of the walk ends: it goes on, all of them having come; or it is to stop, some having come. -/
def ItPost (J Jx : List (List Int) → World → Prop) (pre all : List (List Int)) (b : Bool) (W' : World) : Prop :=
  (b = true → J (pre ++ all) W') ∧ (b = false → ∃ q, q <+: all ∧ q ≠ [] ∧ Jx (pre ++ q) W')

def partsA (A1 A2 : List (List Int)) : Nat → List (List Int)
  | 0 => []
  | 1 => A1
  | _ => A1 ++ A2
theorem parts_pre0 {A1 A2 q : List (List Int)} (h : q <+: A1) : partsA A1 A2 0 ++ q <+: A1 ++ A2 := by
  show [] ++ q <+: _
  rw [List.nil_append]
  exact h.trans (List.prefix_append _ _)
theorem parts_pre1 {A1 A2 q : List (List Int)} (h : q <+: A2) : partsA A1 A2 1 ++ q <+: A1 ++ A2 := (List.prefix_append_right_inj A1).2 h

set_option maxHeartbeats 4000000 in
theorem layFrom_in (S : Nat → Prop) (l rb wx yb fb wb lcap B : Nat) (W T : Int) (a : Option Addr) (n c : Nat) (xs : List Bool) (hi N : Nat) (J Jx : List (List Int) → World → Prop)
    (hn : n = xs.length) (hn' : n ≤ 1048576) (hr : rv W T xs = true) (hS : ItS S rb wx yb fb wb a) (hab : ∀ b off, a = some ⟨b, off, none⟩ → b ≠ wb)
    (hJ : ∀ pre A D, J pre A → A.grownBy D (some wb) → J pre D) (hJx : ∀ pre A D, Jx pre A → A.grownBy D (some wb) → Jx pre D)
    (hY : ∀ m pre M A A' v, J pre A → hi ≤ A.heap.size → Below A.heap.size A A' → OwnsI A' A.heap.size v M → M.length = n → tok W T xs M = true → pre.length < N → YieldAt Fence.wide m Try.prog l #[v] A' fun e W' =>
      ∃ b : Bool, e = .returned (.bool b) ∧ ItPost J Jx pre [M] b W' ∧ ItKeeps S A' W') :
    ∀ (f : Nat) (d : Nat) (s : Nat) (pre : List (List Int)) (L : List Int) (w : World), freeN xs L < f → lok W T xs L = true → NoFree xs L 0 s → s ≤ n → J pre w → hi ≤ w.heap.size → ItAt w l rb wx yb fb wb lcap B W T a n c xs L → pre.length + (allL W T xs f L).length ≤ N →
    CallsIn Fence.wide d Try.prog 70 #[.int .i64 s, .pointer (some ⟨rb, 0, none⟩), .pointer (some ⟨wx, 0, none⟩), .pointer (some ⟨yb, 0, none⟩), .pointer (some ⟨fb, 0, none⟩)] w fun e w' =>
      ∃ b : Bool, e = .returned (.bool b) ∧ ItPost J Jx pre (allL W T xs f L) b w' ∧ ItAt w' l rb wx yb fb wb lcap B W T a n c xs L ∧ w.heap.size ≤ w'.heap.size := by
  have hdd : ∀ k : Nat, (Fence.wide.depth.isSome = true → 1 ≤ k) := fun k h => by cases h
  obtain ⟨v1, v2, v3, v4, v5, _⟩ := rv_true hr
  have HN := Lib.hid hn; clear hn
  have HR := Lib.hid hr; clear hr
  have HS := Lib.hid hS; clear hS
  have HAB := Lib.hid hab; clear hab
  have HJ := Lib.hid hJ; clear hJ
  have HJX := Lib.hid hJx; clear hJx
  have HY := Lib.hid hY; clear hY
  have HV5 := Lib.hid v5; clear v5
  intro f
  induction f with
  | zero => intro d s pre L w h; exact absurd h (Nat.not_lt_zero _)
  | succ f ih =>
  intro d s pre L w hf hl hnf hs hj hhi hit hN
  have HI := Lib.hid ih; clear ih
  obtain ⟨_, hlen, _⟩ := lok_rv hl
  have HL := Lib.hid hl; clear hl
  have HLen : Hid (n = L.length) := by show n = _; rw [HN.out, hlen]
  clear hlen
  have HF := Lib.hid hf; clear hf
  have HNF := Lib.hid hnf; clear hnf
  have HJ0 := Lib.hid hj; clear hj
  have HIT := Lib.hid hit; clear hit
  obtain ⟨c0, c1, c2⟩ := cells3 HIT.out.reg
  have cw := cell1 HIT.out.work
  have cy := cell1 HIT.out.yld
  have cf := cell1 HIT.out.fn
  have hmx : Try.prog.follows .mixedOrders = true := by kernel_rfl
  rcases first_cases xs L s n with ⟨hfv, hno⟩ | ⟨k, hsk, hkn, hfv, hfk, hno⟩
  · -- NO CELL IS FREE: THE LIST IS A TILING
    have HFV := Lib.hid hfv; clear hfv
    have hno0 : NoFree xs L 0 n := fun j _ hj => by
      rcases Nat.lt_or_ge j s with h' | h'
      · exact HNF.out j (Nat.zero_le _) h'
      · exact hno j h' hj
    clear hno
    have HA : Hid (allL W T xs (f + 1) L = [L]) := allL_done (c := -1) (by rw [← HN.out]; exact first_none hno0) (by omega)
    have HT : Hid (tok W T xs L = true) := tok_all HL.out (by rw [← HLen.out]; exact hno0)
    clear hno0
    rw [HA.out] at hN ⊢
    simp only [List.length_cons, List.length_nil] at hN
    have hn0 : 0 < n := rv_pos v1 v3 (by rw [HN.out]; exact HV5.out)
    refine callsIn_of_wp Try.func70 rfl trivial ?_ rfl
    simp only [Try.ntmps70, List.size_toArray, List.length_cons, List.length_nil, Nat.reduceAdd, Nat.reduceSub, Array.replicate_succ, Array.replicate_zero, List.push_toArray, List.append_toArray, List.nil_append, List.cons_append]
    gi_wp2_with ((try refine ⟨trivial, hdd _, ?_⟩); gi_at_call 64; refine (callsIn_wide.2 (firstFree_any _ _ _ _ _ xs _ _ _ L _ _ HN.out HLen.out hn' rfl hs HIT.out.bools (OwnsI.at HIT.out.list))).mono ?_; rintro e w1 ⟨rfl, hb1⟩; rw [HFV.out]; have cy1 := cell_later hb1 cy; have cw1 := cell_later hb1 cw)
    have J1 := Lib.hid (HJ.out _ _ _ HJ0.out (grown_of_below hb1 _))
    have I1 := Lib.hid (HIT.out.below hb1)
    have HB1 := Lib.hid hb1; clear hb1
    have HYL : Hid (∀ A' v, Below w1.heap.size w1 A' → OwnsI A' w1.heap.size v L → YieldAt Fence.wide (d - 1) Try.prog l #[v] A' fun e W' => ∃ b : Bool, e = .returned (.bool b) ∧ ItPost J Jx pre [L] b W' ∧ ItKeeps S A' W') :=
      fun A' v h1 h2 => HY.out (d - 1) pre L w1 A' v J1.out (Nat.le_trans hhi HB1.out.size) h1 h2 HLen.out.symm HT.out (by omega)
    clear c0 c1 c2 cw cy cf
    gi_region_with_o (first
      | ((try refine ⟨trivial, hdd _, ?_⟩); gi_at_call 38; refine (callsIn_wide.2 (clone_own _ _ _ L _ HLen.out hn0 hn' (show IntsAt w1.drew _ _ from OwnsI.at I1.out.list))).mono ?_; rintro e w2 ⟨g2, cap2, rfl, ho2, hb2⟩; obtain ⟨fn, tmps, assign, body, hy, hR⟩ := HYL.out w2 _ (below_seq (drew_below w1) hb2) (show OwnsI w2 w1.heap.size _ _ from ho2); have cy2 := cell_later hb2 (show w1.drew.cell? _ = _ from cy1); have HO2 := Lib.hid ho2; clear ho2; have HB2 := Lib.hid hb2; clear hb2)
      | ((try refine ⟨hdd _, ?_⟩); refine hR.mono ?_; clear hR; rintro e w3 ⟨b, rfl, hp, hk⟩))
    all_goals
      gi_wp2
      go_ret
      exact ⟨b, rfl, hp, ((I1.out.below (drew_below w1)).below HB2.out).keeps HS.out hk, Nat.le_trans HB1.out.size (Nat.le_trans HB2.out.size hk.size)⟩
  · -- THE CELL k IS THE FIRST ONE THAT IS FREE
    have HFV := Lib.hid hfv; clear hfv
    have hno0 : NoFree xs L 0 k := fun j _ hj => by
      rcases Nat.lt_or_ge j s with h' | h'
      · exact HNF.out j (Nat.zero_le _) h'
      · exact hno j h' hj
    clear hno hsk
    have HNK := Lib.hid hno0; clear hno0
    have HFK := Lib.hid hfk; clear hfk
    have HFA : Hid (firstI xs L 0 xs.length = (k : Int)) := first_some (Nat.zero_le _) (by rw [← HN.out]; exact hkn) HNK.out HFK.out
    obtain ⟨A1, hA1⟩ : ∃ A1, A1 = (if canLay W T xs L k 1 = true then allL W T xs f (laidL W T xs L k 1) else []) := ⟨_, rfl⟩
    obtain ⟨A2, hA2⟩ : ∃ A2, A2 = (if canLay W T xs L k 2 = true then allL W T xs f (laidL W T xs L k 2) else []) := ⟨_, rfl⟩
    have HAll : Hid (allL W T xs (f + 1) L = A1 ++ A2) := by show _ = _; rw [hA1, hA2]; exact allL_succ HFA.out (by omega)
    rw [HAll.out] at hN ⊢
    rw [List.length_append] at hN
    have HA1 := Lib.hid hA1; clear hA1
    have HA2 := Lib.hid hA2; clear hA2
    have hn0 : 0 < n := by omega
    have ix0 : ∀ w : World, (Instr.index 76 (.agg #[.int .i64 1, .int .i64 2]) (.int .i64 0)).run Try.prog w = .ok (.int .i64 1) w := fun _ => by kernel_rfl
    have ix1 : ∀ w : World, (Instr.index 76 (.agg #[.int .i64 1, .int .i64 2]) (.int .i64 1)).run Try.prog w = .ok (.int .i64 2) w := fun _ => by kernel_rfl
    refine callsIn_of_wp Try.func70 rfl trivial ?_ rfl
    simp only [Try.ntmps70, List.size_toArray, List.length_cons, List.length_nil, Nat.reduceAdd, Nat.reduceSub, Array.replicate_succ, Array.replicate_zero, List.push_toArray, List.append_toArray, List.nil_append, List.cons_append]
    have k0 : ¬ ((k : Int) < 0) := by omega
    gi_wp2_with ((try refine ⟨trivial, hdd _, ?_⟩); gi_at_call 64; refine (callsIn_wide.2 (firstFree_any _ _ _ _ _ xs _ _ _ L _ _ HN.out HLen.out hn' rfl hs HIT.out.bools (OwnsI.at HIT.out.list))).mono ?_; rintro e w1 ⟨rfl, hb1⟩; rw [HFV.out])
    have J1 := Lib.hid (HJ.out _ _ _ HJ0.out (grown_of_below hb1 _))
    have I1 := Lib.hid (HIT.out.below hb1)
    have HB1 := Lib.hid hb1; clear hb1
    clear c0 c1 c2 cw cy cf
    gi_loopw [22] (fun i wr => ∃ j : Nat, j ≤ 2 ∧ i = .int .i64 j ∧ J (pre ++ partsA A1 A2 j) wr ∧ ItAt wr l rb wx yb fb wb lcap B W T a n c xs L ∧ w1.heap.size ≤ wr.heap.size) (fun i _ => 2 - (intOf i).toNat)
    case atStart => exact ⟨0, by omega, rfl, by simpa [partsA] using J1.out, I1.out, Nat.le_refl _⟩
    case round =>
      rename World => wo
      obtain ⟨j, hj2, rfl, hjo, hio, hso⟩ := hrel
      have JO := Lib.hid hjo; clear hjo
      have IO := Lib.hid hio; clear hio
      obtain ⟨c0, c1, c2⟩ := cells3 IO.out.reg
      have cw := cell1 IO.out.work
      have cf := cell1 IO.out.fn
      by_cases hj : j = 2
      · subst hj
        gi_wp2
        go_ret
        exact ⟨true, rfl, ⟨fun _ => JO.out, fun h => by cases h⟩, IO.out, Nat.le_trans HB1.out.size hso⟩
      · by_cases hj0 : j = 0
        · obtain rfl : j = 0 := by omega
          clear hj hj2
          have HAW : Hid (A1 = (if canLay W T xs L k 1 = true then allL W T xs f (laidL W T xs L k 1) else [])) := HA1.out
          have HPN : Hid (pre ++ partsA A1 A2 1 = (pre ++ partsA A1 A2 0) ++ A1) := by show _ = _; simp [partsA]
          cases hc : canLay W T xs L k 1
          · have HC := Lib.hid hc; clear hc
            have HNL : Hid (laidL W T xs L k 1 = L) := by show _ = _; unfold laidL; rw [if_neg (by rw [HC.out]; exact Bool.false_ne_true)]
            have HE : Hid (A1 = []) := by show _ = _; rw [HAW.out, if_neg (by rw [HC.out]; exact Bool.false_ne_true)]
            gi_wp2_with ((try refine ⟨trivial, hdd _, ?_⟩); gi_at_call 60; refine (callsIn_wide.2 (layDown_any _ _ _ _ _ xs wb _ B L _ _ _ HN.out hn' HLen.out v1 v2 v3 v4 (by rw [HN.out]; exact HV5.out) IO.out.bools IO.out.list)).mono ?_; rintro e w2 ⟨rfl, ho2, hg2⟩; rw [HC.out]; rw [HNL.out] at ho2; have HO2 := Lib.hid ho2; clear ho2; have HG2 := Lib.hid hg2; clear hg2)
            go_roundw
            case rel => exact ⟨1, by omega, by go_num, by rw [HPN.out, HE.out, List.append_nil]; exact HJ.out _ _ _ JO.out HG2.out, IO.out.turned HG2.out HO2.out HAB.out, Nat.le_trans hso HG2.out.size⟩
            case measure => simp [intOf]
          · have HC := Lib.hid hc; clear hc
            have HE : Hid (A1 = allL W T xs f (laidL W T xs L k 1)) := by show _ = _; rw [HAW.out, if_pos HC.out]
            have HLL : Hid (lok W T xs (laidL W T xs L k 1) = true) := lok_laid HL.out HC.out
            have HFD : Hid (freeN xs (laidL W T xs L k 1) < f) := by have h1 := free_drop' (way := 1) (by omega) HL.out HC.out; have h2 := HF.out; show _ < _; omega
            have HNN : Hid (NoFree xs (laidL W T xs L k 1) 0 (k + 1)) := NoFree.laid HL.out (by omega) HNK.out HC.out
            have HLN : Hid (n = (laidL W T xs L k 1).length) := by show n = _; rw [laidL_len]; exact HLen.out
            have HLF := Lib.hid (lift_laid HL.out HC.out)
            obtain ⟨M, hM⟩ : ∃ M, M = laidL W T xs L k 1 := ⟨_, rfl⟩
            rw [← hM] at HE HLL HFD HNN HLN HLF
            have HM := Lib.hid hM; clear hM
            have hMk : M.getD k 0 ≠ 0 := by
              obtain ⟨kn, e1, _, e2⟩ := canLift_parts HLF.out.1
              have : kn = k := by omega
              rw [← this]; exact e2
            obtain ⟨on, hono, honk, hst, hon⟩ := lift_on HLL.out v1 HN.out (by rw [HN.out]; exact HV5.out) hkn hMk
            have HON := Lib.hid hon; clear hon
            have HLU : Hid ((M.set on 0).set k 0 = L) := by show _ = _; rw [← liftL_at HLF.out.1 hst]; exact HLF.out.2
            clear hst
            have HMK := Lib.hid hMk; clear hMk
            have HK1 : Hid (((k + 1 : Nat) : Int) = (k : Int) + 1) := by show _ = _; omega
            gi_wp2_with (first
              | ((try refine ⟨trivial, hdd _, ?_⟩); gi_at_call 60; refine (callsIn_wide.2 (layDown_any _ _ _ _ _ xs wb _ B L _ _ _ HN.out hn' HLen.out v1 v2 v3 v4 (by rw [HN.out]; exact HV5.out) IO.out.bools IO.out.list)).mono ?_; rintro e w2 ⟨rfl, ho2, hg2⟩; rw [HC.out]; rw [← HM.out] at ho2; have I2 := Lib.hid (IO.out.turned hg2 ho2 HAB.out); have J2 := Lib.hid (HJ.out _ _ _ JO.out hg2); have HG2 := Lib.hid hg2; clear hg2 ho2 c0 c1 c2 cw cf; obtain ⟨c0, c1, c2⟩ := cells3 I2.out.reg; have cw := cell1 I2.out.work; have cf := cell1 I2.out.fn)
              | ((try refine ⟨trivial, hdd _, ?_⟩); gi_at_call 70; have hik := HI.out (d - 1) (k + 1) (pre ++ partsA A1 A2 0) M w2 HFD.out HLL.out HNN.out (by omega) J2.out (Nat.le_trans hhi (Nat.le_trans HB1.out.size (Nat.le_trans hso HG2.out.size))) I2.out (by rw [← HE.out, List.length_append]; simp only [partsA, List.length_nil]; omega); rw [HK1.out] at hik; refine hik.mono ?_; clear hik; rintro e w3 ⟨b, rfl, hp3, hi3, hs3⟩; have HP3 := Lib.hid hp3; have I3 := Lib.hid hi3; clear hp3 hi3 c0 c1 c2 cw cf; obtain ⟨c0, c1, c2⟩ := cells3 I3.out.reg; have cw := cell1 I3.out.work)
              | ((try refine ⟨trivial, hdd _, ?_⟩); gi_at_call 59; refine (callsIn_wide.2 (liftUp_yes _ _ _ _ _ wb _ B M k on _ hn' HLN.out v1 v2 v3 v4 (by rw [HN.out]; exact HV5.out) hkn hono honk HMK.out HON.out I3.out.list)).mono ?_; rintro e w4 ⟨rfl, ho4, hg4⟩; rw [HLU.out] at ho4; have I4 := Lib.hid (I3.out.turned hg4 ho4 HAB.out); have HG4 := Lib.hid hg4; clear hg4 ho4; cases b))
            · gi_wp2
              go_ret
              obtain ⟨q, hq1, hq2, hq3⟩ := HP3.out.2 rfl
              rw [← HE.out] at hq1
              exact ⟨false, rfl, ⟨(fun h => by cases h), fun _ => ⟨partsA A1 A2 0 ++ q, parts_pre0 hq1, fun h => hq2 (List.append_eq_nil_iff.1 h).2, by rw [← List.append_assoc]; exact HJX.out _ _ _ hq3 HG4.out⟩⟩, I4.out, Nat.le_trans HB1.out.size (Nat.le_trans hso (Nat.le_trans HG2.out.size (Nat.le_trans hs3 HG4.out.size)))⟩
            · gi_wp2
              go_roundw
              case rel => exact ⟨1, by omega, by go_num, by rw [HPN.out, HE.out]; exact HJ.out _ _ _ (HP3.out.1 rfl) HG4.out, I4.out, Nat.le_trans hso (Nat.le_trans HG2.out.size (Nat.le_trans hs3 HG4.out.size))⟩
              case measure => simp [intOf]
        · obtain rfl : j = 1 := by omega
          clear hj hj2
          have HAW : Hid (A2 = (if canLay W T xs L k 2 = true then allL W T xs f (laidL W T xs L k 2) else [])) := HA2.out
          have HPN : Hid (pre ++ partsA A1 A2 2 = (pre ++ partsA A1 A2 1) ++ A2) := by show _ = _; simp [partsA, List.append_assoc]
          cases hc : canLay W T xs L k 2
          · have HC := Lib.hid hc; clear hc
            have HNL : Hid (laidL W T xs L k 2 = L) := by show _ = _; unfold laidL; rw [if_neg (by rw [HC.out]; exact Bool.false_ne_true)]
            have HE : Hid (A2 = []) := by show _ = _; rw [HAW.out, if_neg (by rw [HC.out]; exact Bool.false_ne_true)]
            gi_wp2_with ((try refine ⟨trivial, hdd _, ?_⟩); gi_at_call 60; refine (callsIn_wide.2 (layDown_any _ _ _ _ _ xs wb _ B L _ _ _ HN.out hn' HLen.out v1 v2 v3 v4 (by rw [HN.out]; exact HV5.out) IO.out.bools IO.out.list)).mono ?_; rintro e w2 ⟨rfl, ho2, hg2⟩; rw [HC.out]; rw [HNL.out] at ho2; have HO2 := Lib.hid ho2; clear ho2; have HG2 := Lib.hid hg2; clear hg2)
            go_roundw
            case rel => exact ⟨2, by omega, by go_num, by rw [HPN.out, HE.out, List.append_nil]; exact HJ.out _ _ _ JO.out HG2.out, IO.out.turned HG2.out HO2.out HAB.out, Nat.le_trans hso HG2.out.size⟩
            case measure => simp [intOf]
          · have HC := Lib.hid hc; clear hc
            have HE : Hid (A2 = allL W T xs f (laidL W T xs L k 2)) := by show _ = _; rw [HAW.out, if_pos HC.out]
            have HLL : Hid (lok W T xs (laidL W T xs L k 2) = true) := lok_laid HL.out HC.out
            have HFD : Hid (freeN xs (laidL W T xs L k 2) < f) := by have h1 := free_drop' (way := 2) (by omega) HL.out HC.out; have h2 := HF.out; show _ < _; omega
            have HNN : Hid (NoFree xs (laidL W T xs L k 2) 0 (k + 1)) := NoFree.laid HL.out (by omega) HNK.out HC.out
            have HLN : Hid (n = (laidL W T xs L k 2).length) := by show n = _; rw [laidL_len]; exact HLen.out
            have HLF := Lib.hid (lift_laid HL.out HC.out)
            obtain ⟨M, hM⟩ : ∃ M, M = laidL W T xs L k 2 := ⟨_, rfl⟩
            rw [← hM] at HE HLL HFD HNN HLN HLF
            have HM := Lib.hid hM; clear hM
            have hMk : M.getD k 0 ≠ 0 := by
              obtain ⟨kn, e1, _, e2⟩ := canLift_parts HLF.out.1
              have : kn = k := by omega
              rw [← this]; exact e2
            obtain ⟨on, hono, honk, hst, hon⟩ := lift_on HLL.out v1 HN.out (by rw [HN.out]; exact HV5.out) hkn hMk
            have HON := Lib.hid hon; clear hon
            have HLU : Hid ((M.set on 0).set k 0 = L) := by show _ = _; rw [← liftL_at HLF.out.1 hst]; exact HLF.out.2
            clear hst
            have HMK := Lib.hid hMk; clear hMk
            have HK1 : Hid (((k + 1 : Nat) : Int) = (k : Int) + 1) := by show _ = _; omega
            gi_wp2_with (first
              | ((try refine ⟨trivial, hdd _, ?_⟩); gi_at_call 60; refine (callsIn_wide.2 (layDown_any _ _ _ _ _ xs wb _ B L _ _ _ HN.out hn' HLen.out v1 v2 v3 v4 (by rw [HN.out]; exact HV5.out) IO.out.bools IO.out.list)).mono ?_; rintro e w2 ⟨rfl, ho2, hg2⟩; rw [HC.out]; rw [← HM.out] at ho2; have I2 := Lib.hid (IO.out.turned hg2 ho2 HAB.out); have J2 := Lib.hid (HJ.out _ _ _ JO.out hg2); have HG2 := Lib.hid hg2; clear hg2 ho2 c0 c1 c2 cw cf; obtain ⟨c0, c1, c2⟩ := cells3 I2.out.reg; have cw := cell1 I2.out.work; have cf := cell1 I2.out.fn)
              | ((try refine ⟨trivial, hdd _, ?_⟩); gi_at_call 70; have hik := HI.out (d - 1) (k + 1) (pre ++ partsA A1 A2 1) M w2 HFD.out HLL.out HNN.out (by omega) J2.out (Nat.le_trans hhi (Nat.le_trans HB1.out.size (Nat.le_trans hso HG2.out.size))) I2.out (by rw [← HE.out, List.length_append]; simp only [partsA, List.length_nil]; omega); rw [HK1.out] at hik; refine hik.mono ?_; clear hik; rintro e w3 ⟨b, rfl, hp3, hi3, hs3⟩; have HP3 := Lib.hid hp3; have I3 := Lib.hid hi3; clear hp3 hi3 c0 c1 c2 cw cf; obtain ⟨c0, c1, c2⟩ := cells3 I3.out.reg; have cw := cell1 I3.out.work)
              | ((try refine ⟨trivial, hdd _, ?_⟩); gi_at_call 59; refine (callsIn_wide.2 (liftUp_yes _ _ _ _ _ wb _ B M k on _ hn' HLN.out v1 v2 v3 v4 (by rw [HN.out]; exact HV5.out) hkn hono honk HMK.out HON.out I3.out.list)).mono ?_; rintro e w4 ⟨rfl, ho4, hg4⟩; rw [HLU.out] at ho4; have I4 := Lib.hid (I3.out.turned hg4 ho4 HAB.out); have HG4 := Lib.hid hg4; clear hg4 ho4; cases b))
            · gi_wp2
              go_ret
              obtain ⟨q, hq1, hq2, hq3⟩ := HP3.out.2 rfl
              rw [← HE.out] at hq1
              exact ⟨false, rfl, ⟨(fun h => by cases h), fun _ => ⟨partsA A1 A2 1 ++ q, parts_pre1 hq1, fun h => hq2 (List.append_eq_nil_iff.1 h).2, by rw [← List.append_assoc]; exact HJX.out _ _ _ hq3 HG4.out⟩⟩, I4.out, Nat.le_trans HB1.out.size (Nat.le_trans hso (Nat.le_trans HG2.out.size (Nat.le_trans hs3 HG4.out.size)))⟩
            · gi_wp2
              go_roundw
              case rel => exact ⟨2, by omega, by go_num, by rw [HPN.out, HE.out]; exact HJ.out _ _ _ (HP3.out.1 rfl) HG4.out, I4.out, Nat.le_trans hso (Nat.le_trans HG2.out.size (Nat.le_trans hs3 HG4.out.size))⟩
              case measure => simp [intOf]
end Go.Proofs.Ytjhonkhholehkaa
