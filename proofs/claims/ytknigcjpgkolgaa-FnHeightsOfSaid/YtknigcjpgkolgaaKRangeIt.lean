/- All tilings with the dominoes of a list: what the iterator over them yields, and what lies in the heap for it. Merged of: IterM, Iter, RangeIt. -/
import Derived.Test.YtknigcjpgkolgaaKLayOne
import Derived.Test.YtknigcjpgkolgaaKFirstS
namespace Go.Proofs.Ytknigcjpgkolgaa
open Go.RowKit
set_option linter.unusedVariables false
set_option maxRecDepth 100000
set_option linter.unusedSimpArgs false

theorem NoFree.laid {W T : Int} {xs : List Bool} {L : List Int} {c : Nat} {way : Int} (hl : lok W T xs L = true) (hw : way = 1 ∨ way = 2) (h : NoFree xs L 0 c) (hc : canLay W T xs L c way = true) : NoFree xs (laidL W T xs L c way) 0 (c + 1) := by
  obtain ⟨hr, hlen, _⟩ := lok_rv hl
  obtain ⟨v1, v2, v3, v4, v5, _⟩ := rv_true hr
  have hc0 := hc
  unfold canLay at hc
  simp only [Bool.and_eq_true, decide_eq_true_eq] at hc
  obtain ⟨⟨h0, h1⟩, h2⟩ := hc
  obtain ⟨k0, k1, o1, ok, hway⟩ := cellB_bd (W := W) (T := T) (n := xs.length) v1 v5 h0
  obtain ⟨on, ho⟩ := Int.eq_ofNat_of_zero_le h0
  rw [ho] at h2 o1 ok
  simp only [Int.toNat_natCast] at h1 h2
  have hb : backI way ≠ 0 := by unfold backI; omega
  have hw0 : way ≠ 0 := by omega
  intro j _ hj
  unfold laidL
  rw [if_pos hc0, ho]
  simp only [Int.toNat_natCast]
  unfold freeB
  rw [getD_set1, getD_set1]
  by_cases e1 : j = on ∧ on < (L.set c way).length
  · rw [if_pos e1]; simp [hb]
  · rw [if_neg e1]
    by_cases e2 : j = c ∧ c < L.length
    · rw [if_pos e2]; simp [hw0]
    · rw [if_neg e2]
      have hjc : j < c := by
        rcases Nat.lt_or_ge j c with h' | h'
        · exact h'
        · exact absurd ⟨by omega, by omega⟩ e2
      exact h j (Nat.zero_le _) hjc

theorem ItKeeps.ints {S : Nat → Prop} {A B : World} (h : ItKeeps S A B) {g n cap b : Nat} {L : List Int} (hS : S g) (ho : OwnsI A b (.slice (some ⟨g, 0, none⟩) n cap) L) : OwnsI B b (.slice (some ⟨g, 0, none⟩) n cap) L := by
  refine ⟨ho.1, ?_⟩
  rcases ho.2 with hn | ⟨g', cap', cur, hv, hb, hh, r⟩
  · exact .inl hn
  · have e : g' = g := by simp only [Value.slice.injEq, Option.some.injEq, Addr.mk.injEq] at hv; exact hv.1.1.symm
    exact .inr ⟨g', cap', cur, hv, hb, by rw [h.same g' (by rw [e]; exact hS) (heap_lt hh)]; exact hh, r⟩

/-- The blocks that lie for the iterator are among those of S. -/
structure ItS (S : Nat → Prop) (rb wx yb fb wb : Nat) (a : Option Addr) : Prop where
  reg : S rb
  bools : ∀ b off, a = some ⟨b, off, none⟩ → S b
  work : S wx
  yld : S yb
  fn : S fb
  list : S wb
theorem ItAt.keeps {S : Nat → Prop} {A D : World} {l rb wx yb fb wb lcap B : Nat} {W T : Int} {a : Option Addr} {n c : Nat} {xs : List Bool} {L : List Int} (hS : ItS S rb wx yb fb wb a) (h : ItAt A l rb wx yb fb wb lcap B W T a n c xs L) (k : ItKeeps S A D) : ItAt D l rb wx yb fb wb lcap B W T a n c xs L :=
  ⟨k.heap hS.reg h.reg, k.bools hS.bools h.bools, k.heap hS.work h.work, k.heap hS.yld h.yld, k.heap hS.fn h.fn, k.ints hS.list h.list⟩
theorem heap_otherT {w w' : World} {b g : Nat} {cs ds : Array Value} {t u : TypeId} {fr : Nat × Nat} (h : w.heap[b]? = some (.cells cs t (0, 0))) (h2 : w.heap[g]? = some (.cells ds u fr)) (hne : t ≠ u) (hg : w.grownBy w' (some g)) : w'.heap[b]? = some (.cells cs t (0, 0)) := by
  refine (hg.block b (heap_lt h) ?_).trans h
  intro e; cases e
  rw [h] at h2; cases h2; exact hne rfl
/-- A step that turns the list in work alone. -/
theorem ItAt.turned {A D : World} {l rb wx yb fb wb lcap B : Nat} {W T : Int} {a : Option Addr} {n c : Nat} {xs : List Bool} {L M : List Int} (h : ItAt A l rb wx yb fb wb lcap B W T a n c xs L) (hg : A.grownBy D (some wb)) (ho : OwnsI D B (.slice (some ⟨wb, 0, none⟩) n lcap) M) (ha : ∀ b off, a = some ⟨b, off, none⟩ → b ≠ wb) : ItAt D l rb wx yb fb wb lcap B W T a n c xs M := by
  obtain ⟨cs, hw⟩ := h.list.block
  refine ⟨heap_otherT h.reg hw (by decide) hg, ?_, heap_otherT h.work hw (by decide) hg, heap_otherT h.yld hw (by decide) hg, heap_otherT h.fn hw (by decide) hg, ho⟩
  intro i hi
  obtain ⟨b, off, rfl, hc⟩ := h.bools i hi
  exact ⟨b, off, rfl, hg.cell hc (by intro e; cases e; exact ha b off rfl rfl)⟩
theorem cell1 {w : World} {b : Nat} {v : Value} {t : TypeId} (h : w.heap[b]? = some (.cells #[v] t (0, 0))) : w.cell? ⟨b, 0, none⟩ = some v := by simp [World.cell?, h]

end Go.Proofs.Ytknigcjpgkolgaa

namespace Go.Proofs.Ytknigcjpgkolgaa
open Go.RowKit Go.Shelf
set_option linter.unusedVariables false
set_option maxRecDepth 100000
set_option linter.unusedSimpArgs false
attribute [local go_sem] Oper.semAt_some

theorem room_of_none' {F : Fence} (hd : F.depth = none) (k : Nat) : F.room k := fun d h => by rw [hd] at h; cases h
theorem RoundIn.anyDepth' {F : Fence} (hd : F.depth = none) {m m' : Nat} {P : Program} {l : Nat} {f : FuncId} {tmps : Array Value} {assign body : Code} {w : World} {R : Ending → World → Prop}
    (h : RoundIn F m P l f tmps assign body w R) : RoundIn F m' P l f tmps assign body w R := ⟨h.1, fun c cs _ => h.2 c cs (room_of_none' hd _)⟩
theorem YieldAt.anyDepth' {F : Fence} (hd : F.depth = none) {m : Nat} (m' : Nat) {P : Program} {l : Nat} {args : Array Value} {W : World} {R : Ending → World → Prop} (h : YieldAt F m P l args W R) : YieldAt F m' P l args W R := by
  obtain ⟨fn, tmps, assign, body, hy, hR⟩ := h
  exact ⟨fn, tmps, assign, body, hy, RoundIn.anyDepth' hd hR⟩

/-- How a part of the walk ends: it goes on, all of them having come; or it is to stop, some having come. -/
def ItPost (J Jx : List (List Int) → World → Prop) (pre all : List (List Int)) (b : Bool) (W' : World) : Prop :=
  (b = true → J (pre ++ all) W') ∧ (b = false → ∃ q, q <+: all ∧ q ≠ [] ∧ Jx (pre ++ q) W')

def partsA (A1 A2 : List (List Int)) : Nat → List (List Int)
  | 0 => []
  | 1 => A1
  | _ => A1 ++ A2
theorem parts_pre0 {A1 A2 q : List (List Int)} (h : q <+: A1) : partsA A1 A2 0 ++ q <+: A1 ++ A2 := by
  show [] ++ q <+: _
  rw [List.nil_append]
  exact h.trans (List.prefix_append _ _)
theorem parts_pre1 {A1 A2 q : List (List Int)} (h : q <+: A2) : partsA A1 A2 1 ++ q <+: A1 ++ A2 := (List.prefix_append_right_inj A1).2 h

set_option maxHeartbeats 4000000 in
theorem layFrom_in (S : Nat → Prop) (l rb wx yb fb wb lcap B : Nat) (W T : Int) (a : Option Addr) (n c : Nat) (xs : List Bool) (hi N : Nat) (J Jx : List (List Int) → World → Prop)
    (hn : n = xs.length) (hn' : n ≤ 1048576) (hr : rv W T xs = true) (hS : ItS S rb wx yb fb wb a) (hab : ∀ b off, a = some ⟨b, off, none⟩ → b ≠ wb)
    (hJ : ∀ pre A D, J pre A → A.grownBy D (some wb) → J pre D) (hJx : ∀ pre A D, Jx pre A → A.grownBy D (some wb) → Jx pre D)
    (hY : ∀ m pre M A A' v, J pre A → hi ≤ A.heap.size → Below A.heap.size A A' → OwnsI A' A.heap.size v M → M.length = n → tok W T xs M = true → pre.length < N → YieldAt Fence.wide m Try.prog l #[v] A' fun e W' =>
      ∃ b : Bool, e = .returned (.bool b) ∧ ItPost J Jx pre [M] b W' ∧ ItKeeps S A' W') :
    ∀ (f : Nat) (d : Nat) (s : Nat) (pre : List (List Int)) (L : List Int) (w : World), freeN xs L < f → lok W T xs L = true → NoFree xs L 0 s → s ≤ n → J pre w → hi ≤ w.heap.size → ItAt w l rb wx yb fb wb lcap B W T a n c xs L → pre.length + (allL W T xs f L).length ≤ N →
    CallsIn Fence.wide d Try.prog 150 #[.int .i64 s, .pointer (some ⟨rb, 0, none⟩), .pointer (some ⟨wx, 0, none⟩), .pointer (some ⟨yb, 0, none⟩), .pointer (some ⟨fb, 0, none⟩)] w fun e w' =>
      ∃ b : Bool, e = .returned (.bool b) ∧ ItPost J Jx pre (allL W T xs f L) b w' ∧ ItAt w' l rb wx yb fb wb lcap B W T a n c xs L ∧ w.heap.size ≤ w'.heap.size := by
  have hdd : ∀ k : Nat, (Fence.wide.depth.isSome = true → 1 ≤ k) := fun k h => by cases h
  obtain ⟨v1, v2, v3, v4, v5, _⟩ := rv_true hr
  have HN := Lib.hid hn; clear hn
  have HR := Lib.hid hr; clear hr
  have HS := Lib.hid hS; clear hS
  have HAB := Lib.hid hab; clear hab
  have HJ := Lib.hid hJ; clear hJ
  have HJX := Lib.hid hJx; clear hJx
  have HY := Lib.hid hY; clear hY
  have HV5 := Lib.hid v5; clear v5
  intro f
  induction f with
  | zero => intro d s pre L w h; exact absurd h (Nat.not_lt_zero _)
  | succ f ih =>
  intro d s pre L w hf hl hnf hs hj hhi hit hN
  have HI := Lib.hid ih; clear ih
  obtain ⟨_, hlen, _⟩ := lok_rv hl
  have HL := Lib.hid hl; clear hl
  have HLen : Hid (n = L.length) := by show n = _; rw [HN.out, hlen]
  clear hlen
  have HF := Lib.hid hf; clear hf
  have HNF := Lib.hid hnf; clear hnf
  have HJ0 := Lib.hid hj; clear hj
  have HIT := Lib.hid hit; clear hit
  obtain ⟨c0, c1, c2⟩ := cells3 HIT.out.reg
  have cw := cell1 HIT.out.work
  have cy := cell1 HIT.out.yld
  have cf := cell1 HIT.out.fn
  have hmx : Try.prog.follows .mixedOrders = true := by kernel_rfl
  rcases first_cases xs L s n with ⟨hfv, hno⟩ | ⟨k, hsk, hkn, hfv, hfk, hno⟩
  · -- NO CELL IS FREE: THE LIST IS A TILING
    have HFV := Lib.hid hfv; clear hfv
    have hno0 : NoFree xs L 0 n := fun j _ hj => by
      rcases Nat.lt_or_ge j s with h' | h'
      · exact HNF.out j (Nat.zero_le _) h'
      · exact hno j h' hj
    clear hno
    have HA : Hid (allL W T xs (f + 1) L = [L]) := allL_done (c := -1) (by rw [← HN.out]; exact first_none hno0) (by omega)
    have HT : Hid (tok W T xs L = true) := tok_all HL.out (by rw [← HLen.out]; exact hno0)
    clear hno0
    rw [HA.out] at hN ⊢
    simp only [List.length_cons, List.length_nil] at hN
    have hn0 : 0 < n := rv_pos v1 v3 (by rw [HN.out]; exact HV5.out)
    refine callsIn_of_wp Try.func150 rfl trivial ?_ rfl
    simp only [Try.ntmps150, List.size_toArray, List.length_cons, List.length_nil, Nat.reduceAdd, Nat.reduceSub, Array.replicate_succ, Array.replicate_zero, List.push_toArray, List.append_toArray, List.nil_append, List.cons_append]
    gi_wp2_with ((try refine ⟨trivial, hdd _, ?_⟩); gi_at_call 71; refine (callsIn_wide.2 (firstFree_any _ _ _ _ _ xs _ _ _ L _ _ HN.out HLen.out hn' rfl hs HIT.out.bools (OwnsI.at HIT.out.list))).mono ?_; rintro e w1 ⟨rfl, hb1⟩; rw [HFV.out]; have cy1 := cell_later hb1 cy; have cw1 := cell_later hb1 cw)
    have J1 := Lib.hid (HJ.out _ _ _ HJ0.out (grown_of_below hb1 _))
    have I1 := Lib.hid (HIT.out.below hb1)
    have HB1 := Lib.hid hb1; clear hb1
    have HYL : Hid (∀ A' v, Below w1.heap.size w1 A' → OwnsI A' w1.heap.size v L → YieldAt Fence.wide (d - 1) Try.prog l #[v] A' fun e W' => ∃ b : Bool, e = .returned (.bool b) ∧ ItPost J Jx pre [L] b W' ∧ ItKeeps S A' W') :=
      fun A' v h1 h2 => HY.out (d - 1) pre L w1 A' v J1.out (Nat.le_trans hhi HB1.out.size) h1 h2 HLen.out.symm HT.out (by omega)
    clear c0 c1 c2 cw cy cf
    gi_region_with_o (first
      | ((try refine ⟨trivial, hdd _, ?_⟩); gi_at_call 87; refine (callsIn_wide.2 (clone_own _ _ _ L _ HLen.out hn0 hn' (show IntsAt w1.drew _ _ from OwnsI.at I1.out.list))).mono ?_; rintro e w2 ⟨g2, cap2, rfl, ho2, hb2⟩; obtain ⟨fn, tmps, assign, body, hy, hR⟩ := HYL.out w2 _ (below_seq (drew_below w1) hb2) (show OwnsI w2 w1.heap.size _ _ from ho2); have cy2 := cell_later hb2 (show w1.drew.cell? _ = _ from cy1); have HO2 := Lib.hid ho2; clear ho2; have HB2 := Lib.hid hb2; clear hb2)
      | ((try refine ⟨hdd _, ?_⟩); refine hR.mono ?_; clear hR; rintro e w3 ⟨b, rfl, hp, hk⟩))
    all_goals
      gi_wp2
      go_ret
      exact ⟨b, rfl, hp, ((I1.out.below (drew_below w1)).below HB2.out).keeps HS.out hk, Nat.le_trans HB1.out.size (Nat.le_trans HB2.out.size hk.size)⟩
  · -- THE CELL k IS THE FIRST ONE THAT IS FREE
    have HFV := Lib.hid hfv; clear hfv
    have hno0 : NoFree xs L 0 k := fun j _ hj => by
      rcases Nat.lt_or_ge j s with h' | h'
      · exact HNF.out j (Nat.zero_le _) h'
      · exact hno j h' hj
    clear hno hsk
    have HNK := Lib.hid hno0; clear hno0
    have HFK := Lib.hid hfk; clear hfk
    have HFA : Hid (firstI xs L 0 xs.length = (k : Int)) := first_some (Nat.zero_le _) (by rw [← HN.out]; exact hkn) HNK.out HFK.out
    obtain ⟨A1, hA1⟩ : ∃ A1, A1 = (if canLay W T xs L k 1 = true then allL W T xs f (laidL W T xs L k 1) else []) := ⟨_, rfl⟩
    obtain ⟨A2, hA2⟩ : ∃ A2, A2 = (if canLay W T xs L k 2 = true then allL W T xs f (laidL W T xs L k 2) else []) := ⟨_, rfl⟩
    have HAll : Hid (allL W T xs (f + 1) L = A1 ++ A2) := by show _ = _; rw [hA1, hA2]; exact allL_succ HFA.out (by omega)
    rw [HAll.out] at hN ⊢
    rw [List.length_append] at hN
    have HA1 := Lib.hid hA1; clear hA1
    have HA2 := Lib.hid hA2; clear hA2
    have hn0 : 0 < n := by omega
    have ix0 : ∀ w : World, (Instr.index 93 (.agg #[.int .i64 1, .int .i64 2]) (.int .i64 0)).run Try.prog w = .ok (.int .i64 1) w := fun _ => by kernel_rfl
    have ix1 : ∀ w : World, (Instr.index 93 (.agg #[.int .i64 1, .int .i64 2]) (.int .i64 1)).run Try.prog w = .ok (.int .i64 2) w := fun _ => by kernel_rfl
    refine callsIn_of_wp Try.func150 rfl trivial ?_ rfl
    simp only [Try.ntmps150, List.size_toArray, List.length_cons, List.length_nil, Nat.reduceAdd, Nat.reduceSub, Array.replicate_succ, Array.replicate_zero, List.push_toArray, List.append_toArray, List.nil_append, List.cons_append]
    have k0 : ¬ ((k : Int) < 0) := by omega
    gi_wp2_with ((try refine ⟨trivial, hdd _, ?_⟩); gi_at_call 71; refine (callsIn_wide.2 (firstFree_any _ _ _ _ _ xs _ _ _ L _ _ HN.out HLen.out hn' rfl hs HIT.out.bools (OwnsI.at HIT.out.list))).mono ?_; rintro e w1 ⟨rfl, hb1⟩; rw [HFV.out])
    have J1 := Lib.hid (HJ.out _ _ _ HJ0.out (grown_of_below hb1 _))
    have I1 := Lib.hid (HIT.out.below hb1)
    have HB1 := Lib.hid hb1; clear hb1
    clear c0 c1 c2 cw cy cf
    gi_loopw [22] (fun i wr => ∃ j : Nat, j ≤ 2 ∧ i = .int .i64 j ∧ J (pre ++ partsA A1 A2 j) wr ∧ ItAt wr l rb wx yb fb wb lcap B W T a n c xs L ∧ w1.heap.size ≤ wr.heap.size) (fun i _ => 2 - (intOf i).toNat)
    case atStart => exact ⟨0, by omega, rfl, by simpa [partsA] using J1.out, I1.out, Nat.le_refl _⟩
    case round =>
      rename World => wo
      obtain ⟨j, hj2, rfl, hjo, hio, hso⟩ := hrel
      have JO := Lib.hid hjo; clear hjo
      have IO := Lib.hid hio; clear hio
      obtain ⟨c0, c1, c2⟩ := cells3 IO.out.reg
      have cw := cell1 IO.out.work
      have cf := cell1 IO.out.fn
      by_cases hj : j = 2
      · subst hj
        gi_wp2
        go_ret
        exact ⟨true, rfl, ⟨fun _ => JO.out, fun h => by cases h⟩, IO.out, Nat.le_trans HB1.out.size hso⟩
      · by_cases hj0 : j = 0
        · obtain rfl : j = 0 := by omega
          clear hj hj2
          have HAW : Hid (A1 = (if canLay W T xs L k 1 = true then allL W T xs f (laidL W T xs L k 1) else [])) := HA1.out
          have HPN : Hid (pre ++ partsA A1 A2 1 = (pre ++ partsA A1 A2 0) ++ A1) := by show _ = _; simp [partsA]
          cases hc : canLay W T xs L k 1
          · have HC := Lib.hid hc; clear hc
            have HNL : Hid (laidL W T xs L k 1 = L) := by show _ = _; unfold laidL; rw [if_neg (by rw [HC.out]; exact Bool.false_ne_true)]
            have HE : Hid (A1 = []) := by show _ = _; rw [HAW.out, if_neg (by rw [HC.out]; exact Bool.false_ne_true)]
            gi_wp2_with ((try refine ⟨trivial, hdd _, ?_⟩); gi_at_call 77; refine (callsIn_wide.2 (layDown_any _ _ _ _ _ xs wb _ B L _ _ _ HN.out hn' HLen.out v1 v2 v3 v4 (by rw [HN.out]; exact HV5.out) IO.out.bools IO.out.list)).mono ?_; rintro e w2 ⟨rfl, ho2, hg2⟩; rw [HC.out]; rw [HNL.out] at ho2; have HO2 := Lib.hid ho2; clear ho2; have HG2 := Lib.hid hg2; clear hg2)
            go_roundw
            case rel => exact ⟨1, by omega, by go_num, by rw [HPN.out, HE.out, List.append_nil]; exact HJ.out _ _ _ JO.out HG2.out, IO.out.turned HG2.out HO2.out HAB.out, Nat.le_trans hso HG2.out.size⟩
            case measure => simp [intOf]
          · have HC := Lib.hid hc; clear hc
            have HE : Hid (A1 = allL W T xs f (laidL W T xs L k 1)) := by show _ = _; rw [HAW.out, if_pos HC.out]
            have HLL : Hid (lok W T xs (laidL W T xs L k 1) = true) := lok_laid HL.out HC.out
            have HFD : Hid (freeN xs (laidL W T xs L k 1) < f) := by have h1 := free_drop' (way := 1) (by omega) HL.out HC.out; have h2 := HF.out; show _ < _; omega
            have HNN : Hid (NoFree xs (laidL W T xs L k 1) 0 (k + 1)) := NoFree.laid HL.out (by omega) HNK.out HC.out
            have HLN : Hid (n = (laidL W T xs L k 1).length) := by show n = _; rw [laidL_len]; exact HLen.out
            have HLF := Lib.hid (lift_laid HL.out HC.out)
            obtain ⟨M, hM⟩ : ∃ M, M = laidL W T xs L k 1 := ⟨_, rfl⟩
            rw [← hM] at HE HLL HFD HNN HLN HLF
            have HM := Lib.hid hM; clear hM
            have hMk : M.getD k 0 ≠ 0 := by
              obtain ⟨kn, e1, _, e2⟩ := canLift_parts HLF.out.1
              have : kn = k := by omega
              rw [← this]; exact e2
            obtain ⟨on, hono, honk, hst, hon⟩ := lift_on HLL.out v1 HN.out (by rw [HN.out]; exact HV5.out) hkn hMk
            have HON := Lib.hid hon; clear hon
            have HLU : Hid ((M.set on 0).set k 0 = L) := by show _ = _; rw [← liftL_at HLF.out.1 hst]; exact HLF.out.2
            clear hst
            have HMK := Lib.hid hMk; clear hMk
            have HK1 : Hid (((k + 1 : Nat) : Int) = (k : Int) + 1) := by show _ = _; omega
            gi_wp2_with (first
              | ((try refine ⟨trivial, hdd _, ?_⟩); gi_at_call 77; refine (callsIn_wide.2 (layDown_any _ _ _ _ _ xs wb _ B L _ _ _ HN.out hn' HLen.out v1 v2 v3 v4 (by rw [HN.out]; exact HV5.out) IO.out.bools IO.out.list)).mono ?_; rintro e w2 ⟨rfl, ho2, hg2⟩; rw [HC.out]; rw [← HM.out] at ho2; have I2 := Lib.hid (IO.out.turned hg2 ho2 HAB.out); have J2 := Lib.hid (HJ.out _ _ _ JO.out hg2); have HG2 := Lib.hid hg2; clear hg2 ho2 c0 c1 c2 cw cf; obtain ⟨c0, c1, c2⟩ := cells3 I2.out.reg; have cw := cell1 I2.out.work; have cf := cell1 I2.out.fn)
              | ((try refine ⟨trivial, hdd _, ?_⟩); gi_at_call 150; have hik := HI.out (d - 1) (k + 1) (pre ++ partsA A1 A2 0) M w2 HFD.out HLL.out HNN.out (by omega) J2.out (Nat.le_trans hhi (Nat.le_trans HB1.out.size (Nat.le_trans hso HG2.out.size))) I2.out (by rw [← HE.out, List.length_append]; simp only [partsA, List.length_nil]; omega); rw [HK1.out] at hik; refine hik.mono ?_; clear hik; rintro e w3 ⟨b, rfl, hp3, hi3, hs3⟩; have HP3 := Lib.hid hp3; have I3 := Lib.hid hi3; clear hp3 hi3 c0 c1 c2 cw cf; obtain ⟨c0, c1, c2⟩ := cells3 I3.out.reg; have cw := cell1 I3.out.work)
              | ((try refine ⟨trivial, hdd _, ?_⟩); gi_at_call 135; refine (callsIn_wide.2 (liftUp_yes _ _ _ _ _ wb _ B M k on _ hn' HLN.out v1 v2 v3 v4 (by rw [HN.out]; exact HV5.out) hkn hono honk HMK.out HON.out I3.out.list)).mono ?_; rintro e w4 ⟨rfl, ho4, hg4⟩; rw [HLU.out] at ho4; have I4 := Lib.hid (I3.out.turned hg4 ho4 HAB.out); have HG4 := Lib.hid hg4; clear hg4 ho4; cases b))
            · gi_wp2
              go_ret
              obtain ⟨q, hq1, hq2, hq3⟩ := HP3.out.2 rfl
              rw [← HE.out] at hq1
              exact ⟨false, rfl, ⟨(fun h => by cases h), fun _ => ⟨partsA A1 A2 0 ++ q, parts_pre0 hq1, fun h => hq2 (List.append_eq_nil_iff.1 h).2, by rw [← List.append_assoc]; exact HJX.out _ _ _ hq3 HG4.out⟩⟩, I4.out, Nat.le_trans HB1.out.size (Nat.le_trans hso (Nat.le_trans HG2.out.size (Nat.le_trans hs3 HG4.out.size)))⟩
            · gi_wp2
              go_roundw
              case rel => exact ⟨1, by omega, by go_num, by rw [HPN.out, HE.out]; exact HJ.out _ _ _ (HP3.out.1 rfl) HG4.out, I4.out, Nat.le_trans hso (Nat.le_trans HG2.out.size (Nat.le_trans hs3 HG4.out.size))⟩
              case measure => simp [intOf]
        · obtain rfl : j = 1 := by omega
          clear hj hj2
          have HAW : Hid (A2 = (if canLay W T xs L k 2 = true then allL W T xs f (laidL W T xs L k 2) else [])) := HA2.out
          have HPN : Hid (pre ++ partsA A1 A2 2 = (pre ++ partsA A1 A2 1) ++ A2) := by show _ = _; simp [partsA, List.append_assoc]
          cases hc : canLay W T xs L k 2
          · have HC := Lib.hid hc; clear hc
            have HNL : Hid (laidL W T xs L k 2 = L) := by show _ = _; unfold laidL; rw [if_neg (by rw [HC.out]; exact Bool.false_ne_true)]
            have HE : Hid (A2 = []) := by show _ = _; rw [HAW.out, if_neg (by rw [HC.out]; exact Bool.false_ne_true)]
            gi_wp2_with ((try refine ⟨trivial, hdd _, ?_⟩); gi_at_call 77; refine (callsIn_wide.2 (layDown_any _ _ _ _ _ xs wb _ B L _ _ _ HN.out hn' HLen.out v1 v2 v3 v4 (by rw [HN.out]; exact HV5.out) IO.out.bools IO.out.list)).mono ?_; rintro e w2 ⟨rfl, ho2, hg2⟩; rw [HC.out]; rw [HNL.out] at ho2; have HO2 := Lib.hid ho2; clear ho2; have HG2 := Lib.hid hg2; clear hg2)
            go_roundw
            case rel => exact ⟨2, by omega, by go_num, by rw [HPN.out, HE.out, List.append_nil]; exact HJ.out _ _ _ JO.out HG2.out, IO.out.turned HG2.out HO2.out HAB.out, Nat.le_trans hso HG2.out.size⟩
            case measure => simp [intOf]
          · have HC := Lib.hid hc; clear hc
            have HE : Hid (A2 = allL W T xs f (laidL W T xs L k 2)) := by show _ = _; rw [HAW.out, if_pos HC.out]
            have HLL : Hid (lok W T xs (laidL W T xs L k 2) = true) := lok_laid HL.out HC.out
            have HFD : Hid (freeN xs (laidL W T xs L k 2) < f) := by have h1 := free_drop' (way := 2) (by omega) HL.out HC.out; have h2 := HF.out; show _ < _; omega
            have HNN : Hid (NoFree xs (laidL W T xs L k 2) 0 (k + 1)) := NoFree.laid HL.out (by omega) HNK.out HC.out
            have HLN : Hid (n = (laidL W T xs L k 2).length) := by show n = _; rw [laidL_len]; exact HLen.out
            have HLF := Lib.hid (lift_laid HL.out HC.out)
            obtain ⟨M, hM⟩ : ∃ M, M = laidL W T xs L k 2 := ⟨_, rfl⟩
            rw [← hM] at HE HLL HFD HNN HLN HLF
            have HM := Lib.hid hM; clear hM
            have hMk : M.getD k 0 ≠ 0 := by
              obtain ⟨kn, e1, _, e2⟩ := canLift_parts HLF.out.1
              have : kn = k := by omega
              rw [← this]; exact e2
            obtain ⟨on, hono, honk, hst, hon⟩ := lift_on HLL.out v1 HN.out (by rw [HN.out]; exact HV5.out) hkn hMk
            have HON := Lib.hid hon; clear hon
            have HLU : Hid ((M.set on 0).set k 0 = L) := by show _ = _; rw [← liftL_at HLF.out.1 hst]; exact HLF.out.2
            clear hst
            have HMK := Lib.hid hMk; clear hMk
            have HK1 : Hid (((k + 1 : Nat) : Int) = (k : Int) + 1) := by show _ = _; omega
            gi_wp2_with (first
              | ((try refine ⟨trivial, hdd _, ?_⟩); gi_at_call 77; refine (callsIn_wide.2 (layDown_any _ _ _ _ _ xs wb _ B L _ _ _ HN.out hn' HLen.out v1 v2 v3 v4 (by rw [HN.out]; exact HV5.out) IO.out.bools IO.out.list)).mono ?_; rintro e w2 ⟨rfl, ho2, hg2⟩; rw [HC.out]; rw [← HM.out] at ho2; have I2 := Lib.hid (IO.out.turned hg2 ho2 HAB.out); have J2 := Lib.hid (HJ.out _ _ _ JO.out hg2); have HG2 := Lib.hid hg2; clear hg2 ho2 c0 c1 c2 cw cf; obtain ⟨c0, c1, c2⟩ := cells3 I2.out.reg; have cw := cell1 I2.out.work; have cf := cell1 I2.out.fn)
              | ((try refine ⟨trivial, hdd _, ?_⟩); gi_at_call 150; have hik := HI.out (d - 1) (k + 1) (pre ++ partsA A1 A2 1) M w2 HFD.out HLL.out HNN.out (by omega) J2.out (Nat.le_trans hhi (Nat.le_trans HB1.out.size (Nat.le_trans hso HG2.out.size))) I2.out (by rw [← HE.out, List.length_append]; simp only [partsA, List.length_nil]; omega); rw [HK1.out] at hik; refine hik.mono ?_; clear hik; rintro e w3 ⟨b, rfl, hp3, hi3, hs3⟩; have HP3 := Lib.hid hp3; have I3 := Lib.hid hi3; clear hp3 hi3 c0 c1 c2 cw cf; obtain ⟨c0, c1, c2⟩ := cells3 I3.out.reg; have cw := cell1 I3.out.work)
              | ((try refine ⟨trivial, hdd _, ?_⟩); gi_at_call 135; refine (callsIn_wide.2 (liftUp_yes _ _ _ _ _ wb _ B M k on _ hn' HLN.out v1 v2 v3 v4 (by rw [HN.out]; exact HV5.out) hkn hono honk HMK.out HON.out I3.out.list)).mono ?_; rintro e w4 ⟨rfl, ho4, hg4⟩; rw [HLU.out] at ho4; have I4 := Lib.hid (I3.out.turned hg4 ho4 HAB.out); have HG4 := Lib.hid hg4; clear hg4 ho4; cases b))
            · gi_wp2
              go_ret
              obtain ⟨q, hq1, hq2, hq3⟩ := HP3.out.2 rfl
              rw [← HE.out] at hq1
              exact ⟨false, rfl, ⟨(fun h => by cases h), fun _ => ⟨partsA A1 A2 1 ++ q, parts_pre1 hq1, fun h => hq2 (List.append_eq_nil_iff.1 h).2, by rw [← List.append_assoc]; exact HJX.out _ _ _ hq3 HG4.out⟩⟩, I4.out, Nat.le_trans HB1.out.size (Nat.le_trans hso (Nat.le_trans HG2.out.size (Nat.le_trans hs3 HG4.out.size)))⟩
            · gi_wp2
              go_roundw
              case rel => exact ⟨2, by omega, by go_num, by rw [HPN.out, HE.out]; exact HJ.out _ _ _ (HP3.out.1 rfl) HG4.out, I4.out, Nat.le_trans hso (Nat.le_trans HG2.out.size (Nat.le_trans hs3 HG4.out.size))⟩
              case measure => simp [intOf]
end Go.Proofs.Ytknigcjpgkolgaa

namespace Go.Proofs.Ytknigcjpgkolgaa
open Go.RowKit Go.Shelf
set_option linter.unusedVariables false
set_option maxRecDepth 100000
set_option linter.unusedSimpArgs false

/-- An invariant that bears new blocks, and turns of the blocks from lo to hi. -/
def ItInv (lo : Nat) (J : Nat → List (List Int) → World → Prop) : Prop :=
  ∀ hi pre A D row, J hi pre A → A.grownBy D row → (∀ r, row = some r → lo ≤ r ∧ r < hi) → J hi pre D

/-- What an iterator over lists does: all of 'all' come, in order, as lists of their own; its own blocks lie from where its call began up to hi; the blocks of S0 it only reads. -/
def SeqIt (P : Program) (g : Nat) (lb : Array Value) (S0 : Nat → Prop) (all : List (List Int)) (ok : List Int → Prop) (w0 : World) : Prop :=
  ∀ (d l : Nat) (J Jx : Nat → List (List Int) → World → Prop) (W1 : World), Below w0.heap.size w0 W1 → ItInv W1.heap.size J → ItInv W1.heap.size Jx →
    (∀ W2, Below W1.heap.size W1 W2 → J W2.heap.size [] W2) →
    (∀ m hi pre M A A' v, J hi pre A → W1.heap.size ≤ hi → hi ≤ A.heap.size → Below A.heap.size A A' → OwnsI A' A.heap.size v M → ok M → pre.length < all.length → YieldAt Fence.wide m P l #[v] A' fun e W' =>
      ∃ b : Bool, e = .returned (.bool b) ∧ ItPost (J hi) (Jx hi) pre [M] b W' ∧ ItKeeps (fun k => S0 k ∨ W1.heap.size ≤ k ∧ k < hi) A' W') →
    CallsIn Fence.wide d P g (#[.func (.yield l) #[] #[]] ++ lb) W1 fun e W' => (∃ v, e = .returned v) ∧ ∃ hi b, W1.heap.size ≤ hi ∧ hi ≤ W'.heap.size ∧ ItPost (J hi) (Jx hi) [] all b W'

/-- How a round's body may end. -/
def ItEnd (S : Nat → Prop) (Ix : List (List Int) → World → Prop) (I : List (List Int) → World → Prop) (pre : List (List Int)) (W : World) : Exit → Act → World → Prop
  | .normal, _, W' => KeepsOthers W W' ∧ ItKeeps S W W' ∧ I pre W'
  | .ret, _, W' => KeepsOthers W W' ∧ ItKeeps S W W' ∧ Ix pre W'
  | _, _, _ => False

/-- The caller's invariant bears what the statement and the iterator do: lo is where the iterator's blocks begin, B where the statement's begin. -/
def CallInv (B lo : Nat) (I : Nat → List (List Int) → World → Prop) : Prop :=
  ∀ hi pre A D row, I hi pre A → A.grownBy D row → (∀ r, row = some r → (lo ≤ r ∧ r < hi) ∨ (B ≤ r ∧ ∃ o : Obj, A.heap[r]? = some o ∧ o.isCells = false)) → I hi pre D
theorem CallInv.put {B lo : Nat} {I : Nat → List (List Int) → World → Prop} (h : CallInv B lo I) {hi : Nat} {pre : List (List Int)} {A : World} {l : Nat} {o : Obj} (o' : Obj) (hi' : I hi pre A) (hB : B ≤ l) (hl : A.heap[l]? = some o) (ho : o.isCells = false) : I hi pre (A.putObj l o') :=
  h hi pre A _ (some l) hi' (grownBy_putObj' A l o') (fun r e => by cases e; exact Or.inr ⟨hB, o, hl, ho⟩)

/-- A block that is no cells lies on where the blocks from lo on, cells all of them, are turned. -/
theorem keeps_low {A D : World} {row : Option Nat} {lo k : Nat} {o : Obj} (hg : A.grownBy D row) (hr : ∀ r, row = some r → lo ≤ r) (hk : k < lo) (h : A.heap[k]? = some o) : D.heap[k]? = some o :=
  (hg.block k (heap_lt h) (fun e => by have := hr k e.symm; omega)).trans h

theorem wp_range_it {P : Program} {n gf : Nat} {lb : Array Value} {g : Operand} {p : Tmp} {assign body : Code} {Q : Exit → Act → World → Prop} {a : Act} {w w0 : World} {S0 : Nat → Prop} {all : List (List Int)} {ok : List Int → Prop}
    (hg : a.eval g = .func (.func gf) #[] lb) (eg : ∀ args w, (callFunc gf args).run P w = .ok (.enter gf args) w) (hseq : SeqIt P gf lb S0 all ok w0) (hb0 : Below w0.heap.size w0 w) (hS0 : ∀ k, S0 k → k < w.heap.size)
    (I Ix : Nat → List (List Int) → World → Prop) (hI : CallInv w.heap.size (w.heap.size + 2) I) (hIx : CallInv w.heap.size (w.heap.size + 2) Ix)
    (h0 : ∀ W2, Below w.heap.size w W2 → w.heap.size + 2 ≤ W2.heap.size → I W2.heap.size [] W2) (a₁ : Value → Act)
    (hassign : ∀ (l : Nat) (v : Value) (W : World) (K : Act → World → Prop), K (a₁ v) W → assign.wpIn (Fence.wide.inRound l) n P (Exit.then K (fun _ _ _ => False)) { tmps := a.tmps.setIfInBounds p v, defers := [] } W)
    (hbody : ∀ (l hi : Nat) (pre : List (List Int)) (M : List Int) (v : Value) (A W : World), I hi pre A → w.heap.size + 2 ≤ hi → hi ≤ A.heap.size → A.grownBy W (some l) → w.heap.size ≤ l → (∃ o : Obj, A.heap[l]? = some o ∧ o.isCells = false) → OwnsI W A.heap.size v M → ok M → pre.length < all.length →
      body.wpIn (Fence.wide.inRound l) n P (ItEnd (fun k => S0 k ∨ w.heap.size + 2 ≤ k ∧ k < hi) (Ix hi) (I hi) (pre ++ [M]) W) (a₁ v) W)
    (hdone : ∀ (D hi : Nat) (W : World), w.heap.size ≤ D → I hi all W → W.heap[D]? = some (.deferred (some [])) → Q .normal { a with defers := { target := .collected D, args := #[] } :: a.defers } W)
    (hstop : ∀ (D hi : Nat) (pre : List (List Int)) (W : World), w.heap.size ≤ D → pre <+: all → pre ≠ [] → Ix hi pre W → W.heap[D]? = some (.deferred (some [])) → Code.ret.wpIn Fence.wide n P Q { a with defers := { target := .collected D, args := #[] } :: a.defers } W) :
    (Code.rangeFunc g #[p] assign body).wpIn Fence.wide n P Q a w := by
  refine wpIn_rangeFunc ?_
  intro fn hfn
  obtain ⟨rc, hrc⟩ : ∃ rc : LoopState → Option Code → Loop, rc = fun st pe => { state := st, pending := pe, fn, tmps := a.tmps, params := #[p], assign, body, defers := w.heap.size } := ⟨_, rfl⟩
  obtain ⟨b, hbw⟩ : ∃ b, b = w.heap.size := ⟨_, rfl⟩
  obtain ⟨V, hV⟩ : ∃ V, (w.alloc (.deferred (some []))).alloc (.loop (rc .ready none)) = V := ⟨_, rfl⟩
  have vsz : V.heap.size = b + 2 := by rw [← hV]; simp [hbw]
  have vbel : Below w.heap.size w V := by rw [← hV]; exact below2 w _ _
  have vd : V.heap[b]? = some (.deferred (some [])) := by rw [← hV, hbw]; exact heap_later (heap_new w _) (below1 _ _)
  have vl : V.heap[b + 1]? = some (.loop (rc .ready none)) := by rw [← hV, hbw]; exact heap_new2 w _ _
  refine ⟨b + 1, [{ target := .collected b, args := #[] }], V, { target := .fn (.func gf) lb, args := #[.func (.yield (b + 1)) #[] #[]] }, V, gf, #[.func (.yield (b + 1)) #[] #[]] ++ lb, V, ?_, ?_, fun _ _ => trivial, ?_, fun h => (by cases h), ?_⟩
  · rw [← hV, hrc, hbw]; exact run_enterLoop_outer _ _ _ _ _
  · simp only [resolve, hg]
    simp [go_sem]
  · simp [invoke, go_sem, eg]
  rw [← hbw] at hI hIx hS0 h0 hbody hdone hstop
  have lo : ∀ {row : Option Nat} {hi : Nat}, (∀ r, row = some r → V.heap.size ≤ r ∧ r < hi) → (∀ r, row = some r → b + 2 ≤ r ∧ r < hi) := fun h r e => by rw [← vsz]; exact h r e
  -- what holds between two rounds, with the two facts on the statement's own blocks
  have hcall := hseq (n - 1) (b + 1)
    (fun hi pre W => I hi pre W ∧ W.heap[b + 1]? = some (.loop (rc .ready none)) ∧ W.heap[b]? = some (.deferred (some [])))
    (fun hi pre W => Ix hi pre W ∧ W.heap[b + 1]? = some (.loop (rc .done (some .ret))) ∧ W.heap[b]? = some (.deferred (some [])))
    V (below_seq hb0 vbel)
    (fun hi pre A D row h hgr hr => ⟨hI hi pre A D row h.1 hgr (fun r e => Or.inl (lo hr r e)), keeps_low hgr (fun r e => (lo hr r e).1) (by omega) h.2.1, keeps_low hgr (fun r e => (lo hr r e).1) (by omega) h.2.2⟩)
    (fun hi pre A D row h hgr hr => ⟨hIx hi pre A D row h.1 hgr (fun r e => Or.inl (lo hr r e)), keeps_low hgr (fun r e => (lo hr r e).1) (by omega) h.2.1, keeps_low hgr (fun r e => (lo hr r e).1) (by omega) h.2.2⟩)
    (fun W2 h2 => ⟨h0 W2 (below_seq vbel h2 |>.mono (by rw [hbw]; exact Nat.le_refl _)) (by rw [← vsz]; exact h2.size), heap_later vl h2, heap_later vd h2⟩)
    ?rounds
  case rounds =>
    intro m hi pre M A A' v hJ hlo hhi hbel hown hok hpl
    obtain ⟨hi1, hl, hd⟩ := hJ
    rw [vsz] at hlo
    have hl' := heap_later hl hbel
    have hd' := heap_later hd hbel
    have hy : (Instr.yield (b + 1) #[v]).run P A' = .ok (.round (b + 1) fn (a.tmps.setIfInBounds p v) assign body) A' := by
      have h := run_yield (P := P) (args := #[v]) hl' (by rw [hrc]; rfl)
      rw [hrc] at h
      simpa using h
    obtain ⟨W, hW⟩ : ∃ W, A'.putObj (b + 1) (.loop { rc .ready none with state := .busy }) = W := ⟨_, rfl⟩
    have hbr := run_beginRound (P := P) hl' (by rw [hrc])
    rw [hW] at hbr
    have hgw : A.grownBy W (some (b + 1)) := by rw [← hW]; exact grown_seq (grown_of_below hbel _) (grownBy_putObj' A' (b + 1) _)
    have hw1 : W.heap[b + 1]? = some (.loop { rc .ready none with state := .busy }) := by rw [← hW]; exact World.putObj_heap_same (heap_lt hl')
    have hw0 : W.heap[b]? = some (.deferred (some [])) := by rw [← hW]; exact (World.putObj_heap_other (by omega)).trans hd'
    have how : OwnsI W A.heap.size v M := World.ownsRow.kept hown (by rw [← hW]; exact grownBy_putObj' A' (b + 1) _) (Or.inr (fun e => by
      have h1 := (World.ownsRow.lt hown (b + 1) e).1
      have h2 := heap_lt hl
      omega))
    have hbod := hbody (b + 1) hi pre M v A W hi1 hlo hhi hgw (by omega) ⟨_, hl, rfl⟩ how hok hpl
    have fin : ∀ (jump : Option Code) (W3 : World), KeepsOthers W W3 →
        (Instr.endRound (b + 1) jump).run P W3 = .ok (.bool jump.isNone) (W3.putObj (b + 1) (.loop (rc (if jump.isNone then .ready else .done) jump))) ∧
        (W3.putObj (b + 1) (.loop (rc (if jump.isNone then .ready else .done) jump))).heap[b + 1]? = some (.loop (rc (if jump.isNone then .ready else .done) jump)) ∧
        (W3.putObj (b + 1) (.loop (rc (if jump.isNone then .ready else .done) jump))).heap[b]? = some (.deferred (some [])) ∧ (∃ o : Obj, W3.heap[b + 1]? = some o ∧ o.isCells = false) := fun jump W3 hk => by
      have h3 := hk.same _ _ hw1 rfl
      have hr := run_endRound (P := P) jump h3
      refine ⟨by rw [hrc] at hr ⊢; exact hr, World.putObj_heap_same (heap_lt h3), (World.putObj_heap_other (by omega)).trans (hk.same _ _ hw0 rfl), _, h3, rfl⟩
    -- of the iterator's blocks, and of those that it reads, the statement's own two are none
    have put_keeps : ∀ (X : World) (o : Obj), ItKeeps (fun k => S0 k ∨ V.heap.size ≤ k ∧ k < hi) X (X.putObj (b + 1) o) := fun X o => ⟨by simp, fun k hk _ => World.putObj_heap_other (fun e => by
      rcases hk with h | h
      · have := hS0 k h; omega
      · rw [vsz] at h; omega)⟩
    have wid : ∀ {X Y : World}, ItKeeps (fun k => S0 k ∨ b + 2 ≤ k ∧ k < hi) X Y → ItKeeps (fun k => S0 k ∨ V.heap.size ≤ k ∧ k < hi) X Y := fun h => by rw [vsz]; exact h
    refine YieldAt.anyDepth' (m := n) rfl m ?_
    refine ⟨fn, _, assign, body, hy, roundIn_of_wpIn hfn ?_⟩
    refine hassign (b + 1) v A' _ ?_
    refine ⟨W, hbr, wpIn_mono hbod ?_⟩
    intro e a3 W3 hp
    cases e with
    | normal =>
      obtain ⟨hk, hks, hi3⟩ := hp
      obtain ⟨hr, hl4, hd4, o3, h3, h3'⟩ := fin none W3 hk
      exact ⟨_, _, hr, true, rfl, ⟨fun _ => ⟨hI.put _ hi3 (by omega) h3 h3', hl4, hd4⟩, fun h => (by cases h)⟩, (ItKeeps.trans (by rw [← hW]; exact put_keeps A' _) (wid hks)).trans (put_keeps W3 _)⟩
    | ret =>
      obtain ⟨hk, hks, hi3⟩ := hp
      obtain ⟨hr, hl4, hd4, o3, h3, h3'⟩ := fin (some .ret) W3 hk
      exact ⟨_, _, hr, false, rfl, ⟨fun h => (by cases h), fun _ => ⟨[M], List.prefix_refl _, by simp, hIx.put _ hi3 (by omega) h3 h3', hl4, hd4⟩⟩, (ItKeeps.trans (by rw [← hW]; exact put_keeps A' _) (wid hks)).trans (put_keeps W3 _)⟩
    | exit id => exact hp.elim
    | goto t => exact hp.elim
    | panic ch => exact hp.elim
    | outgrown => exact hp.elim
  refine hcall.mono ?_
  rintro e W2 ⟨⟨v, rfl⟩, hi, bb, _, _, hp⟩
  cases bb with
  | true =>
    obtain ⟨hi2, hl, hd⟩ := hp.1 rfl
    exact ⟨none, _, by have := run_endLoop (P := P) hl (by rw [hrc]; simp); rw [hrc] at this; exact this, hdone b hi _ (by omega) (hI.put _ hi2 (by omega) hl rfl) ((World.putObj_heap_other (by omega)).trans hd)⟩
  | false =>
    obtain ⟨q, hq, hne, hi2, hl, hd⟩ := hp.2 rfl
    exact ⟨some .ret, _, by have := run_endLoop (P := P) hl (by rw [hrc]; simp); rw [hrc] at this; exact this, hstop b hi q _ (by omega) hq hne (hIx.put _ hi2 (by omega) hl rfl) ((World.putObj_heap_other (by omega)).trans hd)⟩

end Go.Proofs.Ytknigcjpgkolgaa

namespace Go.Proofs.Ytknigcjpgkolgaa
open Go.RowKit Go.Shelf
set_option linter.unusedVariables false
set_option maxRecDepth 100000
set_option linter.unusedSimpArgs false
attribute [local go_sem] Oper.semAt_some

/-- What comes is a tiling, of as many entries as the field has cells. -/
def TilIs (W T : Int) (xs : List Bool) (n : Nat) (M : List Int) : Prop := M.length = n ∧ tok W T xs M = true

set_option maxHeartbeats 4000000 in
theorem compl1_seq (rb lbx : Nat) (W T : Int) (a : Option Addr) (n c : Nat) (xs : List Bool) (la : Option Addr) (lc : Nat) (L : List Int) (f : Nat) (S0 : Nat → Prop) (w : World)
    (hn : n = xs.length) (hn' : n ≤ 1048576) (hl : lok W T xs L = true) (hf : freeN xs L < f) (hreg : w.heap[rb]? = some (.cells #[.int .i64 W, .int .i64 T, .slice a n c] 25 (0, 0)))
    (hlb : w.heap[lbx]? = some (.cells #[.slice la n lc] 26 (0, 0))) (hx : BoolsAt w a xs) (hL : IntsAt w la L) (hS : S0 rb) (hSa : ∀ b off, a = some ⟨b, off, none⟩ → S0 b) :
    SeqIt Try.prog 149 #[.pointer (some ⟨lbx, 0, none⟩), .pointer (some ⟨rb, 0, none⟩)] S0 (allL W T xs f L) (TilIs W T xs n) w := by
  have hdd : ∀ k : Nat, (Fence.wide.depth.isSome = true → 1 ≤ k) := fun k h => by cases h
  intro d l J Jx W1 hb hJ hJx hJ0 hY
  obtain ⟨hr, hlen, _⟩ := lok_rv hl
  obtain ⟨v1, v2, v3, v4, v5, _⟩ := rv_true hr
  have hn0 : 0 < n := rv_pos v1 v3 (by rw [hn]; exact v5)
  have HLen : Hid (n = L.length) := by show n = _; rw [hn, hlen]
  have hreg1 := heap_later hreg hb
  have hlb1 := heap_later hlb hb
  have hx1 := hx.below hb
  have hL1 := hL.below hb
  have hab : ∀ b off, a = some ⟨b, off, none⟩ → b < W1.heap.size := by
    intro b off e
    obtain ⟨b', off', e', hc⟩ := hx1 0 (by omega)
    rw [e'] at e
    cases e
    exact World.block_lt_of_cell? W1 _ hc
  clear hreg hlb hx hL hb
  have HN := Lib.hid hn; clear hn
  have HR := Lib.hid hr; clear hr
  have HL := Lib.hid hl; clear hl
  have HF := Lib.hid hf; clear hf
  have HJ := Lib.hid hJ; clear hJ
  have HJX := Lib.hid hJx; clear hJx
  have HJ0 := Lib.hid hJ0; clear hJ0
  have HY := Lib.hid hY; clear hY
  have HSA := Lib.hid hSa; clear hSa
  have HS0 := Lib.hid hS; clear hS
  have HAB := Lib.hid hab; clear hab
  have HX := Lib.hid hx1; clear hx1
  have HLI := Lib.hid hL1; clear hL1
  have HV5 := Lib.hid v5; clear v5
  have HREG := Lib.hid hreg1; clear hreg1
  clear hlen
  have cl := cell1 hlb1
  have llb := heap_lt hlb1
  have lrb := heap_lt HREG.out
  have HLB := Lib.hid hlb1; clear hlb1
  refine callsIn_of_wp Try.func149 rfl trivial ?_ rfl
  simp only [Try.ntmps149, List.size_toArray, List.length_cons, List.length_nil, Nat.reduceAdd, Nat.reduceSub, Array.replicate_succ, Array.replicate_zero, List.push_toArray, List.append_toArray, List.nil_append, List.cons_append]
  gi_wp2_with ((try refine ⟨trivial, hdd _, ?_⟩); gi_at_call 87; refine (callsIn_wide.2 (clone_own _ _ _ L _ HLen.out hn0 hn' (HLI.out.one _))).mono ?_; rintro e w2 ⟨g2, cap2, rfl, ho2, hb2⟩; have HO2 := Lib.hid ho2; clear ho2; have HB2 := Lib.hid hb2; clear hb2)
  obtain ⟨W3, hW3⟩ : ∃ W3, (w2.alloc (.cells #[.slice (some ⟨g2, 0, none⟩) n cap2] 26)).alloc (.cells #[.func (.func 150) #[] #[.pointer (some ⟨rb, 0, none⟩), .pointer (some ⟨w2.heap.size, 0, none⟩), .pointer (some ⟨W1.heap.size, 0, none⟩), .pointer (some ⟨w2.heap.size + 1, 0, none⟩)]] 86) = W3 := ⟨_, rfl⟩
  rw [hW3]
  have s3 : W3.heap.size = w2.heap.size + 2 := by rw [← hW3]; simp
  have b2 : Below W1.heap.size W1 w2 := below_seq (below1 _ _) HB2.out
  have b3 : Below W1.heap.size W1 W3 := by rw [← hW3]; exact below_seq b2 (below2 _ _ _)
  have s2 : W1.heap.size + 1 ≤ w2.heap.size := by have := HB2.out.size; simpa using this
  have hg := OwnsI.lt HO2.out
  simp only [World.size_alloc] at hg
  have hit : ItAt W3 l rb w2.heap.size W1.heap.size (w2.heap.size + 1) g2 cap2 (W1.heap.size + 1) W T a n c xs L := by
    refine ⟨heap_later HREG.out b3, HX.out.below b3, ?_, ?_, ?_, ?_⟩
    · rw [← hW3]; exact heap_later (heap_new w2 _) (below1 _ _)
    · rw [← hW3]; exact heap_later (heap_later (heap_new W1 _) HB2.out) (below2 _ _ _)
    · rw [← hW3]; exact heap_new2 w2 _ _
    · rw [← hW3]; exact (show OwnsI w2 (W1.heap.size + 1) _ L by have := HO2.out; simpa using this).below (below2 _ _ _)
  have HIT := Lib.hid hit; clear hit
  have HJ1 : Hid (J W3.heap.size [] W3) := HJ0.out W3 b3
  have hS : ItS (fun k => S0 k ∨ W1.heap.size ≤ k ∧ k < W3.heap.size) rb w2.heap.size W1.heap.size (w2.heap.size + 1) g2 a := by
    refine ⟨Or.inl HS0.out, fun b off e => Or.inl (HSA.out b off e), ?_, ?_, ?_, ?_⟩
    all_goals exact Or.inr ⟨by omega, by omega⟩
  have hcall := layFrom_in (fun k => S0 k ∨ W1.heap.size ≤ k ∧ k < W3.heap.size) l rb w2.heap.size W1.heap.size (w2.heap.size + 1) g2 cap2 (W1.heap.size + 1) W T a n c xs W3.heap.size (allL W T xs f L).length (J W3.heap.size) (Jx W3.heap.size)
    HN.out hn' HR.out hS (fun b off e => by have := HAB.out b off e; omega)
    (fun pre A D h1 h2 => HJ.out _ _ _ _ _ h1 h2 (fun r e => by cases e; omega))
    (fun pre A D h1 h2 => HJX.out _ _ _ _ _ h1 h2 (fun r e => by cases e; omega))
    (fun m pre M A A' v h1 h2 h3 h4 h5 h6 h7 => HY.out m W3.heap.size pre M A A' v h1 b3.size h2 h3 h4 ⟨h5, h6⟩ h7)
    f (d - 1) 0 [] L W3 HF.out HL.out (fun j h1 h2 => absurd h2 (Nat.not_lt_zero _)) (Nat.zero_le _) HJ1.out (Nat.le_refl _) HIT.out (by simp)
  clear hS HIT HJ1 hg hW3
  refine ⟨trivial, hdd _, ?_⟩
  refine (show CallsIn Fence.wide (d - 1) _ _ #[.int .i64 0, _, _, _, _] W3 _ from hcall).mono ?_
  rintro e w4 ⟨b, rfl, hp, _, h4⟩
  gi_wp2
  go_end0
  exact ⟨⟨_, rfl⟩, W3.heap.size, b, b3.size, h4, hp⟩

set_option maxHeartbeats 1000000 in
theorem compl_any (W T : Int) (a : Option Addr) (n c : Nat) (la : Option Addr) (m lc : Nat) (w : World) :
    Calls Try.prog 126 #[.agg #[.int .i64 W, .int .i64 T, .slice a n c], .slice la m lc] w fun e w' => e = .returned (.func (.func 149) #[] #[.pointer (some ⟨w.heap.size + 1, 0, none⟩), .pointer (some ⟨w.heap.size, 0, none⟩)]) ∧
      w' = (w.alloc (.cells #[.int .i64 W, .int .i64 T, .slice a n c] 25)).alloc (.cells #[.slice la m lc] 26) := by
  go_enter Try.func126, Try.ntmps126
  go_wp2
  go_ret
  exact ⟨rfl, rfl⟩
end Go.Proofs.Ytknigcjpgkolgaa
