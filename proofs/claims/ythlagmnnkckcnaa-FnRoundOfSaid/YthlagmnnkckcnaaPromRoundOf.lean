/- The law FnRoundOf: its walk. -/
import Derived.Test.YthlagmnnkckcnaaDraw7
import Derived.Test.YthlagmnnkckcnaaSame
import Derived.Test.YthlagmnnkckcnaaRnd
import Derived.Test.YthlagmnnkckcnaaBeside
import Derived.Test.YthlagmnnkckcnaaBox
namespace Go.Proofs.Ythlagmnnkckcnaa
open Go.RowKit
set_option linter.unusedVariables false
set_option maxRecDepth 100000
set_option linter.unusedSimpArgs false

/-- The way goes round: every cell once, each beside the next one. -/
def rdGoodB (W T : Nat) : Bool :=
  let L := roundF W T
  (L.length == W * T) && (L.getD 0 0 == 0) && (List.range (W * T)).all fun k =>
    decide (0 ≤ L.getD k 0) && decide (L.getD k 0 < W * T) && ((List.range 4).any fun (d : Nat) => stepI W T (L.getD k 0) ((d : Int) + 1) == L.getD ((k + 1) % (W * T)) 0) && !(L.take k).contains (L.getD k 0)
set_option maxRecDepth 100000 in
theorem rdGood_all : ∀ W : Fin 8, ∀ T : Fin 8, rdOk (W.val : Int) (T.val : Int) = true → rdGoodB W.val T.val = true := by decide +kernel

theorem IntsAt.take7 {w : World} {a : Option Addr} {xs : List Int} (h : IntsAt w a xs) (k : Nat) : IntsAt w a (xs.take k) := by
  intro i hi
  rw [List.length_take] at hi
  obtain ⟨b, off, rfl, hc⟩ := h i (by omega)
  have e : (xs.take k).getD i 0 = xs.getD i 0 := by simp [List.getD, show i < k by omega]
  exact ⟨b, off, rfl, by rw [e]; exact hc⟩

theorem OwnsI.capLe {w : World} {B n cap : Nat} {a : Option Addr} {L : List Int} (h : OwnsI w B (.slice a n cap) L) : n ≤ cap := by
  rcases h.2 with ⟨h1, h2⟩ | ⟨g, cap', cur, hv, _, _, h6, _⟩
  · simp only [Value.slice.injEq] at h1; omega
  · simp only [Value.slice.injEq] at hv; omega

def goB (W T c nx : Int) (j : Nat) : Bool := (List.range j).any fun (d : Nat) => stepI W T c ((d : Int) + 1) == nx
theorem goB_succ (W T c nx : Int) (j : Nat) : goB W T c nx (j + 1) = (goB W T c nx j || (stepI W T c ((j : Int) + 1) == nx)) := by
  unfold goB; rw [List.range_succ, List.any_append]; simp

set_option maxHeartbeats 4000000 in
theorem promRoundOf_walk (cb : Option Addr) (n cap : Nat) (zs : List Int) (w : World) (hn : n = zs.length) (hn' : n ≤ maxLen) (hcap : n ≤ cap) (hb : BytesAt w cb zs) :
    Calls Try.prog 5 #[.slice cb n cap] w fun e w' => e = .returned (.bool true) ∧ Below w.heap.size w w' := by
  have HN := Lib.hid hn; clear hn
  have HB := Lib.hid hb; clear hb
  by_cases hbig : 1048576 < n
  · unfold maxLen at hn'
    go_enter Try.func5, Try.ntmps5
    go_wp2
    go_ret
    exact ⟨rfl, Below.refl _ _⟩
  have hsm : n ≤ 1048576 := by omega
  clear hbig hn'
  go_enter Try.func5, Try.ntmps5
  go_wp2_with fail
  refine (drawRoundOf_any _ _ _ zs _ HN.out hsm hcap HB.out).mono ?_; rintro e w1 ⟨x, y, hx, hy, rfl, b1⟩
  have hI : Hid (∀ w : World, Calls Try.prog 26 #[.int .i64 x, .int .i64 y] w (RetL w (roundF x y).length (roundF x y))) := fun w => iRoundOf_ret x y w (by omega) (by omega)
  have hS : Hid (∀ w : World, Calls Try.prog 27 #[.int .i64 x, .int .i64 y] w (RetL w (roundF x y).length (roundF x y))) := fun w => sRoundOf_ret x y w (by omega) (by omega)
  have hlen := roundF_le x y
  have hno : rdOk x y = false → (roundF x y).length = 0 := fun h => by unfold roundF; rw [h]; rfl
  have hyes : rdOk x y = true → (roundF x y).length = x * y ∧ (roundF x y).getD 0 0 = 0 ∧ ∀ k, k < x * y → 0 ≤ (roundF x y).getD k 0 ∧ (roundF x y).getD k 0 < x * y ∧ goB x y ((roundF x y).getD k 0) ((roundF x y).getD ((k + 1) % (x * y)) 0) 4 = true ∧ ((roundF x y).take k).contains ((roundF x y).getD k 0) = false := by
    intro h
    have hg := rdGood_all ⟨x, hx⟩ ⟨y, hy⟩ h
    unfold rdGoodB at hg
    simp only [Bool.and_eq_true, beq_iff_eq, List.all_eq_true, List.mem_range, decide_eq_true_eq, Bool.not_eq_true'] at hg
    obtain ⟨⟨g1, g2⟩, g3⟩ := hg
    exact ⟨g1, g2, fun k hk => by obtain ⟨⟨⟨a1, a2⟩, a3⟩, a4⟩ := g3 k hk; exact ⟨a1, a2, a3, a4⟩⟩
  have HNO := Lib.hid hno; clear hno
  have HYES := Lib.hid hyes; clear hyes
  generalize roundF x y = L at hI hS hlen HNO HYES
  obtain ⟨q, hq⟩ : ∃ q, q = L.length := ⟨_, rfl⟩
  rw [← hq] at hlen hI hS HNO HYES
  have HQ := Lib.hid hq; clear hq
  go_wp2_with fail
  refine (hI.out _).mono ?_; rintro e w2 ⟨la, lcap, rfl, ho2, hb2⟩
  have b2 := below_seq b1 hb2
  have L2 := Lib.hid (OwnsI.at ho2)
  have hcq : q ≤ lcap := OwnsI.capLe ho2
  clear ho2 b1 hb2
  go_wp2_with fail
  refine (hS.out _).mono ?_; rintro e w3 ⟨lb, lcb, rfl, ho3, hb3⟩
  have b3 := below_seq b2 hb3
  have L3 := Lib.hid (L2.out.below hb3)
  have M3 := Lib.hid (OwnsI.at ho3); clear ho3 b2 hb3 L2
  go_wp2_with fail
  refine (sameInts_any _ _ _ _ _ L L _ HQ.out HQ.out (by omega) L3.out M3.out).mono ?_; rintro e w4 ⟨rfl, hb4⟩
  have hdl : decide (L = L) = true := by simp
  rw [hdl]
  clear hdl
  have b4 := below_seq b3 hb4
  have L4 := Lib.hid (L3.out.below hb4)
  clear b3 hb4 L3 M3
  cases hok : rdOk x y
  · have hq0 := HNO.out hok
    subst hq0
    clear hok
    go_wp2_with fail
    refine (alive_any _).mono ?_; rintro e w6 ⟨rfl, hb6⟩
    go_wp2
    go_ret
    exact ⟨rfl, below_seq b4 hb6⟩
  · obtain ⟨hqx, h0, hK⟩ := HYES.out hok
    have hd : 2 ≤ (x : Int) ∧ (x : Int) ≤ 6 ∧ 2 ≤ (y : Int) ∧ (y : Int) ≤ 6 ∧ (x : Int) * y ≤ 24 ∧ (x : Int) * y % 2 = 0 := of_decide_eq_true hok
    obtain ⟨d1, d2, d3, d4, d5, _⟩ := hd
    have hq4 : 4 ≤ q := by rw [hqx]; exact Nat.mul_le_mul (show 2 ≤ x by omega) (show 2 ≤ y by omega)
    have hqi : (x : Int) * y = q := by rw [hqx]; simp
    have hbx : boxB x y = true := by unfold boxB sidesB; simp; omega
    have hrv : rv x y (List.replicate q true) = true := by
      unfold rv cnt; rw [decide_eq_true_eq, List.length_replicate, List.countP_replicate]; simp; omega
    have H0 := Lib.hid h0; clear h0
    rw [← hqx] at hK
    have HK := Lib.hid hK; clear hK
    have HQI := Lib.hid hqi; clear hqi
    have HQX := Lib.hid hqx; clear hqx
    have HRV := Lib.hid hrv; clear hrv
    have hqq : ¬ q = 0 := by omega
    clear hok
    go_wp2_with fail
    refine (iRegionBox_yes x y q _ hbx HQI.out).mono ?_; rintro e w5 ⟨g5, rfl, ho5, hb5⟩
    have b5 := below_seq b4 hb5
    have L5 := Lib.hid (L4.out.below hb5)
    obtain ⟨w6, hw6⟩ : ∃ w6, w6 = w5.alloc (.cells #[.int .i64 x, .int .i64 y, .slice (some ⟨g5, 0, none⟩) q q] 25) := ⟨_, rfl⟩
    have p6 : w6.heap[w5.heap.size]? = some (.cells #[.int .i64 x, .int .i64 y, .slice (some ⟨g5, 0, none⟩) q q] 25 (0, 0)) := by rw [hw6]; exact heap_new _ _
    have b6 : Below w.heap.size w w6 := by rw [hw6]; exact below_seq b5 (below1 _ _)
    have L6 : Hid (IntsAt w6 la L) := by rw [hw6]; exact L5.out.one _
    have A6 : Hid (BoolsAt w6 (some ⟨g5, 0, none⟩) (List.replicate q true)) := by rw [hw6]; exact (OwnsB.at ho5).one _
    clear ho5 hb5 b4 b5 L4 L5
    have P6 := Lib.hid p6; clear p6
    have hqm : (List.replicate q true).length = q := by simp
    have HQM := Lib.hid hqm; clear hqm
    go_wp2_with fail
    rw [← hw6]
    clear hw6
    go_loopw [7, 8, 9, 10] (fun i _ _ _ wr => ∃ k : Nat, k ≤ q ∧ i = .int .i64 k ∧ Below w6.heap.size w6 wr) (fun i _ _ _ _ => q - (intOf i).toNat)
    case atStart => exact ⟨0, Nat.zero_le _, rfl, Below.refl _ _⟩
    case round =>
      rename World => wr
      obtain ⟨k, hk, rfl, hbel⟩ := hrel
      have BEL := Lib.hid hbel; clear hbel
      by_cases hlt : k < q
      · have LR := Lib.hid (L6.out.below BEL.out)
        have hmod := Nat.mod_lt (k + 1) (show 0 < q by omega)
        obtain ⟨lbk, lo, rfl, hcn⟩ := LR.out ((k + 1) % q) (by rw [← HQ.out]; exact hmod)
        obtain ⟨N, hN⟩ : ∃ N, N = (k + 1) % q := ⟨_, rfl⟩
        rw [← hN] at hcn hmod
        have hN2 : ((k : Int) + 1) % q = N := by rw [hN]; simp
        obtain ⟨c1, c2, c3, c4⟩ := HK.out k hlt
        rw [← hN] at c3
        obtain ⟨c, hc⟩ : ∃ c, c = L.getD k 0 := ⟨_, rfl⟩
        obtain ⟨nx, hnx⟩ : ∃ nx, nx = L.getD N 0 := ⟨_, rfl⟩
        rw [← hc] at c1 c2 c3 c4
        rw [← hnx] at c3 hcn
        have HC := Lib.hid hc; clear hc
        have HC3 := Lib.hid c3; clear c3
        have HC4 := Lib.hid c4; clear c4
        clear hN hnx
        have e1 : (k : Int) < q := by omega
        have e2 : (N : Int) < q := by omega
        have q0 : (q : Int) ≠ 0 := by omega
        have e3 : ((N : Int)).toNat = N := by omega
        go_wp2_with fail
        clear hN2 e2 e3 q0 hmod
        go_loopw [9, 10] (fun f i wr => ∃ j : Nat, j ≤ 4 ∧ i = .int .i64 ((j : Int) + 1) ∧ f = .bool (goB x y c nx j) ∧ Below w6.heap.size w6 wr) (fun _ i _ => 5 - (intOf i).toNat)
        case atStart => exact ⟨0, Nat.zero_le _, rfl, rfl, BEL.out⟩
        case round =>
          clear BEL LR hcn
          rename World => wq
          obtain ⟨j, hj, rfl, rfl, hbel⟩ := hrel
          have BEL := Lib.hid hbel; clear hbel
          by_cases hj4 : j < 4
          · have j1 : (j : Int) + 1 ≤ 4 := by omega
            have hs := goB_succ x y c nx j
            cases hg : goB x y c nx j
            · rw [hg, Bool.false_or] at hs
              have hst : stepTo x y (List.replicate q true) c ((j : Int) + 1) = stepI x y c ((j : Int) + 1) := by
                unfold stepTo cellB; rw [HRV.out, if_pos rfl, HQM.out, if_pos ⟨c1, by rw [← HQI.out]; exact c2⟩]
              obtain ⟨v, hv⟩ : ∃ v, v = stepI x y c ((j : Int) + 1) := ⟨_, rfl⟩
              rw [← hv] at hs hst
              have HST := Lib.hid hst; clear hst hv
              have HS := Lib.hid hs; clear hs
              have HG := Lib.hid hg; clear hg
              have LR := Lib.hid (L6.out.below BEL.out)
              have PR := Lib.hid (heap_later P6.out BEL.out)
              have hcl := LR.out k (by rw [← HQ.out]; exact hlt)
              obtain ⟨b9, o9, he9, hcl⟩ := hcl
              simp only [Option.some.injEq, Addr.mk.injEq, and_true] at he9
              obtain ⟨rfl, rfl⟩ := he9
              rw [← HC.out] at hcl
              obtain ⟨c0, c1', c2'⟩ := cells3 PR.out
              go_wp2_with fail
              go_region_held3 (fun w' => w'.cell? ⟨w5.heap.size, 0, none⟩ = some (.int .i64 x) ∧ w'.cell? ⟨w5.heap.size, 1, none⟩ = some (.int .i64 y) ∧ w'.cell? ⟨w5.heap.size, 2, none⟩ = some (.slice (some ⟨g5, 0, none⟩) q q) ∧ w'.cell? ⟨lbk, lo + k, none⟩ = some (.int .i64 c))
                (go_keep)
                (first | (go_at_call 29; refine (iStepTo_any x y (some ⟨g5, 0, none⟩) q q (List.replicate q true) c ((j : Int) + 1) _ HQM.out.symm (by omega) (A6.out.below (below_seq BEL.out (drew_below _)))).mono ?_; rintro e wA ⟨rfl, hbA⟩; have pA := heap_later (heap_later PR.out (drew_below _)) hbA; obtain ⟨t0, t1, t2⟩ := cells3 pA; have hclA := cell_later hbA (cell_later (drew_below _) hcl)))
              rw [HST.out]
              have BA := Lib.hid (below_seq BEL.out (below_seq (drew_below _) hbA))
              go_wp2
              go_roundw
              case rel => exact ⟨j + 1, by omega, by go_num, by rw [HS.out], BA.out⟩
              case measure => simp [intOf]; omega
            · rw [hg, Bool.true_or] at hs
              have HG := Lib.hid hg; clear hg
              have HS := Lib.hid hs; clear hs
              go_wp2
              go_big_quiet (fail)
              go_wp2
              go_roundw
              case rel => exact ⟨j + 1, by omega, by go_num, by rw [HS.out], below_seq BEL.out (drewN_below _ _)⟩
              case measure => simp [intOf]; omega
          · obtain rfl : j = 4 := by omega
            rw [HC3.out]
            have LR := Lib.hid (L6.out.below BEL.out)
            obtain ⟨b9, o9, he9, hcl⟩ := LR.out k (by rw [← HQ.out]; exact hlt)
            simp only [Option.some.injEq, Addr.mk.injEq, and_true] at he9
            obtain ⟨rfl, rfl⟩ := he9
            rw [← HC.out] at hcl
            have htk : k = (L.take k).length := by rw [List.length_take, ← HQ.out]; omega
            have HTK := Lib.hid htk; clear htk
            have HHH : Hid (∀ q9, Calls Try.prog 20 #[.slice (some ⟨lbk, lo, none⟩) k lcap, .int .i64 c] (wq.drewN q9) fun e w' => e = .returned (.bool false) ∧ w' = wq.drewN q9) := fun q9 => by
              have h := hasInt_any (some ⟨lbk, lo, none⟩) k lcap (L.take k) c (wq.drewN q9) HTK.out (by omega) (show IntsAt wq _ _ from LR.out.take7 k)
              rw [HC4.out] at h; exact h
            have k1 : (k : Int) ≤ lcap := by omega
            have k2 : k ≤ lcap := by omega
            have k3 : ((k : Int)).toNat = k := by omega
            go_wp2
            go_big_quiet ((go_at_call 20; go_must (exact Calls.quiet_of_same (HHH.out _))))
            go_wp2
            go_roundw
            case rel => exact ⟨k + 1, by omega, by go_num, below_seq BEL.out (drewN_below _ _)⟩
            case measure => simp [intOf]; omega
      · obtain rfl : k = q := by omega
        have LR := Lib.hid (L6.out.below BEL.out)
        obtain ⟨lbk, lo, rfl, hcn⟩ := LR.out 0 (by rw [← HQ.out]; omega)
        rw [H0.out, Nat.add_zero] at hcn
        have hqe : ((k : Int) == (x : Int) * y) = true := by rw [beq_iff_eq]; exact HQI.out.symm
        have hxy := HQI.out
        go_wp2
        go_ret
        exact ⟨rfl, below_seq b6 BEL.out⟩

end Go.Proofs.Ythlagmnnkckcnaa
