/- The law FnUpOf: its walk. -/
import Derived.Test.YtpcajacekmidbaaGreatKDownI
import Derived.Test.YtpcajacekmidbaaGreatKGrtI
namespace Go.Proofs.YtpcajacekmidbaaGreat
open Go.RowKit
set_option linter.unusedVariables false
set_option maxRecDepth 100000
set_option linter.unusedSimpArgs false

theorem sgn_true {W T : Int} {xs : List Bool} {X H : List Int} {N : Nat} (h : HtsOf W T xs X H N) : sgnL true W T xs H N = H := by
 refine ext_getD (by rw [sgnL_len, h.len]) fun k hk => ?_
 rw [sgnL_len] at hk
 rw [sgnL_get hk]
 cases ha : hAt W T xs k
 · rw [if_neg (by simp), h.off k hk ha]
 · rfl
set_option maxHeartbeats 4000000 in
theorem iHighest_ret (W T : Int) (a : Option Addr) (n cap : Nat) (xs : List Bool) (X : List Int) (ok : Bool) (w : World) (hn : n = xs.length) (hn' : n ≤ 1048576) (hE : LowRes true W T xs X ok) (ha : BoolsAt w a xs) :
 Calls Tryz.prog 20 #[.agg #[.int .i64 W, .int .i64 T, .slice a n cap]] w (RetLT w X.length X ok) := by
 have HN := Lib.hid hn; clear hn
 have HA := Lib.hid ha; clear ha
 obtain ⟨wA, hwA⟩ : ∃ wA, wA = w.alloc (.cells #[.int .i64 W, .int .i64 T, .slice a n cap] 25) := ⟨_, rfl⟩
 have pA : wA.heap[w.heap.size]? = some (.cells #[.int .i64 W, .int .i64 T, .slice a n cap] 25 (0, 0)) := by rw [hwA]; exact heap_new _ _
 have bA : Below w.heap.size w wA := by rw [hwA]; exact below1 _ _
 obtain ⟨c0, c1, c2⟩ := cells3 pA
 cases h1 : simpleB W T xs
 · obtain ⟨rfl, rfl⟩ : X = [] ∧ ok = false := by
    rcases hE with ⟨_, H, hs, _⟩ | ⟨e1, e2, _⟩
    · rw [h1] at hs; cases hs
    · exact ⟨e2, e1⟩
   have HS := Lib.hid h1; clear h1 hE
   go_enter Tryz.func20, Tryz.ntmps20
   go_wp2_with fail
   rw [← hwA]; clear hwA
   refine (iSimple_any _ _ _ _ _ xs _ HN.out hn' (HA.out.below bA)).mono ?_; rintro e w1 ⟨rfl, hb1⟩
   rw [HS.out]
   go_wp2
   go_ret2
   exact ⟨none, 0, rfl, OwnsI.nil _ _, below_seq bA hb1⟩
 obtain ⟨N, fk, hN, hf⟩ := hokP_size h1
 obtain ⟨v1, v2, v3, v4, v5, v6⟩ := rv_true (simpleB_rv h1)
 have hcb := corn_bd v1 v2 v3 v4
 have hN49 : N ≤ 49 := by omega
 -- the heights that are made, and what they tell
 have hC : ∃ P : List Int → Prop, (∀ w1 : World, BoolsAt w1 a xs → Calls Tryz.prog 43 #[.agg #[.int .i64 W, .int .i64 T, .slice a n cap], .func (.func 44) #[] #[]] w1 fun e w' => ∃ C : List Int, C.length = N ∧ P C ∧ RetL w1 N C e w') ∧ ∀ C, C.length = N → P C → tbyF W T xs C = (X, ok) := by
  rcases hE with ⟨rfl, H, hE⟩ | ⟨rfl, rfl, hno⟩
  · have hG := edge_gt hN hf hE
    obtain ⟨hs, ht, hH, _⟩ := hE
    have hHf : HtsOf W T xs X H N := by
     rcases hH with ⟨_, h⟩ | ⟨h, _⟩
     · rw [show ((W + 1) * (T + 1)).toNat = N by omega] at h; exact h
     · rw [hs, ht] at h; cases h
    refine ⟨fun C => C = sgnL true W T xs H N, fun w1 h => ?_, fun C _ e => ?_⟩
    · exact (great_high W T a n cap xs N fk _ w1 HN.out hn' h h1 hN hG).mono fun e w' hr => ⟨_, sgnL_len _ _ _ _ _ _, rfl, hr⟩
    · rw [e, sgn_true hHf]; exact (tby_of hs ht hH).2
  · have hno' : ∀ L, tok W T xs L = false := by
     rcases hno with h | h
     · rw [h1] at h; cases h
     · exact h
    refine ⟨fun _ => True, fun w1 h => ?_, fun C _ _ => tby_no (hok_none hno' _)⟩
    exact (weak_high W T a n cap xs N fk w1 HN.out hn' h h1 hN hf).mono fun e w' ⟨C, hl, hr⟩ => ⟨C, hl, trivial, hr⟩
 obtain ⟨P, hP1, hP2⟩ := hC
 have HS := Lib.hid h1
 have HP1 := Lib.hid hP1; clear hP1
 have HP2 := Lib.hid hP2; clear hP2
 clear h1 hE hN hf v5 v6 hcb
 go_enter Tryz.func20, Tryz.ntmps20
 go_wp2_with fail
 rw [← hwA]; clear hwA
 refine (iSimple_any _ _ _ _ _ xs _ HN.out hn' (HA.out.below bA)).mono ?_; rintro e w1 ⟨rfl, hb1⟩
 rw [HS.out]
 have b1 := below_seq bA hb1
 have p1 := heap_later pA hb1
 clear c0 c1 c2
 obtain ⟨c0, c1, c2⟩ := cells3 p1
 go_wp2_with fail
 have PD : w1.drew.heap[w.heap.size]? = some _ := p1
 go_region_held3 (fun w' => w'.cell? ⟨w.heap.size, 0, none⟩ = some (.int .i64 W) ∧ w'.cell? ⟨w.heap.size, 1, none⟩ = some (.int .i64 T) ∧ w'.cell? ⟨w.heap.size, 2, none⟩ = some (.slice a n cap))
  (go_keep)
  (first
    | (go_at_call 41; refine (iTilingBy_ret _ _ _ _ _ xs _ _ _ C _ HN.out hn' HCR.out (by omega) (A2.out) (OwnsI.at O2.out)).mono ?_; rintro e w3 ⟨a3, cap3, rfl, ho3, hb3⟩; rw [HT.out] at ho3 ⊢; simp only at ho3 ⊢; have p3 := heap_later p2 hb3; have b3 := below_seq b2 hb3; have O3 := Lib.hid (ho3.lower (show w.heap.size ≤ w2.heap.size from b2.size)); obtain ⟨d30, d31, d32⟩ := cells3 p3)
    | (go_at_call 43; refine (HP1.out _ (HA.out.below (below_seq b1 (drew_below _)))).mono ?_; rintro e w2 ⟨C, hCl, hPC, a2, cap2, rfl, ho2, hb2⟩; have HT := Lib.hid (HP2.out C hCl hPC); have HCR : Hid (N = (C).length) := Lib.hid (by rw [hCl]); clear hCl hPC; have p2 := heap_later PD hb2; have b2 : Below w.heap.size w w2 := below_seq b1 (below_seq (drew_below _) hb2); have A2 := Lib.hid (HA.out.below b2); have O2 := Lib.hid ho2; clear ho2; obtain ⟨d20, d21, d22⟩ := cells3 p2))
 all_goals
  go_wp2
  go_ret2
  exact ⟨a3, cap3, rfl, O3.out, b3⟩

end Go.Proofs.YtpcajacekmidbaaGreat

namespace Go.Proofs.YtpcajacekmidbaaGreat
open Go.RowKit
set_option linter.unusedVariables false
set_option maxRecDepth 100000
set_option linter.unusedSimpArgs false

set_option maxHeartbeats 8000000 in
theorem promUpOf_walk (cb : Option Addr) (n cap : Nat) (zs : List Int) (w : World) (hn : n = zs.length) (hn' : n ≤ maxLen) (hcap : n ≤ cap) (hb : BytesAt w cb zs) :
 Calls Tryz.prog 4 #[.slice cb n cap] w fun e w' => e = .returned (.bool true) ∧ Below w.heap.size w w' := by
 have HN := Lib.hid hn; clear hn
 have HB := Lib.hid hb; clear hb
 by_cases hbig : 1048576 < n
 · unfold maxLen at hn'
   go_enter Tryz.func4, Tryz.ntmps4
   go_wp2
   go_ret
   exact ⟨rfl, Below.refl _ _⟩
 have hsm : n ≤ 1048576 := by omega
 clear hbig hn'
 go_enter Tryz.func4, Tryz.ntmps4
 go_wp2_with fail
 refine (drawUpOf_any _ _ _ zs _ HN.out hsm hcap HB.out).mono ?_; rintro e w1 ⟨W0, T0, a, m, c, xs, la, q, lcap, L, rfl, hm, h36, hs, ho, hq, hq36, hi, b1⟩
 have HM := Lib.hid hm; clear hm
 have HQ := Lib.hid hq; clear hq
 have A1 := Lib.hid (OwnsB.at ho); clear ho
 have I1 := Lib.hid (OwnsI.at hi); clear hi
 obtain ⟨s0, s1, s2, s3⟩ := hs
 obtain ⟨U, hU⟩ : ∃ U, downF (4) W0 T0 xs L = U := ⟨_, rfl⟩
 obtain ⟨u, hu⟩ : ∃ u, u = U.length := ⟨_, rfl⟩
 have hu49 : u ≤ 49 := by have := downF_len (4) W0 T0 xs L; rw [hU, ← hu] at this; exact this
 have HD := Lib.hid hU
 have HU := Lib.hid hu
 clear hu
 go_wp2_with fail
 refine (iUpOf_ret _ _ _ _ _ xs _ _ _ L _ HM.out (by omega) HQ.out (by omega) (A1.out.one _) (I1.out.one _)).mono ?_; rintro e w2 ⟨a2, cap2, rfl, ho2, hb2⟩
 rw [HD.out] at ho2 ⊢
 rw [← HU.out] at ho2 ⊢
 have b2 := below_seq (below_seq b1 (below1 _ _)) hb2
 have pr2 := heap_later (heap_new w1 (.cells #[.int .i64 W0, .int .i64 T0, .slice a m c] 25)) hb2
 have A2 := Lib.hid ((A1.out.one (.cells #[.int .i64 W0, .int .i64 T0, .slice a m c] 25)).below hb2)
 have I2 := Lib.hid ((I1.out.one (.cells #[.int .i64 W0, .int .i64 T0, .slice a m c] 25)).below hb2)
 have U2 := Lib.hid (OwnsI.at ho2)
 obtain ⟨cr20, cr21, cr22⟩ := cells3 pr2
 have lr2 := heap_lt pr2
 clear ho2
 go_wp2_with fail
 refine (sUpOf_ret _ _ _ _ _ xs _ _ _ L _ HM.out (by omega) HQ.out (by omega) A2.out I2.out).mono ?_; rintro e w3 ⟨a3, cap3, rfl, ho3, hb3⟩
 rw [HD.out] at ho3 ⊢
 rw [← HU.out] at ho3 ⊢
 have b3 := below_seq b2 hb3
 have pr3 := heap_later pr2 hb3
 have A3 := Lib.hid (A2.out.below hb3)
 have I3 := Lib.hid (I2.out.below hb3)
 have U3 := Lib.hid (U2.out.below hb3)
 have Y3 := Lib.hid (OwnsI.at ho3)
 clear cr20 cr21 cr22 lr2
 obtain ⟨cr30, cr31, cr32⟩ := cells3 pr3
 have lr3 := heap_lt pr3
 clear ho3
 go_wp2_with fail
 refine (sameInts_same _ _ _ _ _ U _ HU.out (by omega) U3.out Y3.out).mono ?_; rintro e w4 ⟨rfl, hb4⟩
 have b4 := below_seq b3 hb4
 have pr4 := heap_later pr3 hb4
 have A4 := Lib.hid (A3.out.below hb4)
 have I4 := Lib.hid (I3.out.below hb4)
 have U4 := Lib.hid (U3.out.below hb4)
 have Y4 := Lib.hid (Y3.out.below hb4)
 clear cr30 cr31 cr32 lr3
 obtain ⟨cr40, cr41, cr42⟩ := cells3 pr4
 have lr4 := heap_lt pr4
 cases hs : simpleB W0 T0 xs
 · have e9 : U = [] := by
    rw [← HD.out]; unfold downF
    apply List.eq_nil_iff_forall_not_mem.2
    intro c9 h9
    rw [List.mem_filter] at h9
    have h10 := h9.2
    unfold riseF at h10
    rw [hs, Bool.false_and, Bool.false_and] at h10
    simp at h10
   have hu0 : u = 0 := by rw [HU.out, e9]; rfl
   subst hu0
   have HS := Lib.hid hs; clear hs
   go_wp2_with fail
   refine (sSimple_any _ _ _ _ _ xs _ HM.out (by omega) A4.out).mono ?_; rintro e w5 ⟨rfl, hb5⟩
   rw [HS.out]
   have b5 := below_seq b4 hb5
   have pr5 := heap_later pr4 hb5
   have A5 := Lib.hid (A4.out.below hb5)
   have I5 := Lib.hid (I4.out.below hb5)
   have U5 := Lib.hid (U4.out.below hb5)
   clear cr40 cr41 cr42 lr4
   obtain ⟨cr50, cr51, cr52⟩ := cells3 pr5
   have lr5 := heap_lt pr5
   go_wp2_with fail
   refine (alive_any _).mono ?_; rintro e w6 ⟨rfl, hb6⟩
   go_wp2
   go_ret
   exact ⟨rfl, below_seq b5 hb6⟩
 cases ht : tok W0 T0 xs L
 · have e9 : U = [] := by
    rw [← HD.out]; unfold downF
    apply List.eq_nil_iff_forall_not_mem.2
    intro c9 h9
    rw [List.mem_filter] at h9
    have h10 := h9.2
    unfold riseF at h10
    rw [ht, Bool.and_false, Bool.false_and] at h10
    simp at h10
   have hu0 : u = 0 := by rw [HU.out, e9]; rfl
   subst hu0
   have HS := Lib.hid hs; clear hs
   have HT := Lib.hid ht; clear ht
   go_wp2_with fail
   refine (sSimple_any _ _ _ _ _ xs _ HM.out (by omega) A4.out).mono ?_; rintro e w5 ⟨rfl, hb5⟩
   rw [HS.out]
   have b5 := below_seq b4 hb5
   have pr5 := heap_later pr4 hb5
   have A5 := Lib.hid (A4.out.below hb5)
   have I5 := Lib.hid (I4.out.below hb5)
   have U5 := Lib.hid (U4.out.below hb5)
   clear cr40 cr41 cr42 lr4
   obtain ⟨cr50, cr51, cr52⟩ := cells3 pr5
   have lr5 := heap_lt pr5
   go_wp2_with fail
   refine (sTilingOk_any _ _ _ _ _ xs _ _ _ L _ HM.out (by omega) HQ.out (by omega) A5.out I5.out).mono ?_; rintro e w6 ⟨rfl, hb6⟩
   rw [HT.out]
   have b6 := below_seq b5 hb6
   have pr6 := heap_later pr5 hb6
   have A6 := Lib.hid (A5.out.below hb6)
   have I6 := Lib.hid (I5.out.below hb6)
   have U6 := Lib.hid (U5.out.below hb6)
   clear cr50 cr51 cr52 lr5
   obtain ⟨cr60, cr61, cr62⟩ := cells3 pr6
   have lr6 := heap_lt pr6
   go_wp2_with fail
   refine (alive_any _).mono ?_; rintro e w7 ⟨rfl, hb7⟩
   go_wp2
   go_ret
   exact ⟨rfl, below_seq b6 hb7⟩
 · obtain ⟨X, ok, hE⟩ := lowRes_exist true W0 T0 xs
   obtain ⟨rfl, H0, hE'⟩ : ok = true ∧ ∃ H0, EdgeR true W0 T0 xs X H0 := by
    rcases hE with ⟨e, h⟩ | ⟨_, _, h⟩
    · exact ⟨e, h⟩
    · exfalso
      rcases h with h | h
      · rw [hs] at h; cases h
      · have := h L; rw [ht] at this; cases this
   obtain ⟨x0, hx0⟩ : ∃ x0, x0 = X.length := ⟨_, rfl⟩
   have hx0q : x0 = q := by rw [hx0, HQ.out, (lok_rv (tok_lok1 hE'.2.1)).2.1, (lok_rv (tok_lok1 ht)).2.1]
   obtain rfl := hx0q
   have hway := way_edge true hE' ht
   simp only [Bool.false_eq_true, if_false, if_true] at hway
   rw [hU] at hway
   obtain ⟨e, he⟩ : ∃ e, decide (X = L) = e := ⟨_, rfl⟩
   have hue : ((u : Int) == 0) = e := by
    rw [← he]
    apply Bool.eq_iff_iff.2
    rw [beq_iff_eq, decide_eq_true_eq, ← hway]
    constructor
    · intro h; exact List.eq_nil_of_length_eq_zero (by rw [← HU.out]; omega)
    · intro h; rw [h] at HU; have := HU.out; simp at this; omega
   have hee : (e == e) = true := by simp
   have hasc := downF_asc (4) W0 T0 xs L
   rw [hU, ← HU.out] at hasc
   have hall := ways_all hs ht
   have HS := Lib.hid hs
   have HT := Lib.hid ht
   have HE := Lib.hid hE
   have HEE := Lib.hid hE'
   have HX0 := Lib.hid hx0
   have HDE := Lib.hid he
   have HASC := Lib.hid hasc
   clear hs ht hE hE' hx0 he hasc hway
   rw [hU] at hall
   obtain ⟨V, hV⟩ : ∃ V, downF (-4) W0 T0 xs L = V := ⟨_, rfl⟩
   obtain ⟨v, hv⟩ : ∃ v, v = V.length := ⟨_, rfl⟩
   obtain ⟨G, hG⟩ : ∃ G, flipsF W0 T0 xs L = G := ⟨_, rfl⟩
   obtain ⟨g, hg⟩ : ∃ g, g = G.length := ⟨_, rfl⟩
   have hg49 : g ≤ 49 := by have := flipsF_len W0 T0 xs L; rw [hG, ← hg] at this; exact this
   rw [hV, hG, ← HU.out, ← hv, ← hg] at hall
   have hsum : ((u : Int) + (v : Int) == (g : Int)) = true := by simp; omega
   have hwr : IntKind.i64.wrap ((u : Int) + (v : Int)) = (u : Int) + (v : Int) := IntWalk.i64_in _ (by omega)
   have HV := Lib.hid hV
   have Hv := Lib.hid hv
   have HG := Lib.hid hG
   have Hg := Lib.hid hg
   clear hV hv hG hg hU
   go_wp2_with fail
   refine (sSimple_any _ _ _ _ _ xs _ HM.out (by omega) A4.out).mono ?_; rintro e w5 ⟨rfl, hb5⟩
   rw [HS.out]
   have b5 := below_seq b4 hb5
   have pr5 := heap_later pr4 hb5
   have A5 := Lib.hid (A4.out.below hb5)
   have I5 := Lib.hid (I4.out.below hb5)
   have U5 := Lib.hid (U4.out.below hb5)
   clear cr40 cr41 cr42 lr4
   obtain ⟨cr50, cr51, cr52⟩ := cells3 pr5
   have lr5 := heap_lt pr5
   go_wp2_with fail
   refine (sTilingOk_any _ _ _ _ _ xs _ _ _ L _ HM.out (by omega) HQ.out (by omega) A5.out I5.out).mono ?_; rintro e w6 ⟨rfl, hb6⟩
   rw [HT.out]
   have b6 := below_seq b5 hb6
   have pr6 := heap_later pr5 hb6
   have A6 := Lib.hid (A5.out.below hb6)
   have I6 := Lib.hid (I5.out.below hb6)
   have U6 := Lib.hid (U5.out.below hb6)
   clear cr50 cr51 cr52 lr5
   obtain ⟨cr60, cr61, cr62⟩ := cells3 pr6
   have lr6 := heap_lt pr6
   go_wp2_with fail
   refine (iHighest_ret _ _ _ _ _ xs X true _ HM.out (by omega) HE.out A6.out).mono ?_; rintro e w7 ⟨a7, cap7, rfl, ho7, hb7⟩
   rw [← HX0.out] at ho7 ⊢
   have b7 := below_seq b6 hb7
   have pr7 := heap_later pr6 hb7
   have A7 := Lib.hid (A6.out.below hb7)
   have I7 := Lib.hid (I6.out.below hb7)
   have U7 := Lib.hid (U6.out.below hb7)
   have Z7 := Lib.hid (OwnsI.at ho7)
   clear cr60 cr61 cr62 lr6
   obtain ⟨cr70, cr71, cr72⟩ := cells3 pr7
   have lr7 := heap_lt pr7
   clear ho7
   cases e
   all_goals
    go_wp2_with fail
    have prd7 : w7.drew.heap[w1.heap.size]? = some (.cells #[.int .i64 W0, .int .i64 T0, .slice a m c] 25 (0, 0)) := pr7
    have Ad7 : Hid (BoolsAt w7.drew a xs) := A7
    have Id7 : Hid (IntsAt w7.drew la L) := I7
    have Ud7 : Hid (IntsAt w7.drew a2 U) := U7
    have Zd7 : Hid (IntsAt w7.drew a7 X) := Z7
    have bd7 : Below w.heap.size w w7.drew := below_seq b7 (drew_below _)
    go_region_held3 (fun w' => w'.cell? ⟨w1.heap.size, 0, none⟩ = some (.int .i64 W0) ∧ w'.cell? ⟨w1.heap.size, 1, none⟩ = some (.int .i64 T0) ∧ w'.cell? ⟨w1.heap.size, 2, none⟩ = some (.slice a m c))
     (go_keep)
     (first
       | (go_at_call 21; refine (iFlipsOf_ret _ _ _ _ _ xs _ _ _ L _ HM.out (by omega) HQ.out (by omega) A10.out I10.out).mono ?_; rintro e w11 ⟨a11, cap11, rfl, ho11, hb11⟩; rw [HG.out, ← Hg.out]; clear ho11; have b11 := below_seq b10 hb11; have pr11 := heap_later pr10 hb11; have A11 := Lib.hid (A10.out.below hb11); have I11 := Lib.hid (I10.out.below hb11); have U11 := Lib.hid (U10.out.below hb11); have Z11 := Lib.hid (Z10.out.below hb11); obtain ⟨cr110, cr111, cr112⟩ := cells3 pr11; have lr11 := heap_lt pr11)
       | (go_at_call 7; refine (iDownOf_ret _ _ _ _ _ xs _ _ _ L _ HM.out (by omega) HQ.out (by omega) A9.out I9.out).mono ?_; rintro e w10 ⟨a10, cap10, rfl, ho10, hb10⟩; rw [HV.out, ← Hv.out]; clear ho10; have b10 := below_seq b9 hb10; have pr10 := heap_later pr9 hb10; have A10 := Lib.hid (A9.out.below hb10); have I10 := Lib.hid (I9.out.below hb10); have U10 := Lib.hid (U9.out.below hb10); have Z10 := Lib.hid (Z9.out.below hb10); obtain ⟨cr100, cr101, cr102⟩ := cells3 pr10; have lr10 := heap_lt pr10)
       | (go_at_call 8; refine (sameInts_any _ _ _ _ _ X L _ HX0.out HQ.out (by omega) Z8.out I8.out).mono ?_; rintro e w9 ⟨rfl, hb9⟩; rw [HDE.out]; have b9 := below_seq b8 hb9; have pr9 := heap_later pr8 hb9; have A9 := Lib.hid (A8.out.below hb9); have I9 := Lib.hid (I8.out.below hb9); have U9 := Lib.hid (U8.out.below hb9); have Z9 := Lib.hid (Z8.out.below hb9); obtain ⟨cr90, cr91, cr92⟩ := cells3 pr9; have lr9 := heap_lt pr9)
       | (go_at_call 16; refine (ascend_yes _ _ _ U _ HU.out (by omega) Ud7.out HASC.out).mono ?_; rintro e w8 ⟨rfl, hb8⟩; have b8 := below_seq bd7 hb8; have pr8 := heap_later prd7 hb8; have A8 := Lib.hid (Ad7.out.below hb8); have I8 := Lib.hid (Id7.out.below hb8); have U8 := Lib.hid (Ud7.out.below hb8); have Z8 := Lib.hid (Zd7.out.below hb8); obtain ⟨cr80, cr81, cr82⟩ := cells3 pr8; have lr8 := heap_lt pr8))
    go_wp2
    go_ret
    exact ⟨rfl, b11⟩

end Go.Proofs.YtpcajacekmidbaaGreat
