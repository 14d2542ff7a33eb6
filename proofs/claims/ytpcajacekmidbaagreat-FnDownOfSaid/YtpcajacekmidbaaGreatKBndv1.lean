/- Contracts of impl.boundsOf and of the closure of impl.leastHeights. -/
import Derived.Test.YtpcajacekmidbaaGreatKBnd
import Derived.Test.YtpcajacekmidbaaGreatKHtsI
namespace Go.Proofs.YtpcajacekmidbaaGreat
open Go.RowKit
set_option linter.unusedVariables false
set_option maxRecDepth 100000
set_option linter.unusedSimpArgs false

theorem nil_nilV (w : World) : Sem.run Tryz.prog (binOp BinOp.eql 26 (.slice none 0 0) (.slice none 0 0)) w = Result.ok (.bool true) w := by kernel_rfl
theorem some_nilV (g n c : Nat) (w : World) : Sem.run Tryz.prog (binOp BinOp.eql 26 (.slice (some ⟨g, 0, none⟩) n c) (.slice none 0 0)) w = Result.ok (.bool false) w := by kernel_rfl
attribute [local go_sem] nil_nilV some_nilV

theorem HtsR.entry {W T : Int} {xs : List Bool} {L H : List Int} (h : HtsR W T xs L H) {k : Nat} (hk : k < H.length) : -49 ≤ H.getD k 0 ∧ H.getD k 0 ≤ 99 := by
 rcases h with ⟨_, hH⟩ | ⟨_, rfl⟩
 · rw [hH.len] at hk
   cases ha : hAt W T xs k
   · have := hH.off k hk ha; omega
   · have := hH.bd k hk ha; omega
 · simp at hk
theorem HtsR.same {W T : Int} {xs : List Bool} {L H L' H' : List Int} (h : HtsR W T xs L H) (h' : HtsR W T xs L' H') (h0 : 0 < H.length) (h1 : 0 < H'.length) : H.length = H'.length := by
 rcases h with ⟨_, hH⟩ | ⟨_, rfl⟩
 · rcases h' with ⟨_, hH'⟩ | ⟨_, rfl⟩
   · rw [hH.len, hH'.len]
   · simp at h1
 · simp at h0
set_option maxHeartbeats 4000000 in
theorem iHeightsOf_nil (W T : Int) (a : Option Addr) (n cap : Nat) (xs : List Bool) (la0 : Option Addr) (m lcap : Nat) (L : List Int) (w : World) (hn : n = xs.length) (hn' : n ≤ 1048576) (hm : m = L.length) (hm' : m ≤ 1048576) (ha : BoolsAt w a xs) (hl : IntsAt w la0 L) (hH : HtsR W T xs L []) :
 Calls Tryz.prog 39 #[.agg #[.int .i64 W, .int .i64 T, .slice a n cap], .slice la0 m lcap] w fun e w' => e = .returned (.slice none 0 0) ∧ Below w.heap.size w w' := by
 have HN := Lib.hid hn; clear hn
 have HM := Lib.hid hm; clear hm
 have HA := Lib.hid ha; clear ha
 have HL := Lib.hid hl; clear hl
 obtain ⟨wA, hwA⟩ : ∃ wA, wA = (w.alloc (.cells #[.int .i64 W, .int .i64 T, .slice a n cap] 25)).alloc (.cells #[.slice la0 m lcap] 26) := ⟨_, rfl⟩
 have pA : wA.heap[w.heap.size]? = some (.cells #[.int .i64 W, .int .i64 T, .slice a n cap] 25 (0, 0)) := by rw [hwA]; exact heap_later (heap_new w _) (below1 _ _)
 have qA : wA.heap[w.heap.size + 1]? = some (.cells #[.slice la0 m lcap] 26 (0, 0)) := by rw [hwA]; have := heap_new (w.alloc (.cells #[.int .i64 W, .int .i64 T, .slice a n cap] 25)) (.cells #[.slice la0 m lcap] 26); simpa using this
 have bA : Below w.heap.size w wA := by rw [hwA]; exact below_seq (below1 _ _) (below1 _ _)
 have one : ∀ {w' : World} {b : Nat}, w'.heap[b]? = some (.cells #[.slice la0 m lcap] 26 (0, 0)) → w'.cell? ⟨b, 0, none⟩ = some (.slice la0 m lcap) := fun h => by simp [World.cell?, h]
 cases h1 : simpleB W T xs
 · have HS := Lib.hid h1; clear h1 hH one
   obtain ⟨c0, c1, c2⟩ := cells3 pA
   go_enter Tryz.func39, Tryz.ntmps39
   go_wp2_with fail
   rw [← hwA]; clear hwA
   refine (iSimple_any _ _ _ _ _ xs _ HN.out hn' (HA.out.below bA)).mono ?_; rintro e w1 ⟨rfl, hb1⟩
   rw [HS.out]
   go_wp2
   go_ret
   exact ⟨rfl, below_seq bA hb1⟩
 have h2 : tok W T xs L = false := by
  rcases hH with ⟨q, hq⟩ | ⟨q, _⟩
  · rw [Bool.and_eq_true] at q
    obtain ⟨v1, v2, v3, v4, v5, v6⟩ := rv_true (simpleB_rv q.1)
    have hcb := corn_bd v1 v2 v3 v4
    have := hq.len; simp at this; omega
  · rw [h1] at q; simpa using q
 have HS := Lib.hid h1; have HT := Lib.hid h2; clear h1 h2 hH
 obtain ⟨c0, c1, c2⟩ := cells3 pA
 have c3 := one qA
 go_enter Tryz.func39, Tryz.ntmps39
 go_wp2_with fail
 rw [← hwA]; clear hwA
 refine (iSimple_any _ _ _ _ _ xs _ HN.out hn' (HA.out.below bA)).mono ?_; rintro e w1 ⟨rfl, hb1⟩
 rw [HS.out]
 have b1 := below_seq bA hb1
 obtain ⟨d0, d1, d2⟩ := cells3 (heap_later pA hb1)
 have d3 := one (heap_later qA hb1)
 clear one
 go_wp2_with fail
 refine (iTilingOk_any _ _ _ _ _ xs _ _ _ L _ HN.out hn' HM.out hm' (HA.out.below b1) (HL.out.below b1)).mono ?_; rintro e w2 ⟨rfl, hb2⟩
 rw [HT.out]
 go_wp2
 go_ret
 exact ⟨rfl, below_seq b1 hb2⟩
def RetN (w : World) (H : List Int) (e : Ending) (w' : World) : Prop := ∃ a cap, e = .returned (.slice a H.length cap) ∧ OwnsI w' w.heap.size (.slice a H.length cap) H ∧ ((H = [] ∧ a = none ∧ cap = 0) ∨ (0 < H.length ∧ ∃ g, a = some ⟨g, 0, none⟩)) ∧ Below w.heap.size w w'
theorem iHeightsOf_n (W T : Int) (a : Option Addr) (n cap : Nat) (xs : List Bool) (la0 : Option Addr) (m lcap : Nat) (L : List Int) (H : List Int) (w : World) (hn : n = xs.length) (hn' : n ≤ 1048576) (hm : m = L.length) (hm' : m ≤ 1048576) (ha : BoolsAt w a xs) (hl : IntsAt w la0 L) (hH : HtsR W T xs L H) :
 Calls Tryz.prog 39 #[.agg #[.int .i64 W, .int .i64 T, .slice a n cap], .slice la0 m lcap] w (RetN w H) := by
 cases H with
 | nil => exact (iHeightsOf_nil W T a n cap xs la0 m lcap L w hn hn' hm hm' ha hl hH).mono fun e w' ⟨h1, h2⟩ => ⟨none, 0, h1, OwnsI.nil _ _, Or.inl ⟨rfl, rfl, rfl⟩, h2⟩
 | cons x H =>
   refine (iHeightsOf_ret W T a n cap xs la0 m lcap L (x :: H) w hn hn' hm hm' ha hl hH).mono ?_
   rintro e w' ⟨a', c', h1, h2, h3⟩
   obtain ⟨g, pc, hv, _⟩ := h2.pos (by simp)
   simp only [Value.slice.injEq] at hv
   exact ⟨a', c', h1, h2, Or.inr ⟨by simp, g, hv.1⟩, h3⟩

end Go.Proofs.YtpcajacekmidbaaGreat

namespace Go.Proofs.YtpcajacekmidbaaGreat
open Go.RowKit
set_option linter.unusedVariables false
set_option maxRecDepth 100000
set_option linter.unusedSimpArgs false

set_option maxHeartbeats 4000000 in
theorem turnTwo_yes (W T : Int) (a : Option Addr) (n cap : Nat) (xs : List Bool) (g lcap B : Nat) (L : List Int) (c : Int) (w : World) (hn : n = xs.length) (hn' : n ≤ 1048576) (hm : n = L.length) (hk : lok W T xs L = true) (hc0 : -9223372036854775808 ≤ c) (hc1 : c ≤ 9223372036854775807) (ha : BoolsAt w a xs) (w0 : World) (ha0 : BoolsAt w0 a xs) (hB : w0.heap.size ≤ B) (ho : OwnsI w B (.slice (some ⟨g, 0, none⟩) n lcap) L) (h : mayB W T L c = true) :
 Calls Tryz.prog 38 #[.agg #[.int .i64 W, .int .i64 T, .slice a n cap], .slice (some ⟨g, 0, none⟩) n lcap, .int .i64 c] w fun e w' => e = .returned (.bool true) ∧ OwnsI w' B (.slice (some ⟨g, 0, none⟩) n lcap) (flipL W T L c) ∧ w.grownBy w' (some g) := by
 obtain ⟨hr, _, _⟩ := lok_rv hk
 obtain ⟨v1, v2, v3, v4, v5, _⟩ := rv_true hr
 obtain ⟨k, wn, hWn, hw2, hsq, hbd, hF, hx, hd, _⟩ := may_at hk h
 have h12 : ∃ x v : Int, L.getD k 0 = x ∧ (x = 1 ∧ v = 2 ∨ x = 2 ∧ v = 1) := by
  rcases hd with ⟨d1, _⟩ | ⟨d1, _⟩
  · exact ⟨1, 2, d1, Or.inl ⟨rfl, rfl⟩⟩
  · exact ⟨2, 1, d1, Or.inr ⟨rfl, rfl⟩⟩
 obtain ⟨x, v, hxv, h12⟩ := h12
 obtain ⟨o, p, o1, p1, b1, oa, pd, n0, st, n1, st1, k1, k2, efl⟩ := flip_steps hk h hWn hsq v (by rw [hxv]; rcases h12 with ⟨rfl, rfl⟩ | ⟨rfl, rfl⟩ <;> rfl)
 have HWT : Hid ((n : Int) = W * T) := by show _ = _; rw [hn]; exact v5
 have n36 : n ≤ 36 := by
  have : W * T ≤ 6 * 6 := Int.mul_le_mul v2 v4 (by omega) (by omega)
  have := HWT.out; omega
 have ed : (k : Int) + W + 1 = (k + wn + 1 : Nat) := by rw [hWn]; omega
 rw [← hm] at o1 p1 b1 st st1
 obtain ⟨d, hdd⟩ : ∃ d, d = k + wn + 1 := ⟨_, rfl⟩
 rw [← hdd] at ed b1 pd n1 st1 k1 k2 efl
 have hkn : k < n := by omega
 obtain ⟨L1, hL1⟩ : ∃ L1, L1 = (L.set o 0).set k 0 := ⟨_, rfl⟩
 rw [← hL1] at n1 st1 k1 k2 efl
 obtain ⟨L2, hL2⟩ : ∃ L2, L2 = (L1.set p 0).set d 0 := ⟨_, rfl⟩
 rw [← hL2] at k1 k2 efl
 obtain ⟨L3, hL3⟩ : ∃ L3, L3 = laidL W T xs L2 k v := ⟨_, rfl⟩
 rw [← hL3] at k2 efl
 have HM1 : Hid (n = L1.length) := by show _ = _; rw [hL1, hm]; simp
 have HM2 : Hid (n = L2.length) := by show _ = _; rw [hL2, HM1.out]; simp
 have HM3 : Hid (n = L3.length) := by show _ = _; rw [hL3, HM2.out, laidL_len]
 have HL1 := Lib.hid hL1; have HL2 := Lib.hid hL2; have HL3 := Lib.hid hL3; have EFL := Lib.hid efl; have ED := Lib.hid ed; have OA := Lib.hid oa; have PD := Lib.hid pd
 have HST := Lib.hid st; have HST1 := Lib.hid st1; have HN0 := Lib.hid n0; have HN1 := Lib.hid n1; have K1 := Lib.hid k1; have K2 := Lib.hid k2
 have HXV := Lib.hid hxv; have HF := Lib.hid hF; have SQ := Lib.hid hsq
 have HN := Lib.hid hn; have HM := Lib.hid hm; have HA := Lib.hid ha; have HA0 := Lib.hid ha0; have HO := Lib.hid ho; have HK := Lib.hid hk; have H := Lib.hid h
 clear hL1 hL2 hL3 efl ed oa pd st st1 n0 n1 k1 k2 hxv hF hsq hn hm ha ha0 ho hk h hdd hd hx hbd hw2 hWn v5 hr
 rename_i u1 u2 u3 u4
 clear u1 u2 u3 u4
 have hke : (k : Int) < n := by omega
 have hgl := HO.out.lt
 rcases h12 with ⟨rfl, rfl⟩ | ⟨rfl, rfl⟩
 all_goals
  go_enter Tryz.func38, Tryz.ntmps38
  go_wp2_with fail
  refine (twoAround_any _ _ _ _ _ xs _ _ L _ _ HN.out HM.out HK.out hc0 hc1 ((OwnsI.at HO.out).one _)).mono ?_; rintro e w1 ⟨rfl, hb1⟩
  rw [H.out]
  have b1' := below_seq (below1 w _) hb1
  have P1 := heap_later (heap_new w _) hb1
  obtain ⟨c10, c11, c12⟩ := cells3 P1
  go_wp2_with fail
  refine (southWestOf_any _ _ _ _ _ _ _ v1 v2 v3 v4 hc0 hc1).mono ?_; rintro e w2 ⟨rfl, hb2⟩
  rw [HF.out, SQ.out]
  have b2 := below_seq b1' hb2
  have P2 := heap_later P1 hb2
  clear c10 c11 c12 P1
  obtain ⟨c20, c21, c22⟩ := cells3 P2
  go_wp2_with fail
  refine (northEastOf_any _ _ _ _ _ _ _ v1 v2 (by omega) (by omega)).mono ?_; rintro e w3 ⟨rfl, hb3⟩
  rw [ED.out]
  have b3 := below_seq b2 hb3
  have P3 := heap_later P2 hb3
  clear c20 c21 c22 P2
  obtain ⟨c30, c31, c32⟩ := cells3 P3
  have O3 := Lib.hid (HO.out.below b3)
  have qa := O3.out.cell (k := k) (by rw [← HM.out]; exact hkn)
  rw [HXV.out] at qa
  have A3 := Lib.hid (HA.out.below b3)
  have hgne : g ≠ w.heap.size := by omega
  go_wp2_with fail
  refine (liftUp_yes _ _ _ _ _ _ _ _ L k o _ hn' HM.out v1 v2 v3 v4 HWT.out hkn o1 OA.out HN0.out HST.out O3.out).mono ?_; rintro e w4 ⟨rfl, ho4, hg4⟩
  rw [← HL1.out] at ho4
  have O4 := Lib.hid ho4; clear ho4
  have G4 := Lib.hid hg4
  have P4 := heap_grown P3 hg4 (fun e => hgne (by cases e; rfl))
  clear c30 c31 c32 qa hg4
  obtain ⟨c40, c41, c42⟩ := cells3 P4
  go_wp2_with fail
  refine (liftUp_yes _ _ _ _ _ _ _ _ L1 d p _ hn' HM1.out v1 v2 v3 v4 HWT.out b1 p1 PD.out HN1.out HST1.out O4.out).mono ?_; rintro e w5 ⟨rfl, ho5, hg5⟩
  rw [← HL2.out] at ho5
  have O5 := Lib.hid ho5; clear ho5
  have G5 := Lib.hid (grown_seq G4.out hg5)
  have P5 := heap_grown P4 hg5 (fun e => hgne (by cases e; rfl))
  clear c40 c41 c42 hg5 P4
  obtain ⟨c50, c51, c52⟩ := cells3 P5
  have hg0 : ∀ k, some g = some k → w0.heap.size ≤ k := fun k e => by cases e; omega
  have A5 := Lib.hid (BoolsAt.grown A3.out HA0.out G5.out hg0)
  go_wp2_with fail
  refine (layDown_any _ _ _ _ _ xs _ _ _ L2 _ _ _ HN.out hn' HM2.out v1 v2 v3 v4 HWT.out A5.out O5.out).mono ?_; rintro e w6 ⟨rfl, ho6, hg6⟩
  rw [← HL3.out] at ho6
  have O6 := Lib.hid ho6; clear ho6
  have G6 := Lib.hid (grown_seq G5.out hg6)
  have P6 := heap_grown P5 hg6 (fun e => hgne (by cases e; rfl))
  clear c50 c51 c52 hg6 P5
  obtain ⟨c60, c61, c62⟩ := cells3 P6
  have A6 := Lib.hid (BoolsAt.grown A3.out HA0.out G6.out hg0)
  have Q6 : w6.drew.heap[w.heap.size]? = some _ := P6
  rw [K1.out]
  go_wp2_with fail
  go_region_held3 (fun w' => w'.cell? ⟨w.heap.size, 0, none⟩ = some (.int .i64 W) ∧ w'.cell? ⟨w.heap.size, 1, none⟩ = some (.int .i64 T) ∧ w'.cell? ⟨w.heap.size, 2, none⟩ = some (.slice a n cap))
   (go_keep)
   (first
     | (go_at_call 78; refine (opposite_same _ _ (by decide) (by decide)).mono ?_; rintro e w7 ⟨rfl, rfl⟩)
     | (go_at_call 77; refine (layDown_any _ _ _ _ _ xs _ _ _ L3 _ _ _ HN.out hn' HM3.out v1 v2 v3 v4 HWT.out (show BoolsAt w6.drew _ xs from A6.out) (show OwnsI w6.drew _ _ _ from O6.out)).mono ?_; rintro e w7 ⟨rfl, ho7, hg7⟩; have P7 := heap_grown Q6 hg7 (fun e => hgne (by cases e; rfl)); obtain ⟨c70, c71, c72⟩ := cells3 P7))
  rw [EFL.out] at ho7
  go_wp2
  go_ret
  exact ⟨rfl, ho7, grown_seq (grown_of_below b3 _) (grown_seq G6.out (grown_seq (grown_of_below (drew_below _) _) hg7))⟩
end Go.Proofs.YtpcajacekmidbaaGreat

namespace Go.Proofs.YtpcajacekmidbaaGreat
open Go.RowKit
set_option linter.unusedVariables false
set_option maxRecDepth 100000
set_option linter.unusedSimpArgs false

end Go.Proofs.YtpcajacekmidbaaGreat

namespace Go.Proofs.YtpcajacekmidbaaGreat
open Go.RowKit
set_option linter.unusedVariables false
set_option maxRecDepth 100000
set_option linter.unusedSimpArgs false

end Go.Proofs.YtpcajacekmidbaaGreat

namespace Go.Proofs.YtpcajacekmidbaaGreat
open Go.RowKit Go.Shelf
set_option linter.unusedVariables false
set_option maxRecDepth 100000
set_option linter.unusedSimpArgs false

set_option maxHeartbeats 4000000 in
theorem sDownOf_ret (W T : Int) (a : Option Addr) (n cap : Nat) (xs : List Bool) (la : Option Addr) (m lcap : Nat) (L : List Int) (w : World) (hn : n = xs.length) (hn' : n ≤ 1048576) (hm : m = L.length) (hm' : m ≤ 1048576) (ha : BoolsAt w a xs) (hl : IntsAt w la L) :
 Calls Tryz.prog 9 #[.agg #[.int .i64 W, .int .i64 T, .slice a n cap], .slice la m lcap] w (RetL w (downF (-4) W T xs L).length (downF (-4) W T xs L)) := by
 have HN := Lib.hid hn; clear hn
 have HM := Lib.hid hm; clear hm
 have HA := Lib.hid ha; clear ha
 have HL := Lib.hid hl; clear hl
 obtain ⟨wA, hwA⟩ : ∃ wA, wA = (w.alloc (.cells #[.int .i64 W, .int .i64 T, .slice a n cap] 25)).alloc (.cells #[] 3 (0, 0)) := ⟨_, rfl⟩
 have pA : wA.heap[w.heap.size]? = some (.cells #[.int .i64 W, .int .i64 T, .slice a n cap] 25 (0, 0)) := by rw [hwA]; exact heap_later (heap_new w _) (below1 _ _)
 have bA : Below w.heap.size w wA := by rw [hwA]; exact below2 _ _ _
 have zA : wA.heap.size = w.heap.size + 2 := by rw [hwA]; simp
 have oA : OwnsI wA (w.heap.size + 1) (.slice (some ⟨w.heap.size + 1, 0, none⟩) 0 0) [] := by
  rw [hwA]; have := own_nil_litF (w.alloc (.cells #[.int .i64 W, .int .i64 T, .slice a n cap] 25)) (B := w.heap.size + 1) (by simp); simpa using this
 have HOA := Lib.hid oA; clear oA
 have hfl := flipsF_len W T xs L
 have HSF := fun w' h h2 => sFlipsOf_ret W T a n cap xs la m lcap L w' HN.out hn' HM.out hm' h h2
 have HSR := fun w' c h h2 => sFlipRise_any W T a n cap xs la m lcap L c w' HN.out hn' HM.out hm' h h2
 have hpa := pk_all (flipsF W T xs L) (fun c => riseF W T xs L c == (-4))
 have hdf : downF (-4) W T xs L = (flipsF W T xs L).filter (fun c => riseF W T xs L c == (-4)) := rfl
 rw [← hdf] at hpa
 clear hdf
 obtain ⟨F, hF⟩ : ∃ F, F = flipsF W T xs L := ⟨_, rfl⟩
 obtain ⟨rf, hrf⟩ : ∃ rf : Int → Int, rf = riseF W T xs L := ⟨_, rfl⟩
 obtain ⟨D, hD⟩ : ∃ D, D = downF (-4) W T xs L := ⟨_, rfl⟩
 rw [← hF] at hfl HSF hpa
 rw [← hrf] at HSR hpa
 rw [← hD] at hpa ⊢
 obtain ⟨g, hg⟩ : ∃ g : Int → Bool, g = fun c => rf c == (-4) := ⟨_, rfl⟩
 rw [← hg] at hpa
 obtain ⟨f, hf⟩ : ∃ f, f = F.length := ⟨_, rfl⟩
 rw [← hf] at hfl HSF hpa
 have HF := Lib.hid hf; have HG := Lib.hid hg; have HPA := Lib.hid hpa; have HSFH := Lib.hid HSF; have HSRH := Lib.hid HSR
 clear hF hrf hD hg hf hpa HSF HSR
 obtain ⟨i0, hi, hz0, hz1, hz2⟩ := info_parts infoInt
 obtain ⟨c0, c1, c2⟩ := cells3 pA
 go_enter Tryz.func9, Tryz.ntmps9
 go_wp2_with fail
 rw [← hwA]
 clear hwA
 refine (HSFH.out _ (HA.out.below bA) (HL.out.below bA)).mono ?_; rintro e w1 ⟨a1, k1, rfl, o1, hb1⟩
 have b1 := below_seq bA hb1
 have p1 := heap_later pA hb1
 have O1 := Lib.hid (HOA.out.below hb1)
 have F1 := Lib.hid o1
 have SP : Hid (SepD (.slice (some ⟨w.heap.size + 1, 0, none⟩) 0 0) (.slice a1 f k1)) := fun b hb hu => by
  have h2 := (World.ownsRow.lt F1.out b hu).1
  have h3 : w.heap.size + 1 = b := by simpa [Value.ownBlock] using hb
  omega
 have z1 := hb1.size
 have B1 := Lib.hid b1
 have P1 := Lib.hid p1
 clear c0 c1 c2 o1 HOA hb1 bA pA b1 p1 HSFH
 go_wp2_with fail
 go_loopw [5, 7] (fun v i wr => ∃ k : Nat, k ≤ f ∧ i = .int .i64 k ∧ OwnsI wr (w.heap.size + 1) v (pk F g k) ∧ OwnsI wr wA.heap.size (.slice a1 f k1) F ∧ SepD v (.slice a1 f k1) ∧ wr.heap[w.heap.size]? = some (.cells #[.int .i64 W, .int .i64 T, .slice a n cap] 25 (0, 0)) ∧ Below w.heap.size w wr) (fun _ i _ => f - (intOf i).toNat)
 case atStart => exact ⟨0, Nat.zero_le _, rfl, by rw [pk_zero]; exact O1.out, F1.out, SP.out, P1.out, B1.out⟩
 case round =>
  rename World => wo
  obtain ⟨k, hk, rfl, ho, hof, hsp, pr, hbel⟩ := hrel
  have HO := Lib.hid ho; have HOF := Lib.hid hof; have HSP := Lib.hid hsp
  have BEL := Lib.hid hbel
  clear ho hof hsp hbel
  by_cases hlt : k < f
  · have e1 : (k : Int) < f := by omega
    have hfl2 := pk_len F g k
    obtain ⟨c0, c1, c2⟩ := cells3 pr
    have l1 := heap_lt pr
    obtain ⟨bb, bo, hab, hc⟩ := (OwnsI.at HOF.out) k (by rw [← HF.out]; exact hlt)
    have hlc := World.block_lt_of_cell? wo _ hc
    simp only at hlc
    subst hab
    obtain ⟨M, hM⟩ : ∃ M, M = F.getD k 0 := ⟨_, rfl⟩
    rw [← hM] at hc
    have HMM := Lib.hid hM
    have HKF : Hid (k < F.length) := by show _ < _; rw [← HF.out]; exact hlt
    clear hM
    go_wp2_with fail
    have P3 : wo.drew.heap[w.heap.size]? = some (.cells #[.int .i64 W, .int .i64 T, .slice a n cap] 25 (0, 0)) := pr
    have AD : Hid (BoolsAt wo.drew a xs) := Lib.hid (show BoolsAt wo a xs from HA.out.below BEL.out)
    have LD : Hid (IntsAt wo.drew la L) := Lib.hid (show IntsAt wo la L from HL.out.below BEL.out)
    have BD : Hid (Below w.heap.size w wo.drew) := Lib.hid (below_seq BEL.out (drew_below _))
    have OD : Hid (OwnsI wo.drew (w.heap.size + 1) _ (pk F g k)) := HO
    have OFD : Hid (OwnsI wo.drew wA.heap.size _ F) := HOF
    have hcd : wo.drew.cell? ⟨bb, bo + k, none⟩ = some (.int .i64 M) := hc
    go_region_held3 (fun w' => w'.cell? ⟨w.heap.size, 0, none⟩ = some (.int .i64 W) ∧ w'.cell? ⟨w.heap.size, 1, none⟩ = some (.int .i64 T) ∧ w'.cell? ⟨w.heap.size, 2, none⟩ = some (.slice a n cap) ∧ w'.cell? ⟨bb, bo + k, none⟩ = some (.int .i64 M))
     (go_keep)
     ((go_at_call 30; refine (HSRH.out _ M AD.out LD.out).mono ?_; rintro e w5 ⟨rfl, hb5⟩; have p5 := heap_later P3 hb5; obtain ⟨c50, c51, c52⟩ := cells3 p5; have c53 := cell_laterD hb5 hcd))
    have l5 := heap_lt p5
    have B5 := Lib.hid (below_seq BD.out hb5)
    have O5 := Lib.hid (OD.out.below hb5)
    have OF5 := Lib.hid (OFD.out.below hb5)
    cases hq : (rf M == (-4))
    · have HNX : Hid (pk F g (k + 1) = pk F g k) := Lib.hid (pk_no HKF.out (by rw [HG.out, ← HMM.out]; exact hq))
      go_wp2
      go_roundw
      case rel => exact ⟨k + 1, by omega, by go_num, by rw [HNX.out]; exact O5.out, OF5.out, HSP.out, p5, B5.out⟩
      case measure => simp [intOf]; omega
    · have HNX : Hid (pk F g (k + 1) = pk F g k ++ [M]) := by
       refine Lib.hid ?_
       rw [HMM.out]
       exact pk_yes HKF.out (by rw [HG.out, ← HMM.out]; exact hq)
      go_wp2_with (at_builtin; refine wpList_append_own_at _ rfl _ _ 26 rfl (w.heap.size + 1) 3 i0 (.int .i64 0) 1 8 Tryz.underlying26 hi hz0 hz1 hz2 rfl (by decide) _ (pk F g k).length ((pk F g k).map (Value.int .i64)) rfl (World.ownsRow.alloc O5.out _) ⟨w5.heap.size, 0, none⟩ 1 1 [.int .i64 M] rfl rfl (new_int _ _) (one_int _) (by unfold maxLen; omega) (by omega) (by simp; omega) ?_; intro v' w8 hown' hgrow _ hloc; have p8 := heap_grown (heap_later p5 (below1 _ _)) hgrow (O5.out.ownBlock (by omega)); have O8 := Lib.hid (OwnsI.ofRow (xs := pk F g (k + 1)) hown' (by rw [HNX.out]; simp) (by rw [HNX.out]; simp)); have OF8 := Lib.hid (OwnsI.keptSepD (OF5.out.alloc _) hgrow HSP.out); have S8 := Lib.hid (SepD.new HSP.out (OF5.out.alloc _) hloc); have B8 := Lib.hid (below_grown (below_seq B5.out (below1 _ _)) hgrow (Nat.le_refl _) (O5.out.ownAt (by omega))); clear hown' hgrow)
      go_roundw
      case rel => exact ⟨k + 1, by omega, by go_num, O8.out, OF8.out, S8.out, p8, B8.out⟩
      case measure => simp [intOf]; omega
  · obtain rfl : k = f := by omega
    have hpa := HPA.out
    clear HPA
    subst hpa
    obtain ⟨a9, cap9, hv⟩ := HO.out.form2
    subst hv
    go_wp2
    go_ret
    exact ⟨a9, cap9, rfl, (OwnsI.lower (B := w.heap.size + 1) HO.out (Nat.le_succ _)), BEL.out⟩

end Go.Proofs.YtpcajacekmidbaaGreat

namespace Go.Proofs.YtpcajacekmidbaaGreat
open Go.RowKit Go.Shelf
set_option linter.unusedVariables false
set_option maxRecDepth 100000
set_option linter.unusedSimpArgs false
attribute [local go_sem] Oper.semAt_some

end Go.Proofs.YtpcajacekmidbaaGreat

namespace Go.Proofs.YtpcajacekmidbaaGreat
open Go.RowKit
set_option linter.unusedVariables false
set_option maxRecDepth 100000
set_option linter.unusedSimpArgs false

set_option maxHeartbeats 4000000 in
theorem least1_any (k kt r cl wy : Int) (b : Bool) (w : World) (hr : r = 1 ∨ r = -1) :
 Calls Tryz.prog 89 #[.agg #[.int .i64 k, .int .i64 kt, .int .i64 r, .bool b, .int .i64 cl, .int .i64 wy]] w fun e w' => e = .returned (.tuple #[.int .i64 (-(hiR b r)), .int .i64 (-(loR b r))]) ∧ Below w.heap.size w w' := by
 obtain ⟨wA, hwA⟩ : ∃ wA, wA = w.alloc (.cells #[.int .i64 k, .int .i64 kt, .int .i64 r, .bool b, .int .i64 cl, .int .i64 wy] 77) := ⟨_, rfl⟩
 have pA : wA.heap[w.heap.size]? = some (.cells #[.int .i64 k, .int .i64 kt, .int .i64 r, .bool b, .int .i64 cl, .int .i64 wy] 77 (0, 0)) := by rw [hwA]; exact heap_new _ _
 have bA : Below w.heap.size w wA := by rw [hwA]; exact below1 _ _
 obtain ⟨c0, c1, c2, c3, c4, c5⟩ := cells6 pA
 have hbd : (-3 ≤ loR b r ∧ loR b r ≤ 3) ∧ (-3 ≤ hiR b r ∧ hiR b r ≤ 3) := by unfold loR hiR; cases b <;> simp only [Bool.false_eq_true, if_false, if_true] <;> (try split) <;> (try split) <;> omega
 obtain ⟨lo, hlo⟩ : ∃ lo, loR b r = lo := ⟨_, rfl⟩
 obtain ⟨hi, hhi⟩ : ∃ hi, hiR b r = hi := ⟨_, rfl⟩
 rw [hlo, hhi] at hbd ⊢
 have w1 : IntKind.i64.wrap (-hi) = -hi := IntWalk.i64_in _ (by omega)
 have w2 : IntKind.i64.wrap (-lo) = -lo := IntWalk.i64_in _ (by omega)
 have HLO := Lib.hid hlo; clear hlo
 have HHI := Lib.hid hhi; clear hhi
 go_enter Tryz.func89, Tryz.ntmps89
 go_wp2_with fail
 rw [← hwA]; clear hwA
 refine (boundsOf_any k kt r cl wy b _ hr).mono ?_; rintro e w3 ⟨rfl, hb3⟩
 rw [HLO.out, HHI.out]
 go_wp2
 go_ret2
 exact ⟨rfl, below_seq bA hb3⟩

end Go.Proofs.YtpcajacekmidbaaGreat
