/- Contracts of both functions FlipRise. -/
import Derived.Test.YtgfeemghpdeblaaRiseI
import Derived.Test.YtgfeemghpdeblaaFlipOne
namespace Go.Proofs.Ytgfeemghpdeblaa
open Go.RowKit
set_option linter.unusedVariables false
set_option maxRecDepth 100000
set_option linter.unusedSimpArgs false

/-- By how much a flip moves the height of its corner; 0 where there is none. -/
def riseF (W T : Int) (xs : List Bool) (L : List Int) (c : Int) : Int := if (simpleB W T xs && tok W T xs L) && mayB W T L c then flipD W T xs L c.toNat else 0
theorem tok_flip {W T : Int} {xs : List Bool} {L : List Int} {c : Nat} (h : tok W T xs L = true) (hm : mayB W T L c = true) : tok W T xs (flipL W T L c) = true := by
  have hl := tok_lok1 h
  obtain ⟨hr, hlen, _⟩ := lok_rv hl
  obtain ⟨v1, v2, v3, v4, v5, _⟩ := rv_true hr
  have hl' : lok W T xs (flipL W T L c) = true := lok_flip hl _
  obtain ⟨_, hlen', _⟩ := lok_rv hl'
  obtain ⟨hz, A1, A2, A3, A4, ⟨f1, g1⟩, ⟨f2, g2⟩, ⟨f3, g3⟩, ⟨f4, g4⟩, f5⟩ := flip_lv hl hm
  have nz : ∀ x y, atB W T xs x y = true → lv W T xs (flipL W T L c) x y ≠ 0 := by
    intro x y ha
    by_cases c1 : x = kx W c - 1 ∧ y = ky W c - 1
    · rw [c1.1, c1.2, g1]; cases hz <;> decide
    by_cases c2 : x = kx W c ∧ y = ky W c - 1
    · rw [c2.1, c2.2, g2]; cases hz <;> decide
    by_cases c3 : x = kx W c - 1 ∧ y = ky W c
    · rw [c3.1, c3.2, g3]; cases hz <;> decide
    by_cases c4 : x = kx W c ∧ y = ky W c
    · rw [c4.1, c4.2, g4]; cases hz <;> decide
    rw [f5 x y c1 c2 c3 c4]
    exact tok_lv h ha
  refine tok_all hl' fun k _ hk => ?_
  have hkx : k < xs.length := by omega
  cases hx : xs.getD k false
  · unfold freeB; rw [hx]; rfl
  · have a0 := Int.emod_nonneg (k : Int) (show W ≠ 0 by omega)
    have a1 := Int.emod_lt_of_pos (k : Int) (show 0 < W by omega)
    have b0 := Int.ediv_nonneg (show (0 : Int) ≤ k by omega) (show 0 ≤ W by omega)
    have b1 : (k : Int) / W < T := Int.ediv_lt_of_lt_mul (by omega) (by rw [Int.mul_comm]; omega)
    have ae := Int.emod_add_mul_ediv (k : Int) W
    have ei : ((k : Int) / W * W + (k : Int) % W).toNat = k := by rw [Int.mul_comm]; omega
    have hat : atB W T xs ((k : Int) % W) ((k : Int) / W) = true := by
      unfold atB inF
      rw [decide_eq_true ⟨a0, a1, b0, b1⟩, ei, hx]; rfl
    have := nz _ _ hat
    unfold lv at this
    rw [hat, if_pos rfl, ei] at this
    unfold freeB
    rw [hx]
    simpa using this
theorem may_nat {W T : Int} {xs : List Bool} {L : List Int} {c : Int} (h : lok W T xs L = true) (hm : mayB W T L c = true) : ∃ k : Nat, c = k ∧ (k : Int) < (W + 1) * (T + 1) := by
  obtain ⟨hr, _, _⟩ := lok_rv h
  obtain ⟨v1, _⟩ := rv_true hr
  unfold mayB at hm
  simp only [Bool.and_eq_true] at hm
  obtain ⟨c0, c1⟩ := sq_rng v1 hm.1.1
  obtain ⟨k, hk⟩ := Int.eq_ofNat_of_zero_le c0
  exact ⟨k, hk, by rw [← hk]; exact c1⟩
theorem HtsR.full {W T : Int} {xs : List Bool} {L H : List Int} {N : Nat} (hN : (W + 1) * (T + 1) = (N : Int)) (h : HtsR W T xs L H) (h2 : (simpleB W T xs && tok W T xs L) = true) : HtsOf W T xs L H N := by
  rcases h with ⟨_, q⟩ | ⟨q, _⟩
  · rw [hN, Int.toNat_natCast] at q; exact q
  · rw [h2] at q; cases q
theorem HtsR.ent {W T : Int} {xs : List Bool} {L H : List Int} (h : HtsR W T xs L H) {k : Nat} (hk : k < H.length) : -49 ≤ H.getD k 0 ∧ H.getD k 0 ≤ 99 := by
  rcases h with ⟨_, hH⟩ | ⟨_, rfl⟩
  · rw [hH.len] at hk
    cases ha : hAt W T xs k
    · have := hH.off k hk ha; omega
    · have := hH.bd k hk ha; omega
  · simp at hk
theorem HtsR.none {W T : Int} {xs : List Bool} {L H : List Int} (h : HtsR W T xs L H) (h2 : (simpleB W T xs && tok W T xs L) = false) : H = [] := by
  rcases h with ⟨q, _⟩ | ⟨_, q⟩
  · rw [h2] at q; cases q
  · exact q

set_option maxHeartbeats 4000000 in
theorem iFlipRise_any (W T : Int) (a : Option Addr) (n cap : Nat) (xs : List Bool) (la : Option Addr) (m lcap : Nat) (L : List Int) (c : Int) (w : World) (hn : n = xs.length) (hn' : n ≤ 1048576) (hm : m = L.length) (hm' : m ≤ 1048576) (hc : -9223372036854775808 ≤ c ∧ c ≤ 9223372036854775807) (ha : BoolsAt w a xs) (hl : IntsAt w la L) :
    Calls Try.prog 30 #[.agg #[.int .i64 W, .int .i64 T, .slice a n cap], .slice la m lcap, .int .i64 c] w fun e w' => e = .returned (.int .i64 (riseF W T xs L c)) ∧ Below w.heap.size w w' := by
  have HN := Lib.hid hn; clear hn
  have HM := Lib.hid hm; clear hm
  have HA := Lib.hid ha; clear ha
  have HL := Lib.hid hl; clear hl
  have HCB := Lib.hid hc; clear hc
  have p0 := heap_new w (.cells #[.int .i64 W, .int .i64 T, .slice a n cap] 28)
  have b0 := below1 w (.cells #[.int .i64 W, .int .i64 T, .slice a n cap] 28)
  obtain ⟨D, hD⟩ : ∃ D, D = riseF W T xs L c := ⟨_, rfl⟩
  rw [← hD]
  cases h1 : simpleB W T xs
  · have HD : Hid (D = 0) := by show _ = _; rw [hD]; unfold riseF; rw [h1]; rfl
    have HS := Lib.hid h1; clear h1 hD
    go_enter Try.func30, Try.ntmps30
    go_wp2_with fail
    refine (iSimple_any _ _ _ _ _ xs _ HN.out hn' (HA.out.below b0)).mono ?_; rintro e w1 ⟨rfl, hb1⟩
    rw [HS.out]
    go_wp2
    go_ret
    exact ⟨by rw [HD.out]; rfl, below_seq b0 hb1⟩
  cases h2 : tok W T xs L
  · have HD : Hid (D = 0) := by show _ = _; rw [hD]; unfold riseF; rw [h1, h2]; rfl
    have HS := Lib.hid h1; have HT := Lib.hid h2; clear h1 h2 hD
    go_enter Try.func30, Try.ntmps30
    go_wp2_with fail
    refine (iSimple_any _ _ _ _ _ xs _ HN.out hn' (HA.out.below b0)).mono ?_; rintro e w1 ⟨rfl, hb1⟩
    rw [HS.out]
    have b1 := below_seq b0 hb1
    obtain ⟨c0, c1, c2⟩ := cells3 (heap_later p0 hb1)
    go_wp2_with fail
    refine (iTilingOk_any _ _ _ _ _ xs _ _ _ L _ HN.out hn' HM.out hm' (HA.out.below b1) (HL.out.below b1)).mono ?_; rintro e w2 ⟨rfl, hb2⟩
    rw [HT.out]
    go_wp2
    go_ret
    exact ⟨by rw [HD.out]; rfl, below_seq b1 hb2⟩
  have hlok := tok_lok1 h2
  obtain ⟨-, hlen, -⟩ := lok_rv hlok
  obtain rfl : n = m := by rw [HM.out, HN.out]; exact hlen.symm
  have HK := Lib.hid hlok
  have HNL : Hid (n = L.length) := HM.out
  have HDD : Hid (D = if mayB W T L c then flipD W T xs L c.toNat else 0) := by show _ = _; rw [hD]; unfold riseF; rw [h1, h2]; rfl
  have HMN : Hid (mayB W T L c = true → ∃ k : Nat, c = k ∧ (k : Int) < (W + 1) * (T + 1)) := fun h => may_nat hlok h
  have HS := Lib.hid h1; have HT := Lib.hid h2; clear h1 h2 hD hlok hlen
  go_enter Try.func30, Try.ntmps30
  go_wp2_with fail
  refine (iSimple_any _ _ _ _ _ xs _ HN.out hn' (HA.out.below b0)).mono ?_; rintro e w1 ⟨rfl, hb1⟩
  rw [HS.out]
  have b1 := below_seq b0 hb1
  have p1 := heap_later p0 hb1
  obtain ⟨c0, c1, c2⟩ := cells3 p1
  go_wp2_with fail
  refine (iTilingOk_any _ _ _ _ _ xs _ _ _ L _ HN.out hn' HNL.out hm' (HA.out.below b1) (HL.out.below b1)).mono ?_; rintro e w2 ⟨rfl, hb2⟩
  rw [HT.out]
  have b2 := below_seq b1 hb2
  have p2 := heap_later p1 hb2
  clear c0 c1 c2
  obtain ⟨c0, c1, c2⟩ := cells3 p2
  go_wp2_with fail
  refine (twoAround_any W T a n cap xs la lcap L c _ HN.out HNL.out HK.out HCB.out.1 HCB.out.2 (HL.out.below b2)).mono ?_; rintro e w3 ⟨rfl, hb3⟩
  have b3 := below_seq b2 hb3
  have p3 := heap_later p2 hb3
  clear c0 c1 c2
  obtain ⟨c0, c1, c2⟩ := cells3 p3
  cases hmy : mayB W T L c
  · have HD : Hid (D = 0) := by show _ = _; rw [HDD.out, hmy]; rfl
    clear hmy
    go_wp2
    go_ret
    exact ⟨by rw [HD.out]; rfl, b3⟩
  · obtain ⟨k, hck, hkN⟩ := HMN.out hmy
    have HD : Hid (D = flipD W T xs L k) := by show _ = _; rw [HDD.out, hmy, if_pos rfl, hck, Int.toNat_natCast]
    have HKN := Lib.hid hkN
    clear hmy HDD HMN hkN
    subst hck
    go_wp2_with fail
    refine (riseAt_any W T a n cap xs la n lcap L k _ HN.out HNL.out hm' HK.out HKN.out (HA.out.below b3) (HL.out.below b3)).mono ?_; rintro e w4 ⟨rfl, hb4⟩
    go_wp2
    go_ret
    exact ⟨by rw [HD.out]; rfl, below_seq b3 hb4⟩

set_option maxHeartbeats 4000000 in
theorem sFlipRise_any (W T : Int) (a : Option Addr) (n cap : Nat) (xs : List Bool) (la : Option Addr) (m lcap : Nat) (L : List Int) (c : Int) (w : World) (hn : n = xs.length) (hn' : n ≤ 1048576) (hm : m = L.length) (hm' : m ≤ 1048576) (ha : BoolsAt w a xs) (hl : IntsAt w la L) :
    Calls Try.prog 29 #[.agg #[.int .i64 W, .int .i64 T, .slice a n cap], .slice la m lcap, .int .i64 c] w fun e w' => e = .returned (.int .i64 (riseF W T xs L c)) ∧ Below w.heap.size w w' := by
  have HN := Lib.hid hn; clear hn
  have HM := Lib.hid hm; clear hm
  have HA := Lib.hid ha; clear ha
  have HL := Lib.hid hl; clear hl
  have p0 := heap_new w (.cells #[.int .i64 W, .int .i64 T, .slice a n cap] 28)
  have b0 := below1 w (.cells #[.int .i64 W, .int .i64 T, .slice a n cap] 28)
  obtain ⟨D, hD⟩ : ∃ D, D = riseF W T xs L c := ⟨_, rfl⟩
  rw [← hD]
  obtain ⟨F, hF⟩ : ∃ F, F = (flpF W T xs L c).1 := ⟨_, rfl⟩
  obtain ⟨ok, hok⟩ : ∃ ok, ok = (flpF W T xs L c).2 := ⟨_, rfl⟩
  obtain ⟨A, hA⟩ := htsR_exist W T xs L
  obtain ⟨B, hB⟩ := htsR_exist W T xs F
  have hla := hA.len; have hlb := hB.len
  have hfl := flpF_len W T xs L c
  rw [← hF, ← HM.out] at hfl
  have HC1 := fun w' h h2 => sFlipOne_ret W T a n cap xs la m lcap L c w' HN.out hn' HM.out hm' h h2
  rw [← hF, ← hok] at HC1
  have HC1H := Lib.hid HC1; clear HC1
  obtain ⟨f, hf⟩ : ∃ f, f = F.length := ⟨_, rfl⟩
  obtain ⟨p, hp⟩ : ∃ p, p = A.length := ⟨_, rfl⟩
  obtain ⟨q, hq⟩ : ∃ q, q = B.length := ⟨_, rfl⟩
  rw [← hf] at hfl HC1H
  rw [← hp] at hla; rw [← hq] at hlb
  -- what is returned
  have hmain : (ok = false ∧ D = 0) ∨ (ok = true ∧ p = 0 ∧ D = 0) ∨ (ok = true ∧ ∃ k : Nat, c = k ∧ k < p ∧ k < q ∧ p = q ∧ D = B.getD k 0 - A.getD k 0 ∧ (-49 ≤ A.getD k 0 ∧ A.getD k 0 ≤ 99) ∧ (-49 ≤ B.getD k 0 ∧ B.getD k 0 ≤ 99)) := by
    cases h2 : (simpleB W T xs && tok W T xs L)
    · have hD0 : D = 0 := by rw [hD]; unfold riseF; rw [h2]; rfl
      cases ok
      · exact Or.inl ⟨rfl, hD0⟩
      · exact Or.inr (Or.inl ⟨rfl, by rw [hp, hA.none h2]; rfl, hD0⟩)
    · have h2' := h2
      rw [Bool.and_eq_true] at h2'
      obtain ⟨hs, ht⟩ := h2'
      have hlok := tok_lok1 ht
      have hok' : ok = mayB W T L c := by rw [hok]; unfold flpF; rw [hlok]; rfl
      have hF' : F = flipL W T L c := by rw [hF]; unfold flpF; rw [hlok]; rfl
      cases hmy : mayB W T L c
      · exact Or.inl ⟨by rw [hok', hmy], by rw [hD]; unfold riseF; rw [h2, hmy]; rfl⟩
      · obtain ⟨k, rfl, hk⟩ := may_nat hlok hmy
        obtain ⟨v1, v2, v3, v4, v5, v6⟩ := rv_true (simpleB_rv hs)
        have hcb := corn_bd v1 v2 v3 v4
        obtain ⟨N, hN⟩ := Int.eq_ofNat_of_zero_le (show 0 ≤ (W + 1) * (T + 1) by omega)
        have ht' := tok_flip ht hmy
        have gA := hA.full hN h2
        rw [hF'] at hB
        have gB := hB.full hN (by rw [hs, ht']; rfl)
        obtain ⟨hkN, hh⟩ := flip_height hs hN ht ht' hmy gA gB
        have e1 : p = N := by rw [hp]; exact gA.len
        have e2 : q = N := by rw [hq]; exact gB.len
        refine Or.inr (Or.inr ⟨by rw [hok', hmy], k, rfl, by omega, by omega, by omega, ?_, hA.ent (by rw [← hp]; omega), hB.ent (by rw [← hq]; omega)⟩)
        rw [hh k hkN, if_pos rfl, hD]
        unfold riseF
        rw [h2, hmy, Int.toNat_natCast]
        simp; omega
  have HHA := Lib.hid hA; have HHB := Lib.hid hB
  have HF := Lib.hid hf; have HP := Lib.hid hp; have HQ := Lib.hid hq; have HMAIN := Lib.hid hmain
  clear hD hF hok hA hB hf hp hq hmain
  go_enter Try.func29, Try.ntmps29
  go_wp2_with fail
  refine (HC1H.out _ (HA.out.below b0) (HL.out.below b0)).mono ?_; rintro e w1 ⟨a1, k1, rfl, o1, hb1⟩
  have b1 := below_seq b0 hb1
  have p1 := heap_later p0 hb1
  obtain ⟨c0, c1, c2⟩ := cells3 p1
  go_wp2_with fail
  refine (sHeightsOf_ret W T a n cap xs la m lcap L A _ HN.out hn' HM.out hm' (HA.out.below b1) (HL.out.below b1) HHA.out).mono ?_; rintro e w2 ⟨a2, k2, rfl, o2, hb2⟩
  have b2 := below_seq b1 hb2
  have p2 := heap_later p1 hb2
  have I1 := Lib.hid (OwnsI.at (o1.below hb2))
  clear c0 c1 c2 o1
  obtain ⟨c0, c1, c2⟩ := cells3 p2
  go_wp2_with fail
  refine (sHeightsOf_ret W T a n cap xs a1 f k1 F B _ HN.out hn' HF.out (by omega) (HA.out.below b2) I1.out HHB.out).mono ?_; rintro e w3 ⟨a3, k3, rfl, o3, hb3⟩
  have B3 := Lib.hid (below_seq b2 hb3)
  have I2 := Lib.hid (OwnsI.at (o2.below hb3))
  have I3 := Lib.hid (OwnsI.at o3)
  rw [← HP.out, ← HQ.out]
  clear o2 o3 b0 b1 b2 p0 p1 p2 hb1 hb2 hb3 c0 c1 c2 I1
  rcases HMAIN.out with ⟨rfl, hd⟩ | ⟨rfl, rfl, hd⟩ | ⟨rfl, k, rfl, hkp, hkq, hpq, hd, ⟨x0, x1⟩, ⟨y0, y1⟩⟩
  · have HD := Lib.hid hd; clear hd HMAIN
    go_wp2
    go_ret
    exact ⟨by rw [HD.out]; rfl, B3.out⟩
  · have HD := Lib.hid hd; clear hd HMAIN
    go_wp2
    go_ret
    exact ⟨by rw [HD.out]; rfl, B3.out⟩
  · subst hpq
    have hp0 : ¬ p = 0 := by omega
    have hp1 : (p == 0) = false := by simpa using hp0
    obtain ⟨g2, o2, rfl, hx⟩ := I2.out k (by rw [← HP.out]; exact hkp)
    obtain ⟨g3, o3, rfl, hy⟩ := I3.out k (by rw [← HQ.out]; exact hkp)
    obtain ⟨x, hxx⟩ : ∃ x, x = A.getD k 0 := ⟨_, rfl⟩
    obtain ⟨y, hyy⟩ : ∃ y, y = B.getD k 0 := ⟨_, rfl⟩
    rw [← hxx] at hx x0 x1 hd; rw [← hyy] at hy y0 y1 hd
    have HD := Lib.hid hd; clear hd hxx hyy HMAIN
    have k1' : (k : Int) < p := by omega
    have s1 : IntKind.i64.wrap (y - x) = y - x := by rw [IntKind.wrap_i64]; omega
    go_wp2_with fail
    go_quiet (fail)
    go_wp2
    go_ret
    exact ⟨by rw [HD.out]; rfl, below_drewN B3.out _⟩
end Go.Proofs.Ytgfeemghpdeblaa
