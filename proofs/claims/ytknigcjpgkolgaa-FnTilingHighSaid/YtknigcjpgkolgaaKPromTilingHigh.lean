/- The law FnTilingHigh: its walk. -/
import Derived.Test.YtknigcjpgkolgaaKDrawTwo
import Derived.Test.YtknigcjpgkolgaaKProm
import Derived.Test.YtknigcjpgkolgaaKTbyIv1
import Derived.Test.YtknigcjpgkolgaaKLatMv5
import Derived.Test.YtknigcjpgkolgaaKLatLv1
namespace Go.Proofs.Ytknigcjpgkolgaa
open Go.RowKit
set_option linter.unusedVariables false
set_option maxRecDepth 100000
set_option linter.unusedSimpArgs false

set_option maxHeartbeats 4000000 in
theorem drawTilingHigh_any (cb : Option Addr) (n cap : Nat) (zs : List Int) (w : World) (hn : n = zs.length) (hn' : n ≤ 1048576) (hcap : n ≤ cap) (hb : BytesAt w cb zs) :
    Calls Try.prog 41 #[.slice cb n cap] w (DrawnRLL w) := by
  have HN := Lib.hid hn; clear hn
  have HB := Lib.hid hb; clear hb
  go_enter Try.func41, Try.ntmps41
  go_wp2_with fail
  refine (l20Open_any _ _ _ zs _ HN.out hn' hcap (HB.out.below (below1 _ _))).mono ?_; rintro e w1 ⟨rfl, r1, b1⟩
  have q1 := heap_later (heap_new w (.cells #[.int .i64 0, .int .i64 0, .slice none 0 0] 25)) b1
  have B1 := Lib.hid (below_seq (below1 w _) b1)
  have R1 : Hid (RD w1 (w.heap.size + 1) 0) := by show RD _ _ _; simpa using r1
  have l1 := heap_lt q1
  have l2 := R1.out.lt
  clear r1 b1
  go_wp2_with fail
  refine (l20Two_any (w.heap.size + 1) 0 _ (by omega) R1.out).mono ?_; rintro e w2 ⟨W, T, a, m, c, xs, la, q, lcap, L, lb, r, bcap, M, rfl, hm, h36, hs, o2, hq, hq36, i2, hr, hr36, j2, r2, g2⟩
  have q2 := heap_grown q1 g2 (by simp)
  have B2 := Lib.hid (below_grown B1.out g2 (Nat.le_refl _) (fun k e => by cases e; omega))
  have HM := Lib.hid hm; clear hm
  have HQ := Lib.hid hq; clear hq
  have HR := Lib.hid hr; clear hr
  have O2 := Lib.hid o2; clear o2
  have I2 := Lib.hid i2; clear i2
  have J2 := Lib.hid j2; clear j2
  clear r2 g2
  obtain ⟨d0, d1, d2⟩ := cells3 q2
  have f0 := free3 q2 0
  have f1 := free3 q2 1
  have f2 := free3 q2 2
  go_wp2
  refine bodyPost_ret (v := .tuple #[.agg #[.int .i64 W, .int .i64 T, .slice a m c], .slice la q lcap, .slice lb r bcap]) (by simp [results, Try.results41, go_sem, d0, d1, d2]) rfl ⟨W, T, a, m, c, xs, la, q, lcap, L, lb, r, bcap, M, rfl, HM.out, h36, hs, (O2.out.set3 (by omega) _ _ _).lower (by omega), HQ.out, by omega, (own_set3 I2.out (by omega) _ _ _).lower (by omega), HR.out, by omega, (own_set3 J2.out (by omega) _ _ _).lower (by omega), below_set3 B2.out (Nat.le_refl _) _ _ _⟩

end Go.Proofs.Ytknigcjpgkolgaa

namespace Go.Proofs.Ytknigcjpgkolgaa
open Go.RowKit
set_option linter.unusedVariables false
set_option maxRecDepth 100000
set_option linter.unusedSimpArgs false

set_option maxHeartbeats 4000000 in
theorem sTilingHigh_ret (W T : Int) (a : Option Addr) (n cap : Nat) (xs : List Bool) (la0 : Option Addr) (m0 lcap0 : Nat) (L0 : List Int) (la1 : Option Addr) (m1 lcap1 : Nat) (L1 : List Int) (A B : List Int) (w : World) (hn : n = xs.length) (hn' : n ≤ 1048576) (hm0 : m0 = L0.length) (hm0' : m0 ≤ 1048576) (hm1 : m1 = L1.length) (hm1' : m1 ≤ 1048576) (ha : BoolsAt w a xs) (hl0 : IntsAt w la0 L0) (hl1 : IntsAt w la1 L1) (hA : HtsR W T xs L0 A) (hB : HtsR W T xs L1 B) :
    Calls Try.prog 42 #[.agg #[.int .i64 W, .int .i64 T, .slice a n cap], .slice la0 m0 lcap0, .slice la1 m1 lcap1] w (RetLT w (tlowF true W T xs A B).1.length (tlowF true W T xs A B).1 (tlowF true W T xs A B).2) := by
  have HN := Lib.hid hn; clear hn
  have HM0 := Lib.hid hm0; clear hm0
  have HM1 := Lib.hid hm1; clear hm1
  have HA := Lib.hid ha; clear ha
  have HL0 := Lib.hid hl0; clear hl0
  have HL1 := Lib.hid hl1; clear hl1
  have hla := hA.len; have hlb := hB.len
  have HHA := Lib.hid hA; have HHB := Lib.hid hB
  clear hA hB
  have hlf := bothF_len true W T xs A B
  obtain ⟨p, hp⟩ : ∃ p, p = A.length := ⟨_, rfl⟩
  obtain ⟨q, hq⟩ : ∃ q, q = B.length := ⟨_, rfl⟩
  obtain ⟨F, hF⟩ : ∃ F, F = bothF true W T xs A B := ⟨_, rfl⟩
  obtain ⟨r, hr⟩ : ∃ r, r = F.length := ⟨_, rfl⟩
  have HFF : Hid (tlowF true W T xs A B = tbyF W T xs F) := by show _ = _; rw [hF]; rfl
  rw [HFF.out]
  rw [← hF, ← hp, ← hr] at hlf
  rw [← hp] at hla; rw [← hq] at hlb
  have HP := Lib.hid hp; have HQ := Lib.hid hq; have HF := Lib.hid hF; have HR := Lib.hid hr
  clear hp hq hF hr
  have cA : ∀ w : World, RetL w A.length A = RetL w p A := fun w => by rw [HP.out]
  have cB : ∀ w : World, RetL w B.length B = RetL w q B := fun w => by rw [HQ.out]
  have cF : ∀ w : World, RetL w (bothF true W T xs A B).length (bothF true W T xs A B) = RetL w r F := fun w => by rw [← HF.out, HR.out]
  have HcA := Lib.hid cA; have HcB := Lib.hid cB; have HcF := Lib.hid cF
  clear cA cB cF
  have K1 : ∀ w', BoolsAt w' a xs → IntsAt w' la0 L0 → Calls Try.prog 17 #[.agg #[.int .i64 W, .int .i64 T, .slice a n cap], .slice la0 m0 lcap0] w' (RetL w' p A) := fun w' h1 h2 => by have := sHeightsOf_ret W T a n cap xs la0 m0 lcap0 L0 A w' HN.out hn' HM0.out hm0' h1 h2 HHA.out; rwa [HcA.out] at this
  have K2 : ∀ w', BoolsAt w' a xs → IntsAt w' la1 L1 → Calls Try.prog 17 #[.agg #[.int .i64 W, .int .i64 T, .slice a n cap], .slice la1 m1 lcap1] w' (RetL w' q B) := fun w' h1 h2 => by have := sHeightsOf_ret W T a n cap xs la1 m1 lcap1 L1 B w' HN.out hn' HM1.out hm1' h1 h2 HHB.out; rwa [HcB.out] at this
  have K3 : ∀ w' a1 c1 a2 c2, BoolsAt w' a xs → IntsAt w' a1 A → IntsAt w' a2 B → Calls Try.prog 33 #[.agg #[.int .i64 W, .int .i64 T, .slice a n cap], .slice a1 p c1, .slice a2 q c2] w' (RetL w' r F) := fun w' a1 c1 a2 c2 h1 h2 h3 => by have := sHeightsHigh_ret W T a n cap xs a1 p c1 A a2 q c2 B w' HN.out hn' HP.out (by omega) HQ.out (by omega) h1 h2 h3; rwa [HcF.out] at this
  have K4 : ∀ w' a3 c3, BoolsAt w' a xs → IntsAt w' a3 F → Calls Try.prog 27 #[.agg #[.int .i64 W, .int .i64 T, .slice a n cap], .slice a3 r c3] w' (RetLT w' (tbyF W T xs F).1.length (tbyF W T xs F).1 (tbyF W T xs F).2) := fun w' a3 c3 h1 h2 => sTilingBy_ret W T a n cap xs a3 r c3 F w' HN.out hn' HR.out (by omega) h1 h2
  have HK1 := Lib.hid K1; have HK2 := Lib.hid K2; have HK3 := Lib.hid K3; have HK4 := Lib.hid K4
  clear K1 K2 K3 K4
  generalize (tbyF W T xs F).2 = okv at HK4 ⊢
  generalize (tbyF W T xs F).1 = ys at HK4 ⊢
  obtain ⟨z, hz⟩ : ∃ z, z = ys.length := ⟨_, rfl⟩
  rw [← hz] at HK4 ⊢
  have HZ := Lib.hid hz; clear hz
  have PA : (w.alloc (.cells #[.int .i64 W, .int .i64 T, .slice a n cap] 25)).drew.heap[w.heap.size]? = some _ := heap_new w (.cells #[.int .i64 W, .int .i64 T, .slice a n cap] 25)
  have bA : Below w.heap.size w (w.alloc (.cells #[.int .i64 W, .int .i64 T, .slice a n cap] 25)).drew := below_seq (below1 _ _) (drew_below _)
  obtain ⟨c0, c1, c2⟩ := cells3 (heap_new w (.cells #[.int .i64 W, .int .i64 T, .slice a n cap] 25))
  go_enter Try.func42, Try.ntmps42
  go_wp2_with fail
  go_region_held3 (fun w' => w'.cell? ⟨w.heap.size, 0, none⟩ = some (.int .i64 W) ∧ w'.cell? ⟨w.heap.size, 1, none⟩ = some (.int .i64 T) ∧ w'.cell? ⟨w.heap.size, 2, none⟩ = some (.slice a n cap))
    (go_keep)
    (first
      | (go_at_call 27; refine (HK4.out _ _ _ (HA.out.below b3) (OwnsI.at o3)).mono ?_; rintro e w4 ⟨a4, k4, rfl, o4, hb4⟩; have b4 := below_seq b3 hb4; have p4 := heap_later p3 hb4; obtain ⟨g0, g1, g2⟩ := cells3 p4)
      | (go_at_call 33; refine (HK3.out _ _ _ _ _ (HA.out.below b2) (OwnsI.at (o1.below hb2)) (OwnsI.at o2)).mono ?_; rintro e w3 ⟨a3, k3, rfl, o3, hb3⟩; have b3 := below_seq b2 hb3; have p3 := heap_later p2 hb3; obtain ⟨f0, f1, f2⟩ := cells3 p3)
      | (go_at_call 17; refine (HK2.out _ (HA.out.below b1) (HL1.out.below b1)).mono ?_; rintro e w2 ⟨a2, k2, rfl, o2, hb2⟩; have b2 := below_seq b1 hb2; have p2 := heap_later p1 hb2; obtain ⟨e0, e1, e2⟩ := cells3 p2)
      | (go_at_call 17; refine (HK1.out _ (HA.out.below bA) (HL0.out.below bA)).mono ?_; rintro e w1 ⟨a1, k1, rfl, o1, hb1⟩; have b1 := below_seq bA hb1; have p1 := heap_later PA hb1; obtain ⟨d0, d1, d2⟩ := cells3 p1))
  have O4 := Lib.hid (o4.lower b3.size)
  have B4 := Lib.hid b4
  clear o1 o2 o3 o4 hb1 hb2 hb3 hb4 b1 b2 b3 b4
  go_wp2
  go_ret2
  exact ⟨a4, k4, rfl, O4.out, B4.out⟩

end Go.Proofs.Ytknigcjpgkolgaa

namespace Go.Proofs.Ytknigcjpgkolgaa
open Go.RowKit
set_option linter.unusedVariables false
set_option maxRecDepth 100000
set_option linter.unusedSimpArgs false

section
variable {W T : Int} {xs : List Bool} {L M A B : List Int}
end
theorem pick_self (hi : Bool) (x : Int) : pickI hi x x = x := by unfold pickI; cases hi <;> simp
theorem both_self (hi : Bool) (A : List Int) : bothL hi A A A.length = A := by
  refine ext_getD (bothL_len _ _ _ _) fun k hk => ?_
  rw [bothL_len] at hk
  rw [both_get hi A A hk, pick_self]
theorem below_high {A B : List Int} (h0 : 0 < A.length) (h : A.length = B.length) : belowB A (bothL true A B A.length) = true ∧ belowB B (bothL true A B A.length) = true := by
  rw [below_iff h0 (by rw [bothL_len]), below_iff (by omega) (by rw [bothL_len]; exact h.symm)]
  refine ⟨fun k hk => ?_, fun k hk => ?_⟩
  · rw [both_get true A B hk]; have := pick_le true (A.getD k 0) (B.getD k 0); simp only [if_true] at this; exact this.1
  · rw [both_get true A B (by omega)]; have := pick_le true (A.getD k 0) (B.getD k 0); simp only [if_true] at this; exact this.2
end Go.Proofs.Ytknigcjpgkolgaa

namespace Go.Proofs.Ytknigcjpgkolgaa
open Go.RowKit
set_option linter.unusedVariables false
set_option maxRecDepth 100000
set_option linter.unusedSimpArgs false

set_option maxHeartbeats 4000000 in
theorem promTilingHigh_walk (cb : Option Addr) (n cap : Nat) (zs : List Int) (w : World) (hn : n = zs.length) (hn' : n ≤ maxLen) (hcap : n ≤ cap) (hb : BytesAt w cb zs) :
    Calls Try.prog 9 #[.slice cb n cap] w fun e w' => e = .returned (.bool true) ∧ Below w.heap.size w w' := by
  have HN := Lib.hid hn; clear hn
  have HB := Lib.hid hb; clear hb
  by_cases hbig : 1048576 < n
  · unfold maxLen at hn'
    go_enter Try.func9, Try.ntmps9
    go_wp2
    go_ret
    exact ⟨rfl, Below.refl _ _⟩
  have hsm : n ≤ 1048576 := by omega
  clear hbig hn'
  go_enter Try.func9, Try.ntmps9
  go_wp2_with fail
  refine (drawTilingHigh_any _ _ _ zs _ HN.out hsm hcap HB.out).mono ?_; rintro e w1 ⟨W0, T0, a, m, c, xs, la, q, lcap, L, lb, r, bcap, M, rfl, hm, h36, hs, ho, hq, hq49, hi, hr, hr49, hj, b1⟩
  have HM := Lib.hid hm; clear hm
  have HQ := Lib.hid hq; clear hq
  have HR := Lib.hid hr; clear hr
  have A1 := Lib.hid (OwnsB.at ho); clear ho
  have I1 := Lib.hid (OwnsI.at hi); clear hi
  have J1 := Lib.hid (OwnsI.at hj); clear hj
  obtain ⟨s0, s1, s2, s3⟩ := hs
  obtain ⟨HA0, hA0⟩ := htsR_exist W0 T0 xs L
  obtain ⟨HB0, hB0⟩ := htsR_exist W0 T0 xs M
  have hno := low_not true (W := W0) (T := T0) (xs := xs) (A := HA0) (B := HB0)
  have hyes := low_ok true hA0 hB0
  have hxl := tlowF_len true W0 T0 xs HA0 HB0
  obtain ⟨R, hR⟩ : ∃ R, tlowF true W0 T0 xs HA0 HB0 = R := ⟨_, rfl⟩
  rw [hR] at hno hyes hxl
  obtain ⟨X, ok⟩ := R
  simp only at hno hyes hxl
  obtain ⟨x, hx⟩ : ∃ x, x = X.length := ⟨_, rfl⟩
  rw [← hx, ← HM.out] at hxl
  have HA := Lib.hid hA0; clear hA0
  have HBH := Lib.hid hB0; clear hB0
  have HRR := Lib.hid hR; clear hR
  have HX := Lib.hid hx; clear hx
  have HNO := Lib.hid hno; clear hno
  have HYES := Lib.hid hyes; clear hyes
  have hbb : (ok != ok) = false := by simp
  go_wp2_with fail
  refine (iTilingHigh_ret _ _ _ _ _ xs _ _ _ L _ _ _ M HA0 HB0 _ HM.out (by omega) HQ.out (by omega) HR.out (by omega) (A1.out.one _) (I1.out.one _) (J1.out.one _) HA.out HBH.out).mono ?_; rintro e w2 ⟨a2, cap2, rfl, ho2, hb2⟩
  rw [HRR.out] at ho2 ⊢
  simp only at ho2 ⊢
  rw [← HX.out] at ho2 ⊢
  have b2 := below_seq (below_seq b1 (below1 _ _)) hb2
  have pr2 := heap_later (heap_new w1 (.cells #[.int .i64 W0, .int .i64 T0, .slice a m c] 25)) hb2
  have A2 := Lib.hid ((A1.out.one (.cells #[.int .i64 W0, .int .i64 T0, .slice a m c] 25)).below hb2)
  have I2 := Lib.hid ((I1.out.one (.cells #[.int .i64 W0, .int .i64 T0, .slice a m c] 25)).below hb2)
  have J2 := Lib.hid ((J1.out.one (.cells #[.int .i64 W0, .int .i64 T0, .slice a m c] 25)).below hb2)
  have X2 := Lib.hid (OwnsI.at ho2)
  obtain ⟨cr20, cr21, cr22⟩ := cells3 pr2
  have lr2 := heap_lt pr2
  clear ho2
  go_wp2_with fail
  refine (sTilingHigh_ret _ _ _ _ _ xs _ _ _ L _ _ _ M HA0 HB0 _ HM.out (by omega) HQ.out (by omega) HR.out (by omega) A2.out I2.out J2.out HA.out HBH.out).mono ?_; rintro e w3 ⟨a3, cap3, rfl, ho3, hb3⟩
  rw [HRR.out] at ho3 ⊢
  simp only at ho3 ⊢
  rw [← HX.out] at ho3 ⊢
  have b3 := below_seq b2 hb3
  have pr3 := heap_later pr2 hb3
  have A3 := Lib.hid (A2.out.below hb3)
  have I3 := Lib.hid (I2.out.below hb3)
  have J3 := Lib.hid (J2.out.below hb3)
  have X3 := Lib.hid (X2.out.below hb3)
  have Y3 := Lib.hid (OwnsI.at ho3)
  clear cr20 cr21 cr22 lr2
  obtain ⟨cr30, cr31, cr32⟩ := cells3 pr3
  have lr3 := heap_lt pr3
  clear ho3
  go_wp2_with fail
  refine (sameInts_same _ _ _ _ _ X _ HX.out (by omega) X3.out Y3.out).mono ?_; rintro e w4 ⟨rfl, hb4⟩
  have b4 := below_seq b3 hb4
  have pr4 := heap_later pr3 hb4
  have A4 := Lib.hid (A3.out.below hb4)
  have I4 := Lib.hid (I3.out.below hb4)
  have J4 := Lib.hid (J3.out.below hb4)
  have X4 := Lib.hid (X3.out.below hb4)
  have Y4 := Lib.hid (Y3.out.below hb4)
  clear cr30 cr31 cr32 lr3
  obtain ⟨cr40, cr41, cr42⟩ := cells3 pr4
  have lr4 := heap_lt pr4
  cases ok
  · have hxn := HNO.out rfl
    have hx0 : x = 0 := by rw [HX.out, hxn]; rfl
    clear hxn HYES HNO
    subst hx0
    go_wp2_with fail
    refine (alive_any _).mono ?_; rintro e w5 ⟨rfl, hb5⟩
    go_wp2
    go_ret
    exact ⟨rfl, below_seq b4 hb5⟩
  · obtain ⟨hsi, htl, htm⟩ := HYES.out rfl
    obtain ⟨X', hX', htx, hhx, hxl2⟩ := low_mk true hsi htl htm HA.out HBH.out
    obtain rfl : X = X' := by have := HRR.out.symm.trans hX'; injection this
    obtain ⟨hle, hpos⟩ := hts_len hsi htl htm HA.out HBH.out
    obtain ⟨hb1, hb2'⟩ := below_high hpos hle
    have hsw : tlowF true W0 T0 xs HB0 HA0 = (X, true) := by unfold tlowF; rw [both_comm]; exact HRR.out
    have hself : tlowF true W0 T0 xs HA0 HA0 = (L, true) := by
      obtain ⟨Z, hz1, hz2, hz3, _⟩ := low_mk true hsi htl htl HA.out HA.out
      rw [both_self] at hz3
      rw [hz1, hts_same hsi hz2 htl hz3 HA.out]
    obtain ⟨HH, hHH⟩ : ∃ HH, bothL true HA0 HB0 HA0.length = HH := ⟨_, rfl⟩
    rw [hHH] at hhx hb1 hb2'
    have HTX := Lib.hid htx; clear htx
    have HHX := Lib.hid hhx; clear hhx
    have HB1 := Lib.hid hb1; clear hb1
    have HB2 := Lib.hid hb2'; clear hb2'
    have HSW := Lib.hid hsw; clear hsw
    have HSELF := Lib.hid hself; clear hself
    clear hX' hxl2 hHH hle hpos hsi htl htm HYES HNO
    go_wp2_with fail
    refine (iTilingHigh_ret _ _ _ _ _ xs _ _ _ M _ _ _ L HB0 HA0 _ HM.out (by omega) HR.out (by omega) HQ.out (by omega) A4.out J4.out I4.out HBH.out HA.out).mono ?_; rintro e w5 ⟨a5, cap5, rfl, ho5, hb5⟩
    rw [HSW.out] at ho5 ⊢
    simp only at ho5 ⊢
    rw [← HX.out] at ho5 ⊢
    have b5 := below_seq b4 hb5
    have pr5 := heap_later pr4 hb5
    have A5 := Lib.hid (A4.out.below hb5)
    have I5 := Lib.hid (I4.out.below hb5)
    have J5 := Lib.hid (J4.out.below hb5)
    have X5 := Lib.hid (X4.out.below hb5)
    have O5 := Lib.hid (OwnsI.at ho5)
    clear cr40 cr41 cr42 lr4
    obtain ⟨cr50, cr51, cr52⟩ := cells3 pr5
    have lr5 := heap_lt pr5
    clear ho5
    go_wp2_with fail
    refine (iTilingHigh_ret _ _ _ _ _ xs _ _ _ L _ _ _ L HA0 HA0 _ HM.out (by omega) HQ.out (by omega) HQ.out (by omega) A5.out I5.out I5.out HA.out HA.out).mono ?_; rintro e w6 ⟨a6, cap6, rfl, ho6, hb6⟩
    rw [HSELF.out] at ho6 ⊢
    simp only at ho6 ⊢
    rw [← HQ.out] at ho6 ⊢
    have b6 := below_seq b5 hb6
    have pr6 := heap_later pr5 hb6
    have A6 := Lib.hid (A5.out.below hb6)
    have I6 := Lib.hid (I5.out.below hb6)
    have J6 := Lib.hid (J5.out.below hb6)
    have X6 := Lib.hid (X5.out.below hb6)
    have O6 := Lib.hid (O5.out.below hb6)
    have S6 := Lib.hid (OwnsI.at ho6)
    clear cr50 cr51 cr52 lr5
    obtain ⟨cr60, cr61, cr62⟩ := cells3 pr6
    have lr6 := heap_lt pr6
    clear ho6
    go_wp2_with fail
    refine (iTilingOk_any _ _ _ _ _ xs _ _ _ X _ HM.out (by omega) HX.out (by omega) A6.out X6.out).mono ?_; rintro e w7 ⟨rfl, hb7⟩
    rw [HTX.out]
    have b7 := below_seq b6 hb7
    have pr7 := heap_later pr6 hb7
    have A7 := Lib.hid (A6.out.below hb7)
    have I7 := Lib.hid (I6.out.below hb7)
    have J7 := Lib.hid (J6.out.below hb7)
    have X7 := Lib.hid (X6.out.below hb7)
    have O7 := Lib.hid (O6.out.below hb7)
    have S7 := Lib.hid (S6.out.below hb7)
    clear cr60 cr61 cr62 lr6
    obtain ⟨cr70, cr71, cr72⟩ := cells3 pr7
    have lr7 := heap_lt pr7
    go_wp2_with fail
    refine (iBelow_ret _ _ _ _ _ xs _ _ _ L _ _ _ X HA0 HH _ HM.out (by omega) HQ.out (by omega) HX.out (by omega) A7.out I7.out X7.out HA.out HHX.out).mono ?_; rintro e w8 ⟨rfl, hb8⟩
    rw [HB1.out]
    have b8 := below_seq b7 hb8
    have pr8 := heap_later pr7 hb8
    have A8 := Lib.hid (A7.out.below hb8)
    have I8 := Lib.hid (I7.out.below hb8)
    have J8 := Lib.hid (J7.out.below hb8)
    have X8 := Lib.hid (X7.out.below hb8)
    have O8 := Lib.hid (O7.out.below hb8)
    have S8 := Lib.hid (S7.out.below hb8)
    clear cr70 cr71 cr72 lr7
    obtain ⟨cr80, cr81, cr82⟩ := cells3 pr8
    have lr8 := heap_lt pr8
    go_wp2_with fail
    refine (iBelow_ret _ _ _ _ _ xs _ _ _ M _ _ _ X HB0 HH _ HM.out (by omega) HR.out (by omega) HX.out (by omega) A8.out J8.out X8.out HBH.out HHX.out).mono ?_; rintro e w9 ⟨rfl, hb9⟩
    rw [HB2.out]
    have b9 := below_seq b8 hb9
    have pr9 := heap_later pr8 hb9
    have A9 := Lib.hid (A8.out.below hb9)
    have I9 := Lib.hid (I8.out.below hb9)
    have J9 := Lib.hid (J8.out.below hb9)
    have X9 := Lib.hid (X8.out.below hb9)
    have O9 := Lib.hid (O8.out.below hb9)
    have S9 := Lib.hid (S8.out.below hb9)
    clear cr80 cr81 cr82 lr8
    obtain ⟨cr90, cr91, cr92⟩ := cells3 pr9
    have lr9 := heap_lt pr9
    go_wp2_with fail
    refine (sameInts_same _ _ _ _ _ X _ HX.out (by omega) O9.out X9.out).mono ?_; rintro e w10 ⟨rfl, hb10⟩
    have b10 := below_seq b9 hb10
    have pr10 := heap_later pr9 hb10
    have A10 := Lib.hid (A9.out.below hb10)
    have I10 := Lib.hid (I9.out.below hb10)
    have J10 := Lib.hid (J9.out.below hb10)
    have X10 := Lib.hid (X9.out.below hb10)
    have O10 := Lib.hid (O9.out.below hb10)
    have S10 := Lib.hid (S9.out.below hb10)
    clear cr90 cr91 cr92 lr9
    obtain ⟨cr100, cr101, cr102⟩ := cells3 pr10
    have lr10 := heap_lt pr10
    go_wp2_with fail
    refine (sameInts_same _ _ _ _ _ L _ HQ.out (by omega) S10.out I10.out).mono ?_; rintro e w11 ⟨rfl, hb11⟩
    have b11 := below_seq b10 hb11
    have pr11 := heap_later pr10 hb11
    have A11 := Lib.hid (A10.out.below hb11)
    have I11 := Lib.hid (I10.out.below hb11)
    have J11 := Lib.hid (J10.out.below hb11)
    have X11 := Lib.hid (X10.out.below hb11)
    have O11 := Lib.hid (O10.out.below hb11)
    have S11 := Lib.hid (S10.out.below hb11)
    clear cr100 cr101 cr102 lr10
    obtain ⟨cr110, cr111, cr112⟩ := cells3 pr11
    have lr11 := heap_lt pr11
    go_wp2
    go_ret
    exact ⟨rfl, b11⟩

end Go.Proofs.Ytknigcjpgkolgaa
