/- Contracts of the laws' comparisons: lists that may differ; lists of lists; the order of lists. -/
import Derived.Test.YtknigcjpgkolgaaJDrawTwo
import Derived.Test.YtknigcjpgkolgaaJHlowS
import Derived.Test.YtknigcjpgkolgaaJTbyI
namespace Go.Proofs.Ytknigcjpgkolgaa
open Go.RowKit
set_option linter.unusedVariables false
set_option maxRecDepth 100000
set_option linter.unusedSimpArgs false

def tlowF (hi : Bool) (W T : Int) (xs : List Bool) (A B : List Int) : List Int × Bool := tbyF W T xs (bothF hi W T xs A B)
theorem tlowF_len (hi : Bool) (W T : Int) (xs : List Bool) (A B : List Int) : (tlowF hi W T xs A B).1.length ≤ xs.length := tbyF_len _ _ _ _

set_option maxHeartbeats 4000000 in
theorem sTilingLow_ret (W T : Int) (a : Option Addr) (n cap : Nat) (xs : List Bool) (la0 : Option Addr) (m0 lcap0 : Nat) (L0 : List Int) (la1 : Option Addr) (m1 lcap1 : Nat) (L1 : List Int) (A B : List Int) (w : World) (hn : n = xs.length) (hn' : n ≤ 1048576) (hm0 : m0 = L0.length) (hm0' : m0 ≤ 1048576) (hm1 : m1 = L1.length) (hm1' : m1 ≤ 1048576) (ha : BoolsAt w a xs) (hl0 : IntsAt w la0 L0) (hl1 : IntsAt w la1 L1) (hA : HtsR W T xs L0 A) (hB : HtsR W T xs L1 B) :
    Calls Try.prog 36 #[.agg #[.int .i64 W, .int .i64 T, .slice a n cap], .slice la0 m0 lcap0, .slice la1 m1 lcap1] w (RetLT w (tlowF false W T xs A B).1.length (tlowF false W T xs A B).1 (tlowF false W T xs A B).2) := by
  have HN := Lib.hid hn; clear hn
  have HM0 := Lib.hid hm0; clear hm0
  have HM1 := Lib.hid hm1; clear hm1
  have HA := Lib.hid ha; clear ha
  have HL0 := Lib.hid hl0; clear hl0
  have HL1 := Lib.hid hl1; clear hl1
  have hla := hA.len; have hlb := hB.len
  have HHA := Lib.hid hA; have HHB := Lib.hid hB
  clear hA hB
  have hlf := bothF_len false W T xs A B
  obtain ⟨p, hp⟩ : ∃ p, p = A.length := ⟨_, rfl⟩
  obtain ⟨q, hq⟩ : ∃ q, q = B.length := ⟨_, rfl⟩
  obtain ⟨F, hF⟩ : ∃ F, F = bothF false W T xs A B := ⟨_, rfl⟩
  obtain ⟨r, hr⟩ : ∃ r, r = F.length := ⟨_, rfl⟩
  have HFF : Hid (tlowF false W T xs A B = tbyF W T xs F) := by show _ = _; rw [hF]; rfl
  rw [HFF.out]
  rw [← hF, ← hp, ← hr] at hlf
  rw [← hp] at hla; rw [← hq] at hlb
  have HP := Lib.hid hp; have HQ := Lib.hid hq; have HF := Lib.hid hF; have HR := Lib.hid hr
  clear hp hq hF hr
  have cA : ∀ w : World, RetL w A.length A = RetL w p A := fun w => by rw [HP.out]
  have cB : ∀ w : World, RetL w B.length B = RetL w q B := fun w => by rw [HQ.out]
  have cF : ∀ w : World, RetL w (bothF false W T xs A B).length (bothF false W T xs A B) = RetL w r F := fun w => by rw [← HF.out, HR.out]
  have HcA := Lib.hid cA; have HcB := Lib.hid cB; have HcF := Lib.hid cF
  clear cA cB cF
  have K1 : ∀ w', BoolsAt w' a xs → IntsAt w' la0 L0 → Calls Try.prog 17 #[.agg #[.int .i64 W, .int .i64 T, .slice a n cap], .slice la0 m0 lcap0] w' (RetL w' p A) := fun w' h1 h2 => by have := sHeightsOf_ret W T a n cap xs la0 m0 lcap0 L0 A w' HN.out hn' HM0.out hm0' h1 h2 HHA.out; rwa [HcA.out] at this
  have K2 : ∀ w', BoolsAt w' a xs → IntsAt w' la1 L1 → Calls Try.prog 17 #[.agg #[.int .i64 W, .int .i64 T, .slice a n cap], .slice la1 m1 lcap1] w' (RetL w' q B) := fun w' h1 h2 => by have := sHeightsOf_ret W T a n cap xs la1 m1 lcap1 L1 B w' HN.out hn' HM1.out hm1' h1 h2 HHB.out; rwa [HcB.out] at this
  have K3 : ∀ w' a1 c1 a2 c2, BoolsAt w' a xs → IntsAt w' a1 A → IntsAt w' a2 B → Calls Try.prog 30 #[.agg #[.int .i64 W, .int .i64 T, .slice a n cap], .slice a1 p c1, .slice a2 q c2] w' (RetL w' r F) := fun w' a1 c1 a2 c2 h1 h2 h3 => by have := sHeightsLow_ret W T a n cap xs a1 p c1 A a2 q c2 B w' HN.out hn' HP.out (by omega) HQ.out (by omega) h1 h2 h3; rwa [HcF.out] at this
  have K4 : ∀ w' a3 c3, BoolsAt w' a xs → IntsAt w' a3 F → Calls Try.prog 27 #[.agg #[.int .i64 W, .int .i64 T, .slice a n cap], .slice a3 r c3] w' (RetLT w' (tbyF W T xs F).1.length (tbyF W T xs F).1 (tbyF W T xs F).2) := fun w' a3 c3 h1 h2 => sTilingBy_ret W T a n cap xs a3 r c3 F w' HN.out hn' HR.out (by omega) h1 h2
  have HK1 := Lib.hid K1; have HK2 := Lib.hid K2; have HK3 := Lib.hid K3; have HK4 := Lib.hid K4
  clear K1 K2 K3 K4
  generalize (tbyF W T xs F).2 = okv at HK4 ⊢
  generalize (tbyF W T xs F).1 = ys at HK4 ⊢
  obtain ⟨z, hz⟩ : ∃ z, z = ys.length := ⟨_, rfl⟩
  rw [← hz] at HK4 ⊢
  have HZ := Lib.hid hz; clear hz
  have PA : (w.alloc (.cells #[.int .i64 W, .int .i64 T, .slice a n cap] 25)).drew.heap[w.heap.size]? = some _ := heap_new w (.cells #[.int .i64 W, .int .i64 T, .slice a n cap] 25)
  have bA : Below w.heap.size w (w.alloc (.cells #[.int .i64 W, .int .i64 T, .slice a n cap] 25)).drew := below_seq (below1 _ _) (drew_below _)
  obtain ⟨c0, c1, c2⟩ := cells3 (heap_new w (.cells #[.int .i64 W, .int .i64 T, .slice a n cap] 25))
  go_enter Try.func36, Try.ntmps36
  go_wp2_with fail
  go_region_held3 (fun w' => w'.cell? ⟨w.heap.size, 0, none⟩ = some (.int .i64 W) ∧ w'.cell? ⟨w.heap.size, 1, none⟩ = some (.int .i64 T) ∧ w'.cell? ⟨w.heap.size, 2, none⟩ = some (.slice a n cap))
    (go_keep)
    (first
      | (go_at_call 27; refine (HK4.out _ _ _ (HA.out.below b3) (OwnsI.at o3)).mono ?_; rintro e w4 ⟨a4, k4, rfl, o4, hb4⟩; have b4 := below_seq b3 hb4; have p4 := heap_later p3 hb4; obtain ⟨g0, g1, g2⟩ := cells3 p4)
      | (go_at_call 30; refine (HK3.out _ _ _ _ _ (HA.out.below b2) (OwnsI.at (o1.below hb2)) (OwnsI.at o2)).mono ?_; rintro e w3 ⟨a3, k3, rfl, o3, hb3⟩; have b3 := below_seq b2 hb3; have p3 := heap_later p2 hb3; obtain ⟨f0, f1, f2⟩ := cells3 p3)
      | (go_at_call 17; refine (HK2.out _ (HA.out.below b1) (HL1.out.below b1)).mono ?_; rintro e w2 ⟨a2, k2, rfl, o2, hb2⟩; have b2 := below_seq b1 hb2; have p2 := heap_later p1 hb2; obtain ⟨e0, e1, e2⟩ := cells3 p2)
      | (go_at_call 17; refine (HK1.out _ (HA.out.below bA) (HL0.out.below bA)).mono ?_; rintro e w1 ⟨a1, k1, rfl, o1, hb1⟩; have b1 := below_seq bA hb1; have p1 := heap_later PA hb1; obtain ⟨d0, d1, d2⟩ := cells3 p1))
  have O4 := Lib.hid (o4.lower b3.size)
  have B4 := Lib.hid b4
  clear o1 o2 o3 o4 hb1 hb2 hb3 hb4 b1 b2 b3 b4
  go_wp2
  go_ret2
  exact ⟨a4, k4, rfl, O4.out, B4.out⟩

set_option maxHeartbeats 4000000 in
theorem iTilingLow_ret (W T : Int) (a : Option Addr) (n cap : Nat) (xs : List Bool) (la0 : Option Addr) (m0 lcap0 : Nat) (L0 : List Int) (la1 : Option Addr) (m1 lcap1 : Nat) (L1 : List Int) (A B : List Int) (w : World) (hn : n = xs.length) (hn' : n ≤ 1048576) (hm0 : m0 = L0.length) (hm0' : m0 ≤ 1048576) (hm1 : m1 = L1.length) (hm1' : m1 ≤ 1048576) (ha : BoolsAt w a xs) (hl0 : IntsAt w la0 L0) (hl1 : IntsAt w la1 L1) (hA : HtsR W T xs L0 A) (hB : HtsR W T xs L1 B) :
    Calls Try.prog 35 #[.agg #[.int .i64 W, .int .i64 T, .slice a n cap], .slice la0 m0 lcap0, .slice la1 m1 lcap1] w (RetLT w (tlowF false W T xs A B).1.length (tlowF false W T xs A B).1 (tlowF false W T xs A B).2) := by
  have HN := Lib.hid hn; clear hn
  have HM0 := Lib.hid hm0; clear hm0
  have HM1 := Lib.hid hm1; clear hm1
  have HA := Lib.hid ha; clear ha
  have HL0 := Lib.hid hl0; clear hl0
  have HL1 := Lib.hid hl1; clear hl1
  have hla := hA.len; have hlb := hB.len
  have HHA := Lib.hid hA; have HHB := Lib.hid hB
  clear hA hB
  have hlf := bothF_len false W T xs A B
  obtain ⟨p, hp⟩ : ∃ p, p = A.length := ⟨_, rfl⟩
  obtain ⟨q, hq⟩ : ∃ q, q = B.length := ⟨_, rfl⟩
  obtain ⟨F, hF⟩ : ∃ F, F = bothF false W T xs A B := ⟨_, rfl⟩
  obtain ⟨r, hr⟩ : ∃ r, r = F.length := ⟨_, rfl⟩
  have HFF : Hid (tlowF false W T xs A B = tbyF W T xs F) := by show _ = _; rw [hF]; rfl
  rw [HFF.out]
  rw [← hF, ← hp, ← hr] at hlf
  rw [← hp] at hla; rw [← hq] at hlb
  have HP := Lib.hid hp; have HQ := Lib.hid hq; have HF := Lib.hid hF; have HR := Lib.hid hr
  clear hp hq hF hr
  have cA : ∀ w : World, RetL w A.length A = RetL w p A := fun w => by rw [HP.out]
  have cB : ∀ w : World, RetL w B.length B = RetL w q B := fun w => by rw [HQ.out]
  have cF : ∀ w : World, RetL w (bothF false W T xs A B).length (bothF false W T xs A B) = RetL w r F := fun w => by rw [← HF.out, HR.out]
  have HcA := Lib.hid cA; have HcB := Lib.hid cB; have HcF := Lib.hid cF
  clear cA cB cF
  have K1 : ∀ w', BoolsAt w' a xs → IntsAt w' la0 L0 → Calls Try.prog 15 #[.agg #[.int .i64 W, .int .i64 T, .slice a n cap], .slice la0 m0 lcap0] w' (RetL w' p A) := fun w' h1 h2 => by have := iHeightsOf_ret W T a n cap xs la0 m0 lcap0 L0 A w' HN.out hn' HM0.out hm0' h1 h2 HHA.out; rwa [HcA.out] at this
  have K2 : ∀ w', BoolsAt w' a xs → IntsAt w' la1 L1 → Calls Try.prog 15 #[.agg #[.int .i64 W, .int .i64 T, .slice a n cap], .slice la1 m1 lcap1] w' (RetL w' q B) := fun w' h1 h2 => by have := iHeightsOf_ret W T a n cap xs la1 m1 lcap1 L1 B w' HN.out hn' HM1.out hm1' h1 h2 HHB.out; rwa [HcB.out] at this
  have K3 : ∀ w' a1 c1 a2 c2, BoolsAt w' a xs → IntsAt w' a1 A → IntsAt w' a2 B → Calls Try.prog 29 #[.agg #[.int .i64 W, .int .i64 T, .slice a n cap], .slice a1 p c1, .slice a2 q c2] w' (RetL w' r F) := fun w' a1 c1 a2 c2 h1 h2 h3 => by have := iHeightsLow_ret W T a n cap xs a1 p c1 A a2 q c2 B w' HN.out hn' HP.out (by omega) HQ.out (by omega) h1 h2 h3; rwa [HcF.out] at this
  have K4 : ∀ w' a3 c3, BoolsAt w' a xs → IntsAt w' a3 F → Calls Try.prog 21 #[.agg #[.int .i64 W, .int .i64 T, .slice a n cap], .slice a3 r c3] w' (RetLT w' (tbyF W T xs F).1.length (tbyF W T xs F).1 (tbyF W T xs F).2) := fun w' a3 c3 h1 h2 => iTilingBy_ret W T a n cap xs a3 r c3 F w' HN.out hn' HR.out (by omega) h1 h2
  have HK1 := Lib.hid K1; have HK2 := Lib.hid K2; have HK3 := Lib.hid K3; have HK4 := Lib.hid K4
  clear K1 K2 K3 K4
  generalize (tbyF W T xs F).2 = okv at HK4 ⊢
  generalize (tbyF W T xs F).1 = ys at HK4 ⊢
  obtain ⟨z, hz⟩ : ∃ z, z = ys.length := ⟨_, rfl⟩
  rw [← hz] at HK4 ⊢
  have HZ := Lib.hid hz; clear hz
  have PA : (w.alloc (.cells #[.int .i64 W, .int .i64 T, .slice a n cap] 25)).drew.heap[w.heap.size]? = some _ := heap_new w (.cells #[.int .i64 W, .int .i64 T, .slice a n cap] 25)
  have bA : Below w.heap.size w (w.alloc (.cells #[.int .i64 W, .int .i64 T, .slice a n cap] 25)).drew := below_seq (below1 _ _) (drew_below _)
  obtain ⟨c0, c1, c2⟩ := cells3 (heap_new w (.cells #[.int .i64 W, .int .i64 T, .slice a n cap] 25))
  go_enter Try.func35, Try.ntmps35
  go_wp2_with fail
  go_region_held3 (fun w' => w'.cell? ⟨w.heap.size, 0, none⟩ = some (.int .i64 W) ∧ w'.cell? ⟨w.heap.size, 1, none⟩ = some (.int .i64 T) ∧ w'.cell? ⟨w.heap.size, 2, none⟩ = some (.slice a n cap))
    (go_keep)
    (first
      | (go_at_call 21; refine (HK4.out _ _ _ (HA.out.below b3) (OwnsI.at o3)).mono ?_; rintro e w4 ⟨a4, k4, rfl, o4, hb4⟩; have b4 := below_seq b3 hb4; have p4 := heap_later p3 hb4; obtain ⟨g0, g1, g2⟩ := cells3 p4)
      | (go_at_call 29; refine (HK3.out _ _ _ _ _ (HA.out.below b2) (OwnsI.at (o1.below hb2)) (OwnsI.at o2)).mono ?_; rintro e w3 ⟨a3, k3, rfl, o3, hb3⟩; have b3 := below_seq b2 hb3; have p3 := heap_later p2 hb3; obtain ⟨f0, f1, f2⟩ := cells3 p3)
      | (go_at_call 15; refine (HK2.out _ (HA.out.below b1) (HL1.out.below b1)).mono ?_; rintro e w2 ⟨a2, k2, rfl, o2, hb2⟩; have b2 := below_seq b1 hb2; have p2 := heap_later p1 hb2; obtain ⟨e0, e1, e2⟩ := cells3 p2)
      | (go_at_call 15; refine (HK1.out _ (HA.out.below bA) (HL0.out.below bA)).mono ?_; rintro e w1 ⟨a1, k1, rfl, o1, hb1⟩; have b1 := below_seq bA hb1; have p1 := heap_later PA hb1; obtain ⟨d0, d1, d2⟩ := cells3 p1))
  have O4 := Lib.hid (o4.lower b3.size)
  have B4 := Lib.hid b4
  clear o1 o2 o3 o4 hb1 hb2 hb3 hb4 b1 b2 b3 b4
  go_wp2
  go_ret2
  exact ⟨a4, k4, rfl, O4.out, B4.out⟩

end Go.Proofs.Ytknigcjpgkolgaa

namespace Go.Proofs.Ytknigcjpgkolgaa
open Go.RowKit
set_option linter.unusedVariables false
set_option maxRecDepth 100000
set_option linter.unusedSimpArgs false

set_option maxHeartbeats 4000000 in
theorem drawBelow_any (cb : Option Addr) (n cap : Nat) (zs : List Int) (w : World) (hn : n = zs.length) (hn' : n ≤ 1048576) (hcap : n ≤ cap) (hb : BytesAt w cb zs) :
    Calls Try.prog 43 #[.slice cb n cap] w (DrawnRLL w) := by
  have HN := Lib.hid hn; clear hn
  have HB := Lib.hid hb; clear hb
  go_enter Try.func43, Try.ntmps43
  go_wp2_with fail
  refine (l20Open_any _ _ _ zs _ HN.out hn' hcap (HB.out.below (below1 _ _))).mono ?_; rintro e w1 ⟨rfl, r1, b1⟩
  have q1 := heap_later (heap_new w (.cells #[.int .i64 0, .int .i64 0, .slice none 0 0] 25)) b1
  have B1 := Lib.hid (below_seq (below1 w _) b1)
  have R1 : Hid (RD w1 (w.heap.size + 1) 0) := by show RD _ _ _; simpa using r1
  have l1 := heap_lt q1
  have l2 := R1.out.lt
  clear r1 b1
  go_wp2_with fail
  refine (l20Two_any (w.heap.size + 1) 0 _ (by omega) R1.out).mono ?_; rintro e w2 ⟨W, T, a, m, c, xs, la, q, lcap, L, lb, r, bcap, M, rfl, hm, h36, hs, o2, hq, hq36, i2, hr, hr36, j2, r2, g2⟩
  have q2 := heap_grown q1 g2 (by simp)
  have B2 := Lib.hid (below_grown B1.out g2 (Nat.le_refl _) (fun k e => by cases e; omega))
  have HM := Lib.hid hm; clear hm
  have HQ := Lib.hid hq; clear hq
  have HR := Lib.hid hr; clear hr
  have hl2 := r2.lt
  obtain ⟨wB, hwB⟩ : ∃ wB, wB = w2.alloc (.cells #[.int .i64 W, .int .i64 T, .slice a m c] 25) := ⟨_, rfl⟩
  have pB : wB.heap[w2.heap.size]? = some (.cells #[.int .i64 W, .int .i64 T, .slice a m c] 25 (0, 0)) := by rw [hwB]; exact heap_new _ _
  have q3 : wB.heap[w.heap.size]? = some (.cells #[.int .i64 0, .int .i64 0, .slice none 0 0] 25 (0, 0)) := by rw [hwB]; exact heap_later q2 (below1 _ _)
  have B3 : Hid (Below w.heap.size w wB) := by rw [hwB]; exact below_seq B2.out (below1 _ _)
  have O3 : Hid (OwnsB wB w1.heap.size (.slice a m c) xs) := by rw [hwB]; exact o2.alloc _
  have I3 : Hid (OwnsI wB w1.heap.size (.slice la q lcap) L) := by rw [hwB]; exact i2.alloc _
  have J3 : Hid (OwnsI wB w1.heap.size (.slice lb r bcap) M) := by rw [hwB]; exact j2.alloc _
  have R3 : Hid (RD wB (w.heap.size + 1) 600) := by rw [hwB]; exact (r2.below (below1 _ _)).mono (by omega)
  have zB : w2.heap.size < wB.heap.size := by rw [hwB]; simp
  obtain ⟨N, hN⟩ : ∃ N, N = w2.heap.size := ⟨_, rfl⟩
  rw [← hN] at pB zB hl2
  clear o2 i2 j2 r2 g2 q2
  obtain ⟨H0, hH0⟩ := htsR_exist W T xs L
  obtain ⟨H1, hH1⟩ := htsR_exist W T xs M
  have hxl := tlowF_len false W T xs H0 H1
  obtain ⟨R, hR⟩ : ∃ R, tlowF false W T xs H0 H1 = R := ⟨_, rfl⟩
  rw [hR] at hxl
  obtain ⟨X, ok⟩ := R
  simp only at hxl
  obtain ⟨x, hx⟩ : ∃ x, x = X.length := ⟨_, rfl⟩
  rw [← hx, ← HM.out] at hxl
  have HH0 := Lib.hid hH0; clear hH0
  have HH1 := Lib.hid hH1; clear hH1
  have HRR := Lib.hid hR; clear hR
  have HX := Lib.hid hx; clear hx
  obtain ⟨c0, c1, c2⟩ := cells3 pB
  go_wp2_with fail
  rw [← hwB, ← hN]
  clear hwB hN
  refine (sTilingLow_ret _ _ _ _ _ xs _ _ _ L _ _ _ M H0 H1 _ HM.out (by omega) HQ.out (by omega) HR.out (by omega) (OwnsB.at O3.out) (OwnsI.at I3.out) (OwnsI.at J3.out) HH0.out HH1.out).mono ?_; rintro e w4 ⟨a4, cap4, rfl, ho4, hb4⟩
  rw [HRR.out] at ho4 ⊢
  simp only at ho4 ⊢
  rw [← HX.out] at ho4 ⊢
  have p4 := heap_later pB hb4
  have q4 := heap_later q3 hb4
  have B4 := Lib.hid (below_seq B3.out hb4)
  have O4 := Lib.hid (O3.out.below hb4)
  have I4 := Lib.hid (I3.out.below hb4)
  have J4 := Lib.hid (J3.out.below hb4)
  have R4 := Lib.hid (R3.out.below hb4)
  have X4 := Lib.hid ho4
  have z4 := hb4.size
  clear ho4 hb4 pB q3 B3 O3 I3 J3 R3 c0 c1 c2
  obtain ⟨c0, c1, c2⟩ := cells3 p4
  obtain ⟨d0, d1, d2⟩ := cells3 q4
  have f0 := free3 q4 0
  have f1 := free3 q4 1
  have f2 := free3 q4 2
  cases ok
  · go_wp2
    refine bodyPost_ret (v := .tuple #[.agg #[.int .i64 W, .int .i64 T, .slice a m c], .slice la q lcap, .slice lb r bcap]) (by simp [results, Try.results43, go_sem, d0, d1, d2]) rfl ⟨W, T, a, m, c, xs, la, q, lcap, L, lb, r, bcap, M, rfl, HM.out, h36, hs, (O4.out.set3 (by omega) _ _ _).lower (by omega), HQ.out, by omega, (own_set3 I4.out (by omega) _ _ _).lower (by omega), HR.out, by omega, (own_set3 J4.out (by omega) _ _ _).lower (by omega), below_set3 B4.out (Nat.le_refl _) _ _ _⟩
  · go_wp2_with fail
    refine (pick_any (w.heap.size + 1) 600 3 _ (by omega) (by omega) (by omega) R4.out).mono ?_; rintro e w5 ⟨x5, hx5, rfl, r5, g5⟩
    have p5 := heap_grown p4 g5 (by simp; omega)
    have q5 := heap_grown q4 g5 (by simp)
    have B5 := Lib.hid (below_grown B4.out g5 (Nat.le_refl _) (fun k e => by cases e; omega))
    have O5 := Lib.hid (O4.out.keptBy g5 (fun k e => by cases e; omega))
    have I5 := Lib.hid (I4.out.keptBy g5 (fun k e => by cases e; omega))
    have J5 := Lib.hid (J4.out.keptBy g5 (fun k e => by cases e; omega))
    have X5 := Lib.hid (X4.out.keptBy g5 (fun k e => by cases e; omega))
    clear r5 g5 p4 q4 c0 c1 c2 d0 d1 d2 f0 f1 f2 O4 I4 J4 X4 R4
    obtain ⟨c0, c1, c2⟩ := cells3 p5
    obtain ⟨d0, d1, d2⟩ := cells3 q5
    have f0 := free3 q5 0
    have f1 := free3 q5 1
    have f2 := free3 q5 2
    by_cases hx0 : x5 = 0
    · subst hx0
      go_wp2
      refine bodyPost_ret (v := .tuple #[.agg #[.int .i64 W, .int .i64 T, .slice a m c], .slice a4 x cap4, .slice lb r bcap]) (by simp [results, Try.results43, go_sem, d0, d1, d2]) rfl ⟨W, T, a, m, c, xs, a4, x, cap4, X, lb, r, bcap, M, rfl, HM.out, h36, hs, (O5.out.set3 (by omega) _ _ _).lower (by omega), HX.out, by omega, (own_set3 X5.out (by omega) _ _ _).lower (by omega), HR.out, by omega, (own_set3 J5.out (by omega) _ _ _).lower (by omega), below_set3 B5.out (Nat.le_refl _) _ _ _⟩
    · have hx0b : ((x5 : Int) == 0) = false := by simp; omega
      go_wp2
      refine bodyPost_ret (v := .tuple #[.agg #[.int .i64 W, .int .i64 T, .slice a m c], .slice la q lcap, .slice lb r bcap]) (by simp [results, Try.results43, go_sem, d0, d1, d2]) rfl ⟨W, T, a, m, c, xs, la, q, lcap, L, lb, r, bcap, M, rfl, HM.out, h36, hs, (O5.out.set3 (by omega) _ _ _).lower (by omega), HQ.out, by omega, (own_set3 I5.out (by omega) _ _ _).lower (by omega), HR.out, by omega, (own_set3 J5.out (by omega) _ _ _).lower (by omega), below_set3 B5.out (Nat.le_refl _) _ _ _⟩

end Go.Proofs.Ytknigcjpgkolgaa

namespace Go.Proofs.Ytknigcjpgkolgaa
open Go.RowKit
set_option linter.unusedVariables false
set_option maxRecDepth 100000
set_option linter.unusedSimpArgs false

theorem may_cases {W T : Int} {xs : List Bool} {k : Nat} {nth : Bool} {d : Int} (h : rMay W T xs k nth d = true) : (sRise W k nth = 1 ∨ sRise W k nth = -1) ∧ (d = sRise W k nth ∨ (sBoth W T xs k nth = true ∧ d = -3 * sRise W k nth)) := by
  unfold rMay at h
  simp only [Bool.or_eq_true, Bool.and_eq_true, beq_iff_eq] at h
  exact ⟨by unfold sRise; split <;> simp, h⟩
/-- Right heights differ by multiples of 4. -/
theorem hok_mod {W T : Int} {xs : List Bool} {A B : List Int} {N fk : Nat} (hA : HokP W T xs A N fk) (hB : HokP W T xs B N fk) : ∀ k, hAt W T xs k = true → (A.getD k 0 - B.getD k 0) % 4 = 0 := by
  obtain ⟨v1, v2, v3, v4, v5, v6⟩ := rv_true (simpleB_rv hA.hs)
  have hN := hA.hN
  refine corners_all hA.hs hA.fst (fun k => (A.getD k 0 - B.getD k 0) % 4 = 0) ?_ ?_
  · rw [hA.first, hB.first]; rfl
  · intro k nth hu
    obtain ⟨t0, t1, t2⟩ := sTo_lt v1 hu
    have a := may_cases (hA.side k nth (by omega) hu)
    have b := may_cases (hB.side k nth (by omega) hu)
    omega
theorem pick_cases (hi : Bool) (x y : Int) : (pickI hi x y = x ∧ (if hi then y ≤ x else x ≤ y)) ∨ (pickI hi x y = y ∧ (if hi then x ≤ y else y ≤ x)) := by
  unfold pickI
  cases hi
  · simp only [Bool.false_eq_true, if_false]
    by_cases h : y < x
    · rw [if_pos h]; right; exact ⟨rfl, by omega⟩
    · rw [if_neg h]; left; exact ⟨rfl, by omega⟩
  · simp only [if_true]
    by_cases h : x < y
    · rw [if_pos h]; right; exact ⟨rfl, by omega⟩
    · rw [if_neg h]; left; exact ⟨rfl, by omega⟩
theorem both_get (hi : Bool) (A B : List Int) {k : Nat} (hk : k < A.length) : (bothL hi A B A.length).getD k 0 = pickI hi (A.getD k 0) (B.getD k 0) := by
  simp [bothL, hk]
/-- Of two lists of right heights, the lesser ones (the greater ones) at each corner are right. -/
theorem hok_both (hi : Bool) {W T : Int} {xs : List Bool} {A B : List Int} {N fk : Nat} (hA : HokP W T xs A N fk) (hB : HokP W T xs B N fk) : HokP W T xs (bothL hi A B A.length) N fk := by
  obtain ⟨v1, v2, v3, v4, v5, v6⟩ := rv_true (simpleB_rv hA.hs)
  have hN := hA.hN
  have hlA := hA.len
  have G : ∀ k, k < N → (bothL hi A B A.length).getD k 0 = pickI hi (A.getD k 0) (B.getD k 0) := fun k hk => both_get hi A B (by omega)
  refine ⟨hA.hs, hA.hN, hA.fst, by rw [bothL_len]; exact hA.len, ?_, ?_, ?_, ?_⟩
  · intro k hk ha
    rw [G k hk, hA.off k hk ha, hB.off k hk ha]
    rcases pick_cases hi 99 99 with ⟨e, _⟩ | ⟨e, _⟩ <;> exact e
  · intro k hk ha
    rw [G k hk]
    have a := hA.bd k hk ha
    have b := hB.bd k hk ha
    rcases pick_cases hi (A.getD k 0) (B.getD k 0) with ⟨e, _⟩ | ⟨e, _⟩ <;> rw [e]
    · exact a
    · exact b
  · intro k nth hk hu
    obtain ⟨t0, t1, t2⟩ := sTo_lt v1 hu
    have hk2 : (sTo W k nth).toNat < N := by omega
    rw [G k hk, G _ hk2]
    obtain ⟨hr, a⟩ := may_cases (hA.side k nth hk hu)
    obtain ⟨_, b⟩ := may_cases (hB.side k nth hk hu)
    have hat1 : hAt W T xs k = true := (hAt_iff v1).2 (Or.inl ⟨nth, hu⟩)
    have m := hok_mod hA hB k hat1
    have ha : A.getD (sTo W k nth).toNat 0 - A.getD k 0 = sRise W k nth ∨ A.getD (sTo W k nth).toNat 0 - A.getD k 0 = -3 * sRise W k nth := a.imp id And.right
    have hb : B.getD (sTo W k nth).toNat 0 - B.getD k 0 = sRise W k nth ∨ B.getD (sTo W k nth).toNat 0 - B.getD k 0 = -3 * sRise W k nth := b.imp id And.right
    have key : pickI hi (A.getD (sTo W k nth).toNat 0) (B.getD (sTo W k nth).toNat 0) - pickI hi (A.getD k 0) (B.getD k 0) = A.getD (sTo W k nth).toNat 0 - A.getD k 0 ∨ pickI hi (A.getD (sTo W k nth).toNat 0) (B.getD (sTo W k nth).toNat 0) - pickI hi (A.getD k 0) (B.getD k 0) = B.getD (sTo W k nth).toNat 0 - B.getD k 0 := by
      have e1 := pick_cases hi (A.getD k 0) (B.getD k 0)
      have e2 := pick_cases hi (A.getD (sTo W k nth).toNat 0) (B.getD (sTo W k nth).toNat 0)
      generalize pickI hi (A.getD k 0) (B.getD k 0) = u at *
      generalize pickI hi (A.getD (sTo W k nth).toNat 0) (B.getD (sTo W k nth).toNat 0) = u' at *
      generalize A.getD (sTo W k nth).toNat 0 = a' at *
      generalize B.getD (sTo W k nth).toNat 0 = b' at *
      generalize A.getD k 0 = a0 at *
      generalize B.getD k 0 = b0 at *
      generalize sRise W k nth = r at *
      clear a b hat1 hk2 t0 t1 t2 hk hu G v1 v2 v3 v4 v5 v6 hN hlA hA hB
      cases hi <;> simp only [Bool.false_eq_true, if_false, if_true] at e1 e2 <;> omega
    refine may_of ?_
    rcases key with e | e <;> rw [e]
    · exact a
    · exact b
  · have hfk : fk < N := (first_hAt v1 hA.fst).1
    rw [G fk hfk, hA.first, hB.first]
    rcases pick_cases hi 0 0 with ⟨e, _⟩ | ⟨e, _⟩ <;> exact e
theorem both_hok (hi : Bool) {W T : Int} {xs : List Bool} {A B : List Int} (hA : hokB W T xs A = true) (hB : hokB W T xs B = true) : hokB W T xs (bothL hi A B A.length) = true := by
  have hs : simpleB W T xs = true := by unfold hokB at hA; simp only [Bool.and_eq_true] at hA; exact hA.1.1.1.1
  obtain ⟨N, fk, hN, hf⟩ := hokP_size hs
  exact hok_of (hok_both hi (hok_to hN hf hA) (hok_to hN hf hB))
theorem bothF_ok (hi : Bool) {W T : Int} {xs : List Bool} {A B : List Int} (h : 0 < (bothF hi W T xs A B).length) : hokB W T xs (bothF hi W T xs A B) = true ∧ hokB W T xs A = true ∧ hokB W T xs B = true ∧ bothF hi W T xs A B = bothL hi A B A.length := by
  unfold bothF at h ⊢
  cases hA : hokB W T xs A
  · rw [hA] at h; simp at h
  · cases hB : hokB W T xs B
    · rw [hA, hB] at h; simp at h
    · simp only [Bool.and_self, if_true]
      exact ⟨both_hok hi hA hB, trivial, trivial, trivial⟩
end Go.Proofs.Ytknigcjpgkolgaa

namespace Go.Proofs.Ytknigcjpgkolgaa
open Go.RowKit
set_option linter.unusedVariables false
set_option maxRecDepth 100000
set_option linter.unusedSimpArgs false

/-- What right heights tell: a tiling of which they are the heights. -/
theorem tby_to {W T : Int} {xs : List Bool} {H : List Int} (h : hokB W T xs H = true) : simpleB W T xs = true ∧ (tbyF W T xs H).2 = true ∧ tok W T xs (tbyF W T xs H).1 = true ∧ HtsR W T xs (tbyF W T xs H).1 H := by
  have hs : simpleB W T xs = true := by unfold hokB at h; simp only [Bool.and_eq_true] at h; exact h.1.1.1.1
  obtain ⟨N, fk, hN, hf⟩ := hokP_size hs
  have hp := hok_to hN hf h
  have eN : ((W + 1) * (T + 1)).toNat = N := by omega
  unfold tbyF
  rw [if_pos h, eN]
  refine ⟨hs, rfl, tby_tok hp, Or.inl ⟨by rw [hs, tby_tok hp]; rfl, ?_⟩⟩
  rw [eN]; exact tby_hts hp
theorem tbyF_ok (W T : Int) (xs : List Bool) (H : List Int) : (tbyF W T xs H).2 = hokB W T xs H := by
  unfold tbyF; split
  · rename_i h; rw [h]
  · rename_i h; simp only; cases hh : hokB W T xs H
    · rfl
    · exact absurd hh h
theorem htsR_unique {W T : Int} {xs : List Bool} {L H H' : List Int} (h : HtsR W T xs L H) (h' : HtsR W T xs L H') : H = H' := by
  rcases h with ⟨c, h⟩ | ⟨c, h⟩ <;> rcases h' with ⟨c', h'⟩ | ⟨c', h'⟩
  · rw [Bool.and_eq_true] at c
    obtain ⟨N, fk, hN, hf⟩ := hokP_size c.1
    have eN : ((W + 1) * (T + 1)).toNat = N := by omega
    rw [eN] at h h'
    exact hts_unique c.1 hN hf h h'
  · rw [c] at c'; cases c'
  · rw [c] at c'; cases c'
  · rw [h, h']

end Go.Proofs.Ytknigcjpgkolgaa

namespace Go.Proofs.Ytknigcjpgkolgaa
open Go.RowKit
set_option linter.unusedVariables false
set_option maxRecDepth 100000
set_option linter.unusedSimpArgs false

end Go.Proofs.Ytknigcjpgkolgaa

namespace Go.Proofs.Ytknigcjpgkolgaa
open Go.RowKit Go.Shelf
set_option linter.unusedVariables false
set_option maxRecDepth 100000
set_option linter.unusedSimpArgs false
attribute [local go_sem] Oper.semAt_some

/-- How a part of the walk ends: it goes on, all of them having come; or it is to stop, some having come. -/
def ItPost (J Jx : List (List Int) → World → Prop) (pre all : List (List Int)) (b : Bool) (W' : World) : Prop :=
  (b = true → J (pre ++ all) W') ∧ (b = false → ∃ q, q <+: all ∧ q ≠ [] ∧ Jx (pre ++ q) W')

end Go.Proofs.Ytknigcjpgkolgaa

namespace Go.Proofs.Ytknigcjpgkolgaa
open Go.RowKit Go.Shelf
set_option linter.unusedVariables false
set_option maxRecDepth 100000
set_option linter.unusedSimpArgs false

/-- An invariant that bears new blocks, and turns of the blocks from lo to hi. -/
def ItInv (lo : Nat) (J : Nat → List (List Int) → World → Prop) : Prop :=
  ∀ hi pre A D row, J hi pre A → A.grownBy D row → (∀ r, row = some r → lo ≤ r ∧ r < hi) → J hi pre D

/-- What an iterator over lists does: all of 'all' come, in order, as lists of their own; its own blocks lie from where its call began up to hi; the blocks of S0 it only reads. -/
def SeqIt (P : Program) (g : Nat) (lb : Array Value) (S0 : Nat → Prop) (all : List (List Int)) (ok : List Int → Prop) (w0 : World) : Prop :=
  ∀ (d l : Nat) (J Jx : Nat → List (List Int) → World → Prop) (W1 : World), Below w0.heap.size w0 W1 → ItInv W1.heap.size J → ItInv W1.heap.size Jx →
    (∀ W2, Below W1.heap.size W1 W2 → J W2.heap.size [] W2) →
    (∀ m hi pre M A A' v, J hi pre A → W1.heap.size ≤ hi → hi ≤ A.heap.size → Below A.heap.size A A' → OwnsI A' A.heap.size v M → ok M → pre.length < all.length → YieldAt Fence.wide m P l #[v] A' fun e W' =>
      ∃ b : Bool, e = .returned (.bool b) ∧ ItPost (J hi) (Jx hi) pre [M] b W' ∧ ItKeeps (fun k => S0 k ∨ W1.heap.size ≤ k ∧ k < hi) A' W') →
    CallsIn Fence.wide d P g (#[.func (.yield l) #[] #[]] ++ lb) W1 fun e W' => (∃ v, e = .returned v) ∧ ∃ hi b, W1.heap.size ≤ hi ∧ hi ≤ W'.heap.size ∧ ItPost (J hi) (Jx hi) [] all b W'

theorem SeqIt.later {P : Program} {g : Nat} {lb : Array Value} {S0 : Nat → Prop} {all : List (List Int)} {ok : List Int → Prop} {w w' : World} (h : SeqIt P g lb S0 all ok w) (hb : Below w.heap.size w w') : SeqIt P g lb S0 all ok w' :=
  fun d l J Jx W1 h1 => h d l J Jx W1 (below_seq hb h1)

end Go.Proofs.Ytknigcjpgkolgaa

namespace Go.Proofs.Ytknigcjpgkolgaa
open Go.RowKit Go.Shelf
set_option linter.unusedVariables false
set_option maxRecDepth 100000
set_option linter.unusedSimpArgs false
attribute [local go_sem] Oper.semAt_some

end Go.Proofs.Ytknigcjpgkolgaa

namespace Go.Proofs.Ytknigcjpgkolgaa
open Go.RowKit
set_option linter.unusedVariables false
set_option maxRecDepth 100000
set_option linter.unusedSimpArgs false

theorem hts_pos {W T : Int} {xs : List Bool} {L A : List Int} (hA : HtsR W T xs L A) : (A.length = 0 ∧ (simpleB W T xs && tok W T xs L) = false) ∨ (0 < A.length ∧ simpleB W T xs = true ∧ tok W T xs L = true) := by
  cases h : (simpleB W T xs && tok W T xs L)
  · left
    rcases hA with ⟨c, _⟩ | ⟨_, e⟩
    · rw [c] at h; cases h
    · rw [e]; exact ⟨rfl, rfl⟩
  · right
    rw [Bool.and_eq_true] at h
    have ho := (tby_of h.1 h.2 hA).1
    refine ⟨?_, h.1, h.2⟩
    rcases Nat.eq_zero_or_pos A.length with e | e
    · have e' : A = [] := List.eq_nil_of_length_eq_zero e
      rw [e', hok_nil] at ho; cases ho
    · exact e

end Go.Proofs.Ytknigcjpgkolgaa

namespace Go.Proofs.Ytknigcjpgkolgaa
open Go.RowKit
set_option linter.unusedVariables false
set_option maxRecDepth 100000
set_option linter.unusedSimpArgs false

attribute [local go_sem] nil_nilV some_nilV

def belowL (A B : List Int) (k : Nat) : Bool := (List.range k).all fun i => decide (A.getD i 0 ≤ B.getD i 0)
theorem belowL_succ (A B : List Int) (k : Nat) : belowL A B (k + 1) = (belowL A B k && decide (A.getD k 0 ≤ B.getD k 0)) := by unfold belowL; rw [List.range_succ, List.all_append]; simp
theorem belowL_no {A B : List Int} {k n : Nat} (hk : k < n) (h : ¬ A.getD k 0 ≤ B.getD k 0) : belowL A B n = false := by
  unfold belowL
  rw [List.all_eq_false]
  exact ⟨k, List.mem_range.2 hk, by simpa using h⟩
/-- Whether heights are nowhere greater than others. -/
def belowB (A B : List Int) : Bool := decide (0 < A.length) && decide (0 < B.length) && belowL A B A.length
set_option maxHeartbeats 4000000 in
theorem sBelow_ret (W T : Int) (a : Option Addr) (n cap : Nat) (xs : List Bool) (la0 : Option Addr) (m0 lcap0 : Nat) (L0 : List Int) (la1 : Option Addr) (m1 lcap1 : Nat) (L1 : List Int) (A B : List Int) (w : World) (hn : n = xs.length) (hn' : n ≤ 1048576) (hm0 : m0 = L0.length) (hm0' : m0 ≤ 1048576) (hm1 : m1 = L1.length) (hm1' : m1 ≤ 1048576) (ha : BoolsAt w a xs) (hl0 : IntsAt w la0 L0) (hl1 : IntsAt w la1 L1) (hA : HtsR W T xs L0 A) (hB : HtsR W T xs L1 B) :
    Calls Try.prog 44 #[.agg #[.int .i64 W, .int .i64 T, .slice a n cap], .slice la0 m0 lcap0, .slice la1 m1 lcap1] w fun e w' => e = .returned (.bool (belowB A B)) ∧ Below w.heap.size w w' := by
  have HN := Lib.hid hn; clear hn
  have HM0 := Lib.hid hm0; clear hm0
  have HM1 := Lib.hid hm1; clear hm1
  have HA := Lib.hid ha; clear ha
  have HL0 := Lib.hid hl0; clear hl0
  have HL1 := Lib.hid hl1; clear hl1
  have HHA := Lib.hid hA; have HHB := Lib.hid hB
  have hla := hA.len; have hlb := hB.len
  have hsame := HtsR.same hA hB
  clear hA hB
  obtain ⟨p, hp⟩ : ∃ p, p = A.length := ⟨_, rfl⟩
  obtain ⟨q, hq⟩ : ∃ q, q = B.length := ⟨_, rfl⟩
  rw [← hp] at hla hsame; rw [← hq] at hlb hsame
  have HP := Lib.hid hp; have HQ := Lib.hid hq; have HSM := Lib.hid hsame
  clear hp hq hsame
  go_enter Try.func44, Try.ntmps44
  go_wp2_with fail
  refine (sHeightsOf_ret W T a n cap xs la0 m0 lcap0 L0 A _ HN.out hn' HM0.out hm0' (HA.out.one _) (HL0.out.one _) HHA.out).mono ?_; rintro e w1 ⟨a1, c1, rfl, o1, hb1⟩
  have b1 := below_seq (below1 w (.cells #[.int .i64 W, .int .i64 T, .slice a n cap] 25)) hb1
  obtain ⟨d0, d1, d2⟩ := cells3 (heap_later (heap_new w (.cells #[.int .i64 W, .int .i64 T, .slice a n cap] 25)) hb1)
  clear hb1
  go_wp2_with fail
  refine (sHeightsOf_ret W T a n cap xs la1 m1 lcap1 L1 B _ HN.out hn' HM1.out hm1' (HA.out.below b1) (HL1.out.below b1) HHB.out).mono ?_; rintro e w2 ⟨a2, c2, rfl, o2, hb2⟩
  have B2 := Lib.hid (below_seq b1 hb2)
  have IA := Lib.hid (OwnsI.at (o1.below hb2))
  have IB := Lib.hid (OwnsI.at o2)
  rw [← HP.out, ← HQ.out]
  clear o1 o2 hb2 b1 d0 d1 d2
  go_wp2_with fail
  go_loopw [9] (fun i wr => ∃ k : Nat, k ≤ p ∧ k ≤ q ∧ i = .int .i64 k ∧ belowL A B k = true ∧ IntsAt wr a1 A ∧ IntsAt wr a2 B ∧ Below w.heap.size w wr) (fun i _ => p - (intOf i).toNat)
  case atStart => exact ⟨0, Nat.zero_le _, Nat.zero_le _, rfl, rfl, IA.out, IB.out, B2.out⟩
  case round =>
    clear IA IB B2
    rename World => wo
    obtain ⟨k, hk, hk', rfl, hbl, ia, ib, bo⟩ := hrel
    have HBL := Lib.hid hbl; have IA := Lib.hid ia; have IB := Lib.hid ib; have BO := Lib.hid bo
    clear hbl ia ib bo
    by_cases hlt : k < p
    · by_cases hltq : k < q
      · have hpq := HSM.out (by omega) (by omega)
        have xb := HHA.out.entry (k := k) (by rw [← HP.out]; exact hlt)
        have yb := HHB.out.entry (k := k) (by rw [← HQ.out]; exact hltq)
        obtain ⟨b1, o1, rfl, hx⟩ := IA.out k (by rw [← HP.out]; exact hlt)
        obtain ⟨b2, o2, rfl, hy⟩ := IB.out k (by rw [← HQ.out]; exact hltq)
        have hsc := belowL_succ A B k
        have hno := fun h => belowL_no (A := A) (B := B) (n := p) hlt h
        have IA2 := IA; have IB2 := IB
        obtain ⟨x, hxx⟩ : ∃ x, x = A.getD k 0 := ⟨_, rfl⟩
        obtain ⟨y, hyy⟩ : ∃ y, y = B.getD k 0 := ⟨_, rfl⟩
        rw [← hxx] at hx xb hsc hno; rw [← hyy] at hy yb hsc hno
        clear hxx hyy
        have e1 : (k : Int) < p := by omega
        have e2 : (k : Int) < q := by omega
        by_cases h : y < x
        · have HF : Hid (belowB A B = false) := by show _ = _; unfold belowB; rw [← HP.out, hno (by omega)]; simp
          clear hno hsc hpq
          go_wp2
          go_quiet (fail)
          go_wp2
          go_ret
          exact ⟨ret_bool HF.out.symm, below_drewN BO.out _⟩
        · have HT : Hid (belowL A B (k + 1) = true) := by show _ = _; rw [hsc, HBL.out, decide_eq_true (by omega)]; rfl
          have h' : x ≤ y := by omega
          clear hno hsc hpq h
          go_wp2
          go_quiet (fail)
          go_wp2
          go_roundw
          case rel => exact ⟨k + 1, by omega, by omega, by go_num, HT.out, IA.out.below (drewN_below _ _), IB.out.below (drewN_below _ _), below_drewN BO.out _⟩
          case measure => simp [intOf]; omega
      · have hq0 : q = 0 := by
          rcases Nat.eq_zero_or_pos q with h | h
          · exact h
          · have := HSM.out (by omega) h; omega
        have HF : Hid (belowB A B = false) := by show _ = _; unfold belowB; rw [← HQ.out, hq0]; simp
        have e1 : (k : Int) < p := by omega
        subst hq0
        obtain rfl : k = 0 := by omega
        go_wp2
        go_ret
        exact ⟨ret_bool HF.out.symm, BO.out⟩
    · have hkp : k = p := by omega
      have hpq : p = 0 ∨ q = 0 ∨ p = q := by
        rcases Nat.eq_zero_or_pos p with h | h
        · exact Or.inl h
        · rcases Nat.eq_zero_or_pos q with h2 | h2
          · exact Or.inr (Or.inl h2)
          · exact Or.inr (Or.inr (HSM.out h h2))
      by_cases hp0 : p = 0
      · have HF : Hid (belowB A B = false) := by show _ = _; unfold belowB; rw [← HP.out, hp0]; simp
        subst hkp
        subst hp0
        clear hpq
        go_wp2
        go_ret
        exact ⟨ret_bool HF.out.symm, BO.out⟩
      · have hq0 : q ≠ 0 := by omega
        have hpq2 : p = q := by rcases hpq with h | h | h; exact absurd h hp0; exact absurd h hq0; exact h
        have HT : Hid (belowB A B = true) := by
          show _ = _; unfold belowB
          rw [← HP.out, ← HQ.out, decide_eq_true (by omega), decide_eq_true (by omega), ← hkp, HBL.out]; rfl
        have p0 : 0 < k := by omega
        subst hkp
        subst hpq2
        clear hpq hp0 hq0
        go_wp2
        go_ret
        exact ⟨ret_bool HT.out.symm, BO.out⟩

set_option maxHeartbeats 4000000 in
theorem iBelow_ret (W T : Int) (a : Option Addr) (n cap : Nat) (xs : List Bool) (la0 : Option Addr) (m0 lcap0 : Nat) (L0 : List Int) (la1 : Option Addr) (m1 lcap1 : Nat) (L1 : List Int) (A B : List Int) (w : World) (hn : n = xs.length) (hn' : n ≤ 1048576) (hm0 : m0 = L0.length) (hm0' : m0 ≤ 1048576) (hm1 : m1 = L1.length) (hm1' : m1 ≤ 1048576) (ha : BoolsAt w a xs) (hl0 : IntsAt w la0 L0) (hl1 : IntsAt w la1 L1) (hA : HtsR W T xs L0 A) (hB : HtsR W T xs L1 B) :
    Calls Try.prog 40 #[.agg #[.int .i64 W, .int .i64 T, .slice a n cap], .slice la0 m0 lcap0, .slice la1 m1 lcap1] w fun e w' => e = .returned (.bool (belowB A B)) ∧ Below w.heap.size w w' := by
  have HN := Lib.hid hn; clear hn
  have HM0 := Lib.hid hm0; clear hm0
  have HM1 := Lib.hid hm1; clear hm1
  have HA := Lib.hid ha; clear ha
  have HL0 := Lib.hid hl0; clear hl0
  have HL1 := Lib.hid hl1; clear hl1
  have HHA := Lib.hid hA; have HHB := Lib.hid hB
  have hla := hA.len; have hlb := hB.len
  have hsame := HtsR.same hA hB
  clear hA hB
  obtain ⟨p, hp⟩ : ∃ p, p = A.length := ⟨_, rfl⟩
  obtain ⟨q, hq⟩ : ∃ q, q = B.length := ⟨_, rfl⟩
  rw [← hp] at hla hsame; rw [← hq] at hlb hsame
  have HP := Lib.hid hp; have HQ := Lib.hid hq; have HSM := Lib.hid hsame
  clear hp hq hsame
  have PA : (w.alloc (.cells #[.int .i64 W, .int .i64 T, .slice a n cap] 25)).drew.heap[w.heap.size]? = some _ := heap_new w (.cells #[.int .i64 W, .int .i64 T, .slice a n cap] 25)
  have bA : Below w.heap.size w (w.alloc (.cells #[.int .i64 W, .int .i64 T, .slice a n cap] 25)).drew := below_seq (below1 _ _) (drew_below _)
  obtain ⟨c0, c1, c2⟩ := cells3 (heap_new w (.cells #[.int .i64 W, .int .i64 T, .slice a n cap] 25))
  go_enter Try.func40, Try.ntmps40
  go_wp2_with fail
  go_region_held3 (fun w' => w'.cell? ⟨w.heap.size, 0, none⟩ = some (.int .i64 W) ∧ w'.cell? ⟨w.heap.size, 1, none⟩ = some (.int .i64 T) ∧ w'.cell? ⟨w.heap.size, 2, none⟩ = some (.slice a n cap))
    (go_keep)
    (first
      | (go_at_call 15; refine (iHeightsOf_n W T a n cap xs la1 m1 lcap1 L1 B _ HN.out hn' HM1.out hm1' (HA.out.below (below_seq bA hb1)) (HL1.out.below (below_seq bA hb1)) HHB.out).mono ?_; rintro e w2 ⟨a2, q2, rfl, o2, n2, hb2⟩; have p2 := heap_later p1 hb2; obtain ⟨e0, e1, e2⟩ := cells3 p2)
      | (go_at_call 15; refine (iHeightsOf_n W T a n cap xs la0 m0 lcap0 L0 A _ HN.out hn' HM0.out hm0' (HA.out.below bA) (HL0.out.below bA) HHA.out).mono ?_; rintro e w1 ⟨a1, q1, rfl, o1, n1, hb1⟩; have p1 := heap_later PA hb1; obtain ⟨d0, d1, d2⟩ := cells3 p1))
  have B2 := Lib.hid (below_seq (below_seq bA hb1) hb2)
  have IA := Lib.hid (OwnsI.at (o1.below hb2))
  have IB := Lib.hid (OwnsI.at o2)
  rw [← HP.out] at n1 ⊢
  rw [← HQ.out] at n2 ⊢
  clear o1 o2 hb1 hb2 bA p1 p2 PA c0 c1 c2 d0 d1 d2 e0 e1 e2
  rcases n1 with ⟨rfl, rfl, rfl⟩ | ⟨hp0, g1, rfl⟩
  · have HF : Hid (belowB [] B = false) := rfl
    have hp0 : p = 0 := HP.out
    subst hp0
    clear n2
    go_wp2
    go_ret
    exact ⟨ret_bool HF.out.symm, B2.out⟩
  rcases n2 with ⟨rfl, rfl, rfl⟩ | ⟨hq0, g2, rfl⟩
  · have HF : Hid (belowB A [] = false) := by show _ = _; unfold belowB; simp
    have hq0 : q = 0 := HQ.out
    subst hq0
    go_wp2
    go_ret
    exact ⟨ret_bool HF.out.symm, B2.out⟩
  have hpq := HSM.out hp0 hq0
  subst hpq
  clear HSM
  go_wp2_with fail
  go_loopw [25] (fun i wr => ∃ k : Nat, k ≤ p ∧ i = .int .i64 k ∧ belowL A B k = true ∧ IntsAt wr (some ⟨g1, 0, none⟩) A ∧ IntsAt wr (some ⟨g2, 0, none⟩) B ∧ Below w.heap.size w wr) (fun i _ => p - (intOf i).toNat)
  case atStart => exact ⟨0, Nat.zero_le _, rfl, rfl, IA.out, IB.out, B2.out⟩
  case round =>
    clear IA IB B2
    rename World => wo
    obtain ⟨k, hk, rfl, hbl, ia, ib, bo⟩ := hrel
    have HBL := Lib.hid hbl; have IA := Lib.hid ia; have IB := Lib.hid ib; have BO := Lib.hid bo
    clear hbl ia ib bo
    by_cases hlt : k < p
    · have hltq := hlt
      have hx := IA.out.cellAt (i := k) (by rw [← HP.out]; exact hlt)
      have hy := IB.out.cellAt (i := k) (by rw [← HQ.out]; exact hltq)
      rw [Nat.zero_add] at hx hy
      have xb := HHA.out.entry (k := k) (by rw [← HP.out]; exact hlt)
      have yb := HHB.out.entry (k := k) (by rw [← HQ.out]; exact hltq)
      have hsc := belowL_succ A B k
      have hno := fun h => belowL_no (A := A) (B := B) (n := p) hlt h
      obtain ⟨x, hxx⟩ : ∃ x, x = A.getD k 0 := ⟨_, rfl⟩
      obtain ⟨y, hyy⟩ : ∃ y, y = B.getD k 0 := ⟨_, rfl⟩
      rw [← hxx] at hx xb hsc hno; rw [← hyy] at hy yb hsc hno
      clear hxx hyy hltq
      have e1 : (k : Int) < p := by omega
      by_cases h : y < x
      · have HF : Hid (belowB A B = false) := by show _ = _; unfold belowB; rw [← HP.out, hno (by omega)]; simp
        clear hno hsc
        go_wp2
        go_ret
        exact ⟨ret_bool HF.out.symm, BO.out⟩
      · have HT : Hid (belowL A B (k + 1) = true) := by show _ = _; rw [hsc, HBL.out, decide_eq_true (by omega)]; rfl
        have h' : x ≤ y := by omega
        clear hno hsc h
        go_wp2
        go_roundw
        case rel => exact ⟨k + 1, by omega, by go_num, HT.out, IA.out, IB.out, BO.out⟩
        case measure => simp [intOf]; omega
    · obtain rfl : k = p := by omega
      have HT : Hid (belowB A B = true) := by
        show _ = _; unfold belowB
        rw [← HP.out, ← HQ.out, decide_eq_true hp0, HBL.out]; rfl
      go_wp2
      go_ret
      exact ⟨ret_bool HT.out.symm, BO.out⟩

end Go.Proofs.Ytknigcjpgkolgaa

namespace Go.Proofs.Ytknigcjpgkolgaa
open Go.RowKit
set_option linter.unusedVariables false
set_option maxRecDepth 100000
set_option linter.unusedSimpArgs false

section
variable {W T : Int} {xs : List Bool} {L M A B : List Int}
theorem low_ok (hi : Bool) (hA : HtsR W T xs L A) (hB : HtsR W T xs M B) (h : (tlowF hi W T xs A B).2 = true) : simpleB W T xs = true ∧ tok W T xs L = true ∧ tok W T xs M = true := by
  unfold tlowF at h
  rw [tbyF_ok] at h
  have hp : 0 < (bothF hi W T xs A B).length := by
    rcases Nat.eq_zero_or_pos (bothF hi W T xs A B).length with e | e
    · rw [List.eq_nil_of_length_eq_zero e, hok_nil] at h; cases h
    · exact e
  obtain ⟨_, h1, h2, _⟩ := bothF_ok hi hp
  rcases hts_pos hA with ⟨e, _⟩ | ⟨_, hs, ht⟩
  · rw [List.eq_nil_of_length_eq_zero e, hok_nil] at h1; cases h1
  rcases hts_pos hB with ⟨e, _⟩ | ⟨_, _, ht'⟩
  · rw [List.eq_nil_of_length_eq_zero e, hok_nil] at h2; cases h2
  exact ⟨hs, ht, ht'⟩
theorem low_mk (hi : Bool) (hs : simpleB W T xs = true) (hL : tok W T xs L = true) (hM : tok W T xs M = true) (hA : HtsR W T xs L A) (hB : HtsR W T xs M B) :
    ∃ X, tlowF hi W T xs A B = (X, true) ∧ tok W T xs X = true ∧ HtsR W T xs X (bothL hi A B A.length) ∧ X.length = xs.length := by
  have oA := (tby_of hs hL hA).1
  have oB := (tby_of hs hM hB).1
  have e : bothF hi W T xs A B = bothL hi A B A.length := by unfold bothF; rw [oA, oB]; rfl
  have ho := both_hok hi oA oB
  obtain ⟨_, h2, h3, h4⟩ := tby_to ho
  refine ⟨(tbyF W T xs (bothL hi A B A.length)).1, ?_, h3, h4, (lok_rv (tok_lok1 h3)).2.1⟩
  unfold tlowF
  rw [e, ← h2]
theorem hts_same (hs : simpleB W T xs = true) (hL : tok W T xs L = true) (hM : tok W T xs M = true) (hA : HtsR W T xs L A) (hB : HtsR W T xs M A) : L = M := by
  have a := (tby_of hs hL hA).2
  have b := (tby_of hs hM hB).2
  rw [a] at b
  injection b
end
theorem belowL_iff {A B : List Int} {n : Nat} : belowL A B n = true ↔ ∀ k, k < n → A.getD k 0 ≤ B.getD k 0 := by
  unfold belowL
  rw [List.all_eq_true]
  constructor
  · intro h k hk; have := h k (List.mem_range.2 hk); simpa using this
  · intro h k hk; have := h k (List.mem_range.1 hk); simpa using this
theorem below_iff {A B : List Int} (h0 : 0 < A.length) (h : A.length = B.length) : belowB A B = true ↔ ∀ k, k < A.length → A.getD k 0 ≤ B.getD k 0 := by
  unfold belowB
  rw [decide_eq_true h0, decide_eq_true (show 0 < B.length by omega), Bool.true_and, Bool.true_and, belowL_iff]
theorem pick_le (hi : Bool) (x y : Int) : if hi then x ≤ pickI hi x y ∧ y ≤ pickI hi x y else pickI hi x y ≤ x ∧ pickI hi x y ≤ y := by
  unfold pickI
  cases hi
  · simp only [Bool.false_eq_true, if_false]; split <;> omega
  · simp only [if_true]; split <;> omega
theorem below_anti {A B : List Int} (h : A.length = B.length) (h1 : belowB A B = true) (h2 : belowB B A = true) : A = B := by
  have h0 : 0 < A.length := by unfold belowB at h1; simp only [Bool.and_eq_true, decide_eq_true_eq] at h1; exact h1.1.1
  rw [below_iff h0 h] at h1
  rw [below_iff (by omega) h.symm] at h2
  refine ext_getD h fun k hk => ?_
  have := h1 k hk
  have := h2 k (by omega)
  omega
theorem below_low_iff {A B : List Int} (h0 : 0 < A.length) (h : A.length = B.length) : belowB A B = true ↔ bothL false A B A.length = A := by
  rw [below_iff h0 h]
  constructor
  · intro hb
    refine ext_getD (bothL_len _ _ _ _) fun k hk => ?_
    rw [bothL_len] at hk
    rw [both_get false A B hk]
    have := hb k hk
    unfold pickI
    simp only [Bool.false_eq_true, if_false]
    rw [if_neg (by omega)]
  · intro e k hk
    have e1 := congrArg (fun l => l.getD k 0) e
    try simp only at e1
    rw [both_get false A B hk] at e1
    have := pick_le false (A.getD k 0) (B.getD k 0)
    simp only [Bool.false_eq_true, if_false] at this
    omega
end Go.Proofs.Ytknigcjpgkolgaa

namespace Go.Proofs.Ytknigcjpgkolgaa
open Go.RowKit
set_option linter.unusedVariables false
set_option maxRecDepth 100000
set_option linter.unusedSimpArgs false

theorem below_no {A B : List Int} (h : A.length = 0 ∨ B.length = 0) : belowB A B = false := by
  unfold belowB
  rcases h with h | h
  · rw [h]; rfl
  · rw [h]; simp
/-- What is said of two tilings and their order. -/
theorem below_all {W T : Int} {xs : List Bool} {L M A B : List Int} (hA : HtsR W T xs L A) (hB : HtsR W T xs M B) :
    ((tlowF false W T xs A B).2 = false ∧ belowB A B = false) ∨
    ((tlowF false W T xs A B).2 = true ∧ L.length = xs.length ∧ M.length = xs.length ∧ (tlowF false W T xs A B).1.length = xs.length ∧ (belowB A B = true → belowB B A = true → L = M) ∧ (decide ((tlowF false W T xs A B).1 = L) = belowB A B)) := by
  rcases hts_pos hA with ⟨e, h⟩ | ⟨p, hs, ht⟩
  · left
    refine ⟨?_, below_no (Or.inl e)⟩
    cases hc : (tlowF false W T xs A B).2
    · rfl
    · obtain ⟨h1, h2, _⟩ := low_ok false hA hB hc
      rw [h1, h2] at h; cases h
  rcases hts_pos hB with ⟨e, h⟩ | ⟨p', _, ht'⟩
  · left
    refine ⟨?_, below_no (Or.inr e)⟩
    cases hc : (tlowF false W T xs A B).2
    · rfl
    · obtain ⟨h1, _, h2⟩ := low_ok false hA hB hc
      rw [h1, h2] at h; cases h
  right
  obtain ⟨X, hX, htx, hhx, hxl⟩ := low_mk false hs ht ht' hA hB
  obtain ⟨hle, hpos⟩ := hts_len hs ht ht' hA hB
  rw [hX]
  refine ⟨rfl, (lok_rv (tok_lok1 ht)).2.1, (lok_rv (tok_lok1 ht')).2.1, hxl, fun h1 h2 => ?_, ?_⟩
  · have e := below_anti hle h1 h2
    subst e
    exact hts_same hs ht ht' hA hB
  · rw [Bool.eq_iff_iff, decide_eq_true_eq, below_low_iff hpos hle]
    constructor
    · intro e
      have e' : X = L := e
      subst e'
      exact htsR_unique hhx hA
    · intro e
      rw [e] at hhx
      exact hts_same hs htx ht hhx hA

end Go.Proofs.Ytknigcjpgkolgaa

namespace Go.Proofs.Ytknigcjpgkolgaa
open Go.RowKit
set_option linter.unusedVariables false
set_option maxRecDepth 100000
set_option linter.unusedSimpArgs false

/-- At a lie lists that read so. -/
def RowsAt (w : World) (a : Option Addr) (rows : List (List Int)) : Prop :=
  ∀ i, i < rows.length → ∃ b off a' cap, a = some ⟨b, off, none⟩ ∧ w.cell? ⟨b, off + i, none⟩ = some (.slice a' (rows.getD i []).length cap) ∧ IntsAt w a' (rows.getD i [])
theorem RowsAt.later {w w' : World} {B : Nat} {a : Option Addr} {rows : List (List Int)} (h : RowsAt w a rows) (hb : Below B w w') (hB : w.heap.size ≤ B) : RowsAt w' a rows := by
  intro i hi
  obtain ⟨b, off, a', cap, e, hc, hx⟩ := h i hi
  have hlt := World.block_lt_of_cell? w _ hc
  simp only at hlt
  exact ⟨b, off, a', cap, e, (hb.cell (p := ⟨b, off + i, none⟩) (by show b < B; omega)).trans hc, hx.later hb hB⟩
theorem RowsAt.below {w w' : World} {a : Option Addr} {rows : List (List Int)} (h : RowsAt w a rows) (hb : Below w.heap.size w w') : RowsAt w' a rows := h.later hb (Nat.le_refl _)
theorem RowsAt.one {w : World} {a : Option Addr} {rows : List (List Int)} (h : RowsAt w a rows) (o : Obj) : RowsAt (w.alloc o) a rows := h.below (below1 w o)
theorem own_form {w : World} {B : Nat} {v : Value} {M : List Int} (h : OwnsI w B v M) : ∃ a cap, v = .slice a M.length cap ∧ IntsAt w a M := by
  obtain ⟨a, cap, rfl⟩ := h.form2
  exact ⟨a, cap, rfl, OwnsI.at h⟩
theorem OwnsSS.at {w : World} {B : Nat} {a : Option Addr} {n cap : Nat} {rows : List (List Int)} (h : OwnsSS w B (.slice a n cap) rows) : RowsAt w a rows := by
  obtain ⟨ws, h1, h2⟩ := h
  intro i hi
  obtain ⟨a', cap', e, hx⟩ := own_form (h2.own i hi)
  rcases h1.2 with ⟨_, h0⟩ | ⟨g, cap2, cur, hv, _⟩
  · omega
  · simp only [Value.slice.injEq] at hv
    obtain ⟨rfl, rfl, rfl⟩ := hv
    refine ⟨g, 0, a', cap', rfl, ?_, hx⟩
    have hl : i < ws.length := by rw [h2.len]; exact hi
    rw [Nat.zero_add, World.ownsRow.cellAt (xs := ws) h1 i (by omega)]
    have e2 : ws.getD i (.slice none 0 0) = ws[i] := by simp [List.getD, hl]
    rw [e2] at e
    rw [List.getElem?_eq_getElem hl, e]
theorem RowsAt.cell {w : World} {a : Option Addr} {rows : List (List Int)} (h : RowsAt w a rows) {i : Nat} (hi : i < rows.length) {b off : Nat} (e : a = some ⟨b, off, none⟩) : ∃ a' cap, w.cell? ⟨b, off + i, none⟩ = some (.slice a' (rows.getD i []).length cap) ∧ IntsAt w a' (rows.getD i []) := by
  obtain ⟨b', off', a', cap, e', hc, hx⟩ := h i hi
  rw [e] at e'
  cases e'
  exact ⟨a', cap, hc, hx⟩

end Go.Proofs.Ytknigcjpgkolgaa

namespace Go.Proofs.Ytknigcjpgkolgaa
open Go.RowKit
set_option linter.unusedVariables false
set_option maxRecDepth 100000
set_option linter.unusedSimpArgs false

set_option maxHeartbeats 1000000 in
theorem sameInts_any (a b : Option Addr) (n cap cap' : Nat) (xs ys : List Int) (w : World) (hn : n = xs.length) (hm : n = ys.length) (hn' : n ≤ 1048576) (ha : IntsAt w a xs) (hb : IntsAt w b ys) :
    Calls Try.prog 16 #[.slice a n cap, .slice b n cap'] w fun e w' => e = .returned (.bool (decide (xs = ys))) ∧ Below w.heap.size w w' := by
  have HN := Lib.hid hn; clear hn
  have HM := Lib.hid hm; clear hm
  have HA := Lib.hid ha; clear ha
  have HB := Lib.hid hb; clear hb
  obtain ⟨d, hd⟩ : ∃ d, decide (xs = ys) = d := ⟨_, rfl⟩
  rw [hd]
  have HD := Lib.hid hd; clear hd
  go_enter Try.func16, Try.ntmps16
  go_wp2
  go_loopw [5] (fun i wr => ∃ k : Nat, k ≤ n ∧ i = .int .i64 k ∧ (∀ j, j < k → xs.getD j 0 = ys.getD j 0) ∧ ∃ q, wr = w.drewN q) (fun i _ => n - (intOf i).toNat)
  case atStart => exact ⟨0, Nat.zero_le _, rfl, fun j h => absurd h (Nat.not_lt_zero j), 0, rfl⟩
  case round =>
    obtain ⟨k, hk, rfl, hall, q, rfl⟩ := hrel
    have HALL := Lib.hid hall; clear hall
    by_cases hlt : k < n
    · obtain ⟨b1, o1, rfl, hc1⟩ := HA.out k (by rw [← HN.out]; exact hlt)
      obtain ⟨b2, o2, rfl, hc2⟩ := HB.out k (by rw [← HM.out]; exact hlt)
      obtain ⟨x, hx⟩ : ∃ x, x = xs.getD k 0 := ⟨_, rfl⟩
      obtain ⟨y, hy⟩ : ∃ y, y = ys.getD k 0 := ⟨_, rfl⟩
      rw [← hx] at hc1
      rw [← hy] at hc2
      have e1 : (k : Int) < n := by omega
      have e0 : (0 : Int) ≤ k := by omega
      cases hxy : (x != y)
      · have HS : Hid (∀ j, j < k + 1 → xs.getD j 0 = ys.getD j 0) := fun j hj => by
          by_cases e : j = k
          · rw [e, ← hx, ← hy]; simpa using hxy
          · exact HALL.out j (by omega)
        clear hx hy
        go_wp2
        go_big_quiet (fail)
        go_wp2
        go_roundw
        case rel => exact ⟨k + 1, by omega, by go_num, HS.out, _, rfl⟩
        case measure => simp [intOf]; omega
      · have HF : Hid (d = false) := by
          show d = false
          rw [← HD.out]
          simp only [decide_eq_false_iff_not]
          intro e
          rw [e] at hx
          rw [hx, hy] at hxy
          simp at hxy
        clear hx hy
        go_wp2
        go_big_quiet (fail)
        go_wp2
        go_ret
        exact ⟨ret_bool HF.out.symm, below_seq (drewN_below _ _) (drewN_below _ _)⟩
    · obtain rfl : k = n := by omega
      have HT : Hid (d = true) := by
        show d = true
        rw [← HD.out]
        simp only [decide_eq_true_eq]
        exact ext_getD (by rw [← HN.out, ← HM.out]) fun j hj => HALL.out j (by rw [HN.out]; exact hj)
      go_wp2
      go_ret
      exact ⟨ret_bool HT.out.symm, drewN_below _ _⟩

end Go.Proofs.Ytknigcjpgkolgaa
