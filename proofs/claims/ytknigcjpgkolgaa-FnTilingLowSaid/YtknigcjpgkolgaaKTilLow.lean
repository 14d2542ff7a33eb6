/- Contracts of both functions TilingLow and TilingHigh. -/
import Derived.Test.YtknigcjpgkolgaaKHlowS
import Derived.Test.YtknigcjpgkolgaaKLatL
namespace Go.Proofs.Ytknigcjpgkolgaa
open Go.RowKit
set_option linter.unusedVariables false
set_option maxRecDepth 100000
set_option linter.unusedSimpArgs false

set_option maxHeartbeats 4000000 in
theorem iTilingLow_ret (W T : Int) (a : Option Addr) (n cap : Nat) (xs : List Bool) (la0 : Option Addr) (m0 lcap0 : Nat) (L0 : List Int) (la1 : Option Addr) (m1 lcap1 : Nat) (L1 : List Int) (A B : List Int) (w : World) (hn : n = xs.length) (hn' : n ≤ 1048576) (hm0 : m0 = L0.length) (hm0' : m0 ≤ 1048576) (hm1 : m1 = L1.length) (hm1' : m1 ≤ 1048576) (ha : BoolsAt w a xs) (hl0 : IntsAt w la0 L0) (hl1 : IntsAt w la1 L1) (hA : HtsR W T xs L0 A) (hB : HtsR W T xs L1 B) :
    Calls Try.prog 35 #[.agg #[.int .i64 W, .int .i64 T, .slice a n cap], .slice la0 m0 lcap0, .slice la1 m1 lcap1] w (RetLT w (tlowF false W T xs A B).1.length (tlowF false W T xs A B).1 (tlowF false W T xs A B).2) := by
  have HN := Lib.hid hn; clear hn
  have HM0 := Lib.hid hm0; clear hm0
  have HM1 := Lib.hid hm1; clear hm1
  have HA := Lib.hid ha; clear ha
  have HL0 := Lib.hid hl0; clear hl0
  have HL1 := Lib.hid hl1; clear hl1
  have hla := hA.len; have hlb := hB.len
  have HHA := Lib.hid hA; have HHB := Lib.hid hB
  clear hA hB
  have hlf := bothF_len false W T xs A B
  obtain ⟨p, hp⟩ : ∃ p, p = A.length := ⟨_, rfl⟩
  obtain ⟨q, hq⟩ : ∃ q, q = B.length := ⟨_, rfl⟩
  obtain ⟨F, hF⟩ : ∃ F, F = bothF false W T xs A B := ⟨_, rfl⟩
  obtain ⟨r, hr⟩ : ∃ r, r = F.length := ⟨_, rfl⟩
  have HFF : Hid (tlowF false W T xs A B = tbyF W T xs F) := by show _ = _; rw [hF]; rfl
  rw [HFF.out]
  rw [← hF, ← hp, ← hr] at hlf
  rw [← hp] at hla; rw [← hq] at hlb
  have HP := Lib.hid hp; have HQ := Lib.hid hq; have HF := Lib.hid hF; have HR := Lib.hid hr
  clear hp hq hF hr
  have cA : ∀ w : World, RetL w A.length A = RetL w p A := fun w => by rw [HP.out]
  have cB : ∀ w : World, RetL w B.length B = RetL w q B := fun w => by rw [HQ.out]
  have cF : ∀ w : World, RetL w (bothF false W T xs A B).length (bothF false W T xs A B) = RetL w r F := fun w => by rw [← HF.out, HR.out]
  have HcA := Lib.hid cA; have HcB := Lib.hid cB; have HcF := Lib.hid cF
  clear cA cB cF
  have K1 : ∀ w', BoolsAt w' a xs → IntsAt w' la0 L0 → Calls Try.prog 15 #[.agg #[.int .i64 W, .int .i64 T, .slice a n cap], .slice la0 m0 lcap0] w' (RetL w' p A) := fun w' h1 h2 => by have := iHeightsOf_ret W T a n cap xs la0 m0 lcap0 L0 A w' HN.out hn' HM0.out hm0' h1 h2 HHA.out; rwa [HcA.out] at this
  have K2 : ∀ w', BoolsAt w' a xs → IntsAt w' la1 L1 → Calls Try.prog 15 #[.agg #[.int .i64 W, .int .i64 T, .slice a n cap], .slice la1 m1 lcap1] w' (RetL w' q B) := fun w' h1 h2 => by have := iHeightsOf_ret W T a n cap xs la1 m1 lcap1 L1 B w' HN.out hn' HM1.out hm1' h1 h2 HHB.out; rwa [HcB.out] at this
  have K3 : ∀ w' a1 c1 a2 c2, BoolsAt w' a xs → IntsAt w' a1 A → IntsAt w' a2 B → Calls Try.prog 29 #[.agg #[.int .i64 W, .int .i64 T, .slice a n cap], .slice a1 p c1, .slice a2 q c2] w' (RetL w' r F) := fun w' a1 c1 a2 c2 h1 h2 h3 => by have := iHeightsLow_ret W T a n cap xs a1 p c1 A a2 q c2 B w' HN.out hn' HP.out (by omega) HQ.out (by omega) h1 h2 h3; rwa [HcF.out] at this
  have K4 : ∀ w' a3 c3, BoolsAt w' a xs → IntsAt w' a3 F → Calls Try.prog 21 #[.agg #[.int .i64 W, .int .i64 T, .slice a n cap], .slice a3 r c3] w' (RetLT w' (tbyF W T xs F).1.length (tbyF W T xs F).1 (tbyF W T xs F).2) := fun w' a3 c3 h1 h2 => iTilingBy_ret W T a n cap xs a3 r c3 F w' HN.out hn' HR.out (by omega) h1 h2
  have HK1 := Lib.hid K1; have HK2 := Lib.hid K2; have HK3 := Lib.hid K3; have HK4 := Lib.hid K4
  clear K1 K2 K3 K4
  generalize (tbyF W T xs F).2 = okv at HK4 ⊢
  generalize (tbyF W T xs F).1 = ys at HK4 ⊢
  obtain ⟨z, hz⟩ : ∃ z, z = ys.length := ⟨_, rfl⟩
  rw [← hz] at HK4 ⊢
  have HZ := Lib.hid hz; clear hz
  have PA : (w.alloc (.cells #[.int .i64 W, .int .i64 T, .slice a n cap] 25)).drew.heap[w.heap.size]? = some _ := heap_new w (.cells #[.int .i64 W, .int .i64 T, .slice a n cap] 25)
  have bA : Below w.heap.size w (w.alloc (.cells #[.int .i64 W, .int .i64 T, .slice a n cap] 25)).drew := below_seq (below1 _ _) (drew_below _)
  obtain ⟨c0, c1, c2⟩ := cells3 (heap_new w (.cells #[.int .i64 W, .int .i64 T, .slice a n cap] 25))
  go_enter Try.func35, Try.ntmps35
  go_wp2_with fail
  go_region_held3 (fun w' => w'.cell? ⟨w.heap.size, 0, none⟩ = some (.int .i64 W) ∧ w'.cell? ⟨w.heap.size, 1, none⟩ = some (.int .i64 T) ∧ w'.cell? ⟨w.heap.size, 2, none⟩ = some (.slice a n cap))
    (go_keep)
    (first
      | (go_at_call 21; refine (HK4.out _ _ _ (HA.out.below b3) (OwnsI.at o3)).mono ?_; rintro e w4 ⟨a4, k4, rfl, o4, hb4⟩; have b4 := below_seq b3 hb4; have p4 := heap_later p3 hb4; obtain ⟨g0, g1, g2⟩ := cells3 p4)
      | (go_at_call 29; refine (HK3.out _ _ _ _ _ (HA.out.below b2) (OwnsI.at (o1.below hb2)) (OwnsI.at o2)).mono ?_; rintro e w3 ⟨a3, k3, rfl, o3, hb3⟩; have b3 := below_seq b2 hb3; have p3 := heap_later p2 hb3; obtain ⟨f0, f1, f2⟩ := cells3 p3)
      | (go_at_call 15; refine (HK2.out _ (HA.out.below b1) (HL1.out.below b1)).mono ?_; rintro e w2 ⟨a2, k2, rfl, o2, hb2⟩; have b2 := below_seq b1 hb2; have p2 := heap_later p1 hb2; obtain ⟨e0, e1, e2⟩ := cells3 p2)
      | (go_at_call 15; refine (HK1.out _ (HA.out.below bA) (HL0.out.below bA)).mono ?_; rintro e w1 ⟨a1, k1, rfl, o1, hb1⟩; have b1 := below_seq bA hb1; have p1 := heap_later PA hb1; obtain ⟨d0, d1, d2⟩ := cells3 p1))
  have O4 := Lib.hid (o4.lower b3.size)
  have B4 := Lib.hid b4
  clear o1 o2 o3 o4 hb1 hb2 hb3 hb4 b1 b2 b3 b4
  go_wp2
  go_ret2
  exact ⟨a4, k4, rfl, O4.out, B4.out⟩

end Go.Proofs.Ytknigcjpgkolgaa
