/- Contracts of both functions Below and Apart. -/
import Derived.Test.YtpcajacekmidbaaGreatKDrawTwo
import Derived.Test.YtpcajacekmidbaaGreatKBndv1
namespace Go.Proofs.YtpcajacekmidbaaGreat
open Go.RowKit
set_option linter.unusedVariables false
set_option maxRecDepth 100000
set_option linter.unusedSimpArgs false

set_option maxHeartbeats 4000000 in
theorem drawDownAll_any (cb : Option Addr) (n cap : Nat) (zs : List Int) (w : World) (hn : n = zs.length) (hn' : n ≤ 1048576) (hcap : n ≤ cap) (hb : BytesAt w cb zs) :
 Calls Tryz.prog 22 #[.slice cb n cap] w (DrawnRg2 w) := by
 have HN := Lib.hid hn; clear hn
 have HB := Lib.hid hb; clear hb
 go_enter Tryz.func22, Tryz.ntmps22
 go_wp2_with fail
 refine (l20Open_any _ _ _ zs _ HN.out hn' hcap (HB.out.below (below1 _ _))).mono ?_; rintro e w1 ⟨rfl, r1, b1⟩
 have q1 := heap_later (heap_new w (.cells #[.int .i64 0, .int .i64 0, .slice none 0 0] 25)) b1
 have B1 := Lib.hid (below_seq (below1 w _) b1)
 have R1 : Hid (RD w1 (w.heap.size + 1) 0) := by show RD _ _ _; simpa using r1
 have l1 := heap_lt q1
 have l2 := R1.out.lt
 clear r1 b1
 go_wp2_with fail
 refine (l20Two_any (w.heap.size + 1) 0 _ (by omega) R1.out).mono ?_; rintro e w2 ⟨W, T, a, m, c, xs, la, q, lcap, L, lb, r, bcap, M, rfl, hm, h36, hs, o2, hq, hq36, i2, hr, hr36, j2, r2, g2⟩
 have q2 := heap_grown q1 g2 (by simp)
 have B2 := Lib.hid (below_grown B1.out g2 (Nat.le_refl _) (fun k e => by cases e; omega))
 have HM := Lib.hid hm; clear hm
 have HQ := Lib.hid hq; clear hq
 have HR := Lib.hid hr; clear hr
 have O2 := Lib.hid o2; clear o2
 have I2 := Lib.hid i2; clear i2
 clear j2
 have hl2 := r2.lt
 clear r2 g2
 obtain ⟨wB, hwB⟩ : ∃ wB, wB = w2.alloc (.cells #[.int .i64 W, .int .i64 T, .slice a m c] 25) := ⟨_, rfl⟩
 have pB : wB.heap[w2.heap.size]? = some (.cells #[.int .i64 W, .int .i64 T, .slice a m c] 25 (0, 0)) := by rw [hwB]; exact heap_new _ _
 have q3 : wB.heap[w.heap.size]? = some (.cells #[.int .i64 0, .int .i64 0, .slice none 0 0] 25 (0, 0)) := by rw [hwB]; exact heap_later q2 (below1 _ _)
 have B3 : Hid (Below w.heap.size w wB) := by rw [hwB]; exact below_seq B2.out (below1 _ _)
 have O3 : Hid (OwnsB wB w1.heap.size (.slice a m c) xs) := by rw [hwB]; exact O2.out.alloc _
 have I3 : Hid (OwnsI wB w1.heap.size (.slice la q lcap) L) := by rw [hwB]; exact I2.out.alloc _
 obtain ⟨c0, c1, c2⟩ := cells3 pB
 obtain ⟨d0, d1, d2⟩ := cells3 q3
 have f0 := free3 q3 0
 have f1 := free3 q3 1
 have f2 := free3 q3 2
 have HWB := Lib.hid hwB; clear hwB
 go_upto_region 2 with fail
 rw [← HWB.out]
 clear HWB
 go_wp2
 refine bodyPost_ret (v := .tuple #[.agg #[.int .i64 W, .int .i64 T, .slice a m c], .slice la q lcap]) (by simp [results, Tryz.results22, go_sem, d0, d1, d2]) rfl ⟨W, T, a, m, c, xs, la, q, lcap, L, rfl, HM.out, h36, hs, (O3.out.set3 (by omega) _ _ _).lower (by omega), HQ.out, hq36, (I3.out.set3d (by omega) _ _ _).lower (by omega), below_set3 B3.out (Nat.le_refl _) _ _ _⟩

end Go.Proofs.YtpcajacekmidbaaGreat

namespace Go.Proofs.YtpcajacekmidbaaGreat
open Go.RowKit
set_option linter.unusedVariables false
set_option maxRecDepth 100000
set_option linter.unusedSimpArgs false

attribute [local go_sem] nil_nilV some_nilV

def sumD (A B : List Int) : Nat → Int
 | 0 => 0
 | k + 1 => sumD A B k + (if A.getD k 0 - B.getD k 0 < B.getD k 0 - A.getD k 0 then B.getD k 0 - A.getD k 0 else A.getD k 0 - B.getD k 0)
def apartI (A B : List Int) : Int := if A.length = 0 ∨ B.length = 0 then -1 else sumD A B A.length / 4
theorem sumD_bd {A B : List Int} (hA : ∀ k, k < A.length → -49 ≤ A.getD k 0 ∧ A.getD k 0 ≤ 99) (hB : ∀ k, k < A.length → -49 ≤ B.getD k 0 ∧ B.getD k 0 ≤ 99) : ∀ k : Nat, k ≤ A.length → 0 ≤ sumD A B k ∧ sumD A B k ≤ 148 * (k : Int)
 | 0, _ => by simp [sumD]
 | k + 1, hk => by
   obtain ⟨h0, h1⟩ := sumD_bd hA hB k (by omega)
   have a := hA k (by omega)
   have b := hB k (by omega)
   unfold sumD
   push_cast
   split <;> omega

set_option maxHeartbeats 4000000 in
theorem iApart_ret (W T : Int) (a : Option Addr) (n cap : Nat) (xs : List Bool) (la0 : Option Addr) (m0 lcap0 : Nat) (L0 : List Int) (la1 : Option Addr) (m1 lcap1 : Nat) (L1 : List Int) (A B : List Int) (w : World) (hn : n = xs.length) (hn' : n ≤ 1048576) (hm0 : m0 = L0.length) (hm0' : m0 ≤ 1048576) (hm1 : m1 = L1.length) (hm1' : m1 ≤ 1048576) (ha : BoolsAt w a xs) (hl0 : IntsAt w la0 L0) (hl1 : IntsAt w la1 L1) (hA : HtsR W T xs L0 A) (hB : HtsR W T xs L1 B) :
 Calls Tryz.prog 25 #[.agg #[.int .i64 W, .int .i64 T, .slice a n cap], .slice la0 m0 lcap0, .slice la1 m1 lcap1] w fun e w' => e = .returned (.int .i64 (apartI A B)) ∧ Below w.heap.size w w' := by
 have HN := Lib.hid hn; clear hn
 have HM0 := Lib.hid hm0; clear hm0
 have HM1 := Lib.hid hm1; clear hm1
 have HA := Lib.hid ha; clear ha
 have HL0 := Lib.hid hl0; clear hl0
 have HL1 := Lib.hid hl1; clear hl1
 have HHA := Lib.hid hA; have HHB := Lib.hid hB
 have hla := hA.len; have hlb := hB.len
 have hsame := HtsR.same hA hB
 clear hA hB
 obtain ⟨p, hp⟩ : ∃ p, p = A.length := ⟨_, rfl⟩
 obtain ⟨q, hq⟩ : ∃ q, q = B.length := ⟨_, rfl⟩
 rw [← hp] at hla hsame; rw [← hq] at hlb hsame
 have HP := Lib.hid hp; have HQ := Lib.hid hq; have HSM := Lib.hid hsame
 clear hp hq hsame
 have PA : (w.alloc (.cells #[.int .i64 W, .int .i64 T, .slice a n cap] 25)).drew.heap[w.heap.size]? = some _ := heap_new w (.cells #[.int .i64 W, .int .i64 T, .slice a n cap] 25)
 have bA : Below w.heap.size w (w.alloc (.cells #[.int .i64 W, .int .i64 T, .slice a n cap] 25)).drew := below_seq (below1 _ _) (drew_below _)
 obtain ⟨c0, c1, c2⟩ := cells3 (heap_new w (.cells #[.int .i64 W, .int .i64 T, .slice a n cap] 25))
 go_enter Tryz.func25, Tryz.ntmps25
 go_wp2_with fail
 go_region_held3 (fun w' => w'.cell? ⟨w.heap.size, 0, none⟩ = some (.int .i64 W) ∧ w'.cell? ⟨w.heap.size, 1, none⟩ = some (.int .i64 T) ∧ w'.cell? ⟨w.heap.size, 2, none⟩ = some (.slice a n cap))
  (go_keep)
  (first
    | (go_at_call 39; refine (iHeightsOf_n W T a n cap xs la1 m1 lcap1 L1 B _ HN.out hn' HM1.out hm1' (HA.out.below (below_seq bA hb1)) (HL1.out.below (below_seq bA hb1)) HHB.out).mono ?_; rintro e w2 ⟨a2, q2, rfl, o2, n2, hb2⟩; have p2 := heap_later p1 hb2; obtain ⟨e0, e1, e2⟩ := cells3 p2)
    | (go_at_call 39; refine (iHeightsOf_n W T a n cap xs la0 m0 lcap0 L0 A _ HN.out hn' HM0.out hm0' (HA.out.below bA) (HL0.out.below bA) HHA.out).mono ?_; rintro e w1 ⟨a1, q1, rfl, o1, n1, hb1⟩; have p1 := heap_later PA hb1; obtain ⟨d0, d1, d2⟩ := cells3 p1))
 have B2 := Lib.hid (below_seq (below_seq bA hb1) hb2)
 have IA := Lib.hid (OwnsI.at (o1.below hb2))
 have IB := Lib.hid (OwnsI.at o2)
 rw [← HP.out] at n1 ⊢
 rw [← HQ.out] at n2 ⊢
 clear o1 o2 hb1 hb2 bA p1 p2 PA c0 c1 c2 d0 d1 d2 e0 e1 e2
 rcases n1 with ⟨rfl, rfl, rfl⟩ | ⟨hp0, g1, rfl⟩
 · have HF : Hid (apartI [] B = -1) := rfl
   have hp0 : p = 0 := HP.out
   subst hp0
   clear n2
   go_wp2
   go_ret
   exact ⟨by rw [HF.out]; rfl, B2.out⟩
 rcases n2 with ⟨rfl, rfl, rfl⟩ | ⟨hq0, g2, rfl⟩
 · have HF : Hid (apartI A [] = -1) := by show _ = _; unfold apartI; simp
   have hq0 : q = 0 := HQ.out
   subst hq0
   go_wp2
   go_ret
   exact ⟨by rw [HF.out]; rfl, B2.out⟩
 have hpq := HSM.out hp0 hq0
 subst hpq
 clear HSM
 go_wp2_with fail
 go_loopw [9, 26] (fun sv i wr => ∃ k : Nat, k ≤ p ∧ i = .int .i64 k ∧ sv = .int .i64 (sumD A B k) ∧ IntsAt wr (some ⟨g1, 0, none⟩) A ∧ IntsAt wr (some ⟨g2, 0, none⟩) B ∧ Below w.heap.size w wr) (fun _ i _ => p - (intOf i).toNat)
 case atStart => exact ⟨0, Nat.zero_le _, rfl, rfl, IA.out, IB.out, B2.out⟩
 case round =>
  clear IA IB B2
  rename World => wo
  obtain ⟨k, hk, rfl, rfl, ia, ib, bo⟩ := hrel
  have IA := Lib.hid ia; have IB := Lib.hid ib; have BO := Lib.hid bo
  clear ia ib bo
  by_cases hlt : k < p
  · have hx := IA.out.cellAt (i := k) (by rw [← HP.out]; exact hlt)
    have hy := IB.out.cellAt (i := k) (by rw [← HQ.out]; exact hlt)
    rw [Nat.zero_add] at hx hy
    have xb := HHA.out.entry (k := k) (by rw [← HP.out]; exact hlt)
    have yb := HHB.out.entry (k := k) (by rw [← HQ.out]; exact hlt)
    have hsd := sumD_bd (A := A) (B := B) (fun k h => HHA.out.entry h) (fun k h => HHB.out.entry (by rw [← HQ.out]; rw [← HP.out] at h; exact h)) k (by rw [← HP.out]; exact hk)
    have hsu : sumD A B (k + 1) = sumD A B k + (if A.getD k 0 - B.getD k 0 < B.getD k 0 - A.getD k 0 then B.getD k 0 - A.getD k 0 else A.getD k 0 - B.getD k 0) := rfl
    obtain ⟨s, hs⟩ : ∃ s, s = sumD A B k := ⟨_, rfl⟩
    obtain ⟨s2, hs2⟩ : ∃ s2, s2 = sumD A B (k + 1) := ⟨_, rfl⟩
    rw [← hs] at hsd hsu ⊢; rw [← hs2] at hsu
    obtain ⟨x, hxx⟩ : ∃ x, x = A.getD k 0 := ⟨_, rfl⟩
    obtain ⟨y, hyy⟩ : ∃ y, y = B.getD k 0 := ⟨_, rfl⟩
    rw [← hxx] at hx xb hsu; rw [← hyy] at hy yb hsu
    clear hxx hyy hs
    have e1 : (k : Int) < p := by omega
    have w1 : IntKind.i64.wrap (x - y) = x - y := by rw [IntKind.wrap_i64]; omega
    have w2 : IntKind.i64.wrap (y - x) = y - x := by rw [IntKind.wrap_i64]; omega
    obtain ⟨d, hd⟩ : ∃ d, (if x - y < y - x then y - x else x - y) = d := ⟨_, rfl⟩
    have hdb : 0 ≤ d ∧ d ≤ 148 := by rw [← hd]; split <;> omega
    rw [hd] at hsu
    have w3 : IntKind.i64.wrap (s + d) = s + d := by rw [IntKind.wrap_i64]; omega
    have HS2 : Hid (s + d = sumD A B (k + 1)) := by show _ = _; rw [← hs2, hsu]
    clear hsu hs2
    go_wp2_with fail
    go_region
    go_wp2
    go_roundw
    case rel => first
     | exact ⟨k + 1, by omega, by go_num, by rw [HS2.out], IA.out.below (drew_below _), IB.out.below (drew_below _), below_seq BO.out (drew_below _)⟩
     | exact ⟨k + 1, by omega, by go_num, by rw [HS2.out], IA.out.below (drewN_below _ _), IB.out.below (drewN_below _ _), below_seq BO.out (drewN_below _ _)⟩
    case measure => simp [intOf]; omega
  · obtain rfl : k = p := by omega
    have hsd := sumD_bd (A := A) (B := B) (fun k h => HHA.out.entry h) (fun k h => HHB.out.entry (by rw [← HQ.out]; rw [← HP.out] at h; exact h)) k (by rw [← HP.out]; exact Nat.le_refl _)
    obtain ⟨s, hs⟩ : ∃ s, s = sumD A B k := ⟨_, rfl⟩
    have HE : Hid (apartI A B = s / 4) := by
     show _ = _; unfold apartI
     rw [← HP.out, ← HQ.out, if_neg (by omega), hs]
    rw [← hs] at hsd ⊢
    clear hs
    go_wp2
    go_ret
    exact ⟨by rw [HE.out]; rfl, BO.out⟩
end Go.Proofs.YtpcajacekmidbaaGreat
