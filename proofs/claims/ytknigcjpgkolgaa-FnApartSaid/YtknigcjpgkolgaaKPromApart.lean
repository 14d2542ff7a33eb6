/- The law FnApart: its walk. -/
import Derived.Test.YtknigcjpgkolgaaKDrawTwo
import Derived.Test.YtknigcjpgkolgaaKLatFv1
import Derived.Test.YtknigcjpgkolgaaKTilLow
namespace Go.Proofs.Ytknigcjpgkolgaa
open Go.RowKit
set_option linter.unusedVariables false
set_option maxRecDepth 100000
set_option linter.unusedSimpArgs false

end Go.Proofs.Ytknigcjpgkolgaa

namespace Go.Proofs.Ytknigcjpgkolgaa
open Go.RowKit
set_option linter.unusedVariables false
set_option maxRecDepth 100000
set_option linter.unusedSimpArgs false

theorem hts_unique {W T : Int} {xs : List Bool} {L H H' : List Int} {N f : Nat} (hs : simpleB W T xs = true) (hN : (W + 1) * (T + 1) = (N : Int)) (hf : frstK W T xs N = f) (h : HtsOf W T xs L H N) (h' : HtsOf W T xs L H' N) : H = H' := by
  obtain ⟨v1, v2, v3, v4, v5, v6⟩ := rv_true (simpleB_rv hs)
  have all := corners_all hs hf (fun k => H.getD k 0 = H'.getD k 0) (by rw [h.first f hf, h'.first f hf]) (fun k nth hu => by
    obtain ⟨t0, t1, t2⟩ := sTo_lt v1 hu
    have a := h.side k nth (by omega) hu
    have b := h'.side k nth (by omega) hu
    omega)
  refine ext_getD (by rw [h.len, h'.len]) fun k hk => ?_
  rw [h.len] at hk
  cases ha : hAt W T xs k
  · rw [h.off k hk ha, h'.off k hk ha]
  · exact all k ha
end Go.Proofs.Ytknigcjpgkolgaa

namespace Go.Proofs.Ytknigcjpgkolgaa
open Go.RowKit
set_option linter.unusedVariables false
set_option maxRecDepth 100000
set_option linter.unusedSimpArgs false

set_option maxHeartbeats 4000000 in
theorem drawApart_any (cb : Option Addr) (n cap : Nat) (zs : List Int) (w : World) (hn : n = zs.length) (hn' : n ≤ 1048576) (hcap : n ≤ cap) (hb : BytesAt w cb zs) :
    Calls Try.prog 45 #[.slice cb n cap] w (DrawnRLL w) := by
  have HN := Lib.hid hn; clear hn
  have HB := Lib.hid hb; clear hb
  go_enter Try.func45, Try.ntmps45
  go_wp2_with fail
  refine (l20Open_any _ _ _ zs _ HN.out hn' hcap (HB.out.below (below1 _ _))).mono ?_; rintro e w1 ⟨rfl, r1, b1⟩
  have q1 := heap_later (heap_new w (.cells #[.int .i64 0, .int .i64 0, .slice none 0 0] 25)) b1
  have B1 := Lib.hid (below_seq (below1 w _) b1)
  have R1 : Hid (RD w1 (w.heap.size + 1) 0) := by show RD _ _ _; simpa using r1
  have l1 := heap_lt q1
  have l2 := R1.out.lt
  clear r1 b1
  go_wp2_with fail
  refine (l20Two_any (w.heap.size + 1) 0 _ (by omega) R1.out).mono ?_; rintro e w2 ⟨W, T, a, m, c, xs, la, q, lcap, L, lb, r, bcap, M, rfl, hm, h36, hs, o2, hq, hq36, i2, hr, hr36, j2, r2, g2⟩
  have q2 := heap_grown q1 g2 (by simp)
  have B2 := Lib.hid (below_grown B1.out g2 (Nat.le_refl _) (fun k e => by cases e; omega))
  have HM := Lib.hid hm; clear hm
  have HQ := Lib.hid hq; clear hq
  have HR := Lib.hid hr; clear hr
  have O2 := Lib.hid o2; clear o2
  have I2 := Lib.hid i2; clear i2
  have J2 := Lib.hid j2; clear j2
  clear r2 g2
  obtain ⟨d0, d1, d2⟩ := cells3 q2
  have f0 := free3 q2 0
  have f1 := free3 q2 1
  have f2 := free3 q2 2
  go_wp2
  refine bodyPost_ret (v := .tuple #[.agg #[.int .i64 W, .int .i64 T, .slice a m c], .slice la q lcap, .slice lb r bcap]) (by simp [results, Try.results45, go_sem, d0, d1, d2]) rfl ⟨W, T, a, m, c, xs, la, q, lcap, L, lb, r, bcap, M, rfl, HM.out, h36, hs, (O2.out.set3 (by omega) _ _ _).lower (by omega), HQ.out, by omega, (own_set3 I2.out (by omega) _ _ _).lower (by omega), HR.out, by omega, (own_set3 J2.out (by omega) _ _ _).lower (by omega), below_set3 B2.out (Nat.le_refl _) _ _ _⟩

end Go.Proofs.Ytknigcjpgkolgaa

namespace Go.Proofs.Ytknigcjpgkolgaa
open Go.RowKit
set_option linter.unusedVariables false
set_option maxRecDepth 100000
set_option linter.unusedSimpArgs false

theorem htsR_unique {W T : Int} {xs : List Bool} {L H H' : List Int} (h : HtsR W T xs L H) (h' : HtsR W T xs L H') : H = H' := by
  rcases h with ⟨c, h⟩ | ⟨c, h⟩ <;> rcases h' with ⟨c', h'⟩ | ⟨c', h'⟩
  · rw [Bool.and_eq_true] at c
    obtain ⟨N, fk, hN, hf⟩ := hokP_size c.1
    have eN : ((W + 1) * (T + 1)).toNat = N := by omega
    rw [eN] at h h'
    exact hts_unique c.1 hN hf h h'
  · rw [c] at c'; cases c'
  · rw [c] at c'; cases c'
  · rw [h, h']

end Go.Proofs.Ytknigcjpgkolgaa

namespace Go.Proofs.Ytknigcjpgkolgaa
open Go.RowKit
set_option linter.unusedVariables false
set_option maxRecDepth 100000
set_option linter.unusedSimpArgs false

end Go.Proofs.Ytknigcjpgkolgaa

namespace Go.Proofs.Ytknigcjpgkolgaa
open Go.RowKit Go.Shelf
set_option linter.unusedVariables false
set_option maxRecDepth 100000
set_option linter.unusedSimpArgs false
attribute [local go_sem] Oper.semAt_some

end Go.Proofs.Ytknigcjpgkolgaa

namespace Go.Proofs.Ytknigcjpgkolgaa
open Go.RowKit Go.Shelf
set_option linter.unusedVariables false
set_option maxRecDepth 100000
set_option linter.unusedSimpArgs false

theorem SeqIt.later {P : Program} {g : Nat} {lb : Array Value} {S0 : Nat → Prop} {all : List (List Int)} {ok : List Int → Prop} {w w' : World} (h : SeqIt P g lb S0 all ok w) (hb : Below w.heap.size w w') : SeqIt P g lb S0 all ok w' :=
  fun d l J Jx W1 h1 => h d l J Jx W1 (below_seq hb h1)

end Go.Proofs.Ytknigcjpgkolgaa

namespace Go.Proofs.Ytknigcjpgkolgaa
open Go.RowKit Go.Shelf
set_option linter.unusedVariables false
set_option maxRecDepth 100000
set_option linter.unusedSimpArgs false
attribute [local go_sem] Oper.semAt_some

end Go.Proofs.Ytknigcjpgkolgaa

namespace Go.Proofs.Ytknigcjpgkolgaa
open Go.RowKit
set_option linter.unusedVariables false
set_option maxRecDepth 100000
set_option linter.unusedSimpArgs false

attribute [local go_sem] nil_nilV some_nilV

def sumD (A B : List Int) : Nat → Int
  | 0 => 0
  | k + 1 => sumD A B k + (if A.getD k 0 - B.getD k 0 < B.getD k 0 - A.getD k 0 then B.getD k 0 - A.getD k 0 else A.getD k 0 - B.getD k 0)
def apartI (A B : List Int) : Int := if A.length = 0 ∨ B.length = 0 then -1 else sumD A B A.length / 4
theorem sumD_bd {A B : List Int} (hA : ∀ k, k < A.length → -49 ≤ A.getD k 0 ∧ A.getD k 0 ≤ 99) (hB : ∀ k, k < A.length → -49 ≤ B.getD k 0 ∧ B.getD k 0 ≤ 99) : ∀ k : Nat, k ≤ A.length → 0 ≤ sumD A B k ∧ sumD A B k ≤ 148 * (k : Int)
  | 0, _ => by simp [sumD]
  | k + 1, hk => by
    obtain ⟨h0, h1⟩ := sumD_bd hA hB k (by omega)
    have a := hA k (by omega)
    have b := hB k (by omega)
    unfold sumD
    push_cast
    split <;> omega

set_option maxHeartbeats 4000000 in
theorem sApart_ret (W T : Int) (a : Option Addr) (n cap : Nat) (xs : List Bool) (la0 : Option Addr) (m0 lcap0 : Nat) (L0 : List Int) (la1 : Option Addr) (m1 lcap1 : Nat) (L1 : List Int) (A B : List Int) (w : World) (hn : n = xs.length) (hn' : n ≤ 1048576) (hm0 : m0 = L0.length) (hm0' : m0 ≤ 1048576) (hm1 : m1 = L1.length) (hm1' : m1 ≤ 1048576) (ha : BoolsAt w a xs) (hl0 : IntsAt w la0 L0) (hl1 : IntsAt w la1 L1) (hA : HtsR W T xs L0 A) (hB : HtsR W T xs L1 B) :
    Calls Try.prog 47 #[.agg #[.int .i64 W, .int .i64 T, .slice a n cap], .slice la0 m0 lcap0, .slice la1 m1 lcap1] w fun e w' => e = .returned (.int .i64 (apartI A B)) ∧ Below w.heap.size w w' := by
  have HN := Lib.hid hn; clear hn
  have HM0 := Lib.hid hm0; clear hm0
  have HM1 := Lib.hid hm1; clear hm1
  have HA := Lib.hid ha; clear ha
  have HL0 := Lib.hid hl0; clear hl0
  have HL1 := Lib.hid hl1; clear hl1
  have HHA := Lib.hid hA; have HHB := Lib.hid hB
  have hla := hA.len; have hlb := hB.len
  have hsame := HtsR.same hA hB
  clear hA hB
  obtain ⟨p, hp⟩ : ∃ p, p = A.length := ⟨_, rfl⟩
  obtain ⟨q, hq⟩ : ∃ q, q = B.length := ⟨_, rfl⟩
  rw [← hp] at hla hsame; rw [← hq] at hlb hsame
  have HP := Lib.hid hp; have HQ := Lib.hid hq; have HSM := Lib.hid hsame
  clear hp hq hsame
  go_enter Try.func47, Try.ntmps47
  go_wp2_with fail
  refine (sHeightsOf_ret W T a n cap xs la0 m0 lcap0 L0 A _ HN.out hn' HM0.out hm0' (HA.out.one _) (HL0.out.one _) HHA.out).mono ?_; rintro e w1 ⟨a1, c1, rfl, o1, hb1⟩
  have b1 := below_seq (below1 w (.cells #[.int .i64 W, .int .i64 T, .slice a n cap] 25)) hb1
  obtain ⟨d0, d1, d2⟩ := cells3 (heap_later (heap_new w (.cells #[.int .i64 W, .int .i64 T, .slice a n cap] 25)) hb1)
  clear hb1
  go_wp2_with fail
  refine (sHeightsOf_ret W T a n cap xs la1 m1 lcap1 L1 B _ HN.out hn' HM1.out hm1' (HA.out.below b1) (HL1.out.below b1) HHB.out).mono ?_; rintro e w2 ⟨a2, c2, rfl, o2, hb2⟩
  have B2 := Lib.hid (below_seq b1 hb2)
  have IA := Lib.hid (OwnsI.at (o1.below hb2))
  have IB := Lib.hid (OwnsI.at o2)
  have F1 : 0 < A.length → ∃ g, a1 = some ⟨g, 0, none⟩ := fun h => by obtain ⟨g, pc, hv, _⟩ := o1.pos h; simp only [Value.slice.injEq] at hv; exact ⟨g, hv.1⟩
  have F2 : 0 < B.length → ∃ g, a2 = some ⟨g, 0, none⟩ := fun h => by obtain ⟨g, pc, hv, _⟩ := o2.pos h; simp only [Value.slice.injEq] at hv; exact ⟨g, hv.1⟩
  rw [← HP.out, ← HQ.out]
  clear o1 o2 hb2 b1 d0 d1 d2
  have hpq : (p = 0 ∨ q = 0) ∨ (0 < p ∧ 0 < q ∧ p = q) := by
    rcases Nat.eq_zero_or_pos p with h | h
    · exact Or.inl (Or.inl h)
    · rcases Nat.eq_zero_or_pos q with h2 | h2
      · exact Or.inl (Or.inr h2)
      · exact Or.inr ⟨h, h2, HSM.out h h2⟩
  rw [← HP.out] at F1; rw [← HQ.out] at F2
  rcases hpq with hz | ⟨hp0, hq0, hpq⟩
  · clear F1 F2
    have HE : Hid (apartI A B = -1) := by show _ = _; unfold apartI; rw [← HP.out, ← HQ.out, if_pos hz]
    by_cases hp0 : p = 0
    · subst hp0
      clear hz
      go_wp2
      go_ret
      exact ⟨by rw [HE.out]; rfl, B2.out⟩
    · have hq0 : q = 0 := by omega
      have e1 : ((p : Int) == 0) = false := by simp; omega
      subst hq0
      clear hz
      go_wp2
      go_ret
      exact ⟨by rw [HE.out]; rfl, B2.out⟩
  subst hpq
  obtain ⟨g1, rfl⟩ := F1 hp0
  obtain ⟨g2, rfl⟩ := F2 hq0
  clear F1 F2 HSM
  go_wp2_with fail
  go_loopw [9, 10] (fun sv i wr => ∃ k : Nat, k ≤ p ∧ i = .int .i64 k ∧ sv = .int .i64 (sumD A B k) ∧ IntsAt wr (some ⟨g1, 0, none⟩) A ∧ IntsAt wr (some ⟨g2, 0, none⟩) B ∧ Below w.heap.size w wr) (fun _ i _ => p - (intOf i).toNat)
  case atStart => exact ⟨0, Nat.zero_le _, rfl, rfl, IA.out, IB.out, B2.out⟩
  case round =>
    clear IA IB B2
    rename World => wo
    obtain ⟨k, hk, rfl, rfl, ia, ib, bo⟩ := hrel
    have IA := Lib.hid ia; have IB := Lib.hid ib; have BO := Lib.hid bo
    clear ia ib bo
    by_cases hlt : k < p
    · have hx := IA.out.cellAt (i := k) (by rw [← HP.out]; exact hlt)
      have hy := IB.out.cellAt (i := k) (by rw [← HQ.out]; exact hlt)
      rw [Nat.zero_add] at hx hy
      have xb := HHA.out.entry (k := k) (by rw [← HP.out]; exact hlt)
      have yb := HHB.out.entry (k := k) (by rw [← HQ.out]; exact hlt)
      have hsd := sumD_bd (A := A) (B := B) (fun k h => HHA.out.entry h) (fun k h => HHB.out.entry (by rw [← HQ.out]; rw [← HP.out] at h; exact h)) k (by rw [← HP.out]; exact hk)
      have hsu : sumD A B (k + 1) = sumD A B k + (if A.getD k 0 - B.getD k 0 < B.getD k 0 - A.getD k 0 then B.getD k 0 - A.getD k 0 else A.getD k 0 - B.getD k 0) := rfl
      obtain ⟨s, hs⟩ : ∃ s, s = sumD A B k := ⟨_, rfl⟩
      obtain ⟨s2, hs2⟩ : ∃ s2, s2 = sumD A B (k + 1) := ⟨_, rfl⟩
      rw [← hs] at hsd hsu ⊢; rw [← hs2] at hsu
      obtain ⟨x, hxx⟩ : ∃ x, x = A.getD k 0 := ⟨_, rfl⟩
      obtain ⟨y, hyy⟩ : ∃ y, y = B.getD k 0 := ⟨_, rfl⟩
      rw [← hxx] at hx xb hsu; rw [← hyy] at hy yb hsu
      clear hxx hyy hs
      have e1 : (k : Int) < p := by omega
      have w1 : IntKind.i64.wrap (x - y) = x - y := by rw [IntKind.wrap_i64]; omega
      have w2 : IntKind.i64.wrap (y - x) = y - x := by rw [IntKind.wrap_i64]; omega
      obtain ⟨d, hd⟩ : ∃ d, (if x - y < y - x then y - x else x - y) = d := ⟨_, rfl⟩
      have hdb : 0 ≤ d ∧ d ≤ 148 := by rw [← hd]; split <;> omega
      rw [hd] at hsu
      have w3 : IntKind.i64.wrap (s + d) = s + d := by rw [IntKind.wrap_i64]; omega
      have HS2 : Hid (s + d = sumD A B (k + 1)) := by show _ = _; rw [← hs2, hsu]
      clear hsu hs2
      go_wp2_with fail
      go_region
      go_wp2
      go_roundw
      case rel => first
        | exact ⟨k + 1, by omega, by go_num, by rw [HS2.out], IA.out.below (drew_below _), IB.out.below (drew_below _), below_seq BO.out (drew_below _)⟩
        | exact ⟨k + 1, by omega, by go_num, by rw [HS2.out], IA.out.below (drewN_below _ _), IB.out.below (drewN_below _ _), below_seq BO.out (drewN_below _ _)⟩
      case measure => simp [intOf]; omega
    · obtain rfl : k = p := by omega
      have hsd := sumD_bd (A := A) (B := B) (fun k h => HHA.out.entry h) (fun k h => HHB.out.entry (by rw [← HQ.out]; rw [← HP.out] at h; exact h)) k (by rw [← HP.out]; exact Nat.le_refl _)
      obtain ⟨s, hs⟩ : ∃ s, s = sumD A B k := ⟨_, rfl⟩
      have HE : Hid (apartI A B = s / 4) := by
        show _ = _; unfold apartI
        rw [← HP.out, ← HQ.out, if_neg (by omega), hs]
      rw [← hs] at hsd ⊢
      clear hs
      go_wp2
      go_ret
      exact ⟨by rw [HE.out]; rfl, BO.out⟩

set_option maxHeartbeats 4000000 in
theorem iApart_ret (W T : Int) (a : Option Addr) (n cap : Nat) (xs : List Bool) (la0 : Option Addr) (m0 lcap0 : Nat) (L0 : List Int) (la1 : Option Addr) (m1 lcap1 : Nat) (L1 : List Int) (A B : List Int) (w : World) (hn : n = xs.length) (hn' : n ≤ 1048576) (hm0 : m0 = L0.length) (hm0' : m0 ≤ 1048576) (hm1 : m1 = L1.length) (hm1' : m1 ≤ 1048576) (ha : BoolsAt w a xs) (hl0 : IntsAt w la0 L0) (hl1 : IntsAt w la1 L1) (hA : HtsR W T xs L0 A) (hB : HtsR W T xs L1 B) :
    Calls Try.prog 46 #[.agg #[.int .i64 W, .int .i64 T, .slice a n cap], .slice la0 m0 lcap0, .slice la1 m1 lcap1] w fun e w' => e = .returned (.int .i64 (apartI A B)) ∧ Below w.heap.size w w' := by
  have HN := Lib.hid hn; clear hn
  have HM0 := Lib.hid hm0; clear hm0
  have HM1 := Lib.hid hm1; clear hm1
  have HA := Lib.hid ha; clear ha
  have HL0 := Lib.hid hl0; clear hl0
  have HL1 := Lib.hid hl1; clear hl1
  have HHA := Lib.hid hA; have HHB := Lib.hid hB
  have hla := hA.len; have hlb := hB.len
  have hsame := HtsR.same hA hB
  clear hA hB
  obtain ⟨p, hp⟩ : ∃ p, p = A.length := ⟨_, rfl⟩
  obtain ⟨q, hq⟩ : ∃ q, q = B.length := ⟨_, rfl⟩
  rw [← hp] at hla hsame; rw [← hq] at hlb hsame
  have HP := Lib.hid hp; have HQ := Lib.hid hq; have HSM := Lib.hid hsame
  clear hp hq hsame
  have PA : (w.alloc (.cells #[.int .i64 W, .int .i64 T, .slice a n cap] 25)).drew.heap[w.heap.size]? = some _ := heap_new w (.cells #[.int .i64 W, .int .i64 T, .slice a n cap] 25)
  have bA : Below w.heap.size w (w.alloc (.cells #[.int .i64 W, .int .i64 T, .slice a n cap] 25)).drew := below_seq (below1 _ _) (drew_below _)
  obtain ⟨c0, c1, c2⟩ := cells3 (heap_new w (.cells #[.int .i64 W, .int .i64 T, .slice a n cap] 25))
  go_enter Try.func46, Try.ntmps46
  go_wp2_with fail
  go_region_held3 (fun w' => w'.cell? ⟨w.heap.size, 0, none⟩ = some (.int .i64 W) ∧ w'.cell? ⟨w.heap.size, 1, none⟩ = some (.int .i64 T) ∧ w'.cell? ⟨w.heap.size, 2, none⟩ = some (.slice a n cap))
    (go_keep)
    (first
      | (go_at_call 15; refine (iHeightsOf_n W T a n cap xs la1 m1 lcap1 L1 B _ HN.out hn' HM1.out hm1' (HA.out.below (below_seq bA hb1)) (HL1.out.below (below_seq bA hb1)) HHB.out).mono ?_; rintro e w2 ⟨a2, q2, rfl, o2, n2, hb2⟩; have p2 := heap_later p1 hb2; obtain ⟨e0, e1, e2⟩ := cells3 p2)
      | (go_at_call 15; refine (iHeightsOf_n W T a n cap xs la0 m0 lcap0 L0 A _ HN.out hn' HM0.out hm0' (HA.out.below bA) (HL0.out.below bA) HHA.out).mono ?_; rintro e w1 ⟨a1, q1, rfl, o1, n1, hb1⟩; have p1 := heap_later PA hb1; obtain ⟨d0, d1, d2⟩ := cells3 p1))
  have B2 := Lib.hid (below_seq (below_seq bA hb1) hb2)
  have IA := Lib.hid (OwnsI.at (o1.below hb2))
  have IB := Lib.hid (OwnsI.at o2)
  rw [← HP.out] at n1 ⊢
  rw [← HQ.out] at n2 ⊢
  clear o1 o2 hb1 hb2 bA p1 p2 PA c0 c1 c2 d0 d1 d2 e0 e1 e2
  rcases n1 with ⟨rfl, rfl, rfl⟩ | ⟨hp0, g1, rfl⟩
  · have HF : Hid (apartI [] B = -1) := rfl
    have hp0 : p = 0 := HP.out
    subst hp0
    clear n2
    go_wp2
    go_ret
    exact ⟨by rw [HF.out]; rfl, B2.out⟩
  rcases n2 with ⟨rfl, rfl, rfl⟩ | ⟨hq0, g2, rfl⟩
  · have HF : Hid (apartI A [] = -1) := by show _ = _; unfold apartI; simp
    have hq0 : q = 0 := HQ.out
    subst hq0
    go_wp2
    go_ret
    exact ⟨by rw [HF.out]; rfl, B2.out⟩
  have hpq := HSM.out hp0 hq0
  subst hpq
  clear HSM
  go_wp2_with fail
  go_loopw [9, 26] (fun sv i wr => ∃ k : Nat, k ≤ p ∧ i = .int .i64 k ∧ sv = .int .i64 (sumD A B k) ∧ IntsAt wr (some ⟨g1, 0, none⟩) A ∧ IntsAt wr (some ⟨g2, 0, none⟩) B ∧ Below w.heap.size w wr) (fun _ i _ => p - (intOf i).toNat)
  case atStart => exact ⟨0, Nat.zero_le _, rfl, rfl, IA.out, IB.out, B2.out⟩
  case round =>
    clear IA IB B2
    rename World => wo
    obtain ⟨k, hk, rfl, rfl, ia, ib, bo⟩ := hrel
    have IA := Lib.hid ia; have IB := Lib.hid ib; have BO := Lib.hid bo
    clear ia ib bo
    by_cases hlt : k < p
    · have hx := IA.out.cellAt (i := k) (by rw [← HP.out]; exact hlt)
      have hy := IB.out.cellAt (i := k) (by rw [← HQ.out]; exact hlt)
      rw [Nat.zero_add] at hx hy
      have xb := HHA.out.entry (k := k) (by rw [← HP.out]; exact hlt)
      have yb := HHB.out.entry (k := k) (by rw [← HQ.out]; exact hlt)
      have hsd := sumD_bd (A := A) (B := B) (fun k h => HHA.out.entry h) (fun k h => HHB.out.entry (by rw [← HQ.out]; rw [← HP.out] at h; exact h)) k (by rw [← HP.out]; exact hk)
      have hsu : sumD A B (k + 1) = sumD A B k + (if A.getD k 0 - B.getD k 0 < B.getD k 0 - A.getD k 0 then B.getD k 0 - A.getD k 0 else A.getD k 0 - B.getD k 0) := rfl
      obtain ⟨s, hs⟩ : ∃ s, s = sumD A B k := ⟨_, rfl⟩
      obtain ⟨s2, hs2⟩ : ∃ s2, s2 = sumD A B (k + 1) := ⟨_, rfl⟩
      rw [← hs] at hsd hsu ⊢; rw [← hs2] at hsu
      obtain ⟨x, hxx⟩ : ∃ x, x = A.getD k 0 := ⟨_, rfl⟩
      obtain ⟨y, hyy⟩ : ∃ y, y = B.getD k 0 := ⟨_, rfl⟩
      rw [← hxx] at hx xb hsu; rw [← hyy] at hy yb hsu
      clear hxx hyy hs
      have e1 : (k : Int) < p := by omega
      have w1 : IntKind.i64.wrap (x - y) = x - y := by rw [IntKind.wrap_i64]; omega
      have w2 : IntKind.i64.wrap (y - x) = y - x := by rw [IntKind.wrap_i64]; omega
      obtain ⟨d, hd⟩ : ∃ d, (if x - y < y - x then y - x else x - y) = d := ⟨_, rfl⟩
      have hdb : 0 ≤ d ∧ d ≤ 148 := by rw [← hd]; split <;> omega
      rw [hd] at hsu
      have w3 : IntKind.i64.wrap (s + d) = s + d := by rw [IntKind.wrap_i64]; omega
      have HS2 : Hid (s + d = sumD A B (k + 1)) := by show _ = _; rw [← hs2, hsu]
      clear hsu hs2
      go_wp2_with fail
      go_region
      go_wp2
      go_roundw
      case rel => first
        | exact ⟨k + 1, by omega, by go_num, by rw [HS2.out], IA.out.below (drew_below _), IB.out.below (drew_below _), below_seq BO.out (drew_below _)⟩
        | exact ⟨k + 1, by omega, by go_num, by rw [HS2.out], IA.out.below (drewN_below _ _), IB.out.below (drewN_below _ _), below_seq BO.out (drewN_below _ _)⟩
      case measure => simp [intOf]; omega
    · obtain rfl : k = p := by omega
      have hsd := sumD_bd (A := A) (B := B) (fun k h => HHA.out.entry h) (fun k h => HHB.out.entry (by rw [← HQ.out]; rw [← HP.out] at h; exact h)) k (by rw [← HP.out]; exact Nat.le_refl _)
      obtain ⟨s, hs⟩ : ∃ s, s = sumD A B k := ⟨_, rfl⟩
      have HE : Hid (apartI A B = s / 4) := by
        show _ = _; unfold apartI
        rw [← HP.out, ← HQ.out, if_neg (by omega), hs]
      rw [← hs] at hsd ⊢
      clear hs
      go_wp2
      go_ret
      exact ⟨by rw [HE.out]; rfl, BO.out⟩
end Go.Proofs.Ytknigcjpgkolgaa

namespace Go.Proofs.Ytknigcjpgkolgaa
open Go.RowKit
set_option linter.unusedVariables false
set_option maxRecDepth 100000
set_option linter.unusedSimpArgs false

section
variable {W T : Int} {xs : List Bool} {L M A B : List Int}
end
/-- How far two lists are apart at a corner. -/
def difI (x y : Int) : Int := if x - y < y - x then y - x else x - y
theorem sumD_succ (A B : List Int) (k : Nat) : sumD A B (k + 1) = sumD A B k + difI (A.getD k 0) (B.getD k 0) := rfl
theorem sumD_comm (A B : List Int) : ∀ k, sumD A B k = sumD B A k
  | 0 => rfl
  | k + 1 => by rw [sumD_succ, sumD_succ, sumD_comm A B k]; unfold difI; split <;> split <;> omega
theorem sumD_four {A B : List Int} : ∀ k : Nat, (∀ i, i < k → (A.getD i 0 - B.getD i 0) % 4 = 0) → sumD A B k % 4 = 0
  | 0, _ => rfl
  | k + 1, h => by
    have h1 := sumD_four k (fun i hi => h i (by omega))
    have h2 := h k (by omega)
    rw [sumD_succ]; unfold difI; split <;> omega
theorem sumD_low {A B : List Int} : ∀ k : Nat, k ≤ A.length → sumD A B k = sumD A (bothL false A B A.length) k + sumD (bothL false A B A.length) B k
  | 0, _ => rfl
  | k + 1, h => by
    rw [sumD_succ, sumD_succ, sumD_succ, sumD_low k (by omega), both_get false A B (by omega)]
    unfold difI pickI
    simp only [Bool.false_eq_true, if_false]
    repeat' split
    all_goals omega
theorem sumD_tri (A B C : List Int) : ∀ k : Nat, sumD A B k ≤ sumD A C k + sumD C B k
  | 0 => by simp [sumD]
  | k + 1 => by
    have := sumD_tri A B C k
    rw [sumD_succ, sumD_succ, sumD_succ]
    unfold difI
    repeat' split
    all_goals omega
theorem sumD_pos (A B : List Int) : ∀ k : Nat, 0 ≤ sumD A B k
  | 0 => by simp [sumD]
  | k + 1 => by have := sumD_pos A B k; rw [sumD_succ]; unfold difI; split <;> omega
theorem sumD_zero {A B : List Int} : ∀ k : Nat, sumD A B k = 0 → ∀ i, i < k → A.getD i 0 = B.getD i 0
  | 0, _, i, hi => absurd hi (Nat.not_lt_zero i)
  | k + 1, h, i, hi => by
    have hp := sumD_pos A B k
    rw [sumD_succ] at h
    have hd : 0 ≤ difI (A.getD k 0) (B.getD k 0) := by unfold difI; split <;> omega
    have hk : A.getD k 0 = B.getD k 0 := by
      have : difI (A.getD k 0) (B.getD k 0) = 0 := by omega
      unfold difI at this; split at this <;> omega
    rcases Nat.lt_or_ge i k with e | e
    · exact sumD_zero k (by omega) i e
    · obtain rfl : i = k := by omega
      exact hk
theorem sumD_self (A : List Int) : ∀ k : Nat, sumD A A k = 0
  | 0 => rfl
  | k + 1 => by rw [sumD_succ, sumD_self A k]; unfold difI; simp
theorem apart_eq {A B : List Int} (h0 : 0 < A.length) (h : A.length = B.length) : apartI A B = sumD A B A.length / 4 := by
  unfold apartI; rw [if_neg (by omega)]
/-- What is said of three tilings and how far they are apart. -/
theorem apart_facts {W T : Int} {xs : List Bool} {L M A B C F X : List Int} (hs : simpleB W T xs = true) (hL : tok W T xs L = true) (hM : tok W T xs M = true) (hF : tok W T xs F = true) (hX : tok W T xs X = true) (hA : HtsR W T xs L A) (hB : HtsR W T xs M B) (hC : HtsR W T xs F C) (hD : HtsR W T xs X (bothL false A B A.length)) :
    apartI B A = apartI A B ∧ apartI A (bothL false A B A.length) + apartI (bothL false A B A.length) B = apartI A B ∧ (apartI A B = 0 ↔ L = M) ∧ apartI A B ≤ apartI A C + apartI C B := by
  obtain ⟨l1, p1⟩ := hts_len hs hL hM hA hB
  obtain ⟨l2, _⟩ := hts_len hs hL hF hA hC
  have m1 := (hts_mod hs hL hM hA hB).2
  have m2 := (hts_mod hs hL hF hA hC).2
  have m3 := (hts_mod hs hF hM hC hB).2
  have m4 := (hts_mod hs hL hX hA hD).2
  have m5 := (hts_mod hs hX hM hD hB).2
  have f1 := sumD_four A.length (fun i hi => (m1 i hi).1)
  have f2 := sumD_four A.length (fun i hi => (m2 i hi).1)
  have f3 := sumD_four A.length (fun i hi => (m3 i (by omega)).1)
  have f4 := sumD_four A.length (fun i hi => (m4 i hi).1)
  have f5 := sumD_four A.length (fun i hi => (m5 i (by rw [bothL_len]; exact hi)).1)
  have hb : (bothL false A B A.length).length = A.length := bothL_len _ _ _ _
  rw [apart_eq p1 l1, apart_eq (by omega) l1.symm, apart_eq p1 hb.symm, apart_eq (by omega) (hb.trans l1), apart_eq p1 l2, apart_eq (by omega) (l2.symm.trans l1), hb, ← l1, ← l2]
  have e1 := sumD_low (A := A) (B := B) A.length (Nat.le_refl _)
  have e2 := sumD_tri A B C A.length
  have e3 := sumD_comm B A A.length
  refine ⟨by rw [e3], by omega, ⟨fun h => ?_, fun h => ?_⟩, by omega⟩
  · have hz := sumD_pos A B A.length
    have h0 : sumD A B A.length = 0 := by omega
    have e : A = B := ext_getD l1 fun k hk => sumD_zero _ h0 k hk
    subst e
    exact hts_same hs hL hM hA hB
  · subst h
    rw [htsR_unique hB hA, sumD_self]; rfl
theorem apart_neg {W T : Int} {xs : List Bool} {L M A B : List Int} (hA : HtsR W T xs L A) (hB : HtsR W T xs M B) : apartI A B = -1 ∨ (0 ≤ apartI A B ∧ simpleB W T xs = true ∧ tok W T xs L = true ∧ tok W T xs M = true) := by
  rcases hts_pos hA with ⟨e, _⟩ | ⟨p, hs, ht⟩
  · left; unfold apartI; rw [if_pos (Or.inl e)]
  rcases hts_pos hB with ⟨e, _⟩ | ⟨p', _, ht'⟩
  · left; unfold apartI; rw [if_pos (Or.inr e)]
  right
  have := sumD_pos A B A.length
  refine ⟨?_, hs, ht, ht'⟩
  unfold apartI; rw [if_neg (by omega)]; omega

end Go.Proofs.Ytknigcjpgkolgaa

namespace Go.Proofs.Ytknigcjpgkolgaa
open Go.RowKit
set_option linter.unusedVariables false
set_option maxRecDepth 100000
set_option linter.unusedSimpArgs false

theorem apart_le {W T : Int} {xs : List Bool} {L M A B : List Int} (hs : simpleB W T xs = true) (hL : tok W T xs L = true) (hM : tok W T xs M = true) (hA : HtsR W T xs L A) (hB : HtsR W T xs M B) : 0 ≤ apartI A B ∧ apartI A B ≤ 10000 := by
  obtain ⟨l1, p1⟩ := hts_len hs hL hM hA hB
  have h := sumD_bd (A := A) (B := B) (fun k hk => hA.entry hk) (fun k hk => hB.entry (by omega)) A.length (Nat.le_refl _)
  have hl := hA.len
  rw [apart_eq p1 l1]
  omega
/-- What is said of two tilings, the low one of both, and a third one. -/
theorem apart_all {W T : Int} {xs : List Bool} {L M A B C F X : List Int} (hs : simpleB W T xs = true) (hL : tok W T xs L = true) (hM : tok W T xs M = true) (hF : tok W T xs F = true) (hX : tok W T xs X = true) (hA : HtsR W T xs L A) (hB : HtsR W T xs M B) (hC : HtsR W T xs F C) (hD : HtsR W T xs X (bothL false A B A.length)) :
    ∃ n n2 n3 n4 n5 s : Int, ∃ e : Bool, apartI A B = n ∧ apartI B A = n ∧ apartI A (bothL false A B A.length) = n2 ∧ apartI (bothL false A B A.length) B = n3 ∧ IntKind.i64.wrap (n2 + n3) = n ∧ apartI A C = n4 ∧ apartI C B = n5 ∧ IntKind.i64.wrap (n4 + n5) = s ∧ n ≤ s ∧ decide (L = M) = e ∧ (n == 0) = e ∧ 0 ≤ n := by
  obtain ⟨f1, f2, f3, f4⟩ := apart_facts hs hL hM hF hX hA hB hC hD
  have a1 := apart_le hs hL hM hA hB
  have a2 := apart_le hs hL hX hA hD
  have a3 := apart_le hs hX hM hD hB
  have a4 := apart_le hs hL hF hA hC
  have a5 := apart_le hs hF hM hC hB
  refine ⟨_, _, _, _, _, apartI A C + apartI C B, _, rfl, f1, rfl, rfl, ?_, rfl, rfl, IntWalk.i64_in _ (by omega), f4, rfl, ?_, a1.1⟩
  · rw [IntWalk.i64_in _ (by omega)]; exact f2
  · rw [Bool.eq_iff_iff]; simp only [beq_iff_eq, decide_eq_true_eq]; exact f3

end Go.Proofs.Ytknigcjpgkolgaa

namespace Go.Proofs.Ytknigcjpgkolgaa
open Go.RowKit
set_option linter.unusedVariables false
set_option maxRecDepth 100000
set_option linter.unusedSimpArgs false

/-- At a lie lists that read so. -/
def RowsAt (w : World) (a : Option Addr) (rows : List (List Int)) : Prop :=
  ∀ i, i < rows.length → ∃ b off a' cap, a = some ⟨b, off, none⟩ ∧ w.cell? ⟨b, off + i, none⟩ = some (.slice a' (rows.getD i []).length cap) ∧ IntsAt w a' (rows.getD i [])
theorem RowsAt.later {w w' : World} {B : Nat} {a : Option Addr} {rows : List (List Int)} (h : RowsAt w a rows) (hb : Below B w w') (hB : w.heap.size ≤ B) : RowsAt w' a rows := by
  intro i hi
  obtain ⟨b, off, a', cap, e, hc, hx⟩ := h i hi
  have hlt := World.block_lt_of_cell? w _ hc
  simp only at hlt
  exact ⟨b, off, a', cap, e, (hb.cell (p := ⟨b, off + i, none⟩) (by show b < B; omega)).trans hc, hx.later hb hB⟩
theorem RowsAt.below {w w' : World} {a : Option Addr} {rows : List (List Int)} (h : RowsAt w a rows) (hb : Below w.heap.size w w') : RowsAt w' a rows := h.later hb (Nat.le_refl _)
theorem RowsAt.one {w : World} {a : Option Addr} {rows : List (List Int)} (h : RowsAt w a rows) (o : Obj) : RowsAt (w.alloc o) a rows := h.below (below1 w o)
theorem own_form {w : World} {B : Nat} {v : Value} {M : List Int} (h : OwnsI w B v M) : ∃ a cap, v = .slice a M.length cap ∧ IntsAt w a M := by
  obtain ⟨a, cap, rfl⟩ := h.form2
  exact ⟨a, cap, rfl, OwnsI.at h⟩
theorem OwnsSS.at {w : World} {B : Nat} {a : Option Addr} {n cap : Nat} {rows : List (List Int)} (h : OwnsSS w B (.slice a n cap) rows) : RowsAt w a rows := by
  obtain ⟨ws, h1, h2⟩ := h
  intro i hi
  obtain ⟨a', cap', e, hx⟩ := own_form (h2.own i hi)
  rcases h1.2 with ⟨_, h0⟩ | ⟨g, cap2, cur, hv, _⟩
  · omega
  · simp only [Value.slice.injEq] at hv
    obtain ⟨rfl, rfl, rfl⟩ := hv
    refine ⟨g, 0, a', cap', rfl, ?_, hx⟩
    have hl : i < ws.length := by rw [h2.len]; exact hi
    rw [Nat.zero_add, World.ownsRow.cellAt (xs := ws) h1 i (by omega)]
    have e2 : ws.getD i (.slice none 0 0) = ws[i] := by simp [List.getD, hl]
    rw [e2] at e
    rw [List.getElem?_eq_getElem hl, e]
theorem RowsAt.cell {w : World} {a : Option Addr} {rows : List (List Int)} (h : RowsAt w a rows) {i : Nat} (hi : i < rows.length) {b off : Nat} (e : a = some ⟨b, off, none⟩) : ∃ a' cap, w.cell? ⟨b, off + i, none⟩ = some (.slice a' (rows.getD i []).length cap) ∧ IntsAt w a' (rows.getD i []) := by
  obtain ⟨b', off', a', cap, e', hc, hx⟩ := h i hi
  rw [e] at e'
  cases e'
  exact ⟨a', cap, hc, hx⟩

end Go.Proofs.Ytknigcjpgkolgaa

namespace Go.Proofs.Ytknigcjpgkolgaa
open Go.RowKit
set_option linter.unusedVariables false
set_option maxRecDepth 100000
set_option linter.unusedSimpArgs false

set_option maxHeartbeats 1000000 in
theorem sameInts_any (a b : Option Addr) (n cap cap' : Nat) (xs ys : List Int) (w : World) (hn : n = xs.length) (hm : n = ys.length) (hn' : n ≤ 1048576) (ha : IntsAt w a xs) (hb : IntsAt w b ys) :
    Calls Try.prog 16 #[.slice a n cap, .slice b n cap'] w fun e w' => e = .returned (.bool (decide (xs = ys))) ∧ Below w.heap.size w w' := by
  have HN := Lib.hid hn; clear hn
  have HM := Lib.hid hm; clear hm
  have HA := Lib.hid ha; clear ha
  have HB := Lib.hid hb; clear hb
  obtain ⟨d, hd⟩ : ∃ d, decide (xs = ys) = d := ⟨_, rfl⟩
  rw [hd]
  have HD := Lib.hid hd; clear hd
  go_enter Try.func16, Try.ntmps16
  go_wp2
  go_loopw [5] (fun i wr => ∃ k : Nat, k ≤ n ∧ i = .int .i64 k ∧ (∀ j, j < k → xs.getD j 0 = ys.getD j 0) ∧ ∃ q, wr = w.drewN q) (fun i _ => n - (intOf i).toNat)
  case atStart => exact ⟨0, Nat.zero_le _, rfl, fun j h => absurd h (Nat.not_lt_zero j), 0, rfl⟩
  case round =>
    obtain ⟨k, hk, rfl, hall, q, rfl⟩ := hrel
    have HALL := Lib.hid hall; clear hall
    by_cases hlt : k < n
    · obtain ⟨b1, o1, rfl, hc1⟩ := HA.out k (by rw [← HN.out]; exact hlt)
      obtain ⟨b2, o2, rfl, hc2⟩ := HB.out k (by rw [← HM.out]; exact hlt)
      obtain ⟨x, hx⟩ : ∃ x, x = xs.getD k 0 := ⟨_, rfl⟩
      obtain ⟨y, hy⟩ : ∃ y, y = ys.getD k 0 := ⟨_, rfl⟩
      rw [← hx] at hc1
      rw [← hy] at hc2
      have e1 : (k : Int) < n := by omega
      have e0 : (0 : Int) ≤ k := by omega
      cases hxy : (x != y)
      · have HS : Hid (∀ j, j < k + 1 → xs.getD j 0 = ys.getD j 0) := fun j hj => by
          by_cases e : j = k
          · rw [e, ← hx, ← hy]; simpa using hxy
          · exact HALL.out j (by omega)
        clear hx hy
        go_wp2
        go_big_quiet (fail)
        go_wp2
        go_roundw
        case rel => exact ⟨k + 1, by omega, by go_num, HS.out, _, rfl⟩
        case measure => simp [intOf]; omega
      · have HF : Hid (d = false) := by
          show d = false
          rw [← HD.out]
          simp only [decide_eq_false_iff_not]
          intro e
          rw [e] at hx
          rw [hx, hy] at hxy
          simp at hxy
        clear hx hy
        go_wp2
        go_big_quiet (fail)
        go_wp2
        go_ret
        exact ⟨ret_bool HF.out.symm, below_seq (drewN_below _ _) (drewN_below _ _)⟩
    · obtain rfl : k = n := by omega
      have HT : Hid (d = true) := by
        show d = true
        rw [← HD.out]
        simp only [decide_eq_true_eq]
        exact ext_getD (by rw [← HN.out, ← HM.out]) fun j hj => HALL.out j (by rw [HN.out]; exact hj)
      go_wp2
      go_ret
      exact ⟨ret_bool HT.out.symm, drewN_below _ _⟩

end Go.Proofs.Ytknigcjpgkolgaa

namespace Go.Proofs.Ytknigcjpgkolgaa
open Go.RowKit
set_option linter.unusedVariables false
set_option maxRecDepth 100000
set_option linter.unusedSimpArgs false

set_option maxHeartbeats 8000000 in
theorem promApart_walk (cb : Option Addr) (n cap : Nat) (zs : List Int) (w : World) (hn : n = zs.length) (hn' : n ≤ maxLen) (hcap : n ≤ cap) (hb : BytesAt w cb zs) :
    Calls Try.prog 11 #[.slice cb n cap] w fun e w' => e = .returned (.bool true) ∧ Below w.heap.size w w' := by
  have HN := Lib.hid hn; clear hn
  have HB := Lib.hid hb; clear hb
  by_cases hbig : 1048576 < n
  · unfold maxLen at hn'
    go_enter Try.func11, Try.ntmps11
    go_wp2
    go_ret
    exact ⟨rfl, Below.refl _ _⟩
  have hsm : n ≤ 1048576 := by omega
  clear hbig hn'
  go_enter Try.func11, Try.ntmps11
  go_wp2_with fail
  refine (drawApart_any _ _ _ zs _ HN.out hsm hcap HB.out).mono ?_; rintro e w1 ⟨W0, T0, a, m, c, xs, la, q, lcap, L, lb, r, bcap, M, rfl, hm, h36, hs, ho, hq, hq49, hi, hr, hr49, hj, b1⟩
  have HM := Lib.hid hm; clear hm
  have HQ := Lib.hid hq; clear hq
  have HR := Lib.hid hr; clear hr
  have A1 := Lib.hid (OwnsB.at ho); clear ho
  have I1 := Lib.hid (OwnsI.at hi); clear hi
  have J1 := Lib.hid (OwnsI.at hj); clear hj
  obtain ⟨s0, s1, s2, s3⟩ := hs
  obtain ⟨HA0, hA0⟩ := htsR_exist W0 T0 xs L
  obtain ⟨HB0, hB0⟩ := htsR_exist W0 T0 xs M
  have hneg := apart_neg hA0 hB0
  obtain ⟨n0, hn0⟩ : ∃ n0, apartI HA0 HB0 = n0 := ⟨_, rfl⟩
  rw [hn0] at hneg
  have HA := Lib.hid hA0; clear hA0
  have HBH := Lib.hid hB0; clear hB0
  have HNN := Lib.hid hn0; clear hn0
  have hbb : (n0 != n0) = false := by simp
  go_wp2_with fail
  refine (iApart_ret _ _ _ _ _ xs _ _ _ L _ _ _ M HA0 HB0 _ HM.out (by omega) HQ.out (by omega) HR.out (by omega) (A1.out.one _) (I1.out.one _) (J1.out.one _) HA.out HBH.out).mono ?_; rintro e w2 ⟨rfl, hb2⟩
  rw [HNN.out]
  have b2 := below_seq (below_seq b1 (below1 _ _)) hb2
  have pr2 := heap_later (heap_new w1 (.cells #[.int .i64 W0, .int .i64 T0, .slice a m c] 25)) hb2
  have A2 := Lib.hid ((A1.out.one (.cells #[.int .i64 W0, .int .i64 T0, .slice a m c] 25)).below hb2)
  have I2 := Lib.hid ((I1.out.one (.cells #[.int .i64 W0, .int .i64 T0, .slice a m c] 25)).below hb2)
  have J2 := Lib.hid ((J1.out.one (.cells #[.int .i64 W0, .int .i64 T0, .slice a m c] 25)).below hb2)
  obtain ⟨cr20, cr21, cr22⟩ := cells3 pr2
  have lr2 := heap_lt pr2
  go_wp2_with fail
  refine (sApart_ret _ _ _ _ _ xs _ _ _ L _ _ _ M HA0 HB0 _ HM.out (by omega) HQ.out (by omega) HR.out (by omega) A2.out I2.out J2.out HA.out HBH.out).mono ?_; rintro e w3 ⟨rfl, hb3⟩
  rw [HNN.out]
  have b3 := below_seq b2 hb3
  have pr3 := heap_later pr2 hb3
  have A3 := Lib.hid (A2.out.below hb3)
  have I3 := Lib.hid (I2.out.below hb3)
  have J3 := Lib.hid (J2.out.below hb3)
  clear cr20 cr21 cr22 lr2
  obtain ⟨cr30, cr31, cr32⟩ := cells3 pr3
  have lr3 := heap_lt pr3
  rcases hneg with rfl | ⟨h0, hsi, htl, htm⟩
  · skip
    go_wp2_with fail
    refine (alive_any _).mono ?_; rintro e w4 ⟨rfl, hb4⟩
    go_wp2
    go_ret
    exact ⟨rfl, below_seq b3 hb4⟩
  · obtain ⟨X, hX, htx, hhx, hxl⟩ := low_mk false hsi htl htm HA.out HBH.out
    obtain ⟨x, hx⟩ : ∃ x, x = X.length := ⟨_, rfl⟩
    rw [← hx, ← HM.out] at hxl
    have hx36 : x ≤ 36 := by omega
    have hft := first_tok htl
    have hfl := firstF_len W0 T0 xs
    obtain ⟨F, hF⟩ : ∃ F, firstF W0 T0 xs = F := ⟨_, rfl⟩
    rw [hF] at hft hfl
    obtain ⟨F1, ok1⟩ := F
    simp only at hft hfl
    obtain ⟨f, hf⟩ : ∃ f, f = F1.length := ⟨_, rfl⟩
    rw [← hf, ← HM.out] at hfl
    obtain ⟨G, hG⟩ := htsR_exist W0 T0 xs F1
    obtain ⟨n0', n2, n3, n4, n5, s, e, q1, q2, q3, q4, hq5, q6, q7, hq8, hq9, q10, hq11, _⟩ := apart_all hsi htl htm hft htx HA.out HBH.out hG hhx
    obtain rfl : n0 = n0' := HNN.out.symm.trans q1
    have hn0 : ¬ n0 < 0 := by omega
    have hee : ((n0 == 0) == e) = true := by rw [hq11]; simp
    obtain ⟨DD, hDD⟩ : ∃ DD, bothL false HA0 HB0 HA0.length = DD := ⟨_, rfl⟩
    rw [hDD] at hhx q3 q4
    have hnn : (n0 == n0) = true := by simp
    have hs9 : decide (n0 ≤ s) = true := by simpa using hq9
    have hlm : q = M.length := by rw [HQ.out, (lok_rv (tok_lok1 htl)).2.1, (lok_rv (tok_lok1 htm)).2.1]
    have hqr : q = r := by rw [hlm, ← HR.out]
    have HLM := Lib.hid hlm; clear hlm
    obtain rfl := hqr
    clear hxl hDD hq9 q1 hsi htl htm htx hft h0
    have Zhx := Lib.hid hx; clear hx
    have ZhX := Lib.hid hX; clear hX
    have Zhhx := Lib.hid hhx; clear hhx
    have ZhF := Lib.hid hF; clear hF
    have Zhf := Lib.hid hf; clear hf
    have ZhG := Lib.hid hG; clear hG
    have Zq2 := Lib.hid q2; clear q2
    have Zq3 := Lib.hid q3; clear q3
    have Zq4 := Lib.hid q4; clear q4
    have Zq6 := Lib.hid q6; clear q6
    have Zq7 := Lib.hid q7; clear q7
    have Zq10 := Lib.hid q10; clear q10
    have Zhq11 := Lib.hid hq11; clear hq11
    go_wp2_with fail
    refine (iTilingLow_ret _ _ _ _ _ xs _ _ _ L _ _ _ M HA0 HB0 _ HM.out (by omega) HQ.out (by omega) HR.out (by omega) A3.out I3.out J3.out HA.out HBH.out).mono ?_; rintro e w4 ⟨a4, cap4, rfl, ho4, hb4⟩
    rw [ZhX.out] at ho4 ⊢
    simp only at ho4 ⊢
    rw [← Zhx.out] at ho4 ⊢
    have b4 := below_seq b3 hb4
    have pr4 := heap_later pr3 hb4
    have A4 := Lib.hid (A3.out.below hb4)
    have I4 := Lib.hid (I3.out.below hb4)
    have J4 := Lib.hid (J3.out.below hb4)
    have X4 := Lib.hid (OwnsI.at ho4)
    clear cr30 cr31 cr32 lr3
    obtain ⟨cr40, cr41, cr42⟩ := cells3 pr4
    have lr4 := heap_lt pr4
    clear ho4
    go_wp2_with fail
    refine (iTilingFirst_ret _ _ _ _ _ xs _ HM.out (by omega) A4.out).mono ?_; rintro e w5 ⟨a5, cap5, rfl, ho5, hb5⟩
    rw [ZhF.out] at ho5 ⊢
    simp only at ho5 ⊢
    rw [← Zhf.out] at ho5 ⊢
    have b5 := below_seq b4 hb5
    have pr5 := heap_later pr4 hb5
    have A5 := Lib.hid (A4.out.below hb5)
    have I5 := Lib.hid (I4.out.below hb5)
    have J5 := Lib.hid (J4.out.below hb5)
    have X5 := Lib.hid (X4.out.below hb5)
    have F5 := Lib.hid (OwnsI.at ho5)
    clear cr40 cr41 cr42 lr4
    obtain ⟨cr50, cr51, cr52⟩ := cells3 pr5
    have lr5 := heap_lt pr5
    clear ho5
    go_wp2_with fail
    have prd5 : w5.drew.heap[w1.heap.size]? = some (.cells #[.int .i64 W0, .int .i64 T0, .slice a m c] 25 (0, 0)) := pr5
    have Ad5 : Hid (BoolsAt w5.drew a xs) := A5
    have Id5 : Hid (IntsAt w5.drew la L) := I5
    have Jd5 : Hid (IntsAt w5.drew lb M) := J5
    have Xd5 : Hid (IntsAt w5.drew a4 X) := X5
    have Fd5 : Hid (IntsAt w5.drew a5 F1) := F5
    have bd5 : Below w.heap.size w w5.drew := below_seq b5 (drew_below _)
    go_region_held3 (fun w' => w'.cell? ⟨w1.heap.size, 0, none⟩ = some (.int .i64 W0) ∧ w'.cell? ⟨w1.heap.size, 1, none⟩ = some (.int .i64 T0) ∧ w'.cell? ⟨w1.heap.size, 2, none⟩ = some (.slice a m c))
      (go_keep)
      (first
        | (go_at_call 46; refine (iApart_ret _ _ _ _ _ xs _ _ _ F1 _ _ _ M G HB0 _ HM.out (by omega) Zhf.out (by omega) HR.out (by omega) A10.out F10.out J10.out ZhG.out HBH.out).mono ?_; rintro e w11 ⟨rfl, hb11⟩; rw [Zq7.out]; have b11 := below_seq b10 hb11; have pr11 := heap_later pr10 hb11; have A11 := Lib.hid (A10.out.below hb11); have I11 := Lib.hid (I10.out.below hb11); have J11 := Lib.hid (J10.out.below hb11); have X11 := Lib.hid (X10.out.below hb11); have F11 := Lib.hid (F10.out.below hb11); obtain ⟨cr110, cr111, cr112⟩ := cells3 pr11; have lr11 := heap_lt pr11)
        | (go_at_call 46; refine (iApart_ret _ _ _ _ _ xs _ _ _ L _ _ _ F1 HA0 G _ HM.out (by omega) HQ.out (by omega) Zhf.out (by omega) A9.out I9.out F9.out HA.out ZhG.out).mono ?_; rintro e w10 ⟨rfl, hb10⟩; rw [Zq6.out]; have b10 := below_seq b9 hb10; have pr10 := heap_later pr9 hb10; have A10 := Lib.hid (A9.out.below hb10); have I10 := Lib.hid (I9.out.below hb10); have J10 := Lib.hid (J9.out.below hb10); have X10 := Lib.hid (X9.out.below hb10); have F10 := Lib.hid (F9.out.below hb10); obtain ⟨cr100, cr101, cr102⟩ := cells3 pr10; have lr10 := heap_lt pr10)
        | (go_at_call 16; refine (sameInts_any _ _ _ _ _ L M _ HQ.out HLM.out (by omega) I8.out J8.out).mono ?_; rintro e w9 ⟨rfl, hb9⟩; rw [Zq10.out]; have b9 := below_seq b8 hb9; have pr9 := heap_later pr8 hb9; have A9 := Lib.hid (A8.out.below hb9); have I9 := Lib.hid (I8.out.below hb9); have J9 := Lib.hid (J8.out.below hb9); have X9 := Lib.hid (X8.out.below hb9); have F9 := Lib.hid (F8.out.below hb9); obtain ⟨cr90, cr91, cr92⟩ := cells3 pr9; have lr9 := heap_lt pr9)
        | (go_at_call 46; refine (iApart_ret _ _ _ _ _ xs _ _ _ X _ _ _ M DD HB0 _ HM.out (by omega) Zhx.out (by omega) HR.out (by omega) A7.out X7.out J7.out Zhhx.out HBH.out).mono ?_; rintro e w8 ⟨rfl, hb8⟩; rw [Zq4.out]; have b8 := below_seq b7 hb8; have pr8 := heap_later pr7 hb8; have A8 := Lib.hid (A7.out.below hb8); have I8 := Lib.hid (I7.out.below hb8); have J8 := Lib.hid (J7.out.below hb8); have X8 := Lib.hid (X7.out.below hb8); have F8 := Lib.hid (F7.out.below hb8); obtain ⟨cr80, cr81, cr82⟩ := cells3 pr8; have lr8 := heap_lt pr8)
        | (go_at_call 46; refine (iApart_ret _ _ _ _ _ xs _ _ _ L _ _ _ X HA0 DD _ HM.out (by omega) HQ.out (by omega) Zhx.out (by omega) A6.out I6.out X6.out HA.out Zhhx.out).mono ?_; rintro e w7 ⟨rfl, hb7⟩; rw [Zq3.out]; have b7 := below_seq b6 hb7; have pr7 := heap_later pr6 hb7; have A7 := Lib.hid (A6.out.below hb7); have I7 := Lib.hid (I6.out.below hb7); have J7 := Lib.hid (J6.out.below hb7); have X7 := Lib.hid (X6.out.below hb7); have F7 := Lib.hid (F6.out.below hb7); obtain ⟨cr70, cr71, cr72⟩ := cells3 pr7; have lr7 := heap_lt pr7)
        | (go_at_call 46; refine (iApart_ret _ _ _ _ _ xs _ _ _ M _ _ _ L HB0 HA0 _ HM.out (by omega) HR.out (by omega) HQ.out (by omega) Ad5.out Jd5.out Id5.out HBH.out HA.out).mono ?_; rintro e w6 ⟨rfl, hb6⟩; rw [Zq2.out]; have b6 := below_seq bd5 hb6; have pr6 := heap_later prd5 hb6; have A6 := Lib.hid (Ad5.out.below hb6); have I6 := Lib.hid (Id5.out.below hb6); have J6 := Lib.hid (Jd5.out.below hb6); have X6 := Lib.hid (Xd5.out.below hb6); have F6 := Lib.hid (Fd5.out.below hb6); obtain ⟨cr60, cr61, cr62⟩ := cells3 pr6; have lr6 := heap_lt pr6))
    go_wp2
    go_ret
    exact ⟨rfl, b11⟩

end Go.Proofs.Ytknigcjpgkolgaa
