/- Contract of spec.l20Two: a region, which is often simple, and two tilings of it are drawn. -/
import Derived.Test.YtpcajacekmidbaaGreatKLaid20
import Derived.Test.YtpcajacekmidbaaGreatKTilS
namespace Go.Proofs.YtpcajacekmidbaaGreat
open Go.RowKit
set_option linter.unusedVariables false
set_option maxRecDepth 100000
set_option linter.unusedSimpArgs false

def fiveT : Obj := .cells #[.int .i64 2, .int .i64 3, .int .i64 4, .int .i64 4, .int .i64 5] 3 (0, 0)
def twoT : Obj := .cells #[.int .i64 2, .int .i64 4] 3 (0, 0)
def BoxInT (N : Nat) (w : World) (v : Value) : Prop := ∃ (W T : Int) (a : Option Addr) (m c : Nat) (xs : List Bool), v = .agg #[.int .i64 W, .int .i64 T, .slice a m c] ∧ m = xs.length ∧ m ≤ 24 ∧ (0 ≤ W ∧ W ≤ 6 ∧ 0 ≤ T ∧ T ≤ 6) ∧ OwnsB w (N + 1) (.slice a m c) xs
def BoxAtT (N : Nat) (w : World) : Prop := ∃ (W T : Int) (a : Option Addr) (m c : Nat) (xs : List Bool), w.heap[N]? = some (.cells #[.int .i64 W, .int .i64 T, .slice a m c] 25 (0, 0)) ∧ m = xs.length ∧ m ≤ 24 ∧ (0 ≤ W ∧ W ≤ 6 ∧ 0 ≤ T ∧ T ≤ 6) ∧ OwnsB w (N + 1) (.slice a m c) xs
theorem BoxInT.kept {N : Nat} {w w' : World} {v : Value} {rb : Nat} (h : BoxInT N w v) (lr : rb < N) (hg : w.grownBy w' (some rb)) : BoxInT N w' v := by
 obtain ⟨W, T, a, m, c, xs, h1, h2, h3, h4, h5⟩ := h
 exact ⟨W, T, a, m, c, xs, h1, h2, h3, h4, OwnsB.keptBy h5 hg (fun k e => by have := Option.some.inj e; omega)⟩
theorem BoxAtT.kept {N : Nat} {w w' : World} {rb : Nat} (h : BoxAtT N w) (lr : rb < N) (hg : w.grownBy w' (some rb)) : BoxAtT N w' := by
 obtain ⟨W, T, a, m, c, xs, h1, h2, h3, h4, h5⟩ := h
 exact ⟨W, T, a, m, c, xs, heap_grown h1 hg (by intro e; have := Option.some.inj e; omega), h2, h3, h4, OwnsB.keptBy h5 hg (fun k e => by have := Option.some.inj e; omega)⟩
structure BoxT (rb P : Nat) (w0 : World) (N : Nat) (o0 : Obj) (b0 b1 b2 b3 b4 b5 b6 b7 b8 b9 b10 b11 : Bool) (v9 v10 v11 v12 v13 v14 v15 v16 v17 v18 v19 : Value) (w : World) : Prop where
 rd : RD w rb (P + b2.toNat + b7.toNat)
 gr : w0.grownBy w (some rb)
 lt : N + 1 ≤ w.heap.size
 cur : b11 = false → w.heap[N]? = some o0
 f0 : b0 = true → ∃ g, N < g ∧ v9 = .slice (some ⟨g, 0, none⟩) 5 5 ∧ w.heap[g]? = some fiveT
 f1 : b1 = true → v10 = .pointer (some ⟨rb, 0, none⟩)
 f2 : b2 = true → ∃ x : Nat, x < 5 ∧ v11 = .int .i64 x
 f3 : b3 = true → ∃ g x, N < g ∧ x < 5 ∧ v12 = .pointer (some ⟨g, x, none⟩) ∧ w.heap[g]? = some fiveT
 f4 : b4 = true → ∃ p : Int, 0 ≤ p ∧ p ≤ 6 ∧ v13 = .int .i64 p
 f5 : b5 = true → ∃ g, N < g ∧ v14 = .slice (some ⟨g, 0, none⟩) 2 2 ∧ w.heap[g]? = some twoT
 f6 : b6 = true → v15 = .pointer (some ⟨rb, 0, none⟩)
 f7 : b7 = true → ∃ x : Nat, x < 2 ∧ v16 = .int .i64 x
 f8 : b8 = true → ∃ g x, N < g ∧ x < 2 ∧ v17 = .pointer (some ⟨g, x, none⟩) ∧ w.heap[g]? = some twoT
 f9 : b9 = true → ∃ p : Int, 0 ≤ p ∧ p ≤ 6 ∧ v18 = .int .i64 p
 f10 : b10 = true → BoxInT N w v19
 f11 : b11 = true → BoxAtT N w
 zq : w.heap[w0.heap.size]? = some (.cells #[.int .i64 0, .int .i64 0, .slice none 0 0] 25 (0, 0))
theorem BoxT.kept {rb P N : Nat} {w0 w w' : World} {o0 : Obj} {b0 b1 b2 b3 b4 b5 b6 b7 b8 b9 b10 b11 : Bool} {v9 v10 v11 v12 v13 v14 v15 v16 v17 v18 v19 : Value} {b2' b7' : Bool} {v11' v16' : Value}
 (h : BoxT rb P w0 N o0 b0 b1 b2 b3 b4 b5 b6 b7 b8 b9 b10 b11 v9 v10 v11 v12 v13 v14 v15 v16 v17 v18 v19 w) (lr : rb < N) (lz : rb < w0.heap.size) (hg : w.grownBy w' (some rb)) (hr : RD w' rb (P + b2'.toNat + b7'.toNat))
 (f2 : b2' = true → ∃ x : Nat, x < 5 ∧ v11' = .int .i64 x) (f7 : b7' = true → ∃ x : Nat, x < 2 ∧ v16' = .int .i64 x) :
 BoxT rb P w0 N o0 b0 b1 b2' b3 b4 b5 b6 b7' b8 b9 b10 b11 v9 v10 v11' v12 v13 v14 v15 v16' v17 v18 v19 w' := by
 have k : ∀ g o, N ≤ g → w.heap[g]? = some o → w'.heap[g]? = some o := fun g o h1 h2 => heap_grown h2 hg (by intro e; have := Option.some.inj e; omega)
 refine ⟨hr, grown_seq' h.gr hg, Nat.le_trans h.lt hg.size, fun e => k _ _ (Nat.le_refl _) (h.cur e), fun e => ?_, h.f1, f2, fun e => ?_, h.f4, fun e => ?_, h.f6, f7, fun e => ?_, h.f9, fun e => (h.f10 e).kept lr hg, fun e => (h.f11 e).kept lr hg, heap_grown h.zq hg (by intro e; have := Option.some.inj e; omega)⟩
 · obtain ⟨g, h1, h2, h3⟩ := h.f0 e; exact ⟨g, h1, h2, k _ _ (by omega) h3⟩
 · obtain ⟨g, x, h1, h2, h3, h4⟩ := h.f3 e; exact ⟨g, x, h1, h2, h3, k _ _ (by omega) h4⟩
 · obtain ⟨g, h1, h2, h3⟩ := h.f5 e; exact ⟨g, h1, h2, k _ _ (by omega) h3⟩
 · obtain ⟨g, x, h1, h2, h3, h4⟩ := h.f8 e; exact ⟨g, x, h1, h2, h3, k _ _ (by omega) h4⟩
def IT (rb P : Nat) (w0 : World) (N : Nat) (o0 : Obj) (p1 p2 p3 p4 p6 p7 p8 p9 p10 p11 p12 p13 p14 p15 p16 p17 p18 p19 p20 p32 p33 p34 p35 p36 p37 p38 p39 p40 p41 p42 p43 p44 p45 p46 p47 p48 p49 p50 p51 p52 p53 p54 p55 p56 p57 p58 p59 p60 p61 p62 p63 p64 : Value) (d : Array Bool) (a : Act) (w : World) : Prop :=
 ∃ (b0 b1 b2 b3 b4 b5 b6 b7 b8 b9 b10 b11 : Bool) (v9 v10 v11 v12 v13 v14 v15 v16 v17 v18 v19 : Value), d = #[b0, b1, b2, b3, b4, b5, b6, b7, b8, b9, b10, b11] ∧
  a = { tmps := #[.pointer (some ⟨rb, 0, none⟩), p1, p2, p3, p4, .pointer (some ⟨N, 0, none⟩), p6, p7, p8, p9, p10, p11, p12, p13, p14, p15, p16, p17, p18, p19, p20, v9, v10, v11, v12, v13, v14, v15, v16, v17, v18, v19, p32, p33, p34, p35, p36, p37, p38, p39, p40, p41, p42, p43, p44, p45, p46, p47, p48, p49, p50, p51, p52, p53, p54, p55, p56, p57, p58, p59, p60, p61, p62, p63, p64], defers := [] } ∧
  BoxT rb P w0 N o0 b0 b1 b2 b3 b4 b5 b6 b7 b8 b9 b10 b11 v9 v10 v11 v12 v13 v14 v15 v16 v17 v18 v19 w
theorem storedT {rb P N : Nat} {w0 w : World} {b0 b1 b2 b3 b4 b5 b6 b7 b8 b9 b10 b11 : Bool} {v9 v10 v11 v12 v13 v14 v15 v16 v17 v18 v19 : Value} {W T W1 T1 : Int} {a1 : Option Addr} {n1 c1 : Nat} {a : Option Addr} {m c : Nat} {xs : List Bool}
 (h : BoxT rb P w0 N (.cells #[.int .i64 W1, .int .i64 T1, .slice a1 n1 c1] 25 (0, 0)) b0 b1 b2 b3 b4 b5 b6 b7 b8 b9 b10 b11 v9 v10 v11 v12 v13 v14 v15 v16 v17 v18 v19 w) (lr : rb < N) (ly : w0.heap.size < N) (hcur : w.heap[N]? = some (.cells #[.int .i64 W1, .int .i64 T1, .slice a1 n1 c1] 25 (0, 0)))
 (hm : m = xs.length) (h24 : m ≤ 24) (hbd : 0 ≤ W ∧ W ≤ 6 ∧ 0 ≤ T ∧ T ≤ 6) (ho : OwnsB w (N + 1) (.slice a m c) xs) :
 BoxT rb P w0 N (.cells #[.int .i64 W1, .int .i64 T1, .slice a1 n1 c1] 25 (0, 0)) b0 b1 b2 b3 b4 b5 b6 b7 b8 b9 b10 true v9 v10 v11 v12 v13 v14 v15 v16 v17 v18 v19 (((w.setCell ⟨N, 0, none⟩ (.int .i64 W)).setCell ⟨N, 1, none⟩ (.int .i64 T)).setCell ⟨N, 2, none⟩ (.slice a m c)) := by
 have k : ∀ g o, N < g → w.heap[g]? = some o → (((w.setCell ⟨N, 0, none⟩ (.int .i64 W)).setCell ⟨N, 1, none⟩ (.int .i64 T)).setCell ⟨N, 2, none⟩ (.slice a m c)).heap[g]? = some o := fun g o h1 h2 => heap_set3_other h2 (by omega) _ _ _
 refine ⟨((h.rd.setFar lr _).setFar lr _).setFar lr _, grown_far (grown_far (grown_far h.gr (Nat.le_of_lt ly) _) (Nat.le_of_lt ly) _) (Nat.le_of_lt ly) _, by simpa using h.lt, (fun e => nomatch e), fun e => ?_, h.f1, h.f2, fun e => ?_, h.f4, fun e => ?_, h.f6, h.f7, fun e => ?_, h.f9, fun e => ?_, fun _ => ⟨W, T, a, m, c, xs, set3_block hcur, hm, h24, hbd, ho.set3 (by omega) _ _ _⟩, heap_set3_other h.zq (by omega) _ _ _⟩
 · obtain ⟨g, h1, h2, h3⟩ := h.f0 e; exact ⟨g, h1, h2, k _ _ h1 h3⟩
 · obtain ⟨g, x, h1, h2, h3, h4⟩ := h.f3 e; exact ⟨g, x, h1, h2, h3, k _ _ h1 h4⟩
 · obtain ⟨g, h1, h2, h3⟩ := h.f5 e; exact ⟨g, h1, h2, k _ _ h1 h3⟩
 · obtain ⟨g, x, h1, h2, h3, h4⟩ := h.f8 e; exact ⟨g, x, h1, h2, h3, k _ _ h1 h4⟩
 · obtain ⟨W', T', a', m', c', xs', h1, h2, h3, h4, h5⟩ := h.f10 e
   exact ⟨W', T', a', m', c', xs', h1, h2, h3, h4, h5.set3 (by omega) _ _ _⟩
theorem five_atT {w : World} {g x : Nat} (h : w.heap[g]? = some fiveT) (hx : x < 5) : ∃ p : Int, 0 ≤ p ∧ p ≤ 6 ∧ w.cell? ⟨g, x, none⟩ = some (.int .i64 p) := by
 unfold fiveT at h
 have hx4 : x = 0 ∨ x = 1 ∨ x = 2 ∨ x = 3 ∨ x = 4 := by omega
 rcases hx4 with rfl | rfl | rfl | rfl | rfl
 · exact ⟨2, by omega, by omega, by simp [World.cell?, h]⟩
 · exact ⟨3, by omega, by omega, by simp [World.cell?, h]⟩
 · exact ⟨4, by omega, by omega, by simp [World.cell?, h]⟩
 · exact ⟨4, by omega, by omega, by simp [World.cell?, h]⟩
 · exact ⟨5, by omega, by omega, by simp [World.cell?, h]⟩
theorem two_at {w : World} {g x : Nat} (h : w.heap[g]? = some twoT) (hx : x < 2) : ∃ p : Int, 0 ≤ p ∧ p ≤ 6 ∧ w.cell? ⟨g, x, none⟩ = some (.int .i64 p) := by
 unfold twoT at h
 have hx4 : x = 0 ∨ x = 1 := by omega
 rcases hx4 with rfl | rfl
 · exact ⟨2, by omega, by omega, by simp [World.cell?, h]⟩
 · exact ⟨4, by omega, by omega, by simp [World.cell?, h]⟩
structure TwoS (rb : Nat) (w : World) (N Pk : Nat) (wx : World) : Prop where
 p : ∃ (W T : Int) (a : Option Addr) (n c : Nat) (xs : List Bool), wx.heap[N]? = some (.cells #[.int .i64 W, .int .i64 T, .slice a n c] 25 (0, 0)) ∧ n = xs.length ∧ n ≤ 36 ∧ (0 ≤ W ∧ W ≤ 6 ∧ 0 ≤ T ∧ T ≤ 6) ∧ OwnsB wx (w.heap.size + 1) (.slice a n c) xs
 q : wx.heap[w.heap.size]? = some (.cells #[.int .i64 0, .int .i64 0, .slice none 0 0] 25 (0, 0))
 r : RD wx rb Pk
 g : w.grownBy wx (some rb)
 z : N + 1 ≤ wx.heap.size
 y : w.heap.size < N
def IsL (N : Nat) (v : Value) (wx : World) : Prop := ∃ (la : Option Addr) (m lcap : Nat) (L : List Int), v = .slice la m lcap ∧ m = L.length ∧ m ≤ 36 ∧ OwnsI wx (N + 1) v L
section
variable {rb N Pk : Nat} {w w1 w2 : World} {v : Value}
theorem TwoS.below (h : TwoS rb w N Pk w1) (lr : rb < w.heap.size) (hb : Below w1.heap.size w1 w2) : TwoS rb w N Pk w2 := by
 obtain ⟨W, T, a, n, c, xs, h1, h2, h3, h4, h5⟩ := h.p
 exact ⟨⟨W, T, a, n, c, xs, heap_later h1 hb, h2, h3, h4, h5.below hb⟩, heap_later h.q hb, h.r.below hb, grown_seq' h.g (grown_of_below' hb (some rb)), Nat.le_trans h.z hb.size, h.y⟩
theorem TwoS.pick {Pk' : Nat} (h : TwoS rb w N Pk w1) (lr : rb < w.heap.size) (hg : w1.grownBy w2 (some rb)) (hr : RD w2 rb Pk') : TwoS rb w N Pk' w2 := by
 have hy := h.y
 obtain ⟨W, T, a, n, c, xs, h1, h2, h3, h4, h5⟩ := h.p
 exact ⟨⟨W, T, a, n, c, xs, heap_grown h1 hg (by intro e; have := Option.some.inj e; omega), h2, h3, h4, OwnsB.keptBy h5 hg (fun k e => by have := Option.some.inj e; omega)⟩, heap_grown h.q hg (by intro e; have := Option.some.inj e; omega), hr, grown_seq' h.g hg, Nat.le_trans h.z hg.size, hy⟩
theorem TwoS.mono {Pk' : Nat} (h : TwoS rb w N Pk w1) (hP : Pk ≤ Pk') : TwoS rb w N Pk' w1 := ⟨h.p, h.q, h.r.mono hP, h.g, h.z, h.y⟩
theorem TwoS.put (h : TwoS rb w N Pk w1) (lr : rb < w.heap.size) {W T : Int} {a : Option Addr} {n c B : Nat} {xs : List Bool} (hn : n = xs.length) (h36 : n ≤ 36) (hs : 0 ≤ W ∧ W ≤ 6 ∧ 0 ≤ T ∧ T ≤ 6) (ho : OwnsB w1 B (.slice a n c) xs) (hB : N < B) :
 TwoS rb w N Pk (((w1.setCell ⟨N, 0, none⟩ (.int .i64 W)).setCell ⟨N, 1, none⟩ (.int .i64 T)).setCell ⟨N, 2, none⟩ (.slice a n c)) := by
 have hy := h.y
 obtain ⟨_, _, _, _, _, _, h1, _⟩ := h.p
 exact ⟨⟨W, T, a, n, c, xs, set3_block h1, hn, h36, hs, (ho.set3 hB _ _ _).lower (by omega)⟩, heap_set3_other h.q (by omega) _ _ _, ((h.r.setFar (by omega) _).setFar (by omega) _).setFar (by omega) _, grown_far (grown_far (grown_far h.g (by omega) _) (by omega) _) (by omega) _, by simpa using h.z, hy⟩
theorem IsL.below (h : IsL N v w1) (hb : Below w1.heap.size w1 w2) : IsL N v w2 := by
 obtain ⟨la, m, lcap, L, h1, h2, h3, h4⟩ := h
 exact ⟨la, m, lcap, L, h1, h2, h3, h4.below hb⟩
theorem IsL.pick (h : IsL N v w1) (hr : rb < N) (hg : w1.grownBy w2 (some rb)) : IsL N v w2 := by
 obtain ⟨la, m, lcap, L, h1, h2, h3, h4⟩ := h
 exact ⟨la, m, lcap, L, h1, h2, h3, OwnsI.keptBy h4 hg (fun k e => by have := Option.some.inj e; omega)⟩
theorem IsL.set3 (h : IsL N v w1) {b : Nat} (hb : b ≤ N) (x y z : Value) : IsL N v (((w1.setCell ⟨b, 0, none⟩ x).setCell ⟨b, 1, none⟩ y).setCell ⟨b, 2, none⟩ z) := by
 obtain ⟨la, m, lcap, L, h1, h2, h3, h4⟩ := h
 exact ⟨la, m, lcap, L, h1, h2, h3, ((h4.setBelow (p := ⟨b, 0, none⟩) (by simp; omega) _).setBelow (p := ⟨b, 1, none⟩) (by simp; omega) _).setBelow (p := ⟨b, 2, none⟩) (by simp; omega) _⟩
end
def DrawnTwo (rb P : Nat) (w : World) (e : Ending) (w' : World) : Prop :=
 ∃ (W T : Int) (a : Option Addr) (n cap : Nat) (xs : List Bool) (la : Option Addr) (m lcap : Nat) (L : List Int) (lb : Option Addr) (q bcap : Nat) (M : List Int), e = .returned (.tuple #[.agg #[.int .i64 W, .int .i64 T, .slice a n cap], .slice la m lcap, .slice lb q bcap]) ∧
  n = xs.length ∧ n ≤ 36 ∧ (0 ≤ W ∧ W ≤ 6 ∧ 0 ≤ T ∧ T ≤ 6) ∧ OwnsB w' w.heap.size (.slice a n cap) xs ∧ m = L.length ∧ m ≤ 36 ∧ OwnsI w' w.heap.size (.slice la m lcap) L ∧ q = M.length ∧ q ≤ 36 ∧ OwnsI w' w.heap.size (.slice lb q bcap) M ∧ RD w' rb (P + 600) ∧ w.grownBy w' (some rb)
theorem max_one (D : Int) (hD : -1 ≤ D) (h : D ≤ 100000000000) : ∃ E : Int, (if D < 1 then (1 : Int) else D) = E ∧ (if (1 : Int) < D then D else (1 : Int)) = E ∧ 1 ≤ E ∧ E ≤ 100000000000 := by
 by_cases hc : D < 1
 · exact ⟨1, if_pos hc, if_neg (by omega), by omega, by omega⟩
 · refine ⟨D, if_neg hc, ?_, by omega, h⟩
   by_cases h2 : (1 : Int) < D
   · exact if_pos h2
   · rw [if_neg h2]; omega
theorem tilT_bd {W T : Int} {xs : List Bool} (h : xs.length ≤ 36) : -1 ≤ tilT W T xs ∧ tilT W T xs ≤ 100000000000 := by
 unfold tilT
 split
 · have := dpT_le (W := W) (T := T) h
   omega
 · omega
theorem rem_small {E : Int} (hE : 1 ≤ E) (x : Nat) (hx : x < 256) : ∃ V : Int, (x : Int).tmod E = V ∧ (x : Int) % E = V ∧ IntKind.i64.wrap ((x : Int).tmod E) = V ∧ IntKind.i64.wrap ((x : Int) % E) = V ∧ IntKind.i64.wrap V = V ∧ 0 ≤ V ∧ V ≤ 255 := by
 have e1 : (x : Int).tmod E = (x : Int) % E := Int.tmod_eq_emod_of_nonneg (by omega)
 have h0 := Int.emod_nonneg (x : Int) (show E ≠ 0 by omega)
 have h1 : (x : Int) % E ≤ x := by
  rcases Int.lt_or_le (x : Int) E with h | h
  · rw [Int.emod_eq_of_lt (by omega) h]; exact Int.le_refl _
  · have := Int.emod_lt_of_pos (x : Int) (show 0 < E by omega); omega
 have hw : IntKind.i64.wrap ((x : Int) % E) = (x : Int) % E := IntWalk.i64_in _ (by omega)
 exact ⟨(x : Int) % E, e1, rfl, by rw [e1]; exact hw, hw, hw, h0, by omega⟩
set_option maxHeartbeats 4000000 in
theorem l20Two_any (rb P : Nat) (w : World) (hP : P ≤ 100) (h : RD w rb P) :
 Calls Tryz.prog 26 #[.pointer (some ⟨rb, 0, none⟩)] w (DrawnTwo rb P w) := by
 have lr := h.lt
 have H := Lib.hid h; clear h
 go_enter Tryz.func26, Tryz.ntmps26
 go_wp2_with fail
 refine (l20Some_any rb P 16 _ (by omega) (by omega) (by omega) (H.out.below (below1 _ _))).mono ?_; rintro e w2 ⟨W, T, a, n, c, xs, rfl, hm, h36, hs, o2, r2, g2⟩
 have q2 := heap_grown (heap_new w (.cells #[.int .i64 0, .int .i64 0, .slice none 0 0] 25)) g2 (by intro e; have := Option.some.inj e; omega)
 have G2 := Lib.hid (grown_seq' (World.grownBy_alloc w _ _) g2)
 have O2 := Lib.hid (show OwnsB w2 (w.heap.size + 1) (.slice a n c) xs from by simpa using o2)
 have R2 := Lib.hid r2
 have lq := heap_lt q2
 clear o2 r2 g2 H
 obtain ⟨wB, hwB⟩ : ∃ wB, wB = w2.alloc (.cells #[.int .i64 W, .int .i64 T, .slice a n c] 25) := ⟨_, rfl⟩
 have LB : Hid (TwoS rb w w2.heap.size (P + 300) wB) := by
  rw [hwB]
  exact ⟨⟨W, T, a, n, c, xs, heap_new _ _, hm, h36, hs, O2.out.alloc _⟩, heap_later q2 (below1 _ _), R2.out.below (below1 _ _) |>.mono (by omega), grown_seq' G2.out (World.grownBy_alloc _ _ _), by simp, lq⟩
 have pB : wB.heap[w2.heap.size]? = some (.cells #[.int .i64 W, .int .i64 T, .slice a n c] 25 (0, 0)) := by rw [hwB]; exact heap_new _ _
 have AB : Hid (BoolsAt wB a xs) := by rw [hwB]; exact OwnsB.at (O2.out.alloc _)
 obtain ⟨N, hN⟩ : ∃ N, N = w2.heap.size := ⟨_, rfl⟩
 rw [← hN] at LB pB
 have HM := Lib.hid hm; clear hm
 clear q2 G2 R2 O2
 obtain ⟨c0, c1, c2⟩ := cells3 pB
 go_upto_region 2 with fail
 rw [← hwB, ← hN]
 clear hwB hN
 go_cut [20] (fun v20 wx => ∃ b : Bool, v20 = .bool b ∧ TwoS rb w N (P + 300) wx)
 case first =>
  go_wp2_with fail
  refine (sSimple_any _ _ _ _ _ xs _ HM.out (by omega) AB.out).mono ?_; rintro e w3 ⟨rfl, hb3⟩
  obtain ⟨B, hB⟩ : ∃ B, simpleB W T xs = B := ⟨_, rfl⟩
  rw [hB]
  clear hB
  have S3 := Lib.hid (LB.out.below lr hb3)
  cases B
  · go_wp2
    go_meet
    exact ⟨_, rfl, S3.out⟩
  · have p3 := heap_later pB hb3
    have A3 := Lib.hid (AB.out.below hb3)
    clear hb3 LB pB AB c0 c1 c2
    obtain ⟨c0, c1, c2⟩ := cells3 p3
    go_wp2_with fail
    refine (sTilingsMany_any _ _ _ _ _ xs _ HM.out (by omega) A3.out).mono ?_; rintro e w4 ⟨rfl, hb4⟩
    go_wp2
    go_meet
    exact ⟨_, rfl, S3.out.below lr hb4⟩
 case rest =>
 clear LB pB AB c0 c1 c2
 obtain ⟨b4, rfl, s4⟩ := hcut
 rename_i w4
 have S4 := Lib.hid s4; clear s4
 go_upto_if 20 with fail
 go_cut [] (fun wx => TwoS rb w N (P + 302) wx)
 case first =>
  rename World => w4
  cases b4
  · go_wp2
    go_meet
    exact S4.out.mono (by omega)
  · obtain ⟨W1, T1, a1, n1, c1, xs1, q1, hm1, h361, hs1, ho1⟩ := S4.out.p
    have lrN : rb < N := by have := S4.out.y; omega
    have ly : w.heap.size < N := S4.out.y
    have R1 := Lib.hid S4.out.r
    have hq0 := S4.out.q
    go_wp2
    refine cut_region (fun a0 a' w' => (∃ (v9 v10 v11 v12 v13 v14 v15 v16 v17 v18 v19 : Value), a' = { tmps := #[.pointer (some ⟨rb, 0, none⟩), undef, .pointer (some ⟨w.heap.size, 0, none⟩), .slice none 0 0, .slice none 0 0, .pointer (some ⟨N, 0, none⟩), undef, undef, undef, undef, undef, u11, u12, u13, u14, u15, u16, u17, u18, u19, .bool true, v9, v10, v11, v12, v13, v14, v15, v16, v17, v18, v19, u32, u33, u34, u35, u36, u37, u38, u39, u40, u41, u42, u43, u44, u45, u46, u47, u48, u49, u50, u51, u52, u53, u54, u55, u56, u57, u58, u59, u60, u61, u62, u63, u64], defers := [] }) ∧ BoxAtT N w' ∧ RD w' rb (P + 300 + 2) ∧ w.grownBy w' (some rb) ∧ w'.heap[w.heap.size]? = some (.cells #[.int .i64 0, .int .i64 0, .slice none 0 0] 25 (0, 0)) ∧ N + 1 ≤ w'.heap.size) ?_ ?_
    · refine wp_region_inv (IT rb (P + 300) w N (.cells #[.int .i64 W1, .int .i64 T1, .slice a1 n1 c1] 25 (0, 0)) undef (.pointer (some ⟨w.heap.size, 0, none⟩)) (.slice none 0 0) (.slice none 0 0) undef undef undef undef undef u11 u12 u13 u14 u15 u16 u17 u18 u19 (.bool true) u32 u33 u34 u35 u36 u37 u38 u39 u40 u41 u42 u43 u44 u45 u46 u47 u48 u49 u50 u51 u52 u53 u54 u55 u56 u57 u58 u59 u60 u61 u62 u63 u64) (by kernel_rfl) (by kernel_rfl) ?_ ?_ ?_ ?_
      · rintro d a w' ⟨b0, b1, b2, b3, b4, b5, b6, b7, b8, b9, b10, b11, v9, v10, v11, v12, v13, v14, v15, v16, v17, v18, v19, rfl, -, -⟩
        exact Nat.le_refl _
      · refine ⟨false, false, false, false, false, false, false, false, false, false, false, false, u21, u22, u23, u24, u25, u26, u27, u28, u29, u30, u31, rfl, rfl, ?_⟩
        exact ⟨R1.out, grown_seq' S4.out.g (grown_drewN w4 1 _), S4.out.z, fun _ => q1, (fun e => nomatch e), (fun e => nomatch e), (fun e => nomatch e), (fun e => nomatch e), (fun e => nomatch e), (fun e => nomatch e), (fun e => nomatch e), (fun e => nomatch e), (fun e => nomatch e), (fun e => nomatch e), (fun e => nomatch e), (fun e => nomatch e), hq0⟩
      · clear R1
        rintro d a w' i ⟨b0, b1, b2, b3, b4, b5, b6, b7, b8, b9, b10, b11, v9, v10, v11, v12, v13, v14, v15, v16, v17, v18, v19, rfl, rfl, hB⟩ hi
        have hlt : i < 12 := ready_lt hi
        have hun := ready_undone hi
        have hc : i = 0 ∨ i = 1 ∨ i = 2 ∨ i = 3 ∨ i = 4 ∨ i = 5 ∨ i = 6 ∨ i = 7 ∨ i = 8 ∨ i = 9 ∨ i = 10 ∨ i = 11 := by omega
        clear hlt
        rcases hc with rfl | rfl | rfl | rfl | rfl | rfl | rfl | rfl | rfl | rfl | rfl | rfl
        · have e0 : b0 = false := hun
          subst e0
          clear hun hi
          have hk := fun o => BoxT.kept hB lrN lr (World.grownBy_alloc w' o (some rb)) (hB.rd.below (below1 w' o)) hB.f2 hB.f7
          refine wpOp_go rfl rfl (fun K hK => ?_)
          go_simp
          refine hK.out _ _ ⟨true, _, _, _, _, _, _, _, _, _, _, _, _, _, _, _, _, _, _, _, _, _, _, rfl, rfl, ?_⟩
          exact { (hk _) with f0 := fun _ => ⟨w'.heap.size, by have := hB.lt; omega, rfl, heap_new _ _⟩ }
        · have e1 : b1 = false := hun
          subst e1
          clear hun hi
          refine wpOp_go rfl rfl (fun K hK => ?_)
          go_simp
          refine hK.out _ _ ⟨_, true, _, _, _, _, _, _, _, _, _, _, _, _, _, _, _, _, _, _, _, _, _, rfl, rfl, ?_⟩
          exact { hB with f1 := fun _ => rfl }
        · have e2 : b2 = false := hun
          subst e2
          have e1 : b1 = true := ready_dep 1 hi (by kernel_rfl)
          subst e1
          clear hun hi
          obtain rfl := hB.f1 rfl
          refine wpOp_go rfl rfl (fun K hK => ?_)
          go_simp
          refine (pick_any rb _ 5 _ (by omega) (by omega) (show P + _ + _ ≤ 100000 from by cases b7 <;> simp <;> omega) hB.rd).mono ?_; rintro e w2 ⟨x, hx, rfl, r2, g2⟩
          refine hK.out _ _ ⟨_, _, true, _, _, _, _, _, _, _, _, _, _, _, _, _, _, _, _, _, _, _, _, rfl, rfl, ?_⟩
          exact BoxT.kept hB lrN lr g2 (r2.mono (by cases b7 <;> simp)) (fun _ => ⟨x, hx, rfl⟩) hB.f7
        · have e3 : b3 = false := hun
          subst e3
          have e0 : b0 = true := ready_dep 0 hi (by kernel_rfl)
          subst e0
          have e2 : b2 = true := ready_dep 2 hi (by kernel_rfl)
          subst e2
          clear hun hi
          obtain ⟨g, hg, rfl, hh⟩ := hB.f0 rfl
          obtain ⟨x, hx, rfl⟩ := hB.f2 rfl
          have hxi : (x : Int) < 5 := by omega
          refine wpOp_go rfl rfl (fun K hK => ?_)
          go_simp
          refine hK.out _ _ ⟨_, _, _, true, _, _, _, _, _, _, _, _, _, _, _, _, _, _, _, _, _, _, _, rfl, rfl, ?_⟩
          exact { hB with f3 := fun _ => ⟨g, x, hg, hx, rfl, hh⟩ }
        · have e4 : b4 = false := hun
          subst e4
          have e3 : b3 = true := ready_dep 3 hi (by kernel_rfl)
          subst e3
          clear hun hi
          obtain ⟨g, x, hg, hx, rfl, hh⟩ := hB.f3 rfl
          obtain ⟨p, hp0, hp1, hpc⟩ := five_atT hh hx
          refine wpOp_go rfl rfl (fun K hK => ?_)
          go_simp
          refine hK.out _ _ ⟨_, _, _, _, true, _, _, _, _, _, _, _, _, _, _, _, _, _, _, _, _, _, _, rfl, rfl, ?_⟩
          exact { hB with f4 := fun _ => ⟨p, hp0, hp1, rfl⟩ }
        · have e5 : b5 = false := hun
          subst e5
          clear hun hi
          have hk := fun o => BoxT.kept hB lrN lr (World.grownBy_alloc w' o (some rb)) (hB.rd.below (below1 w' o)) hB.f2 hB.f7
          refine wpOp_go rfl rfl (fun K hK => ?_)
          go_simp
          refine hK.out _ _ ⟨_, _, _, _, _, true, _, _, _, _, _, _, _, _, _, _, _, _, _, _, _, _, _, rfl, rfl, ?_⟩
          exact { (hk _) with f5 := fun _ => ⟨w'.heap.size, by have := hB.lt; omega, rfl, heap_new _ _⟩ }
        · have e6 : b6 = false := hun
          subst e6
          clear hun hi
          refine wpOp_go rfl rfl (fun K hK => ?_)
          go_simp
          refine hK.out _ _ ⟨_, _, _, _, _, _, true, _, _, _, _, _, _, _, _, _, _, _, _, _, _, _, _, rfl, rfl, ?_⟩
          exact { hB with f6 := fun _ => rfl }
        · have e7 : b7 = false := hun
          subst e7
          have e6 : b6 = true := ready_dep 6 hi (by kernel_rfl)
          subst e6
          clear hun hi
          obtain rfl := hB.f6 rfl
          refine wpOp_go rfl rfl (fun K hK => ?_)
          go_simp
          refine (pick_any rb _ 2 _ (by omega) (by omega) (show P + _ + _ ≤ 100000 from by cases b2 <;> simp <;> omega) hB.rd).mono ?_; rintro e w2 ⟨x, hx, rfl, r2, g2⟩
          refine hK.out _ _ ⟨_, _, _, _, _, _, _, true, _, _, _, _, _, _, _, _, _, _, _, _, _, _, _, rfl, rfl, ?_⟩
          exact BoxT.kept hB lrN lr g2 (r2.mono (by cases b2 <;> simp)) hB.f2 (fun _ => ⟨x, hx, rfl⟩)
        · have e8 : b8 = false := hun
          subst e8
          have e5 : b5 = true := ready_dep 5 hi (by kernel_rfl)
          subst e5
          have e7 : b7 = true := ready_dep 7 hi (by kernel_rfl)
          subst e7
          clear hun hi
          obtain ⟨g, hg, rfl, hh⟩ := hB.f5 rfl
          obtain ⟨x, hx, rfl⟩ := hB.f7 rfl
          have hxi : (x : Int) < 2 := by omega
          refine wpOp_go rfl rfl (fun K hK => ?_)
          go_simp
          refine hK.out _ _ ⟨_, _, _, _, _, _, _, _, true, _, _, _, _, _, _, _, _, _, _, _, _, _, _, rfl, rfl, ?_⟩
          exact { hB with f8 := fun _ => ⟨g, x, hg, hx, rfl, hh⟩ }
        · have e9 : b9 = false := hun
          subst e9
          have e8 : b8 = true := ready_dep 8 hi (by kernel_rfl)
          subst e8
          clear hun hi
          obtain ⟨g, x, hg, hx, rfl, hh⟩ := hB.f8 rfl
          obtain ⟨p, hp0, hp1, hpc⟩ := two_at hh hx
          refine wpOp_go rfl rfl (fun K hK => ?_)
          go_simp
          refine hK.out _ _ ⟨_, _, _, _, _, _, _, _, _, true, _, _, _, _, _, _, _, _, _, _, _, _, _, rfl, rfl, ?_⟩
          exact { hB with f9 := fun _ => ⟨p, hp0, hp1, rfl⟩ }
        · have e10 : b10 = false := hun
          subst e10
          have e4 : b4 = true := ready_dep 4 hi (by kernel_rfl)
          subst e4
          have e9 : b9 = true := ready_dep 9 hi (by kernel_rfl)
          subst e9
          clear hun hi
          obtain ⟨p, hp0, hp1, rfl⟩ := hB.f4 rfl
          obtain ⟨q, hq0, hq1, rfl⟩ := hB.f9 rfl
          refine wpOp_go rfl rfl (fun K hK => ?_)
          go_simp
          refine (sRegionBox_ret p q _).mono ?_; rintro e w2 ⟨a, cap, rfl, ho, hb2⟩
          refine hK.out _ _ ⟨_, _, _, _, _, _, _, _, _, _, true, _, _, _, _, _, _, _, _, _, _, _, _, rfl, rfl, ?_⟩
          have hbd := boxF_bd p q
          exact { (BoxT.kept hB lrN lr (grown_of_below' hb2 (some rb)) (hB.rd.below hb2) hB.f2 hB.f7) with f10 := fun _ => ⟨_, _, a, _, cap, _, rfl, rfl, boxF_len p q, ⟨hbd.1, hbd.2.1, hbd.2.2.1, hbd.2.2.2⟩, ho.lower hB.lt⟩ }
        · have e11 : b11 = false := hun
          subst e11
          have e10 : b10 = true := ready_dep 10 hi (by kernel_rfl)
          subst e10
          clear hun hi
          obtain ⟨W, T, a, m, c, xs, rfl, hm, h24, hbd, ho⟩ := hB.f10 rfl
          have HM := Lib.hid hm; clear hm
          have hcur := hB.cur rfl
          obtain ⟨d0, d1, d2⟩ := cells3 hcur
          have z0 := free3 hcur 0
          have z1 := free3 hcur 1
          have z2 := free3 hcur 2
          refine wpOp_go rfl rfl (fun K hK => ?_)
          go_simp
          refine hK.out _ _ ⟨_, _, _, _, _, _, _, _, _, _, _, true, _, _, _, _, _, _, _, _, _, _, _, rfl, rfl, ?_⟩
          exact storedT hB lrN ly hcur HM.out h24 hbd ho
      · rintro d a w' ⟨b0, b1, b2, b3, b4, b5, b6, b7, b8, b9, b10, b11, v9, v10, v11, v12, v13, v14, v15, v16, v17, v18, v19, rfl, rfl, hB⟩ hall
        have e11 : b11 = true := hall 11 (by decide)
        refine ⟨rfl, ⟨v9, v10, v11, v12, v13, v14, v15, v16, v17, v18, v19, rfl⟩, hB.f11 e11, hB.rd.mono (by cases b2 <;> cases b7 <;> simp), hB.gr, hB.zq, hB.lt⟩
    · rintro a' w5 ⟨⟨v9, v10, v11, v12, v13, v14, v15, v16, v17, v18, v19, rfl⟩, ⟨W5, T5, a5, m5, c5, xs5, hc5, hm5, h245, hbd5, ho5⟩, r5, g5, z5, y5⟩
      go_wp2
      go_meet
      exact ⟨⟨W5, T5, a5, m5, c5, xs5, hc5, hm5, by omega, hbd5, ho5.lower (by omega)⟩, z5, r5, g5, y5, S4.out.y⟩
 case rest =>
 rename World => w5
 clear S4
 have S5 := Lib.hid hcut; clear hcut
 obtain ⟨W5, T5, a5, n5, c5, xs5, p5, hm5, h365, hs5, ho5⟩ := S5.out.p
 have HM5 := Lib.hid hm5; clear hm5
 have A5 := Lib.hid ho5; clear ho5
 obtain ⟨c0, c1, c2⟩ := cells3 p5
 go_wp2_with fail
 refine (sTilingsMany_any _ _ _ _ _ xs5 _ HM5.out (by omega) (OwnsB.at A5.out)).mono ?_; rintro e w6 ⟨rfl, hb6⟩
 obtain ⟨D, hD⟩ : ∃ D, tilT W5 T5 xs5 = D := ⟨_, rfl⟩
 have hD0 : -1 ≤ D ∧ D ≤ 100000000000 := by rw [← hD]; exact tilT_bd (by have := HM5.out; omega)
 rw [hD]
 clear hD
 obtain ⟨E, hE1, hE2, hE3, hE4⟩ := max_one D hD0.1 hD0.2
 have hE0 : ¬ E = 0 := by omega
 have S6 := Lib.hid (S5.out.below lr hb6)
 have p6 := heap_later p5 hb6
 have A6 := Lib.hid (A5.out.below hb6)
 clear hb6 S5 p5 A5 c0 c1 c2
 obtain ⟨c0, c1, c2⟩ := cells3 p6
 have lrN : rb < N := by have := S6.out.y; omega
 go_upto_region 5 with fail
 go_cut [7] (fun v7 wx => IsL N v7 wx ∧ TwoS rb w N (P + 303) wx)
 case first =>
  have SD : Hid (TwoS rb w N (P + 302) w6.drew) := ⟨S6.out.p, S6.out.q, S6.out.r, grown_seq' S6.out.g (grown_drewN w6 1 _), S6.out.z, S6.out.y⟩
  have PD : w6.drew.heap[N]? = some _ := p6
  have AD : Hid (OwnsB w6.drew (w.heap.size + 1) (.slice a5 n5 c5) xs5) := A6
  go_region_held3 (fun w' => w'.cell? ⟨N, 0, none⟩ = some (.int .i64 W5) ∧ w'.cell? ⟨N, 1, none⟩ = some (.int .i64 T5) ∧ w'.cell? ⟨N, 2, none⟩ = some (.slice a5 n5 c5))
   (go_keep)
   (first
     | (go_at_call 53; refine (sTilingOf_ret _ _ _ _ _ xs5 _ _ HM5.out (by omega) (OwnsB.at A8.out)).mono ?_; rintro e w9 ⟨a9, cap9, rfl, ho9, hb9⟩; have S9 := Lib.hid (S8.out.below lr hb9); have p9 := heap_later p8 hb9; obtain ⟨c90, c91, c92⟩ := cells3 p9)
     | (go_at_call 52; refine (pick_any rb _ 256 _ (by omega) (by omega) (by omega) SD.out.r).mono ?_; rintro e w8 ⟨x8, hx8, rfl, r8, g8⟩; have S8 := Lib.hid (SD.out.pick lr g8 r8); have p8 := heap_grown PD g8 (by intro e; have := Option.some.inj e; omega); have A8 := Lib.hid (OwnsB.keptBy AD.out g8 (fun k e => by have := Option.some.inj e; omega)); obtain ⟨V, hV1, hV2, hV3, hV4, hV5, hV6, hV7⟩ := rem_small hE3 x8 hx8; obtain ⟨c80, c81, c82⟩ := cells3 p8))
  all_goals
   go_wp2
   go_meet
   refine ⟨⟨a9, _, cap9, _, rfl, rfl, ?_, ho9.lower (by have := S8.out.z; omega)⟩, S9.out⟩
   exact Nat.le_trans (tilOf_len _ _ _ _) (by have := HM5.out; omega)
 case rest =>
 rename World => w7
 clear S6 p6 A6 c0 c1 c2
 obtain ⟨⟨la, m, lcap, L, rfl, hml, hm36, ol⟩, s7⟩ := hcut
 have S7 := Lib.hid s7; clear s7
 have HML := Lib.hid hml; clear hml
 have A7 : Hid (IsL N (.slice la m lcap) w7) := ⟨la, m, lcap, L, rfl, HML.out, hm36, ol⟩
 clear ol
 obtain ⟨W5, T5, a5, n5, c5, xs5, p7, hm5, h365, hs5, ho5⟩ := S7.out.p
 have HM5 := Lib.hid hm5; clear hm5
 have B7 := Lib.hid ho5; clear ho5
 obtain ⟨c0, c1, c2⟩ := cells3 p7
 go_upto_region 6 with fail
 go_cut [9] (fun v7 wx => IsL N v7 wx ∧ TwoS rb w N (P + 304) wx ∧ IsL N (.slice la m lcap) wx)
 case first =>
  have SD : Hid (TwoS rb w N (P + 303) w7.drew) := ⟨S7.out.p, S7.out.q, S7.out.r, grown_seq' S7.out.g (grown_drewN w7 1 _), S7.out.z, S7.out.y⟩
  have PD : w7.drew.heap[N]? = some _ := p7
  have AD : Hid (OwnsB w7.drew (w.heap.size + 1) (.slice a5 n5 c5) xs5) := B7
  go_region_held3 (fun w' => w'.cell? ⟨N, 0, none⟩ = some (.int .i64 W5) ∧ w'.cell? ⟨N, 1, none⟩ = some (.int .i64 T5) ∧ w'.cell? ⟨N, 2, none⟩ = some (.slice a5 n5 c5))
   (go_keep)
   (first
     | (go_at_call 53; refine (sTilingOf_ret _ _ _ _ _ xs5 _ _ HM5.out (by omega) (OwnsB.at A8.out)).mono ?_; rintro e w9 ⟨a9, cap9, rfl, ho9, hb9⟩; have S9 := Lib.hid (S8.out.below lr hb9); have p9 := heap_later p8 hb9; obtain ⟨c90, c91, c92⟩ := cells3 p9)
     | (go_at_call 52; refine (pick_any rb _ 256 _ (by omega) (by omega) (by omega) SD.out.r).mono ?_; rintro e w8 ⟨x8, hx8, rfl, r8, g8⟩; have S8 := Lib.hid (SD.out.pick lr g8 r8); have p8 := heap_grown PD g8 (by intro e; have := Option.some.inj e; omega); have A8 := Lib.hid (OwnsB.keptBy AD.out g8 (fun k e => by have := Option.some.inj e; omega)); obtain ⟨V, hV1, hV2, hV3, hV4, hV5, hV6, hV7⟩ := rem_small hE3 x8 hx8; obtain ⟨c80, c81, c82⟩ := cells3 p8))
  all_goals
   go_wp2
   go_meet
   refine ⟨⟨a9, _, cap9, _, rfl, rfl, ?_, ho9.lower (by have := S8.out.z; omega)⟩, S9.out, ((show IsL N (.slice la m lcap) w7.drew from A7.out).pick lrN g8).below hb9⟩
   exact Nat.le_trans (tilOf_len _ _ _ _) (by have := HM5.out; omega)
 case rest =>
 rename World => w10
 clear S7 p7 B7 A7 c0 c1 c2 HM5 hs5 h365 hE0 hE1 hE2 hE3 hE4 hD0
 obtain ⟨⟨lb, q, bcap, M, rfl, hqm, hq36, ol⟩, s10, la10⟩ := hcut
 have S10 := Lib.hid s10; clear s10
 have HQM := Lib.hid hqm; clear hqm
 have B10 : Hid (IsL N (.slice lb q bcap) w10) := ⟨lb, q, bcap, M, rfl, HQM.out, hq36, ol⟩
 have A10 := Lib.hid la10; clear la10 ol
 go_wp2_with fail
 refine (odd_any rb _ 14 _ (by omega) (by omega) (by omega) S10.out.r).mono ?_; rintro e w11 ⟨b11, rfl, r11, g11⟩
 have S11 := Lib.hid (S10.out.pick lr g11 r11)
 have A11 := Lib.hid (A10.out.pick lrN g11)
 have B11 := Lib.hid (B10.out.pick lrN g11)
 clear S10 A10 B10 r11 g11
 go_upto_if 55 with fail
 go_cut [9] (fun v9 wx => IsL N v9 wx ∧ IsL N (.slice la m lcap) wx ∧ TwoS rb w N (P + 305) wx)
 case first =>
  cases b11
  · go_wp2
    go_meet
    exact ⟨B11.out, A11.out, S11.out.mono (by omega)⟩
  · obtain ⟨W5, T5, a5, n5, c5, xs5, p7, hm5, h365, hs5, ho5⟩ := S11.out.p
    have HM5 := Lib.hid hm5; clear hm5
    have O5 := Lib.hid ho5; clear ho5
    obtain ⟨c0, c1, c2⟩ := cells3 p7
    go_wp2_with fail
    refine (sLaidBare_ret _ _ _ _ _ xs5 _ HM5.out (by omega) (OwnsB.at O5.out)).mono ?_; rintro e w12 ⟨a12, cap12, rfl, ho12, hb12⟩
    go_wp2
    go_meet
    exact ⟨⟨a12, _, cap12, _, rfl, rfl, Nat.le_trans (bareL_len _ _ _) (by have := HM5.out; omega), ho12.lower (by have := S11.out.z; omega)⟩, A11.out.below hb12, (S11.out.below lr hb12).mono (by omega)⟩
 case rest =>
 rename World => w12
 clear S11 A11 B11 HQM
 obtain ⟨⟨lb, q, bcap, M, rfl, hqm, hq36, ol⟩, la12, s12⟩ := hcut
 have S12 := Lib.hid s12; clear s12
 have HQM := Lib.hid hqm; clear hqm
 have B12 : Hid (IsL N (.slice lb q bcap) w12) := ⟨lb, q, bcap, M, rfl, HQM.out, hq36, ol⟩
 have A12 := Lib.hid la12; clear la12 ol
 go_wp2_with fail
 refine (odd_any rb _ 16 _ (by omega) (by omega) (by omega) S12.out.r).mono ?_; rintro e w13 ⟨b13, rfl, r13, g13⟩
 have S13 := Lib.hid (S12.out.pick lr g13 r13)
 have A13 := Lib.hid (A12.out.pick lrN g13)
 have B13 := Lib.hid (B12.out.pick lrN g13)
 clear S12 A12 B12 r13 g13
 go_upto_if 59 with fail
 go_cut [] (fun wx => IsL N (.slice lb q bcap) wx ∧ IsL N (.slice la m lcap) wx ∧ TwoS rb w N (P + 410) wx)
 case first =>
  cases b13
  · go_wp2
    go_meet
    exact ⟨B13.out, A13.out, S13.out.mono (by omega)⟩
  · go_wp2_with fail
    refine (l20Region_any rb (P + 310) 9 _ (by omega) (by omega) (by omega) (S13.out.r.mono (by omega))).mono ?_; rintro e w14 ⟨W6, T6, a6, n6, c6, xs6, rfl, hm6, h366, hs6, ho6, r14, g14⟩
    have HM6 := Lib.hid hm6; clear hm6
    have S14 := Lib.hid (S13.out.pick lr g14 r14)
    have A14 := Lib.hid (A13.out.pick lrN g14)
    have B14 := Lib.hid (B13.out.pick lrN g14)
    have hz13 := S13.out.z
    obtain ⟨_, _, _, _, _, _, p14, _⟩ := S14.out.p
    obtain ⟨d0, d1, d2⟩ := cells3 p14
    have f0 := free3 p14 0
    have f1 := free3 p14 1
    have f2 := free3 p14 2
    go_wp2
    go_meet
    exact ⟨B14.out.set3 (Nat.le_refl _) _ _ _, A14.out.set3 (Nat.le_refl _) _ _ _, TwoS.mono (Pk' := P + 410) (S14.out.put lr HM6.out h366 hs6 ho6 (by omega)) (by omega)⟩
 case rest =>
 rename World => w15
 clear S13 A13 B13
 obtain ⟨ib, ia, s15⟩ := hcut
 have S15 := Lib.hid s15; clear s15
 have B15 := Lib.hid ib; clear ib
 have A15 := Lib.hid ia; clear ia
 obtain ⟨W7, T7, a7, n7, c7, xs7, p15, hm7, h367, hs7, ho7⟩ := S15.out.p
 have HM7 := Lib.hid hm7; clear hm7
 have O7 := Lib.hid ho7; clear ho7
 have q15 := S15.out.q
 have ly := S15.out.y
 obtain ⟨c0, c1, c2⟩ := cells3 p15
 obtain ⟨d0, d1, d2⟩ := cells3 q15
 have f0 := free3 q15 0
 have f1 := free3 q15 1
 have f2 := free3 q15 2
 go_wp2
 obtain ⟨la', m', lcap', L', e1, x1, x2, x3⟩ := A15.out
 obtain ⟨lb', q', bcap', M', e2, y1, y2, y3⟩ := B15.out
 have hz3 : ∀ x y z, OwnsI (((w15.setCell ⟨w.heap.size, 0, none⟩ x).setCell ⟨w.heap.size, 1, none⟩ y).setCell ⟨w.heap.size, 2, none⟩ z) w.heap.size (.slice la m lcap) L' := fun x y z => by
  have t := ((x3.setBelow (p := ⟨w.heap.size, 0, none⟩) (by simp; omega) x).setBelow (p := ⟨w.heap.size, 1, none⟩) (by simp; omega) y).setBelow (p := ⟨w.heap.size, 2, none⟩) (by simp; omega) z; exact t.lower (by omega)
 have hz4 : ∀ x y z, OwnsI (((w15.setCell ⟨w.heap.size, 0, none⟩ x).setCell ⟨w.heap.size, 1, none⟩ y).setCell ⟨w.heap.size, 2, none⟩ z) w.heap.size (.slice lb q bcap) M' := fun x y z => by
  have t := ((y3.setBelow (p := ⟨w.heap.size, 0, none⟩) (by simp; omega) x).setBelow (p := ⟨w.heap.size, 1, none⟩) (by simp; omega) y).setBelow (p := ⟨w.heap.size, 2, none⟩) (by simp; omega) z; exact t.lower (by omega)
 injection e1 with e11 e12 e13
 injection e2 with e21 e22 e23
 refine bodyPost_ret (v := .tuple #[.agg #[.int .i64 W7, .int .i64 T7, .slice a7 n7 c7], .slice la m lcap, .slice lb q bcap]) (by simp [results, Tryz.results26, go_sem, d0, d1, d2]) rfl ⟨W7, T7, a7, n7, c7, xs7, la, m, lcap, L', lb, q, bcap, M', rfl, HM7.out, h367, hs7, (O7.out.set3 (by omega) _ _ _).lower (by omega), by omega, by omega, hz3 _ _ _, by omega, by omega, hz4 _ _ _, ((((S15.out.r.setFar lr _).setFar lr _).setFar lr _).mono (by omega)), grown_far (grown_far (grown_far S15.out.g (Nat.le_refl _) _) (Nat.le_refl _) _) (Nat.le_refl _) _⟩

end Go.Proofs.YtpcajacekmidbaaGreat
