/- CornerFill: a square is filled quarter by quarter; contracts of impl's square, and of CornerFill on both sides. -/
import Derived.Test.YthjocjiiihebbaaRelab
import Derived.Test.YthjocjiiihebbaaRep
import Derived.Test.YthjocjiiihebbaaPrs
namespace Go.Proofs.Ythjocjiiihebbaa
open Go.RowKit
set_option linter.unusedVariables false
set_option maxRecDepth 100000
set_option linter.unusedSimpArgs false

/-- A cell lies in the square of a side of h from a cell on. -/
def inQ (x y h hx hy : Nat) : Bool := decide (x ≤ hx ∧ hx < x + h ∧ y ≤ hy ∧ hy < y + h)
/-- One quarter is filled. -/
def cfQ (rec : List Int → Nat → Nat → Nat → Nat → Nat → List Int × Nat) (h W x y hx hy mine : Nat) (q : Nat) (a : List Int × Nat) : List Int × Nat :=
  if inQ (x + q % 2 * h) (y + q / 2 * h) h hx hy then rec a.1 (x + q % 2 * h) (y + q / 2 * h) hx hy a.2
  else rec (a.1.set ((y + h - 1 + q / 2) * W + (x + h - 1 + q % 2)) (mine : Int)) (x + q % 2 * h) (y + q / 2 * h) (x + h - 1 + q % 2) (y + h - 1 + q / 2) a.2
def cfK (rec : List Int → Nat → Nat → Nat → Nat → Nat → List Int × Nat) (h W x y hx hy mine : Nat) (a : List Int × Nat) : Nat → List Int × Nat
  | 0 => a
  | q + 1 => cfQ rec h W x y hx hy mine q (cfK rec h W x y hx hy mine a q)
def cfN (W : Nat) : Nat → List Int → Nat → Nat → Nat → Nat → Nat → List Int × Nat
  | 0, L, _, _, _, _, n => (L, n)
  | l + 1, L, x, y, hx, hy, n => cfK (cfN W l) (2 ^ l) W x y hx hy n (L, n + 1) 4
def cnN : Nat → Nat
  | 0 => 0
  | l + 1 => 1 + 4 * cnN l
theorem cfK_facts (rec : List Int → Nat → Nat → Nat → Nat → Nat → List Int × Nat) (c h W x y hx hy mine : Nat) (a : List Int × Nat) (hr : ∀ L x y hx hy n, (rec L x y hx hy n).1.length = L.length ∧ (rec L x y hx hy n).2 = n + c) (q : Nat) :
    (cfK rec h W x y hx hy mine a q).1.length = a.1.length ∧ (cfK rec h W x y hx hy mine a q).2 = a.2 + q * c := by
  induction q with
  | zero => simp [cfK]
  | succ q ih =>
    show (cfQ rec h W x y hx hy mine q (cfK rec h W x y hx hy mine a q)).1.length = _ ∧ (cfQ rec h W x y hx hy mine q (cfK rec h W x y hx hy mine a q)).2 = _
    have e : (q + 1) * c = q * c + c := Nat.succ_mul q c
    unfold cfQ
    split
    · exact ⟨(hr _ _ _ _ _ _).1.trans ih.1, by rw [(hr _ _ _ _ _ _).2, ih.2]; omega⟩
    · exact ⟨(hr _ _ _ _ _ _).1.trans (by rw [List.length_set]; exact ih.1), by rw [(hr _ _ _ _ _ _).2, ih.2]; omega⟩
theorem cfN_facts (W l : Nat) : ∀ L x y hx hy n, (cfN W l L x y hx hy n).1.length = L.length ∧ (cfN W l L x y hx hy n).2 = n + cnN l := by
  induction l with
  | zero => intro L x y hx hy n; exact ⟨rfl, rfl⟩
  | succ l ih =>
    intro L x y hx hy n
    have := cfK_facts (cfN W l) (cnN l) (2 ^ l) W x y hx hy n (L, n + 1) ih 4
    refine ⟨this.1, ?_⟩
    show (cfK (cfN W l) (2 ^ l) W x y hx hy n (L, n + 1) 4).2 = n + (1 + 4 * cnN l)
    rw [this.2]; simp; omega
/-- The square without one cell, filled; and whether there is one. -/
def sideB (s : Int) : Bool := decide (s = 1 ∨ s = 2 ∨ s = 4)
def lvN (s : Int) : Nat := if s = 1 then 0 else if s = 2 then 1 else 2
def cornF (s c : Int) : List Int × Bool :=
  if sideB s && decide (0 ≤ c ∧ c < s * s) then ((cfN s.toNat (lvN s) (List.replicate (s.toNat * s.toNat) (-1)) 0 0 (c.toNat % s.toNat) (c.toNat / s.toNat) 0).1, true) else ([], false)

theorem inSquare_is (fx fy s hx hy : Int) (b : Bool) (w : World) (h0 : -1000 ≤ fx ∧ fx ≤ 1000) (h1 : -1000 ≤ fy ∧ fy ≤ 1000) (h2 : -1000 ≤ hx ∧ hx ≤ 1000) (h3 : -1000 ≤ hy ∧ hy ≤ 1000) (hb : decide (fx ≤ hx ∧ hx < fx + s ∧ fy ≤ hy ∧ hy < fy + s) = b) (h4 : -1000 ≤ s ∧ s ≤ 1000) :
    Calls Try.prog 90 #[.agg #[.int .i64 fx, .int .i64 fy], .int .i64 s, .agg #[.int .i64 hx, .int .i64 hy]] w fun e w' => e = .returned (.bool b) ∧ Below w.heap.size w w' := by
  have p1 := heap_new w (.cells #[.int .i64 fx, .int .i64 fy] 78)
  have b1 := below1 w (.cells #[.int .i64 fx, .int .i64 fy] 78)
  have p2 := heap_later p1 (below1 _ (.cells #[.int .i64 hx, .int .i64 hy] 78))
  have p3 := heap_new2 w (.cells #[.int .i64 fx, .int .i64 fy] 78) (.cells #[.int .i64 hx, .int .i64 hy] 78)
  have b2 := below_seq b1 (below1 _ (.cells #[.int .i64 hx, .int .i64 hy] 78))
  obtain ⟨c0, c1⟩ := cells2p p2
  obtain ⟨d0, d1⟩ := cells2p p3
  have HB := Lib.hid hb; clear hb
  clear p1 p2 p3 b1
  by_cases g1 : 0 ≤ hx - fx
  · by_cases g2 : hx - fx < s
    · by_cases g3 : 0 ≤ hy - fy
      · by_cases g4 : hy - fy < s
        · have e : b = true := by rw [← HB.out, decide_eq_true_eq]; omega
          subst e
          go_enter Try.func90, Try.ntmps90
          go_wp2
          go_region
          go_wp2
          go_ret
          exact ⟨by first | rfl | exact ret_bool (decide_eq_false (by omega)), below_seq b2 (drew_below _)⟩
        · have e : b = false := by rw [← HB.out, decide_eq_false_iff_not]; omega
          subst e
          go_enter Try.func90, Try.ntmps90
          go_wp2
          go_region
          go_wp2
          go_ret
          exact ⟨by first | rfl | exact ret_bool (decide_eq_false (by omega)), below_seq b2 (drew_below _)⟩
      · have e : b = false := by rw [← HB.out, decide_eq_false_iff_not]; omega
        subst e
        go_enter Try.func90, Try.ntmps90
        go_wp2
        go_region
        go_wp2
        go_ret
        exact ⟨by first | rfl | exact ret_bool (decide_eq_false (by omega)), below_seq b2 (drew_below _)⟩
    · have e : b = false := by rw [← HB.out, decide_eq_false_iff_not]; omega
      subst e
      go_enter Try.func90, Try.ntmps90
      go_wp2
      go_region
      go_wp2
      go_ret
      exact ⟨by first | rfl | exact ret_bool (decide_eq_false (by omega)), below_seq b2 (drew_below _)⟩
  · have e : b = false := by rw [← HB.out, decide_eq_false_iff_not]; omega
    subst e
    go_enter Try.func90, Try.ntmps90
    go_wp2
    go_region
    go_wp2
    go_ret
    exact ⟨by first | rfl | exact ret_bool (decide_eq_false (by omega)), below_seq b2 (drew_below _)⟩

theorem grown_tr {a b c : World} {row : Option Nat} (h : a.grownBy b row) (k : b.grownBy c row) : a.grownBy c row :=
  ⟨k.os.trans h.os, k.tape.trans h.tape, k.output.trans h.output, Nat.le_trans h.size k.size, fun i hi hr => (k.block i (Nat.lt_of_lt_of_le hi h.size) hr).trans (h.block i hi hr)⟩
theorem grown_lw {a b : World} (h : Below a.heap.size a b) (row : Option Nat) : a.grownBy b row :=
  ⟨h.os, h.tape, h.output, h.size, fun k hk _ => h.block k hk⟩
theorem grown_nw {a b c : World} {row : Option Nat} {g : Nat} (h : a.grownBy b row) (k : b.grownBy c (some g)) (hg : a.heap.size ≤ g) : a.grownBy c row :=
  ⟨k.os.trans h.os, k.tape.trans h.tape, k.output.trans h.output, Nat.le_trans h.size k.size, fun i hi hr => (k.block i (Nat.lt_of_lt_of_le hi h.size) (by intro e; have := Option.some.inj e; omega)).trans (h.block i hi hr)⟩
theorem heap_gr {a b : World} {g i : Nat} {o : Obj} (h : a.heap[i]? = some o) (k : a.grownBy b (some g)) (hne : i ≠ g) : b.heap[i]? = some o := by
  rw [k.block i (heap_lt h) (fun e => hne (Option.some.inj e))]; exact h

theorem two_set {w : World} {b : Nat} {v0 v1 : Value} {t : TypeId} (h : w.heap[b]? = some (.cells #[v0, v1] t (0, 0))) (u0 u1 : Value) :
    (w.setCell ⟨b, 0, none⟩ u0).heap[b]? = some (.cells #[u0, v1] t (0, 0)) ∧ ((w.setCell ⟨b, 0, none⟩ u0).setCell ⟨b, 1, none⟩ u1).heap[b]? = some (.cells #[u0, u1] t (0, 0)) := by
  have e1 : (w.setCell ⟨b, 0, none⟩ u0).heap[b]? = some (.cells #[u0, v1] t (0, 0)) := by
    obtain ⟨hlt, hk⟩ := Array.getElem?_eq_some_iff.1 h
    show (w.heap.modify b _)[b]? = _
    rw [Array.getElem?_eq_getElem (by rw [Array.size_modify]; exact hlt), Array.getElem_modify_self, hk]
    rfl
  refine ⟨e1, ?_⟩
  generalize (w.setCell ⟨b, 0, none⟩ u0) = w' at *
  obtain ⟨hlt, hk⟩ := Array.getElem?_eq_some_iff.1 e1
  show (w'.heap.modify b _)[b]? = _
  rw [Array.getElem?_eq_getElem (by rw [Array.size_modify]; exact hlt), Array.getElem_modify_self, hk]
  rfl
theorem OwnsI.keptUp9 {w w' : World} {B : Nat} {v : Value} {xs : List Int} {row : Option Nat} (h : OwnsI w B v xs) (hg : w.grownBy w' row) (hr : v.ownBlock = none ∨ v.ownBlock ≠ row) : OwnsI w' B v xs := World.ownsRow.kept h hg hr
theorem gr_set (w : World) (b i : Nat) (v : Value) : w.grownBy (w.setCell ⟨b, i, none⟩ v) (some b) :=
  ⟨rfl, rfl, rfl, by simp [World.setCell], fun k _ hk => Below.heap_setCell _ _ _ _ (fun e => hk (by simp [e]))⟩

/-- impl's square of a side of 2 ^ l is filled as said. -/
def SqI (W l : Nat) : Prop := ∀ (m g cap B : Nat) (L : List Int) (x y hx hy n : Nat) (WI SI fx fy ox oy ni : Int) (w : World), m = W * W → L.length = m → WI = W → SI = (2 ^ l : Nat) → fx = x → fy = y → ox = hx → oy = hy → ni = n →
  x + 2 ^ l ≤ W → y + 2 ^ l ≤ W → hx < W → hy < W → n + cnN l ≤ 1000 → OwnsI w B (.slice (some ⟨g, 0, none⟩) m cap) L →
  Calls Try.prog 71 #[.slice (some ⟨g, 0, none⟩) m cap, .int .i64 WI, .agg #[.int .i64 fx, .int .i64 fy], .int .i64 SI, .agg #[.int .i64 ox, .int .i64 oy], .int .i64 ni] w fun e w' => e = .returned (.int .i64 ((cfN W l L x y hx hy n).2 : Int)) ∧ OwnsI w' B (.slice (some ⟨g, 0, none⟩) m cap) (cfN W l L x y hx hy n).1 ∧ w.grownBy w' (some g)

theorem sqI_zero (W : Nat) : SqI W 0 := by
  intro m g cap B L x y hx hy n WI SI fx fy ox oy ni w hm hL hWI hSI hfx hfy hox hoy hni b1 b2 b3 b4 hn ho
  obtain rfl : SI = 1 := hSI
  show Calls _ _ _ _ fun e w' => e = .returned (.int .i64 (n : Int)) ∧ OwnsI w' B _ L ∧ _
  rw [← hni]
  clear hfx hfy hox hoy hni hWI
  have o2 := (ho.alloc (.cells #[.int .i64 fx, .int .i64 fy] 78 (0, 0))).alloc (.cells #[.int .i64 ox, .int .i64 oy] 78 (0, 0))
  have bb := below2 w (.cells #[.int .i64 fx, .int .i64 fy] 78 (0, 0)) (.cells #[.int .i64 ox, .int .i64 oy] 78 (0, 0))
  clear ho
  go_enter Try.func71, Try.ntmps71
  go_wp2
  go_ret
  exact ⟨rfl, o2, grown_lw bb _⟩

-- GENERATED

set_option maxHeartbeats 4000000 in
theorem sqI_up20 (ih : SqI 2 0) : SqI 2 (0 + 1) := by
  intro m g cap B L x y hx hy n WI SI fx fy ox oy ni w hm hL hWI hSI hfx hfy hox hoy hni b1 b2 b3 b4 hn ho
  obtain ⟨a0, ha0⟩ : ∃ a0 : List Int × Nat, a0 = (L, n + 1) := ⟨_, rfl⟩
  obtain ⟨C, hC⟩ : ∃ C : Nat → List Int × Nat, C = cfK (cfN 2 0) 1 2 x y hx hy n a0 := ⟨_, rfl⟩
  have e16 : m = 4 := hm
  have b1' : x + 2 ≤ 2 := b1
  have b2' : y + 2 ≤ 2 := b2
  have hn' : n + 1 ≤ 1000 := hn
  obtain rfl : SI = 2 := hSI
  obtain rfl : WI = 2 := hWI
  have p1 := heap_later (heap_new w (.cells #[.int .i64 fx, .int .i64 fy] 78 (0, 0))) (below1 _ (.cells #[.int .i64 ox, .int .i64 oy] 78 (0, 0)))
  have p2 := heap_new2 w (.cells #[.int .i64 fx, .int .i64 fy] 78 (0, 0)) (.cells #[.int .i64 ox, .int .i64 oy] 78 (0, 0))
  have bb := Lib.hid (below2 w (.cells #[.int .i64 fx, .int .i64 fy] 78 (0, 0)) (.cells #[.int .i64 ox, .int .i64 oy] 78 (0, 0)))
  have o2 := Lib.hid ((ho.alloc (.cells #[.int .i64 fx, .int .i64 fy] 78 (0, 0))).alloc (.cells #[.int .i64 ox, .int .i64 oy] 78 (0, 0)))
  have lg := ho.lt
  clear ho
  have n1 : ni + 1 ≤ 1002 := by omega
  have fx0 : 0 ≤ fx := by omega
  have fx1 : fx ≤ 4 := by omega
  have fy0 : 0 ≤ fy := by omega
  have fy1 : fy ≤ 4 := by omega
  have n0 : 0 ≤ ni := by omega
  have n2 : n ≤ 1000 := by omega
  have hstart : ni + 1 = ((C 0).2 : Nat) := by rw [hC]; show _ = ((a0.2 : Nat) : Int); rw [ha0]; simp; omega
  have hst2 : (C 0).1 = L := by rw [hC]; show a0.1 = L; rw [ha0]
  have hstep : ∀ q, C (q + 1) = cfQ (cfN 2 0) 1 2 x y hx hy n q (C q) := fun q => by rw [hC]; rfl
  have facts : ∀ q, (C q).1.length = m ∧ (C q).2 = n + 1 + q * 0 := fun q => by
    have := cfK_facts (cfN 2 0) (cnN 0) 1 2 x y hx hy n a0 (cfN_facts 2 0) q
    rw [← hC, ha0] at this
    exact ⟨this.1.trans hL, this.2⟩
  have hend : cfN 2 (0 + 1) L x y hx hy n = C 4 := by rw [hC, ha0]; rfl
  rw [hend]
  clear hend hC ha0 hn b1 b2 hm
  have HST := Lib.hid hstart; clear hstart
  have HST2 := Lib.hid hst2; clear hst2
  have HFX := Lib.hid hfx; clear hfx
  have HFY := Lib.hid hfy; clear hfy
  have HOX := Lib.hid hox; clear hox
  have HOY := Lib.hid hoy; clear hoy
  have HNI := Lib.hid hni; clear hni
  have HM := Lib.hid e16; clear e16
  have HLN := Lib.hid hL; clear hL
  have HIH := Lib.hid ih; clear ih
  have HFA := Lib.hid facts; clear facts
  have HSP := Lib.hid hstep; clear hstep
  go_enter Try.func71, Try.ntmps71
  go_wp2
  go_loopw [5, 15, 16, 17, 18, 19, 28] (fun nx _ _ _ _ _ i wr => ∃ (q : Nat) (qi nq : Int), q ≤ 4 ∧ i = .int .i64 qi ∧ qi = q ∧ nx = .int .i64 nq ∧ nq = ((C q).2 : Nat) ∧ OwnsI wr B (.slice (some ⟨g, 0, none⟩) m cap) (C q).1 ∧ wr.heap[w.heap.size]? = some (.cells #[.int .i64 fx, .int .i64 fy] 78 (0, 0)) ∧ wr.heap[w.heap.size + 1]? = some (.cells #[.int .i64 ox, .int .i64 oy] 78 (0, 0)) ∧ w.grownBy wr (some g)) (fun _ _ _ _ _ _ i _ => 4 - (intOf i).toNat)
  case atStart => exact ⟨0, 0, ni + 1, by omega, rfl, rfl, rfl, HST.out, by rw [HST2.out]; exact o2.out, p1, p2, grown_lw bb.out _⟩
  case round =>
    rename World => wr
    clear p1 p2 bb o2 HST HST2
    obtain ⟨q, qi, nq, hq, rfl, hqi, rfl, hnq, ho, q1, q2, hgr⟩ := hrel
    have lr := ho.lt
    have zr := heap_lt q2
    have z1 := hgr.size
    obtain ⟨c0, c1⟩ := cells2p q1
    obtain ⟨d0, d1⟩ := cells2p q2
    obtain ⟨fl, fn⟩ := HFA.out q
    have HO := Lib.hid ho; clear ho
    have HGR := Lib.hid hgr; clear hgr
    obtain ⟨aq, haq⟩ : ∃ aq, aq = C q := ⟨_, rfl⟩
    have hsp := HSP.out q
    rw [← haq] at HO fl fn hsp hnq
    have HQI := Lib.hid hqi
    have HFL := Lib.hid fl; clear fl
    have HSQ := Lib.hid hsp; clear hsp
    have HAQ := Lib.hid haq; clear haq
    by_cases hlt : q < 4
    · rcases (by omega : q = 0 ∨ q = 1 ∨ q = 2 ∨ q = 3) with rfl | rfl | rfl | rfl
      · obtain rfl : qi = 0 := by omega
        clear hqi HQI
        have hnq2 : nq = aq.2 := hnq
        have HNQ := Lib.hid hnq2; clear hnq hnq2
        have fn2 : aq.2 ≤ n + 5 := by omega
        have fn3 : aq.2 = n + 1 + 0 * 0 := fn
        have nq1 : 0 ≤ nq := by have := HNQ.out; omega
        have nq2 : nq ≤ 1005 := by have := HNQ.out; omega
        clear fn
        by_cases hin : x + 0 % 2 * 1 ≤ hx ∧ hx < x + 0 % 2 * 1 + 1 ∧ y + 0 / 2 * 1 ≤ hy ∧ hy < y + 0 / 2 * 1 + 1
        · have HIN := Lib.hid hin; clear hin
          obtain ⟨R, hR⟩ : ∃ R : List Int × Nat, R = cfN 2 0 aq.1 (x + 0 % 2 * 1) (y + 0 / 2 * 1) (hx) (hy) aq.2 := ⟨_, rfl⟩
          have hnx : C (0 + 1) = R := by
            rw [HSQ.out, hR]; unfold cfQ; rw [if_pos (by unfold inQ; rw [decide_eq_true_eq]; exact HIN.out)]
          have HNX := Lib.hid hnx; clear hnx
          have HR := Lib.hid hR; clear hR
          have P19 : Hid (((wr.alloc (.cells #[.int .i64 (fx), .int .i64 (fy)] 78 (0, 0))).alloc (.cells #[.int .i64 ox, .int .i64 oy] 78 (0, 0))).heap[wr.heap.size + 1]? = some (.cells #[.int .i64 ox, .int .i64 oy] 78 (0, 0))) := heap_new2 wr (.cells #[.int .i64 (fx), .int .i64 (fy)] 78 (0, 0)) (.cells #[.int .i64 ox, .int .i64 oy] 78 (0, 0))
          have P18 : Hid (((wr.alloc (.cells #[.int .i64 (fx), .int .i64 (fy)] 78 (0, 0))).alloc (.cells #[.int .i64 ox, .int .i64 oy] 78 (0, 0))).heap[wr.heap.size]? = some (.cells #[.int .i64 (fx), .int .i64 (fy)] 78 (0, 0))) := heap_later (heap_new wr (.cells #[.int .i64 (fx), .int .i64 (fy)] 78 (0, 0))) (below1 _ _)
          have P8 : Hid (((wr.alloc (.cells #[.int .i64 (fx), .int .i64 (fy)] 78 (0, 0))).alloc (.cells #[.int .i64 ox, .int .i64 oy] 78 (0, 0))).heap[w.heap.size]? = some _) := heap_later q1 (below2 _ _ _)
          have P10 : Hid (((wr.alloc (.cells #[.int .i64 (fx), .int .i64 (fy)] 78 (0, 0))).alloc (.cells #[.int .i64 ox, .int .i64 oy] 78 (0, 0))).heap[w.heap.size + 1]? = some _) := heap_later q2 (below2 _ _ _)
          have BW : Hid (Below wr.heap.size wr ((wr.alloc (.cells #[.int .i64 (fx), .int .i64 (fy)] 78 (0, 0))).alloc (.cells #[.int .i64 ox, .int .i64 oy] 78 (0, 0)))) := below2 _ _ _
          obtain ⟨e0, e1⟩ := cells2p P10.out
          obtain ⟨e2, e3⟩ := cells2p P18.out
          obtain ⟨e4, e5⟩ := cells2p P19.out
          go_wp2_with fail
          refine (inSquare_is _ _ _ _ _ true _ (by omega) (by omega) (by have := HOX.out; omega) (by have := HOY.out; omega) (by have h1 := HIN.out; have h2 := HFX.out; have h3 := HFY.out; have h4 := HOX.out; have h5 := HOY.out; rw [decide_eq_true_eq]; omega) (by omega)).mono ?_; rintro e w3 ⟨rfl, hb3⟩
          have HO3 := Lib.hid ((HO.out.below BW.out).below hb3)
          have y0 : wr.heap.size + 2 ≤ w3.heap.size := by have := hb3.size; simp at this; omega
          have P19' := heap_later P19.out hb3
          have P18' := heap_later P18.out hb3
          have P8' := heap_later P8.out hb3
          have P10' := heap_later P10.out hb3
          have z3 := hb3.size
          have BW3 := Lib.hid (below_seq BW.out hb3)
          obtain ⟨f0, f1⟩ := cells2p P19'
          obtain ⟨f2, f3⟩ := cells2p P18'
          obtain ⟨f4, f5⟩ := cells2p P8'
          clear e0 e1 e2 e3 e4 e5 c0 c1 d0 d1 hb3
          go_wp2_with fail
          have CALL := HIH.out m g cap B aq.1 (x + 0 % 2 * 1) (y + 0 / 2 * 1) hx hy aq.2 2 1 (fx) (fy) ox oy nq w3 HM.out (HFL.out) rfl rfl (by have h2 := HFX.out; omega) (by have h2 := HFY.out; omega) HOX.out HOY.out HNQ.out (by show _ + 1 ≤ _; omega) (by show _ + 1 ≤ _; omega) b3 b4 (by show _ + 0 ≤ _; omega) HO3.out
          rw [← HR.out] at CALL
          refine CALL.mono ?_; rintro e w5 ⟨rfl, ho5, hg5⟩
          have P8a := heap_gr P8' hg5 (by omega)
          have P10a := heap_gr P10' hg5 (by omega)
          have GD := Lib.hid (grown_tr (grown_tr HGR.out (grown_lw BW3.out _)) hg5)
          have HO5 := Lib.hid ho5; clear ho5 hg5 CALL
          clear f0 f1 f2 f3 f4 f5 q1 q2 P8' P10' P18' P19'
          go_wp2
          go_roundw
          case rel => exact ⟨1, 1, _, by omega, by first | rfl | simp, by first | rfl | omega, rfl, by rw [HNX.out], by rw [HNX.out]; exact HO5.out, P8a, P10a, GD.out⟩
          case measure => first | decide | simp [intOf]
        · have HIN := Lib.hid hin; clear hin
          obtain ⟨R, hR⟩ : ∃ R : List Int × Nat, R = cfN 2 0 (aq.1.set ((y + 1 - 1 + 0 / 2) * 2 + (x + 1 - 1 + 0 % 2)) (n : Int)) (x + 0 % 2 * 1) (y + 0 / 2 * 1) (x + 1 - 1 + 0 % 2) (y + 1 - 1 + 0 / 2) aq.2 := ⟨_, rfl⟩
          have hnx : C (0 + 1) = R := by
            rw [HSQ.out, hR]; unfold cfQ; rw [if_neg (by unfold inQ; rw [decide_eq_true_eq]; exact HIN.out)]
          have HNX := Lib.hid hnx; clear hnx
          have HR := Lib.hid hR; clear hR
          have P19 : Hid (((wr.alloc (.cells #[.int .i64 (fx), .int .i64 (fy)] 78 (0, 0))).alloc (.cells #[.int .i64 ox, .int .i64 oy] 78 (0, 0))).heap[wr.heap.size + 1]? = some (.cells #[.int .i64 ox, .int .i64 oy] 78 (0, 0))) := heap_new2 wr (.cells #[.int .i64 (fx), .int .i64 (fy)] 78 (0, 0)) (.cells #[.int .i64 ox, .int .i64 oy] 78 (0, 0))
          have P18 : Hid (((wr.alloc (.cells #[.int .i64 (fx), .int .i64 (fy)] 78 (0, 0))).alloc (.cells #[.int .i64 ox, .int .i64 oy] 78 (0, 0))).heap[wr.heap.size]? = some (.cells #[.int .i64 (fx), .int .i64 (fy)] 78 (0, 0))) := heap_later (heap_new wr (.cells #[.int .i64 (fx), .int .i64 (fy)] 78 (0, 0))) (below1 _ _)
          have P8 : Hid (((wr.alloc (.cells #[.int .i64 (fx), .int .i64 (fy)] 78 (0, 0))).alloc (.cells #[.int .i64 ox, .int .i64 oy] 78 (0, 0))).heap[w.heap.size]? = some _) := heap_later q1 (below2 _ _ _)
          have P10 : Hid (((wr.alloc (.cells #[.int .i64 (fx), .int .i64 (fy)] 78 (0, 0))).alloc (.cells #[.int .i64 ox, .int .i64 oy] 78 (0, 0))).heap[w.heap.size + 1]? = some _) := heap_later q2 (below2 _ _ _)
          have BW : Hid (Below wr.heap.size wr ((wr.alloc (.cells #[.int .i64 (fx), .int .i64 (fy)] 78 (0, 0))).alloc (.cells #[.int .i64 ox, .int .i64 oy] 78 (0, 0)))) := below2 _ _ _
          obtain ⟨e0, e1⟩ := cells2p P10.out
          obtain ⟨e2, e3⟩ := cells2p P18.out
          obtain ⟨e4, e5⟩ := cells2p P19.out
          go_wp2_with fail
          refine (inSquare_is _ _ _ _ _ false _ (by omega) (by omega) (by have := HOX.out; omega) (by have := HOY.out; omega) (by have h1 := HIN.out; have h2 := HFX.out; have h3 := HFY.out; have h4 := HOX.out; have h5 := HOY.out; rw [decide_eq_false_iff_not]; omega) (by omega)).mono ?_; rintro e w3 ⟨rfl, hb3⟩
          have HO3 := Lib.hid ((HO.out.below BW.out).below hb3)
          have y0 : wr.heap.size + 2 ≤ w3.heap.size := by have := hb3.size; simp at this; omega
          have P19' := heap_later P19.out hb3
          have P18' := heap_later P18.out hb3
          have P8' := heap_later P8.out hb3
          have P10' := heap_later P10.out hb3
          have z3 := hb3.size
          have BW3 := Lib.hid (below_seq BW.out hb3)
          obtain ⟨f0, f1⟩ := cells2p P19'
          obtain ⟨f2, f3⟩ := cells2p P18'
          obtain ⟨f4, f5⟩ := cells2p P8'
          obtain ⟨s1, s2⟩ := two_set P19' (.int .i64 (fx)) (.int .i64 (fy))
          have r0 := free3 P19' 0
          have r1 := free3 s1 1
          obtain ⟨t0, t1⟩ := cells2p s1
          obtain ⟨t2, t3⟩ := cells2p s2
          have G1 := gr_set w3 (wr.heap.size + 1) 0 (.int .i64 (fx))
          have G2 := grown_tr G1 (gr_set _ (wr.heap.size + 1) 1 (.int .i64 (fy)))
          have HOS := Lib.hid (OwnsI.keptUp9 HO3.out G2 (by simp [Value.ownBlock]; omega))
          have Q18 := heap_gr P18' G2 (by omega)
          have Q8 := heap_gr P8' G2 (by omega)
          have Q10 := heap_gr P10' G2 (by omega)
          have HG2 := Lib.hid G2
          obtain ⟨f6, f7⟩ := cells2p Q18
          obtain ⟨f8, f9⟩ := cells2p Q8
          clear G1 G2
          have i0 : 0 ≤ (fy) * 2 + (fx) := by omega
          have i1 : (fy) * 2 + (fx) < m := by have := HM.out; have h2 := HFX.out; have h3 := HFY.out; omega
          have ec : ((fy) * 2 + (fx)).toNat = (y + 1 - 1 + 0 / 2) * 2 + (x + 1 - 1 + 0 % 2) := by have h2 := HFX.out; have h3 := HFY.out; omega
          have EC := Lib.hid ec
          have ilt : (y + 1 - 1 + 0 / 2) * 2 + (x + 1 - 1 + 0 % 2) < aq.1.length := by rw [HFL.out, HM.out]; omega
          have hc9 : w3.cell? ⟨g, ((fy) * 2 + (fx)).toNat, none⟩ = some (.int .i64 (aq.1.getD ((y + 1 - 1 + 0 / 2) * 2 + (x + 1 - 1 + 0 % 2)) 0)) := by rw [ec]; exact HO3.out.cell ilt
          have hf9 : w3.frozen? ⟨g, ((fy) * 2 + (fx)).toNat, none⟩ = false := HO3.out.free _
          clear ec ilt
          clear e0 e1 e2 e3 e4 e5 c0 c1 d0 d1 hb3
          go_wp2_with fail
          have ST1 : OwnsI (((w3.setCell ⟨wr.heap.size + 1, 0, none⟩ (.int .i64 (fx))).setCell ⟨wr.heap.size + 1, 1, none⟩ (.int .i64 (fy))).setCell ⟨g, ((fy) * 2 + (fx)).toNat, none⟩ (.int .i64 ni)) B (.slice (some ⟨g, 0, none⟩) m cap) (aq.1.set ((y + 1 - 1 + 0 / 2) * 2 + (x + 1 - 1 + 0 % 2)) (n : Int)) := by
            have := (OwnsI.set HOS.out ((fy) * 2 + (fx)).toNat ni).1
            rw [show aq.1.set ((fy) * 2 + (fx)).toNat ni = aq.1.set ((y + 1 - 1 + 0 / 2) * 2 + (x + 1 - 1 + 0 % 2)) (n : Int) by rw [EC.out, HNI.out]] at this
            exact this
          have CALL := HIH.out m g cap B (aq.1.set ((y + 1 - 1 + 0 / 2) * 2 + (x + 1 - 1 + 0 % 2)) (n : Int)) (x + 0 % 2 * 1) (y + 0 / 2 * 1) (x + 1 - 1 + 0 % 2) (y + 1 - 1 + 0 / 2) aq.2 2 1 (fx) (fy) (fx) (fy) nq _ HM.out (by rw [List.length_set]; exact HFL.out) rfl rfl (by have h2 := HFX.out; omega) (by have h2 := HFY.out; omega) (by have h2 := HFX.out; omega) (by have h2 := HFY.out; omega) HNQ.out (by show _ + 1 ≤ _; omega) (by show _ + 1 ≤ _; omega) (by omega) (by omega) (by show _ + 0 ≤ _; omega) ST1
          rw [← HR.out] at CALL
          refine CALL.mono ?_; rintro e w5 ⟨rfl, ho5, hg5⟩
          have GS := gr_set ((w3.setCell ⟨wr.heap.size + 1, 0, none⟩ (.int .i64 (fx))).setCell ⟨wr.heap.size + 1, 1, none⟩ (.int .i64 (fy))) g ((fy) * 2 + (fx)).toNat (.int .i64 ni)
          have P8a := heap_gr (heap_gr Q8 GS (by omega)) hg5 (by omega)
          have P10a := heap_gr (heap_gr Q10 GS (by omega)) hg5 (by omega)
          have GD := Lib.hid (grown_tr (grown_tr (grown_nw (grown_tr HGR.out (grown_lw BW3.out _)) HG2.out (by omega)) GS) hg5)
          have HO5 := Lib.hid ho5; clear ho5 hg5 CALL GS ST1 Q8 Q10 Q18
          clear f0 f1 f2 f3 f4 f5 f6 f7 f8 f9 q1 q2 P8' P10' P18' P19' hc9 hf9 r0 r1 s1 s2 t0 t1 t2 t3
          go_wp2
          go_roundw
          case rel => exact ⟨1, 1, _, by omega, by first | rfl | simp, by first | rfl | omega, rfl, by rw [HNX.out], by rw [HNX.out]; exact HO5.out, P8a, P10a, GD.out⟩
          case measure => first | decide | simp [intOf]
      · obtain rfl : qi = 1 := by omega
        clear hqi HQI
        have hnq2 : nq = aq.2 := hnq
        have HNQ := Lib.hid hnq2; clear hnq hnq2
        have fn2 : aq.2 ≤ n + 5 := by omega
        have fn3 : aq.2 = n + 1 + 1 * 0 := fn
        have nq1 : 0 ≤ nq := by have := HNQ.out; omega
        have nq2 : nq ≤ 1005 := by have := HNQ.out; omega
        clear fn
        by_cases hin : x + 1 % 2 * 1 ≤ hx ∧ hx < x + 1 % 2 * 1 + 1 ∧ y + 1 / 2 * 1 ≤ hy ∧ hy < y + 1 / 2 * 1 + 1
        · have HIN := Lib.hid hin; clear hin
          obtain ⟨R, hR⟩ : ∃ R : List Int × Nat, R = cfN 2 0 aq.1 (x + 1 % 2 * 1) (y + 1 / 2 * 1) (hx) (hy) aq.2 := ⟨_, rfl⟩
          have hnx : C (1 + 1) = R := by
            rw [HSQ.out, hR]; unfold cfQ; rw [if_pos (by unfold inQ; rw [decide_eq_true_eq]; exact HIN.out)]
          have HNX := Lib.hid hnx; clear hnx
          have HR := Lib.hid hR; clear hR
          have P19 : Hid (((wr.alloc (.cells #[.int .i64 (fx + 1), .int .i64 (fy)] 78 (0, 0))).alloc (.cells #[.int .i64 ox, .int .i64 oy] 78 (0, 0))).heap[wr.heap.size + 1]? = some (.cells #[.int .i64 ox, .int .i64 oy] 78 (0, 0))) := heap_new2 wr (.cells #[.int .i64 (fx + 1), .int .i64 (fy)] 78 (0, 0)) (.cells #[.int .i64 ox, .int .i64 oy] 78 (0, 0))
          have P18 : Hid (((wr.alloc (.cells #[.int .i64 (fx + 1), .int .i64 (fy)] 78 (0, 0))).alloc (.cells #[.int .i64 ox, .int .i64 oy] 78 (0, 0))).heap[wr.heap.size]? = some (.cells #[.int .i64 (fx + 1), .int .i64 (fy)] 78 (0, 0))) := heap_later (heap_new wr (.cells #[.int .i64 (fx + 1), .int .i64 (fy)] 78 (0, 0))) (below1 _ _)
          have P8 : Hid (((wr.alloc (.cells #[.int .i64 (fx + 1), .int .i64 (fy)] 78 (0, 0))).alloc (.cells #[.int .i64 ox, .int .i64 oy] 78 (0, 0))).heap[w.heap.size]? = some _) := heap_later q1 (below2 _ _ _)
          have P10 : Hid (((wr.alloc (.cells #[.int .i64 (fx + 1), .int .i64 (fy)] 78 (0, 0))).alloc (.cells #[.int .i64 ox, .int .i64 oy] 78 (0, 0))).heap[w.heap.size + 1]? = some _) := heap_later q2 (below2 _ _ _)
          have BW : Hid (Below wr.heap.size wr ((wr.alloc (.cells #[.int .i64 (fx + 1), .int .i64 (fy)] 78 (0, 0))).alloc (.cells #[.int .i64 ox, .int .i64 oy] 78 (0, 0)))) := below2 _ _ _
          obtain ⟨e0, e1⟩ := cells2p P10.out
          obtain ⟨e2, e3⟩ := cells2p P18.out
          obtain ⟨e4, e5⟩ := cells2p P19.out
          go_wp2_with fail
          refine (inSquare_is _ _ _ _ _ true _ (by omega) (by omega) (by have := HOX.out; omega) (by have := HOY.out; omega) (by have h1 := HIN.out; have h2 := HFX.out; have h3 := HFY.out; have h4 := HOX.out; have h5 := HOY.out; rw [decide_eq_true_eq]; omega) (by omega)).mono ?_; rintro e w3 ⟨rfl, hb3⟩
          have HO3 := Lib.hid ((HO.out.below BW.out).below hb3)
          have y0 : wr.heap.size + 2 ≤ w3.heap.size := by have := hb3.size; simp at this; omega
          have P19' := heap_later P19.out hb3
          have P18' := heap_later P18.out hb3
          have P8' := heap_later P8.out hb3
          have P10' := heap_later P10.out hb3
          have z3 := hb3.size
          have BW3 := Lib.hid (below_seq BW.out hb3)
          obtain ⟨f0, f1⟩ := cells2p P19'
          obtain ⟨f2, f3⟩ := cells2p P18'
          obtain ⟨f4, f5⟩ := cells2p P8'
          clear e0 e1 e2 e3 e4 e5 c0 c1 d0 d1 hb3
          go_wp2_with fail
          have CALL := HIH.out m g cap B aq.1 (x + 1 % 2 * 1) (y + 1 / 2 * 1) hx hy aq.2 2 1 (fx + 1) (fy) ox oy nq w3 HM.out (HFL.out) rfl rfl (by have h2 := HFX.out; omega) (by have h2 := HFY.out; omega) HOX.out HOY.out HNQ.out (by show _ + 1 ≤ _; omega) (by show _ + 1 ≤ _; omega) b3 b4 (by show _ + 0 ≤ _; omega) HO3.out
          rw [← HR.out] at CALL
          refine CALL.mono ?_; rintro e w5 ⟨rfl, ho5, hg5⟩
          have P8a := heap_gr P8' hg5 (by omega)
          have P10a := heap_gr P10' hg5 (by omega)
          have GD := Lib.hid (grown_tr (grown_tr HGR.out (grown_lw BW3.out _)) hg5)
          have HO5 := Lib.hid ho5; clear ho5 hg5 CALL
          clear f0 f1 f2 f3 f4 f5 q1 q2 P8' P10' P18' P19'
          go_wp2
          go_roundw
          case rel => exact ⟨2, 2, _, by omega, by first | rfl | simp, by first | rfl | omega, rfl, by rw [HNX.out], by rw [HNX.out]; exact HO5.out, P8a, P10a, GD.out⟩
          case measure => first | decide | simp [intOf]
        · have HIN := Lib.hid hin; clear hin
          obtain ⟨R, hR⟩ : ∃ R : List Int × Nat, R = cfN 2 0 (aq.1.set ((y + 1 - 1 + 1 / 2) * 2 + (x + 1 - 1 + 1 % 2)) (n : Int)) (x + 1 % 2 * 1) (y + 1 / 2 * 1) (x + 1 - 1 + 1 % 2) (y + 1 - 1 + 1 / 2) aq.2 := ⟨_, rfl⟩
          have hnx : C (1 + 1) = R := by
            rw [HSQ.out, hR]; unfold cfQ; rw [if_neg (by unfold inQ; rw [decide_eq_true_eq]; exact HIN.out)]
          have HNX := Lib.hid hnx; clear hnx
          have HR := Lib.hid hR; clear hR
          have P19 : Hid (((wr.alloc (.cells #[.int .i64 (fx + 1), .int .i64 (fy)] 78 (0, 0))).alloc (.cells #[.int .i64 ox, .int .i64 oy] 78 (0, 0))).heap[wr.heap.size + 1]? = some (.cells #[.int .i64 ox, .int .i64 oy] 78 (0, 0))) := heap_new2 wr (.cells #[.int .i64 (fx + 1), .int .i64 (fy)] 78 (0, 0)) (.cells #[.int .i64 ox, .int .i64 oy] 78 (0, 0))
          have P18 : Hid (((wr.alloc (.cells #[.int .i64 (fx + 1), .int .i64 (fy)] 78 (0, 0))).alloc (.cells #[.int .i64 ox, .int .i64 oy] 78 (0, 0))).heap[wr.heap.size]? = some (.cells #[.int .i64 (fx + 1), .int .i64 (fy)] 78 (0, 0))) := heap_later (heap_new wr (.cells #[.int .i64 (fx + 1), .int .i64 (fy)] 78 (0, 0))) (below1 _ _)
          have P8 : Hid (((wr.alloc (.cells #[.int .i64 (fx + 1), .int .i64 (fy)] 78 (0, 0))).alloc (.cells #[.int .i64 ox, .int .i64 oy] 78 (0, 0))).heap[w.heap.size]? = some _) := heap_later q1 (below2 _ _ _)
          have P10 : Hid (((wr.alloc (.cells #[.int .i64 (fx + 1), .int .i64 (fy)] 78 (0, 0))).alloc (.cells #[.int .i64 ox, .int .i64 oy] 78 (0, 0))).heap[w.heap.size + 1]? = some _) := heap_later q2 (below2 _ _ _)
          have BW : Hid (Below wr.heap.size wr ((wr.alloc (.cells #[.int .i64 (fx + 1), .int .i64 (fy)] 78 (0, 0))).alloc (.cells #[.int .i64 ox, .int .i64 oy] 78 (0, 0)))) := below2 _ _ _
          obtain ⟨e0, e1⟩ := cells2p P10.out
          obtain ⟨e2, e3⟩ := cells2p P18.out
          obtain ⟨e4, e5⟩ := cells2p P19.out
          go_wp2_with fail
          refine (inSquare_is _ _ _ _ _ false _ (by omega) (by omega) (by have := HOX.out; omega) (by have := HOY.out; omega) (by have h1 := HIN.out; have h2 := HFX.out; have h3 := HFY.out; have h4 := HOX.out; have h5 := HOY.out; rw [decide_eq_false_iff_not]; omega) (by omega)).mono ?_; rintro e w3 ⟨rfl, hb3⟩
          have HO3 := Lib.hid ((HO.out.below BW.out).below hb3)
          have y0 : wr.heap.size + 2 ≤ w3.heap.size := by have := hb3.size; simp at this; omega
          have P19' := heap_later P19.out hb3
          have P18' := heap_later P18.out hb3
          have P8' := heap_later P8.out hb3
          have P10' := heap_later P10.out hb3
          have z3 := hb3.size
          have BW3 := Lib.hid (below_seq BW.out hb3)
          obtain ⟨f0, f1⟩ := cells2p P19'
          obtain ⟨f2, f3⟩ := cells2p P18'
          obtain ⟨f4, f5⟩ := cells2p P8'
          obtain ⟨s1, s2⟩ := two_set P19' (.int .i64 (fx + 1)) (.int .i64 (fy))
          have r0 := free3 P19' 0
          have r1 := free3 s1 1
          obtain ⟨t0, t1⟩ := cells2p s1
          obtain ⟨t2, t3⟩ := cells2p s2
          have G1 := gr_set w3 (wr.heap.size + 1) 0 (.int .i64 (fx + 1))
          have G2 := grown_tr G1 (gr_set _ (wr.heap.size + 1) 1 (.int .i64 (fy)))
          have HOS := Lib.hid (OwnsI.keptUp9 HO3.out G2 (by simp [Value.ownBlock]; omega))
          have Q18 := heap_gr P18' G2 (by omega)
          have Q8 := heap_gr P8' G2 (by omega)
          have Q10 := heap_gr P10' G2 (by omega)
          have HG2 := Lib.hid G2
          obtain ⟨f6, f7⟩ := cells2p Q18
          obtain ⟨f8, f9⟩ := cells2p Q8
          clear G1 G2
          have i0 : 0 ≤ (fy) * 2 + (fx + 1) := by omega
          have i1 : (fy) * 2 + (fx + 1) < m := by have := HM.out; have h2 := HFX.out; have h3 := HFY.out; omega
          have ec : ((fy) * 2 + (fx + 1)).toNat = (y + 1 - 1 + 1 / 2) * 2 + (x + 1 - 1 + 1 % 2) := by have h2 := HFX.out; have h3 := HFY.out; omega
          have EC := Lib.hid ec
          have ilt : (y + 1 - 1 + 1 / 2) * 2 + (x + 1 - 1 + 1 % 2) < aq.1.length := by rw [HFL.out, HM.out]; omega
          have hc9 : w3.cell? ⟨g, ((fy) * 2 + (fx + 1)).toNat, none⟩ = some (.int .i64 (aq.1.getD ((y + 1 - 1 + 1 / 2) * 2 + (x + 1 - 1 + 1 % 2)) 0)) := by rw [ec]; exact HO3.out.cell ilt
          have hf9 : w3.frozen? ⟨g, ((fy) * 2 + (fx + 1)).toNat, none⟩ = false := HO3.out.free _
          clear ec ilt
          clear e0 e1 e2 e3 e4 e5 c0 c1 d0 d1 hb3
          go_wp2_with fail
          have ST1 : OwnsI (((w3.setCell ⟨wr.heap.size + 1, 0, none⟩ (.int .i64 (fx + 1))).setCell ⟨wr.heap.size + 1, 1, none⟩ (.int .i64 (fy))).setCell ⟨g, ((fy) * 2 + (fx + 1)).toNat, none⟩ (.int .i64 ni)) B (.slice (some ⟨g, 0, none⟩) m cap) (aq.1.set ((y + 1 - 1 + 1 / 2) * 2 + (x + 1 - 1 + 1 % 2)) (n : Int)) := by
            have := (OwnsI.set HOS.out ((fy) * 2 + (fx + 1)).toNat ni).1
            rw [show aq.1.set ((fy) * 2 + (fx + 1)).toNat ni = aq.1.set ((y + 1 - 1 + 1 / 2) * 2 + (x + 1 - 1 + 1 % 2)) (n : Int) by rw [EC.out, HNI.out]] at this
            exact this
          have CALL := HIH.out m g cap B (aq.1.set ((y + 1 - 1 + 1 / 2) * 2 + (x + 1 - 1 + 1 % 2)) (n : Int)) (x + 1 % 2 * 1) (y + 1 / 2 * 1) (x + 1 - 1 + 1 % 2) (y + 1 - 1 + 1 / 2) aq.2 2 1 (fx + 1) (fy) (fx + 1) (fy) nq _ HM.out (by rw [List.length_set]; exact HFL.out) rfl rfl (by have h2 := HFX.out; omega) (by have h2 := HFY.out; omega) (by have h2 := HFX.out; omega) (by have h2 := HFY.out; omega) HNQ.out (by show _ + 1 ≤ _; omega) (by show _ + 1 ≤ _; omega) (by omega) (by omega) (by show _ + 0 ≤ _; omega) ST1
          rw [← HR.out] at CALL
          refine CALL.mono ?_; rintro e w5 ⟨rfl, ho5, hg5⟩
          have GS := gr_set ((w3.setCell ⟨wr.heap.size + 1, 0, none⟩ (.int .i64 (fx + 1))).setCell ⟨wr.heap.size + 1, 1, none⟩ (.int .i64 (fy))) g ((fy) * 2 + (fx + 1)).toNat (.int .i64 ni)
          have P8a := heap_gr (heap_gr Q8 GS (by omega)) hg5 (by omega)
          have P10a := heap_gr (heap_gr Q10 GS (by omega)) hg5 (by omega)
          have GD := Lib.hid (grown_tr (grown_tr (grown_nw (grown_tr HGR.out (grown_lw BW3.out _)) HG2.out (by omega)) GS) hg5)
          have HO5 := Lib.hid ho5; clear ho5 hg5 CALL GS ST1 Q8 Q10 Q18
          clear f0 f1 f2 f3 f4 f5 f6 f7 f8 f9 q1 q2 P8' P10' P18' P19' hc9 hf9 r0 r1 s1 s2 t0 t1 t2 t3
          go_wp2
          go_roundw
          case rel => exact ⟨2, 2, _, by omega, by first | rfl | simp, by first | rfl | omega, rfl, by rw [HNX.out], by rw [HNX.out]; exact HO5.out, P8a, P10a, GD.out⟩
          case measure => first | decide | simp [intOf]
      · obtain rfl : qi = 2 := by omega
        clear hqi HQI
        have hnq2 : nq = aq.2 := hnq
        have HNQ := Lib.hid hnq2; clear hnq hnq2
        have fn2 : aq.2 ≤ n + 5 := by omega
        have fn3 : aq.2 = n + 1 + 2 * 0 := fn
        have nq1 : 0 ≤ nq := by have := HNQ.out; omega
        have nq2 : nq ≤ 1005 := by have := HNQ.out; omega
        clear fn
        by_cases hin : x + 2 % 2 * 1 ≤ hx ∧ hx < x + 2 % 2 * 1 + 1 ∧ y + 2 / 2 * 1 ≤ hy ∧ hy < y + 2 / 2 * 1 + 1
        · have HIN := Lib.hid hin; clear hin
          obtain ⟨R, hR⟩ : ∃ R : List Int × Nat, R = cfN 2 0 aq.1 (x + 2 % 2 * 1) (y + 2 / 2 * 1) (hx) (hy) aq.2 := ⟨_, rfl⟩
          have hnx : C (2 + 1) = R := by
            rw [HSQ.out, hR]; unfold cfQ; rw [if_pos (by unfold inQ; rw [decide_eq_true_eq]; exact HIN.out)]
          have HNX := Lib.hid hnx; clear hnx
          have HR := Lib.hid hR; clear hR
          have P19 : Hid (((wr.alloc (.cells #[.int .i64 (fx), .int .i64 (fy + 1)] 78 (0, 0))).alloc (.cells #[.int .i64 ox, .int .i64 oy] 78 (0, 0))).heap[wr.heap.size + 1]? = some (.cells #[.int .i64 ox, .int .i64 oy] 78 (0, 0))) := heap_new2 wr (.cells #[.int .i64 (fx), .int .i64 (fy + 1)] 78 (0, 0)) (.cells #[.int .i64 ox, .int .i64 oy] 78 (0, 0))
          have P18 : Hid (((wr.alloc (.cells #[.int .i64 (fx), .int .i64 (fy + 1)] 78 (0, 0))).alloc (.cells #[.int .i64 ox, .int .i64 oy] 78 (0, 0))).heap[wr.heap.size]? = some (.cells #[.int .i64 (fx), .int .i64 (fy + 1)] 78 (0, 0))) := heap_later (heap_new wr (.cells #[.int .i64 (fx), .int .i64 (fy + 1)] 78 (0, 0))) (below1 _ _)
          have P8 : Hid (((wr.alloc (.cells #[.int .i64 (fx), .int .i64 (fy + 1)] 78 (0, 0))).alloc (.cells #[.int .i64 ox, .int .i64 oy] 78 (0, 0))).heap[w.heap.size]? = some _) := heap_later q1 (below2 _ _ _)
          have P10 : Hid (((wr.alloc (.cells #[.int .i64 (fx), .int .i64 (fy + 1)] 78 (0, 0))).alloc (.cells #[.int .i64 ox, .int .i64 oy] 78 (0, 0))).heap[w.heap.size + 1]? = some _) := heap_later q2 (below2 _ _ _)
          have BW : Hid (Below wr.heap.size wr ((wr.alloc (.cells #[.int .i64 (fx), .int .i64 (fy + 1)] 78 (0, 0))).alloc (.cells #[.int .i64 ox, .int .i64 oy] 78 (0, 0)))) := below2 _ _ _
          obtain ⟨e0, e1⟩ := cells2p P10.out
          obtain ⟨e2, e3⟩ := cells2p P18.out
          obtain ⟨e4, e5⟩ := cells2p P19.out
          go_wp2_with fail
          refine (inSquare_is _ _ _ _ _ true _ (by omega) (by omega) (by have := HOX.out; omega) (by have := HOY.out; omega) (by have h1 := HIN.out; have h2 := HFX.out; have h3 := HFY.out; have h4 := HOX.out; have h5 := HOY.out; rw [decide_eq_true_eq]; omega) (by omega)).mono ?_; rintro e w3 ⟨rfl, hb3⟩
          have HO3 := Lib.hid ((HO.out.below BW.out).below hb3)
          have y0 : wr.heap.size + 2 ≤ w3.heap.size := by have := hb3.size; simp at this; omega
          have P19' := heap_later P19.out hb3
          have P18' := heap_later P18.out hb3
          have P8' := heap_later P8.out hb3
          have P10' := heap_later P10.out hb3
          have z3 := hb3.size
          have BW3 := Lib.hid (below_seq BW.out hb3)
          obtain ⟨f0, f1⟩ := cells2p P19'
          obtain ⟨f2, f3⟩ := cells2p P18'
          obtain ⟨f4, f5⟩ := cells2p P8'
          clear e0 e1 e2 e3 e4 e5 c0 c1 d0 d1 hb3
          go_wp2_with fail
          have CALL := HIH.out m g cap B aq.1 (x + 2 % 2 * 1) (y + 2 / 2 * 1) hx hy aq.2 2 1 (fx) (fy + 1) ox oy nq w3 HM.out (HFL.out) rfl rfl (by have h2 := HFX.out; omega) (by have h2 := HFY.out; omega) HOX.out HOY.out HNQ.out (by show _ + 1 ≤ _; omega) (by show _ + 1 ≤ _; omega) b3 b4 (by show _ + 0 ≤ _; omega) HO3.out
          rw [← HR.out] at CALL
          refine CALL.mono ?_; rintro e w5 ⟨rfl, ho5, hg5⟩
          have P8a := heap_gr P8' hg5 (by omega)
          have P10a := heap_gr P10' hg5 (by omega)
          have GD := Lib.hid (grown_tr (grown_tr HGR.out (grown_lw BW3.out _)) hg5)
          have HO5 := Lib.hid ho5; clear ho5 hg5 CALL
          clear f0 f1 f2 f3 f4 f5 q1 q2 P8' P10' P18' P19'
          go_wp2
          go_roundw
          case rel => exact ⟨3, 3, _, by omega, by first | rfl | simp, by first | rfl | omega, rfl, by rw [HNX.out], by rw [HNX.out]; exact HO5.out, P8a, P10a, GD.out⟩
          case measure => first | decide | simp [intOf]
        · have HIN := Lib.hid hin; clear hin
          obtain ⟨R, hR⟩ : ∃ R : List Int × Nat, R = cfN 2 0 (aq.1.set ((y + 1 - 1 + 2 / 2) * 2 + (x + 1 - 1 + 2 % 2)) (n : Int)) (x + 2 % 2 * 1) (y + 2 / 2 * 1) (x + 1 - 1 + 2 % 2) (y + 1 - 1 + 2 / 2) aq.2 := ⟨_, rfl⟩
          have hnx : C (2 + 1) = R := by
            rw [HSQ.out, hR]; unfold cfQ; rw [if_neg (by unfold inQ; rw [decide_eq_true_eq]; exact HIN.out)]
          have HNX := Lib.hid hnx; clear hnx
          have HR := Lib.hid hR; clear hR
          have P19 : Hid (((wr.alloc (.cells #[.int .i64 (fx), .int .i64 (fy + 1)] 78 (0, 0))).alloc (.cells #[.int .i64 ox, .int .i64 oy] 78 (0, 0))).heap[wr.heap.size + 1]? = some (.cells #[.int .i64 ox, .int .i64 oy] 78 (0, 0))) := heap_new2 wr (.cells #[.int .i64 (fx), .int .i64 (fy + 1)] 78 (0, 0)) (.cells #[.int .i64 ox, .int .i64 oy] 78 (0, 0))
          have P18 : Hid (((wr.alloc (.cells #[.int .i64 (fx), .int .i64 (fy + 1)] 78 (0, 0))).alloc (.cells #[.int .i64 ox, .int .i64 oy] 78 (0, 0))).heap[wr.heap.size]? = some (.cells #[.int .i64 (fx), .int .i64 (fy + 1)] 78 (0, 0))) := heap_later (heap_new wr (.cells #[.int .i64 (fx), .int .i64 (fy + 1)] 78 (0, 0))) (below1 _ _)
          have P8 : Hid (((wr.alloc (.cells #[.int .i64 (fx), .int .i64 (fy + 1)] 78 (0, 0))).alloc (.cells #[.int .i64 ox, .int .i64 oy] 78 (0, 0))).heap[w.heap.size]? = some _) := heap_later q1 (below2 _ _ _)
          have P10 : Hid (((wr.alloc (.cells #[.int .i64 (fx), .int .i64 (fy + 1)] 78 (0, 0))).alloc (.cells #[.int .i64 ox, .int .i64 oy] 78 (0, 0))).heap[w.heap.size + 1]? = some _) := heap_later q2 (below2 _ _ _)
          have BW : Hid (Below wr.heap.size wr ((wr.alloc (.cells #[.int .i64 (fx), .int .i64 (fy + 1)] 78 (0, 0))).alloc (.cells #[.int .i64 ox, .int .i64 oy] 78 (0, 0)))) := below2 _ _ _
          obtain ⟨e0, e1⟩ := cells2p P10.out
          obtain ⟨e2, e3⟩ := cells2p P18.out
          obtain ⟨e4, e5⟩ := cells2p P19.out
          go_wp2_with fail
          refine (inSquare_is _ _ _ _ _ false _ (by omega) (by omega) (by have := HOX.out; omega) (by have := HOY.out; omega) (by have h1 := HIN.out; have h2 := HFX.out; have h3 := HFY.out; have h4 := HOX.out; have h5 := HOY.out; rw [decide_eq_false_iff_not]; omega) (by omega)).mono ?_; rintro e w3 ⟨rfl, hb3⟩
          have HO3 := Lib.hid ((HO.out.below BW.out).below hb3)
          have y0 : wr.heap.size + 2 ≤ w3.heap.size := by have := hb3.size; simp at this; omega
          have P19' := heap_later P19.out hb3
          have P18' := heap_later P18.out hb3
          have P8' := heap_later P8.out hb3
          have P10' := heap_later P10.out hb3
          have z3 := hb3.size
          have BW3 := Lib.hid (below_seq BW.out hb3)
          obtain ⟨f0, f1⟩ := cells2p P19'
          obtain ⟨f2, f3⟩ := cells2p P18'
          obtain ⟨f4, f5⟩ := cells2p P8'
          obtain ⟨s1, s2⟩ := two_set P19' (.int .i64 (fx)) (.int .i64 (fy + 1))
          have r0 := free3 P19' 0
          have r1 := free3 s1 1
          obtain ⟨t0, t1⟩ := cells2p s1
          obtain ⟨t2, t3⟩ := cells2p s2
          have G1 := gr_set w3 (wr.heap.size + 1) 0 (.int .i64 (fx))
          have G2 := grown_tr G1 (gr_set _ (wr.heap.size + 1) 1 (.int .i64 (fy + 1)))
          have HOS := Lib.hid (OwnsI.keptUp9 HO3.out G2 (by simp [Value.ownBlock]; omega))
          have Q18 := heap_gr P18' G2 (by omega)
          have Q8 := heap_gr P8' G2 (by omega)
          have Q10 := heap_gr P10' G2 (by omega)
          have HG2 := Lib.hid G2
          obtain ⟨f6, f7⟩ := cells2p Q18
          obtain ⟨f8, f9⟩ := cells2p Q8
          clear G1 G2
          have i0 : 0 ≤ (fy + 1) * 2 + (fx) := by omega
          have i1 : (fy + 1) * 2 + (fx) < m := by have := HM.out; have h2 := HFX.out; have h3 := HFY.out; omega
          have ec : ((fy + 1) * 2 + (fx)).toNat = (y + 1 - 1 + 2 / 2) * 2 + (x + 1 - 1 + 2 % 2) := by have h2 := HFX.out; have h3 := HFY.out; omega
          have EC := Lib.hid ec
          have ilt : (y + 1 - 1 + 2 / 2) * 2 + (x + 1 - 1 + 2 % 2) < aq.1.length := by rw [HFL.out, HM.out]; omega
          have hc9 : w3.cell? ⟨g, ((fy + 1) * 2 + (fx)).toNat, none⟩ = some (.int .i64 (aq.1.getD ((y + 1 - 1 + 2 / 2) * 2 + (x + 1 - 1 + 2 % 2)) 0)) := by rw [ec]; exact HO3.out.cell ilt
          have hf9 : w3.frozen? ⟨g, ((fy + 1) * 2 + (fx)).toNat, none⟩ = false := HO3.out.free _
          clear ec ilt
          clear e0 e1 e2 e3 e4 e5 c0 c1 d0 d1 hb3
          go_wp2_with fail
          have ST1 : OwnsI (((w3.setCell ⟨wr.heap.size + 1, 0, none⟩ (.int .i64 (fx))).setCell ⟨wr.heap.size + 1, 1, none⟩ (.int .i64 (fy + 1))).setCell ⟨g, ((fy + 1) * 2 + (fx)).toNat, none⟩ (.int .i64 ni)) B (.slice (some ⟨g, 0, none⟩) m cap) (aq.1.set ((y + 1 - 1 + 2 / 2) * 2 + (x + 1 - 1 + 2 % 2)) (n : Int)) := by
            have := (OwnsI.set HOS.out ((fy + 1) * 2 + (fx)).toNat ni).1
            rw [show aq.1.set ((fy + 1) * 2 + (fx)).toNat ni = aq.1.set ((y + 1 - 1 + 2 / 2) * 2 + (x + 1 - 1 + 2 % 2)) (n : Int) by rw [EC.out, HNI.out]] at this
            exact this
          have CALL := HIH.out m g cap B (aq.1.set ((y + 1 - 1 + 2 / 2) * 2 + (x + 1 - 1 + 2 % 2)) (n : Int)) (x + 2 % 2 * 1) (y + 2 / 2 * 1) (x + 1 - 1 + 2 % 2) (y + 1 - 1 + 2 / 2) aq.2 2 1 (fx) (fy + 1) (fx) (fy + 1) nq _ HM.out (by rw [List.length_set]; exact HFL.out) rfl rfl (by have h2 := HFX.out; omega) (by have h2 := HFY.out; omega) (by have h2 := HFX.out; omega) (by have h2 := HFY.out; omega) HNQ.out (by show _ + 1 ≤ _; omega) (by show _ + 1 ≤ _; omega) (by omega) (by omega) (by show _ + 0 ≤ _; omega) ST1
          rw [← HR.out] at CALL
          refine CALL.mono ?_; rintro e w5 ⟨rfl, ho5, hg5⟩
          have GS := gr_set ((w3.setCell ⟨wr.heap.size + 1, 0, none⟩ (.int .i64 (fx))).setCell ⟨wr.heap.size + 1, 1, none⟩ (.int .i64 (fy + 1))) g ((fy + 1) * 2 + (fx)).toNat (.int .i64 ni)
          have P8a := heap_gr (heap_gr Q8 GS (by omega)) hg5 (by omega)
          have P10a := heap_gr (heap_gr Q10 GS (by omega)) hg5 (by omega)
          have GD := Lib.hid (grown_tr (grown_tr (grown_nw (grown_tr HGR.out (grown_lw BW3.out _)) HG2.out (by omega)) GS) hg5)
          have HO5 := Lib.hid ho5; clear ho5 hg5 CALL GS ST1 Q8 Q10 Q18
          clear f0 f1 f2 f3 f4 f5 f6 f7 f8 f9 q1 q2 P8' P10' P18' P19' hc9 hf9 r0 r1 s1 s2 t0 t1 t2 t3
          go_wp2
          go_roundw
          case rel => exact ⟨3, 3, _, by omega, by first | rfl | simp, by first | rfl | omega, rfl, by rw [HNX.out], by rw [HNX.out]; exact HO5.out, P8a, P10a, GD.out⟩
          case measure => first | decide | simp [intOf]
      · obtain rfl : qi = 3 := by omega
        clear hqi HQI
        have hnq2 : nq = aq.2 := hnq
        have HNQ := Lib.hid hnq2; clear hnq hnq2
        have fn2 : aq.2 ≤ n + 5 := by omega
        have fn3 : aq.2 = n + 1 + 3 * 0 := fn
        have nq1 : 0 ≤ nq := by have := HNQ.out; omega
        have nq2 : nq ≤ 1005 := by have := HNQ.out; omega
        clear fn
        by_cases hin : x + 3 % 2 * 1 ≤ hx ∧ hx < x + 3 % 2 * 1 + 1 ∧ y + 3 / 2 * 1 ≤ hy ∧ hy < y + 3 / 2 * 1 + 1
        · have HIN := Lib.hid hin; clear hin
          obtain ⟨R, hR⟩ : ∃ R : List Int × Nat, R = cfN 2 0 aq.1 (x + 3 % 2 * 1) (y + 3 / 2 * 1) (hx) (hy) aq.2 := ⟨_, rfl⟩
          have hnx : C (3 + 1) = R := by
            rw [HSQ.out, hR]; unfold cfQ; rw [if_pos (by unfold inQ; rw [decide_eq_true_eq]; exact HIN.out)]
          have HNX := Lib.hid hnx; clear hnx
          have HR := Lib.hid hR; clear hR
          have P19 : Hid (((wr.alloc (.cells #[.int .i64 (fx + 1), .int .i64 (fy + 1)] 78 (0, 0))).alloc (.cells #[.int .i64 ox, .int .i64 oy] 78 (0, 0))).heap[wr.heap.size + 1]? = some (.cells #[.int .i64 ox, .int .i64 oy] 78 (0, 0))) := heap_new2 wr (.cells #[.int .i64 (fx + 1), .int .i64 (fy + 1)] 78 (0, 0)) (.cells #[.int .i64 ox, .int .i64 oy] 78 (0, 0))
          have P18 : Hid (((wr.alloc (.cells #[.int .i64 (fx + 1), .int .i64 (fy + 1)] 78 (0, 0))).alloc (.cells #[.int .i64 ox, .int .i64 oy] 78 (0, 0))).heap[wr.heap.size]? = some (.cells #[.int .i64 (fx + 1), .int .i64 (fy + 1)] 78 (0, 0))) := heap_later (heap_new wr (.cells #[.int .i64 (fx + 1), .int .i64 (fy + 1)] 78 (0, 0))) (below1 _ _)
          have P8 : Hid (((wr.alloc (.cells #[.int .i64 (fx + 1), .int .i64 (fy + 1)] 78 (0, 0))).alloc (.cells #[.int .i64 ox, .int .i64 oy] 78 (0, 0))).heap[w.heap.size]? = some _) := heap_later q1 (below2 _ _ _)
          have P10 : Hid (((wr.alloc (.cells #[.int .i64 (fx + 1), .int .i64 (fy + 1)] 78 (0, 0))).alloc (.cells #[.int .i64 ox, .int .i64 oy] 78 (0, 0))).heap[w.heap.size + 1]? = some _) := heap_later q2 (below2 _ _ _)
          have BW : Hid (Below wr.heap.size wr ((wr.alloc (.cells #[.int .i64 (fx + 1), .int .i64 (fy + 1)] 78 (0, 0))).alloc (.cells #[.int .i64 ox, .int .i64 oy] 78 (0, 0)))) := below2 _ _ _
          obtain ⟨e0, e1⟩ := cells2p P10.out
          obtain ⟨e2, e3⟩ := cells2p P18.out
          obtain ⟨e4, e5⟩ := cells2p P19.out
          go_wp2_with fail
          refine (inSquare_is _ _ _ _ _ true _ (by omega) (by omega) (by have := HOX.out; omega) (by have := HOY.out; omega) (by have h1 := HIN.out; have h2 := HFX.out; have h3 := HFY.out; have h4 := HOX.out; have h5 := HOY.out; rw [decide_eq_true_eq]; omega) (by omega)).mono ?_; rintro e w3 ⟨rfl, hb3⟩
          have HO3 := Lib.hid ((HO.out.below BW.out).below hb3)
          have y0 : wr.heap.size + 2 ≤ w3.heap.size := by have := hb3.size; simp at this; omega
          have P19' := heap_later P19.out hb3
          have P18' := heap_later P18.out hb3
          have P8' := heap_later P8.out hb3
          have P10' := heap_later P10.out hb3
          have z3 := hb3.size
          have BW3 := Lib.hid (below_seq BW.out hb3)
          obtain ⟨f0, f1⟩ := cells2p P19'
          obtain ⟨f2, f3⟩ := cells2p P18'
          obtain ⟨f4, f5⟩ := cells2p P8'
          clear e0 e1 e2 e3 e4 e5 c0 c1 d0 d1 hb3
          go_wp2_with fail
          have CALL := HIH.out m g cap B aq.1 (x + 3 % 2 * 1) (y + 3 / 2 * 1) hx hy aq.2 2 1 (fx + 1) (fy + 1) ox oy nq w3 HM.out (HFL.out) rfl rfl (by have h2 := HFX.out; omega) (by have h2 := HFY.out; omega) HOX.out HOY.out HNQ.out (by show _ + 1 ≤ _; omega) (by show _ + 1 ≤ _; omega) b3 b4 (by show _ + 0 ≤ _; omega) HO3.out
          rw [← HR.out] at CALL
          refine CALL.mono ?_; rintro e w5 ⟨rfl, ho5, hg5⟩
          have P8a := heap_gr P8' hg5 (by omega)
          have P10a := heap_gr P10' hg5 (by omega)
          have GD := Lib.hid (grown_tr (grown_tr HGR.out (grown_lw BW3.out _)) hg5)
          have HO5 := Lib.hid ho5; clear ho5 hg5 CALL
          clear f0 f1 f2 f3 f4 f5 q1 q2 P8' P10' P18' P19'
          go_wp2
          go_roundw
          case rel => exact ⟨4, 4, _, by omega, by first | rfl | simp, by first | rfl | omega, rfl, by rw [HNX.out], by rw [HNX.out]; exact HO5.out, P8a, P10a, GD.out⟩
          case measure => first | decide | simp [intOf]
        · have HIN := Lib.hid hin; clear hin
          obtain ⟨R, hR⟩ : ∃ R : List Int × Nat, R = cfN 2 0 (aq.1.set ((y + 1 - 1 + 3 / 2) * 2 + (x + 1 - 1 + 3 % 2)) (n : Int)) (x + 3 % 2 * 1) (y + 3 / 2 * 1) (x + 1 - 1 + 3 % 2) (y + 1 - 1 + 3 / 2) aq.2 := ⟨_, rfl⟩
          have hnx : C (3 + 1) = R := by
            rw [HSQ.out, hR]; unfold cfQ; rw [if_neg (by unfold inQ; rw [decide_eq_true_eq]; exact HIN.out)]
          have HNX := Lib.hid hnx; clear hnx
          have HR := Lib.hid hR; clear hR
          have P19 : Hid (((wr.alloc (.cells #[.int .i64 (fx + 1), .int .i64 (fy + 1)] 78 (0, 0))).alloc (.cells #[.int .i64 ox, .int .i64 oy] 78 (0, 0))).heap[wr.heap.size + 1]? = some (.cells #[.int .i64 ox, .int .i64 oy] 78 (0, 0))) := heap_new2 wr (.cells #[.int .i64 (fx + 1), .int .i64 (fy + 1)] 78 (0, 0)) (.cells #[.int .i64 ox, .int .i64 oy] 78 (0, 0))
          have P18 : Hid (((wr.alloc (.cells #[.int .i64 (fx + 1), .int .i64 (fy + 1)] 78 (0, 0))).alloc (.cells #[.int .i64 ox, .int .i64 oy] 78 (0, 0))).heap[wr.heap.size]? = some (.cells #[.int .i64 (fx + 1), .int .i64 (fy + 1)] 78 (0, 0))) := heap_later (heap_new wr (.cells #[.int .i64 (fx + 1), .int .i64 (fy + 1)] 78 (0, 0))) (below1 _ _)
          have P8 : Hid (((wr.alloc (.cells #[.int .i64 (fx + 1), .int .i64 (fy + 1)] 78 (0, 0))).alloc (.cells #[.int .i64 ox, .int .i64 oy] 78 (0, 0))).heap[w.heap.size]? = some _) := heap_later q1 (below2 _ _ _)
          have P10 : Hid (((wr.alloc (.cells #[.int .i64 (fx + 1), .int .i64 (fy + 1)] 78 (0, 0))).alloc (.cells #[.int .i64 ox, .int .i64 oy] 78 (0, 0))).heap[w.heap.size + 1]? = some _) := heap_later q2 (below2 _ _ _)
          have BW : Hid (Below wr.heap.size wr ((wr.alloc (.cells #[.int .i64 (fx + 1), .int .i64 (fy + 1)] 78 (0, 0))).alloc (.cells #[.int .i64 ox, .int .i64 oy] 78 (0, 0)))) := below2 _ _ _
          obtain ⟨e0, e1⟩ := cells2p P10.out
          obtain ⟨e2, e3⟩ := cells2p P18.out
          obtain ⟨e4, e5⟩ := cells2p P19.out
          go_wp2_with fail
          refine (inSquare_is _ _ _ _ _ false _ (by omega) (by omega) (by have := HOX.out; omega) (by have := HOY.out; omega) (by have h1 := HIN.out; have h2 := HFX.out; have h3 := HFY.out; have h4 := HOX.out; have h5 := HOY.out; rw [decide_eq_false_iff_not]; omega) (by omega)).mono ?_; rintro e w3 ⟨rfl, hb3⟩
          have HO3 := Lib.hid ((HO.out.below BW.out).below hb3)
          have y0 : wr.heap.size + 2 ≤ w3.heap.size := by have := hb3.size; simp at this; omega
          have P19' := heap_later P19.out hb3
          have P18' := heap_later P18.out hb3
          have P8' := heap_later P8.out hb3
          have P10' := heap_later P10.out hb3
          have z3 := hb3.size
          have BW3 := Lib.hid (below_seq BW.out hb3)
          obtain ⟨f0, f1⟩ := cells2p P19'
          obtain ⟨f2, f3⟩ := cells2p P18'
          obtain ⟨f4, f5⟩ := cells2p P8'
          obtain ⟨s1, s2⟩ := two_set P19' (.int .i64 (fx + 1)) (.int .i64 (fy + 1))
          have r0 := free3 P19' 0
          have r1 := free3 s1 1
          obtain ⟨t0, t1⟩ := cells2p s1
          obtain ⟨t2, t3⟩ := cells2p s2
          have G1 := gr_set w3 (wr.heap.size + 1) 0 (.int .i64 (fx + 1))
          have G2 := grown_tr G1 (gr_set _ (wr.heap.size + 1) 1 (.int .i64 (fy + 1)))
          have HOS := Lib.hid (OwnsI.keptUp9 HO3.out G2 (by simp [Value.ownBlock]; omega))
          have Q18 := heap_gr P18' G2 (by omega)
          have Q8 := heap_gr P8' G2 (by omega)
          have Q10 := heap_gr P10' G2 (by omega)
          have HG2 := Lib.hid G2
          obtain ⟨f6, f7⟩ := cells2p Q18
          obtain ⟨f8, f9⟩ := cells2p Q8
          clear G1 G2
          have i0 : 0 ≤ (fy + 1) * 2 + (fx + 1) := by omega
          have i1 : (fy + 1) * 2 + (fx + 1) < m := by have := HM.out; have h2 := HFX.out; have h3 := HFY.out; omega
          have ec : ((fy + 1) * 2 + (fx + 1)).toNat = (y + 1 - 1 + 3 / 2) * 2 + (x + 1 - 1 + 3 % 2) := by have h2 := HFX.out; have h3 := HFY.out; omega
          have EC := Lib.hid ec
          have ilt : (y + 1 - 1 + 3 / 2) * 2 + (x + 1 - 1 + 3 % 2) < aq.1.length := by rw [HFL.out, HM.out]; omega
          have hc9 : w3.cell? ⟨g, ((fy + 1) * 2 + (fx + 1)).toNat, none⟩ = some (.int .i64 (aq.1.getD ((y + 1 - 1 + 3 / 2) * 2 + (x + 1 - 1 + 3 % 2)) 0)) := by rw [ec]; exact HO3.out.cell ilt
          have hf9 : w3.frozen? ⟨g, ((fy + 1) * 2 + (fx + 1)).toNat, none⟩ = false := HO3.out.free _
          clear ec ilt
          clear e0 e1 e2 e3 e4 e5 c0 c1 d0 d1 hb3
          go_wp2_with fail
          have ST1 : OwnsI (((w3.setCell ⟨wr.heap.size + 1, 0, none⟩ (.int .i64 (fx + 1))).setCell ⟨wr.heap.size + 1, 1, none⟩ (.int .i64 (fy + 1))).setCell ⟨g, ((fy + 1) * 2 + (fx + 1)).toNat, none⟩ (.int .i64 ni)) B (.slice (some ⟨g, 0, none⟩) m cap) (aq.1.set ((y + 1 - 1 + 3 / 2) * 2 + (x + 1 - 1 + 3 % 2)) (n : Int)) := by
            have := (OwnsI.set HOS.out ((fy + 1) * 2 + (fx + 1)).toNat ni).1
            rw [show aq.1.set ((fy + 1) * 2 + (fx + 1)).toNat ni = aq.1.set ((y + 1 - 1 + 3 / 2) * 2 + (x + 1 - 1 + 3 % 2)) (n : Int) by rw [EC.out, HNI.out]] at this
            exact this
          have CALL := HIH.out m g cap B (aq.1.set ((y + 1 - 1 + 3 / 2) * 2 + (x + 1 - 1 + 3 % 2)) (n : Int)) (x + 3 % 2 * 1) (y + 3 / 2 * 1) (x + 1 - 1 + 3 % 2) (y + 1 - 1 + 3 / 2) aq.2 2 1 (fx + 1) (fy + 1) (fx + 1) (fy + 1) nq _ HM.out (by rw [List.length_set]; exact HFL.out) rfl rfl (by have h2 := HFX.out; omega) (by have h2 := HFY.out; omega) (by have h2 := HFX.out; omega) (by have h2 := HFY.out; omega) HNQ.out (by show _ + 1 ≤ _; omega) (by show _ + 1 ≤ _; omega) (by omega) (by omega) (by show _ + 0 ≤ _; omega) ST1
          rw [← HR.out] at CALL
          refine CALL.mono ?_; rintro e w5 ⟨rfl, ho5, hg5⟩
          have GS := gr_set ((w3.setCell ⟨wr.heap.size + 1, 0, none⟩ (.int .i64 (fx + 1))).setCell ⟨wr.heap.size + 1, 1, none⟩ (.int .i64 (fy + 1))) g ((fy + 1) * 2 + (fx + 1)).toNat (.int .i64 ni)
          have P8a := heap_gr (heap_gr Q8 GS (by omega)) hg5 (by omega)
          have P10a := heap_gr (heap_gr Q10 GS (by omega)) hg5 (by omega)
          have GD := Lib.hid (grown_tr (grown_tr (grown_nw (grown_tr HGR.out (grown_lw BW3.out _)) HG2.out (by omega)) GS) hg5)
          have HO5 := Lib.hid ho5; clear ho5 hg5 CALL GS ST1 Q8 Q10 Q18
          clear f0 f1 f2 f3 f4 f5 f6 f7 f8 f9 q1 q2 P8' P10' P18' P19' hc9 hf9 r0 r1 s1 s2 t0 t1 t2 t3
          go_wp2
          go_roundw
          case rel => exact ⟨4, 4, _, by omega, by first | rfl | simp, by first | rfl | omega, rfl, by rw [HNX.out], by rw [HNX.out]; exact HO5.out, P8a, P10a, GD.out⟩
          case measure => first | decide | simp [intOf]
    · have e4 : q = 4 := by omega
      subst e4
      clear hqi
      obtain rfl : qi = 4 := by have := HQI.out; omega
      have HNQ := Lib.hid hnq; clear hnq
      clear fn HSQ c0 c1 d0 d1 q1 q2
      go_wp2
      go_ret
      exact ⟨by show Ending.returned (.int .i64 nq) = _; rw [HNQ.out, HAQ.out], by rw [← HAQ.out]; exact HO.out, HGR.out⟩

set_option maxHeartbeats 4000000 in
theorem sqI_up40 (ih : SqI 4 0) : SqI 4 (0 + 1) := by
  intro m g cap B L x y hx hy n WI SI fx fy ox oy ni w hm hL hWI hSI hfx hfy hox hoy hni b1 b2 b3 b4 hn ho
  obtain ⟨a0, ha0⟩ : ∃ a0 : List Int × Nat, a0 = (L, n + 1) := ⟨_, rfl⟩
  obtain ⟨C, hC⟩ : ∃ C : Nat → List Int × Nat, C = cfK (cfN 4 0) 1 4 x y hx hy n a0 := ⟨_, rfl⟩
  have e16 : m = 16 := hm
  have b1' : x + 2 ≤ 4 := b1
  have b2' : y + 2 ≤ 4 := b2
  have hn' : n + 1 ≤ 1000 := hn
  obtain rfl : SI = 2 := hSI
  obtain rfl : WI = 4 := hWI
  have p1 := heap_later (heap_new w (.cells #[.int .i64 fx, .int .i64 fy] 78 (0, 0))) (below1 _ (.cells #[.int .i64 ox, .int .i64 oy] 78 (0, 0)))
  have p2 := heap_new2 w (.cells #[.int .i64 fx, .int .i64 fy] 78 (0, 0)) (.cells #[.int .i64 ox, .int .i64 oy] 78 (0, 0))
  have bb := Lib.hid (below2 w (.cells #[.int .i64 fx, .int .i64 fy] 78 (0, 0)) (.cells #[.int .i64 ox, .int .i64 oy] 78 (0, 0)))
  have o2 := Lib.hid ((ho.alloc (.cells #[.int .i64 fx, .int .i64 fy] 78 (0, 0))).alloc (.cells #[.int .i64 ox, .int .i64 oy] 78 (0, 0)))
  have lg := ho.lt
  clear ho
  have n1 : ni + 1 ≤ 1002 := by omega
  have fx0 : 0 ≤ fx := by omega
  have fx1 : fx ≤ 4 := by omega
  have fy0 : 0 ≤ fy := by omega
  have fy1 : fy ≤ 4 := by omega
  have n0 : 0 ≤ ni := by omega
  have n2 : n ≤ 1000 := by omega
  have hstart : ni + 1 = ((C 0).2 : Nat) := by rw [hC]; show _ = ((a0.2 : Nat) : Int); rw [ha0]; simp; omega
  have hst2 : (C 0).1 = L := by rw [hC]; show a0.1 = L; rw [ha0]
  have hstep : ∀ q, C (q + 1) = cfQ (cfN 4 0) 1 4 x y hx hy n q (C q) := fun q => by rw [hC]; rfl
  have facts : ∀ q, (C q).1.length = m ∧ (C q).2 = n + 1 + q * 0 := fun q => by
    have := cfK_facts (cfN 4 0) (cnN 0) 1 4 x y hx hy n a0 (cfN_facts 4 0) q
    rw [← hC, ha0] at this
    exact ⟨this.1.trans hL, this.2⟩
  have hend : cfN 4 (0 + 1) L x y hx hy n = C 4 := by rw [hC, ha0]; rfl
  rw [hend]
  clear hend hC ha0 hn b1 b2 hm
  have HST := Lib.hid hstart; clear hstart
  have HST2 := Lib.hid hst2; clear hst2
  have HFX := Lib.hid hfx; clear hfx
  have HFY := Lib.hid hfy; clear hfy
  have HOX := Lib.hid hox; clear hox
  have HOY := Lib.hid hoy; clear hoy
  have HNI := Lib.hid hni; clear hni
  have HM := Lib.hid e16; clear e16
  have HLN := Lib.hid hL; clear hL
  have HIH := Lib.hid ih; clear ih
  have HFA := Lib.hid facts; clear facts
  have HSP := Lib.hid hstep; clear hstep
  go_enter Try.func71, Try.ntmps71
  go_wp2
  go_loopw [5, 15, 16, 17, 18, 19, 28] (fun nx _ _ _ _ _ i wr => ∃ (q : Nat) (qi nq : Int), q ≤ 4 ∧ i = .int .i64 qi ∧ qi = q ∧ nx = .int .i64 nq ∧ nq = ((C q).2 : Nat) ∧ OwnsI wr B (.slice (some ⟨g, 0, none⟩) m cap) (C q).1 ∧ wr.heap[w.heap.size]? = some (.cells #[.int .i64 fx, .int .i64 fy] 78 (0, 0)) ∧ wr.heap[w.heap.size + 1]? = some (.cells #[.int .i64 ox, .int .i64 oy] 78 (0, 0)) ∧ w.grownBy wr (some g)) (fun _ _ _ _ _ _ i _ => 4 - (intOf i).toNat)
  case atStart => exact ⟨0, 0, ni + 1, by omega, rfl, rfl, rfl, HST.out, by rw [HST2.out]; exact o2.out, p1, p2, grown_lw bb.out _⟩
  case round =>
    rename World => wr
    clear p1 p2 bb o2 HST HST2
    obtain ⟨q, qi, nq, hq, rfl, hqi, rfl, hnq, ho, q1, q2, hgr⟩ := hrel
    have lr := ho.lt
    have zr := heap_lt q2
    have z1 := hgr.size
    obtain ⟨c0, c1⟩ := cells2p q1
    obtain ⟨d0, d1⟩ := cells2p q2
    obtain ⟨fl, fn⟩ := HFA.out q
    have HO := Lib.hid ho; clear ho
    have HGR := Lib.hid hgr; clear hgr
    obtain ⟨aq, haq⟩ : ∃ aq, aq = C q := ⟨_, rfl⟩
    have hsp := HSP.out q
    rw [← haq] at HO fl fn hsp hnq
    have HQI := Lib.hid hqi
    have HFL := Lib.hid fl; clear fl
    have HSQ := Lib.hid hsp; clear hsp
    have HAQ := Lib.hid haq; clear haq
    by_cases hlt : q < 4
    · rcases (by omega : q = 0 ∨ q = 1 ∨ q = 2 ∨ q = 3) with rfl | rfl | rfl | rfl
      · obtain rfl : qi = 0 := by omega
        clear hqi HQI
        have hnq2 : nq = aq.2 := hnq
        have HNQ := Lib.hid hnq2; clear hnq hnq2
        have fn2 : aq.2 ≤ n + 5 := by omega
        have fn3 : aq.2 = n + 1 + 0 * 0 := fn
        have nq1 : 0 ≤ nq := by have := HNQ.out; omega
        have nq2 : nq ≤ 1005 := by have := HNQ.out; omega
        clear fn
        by_cases hin : x + 0 % 2 * 1 ≤ hx ∧ hx < x + 0 % 2 * 1 + 1 ∧ y + 0 / 2 * 1 ≤ hy ∧ hy < y + 0 / 2 * 1 + 1
        · have HIN := Lib.hid hin; clear hin
          obtain ⟨R, hR⟩ : ∃ R : List Int × Nat, R = cfN 4 0 aq.1 (x + 0 % 2 * 1) (y + 0 / 2 * 1) (hx) (hy) aq.2 := ⟨_, rfl⟩
          have hnx : C (0 + 1) = R := by
            rw [HSQ.out, hR]; unfold cfQ; rw [if_pos (by unfold inQ; rw [decide_eq_true_eq]; exact HIN.out)]
          have HNX := Lib.hid hnx; clear hnx
          have HR := Lib.hid hR; clear hR
          have P19 : Hid (((wr.alloc (.cells #[.int .i64 (fx), .int .i64 (fy)] 78 (0, 0))).alloc (.cells #[.int .i64 ox, .int .i64 oy] 78 (0, 0))).heap[wr.heap.size + 1]? = some (.cells #[.int .i64 ox, .int .i64 oy] 78 (0, 0))) := heap_new2 wr (.cells #[.int .i64 (fx), .int .i64 (fy)] 78 (0, 0)) (.cells #[.int .i64 ox, .int .i64 oy] 78 (0, 0))
          have P18 : Hid (((wr.alloc (.cells #[.int .i64 (fx), .int .i64 (fy)] 78 (0, 0))).alloc (.cells #[.int .i64 ox, .int .i64 oy] 78 (0, 0))).heap[wr.heap.size]? = some (.cells #[.int .i64 (fx), .int .i64 (fy)] 78 (0, 0))) := heap_later (heap_new wr (.cells #[.int .i64 (fx), .int .i64 (fy)] 78 (0, 0))) (below1 _ _)
          have P8 : Hid (((wr.alloc (.cells #[.int .i64 (fx), .int .i64 (fy)] 78 (0, 0))).alloc (.cells #[.int .i64 ox, .int .i64 oy] 78 (0, 0))).heap[w.heap.size]? = some _) := heap_later q1 (below2 _ _ _)
          have P10 : Hid (((wr.alloc (.cells #[.int .i64 (fx), .int .i64 (fy)] 78 (0, 0))).alloc (.cells #[.int .i64 ox, .int .i64 oy] 78 (0, 0))).heap[w.heap.size + 1]? = some _) := heap_later q2 (below2 _ _ _)
          have BW : Hid (Below wr.heap.size wr ((wr.alloc (.cells #[.int .i64 (fx), .int .i64 (fy)] 78 (0, 0))).alloc (.cells #[.int .i64 ox, .int .i64 oy] 78 (0, 0)))) := below2 _ _ _
          obtain ⟨e0, e1⟩ := cells2p P10.out
          obtain ⟨e2, e3⟩ := cells2p P18.out
          obtain ⟨e4, e5⟩ := cells2p P19.out
          go_wp2_with fail
          refine (inSquare_is _ _ _ _ _ true _ (by omega) (by omega) (by have := HOX.out; omega) (by have := HOY.out; omega) (by have h1 := HIN.out; have h2 := HFX.out; have h3 := HFY.out; have h4 := HOX.out; have h5 := HOY.out; rw [decide_eq_true_eq]; omega) (by omega)).mono ?_; rintro e w3 ⟨rfl, hb3⟩
          have HO3 := Lib.hid ((HO.out.below BW.out).below hb3)
          have y0 : wr.heap.size + 2 ≤ w3.heap.size := by have := hb3.size; simp at this; omega
          have P19' := heap_later P19.out hb3
          have P18' := heap_later P18.out hb3
          have P8' := heap_later P8.out hb3
          have P10' := heap_later P10.out hb3
          have z3 := hb3.size
          have BW3 := Lib.hid (below_seq BW.out hb3)
          obtain ⟨f0, f1⟩ := cells2p P19'
          obtain ⟨f2, f3⟩ := cells2p P18'
          obtain ⟨f4, f5⟩ := cells2p P8'
          clear e0 e1 e2 e3 e4 e5 c0 c1 d0 d1 hb3
          go_wp2_with fail
          have CALL := HIH.out m g cap B aq.1 (x + 0 % 2 * 1) (y + 0 / 2 * 1) hx hy aq.2 4 1 (fx) (fy) ox oy nq w3 HM.out (HFL.out) rfl rfl (by have h2 := HFX.out; omega) (by have h2 := HFY.out; omega) HOX.out HOY.out HNQ.out (by show _ + 1 ≤ _; omega) (by show _ + 1 ≤ _; omega) b3 b4 (by show _ + 0 ≤ _; omega) HO3.out
          rw [← HR.out] at CALL
          refine CALL.mono ?_; rintro e w5 ⟨rfl, ho5, hg5⟩
          have P8a := heap_gr P8' hg5 (by omega)
          have P10a := heap_gr P10' hg5 (by omega)
          have GD := Lib.hid (grown_tr (grown_tr HGR.out (grown_lw BW3.out _)) hg5)
          have HO5 := Lib.hid ho5; clear ho5 hg5 CALL
          clear f0 f1 f2 f3 f4 f5 q1 q2 P8' P10' P18' P19'
          go_wp2
          go_roundw
          case rel => exact ⟨1, 1, _, by omega, by first | rfl | simp, by first | rfl | omega, rfl, by rw [HNX.out], by rw [HNX.out]; exact HO5.out, P8a, P10a, GD.out⟩
          case measure => first | decide | simp [intOf]
        · have HIN := Lib.hid hin; clear hin
          obtain ⟨R, hR⟩ : ∃ R : List Int × Nat, R = cfN 4 0 (aq.1.set ((y + 1 - 1 + 0 / 2) * 4 + (x + 1 - 1 + 0 % 2)) (n : Int)) (x + 0 % 2 * 1) (y + 0 / 2 * 1) (x + 1 - 1 + 0 % 2) (y + 1 - 1 + 0 / 2) aq.2 := ⟨_, rfl⟩
          have hnx : C (0 + 1) = R := by
            rw [HSQ.out, hR]; unfold cfQ; rw [if_neg (by unfold inQ; rw [decide_eq_true_eq]; exact HIN.out)]
          have HNX := Lib.hid hnx; clear hnx
          have HR := Lib.hid hR; clear hR
          have P19 : Hid (((wr.alloc (.cells #[.int .i64 (fx), .int .i64 (fy)] 78 (0, 0))).alloc (.cells #[.int .i64 ox, .int .i64 oy] 78 (0, 0))).heap[wr.heap.size + 1]? = some (.cells #[.int .i64 ox, .int .i64 oy] 78 (0, 0))) := heap_new2 wr (.cells #[.int .i64 (fx), .int .i64 (fy)] 78 (0, 0)) (.cells #[.int .i64 ox, .int .i64 oy] 78 (0, 0))
          have P18 : Hid (((wr.alloc (.cells #[.int .i64 (fx), .int .i64 (fy)] 78 (0, 0))).alloc (.cells #[.int .i64 ox, .int .i64 oy] 78 (0, 0))).heap[wr.heap.size]? = some (.cells #[.int .i64 (fx), .int .i64 (fy)] 78 (0, 0))) := heap_later (heap_new wr (.cells #[.int .i64 (fx), .int .i64 (fy)] 78 (0, 0))) (below1 _ _)
          have P8 : Hid (((wr.alloc (.cells #[.int .i64 (fx), .int .i64 (fy)] 78 (0, 0))).alloc (.cells #[.int .i64 ox, .int .i64 oy] 78 (0, 0))).heap[w.heap.size]? = some _) := heap_later q1 (below2 _ _ _)
          have P10 : Hid (((wr.alloc (.cells #[.int .i64 (fx), .int .i64 (fy)] 78 (0, 0))).alloc (.cells #[.int .i64 ox, .int .i64 oy] 78 (0, 0))).heap[w.heap.size + 1]? = some _) := heap_later q2 (below2 _ _ _)
          have BW : Hid (Below wr.heap.size wr ((wr.alloc (.cells #[.int .i64 (fx), .int .i64 (fy)] 78 (0, 0))).alloc (.cells #[.int .i64 ox, .int .i64 oy] 78 (0, 0)))) := below2 _ _ _
          obtain ⟨e0, e1⟩ := cells2p P10.out
          obtain ⟨e2, e3⟩ := cells2p P18.out
          obtain ⟨e4, e5⟩ := cells2p P19.out
          go_wp2_with fail
          refine (inSquare_is _ _ _ _ _ false _ (by omega) (by omega) (by have := HOX.out; omega) (by have := HOY.out; omega) (by have h1 := HIN.out; have h2 := HFX.out; have h3 := HFY.out; have h4 := HOX.out; have h5 := HOY.out; rw [decide_eq_false_iff_not]; omega) (by omega)).mono ?_; rintro e w3 ⟨rfl, hb3⟩
          have HO3 := Lib.hid ((HO.out.below BW.out).below hb3)
          have y0 : wr.heap.size + 2 ≤ w3.heap.size := by have := hb3.size; simp at this; omega
          have P19' := heap_later P19.out hb3
          have P18' := heap_later P18.out hb3
          have P8' := heap_later P8.out hb3
          have P10' := heap_later P10.out hb3
          have z3 := hb3.size
          have BW3 := Lib.hid (below_seq BW.out hb3)
          obtain ⟨f0, f1⟩ := cells2p P19'
          obtain ⟨f2, f3⟩ := cells2p P18'
          obtain ⟨f4, f5⟩ := cells2p P8'
          obtain ⟨s1, s2⟩ := two_set P19' (.int .i64 (fx)) (.int .i64 (fy))
          have r0 := free3 P19' 0
          have r1 := free3 s1 1
          obtain ⟨t0, t1⟩ := cells2p s1
          obtain ⟨t2, t3⟩ := cells2p s2
          have G1 := gr_set w3 (wr.heap.size + 1) 0 (.int .i64 (fx))
          have G2 := grown_tr G1 (gr_set _ (wr.heap.size + 1) 1 (.int .i64 (fy)))
          have HOS := Lib.hid (OwnsI.keptUp9 HO3.out G2 (by simp [Value.ownBlock]; omega))
          have Q18 := heap_gr P18' G2 (by omega)
          have Q8 := heap_gr P8' G2 (by omega)
          have Q10 := heap_gr P10' G2 (by omega)
          have HG2 := Lib.hid G2
          obtain ⟨f6, f7⟩ := cells2p Q18
          obtain ⟨f8, f9⟩ := cells2p Q8
          clear G1 G2
          have i0 : 0 ≤ (fy) * 4 + (fx) := by omega
          have i1 : (fy) * 4 + (fx) < m := by have := HM.out; have h2 := HFX.out; have h3 := HFY.out; omega
          have ec : ((fy) * 4 + (fx)).toNat = (y + 1 - 1 + 0 / 2) * 4 + (x + 1 - 1 + 0 % 2) := by have h2 := HFX.out; have h3 := HFY.out; omega
          have EC := Lib.hid ec
          have ilt : (y + 1 - 1 + 0 / 2) * 4 + (x + 1 - 1 + 0 % 2) < aq.1.length := by rw [HFL.out, HM.out]; omega
          have hc9 : w3.cell? ⟨g, ((fy) * 4 + (fx)).toNat, none⟩ = some (.int .i64 (aq.1.getD ((y + 1 - 1 + 0 / 2) * 4 + (x + 1 - 1 + 0 % 2)) 0)) := by rw [ec]; exact HO3.out.cell ilt
          have hf9 : w3.frozen? ⟨g, ((fy) * 4 + (fx)).toNat, none⟩ = false := HO3.out.free _
          clear ec ilt
          clear e0 e1 e2 e3 e4 e5 c0 c1 d0 d1 hb3
          go_wp2_with fail
          have ST1 : OwnsI (((w3.setCell ⟨wr.heap.size + 1, 0, none⟩ (.int .i64 (fx))).setCell ⟨wr.heap.size + 1, 1, none⟩ (.int .i64 (fy))).setCell ⟨g, ((fy) * 4 + (fx)).toNat, none⟩ (.int .i64 ni)) B (.slice (some ⟨g, 0, none⟩) m cap) (aq.1.set ((y + 1 - 1 + 0 / 2) * 4 + (x + 1 - 1 + 0 % 2)) (n : Int)) := by
            have := (OwnsI.set HOS.out ((fy) * 4 + (fx)).toNat ni).1
            rw [show aq.1.set ((fy) * 4 + (fx)).toNat ni = aq.1.set ((y + 1 - 1 + 0 / 2) * 4 + (x + 1 - 1 + 0 % 2)) (n : Int) by rw [EC.out, HNI.out]] at this
            exact this
          have CALL := HIH.out m g cap B (aq.1.set ((y + 1 - 1 + 0 / 2) * 4 + (x + 1 - 1 + 0 % 2)) (n : Int)) (x + 0 % 2 * 1) (y + 0 / 2 * 1) (x + 1 - 1 + 0 % 2) (y + 1 - 1 + 0 / 2) aq.2 4 1 (fx) (fy) (fx) (fy) nq _ HM.out (by rw [List.length_set]; exact HFL.out) rfl rfl (by have h2 := HFX.out; omega) (by have h2 := HFY.out; omega) (by have h2 := HFX.out; omega) (by have h2 := HFY.out; omega) HNQ.out (by show _ + 1 ≤ _; omega) (by show _ + 1 ≤ _; omega) (by omega) (by omega) (by show _ + 0 ≤ _; omega) ST1
          rw [← HR.out] at CALL
          refine CALL.mono ?_; rintro e w5 ⟨rfl, ho5, hg5⟩
          have GS := gr_set ((w3.setCell ⟨wr.heap.size + 1, 0, none⟩ (.int .i64 (fx))).setCell ⟨wr.heap.size + 1, 1, none⟩ (.int .i64 (fy))) g ((fy) * 4 + (fx)).toNat (.int .i64 ni)
          have P8a := heap_gr (heap_gr Q8 GS (by omega)) hg5 (by omega)
          have P10a := heap_gr (heap_gr Q10 GS (by omega)) hg5 (by omega)
          have GD := Lib.hid (grown_tr (grown_tr (grown_nw (grown_tr HGR.out (grown_lw BW3.out _)) HG2.out (by omega)) GS) hg5)
          have HO5 := Lib.hid ho5; clear ho5 hg5 CALL GS ST1 Q8 Q10 Q18
          clear f0 f1 f2 f3 f4 f5 f6 f7 f8 f9 q1 q2 P8' P10' P18' P19' hc9 hf9 r0 r1 s1 s2 t0 t1 t2 t3
          go_wp2
          go_roundw
          case rel => exact ⟨1, 1, _, by omega, by first | rfl | simp, by first | rfl | omega, rfl, by rw [HNX.out], by rw [HNX.out]; exact HO5.out, P8a, P10a, GD.out⟩
          case measure => first | decide | simp [intOf]
      · obtain rfl : qi = 1 := by omega
        clear hqi HQI
        have hnq2 : nq = aq.2 := hnq
        have HNQ := Lib.hid hnq2; clear hnq hnq2
        have fn2 : aq.2 ≤ n + 5 := by omega
        have fn3 : aq.2 = n + 1 + 1 * 0 := fn
        have nq1 : 0 ≤ nq := by have := HNQ.out; omega
        have nq2 : nq ≤ 1005 := by have := HNQ.out; omega
        clear fn
        by_cases hin : x + 1 % 2 * 1 ≤ hx ∧ hx < x + 1 % 2 * 1 + 1 ∧ y + 1 / 2 * 1 ≤ hy ∧ hy < y + 1 / 2 * 1 + 1
        · have HIN := Lib.hid hin; clear hin
          obtain ⟨R, hR⟩ : ∃ R : List Int × Nat, R = cfN 4 0 aq.1 (x + 1 % 2 * 1) (y + 1 / 2 * 1) (hx) (hy) aq.2 := ⟨_, rfl⟩
          have hnx : C (1 + 1) = R := by
            rw [HSQ.out, hR]; unfold cfQ; rw [if_pos (by unfold inQ; rw [decide_eq_true_eq]; exact HIN.out)]
          have HNX := Lib.hid hnx; clear hnx
          have HR := Lib.hid hR; clear hR
          have P19 : Hid (((wr.alloc (.cells #[.int .i64 (fx + 1), .int .i64 (fy)] 78 (0, 0))).alloc (.cells #[.int .i64 ox, .int .i64 oy] 78 (0, 0))).heap[wr.heap.size + 1]? = some (.cells #[.int .i64 ox, .int .i64 oy] 78 (0, 0))) := heap_new2 wr (.cells #[.int .i64 (fx + 1), .int .i64 (fy)] 78 (0, 0)) (.cells #[.int .i64 ox, .int .i64 oy] 78 (0, 0))
          have P18 : Hid (((wr.alloc (.cells #[.int .i64 (fx + 1), .int .i64 (fy)] 78 (0, 0))).alloc (.cells #[.int .i64 ox, .int .i64 oy] 78 (0, 0))).heap[wr.heap.size]? = some (.cells #[.int .i64 (fx + 1), .int .i64 (fy)] 78 (0, 0))) := heap_later (heap_new wr (.cells #[.int .i64 (fx + 1), .int .i64 (fy)] 78 (0, 0))) (below1 _ _)
          have P8 : Hid (((wr.alloc (.cells #[.int .i64 (fx + 1), .int .i64 (fy)] 78 (0, 0))).alloc (.cells #[.int .i64 ox, .int .i64 oy] 78 (0, 0))).heap[w.heap.size]? = some _) := heap_later q1 (below2 _ _ _)
          have P10 : Hid (((wr.alloc (.cells #[.int .i64 (fx + 1), .int .i64 (fy)] 78 (0, 0))).alloc (.cells #[.int .i64 ox, .int .i64 oy] 78 (0, 0))).heap[w.heap.size + 1]? = some _) := heap_later q2 (below2 _ _ _)
          have BW : Hid (Below wr.heap.size wr ((wr.alloc (.cells #[.int .i64 (fx + 1), .int .i64 (fy)] 78 (0, 0))).alloc (.cells #[.int .i64 ox, .int .i64 oy] 78 (0, 0)))) := below2 _ _ _
          obtain ⟨e0, e1⟩ := cells2p P10.out
          obtain ⟨e2, e3⟩ := cells2p P18.out
          obtain ⟨e4, e5⟩ := cells2p P19.out
          go_wp2_with fail
          refine (inSquare_is _ _ _ _ _ true _ (by omega) (by omega) (by have := HOX.out; omega) (by have := HOY.out; omega) (by have h1 := HIN.out; have h2 := HFX.out; have h3 := HFY.out; have h4 := HOX.out; have h5 := HOY.out; rw [decide_eq_true_eq]; omega) (by omega)).mono ?_; rintro e w3 ⟨rfl, hb3⟩
          have HO3 := Lib.hid ((HO.out.below BW.out).below hb3)
          have y0 : wr.heap.size + 2 ≤ w3.heap.size := by have := hb3.size; simp at this; omega
          have P19' := heap_later P19.out hb3
          have P18' := heap_later P18.out hb3
          have P8' := heap_later P8.out hb3
          have P10' := heap_later P10.out hb3
          have z3 := hb3.size
          have BW3 := Lib.hid (below_seq BW.out hb3)
          obtain ⟨f0, f1⟩ := cells2p P19'
          obtain ⟨f2, f3⟩ := cells2p P18'
          obtain ⟨f4, f5⟩ := cells2p P8'
          clear e0 e1 e2 e3 e4 e5 c0 c1 d0 d1 hb3
          go_wp2_with fail
          have CALL := HIH.out m g cap B aq.1 (x + 1 % 2 * 1) (y + 1 / 2 * 1) hx hy aq.2 4 1 (fx + 1) (fy) ox oy nq w3 HM.out (HFL.out) rfl rfl (by have h2 := HFX.out; omega) (by have h2 := HFY.out; omega) HOX.out HOY.out HNQ.out (by show _ + 1 ≤ _; omega) (by show _ + 1 ≤ _; omega) b3 b4 (by show _ + 0 ≤ _; omega) HO3.out
          rw [← HR.out] at CALL
          refine CALL.mono ?_; rintro e w5 ⟨rfl, ho5, hg5⟩
          have P8a := heap_gr P8' hg5 (by omega)
          have P10a := heap_gr P10' hg5 (by omega)
          have GD := Lib.hid (grown_tr (grown_tr HGR.out (grown_lw BW3.out _)) hg5)
          have HO5 := Lib.hid ho5; clear ho5 hg5 CALL
          clear f0 f1 f2 f3 f4 f5 q1 q2 P8' P10' P18' P19'
          go_wp2
          go_roundw
          case rel => exact ⟨2, 2, _, by omega, by first | rfl | simp, by first | rfl | omega, rfl, by rw [HNX.out], by rw [HNX.out]; exact HO5.out, P8a, P10a, GD.out⟩
          case measure => first | decide | simp [intOf]
        · have HIN := Lib.hid hin; clear hin
          obtain ⟨R, hR⟩ : ∃ R : List Int × Nat, R = cfN 4 0 (aq.1.set ((y + 1 - 1 + 1 / 2) * 4 + (x + 1 - 1 + 1 % 2)) (n : Int)) (x + 1 % 2 * 1) (y + 1 / 2 * 1) (x + 1 - 1 + 1 % 2) (y + 1 - 1 + 1 / 2) aq.2 := ⟨_, rfl⟩
          have hnx : C (1 + 1) = R := by
            rw [HSQ.out, hR]; unfold cfQ; rw [if_neg (by unfold inQ; rw [decide_eq_true_eq]; exact HIN.out)]
          have HNX := Lib.hid hnx; clear hnx
          have HR := Lib.hid hR; clear hR
          have P19 : Hid (((wr.alloc (.cells #[.int .i64 (fx + 1), .int .i64 (fy)] 78 (0, 0))).alloc (.cells #[.int .i64 ox, .int .i64 oy] 78 (0, 0))).heap[wr.heap.size + 1]? = some (.cells #[.int .i64 ox, .int .i64 oy] 78 (0, 0))) := heap_new2 wr (.cells #[.int .i64 (fx + 1), .int .i64 (fy)] 78 (0, 0)) (.cells #[.int .i64 ox, .int .i64 oy] 78 (0, 0))
          have P18 : Hid (((wr.alloc (.cells #[.int .i64 (fx + 1), .int .i64 (fy)] 78 (0, 0))).alloc (.cells #[.int .i64 ox, .int .i64 oy] 78 (0, 0))).heap[wr.heap.size]? = some (.cells #[.int .i64 (fx + 1), .int .i64 (fy)] 78 (0, 0))) := heap_later (heap_new wr (.cells #[.int .i64 (fx + 1), .int .i64 (fy)] 78 (0, 0))) (below1 _ _)
          have P8 : Hid (((wr.alloc (.cells #[.int .i64 (fx + 1), .int .i64 (fy)] 78 (0, 0))).alloc (.cells #[.int .i64 ox, .int .i64 oy] 78 (0, 0))).heap[w.heap.size]? = some _) := heap_later q1 (below2 _ _ _)
          have P10 : Hid (((wr.alloc (.cells #[.int .i64 (fx + 1), .int .i64 (fy)] 78 (0, 0))).alloc (.cells #[.int .i64 ox, .int .i64 oy] 78 (0, 0))).heap[w.heap.size + 1]? = some _) := heap_later q2 (below2 _ _ _)
          have BW : Hid (Below wr.heap.size wr ((wr.alloc (.cells #[.int .i64 (fx + 1), .int .i64 (fy)] 78 (0, 0))).alloc (.cells #[.int .i64 ox, .int .i64 oy] 78 (0, 0)))) := below2 _ _ _
          obtain ⟨e0, e1⟩ := cells2p P10.out
          obtain ⟨e2, e3⟩ := cells2p P18.out
          obtain ⟨e4, e5⟩ := cells2p P19.out
          go_wp2_with fail
          refine (inSquare_is _ _ _ _ _ false _ (by omega) (by omega) (by have := HOX.out; omega) (by have := HOY.out; omega) (by have h1 := HIN.out; have h2 := HFX.out; have h3 := HFY.out; have h4 := HOX.out; have h5 := HOY.out; rw [decide_eq_false_iff_not]; omega) (by omega)).mono ?_; rintro e w3 ⟨rfl, hb3⟩
          have HO3 := Lib.hid ((HO.out.below BW.out).below hb3)
          have y0 : wr.heap.size + 2 ≤ w3.heap.size := by have := hb3.size; simp at this; omega
          have P19' := heap_later P19.out hb3
          have P18' := heap_later P18.out hb3
          have P8' := heap_later P8.out hb3
          have P10' := heap_later P10.out hb3
          have z3 := hb3.size
          have BW3 := Lib.hid (below_seq BW.out hb3)
          obtain ⟨f0, f1⟩ := cells2p P19'
          obtain ⟨f2, f3⟩ := cells2p P18'
          obtain ⟨f4, f5⟩ := cells2p P8'
          obtain ⟨s1, s2⟩ := two_set P19' (.int .i64 (fx + 1)) (.int .i64 (fy))
          have r0 := free3 P19' 0
          have r1 := free3 s1 1
          obtain ⟨t0, t1⟩ := cells2p s1
          obtain ⟨t2, t3⟩ := cells2p s2
          have G1 := gr_set w3 (wr.heap.size + 1) 0 (.int .i64 (fx + 1))
          have G2 := grown_tr G1 (gr_set _ (wr.heap.size + 1) 1 (.int .i64 (fy)))
          have HOS := Lib.hid (OwnsI.keptUp9 HO3.out G2 (by simp [Value.ownBlock]; omega))
          have Q18 := heap_gr P18' G2 (by omega)
          have Q8 := heap_gr P8' G2 (by omega)
          have Q10 := heap_gr P10' G2 (by omega)
          have HG2 := Lib.hid G2
          obtain ⟨f6, f7⟩ := cells2p Q18
          obtain ⟨f8, f9⟩ := cells2p Q8
          clear G1 G2
          have i0 : 0 ≤ (fy) * 4 + (fx + 1) := by omega
          have i1 : (fy) * 4 + (fx + 1) < m := by have := HM.out; have h2 := HFX.out; have h3 := HFY.out; omega
          have ec : ((fy) * 4 + (fx + 1)).toNat = (y + 1 - 1 + 1 / 2) * 4 + (x + 1 - 1 + 1 % 2) := by have h2 := HFX.out; have h3 := HFY.out; omega
          have EC := Lib.hid ec
          have ilt : (y + 1 - 1 + 1 / 2) * 4 + (x + 1 - 1 + 1 % 2) < aq.1.length := by rw [HFL.out, HM.out]; omega
          have hc9 : w3.cell? ⟨g, ((fy) * 4 + (fx + 1)).toNat, none⟩ = some (.int .i64 (aq.1.getD ((y + 1 - 1 + 1 / 2) * 4 + (x + 1 - 1 + 1 % 2)) 0)) := by rw [ec]; exact HO3.out.cell ilt
          have hf9 : w3.frozen? ⟨g, ((fy) * 4 + (fx + 1)).toNat, none⟩ = false := HO3.out.free _
          clear ec ilt
          clear e0 e1 e2 e3 e4 e5 c0 c1 d0 d1 hb3
          go_wp2_with fail
          have ST1 : OwnsI (((w3.setCell ⟨wr.heap.size + 1, 0, none⟩ (.int .i64 (fx + 1))).setCell ⟨wr.heap.size + 1, 1, none⟩ (.int .i64 (fy))).setCell ⟨g, ((fy) * 4 + (fx + 1)).toNat, none⟩ (.int .i64 ni)) B (.slice (some ⟨g, 0, none⟩) m cap) (aq.1.set ((y + 1 - 1 + 1 / 2) * 4 + (x + 1 - 1 + 1 % 2)) (n : Int)) := by
            have := (OwnsI.set HOS.out ((fy) * 4 + (fx + 1)).toNat ni).1
            rw [show aq.1.set ((fy) * 4 + (fx + 1)).toNat ni = aq.1.set ((y + 1 - 1 + 1 / 2) * 4 + (x + 1 - 1 + 1 % 2)) (n : Int) by rw [EC.out, HNI.out]] at this
            exact this
          have CALL := HIH.out m g cap B (aq.1.set ((y + 1 - 1 + 1 / 2) * 4 + (x + 1 - 1 + 1 % 2)) (n : Int)) (x + 1 % 2 * 1) (y + 1 / 2 * 1) (x + 1 - 1 + 1 % 2) (y + 1 - 1 + 1 / 2) aq.2 4 1 (fx + 1) (fy) (fx + 1) (fy) nq _ HM.out (by rw [List.length_set]; exact HFL.out) rfl rfl (by have h2 := HFX.out; omega) (by have h2 := HFY.out; omega) (by have h2 := HFX.out; omega) (by have h2 := HFY.out; omega) HNQ.out (by show _ + 1 ≤ _; omega) (by show _ + 1 ≤ _; omega) (by omega) (by omega) (by show _ + 0 ≤ _; omega) ST1
          rw [← HR.out] at CALL
          refine CALL.mono ?_; rintro e w5 ⟨rfl, ho5, hg5⟩
          have GS := gr_set ((w3.setCell ⟨wr.heap.size + 1, 0, none⟩ (.int .i64 (fx + 1))).setCell ⟨wr.heap.size + 1, 1, none⟩ (.int .i64 (fy))) g ((fy) * 4 + (fx + 1)).toNat (.int .i64 ni)
          have P8a := heap_gr (heap_gr Q8 GS (by omega)) hg5 (by omega)
          have P10a := heap_gr (heap_gr Q10 GS (by omega)) hg5 (by omega)
          have GD := Lib.hid (grown_tr (grown_tr (grown_nw (grown_tr HGR.out (grown_lw BW3.out _)) HG2.out (by omega)) GS) hg5)
          have HO5 := Lib.hid ho5; clear ho5 hg5 CALL GS ST1 Q8 Q10 Q18
          clear f0 f1 f2 f3 f4 f5 f6 f7 f8 f9 q1 q2 P8' P10' P18' P19' hc9 hf9 r0 r1 s1 s2 t0 t1 t2 t3
          go_wp2
          go_roundw
          case rel => exact ⟨2, 2, _, by omega, by first | rfl | simp, by first | rfl | omega, rfl, by rw [HNX.out], by rw [HNX.out]; exact HO5.out, P8a, P10a, GD.out⟩
          case measure => first | decide | simp [intOf]
      · obtain rfl : qi = 2 := by omega
        clear hqi HQI
        have hnq2 : nq = aq.2 := hnq
        have HNQ := Lib.hid hnq2; clear hnq hnq2
        have fn2 : aq.2 ≤ n + 5 := by omega
        have fn3 : aq.2 = n + 1 + 2 * 0 := fn
        have nq1 : 0 ≤ nq := by have := HNQ.out; omega
        have nq2 : nq ≤ 1005 := by have := HNQ.out; omega
        clear fn
        by_cases hin : x + 2 % 2 * 1 ≤ hx ∧ hx < x + 2 % 2 * 1 + 1 ∧ y + 2 / 2 * 1 ≤ hy ∧ hy < y + 2 / 2 * 1 + 1
        · have HIN := Lib.hid hin; clear hin
          obtain ⟨R, hR⟩ : ∃ R : List Int × Nat, R = cfN 4 0 aq.1 (x + 2 % 2 * 1) (y + 2 / 2 * 1) (hx) (hy) aq.2 := ⟨_, rfl⟩
          have hnx : C (2 + 1) = R := by
            rw [HSQ.out, hR]; unfold cfQ; rw [if_pos (by unfold inQ; rw [decide_eq_true_eq]; exact HIN.out)]
          have HNX := Lib.hid hnx; clear hnx
          have HR := Lib.hid hR; clear hR
          have P19 : Hid (((wr.alloc (.cells #[.int .i64 (fx), .int .i64 (fy + 1)] 78 (0, 0))).alloc (.cells #[.int .i64 ox, .int .i64 oy] 78 (0, 0))).heap[wr.heap.size + 1]? = some (.cells #[.int .i64 ox, .int .i64 oy] 78 (0, 0))) := heap_new2 wr (.cells #[.int .i64 (fx), .int .i64 (fy + 1)] 78 (0, 0)) (.cells #[.int .i64 ox, .int .i64 oy] 78 (0, 0))
          have P18 : Hid (((wr.alloc (.cells #[.int .i64 (fx), .int .i64 (fy + 1)] 78 (0, 0))).alloc (.cells #[.int .i64 ox, .int .i64 oy] 78 (0, 0))).heap[wr.heap.size]? = some (.cells #[.int .i64 (fx), .int .i64 (fy + 1)] 78 (0, 0))) := heap_later (heap_new wr (.cells #[.int .i64 (fx), .int .i64 (fy + 1)] 78 (0, 0))) (below1 _ _)
          have P8 : Hid (((wr.alloc (.cells #[.int .i64 (fx), .int .i64 (fy + 1)] 78 (0, 0))).alloc (.cells #[.int .i64 ox, .int .i64 oy] 78 (0, 0))).heap[w.heap.size]? = some _) := heap_later q1 (below2 _ _ _)
          have P10 : Hid (((wr.alloc (.cells #[.int .i64 (fx), .int .i64 (fy + 1)] 78 (0, 0))).alloc (.cells #[.int .i64 ox, .int .i64 oy] 78 (0, 0))).heap[w.heap.size + 1]? = some _) := heap_later q2 (below2 _ _ _)
          have BW : Hid (Below wr.heap.size wr ((wr.alloc (.cells #[.int .i64 (fx), .int .i64 (fy + 1)] 78 (0, 0))).alloc (.cells #[.int .i64 ox, .int .i64 oy] 78 (0, 0)))) := below2 _ _ _
          obtain ⟨e0, e1⟩ := cells2p P10.out
          obtain ⟨e2, e3⟩ := cells2p P18.out
          obtain ⟨e4, e5⟩ := cells2p P19.out
          go_wp2_with fail
          refine (inSquare_is _ _ _ _ _ true _ (by omega) (by omega) (by have := HOX.out; omega) (by have := HOY.out; omega) (by have h1 := HIN.out; have h2 := HFX.out; have h3 := HFY.out; have h4 := HOX.out; have h5 := HOY.out; rw [decide_eq_true_eq]; omega) (by omega)).mono ?_; rintro e w3 ⟨rfl, hb3⟩
          have HO3 := Lib.hid ((HO.out.below BW.out).below hb3)
          have y0 : wr.heap.size + 2 ≤ w3.heap.size := by have := hb3.size; simp at this; omega
          have P19' := heap_later P19.out hb3
          have P18' := heap_later P18.out hb3
          have P8' := heap_later P8.out hb3
          have P10' := heap_later P10.out hb3
          have z3 := hb3.size
          have BW3 := Lib.hid (below_seq BW.out hb3)
          obtain ⟨f0, f1⟩ := cells2p P19'
          obtain ⟨f2, f3⟩ := cells2p P18'
          obtain ⟨f4, f5⟩ := cells2p P8'
          clear e0 e1 e2 e3 e4 e5 c0 c1 d0 d1 hb3
          go_wp2_with fail
          have CALL := HIH.out m g cap B aq.1 (x + 2 % 2 * 1) (y + 2 / 2 * 1) hx hy aq.2 4 1 (fx) (fy + 1) ox oy nq w3 HM.out (HFL.out) rfl rfl (by have h2 := HFX.out; omega) (by have h2 := HFY.out; omega) HOX.out HOY.out HNQ.out (by show _ + 1 ≤ _; omega) (by show _ + 1 ≤ _; omega) b3 b4 (by show _ + 0 ≤ _; omega) HO3.out
          rw [← HR.out] at CALL
          refine CALL.mono ?_; rintro e w5 ⟨rfl, ho5, hg5⟩
          have P8a := heap_gr P8' hg5 (by omega)
          have P10a := heap_gr P10' hg5 (by omega)
          have GD := Lib.hid (grown_tr (grown_tr HGR.out (grown_lw BW3.out _)) hg5)
          have HO5 := Lib.hid ho5; clear ho5 hg5 CALL
          clear f0 f1 f2 f3 f4 f5 q1 q2 P8' P10' P18' P19'
          go_wp2
          go_roundw
          case rel => exact ⟨3, 3, _, by omega, by first | rfl | simp, by first | rfl | omega, rfl, by rw [HNX.out], by rw [HNX.out]; exact HO5.out, P8a, P10a, GD.out⟩
          case measure => first | decide | simp [intOf]
        · have HIN := Lib.hid hin; clear hin
          obtain ⟨R, hR⟩ : ∃ R : List Int × Nat, R = cfN 4 0 (aq.1.set ((y + 1 - 1 + 2 / 2) * 4 + (x + 1 - 1 + 2 % 2)) (n : Int)) (x + 2 % 2 * 1) (y + 2 / 2 * 1) (x + 1 - 1 + 2 % 2) (y + 1 - 1 + 2 / 2) aq.2 := ⟨_, rfl⟩
          have hnx : C (2 + 1) = R := by
            rw [HSQ.out, hR]; unfold cfQ; rw [if_neg (by unfold inQ; rw [decide_eq_true_eq]; exact HIN.out)]
          have HNX := Lib.hid hnx; clear hnx
          have HR := Lib.hid hR; clear hR
          have P19 : Hid (((wr.alloc (.cells #[.int .i64 (fx), .int .i64 (fy + 1)] 78 (0, 0))).alloc (.cells #[.int .i64 ox, .int .i64 oy] 78 (0, 0))).heap[wr.heap.size + 1]? = some (.cells #[.int .i64 ox, .int .i64 oy] 78 (0, 0))) := heap_new2 wr (.cells #[.int .i64 (fx), .int .i64 (fy + 1)] 78 (0, 0)) (.cells #[.int .i64 ox, .int .i64 oy] 78 (0, 0))
          have P18 : Hid (((wr.alloc (.cells #[.int .i64 (fx), .int .i64 (fy + 1)] 78 (0, 0))).alloc (.cells #[.int .i64 ox, .int .i64 oy] 78 (0, 0))).heap[wr.heap.size]? = some (.cells #[.int .i64 (fx), .int .i64 (fy + 1)] 78 (0, 0))) := heap_later (heap_new wr (.cells #[.int .i64 (fx), .int .i64 (fy + 1)] 78 (0, 0))) (below1 _ _)
          have P8 : Hid (((wr.alloc (.cells #[.int .i64 (fx), .int .i64 (fy + 1)] 78 (0, 0))).alloc (.cells #[.int .i64 ox, .int .i64 oy] 78 (0, 0))).heap[w.heap.size]? = some _) := heap_later q1 (below2 _ _ _)
          have P10 : Hid (((wr.alloc (.cells #[.int .i64 (fx), .int .i64 (fy + 1)] 78 (0, 0))).alloc (.cells #[.int .i64 ox, .int .i64 oy] 78 (0, 0))).heap[w.heap.size + 1]? = some _) := heap_later q2 (below2 _ _ _)
          have BW : Hid (Below wr.heap.size wr ((wr.alloc (.cells #[.int .i64 (fx), .int .i64 (fy + 1)] 78 (0, 0))).alloc (.cells #[.int .i64 ox, .int .i64 oy] 78 (0, 0)))) := below2 _ _ _
          obtain ⟨e0, e1⟩ := cells2p P10.out
          obtain ⟨e2, e3⟩ := cells2p P18.out
          obtain ⟨e4, e5⟩ := cells2p P19.out
          go_wp2_with fail
          refine (inSquare_is _ _ _ _ _ false _ (by omega) (by omega) (by have := HOX.out; omega) (by have := HOY.out; omega) (by have h1 := HIN.out; have h2 := HFX.out; have h3 := HFY.out; have h4 := HOX.out; have h5 := HOY.out; rw [decide_eq_false_iff_not]; omega) (by omega)).mono ?_; rintro e w3 ⟨rfl, hb3⟩
          have HO3 := Lib.hid ((HO.out.below BW.out).below hb3)
          have y0 : wr.heap.size + 2 ≤ w3.heap.size := by have := hb3.size; simp at this; omega
          have P19' := heap_later P19.out hb3
          have P18' := heap_later P18.out hb3
          have P8' := heap_later P8.out hb3
          have P10' := heap_later P10.out hb3
          have z3 := hb3.size
          have BW3 := Lib.hid (below_seq BW.out hb3)
          obtain ⟨f0, f1⟩ := cells2p P19'
          obtain ⟨f2, f3⟩ := cells2p P18'
          obtain ⟨f4, f5⟩ := cells2p P8'
          obtain ⟨s1, s2⟩ := two_set P19' (.int .i64 (fx)) (.int .i64 (fy + 1))
          have r0 := free3 P19' 0
          have r1 := free3 s1 1
          obtain ⟨t0, t1⟩ := cells2p s1
          obtain ⟨t2, t3⟩ := cells2p s2
          have G1 := gr_set w3 (wr.heap.size + 1) 0 (.int .i64 (fx))
          have G2 := grown_tr G1 (gr_set _ (wr.heap.size + 1) 1 (.int .i64 (fy + 1)))
          have HOS := Lib.hid (OwnsI.keptUp9 HO3.out G2 (by simp [Value.ownBlock]; omega))
          have Q18 := heap_gr P18' G2 (by omega)
          have Q8 := heap_gr P8' G2 (by omega)
          have Q10 := heap_gr P10' G2 (by omega)
          have HG2 := Lib.hid G2
          obtain ⟨f6, f7⟩ := cells2p Q18
          obtain ⟨f8, f9⟩ := cells2p Q8
          clear G1 G2
          have i0 : 0 ≤ (fy + 1) * 4 + (fx) := by omega
          have i1 : (fy + 1) * 4 + (fx) < m := by have := HM.out; have h2 := HFX.out; have h3 := HFY.out; omega
          have ec : ((fy + 1) * 4 + (fx)).toNat = (y + 1 - 1 + 2 / 2) * 4 + (x + 1 - 1 + 2 % 2) := by have h2 := HFX.out; have h3 := HFY.out; omega
          have EC := Lib.hid ec
          have ilt : (y + 1 - 1 + 2 / 2) * 4 + (x + 1 - 1 + 2 % 2) < aq.1.length := by rw [HFL.out, HM.out]; omega
          have hc9 : w3.cell? ⟨g, ((fy + 1) * 4 + (fx)).toNat, none⟩ = some (.int .i64 (aq.1.getD ((y + 1 - 1 + 2 / 2) * 4 + (x + 1 - 1 + 2 % 2)) 0)) := by rw [ec]; exact HO3.out.cell ilt
          have hf9 : w3.frozen? ⟨g, ((fy + 1) * 4 + (fx)).toNat, none⟩ = false := HO3.out.free _
          clear ec ilt
          clear e0 e1 e2 e3 e4 e5 c0 c1 d0 d1 hb3
          go_wp2_with fail
          have ST1 : OwnsI (((w3.setCell ⟨wr.heap.size + 1, 0, none⟩ (.int .i64 (fx))).setCell ⟨wr.heap.size + 1, 1, none⟩ (.int .i64 (fy + 1))).setCell ⟨g, ((fy + 1) * 4 + (fx)).toNat, none⟩ (.int .i64 ni)) B (.slice (some ⟨g, 0, none⟩) m cap) (aq.1.set ((y + 1 - 1 + 2 / 2) * 4 + (x + 1 - 1 + 2 % 2)) (n : Int)) := by
            have := (OwnsI.set HOS.out ((fy + 1) * 4 + (fx)).toNat ni).1
            rw [show aq.1.set ((fy + 1) * 4 + (fx)).toNat ni = aq.1.set ((y + 1 - 1 + 2 / 2) * 4 + (x + 1 - 1 + 2 % 2)) (n : Int) by rw [EC.out, HNI.out]] at this
            exact this
          have CALL := HIH.out m g cap B (aq.1.set ((y + 1 - 1 + 2 / 2) * 4 + (x + 1 - 1 + 2 % 2)) (n : Int)) (x + 2 % 2 * 1) (y + 2 / 2 * 1) (x + 1 - 1 + 2 % 2) (y + 1 - 1 + 2 / 2) aq.2 4 1 (fx) (fy + 1) (fx) (fy + 1) nq _ HM.out (by rw [List.length_set]; exact HFL.out) rfl rfl (by have h2 := HFX.out; omega) (by have h2 := HFY.out; omega) (by have h2 := HFX.out; omega) (by have h2 := HFY.out; omega) HNQ.out (by show _ + 1 ≤ _; omega) (by show _ + 1 ≤ _; omega) (by omega) (by omega) (by show _ + 0 ≤ _; omega) ST1
          rw [← HR.out] at CALL
          refine CALL.mono ?_; rintro e w5 ⟨rfl, ho5, hg5⟩
          have GS := gr_set ((w3.setCell ⟨wr.heap.size + 1, 0, none⟩ (.int .i64 (fx))).setCell ⟨wr.heap.size + 1, 1, none⟩ (.int .i64 (fy + 1))) g ((fy + 1) * 4 + (fx)).toNat (.int .i64 ni)
          have P8a := heap_gr (heap_gr Q8 GS (by omega)) hg5 (by omega)
          have P10a := heap_gr (heap_gr Q10 GS (by omega)) hg5 (by omega)
          have GD := Lib.hid (grown_tr (grown_tr (grown_nw (grown_tr HGR.out (grown_lw BW3.out _)) HG2.out (by omega)) GS) hg5)
          have HO5 := Lib.hid ho5; clear ho5 hg5 CALL GS ST1 Q8 Q10 Q18
          clear f0 f1 f2 f3 f4 f5 f6 f7 f8 f9 q1 q2 P8' P10' P18' P19' hc9 hf9 r0 r1 s1 s2 t0 t1 t2 t3
          go_wp2
          go_roundw
          case rel => exact ⟨3, 3, _, by omega, by first | rfl | simp, by first | rfl | omega, rfl, by rw [HNX.out], by rw [HNX.out]; exact HO5.out, P8a, P10a, GD.out⟩
          case measure => first | decide | simp [intOf]
      · obtain rfl : qi = 3 := by omega
        clear hqi HQI
        have hnq2 : nq = aq.2 := hnq
        have HNQ := Lib.hid hnq2; clear hnq hnq2
        have fn2 : aq.2 ≤ n + 5 := by omega
        have fn3 : aq.2 = n + 1 + 3 * 0 := fn
        have nq1 : 0 ≤ nq := by have := HNQ.out; omega
        have nq2 : nq ≤ 1005 := by have := HNQ.out; omega
        clear fn
        by_cases hin : x + 3 % 2 * 1 ≤ hx ∧ hx < x + 3 % 2 * 1 + 1 ∧ y + 3 / 2 * 1 ≤ hy ∧ hy < y + 3 / 2 * 1 + 1
        · have HIN := Lib.hid hin; clear hin
          obtain ⟨R, hR⟩ : ∃ R : List Int × Nat, R = cfN 4 0 aq.1 (x + 3 % 2 * 1) (y + 3 / 2 * 1) (hx) (hy) aq.2 := ⟨_, rfl⟩
          have hnx : C (3 + 1) = R := by
            rw [HSQ.out, hR]; unfold cfQ; rw [if_pos (by unfold inQ; rw [decide_eq_true_eq]; exact HIN.out)]
          have HNX := Lib.hid hnx; clear hnx
          have HR := Lib.hid hR; clear hR
          have P19 : Hid (((wr.alloc (.cells #[.int .i64 (fx + 1), .int .i64 (fy + 1)] 78 (0, 0))).alloc (.cells #[.int .i64 ox, .int .i64 oy] 78 (0, 0))).heap[wr.heap.size + 1]? = some (.cells #[.int .i64 ox, .int .i64 oy] 78 (0, 0))) := heap_new2 wr (.cells #[.int .i64 (fx + 1), .int .i64 (fy + 1)] 78 (0, 0)) (.cells #[.int .i64 ox, .int .i64 oy] 78 (0, 0))
          have P18 : Hid (((wr.alloc (.cells #[.int .i64 (fx + 1), .int .i64 (fy + 1)] 78 (0, 0))).alloc (.cells #[.int .i64 ox, .int .i64 oy] 78 (0, 0))).heap[wr.heap.size]? = some (.cells #[.int .i64 (fx + 1), .int .i64 (fy + 1)] 78 (0, 0))) := heap_later (heap_new wr (.cells #[.int .i64 (fx + 1), .int .i64 (fy + 1)] 78 (0, 0))) (below1 _ _)
          have P8 : Hid (((wr.alloc (.cells #[.int .i64 (fx + 1), .int .i64 (fy + 1)] 78 (0, 0))).alloc (.cells #[.int .i64 ox, .int .i64 oy] 78 (0, 0))).heap[w.heap.size]? = some _) := heap_later q1 (below2 _ _ _)
          have P10 : Hid (((wr.alloc (.cells #[.int .i64 (fx + 1), .int .i64 (fy + 1)] 78 (0, 0))).alloc (.cells #[.int .i64 ox, .int .i64 oy] 78 (0, 0))).heap[w.heap.size + 1]? = some _) := heap_later q2 (below2 _ _ _)
          have BW : Hid (Below wr.heap.size wr ((wr.alloc (.cells #[.int .i64 (fx + 1), .int .i64 (fy + 1)] 78 (0, 0))).alloc (.cells #[.int .i64 ox, .int .i64 oy] 78 (0, 0)))) := below2 _ _ _
          obtain ⟨e0, e1⟩ := cells2p P10.out
          obtain ⟨e2, e3⟩ := cells2p P18.out
          obtain ⟨e4, e5⟩ := cells2p P19.out
          go_wp2_with fail
          refine (inSquare_is _ _ _ _ _ true _ (by omega) (by omega) (by have := HOX.out; omega) (by have := HOY.out; omega) (by have h1 := HIN.out; have h2 := HFX.out; have h3 := HFY.out; have h4 := HOX.out; have h5 := HOY.out; rw [decide_eq_true_eq]; omega) (by omega)).mono ?_; rintro e w3 ⟨rfl, hb3⟩
          have HO3 := Lib.hid ((HO.out.below BW.out).below hb3)
          have y0 : wr.heap.size + 2 ≤ w3.heap.size := by have := hb3.size; simp at this; omega
          have P19' := heap_later P19.out hb3
          have P18' := heap_later P18.out hb3
          have P8' := heap_later P8.out hb3
          have P10' := heap_later P10.out hb3
          have z3 := hb3.size
          have BW3 := Lib.hid (below_seq BW.out hb3)
          obtain ⟨f0, f1⟩ := cells2p P19'
          obtain ⟨f2, f3⟩ := cells2p P18'
          obtain ⟨f4, f5⟩ := cells2p P8'
          clear e0 e1 e2 e3 e4 e5 c0 c1 d0 d1 hb3
          go_wp2_with fail
          have CALL := HIH.out m g cap B aq.1 (x + 3 % 2 * 1) (y + 3 / 2 * 1) hx hy aq.2 4 1 (fx + 1) (fy + 1) ox oy nq w3 HM.out (HFL.out) rfl rfl (by have h2 := HFX.out; omega) (by have h2 := HFY.out; omega) HOX.out HOY.out HNQ.out (by show _ + 1 ≤ _; omega) (by show _ + 1 ≤ _; omega) b3 b4 (by show _ + 0 ≤ _; omega) HO3.out
          rw [← HR.out] at CALL
          refine CALL.mono ?_; rintro e w5 ⟨rfl, ho5, hg5⟩
          have P8a := heap_gr P8' hg5 (by omega)
          have P10a := heap_gr P10' hg5 (by omega)
          have GD := Lib.hid (grown_tr (grown_tr HGR.out (grown_lw BW3.out _)) hg5)
          have HO5 := Lib.hid ho5; clear ho5 hg5 CALL
          clear f0 f1 f2 f3 f4 f5 q1 q2 P8' P10' P18' P19'
          go_wp2
          go_roundw
          case rel => exact ⟨4, 4, _, by omega, by first | rfl | simp, by first | rfl | omega, rfl, by rw [HNX.out], by rw [HNX.out]; exact HO5.out, P8a, P10a, GD.out⟩
          case measure => first | decide | simp [intOf]
        · have HIN := Lib.hid hin; clear hin
          obtain ⟨R, hR⟩ : ∃ R : List Int × Nat, R = cfN 4 0 (aq.1.set ((y + 1 - 1 + 3 / 2) * 4 + (x + 1 - 1 + 3 % 2)) (n : Int)) (x + 3 % 2 * 1) (y + 3 / 2 * 1) (x + 1 - 1 + 3 % 2) (y + 1 - 1 + 3 / 2) aq.2 := ⟨_, rfl⟩
          have hnx : C (3 + 1) = R := by
            rw [HSQ.out, hR]; unfold cfQ; rw [if_neg (by unfold inQ; rw [decide_eq_true_eq]; exact HIN.out)]
          have HNX := Lib.hid hnx; clear hnx
          have HR := Lib.hid hR; clear hR
          have P19 : Hid (((wr.alloc (.cells #[.int .i64 (fx + 1), .int .i64 (fy + 1)] 78 (0, 0))).alloc (.cells #[.int .i64 ox, .int .i64 oy] 78 (0, 0))).heap[wr.heap.size + 1]? = some (.cells #[.int .i64 ox, .int .i64 oy] 78 (0, 0))) := heap_new2 wr (.cells #[.int .i64 (fx + 1), .int .i64 (fy + 1)] 78 (0, 0)) (.cells #[.int .i64 ox, .int .i64 oy] 78 (0, 0))
          have P18 : Hid (((wr.alloc (.cells #[.int .i64 (fx + 1), .int .i64 (fy + 1)] 78 (0, 0))).alloc (.cells #[.int .i64 ox, .int .i64 oy] 78 (0, 0))).heap[wr.heap.size]? = some (.cells #[.int .i64 (fx + 1), .int .i64 (fy + 1)] 78 (0, 0))) := heap_later (heap_new wr (.cells #[.int .i64 (fx + 1), .int .i64 (fy + 1)] 78 (0, 0))) (below1 _ _)
          have P8 : Hid (((wr.alloc (.cells #[.int .i64 (fx + 1), .int .i64 (fy + 1)] 78 (0, 0))).alloc (.cells #[.int .i64 ox, .int .i64 oy] 78 (0, 0))).heap[w.heap.size]? = some _) := heap_later q1 (below2 _ _ _)
          have P10 : Hid (((wr.alloc (.cells #[.int .i64 (fx + 1), .int .i64 (fy + 1)] 78 (0, 0))).alloc (.cells #[.int .i64 ox, .int .i64 oy] 78 (0, 0))).heap[w.heap.size + 1]? = some _) := heap_later q2 (below2 _ _ _)
          have BW : Hid (Below wr.heap.size wr ((wr.alloc (.cells #[.int .i64 (fx + 1), .int .i64 (fy + 1)] 78 (0, 0))).alloc (.cells #[.int .i64 ox, .int .i64 oy] 78 (0, 0)))) := below2 _ _ _
          obtain ⟨e0, e1⟩ := cells2p P10.out
          obtain ⟨e2, e3⟩ := cells2p P18.out
          obtain ⟨e4, e5⟩ := cells2p P19.out
          go_wp2_with fail
          refine (inSquare_is _ _ _ _ _ false _ (by omega) (by omega) (by have := HOX.out; omega) (by have := HOY.out; omega) (by have h1 := HIN.out; have h2 := HFX.out; have h3 := HFY.out; have h4 := HOX.out; have h5 := HOY.out; rw [decide_eq_false_iff_not]; omega) (by omega)).mono ?_; rintro e w3 ⟨rfl, hb3⟩
          have HO3 := Lib.hid ((HO.out.below BW.out).below hb3)
          have y0 : wr.heap.size + 2 ≤ w3.heap.size := by have := hb3.size; simp at this; omega
          have P19' := heap_later P19.out hb3
          have P18' := heap_later P18.out hb3
          have P8' := heap_later P8.out hb3
          have P10' := heap_later P10.out hb3
          have z3 := hb3.size
          have BW3 := Lib.hid (below_seq BW.out hb3)
          obtain ⟨f0, f1⟩ := cells2p P19'
          obtain ⟨f2, f3⟩ := cells2p P18'
          obtain ⟨f4, f5⟩ := cells2p P8'
          obtain ⟨s1, s2⟩ := two_set P19' (.int .i64 (fx + 1)) (.int .i64 (fy + 1))
          have r0 := free3 P19' 0
          have r1 := free3 s1 1
          obtain ⟨t0, t1⟩ := cells2p s1
          obtain ⟨t2, t3⟩ := cells2p s2
          have G1 := gr_set w3 (wr.heap.size + 1) 0 (.int .i64 (fx + 1))
          have G2 := grown_tr G1 (gr_set _ (wr.heap.size + 1) 1 (.int .i64 (fy + 1)))
          have HOS := Lib.hid (OwnsI.keptUp9 HO3.out G2 (by simp [Value.ownBlock]; omega))
          have Q18 := heap_gr P18' G2 (by omega)
          have Q8 := heap_gr P8' G2 (by omega)
          have Q10 := heap_gr P10' G2 (by omega)
          have HG2 := Lib.hid G2
          obtain ⟨f6, f7⟩ := cells2p Q18
          obtain ⟨f8, f9⟩ := cells2p Q8
          clear G1 G2
          have i0 : 0 ≤ (fy + 1) * 4 + (fx + 1) := by omega
          have i1 : (fy + 1) * 4 + (fx + 1) < m := by have := HM.out; have h2 := HFX.out; have h3 := HFY.out; omega
          have ec : ((fy + 1) * 4 + (fx + 1)).toNat = (y + 1 - 1 + 3 / 2) * 4 + (x + 1 - 1 + 3 % 2) := by have h2 := HFX.out; have h3 := HFY.out; omega
          have EC := Lib.hid ec
          have ilt : (y + 1 - 1 + 3 / 2) * 4 + (x + 1 - 1 + 3 % 2) < aq.1.length := by rw [HFL.out, HM.out]; omega
          have hc9 : w3.cell? ⟨g, ((fy + 1) * 4 + (fx + 1)).toNat, none⟩ = some (.int .i64 (aq.1.getD ((y + 1 - 1 + 3 / 2) * 4 + (x + 1 - 1 + 3 % 2)) 0)) := by rw [ec]; exact HO3.out.cell ilt
          have hf9 : w3.frozen? ⟨g, ((fy + 1) * 4 + (fx + 1)).toNat, none⟩ = false := HO3.out.free _
          clear ec ilt
          clear e0 e1 e2 e3 e4 e5 c0 c1 d0 d1 hb3
          go_wp2_with fail
          have ST1 : OwnsI (((w3.setCell ⟨wr.heap.size + 1, 0, none⟩ (.int .i64 (fx + 1))).setCell ⟨wr.heap.size + 1, 1, none⟩ (.int .i64 (fy + 1))).setCell ⟨g, ((fy + 1) * 4 + (fx + 1)).toNat, none⟩ (.int .i64 ni)) B (.slice (some ⟨g, 0, none⟩) m cap) (aq.1.set ((y + 1 - 1 + 3 / 2) * 4 + (x + 1 - 1 + 3 % 2)) (n : Int)) := by
            have := (OwnsI.set HOS.out ((fy + 1) * 4 + (fx + 1)).toNat ni).1
            rw [show aq.1.set ((fy + 1) * 4 + (fx + 1)).toNat ni = aq.1.set ((y + 1 - 1 + 3 / 2) * 4 + (x + 1 - 1 + 3 % 2)) (n : Int) by rw [EC.out, HNI.out]] at this
            exact this
          have CALL := HIH.out m g cap B (aq.1.set ((y + 1 - 1 + 3 / 2) * 4 + (x + 1 - 1 + 3 % 2)) (n : Int)) (x + 3 % 2 * 1) (y + 3 / 2 * 1) (x + 1 - 1 + 3 % 2) (y + 1 - 1 + 3 / 2) aq.2 4 1 (fx + 1) (fy + 1) (fx + 1) (fy + 1) nq _ HM.out (by rw [List.length_set]; exact HFL.out) rfl rfl (by have h2 := HFX.out; omega) (by have h2 := HFY.out; omega) (by have h2 := HFX.out; omega) (by have h2 := HFY.out; omega) HNQ.out (by show _ + 1 ≤ _; omega) (by show _ + 1 ≤ _; omega) (by omega) (by omega) (by show _ + 0 ≤ _; omega) ST1
          rw [← HR.out] at CALL
          refine CALL.mono ?_; rintro e w5 ⟨rfl, ho5, hg5⟩
          have GS := gr_set ((w3.setCell ⟨wr.heap.size + 1, 0, none⟩ (.int .i64 (fx + 1))).setCell ⟨wr.heap.size + 1, 1, none⟩ (.int .i64 (fy + 1))) g ((fy + 1) * 4 + (fx + 1)).toNat (.int .i64 ni)
          have P8a := heap_gr (heap_gr Q8 GS (by omega)) hg5 (by omega)
          have P10a := heap_gr (heap_gr Q10 GS (by omega)) hg5 (by omega)
          have GD := Lib.hid (grown_tr (grown_tr (grown_nw (grown_tr HGR.out (grown_lw BW3.out _)) HG2.out (by omega)) GS) hg5)
          have HO5 := Lib.hid ho5; clear ho5 hg5 CALL GS ST1 Q8 Q10 Q18
          clear f0 f1 f2 f3 f4 f5 f6 f7 f8 f9 q1 q2 P8' P10' P18' P19' hc9 hf9 r0 r1 s1 s2 t0 t1 t2 t3
          go_wp2
          go_roundw
          case rel => exact ⟨4, 4, _, by omega, by first | rfl | simp, by first | rfl | omega, rfl, by rw [HNX.out], by rw [HNX.out]; exact HO5.out, P8a, P10a, GD.out⟩
          case measure => first | decide | simp [intOf]
    · have e4 : q = 4 := by omega
      subst e4
      clear hqi
      obtain rfl : qi = 4 := by have := HQI.out; omega
      have HNQ := Lib.hid hnq; clear hnq
      clear fn HSQ c0 c1 d0 d1 q1 q2
      go_wp2
      go_ret
      exact ⟨by show Ending.returned (.int .i64 nq) = _; rw [HNQ.out, HAQ.out], by rw [← HAQ.out]; exact HO.out, HGR.out⟩

set_option maxHeartbeats 4000000 in
theorem sqI_up41 (ih : SqI 4 1) : SqI 4 (1 + 1) := by
  intro m g cap B L x y hx hy n WI SI fx fy ox oy ni w hm hL hWI hSI hfx hfy hox hoy hni b1 b2 b3 b4 hn ho
  obtain ⟨a0, ha0⟩ : ∃ a0 : List Int × Nat, a0 = (L, n + 1) := ⟨_, rfl⟩
  obtain ⟨C, hC⟩ : ∃ C : Nat → List Int × Nat, C = cfK (cfN 4 1) 2 4 x y hx hy n a0 := ⟨_, rfl⟩
  have e16 : m = 16 := hm
  have b1' : x + 4 ≤ 4 := b1
  have b2' : y + 4 ≤ 4 := b2
  have hn' : n + 5 ≤ 1000 := hn
  obtain rfl : SI = 4 := hSI
  obtain rfl : WI = 4 := hWI
  have p1 := heap_later (heap_new w (.cells #[.int .i64 fx, .int .i64 fy] 78 (0, 0))) (below1 _ (.cells #[.int .i64 ox, .int .i64 oy] 78 (0, 0)))
  have p2 := heap_new2 w (.cells #[.int .i64 fx, .int .i64 fy] 78 (0, 0)) (.cells #[.int .i64 ox, .int .i64 oy] 78 (0, 0))
  have bb := Lib.hid (below2 w (.cells #[.int .i64 fx, .int .i64 fy] 78 (0, 0)) (.cells #[.int .i64 ox, .int .i64 oy] 78 (0, 0)))
  have o2 := Lib.hid ((ho.alloc (.cells #[.int .i64 fx, .int .i64 fy] 78 (0, 0))).alloc (.cells #[.int .i64 ox, .int .i64 oy] 78 (0, 0)))
  have lg := ho.lt
  clear ho
  have n1 : ni + 1 ≤ 1002 := by omega
  have fx0 : 0 ≤ fx := by omega
  have fx1 : fx ≤ 4 := by omega
  have fy0 : 0 ≤ fy := by omega
  have fy1 : fy ≤ 4 := by omega
  have n0 : 0 ≤ ni := by omega
  have n2 : n ≤ 1000 := by omega
  have hstart : ni + 1 = ((C 0).2 : Nat) := by rw [hC]; show _ = ((a0.2 : Nat) : Int); rw [ha0]; simp; omega
  have hst2 : (C 0).1 = L := by rw [hC]; show a0.1 = L; rw [ha0]
  have hstep : ∀ q, C (q + 1) = cfQ (cfN 4 1) 2 4 x y hx hy n q (C q) := fun q => by rw [hC]; rfl
  have facts : ∀ q, (C q).1.length = m ∧ (C q).2 = n + 1 + q * 1 := fun q => by
    have := cfK_facts (cfN 4 1) (cnN 1) 2 4 x y hx hy n a0 (cfN_facts 4 1) q
    rw [← hC, ha0] at this
    exact ⟨this.1.trans hL, this.2⟩
  have hend : cfN 4 (1 + 1) L x y hx hy n = C 4 := by rw [hC, ha0]; rfl
  rw [hend]
  clear hend hC ha0 hn b1 b2 hm
  have HST := Lib.hid hstart; clear hstart
  have HST2 := Lib.hid hst2; clear hst2
  have HFX := Lib.hid hfx; clear hfx
  have HFY := Lib.hid hfy; clear hfy
  have HOX := Lib.hid hox; clear hox
  have HOY := Lib.hid hoy; clear hoy
  have HNI := Lib.hid hni; clear hni
  have HM := Lib.hid e16; clear e16
  have HLN := Lib.hid hL; clear hL
  have HIH := Lib.hid ih; clear ih
  have HFA := Lib.hid facts; clear facts
  have HSP := Lib.hid hstep; clear hstep
  go_enter Try.func71, Try.ntmps71
  go_wp2
  go_loopw [5, 15, 16, 17, 18, 19, 28] (fun nx _ _ _ _ _ i wr => ∃ (q : Nat) (qi nq : Int), q ≤ 4 ∧ i = .int .i64 qi ∧ qi = q ∧ nx = .int .i64 nq ∧ nq = ((C q).2 : Nat) ∧ OwnsI wr B (.slice (some ⟨g, 0, none⟩) m cap) (C q).1 ∧ wr.heap[w.heap.size]? = some (.cells #[.int .i64 fx, .int .i64 fy] 78 (0, 0)) ∧ wr.heap[w.heap.size + 1]? = some (.cells #[.int .i64 ox, .int .i64 oy] 78 (0, 0)) ∧ w.grownBy wr (some g)) (fun _ _ _ _ _ _ i _ => 4 - (intOf i).toNat)
  case atStart => exact ⟨0, 0, ni + 1, by omega, rfl, rfl, rfl, HST.out, by rw [HST2.out]; exact o2.out, p1, p2, grown_lw bb.out _⟩
  case round =>
    rename World => wr
    clear p1 p2 bb o2 HST HST2
    obtain ⟨q, qi, nq, hq, rfl, hqi, rfl, hnq, ho, q1, q2, hgr⟩ := hrel
    have lr := ho.lt
    have zr := heap_lt q2
    have z1 := hgr.size
    obtain ⟨c0, c1⟩ := cells2p q1
    obtain ⟨d0, d1⟩ := cells2p q2
    obtain ⟨fl, fn⟩ := HFA.out q
    have HO := Lib.hid ho; clear ho
    have HGR := Lib.hid hgr; clear hgr
    obtain ⟨aq, haq⟩ : ∃ aq, aq = C q := ⟨_, rfl⟩
    have hsp := HSP.out q
    rw [← haq] at HO fl fn hsp hnq
    have HQI := Lib.hid hqi
    have HFL := Lib.hid fl; clear fl
    have HSQ := Lib.hid hsp; clear hsp
    have HAQ := Lib.hid haq; clear haq
    by_cases hlt : q < 4
    · rcases (by omega : q = 0 ∨ q = 1 ∨ q = 2 ∨ q = 3) with rfl | rfl | rfl | rfl
      · obtain rfl : qi = 0 := by omega
        clear hqi HQI
        have hnq2 : nq = aq.2 := hnq
        have HNQ := Lib.hid hnq2; clear hnq hnq2
        have fn2 : aq.2 ≤ n + 5 := by omega
        have fn3 : aq.2 = n + 1 + 0 * 1 := fn
        have nq1 : 0 ≤ nq := by have := HNQ.out; omega
        have nq2 : nq ≤ 1005 := by have := HNQ.out; omega
        clear fn
        by_cases hin : x + 0 % 2 * 2 ≤ hx ∧ hx < x + 0 % 2 * 2 + 2 ∧ y + 0 / 2 * 2 ≤ hy ∧ hy < y + 0 / 2 * 2 + 2
        · have HIN := Lib.hid hin; clear hin
          obtain ⟨R, hR⟩ : ∃ R : List Int × Nat, R = cfN 4 1 aq.1 (x + 0 % 2 * 2) (y + 0 / 2 * 2) (hx) (hy) aq.2 := ⟨_, rfl⟩
          have hnx : C (0 + 1) = R := by
            rw [HSQ.out, hR]; unfold cfQ; rw [if_pos (by unfold inQ; rw [decide_eq_true_eq]; exact HIN.out)]
          have HNX := Lib.hid hnx; clear hnx
          have HR := Lib.hid hR; clear hR
          have P19 : Hid (((wr.alloc (.cells #[.int .i64 (fx), .int .i64 (fy)] 78 (0, 0))).alloc (.cells #[.int .i64 ox, .int .i64 oy] 78 (0, 0))).heap[wr.heap.size + 1]? = some (.cells #[.int .i64 ox, .int .i64 oy] 78 (0, 0))) := heap_new2 wr (.cells #[.int .i64 (fx), .int .i64 (fy)] 78 (0, 0)) (.cells #[.int .i64 ox, .int .i64 oy] 78 (0, 0))
          have P18 : Hid (((wr.alloc (.cells #[.int .i64 (fx), .int .i64 (fy)] 78 (0, 0))).alloc (.cells #[.int .i64 ox, .int .i64 oy] 78 (0, 0))).heap[wr.heap.size]? = some (.cells #[.int .i64 (fx), .int .i64 (fy)] 78 (0, 0))) := heap_later (heap_new wr (.cells #[.int .i64 (fx), .int .i64 (fy)] 78 (0, 0))) (below1 _ _)
          have P8 : Hid (((wr.alloc (.cells #[.int .i64 (fx), .int .i64 (fy)] 78 (0, 0))).alloc (.cells #[.int .i64 ox, .int .i64 oy] 78 (0, 0))).heap[w.heap.size]? = some _) := heap_later q1 (below2 _ _ _)
          have P10 : Hid (((wr.alloc (.cells #[.int .i64 (fx), .int .i64 (fy)] 78 (0, 0))).alloc (.cells #[.int .i64 ox, .int .i64 oy] 78 (0, 0))).heap[w.heap.size + 1]? = some _) := heap_later q2 (below2 _ _ _)
          have BW : Hid (Below wr.heap.size wr ((wr.alloc (.cells #[.int .i64 (fx), .int .i64 (fy)] 78 (0, 0))).alloc (.cells #[.int .i64 ox, .int .i64 oy] 78 (0, 0)))) := below2 _ _ _
          obtain ⟨e0, e1⟩ := cells2p P10.out
          obtain ⟨e2, e3⟩ := cells2p P18.out
          obtain ⟨e4, e5⟩ := cells2p P19.out
          go_wp2_with fail
          refine (inSquare_is _ _ _ _ _ true _ (by omega) (by omega) (by have := HOX.out; omega) (by have := HOY.out; omega) (by have h1 := HIN.out; have h2 := HFX.out; have h3 := HFY.out; have h4 := HOX.out; have h5 := HOY.out; rw [decide_eq_true_eq]; omega) (by omega)).mono ?_; rintro e w3 ⟨rfl, hb3⟩
          have HO3 := Lib.hid ((HO.out.below BW.out).below hb3)
          have y0 : wr.heap.size + 2 ≤ w3.heap.size := by have := hb3.size; simp at this; omega
          have P19' := heap_later P19.out hb3
          have P18' := heap_later P18.out hb3
          have P8' := heap_later P8.out hb3
          have P10' := heap_later P10.out hb3
          have z3 := hb3.size
          have BW3 := Lib.hid (below_seq BW.out hb3)
          obtain ⟨f0, f1⟩ := cells2p P19'
          obtain ⟨f2, f3⟩ := cells2p P18'
          obtain ⟨f4, f5⟩ := cells2p P8'
          clear e0 e1 e2 e3 e4 e5 c0 c1 d0 d1 hb3
          go_wp2_with fail
          have CALL := HIH.out m g cap B aq.1 (x + 0 % 2 * 2) (y + 0 / 2 * 2) hx hy aq.2 4 2 (fx) (fy) ox oy nq w3 HM.out (HFL.out) rfl rfl (by have h2 := HFX.out; omega) (by have h2 := HFY.out; omega) HOX.out HOY.out HNQ.out (by show _ + 2 ≤ _; omega) (by show _ + 2 ≤ _; omega) b3 b4 (by show _ + 1 ≤ _; omega) HO3.out
          rw [← HR.out] at CALL
          refine CALL.mono ?_; rintro e w5 ⟨rfl, ho5, hg5⟩
          have P8a := heap_gr P8' hg5 (by omega)
          have P10a := heap_gr P10' hg5 (by omega)
          have GD := Lib.hid (grown_tr (grown_tr HGR.out (grown_lw BW3.out _)) hg5)
          have HO5 := Lib.hid ho5; clear ho5 hg5 CALL
          clear f0 f1 f2 f3 f4 f5 q1 q2 P8' P10' P18' P19'
          go_wp2
          go_roundw
          case rel => exact ⟨1, 1, _, by omega, by first | rfl | simp, by first | rfl | omega, rfl, by rw [HNX.out], by rw [HNX.out]; exact HO5.out, P8a, P10a, GD.out⟩
          case measure => first | decide | simp [intOf]
        · have HIN := Lib.hid hin; clear hin
          obtain ⟨R, hR⟩ : ∃ R : List Int × Nat, R = cfN 4 1 (aq.1.set ((y + 2 - 1 + 0 / 2) * 4 + (x + 2 - 1 + 0 % 2)) (n : Int)) (x + 0 % 2 * 2) (y + 0 / 2 * 2) (x + 2 - 1 + 0 % 2) (y + 2 - 1 + 0 / 2) aq.2 := ⟨_, rfl⟩
          have hnx : C (0 + 1) = R := by
            rw [HSQ.out, hR]; unfold cfQ; rw [if_neg (by unfold inQ; rw [decide_eq_true_eq]; exact HIN.out)]
          have HNX := Lib.hid hnx; clear hnx
          have HR := Lib.hid hR; clear hR
          have P19 : Hid (((wr.alloc (.cells #[.int .i64 (fx), .int .i64 (fy)] 78 (0, 0))).alloc (.cells #[.int .i64 ox, .int .i64 oy] 78 (0, 0))).heap[wr.heap.size + 1]? = some (.cells #[.int .i64 ox, .int .i64 oy] 78 (0, 0))) := heap_new2 wr (.cells #[.int .i64 (fx), .int .i64 (fy)] 78 (0, 0)) (.cells #[.int .i64 ox, .int .i64 oy] 78 (0, 0))
          have P18 : Hid (((wr.alloc (.cells #[.int .i64 (fx), .int .i64 (fy)] 78 (0, 0))).alloc (.cells #[.int .i64 ox, .int .i64 oy] 78 (0, 0))).heap[wr.heap.size]? = some (.cells #[.int .i64 (fx), .int .i64 (fy)] 78 (0, 0))) := heap_later (heap_new wr (.cells #[.int .i64 (fx), .int .i64 (fy)] 78 (0, 0))) (below1 _ _)
          have P8 : Hid (((wr.alloc (.cells #[.int .i64 (fx), .int .i64 (fy)] 78 (0, 0))).alloc (.cells #[.int .i64 ox, .int .i64 oy] 78 (0, 0))).heap[w.heap.size]? = some _) := heap_later q1 (below2 _ _ _)
          have P10 : Hid (((wr.alloc (.cells #[.int .i64 (fx), .int .i64 (fy)] 78 (0, 0))).alloc (.cells #[.int .i64 ox, .int .i64 oy] 78 (0, 0))).heap[w.heap.size + 1]? = some _) := heap_later q2 (below2 _ _ _)
          have BW : Hid (Below wr.heap.size wr ((wr.alloc (.cells #[.int .i64 (fx), .int .i64 (fy)] 78 (0, 0))).alloc (.cells #[.int .i64 ox, .int .i64 oy] 78 (0, 0)))) := below2 _ _ _
          obtain ⟨e0, e1⟩ := cells2p P10.out
          obtain ⟨e2, e3⟩ := cells2p P18.out
          obtain ⟨e4, e5⟩ := cells2p P19.out
          go_wp2_with fail
          refine (inSquare_is _ _ _ _ _ false _ (by omega) (by omega) (by have := HOX.out; omega) (by have := HOY.out; omega) (by have h1 := HIN.out; have h2 := HFX.out; have h3 := HFY.out; have h4 := HOX.out; have h5 := HOY.out; rw [decide_eq_false_iff_not]; omega) (by omega)).mono ?_; rintro e w3 ⟨rfl, hb3⟩
          have HO3 := Lib.hid ((HO.out.below BW.out).below hb3)
          have y0 : wr.heap.size + 2 ≤ w3.heap.size := by have := hb3.size; simp at this; omega
          have P19' := heap_later P19.out hb3
          have P18' := heap_later P18.out hb3
          have P8' := heap_later P8.out hb3
          have P10' := heap_later P10.out hb3
          have z3 := hb3.size
          have BW3 := Lib.hid (below_seq BW.out hb3)
          obtain ⟨f0, f1⟩ := cells2p P19'
          obtain ⟨f2, f3⟩ := cells2p P18'
          obtain ⟨f4, f5⟩ := cells2p P8'
          obtain ⟨s1, s2⟩ := two_set P19' (.int .i64 (fx + 2 - 1)) (.int .i64 (fy + 2 - 1))
          have r0 := free3 P19' 0
          have r1 := free3 s1 1
          obtain ⟨t0, t1⟩ := cells2p s1
          obtain ⟨t2, t3⟩ := cells2p s2
          have G1 := gr_set w3 (wr.heap.size + 1) 0 (.int .i64 (fx + 2 - 1))
          have G2 := grown_tr G1 (gr_set _ (wr.heap.size + 1) 1 (.int .i64 (fy + 2 - 1)))
          have HOS := Lib.hid (OwnsI.keptUp9 HO3.out G2 (by simp [Value.ownBlock]; omega))
          have Q18 := heap_gr P18' G2 (by omega)
          have Q8 := heap_gr P8' G2 (by omega)
          have Q10 := heap_gr P10' G2 (by omega)
          have HG2 := Lib.hid G2
          obtain ⟨f6, f7⟩ := cells2p Q18
          obtain ⟨f8, f9⟩ := cells2p Q8
          clear G1 G2
          have i0 : 0 ≤ (fy + 2 - 1) * 4 + (fx + 2 - 1) := by omega
          have i1 : (fy + 2 - 1) * 4 + (fx + 2 - 1) < m := by have := HM.out; have h2 := HFX.out; have h3 := HFY.out; omega
          have ec : ((fy + 2 - 1) * 4 + (fx + 2 - 1)).toNat = (y + 2 - 1 + 0 / 2) * 4 + (x + 2 - 1 + 0 % 2) := by have h2 := HFX.out; have h3 := HFY.out; omega
          have EC := Lib.hid ec
          have ilt : (y + 2 - 1 + 0 / 2) * 4 + (x + 2 - 1 + 0 % 2) < aq.1.length := by rw [HFL.out, HM.out]; omega
          have hc9 : w3.cell? ⟨g, ((fy + 2 - 1) * 4 + (fx + 2 - 1)).toNat, none⟩ = some (.int .i64 (aq.1.getD ((y + 2 - 1 + 0 / 2) * 4 + (x + 2 - 1 + 0 % 2)) 0)) := by rw [ec]; exact HO3.out.cell ilt
          have hf9 : w3.frozen? ⟨g, ((fy + 2 - 1) * 4 + (fx + 2 - 1)).toNat, none⟩ = false := HO3.out.free _
          clear ec ilt
          clear e0 e1 e2 e3 e4 e5 c0 c1 d0 d1 hb3
          go_wp2_with fail
          have ST1 : OwnsI (((w3.setCell ⟨wr.heap.size + 1, 0, none⟩ (.int .i64 (fx + 2 - 1))).setCell ⟨wr.heap.size + 1, 1, none⟩ (.int .i64 (fy + 2 - 1))).setCell ⟨g, ((fy + 2 - 1) * 4 + (fx + 2 - 1)).toNat, none⟩ (.int .i64 ni)) B (.slice (some ⟨g, 0, none⟩) m cap) (aq.1.set ((y + 2 - 1 + 0 / 2) * 4 + (x + 2 - 1 + 0 % 2)) (n : Int)) := by
            have := (OwnsI.set HOS.out ((fy + 2 - 1) * 4 + (fx + 2 - 1)).toNat ni).1
            rw [show aq.1.set ((fy + 2 - 1) * 4 + (fx + 2 - 1)).toNat ni = aq.1.set ((y + 2 - 1 + 0 / 2) * 4 + (x + 2 - 1 + 0 % 2)) (n : Int) by rw [EC.out, HNI.out]] at this
            exact this
          have CALL := HIH.out m g cap B (aq.1.set ((y + 2 - 1 + 0 / 2) * 4 + (x + 2 - 1 + 0 % 2)) (n : Int)) (x + 0 % 2 * 2) (y + 0 / 2 * 2) (x + 2 - 1 + 0 % 2) (y + 2 - 1 + 0 / 2) aq.2 4 2 (fx) (fy) (fx + 2 - 1) (fy + 2 - 1) nq _ HM.out (by rw [List.length_set]; exact HFL.out) rfl rfl (by have h2 := HFX.out; omega) (by have h2 := HFY.out; omega) (by have h2 := HFX.out; omega) (by have h2 := HFY.out; omega) HNQ.out (by show _ + 2 ≤ _; omega) (by show _ + 2 ≤ _; omega) (by omega) (by omega) (by show _ + 1 ≤ _; omega) ST1
          rw [← HR.out] at CALL
          refine CALL.mono ?_; rintro e w5 ⟨rfl, ho5, hg5⟩
          have GS := gr_set ((w3.setCell ⟨wr.heap.size + 1, 0, none⟩ (.int .i64 (fx + 2 - 1))).setCell ⟨wr.heap.size + 1, 1, none⟩ (.int .i64 (fy + 2 - 1))) g ((fy + 2 - 1) * 4 + (fx + 2 - 1)).toNat (.int .i64 ni)
          have P8a := heap_gr (heap_gr Q8 GS (by omega)) hg5 (by omega)
          have P10a := heap_gr (heap_gr Q10 GS (by omega)) hg5 (by omega)
          have GD := Lib.hid (grown_tr (grown_tr (grown_nw (grown_tr HGR.out (grown_lw BW3.out _)) HG2.out (by omega)) GS) hg5)
          have HO5 := Lib.hid ho5; clear ho5 hg5 CALL GS ST1 Q8 Q10 Q18
          clear f0 f1 f2 f3 f4 f5 f6 f7 f8 f9 q1 q2 P8' P10' P18' P19' hc9 hf9 r0 r1 s1 s2 t0 t1 t2 t3
          go_wp2
          go_roundw
          case rel => exact ⟨1, 1, _, by omega, by first | rfl | simp, by first | rfl | omega, rfl, by rw [HNX.out], by rw [HNX.out]; exact HO5.out, P8a, P10a, GD.out⟩
          case measure => first | decide | simp [intOf]
      · obtain rfl : qi = 1 := by omega
        clear hqi HQI
        have hnq2 : nq = aq.2 := hnq
        have HNQ := Lib.hid hnq2; clear hnq hnq2
        have fn2 : aq.2 ≤ n + 5 := by omega
        have fn3 : aq.2 = n + 1 + 1 * 1 := fn
        have nq1 : 0 ≤ nq := by have := HNQ.out; omega
        have nq2 : nq ≤ 1005 := by have := HNQ.out; omega
        clear fn
        by_cases hin : x + 1 % 2 * 2 ≤ hx ∧ hx < x + 1 % 2 * 2 + 2 ∧ y + 1 / 2 * 2 ≤ hy ∧ hy < y + 1 / 2 * 2 + 2
        · have HIN := Lib.hid hin; clear hin
          obtain ⟨R, hR⟩ : ∃ R : List Int × Nat, R = cfN 4 1 aq.1 (x + 1 % 2 * 2) (y + 1 / 2 * 2) (hx) (hy) aq.2 := ⟨_, rfl⟩
          have hnx : C (1 + 1) = R := by
            rw [HSQ.out, hR]; unfold cfQ; rw [if_pos (by unfold inQ; rw [decide_eq_true_eq]; exact HIN.out)]
          have HNX := Lib.hid hnx; clear hnx
          have HR := Lib.hid hR; clear hR
          have P19 : Hid (((wr.alloc (.cells #[.int .i64 (fx + 2), .int .i64 (fy)] 78 (0, 0))).alloc (.cells #[.int .i64 ox, .int .i64 oy] 78 (0, 0))).heap[wr.heap.size + 1]? = some (.cells #[.int .i64 ox, .int .i64 oy] 78 (0, 0))) := heap_new2 wr (.cells #[.int .i64 (fx + 2), .int .i64 (fy)] 78 (0, 0)) (.cells #[.int .i64 ox, .int .i64 oy] 78 (0, 0))
          have P18 : Hid (((wr.alloc (.cells #[.int .i64 (fx + 2), .int .i64 (fy)] 78 (0, 0))).alloc (.cells #[.int .i64 ox, .int .i64 oy] 78 (0, 0))).heap[wr.heap.size]? = some (.cells #[.int .i64 (fx + 2), .int .i64 (fy)] 78 (0, 0))) := heap_later (heap_new wr (.cells #[.int .i64 (fx + 2), .int .i64 (fy)] 78 (0, 0))) (below1 _ _)
          have P8 : Hid (((wr.alloc (.cells #[.int .i64 (fx + 2), .int .i64 (fy)] 78 (0, 0))).alloc (.cells #[.int .i64 ox, .int .i64 oy] 78 (0, 0))).heap[w.heap.size]? = some _) := heap_later q1 (below2 _ _ _)
          have P10 : Hid (((wr.alloc (.cells #[.int .i64 (fx + 2), .int .i64 (fy)] 78 (0, 0))).alloc (.cells #[.int .i64 ox, .int .i64 oy] 78 (0, 0))).heap[w.heap.size + 1]? = some _) := heap_later q2 (below2 _ _ _)
          have BW : Hid (Below wr.heap.size wr ((wr.alloc (.cells #[.int .i64 (fx + 2), .int .i64 (fy)] 78 (0, 0))).alloc (.cells #[.int .i64 ox, .int .i64 oy] 78 (0, 0)))) := below2 _ _ _
          obtain ⟨e0, e1⟩ := cells2p P10.out
          obtain ⟨e2, e3⟩ := cells2p P18.out
          obtain ⟨e4, e5⟩ := cells2p P19.out
          go_wp2_with fail
          refine (inSquare_is _ _ _ _ _ true _ (by omega) (by omega) (by have := HOX.out; omega) (by have := HOY.out; omega) (by have h1 := HIN.out; have h2 := HFX.out; have h3 := HFY.out; have h4 := HOX.out; have h5 := HOY.out; rw [decide_eq_true_eq]; omega) (by omega)).mono ?_; rintro e w3 ⟨rfl, hb3⟩
          have HO3 := Lib.hid ((HO.out.below BW.out).below hb3)
          have y0 : wr.heap.size + 2 ≤ w3.heap.size := by have := hb3.size; simp at this; omega
          have P19' := heap_later P19.out hb3
          have P18' := heap_later P18.out hb3
          have P8' := heap_later P8.out hb3
          have P10' := heap_later P10.out hb3
          have z3 := hb3.size
          have BW3 := Lib.hid (below_seq BW.out hb3)
          obtain ⟨f0, f1⟩ := cells2p P19'
          obtain ⟨f2, f3⟩ := cells2p P18'
          obtain ⟨f4, f5⟩ := cells2p P8'
          clear e0 e1 e2 e3 e4 e5 c0 c1 d0 d1 hb3
          go_wp2_with fail
          have CALL := HIH.out m g cap B aq.1 (x + 1 % 2 * 2) (y + 1 / 2 * 2) hx hy aq.2 4 2 (fx + 2) (fy) ox oy nq w3 HM.out (HFL.out) rfl rfl (by have h2 := HFX.out; omega) (by have h2 := HFY.out; omega) HOX.out HOY.out HNQ.out (by show _ + 2 ≤ _; omega) (by show _ + 2 ≤ _; omega) b3 b4 (by show _ + 1 ≤ _; omega) HO3.out
          rw [← HR.out] at CALL
          refine CALL.mono ?_; rintro e w5 ⟨rfl, ho5, hg5⟩
          have P8a := heap_gr P8' hg5 (by omega)
          have P10a := heap_gr P10' hg5 (by omega)
          have GD := Lib.hid (grown_tr (grown_tr HGR.out (grown_lw BW3.out _)) hg5)
          have HO5 := Lib.hid ho5; clear ho5 hg5 CALL
          clear f0 f1 f2 f3 f4 f5 q1 q2 P8' P10' P18' P19'
          go_wp2
          go_roundw
          case rel => exact ⟨2, 2, _, by omega, by first | rfl | simp, by first | rfl | omega, rfl, by rw [HNX.out], by rw [HNX.out]; exact HO5.out, P8a, P10a, GD.out⟩
          case measure => first | decide | simp [intOf]
        · have HIN := Lib.hid hin; clear hin
          obtain ⟨R, hR⟩ : ∃ R : List Int × Nat, R = cfN 4 1 (aq.1.set ((y + 2 - 1 + 1 / 2) * 4 + (x + 2 - 1 + 1 % 2)) (n : Int)) (x + 1 % 2 * 2) (y + 1 / 2 * 2) (x + 2 - 1 + 1 % 2) (y + 2 - 1 + 1 / 2) aq.2 := ⟨_, rfl⟩
          have hnx : C (1 + 1) = R := by
            rw [HSQ.out, hR]; unfold cfQ; rw [if_neg (by unfold inQ; rw [decide_eq_true_eq]; exact HIN.out)]
          have HNX := Lib.hid hnx; clear hnx
          have HR := Lib.hid hR; clear hR
          have P19 : Hid (((wr.alloc (.cells #[.int .i64 (fx + 2), .int .i64 (fy)] 78 (0, 0))).alloc (.cells #[.int .i64 ox, .int .i64 oy] 78 (0, 0))).heap[wr.heap.size + 1]? = some (.cells #[.int .i64 ox, .int .i64 oy] 78 (0, 0))) := heap_new2 wr (.cells #[.int .i64 (fx + 2), .int .i64 (fy)] 78 (0, 0)) (.cells #[.int .i64 ox, .int .i64 oy] 78 (0, 0))
          have P18 : Hid (((wr.alloc (.cells #[.int .i64 (fx + 2), .int .i64 (fy)] 78 (0, 0))).alloc (.cells #[.int .i64 ox, .int .i64 oy] 78 (0, 0))).heap[wr.heap.size]? = some (.cells #[.int .i64 (fx + 2), .int .i64 (fy)] 78 (0, 0))) := heap_later (heap_new wr (.cells #[.int .i64 (fx + 2), .int .i64 (fy)] 78 (0, 0))) (below1 _ _)
          have P8 : Hid (((wr.alloc (.cells #[.int .i64 (fx + 2), .int .i64 (fy)] 78 (0, 0))).alloc (.cells #[.int .i64 ox, .int .i64 oy] 78 (0, 0))).heap[w.heap.size]? = some _) := heap_later q1 (below2 _ _ _)
          have P10 : Hid (((wr.alloc (.cells #[.int .i64 (fx + 2), .int .i64 (fy)] 78 (0, 0))).alloc (.cells #[.int .i64 ox, .int .i64 oy] 78 (0, 0))).heap[w.heap.size + 1]? = some _) := heap_later q2 (below2 _ _ _)
          have BW : Hid (Below wr.heap.size wr ((wr.alloc (.cells #[.int .i64 (fx + 2), .int .i64 (fy)] 78 (0, 0))).alloc (.cells #[.int .i64 ox, .int .i64 oy] 78 (0, 0)))) := below2 _ _ _
          obtain ⟨e0, e1⟩ := cells2p P10.out
          obtain ⟨e2, e3⟩ := cells2p P18.out
          obtain ⟨e4, e5⟩ := cells2p P19.out
          go_wp2_with fail
          refine (inSquare_is _ _ _ _ _ false _ (by omega) (by omega) (by have := HOX.out; omega) (by have := HOY.out; omega) (by have h1 := HIN.out; have h2 := HFX.out; have h3 := HFY.out; have h4 := HOX.out; have h5 := HOY.out; rw [decide_eq_false_iff_not]; omega) (by omega)).mono ?_; rintro e w3 ⟨rfl, hb3⟩
          have HO3 := Lib.hid ((HO.out.below BW.out).below hb3)
          have y0 : wr.heap.size + 2 ≤ w3.heap.size := by have := hb3.size; simp at this; omega
          have P19' := heap_later P19.out hb3
          have P18' := heap_later P18.out hb3
          have P8' := heap_later P8.out hb3
          have P10' := heap_later P10.out hb3
          have z3 := hb3.size
          have BW3 := Lib.hid (below_seq BW.out hb3)
          obtain ⟨f0, f1⟩ := cells2p P19'
          obtain ⟨f2, f3⟩ := cells2p P18'
          obtain ⟨f4, f5⟩ := cells2p P8'
          obtain ⟨s1, s2⟩ := two_set P19' (.int .i64 (fx + 2)) (.int .i64 (fy + 2 - 1))
          have r0 := free3 P19' 0
          have r1 := free3 s1 1
          obtain ⟨t0, t1⟩ := cells2p s1
          obtain ⟨t2, t3⟩ := cells2p s2
          have G1 := gr_set w3 (wr.heap.size + 1) 0 (.int .i64 (fx + 2))
          have G2 := grown_tr G1 (gr_set _ (wr.heap.size + 1) 1 (.int .i64 (fy + 2 - 1)))
          have HOS := Lib.hid (OwnsI.keptUp9 HO3.out G2 (by simp [Value.ownBlock]; omega))
          have Q18 := heap_gr P18' G2 (by omega)
          have Q8 := heap_gr P8' G2 (by omega)
          have Q10 := heap_gr P10' G2 (by omega)
          have HG2 := Lib.hid G2
          obtain ⟨f6, f7⟩ := cells2p Q18
          obtain ⟨f8, f9⟩ := cells2p Q8
          clear G1 G2
          have i0 : 0 ≤ (fy + 2 - 1) * 4 + (fx + 2) := by omega
          have i1 : (fy + 2 - 1) * 4 + (fx + 2) < m := by have := HM.out; have h2 := HFX.out; have h3 := HFY.out; omega
          have ec : ((fy + 2 - 1) * 4 + (fx + 2)).toNat = (y + 2 - 1 + 1 / 2) * 4 + (x + 2 - 1 + 1 % 2) := by have h2 := HFX.out; have h3 := HFY.out; omega
          have EC := Lib.hid ec
          have ilt : (y + 2 - 1 + 1 / 2) * 4 + (x + 2 - 1 + 1 % 2) < aq.1.length := by rw [HFL.out, HM.out]; omega
          have hc9 : w3.cell? ⟨g, ((fy + 2 - 1) * 4 + (fx + 2)).toNat, none⟩ = some (.int .i64 (aq.1.getD ((y + 2 - 1 + 1 / 2) * 4 + (x + 2 - 1 + 1 % 2)) 0)) := by rw [ec]; exact HO3.out.cell ilt
          have hf9 : w3.frozen? ⟨g, ((fy + 2 - 1) * 4 + (fx + 2)).toNat, none⟩ = false := HO3.out.free _
          clear ec ilt
          clear e0 e1 e2 e3 e4 e5 c0 c1 d0 d1 hb3
          go_wp2_with fail
          have ST1 : OwnsI (((w3.setCell ⟨wr.heap.size + 1, 0, none⟩ (.int .i64 (fx + 2))).setCell ⟨wr.heap.size + 1, 1, none⟩ (.int .i64 (fy + 2 - 1))).setCell ⟨g, ((fy + 2 - 1) * 4 + (fx + 2)).toNat, none⟩ (.int .i64 ni)) B (.slice (some ⟨g, 0, none⟩) m cap) (aq.1.set ((y + 2 - 1 + 1 / 2) * 4 + (x + 2 - 1 + 1 % 2)) (n : Int)) := by
            have := (OwnsI.set HOS.out ((fy + 2 - 1) * 4 + (fx + 2)).toNat ni).1
            rw [show aq.1.set ((fy + 2 - 1) * 4 + (fx + 2)).toNat ni = aq.1.set ((y + 2 - 1 + 1 / 2) * 4 + (x + 2 - 1 + 1 % 2)) (n : Int) by rw [EC.out, HNI.out]] at this
            exact this
          have CALL := HIH.out m g cap B (aq.1.set ((y + 2 - 1 + 1 / 2) * 4 + (x + 2 - 1 + 1 % 2)) (n : Int)) (x + 1 % 2 * 2) (y + 1 / 2 * 2) (x + 2 - 1 + 1 % 2) (y + 2 - 1 + 1 / 2) aq.2 4 2 (fx + 2) (fy) (fx + 2) (fy + 2 - 1) nq _ HM.out (by rw [List.length_set]; exact HFL.out) rfl rfl (by have h2 := HFX.out; omega) (by have h2 := HFY.out; omega) (by have h2 := HFX.out; omega) (by have h2 := HFY.out; omega) HNQ.out (by show _ + 2 ≤ _; omega) (by show _ + 2 ≤ _; omega) (by omega) (by omega) (by show _ + 1 ≤ _; omega) ST1
          rw [← HR.out] at CALL
          refine CALL.mono ?_; rintro e w5 ⟨rfl, ho5, hg5⟩
          have GS := gr_set ((w3.setCell ⟨wr.heap.size + 1, 0, none⟩ (.int .i64 (fx + 2))).setCell ⟨wr.heap.size + 1, 1, none⟩ (.int .i64 (fy + 2 - 1))) g ((fy + 2 - 1) * 4 + (fx + 2)).toNat (.int .i64 ni)
          have P8a := heap_gr (heap_gr Q8 GS (by omega)) hg5 (by omega)
          have P10a := heap_gr (heap_gr Q10 GS (by omega)) hg5 (by omega)
          have GD := Lib.hid (grown_tr (grown_tr (grown_nw (grown_tr HGR.out (grown_lw BW3.out _)) HG2.out (by omega)) GS) hg5)
          have HO5 := Lib.hid ho5; clear ho5 hg5 CALL GS ST1 Q8 Q10 Q18
          clear f0 f1 f2 f3 f4 f5 f6 f7 f8 f9 q1 q2 P8' P10' P18' P19' hc9 hf9 r0 r1 s1 s2 t0 t1 t2 t3
          go_wp2
          go_roundw
          case rel => exact ⟨2, 2, _, by omega, by first | rfl | simp, by first | rfl | omega, rfl, by rw [HNX.out], by rw [HNX.out]; exact HO5.out, P8a, P10a, GD.out⟩
          case measure => first | decide | simp [intOf]
      · obtain rfl : qi = 2 := by omega
        clear hqi HQI
        have hnq2 : nq = aq.2 := hnq
        have HNQ := Lib.hid hnq2; clear hnq hnq2
        have fn2 : aq.2 ≤ n + 5 := by omega
        have fn3 : aq.2 = n + 1 + 2 * 1 := fn
        have nq1 : 0 ≤ nq := by have := HNQ.out; omega
        have nq2 : nq ≤ 1005 := by have := HNQ.out; omega
        clear fn
        by_cases hin : x + 2 % 2 * 2 ≤ hx ∧ hx < x + 2 % 2 * 2 + 2 ∧ y + 2 / 2 * 2 ≤ hy ∧ hy < y + 2 / 2 * 2 + 2
        · have HIN := Lib.hid hin; clear hin
          obtain ⟨R, hR⟩ : ∃ R : List Int × Nat, R = cfN 4 1 aq.1 (x + 2 % 2 * 2) (y + 2 / 2 * 2) (hx) (hy) aq.2 := ⟨_, rfl⟩
          have hnx : C (2 + 1) = R := by
            rw [HSQ.out, hR]; unfold cfQ; rw [if_pos (by unfold inQ; rw [decide_eq_true_eq]; exact HIN.out)]
          have HNX := Lib.hid hnx; clear hnx
          have HR := Lib.hid hR; clear hR
          have P19 : Hid (((wr.alloc (.cells #[.int .i64 (fx), .int .i64 (fy + 2)] 78 (0, 0))).alloc (.cells #[.int .i64 ox, .int .i64 oy] 78 (0, 0))).heap[wr.heap.size + 1]? = some (.cells #[.int .i64 ox, .int .i64 oy] 78 (0, 0))) := heap_new2 wr (.cells #[.int .i64 (fx), .int .i64 (fy + 2)] 78 (0, 0)) (.cells #[.int .i64 ox, .int .i64 oy] 78 (0, 0))
          have P18 : Hid (((wr.alloc (.cells #[.int .i64 (fx), .int .i64 (fy + 2)] 78 (0, 0))).alloc (.cells #[.int .i64 ox, .int .i64 oy] 78 (0, 0))).heap[wr.heap.size]? = some (.cells #[.int .i64 (fx), .int .i64 (fy + 2)] 78 (0, 0))) := heap_later (heap_new wr (.cells #[.int .i64 (fx), .int .i64 (fy + 2)] 78 (0, 0))) (below1 _ _)
          have P8 : Hid (((wr.alloc (.cells #[.int .i64 (fx), .int .i64 (fy + 2)] 78 (0, 0))).alloc (.cells #[.int .i64 ox, .int .i64 oy] 78 (0, 0))).heap[w.heap.size]? = some _) := heap_later q1 (below2 _ _ _)
          have P10 : Hid (((wr.alloc (.cells #[.int .i64 (fx), .int .i64 (fy + 2)] 78 (0, 0))).alloc (.cells #[.int .i64 ox, .int .i64 oy] 78 (0, 0))).heap[w.heap.size + 1]? = some _) := heap_later q2 (below2 _ _ _)
          have BW : Hid (Below wr.heap.size wr ((wr.alloc (.cells #[.int .i64 (fx), .int .i64 (fy + 2)] 78 (0, 0))).alloc (.cells #[.int .i64 ox, .int .i64 oy] 78 (0, 0)))) := below2 _ _ _
          obtain ⟨e0, e1⟩ := cells2p P10.out
          obtain ⟨e2, e3⟩ := cells2p P18.out
          obtain ⟨e4, e5⟩ := cells2p P19.out
          go_wp2_with fail
          refine (inSquare_is _ _ _ _ _ true _ (by omega) (by omega) (by have := HOX.out; omega) (by have := HOY.out; omega) (by have h1 := HIN.out; have h2 := HFX.out; have h3 := HFY.out; have h4 := HOX.out; have h5 := HOY.out; rw [decide_eq_true_eq]; omega) (by omega)).mono ?_; rintro e w3 ⟨rfl, hb3⟩
          have HO3 := Lib.hid ((HO.out.below BW.out).below hb3)
          have y0 : wr.heap.size + 2 ≤ w3.heap.size := by have := hb3.size; simp at this; omega
          have P19' := heap_later P19.out hb3
          have P18' := heap_later P18.out hb3
          have P8' := heap_later P8.out hb3
          have P10' := heap_later P10.out hb3
          have z3 := hb3.size
          have BW3 := Lib.hid (below_seq BW.out hb3)
          obtain ⟨f0, f1⟩ := cells2p P19'
          obtain ⟨f2, f3⟩ := cells2p P18'
          obtain ⟨f4, f5⟩ := cells2p P8'
          clear e0 e1 e2 e3 e4 e5 c0 c1 d0 d1 hb3
          go_wp2_with fail
          have CALL := HIH.out m g cap B aq.1 (x + 2 % 2 * 2) (y + 2 / 2 * 2) hx hy aq.2 4 2 (fx) (fy + 2) ox oy nq w3 HM.out (HFL.out) rfl rfl (by have h2 := HFX.out; omega) (by have h2 := HFY.out; omega) HOX.out HOY.out HNQ.out (by show _ + 2 ≤ _; omega) (by show _ + 2 ≤ _; omega) b3 b4 (by show _ + 1 ≤ _; omega) HO3.out
          rw [← HR.out] at CALL
          refine CALL.mono ?_; rintro e w5 ⟨rfl, ho5, hg5⟩
          have P8a := heap_gr P8' hg5 (by omega)
          have P10a := heap_gr P10' hg5 (by omega)
          have GD := Lib.hid (grown_tr (grown_tr HGR.out (grown_lw BW3.out _)) hg5)
          have HO5 := Lib.hid ho5; clear ho5 hg5 CALL
          clear f0 f1 f2 f3 f4 f5 q1 q2 P8' P10' P18' P19'
          go_wp2
          go_roundw
          case rel => exact ⟨3, 3, _, by omega, by first | rfl | simp, by first | rfl | omega, rfl, by rw [HNX.out], by rw [HNX.out]; exact HO5.out, P8a, P10a, GD.out⟩
          case measure => first | decide | simp [intOf]
        · have HIN := Lib.hid hin; clear hin
          obtain ⟨R, hR⟩ : ∃ R : List Int × Nat, R = cfN 4 1 (aq.1.set ((y + 2 - 1 + 2 / 2) * 4 + (x + 2 - 1 + 2 % 2)) (n : Int)) (x + 2 % 2 * 2) (y + 2 / 2 * 2) (x + 2 - 1 + 2 % 2) (y + 2 - 1 + 2 / 2) aq.2 := ⟨_, rfl⟩
          have hnx : C (2 + 1) = R := by
            rw [HSQ.out, hR]; unfold cfQ; rw [if_neg (by unfold inQ; rw [decide_eq_true_eq]; exact HIN.out)]
          have HNX := Lib.hid hnx; clear hnx
          have HR := Lib.hid hR; clear hR
          have P19 : Hid (((wr.alloc (.cells #[.int .i64 (fx), .int .i64 (fy + 2)] 78 (0, 0))).alloc (.cells #[.int .i64 ox, .int .i64 oy] 78 (0, 0))).heap[wr.heap.size + 1]? = some (.cells #[.int .i64 ox, .int .i64 oy] 78 (0, 0))) := heap_new2 wr (.cells #[.int .i64 (fx), .int .i64 (fy + 2)] 78 (0, 0)) (.cells #[.int .i64 ox, .int .i64 oy] 78 (0, 0))
          have P18 : Hid (((wr.alloc (.cells #[.int .i64 (fx), .int .i64 (fy + 2)] 78 (0, 0))).alloc (.cells #[.int .i64 ox, .int .i64 oy] 78 (0, 0))).heap[wr.heap.size]? = some (.cells #[.int .i64 (fx), .int .i64 (fy + 2)] 78 (0, 0))) := heap_later (heap_new wr (.cells #[.int .i64 (fx), .int .i64 (fy + 2)] 78 (0, 0))) (below1 _ _)
          have P8 : Hid (((wr.alloc (.cells #[.int .i64 (fx), .int .i64 (fy + 2)] 78 (0, 0))).alloc (.cells #[.int .i64 ox, .int .i64 oy] 78 (0, 0))).heap[w.heap.size]? = some _) := heap_later q1 (below2 _ _ _)
          have P10 : Hid (((wr.alloc (.cells #[.int .i64 (fx), .int .i64 (fy + 2)] 78 (0, 0))).alloc (.cells #[.int .i64 ox, .int .i64 oy] 78 (0, 0))).heap[w.heap.size + 1]? = some _) := heap_later q2 (below2 _ _ _)
          have BW : Hid (Below wr.heap.size wr ((wr.alloc (.cells #[.int .i64 (fx), .int .i64 (fy + 2)] 78 (0, 0))).alloc (.cells #[.int .i64 ox, .int .i64 oy] 78 (0, 0)))) := below2 _ _ _
          obtain ⟨e0, e1⟩ := cells2p P10.out
          obtain ⟨e2, e3⟩ := cells2p P18.out
          obtain ⟨e4, e5⟩ := cells2p P19.out
          go_wp2_with fail
          refine (inSquare_is _ _ _ _ _ false _ (by omega) (by omega) (by have := HOX.out; omega) (by have := HOY.out; omega) (by have h1 := HIN.out; have h2 := HFX.out; have h3 := HFY.out; have h4 := HOX.out; have h5 := HOY.out; rw [decide_eq_false_iff_not]; omega) (by omega)).mono ?_; rintro e w3 ⟨rfl, hb3⟩
          have HO3 := Lib.hid ((HO.out.below BW.out).below hb3)
          have y0 : wr.heap.size + 2 ≤ w3.heap.size := by have := hb3.size; simp at this; omega
          have P19' := heap_later P19.out hb3
          have P18' := heap_later P18.out hb3
          have P8' := heap_later P8.out hb3
          have P10' := heap_later P10.out hb3
          have z3 := hb3.size
          have BW3 := Lib.hid (below_seq BW.out hb3)
          obtain ⟨f0, f1⟩ := cells2p P19'
          obtain ⟨f2, f3⟩ := cells2p P18'
          obtain ⟨f4, f5⟩ := cells2p P8'
          obtain ⟨s1, s2⟩ := two_set P19' (.int .i64 (fx + 2 - 1)) (.int .i64 (fy + 2))
          have r0 := free3 P19' 0
          have r1 := free3 s1 1
          obtain ⟨t0, t1⟩ := cells2p s1
          obtain ⟨t2, t3⟩ := cells2p s2
          have G1 := gr_set w3 (wr.heap.size + 1) 0 (.int .i64 (fx + 2 - 1))
          have G2 := grown_tr G1 (gr_set _ (wr.heap.size + 1) 1 (.int .i64 (fy + 2)))
          have HOS := Lib.hid (OwnsI.keptUp9 HO3.out G2 (by simp [Value.ownBlock]; omega))
          have Q18 := heap_gr P18' G2 (by omega)
          have Q8 := heap_gr P8' G2 (by omega)
          have Q10 := heap_gr P10' G2 (by omega)
          have HG2 := Lib.hid G2
          obtain ⟨f6, f7⟩ := cells2p Q18
          obtain ⟨f8, f9⟩ := cells2p Q8
          clear G1 G2
          have i0 : 0 ≤ (fy + 2) * 4 + (fx + 2 - 1) := by omega
          have i1 : (fy + 2) * 4 + (fx + 2 - 1) < m := by have := HM.out; have h2 := HFX.out; have h3 := HFY.out; omega
          have ec : ((fy + 2) * 4 + (fx + 2 - 1)).toNat = (y + 2 - 1 + 2 / 2) * 4 + (x + 2 - 1 + 2 % 2) := by have h2 := HFX.out; have h3 := HFY.out; omega
          have EC := Lib.hid ec
          have ilt : (y + 2 - 1 + 2 / 2) * 4 + (x + 2 - 1 + 2 % 2) < aq.1.length := by rw [HFL.out, HM.out]; omega
          have hc9 : w3.cell? ⟨g, ((fy + 2) * 4 + (fx + 2 - 1)).toNat, none⟩ = some (.int .i64 (aq.1.getD ((y + 2 - 1 + 2 / 2) * 4 + (x + 2 - 1 + 2 % 2)) 0)) := by rw [ec]; exact HO3.out.cell ilt
          have hf9 : w3.frozen? ⟨g, ((fy + 2) * 4 + (fx + 2 - 1)).toNat, none⟩ = false := HO3.out.free _
          clear ec ilt
          clear e0 e1 e2 e3 e4 e5 c0 c1 d0 d1 hb3
          go_wp2_with fail
          have ST1 : OwnsI (((w3.setCell ⟨wr.heap.size + 1, 0, none⟩ (.int .i64 (fx + 2 - 1))).setCell ⟨wr.heap.size + 1, 1, none⟩ (.int .i64 (fy + 2))).setCell ⟨g, ((fy + 2) * 4 + (fx + 2 - 1)).toNat, none⟩ (.int .i64 ni)) B (.slice (some ⟨g, 0, none⟩) m cap) (aq.1.set ((y + 2 - 1 + 2 / 2) * 4 + (x + 2 - 1 + 2 % 2)) (n : Int)) := by
            have := (OwnsI.set HOS.out ((fy + 2) * 4 + (fx + 2 - 1)).toNat ni).1
            rw [show aq.1.set ((fy + 2) * 4 + (fx + 2 - 1)).toNat ni = aq.1.set ((y + 2 - 1 + 2 / 2) * 4 + (x + 2 - 1 + 2 % 2)) (n : Int) by rw [EC.out, HNI.out]] at this
            exact this
          have CALL := HIH.out m g cap B (aq.1.set ((y + 2 - 1 + 2 / 2) * 4 + (x + 2 - 1 + 2 % 2)) (n : Int)) (x + 2 % 2 * 2) (y + 2 / 2 * 2) (x + 2 - 1 + 2 % 2) (y + 2 - 1 + 2 / 2) aq.2 4 2 (fx) (fy + 2) (fx + 2 - 1) (fy + 2) nq _ HM.out (by rw [List.length_set]; exact HFL.out) rfl rfl (by have h2 := HFX.out; omega) (by have h2 := HFY.out; omega) (by have h2 := HFX.out; omega) (by have h2 := HFY.out; omega) HNQ.out (by show _ + 2 ≤ _; omega) (by show _ + 2 ≤ _; omega) (by omega) (by omega) (by show _ + 1 ≤ _; omega) ST1
          rw [← HR.out] at CALL
          refine CALL.mono ?_; rintro e w5 ⟨rfl, ho5, hg5⟩
          have GS := gr_set ((w3.setCell ⟨wr.heap.size + 1, 0, none⟩ (.int .i64 (fx + 2 - 1))).setCell ⟨wr.heap.size + 1, 1, none⟩ (.int .i64 (fy + 2))) g ((fy + 2) * 4 + (fx + 2 - 1)).toNat (.int .i64 ni)
          have P8a := heap_gr (heap_gr Q8 GS (by omega)) hg5 (by omega)
          have P10a := heap_gr (heap_gr Q10 GS (by omega)) hg5 (by omega)
          have GD := Lib.hid (grown_tr (grown_tr (grown_nw (grown_tr HGR.out (grown_lw BW3.out _)) HG2.out (by omega)) GS) hg5)
          have HO5 := Lib.hid ho5; clear ho5 hg5 CALL GS ST1 Q8 Q10 Q18
          clear f0 f1 f2 f3 f4 f5 f6 f7 f8 f9 q1 q2 P8' P10' P18' P19' hc9 hf9 r0 r1 s1 s2 t0 t1 t2 t3
          go_wp2
          go_roundw
          case rel => exact ⟨3, 3, _, by omega, by first | rfl | simp, by first | rfl | omega, rfl, by rw [HNX.out], by rw [HNX.out]; exact HO5.out, P8a, P10a, GD.out⟩
          case measure => first | decide | simp [intOf]
      · obtain rfl : qi = 3 := by omega
        clear hqi HQI
        have hnq2 : nq = aq.2 := hnq
        have HNQ := Lib.hid hnq2; clear hnq hnq2
        have fn2 : aq.2 ≤ n + 5 := by omega
        have fn3 : aq.2 = n + 1 + 3 * 1 := fn
        have nq1 : 0 ≤ nq := by have := HNQ.out; omega
        have nq2 : nq ≤ 1005 := by have := HNQ.out; omega
        clear fn
        by_cases hin : x + 3 % 2 * 2 ≤ hx ∧ hx < x + 3 % 2 * 2 + 2 ∧ y + 3 / 2 * 2 ≤ hy ∧ hy < y + 3 / 2 * 2 + 2
        · have HIN := Lib.hid hin; clear hin
          obtain ⟨R, hR⟩ : ∃ R : List Int × Nat, R = cfN 4 1 aq.1 (x + 3 % 2 * 2) (y + 3 / 2 * 2) (hx) (hy) aq.2 := ⟨_, rfl⟩
          have hnx : C (3 + 1) = R := by
            rw [HSQ.out, hR]; unfold cfQ; rw [if_pos (by unfold inQ; rw [decide_eq_true_eq]; exact HIN.out)]
          have HNX := Lib.hid hnx; clear hnx
          have HR := Lib.hid hR; clear hR
          have P19 : Hid (((wr.alloc (.cells #[.int .i64 (fx + 2), .int .i64 (fy + 2)] 78 (0, 0))).alloc (.cells #[.int .i64 ox, .int .i64 oy] 78 (0, 0))).heap[wr.heap.size + 1]? = some (.cells #[.int .i64 ox, .int .i64 oy] 78 (0, 0))) := heap_new2 wr (.cells #[.int .i64 (fx + 2), .int .i64 (fy + 2)] 78 (0, 0)) (.cells #[.int .i64 ox, .int .i64 oy] 78 (0, 0))
          have P18 : Hid (((wr.alloc (.cells #[.int .i64 (fx + 2), .int .i64 (fy + 2)] 78 (0, 0))).alloc (.cells #[.int .i64 ox, .int .i64 oy] 78 (0, 0))).heap[wr.heap.size]? = some (.cells #[.int .i64 (fx + 2), .int .i64 (fy + 2)] 78 (0, 0))) := heap_later (heap_new wr (.cells #[.int .i64 (fx + 2), .int .i64 (fy + 2)] 78 (0, 0))) (below1 _ _)
          have P8 : Hid (((wr.alloc (.cells #[.int .i64 (fx + 2), .int .i64 (fy + 2)] 78 (0, 0))).alloc (.cells #[.int .i64 ox, .int .i64 oy] 78 (0, 0))).heap[w.heap.size]? = some _) := heap_later q1 (below2 _ _ _)
          have P10 : Hid (((wr.alloc (.cells #[.int .i64 (fx + 2), .int .i64 (fy + 2)] 78 (0, 0))).alloc (.cells #[.int .i64 ox, .int .i64 oy] 78 (0, 0))).heap[w.heap.size + 1]? = some _) := heap_later q2 (below2 _ _ _)
          have BW : Hid (Below wr.heap.size wr ((wr.alloc (.cells #[.int .i64 (fx + 2), .int .i64 (fy + 2)] 78 (0, 0))).alloc (.cells #[.int .i64 ox, .int .i64 oy] 78 (0, 0)))) := below2 _ _ _
          obtain ⟨e0, e1⟩ := cells2p P10.out
          obtain ⟨e2, e3⟩ := cells2p P18.out
          obtain ⟨e4, e5⟩ := cells2p P19.out
          go_wp2_with fail
          refine (inSquare_is _ _ _ _ _ true _ (by omega) (by omega) (by have := HOX.out; omega) (by have := HOY.out; omega) (by have h1 := HIN.out; have h2 := HFX.out; have h3 := HFY.out; have h4 := HOX.out; have h5 := HOY.out; rw [decide_eq_true_eq]; omega) (by omega)).mono ?_; rintro e w3 ⟨rfl, hb3⟩
          have HO3 := Lib.hid ((HO.out.below BW.out).below hb3)
          have y0 : wr.heap.size + 2 ≤ w3.heap.size := by have := hb3.size; simp at this; omega
          have P19' := heap_later P19.out hb3
          have P18' := heap_later P18.out hb3
          have P8' := heap_later P8.out hb3
          have P10' := heap_later P10.out hb3
          have z3 := hb3.size
          have BW3 := Lib.hid (below_seq BW.out hb3)
          obtain ⟨f0, f1⟩ := cells2p P19'
          obtain ⟨f2, f3⟩ := cells2p P18'
          obtain ⟨f4, f5⟩ := cells2p P8'
          clear e0 e1 e2 e3 e4 e5 c0 c1 d0 d1 hb3
          go_wp2_with fail
          have CALL := HIH.out m g cap B aq.1 (x + 3 % 2 * 2) (y + 3 / 2 * 2) hx hy aq.2 4 2 (fx + 2) (fy + 2) ox oy nq w3 HM.out (HFL.out) rfl rfl (by have h2 := HFX.out; omega) (by have h2 := HFY.out; omega) HOX.out HOY.out HNQ.out (by show _ + 2 ≤ _; omega) (by show _ + 2 ≤ _; omega) b3 b4 (by show _ + 1 ≤ _; omega) HO3.out
          rw [← HR.out] at CALL
          refine CALL.mono ?_; rintro e w5 ⟨rfl, ho5, hg5⟩
          have P8a := heap_gr P8' hg5 (by omega)
          have P10a := heap_gr P10' hg5 (by omega)
          have GD := Lib.hid (grown_tr (grown_tr HGR.out (grown_lw BW3.out _)) hg5)
          have HO5 := Lib.hid ho5; clear ho5 hg5 CALL
          clear f0 f1 f2 f3 f4 f5 q1 q2 P8' P10' P18' P19'
          go_wp2
          go_roundw
          case rel => exact ⟨4, 4, _, by omega, by first | rfl | simp, by first | rfl | omega, rfl, by rw [HNX.out], by rw [HNX.out]; exact HO5.out, P8a, P10a, GD.out⟩
          case measure => first | decide | simp [intOf]
        · have HIN := Lib.hid hin; clear hin
          obtain ⟨R, hR⟩ : ∃ R : List Int × Nat, R = cfN 4 1 (aq.1.set ((y + 2 - 1 + 3 / 2) * 4 + (x + 2 - 1 + 3 % 2)) (n : Int)) (x + 3 % 2 * 2) (y + 3 / 2 * 2) (x + 2 - 1 + 3 % 2) (y + 2 - 1 + 3 / 2) aq.2 := ⟨_, rfl⟩
          have hnx : C (3 + 1) = R := by
            rw [HSQ.out, hR]; unfold cfQ; rw [if_neg (by unfold inQ; rw [decide_eq_true_eq]; exact HIN.out)]
          have HNX := Lib.hid hnx; clear hnx
          have HR := Lib.hid hR; clear hR
          have P19 : Hid (((wr.alloc (.cells #[.int .i64 (fx + 2), .int .i64 (fy + 2)] 78 (0, 0))).alloc (.cells #[.int .i64 ox, .int .i64 oy] 78 (0, 0))).heap[wr.heap.size + 1]? = some (.cells #[.int .i64 ox, .int .i64 oy] 78 (0, 0))) := heap_new2 wr (.cells #[.int .i64 (fx + 2), .int .i64 (fy + 2)] 78 (0, 0)) (.cells #[.int .i64 ox, .int .i64 oy] 78 (0, 0))
          have P18 : Hid (((wr.alloc (.cells #[.int .i64 (fx + 2), .int .i64 (fy + 2)] 78 (0, 0))).alloc (.cells #[.int .i64 ox, .int .i64 oy] 78 (0, 0))).heap[wr.heap.size]? = some (.cells #[.int .i64 (fx + 2), .int .i64 (fy + 2)] 78 (0, 0))) := heap_later (heap_new wr (.cells #[.int .i64 (fx + 2), .int .i64 (fy + 2)] 78 (0, 0))) (below1 _ _)
          have P8 : Hid (((wr.alloc (.cells #[.int .i64 (fx + 2), .int .i64 (fy + 2)] 78 (0, 0))).alloc (.cells #[.int .i64 ox, .int .i64 oy] 78 (0, 0))).heap[w.heap.size]? = some _) := heap_later q1 (below2 _ _ _)
          have P10 : Hid (((wr.alloc (.cells #[.int .i64 (fx + 2), .int .i64 (fy + 2)] 78 (0, 0))).alloc (.cells #[.int .i64 ox, .int .i64 oy] 78 (0, 0))).heap[w.heap.size + 1]? = some _) := heap_later q2 (below2 _ _ _)
          have BW : Hid (Below wr.heap.size wr ((wr.alloc (.cells #[.int .i64 (fx + 2), .int .i64 (fy + 2)] 78 (0, 0))).alloc (.cells #[.int .i64 ox, .int .i64 oy] 78 (0, 0)))) := below2 _ _ _
          obtain ⟨e0, e1⟩ := cells2p P10.out
          obtain ⟨e2, e3⟩ := cells2p P18.out
          obtain ⟨e4, e5⟩ := cells2p P19.out
          go_wp2_with fail
          refine (inSquare_is _ _ _ _ _ false _ (by omega) (by omega) (by have := HOX.out; omega) (by have := HOY.out; omega) (by have h1 := HIN.out; have h2 := HFX.out; have h3 := HFY.out; have h4 := HOX.out; have h5 := HOY.out; rw [decide_eq_false_iff_not]; omega) (by omega)).mono ?_; rintro e w3 ⟨rfl, hb3⟩
          have HO3 := Lib.hid ((HO.out.below BW.out).below hb3)
          have y0 : wr.heap.size + 2 ≤ w3.heap.size := by have := hb3.size; simp at this; omega
          have P19' := heap_later P19.out hb3
          have P18' := heap_later P18.out hb3
          have P8' := heap_later P8.out hb3
          have P10' := heap_later P10.out hb3
          have z3 := hb3.size
          have BW3 := Lib.hid (below_seq BW.out hb3)
          obtain ⟨f0, f1⟩ := cells2p P19'
          obtain ⟨f2, f3⟩ := cells2p P18'
          obtain ⟨f4, f5⟩ := cells2p P8'
          obtain ⟨s1, s2⟩ := two_set P19' (.int .i64 (fx + 2)) (.int .i64 (fy + 2))
          have r0 := free3 P19' 0
          have r1 := free3 s1 1
          obtain ⟨t0, t1⟩ := cells2p s1
          obtain ⟨t2, t3⟩ := cells2p s2
          have G1 := gr_set w3 (wr.heap.size + 1) 0 (.int .i64 (fx + 2))
          have G2 := grown_tr G1 (gr_set _ (wr.heap.size + 1) 1 (.int .i64 (fy + 2)))
          have HOS := Lib.hid (OwnsI.keptUp9 HO3.out G2 (by simp [Value.ownBlock]; omega))
          have Q18 := heap_gr P18' G2 (by omega)
          have Q8 := heap_gr P8' G2 (by omega)
          have Q10 := heap_gr P10' G2 (by omega)
          have HG2 := Lib.hid G2
          obtain ⟨f6, f7⟩ := cells2p Q18
          obtain ⟨f8, f9⟩ := cells2p Q8
          clear G1 G2
          have i0 : 0 ≤ (fy + 2) * 4 + (fx + 2) := by omega
          have i1 : (fy + 2) * 4 + (fx + 2) < m := by have := HM.out; have h2 := HFX.out; have h3 := HFY.out; omega
          have ec : ((fy + 2) * 4 + (fx + 2)).toNat = (y + 2 - 1 + 3 / 2) * 4 + (x + 2 - 1 + 3 % 2) := by have h2 := HFX.out; have h3 := HFY.out; omega
          have EC := Lib.hid ec
          have ilt : (y + 2 - 1 + 3 / 2) * 4 + (x + 2 - 1 + 3 % 2) < aq.1.length := by rw [HFL.out, HM.out]; omega
          have hc9 : w3.cell? ⟨g, ((fy + 2) * 4 + (fx + 2)).toNat, none⟩ = some (.int .i64 (aq.1.getD ((y + 2 - 1 + 3 / 2) * 4 + (x + 2 - 1 + 3 % 2)) 0)) := by rw [ec]; exact HO3.out.cell ilt
          have hf9 : w3.frozen? ⟨g, ((fy + 2) * 4 + (fx + 2)).toNat, none⟩ = false := HO3.out.free _
          clear ec ilt
          clear e0 e1 e2 e3 e4 e5 c0 c1 d0 d1 hb3
          go_wp2_with fail
          have ST1 : OwnsI (((w3.setCell ⟨wr.heap.size + 1, 0, none⟩ (.int .i64 (fx + 2))).setCell ⟨wr.heap.size + 1, 1, none⟩ (.int .i64 (fy + 2))).setCell ⟨g, ((fy + 2) * 4 + (fx + 2)).toNat, none⟩ (.int .i64 ni)) B (.slice (some ⟨g, 0, none⟩) m cap) (aq.1.set ((y + 2 - 1 + 3 / 2) * 4 + (x + 2 - 1 + 3 % 2)) (n : Int)) := by
            have := (OwnsI.set HOS.out ((fy + 2) * 4 + (fx + 2)).toNat ni).1
            rw [show aq.1.set ((fy + 2) * 4 + (fx + 2)).toNat ni = aq.1.set ((y + 2 - 1 + 3 / 2) * 4 + (x + 2 - 1 + 3 % 2)) (n : Int) by rw [EC.out, HNI.out]] at this
            exact this
          have CALL := HIH.out m g cap B (aq.1.set ((y + 2 - 1 + 3 / 2) * 4 + (x + 2 - 1 + 3 % 2)) (n : Int)) (x + 3 % 2 * 2) (y + 3 / 2 * 2) (x + 2 - 1 + 3 % 2) (y + 2 - 1 + 3 / 2) aq.2 4 2 (fx + 2) (fy + 2) (fx + 2) (fy + 2) nq _ HM.out (by rw [List.length_set]; exact HFL.out) rfl rfl (by have h2 := HFX.out; omega) (by have h2 := HFY.out; omega) (by have h2 := HFX.out; omega) (by have h2 := HFY.out; omega) HNQ.out (by show _ + 2 ≤ _; omega) (by show _ + 2 ≤ _; omega) (by omega) (by omega) (by show _ + 1 ≤ _; omega) ST1
          rw [← HR.out] at CALL
          refine CALL.mono ?_; rintro e w5 ⟨rfl, ho5, hg5⟩
          have GS := gr_set ((w3.setCell ⟨wr.heap.size + 1, 0, none⟩ (.int .i64 (fx + 2))).setCell ⟨wr.heap.size + 1, 1, none⟩ (.int .i64 (fy + 2))) g ((fy + 2) * 4 + (fx + 2)).toNat (.int .i64 ni)
          have P8a := heap_gr (heap_gr Q8 GS (by omega)) hg5 (by omega)
          have P10a := heap_gr (heap_gr Q10 GS (by omega)) hg5 (by omega)
          have GD := Lib.hid (grown_tr (grown_tr (grown_nw (grown_tr HGR.out (grown_lw BW3.out _)) HG2.out (by omega)) GS) hg5)
          have HO5 := Lib.hid ho5; clear ho5 hg5 CALL GS ST1 Q8 Q10 Q18
          clear f0 f1 f2 f3 f4 f5 f6 f7 f8 f9 q1 q2 P8' P10' P18' P19' hc9 hf9 r0 r1 s1 s2 t0 t1 t2 t3
          go_wp2
          go_roundw
          case rel => exact ⟨4, 4, _, by omega, by first | rfl | simp, by first | rfl | omega, rfl, by rw [HNX.out], by rw [HNX.out]; exact HO5.out, P8a, P10a, GD.out⟩
          case measure => first | decide | simp [intOf]
    · have e4 : q = 4 := by omega
      subst e4
      clear hqi
      obtain rfl : qi = 4 := by have := HQI.out; omega
      have HNQ := Lib.hid hnq; clear hnq
      clear fn HSQ c0 c1 d0 d1 q1 q2
      go_wp2
      go_ret
      exact ⟨by show Ending.returned (.int .i64 nq) = _; rw [HNQ.out, HAQ.out], by rw [← HAQ.out]; exact HO.out, HGR.out⟩

end Go.Proofs.Ythjocjiiihebbaa
