/- Contracts of MakePuzzle. No statement is proved here. -/
import Derived.Test.YthjocjiiihebbaaPrs
import Derived.Test.YthjocjiiihebbaaRep
import Derived.Test.YthjocjiiihebbaaLayOne
namespace Go.Proofs.Ythjocjiiihebbaa
open Go.RowKit
set_option linter.unusedVariables false
set_option maxRecDepth 100000
set_option linter.unusedSimpArgs false

/-- How many of the first k cells are the first one of a domino. -/
def onN (L : List Int) (k : Nat) : Nat := (List.range k).countP (goOn L)
theorem onN_succ (L : List Int) (k : Nat) : onN L (k + 1) = onN L k + if goOn L k then 1 else 0 := by
  unfold onN; rw [List.range_succ, List.countP_append]; simp [List.countP_cons]
theorem onN_le (L : List Int) (k : Nat) : onN L k ≤ k := by
  have := List.countP_le_length (p := goOn L) (l := List.range k)
  rw [List.length_range] at this; exact this
/-- The numbers after the first k cells. -/
def mkL (W T : Int) (L : List Int) (f : Nat) : Nat → List Int
  | 0 => List.replicate L.length (-1)
  | k + 1 => if goOn L k then ((mkL W T L f k).set k (lowP ((f + onN L k) % 28) : Int)).set (othN W T L k) (highP ((f + onN L k) % 28) : Int) else mkL W T L f k
def fromB (f : Int) : Bool := decide (0 ≤ f ∧ f ≤ 27)
def mkF (W T : Int) (xs : List Bool) (L : List Int) (f : Int) : List Int := if tok W T xs L && fromB f then mkL W T L f.toNat L.length else []
theorem mkL_len (W T : Int) (L : List Int) (f k : Nat) : (mkL W T L f k).length = L.length := by
  induction k with
  | zero => simp [mkL]
  | succ k ih => unfold mkL; split <;> simp [ih]
theorem mkF_le (W T : Int) (xs : List Bool) (L : List Int) (f : Int) : (mkF W T xs L f).length ≤ L.length := by
  unfold mkF; split
  · rw [mkL_len]; exact Nat.le_refl _
  · simp
theorem mkL_yes {W T : Int} {L : List Int} {f k : Nat} (h : goOn L k = true) : mkL W T L f (k + 1) = ((mkL W T L f k).set k (lowP ((f + onN L k) % 28) : Int)).set (othN W T L k) (highP ((f + onN L k) % 28) : Int) := by
  show (if goOn L k then _ else _) = _; rw [h]; rfl
theorem mkL_no {W T : Int} {L : List Int} {f k : Nat} (h : goOn L k = false) : mkL W T L f (k + 1) = mkL W T L f k := by
  show (if goOn L k then _ else _) = _; rw [h]; rfl
theorem keep5 {w : World} {b g q l : Nat} {x0 x1 x2 x3 x4 : Value} {u : Value} (hg : g ≠ b) (hl : g ≠ l) (h : w.cell? ⟨b, 0, none⟩ = some x0 ∧ w.cell? ⟨b, 1, none⟩ = some x1 ∧ w.cell? ⟨b, 2, none⟩ = some x2 ∧ w.cell? ⟨l, 0, none⟩ = some x3 ∧ w.cell? ⟨l, 1, none⟩ = some x4) :
    (w.setCell ⟨g, q, none⟩ u).cell? ⟨b, 0, none⟩ = some x0 ∧ (w.setCell ⟨g, q, none⟩ u).cell? ⟨b, 1, none⟩ = some x1 ∧ (w.setCell ⟨g, q, none⟩ u).cell? ⟨b, 2, none⟩ = some x2 ∧ (w.setCell ⟨g, q, none⟩ u).cell? ⟨l, 0, none⟩ = some x3 ∧ (w.setCell ⟨g, q, none⟩ u).cell? ⟨l, 1, none⟩ = some x4 := by
  obtain ⟨h0, h1, h2, h3, h4⟩ := h
  have e1 : ∀ i : Nat, (⟨g, q, none⟩ : Addr) ≠ ⟨b, i, none⟩ := fun i e => by simp only [Addr.mk.injEq] at e; exact hg e.1
  have e2 : ∀ i : Nat, (⟨g, q, none⟩ : Addr) ≠ ⟨l, i, none⟩ := fun i e => by simp only [Addr.mk.injEq] at e; exact hl e.1
  exact ⟨(World.cell?_setCell_other _ _ _ _ (e1 0)).trans h0, (World.cell?_setCell_other _ _ _ _ (e1 1)).trans h1, (World.cell?_setCell_other _ _ _ _ (e1 2)).trans h2, (World.cell?_setCell_other _ _ _ _ (e2 0)).trans h3, (World.cell?_setCell_other _ _ _ _ (e2 1)).trans h4⟩

set_option maxHeartbeats 4000000 in
theorem iMakePuzzle_ret (W T : Int) (a : Option Addr) (n cap : Nat) (xs : List Bool) (la : Option Addr) (m lcap : Nat) (L : List Int) (f : Int) (w : World) (hn : n = xs.length) (hn' : n ≤ 1048576) (hm : m = L.length) (hm' : m ≤ 1048576) (ha : BoolsAt w a xs) (hl : IntsAt w la L) :
    Calls Try.prog 34 #[.agg #[.int .i64 W, .int .i64 T, .slice a n cap], .slice la m lcap, .int .i64 f] w (RetL w (mkF W T xs L f).length (mkF W T xs L f)) := by
  have HN := Lib.hid hn; clear hn
  have HM := Lib.hid hm; clear hm
  have HA := Lib.hid ha; clear ha
  have HL := Lib.hid hl; clear hl
  cases hk : tok W T xs L
  · have HK := Lib.hid hk
    have e : mkF W T xs L f = [] := by unfold mkF; rw [hk]; rfl
    rw [e]; clear e
    clear hk
    go_enter Try.func34, Try.ntmps34
    go_wp2_with fail
    refine (pairsInOrder_ret _).mono ?_; rintro e w1 ⟨v, rfl, hp, hb1⟩
    obtain ⟨gP, cP, rfl, hg1, hg2⟩ := OwnsPr.pos hp (by rw [prL_len]; omega)
    rw [prL_len]
    have p1 := heap_later (heap_new w (.cells #[.int .i64 W, .int .i64 T, .slice a n cap] 35)) hb1
    have b1 := below_seq (below1 w _) hb1
    obtain ⟨c0, c1, c2⟩ := cells3 p1
    go_wp2_with fail
    refine (iTilingOk_any _ _ _ _ _ xs _ _ _ L _ HN.out hn' HM.out hm' (HA.out.below b1) (HL.out.below b1)).mono ?_; rintro e w2 ⟨rfl, hb2⟩
    rw [HK.out]
    go_wp2
    go_ret
    exact ⟨none, 0, rfl, OwnsI.nil _ _, below_seq b1 hb2⟩
  by_cases f0 : f < 0
  · have HK := Lib.hid hk
    have hf : fromB f = false := by unfold fromB; rw [decide_eq_false_iff_not]; omega
    have e : mkF W T xs L f = [] := by unfold mkF; rw [hf, Bool.and_false]; rfl
    rw [e]; clear e
    clear hk hf
    go_enter Try.func34, Try.ntmps34
    go_wp2_with fail
    refine (pairsInOrder_ret _).mono ?_; rintro e w1 ⟨v, rfl, hp, hb1⟩
    obtain ⟨gP, cP, rfl, hg1, hg2⟩ := OwnsPr.pos hp (by rw [prL_len]; omega)
    rw [prL_len]
    have p1 := heap_later (heap_new w (.cells #[.int .i64 W, .int .i64 T, .slice a n cap] 35)) hb1
    have b1 := below_seq (below1 w _) hb1
    obtain ⟨c0, c1, c2⟩ := cells3 p1
    go_wp2_with fail
    refine (iTilingOk_any _ _ _ _ _ xs _ _ _ L _ HN.out hn' HM.out hm' (HA.out.below b1) (HL.out.below b1)).mono ?_; rintro e w2 ⟨rfl, hb2⟩
    rw [HK.out]
    go_wp2
    go_ret
    exact ⟨none, 0, rfl, OwnsI.nil _ _, below_seq b1 hb2⟩
  by_cases f1 : 28 ≤ f
  · have HK := Lib.hid hk
    have hf : fromB f = false := by unfold fromB; rw [decide_eq_false_iff_not]; omega
    have e : mkF W T xs L f = [] := by unfold mkF; rw [hf, Bool.and_false]; rfl
    rw [e]; clear e
    clear hk hf
    go_enter Try.func34, Try.ntmps34
    go_wp2_with fail
    refine (pairsInOrder_ret _).mono ?_; rintro e w1 ⟨v, rfl, hp, hb1⟩
    obtain ⟨gP, cP, rfl, hg1, hg2⟩ := OwnsPr.pos hp (by rw [prL_len]; omega)
    rw [prL_len]
    have p1 := heap_later (heap_new w (.cells #[.int .i64 W, .int .i64 T, .slice a n cap] 35)) hb1
    have b1 := below_seq (below1 w _) hb1
    obtain ⟨c0, c1, c2⟩ := cells3 p1
    go_wp2_with fail
    refine (iTilingOk_any _ _ _ _ _ xs _ _ _ L _ HN.out hn' HM.out hm' (HA.out.below b1) (HL.out.below b1)).mono ?_; rintro e w2 ⟨rfl, hb2⟩
    rw [HK.out]
    go_wp2
    go_ret
    exact ⟨none, 0, rfl, OwnsI.nil _ _, below_seq b1 hb2⟩
  · obtain ⟨fn, rfl⟩ : ∃ fn : Nat, f = fn := ⟨f.toNat, by omega⟩
    have f28 : fn < 28 := by omega
    have hlk : lok W T xs L = true := by unfold tok at hk; rw [Bool.and_eq_true] at hk; exact hk.1
    obtain ⟨hr, hlenL, _⟩ := lok_rv hlk
    have e : mkF W T xs L fn = mkL W T L fn m := by
      unfold mkF
      rw [hk, show fromB fn = true by unfold fromB; rw [decide_eq_true_eq]; omega, HM.out]
      simp
    rw [e]
    have hmn : m = n := by rw [HM.out, HN.out]; exact hlenL
    subst hmn
    obtain ⟨hW0, hW1, hT0, hT1, v5, _⟩ := rv_true hr
    have HV : Hid ((m : Int) = W * T) := by show (m : Int) = W * T; rw [HN.out]; exact v5
    have m36 : m ≤ 36 := by
      have h1 : W * T ≤ 6 * 6 := Int.mul_le_mul hW1 hT1 (by omega) (by omega)
      have := HV.out; omega
    have HK := Lib.hid hk
    have HLK := Lib.hid hlk
    clear hk hlk e v5 f0 f1
    go_enter Try.func34, Try.ntmps34
    go_wp2_with fail
    refine (pairsInOrder_ret _).mono ?_; rintro e w1 ⟨v, rfl, hp, hb1⟩
    obtain ⟨gP, cP, rfl, hg1, hg2⟩ := OwnsPr.pos hp (by rw [prL_len]; omega)
    rw [prL_len] at hp ⊢
    have p1 := heap_later (heap_new w (.cells #[.int .i64 W, .int .i64 T, .slice a m cap] 35)) hb1
    have b1 := below_seq (below1 w _) hb1
    obtain ⟨c0, c1, c2⟩ := cells3 p1
    go_wp2_with fail
    refine (iTilingOk_any _ _ _ _ _ xs _ _ _ L _ HN.out hn' HM.out hm' (HA.out.below b1) (HL.out.below b1)).mono ?_; rintro e w2 ⟨rfl, hb2⟩
    rw [HK.out]
    have p2 := heap_later p1 hb2
    have b2 := Lib.hid (below_seq b1 hb2)
    have HP2 := Lib.hid (hp.below hb2)
    have z2 := hb2.size
    have y1 := hb1.size
    clear hb1 hb2 hp c0 c1 c2 p1 b1
    have HZ : Hid ((w2.alloc (.cells #[.int .i64 (-1)] 3)).cell? ⟨w2.heap.size, 0, none⟩ = some (.int .i64 (-1))) := new_int w2 (-1) 0 _ rfl
    go_wp2_with fail
    refine (repeat_any w2.heap.size 0 1 (-1) m (by omega) _ HZ.out).mono ?_; rintro e w3 ⟨gD, rfl, ho3, hb3⟩
    have p3 := heap_later (heap_later p2 (below1 _ _)) hb3
    have b3 := Lib.hid (below_seq (below_seq b2.out (below1 _ _)) hb3)
    have HP3 := Lib.hid ((HP2.out.below (below1 _ _)).below hb3)
    have hne : gP < gD := by have := (World.ownsRow.lt ho3 gD rfl).1; simp at this; omega
    have hgD : w.heap.size + 1 < gD := by have := (World.ownsRow.lt ho3 gD rfl).1; simp at this y1; omega
    have HO3 : Hid (OwnsI w3 (w.heap.size + 1) (.slice (some ⟨gD, 0, none⟩) m m) (mkL W T L fn 0)) := by
      show OwnsI _ _ _ _
      have := ho3.lower (B' := w.heap.size + 1) (by simp at y1 ⊢; omega)
      unfold mkL; rw [← HM.out]; exact this
    clear ho3 hb3 p2 HP2 b2 HZ
    go_wp2
    go_loopw [9, 10, 11, 12, 35] (fun nx _ _ _ i wr => ∃ k : Nat, k ≤ m ∧ i = .int .i64 k ∧ nx = .int .i64 ((fn + onN L k : Nat) : Int) ∧ OwnsI wr (w.heap.size + 1) (.slice (some ⟨gD, 0, none⟩) m m) (mkL W T L fn k) ∧ OwnsPr wr (w.heap.size + 1) (.slice (some ⟨gP, 0, none⟩) 28 cP) (prL 28) ∧ wr.heap[w.heap.size]? = some (.cells #[.int .i64 W, .int .i64 T, .slice a m cap] 35 (0, 0)) ∧ Below w.heap.size w wr) (fun _ _ _ _ i _ => m - (intOf i).toNat)
    case atStart => exact ⟨0, Nat.zero_le _, rfl, by simp [onN], HO3.out, by have := HP3.out; exact this.lower (by simp), p3, b3.out⟩
    case round =>
      rename World => wr
      clear p3 b3 HO3 HP3
      obtain ⟨k, hk, rfl, rfl, ho, hpr, pr, hbel⟩ := hrel
      have HO := Lib.hid ho; clear ho
      have HPR := Lib.hid hpr; clear hpr
      have BEL := Lib.hid hbel; clear hbel
      have lq : w.heap.size ≤ wr.heap.size := BEL.out.size
      obtain ⟨c0, c1, c2⟩ := cells3 pr
      have l1 := heap_lt pr
      by_cases hlt : k < m
      · have e1 : (k : Int) < m := by omega
        have e0 : (0 : Int) ≤ k := by omega
        obtain ⟨lb, lo, rfl, hc⟩ := (HL.out.below BEL.out) k (by rw [← HM.out]; exact hlt)
        obtain ⟨wy, hwy⟩ : ∃ wy, wy = L.getD k 0 := ⟨_, rfl⟩
        rw [← hwy] at hc
        have hcount := onN_succ L k
        have hle := onN_le L k
        cases hg : goOn L k
        · have HNX := Lib.hid (mkL_no (W := W) (T := T) (f := fn) hg)
          rw [hg] at hcount
          have HCN := Lib.hid hcount; clear hcount
          unfold goOn at hg
          rw [← hwy] at hg
          have HG := Lib.hid hg; clear hg hwy
          go_wp2_with (go_at_call 56; refine (leadsOn_is _ _ HG.out).mono ?_; rintro e w5 ⟨rfl, rfl⟩)
          go_roundw
          case rel => exact ⟨k + 1, by omega, by go_num, by rw [HCN.out]; rfl, by rw [HNX.out]; exact HO.out, HPR.out, pr, BEL.out⟩
          case measure => simp [intOf]; omega
        · obtain ⟨o, ho⟩ : ∃ o, o = othN W T L k := ⟨_, rfl⟩
          obtain ⟨hst, hom⟩ := lok_oth HLK.out (k := k) (by rw [← HM.out]; exact hlt) (goOn_bd hg)
          rw [← hwy, ← ho] at hst
          rw [← ho, ← HM.out] at hom
          have HNX := Lib.hid (mkL_yes (W := W) (T := T) (f := fn) hg)
          rw [hg] at hcount
          have HCN := Lib.hid hcount; clear hcount
          rw [← ho] at HNX
          have hok : o ≠ k := by
            intro h; have := step_ne (W := W) (T := T) (k := (k : Int)) (way := wy) hW0 (by omega) (by omega); omega
          have hcb : cellB W T m k wy = o := by unfold cellB; rw [if_pos ⟨by omega, by omega⟩, hst]
          unfold goOn at hg
          rw [← hwy] at hg
          obtain ⟨p, hp⟩ : ∃ p, p = (fn + onN L k) % 28 := ⟨_, rfl⟩
          have hp28 : p < 28 := by omega
          have hpm : (((fn + onN L k : Nat) : Int)).tmod 28 = p := by rw [Int.tmod_eq_emod_of_nonneg (by omega)]; omega
          have hpm2 : (((fn + onN L k : Nat) : Int)) % 28 = p := by omega
          have hnx2 : fn + onN L k ≤ 100 := by omega
          obtain ⟨NX, hNX⟩ : ∃ NX, NX = fn + onN L k := ⟨_, rfl⟩
          rw [← hNX] at hpm hpm2 hnx2 ⊢
          rw [← hp] at HNX
          have HNX2 := Lib.hid hNX; clear hNX hp
          obtain ⟨lp, hlp⟩ : ∃ lp, lp = lowP p := ⟨_, rfl⟩
          obtain ⟨hpp, hhp⟩ : ∃ hpp, hpp = highP p := ⟨_, rfl⟩
          rw [← hlp, ← hhp] at HNX
          have q0 : wr.cell? ⟨gP, p * 2, none⟩ = some (.int .i64 (lp : Int)) := OwnsPr.cellAt HPR.out (i := p) (by rw [prL_len]; exact hp28) 0 (.int .i64 (lp : Int)) (by rw [hlp]; simp [prL, prC])
          have q1 : wr.cell? ⟨gP, p * 2 + 1, none⟩ = some (.int .i64 (hpp : Int)) := OwnsPr.cellAt HPR.out (i := p) (by rw [prL_len]; exact hp28) 1 (.int .i64 (hpp : Int)) (by rw [hhp]; simp [prL, prC])
          clear hlp hhp
          have HST := Lib.hid hst; clear hst
          have HCB := Lib.hid hcb; clear hcb
          have HG := Lib.hid hg; clear hg hwy ho
          have om1 : (o : Int) < m := by omega
          have om0 : (0 : Int) ≤ o := by omega
          have ep1 : (p : Int) < 28 := by omega
          have ep0 : (0 : Int) ≤ p := by omega
          have hgO := HO.out.lt
          have HK6 : Hid (k < (mkL W T L fn k).length) := by show _ < _; rw [mkL_len, ← HM.out]; exact hlt
          have HO6 : Hid (o < (mkL W T L fn k).length) := by show _ < _; rw [mkL_len, ← HM.out]; exact hom
          have hgk : gD ≠ wr.heap.size := by omega
          have hgb : gD ≠ w.heap.size := by omega
          obtain ⟨wA, hwA⟩ : ∃ wA, wA = wr.alloc (.cells #[.int .i64 (lp : Int), .int .i64 (hpp : Int)] 69) := ⟨_, rfl⟩
          have bA : Below wr.heap.size wr wA := by rw [hwA]; exact below1 _ _
          have pA := heap_later pr bA
          have tA : wA.heap[wr.heap.size]? = some (.cells #[.int .i64 (lp : Int), .int .i64 (hpp : Int)] 69 (0, 0)) := by rw [hwA]; exact heap_new _ _
          have OA := Lib.hid (HO.out.below bA)
          have PRA := Lib.hid (HPR.out.below bA)
          have BA := Lib.hid (below_seq BEL.out bA)
          obtain ⟨d0, d1, d2⟩ := cells3 pA
          obtain ⟨t0, t1⟩ := cells2p tA
          have PQ : wA.drew.heap[w.heap.size]? = some _ := pA
          have TQ : wA.drew.heap[wr.heap.size]? = some _ := tA
          clear bA
          go_wp2_with (go_at_call 56; refine (leadsOn_is _ _ HG.out).mono ?_; rintro e w5 ⟨rfl, rfl⟩)
          rw [← hwA]
          clear hwA c0 c1 c2 hc q0 q1
          go_region_held3 (fun w' => w'.cell? ⟨w.heap.size, 0, none⟩ = some (.int .i64 W) ∧ w'.cell? ⟨w.heap.size, 1, none⟩ = some (.int .i64 T) ∧ w'.cell? ⟨w.heap.size, 2, none⟩ = some (.slice a m cap) ∧ w'.cell? ⟨wr.heap.size, 0, none⟩ = some (.int .i64 lp) ∧ w'.cell? ⟨wr.heap.size, 1, none⟩ = some (.int .i64 hpp))
            (first | go_keep | exact keep5 hgb hgk (by assumption))
            (first
              | (go_at_call 57; refine (cellBeside_is _ _ _ _ _ _ _ _ hW0 hW1 hT0 hT1 HV.out HCB.out).mono ?_; rintro e w6 ⟨rfl, hb6⟩; have p6 := heap_later PQ hb6; have t6 := heap_later TQ hb6; obtain ⟨c60, c61, c62⟩ := cells3 p6; obtain ⟨t60, t61⟩ := cells2p t6; have O6 := (show OwnsI wA.drew _ _ _ from OA.out).below hb6; have PR6 := Lib.hid (OwnsPr.below (show OwnsPr wA.drew _ _ _ from PRA.out) hb6); have B6 := Lib.hid (below_seq BA.out (below_seq (drew_below _) hb6)); have hk6 : k < (mkL W T L fn k).length := HK6.out; have ho6 : o < (mkL W T L fn k).length := HO6.out; have x6 := O6.cell (k := k) hk6; have f6 := O6.free k; have y6 := (OwnsI.set O6 k (lp : Int)).1.cell (k := o) (by rw [List.length_set]; exact ho6); have g6 := (OwnsI.set O6 k (lp : Int)).1.free o; have x6' := O6.cell (k := o) ho6; have f6' := O6.free o; have y6' := (OwnsI.set O6 o (hpp : Int)).1.cell (k := k) (by rw [List.length_set]; exact hk6); have g6' := (OwnsI.set O6 o (hpp : Int)).1.free k))
          have s1 := OwnsI.set O6 k (lp : Int)
          have s2 := OwnsI.set s1.1 o (hpp : Int)
          have G := grown_seq s1.2 s2.2
          have O8 := Lib.hid s2.1
          have p8 := heap_grown p6 G (by simp; omega)
          have P8 := Lib.hid (OwnsPr.kept PR6.out G (by simp [Value.ownBlock]; omega))
          have B8 := Lib.hid (below_grown B6.out G (Nat.le_refl _) (fun k e => by cases e; omega))
          have HC9 : Hid (fn + onN L (k + 1) = NX + 1) := by
            show _ = _
            have h1 := HCN.out; have h2 := HNX2.out; simp at h1; omega
          clear s1 s2 G
          go_wp2
          go_roundw
          case rel => exact ⟨k + 1, by omega, by go_num, by rw [HC9.out]; rfl, by rw [HNX.out]; exact O8.out, P8.out, p8, B8.out⟩
          case measure => simp [intOf]; omega
      · obtain rfl : k = m := by omega
        have hln := mkL_len W T L fn k
        rw [← HM.out] at hln
        have HLN := Lib.hid hln; clear hln
        go_wp2
        go_ret
        rw [HLN.out]
        exact ⟨some ⟨gD, 0, none⟩, k, rfl, HO.out.lower (Nat.le_succ _), BEL.out⟩

end Go.Proofs.Ythjocjiiihebbaa
