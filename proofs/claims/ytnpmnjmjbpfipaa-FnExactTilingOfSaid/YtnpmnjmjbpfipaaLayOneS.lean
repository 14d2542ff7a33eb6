/- Contracts of spec.LayOne, spec.LiftOne. -/
import Derived.Test.YtnpmnjmjbpfipaaLayOne
namespace Go.Proofs.Ytnpmnjmjbpfipaa
open Go.RowKit
set_option linter.unusedVariables false
set_option maxRecDepth 100000
set_option linter.unusedSimpArgs false

theorem ret_slB {a : Option Addr} {n n' cap : Nat} {b b' : Bool} (h : n = n') (hb : b = b') : Ending.returned (.tuple #[.slice a n cap, .bool b]) = .returned (.tuple #[.slice a n' cap, .bool b']) := by rw [h, hb]
theorem sStepTo_is (W T : Int) (k way : Int) (a : Option Addr) (n cap : Nat) (xs : List Bool) (w : World) {o : Int} (hn : n = xs.length) (hn' : n ≤ 1048576) (ha : BoolsAt w a xs) (h : rv W T xs = true) (ho : cellB W T n k way = o) :
    Calls Try.prog 65 #[.agg #[.int .i64 W, .int .i64 T, .slice a n cap], .int .i64 k, .int .i64 way] w fun e w' => e = .returned (.int .i64 o) ∧ Below w.heap.size w w' := by
  have e : stepTo W T xs k way = o := by unfold stepTo; rw [if_pos h, ← hn, ho]
  rw [← e]; exact sStepTo_any W T k way a n cap xs w hn hn' ha

/-- What a call of append returned is a list of the call's own. -/
theorem own_of_row {w : World} {B n : Nat} {v : Value} {L : List Int} {cs : List Value} (h : w.ownsRow B 3 1 v n cs) (hc : cs = L.map (Value.int .i64)) (hn : L.length = n) (h0 : 0 < n) :
    ∃ g cap, v = .slice (some ⟨g, 0, none⟩) n cap ∧ OwnsI w B (.slice (some ⟨g, 0, none⟩) n cap) L := by
  obtain ⟨g, cap, rfl⟩ := form_pos h h0
  exact ⟨g, cap, rfl, OwnsI.ofRow h hc hn⟩

set_option maxHeartbeats 4000000 in
theorem sLayOne_ret (W T : Int) (a : Option Addr) (n cap : Nat) (xs : List Bool) (la : Option Addr) (m lcap : Nat) (L : List Int) (k way : Int) (w : World) (hn : n = xs.length) (hn' : n ≤ 1048576) (hm : m = L.length) (hm' : m ≤ 1048576) (ha : BoolsAt w a xs) (hl : IntsAt w la L) :
    Calls Try.prog 74 #[.agg #[.int .i64 W, .int .i64 T, .slice a n cap], .slice la m lcap, .int .i64 k, .int .i64 way] w (RetLT w (layF W T xs L k way).1.length (layF W T xs L k way).1 (layF W T xs L k way).2) := by
  have HN := Lib.hid hn; clear hn
  have HM := Lib.hid hm; clear hm
  have HA := Lib.hid ha; clear ha
  have HL := Lib.hid hl; clear hl
  cases h : lok W T xs L
  · have e : layF W T xs L k way = ([], false) := by unfold layF; rw [h]; rfl
    rw [e]
    have H := Lib.hid h; clear h e
    go_enter Try.func74, Try.ntmps74
    go_wp2_with fail
    refine (sLaidOk_any _ _ _ _ _ xs _ _ _ L _ HN.out hn' HM.out hm' (HA.out.one _) (HL.out.one _)).mono ?_; rintro e w1 ⟨rfl, hb1⟩
    have b1 := below_seq (below1 w _) hb1
    rw [H.out]
    go_wp2
    go_ret2
    exact ⟨some ⟨w1.heap.size, 0, none⟩, 0, rfl, World.ownsRow_made w1 #[] 0 b1.size (Nat.zero_le _) rfl, below_seq b1 (below1 _ _)⟩
  · obtain ⟨h1, h2, h3⟩ := lok_rv h
    have hle : m = n := by rw [HM.out, HN.out]; exact h2
    subst hle
    obtain ⟨v1, v2, v3, v4, v5, _⟩ := rv_true h1
    have HV : Hid ((m : Int) = W * T) := by show (m : Int) = W * T; rw [HN.out]; exact v5
    have hpos := rv_pos v1 v3 HV.out
    have e : layF W T xs L k way = (laidL W T xs L k way, canLay W T xs L k way) := by unfold layF; rw [h]; rfl
    rw [e]
    have HE : Hid ((laidL W T xs L k way).length = m) := by show _ = m; rw [laidL_len, HM.out]
    clear h2 h3 v5 e
    have HR := Lib.hid h1; clear h1
    have H := Lib.hid h; clear h
    obtain ⟨i0, hi, hz0, hz1, hz2⟩ := info_parts infoInt
    obtain ⟨lb, lo, rfl, -⟩ := HL.out 0 (by rw [← HM.out]; exact hpos)
    obtain ⟨o, hco⟩ : ∃ o, cellB W T m k way = o := ⟨_, rfl⟩
    have bd := cellB_bd (n := m) (k := k) (way := way) v1 HV.out
    rw [hco] at bd
    have HCO := Lib.hid hco; clear hco
    go_enter Try.func74, Try.ntmps74
    go_wp2_with fail
    refine (sLaidOk_any _ _ _ _ _ xs _ _ _ L _ HN.out hn' HM.out hm' (HA.out.one _) (HL.out.one _)).mono ?_; rintro e w1 ⟨rfl, hb1⟩
    have p1 := heap_later (heap_new w _) hb1
    have b1 := below_seq (below1 w _) hb1
    have z1 := b1.size
    rw [H.out]
    clear hb1
    have HL1 := Lib.hid ((HL.out.below b1).one (.cells #[] 3 (0, 0)))
    have p1' := heap_later p1 (below1 w1 (.cells #[] 3 (0, 0)))
    obtain ⟨c0, c1, c2⟩ := cells3 p1'
    go_wp2_with (at_builtin; refine wpList_append_own _ rfl _ _ 41 rfl w1.heap.size 3 i0 (.int .i64 0) 1 8 Try.underlying41 hi hz0 hz1 hz2 rfl (by decide) _ _ _ rfl (World.ownsRow_made w1 #[] 0 (Nat.le_refl _) (Nat.zero_le _) rfl) ⟨lb, lo, none⟩ m lcap (L.map (Value.int .i64)) rfl (by rw [List.length_map, ← HM.out]; omega) (ints_news HL1.out) (ints_one L) (by unfold maxLen; omega) (by omega) (by simp) ?_; intro v' w2 hown hgrow hnil; clear hnil; rw [Nat.zero_add, List.nil_append] at hown; obtain ⟨g, gc, rfl, ho2⟩ := own_of_row (L := L) hown rfl HM.out.symm hpos; clear hown; have hgw : w.heap.size < g := Nat.lt_of_lt_of_le (heap_lt p1) ho2.lt.1; have hg2 : (w1.alloc (.cells #[] 3 (0, 0))).grownBy w2 (some w1.heap.size) := hgrow; clear hgrow; have b2 := below_grown (below_seq b1 (below1 _ _)) hg2 (Nat.le_refl _) (fun k e => by cases e; exact z1); have p2 := heap_grown p1' hg2 (by simp; have := heap_lt p1; omega); clear c0 c1 c2; obtain ⟨c0, c1, c2⟩ := cells3 p2; have HB2 := Lib.hid b2; clear hg2)
    have O2 := Lib.hid (ho2.lower z1); clear ho2
    refine (sStepTo_is _ _ _ _ _ _ _ xs _ HN.out hn' (HA.out.below HB2.out) HR.out HCO.out).mono ?_; rintro e w3 ⟨rfl, hb3⟩
    have p3 := heap_later p2 hb3
    clear c0 c1 c2
    obtain ⟨c0, c1, c2⟩ := cells3 p3
    have b3 := Lib.hid (below_seq HB2.out hb3)
    have O3 := Lib.hid (O2.out.below hb3)
    have A3 := Lib.hid (HA.out.below b3.out)
    have I3 := Lib.hid (HL.out.below b3.out)
    clear O2 hb3 p2 p1 p1' HL1 b2 b1
    by_cases h0 : o < 0
    · have HC : Hid (canLay W T xs L k way = false) := canLay_neg (by rw [← HN.out, HCO.out]; exact h0)
      have HLL : Hid (laidL W T xs L k way = L) := by show _ = _; unfold laidL; rw [HC.out]; rfl
      have h0d : decide (o < 0) = true := by simpa using h0
      clear bd
      go_wp2
      go_ret2
      exact ⟨some ⟨g, 0, none⟩, gc, ret_slB HE.out.symm HC.out.symm, by rw [HE.out, HLL.out]; exact O3.out, b3.out⟩
    · obtain ⟨k0, k1, o1, ok, hway⟩ := bd (by omega)
      clear bd
      obtain ⟨kn, rfl⟩ : ∃ kn : Nat, k = kn := ⟨k.toNat, by omega⟩
      obtain ⟨on, rfl⟩ : ∃ on : Nat, o = on := ⟨o.toNat, by omega⟩
      have hk : kn < m := by omega
      have hon : on < m := by omega
      have hw : 0 ≤ way ∧ way ≤ 1000 := by simp only [okOf, decide_eq_true_eq] at hway; omega
      obtain ⟨hw0, hw1⟩ := hw
      have hne : ¬ kn = on := by omega
      have h0d : decide ((on : Int) < 0) = false := by simp
      have e1 : (kn : Int) < m := by omega
      have e2 : (on : Int) < m := by omega
      clear hway ok k0 k1 o1 h0
      obtain ⟨xk, hxk⟩ : ∃ x, x = xs.getD kn false := ⟨_, rfl⟩
      obtain ⟨xo, hxo⟩ : ∃ x, x = xs.getD on false := ⟨_, rfl⟩
      obtain ⟨lk, hlk⟩ : ∃ x, x = L.getD kn 0 := ⟨_, rfl⟩
      obtain ⟨lq, hlq⟩ : ∃ x, x = L.getD on 0 := ⟨_, rfl⟩
      obtain ⟨xb, xf, rfl, -⟩ := A3.out kn (by rw [← HN.out]; exact hk)
      have qk := A3.out.cellAt (i := kn) (by rw [← HN.out]; exact hk)
      have qo := A3.out.cellAt (i := on) (by rw [← HN.out]; exact hon)
      have rk := I3.out.cellAt (i := kn) (by rw [← HM.out]; exact hk)
      have ro := I3.out.cellAt (i := on) (by rw [← HM.out]; exact hon)
      rw [← hxk] at qk; rw [← hxo] at qo; rw [← hlk] at rk; rw [← hlq] at ro
      have HFK : Hid (freeB xs L kn = (xk && (lk == 0))) := by show _ = _; rw [hxk, hlk]; rfl
      have HFO : Hid (freeB xs L on = (xo && (lq == 0))) := by show _ = _; rw [hxo, hlq]; rfl
      clear hxk hxo hlk hlq
      have HCL : Hid (canLay W T xs L kn way = (freeB xs L kn && freeB xs L on)) := by
        show _ = _; unfold canLay; rw [← HN.out, HCO.out]; simp
      by_cases hall : (xk = true ∧ xo = true) ∧ lk = 0 ∧ lq = 0
      · obtain ⟨⟨rfl, rfl⟩, rfl, rfl⟩ := hall
        have HC : Hid (canLay W T xs L kn way = true) := by show _ = _; rw [HCL.out, HFK.out, HFO.out]; rfl
        have HLL : Hid (laidL W T xs L kn way = (L.set kn way).set on (backI way)) := by
          show _ = _; unfold laidL; rw [HC.out, ← HN.out, HCO.out]; simp
        have s1 := OwnsI.set O3.out kn way
        have s2 := OwnsI.set s1.1 on (backI way)
        have hx1 := O3.out.cell (k := kn) (by rw [← HM.out]; exact hk)
        have hx2 := O3.out.cell (k := on) (by rw [← HM.out]; exact hon)
        have hz1 := O3.out.free kn
        have hz2 := O3.out.free on
        have HS := Lib.hid s2.1
        have HG := Lib.hid (grown_seq s1.2 s2.2)
        clear s1 s2
        have y1 := hx1
        go_wp2_with fail
        refine (l2Back_any _ _ hw0 hw1).mono ?_; rintro e w4 ⟨rfl, rfl⟩
        go_wp2
        go_ret2
        exact ⟨some ⟨g, 0, none⟩, gc, ret_slB HE.out.symm HC.out.symm, by rw [HE.out, HLL.out]; exact HS.out, below_grown b3.out HG.out (Nat.le_refl _) (fun k e => by cases e; exact O3.out.lt.1)⟩
      · have HC : Hid (canLay W T xs L kn way = false) := by
          show _ = _; rw [HCL.out, HFK.out, HFO.out]
          cases xk <;> cases xo <;> simp at hall ⊢
          exact hall
        have HLL : Hid (laidL W T xs L kn way = L) := by show _ = _; unfold laidL; rw [HC.out]; rfl
        cases xk
        · clear hall
          go_wp2
          go_ret2
          exact ⟨some ⟨g, 0, none⟩, gc, ret_slB HE.out.symm HC.out.symm, by rw [HE.out, HLL.out]; exact O3.out, b3.out⟩
        · cases xo
          · clear hall
            go_wp2
            go_ret2
            exact ⟨some ⟨g, 0, none⟩, gc, ret_slB HE.out.symm HC.out.symm, by rw [HE.out, HLL.out]; exact O3.out, b3.out⟩
          · by_cases hlk : lk = 0
            · have hlq : lq ≠ 0 := fun e => hall ⟨⟨rfl, rfl⟩, hlk, e⟩
              subst hlk
              clear hall
              have t1 : (lq != 0) = true := by simpa using hlq
              have t2 : (lq == 0) = false := by simpa using hlq
              go_wp2
              go_ret2
              exact ⟨some ⟨g, 0, none⟩, gc, ret_slB HE.out.symm HC.out.symm, by rw [HE.out, HLL.out]; exact O3.out, b3.out⟩
            · clear hall
              have t1 : (lk != 0) = true := by simpa using hlk
              have t2 : (lk == 0) = false := by simpa using hlk
              go_wp2
              go_ret2
              exact ⟨some ⟨g, 0, none⟩, gc, ret_slB HE.out.symm HC.out.symm, by rw [HE.out, HLL.out]; exact O3.out, b3.out⟩

end Go.Proofs.Ytnpmnjmjbpfipaa
