/- The draw of the law FnPartRegion. -/
import Derived.Test.YtbkoailejbenpaaProm
import Derived.Test.YtbkoailejbenpaaLaid20
import Derived.Test.YtbkoailejbenpaaPartP
namespace Go.Proofs.Ytbkoailejbenpaa
open Go.RowKit
set_option linter.unusedVariables false
set_option maxRecDepth 100000
set_option linter.unusedSimpArgs false

theorem OwnsB.keptUp9 {w w' : World} {B rb : Nat} {v : Value} {xs : List Bool} (h : OwnsB w B v xs) (hg : w.grownBy w' (some rb)) (hr : rb < B) : OwnsB w' B v xs :=
  h.keptBy hg (fun k e => by have := Option.some.inj e; omega)
theorem IntsAt.keptUp9 {w w' : World} {rb q : Nat} {a : Option Addr} {L : List Int} (h : IntsAt w a L) (hq : q = L.length) (hg : w.grownBy w' (some rb)) (hne : ∀ b o, a = some ⟨b, o, none⟩ → 0 < q → rb < b) : IntsAt w' a L := by
  intro i hi
  obtain ⟨b, o, e, hc⟩ := h i hi
  have := hne b o e (by omega)
  refine ⟨b, o, e, ?_⟩
  exact World.grownBy.cell hg hc (fun e2 => by have := Option.some.inj e2; simp at this; omega)
/-- A region and a number were drawn of a code. -/
def DrawnXP (w : World) (e : Ending) (w' : World) : Prop :=
  ∃ (W T : Int) (a : Option Addr) (n cap : Nat) (xs : List Bool) (part : Int), e = .returned (.tuple #[.agg #[.int .i64 W, .int .i64 T, .slice a n cap], .int .i64 part]) ∧ n = xs.length ∧ n ≤ 36 ∧ (0 ≤ W ∧ W ≤ 6 ∧ 0 ≤ T ∧ T ≤ 6) ∧ OwnsB w' (w.heap.size + 1) (.slice a n cap) xs ∧ Below w.heap.size w w'

set_option maxHeartbeats 1000000 in
theorem drawPartRegion_any (cb : Option Addr) (n cap : Nat) (zs : List Int) (w : World) (hn : n = zs.length) (hn' : n ≤ 1048576) (hcap : n ≤ cap) (hb : BytesAt w cb zs) :
    Calls Try.prog 4 #[.slice cb n cap] w (DrawnXP w) := by
  have HN := Lib.hid hn; clear hn
  have HB := Lib.hid hb; clear hb
  go_enter Try.func4, Try.ntmps4
  go_wp2_with fail
  refine (l20Open_any _ _ _ zs _ HN.out hn' hcap (HB.out.below (below1 _ _))).mono ?_; rintro e w1 ⟨rfl, r1, b1⟩
  have q1 := heap_later (heap_new w (.cells #[.int .i64 0, .int .i64 0, .slice none 0 0] 25)) b1
  have B1 := Lib.hid (below_seq (below1 w _) b1)
  have R1 : Hid (RD w1 (w.heap.size + 1) 0) := by show RD _ _ _; simpa using r1
  have l1 := heap_lt q1
  have l2 := R1.out.lt
  clear r1 b1
  go_wp2_with fail
  refine (l20Some_any (w.heap.size + 1) 0 9 _ (by omega) (by omega) (by omega) R1.out).mono ?_; rintro e w2 ⟨W, T, a, m, c, xs, rfl, hm, h36, hs, o2, r2, g2⟩
  have q2 := heap_grown q1 g2 (by simp)
  have B2 := Lib.hid (below_grown B1.out g2 (Nat.le_refl _) (fun k e => by cases e; omega))
  have O2 := Lib.hid o2
  have R2 := Lib.hid r2
  have HM := Lib.hid hm
  have l3 := g2.size
  have hneA : w.heap.size ≠ w2.heap.size := by omega
  have hneB : w2.heap.size ≠ w.heap.size := by omega
  clear o2 r2 g2 hm q1 B1 R1
  have hS : Hid (∀ (w : World), BoolsAt w a xs → Calls Try.prog 13 #[.agg #[.int .i64 W, .int .i64 T, .slice a m c]] w (RetL w (partsF W T xs).length (partsF W T xs))) := fun w h => sPartsOf_ret W T a m c xs w HM.out (by omega) h
  have hlen := partsF_len W T xs
  rw [← HM.out] at hlen
  generalize partsF W T xs = L at hS hlen
  obtain ⟨q, hq⟩ : ∃ q, q = L.length := ⟨_, rfl⟩
  rw [← hq] at hS hlen
  have HQ := Lib.hid hq; clear hq
  go_wp2_with fail
  refine (hS.out _ ((OwnsB.at O2.out).one _)).mono ?_; rintro e w3 ⟨la, lcap, rfl, ho3, hb3⟩
  have q3 := heap_later (heap_later q2 (below1 w2 (.cells #[.int .i64 W, .int .i64 T, .slice a m c] 25))) hb3
  have p3 := heap_later (heap_new w2 (.cells #[.int .i64 W, .int .i64 T, .slice a m c] 25)) hb3
  have b23 := below_seq (below1 w2 (.cells #[.int .i64 W, .int .i64 T, .slice a m c] 25)) hb3
  have R3 := Lib.hid (R2.out.below b23)
  have O3 := Lib.hid (O2.out.below b23)
  have B3 := Lib.hid (below_seq B2.out b23)
  have L3 := Lib.hid (OwnsI.at ho3)
  have HL9 : Hid (∀ b o, la = some ⟨b, o, none⟩ → 0 < q → w.heap.size + 1 < b) := by
    intro b o e hq0
    subst e
    obtain ⟨g, cp, hv, h1, h2⟩ := ho3.pos (by rw [← HQ.out]; exact hq0)
    simp only [Value.slice.injEq, Option.some.injEq, Addr.mk.injEq] at hv
    have h3 : w2.heap.size + 1 ≤ g := by simpa using h1
    omega
  have l4 := b23.size
  clear ho3 hb3 b23 q2 R2 O2 B2 hS
  by_cases hq0 : 0 < q
  · have hq1 : (0 : Int) < q := by omega
    go_wp2_with fail
    refine (pick_any (w.heap.size + 1) 300 4 _ (by omega) (by omega) (by omega) R3.out).mono ?_; rintro e w4 ⟨v4, hv4, rfl, r4, g4⟩
    have q4 := heap_grown q3 g4 (by intro e; have := Option.some.inj e; omega)
    have p4 := heap_grown p3 g4 (by intro e; have := Option.some.inj e; omega)
    have B4 := Lib.hid (below_grown B3.out g4 (Nat.le_refl _) (fun k e => by have := Option.some.inj e; omega))
    have O4 := Lib.hid (OwnsB.keptUp9 O3.out g4 (by omega))
    have R4 := Lib.hid r4
    have L4 := Lib.hid (IntsAt.keptUp9 (rb := w.heap.size + 1) L3.out HQ.out g4 HL9.out)
    have l5 := g4.size
    clear r4 g4
    by_cases h4 : 0 < v4
    · have h4d : decide (0 < v4) = true := decide_eq_true h4
      have h4i : (0 : Int) < v4 := by omega
      obtain ⟨xc0, xc1, xc2⟩ := cells3 p4
      have PQ : w4.drew.heap[w2.heap.size]? = some _ := p4
      have QQ : w4.drew.heap[w.heap.size]? = some _ := q4
      go_upto_region 5 with fail
      have HSD := Lib.hid (show (fun w' : World => w'.cell? ⟨w2.heap.size, 0, none⟩ = some (.int .i64 W) ∧ w'.cell? ⟨w2.heap.size, 1, none⟩ = some (.int .i64 T) ∧ w'.cell? ⟨w2.heap.size, 2, none⟩ = some (.slice a m c)) w4.drew from ⟨xc0, xc1, xc2⟩)
      refine wp_region_till (fun w' : World => w'.cell? ⟨w2.heap.size, 0, none⟩ = some (.int .i64 W) ∧ w'.cell? ⟨w2.heap.size, 1, none⟩ = some (.int .i64 T) ∧ w'.cell? ⟨w2.heap.size, 2, none⟩ = some (.slice a m c)) 9 (by kernel_rfl) ?_
      refine Till.take (i := 0) (v := ?_) rfl (by kernel_rfl) (by kernel_rfl) (by kernel_rfl) (by kernel_rfl) (fun _ _ _ h => h) (Or.inl ⟨by kernel_rfl, ?_⟩) HSD.out ?_
      rotate_left
      · intro ws hsw
        obtain ⟨s1, s2, s3⟩ := hsw
        go_simp
        try with_reducible rfl
      try simp only [Act.put, List.setIfInBounds_toArray, List.set_cons_zero, List.set_cons_succ]
      refine Till.take (i := 1) (v := ?_) rfl (by kernel_rfl) (by kernel_rfl) (by kernel_rfl) (by kernel_rfl) (fun _ _ _ h => h) (Or.inl ⟨by kernel_rfl, ?_⟩) HSD.out ?_
      rotate_left
      · intro ws hsw
        obtain ⟨s1, s2, s3⟩ := hsw
        go_simp
        try with_reducible rfl
      try simp only [Act.put, List.setIfInBounds_toArray, List.set_cons_zero, List.set_cons_succ]
      refine Till.take (i := 2) (v := ?_) rfl (by kernel_rfl) (by kernel_rfl) (by kernel_rfl) (by kernel_rfl) (fun _ _ _ h => h) (Or.inl ⟨by kernel_rfl, ?_⟩) HSD.out ?_
      rotate_left
      · intro ws hsw
        obtain ⟨s1, s2, s3⟩ := hsw
        go_simp
        try with_reducible rfl
      try simp only [Act.put, List.setIfInBounds_toArray, List.set_cons_zero, List.set_cons_succ]
      refine Till.take (i := 3) (v := ?_) rfl (by kernel_rfl) (by kernel_rfl) (by kernel_rfl) (by kernel_rfl) (fun _ _ _ h => h) (Or.inl ⟨by kernel_rfl, ?_⟩) HSD.out ?_
      rotate_left
      · intro ws hsw
        obtain ⟨s1, s2, s3⟩ := hsw
        go_simp
        try with_reducible rfl
      try simp only [Act.put, List.setIfInBounds_toArray, List.set_cons_zero, List.set_cons_succ]
      refine Till.take (i := 4) (v := ?_) rfl (by kernel_rfl) (by kernel_rfl) (by kernel_rfl) (by kernel_rfl) (fun _ _ _ h => h) (Or.inl ⟨by kernel_rfl, ?_⟩) HSD.out ?_
      rotate_left
      · intro ws hsw
        obtain ⟨s1, s2, s3⟩ := hsw
        go_simp
        try with_reducible rfl
      try simp only [Act.put, List.setIfInBounds_toArray, List.set_cons_zero, List.set_cons_succ]
      refine Till.one (i := 5) (by kernel_rfl) rfl (by rfl) (fun K hK => ?_)
      go_simp
      refine (pick_any (w.heap.size + 1) 301 q _ (by omega) (by omega) (by omega) (show RD w4.drew _ _ from R4.out)).mono ?_; rintro e w9 ⟨v9, hv9, rfl, r9, g9⟩
      have p9 := heap_grown PQ g9 (by intro e; have := Option.some.inj e; omega)
      have q9 := heap_grown QQ g9 (by intro e; have := Option.some.inj e; omega)
      obtain ⟨x90, x91, x92⟩ := cells3 p9
      obtain ⟨d90, d91, d92⟩ := cells3 q9
      have f90 := free3 q9 0
      have f91 := free3 q9 1
      have f92 := free3 q9 2
      have L9 := IntsAt.keptUp9 (rb := w.heap.size + 1) (show IntsAt w4.drew _ _ from L4.out) HQ.out g9 HL9.out
      obtain ⟨lb9, lo9, hla9, hc9⟩ := L9 v9 (by rw [← HQ.out]; exact hv9)
      subst hla9
      have hv91 : (v9 : Int) < q := by omega
      have hv92 : (0 : Int) ≤ v9 := by omega
      have hv93 : ((v9 : Int)).toNat = v9 := by omega
      clear xc0 xc1 xc2 PQ QQ
      refine hK.out _ _ (fun _ => ⟨x90, x91, x92⟩) ?_
      clear hK K
      try simp only [Act.put, List.setIfInBounds_toArray, List.set_cons_zero, List.set_cons_succ]
      have hlb9 : w.heap.size + 1 < lb9 := HL9.out lb9 lo9 rfl hq0
      have hne9 : w.heap.size ≠ w2.heap.size := by omega
      have hne8 : w.heap.size ≠ lb9 := by omega
      have p9s : (((w9.setCell ⟨w.heap.size, 0, none⟩ (.int .i64 W)).setCell ⟨w.heap.size, 1, none⟩ (.int .i64 T)).setCell ⟨w.heap.size, 2, none⟩ (.slice a m c)).heap[w2.heap.size]? = some _ := heap_set_other (heap_set_other (heap_set_other p9 (by simp; omega) _) (by simp; omega) _) (by simp; omega) _
      obtain ⟨y90, y91, y92⟩ := cells3 p9s
      have hc9s : (((w9.setCell ⟨w.heap.size, 0, none⟩ (.int .i64 W)).setCell ⟨w.heap.size, 1, none⟩ (.int .i64 T)).setCell ⟨w.heap.size, 2, none⟩ (.slice a m c)).cell? ⟨lb9, lo9 + v9, none⟩ = some (.int .i64 (L.getD v9 0)) := by
        rw [World.cell?_setCell_other _ _ _ _ (by simp <;> omega), World.cell?_setCell_other _ _ _ _ (by simp <;> omega), World.cell?_setCell_other _ _ _ _ (by simp <;> omega)]
        exact hc9
      have B9 := Lib.hid (below_grown (B4.out.drew) g9 (Nat.le_refl _) (fun k e => by have := Option.some.inj e; omega))
      have O9 := Lib.hid (OwnsB.keptUp9 (show OwnsB w4.drew _ _ _ from O4.out) g9 (by omega))
      refine Till.two (i := 6) (j := 8) (by kernel_rfl) rfl rfl (by rfl) (by rfl) (fun K hK => ?_) (fun K hK => ?_)
      · go_simp
        refine hK.out _ _ (fun _ => ⟨x90, x91, x92⟩) ?_
        clear hK K
        try simp only [Act.put, List.setIfInBounds_toArray, List.set_cons_zero, List.set_cons_succ]
        refine Till.two (i := 7) (j := 8) (by kernel_rfl) rfl rfl (by rfl) (by rfl) (fun K hK => ?_) (fun K hK => ?_)
        · go_simp
          refine hK.out _ _ (fun _ => ⟨x90, x91, x92⟩) ?_
          clear hK K
          try simp only [Act.put, List.setIfInBounds_toArray, List.set_cons_zero, List.set_cons_succ]
          refine Till.one (i := 8) (by kernel_rfl) rfl (by rfl) (fun K hK => ?_)
          go_simp
          refine hK.out _ _ (fun _ => ⟨y90, y91, y92⟩) ?_
          clear hK K
          try simp only [Act.put, List.setIfInBounds_toArray, List.set_cons_zero, List.set_cons_succ]
          refine Till.one (i := 9) (by kernel_rfl) rfl (by rfl) (fun K hK => ?_)
          go_simp
          refine hK.out _ _ (fun h => absurd rfl h) ?_
          clear hK K
          try simp only [Act.put, List.setIfInBounds_toArray, List.set_cons_zero, List.set_cons_succ]
          refine Till.done (by kernel_rfl) ?_ _
          go_wp2
          exact bodyPost_ret (v := .tuple #[.agg #[.int .i64 W, .int .i64 T, .slice a m c], .int .i64 (L.getD v9 0)]) (by simp [results, Try.results4, go_sem, d90, d91, d92]) rfl ⟨W, T, a, m, c, xs, _, rfl, HM.out, h36, hs, (O9.out.set3 (by omega) _ _ _).lower (by omega), below_set3 B9.out (Nat.le_refl _) _ _ _⟩
        · go_simp
          refine hK.out _ _ (fun _ => ⟨y90, y91, y92⟩) ?_
          clear hK K
          try simp only [Act.put, List.setIfInBounds_toArray, List.set_cons_zero, List.set_cons_succ]
          refine Till.one (i := 7) (by kernel_rfl) rfl (by rfl) (fun K hK => ?_)
          go_simp
          refine hK.out _ _ (fun _ => ⟨y90, y91, y92⟩) ?_
          clear hK K
          try simp only [Act.put, List.setIfInBounds_toArray, List.set_cons_zero, List.set_cons_succ]
          refine Till.one (i := 9) (by kernel_rfl) rfl (by rfl) (fun K hK => ?_)
          go_simp
          refine hK.out _ _ (fun h => absurd rfl h) ?_
          clear hK K
          try simp only [Act.put, List.setIfInBounds_toArray, List.set_cons_zero, List.set_cons_succ]
          refine Till.done (by kernel_rfl) ?_ _
          go_wp2
          exact bodyPost_ret (v := .tuple #[.agg #[.int .i64 W, .int .i64 T, .slice a m c], .int .i64 (L.getD v9 0)]) (by simp [results, Try.results4, go_sem, d90, d91, d92]) rfl ⟨W, T, a, m, c, xs, _, rfl, HM.out, h36, hs, (O9.out.set3 (by omega) _ _ _).lower (by omega), below_set3 B9.out (Nat.le_refl _) _ _ _⟩
      · go_simp
        refine hK.out _ _ (fun _ => ⟨y90, y91, y92⟩) ?_
        clear hK K
        try simp only [Act.put, List.setIfInBounds_toArray, List.set_cons_zero, List.set_cons_succ]
        refine Till.one (i := 6) (by kernel_rfl) rfl (by rfl) (fun K hK => ?_)
        go_simp
        refine hK.out _ _ (fun _ => ⟨y90, y91, y92⟩) ?_
        clear hK K
        try simp only [Act.put, List.setIfInBounds_toArray, List.set_cons_zero, List.set_cons_succ]
        refine Till.one (i := 7) (by kernel_rfl) rfl (by rfl) (fun K hK => ?_)
        go_simp
        refine hK.out _ _ (fun _ => ⟨y90, y91, y92⟩) ?_
        clear hK K
        try simp only [Act.put, List.setIfInBounds_toArray, List.set_cons_zero, List.set_cons_succ]
        refine Till.one (i := 9) (by kernel_rfl) rfl (by rfl) (fun K hK => ?_)
        go_simp
        refine hK.out _ _ (fun h => absurd rfl h) ?_
        clear hK K
        try simp only [Act.put, List.setIfInBounds_toArray, List.set_cons_zero, List.set_cons_succ]
        refine Till.done (by kernel_rfl) ?_ _
        go_wp2
        exact bodyPost_ret (v := .tuple #[.agg #[.int .i64 W, .int .i64 T, .slice a m c], .int .i64 (L.getD v9 0)]) (by simp [results, Try.results4, go_sem, d90, d91, d92]) rfl ⟨W, T, a, m, c, xs, _, rfl, HM.out, h36, hs, (O9.out.set3 (by omega) _ _ _).lower (by omega), below_set3 B9.out (Nat.le_refl _) _ _ _⟩
    · have h4d : decide (0 < v4) = false := decide_eq_false h4
      have h4i : ¬ (0 : Int) < v4 := by omega
      obtain ⟨xc0, xc1, xc2⟩ := cells3 p4
      have PQ : w4.drew.heap[w2.heap.size]? = some _ := p4
      have QQ : w4.drew.heap[w.heap.size]? = some _ := q4
      go_wp2_with fail
      go_region_held3 (fun w' => w'.cell? ⟨w2.heap.size, 0, none⟩ = some (.int .i64 W) ∧ w'.cell? ⟨w2.heap.size, 1, none⟩ = some (.int .i64 T) ∧ w'.cell? ⟨w2.heap.size, 2, none⟩ = some (.slice a m c))
        (go_keep)
        (first
          | (go_at_call 14; refine (pick_any (w.heap.size + 1) 301 8 _ (by omega) (by omega) (by omega) (show RD w4.drew _ _ from R4.out)).mono ?_; rintro e w9 ⟨v9, hv9, rfl, r9, g9⟩; have p9 := heap_grown PQ g9 (by intro e; have := Option.some.inj e; omega); have q9 := heap_grown QQ g9 (by intro e; have := Option.some.inj e; omega); obtain ⟨x90, x91, x92⟩ := cells3 p9; obtain ⟨d90, d91, d92⟩ := cells3 q9; have f90 := free3 q9 0; have f91 := free3 q9 1; have f92 := free3 q9 2; have ew9 : IntKind.i64.wrap ((v9 : Int) - 1) = (v9 : Int) - 1 := (by rw [IntKind.wrap_i64]; omega)))
      have B9 := Lib.hid (below_grown (B4.out.drew) g9 (Nat.le_refl _) (fun k e => by have := Option.some.inj e; omega))
      have O9 := Lib.hid (OwnsB.keptUp9 (show OwnsB w4.drew _ _ _ from O4.out) g9 (by omega))
      go_wp2
      refine bodyPost_ret (v := .tuple #[.agg #[.int .i64 W, .int .i64 T, .slice a m c], .int .i64 ((v9 : Int) - 1)]) (by simp [results, Try.results4, go_sem, d90, d91, d92]) rfl ⟨W, T, a, m, c, xs, _, rfl, HM.out, h36, hs, ?_, below_set3 B9.out (Nat.le_refl _) _ _ _⟩
      exact (O9.out.set3 (by omega) _ _ _).lower (by omega)
  · have hq1 : ¬ (0 : Int) < q := by omega
    have hq2 : q = 0 := by omega
    subst hq2
    obtain ⟨xc0, xc1, xc2⟩ := cells3 p3
    have PQ : w3.drew.heap[w2.heap.size]? = some _ := p3
    have QQ : w3.drew.heap[w.heap.size]? = some _ := q3
    go_wp2_with fail
    go_region_held3 (fun w' => w'.cell? ⟨w2.heap.size, 0, none⟩ = some (.int .i64 W) ∧ w'.cell? ⟨w2.heap.size, 1, none⟩ = some (.int .i64 T) ∧ w'.cell? ⟨w2.heap.size, 2, none⟩ = some (.slice a m c))
      (go_keep)
      (first
        | (go_at_call 14; refine (pick_any (w.heap.size + 1) 300 8 _ (by omega) (by omega) (by omega) (show RD w3.drew _ _ from R3.out)).mono ?_; rintro e w9 ⟨v9, hv9, rfl, r9, g9⟩; have p9 := heap_grown PQ g9 (by intro e; have := Option.some.inj e; omega); have q9 := heap_grown QQ g9 (by intro e; have := Option.some.inj e; omega); obtain ⟨x90, x91, x92⟩ := cells3 p9; obtain ⟨d90, d91, d92⟩ := cells3 q9; have f90 := free3 q9 0; have f91 := free3 q9 1; have f92 := free3 q9 2; have ew9 : IntKind.i64.wrap ((v9 : Int) - 1) = (v9 : Int) - 1 := (by rw [IntKind.wrap_i64]; omega)))
    have B9 := Lib.hid (below_grown (B3.out.drew) g9 (Nat.le_refl _) (fun k e => by have := Option.some.inj e; omega))
    have O9 := Lib.hid (OwnsB.keptUp9 (show OwnsB w3.drew _ _ _ from O3.out) g9 (by omega))
    go_wp2
    refine bodyPost_ret (v := .tuple #[.agg #[.int .i64 W, .int .i64 T, .slice a m c], .int .i64 ((v9 : Int) - 1)]) (by simp [results, Try.results4, go_sem, d90, d91, d92]) rfl ⟨W, T, a, m, c, xs, _, rfl, HM.out, h36, hs, ?_, below_set3 B9.out (Nat.le_refl _) _ _ _⟩
    exact (O9.out.set3 (by omega) _ _ _).lower (by omega)
end Go.Proofs.Ytbkoailejbenpaa
