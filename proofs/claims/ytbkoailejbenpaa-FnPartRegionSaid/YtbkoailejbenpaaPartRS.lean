/- Contract of spec.PartRegion. -/
import Derived.Test.YtbkoailejbenpaaPartR
import Derived.Deep.AppendLies
namespace Go.Proofs.Ytbkoailejbenpaa
open Go.RowKit
set_option linter.unusedVariables false
set_option maxRecDepth 100000
set_option linter.unusedSimpArgs false

theorem tab_snocP (k : Nat) (f : Nat → Bool) : tab (k + 1) f = tab k f ++ [f k] := by unfold tab; rw [List.range_succ, List.map_append]; rfl
theorem OwnsB.form3 {w : World} {B : Nat} {v : Value} {xs : List Bool} (h : OwnsB w B v xs) : ∃ (a : Option Addr) (cap : Nat), v = .slice a xs.length cap := by
  rcases h.forms with ⟨rfl, rfl⟩ | ⟨g, cap, rfl, _⟩
  · exact ⟨none, 0, rfl⟩
  · exact ⟨_, cap, rfl⟩

set_option maxHeartbeats 2000000 in
theorem sPartRegion_ret (W T part : Int) (a : Option Addr) (n cap : Nat) (xs : List Bool) (w : World) (hn : n = xs.length) (hn' : n ≤ 1048576) (ha : BoolsAt w a xs) :
    Calls Try.prog 6 #[.agg #[.int .i64 W, .int .i64 T, .slice a n cap], .int .i64 part] w (RetRegT w (partR W T xs part).1 (partR W T xs part).2.1 (partR W T xs part).2.2.1.length (partR W T xs part).2.2.1 (partR W T xs part).2.2.2) := by
  have HN := Lib.hid hn; clear hn
  have A2 := Lib.hid (ha.two (.cells #[.int .i64 W, .int .i64 T, .slice a n cap] 25) (.cells #[.int .i64 0, .int .i64 0, .slice none 0 0] 25))
  clear ha
  have hlen := partsF_len W T xs
  rw [← HN.out] at hlen
  have b0 := below2 w (.cells #[.int .i64 W, .int .i64 T, .slice a n cap] 25) (.cells #[.int .i64 0, .int .i64 0, .slice none 0 0] 25)
  obtain ⟨i0, hi, hz0, hz1, hz2⟩ := info_parts infoBool
  have hS : Hid (∀ (w : World), BoolsAt w a xs → Calls Try.prog 13 #[.agg #[.int .i64 W, .int .i64 T, .slice a n cap]] w (RetL w (partsF W T xs).length (partsF W T xs))) := fun w h => sPartsOf_ret W T a n cap xs w HN.out hn' h
  have hrv : Hid (hasN (partsF W T xs) part (partsF W T xs).length = true → (partsF W T xs).length ≤ 36) := fun h => by
    obtain ⟨v1, v2, v3, v4, v5, _⟩ := rv_true (parts_rv h)
    have := (mul_bd v1 v2 v3 v4).2
    have h2 := partsF_rv (parts_rv h)
    omega
  have hl36 : (partsF W T xs).length ≤ 36 := by
    cases hr : rv W T xs
    · unfold partsF; rw [hr]; simp
    · obtain ⟨v1, v2, v3, v4, v5, _⟩ := rv_true hr
      have := (mul_bd v1 v2 v3 v4).2
      have h2 := partsF_rv hr
      omega
  obtain ⟨res, hres⟩ : ∃ res, res = partR W T xs part := ⟨_, rfl⟩
  rw [← hres]
  have hyes : 0 ≤ part → hasN (partsF W T xs) part (partsF W T xs).length = true → res = (W, T, markT (partsF W T xs) part, true) := fun h1 h2 => by rw [hres]; unfold partR; rw [h2, decide_eq_true h1]; rfl
  have hno : (0 ≤ part → hasN (partsF W T xs) part (partsF W T xs).length = false) → res = (0, 0, [], false) := fun h => by
    rw [hres]; unfold partR
    by_cases h1 : 0 ≤ part
    · rw [h h1]; simp
    · rw [decide_eq_false h1]; rfl
  clear hres hrv
  generalize partsF W T xs = L at hS hlen hl36 hyes hno
  obtain ⟨m, hm⟩ : ∃ m, m = L.length := ⟨_, rfl⟩
  have hml : (markT L part).length = m := by rw [markT_len, hm]
  rw [← hm] at hS hlen hl36 hyes hno
  have HM := Lib.hid hm; clear hm
  have HML := Lib.hid hml; clear hml
  have HYES := Lib.hid hyes; clear hyes
  have HNO := Lib.hid hno; clear hno
  go_enter Try.func6, Try.ntmps6
  go_wp2_with fail
  refine (hS.out _ A2.out).mono ?_; rintro e w1 ⟨la, lcap, rfl, ho, hb1⟩
  have p1 := heap_later (heap_later (heap_new w (.cells #[.int .i64 W, .int .i64 T, .slice a n cap] 25 (0, 0))) (below1 _ _)) hb1
  have q1 := heap_later (heap_new2 w (.cells #[.int .i64 W, .int .i64 T, .slice a n cap] 25 (0, 0)) (.cells #[.int .i64 0, .int .i64 0, .slice none 0 0] 25 (0, 0))) hb1
  have b1 := below_seq b0 hb1
  have L1 := Lib.hid (OwnsI.at ho)
  have hz1s := heap_lt q1
  clear ho hb1
  obtain ⟨c0, c1, c2⟩ := cells3 p1
  by_cases hp : 0 ≤ part
  · go_wp2_with fail
    clear c0 c1 c2
    go_loopw [8, 9] (fun sm i wr => ∃ (k : Nat) (v : Value), k ≤ m ∧ i = .int .i64 k ∧ sm = .bool (hasN L part k) ∧ OwnsB wr (w1.heap.size + 1) v (tab k (fun i => L.getD i 0 == part)) ∧ wr.heap[w1.heap.size]? = some (.cells #[.int .i64 W, .int .i64 T, v] 25 (0, 0)) ∧ Below w1.heap.size w1 wr) (fun _ i _ => m - (intOf i).toNat)
    case atStart => exact ⟨0, .slice none 0 0, Nat.zero_le _, rfl, rfl, OwnsB.nil _ _, heap_new _ _, below1 _ _⟩
    case round =>
      obtain ⟨k, v, hk, rfl, rfl, ho, ur, hbel⟩ := hrel
      rename World => wr
      have HO := Lib.hid ho; clear ho
      have BEL := Lib.hid hbel; clear hbel
      by_cases hlt : k < m
      · obtain ⟨lb, lo, rfl, hcx⟩ := (L1.out.below BEL.out) k (by rw [← HM.out]; exact hlt)
        obtain ⟨lb2, lo2, hla, hcx1⟩ := L1.out k (by rw [← HM.out]; exact hlt)
        have hlb1 : lb < w1.heap.size := by
          have := World.block_lt_of_cell? w1 _ hcx1
          simp only [Option.some.injEq, Addr.mk.injEq] at hla
          rw [hla.1]; exact this
        clear hla hcx1
        obtain ⟨mu, hmu⟩ : ∃ mu, mu = L.getD k 0 := ⟨_, rfl⟩
        rw [← hmu] at hcx
        have hsu := hasN_succ L part k
        rw [← hmu] at hsu
        have HMU := Lib.hid hmu; clear hmu
        have HSU := Lib.hid hsu; clear hsu
        have e1 : (k : Int) < m := by omega
        have e0 : (0 : Int) ≤ k := by omega
        obtain ⟨u0, u1, u2⟩ := cells3 ur
        have l2 := heap_lt ur
        have HSD := Lib.hid (show (fun w' : World => w'.cell? ⟨w1.heap.size, 2, none⟩ = some v ∧ w'.cell? ⟨lb, lo + k, none⟩ = some (.int .i64 mu)) wr.drew from ⟨u2, hcx⟩)
        go_upto_region 7 with fail
        refine wp_region_till (fun w' : World => w'.cell? ⟨w1.heap.size, 2, none⟩ = some v ∧ w'.cell? ⟨lb, lo + k, none⟩ = some (.int .i64 mu)) 11 (by kernel_rfl) ?_
        refine Till.take (i := 0) (v := ?_) rfl (by kernel_rfl) (by kernel_rfl) (by kernel_rfl) (by kernel_rfl) (fun _ _ _ h => h) (Or.inl ⟨by kernel_rfl, ?_⟩) HSD.out ?_
        rotate_left
        · intro ws hsw
          obtain ⟨s1, s2⟩ := hsw
          go_simp
          try with_reducible rfl
        try simp only [Act.put, List.setIfInBounds_toArray, List.set_cons_zero, List.set_cons_succ]
        refine Till.take (i := 1) (v := ?_) rfl (by kernel_rfl) (by kernel_rfl) (by kernel_rfl) (by kernel_rfl) (fun _ _ _ h => h) (Or.inl ⟨by kernel_rfl, ?_⟩) HSD.out ?_
        rotate_left
        · intro ws hsw
          obtain ⟨s1, s2⟩ := hsw
          go_simp
          try with_reducible rfl
        try simp only [Act.put, List.setIfInBounds_toArray, List.set_cons_zero, List.set_cons_succ]
        refine Till.take (i := 2) (v := ?_) rfl (by kernel_rfl) (by kernel_rfl) (by kernel_rfl) (by kernel_rfl) (fun _ _ _ h => h) (Or.inl ⟨by kernel_rfl, ?_⟩) HSD.out ?_
        rotate_left
        · intro ws hsw
          obtain ⟨s1, s2⟩ := hsw
          go_simp
          try with_reducible rfl
        try simp only [Act.put, List.setIfInBounds_toArray, List.set_cons_zero, List.set_cons_succ]
        refine Till.take (i := 3) (v := ?_) rfl (by kernel_rfl) (by kernel_rfl) (by kernel_rfl) (by kernel_rfl) (fun _ _ _ h => h) (Or.inl ⟨by kernel_rfl, ?_⟩) HSD.out ?_
        rotate_left
        · intro ws hsw
          obtain ⟨s1, s2⟩ := hsw
          go_simp
          try with_reducible rfl
        try simp only [Act.put, List.setIfInBounds_toArray, List.set_cons_zero, List.set_cons_succ]
        refine Till.take (i := 4) (v := ?_) rfl (by kernel_rfl) (by kernel_rfl) (by kernel_rfl) (by kernel_rfl) (fun _ _ _ h => h) (Or.inl ⟨by kernel_rfl, ?_⟩) HSD.out ?_
        rotate_left
        · intro ws hsw
          obtain ⟨s1, s2⟩ := hsw
          go_simp
          try with_reducible rfl
        try simp only [Act.put, List.setIfInBounds_toArray, List.set_cons_zero, List.set_cons_succ]
        refine Till.take (i := 5) (v := ?_) rfl (by kernel_rfl) (by kernel_rfl) (by kernel_rfl) (by kernel_rfl) (fun _ _ _ h => h) (Or.inl ⟨by kernel_rfl, ?_⟩) HSD.out ?_
        rotate_left
        · intro ws hsw
          obtain ⟨s1, s2⟩ := hsw
          go_simp
          try with_reducible rfl
        try simp only [Act.put, List.setIfInBounds_toArray, List.set_cons_zero, List.set_cons_succ]
        refine Till.take (i := 6) (v := ?_) rfl (by kernel_rfl) (by kernel_rfl) (by kernel_rfl) (by kernel_rfl) (fun _ _ _ h => h) (Or.inl ⟨by kernel_rfl, ?_⟩) HSD.out ?_
        rotate_left
        · intro ws hsw
          obtain ⟨s1, s2⟩ := hsw
          go_simp
          try with_reducible rfl
        try simp only [Act.put, List.setIfInBounds_toArray, List.set_cons_zero, List.set_cons_succ]
        refine Till.take (i := 7) (v := ?_) rfl (by kernel_rfl) (by kernel_rfl) (by kernel_rfl) (by kernel_rfl) (fun _ _ _ h => h) (Or.inl ⟨by kernel_rfl, ?_⟩) HSD.out ?_
        rotate_left
        · intro ws hsw
          obtain ⟨s1, s2⟩ := hsw
          go_simp
          try with_reducible rfl
        try simp only [Act.put, List.setIfInBounds_toArray, List.set_cons_zero, List.set_cons_succ]
        have WN := Lib.hid (show Below wr.heap.size wr (World.drew (wr.alloc (.cells #[.bool (mu == part)] 4))) from below_seq (below1 _ _) (drew_below _))
        refine Till.one (i := 8) (by kernel_rfl) rfl (by rfl) (fun K hK => ?_)
        go_simp
        refine hK.out _ _ (fun _ => ⟨cell_later WN.out u2, cell_later WN.out hcx⟩) ?_
        clear hK K
        refine Till.one (i := 9) (by kernel_rfl) rfl (by rfl) (fun K hK => ?_)
        refine step_append_lies _ rfl _ _ 23 rfl (w1.heap.size + 1) 4 i0 (.bool false) 1 1 Try.underlying23 hi hz0 hz1 hz2 rfl (by decide) v k ((tab k (fun i => L.getD i 0 == part)).map Value.bool) rfl (show World.ownsRow (World.drew (wr.alloc _)) _ _ _ _ _ _ from (HO.out.alloc _).row (tab_len _ _)) ⟨wr.heap.size, 0, none⟩ 1 1 _ rfl rfl (new_bool wr _) (one_bool _) (by omega) (by unfold maxLen; omega) (by omega) (by simp; omega) (wr.heap.size + 1) (by simp) ?_
        intro g' c' w5 hown' hgrow _ _
        have u5 := heap_grown (heap_later ur WN.out) hgrow (HO.out.ownBlock (by omega))
        have h5 := World.grownBy.cell hgrow (cell_later WN.out hcx) (fun e => HO.out.ownBlock (b := lb) (by omega) e.symm)
        have B5 := Lib.hid (below_grown (below_seq (BEL.out) WN.out) hgrow (Nat.le_refl _) (fun q e => by have := HO.out.ownAt (Nat.le_refl _) q e; omega))
        have O5 := Lib.hid (OwnsB.ofRow (xs := tab (k + 1) (fun i => L.getD i 0 == part)) hown' (by rw [tab_snocP, ← HMU.out]; simp) (tab_len _ _))
        clear hown' hgrow
        obtain ⟨t0, t1, t2⟩ := cells3 u5
        have e2 := free3 u5 2
        refine hK.out _ _ (fun _ => ⟨t2, h5⟩) ?_
        clear hK K
        refine Till.one (i := 10) (by kernel_rfl) rfl (by rfl) (fun K hK => ?_)
        go_simp
        refine hK.out _ _ (fun _ => ⟨t2, h5⟩) ?_
        clear hK K
        refine Till.one (i := 11) (by kernel_rfl) rfl (by rfl) (fun K hK => ?_)
        go_simp
        refine hK.out _ _ (fun h => absurd rfl h) ?_
        clear hK K
        refine Till.done (by kernel_rfl) ?_ _
        have hcx2 : (w5.setCell ⟨w1.heap.size, 2, none⟩ (.slice (some ⟨g', 0, none⟩) (k + 1) c')).cell? ⟨lb, lo + k, none⟩ = some (.int .i64 mu) := by
          rw [World.cell?_setCell_other _ _ _ _ (by simp <;> omega)]; exact h5
        have hsu2 := HSU.out
        obtain ⟨hk1, hhk1⟩ : ∃ b, b = hasN L part (k + 1) := ⟨_, rfl⟩
        rw [← hhk1] at hsu2
        have HK1 := Lib.hid hhk1; clear hhk1
        clear hsu2 HSD HK1
        obtain ⟨hk0, hhk0⟩ : ∃ b, b = hasN L part k := ⟨_, rfl⟩
        have HS2 : Hid (hasN L part (k + 1) = (hk0 || mu == part)) := by show _ = _; rw [HSU.out, hhk0]
        rw [← hhk0]
        clear hhk0 HSU hcx HO u0 u1 u2
        have R5 : Hid (OwnsB (w5.setCell ⟨w1.heap.size, 2, none⟩ (.slice (some ⟨g', 0, none⟩) (k + 1) c')) (w1.heap.size + 1) (.slice (some ⟨g', 0, none⟩) (k + 1) c') (tab (k + 1) (fun i => L.getD i 0 == part))) := O5.out.setBelow (by simp) _
        have U6 : Hid ((w5.setCell ⟨w1.heap.size, 2, none⟩ (.slice (some ⟨g', 0, none⟩) (k + 1) c')).heap[w1.heap.size]? = some (.cells #[.int .i64 W, .int .i64 T, .slice (some ⟨g', 0, none⟩) (k + 1) c'] 25 (0, 0))) := by show _ = _; have := block_setCell u5 (i := 2) (.slice (some ⟨g', 0, none⟩) (k + 1) c'); simpa using this
        have B6 := Lib.hid (B5.out.setCell (p := ⟨w1.heap.size, 2, none⟩) (by simp) (.slice (some ⟨g', 0, none⟩) (k + 1) c'))
        clear O5 u5 h5 t0 t1 t2 e2 B5 ur
        cases hk0
        · go_wp2
          go_roundw
          case rel => exact ⟨k + 1, _, by omega, by go_num, by rw [HS2.out]; simp, R5.out, U6.out, B6.out⟩
          case measure => simp [intOf]; omega
        · go_wp2
          go_roundw
          case rel => exact ⟨k + 1, _, by omega, by go_num, by rw [HS2.out]; simp, R5.out, U6.out, B6.out⟩
          case measure => simp [intOf]; omega
      · obtain rfl : k = m := by omega
        obtain ⟨u0, u1, u2⟩ := cells3 ur
        have qr := heap_later q1 BEL.out
        obtain ⟨d0, d1, d2⟩ := cells3 qr
        have e0 := free3 qr 0
        have e1 := free3 qr 1
        have e2 := free3 qr 2
        have bw := below_seq b1 BEL.out
        obtain ⟨hb, hhb⟩ : ∃ b, b = hasN L part k := ⟨_, rfl⟩
        rw [← hhb]
        cases hb
        · have hr := HNO.out (fun _ => hhb.symm)
          subst hr
          clear hhb
          go_wp2
          refine bodyPost_ret (v := .tuple #[.agg #[.int .i64 0, .int .i64 0, .slice none 0 0], .bool false]) (by simp [results, Try.results6, go_sem, d0, d1, d2]) rfl ⟨none, 0, rfl, OwnsB.nil _ _, below_set3 bw (by omega) _ _ _⟩
        · have hr := HYES.out hp hhb.symm
          subst hr
          clear hhb
          have hln := HO.out
          obtain ⟨av, cv, hv⟩ := OwnsB.form3 HO.out
          rw [tab_len] at hv
          subst hv
          have O9 := Lib.hid ((OwnsB.set3 HO.out (b := w.heap.size + 1) (by omega) (.int .i64 W) (.int .i64 T) (.slice av k cv)).lower (by have := b1.size; omega : w.heap.size ≤ w1.heap.size + 1))
          clear hln
          go_wp2
          refine bodyPost_ret (v := .tuple #[.agg #[.int .i64 W, .int .i64 T, .slice av k cv], .bool true]) (by simp [results, Try.results6, go_sem, d0, d1, d2]) rfl ⟨av, cv, by rw [HML.out], ?_, below_set3 bw (by omega) _ _ _⟩
          rw [HML.out]
          have hmt : markT L part = tab k (fun i => L.getD i 0 == part) := by unfold markT; rw [← HM.out]
          rw [hmt]
          exact O9.out
  · have hr := HNO.out (fun h => absurd h hp)
    subst hr
    obtain ⟨d0, d1, d2⟩ := cells3 q1
    have e0 := free3 q1 0
    have e1 := free3 q1 1
    have e2 := free3 q1 2
    have hpf : ¬ 0 ≤ part := hp
    by_cases hm0 : 0 < m
    · have hm1 : (0 : Int) < m := by omega
      go_wp2_with fail
      refine wp_loop_rounds 1 ?_
      rw [rounds_succ]
      go_wp2
      refine bodyPost_ret (v := .tuple #[.agg #[.int .i64 0, .int .i64 0, .slice none 0 0], .bool false]) (by simp [results, Try.results6, go_sem, d0, d1, d2, hz1s]) rfl ⟨none, 0, rfl, OwnsB.nil _ _, (below_set3 b1 (by omega) _ _ _).alloc (by simp; omega) _⟩
    · obtain rfl : m = 0 := by omega
      go_wp2_with fail
      refine wp_loop_rounds 1 ?_
      rw [rounds_succ]
      go_wp2
      refine bodyPost_ret (v := .tuple #[.agg #[.int .i64 0, .int .i64 0, .slice none 0 0], .bool false]) (by simp [results, Try.results6, go_sem, d0, d1, d2, hz1s]) rfl ⟨none, 0, rfl, OwnsB.nil _ _, (below_set3 b1 (by omega) _ _ _).alloc (by simp; omega) _⟩
end Go.Proofs.Ytbkoailejbenpaa
