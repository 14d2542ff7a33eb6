/- What is drawn of a code: a reader, a region. -/
import Derived.Test.YtpcajacekmidbaaJTill
import Derived.Deep.DeepCutAuto
import Derived.Deep.AppendLies
namespace Go.Proofs.Ytpcajacekmidbaa
open Go.RowKit
set_option linter.unusedVariables false
set_option maxRecDepth 100000
set_option linter.unusedSimpArgs false

/-- Some truth was told. -/
def Told (rb P : Nat) (w : World) (e : Ending) (w' : World) : Prop := ∃ v : Bool, e = .returned (.bool v) ∧ RD w' rb (P + 1) ∧ w.grownBy w' (some rb)

theorem odd_any (rb P : Nat) (n : Int) (w : World) (hn0 : 0 ≤ n) (hn1 : n ≤ 1000) (hP : P ≤ 100000) (h : RD w rb P) :
    Calls Try.prog 100 #[.pointer (some ⟨rb, 0, none⟩), .int .i64 n] w (Told rb P w) := by
  by_cases h0 : n = 0
  · subst h0
    go_enter Try.func100, Try.ntmps100
    go_wp2
    go_ret
    exact ⟨false, rfl, h.mono (by omega), World.grownBy.refl _ _⟩
  · obtain ⟨m, rfl⟩ := Int.eq_ofNat_of_zero_le hn0
    have H := Lib.hid h; clear h
    have h1 : 0 < (m : Int) := by omega
    go_enter Try.func100, Try.ntmps100
    go_wp2_with fail
    refine (pick_any rb P m _ (by omega) (by omega) hP H.out).mono ?_; rintro e w1 ⟨v, hv, rfl, r1, g1⟩
    have hv' : (v : Int) < m := by omega
    go_wp2
    go_ret
    exact ⟨_, rfl, r1, g1⟩

theorem BytesAt.take {w : World} {a : Option Addr} {zs : List Int} (h : BytesAt w a zs) (k : Nat) : BytesAt w a (zs.take k) := by
  intro i hi
  rw [List.length_take] at hi
  obtain ⟨b, off, rfl, hc, h2⟩ := h i (by omega)
  have e : (zs.take k).getD i 0 = zs.getD i 0 := by simp [List.getD, show i < k by omega]
  exact ⟨b, off, rfl, by rw [e]; exact hc, by rw [e]; exact h2⟩
theorem rd_new (w : World) {cb : Option Addr} {n cap : Nat} {zs : List Int} (hn : n = zs.length) (hn' : n ≤ 2000) (hb : BytesAt w cb zs) :
    RD (w.alloc (.cells #[.slice cb n cap, .int .i64 0] 87)) w.heap.size 0 := by
  refine ⟨cb, n, cap, zs, 0, heap_new _ _, hn, hn', hb.below (below1 _ _), Nat.le_refl _, ?_⟩
  by_cases h0 : zs = []
  · exact Or.inl h0
  · have hp : 0 < zs.length := List.length_pos_iff.2 h0
    obtain ⟨b, off, rfl, hc, _⟩ := hb 0 hp
    have hl := World.block_lt_of_cell? w _ hc
    simp only at hl
    exact Or.inr fun p e => by cases e; simp; omega

theorem l20Open_any (cb : Option Addr) (n cap : Nat) (zs : List Int) (w : World) (hn : n = zs.length) (hn' : n ≤ 1048576) (hcap : n ≤ cap) (hb : BytesAt w cb zs) :
    Calls Try.prog 47 #[.slice cb n cap] w fun e w' => e = .returned (.pointer (some ⟨w.heap.size, 0, none⟩)) ∧ RD w' w.heap.size 0 ∧ Below w.heap.size w w' := by
  have HB := Lib.hid hb; clear hb
  have HN := Lib.hid hn; clear hn
  by_cases hbig : 2000 < n
  · have hc : (2000 : Int) ≤ cap := by omega
    have hc2 : (2000 : Nat) ≤ cap := by omega
    obtain ⟨b, off, rfl, -⟩ := HB.out 0 (by rw [← HN.out]; omega)
    go_enter Try.func47, Try.ntmps47
    go_wp2
    go_ret
    exact ⟨rfl, rd_new w (zs := zs.take 2000) (by rw [List.length_take, ← HN.out]; omega) (Nat.le_refl _) (HB.out.take _), below1 _ _⟩
  · have hs : n ≤ 2000 := by omega
    go_enter Try.func47, Try.ntmps47
    go_wp2
    go_ret
    exact ⟨rfl, rd_new w HN.out hs HB.out, below1 _ _⟩

/-- A region was drawn. -/
def DrawnR (rb P : Nat) (w : World) (e : Ending) (w' : World) : Prop :=
  ∃ (W T : Int) (a : Option Addr) (n cap : Nat) (xs : List Bool), e = .returned (.agg #[.int .i64 W, .int .i64 T, .slice a n cap]) ∧ n = xs.length ∧ n ≤ 36 ∧ (0 ≤ W ∧ W ≤ 6 ∧ 0 ≤ T ∧ T ≤ 6) ∧ OwnsB w' w.heap.size (.slice a n cap) xs ∧ RD w' rb (P + 100) ∧ w.grownBy w' (some rb)

theorem grown_of_below' {w w' : World} (h : Below w.heap.size w w') (row : Option Nat) : w.grownBy w' row :=
  ⟨h.os, h.tape, h.output, h.size, fun k hk _ => h.block k hk⟩
theorem side24 : ∀ a < 6, ∀ b < 6, ¬ (4 ≤ a ∧ 4 ≤ b) → (1 + a) * (1 + b) ≤ 24 := by decide
theorem side36 : ∀ a < 6, ∀ b < 6, (1 + a) * (1 + b) ≤ 36 := by decide
theorem side24i {a b : Nat} (ha : a < 6) (hb : b < 6) (h : ¬ (4 ≤ a ∧ 4 ≤ b)) : (1 + (a : Int)) * (1 + (b : Int)) ≤ 24 := by exact_mod_cast side24 a ha b hb h
theorem side36i {a b : Nat} (ha : a < 6) (hb : b < 6) : (1 + (a : Int)) * (1 + (b : Int)) ≤ 36 := by exact_mod_cast side36 a ha b hb
theorem side0i (a b : Nat) : 0 ≤ (1 + (a : Int)) * (1 + (b : Int)) := by exact_mod_cast Nat.zero_le ((1 + a) * (1 + b))
/-- The region as far as it is drawn: sides of a field, no cells. -/
def Sides (rb P : Nat) (w : World) (X : Nat) (wx : World) : Prop :=
  ∃ A B : Nat, (1 ≤ A ∧ A ≤ 6 ∧ 1 ≤ B ∧ B ≤ 6 ∧ A * B ≤ 24) ∧ wx.heap[X]? = some (.cells #[.int .i64 A, .int .i64 B, .slice none 0 0] 25 (0, 0)) ∧ wx.heap[w.heap.size]? = some (.cells #[.int .i64 0, .int .i64 0, .slice none 0 0] 25 (0, 0)) ∧ RD wx rb P ∧ w.grownBy wx (some rb)
theorem grown_far {w wx : World} {row : Option Nat} (h : w.grownBy wx row) {g i : Nat} (hg : w.heap.size ≤ g) (v : Value) : w.grownBy (wx.setCell ⟨g, i, none⟩ v) row := by
  refine ⟨h.os, h.tape, h.output, by simpa using h.size, fun k hk hr => ?_⟩
  rw [Below.heap_setCell wx ⟨g, i, none⟩ v k (by simp; omega)]
  exact h.block k hk hr

theorem OwnsB.form2 {w : World} {B : Nat} {v : Value} {xs : List Bool} (h : OwnsB w B v xs) : ∃ (a : Option Addr) (cap : Nat), v = .slice a xs.length cap := by
  rcases h.2 with ⟨h1, h2⟩ | ⟨g, cap, cur, hv, _⟩
  · exact ⟨none, 0, by rw [h1, h2]⟩
  · exact ⟨_, cap, hv⟩
theorem drawn_end {w wz : World} {rb P P' B0 n : Nat} {A B : Int} {a : Option Addr} {cap : Nat} {L : List Bool} (lr : rb < w.heap.size) (hs : 0 ≤ A ∧ A ≤ 6 ∧ 0 ≤ B ∧ B ≤ 6) (hn : n = L.length) (h36 : n ≤ 36) (O : OwnsB wz B0 (.slice a n cap) L) (hB : w.heap.size < B0) (R : RD wz rb P') (hP : P' ≤ P + 100) (G : w.grownBy wz (some rb)) (x y z : Value) :
    DrawnR rb P w (.returned (.agg #[.int .i64 A, .int .i64 B, .slice a n cap])) (((wz.setCell ⟨w.heap.size, 0, none⟩ x).setCell ⟨w.heap.size, 1, none⟩ y).setCell ⟨w.heap.size, 2, none⟩ z) :=
  ⟨A, B, a, n, cap, L, rfl, hn, h36, hs, (O.set3 hB x y z).lower (by omega), (((R.setFar lr x).setFar lr y).setFar lr z).mono hP, grown_far (grown_far (grown_far G (Nat.le_refl _) x) (Nat.le_refl _) y) (Nat.le_refl _) z⟩

theorem grown_own {w a b : World} {row : Option Nat} {rb : Nat} (h : w.grownBy a (some rb)) (hg : a.grownBy b row) (hr : ∀ k, row = some k → w.heap.size ≤ k) : w.grownBy b (some rb) :=
  ⟨hg.os.trans h.os, hg.tape.trans h.tape, hg.output.trans h.output, Nat.le_trans h.size hg.size, fun k hk hn => (hg.block k (Nat.lt_of_lt_of_le hk h.size) (fun e => by have := hr k e.symm; omega)).trans (h.block k hk hn)⟩

set_option maxHeartbeats 8000000 in
theorem l20Region_any (rb P : Nat) (n : Int) (w : World) (hn0 : 0 ≤ n) (hn1 : n ≤ 1000) (hP : P ≤ 10000) (h : RD w rb P) :
    Calls Try.prog 145 #[.pointer (some ⟨rb, 0, none⟩), .int .i64 n] w (DrawnR rb P w) := by
  have lr := h.lt
  have H := Lib.hid h; clear h
  obtain ⟨i0, hi, hz0, hz1, hz2⟩ := info_parts infoBool
  go_enter Try.func145, Try.ntmps145
  go_wp2_with fail
  refine (pick_any rb P 6 _ (by omega) (by omega) (by omega) (H.out.below (below1 _ _))).mono ?_; rintro e w1 ⟨x1, hx1, rfl, r1, g1⟩
  have q1 := heap_grown (heap_new w (.cells #[.int .i64 0, .int .i64 0, .slice none 0 0] 25)) g1 (by simp; omega)
  have G1 := Lib.hid (grown_seq' (World.grownBy_alloc w _ _) g1)
  have R1 := Lib.hid r1
  clear r1 g1
  go_wp2_with fail
  refine (pick_any rb (P + 1) 6 _ (by omega) (by omega) (by omega) R1.out).mono ?_; rintro e w2 ⟨x2, hx2, rfl, r2, g2⟩
  have q2 := heap_grown q1 g2 (by simp; omega)
  have G2 := Lib.hid (grown_seq' G1.out g2)
  have R2 := Lib.hid r2
  have l2 := heap_lt q2
  clear r2 g2 q1
  have lr2 := R2.out.lt
  have hm1 := side36i hx1 hx2
  have hm0 := side0i x1 x2
  go_upto_if 21 with fail
  go_cut [] (fun wx => Sides rb (P + 2) w w2.heap.size wx)
  case first =>
    by_cases hb : 4 ≤ x1 ∧ 4 ≤ x2
    · obtain ⟨hb1, hb2⟩ := hb
      have c1 : x1 = 4 ∨ x1 = 5 := by omega
      have c2 : x2 = 4 ∨ x2 = 5 := by omega
      clear hm0 hm1
      rcases c1 with rfl | rfl <;> rcases c2 with rfl | rfl
      all_goals
        go_wp2_with fail
        go_meet
        first
          | exact ⟨5, 4, ⟨by omega, by omega, by omega, by omega, by omega⟩, by simpa using heap_new w2 _, heap_later q2 (below1 _ _), R2.out.below (below1 _ _), grown_seq' G2.out (World.grownBy_alloc _ _ _)⟩
          | exact ⟨6, 4, ⟨by omega, by omega, by omega, by omega, by omega⟩, by simpa using heap_new w2 _, heap_later q2 (below1 _ _), R2.out.below (below1 _ _), grown_seq' G2.out (World.grownBy_alloc _ _ _)⟩
    · have h24 := side24i hx1 hx2 hb
      go_wp2_with fail
      go_meet
      exact ⟨1 + x1, 1 + x2, ⟨by omega, by omega, by omega, by omega, side24 x1 hx1 x2 hx2 hb⟩, by simpa using heap_new w2 _, heap_later q2 (below1 _ _), R2.out.below (below1 _ _), grown_seq' G2.out (World.grownBy_alloc _ _ _)⟩
  case rest =>
    obtain ⟨A, B, ⟨a1, a2, a3, a4, a5⟩, px, q3, r3, g3⟩ := hcut
    have lr3 := r3.lt
    have R3 := Lib.hid r3; clear r3
    have G3 := Lib.hid g3; clear g3
    clear hm0 hm1
    go_wp2_with fail
    refine (pick_any rb (P + 2) 8 _ (by omega) (by omega) (by omega) R3.out).mono ?_; rintro e w4 ⟨x3, hx3, rfl, r4, g4⟩
    have p4 := heap_grown px g4 (by simp; omega)
    have q4 := heap_grown q3 g4 (by simp; omega)
    have G4 := Lib.hid (grown_seq' G3.out g4)
    have R4 := Lib.hid r4; clear r4
    have z4 := g4.size
    clear g4 px q3
    have ab : (A : Int) * B ≤ 24 := by exact_mod_cast a5
    have ab0 : (0 : Int) ≤ (A : Int) * B := by exact_mod_cast Nat.zero_le (A * B)
    go_wp2
    go_loopw [7] (fun i wr => ∃ (k : Nat) (v : Value) (L : List Bool), k ≤ A * B ∧ i = .int .i64 k ∧ L.length = k ∧ OwnsB wr (w2.heap.size + 1) v L ∧ wr.heap[w2.heap.size]? = some (.cells #[.int .i64 A, .int .i64 B, v] 25 (0, 0)) ∧ wr.heap[w.heap.size]? = some (.cells #[.int .i64 0, .int .i64 0, .slice none 0 0] 25 (0, 0)) ∧ RD wr rb (P + 3 + k) ∧ w.grownBy wr (some rb)) (fun i _ => A * B - (intOf i).toNat)
    case atStart => exact ⟨0, _, [], Nat.zero_le _, rfl, rfl, OwnsB.nil _ _, p4, q4, R4.out, G4.out⟩
    case round =>
      obtain ⟨k, v, L, hk, rfl, hL, ho, pr, qr, rr, gr⟩ := hrel
      have R := Lib.hid rr; clear rr
      have G := Lib.hid gr; clear gr
      have O := Lib.hid ho; clear ho
      have HL := Lib.hid hL; clear hL
      obtain ⟨u0, u1, u2⟩ := cells3 pr
      have lX := heap_lt pr
      by_cases hlt : k < A * B
      · have e1 : (k : Int) < (A : Int) * B := by exact_mod_cast hlt
        have e0 : (0 : Int) ≤ k := by omega
        have HSD := Lib.hid (show (fun w' : World => w'.cell? ⟨w2.heap.size, 2, none⟩ = some v) wr.drew from u2)
        go_wp2
        refine wp_region_till (fun w' : World => w'.cell? ⟨w2.heap.size, 2, none⟩ = some v) 9 (by kernel_rfl) ?_
        refine Till.take (i := 0) (v := ?_) rfl (by kernel_rfl) (by kernel_rfl) (by kernel_rfl) (by kernel_rfl) (fun _ _ _ h => h) (Or.inl ⟨by kernel_rfl, ?_⟩) HSD.out ?_
        rotate_left
        · intro ws s1
          go_simp
          try with_reducible rfl
        try simp only [Act.put, List.setIfInBounds_toArray, List.set_cons_zero, List.set_cons_succ]
        refine Till.take (i := 1) (v := ?_) rfl (by kernel_rfl) (by kernel_rfl) (by kernel_rfl) (by kernel_rfl) (fun _ _ _ h => h) (Or.inl ⟨by kernel_rfl, ?_⟩) HSD.out ?_
        rotate_left
        · intro ws s1
          go_simp
          try with_reducible rfl
        try simp only [Act.put, List.setIfInBounds_toArray, List.set_cons_zero, List.set_cons_succ]
        refine Till.take (i := 2) (v := ?_) rfl (by kernel_rfl) (by kernel_rfl) (by kernel_rfl) (by kernel_rfl) (fun _ _ _ h => h) (Or.inl ⟨by kernel_rfl, ?_⟩) HSD.out ?_
        rotate_left
        · intro ws s1
          go_simp
          try with_reducible rfl
        try simp only [Act.put, List.setIfInBounds_toArray, List.set_cons_zero, List.set_cons_succ]
        refine Till.take (i := 4) (v := ?_) rfl (by kernel_rfl) (by kernel_rfl) (by kernel_rfl) (by kernel_rfl) (fun _ _ _ h => h) (Or.inl ⟨by kernel_rfl, ?_⟩) HSD.out ?_
        rotate_left
        · intro ws s1
          go_simp
          try with_reducible rfl
        try simp only [Act.put, List.setIfInBounds_toArray, List.set_cons_zero, List.set_cons_succ]
        clear HSD
        refine Till.one (i := 3) (by kernel_rfl) rfl (by rfl) (fun K hK => ?_)
        go_simp
        refine (pick_any rb (P + 3 + k) 10 _ (by omega) (by omega) (by omega) (show RD wr.drew _ _ from R.out)).mono ?_; rintro e w5 ⟨x4, hx4, rfl, r5, g5⟩
        have p5 := heap_grown (show wr.drew.heap[w2.heap.size]? = some _ from pr) g5 (by simp; omega)
        have q5 := heap_grown (show wr.drew.heap[w.heap.size]? = some _ from qr) g5 (by simp; omega)
        have O5 := Lib.hid (OwnsB.keptBy (show OwnsB wr.drew _ _ _ from O.out) g5 (fun k e => by cases e; omega))
        have G5 := Lib.hid (grown_seq' G.out (grown_seq' (grown_drewN wr 1 _) g5))
        have R5 := Lib.hid r5
        clear r5 g5
        clear u0 u1 u2
        obtain ⟨u0, u1, u2⟩ := cells3 p5
        refine hK.out _ _ (fun _ => u2) ?_
        clear hK K
        have HSD := Lib.hid (show (fun w' : World => w'.cell? ⟨w2.heap.size, 2, none⟩ = some v) w5 from u2)
        try simp only [Act.put, List.setIfInBounds_toArray, List.set_cons_zero, List.set_cons_succ]
        refine Till.take (i := 5) (v := ?_) rfl (by kernel_rfl) (by kernel_rfl) (by kernel_rfl) (by kernel_rfl) (fun _ _ _ h => h) (Or.inl ⟨by kernel_rfl, ?_⟩) HSD.out ?_
        rotate_left
        · intro ws s1
          go_simp
          try with_reducible rfl
        try simp only [Act.put, List.setIfInBounds_toArray, List.set_cons_zero, List.set_cons_succ]
        obtain ⟨bv, hbv⟩ : ∃ bv : Bool, bv = decide ((x4 : Int) ≤ 2 + (x3 : Int)) := ⟨_, rfl⟩
        try rw [← hbv]
        clear hbv HSD
        have WN := Lib.hid (show Below w5.heap.size w5 (w5.alloc (.cells #[.bool bv] 4)) from below1 _ _)
        have z5 := heap_lt p5
        refine Till.one (i := 6) (by kernel_rfl) rfl (by rfl) (fun K hK => ?_)
        go_simp
        refine hK.out _ _ (fun _ => cell_later WN.out u2) ?_
        clear hK K
        refine Till.one (i := 7) (by kernel_rfl) rfl (by rfl) (fun K hK => ?_)
        refine step_append_lies _ rfl _ _ 23 rfl (w2.heap.size + 1) 4 i0 (.bool false) 1 1 Try.underlying23 hi hz0 hz1 hz2 rfl (by decide) v k (L.map Value.bool) rfl (show World.ownsRow (w5.alloc _) _ _ _ _ _ _ from (O5.out.alloc _).row HL.out) ⟨w5.heap.size, 0, none⟩ 1 1 _ rfl rfl (new_bool w5 _) (one_bool _) (by omega) (by unfold maxLen; omega) (by omega) (by simp; omega) (w5.heap.size + 1) (by simp) ?_
        intro g' c' w6 hown' hgrow _ _
        have hrow := fun (b : Nat) (hb : b < w2.heap.size + 1) => O5.out.ownBlock hb
        have p6 := heap_grown (heap_later p5 WN.out) hgrow (hrow _ (by omega))
        have q6 := heap_grown (heap_later q5 WN.out) hgrow (hrow _ (by omega))
        have R6 := Lib.hid (R5.out.below WN.out)
        have hrk := fun (k : Nat) (e : v.ownBlock = some k) => O5.out.ownAt (Nat.le_refl _) k e
        have R6 := Lib.hid ((R5.out.below WN.out).grown hgrow (fun k e => by have := hrk k e; omega))
        have G6 := Lib.hid (show w.grownBy w6 (some rb) from by
          have h9 := grown_seq' G5.out (grown_of_below' WN.out (some rb))
          exact ⟨hgrow.os.trans h9.os, hgrow.tape.trans h9.tape, hgrow.output.trans h9.output, Nat.le_trans h9.size hgrow.size, fun b hb hr => (hgrow.block b (Nat.lt_of_lt_of_le hb h9.size) (fun e => by have := hrk b e.symm; omega)).trans (h9.block b hb hr)⟩)
        have O6 := Lib.hid (OwnsB.ofRow (xs := L ++ [bv]) hown' (by simp) (by simp [HL.out]))
        clear hown' hgrow hrow hrk
        obtain ⟨t0, t1, t2⟩ := cells3 p6
        have e2 := free3 p6 2
        have l6 := heap_lt p6
        refine hK.out _ _ (fun _ => t2) ?_
        clear hK K
        refine Till.one (i := 8) (by kernel_rfl) rfl (by rfl) (fun K hK => ?_)
        go_simp
        refine hK.out _ _ (fun _ => t2) ?_
        clear hK K
        refine Till.one (i := 9) (by kernel_rfl) rfl (by rfl) (fun K hK => ?_)
        go_simp
        refine hK.out _ _ (fun h => absurd rfl h) ?_
        clear hK K
        refine Till.done (by kernel_rfl) ?_ _
        go_wp2
        go_roundw
        case rel => exact ⟨k + 1, _, L ++ [bv], by omega, by go_num, by simp [HL.out], O6.out.setBelow (by simp) _, by simpa using block_setCell p6 (i := 2) _, heap_set_other q6 (by simp; omega) _, (R6.out.setFar (by omega) _).mono (by omega), grown_far G6.out (by omega) _⟩
        case measure => simp [intOf]; omega
      · obtain rfl : k = A * B := by omega
        go_wp2_with fail
        refine (odd_any rb (P + 3 + A * B) n _ hn0 hn1 (by omega) R.out).mono ?_; rintro e w5 ⟨t, rfl, r5, g5⟩
        have p5 := heap_grown pr g5 (by simp; omega)
        have q5 := heap_grown qr g5 (by simp; omega)
        have O5 := Lib.hid (OwnsB.keptBy O.out g5 (fun k e => by cases e; omega))
        have G5 := Lib.hid (grown_seq' G.out g5)
        have R5 := Lib.hid r5
        have l5 := heap_lt p5
        clear r5 g5 u0 u1 u2 pr qr
        obtain ⟨u0, u1, u2⟩ := cells3 p5
        obtain ⟨d0, d1, d2⟩ := cells3 q5
        have f0 := free3 q5 0
        have f1 := free3 q5 1
        have f2 := free3 q5 2
        have sides : 0 ≤ (A : Int) ∧ (A : Int) ≤ 6 ∧ 0 ≤ (B : Int) ∧ (B : Int) ≤ 6 := ⟨by omega, by omega, by omega, by omega⟩
        have SD := Lib.hid sides; clear sides
        cases t
        · obtain ⟨a9, cap9, hv⟩ := O5.out.form2
          rw [HL.out] at hv
          subst hv
          go_wp2
          refine bodyPost_ret (v := .agg #[.int .i64 A, .int .i64 B, .slice a9 (A * B) cap9]) (by simp [results, Try.results145, go_sem, d0, d1, d2]) rfl ?_
          exact drawn_end lr SD.out HL.out.symm (by omega) O5.out (by omega) R5.out (by omega) G5.out _ _ _
        · go_wp2_with fail
          refine (pick_any rb (P + 3 + A * B + 1) 3 _ (by omega) (by omega) (by omega) R5.out).mono ?_; rintro e w6 ⟨x5, hx5, rfl, r6, g6⟩
          have p6 := heap_grown p5 g6 (by simp; omega)
          have q6 := heap_grown q5 g6 (by simp; omega)
          have O6 := Lib.hid (OwnsB.keptBy O5.out g6 (fun k e => by cases e; omega))
          have G6 := Lib.hid (grown_seq' G5.out g6)
          have R6 := Lib.hid r6
          have l6 := heap_lt p6
          clear r6 g6 u0 u1 u2 d0 d1 d2 f0 f1 f2 p5 q5
          obtain ⟨u0, u1, u2⟩ := cells3 p6
          obtain ⟨d0, d1, d2⟩ := cells3 q6
          have f0 := free3 q6 0
          have f1 := free3 q6 1
          have f2 := free3 q6 2
          have k0 := free3 p6 0
          have k1 := free3 p6 1
          have k2 := free3 p6 2
          have c3 : x5 = 0 ∨ x5 = 1 ∨ x5 = 2 := by omega
          clear hx5
          rcases c3 with rfl | rfl | rfl
          · have HLn := HL
            clear k0 k1 k2
            go_wp2_with (at_builtin; refine wpList_append_own _ rfl _ _ 23 rfl (w2.heap.size + 1) 4 i0 (.bool false) 1 1 Try.underlying23 hi hz0 hz1 hz2 rfl (by decide) v (A * B) (L.map Value.bool) rfl ((O6.out.alloc _).row HLn.out) ⟨w6.heap.size, 0, none⟩ 1 1 [.bool true] rfl rfl (new_bool w6 _) (one_bool _) (by unfold maxLen; omega) (by omega) (by simp; omega) ?_; intro v' w7 hown' hgrow _; obtain ⟨g9, cap9, rfl⟩ := form_pos hown' (by omega); have hrow := fun (b : Nat) (hb : b < w2.heap.size + 1) => O6.out.ownBlock hb; have hrk := fun (k : Nat) (e : v.ownBlock = some k) => O6.out.ownAt (Nat.le_refl _) k e; have p7 := heap_grown (heap_later p6 (below1 _ _)) hgrow (hrow _ (by omega)); have q7 := heap_grown (heap_later q6 (below1 _ _)) hgrow (hrow _ (by omega)); have R7 := Lib.hid ((R6.out.below (below1 _ _)).grown hgrow (fun k e => by have := hrk k e; omega)); have G7 := Lib.hid (grown_own (grown_seq' G6.out (World.grownBy_alloc _ _ _)) hgrow (fun k e => by have := hrk k e; omega)); have O7 := Lib.hid (OwnsB.ofRow (xs := L ++ [true]) hown' (by simp) (by simp [HLn.out])); clear hown' hgrow hrow hrk; clear u0 u1 u2; obtain ⟨u0, u1, u2⟩ := cells3 p7; clear d0 d1 d2 f0 f1 f2; obtain ⟨d0, d1, d2⟩ := cells3 q7; have f0 := free3 q7 0; have f1 := free3 q7 1; have f2 := free3 q7 2; have k2' := free3 p7 2; have l7 := heap_lt p7)
            refine bodyPost_ret (v := .agg #[.int .i64 A, .int .i64 B, .slice (some ⟨g9, 0, none⟩) (A * B + 1) cap9]) (by simp [results, Try.results145, go_sem, d0, d1, d2, u0, u1, u2, f0, f1, f2]) rfl ?_
            exact drawn_end lr SD.out (by simp [HL.out]) (by omega) (O7.out.setBelow (p := ⟨w2.heap.size, 2, none⟩) (by simp) _) (by omega) (R7.out.setFar (by omega) _) (by omega) (grown_far G7.out (by omega) _) _ _ _
          · go_wp2
            refine bodyPost_ret (v := .agg #[.int .i64 0, .int .i64 0, .slice none 0 0]) (by simp [results, Try.results145, go_sem, d0, d1, d2]) rfl ?_
            exact drawn_end (n := 0) (L := []) lr ⟨by omega, by omega, by omega, by omega⟩ rfl (Nat.zero_le _) (OwnsB.nil _ (w.heap.size + 1)) (by omega) R6.out (by omega) G6.out _ _ _
          · clear HL hlt hk
            go_wp2
            clear u0 u1 u2 d0 d1 d2 f0 f1 f2
            go_loopw [8] (fun i wr => ∃ (k : Nat) (v : Value) (L : List Bool), k ≤ 36 ∧ i = .int .i64 k ∧ L.length = k ∧ OwnsB wr (w2.heap.size + 1) v L ∧ wr.heap[w2.heap.size]? = some (.cells #[.int .i64 6, .int .i64 6, v] 25 (0, 0)) ∧ wr.heap[w.heap.size]? = some (.cells #[.int .i64 0, .int .i64 0, .slice none 0 0] 25 (0, 0)) ∧ RD wr rb (P + 100) ∧ w.grownBy wr (some rb)) (fun i _ => 36 - (intOf i).toNat)
            case atStart =>
              refine ⟨0, .slice none 0 0, [], Nat.zero_le _, rfl, rfl, OwnsB.nil _ _, ?_, heap_set_other (heap_set_other (heap_set_other q6 (by simp; omega) _) (by simp; omega) _) (by simp; omega) _, (((R6.out.setFar (by omega) _).setFar (by omega) _).setFar (by omega) _).mono (by omega), grown_far (grown_far (grown_far G6.out (by omega) _) (by omega) _) (by omega) _⟩
              have h1 := block_setCell (i := 0) p6 (.int .i64 6)
              have h2 := block_setCell (i := 1) h1 (.int .i64 6)
              have h3 := block_setCell (i := 2) h2 (.slice none 0 0)
              simpa using h3
            case round =>
              clear O6 G6 R6 p6 q6 k0 k1 k2 O5 G5 R5 O G R
              obtain ⟨k, v, L, hk, rfl, hL, ho, pr, qr, rr, gr⟩ := hrel
              have R := Lib.hid rr; clear rr
              have G := Lib.hid gr; clear gr
              have O := Lib.hid ho; clear ho
              have HLn := Lib.hid hL; clear hL
              have lX := heap_lt pr
              obtain ⟨u0, u1, u2⟩ := cells3 pr
              obtain ⟨d0, d1, d2⟩ := cells3 qr
              have f0 := free3 qr 0
              have f1 := free3 qr 1
              have f2 := free3 qr 2
              by_cases hlt : k < 36
              · go_wp2_with (at_builtin; refine wpList_append_own _ rfl _ _ 23 rfl (w2.heap.size + 1) 4 i0 (.bool false) 1 1 Try.underlying23 hi hz0 hz1 hz2 rfl (by decide) v k (L.map Value.bool) rfl ((O.out.alloc _).row HLn.out) ⟨wr.heap.size, 0, none⟩ 1 1 [.bool true] rfl rfl (new_bool wr _) (one_bool _) (by unfold maxLen; omega) (by omega) (by simp; omega) ?_; intro v' w7 hown' hgrow _; obtain ⟨g9, cap9, rfl⟩ := form_pos hown' (by omega); have hrow := fun (b : Nat) (hb : b < w2.heap.size + 1) => O.out.ownBlock hb; have hrk := fun (k : Nat) (e : v.ownBlock = some k) => O.out.ownAt (Nat.le_refl _) k e; have p7 := heap_grown (heap_later pr (below1 _ _)) hgrow (hrow _ (by omega)); have q7 := heap_grown (heap_later qr (below1 _ _)) hgrow (hrow _ (by omega)); have R7 := Lib.hid ((R.out.below (below1 _ _)).grown hgrow (fun k e => by have := hrk k e; omega)); have G7 := Lib.hid (grown_own (grown_seq' G.out (World.grownBy_alloc _ _ _)) hgrow (fun k e => by have := hrk k e; omega)); have O7 := Lib.hid (OwnsB.ofRow (xs := L ++ [true]) hown' (by simp) (by simp [HLn.out])); clear hown' hgrow hrow hrk; clear u0 u1 u2; obtain ⟨u0, u1, u2⟩ := cells3 p7; clear d0 d1 d2 f0 f1 f2; obtain ⟨d0, d1, d2⟩ := cells3 q7; have f0 := free3 q7 0; have f1 := free3 q7 1; have f2 := free3 q7 2; have k2' := free3 p7 2; have l7 := heap_lt p7)
                go_roundw
                case rel => exact ⟨k + 1, _, L ++ [true], by omega, by go_num, by simp [HLn.out], O7.out.setBelow (by simp) _, by simpa using block_setCell p7 (i := 2) _, heap_set_other q7 (by simp; omega) _, R7.out.setFar (by omega) _, grown_far G7.out (by omega) _⟩
                case measure => simp [intOf]; omega
              · obtain rfl : k = 36 := by omega
                obtain ⟨a9, cap9, hv⟩ := O.out.form2
                rw [HLn.out] at hv
                subst hv
                go_wp2
                refine bodyPost_ret (v := .agg #[.int .i64 6, .int .i64 6, .slice a9 36 cap9]) (by simp [results, Try.results145, go_sem, d0, d1, d2]) rfl ?_
                exact drawn_end lr ⟨by omega, by omega, by omega, by omega⟩ HLn.out.symm (by omega) O.out (by omega) R.out (by omega) G.out _ _ _

end Go.Proofs.Ytpcajacekmidbaa
