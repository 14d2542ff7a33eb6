/- Contract of spec.l20Laid: a region is drawn, and a list that lays dominoes on it. -/
import Derived.Test.YtdmnfafmbdmjmaaSome
import Derived.Test.YtdmnfafmbdmjmaaFirstS
namespace Go.Proofs.Ytdmnfafmbdmjmaa
open Go.RowKit
set_option linter.unusedVariables false
set_option maxRecDepth 100000
set_option linter.unusedSimpArgs false

def DrawnL (rb P : Nat) (w : World) (e : Ending) (w' : World) : Prop :=
  ∃ (W T : Int) (a : Option Addr) (n cap : Nat) (xs : List Bool) (la : Option Addr) (m lcap : Nat) (L : List Int), e = .returned (.tuple #[.agg #[.int .i64 W, .int .i64 T, .slice a n cap], .slice la m lcap]) ∧
    n = xs.length ∧ n ≤ 36 ∧ (0 ≤ W ∧ W ≤ 6 ∧ 0 ≤ T ∧ T ≤ 6) ∧ OwnsB w' w.heap.size (.slice a n cap) xs ∧ m = L.length ∧ m ≤ 36 ∧ OwnsI w' w.heap.size (.slice la m lcap) L ∧ RD w' rb (P + 600) ∧ w.grownBy w' (some rb)

/-- What stands while the list is made. -/
structure LS (rb : Nat) (w : World) (N : Nat) (W T : Int) (a : Option Addr) (n c : Nat) (xs : List Bool) (Pk : Nat) (v : Value) (w' : World) : Prop where
  p : w'.heap[N]? = some (.cells #[.int .i64 W, .int .i64 T, .slice a n c] 25 (0, 0))
  q : w'.heap[w.heap.size]? = some (.cells #[.int .i64 0, .int .i64 0, .slice none 0 0] 25 (0, 0))
  o : OwnsB w' (w.heap.size + 1) (.slice a n c) xs
  s : ∀ k, (Value.slice a n c).ownBlock = some k → k < N
  l : ∃ (la : Option Addr) (m lcap : Nat) (L : List Int), v = .slice la m lcap ∧ m = L.length ∧ m ≤ 36 ∧ OwnsI w' (N + 1) v L
  r : RD w' rb Pk
  g : w.grownBy w' (some rb)
  z : N + 1 ≤ w'.heap.size
  y : w.heap.size < N
section
variable {rb N n c Pk : Nat} {w w1 w2 : World} {W T : Int} {a : Option Addr} {xs : List Bool} {v : Value}
theorem LS.below (h : LS rb w N W T a n c xs Pk v w1) (lr : rb < w.heap.size) (hb : Below w1.heap.size w1 w2) : LS rb w N W T a n c xs Pk v w2 := by
  obtain ⟨la, m, lcap, L, h1, h2, h3, h4⟩ := h.l
  exact ⟨heap_later h.p hb, heap_later h.q hb, h.o.below hb, h.s, ⟨la, m, lcap, L, h1, h2, h3, h4.below hb⟩, h.r.below hb, grown_seq' h.g (grown_of_below' hb (some rb)), Nat.le_trans h.z hb.size, h.y⟩
theorem LS.pick {Pk' : Nat} (h : LS rb w N W T a n c xs Pk v w1) (lr : rb < w.heap.size) (hg : w1.grownBy w2 (some rb)) (hr : RD w2 rb Pk') : LS rb w N W T a n c xs Pk' v w2 := by
  obtain ⟨la, m, lcap, L, h1, h2, h3, h4⟩ := h.l
  have hy := h.y
  exact ⟨heap_grown h.p hg (by intro e; have := Option.some.inj e; omega), heap_grown h.q hg (by intro e; have := Option.some.inj e; omega), OwnsB.keptBy h.o hg (fun k e => by have := Option.some.inj e; omega), h.s, ⟨la, m, lcap, L, h1, h2, h3, OwnsI.keptBy h4 hg (fun k e => by have := Option.some.inj e; omega)⟩, hr, grown_seq' h.g hg, Nat.le_trans h.z hg.size, h.y⟩
/-- Another list. -/
theorem LS.list (h : LS rb w N W T a n c xs Pk v w1) {la : Option Addr} {m lcap B : Nat} {L : List Int} (hm : m = L.length) (h36 : m ≤ 36) (ho : OwnsI w1 B (.slice la m lcap) L) (hB : N + 1 ≤ B) : LS rb w N W T a n c xs Pk (.slice la m lcap) w1 :=
  ⟨h.p, h.q, h.o, h.s, ⟨la, m, lcap, L, rfl, hm, h36, ho.lower hB⟩, h.r, h.g, h.z, h.y⟩
theorem LS.mono {Pk' : Nat} (h : LS rb w N W T a n c xs Pk v w1) (hp : Pk ≤ Pk') : LS rb w N W T a n c xs Pk' v w1 :=
  ⟨h.p, h.q, h.o, h.s, h.l, h.r.mono hp, h.g, h.z, h.y⟩
theorem OwnsB.keptUp2 {w w' : World} {B : Nat} {v : Value} {xs : List Bool} {row : Option Nat} (h : OwnsB w B v xs) (hg : w.grownBy w' row) (hr : v.ownBlock = none ∨ v.ownBlock ≠ row) : OwnsB w' B v xs := World.ownsRow.kept h hg hr
/-- One number of the list is written. -/
theorem LS.store {g m lcap : Nat} (h : LS rb w N W T a n c xs Pk (.slice (some ⟨g, 0, none⟩) m lcap) w1) (lr : rb < w.heap.size) (k : Nat) (x : Int) : LS rb w N W T a n c xs Pk (.slice (some ⟨g, 0, none⟩) m lcap) (w1.setCell ⟨g, k, none⟩ (.int .i64 x)) := by
  obtain ⟨la, m', lcap', L, h1, h2, h3, h4⟩ := h.l
  simp only [Value.slice.injEq] at h1
  obtain ⟨rfl, rfl, rfl⟩ := h1
  have hs := OwnsI.set h4 k x
  have hlt := h4.lt
  have hy := h.y
  refine ⟨heap_set_other h.p (by simp; omega) _, heap_set_other h.q (by simp; omega) _, h.o.keptUp2 hs.2 (Or.inr fun e => by have := h.s g e; omega), h.s, ⟨_, _, _, L.set k x, rfl, by simpa using h2, h3, hs.1⟩, h.r.setFar (by omega) _, grown_far h.g (by omega) _, by simpa using h.z, h.y⟩
theorem LS.done {la : Option Addr} {m lcap P : Nat} (h : LS rb w N W T a n c xs Pk (.slice la m lcap) w1) (lr : rb < w.heap.size) (hn : n = xs.length) (h36 : n ≤ 36) (hs : 0 ≤ W ∧ W ≤ 6 ∧ 0 ≤ T ∧ T ≤ 6) (hP : Pk ≤ P + 600) :
    DrawnL rb P w (.returned (.tuple #[.agg #[.int .i64 W, .int .i64 T, .slice a n c], .slice la m lcap])) (((w1.setCell ⟨w.heap.size, 0, none⟩ (.int .i64 W)).setCell ⟨w.heap.size, 1, none⟩ (.int .i64 T)).setCell ⟨w.heap.size, 2, none⟩ (.slice a n c)) := by
  obtain ⟨la', m', lcap', L, h1, h2, h3, h4⟩ := h.l
  simp only [Value.slice.injEq] at h1
  obtain ⟨rfl, rfl, rfl⟩ := h1
  have hy := h.y
  refine ⟨W, T, a, n, c, xs, la, m, lcap, L, rfl, hn, h36, hs, (h.o.set3 (by omega) _ _ _).lower (by omega), h2, h3, ?_, (((h.r.setFar lr _).setFar lr _).setFar lr _).mono hP, grown_far (grown_far (grown_far h.g (Nat.le_refl _) _) (Nat.le_refl _) _) (Nat.le_refl _) _⟩
  exact (((h4.setBelow (p := ⟨w.heap.size, 0, none⟩) (by simp; omega) _).setBelow (p := ⟨w.heap.size, 1, none⟩) (by simp; omega) _).setBelow (p := ⟨w.heap.size, 2, none⟩) (by simp; omega) _).lower (by omega)
end

set_option maxHeartbeats 8000000 in
theorem l20Laid_any (rb P : Nat) (t : Int) (w : World) (hn0 : 0 ≤ t) (hn1 : t ≤ 100) (hP : P ≤ 1000) (h : RD w rb P) :
    Calls Try.prog 73 #[.pointer (some ⟨rb, 0, none⟩), .int .i64 t] w (DrawnL rb P w) := by
  have lr := h.lt
  have H := Lib.hid h; clear h
  have htt : IntKind.i64.wrap (2 * t) = 2 * t := IntWalk.i64_in _ (by omega)
  go_enter Try.func73, Try.ntmps73
  go_wp2_with fail
  refine (l20Some_any rb P (2 * t) _ (by omega) (by omega) (by omega) (H.out.below (below1 _ _))).mono ?_; rintro e w2 ⟨W, T, a, n, c, xs, rfl, hm, h36, hs, o2, r2, g2⟩
  have HM := Lib.hid hm; clear hm
  have q2 := heap_grown (heap_new w (.cells #[.int .i64 0, .int .i64 0, .slice none 0 0] 25)) g2 (by intro e; have := Option.some.inj e; omega)
  have G2 := Lib.hid (grown_seq' (World.grownBy_alloc w _ _) g2)
  have O2 := Lib.hid (show OwnsB w2 (w.heap.size + 1) (.slice a n c) xs from by simpa using o2)
  have R2 := Lib.hid r2
  have lq := heap_lt q2
  clear o2 r2 g2 H htt
  obtain ⟨wB, hwB⟩ : ∃ wB, wB = w2.alloc (.cells #[.int .i64 W, .int .i64 T, .slice a n c] 25) := ⟨_, rfl⟩
  have zB : wB.heap.size = w2.heap.size + 1 := by rw [hwB]; simp
  have LB : Hid (LS rb w w2.heap.size W T a n c xs (P + 300) (.slice none 0 0) wB) := by
    rw [hwB]
    exact ⟨heap_new _ _, heap_later q2 (below1 _ _), O2.out.alloc _, fun k e => O2.out.blkLt k e, ⟨none, 0, 0, [], rfl, rfl, by omega, OwnsI.nil _ _⟩, (R2.out.below (below1 _ _)).mono (by omega), grown_seq' G2.out (World.grownBy_alloc _ _ _), by simp, lq⟩
  clear q2 G2 R2
  obtain ⟨c0, c1, c2⟩ := cells3 LB.out.p
  go_wp2_with fail
  rw [← hwB]
  clear hwB
  refine (sTilingFirst_ret _ _ _ _ _ xs _ HM.out (by omega) (OwnsB.at LB.out.o)).mono ?_; rintro e w3 ⟨a3, cap3, rfl, ho3, hb3⟩
  obtain ⟨F, hF⟩ : ∃ F, firstF W T xs = F := ⟨_, rfl⟩
  have hFl : F.1.length ≤ 36 := by rw [← hF]; have := firstF_len W T xs; have := HM.out; omega
  rw [hF] at ho3 ⊢
  clear hF
  obtain ⟨L3, ok⟩ := F
  simp only at ho3 hFl ⊢
  have S3 := Lib.hid ((LB.out.below lr hb3).list rfl hFl ho3 (by omega))
  obtain ⟨m3, hm3⟩ : ∃ m3, m3 = L3.length := ⟨_, rfl⟩
  rw [← hm3] at S3 ⊢
  clear hm3 hFl ho3 hb3 LB c0 c1 c2 zB lq O2 L3
  go_upto_region 3 with fail
  go_cut [32] (fun v32 wx => ∃ b : Bool, v32 = .bool b ∧ LS rb w w2.heap.size W T a n c xs (P + 301) (.slice a3 m3 cap3) wx)
  case first =>
    cases ok
    · go_wp2
      go_meet
      exact ⟨true, rfl, S3.out.mono (by omega)⟩
    · go_wp2_with fail
      refine (pick_any rb _ 3 _ (by omega) (by omega) (by omega) S3.out.r).mono ?_; rintro e w4 ⟨x4, hx4, rfl, r4, g4⟩
      go_wp2
      go_meet
      exact ⟨_, rfl, S3.out.pick lr g4 r4⟩
  case rest =>
  clear S3
  obtain ⟨b4, rfl, s4⟩ := hcut
  rename_i w4
  have S4 := Lib.hid s4; clear s4
  go_upto_if 32 with fail
  go_cut [7] (fun v7 wx => LS rb w w2.heap.size W T a n c xs (P + 400) v7 wx)
  case first =>
    cases b4
    · go_wp2
      go_meet
      exact S4.out.mono (by omega)
    · obtain ⟨c0, c1, c2⟩ := cells3 S4.out.p
      go_wp2_with fail
      refine (sLaidBare_ret _ _ _ _ _ xs _ HM.out (by omega) (OwnsB.at S4.out.o)).mono ?_; rintro e w5 ⟨a5, cap5, rfl, ho5, hb5⟩
      obtain ⟨L5, hL5⟩ : ∃ L5, bareL W T xs = L5 := ⟨_, rfl⟩
      have hL5l : L5.length ≤ 36 := by rw [← hL5]; have := bareL_len W T xs; have := HM.out; omega
      rw [hL5] at ho5 ⊢
      have S5 := Lib.hid ((S4.out.below lr hb5).list rfl hL5l ho5 S4.out.z)
      obtain ⟨m5, hm5⟩ : ∃ m5, m5 = L5.length := ⟨_, rfl⟩
      rw [← hm5] at S5 ⊢
      clear hL5 hL5l hm5 ho5 hb5 S4 c0 c1 c2
      go_wp2_with fail
      refine (pick_any rb _ 16 _ (by omega) (by omega) (by omega) S5.out.r).mono ?_; rintro e w6 ⟨x6, hx6, rfl, r6, g6⟩
      have S6 := Lib.hid (S5.out.pick lr g6 r6)
      clear r6 g6 S5
      go_wp2
      go_loopw [7, 9] (fun v7 v9 wr => ∃ kn : Nat, kn ≤ 15 ∧ v9 = .int .i64 kn ∧ LS rb w w2.heap.size W T a n c xs (P + 302 + 2 * (15 - kn)) v7 wr) (fun _ v9 _ => (intOf v9).toNat)
      case atStart => exact ⟨x6, by omega, rfl, S6.out.mono (by omega)⟩
      case round =>
        rename World => wo
        clear S6
        obtain ⟨kn, hk, rfl, so⟩ := hrel
        have SR := Lib.hid so; clear so
        obtain ⟨la, m, lcap, L, rfl, hml, hm36, ol⟩ := SR.out.l
        have HML := Lib.hid hml; clear hml
        have OL := Lib.hid ol; clear ol
        by_cases hk0 : kn = 0
        · subst hk0
          go_wp2_with fail
          refine (pick_any rb _ 2 _ (by omega) (by omega) (by omega) SR.out.r).mono ?_; rintro e w10 ⟨x10, hx10, rfl, r10, g10⟩
          have S10 := Lib.hid (SR.out.pick lr g10 r10)
          have OL10 := Lib.hid (OwnsI.keptBy OL.out g10 (fun k e => by have := Option.some.inj e; have := SR.out.y; omega))
          clear r10 g10
          obtain ⟨c100, c101, c102⟩ := cells3 S10.out.p
          by_cases hx0 : x10 = 0
          · subst hx0
            go_wp2_with fail
            refine (sComplete_ret _ _ _ _ _ xs _ _ _ L _ HM.out (by omega) HML.out (by omega) (OwnsB.at S10.out.o) (OwnsI.at OL10.out)).mono ?_; rintro e w11 ⟨a11, cap11, rfl, ho11, hb11⟩
            obtain ⟨F, hF⟩ : ∃ F, compF W T xs L = F := ⟨_, rfl⟩
            have hFl : F.1.length ≤ 36 := by rw [← hF]; have := compF_len W T xs L; have := HML.out; omega
            rw [hF] at ho11 ⊢
            clear hF
            obtain ⟨L11, ok11⟩ := F
            simp only at ho11 hFl ⊢
            have S11 := Lib.hid (S10.out.below lr hb11)
            have T11 := Lib.hid (S11.out.list rfl hFl ho11 S10.out.z)
            clear ho11 hb11
            cases ok11
            · go_wp2
              go_meet
              exact S11.out.mono (by omega)
            · go_wp2
              go_meet
              exact T11.out.mono (by omega)
          · have hx0b : ((x10 : Int) == 0) = false := by simp; omega
            go_wp2
            go_meet
            exact S10.out.mono (by omega)
        · have hkp : 0 < (kn : Int) := by omega
          by_cases hm0 : m = 0
          · subst hm0
            go_wp2_with fail
            refine (pick_any rb _ 2 _ (by omega) (by omega) (by omega) SR.out.r).mono ?_; rintro e w10 ⟨x10, hx10, rfl, r10, g10⟩
            have S10 := Lib.hid (SR.out.pick lr g10 r10)
            have OL10 := Lib.hid (OwnsI.keptBy OL.out g10 (fun k e => by have := Option.some.inj e; have := SR.out.y; omega))
            clear r10 g10
            obtain ⟨c100, c101, c102⟩ := cells3 S10.out.p
            by_cases hx0 : x10 = 0
            · subst hx0
              go_wp2_with fail
              refine (sComplete_ret _ _ _ _ _ xs _ _ _ L _ HM.out (by omega) HML.out (by omega) (OwnsB.at S10.out.o) (OwnsI.at OL10.out)).mono ?_; rintro e w11 ⟨a11, cap11, rfl, ho11, hb11⟩
              obtain ⟨F, hF⟩ : ∃ F, compF W T xs L = F := ⟨_, rfl⟩
              have hFl : F.1.length ≤ 36 := by rw [← hF]; have := compF_len W T xs L; have := HML.out; omega
              rw [hF] at ho11 ⊢
              clear hF
              obtain ⟨L11, ok11⟩ := F
              simp only at ho11 hFl ⊢
              have S11 := Lib.hid (S10.out.below lr hb11)
              have T11 := Lib.hid (S11.out.list rfl hFl ho11 S10.out.z)
              clear ho11 hb11
              cases ok11
              · go_wp2
                go_meet
                exact S11.out.mono (by omega)
              · go_wp2
                go_meet
                exact T11.out.mono (by omega)
            · have hx0b : ((x10 : Int) == 0) = false := by simp; omega
              go_wp2
              go_meet
              exact S10.out.mono (by omega)
          · have hmp : 0 < (m : Int) := by omega
            have hmp' : 0 < m := by omega
            obtain ⟨c0, c1, c2⟩ := cells3 SR.out.p
            have SD : Hid (LS rb w w2.heap.size W T a n c xs (P + 302 + 2 * (15 - kn)) (.slice la m lcap) wo.drew) := ⟨SR.out.p, SR.out.q, SR.out.o, SR.out.s, SR.out.l, SR.out.r, grown_seq' SR.out.g (grown_drewN wo 1 _), SR.out.z, SR.out.y⟩
            go_upto_region 8 with fail
            go_cut [10, 11] (fun v10 v11 wx => ∃ (la' : Option Addr) (m' lcap' : Nat) (L' : List Int) (can : Bool), v10 = .slice la' m' lcap' ∧ v11 = .bool can ∧ LS rb w w2.heap.size W T a n c xs (P + 302 + 2 * (15 - kn) + 2) (.slice la m lcap) wx ∧ LS rb w w2.heap.size W T a n c xs (P + 302 + 2 * (15 - kn) + 2) (.slice la' m' lcap') wx)
            case first =>
              go_region_held3 (fun w' => w'.cell? ⟨w2.heap.size, 0, none⟩ = some (.int .i64 W) ∧ w'.cell? ⟨w2.heap.size, 1, none⟩ = some (.int .i64 T) ∧ w'.cell? ⟨w2.heap.size, 2, none⟩ = some (.slice a n c))
                (go_keep)
                (first
                  | (go_at_call 50; refine (sLayOne_ret _ _ _ _ _ xs _ _ _ L _ _ _ HM.out (by omega) HML.out (by omega) (OwnsB.at S9.out.o) (OwnsI.at O9.out)).mono ?_; rintro e w11 ⟨a11, cap11, rfl, ho11, hb11⟩; have S11 := Lib.hid (S9.out.below lr hb11); obtain ⟨c110, c111, c112⟩ := cells3 S11.out.p)
                  | (go_at_call 55; refine (pick_any rb _ 4 _ (by omega) (by omega) (by omega) S8.out.r).mono ?_; rintro e w9 ⟨x9, hx9, rfl, r9, g9⟩; have S9 := Lib.hid (S8.out.pick lr g9 r9); have O9 := Lib.hid (OwnsI.keptBy O8.out g9 (fun k e => by have := Option.some.inj e; have := SR.out.y; omega)); obtain ⟨c90, c91, c92⟩ := cells3 S9.out.p)
                  | (go_at_call 55; refine (pick_any rb _ m _ (by omega) (by omega) (by omega) SD.out.r).mono ?_; rintro e w8 ⟨x8, hx8, rfl, r8, g8⟩; have S8 := Lib.hid (SD.out.pick lr g8 r8); have O8 := Lib.hid (OwnsI.keptBy (show OwnsI wo.drew _ _ _ from OL.out) g8 (fun k e => by have := Option.some.inj e; have := SR.out.y; omega)); obtain ⟨c80, c81, c82⟩ := cells3 S8.out.p))
              go_wp2
              go_meet
              refine ⟨_, _, _, [], _, rfl, rfl, S11.out, ?_⟩
              refine LS.list S11.out rfl ?_ ho11 S9.out.z
              exact Nat.le_trans (layF_len _ _ _ _ _ _) (by have := HML.out; omega)
            case rest =>
              obtain ⟨la', m', lcap', L', can, rfl, rfl, s1, s2⟩ := hcut
              have S12 := Lib.hid s1; clear s1
              have T12 := Lib.hid s2; clear s2
              cases can
              · go_wp2
                go_roundw
                case rel => exact ⟨kn - 1, by omega, by go_num, S12.out.mono (by omega)⟩
                case measure => simp [intOf]; omega
              · go_wp2
                go_roundw
                case rel => exact ⟨kn - 1, by omega, by go_num, T12.out.mono (by omega)⟩
                case measure => simp [intOf]; omega
  case rest =>
  clear S4
  rename_i w7
  have S7 := Lib.hid hcut; clear hcut
  have htt : IntKind.i64.wrap (2 * t) = 2 * t := IntWalk.i64_in _ (by omega)
  have HTT := Lib.hid htt; clear htt
  go_wp2
  go_loopw [7, 14] (fun v7 v14 wr => ∃ k : Nat, k ≤ 36 ∧ v14 = .int .i64 k ∧ LS rb w w2.heap.size W T a n c xs (P + 400 + k) v7 wr) (fun _ v14 _ => 36 - (intOf v14).toNat)
  case atStart => exact ⟨0, by omega, rfl, S7.out⟩
  case round =>
    rename World => wo
    clear S7
    obtain ⟨k, hk, rfl, so⟩ := hrel
    have SR := Lib.hid so; clear so
    obtain ⟨la, m, lcap, L, rfl, hml, hm36, ol⟩ := SR.out.l
    have HML := Lib.hid hml; clear hml
    have OL := Lib.hid ol; clear ol
    by_cases hkm : k < m
    · have e1 : (k : Int) < m := by omega
      go_wp2_with fail
      refine (pick_any rb _ 12 _ (by omega) (by omega) (by omega) SR.out.r).mono ?_; rintro e w8 ⟨x8, hx8, rfl, r8, g8⟩
      have S8 := Lib.hid (SR.out.pick lr g8 r8)
      have O8 := Lib.hid (OwnsI.keptBy OL.out g8 (fun k e => by have := Option.some.inj e; have := SR.out.y; omega))
      clear r8 g8
      by_cases hx0 : x8 = 0
      · subst hx0
        obtain ⟨c0, c1, c2⟩ := cells3 S8.out.p
        go_wp2_with fail
        refine (sLiftOne_ret _ _ _ _ _ xs _ _ _ L _ _ HM.out (by omega) HML.out (by omega) (OwnsB.at S8.out.o) (OwnsI.at O8.out)).mono ?_; rintro e w11 ⟨a11, cap11, rfl, ho11, hb11⟩
        obtain ⟨F, hF⟩ : ∃ F, liftF W T xs L k = F := ⟨_, rfl⟩
        have hFl : F.1.length ≤ 36 := by rw [← hF]; have := liftF_len W T xs L k; have := HML.out; omega
        rw [hF] at ho11 ⊢
        clear hF
        obtain ⟨L11, ok11⟩ := F
        simp only at ho11 hFl ⊢
        have S11 := Lib.hid (S8.out.below lr hb11)
        have T11 := Lib.hid (S11.out.list rfl hFl ho11 S8.out.z)
        clear ho11 hb11
        cases ok11
        · go_wp2
          go_roundw
          case rel => exact ⟨k + 1, by omega, by go_num, S11.out.mono (by omega)⟩
          case measure => simp [intOf]; omega
        · go_wp2
          go_roundw
          case rel => exact ⟨k + 1, by omega, by go_num, T11.out.mono (by omega)⟩
          case measure => simp [intOf]; omega
      · have hx0b : ((x8 : Int) == 0) = false := by simp; omega
        go_wp2
        go_roundw
        case rel => exact ⟨k + 1, by omega, by go_num, S8.out.mono (by omega)⟩
        case measure => simp [intOf]; omega
    · go_wp2_with fail
      refine (odd_any rb _ (2 * t) _ (by omega) (by omega) (by omega) SR.out.r).mono ?_; rintro e w8 ⟨b8, rfl, r8, g8⟩
      have S8 := Lib.hid (SR.out.pick lr g8 r8)
      have O8 := Lib.hid (OwnsI.keptBy OL.out g8 (fun k e => by have := Option.some.inj e; have := SR.out.y; omega))
      clear r8 g8
      by_cases hb8 : b8 = true ∧ 0 < m
      · obtain ⟨rfl, hmp⟩ := hb8
        have hmp' : 0 < (m : Int) := by omega
        go_wp2_with fail
        refine (pick_any rb _ m _ (by omega) (by omega) (by omega) S8.out.r).mono ?_; rintro e w9 ⟨x9, hx9, rfl, r9, g9⟩
        have S9 := Lib.hid (S8.out.pick lr g9 r9)
        have O9 := Lib.hid (OwnsI.keptBy O8.out g9 (fun k e => by have := Option.some.inj e; have := SR.out.y; omega))
        clear r9 g9
        go_wp2_with fail
        refine (pick_any rb _ 6 _ (by omega) (by omega) (by omega) S9.out.r).mono ?_; rintro e w10 ⟨x10, hx10, rfl, r10, g10⟩
        have S10 := Lib.hid (S9.out.pick lr g10 r10)
        have O10 := OwnsI.keptBy O9.out g10 (fun k e => by have := Option.some.inj e; have := SR.out.y; omega)
        rcases O10.forms with ⟨e0, e1⟩ | ⟨g, gc, hv, hg1, hg2⟩
        · exfalso; have := HML.out; rw [e1] at this; simp at this; omega
        rw [← HML.out] at hv
        simp only [Value.slice.injEq] at hv
        obtain ⟨rfl, -, rfl⟩ := hv
        have hcx := O10.cell (k := x9) (by have := HML.out; omega)
        have hfx := O10.free x9
        have e9 : (x9 : Int) < m := by omega
        have S11 := Lib.hid (S10.out.store lr x9 (x10 : Int))
        obtain ⟨c0, c1, c2⟩ := cells3 S11.out.p
        obtain ⟨d0, d1, d2⟩ := cells3 S11.out.q
        have f0 := free3 S11.out.q 0
        have f1 := free3 S11.out.q 1
        have f2 := free3 S11.out.q 2
        go_wp2
        refine bodyPost_ret (v := .tuple #[.agg #[.int .i64 W, .int .i64 T, .slice a n c], .slice (some ⟨g, 0, none⟩) m lcap]) (by simp [results, Try.results73, go_sem, d0, d1, d2]) rfl ?_
        exact S11.out.done lr HM.out h36 hs (by omega)
      · have hbb : (b8 && decide (0 < (m : Int))) = false := by
          cases b8
          · rfl
          · simp; by_cases h : m = 0
            · exact h
            · exact absurd ⟨rfl, by omega⟩ hb8
        obtain ⟨c0, c1, c2⟩ := cells3 S8.out.p
        obtain ⟨d0, d1, d2⟩ := cells3 S8.out.q
        have f0 := free3 S8.out.q 0
        have f1 := free3 S8.out.q 1
        have f2 := free3 S8.out.q 2
        cases b8
        · clear hbb hb8
          go_wp2
          refine bodyPost_ret (v := .tuple #[.agg #[.int .i64 W, .int .i64 T, .slice a n c], .slice la m lcap]) (by simp [results, Try.results73, go_sem, d0, d1, d2]) rfl ?_
          exact S8.out.done lr HM.out h36 hs (by omega)
        · have hm0 : m = 0 := by
            by_cases h : m = 0
            · exact h
            · exact absurd ⟨rfl, by omega⟩ hb8
          clear hbb hb8
          subst hm0
          go_wp2
          refine bodyPost_ret (v := .tuple #[.agg #[.int .i64 W, .int .i64 T, .slice a n c], .slice la 0 lcap]) (by simp [results, Try.results73, go_sem, d0, d1, d2]) rfl ?_
          exact S8.out.done lr HM.out h36 hs (by omega)
end Go.Proofs.Ytdmnfafmbdmjmaa
