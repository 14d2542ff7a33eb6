/- Plain facts: the lesser and the greater ones of two lists of right heights are right. -/
import Derived.Test.YtknigcjpgkolgaaKLayOne
import Derived.Test.YtknigcjpgkolgaaKLatMv2
namespace Go.Proofs.Ytknigcjpgkolgaa
open Go.RowKit
set_option linter.unusedVariables false
set_option maxRecDepth 100000
set_option linter.unusedSimpArgs false

set_option maxHeartbeats 4000000 in
theorem iHeightsHigh_ret (W T : Int) (a : Option Addr) (n cap : Nat) (xs : List Bool) (la : Option Addr) (m lcap : Nat) (A : List Int) (lb : Option Addr) (q bcap : Nat) (B : List Int) (w : World) (hn : n = xs.length) (hn' : n ≤ 1048576) (hm : m = A.length) (hm' : m ≤ 1048576) (hq : q = B.length) (hq' : q ≤ 1048576) (ha : BoolsAt w a xs) (hl : IntsAt w la A) (hb : IntsAt w lb B) :
    Calls Try.prog 31 #[.agg #[.int .i64 W, .int .i64 T, .slice a n cap], .slice la m lcap, .slice lb q bcap] w (RetL w (bothF true W T xs A B).length (bothF true W T xs A B)) := by
  have HN := Lib.hid hn; clear hn
  have HM := Lib.hid hm; clear hm
  have HQ := Lib.hid hq; clear hq
  have HA := Lib.hid ha; clear ha
  have HL := Lib.hid hl; clear hl
  have HB := Lib.hid hb; clear hb
  cases h1 : hokB W T xs A
  · have e : bothF true W T xs A B = [] := by unfold bothF; rw [h1]; rfl
    rw [e]
    have H1 := Lib.hid h1; clear h1 e
    go_enter Try.func31, Try.ntmps31
    go_wp2_with fail
    refine (iHeightsOk_any _ _ _ _ _ xs _ _ _ A _ HN.out hn' HM.out hm' (HA.out.one _) (HL.out.one _)).mono ?_; rintro e w1 ⟨rfl, hb1⟩
    rw [H1.out]
    go_wp2
    go_ret
    exact ⟨none, 0, rfl, OwnsI.nil _ _, below_seq (below1 _ _) hb1⟩
  obtain ⟨wA, hwA⟩ : ∃ wA, wA = w.alloc (.cells #[.int .i64 W, .int .i64 T, .slice a n cap] 25) := ⟨_, rfl⟩
  have pA : wA.heap[w.heap.size]? = some (.cells #[.int .i64 W, .int .i64 T, .slice a n cap] 25 (0, 0)) := by rw [hwA]; exact heap_new _ _
  have bA : Below w.heap.size w wA := by rw [hwA]; exact below1 _ _
  obtain ⟨d0, d1, d2⟩ := cells3 pA
  cases h2 : hokB W T xs B
  · have e : bothF true W T xs A B = [] := by unfold bothF; rw [h1, h2]; rfl
    rw [e]
    have H1 := Lib.hid h1; have H2 := Lib.hid h2; clear h1 h2 e
    go_enter Try.func31, Try.ntmps31
    go_wp2_with fail
    rw [← hwA]; clear hwA
    refine (iHeightsOk_any _ _ _ _ _ xs _ _ _ A _ HN.out hn' HM.out hm' (HA.out.below bA) (HL.out.below bA)).mono ?_; rintro e w1 ⟨rfl, hb1⟩
    rw [H1.out]
    have b1 := below_seq bA hb1
    obtain ⟨c0, c1, c2⟩ := cells3 (heap_later pA hb1)
    go_wp2_with fail
    refine (iHeightsOk_any _ _ _ _ _ xs _ _ _ B _ HN.out hn' HQ.out hq' (HA.out.below b1) (HB.out.below b1)).mono ?_; rintro e w2 ⟨rfl, hb2⟩
    rw [H2.out]
    go_wp2
    go_ret
    exact ⟨none, 0, rfl, OwnsI.nil _ _, below_seq b1 hb2⟩
  obtain ⟨l1, hr⟩ := hokB_len h1
  obtain ⟨l2, _⟩ := hokB_len h2
  obtain ⟨v1, v2, v3, v4, _⟩ := rv_true hr
  have hcb := corn_bd v1 v2 v3 v4
  have hqm : q = m := by have a1 := HM.out; have a2 := HQ.out; omega
  subst hqm
  have hpos : 0 < q := by have a2 := HQ.out; omega
  have e : bothF true W T xs A B = bothL true A B q := by unfold bothF; rw [h1, h2, ← HM.out]; rfl
  rw [e]
  have HE : Hid ((bothL true A B q).length = q) := by show _ = _; rw [bothL_len, HM.out]
  have H1 := Lib.hid h1; have H2 := Lib.hid h2
  clear h1 h2 e l1 l2 hr hcb v1 v2 v3 v4
  go_enter Try.func31, Try.ntmps31
  go_wp2_with fail
  rw [← hwA]; clear hwA
  refine (iHeightsOk_any _ _ _ _ _ xs _ _ _ A _ HN.out hn' HM.out hm' (HA.out.below bA) (HL.out.below bA)).mono ?_; rintro e w1 ⟨rfl, hb1⟩
  rw [H1.out]
  have b1 := below_seq bA hb1
  obtain ⟨c0, c1, c2⟩ := cells3 (heap_later pA hb1)
  go_wp2_with fail
  refine (iHeightsOk_any _ _ _ _ _ xs _ _ _ B _ HN.out hn' HQ.out hq' (HA.out.below b1) (HB.out.below b1)).mono ?_; rintro e w2 ⟨rfl, hb2⟩
  rw [H2.out]
  have b2 := below_seq b1 hb2
  go_wp2_with fail
  refine (clone_own _ _ _ A _ HM.out hpos hm' (HL.out.below b2)).mono ?_; rintro e w3 ⟨g, gc, rfl, ho3, hb3⟩
  have b3 := Lib.hid (below_seq b2 hb3)
  have O3 := Lib.hid (ho3.lower b2.size)
  have hgl := O3.out.lt
  clear ho3 hb3 hb2 hb1 b1 b2 c0 c1 c2 d0 d1 d2
  go_wp2
  go_loopw [8, 9, 24] (fun _ _ i wr => ∃ k : Nat, k ≤ q ∧ i = .int .i64 k ∧ OwnsI wr w.heap.size (.slice (some ⟨g, 0, none⟩) q gc) (bothL true A B k) ∧ Below w.heap.size w wr) (fun _ _ i _ => q - (intOf i).toNat)
  case atStart => exact ⟨0, Nat.zero_le _, rfl, by rw [bothL_zero]; exact O3.out, b3.out⟩
  case round =>
    rename World => wo
    obtain ⟨k, hk, rfl, ho, hbel⟩ := hrel
    have HO := Lib.hid ho; clear ho
    have BEL := Lib.hid hbel; clear hbel
    by_cases hlt : k < q
    · have hkA : k < A.length := by rw [← HM.out]; exact hlt
      have hx := HO.out.cell (k := k) (by rw [bothL_len]; exact hkA)
      rw [bothL_get true A B hkA] at hx
      have hst := bothL_step true A B hkA
      obtain ⟨bb, bo, rfl, hy⟩ := (HB.out.below BEL.out) k (by rw [← HQ.out]; exact hlt)
      obtain ⟨x, hxx⟩ : ∃ x, x = A.getD k 0 := ⟨_, rfl⟩
      obtain ⟨y, hyy⟩ : ∃ y, y = B.getD k 0 := ⟨_, rfl⟩
      rw [← hxx] at hx hst; rw [← hyy] at hy hst
      clear hxx hyy
      have hf := HO.out.free k
      have s1 := OwnsI.set HO.out k (pickI true x y)
      rw [hst] at s1
      have HS1 := Lib.hid s1; clear s1 hst hkA
      have e1 : (k : Int) < q := by omega
      by_cases hxy : x < y
      all_goals
        have hp : pickI true x y = (if x < y then y else x) := rfl
        first
          | (rw [if_pos hxy] at hp; rw [hp] at HS1; clear hp)
          | (rw [if_neg hxy] at hp; rw [hp] at HS1; clear hp)
        go_wp2
        go_roundw
        case rel => exact ⟨k + 1, by omega, by go_num, HS1.out.1, below_grown BEL.out HS1.out.2 (Nat.le_refl _) (fun k e => by cases e; exact hgl.1)⟩
        case measure => simp [intOf]; omega
    · obtain rfl : k = q := by omega
      go_wp2
      go_ret
      exact ⟨some ⟨g, 0, none⟩, gc, by rw [HE.out]; rfl, by rw [HE.out]; exact HO.out, BEL.out⟩
end Go.Proofs.Ytknigcjpgkolgaa

namespace Go.Proofs.Ytknigcjpgkolgaa
open Go.RowKit
set_option linter.unusedVariables false
set_option maxRecDepth 100000
set_option linter.unusedSimpArgs false

/-- The first entries of both lists' lesser, or greater, ones. -/
def pickL (hi : Bool) (A B : List Int) (k : Nat) : List Int := (List.range k).map fun i => pickI hi (A.getD i 0) (B.getD i 0)
theorem pickL_len (hi : Bool) (A B : List Int) (k : Nat) : (pickL hi A B k).length = k := by simp [pickL]
theorem pickL_snoc (hi : Bool) (A B : List Int) (k : Nat) : pickL hi A B (k + 1) = pickL hi A B k ++ [pickI hi (A.getD k 0) (B.getD k 0)] := by simp [pickL, List.range_succ]
theorem own_nil_litH (w : World) {B : Nat} (hB : B ≤ w.heap.size) : OwnsI (w.alloc (.cells #[] 3 (0, 0))) B (.slice (some ⟨w.heap.size, 0, none⟩) 0 0) [] :=
  World.ownsRow_made w #[] 0 hB (Nat.zero_le _) rfl
theorem nil_boxed (w : World) (o : Obj) : OwnsI ((w.alloc o).alloc (.cells #[] 3)) (w.heap.size + 1) (.slice (some ⟨w.heap.size + 1, 0, none⟩) 0 0) [] := by
  have := own_nil_litH (w.alloc o) (B := w.heap.size + 1) (by simp); simpa using this
theorem pickL_all (hi : Bool) (A B : List Int) : pickL hi A B A.length = bothL hi A B A.length := by
  unfold pickL bothL
  refine List.map_congr_left fun i h => ?_
  rw [if_pos (List.mem_range.1 h)]

end Go.Proofs.Ytknigcjpgkolgaa

namespace Go.Proofs.Ytknigcjpgkolgaa
open Go.RowKit
set_option linter.unusedVariables false
set_option maxRecDepth 100000
set_option linter.unusedSimpArgs false

theorem bothF_ok (hi : Bool) {W T : Int} {xs : List Bool} {A B : List Int} (h : 0 < (bothF hi W T xs A B).length) : hokB W T xs (bothF hi W T xs A B) = true ∧ hokB W T xs A = true ∧ hokB W T xs B = true ∧ bothF hi W T xs A B = bothL hi A B A.length := by
  unfold bothF at h ⊢
  cases hA : hokB W T xs A
  · rw [hA] at h; simp at h
  · cases hB : hokB W T xs B
    · rw [hA, hB] at h; simp at h
    · simp only [Bool.and_self, if_true]
      exact ⟨both_hok hi hA hB, trivial, trivial, trivial⟩
end Go.Proofs.Ytknigcjpgkolgaa
