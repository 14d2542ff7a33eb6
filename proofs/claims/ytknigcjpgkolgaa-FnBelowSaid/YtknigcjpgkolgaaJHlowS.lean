/- Contracts of impl.HeightsLow and impl.HeightsHigh. Merged of: HlowI, HlowS. -/
import Derived.Test.YtknigcjpgkolgaaJLatL
import Derived.Test.YtknigcjpgkolgaaJHokS
namespace Go.Proofs.Ytknigcjpgkolgaa
open Go.RowKit
set_option linter.unusedVariables false
set_option maxRecDepth 100000
set_option linter.unusedSimpArgs false

/-- The lesser, or the greater, of two heights; entry by entry. -/
def pickI (hi : Bool) (x y : Int) : Int := if hi then (if x < y then y else x) else (if y < x then y else x)
def bothL (hi : Bool) (A B : List Int) (k : Nat) : List Int := (List.range A.length).map fun i => if i < k then pickI hi (A.getD i 0) (B.getD i 0) else A.getD i 0
def bothF (hi : Bool) (W T : Int) (xs : List Bool) (A B : List Int) : List Int := if hokB W T xs A && hokB W T xs B then bothL hi A B A.length else []
theorem bothL_len (hi : Bool) (A B : List Int) (k : Nat) : (bothL hi A B k).length = A.length := by simp [bothL]
theorem bothF_len (hi : Bool) (W T : Int) (xs : List Bool) (A B : List Int) : (bothF hi W T xs A B).length ≤ A.length := by
  unfold bothF; split
  · rw [bothL_len]; exact Nat.le_refl _
  · simp
theorem bothL_zero (hi : Bool) (A B : List Int) : bothL hi A B 0 = A := by
  refine ext_getD (by simp [bothL]) fun k hk => ?_
  have hk' : k < A.length := by simpa [bothL] using hk
  simp [bothL, hk']
theorem bothL_get (hi : Bool) (A B : List Int) {k : Nat} (hk : k < A.length) : (bothL hi A B k).getD k 0 = A.getD k 0 := by simp [bothL, hk]
theorem bothL_step (hi : Bool) (A B : List Int) {k : Nat} (hk : k < A.length) : (bothL hi A B k).set k (pickI hi (A.getD k 0) (B.getD k 0)) = bothL hi A B (k + 1) := by
  refine ext_getD (by simp [bothL]) fun j hj => ?_
  have hj' : j < A.length := by simpa [bothL] using hj
  rw [getD_set1]
  by_cases e : j = k
  · subst e
    rw [if_pos ⟨rfl, by rw [bothL_len]; exact hk⟩]
    simp [bothL, hk]
  · rw [if_neg (fun h => e h.1)]
    have e2 : (j < k + 1) = (j < k) := by rw [eq_iff_iff]; omega
    simp [bothL, hj', e2]
set_option maxHeartbeats 4000000 in
theorem iHeightsLow_ret (W T : Int) (a : Option Addr) (n cap : Nat) (xs : List Bool) (la : Option Addr) (m lcap : Nat) (A : List Int) (lb : Option Addr) (q bcap : Nat) (B : List Int) (w : World) (hn : n = xs.length) (hn' : n ≤ 1048576) (hm : m = A.length) (hm' : m ≤ 1048576) (hq : q = B.length) (hq' : q ≤ 1048576) (ha : BoolsAt w a xs) (hl : IntsAt w la A) (hb : IntsAt w lb B) :
    Calls Try.prog 29 #[.agg #[.int .i64 W, .int .i64 T, .slice a n cap], .slice la m lcap, .slice lb q bcap] w (RetL w (bothF false W T xs A B).length (bothF false W T xs A B)) := by
  have HN := Lib.hid hn; clear hn
  have HM := Lib.hid hm; clear hm
  have HQ := Lib.hid hq; clear hq
  have HA := Lib.hid ha; clear ha
  have HL := Lib.hid hl; clear hl
  have HB := Lib.hid hb; clear hb
  cases h1 : hokB W T xs A
  · have e : bothF false W T xs A B = [] := by unfold bothF; rw [h1]; rfl
    rw [e]
    have H1 := Lib.hid h1; clear h1 e
    go_enter Try.func29, Try.ntmps29
    go_wp2_with fail
    refine (iHeightsOk_any _ _ _ _ _ xs _ _ _ A _ HN.out hn' HM.out hm' (HA.out.one _) (HL.out.one _)).mono ?_; rintro e w1 ⟨rfl, hb1⟩
    rw [H1.out]
    go_wp2
    go_ret
    exact ⟨none, 0, rfl, OwnsI.nil _ _, below_seq (below1 _ _) hb1⟩
  obtain ⟨wA, hwA⟩ : ∃ wA, wA = w.alloc (.cells #[.int .i64 W, .int .i64 T, .slice a n cap] 25) := ⟨_, rfl⟩
  have pA : wA.heap[w.heap.size]? = some (.cells #[.int .i64 W, .int .i64 T, .slice a n cap] 25 (0, 0)) := by rw [hwA]; exact heap_new _ _
  have bA : Below w.heap.size w wA := by rw [hwA]; exact below1 _ _
  obtain ⟨d0, d1, d2⟩ := cells3 pA
  cases h2 : hokB W T xs B
  · have e : bothF false W T xs A B = [] := by unfold bothF; rw [h1, h2]; rfl
    rw [e]
    have H1 := Lib.hid h1; have H2 := Lib.hid h2; clear h1 h2 e
    go_enter Try.func29, Try.ntmps29
    go_wp2_with fail
    rw [← hwA]; clear hwA
    refine (iHeightsOk_any _ _ _ _ _ xs _ _ _ A _ HN.out hn' HM.out hm' (HA.out.below bA) (HL.out.below bA)).mono ?_; rintro e w1 ⟨rfl, hb1⟩
    rw [H1.out]
    have b1 := below_seq bA hb1
    obtain ⟨c0, c1, c2⟩ := cells3 (heap_later pA hb1)
    go_wp2_with fail
    refine (iHeightsOk_any _ _ _ _ _ xs _ _ _ B _ HN.out hn' HQ.out hq' (HA.out.below b1) (HB.out.below b1)).mono ?_; rintro e w2 ⟨rfl, hb2⟩
    rw [H2.out]
    go_wp2
    go_ret
    exact ⟨none, 0, rfl, OwnsI.nil _ _, below_seq b1 hb2⟩
  obtain ⟨l1, hr⟩ := hokB_len h1
  obtain ⟨l2, _⟩ := hokB_len h2
  obtain ⟨v1, v2, v3, v4, _⟩ := rv_true hr
  have hcb := corn_bd v1 v2 v3 v4
  have hqm : q = m := by have a1 := HM.out; have a2 := HQ.out; omega
  subst hqm
  have hpos : 0 < q := by have a2 := HQ.out; omega
  have e : bothF false W T xs A B = bothL false A B q := by unfold bothF; rw [h1, h2, ← HM.out]; rfl
  rw [e]
  have HE : Hid ((bothL false A B q).length = q) := by show _ = _; rw [bothL_len, HM.out]
  have H1 := Lib.hid h1; have H2 := Lib.hid h2
  clear h1 h2 e l1 l2 hr hcb v1 v2 v3 v4
  go_enter Try.func29, Try.ntmps29
  go_wp2_with fail
  rw [← hwA]; clear hwA
  refine (iHeightsOk_any _ _ _ _ _ xs _ _ _ A _ HN.out hn' HM.out hm' (HA.out.below bA) (HL.out.below bA)).mono ?_; rintro e w1 ⟨rfl, hb1⟩
  rw [H1.out]
  have b1 := below_seq bA hb1
  obtain ⟨c0, c1, c2⟩ := cells3 (heap_later pA hb1)
  go_wp2_with fail
  refine (iHeightsOk_any _ _ _ _ _ xs _ _ _ B _ HN.out hn' HQ.out hq' (HA.out.below b1) (HB.out.below b1)).mono ?_; rintro e w2 ⟨rfl, hb2⟩
  rw [H2.out]
  have b2 := below_seq b1 hb2
  go_wp2_with fail
  refine (clone_own _ _ _ A _ HM.out hpos hm' (HL.out.below b2)).mono ?_; rintro e w3 ⟨g, gc, rfl, ho3, hb3⟩
  have b3 := Lib.hid (below_seq b2 hb3)
  have O3 := Lib.hid (ho3.lower b2.size)
  have hgl := O3.out.lt
  clear ho3 hb3 hb2 hb1 b1 b2 c0 c1 c2 d0 d1 d2
  go_wp2
  go_loopw [8, 9, 24] (fun _ _ i wr => ∃ k : Nat, k ≤ q ∧ i = .int .i64 k ∧ OwnsI wr w.heap.size (.slice (some ⟨g, 0, none⟩) q gc) (bothL false A B k) ∧ Below w.heap.size w wr) (fun _ _ i _ => q - (intOf i).toNat)
  case atStart => exact ⟨0, Nat.zero_le _, rfl, by rw [bothL_zero]; exact O3.out, b3.out⟩
  case round =>
    rename World => wo
    obtain ⟨k, hk, rfl, ho, hbel⟩ := hrel
    have HO := Lib.hid ho; clear ho
    have BEL := Lib.hid hbel; clear hbel
    by_cases hlt : k < q
    · have hkA : k < A.length := by rw [← HM.out]; exact hlt
      have hx := HO.out.cell (k := k) (by rw [bothL_len]; exact hkA)
      rw [bothL_get false A B hkA] at hx
      have hst := bothL_step false A B hkA
      obtain ⟨bb, bo, rfl, hy⟩ := (HB.out.below BEL.out) k (by rw [← HQ.out]; exact hlt)
      obtain ⟨x, hxx⟩ : ∃ x, x = A.getD k 0 := ⟨_, rfl⟩
      obtain ⟨y, hyy⟩ : ∃ y, y = B.getD k 0 := ⟨_, rfl⟩
      rw [← hxx] at hx hst; rw [← hyy] at hy hst
      clear hxx hyy
      have hf := HO.out.free k
      have s1 := OwnsI.set HO.out k (pickI false x y)
      rw [hst] at s1
      have HS1 := Lib.hid s1; clear s1 hst hkA
      have e1 : (k : Int) < q := by omega
      by_cases hxy : y < x
      all_goals
        have hp : pickI false x y = (if y < x then y else x) := rfl
        first
          | (rw [if_pos hxy] at hp; rw [hp] at HS1; clear hp)
          | (rw [if_neg hxy] at hp; rw [hp] at HS1; clear hp)
        go_wp2
        go_roundw
        case rel => exact ⟨k + 1, by omega, by go_num, HS1.out.1, below_grown BEL.out HS1.out.2 (Nat.le_refl _) (fun k e => by cases e; exact hgl.1)⟩
        case measure => simp [intOf]; omega
    · obtain rfl : k = q := by omega
      go_wp2
      go_ret
      exact ⟨some ⟨g, 0, none⟩, gc, by rw [HE.out]; rfl, by rw [HE.out]; exact HO.out, BEL.out⟩

end Go.Proofs.Ytknigcjpgkolgaa

namespace Go.Proofs.Ytknigcjpgkolgaa
open Go.RowKit
set_option linter.unusedVariables false
set_option maxRecDepth 100000
set_option linter.unusedSimpArgs false

/-- The first entries of both lists' lesser, or greater, ones. -/
def pickL (hi : Bool) (A B : List Int) (k : Nat) : List Int := (List.range k).map fun i => pickI hi (A.getD i 0) (B.getD i 0)
theorem pickL_len (hi : Bool) (A B : List Int) (k : Nat) : (pickL hi A B k).length = k := by simp [pickL]
theorem pickL_snoc (hi : Bool) (A B : List Int) (k : Nat) : pickL hi A B (k + 1) = pickL hi A B k ++ [pickI hi (A.getD k 0) (B.getD k 0)] := by simp [pickL, List.range_succ]
theorem own_nil_litH (w : World) {B : Nat} (hB : B ≤ w.heap.size) : OwnsI (w.alloc (.cells #[] 3 (0, 0))) B (.slice (some ⟨w.heap.size, 0, none⟩) 0 0) [] :=
  World.ownsRow_made w #[] 0 hB (Nat.zero_le _) rfl
theorem nil_boxed (w : World) (o : Obj) : OwnsI ((w.alloc o).alloc (.cells #[] 3)) (w.heap.size + 1) (.slice (some ⟨w.heap.size + 1, 0, none⟩) 0 0) [] := by
  have := own_nil_litH (w.alloc o) (B := w.heap.size + 1) (by simp); simpa using this
theorem pickL_all (hi : Bool) (A B : List Int) : pickL hi A B A.length = bothL hi A B A.length := by
  unfold pickL bothL
  refine List.map_congr_left fun i h => ?_
  rw [if_pos (List.mem_range.1 h)]

set_option maxHeartbeats 8000000 in
theorem sHeightsLow_ret (W T : Int) (a : Option Addr) (n cap : Nat) (xs : List Bool) (la0 : Option Addr) (m lcap : Nat) (A : List Int) (lb0 : Option Addr) (q bcap : Nat) (B : List Int) (w : World) (hn : n = xs.length) (hn' : n ≤ 1048576) (hm : m = A.length) (hm' : m ≤ 1048576) (hq : q = B.length) (hq' : q ≤ 1048576) (ha : BoolsAt w a xs) (hl : IntsAt w la0 A) (hb : IntsAt w lb0 B) :
    Calls Try.prog 30 #[.agg #[.int .i64 W, .int .i64 T, .slice a n cap], .slice la0 m lcap, .slice lb0 q bcap] w (RetL w (bothF false W T xs A B).length (bothF false W T xs A B)) := by
  obtain ⟨i0, hii, hz0, hz1, hz2⟩ := info_parts infoInt
  have HN := Lib.hid hn; clear hn
  have HM := Lib.hid hm; clear hm
  have HQ := Lib.hid hq; clear hq
  have HA := Lib.hid ha; clear ha
  have HL := Lib.hid hl; clear hl
  have HB := Lib.hid hb; clear hb
  by_cases hm0 : m = 0
  · have e : bothF false W T xs A B = [] := by
      have : A = [] := List.eq_nil_of_length_eq_zero (by rw [← HM.out]; exact hm0)
      subst this
      unfold bothF; split <;> rfl
    rw [e]; clear e
    subst hm0
    go_enter Try.func30, Try.ntmps30
    go_wp2
    go_loopw [7, 8] (fun o i wr => i = .int .i64 0 ∧ OwnsI wr (w.heap.size + 1) o [] ∧ Below w.heap.size w wr) (fun _ _ _ => 0)
    case atStart => exact ⟨rfl, nil_boxed w _, below_seq (below1 w (.cells #[.int .i64 W, .int .i64 T, .slice a n cap] 25)) (below1 _ _)⟩
    case round =>
      rename World => wo
      obtain ⟨rfl, ho, hbel⟩ := hrel
      obtain ⟨aR, capR, hv⟩ := OwnsI.form2 ho
      subst hv
      have HO := Lib.hid ho; clear ho
      go_wp2
      go_ret
      exact ⟨aR, capR, rfl, HO.out.lower (by omega), hbel⟩
  have hpos : 0 < m := by omega
  have hpos' : (0 : Int) < m := by omega
  cases h1 : hokB W T xs A
  · have e : bothF false W T xs A B = [] := by unfold bothF; rw [h1]; rfl
    rw [e]
    have H1 := Lib.hid h1; clear h1 e
    go_enter Try.func30, Try.ntmps30
    go_wp2
    go_loopw [7, 8] (fun o i wr => i = .int .i64 0 ∧ OwnsI wr (w.heap.size + 1) o [] ∧ wr.heap[w.heap.size]? = some (.cells #[.int .i64 W, .int .i64 T, .slice a n cap] 25 (0, 0)) ∧ Below w.heap.size w wr) (fun _ _ _ => 0)
    case atStart => exact ⟨rfl, nil_boxed w _, heap_later (heap_new w _) (below1 _ _), below_seq (below1 w (.cells #[.int .i64 W, .int .i64 T, .slice a n cap] 25)) (below1 _ _)⟩
    case round =>
      rename World => wo
      obtain ⟨rfl, ho, pr, bo⟩ := hrel
      obtain ⟨aR, capR, hv⟩ := OwnsI.form2 ho
      subst hv
      have HO := Lib.hid ho; clear ho
      obtain ⟨c0, c1, c2⟩ := cells3 pr
      go_wp2_with fail
      refine (sHeightsOk_any _ _ _ _ _ xs _ _ _ A _ HN.out hn' HM.out hm' (HA.out.below bo) (HL.out.below bo)).mono ?_; rintro e w1 ⟨rfl, hb1⟩
      rw [H1.out]
      go_wp2
      go_ret
      exact ⟨aR, capR, rfl, (HO.out.below hb1).lower (by omega), below_seq bo hb1⟩
  cases h2 : hokB W T xs B
  · have e : bothF false W T xs A B = [] := by unfold bothF; rw [h1, h2]; rfl
    rw [e]
    have H1 := Lib.hid h1; have H2 := Lib.hid h2; clear h1 h2 e
    go_enter Try.func30, Try.ntmps30
    go_wp2
    go_loopw [7, 8] (fun o i wr => i = .int .i64 0 ∧ OwnsI wr (w.heap.size + 1) o [] ∧ wr.heap[w.heap.size]? = some (.cells #[.int .i64 W, .int .i64 T, .slice a n cap] 25 (0, 0)) ∧ Below w.heap.size w wr) (fun _ _ _ => 0)
    case atStart => exact ⟨rfl, nil_boxed w _, heap_later (heap_new w _) (below1 _ _), below_seq (below1 w (.cells #[.int .i64 W, .int .i64 T, .slice a n cap] 25)) (below1 _ _)⟩
    case round =>
      rename World => wo
      obtain ⟨rfl, ho, pr, bo⟩ := hrel
      obtain ⟨aR, capR, hv⟩ := OwnsI.form2 ho
      subst hv
      have HO := Lib.hid ho; clear ho
      obtain ⟨c0, c1, c2⟩ := cells3 pr
      go_wp2_with fail
      refine (sHeightsOk_any _ _ _ _ _ xs _ _ _ A _ HN.out hn' HM.out hm' (HA.out.below bo) (HL.out.below bo)).mono ?_; rintro e w1 ⟨rfl, hb1⟩
      rw [H1.out]
      have b1 := below_seq bo hb1
      obtain ⟨d0, d1, d2⟩ := cells3 (heap_later pr hb1)
      go_wp2_with fail
      refine (sHeightsOk_any _ _ _ _ _ xs _ _ _ B _ HN.out hn' HQ.out hq' (HA.out.below b1) (HB.out.below b1)).mono ?_; rintro e w2 ⟨rfl, hb2⟩
      rw [H2.out]
      go_wp2
      go_ret
      exact ⟨aR, capR, rfl, ((HO.out.below hb1).below hb2).lower (by omega), below_seq b1 hb2⟩
  obtain ⟨l1, hr⟩ := hokB_len h1
  obtain ⟨l2, _⟩ := hokB_len h2
  have hqm : q = m := by have a1 := HM.out; have a2 := HQ.out; omega
  subst hqm
  have e : bothF false W T xs A B = pickL false A B q := by unfold bothF; rw [h1, h2, HM.out, pickL_all]; rfl
  rw [e]
  have HE : Hid ((pickL false A B q).length = q) := pickL_len _ _ _ _
  have H1 := Lib.hid h1; have H2 := Lib.hid h2
  clear h1 h2 e l1 l2 hr hm0
  go_enter Try.func30, Try.ntmps30
  go_wp2
  go_loopw [7, 8] (fun o i wr => ∃ k : Nat, k ≤ q ∧ i = .int .i64 k ∧ OwnsI wr (w.heap.size + 1) o (pickL false A B k) ∧ wr.heap[w.heap.size]? = some (.cells #[.int .i64 W, .int .i64 T, .slice a n cap] 25 (0, 0)) ∧ Below w.heap.size w wr) (fun _ i _ => q - (intOf i).toNat)
  case atStart => exact ⟨0, Nat.zero_le _, rfl, nil_boxed w _, heap_later (heap_new w _) (below1 _ _), below_seq (below1 w (.cells #[.int .i64 W, .int .i64 T, .slice a n cap] 25)) (below1 _ _)⟩
  case round =>
    rename World => wo
    obtain ⟨k, hk, rfl, ho, pr, bo⟩ := hrel
    obtain ⟨aR, capR, hv⟩ := OwnsI.form2 ho
    rw [pickL_len] at hv
    subst hv
    have HO := Lib.hid ho; clear ho
    by_cases hlt : k < q
    · have e1 : (k : Int) < q := by omega
      obtain ⟨c0, c1, c2⟩ := cells3 pr
      go_wp2_with fail
      refine (sHeightsOk_any _ _ _ _ _ xs _ _ _ A _ HN.out hn' HM.out hm' (HA.out.below bo) (HL.out.below bo)).mono ?_; rintro e w1 ⟨rfl, hb1⟩
      rw [H1.out]
      have b1 := below_seq bo hb1
      have p1 := heap_later pr hb1
      obtain ⟨d0, d1, d2⟩ := cells3 p1
      go_wp2_with fail
      refine (sHeightsOk_any _ _ _ _ _ xs _ _ _ B _ HN.out hn' HQ.out hq' (HA.out.below b1) (HB.out.below b1)).mono ?_; rintro e wr2 ⟨rfl, hb2⟩
      rw [H2.out]
      have BEL := Lib.hid (below_seq b1 hb2)
      have HO2 := Lib.hid ((HO.out.below hb1).below hb2)
      have pr2 := heap_later p1 hb2
      clear c0 c1 c2 d0 d1 d2 HO pr p1 b1 bo hb1 hb2
      have HO := HO2; clear HO2
      have pr := pr2; clear pr2
      obtain ⟨la, lo, rfl, hx0⟩ := HL.out k (by rw [← HM.out]; exact hlt)
      obtain ⟨lb, lp, rfl, hy0⟩ := HB.out k (by rw [← HQ.out]; exact hlt)
      have hla := World.block_lt_of_cell? w _ hx0
      have hlb := World.block_lt_of_cell? w _ hy0
      simp only at hla hlb
      have hsn := pickL_snoc false A B k
      obtain ⟨x, hxx⟩ : ∃ x, x = A.getD k 0 := ⟨_, rfl⟩
      obtain ⟨y, hyy⟩ : ∃ y, y = B.getD k 0 := ⟨_, rfl⟩
      rw [← hxx] at hx0 hsn; rw [← hyy] at hy0 hsn
      clear hxx hyy
      have hx := (BEL.out.cell (p := ⟨la, lo + k, none⟩) hla).trans hx0
      have hy := (BEL.out.cell (p := ⟨lb, lp + k, none⟩) hlb).trans hy0
      have lw := heap_lt pr
      by_cases hxy : y < x
      · have hpp : pickI false x y = y := if_pos hxy
        rw [hpp] at hsn
        have HXY := Lib.hid hsn; clear hsn hpp
        go_wp2_with fail
        have HSD := Lib.hid (show (fun w' : World => w'.cell? ⟨la, lo + k, none⟩ = some (.int .i64 x) ∧ w'.cell? ⟨lb, lp + k, none⟩ = some (.int .i64 y)) wr2.drew from ⟨hx, hy⟩)
        refine wp_region_till (fun w' : World => w'.cell? ⟨la, lo + k, none⟩ = some (.int .i64 x) ∧ w'.cell? ⟨lb, lp + k, none⟩ = some (.int .i64 y)) 12 (by kernel_rfl) ?_
        refine Till.take (i := 0) (v := ?_) rfl (by kernel_rfl) (by kernel_rfl) (by kernel_rfl) (by kernel_rfl) (fun _ _ _ h => h) (Or.inl ⟨by kernel_rfl, ?_⟩) HSD.out ?_
        rotate_left
        · intro ws hsw
          obtain ⟨s1, s2⟩ := hsw
          go_simp
          try with_reducible rfl
        try simp only [Act.put, List.setIfInBounds_toArray, List.set_cons_zero, List.set_cons_succ]
        refine Till.take (i := 1) (v := ?_) rfl (by kernel_rfl) (by kernel_rfl) (by kernel_rfl) (by kernel_rfl) (fun _ _ _ h => h) (Or.inl ⟨by kernel_rfl, ?_⟩) HSD.out ?_
        rotate_left
        · intro ws hsw
          obtain ⟨s1, s2⟩ := hsw
          go_simp
          try with_reducible rfl
        try simp only [Act.put, List.setIfInBounds_toArray, List.set_cons_zero, List.set_cons_succ]
        refine Till.take (i := 2) (v := ?_) rfl (by kernel_rfl) (by kernel_rfl) (by kernel_rfl) (by kernel_rfl) (fun _ _ _ h => h) (Or.inl ⟨by kernel_rfl, ?_⟩) HSD.out ?_
        rotate_left
        · intro ws hsw
          obtain ⟨s1, s2⟩ := hsw
          go_simp
          try with_reducible rfl
        try simp only [Act.put, List.setIfInBounds_toArray, List.set_cons_zero, List.set_cons_succ]
        refine Till.take (i := 3) (v := ?_) rfl (by kernel_rfl) (by kernel_rfl) (by kernel_rfl) (by kernel_rfl) (fun _ _ _ h => h) (Or.inl ⟨by kernel_rfl, ?_⟩) HSD.out ?_
        rotate_left
        · intro ws hsw
          obtain ⟨s1, s2⟩ := hsw
          go_simp
          try with_reducible rfl
        try simp only [Act.put, List.setIfInBounds_toArray, List.set_cons_zero, List.set_cons_succ]
        refine Till.take (i := 4) (v := ?_) rfl (by kernel_rfl) (by kernel_rfl) (by kernel_rfl) (by kernel_rfl) (fun _ _ _ h => h) (Or.inl ⟨by kernel_rfl, ?_⟩) HSD.out ?_
        rotate_left
        · intro ws hsw
          obtain ⟨s1, s2⟩ := hsw
          go_simp
          try with_reducible rfl
        try simp only [Act.put, List.setIfInBounds_toArray, List.set_cons_zero, List.set_cons_succ]
        refine Till.take (i := 5) (v := ?_) rfl (by kernel_rfl) (by kernel_rfl) (by kernel_rfl) (by kernel_rfl) (fun _ _ _ h => h) (Or.inl ⟨by kernel_rfl, ?_⟩) HSD.out ?_
        rotate_left
        · intro ws hsw
          obtain ⟨s1, s2⟩ := hsw
          go_simp
          try with_reducible rfl
        try simp only [Act.put, List.setIfInBounds_toArray, List.set_cons_zero, List.set_cons_succ]
        refine Till.take (i := 6) (v := ?_) rfl (by kernel_rfl) (by kernel_rfl) (by kernel_rfl) (by kernel_rfl) (fun _ _ _ h => h) (Or.inl ⟨by kernel_rfl, ?_⟩) HSD.out ?_
        rotate_left
        · intro ws hsw
          obtain ⟨s1, s2⟩ := hsw
          go_simp
          try with_reducible rfl
        try simp only [Act.put, List.setIfInBounds_toArray, List.set_cons_zero, List.set_cons_succ]
        refine Till.take (i := 7) (v := ?_) rfl (by kernel_rfl) (by kernel_rfl) (by kernel_rfl) (by kernel_rfl) (fun _ _ _ h => h) (Or.inl ⟨by kernel_rfl, ?_⟩) HSD.out ?_
        rotate_left
        · intro ws hsw
          obtain ⟨s1, s2⟩ := hsw
          go_simp
          try with_reducible rfl
        try simp only [Act.put, List.setIfInBounds_toArray, List.set_cons_zero, List.set_cons_succ]
        refine Till.take (i := 8) (v := ?_) rfl (by kernel_rfl) (by kernel_rfl) (by kernel_rfl) (by kernel_rfl) (fun _ _ _ h => h) (Or.inl ⟨by kernel_rfl, ?_⟩) HSD.out ?_
        rotate_left
        · intro ws hsw
          obtain ⟨s1, s2⟩ := hsw
          go_simp
          try with_reducible rfl
        try simp only [Act.put, List.setIfInBounds_toArray, List.set_cons_zero, List.set_cons_succ]
        refine Till.take (i := 9) (v := ?_) rfl (by kernel_rfl) (by kernel_rfl) (by kernel_rfl) (by kernel_rfl) (fun _ _ _ h => h) (Or.inl ⟨by kernel_rfl, ?_⟩) HSD.out ?_
        rotate_left
        · intro ws hsw
          obtain ⟨s1, s2⟩ := hsw
          go_simp
          try with_reducible rfl
        try simp only [Act.put, List.setIfInBounds_toArray, List.set_cons_zero, List.set_cons_succ]
        have WN := Lib.hid (show Below wr2.heap.size wr2 (World.drew (wr2.alloc (.cells #[.int .i64 y] 3))) from below_seq (below1 _ _) (drew_below _))
        refine Till.one (i := 10) (by kernel_rfl) rfl (by rfl) (fun K hK => ?_)
        go_simp
        -- pos
        refine hK.out _ _ (fun _ => ⟨cell_later WN.out hx, cell_later WN.out hy⟩) ?_
        clear hK K
        refine Till.one (i := 11) (by kernel_rfl) rfl (by rfl) (fun K hK => ?_)
        refine step_append_lies _ rfl _ _ 26 rfl (w.heap.size + 1) 3 i0 (.int .i64 0) 1 8 Try.underlying26 hii hz0 hz1 hz2 rfl (by decide) (.slice aR k capR) k ((pickL false A B k).map (Value.int .i64)) rfl (show World.ownsRow (World.drew (wr2.alloc _)) _ _ _ _ _ _ from (HO.out.alloc _).row (pickL_len _ _ _ _)) ⟨wr2.heap.size, 0, none⟩ 1 1 [.int .i64 y] rfl rfl (new_int wr2 _) (one_int _) (by omega) (by unfold maxLen; omega) (by omega) (by simp; omega) (wr2.heap.size + 1) (by simp) ?_
        intro g' c' w5 hown' hgrow _ _
        have p5 := heap_grown (heap_later pr WN.out) hgrow (HO.out.ownBlock (by omega))
        have B5 := Lib.hid (below_grown (below_seq BEL.out WN.out) hgrow (Nat.le_refl _) (HO.out.ownAt (by omega)))
        have O5 := Lib.hid (OwnsI.ofRow (xs := pickL false A B (k + 1)) hown' (by rw [HXY.out]; simp) (pickL_len _ _ _ _))
        have hb5 : Below w.heap.size w w5 := B5.out
        have hx5 : w5.cell? ⟨la, lo + k, none⟩ = some (.int .i64 x) := (hb5.cell (p := ⟨la, lo + k, none⟩) hla).trans hx0
        have hy5 : w5.cell? ⟨lb, lp + k, none⟩ = some (.int .i64 y) := (hb5.cell (p := ⟨lb, lp + k, none⟩) hlb).trans hy0
        clear hb5 hown' hgrow
        refine hK.out _ _ (fun _ => ⟨hx5, hy5⟩) ?_
        clear hK K
        refine Till.one (i := 12) (by kernel_rfl) rfl (by rfl) (fun K hK => ?_)
        go_simp
        refine hK.out _ _ (fun h => absurd rfl h) ?_
        clear hK K
        refine Till.done (by kernel_rfl) ?_ _
        go_wp2
        go_roundw
        case rel => exact ⟨k + 1, by omega, by go_num, O5.out, p5, B5.out⟩
        case measure => simp [intOf]; omega
      · have hpp : pickI false x y = x := if_neg hxy
        rw [hpp] at hsn
        have HXY := Lib.hid hsn; clear hsn hpp
        go_wp2_with fail
        have HSD := Lib.hid (show (fun w' : World => w'.cell? ⟨la, lo + k, none⟩ = some (.int .i64 x) ∧ w'.cell? ⟨lb, lp + k, none⟩ = some (.int .i64 y)) wr2.drew from ⟨hx, hy⟩)
        refine wp_region_till (fun w' : World => w'.cell? ⟨la, lo + k, none⟩ = some (.int .i64 x) ∧ w'.cell? ⟨lb, lp + k, none⟩ = some (.int .i64 y)) 12 (by kernel_rfl) ?_
        refine Till.take (i := 0) (v := ?_) rfl (by kernel_rfl) (by kernel_rfl) (by kernel_rfl) (by kernel_rfl) (fun _ _ _ h => h) (Or.inl ⟨by kernel_rfl, ?_⟩) HSD.out ?_
        rotate_left
        · intro ws hsw
          obtain ⟨s1, s2⟩ := hsw
          go_simp
          try with_reducible rfl
        try simp only [Act.put, List.setIfInBounds_toArray, List.set_cons_zero, List.set_cons_succ]
        refine Till.take (i := 1) (v := ?_) rfl (by kernel_rfl) (by kernel_rfl) (by kernel_rfl) (by kernel_rfl) (fun _ _ _ h => h) (Or.inl ⟨by kernel_rfl, ?_⟩) HSD.out ?_
        rotate_left
        · intro ws hsw
          obtain ⟨s1, s2⟩ := hsw
          go_simp
          try with_reducible rfl
        try simp only [Act.put, List.setIfInBounds_toArray, List.set_cons_zero, List.set_cons_succ]
        refine Till.take (i := 2) (v := ?_) rfl (by kernel_rfl) (by kernel_rfl) (by kernel_rfl) (by kernel_rfl) (fun _ _ _ h => h) (Or.inl ⟨by kernel_rfl, ?_⟩) HSD.out ?_
        rotate_left
        · intro ws hsw
          obtain ⟨s1, s2⟩ := hsw
          go_simp
          try with_reducible rfl
        try simp only [Act.put, List.setIfInBounds_toArray, List.set_cons_zero, List.set_cons_succ]
        refine Till.take (i := 3) (v := ?_) rfl (by kernel_rfl) (by kernel_rfl) (by kernel_rfl) (by kernel_rfl) (fun _ _ _ h => h) (Or.inl ⟨by kernel_rfl, ?_⟩) HSD.out ?_
        rotate_left
        · intro ws hsw
          obtain ⟨s1, s2⟩ := hsw
          go_simp
          try with_reducible rfl
        try simp only [Act.put, List.setIfInBounds_toArray, List.set_cons_zero, List.set_cons_succ]
        refine Till.take (i := 4) (v := ?_) rfl (by kernel_rfl) (by kernel_rfl) (by kernel_rfl) (by kernel_rfl) (fun _ _ _ h => h) (Or.inl ⟨by kernel_rfl, ?_⟩) HSD.out ?_
        rotate_left
        · intro ws hsw
          obtain ⟨s1, s2⟩ := hsw
          go_simp
          try with_reducible rfl
        try simp only [Act.put, List.setIfInBounds_toArray, List.set_cons_zero, List.set_cons_succ]
        refine Till.take (i := 5) (v := ?_) rfl (by kernel_rfl) (by kernel_rfl) (by kernel_rfl) (by kernel_rfl) (fun _ _ _ h => h) (Or.inl ⟨by kernel_rfl, ?_⟩) HSD.out ?_
        rotate_left
        · intro ws hsw
          obtain ⟨s1, s2⟩ := hsw
          go_simp
          try with_reducible rfl
        try simp only [Act.put, List.setIfInBounds_toArray, List.set_cons_zero, List.set_cons_succ]
        refine Till.take (i := 6) (v := ?_) rfl (by kernel_rfl) (by kernel_rfl) (by kernel_rfl) (by kernel_rfl) (fun _ _ _ h => h) (Or.inl ⟨by kernel_rfl, ?_⟩) HSD.out ?_
        rotate_left
        · intro ws hsw
          obtain ⟨s1, s2⟩ := hsw
          go_simp
          try with_reducible rfl
        try simp only [Act.put, List.setIfInBounds_toArray, List.set_cons_zero, List.set_cons_succ]
        refine Till.take (i := 7) (v := ?_) rfl (by kernel_rfl) (by kernel_rfl) (by kernel_rfl) (by kernel_rfl) (fun _ _ _ h => h) (Or.inl ⟨by kernel_rfl, ?_⟩) HSD.out ?_
        rotate_left
        · intro ws hsw
          obtain ⟨s1, s2⟩ := hsw
          go_simp
          try with_reducible rfl
        try simp only [Act.put, List.setIfInBounds_toArray, List.set_cons_zero, List.set_cons_succ]
        refine Till.take (i := 8) (v := ?_) rfl (by kernel_rfl) (by kernel_rfl) (by kernel_rfl) (by kernel_rfl) (fun _ _ _ h => h) (Or.inl ⟨by kernel_rfl, ?_⟩) HSD.out ?_
        rotate_left
        · intro ws hsw
          obtain ⟨s1, s2⟩ := hsw
          go_simp
          try with_reducible rfl
        try simp only [Act.put, List.setIfInBounds_toArray, List.set_cons_zero, List.set_cons_succ]
        refine Till.take (i := 9) (v := ?_) rfl (by kernel_rfl) (by kernel_rfl) (by kernel_rfl) (by kernel_rfl) (fun _ _ _ h => h) (Or.inl ⟨by kernel_rfl, ?_⟩) HSD.out ?_
        rotate_left
        · intro ws hsw
          obtain ⟨s1, s2⟩ := hsw
          go_simp
          try with_reducible rfl
        try simp only [Act.put, List.setIfInBounds_toArray, List.set_cons_zero, List.set_cons_succ]
        have WN := Lib.hid (show Below wr2.heap.size wr2 (World.drew (wr2.alloc (.cells #[.int .i64 x] 3))) from below_seq (below1 _ _) (drew_below _))
        refine Till.one (i := 10) (by kernel_rfl) rfl (by rfl) (fun K hK => ?_)
        go_simp
        rw [if_neg (show ¬ y < x by omega)]
        refine hK.out _ _ (fun _ => ⟨cell_later WN.out hx, cell_later WN.out hy⟩) ?_
        clear hK K
        refine Till.one (i := 11) (by kernel_rfl) rfl (by rfl) (fun K hK => ?_)
        refine step_append_lies _ rfl _ _ 26 rfl (w.heap.size + 1) 3 i0 (.int .i64 0) 1 8 Try.underlying26 hii hz0 hz1 hz2 rfl (by decide) (.slice aR k capR) k ((pickL false A B k).map (Value.int .i64)) rfl (show World.ownsRow (World.drew (wr2.alloc _)) _ _ _ _ _ _ from (HO.out.alloc _).row (pickL_len _ _ _ _)) ⟨wr2.heap.size, 0, none⟩ 1 1 [.int .i64 x] rfl rfl (new_int wr2 _) (one_int _) (by omega) (by unfold maxLen; omega) (by omega) (by simp; omega) (wr2.heap.size + 1) (by simp) ?_
        intro g' c' w5 hown' hgrow _ _
        have p5 := heap_grown (heap_later pr WN.out) hgrow (HO.out.ownBlock (by omega))
        have B5 := Lib.hid (below_grown (below_seq BEL.out WN.out) hgrow (Nat.le_refl _) (HO.out.ownAt (by omega)))
        have O5 := Lib.hid (OwnsI.ofRow (xs := pickL false A B (k + 1)) hown' (by rw [HXY.out]; simp) (pickL_len _ _ _ _))
        have hb5 : Below w.heap.size w w5 := B5.out
        have hx5 : w5.cell? ⟨la, lo + k, none⟩ = some (.int .i64 x) := (hb5.cell (p := ⟨la, lo + k, none⟩) hla).trans hx0
        have hy5 : w5.cell? ⟨lb, lp + k, none⟩ = some (.int .i64 y) := (hb5.cell (p := ⟨lb, lp + k, none⟩) hlb).trans hy0
        clear hb5 hown' hgrow
        refine hK.out _ _ (fun _ => ⟨hx5, hy5⟩) ?_
        clear hK K
        refine Till.one (i := 12) (by kernel_rfl) rfl (by rfl) (fun K hK => ?_)
        go_simp
        refine hK.out _ _ (fun h => absurd rfl h) ?_
        clear hK K
        refine Till.done (by kernel_rfl) ?_ _
        go_wp2
        go_roundw
        case rel => exact ⟨k + 1, by omega, by go_num, O5.out, p5, B5.out⟩
        case measure => simp [intOf]; omega
    · obtain rfl : k = q := by omega
      obtain ⟨c0, c1, c2⟩ := cells3 pr
      go_wp2
      go_ret
      exact ⟨aR, capR, by rw [HE.out]; rfl, by rw [HE.out]; exact HO.out.lower (by omega), bo⟩

end Go.Proofs.Ytknigcjpgkolgaa
