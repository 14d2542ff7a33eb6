/- Plain facts: a flip moves the height of its corner by 4, and no other one. Merged of: RiseM, RiseI. Merged of: RiseI, FlipRise. -/
import Derived.Test.YtknigcjpgkolgaaJLaid20
import Derived.Test.YtknigcjpgkolgaaJFlipOne
import Derived.Maps.AppendAt
namespace Go.Proofs.Ytknigcjpgkolgaa
open Go.RowKit Go.Shelf
set_option linter.unusedVariables false
set_option maxRecDepth 100000
set_option linter.unusedSimpArgs false
attribute [local go_sem] Oper.semAt_some

/-- The corners around which a list may be flipped, of the first k ones. -/
def flipsK (W T : Int) (L : List Int) (k : Nat) : List Int := ((List.range k).filter fun j : Nat => mayB W T L (j : Int)).map fun j : Nat => (j : Int)
theorem flipsK_yes {W T : Int} {L : List Int} {k : Nat} (h : mayB W T L (k : Int) = true) : flipsK W T L (k + 1) = flipsK W T L k ++ [(k : Int)] := by
  unfold flipsK; rw [List.range_succ, List.filter_append, List.map_append]; simp [h]
theorem flipsK_no {W T : Int} {L : List Int} {k : Nat} (h : mayB W T L (k : Int) = false) : flipsK W T L (k + 1) = flipsK W T L k := by
  unfold flipsK; rw [List.range_succ, List.filter_append, List.map_append]; simp [h]
theorem flipsK_len (W T : Int) (L : List Int) (k : Nat) : (flipsK W T L k).length ≤ k := by
  unfold flipsK; rw [List.length_map]; exact Nat.le_trans (List.length_filter_le _ _) (by simp)
/-- All of them, in ascending order. -/
def flipsL (W T : Int) (L : List Int) : List Int := flipsK W T L ((W + 1) * (T + 1)).toNat

/-- What the iterator reads. -/
structure FlAt (w : World) (rb lx : Nat) (W T : Int) (a : Option Addr) (n c : Nat) (la : Option Addr) (lc : Nat) (L : List Int) : Prop where
  reg : w.heap[rb]? = some (.cells #[.int .i64 W, .int .i64 T, .slice a n c] 25 (0, 0))
  lst : w.heap[lx]? = some (.cells #[.slice la n lc] 26 (0, 0))
  ints : IntsAt w la L
theorem FlAt.below {w w' : World} {rb lx : Nat} {W T : Int} {a : Option Addr} {n c : Nat} {la : Option Addr} {lc : Nat} {L : List Int} (h : FlAt w rb lx W T a n c la lc L) (hb : Below w.heap.size w w') : FlAt w' rb lx W T a n c la lc L :=
  ⟨heap_later h.reg hb, heap_later h.lst hb, h.ints.below hb⟩
end Go.Proofs.Ytknigcjpgkolgaa

namespace Go.Proofs.Ytknigcjpgkolgaa
open Go.RowKit Go.Shelf
set_option linter.unusedVariables false
set_option maxRecDepth 100000
set_option linter.unusedSimpArgs false
attribute [local go_sem] Oper.semAt_some

theorem own_nil_litF (w : World) {B : Nat} (hB : B ≤ w.heap.size) : OwnsI (w.alloc (.cells #[] 3 (0, 0))) B (.slice (some ⟨w.heap.size, 0, none⟩) 0 0) [] :=
  World.ownsRow_made w #[] 0 hB (Nat.zero_le _) rfl
/-- All flips of a list. -/
def flipsF (W T : Int) (xs : List Bool) (L : List Int) : List Int := if lok W T xs L then flipsL W T L else []
theorem flipsL_len {W T : Int} (L : List Int) (h1 : 1 ≤ W) (h2 : W ≤ 6) (h3 : 1 ≤ T) (h4 : T ≤ 6) : (flipsL W T L).length ≤ 49 := by
  unfold flipsL
  have := flipsK_len W T L ((W + 1) * (T + 1)).toNat
  have := corn_bd h1 h2 h3 h4
  omega
theorem flipsF_len (W T : Int) (xs : List Bool) (L : List Int) : (flipsF W T xs L).length ≤ 49 := by
  unfold flipsF
  cases h : lok W T xs L
  · simp
  · obtain ⟨hr, _, _⟩ := lok_rv h
    obtain ⟨v1, v2, v3, v4, v5, _⟩ := rv_true hr
    exact flipsL_len L v1 v2 v3 v4

/-- What the loop has gathered behind k rounds. -/
def flipsG (W T : Int) (xs : List Bool) (L : List Int) (k : Nat) : List Int := if lok W T xs L then flipsK W T L k else []
theorem flipsG_yes {W T : Int} {xs : List Bool} {L : List Int} {k : Nat} (h : fmayB W T xs L (k : Int) = true) : flipsG W T xs L (k + 1) = flipsG W T xs L k ++ [(k : Int)] := by
  unfold fmayB at h
  rw [Bool.and_eq_true] at h
  unfold flipsG; rw [h.1, if_pos rfl, if_pos rfl]; exact flipsK_yes h.2
theorem flipsG_no {W T : Int} {xs : List Bool} {L : List Int} {k : Nat} (h : fmayB W T xs L (k : Int) = false) : flipsG W T xs L (k + 1) = flipsG W T xs L k := by
  unfold fmayB at h
  unfold flipsG
  cases hl : lok W T xs L
  · rfl
  · rw [hl] at h; rw [if_pos rfl, if_pos rfl]; exact flipsK_no (by simpa using h)
theorem flipsG_len (W T : Int) (xs : List Bool) (L : List Int) (k : Nat) : (flipsG W T xs L k).length ≤ k := by
  unfold flipsG; split
  · exact flipsK_len W T L k
  · simp
theorem flipsG_zero (W T : Int) (xs : List Bool) (L : List Int) : flipsG W T xs L 0 = [] := by unfold flipsG; split <;> rfl
theorem flipsG_end {W T : Int} {xs : List Bool} {L : List Int} {N : Nat} (h : cornN W T xs = N) : flipsG W T xs L N = flipsF W T xs L := by
  unfold flipsG flipsF flipsL
  cases hl : lok W T xs L
  · rfl
  · obtain ⟨hr, _, _⟩ := lok_rv hl
    unfold cornN at h
    rw [hr, if_pos rfl] at h
    rw [h]; simp
theorem flipsF_off {W T : Int} {xs : List Bool} {L : List Int} (h : rv W T xs = false) : flipsF W T xs L = [] := by
  unfold flipsF lok; rw [h]; rfl

set_option maxHeartbeats 4000000 in
theorem sFlipsOf_ret (W T : Int) (a : Option Addr) (n cap : Nat) (xs : List Bool) (la : Option Addr) (m lcap : Nat) (L : List Int) (w : World) (hn : n = xs.length) (hn' : n ≤ 1048576) (hm : m = L.length) (hm' : m ≤ 1048576) (ha : BoolsAt w a xs) (hl : IntsAt w la L) :
    Calls Try.prog 132 #[.agg #[.int .i64 W, .int .i64 T, .slice a n cap], .slice la m lcap] w (RetL w (flipsF W T xs L).length (flipsF W T xs L)) := by
  have HN := Lib.hid hn; clear hn
  have HM := Lib.hid hm; clear hm
  have HA := Lib.hid ha; clear ha
  have HL := Lib.hid hl; clear hl
  obtain ⟨wA, hwA⟩ : ∃ wA, wA = (w.alloc (.cells #[.int .i64 W, .int .i64 T, .slice a n cap] 25)).alloc (.cells #[] 3 (0, 0)) := ⟨_, rfl⟩
  have pA : wA.heap[w.heap.size]? = some (.cells #[.int .i64 W, .int .i64 T, .slice a n cap] 25 (0, 0)) := by rw [hwA]; exact heap_later (heap_new w _) (below1 _ _)
  have bA : Below w.heap.size w wA := by rw [hwA]; exact below2 _ _ _
  have oA : OwnsI wA (w.heap.size + 1) (.slice (some ⟨w.heap.size + 1, 0, none⟩) 0 0) [] := by
    rw [hwA]; have := own_nil_litF (w.alloc (.cells #[.int .i64 W, .int .i64 T, .slice a n cap] 25)) (B := w.heap.size + 1) (by simp); simpa using this
  have HOA := Lib.hid oA; clear oA
  cases h : rv W T xs
  · have HC : Hid (cornN W T xs = -1) := by show _ = _; unfold cornN; rw [h]; rfl
    have HE := Lib.hid (flipsF_off (L := L) h)
    clear h
    obtain ⟨c0, c1, c2⟩ := cells3 pA
    rw [HE.out]
    go_enter Try.func132, Try.ntmps132
    go_wp2_with fail
    rw [← hwA]
    clear hwA
    refine wp_loop_rounds 1 ?_
    rw [rounds_succ]
    go_wp2_with fail
    refine (sCornerMany_any _ _ _ _ _ xs _ HN.out hn' (HA.out.below bA)).mono ?_; rintro e w1 ⟨rfl, hb1⟩
    rw [HC.out]
    go_wp2
    go_ret
    exact ⟨some ⟨w.heap.size + 1, 0, none⟩, 0, rfl, (HOA.out.below hb1).lower (by omega), below_seq bA hb1⟩
  · obtain ⟨v1, v2, v3, v4, v5, _⟩ := rv_true h
    have hcb := corn_bd v1 v2 v3 v4
    have hC : cornN W T xs = (W + 1) * (T + 1) := by unfold cornN; rw [h, if_pos rfl]
    obtain ⟨N, hNN⟩ := Int.eq_ofNat_of_zero_le (show 0 ≤ (W + 1) * (T + 1) by omega)
    rw [hNN] at hcb hC
    have HEND := Lib.hid (flipsG_end (L := L) hC)
    have HC := Lib.hid hC
    have hN49 : N ≤ 49 := by omega
    clear hC hNN hcb h v5
    rw [← HEND.out]
    obtain ⟨i0, hi, hz0, hz1, hz2⟩ := info_parts infoInt
    go_enter Try.func132, Try.ntmps132
    go_wp2_with fail
    rw [← hwA]
    clear hwA
    go_loopw [5, 6] (fun v i wr => ∃ k : Nat, k ≤ N ∧ i = .int .i64 k ∧ OwnsI wr (w.heap.size + 1) v (flipsG W T xs L k) ∧ wr.heap[w.heap.size]? = some (.cells #[.int .i64 W, .int .i64 T, .slice a n cap] 25 (0, 0)) ∧ Below w.heap.size w wr) (fun _ i _ => N - (intOf i).toNat)
    case atStart => exact ⟨0, Nat.zero_le _, rfl, by rw [flipsG_zero]; exact HOA.out, pA, bA⟩
    case round =>
      rename World => wo
      obtain ⟨k, hk, rfl, ho, pr, hbel⟩ := hrel
      have HO := Lib.hid ho; clear ho
      have BEL := Lib.hid hbel; clear hbel
      obtain ⟨c0, c1, c2⟩ := cells3 pr
      have l1 := heap_lt pr
      go_wp2_with fail
      refine (sCornerMany_any _ _ _ _ _ xs _ HN.out hn' (HA.out.below BEL.out)).mono ?_; rintro e w1 ⟨rfl, hb1⟩
      rw [HC.out]
      have p1 := heap_later pr hb1
      have B1 := Lib.hid (below_seq BEL.out hb1)
      have O1 := Lib.hid (HO.out.below hb1)
      clear c0 c1 c2 hb1 pr l1
      by_cases hlt : k < N
      · have hfl := flipsG_len W T xs L k
        have e1 : (k : Int) < N := by omega
        obtain ⟨c0, c1, c2⟩ := cells3 p1
        have l1 := heap_lt p1
        go_wp2_with fail
        refine (sFlipMay_any _ _ _ _ _ xs _ _ _ L _ _ HN.out hn' HM.out hm' (HA.out.below B1.out) (HL.out.below B1.out)).mono ?_; rintro e w2 ⟨rfl, hb2⟩
        have p2 := heap_later p1 hb2
        have B2 := Lib.hid (below_seq B1.out hb2)
        have O2 := Lib.hid (O1.out.below hb2)
        clear c0 c1 c2 hb2 p1 l1
        obtain ⟨c0, c1, c2⟩ := cells3 p2
        have l2 := heap_lt p2
        cases hmay : fmayB W T xs L (k : Int)
        · have HNX := Lib.hid (flipsG_no hmay)
          clear hmay
          go_wp2
          go_roundw
          case rel => exact ⟨k + 1, by omega, by go_num, by rw [HNX.out]; exact O2.out, p2, B2.out⟩
          case measure => simp [intOf]; omega
        · have HNX := Lib.hid (flipsG_yes hmay)
          clear hmay
          go_wp2_with (at_builtin; refine wpList_append_own _ rfl _ _ 26 rfl (w.heap.size + 1) 3 i0 (.int .i64 0) 1 8 Try.underlying26 hi hz0 hz1 hz2 rfl (by decide) _ (flipsG W T xs L k).length ((flipsG W T xs L k).map (Value.int .i64)) rfl (World.ownsRow.alloc O2.out _) ⟨w2.heap.size, 0, none⟩ 1 1 [.int .i64 k] rfl rfl (new_int _ _) (one_int _) (by unfold maxLen; omega) (by omega) (by simp; omega) ?_; intro v' w8 hown' hgrow _; have p8 := heap_grown (heap_later p2 (below1 _ _)) hgrow (O2.out.ownBlock (by omega)); have O8 := Lib.hid (OwnsI.ofRow (xs := flipsG W T xs L (k + 1)) hown' (by rw [HNX.out]; simp) (by rw [HNX.out]; simp)); have B8 := Lib.hid (below_grown (below_seq B2.out (below1 _ _)) hgrow (Nat.le_refl _) (O2.out.ownAt (by omega))); clear hown' hgrow)
          go_roundw
          case rel => exact ⟨k + 1, by omega, by go_num, O8.out, p8, B8.out⟩
          case measure => simp [intOf]; omega
      · obtain rfl : k = N := by omega
        obtain ⟨a9, cap9, hv⟩ := O1.out.form2
        subst hv
        go_wp2
        go_ret
        exact ⟨a9, cap9, rfl, O1.out.lower (by omega), B1.out⟩

end Go.Proofs.Ytknigcjpgkolgaa

namespace Go.Proofs.Ytknigcjpgkolgaa
open Go.RowKit
set_option linter.unusedVariables false
set_option maxRecDepth 100000
set_option linter.unusedSimpArgs false

theorem flips_entry {W T : Int} {xs : List Bool} {L : List Int} {i : Nat} (hi : i < (flipsF W T xs L).length) : 0 ≤ (flipsF W T xs L).getD i 0 ∧ (flipsF W T xs L).getD i 0 ≤ 49 := by
  have hm : (flipsF W T xs L).getD i 0 ∈ flipsF W T xs L := by
    have e : (flipsF W T xs L).getD i 0 = (flipsF W T xs L)[i] := by simp [List.getD, hi]
    rw [e]; exact List.getElem_mem hi
  revert hm
  generalize (flipsF W T xs L).getD i 0 = v
  unfold flipsF
  cases h : lok W T xs L
  · intro hm; simp at hm
  · obtain ⟨hr, _, _⟩ := lok_rv h
    obtain ⟨v1, v2, v3, v4, _⟩ := rv_true hr
    have hcb := corn_bd v1 v2 v3 v4
    rw [if_pos rfl]
    unfold flipsL flipsK
    intro hm
    rw [List.mem_map] at hm
    obtain ⟨j, hj, rfl⟩ := hm
    rw [List.mem_filter, List.mem_range] at hj
    omega
theorem corn_cases (W T : Int) (xs : List Bool) : cornN W T xs = -1 ∨ (1 ≤ cornN W T xs ∧ cornN W T xs ≤ 49) := by
  unfold cornN
  cases h : rv W T xs
  · exact Or.inl rfl
  · obtain ⟨v1, v2, v3, v4, _⟩ := rv_true h
    have hcb := corn_bd v1 v2 v3 v4
    rw [if_pos rfl]; omega

set_option maxHeartbeats 4000000 in
theorem l20Corner_any (rb P B : Nat) (W T : Int) (a : Option Addr) (n cap : Nat) (xs : List Bool) (la : Option Addr) (m lcap : Nat) (L : List Int) (w : World) (hP : P ≤ 90000) (hn : n = xs.length) (hn' : n ≤ 1048576) (hm : m = L.length) (hm' : m ≤ 1048576) (hB : rb < B) (ho : OwnsB w B (.slice a n cap) xs) (hl : IntsAt w la L) (hr : RD w rb P) :
    Calls Try.prog 95 #[.pointer (some ⟨rb, 0, none⟩), .agg #[.int .i64 W, .int .i64 T, .slice a n cap], .slice la m lcap] w fun e w' => ∃ V : Int, e = .returned (.int .i64 V) ∧ (-1 ≤ V ∧ V ≤ 60) ∧ RD w' rb (P + 3) ∧ w.grownBy w' (some rb) := by
  have HN := Lib.hid hn; clear hn
  have HM := Lib.hid hm; clear hm
  have HO := Lib.hid ho; clear ho
  have HA := Lib.hid (OwnsB.at HO.out)
  have HL := Lib.hid hl; clear hl
  have hrb := hr.lt
  have p0 := heap_new w (.cells #[.int .i64 W, .int .i64 T, .slice a n cap] 25)
  have b0 := below1 w (.cells #[.int .i64 W, .int .i64 T, .slice a n cap] 25)
  have hfl := flipsF_len W T xs L
  have HFE := Lib.hid (fun i => flips_entry (W := W) (T := T) (xs := xs) (L := L) (i := i))
  have HSF := fun w' h h2 => sFlipsOf_ret W T a n cap xs la m lcap L w' HN.out hn' HM.out hm' h h2
  obtain ⟨F, hF⟩ : ∃ F, F = flipsF W T xs L := ⟨_, rfl⟩
  rw [← hF] at hfl HFE HSF
  obtain ⟨f, hf⟩ : ∃ f, f = F.length := ⟨_, rfl⟩
  rw [← hf] at hfl HSF HFE
  have HF := Lib.hid hf
  have HSFH := Lib.hid HSF
  clear hF hf HSF
  have hcc := corn_cases W T xs
  have HCM := fun w' h => sCornerMany_any W T a n cap xs w' HN.out hn' h
  obtain ⟨K, hK⟩ : ∃ K, K = cornN W T xs := ⟨_, rfl⟩
  rw [← hK] at hcc HCM
  have HCMH := Lib.hid HCM
  clear hK HCM
  go_enter Try.func95, Try.ntmps95
  go_wp2_with fail
  refine (HSFH.out _ (HA.out.below b0) (HL.out.below b0)).mono ?_; rintro e w1 ⟨a1, k1, rfl, o1, hb1⟩
  have b1 := below_seq b0 hb1
  have p1 := heap_later p0 hb1
  have r1 := hr.below b1
  have G1 := Lib.hid (grown_of_below b1 (some rb))
  have OB1 := Lib.hid (HO.out.below b1)
  have A1 := Lib.hid (OwnsB.at OB1.out)
  have O1 := Lib.hid o1
  clear b0 hb1 o1 p0 b1
  by_cases hf0 : f = 0
  · subst hf0
    clear HFE
    obtain ⟨c0, c1, c2⟩ := cells3 p1
    rcases hcc with hK | ⟨hK0, hK1⟩
    · have hmA : (if K < (0 : Int) then (0 : Int) else K) = 0 := if_pos (by omega)
      have hmB : (if (0 : Int) < K then K else (0 : Int)) = 0 := if_neg (by omega)
      have HK := Lib.hid hK
      subst hK
      go_wp2_with fail
      refine (HCMH.out _ A1.out).mono ?_; rintro e w8 ⟨rfl, hb8⟩
      have r8 := r1.below hb8
      have G8 := Lib.hid (grownBy_trans G1.out (grown_of_below hb8 (some rb)))
      clear hb8
      go_wp2_with fail
      refine (pick_any rb (P) 1 _ (by omega) (by omega) (by omega) r8).mono ?_; rintro e w9 ⟨u, hu, rfl, r9, g9⟩
      go_wp2_with fail
      refine (pick_any rb (P + 1) 20 _ (by omega) (by omega) (by omega) r9).mono ?_; rintro e w10 ⟨v, hv, rfl, r10, g10⟩
      have G10 := Lib.hid (grownBy_trans (grownBy_trans G8.out g9) g10)
      clear g9 g10
      go_wp2
      go_ret
      exact ⟨_, rfl, by omega, r10.mono (by omega), G10.out⟩
    · obtain ⟨kn, rfl⟩ := Int.eq_ofNat_of_zero_le (show 0 ≤ K by omega)
      have hmA : (if (kn : Int) < (0 : Int) then (0 : Int) else (kn : Int)) = kn := if_neg (by omega)
      have hmB : (if (0 : Int) < (kn : Int) then (kn : Int) else (0 : Int)) = kn := if_pos (by omega)
      go_wp2_with fail
      refine (HCMH.out _ A1.out).mono ?_; rintro e w8 ⟨rfl, hb8⟩
      have r8 := r1.below hb8
      have G8 := Lib.hid (grownBy_trans G1.out (grown_of_below hb8 (some rb)))
      clear hb8
      go_wp2_with fail
      refine (pick_i rb (P) ((kn : Int) + 1) _ (by omega) (by omega) (by omega) r8).mono ?_; rintro e w9 ⟨u, hu, rfl, r9, g9⟩
      go_wp2_with fail
      refine (pick_any rb (P + 1) 20 _ (by omega) (by omega) (by omega) r9).mono ?_; rintro e w10 ⟨v, hv, rfl, r10, g10⟩
      have G10 := Lib.hid (grownBy_trans (grownBy_trans G8.out g9) g10)
      clear g9 g10
      go_wp2
      go_ret
      exact ⟨_, rfl, by omega, r10.mono (by omega), G10.out⟩
  · have hf1 : 0 < f := by omega
    have hf2 : (0 : Int) < f := by omega
    go_wp2_with fail
    refine (pick_any rb P 3 _ (by omega) (by omega) (by omega) r1).mono ?_; rintro e w2 ⟨x, hx, rfl, r2, g2⟩
    have p2 := heap_grown p1 g2 (by simp; omega)
    have G2 := Lib.hid (grownBy_trans G1.out g2)
    have A2 := Lib.hid (OwnsB.at (OwnsB.keptBy OB1.out g2 (fun k e => by cases e; omega)))
    have O2 := Lib.hid (OwnsI.keptBy O1.out g2 (fun k e => by cases e; simp; omega))
    clear G1 A1 O1 r1 g2 p1
    by_cases hx0 : x = 0
    · subst hx0
      obtain ⟨c0, c1, c2⟩ := cells3 p2
      rcases hcc with hK | ⟨hK0, hK1⟩
      · have hmA : (if K < (0 : Int) then (0 : Int) else K) = 0 := if_pos (by omega)
        have hmB : (if (0 : Int) < K then K else (0 : Int)) = 0 := if_neg (by omega)
        have HK := Lib.hid hK
        subst hK
        go_wp2_with fail
        refine (HCMH.out _ A2.out).mono ?_; rintro e w8 ⟨rfl, hb8⟩
        have r8 := r2.below hb8
        have G8 := Lib.hid (grownBy_trans G2.out (grown_of_below hb8 (some rb)))
        clear hb8
        go_wp2_with fail
        refine (pick_any rb (P + 1) 1 _ (by omega) (by omega) (by omega) r8).mono ?_; rintro e w9 ⟨u, hu, rfl, r9, g9⟩
        go_wp2_with fail
        refine (pick_any rb (P + 1 + 1) 20 _ (by omega) (by omega) (by omega) r9).mono ?_; rintro e w10 ⟨v, hv, rfl, r10, g10⟩
        have G10 := Lib.hid (grownBy_trans (grownBy_trans G8.out g9) g10)
        clear g9 g10
        go_wp2
        go_ret
        exact ⟨_, rfl, by omega, r10.mono (by omega), G10.out⟩
      · obtain ⟨kn, rfl⟩ := Int.eq_ofNat_of_zero_le (show 0 ≤ K by omega)
        have hmA : (if (kn : Int) < (0 : Int) then (0 : Int) else (kn : Int)) = kn := if_neg (by omega)
        have hmB : (if (0 : Int) < (kn : Int) then (kn : Int) else (0 : Int)) = kn := if_pos (by omega)
        go_wp2_with fail
        refine (HCMH.out _ A2.out).mono ?_; rintro e w8 ⟨rfl, hb8⟩
        have r8 := r2.below hb8
        have G8 := Lib.hid (grownBy_trans G2.out (grown_of_below hb8 (some rb)))
        clear hb8
        go_wp2_with fail
        refine (pick_i rb (P + 1) ((kn : Int) + 1) _ (by omega) (by omega) (by omega) r8).mono ?_; rintro e w9 ⟨u, hu, rfl, r9, g9⟩
        go_wp2_with fail
        refine (pick_any rb (P + 1 + 1) 20 _ (by omega) (by omega) (by omega) r9).mono ?_; rintro e w10 ⟨v, hv, rfl, r10, g10⟩
        have G10 := Lib.hid (grownBy_trans (grownBy_trans G8.out g9) g10)
        clear g9 g10
        go_wp2
        go_ret
        exact ⟨_, rfl, by omega, r10.mono (by omega), G10.out⟩
    · have hx1 : (0 : Int) < x := by omega
      go_wp2_with fail
      refine (pick_any rb (P + 1) f _ hf1 (by omega) (by omega) r2).mono ?_; rintro e w3 ⟨y, hy, rfl, r3, g3⟩
      have O3 := Lib.hid (OwnsI.keptBy O2.out g3 (fun k e => by cases e; simp; omega))
      have G3 := Lib.hid (grownBy_trans G2.out g3)
      obtain ⟨bb, bo, rfl, hc⟩ := (OwnsI.at O3.out) y (by rw [← HF.out]; exact hy)
      have hvb := HFE.out y hy
      obtain ⟨V, hV⟩ : ∃ V, V = F.getD y 0 := ⟨_, rfl⟩
      rw [← hV] at hc hvb
      clear hV g3
      have hy2 : (y : Int) < f := by omega
      go_wp2
      go_ret
      exact ⟨V, rfl, by omega, r3.mono (by omega), G3.out⟩
end Go.Proofs.Ytknigcjpgkolgaa

namespace Go.Proofs.Ytknigcjpgkolgaa
open Go.RowKit
set_option linter.unusedVariables false
set_option maxRecDepth 100000
set_option linter.unusedSimpArgs false

/-- A region, a list of dominoes and a corner were drawn of a code. -/
def DrawnRLK (w : World) (e : Ending) (w' : World) : Prop :=
  ∃ (W T : Int) (a : Option Addr) (n cap : Nat) (xs : List Bool) (la : Option Addr) (m lcap : Nat) (L : List Int) (k : Int), e = .returned (.tuple #[.agg #[.int .i64 W, .int .i64 T, .slice a n cap], .slice la m lcap, .int .i64 k]) ∧ n = xs.length ∧ n ≤ 36 ∧ (0 ≤ W ∧ W ≤ 6 ∧ 0 ≤ T ∧ T ≤ 6) ∧ OwnsB w' (w.heap.size + 1) (.slice a n cap) xs ∧ m = L.length ∧ m ≤ 36 ∧ OwnsI w' (w.heap.size + 1) (.slice la m lcap) L ∧ (-1 ≤ k ∧ k ≤ 60) ∧ Below w.heap.size w w'

end Go.Proofs.Ytknigcjpgkolgaa

namespace Go.Proofs.Ytknigcjpgkolgaa
open Go.RowKit
set_option linter.unusedVariables false
set_option maxRecDepth 100000
set_option linter.unusedSimpArgs false

theorem getD_setQ {M : List Int} {c j : Nat} {v : Int} (hc : c < M.length) : (M.set c v).getD j 0 = if j = c then v else M.getD j 0 := by
  rw [getD_set1]
  by_cases h : j = c
  · rw [if_pos ⟨h, hc⟩, if_pos h]
  · rw [if_neg (fun x => h x.1), if_neg h]
/-- What a flip does, cell by cell. -/
theorem flip_vals {W T : Int} {xs : List Bool} {L : List Int} {c : Int} (h : lok W T xs L = true) (hm : mayB W T L c = true) :
    ∃ k wn : Nat, 2 ≤ wn ∧ k + wn + 1 < L.length ∧
      ((L.getD k 0 = 1 ∧ L.getD (k + 1) 0 = 3 ∧ L.getD (k + wn) 0 = 1 ∧ L.getD (k + wn + 1) 0 = 3 ∧
        ∀ j, (flipL W T L c).getD j 0 = if j = k + wn + 1 then 4 else if j = k + wn then 4 else if j = k + 1 then 2 else if j = k then 2 else L.getD j 0) ∨
       (L.getD k 0 = 2 ∧ L.getD (k + wn) 0 = 4 ∧ L.getD (k + 1) 0 = 2 ∧ L.getD (k + wn + 1) 0 = 4 ∧
        ∀ j, (flipL W T L c).getD j 0 = if j = k + wn + 1 then 3 else if j = k + 1 then 3 else if j = k + wn then 1 else if j = k then 1 else L.getD j 0)) ∧ sqI W T c = k ∧ W = wn := by
  obtain ⟨k, wn, rfl, hw, hs, hb, hB, hd⟩ := flip_at h hm
  obtain ⟨a, wn', e1, _, e2, _, _, _, hv, _⟩ := may_at h hm
  have e3 : wn = wn' := by omega
  subst e3
  have e4 : a = k := by rw [hs] at e2; omega
  subst e4
  refine ⟨a, wn, hw, hb, ?_, hs, rfl⟩
  rcases hv with ⟨v1, v2, v3, v4⟩ | ⟨v1, v2, v3, v4⟩
  · left
    refine ⟨v1, v2, v3, v4, fun j => ?_⟩
    rcases hd with ⟨_, e⟩ | ⟨e0, _⟩
    · rw [e, getD_setQ (by simp; omega), getD_setQ (by simp; omega), getD_setQ (by simp; omega), getD_setQ (by omega)]
    · omega
  · right
    refine ⟨v1, v2, v3, v4, fun j => ?_⟩
    rcases hd with ⟨e0, _⟩ | ⟨_, e⟩
    · omega
    · rw [e, getD_setQ (by simp; omega), getD_setQ (by simp; omega), getD_setQ (by simp; omega), getD_setQ (by omega)]
/-- A flip may be done back. -/
theorem may_backQ {W T : Int} {xs : List Bool} {L : List Int} {c : Int} (h : lok W T xs L = true) (hm : mayB W T L c = true) : mayB W T (flipL W T L c) c = true := by
  obtain ⟨k, wn, hw, hb, hd, hs, rfl⟩ := flip_vals h hm
  have hsq : sqF (wn : Int) T c = true := by unfold mayB at hm; simp only [Bool.and_eq_true] at hm; exact hm.1.1
  have e1 : ((k : Int) + wn + 1).toNat = k + wn + 1 := by omega
  unfold mayB
  rw [hsq, hs, e1, Int.toNat_natCast]
  rcases hd with ⟨_, _, _, _, e⟩ | ⟨_, _, _, _, e⟩
  · rw [e, e, if_neg (by omega), if_neg (by omega), if_neg (by omega), if_pos rfl, if_pos rfl]; rfl
  · rw [e, e, if_neg (by omega), if_neg (by omega), if_neg (by omega), if_pos rfl, if_pos rfl]; rfl
/-- Flipped twice it is as before. -/
theorem flip_twice {W T : Int} {xs : List Bool} {L : List Int} {c : Int} (h : lok W T xs L = true) (hm : mayB W T L c = true) : flipL W T (flipL W T L c) c = L := by
  obtain ⟨k, wn, hw, hb, hd, hs, hW⟩ := flip_vals h hm
  obtain ⟨k', wn', hw', hb', hd', hs', hW'⟩ := flip_vals (lok_flip h c) (may_backQ h hm)
  have ek : k' = k := by rw [hs] at hs'; omega
  subst ek
  have ew : wn' = wn := by omega
  subst ew
  refine ext_getD (by rw [flipL_len, flipL_len]) fun j hj => ?_
  rcases hd with ⟨v1, v2, v3, v4, e⟩ | ⟨v1, v2, v3, v4, e⟩
  · rcases hd' with ⟨u1, _⟩ | ⟨_, _, _, _, e'⟩
    · rw [e, if_neg (by omega), if_neg (by omega), if_neg (by omega), if_pos rfl] at u1; omega
    · rw [e', e]
      by_cases c1 : j = k' + wn' + 1
      · subst c1; rw [if_pos rfl, v4]
      rw [if_neg c1]
      by_cases c2 : j = k' + 1
      · subst c2; rw [if_pos rfl, v2]
      rw [if_neg c2]
      by_cases c3 : j = k' + wn'
      · subst c3; rw [if_pos rfl, v3]
      rw [if_neg c3]
      by_cases c4 : j = k'
      · subst c4; rw [if_pos rfl, v1]
      rw [if_neg c4, if_neg c1, if_neg c3, if_neg c2, if_neg c4]
  · rcases hd' with ⟨_, _, _, _, e'⟩ | ⟨u1, _⟩
    · rw [e', e]
      by_cases c1 : j = k' + wn' + 1
      · subst c1; rw [if_pos rfl, v4]
      rw [if_neg c1]
      by_cases c3 : j = k' + wn'
      · subst c3; rw [if_pos rfl, v2]
      rw [if_neg c3]
      by_cases c2 : j = k' + 1
      · subst c2; rw [if_pos rfl, v3]
      rw [if_neg c2]
      by_cases c4 : j = k'
      · subst c4; rw [if_pos rfl, v1]
      rw [if_neg c4, if_neg c1, if_neg c2, if_neg c3, if_neg c4]
    · rw [e, if_neg (by omega), if_neg (by omega), if_neg (by omega), if_pos rfl] at u1; omega
end Go.Proofs.Ytknigcjpgkolgaa

namespace Go.Proofs.Ytknigcjpgkolgaa
open Go.RowKit
set_option linter.unusedVariables false
set_option maxRecDepth 100000
set_option linter.unusedSimpArgs false

/-- The entries of the four cells around a corner before and behind a flip, and of all others. -/
theorem flip_lv {W T : Int} {xs : List Bool} {L : List Int} {c : Nat} (h : lok W T xs L = true) (hm : mayB W T L c = true) :
    ∃ hz : Bool, atB W T xs (kx W c - 1) (ky W c - 1) = true ∧ atB W T xs (kx W c) (ky W c - 1) = true ∧ atB W T xs (kx W c - 1) (ky W c) = true ∧ atB W T xs (kx W c) (ky W c) = true ∧
      (lv W T xs L (kx W c - 1) (ky W c - 1) = (if hz then 1 else 2) ∧ lv W T xs (flipL W T L c) (kx W c - 1) (ky W c - 1) = (if hz then 2 else 1)) ∧
      (lv W T xs L (kx W c) (ky W c - 1) = (if hz then 3 else 2) ∧ lv W T xs (flipL W T L c) (kx W c) (ky W c - 1) = (if hz then 2 else 3)) ∧
      (lv W T xs L (kx W c - 1) (ky W c) = (if hz then 1 else 4) ∧ lv W T xs (flipL W T L c) (kx W c - 1) (ky W c) = (if hz then 4 else 1)) ∧
      (lv W T xs L (kx W c) (ky W c) = (if hz then 3 else 4) ∧ lv W T xs (flipL W T L c) (kx W c) (ky W c) = (if hz then 4 else 3)) ∧
      (∀ x y, ¬ (x = kx W c - 1 ∧ y = ky W c - 1) → ¬ (x = kx W c ∧ y = ky W c - 1) → ¬ (x = kx W c - 1 ∧ y = ky W c) → ¬ (x = kx W c ∧ y = ky W c) → lv W T xs (flipL W T L c) x y = lv W T xs L x y) := by
  obtain ⟨hr, hlen, _⟩ := lok_rv h
  obtain ⟨v1, v2, v3, v4, v5, _⟩ := rv_true hr
  obtain ⟨a, wn, hWn, hw2, ha, hb, hsq, hcell, hval, _⟩ := may_at h hm
  obtain ⟨cx, cy, -, -, -, -⟩ := cxy_pos (W := W) (c := (c : Int)) v1 (by omega)
  have ex : cxI W (c : Int) = kx W c := cx
  have ey : cyI W (c : Int) = ky W c := cy
  have hin : inF W T (kx W c - 1) (ky W c - 1) = true ∧ inF W T (kx W c) (ky W c) = true := by
    unfold sqF at hsq
    rw [Bool.and_eq_true, ex, ey] at hsq
    exact hsq
  obtain ⟨X, hX⟩ : ∃ X, X = kx W c := ⟨_, rfl⟩
  obtain ⟨Y, hY⟩ : ∃ Y, Y = ky W c := ⟨_, rfl⟩
  have hsi : (a : Int) = (Y - 1) * W + (X - 1) := by
    unfold sqI at ha
    rw [hsq, if_pos rfl, ex, ey, ← hX, ← hY] at ha
    exact ha.symm
  rw [← hX, ← hY] at hin ⊢
  simp only [inF, decide_eq_true_eq] at hin
  obtain ⟨⟨i1, i2, i3, i4⟩, ⟨j1, j2, j3, j4⟩⟩ := hin
  have hYW : Y * W = (Y - 1) * W + W := by rw [Int.sub_mul]; omega
  -- the four places
  obtain ⟨k1, q1, q1x, q1y, _⟩ := place_idx (W := W) (T := T) (x := X - 1) (y := Y - 1) i1 i2 i3 i4
  obtain ⟨k2, q2, q2x, q2y, _⟩ := place_idx (W := W) (T := T) (x := X) (y := Y - 1) j1 j2 i3 i4
  obtain ⟨k3, q3, q3x, q3y, _⟩ := place_idx (W := W) (T := T) (x := X - 1) (y := Y) i1 i2 j3 j4
  obtain ⟨k4, q4, q4x, q4y, _⟩ := place_idx (W := W) (T := T) (x := X) (y := Y) j1 j2 j3 j4
  have e1 : k1 = a := by omega
  have e2 : k2 = a + 1 := by omega
  have e3 : k3 = a + wn := by omega
  have e4 : k4 = a + wn + 1 := by omega
  have wt : W.toNat = wn := by omega
  have hfl : flipL W T L c = flipA W a L := by unfold flipL; rw [hm, if_pos rfl, ha]; rfl
  obtain ⟨hz, hzv⟩ : ∃ hz : Bool, (L.getD a 0 = (if hz then 1 else 2) ∧ L.getD (a + 1) 0 = (if hz then 3 else 2) ∧ L.getD (a + wn) 0 = (if hz then 1 else 4) ∧ L.getD (a + wn + 1) 0 = (if hz then 3 else 4)) := by
    rcases hval with ⟨p1, p2, p3, p4⟩ | ⟨p1, p2, p3, p4⟩
    · exact ⟨true, p1, p2, p3, p4⟩
    · exact ⟨false, p1, p3, p2, p4⟩
  obtain ⟨z1, z2, z3, z4⟩ := hzv
  have get : ∀ k, (flipL W T L c).getD k 0 = if k = a then (if hz then 2 else 1) else if k = a + 1 then (if hz then 2 else 3) else if k = a + wn then (if hz then 4 else 1) else if k = a + wn + 1 then (if hz then 4 else 3) else L.getD k 0 := by
    intro k
    rw [hfl]
    unfold flipA
    rw [z1, wt]
    cases hz
    · rw [if_neg (by decide)]
      simp only [getD_set1, List.length_set, Bool.false_eq_true, if_false]
      by_cases c1 : k = a
      · subst c1; rw [if_neg (by omega), if_neg (by omega), if_neg (by omega), if_pos ⟨rfl, by omega⟩, if_pos rfl]
      · by_cases c2 : k = a + 1
        · subst c2; rw [if_neg (by omega), if_pos ⟨rfl, by omega⟩, if_neg (by omega), if_pos rfl]
        · by_cases c3 : k = a + wn
          · subst c3; rw [if_neg (by omega), if_neg (by omega), if_pos ⟨rfl, by omega⟩, if_neg (by omega), if_neg (by omega), if_pos rfl]
          · by_cases c4 : k = a + wn + 1
            · subst c4; rw [if_pos ⟨rfl, by omega⟩, if_neg (by omega), if_neg (by omega), if_neg (by omega), if_pos rfl]
            · rw [if_neg (by omega), if_neg (by omega), if_neg (by omega), if_neg (by omega), if_neg c1, if_neg c2, if_neg c3, if_neg c4]
    · rw [if_pos (by rfl)]
      simp only [getD_set1, List.length_set, if_true]
      by_cases c1 : k = a
      · subst c1; rw [if_neg (by omega), if_neg (by omega), if_neg (by omega), if_pos ⟨rfl, by omega⟩, if_pos rfl]
      · by_cases c2 : k = a + 1
        · subst c2; rw [if_neg (by omega), if_neg (by omega), if_pos ⟨rfl, by omega⟩, if_neg (by omega), if_pos rfl]
        · by_cases c3 : k = a + wn
          · subst c3; rw [if_neg (by omega), if_pos ⟨rfl, by omega⟩, if_neg (by omega), if_neg (by omega), if_pos rfl]
          · by_cases c4 : k = a + wn + 1
            · subst c4; rw [if_pos ⟨rfl, by omega⟩, if_neg (by omega), if_neg (by omega), if_neg (by omega), if_pos rfl]
            · rw [if_neg (by omega), if_neg (by omega), if_neg (by omega), if_neg (by omega), if_neg c1, if_neg c2, if_neg c3, if_neg c4]
  have at1 : ∀ {x y : Int} {k : Nat}, 0 ≤ x → x < W → 0 ≤ y → y < T → (k : Int) = y * W + x → xs.getD k false = true → atB W T xs x y = true ∧ ∀ M : List Int, lv W T xs M x y = M.getD k 0 := by
    intro x y k b0 b1 b2 b3 e hx
    have ek : (y * W + x).toNat = k := by omega
    have : atB W T xs x y = true := by unfold atB inF; rw [ek, hx, decide_eq_true ⟨b0, b1, b2, b3⟩]; rfl
    exact ⟨this, fun M => by unfold lv; rw [this, if_pos rfl, ek]⟩
  obtain ⟨A1, l1⟩ := at1 i1 i2 i3 i4 q1 (by rw [e1]; exact hcell _ (Or.inl rfl))
  obtain ⟨A2, l2⟩ := at1 j1 j2 i3 i4 q2 (by rw [e2]; exact hcell _ (Or.inr (Or.inl rfl)))
  obtain ⟨A3, l3⟩ := at1 i1 i2 j3 j4 q3 (by rw [e3]; exact hcell _ (Or.inr (Or.inr (Or.inl rfl))))
  obtain ⟨A4, l4⟩ := at1 j1 j2 j3 j4 q4 (by rw [e4]; exact hcell _ (Or.inr (Or.inr (Or.inr rfl))))
  refine ⟨hz, A1, A2, A3, A4, ⟨by rw [l1, e1, z1], ?_⟩, ⟨by rw [l2, e2, z2], ?_⟩, ⟨by rw [l3, e3, z3], ?_⟩, ⟨by rw [l4, e4, z4], ?_⟩, ?_⟩
  · rw [l1, e1, get, if_pos rfl]
  · rw [l2, e2, get, if_neg (by omega), if_pos rfl]
  · rw [l3, e3, get, if_neg (by omega), if_neg (by omega), if_pos rfl]
  · rw [l4, e4, get, if_neg (by omega), if_neg (by omega), if_neg (by omega), if_pos rfl]
  · intro x y n1 n2 n3 n4
    unfold lv
    cases hat : atB W T xs x y
    · rfl
    · rw [if_pos rfl, if_pos rfl]
      obtain ⟨b0, b1, b2, b3⟩ := atB_in hat
      obtain ⟨k, hk, hkx, hky, _⟩ := place_idx b0 b1 b2 b3
      have ek : (y * W + x).toNat = k := by omega
      rw [ek, get]
      have m1 : k ≠ a := by rintro rfl; rw [← e1] at hkx hky; rw [q1x] at hkx; rw [q1y] at hky; exact n1 ⟨hkx.symm, hky.symm⟩
      have m2 : k ≠ a + 1 := by rintro rfl; rw [← e2] at hkx hky; rw [q2x] at hkx; rw [q2y] at hky; exact n2 ⟨hkx.symm, hky.symm⟩
      have m3 : k ≠ a + wn := by rintro rfl; rw [← e3] at hkx hky; rw [q3x] at hkx; rw [q3y] at hky; exact n3 ⟨hkx.symm, hky.symm⟩
      have m4 : k ≠ a + wn + 1 := by rintro rfl; rw [← e4] at hkx hky; rw [q4x] at hkx; rw [q4y] at hky; exact n4 ⟨hkx.symm, hky.symm⟩
      rw [if_neg m1, if_neg m2, if_neg m3, if_neg m4]

end Go.Proofs.Ytknigcjpgkolgaa

namespace Go.Proofs.Ytknigcjpgkolgaa
open Go.RowKit
set_option linter.unusedVariables false
set_option maxRecDepth 100000
set_option linter.unusedSimpArgs false

end Go.Proofs.Ytknigcjpgkolgaa

namespace Go.Proofs.Ytknigcjpgkolgaa
open Go.RowKit
set_option linter.unusedVariables false
set_option maxRecDepth 100000
set_option linter.unusedSimpArgs false

theorem tok_flip {W T : Int} {xs : List Bool} {L : List Int} {c : Nat} (h : tok W T xs L = true) (hm : mayB W T L c = true) : tok W T xs (flipL W T L c) = true := by
  have hl := tok_lok1 h
  obtain ⟨hr, hlen, _⟩ := lok_rv hl
  obtain ⟨v1, v2, v3, v4, v5, _⟩ := rv_true hr
  have hl' : lok W T xs (flipL W T L c) = true := lok_flip hl _
  obtain ⟨_, hlen', _⟩ := lok_rv hl'
  obtain ⟨hz, A1, A2, A3, A4, ⟨f1, g1⟩, ⟨f2, g2⟩, ⟨f3, g3⟩, ⟨f4, g4⟩, f5⟩ := flip_lv hl hm
  have nz : ∀ x y, atB W T xs x y = true → lv W T xs (flipL W T L c) x y ≠ 0 := by
    intro x y ha
    by_cases c1 : x = kx W c - 1 ∧ y = ky W c - 1
    · rw [c1.1, c1.2, g1]; cases hz <;> decide
    by_cases c2 : x = kx W c ∧ y = ky W c - 1
    · rw [c2.1, c2.2, g2]; cases hz <;> decide
    by_cases c3 : x = kx W c - 1 ∧ y = ky W c
    · rw [c3.1, c3.2, g3]; cases hz <;> decide
    by_cases c4 : x = kx W c ∧ y = ky W c
    · rw [c4.1, c4.2, g4]; cases hz <;> decide
    rw [f5 x y c1 c2 c3 c4]
    exact tok_lv h ha
  refine tok_all hl' fun k _ hk => ?_
  have hkx : k < xs.length := by omega
  cases hx : xs.getD k false
  · unfold freeB; rw [hx]; rfl
  · have a0 := Int.emod_nonneg (k : Int) (show W ≠ 0 by omega)
    have a1 := Int.emod_lt_of_pos (k : Int) (show 0 < W by omega)
    have b0 := Int.ediv_nonneg (show (0 : Int) ≤ k by omega) (show 0 ≤ W by omega)
    have b1 : (k : Int) / W < T := Int.ediv_lt_of_lt_mul (by omega) (by rw [Int.mul_comm]; omega)
    have ae := Int.emod_add_mul_ediv (k : Int) W
    have ei : ((k : Int) / W * W + (k : Int) % W).toNat = k := by rw [Int.mul_comm]; omega
    have hat : atB W T xs ((k : Int) % W) ((k : Int) / W) = true := by
      unfold atB inF
      rw [decide_eq_true ⟨a0, a1, b0, b1⟩, ei, hx]; rfl
    have := nz _ _ hat
    unfold lv at this
    rw [hat, if_pos rfl, ei] at this
    unfold freeB
    rw [hx]
    simpa using this
theorem may_nat {W T : Int} {xs : List Bool} {L : List Int} {c : Int} (h : lok W T xs L = true) (hm : mayB W T L c = true) : ∃ k : Nat, c = k ∧ (k : Int) < (W + 1) * (T + 1) := by
  obtain ⟨hr, _, _⟩ := lok_rv h
  obtain ⟨v1, _⟩ := rv_true hr
  unfold mayB at hm
  simp only [Bool.and_eq_true] at hm
  obtain ⟨c0, c1⟩ := sq_rng v1 hm.1.1
  obtain ⟨k, hk⟩ := Int.eq_ofNat_of_zero_le c0
  exact ⟨k, hk, by rw [← hk]; exact c1⟩
end Go.Proofs.Ytknigcjpgkolgaa
