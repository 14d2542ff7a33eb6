/- Contracts of slices.Clone at lists of integers, and of the two functions LaidBare. -/
import Derived.Test.YthjocjiiihebbaaInts
import Derived.Test.YthjocjiiihebbaaLaid
import Derived.Laws.OwnMore
namespace Go.Proofs.Ythjocjiiihebbaa
open Go.RowKit
set_option linter.unusedVariables false
set_option maxRecDepth 100000
set_option linter.unusedSimpArgs false

theorem ints_news {w : World} {b off : Nat} {L : List Int} (h : IntsAt w (some ⟨b, off, none⟩) L) : ∀ j u, (L.map (Value.int .i64))[j]? = some u → w.cell? ((⟨b, off, none⟩ : Addr).add j) = some u := by
  intro j u hj
  have hl : j < L.length := by
    rcases Nat.lt_or_ge j L.length with h' | h'
    · exact h'
    · rw [List.getElem?_eq_none (by simpa using h')] at hj; cases hj
  have e : (⟨b, off, none⟩ : Addr).add j = ⟨b, off + j, none⟩ := by unfold Addr.add; split <;> simp_all
  rw [e, h.cellAt hl]
  simp only [List.getElem?_map, List.getElem?_eq_getElem hl, Option.map_some, Option.some.injEq] at hj
  rw [← hj]
  simp [hl]
theorem ints_one (L : List Int) : ∀ u ∈ L.map (Value.int .i64), u.oneCell' = true := by
  intro u hu
  obtain ⟨x, _, rfl⟩ := List.mem_map.1 hu
  rfl

/-- A copy of a list that is not empty. -/
theorem clone_pos (la : Option Addr) (m lcap : Nat) (L : List Int) (w : World) (hm : m = L.length) (h0 : 0 < m) (hm' : m ≤ 1048576) (hl : IntsAt w la L) :
    Calls Try.prog 67 #[.slice la m lcap] w (RetL w m L) := by
  obtain ⟨i0, hi, hz0, hz1, hz2⟩ := info_parts infoInt
  obtain ⟨b, off, rfl, hc0⟩ := hl 0 (by omega)
  clear hc0
  have HM := Lib.hid hm; clear hm
  have HL := Lib.hid hl; clear hl
  have q := fun (w : World) (a : Option Addr) (n c n' c' : Nat) => Lib.run_eql_slice_nil (P := Try.prog) w _ _ a n c n' c' Try.underlying32
  go_enter Try.func67, Try.ntmps67
  go_wp2_with (at_builtin; refine wpList_append_own _ rfl _ _ 32 rfl w.heap.size 3 i0 (.int .i64 0) 1 8 Try.underlying32 hi hz0 hz1 hz2 rfl (by decide) _ _ _ rfl (World.ownsRow_made w #[] 0 (Nat.le_refl _) (Nat.zero_le _) rfl) ⟨b, off, none⟩ m lcap (L.map (Value.int .i64)) rfl (by rw [List.length_map, ← HM.out]; omega) (ints_news (HL.out.one _)) (ints_one L) (by unfold maxLen; omega) (by omega) (by simp) ?_; intro v' w1 hown hgrow hnil)
  go_ret
  rw [Nat.zero_add, List.nil_append] at hown
  obtain ⟨a', cap', hv⟩ : ∃ a' cap', v' = .slice a' m cap' := by
    rcases hown.2 with ⟨h1, h2⟩ | ⟨g, cap, cur, hv, _⟩
    · omega
    · exact ⟨_, cap, hv⟩
  subst hv
  refine ⟨a', cap', rfl, OwnsI.ofRow hown rfl HM.out.symm, ?_⟩
  exact below_grown (below1 _ _) hgrow (Nat.le_refl _) (fun k e => by have e' : some w.heap.size = some k := e; cases e'; exact Nat.le_refl _)

/-- What the list without dominoes is. -/
def bareL (W T : Int) (xs : List Bool) : List Int := if rv W T xs then List.replicate xs.length 0 else []

set_option maxHeartbeats 1000000 in
theorem sLaidBare_ret (W T : Int) (a : Option Addr) (n cap : Nat) (xs : List Bool) (w : World) (hn : n = xs.length) (hn' : n ≤ 1048576) (ha : BoolsAt w a xs) :
    Calls Try.prog 110 #[.agg #[.int .i64 W, .int .i64 T, .slice a n cap]] w (RetL w (bareL W T xs).length (bareL W T xs)) := by
  have HN := Lib.hid hn; clear hn
  have HA := Lib.hid ha; clear ha
  obtain ⟨i0, hi, hz0, hz1, hz2⟩ := info_parts infoInt
  cases h : rv W T xs
  · have e : bareL W T xs = [] := by unfold bareL; rw [h]; rfl
    rw [e]
    have H := Lib.hid h; clear h e
    go_enter Try.func110, Try.ntmps110
    go_wp2_with fail
    refine (sRegionValid_any _ _ _ _ _ xs _ HN.out hn' (HA.out.one _)).mono ?_; rintro e w1 ⟨rfl, hb1⟩
    have b1 := below_seq (below1 w _) hb1
    rw [H.out]
    go_wp2
    go_ret
    exact ⟨_, 0, rfl, World.ownsRow_made w1 #[] 0 b1.size (Nat.zero_le _) rfl, below_seq b1 (below1 _ _)⟩
  · have e : bareL W T xs = List.replicate n 0 := by unfold bareL; rw [h, ← HN.out]; rfl
    rw [e, List.length_replicate]
    have H := Lib.hid h; clear h e
    go_enter Try.func110, Try.ntmps110
    go_wp2_with fail
    refine (sRegionValid_any _ _ _ _ _ xs _ HN.out hn' (HA.out.one _)).mono ?_; rintro e w1 ⟨rfl, hb1⟩
    have p1 := heap_later (heap_new w _) hb1
    have b1 := below_seq (below1 w _) hb1
    have z1 : w.heap.size ≤ w1.heap.size := b1.size
    rw [H.out]
    obtain ⟨c0, c1, c2⟩ := cells3 p1
    go_wp2_with (at_make; refine wpList_make_full _ rfl _ _ 32 rfl w.heap.size 3 i0 (.int .i64 0) 1 Try.underlying32 hi hz0 hz1 _ _ _ _ n rfl rfl rfl rfl (by rw [hz2]; omega) (by unfold maxLen; omega) z1 ?_; intro w2 hown hgrow)
    go_ret
    rw [show (Value.int .i64 0).cells = #[.int .i64 0] from rfl, toList_madeCells_one] at hown
    exact ⟨_, n, rfl, OwnsI.ofRow hown (by simp) (by simp), below_grown b1 hgrow (Nat.le_refl _) (by simp)⟩

theorem bareL_len (W T : Int) (xs : List Bool) : (bareL W T xs).length ≤ xs.length := by unfold bareL; split <;> simp

end Go.Proofs.Ythjocjiiihebbaa
