/- The reader of a code is opened; a law's call that shows the memory to be whole. The same as in DrawR and Prom, for seats that reach no other draw. -/
import Derived.Test.YthjocjiiihebbaaPick
import Derived.Test.YthjocjiiihebbaaTill
import Derived.Test.YthjocjiiihebbaaBox
import Derived.Test.YthjocjiiihebbaaDark
import Derived.Deep.DeepCutAuto
import Derived.Deep.AppendLies
namespace Go.Proofs.Ythjocjiiihebbaa
open Go.RowKit
set_option linter.unusedVariables false
set_option maxRecDepth 100000
set_option linter.unusedSimpArgs false

theorem BytesAt.take1 {w : World} {a : Option Addr} {zs : List Int} (h : BytesAt w a zs) (k : Nat) : BytesAt w a (zs.take k) := by
  intro i hi
  rw [List.length_take] at hi
  obtain ⟨b, off, rfl, hc, h2⟩ := h i (by omega)
  have e : (zs.take k).getD i 0 = zs.getD i 0 := by simp [List.getD, show i < k by omega]
  exact ⟨b, off, rfl, by rw [e]; exact hc, by rw [e]; exact h2⟩
theorem rd_new1 (w : World) {cb : Option Addr} {n cap : Nat} {zs : List Int} (hn : n = zs.length) (hn' : n ≤ 2000) (hb : BytesAt w cb zs) :
    RD (w.alloc (.cells #[.slice cb n cap, .int .i64 0] 80)) w.heap.size 0 := by
  refine ⟨cb, n, cap, zs, 0, heap_new _ _, hn, hn', hb.below (below1 _ _), Nat.le_refl _, ?_⟩
  by_cases h0 : zs = []
  · exact Or.inl h0
  · have hp : 0 < zs.length := List.length_pos_iff.2 h0
    obtain ⟨b, off, rfl, hc, _⟩ := hb 0 hp
    have hl := World.block_lt_of_cell? w _ hc
    simp only at hl
    exact Or.inr fun p e => by cases e; simp; omega

theorem l20Open_any1 (cb : Option Addr) (n cap : Nat) (zs : List Int) (w : World) (hn : n = zs.length) (hn' : n ≤ 1048576) (hcap : n ≤ cap) (hb : BytesAt w cb zs) :
    Calls Try.prog 44 #[.slice cb n cap] w fun e w' => e = .returned (.pointer (some ⟨w.heap.size, 0, none⟩)) ∧ RD w' w.heap.size 0 ∧ Below w.heap.size w w' := by
  have HB := Lib.hid hb; clear hb
  have HN := Lib.hid hn; clear hn
  by_cases hbig : 2000 < n
  · have hc : (2000 : Int) ≤ cap := by omega
    have hc2 : (2000 : Nat) ≤ cap := by omega
    obtain ⟨b, off, rfl, -⟩ := HB.out 0 (by rw [← HN.out]; omega)
    go_enter Try.func44, Try.ntmps44
    go_wp2
    go_ret
    exact ⟨rfl, rd_new1 w (zs := zs.take 2000) (by rw [List.length_take, ← HN.out]; omega) (Nat.le_refl _) (HB.out.take1 _), below1 _ _⟩
  · have hs : n ≤ 2000 := by omega
    go_enter Try.func44, Try.ntmps44
    go_wp2
    go_ret
    exact ⟨rfl, rd_new1 w HN.out hs HB.out, below1 _ _⟩

theorem alive_any1 (w : World) : Calls Try.prog 16 #[] w fun e w' => e = .returned (.bool true) ∧ Below w.heap.size w w' := by
  go_enter Try.func16, Try.ntmps16
  go_wp2_with fail
  refine (iRegionBox_yes 2 3 6 _ (by decide) (by decide)).mono ?_; rintro e w1 ⟨g, rfl, ho, hb⟩
  have HM : Hid (many 2 3 (List.replicate 6 true) = 6) := by show _ = _; rfl
  go_wp2_with fail
  refine (iCellsMany_any _ _ _ _ _ (List.replicate 6 true) _ rfl (by simp) (OwnsB.at ho)).mono ?_; rintro e w2 ⟨rfl, hb2⟩
  rw [HM.out]
  go_wp2
  go_ret
  exact ⟨rfl, below_seq hb hb2⟩


end Go.Proofs.Ythjocjiiihebbaa
