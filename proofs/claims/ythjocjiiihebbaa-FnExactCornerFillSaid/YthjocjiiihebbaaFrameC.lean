/- How the arguments of the laws are opened: a region by value. Merged of: Frame, FrameC. -/
import Derived.Test.YthjocjiiihebbaaOwn
import Derived.ProofKit
import Derived.OpenShut
import Derived.ShutString
import Derived.ChangeOld
import Derived.Below
import Derived.Carry
import Derived.Lib.SmallJoins
import Derived.Deep.Grids
import Derived.Test.YthjocjiiihebbaaPick
namespace Go.Proofs.Ythjocjiiihebbaa
open Go.RowKit Go.ChangeShapes Go.WideShapes Go.ChangeAt Go.Deep
set_option linter.unusedVariables false
set_option maxRecDepth 100000

theorem own : ownKnob Try.prog.godebug = none := by kernel_rfl
theorem laidOut : laidOutB Try.prog = true := by kernel_rfl

theorem BoolsAt_of_cells {w : World} {a : Addr} {len : Nat} {B : Nat → Bool} (hc : ∀ i, i < len → w.cell? (a.add i) = some (.bool (B i))) :
    ∃ xs : List Bool, len = xs.length ∧ BoolsAt w (some a) xs := by
  refine ⟨(List.range len).map B, by simp, ?_⟩
  intro i hi
  simp only [List.length_map, List.length_range] at hi
  obtain ⟨b, off, spot⟩ := a
  have hc0 := hc i hi
  have hspot : spot = none := by simpa [Addr.add] using World.cell?_spot (hc 0 (by omega))
  subst hspot
  refine ⟨b, off, rfl, ?_⟩
  have : (⟨b, off, none⟩ : Addr).add i = ⟨b, off + i, none⟩ := by unfold Addr.add; split <;> simp_all
  rw [this] at hc0
  rw [hc0]; simp [hi]

set_option maxRecDepth 100000 in
theorem open_region {H : Type} {enc : TypeId × Value → H} {w : World} {base b0 : Nat} {v : Value} {d : DataW H} {p : List MemPlace}
    (hv : Value.okWide Try.prog w .any b0 31 v) (h : DataW.Trod enc Try.prog w base (fun _ => true) true 31 v d p) :
    ∃ (W T : Int) (a : Option Addr) (n cap : Nat) (xs : List Bool), v = .agg #[.int .i64 W, .int .i64 T, .slice a n cap] ∧ n = xs.length ∧ n ≤ maxLen ∧ BoolsAt w a xs ∧ (Lit.int .i64 W).wf = true ∧ (Lit.int .i64 T).wf = true := by
  obtain ⟨v0, v1, v2, y0, y1, y2, m, rfl, _, _, h0, h1, h2⟩ := Go.Joins.open_agg3 Try.underlying31 (by kernel_rfl) (by kernel_rfl) hv h
  obtain ⟨W, e0, _, wW⟩ := DataW.trod_int Try.underlying3 h0
  obtain ⟨T, e1, _, wT⟩ := DataW.trod_int Try.underlying3 h1
  simp only [List.cons.injEq, and_true] at e0 e1
  subst e0 e1
  rcases open_bools Try.underlying29 Try.underlying4 (by kernel_rfl) h2 with ⟨hcs, _⟩ | ⟨a, len, cap, B, hcs, _, hl, hm, _, hc⟩
  · simp only [List.cons.injEq, and_true] at hcs
    subst hcs
    exact ⟨W, T, none, 0, 0, [], rfl, rfl, Nat.zero_le _, fun i hi => absurd hi (Nat.not_lt_zero i), wW, wT⟩
  · simp only [List.cons.injEq, and_true] at hcs
    subst hcs
    obtain ⟨xs, hx, hb⟩ := BoolsAt_of_cells (len := len) (fun i hi => hc i (by omega))
    exact ⟨W, T, some a, len, cap, xs, rfl, hx, by omega, hb, wW, wT⟩

end Go.Proofs.Ythjocjiiihebbaa

namespace Go.Proofs.Ythjocjiiihebbaa
open Go.RowKit Go.ChangeShapes Go.WideShapes Go.ChangeAt Go.Deep
set_option linter.unusedVariables false
set_option maxRecDepth 100000

theorem wf_u8 {z : Int} (h : (Lit.int .u8 z).wf = true) : 0 ≤ z ∧ z < 256 := by
  simp [Lit.wf, IntKind.min, IntKind.max, IntKind.signed, IntKind.bits] at h
  omega

theorem BytesAt_of_cells {w : World} {a : Addr} {zs : List Int} {len : Nat} (hl : len ≤ zs.length) (hw : ∀ n ∈ zs, (Lit.int .u8 n).wf = true) (hc : ∀ i, i < zs.length → w.cell? (a.add i) = some (.int .u8 (zs.getD i 0))) : BytesAt w (some a) (zs.take len) := by
  intro i hi
  have hi' : i < zs.length := by simp at hi; omega
  have hil : i < len := by simp at hi; omega
  obtain ⟨b, off, spot⟩ := a
  have hc0 := hc i hi'
  have hspot : spot = none := by simpa [Addr.add] using World.cell?_spot (hc 0 (by omega))
  subst hspot
  have e1 : (zs.take len).getD i 0 = zs.getD i 0 := by simp [List.getD, hil]
  have e2 : zs.getD i 0 = zs[i] := by simp [hi']
  refine ⟨b, off, rfl, ?_, ?_⟩
  · have : (⟨b, off, none⟩ : Addr).add i = ⟨b, off + i, none⟩ := by unfold Addr.add; split <;> simp_all
    rw [this] at hc0
    rw [hc0, e1]
  · rw [e1, e2]; exact wf_u8 (hw _ (List.getElem_mem hi'))

set_option maxRecDepth 100000 in
theorem open_code {H : Type} {enc : TypeId × Value → H} {w : World} {base b0 : Nat} {v : Value} {d : DataW H} {p : List MemPlace}
    (hv : Value.okWide Try.prog w .any b0 24 v) (h : DataW.Trod enc Try.prog w base (fun _ => true) true 24 v d p) :
    ∃ (a : Option Addr) (n cap : Nat) (zs : List Int), v = .slice a n cap ∧ n = zs.length ∧ n ≤ maxLen ∧ n ≤ cap ∧ BytesAt w a zs := by
  obtain ⟨a1, len, cap, rfl⟩ := okWide_slice Try.underlying24 hv
  obtain ⟨fuel, hf⟩ := h
  rcases open_ints Try.underlying24 Try.underlying5 (by kernel_rfl) hf with ⟨hcs, hx⟩ | ⟨a, len', cap', zs, hcs, _, hl, hm, hz, hx, hcell, hwz⟩
  · simp [Value.cells] at hcs
    obtain ⟨rfl, rfl, rfl⟩ := hcs
    exact ⟨none, 0, 0, [], rfl, rfl, Nat.zero_le _, Nat.le_refl _, fun i hi => absurd hi (Nat.not_lt_zero i)⟩
  · simp [Value.cells] at hcs
    obtain ⟨rfl, rfl, rfl⟩ := hcs
    simp only [if_true] at hz
    exact ⟨some a, len, cap, zs.take len, rfl, by simp; omega, by omega, hl, BytesAt_of_cells (by omega) hwz hcell⟩

end Go.Proofs.Ythjocjiiihebbaa
