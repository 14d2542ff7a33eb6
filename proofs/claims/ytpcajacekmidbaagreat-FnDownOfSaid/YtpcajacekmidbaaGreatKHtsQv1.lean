/- Plain facts: what the spreading of heights keeps from side to side. Merged of: HtsP, HtsQ. -/
import Derived.Test.YtpcajacekmidbaaGreatKHtsQ
namespace Go.Proofs.YtpcajacekmidbaaGreat
open Go.RowKit
set_option linter.unusedVariables false
set_option maxRecDepth 100000
set_option linter.unusedSimpArgs false

theorem keep_store {w : World} {b g on kn : Nat} {x0 x1 x2 x3 : Option Value} {u : Value} (hg : g ≠ b) (hne : on ≠ kn) (h0 : w.cell? ⟨b, 0, none⟩ = x0) (h1 : w.cell? ⟨b, 1, none⟩ = x1) (h2 : w.cell? ⟨b, 2, none⟩ = x2) (h3 : w.cell? ⟨g, kn, none⟩ = x3) :
 (w.setCell ⟨g, on, none⟩ u).cell? ⟨b, 0, none⟩ = x0 ∧ (w.setCell ⟨g, on, none⟩ u).cell? ⟨b, 1, none⟩ = x1 ∧ (w.setCell ⟨g, on, none⟩ u).cell? ⟨b, 2, none⟩ = x2 ∧ (w.setCell ⟨g, on, none⟩ u).cell? ⟨g, kn, none⟩ = x3 := by
 have e1 : ∀ i : Nat, (⟨g, on, none⟩ : Addr) ≠ ⟨b, i, none⟩ := fun i e => by simp only [Addr.mk.injEq] at e; exact hg e.1
 have e2 : (⟨g, on, none⟩ : Addr) ≠ ⟨g, kn, none⟩ := fun e => by simp only [Addr.mk.injEq] at e; exact hne e.2.1
 exact ⟨(World.cell?_setCell_other _ _ _ _ (e1 0)).trans h0, (World.cell?_setCell_other _ _ _ _ (e1 1)).trans h1, (World.cell?_setCell_other _ _ _ _ (e1 2)).trans h2, (World.cell?_setCell_other _ _ _ _ e2).trans h3⟩
end Go.Proofs.YtpcajacekmidbaaGreat

namespace Go.Proofs.YtpcajacekmidbaaGreat
open Go.RowKit
set_option linter.unusedVariables false
set_option maxRecDepth 100000
set_option linter.unusedSimpArgs false

end Go.Proofs.YtpcajacekmidbaaGreat

namespace Go.Proofs.YtpcajacekmidbaaGreat
open Go.RowKit
set_option linter.unusedVariables false
set_option maxRecDepth 100000
set_option linter.unusedSimpArgs false

set_option maxHeartbeats 2000000 in
theorem liftUp_yes (W T : Int) (a : Option Addr) (n cap : Nat) (g lcap B : Nat) (L : List Int) (kn on : Nat) (w : World) (hn' : n ≤ 1048576) (hm : n = L.length) (hW0 : 1 ≤ W) (hW1 : W ≤ 6) (hT0 : 1 ≤ T) (hT1 : T ≤ 6) (hWT : (n : Int) = W * T) (hk : kn < n) (hon : on < n) (hne : on ≠ kn) (hz : L.getD kn 0 ≠ 0) (hst : cellB W T n kn (L.getD kn 0) = on) (ho : OwnsI w B (.slice (some ⟨g, 0, none⟩) n lcap) L) :
 Calls Tryz.prog 76 #[.agg #[.int .i64 W, .int .i64 T, .slice a n cap], .slice (some ⟨g, 0, none⟩) n lcap, .int .i64 kn] w fun e w' => e = .returned (.bool true) ∧ OwnsI w' B (.slice (some ⟨g, 0, none⟩) n lcap) ((L.set on 0).set kn 0) ∧ w.grownBy w' (some g) := by
 have HM := Lib.hid hm; clear hm
 have HO := Lib.hid ho; clear ho
 have HWT := Lib.hid hWT; clear hWT
 obtain ⟨v, hv⟩ : ∃ v, v = L.getD kn 0 := ⟨_, rfl⟩
 rw [← hv] at hz hst
 have HST := Lib.hid hst; clear hst
 have z2 : (v == 0) = false := by simpa using hz
 obtain ⟨wA, hwA⟩ : ∃ wA, wA = w.alloc (.cells #[.int .i64 W, .int .i64 T, .slice a n cap] 25) := ⟨_, rfl⟩
 have pA : wA.heap[w.heap.size]? = some (.cells #[.int .i64 W, .int .i64 T, .slice a n cap] 25 (0, 0)) := by rw [hwA]; exact heap_new _ _
 have bA : Below w.heap.size w wA := by rw [hwA]; exact below1 _ _
 have OA := HO.out.below bA
 have cv := OA.cell (k := kn) (by rw [← HM.out]; exact hk)
 have cw := HO.out.cell (k := kn) (by rw [← HM.out]; exact hk)
 rw [← hv] at cv cw
 have HV := Lib.hid hv; clear hv
 have HOA := Lib.hid OA; clear OA
 obtain ⟨d0, d1, d2⟩ := cells3 pA
 have lA := heap_lt pA
 have e1 : (kn : Int) < n := by omega
 have e2 : (on : Int) < n := by omega
 have hgl := HO.out.lt.2
 go_enter Tryz.func76, Tryz.ntmps76
 go_wp2_with fail
 rw [← hwA]
 clear hwA cw
 have PA : wA.drew.heap[w.heap.size]? = some _ := pA
 go_region_held3 (fun w' => w'.cell? ⟨w.heap.size, 0, none⟩ = some (.int .i64 W) ∧ w'.cell? ⟨w.heap.size, 1, none⟩ = some (.int .i64 T) ∧ w'.cell? ⟨w.heap.size, 2, none⟩ = some (.slice a n cap) ∧ w'.cell? ⟨g, kn, none⟩ = some (.int .i64 v))
  (first | go_keep | exact keep_store (by omega) hne c60 c61 c62 k6)
  (first
    | (go_at_call 105; refine (cellBeside_is _ _ _ _ _ _ _ _ hW0 hW1 hT0 hT1 HWT.out HST.out).mono ?_; rintro e w6 ⟨rfl, hb6⟩; have p6 := heap_later PA hb6; obtain ⟨c60, c61, c62⟩ := cells3 p6; have k6 := cell_later hb6 (show (World.drew wA).cell? _ = some _ from cv); have O6 := (show OwnsI wA.drew _ _ _ from HOA.out).below hb6; have x6 := O6.cell (k := on) (by rw [← HM.out]; exact hon); have f6 := O6.free on; have f7 := O6.free kn))
 have s1 := OwnsI.set O6 on 0
 have s2 := OwnsI.set s1.1 kn 0
 have y1 := s1.1.cell (k := kn) (by rw [List.length_set, ← HM.out]; exact hk)
 have y2 := s1.1.free kn
 have HS := Lib.hid s2.1
 have HG := Lib.hid (grown_seq s1.2 s2.2)
 have HB := Lib.hid (below_seq bA (below_seq (drew_below _) hb6))
 clear s1 s2 O6
 go_wp2
 go_ret
 exact ⟨rfl, HS.out, grown_seq (grown_of_below HB.out _) HG.out⟩

end Go.Proofs.YtpcajacekmidbaaGreat

namespace Go.Proofs.YtpcajacekmidbaaGreat
open Go.RowKit
set_option linter.unusedVariables false
set_option maxRecDepth 100000
set_option linter.unusedSimpArgs false

end Go.Proofs.YtpcajacekmidbaaGreat

namespace Go.Proofs.YtpcajacekmidbaaGreat
open Go.RowKit
set_option linter.unusedVariables false
set_option maxRecDepth 100000
set_option linter.unusedSimpArgs false

end Go.Proofs.YtpcajacekmidbaaGreat

namespace Go.Proofs.YtpcajacekmidbaaGreat
open Go.RowKit
set_option linter.unusedVariables false
set_option maxRecDepth 100000
set_option linter.unusedSimpArgs false

end Go.Proofs.YtpcajacekmidbaaGreat

namespace Go.Proofs.YtpcajacekmidbaaGreat
open Go.RowKit
set_option linter.unusedVariables false
set_option maxRecDepth 100000
set_option linter.unusedSimpArgs false

theorem gt_hts {W T : Int} {xs : List Bool} {L H : List Int} {N fk : Nat} (hs : simpleB W T xs = true) (hN : (W + 1) * (T + 1) = (N : Int)) (hf : frstK W T xs N = fk) (hH : HtsOf W T xs L H N) : GT W T xs N fk (fun s => rT W T xs L s.1 s.2) (fun s => rT W T xs L s.1 s.2) H := by
 obtain ⟨v1, v2, v3, v4, v5, v6⟩ := rv_true (simpleB_rv hs)
 have hr : ∀ s : Nat × Bool, -3 ≤ rT W T xs L s.1 s.2 ∧ rT W T xs L s.1 s.2 ≤ 3 := by
  intro s; unfold rT sRise; split <;> split <;> decide
 refine ⟨hf, hH.len, hH.off, fun k hk ha => by have := hH.bd k hk ha; omega, hH.first fk hf, fun k nth hk hu => by have := hH.side k nth hk hu; simp only; omega, fun s => ⟨(hr s).1, (hr s).2, (hr s).1, (hr s).2⟩, fun E h0 hst k hk ha => ?_⟩
 refine corners_all hs hf E h0 (fun j nth hu => ?_) k ha
 obtain ⟨t0, t1, t2⟩ := sTo_lt v1 hu
 have hj : j < N := by omega
 have sd := hH.side j nth hj hu
 obtain ⟨a, b⟩ := hst j nth hj hu
 simp only at a b
 exact ⟨fun e => a e (by omega), fun e => b e (by omega)⟩
end Go.Proofs.YtpcajacekmidbaaGreat
