/- Contract of impl.marksOf: each cell of a field has the least index of a cell that it hangs together with. -/
import Derived.Test.YtpcajacekmidbaaSpreadC
import Derived.Test.YtpcajacekmidbaaRep
namespace Go.Proofs.Ytpcajacekmidbaa
open Go.RowKit
set_option linter.unusedVariables false
set_option maxRecDepth 100000
set_option linter.unusedSimpArgs false

set_option maxHeartbeats 400000 in
theorem marksOf_any (W T : Int) (a : Option Addr) (n cap : Nat) (xs : List Bool) (corners : Bool) (w : World) (hn : n = xs.length) (hW0 : 1 ≤ W) (hW1 : W ≤ 100) (hT0 : 0 ≤ T) (hT1 : T ≤ 100) (hWT : (n : Int) = W * T) (ha : BoolsAt w a xs) :
    Calls Try.prog 83 #[.agg #[.int .i64 W, .int .i64 T, .slice a n cap], .bool corners] w fun e w' => ∃ g M, e = .returned (.slice (some ⟨g, 0, none⟩) n n) ∧ M.length = n ∧ OwnsI w' w.heap.size (.slice (some ⟨g, 0, none⟩) n n) M ∧ Marks n (fun i => xs.getD i false) (adjW W corners) M ∧ Below w.heap.size w w' := by
  have pb := (prod_bd (by omega) hW1 hT0 hT1).2
  have n4 : n ≤ 10000 := by omega
  have HN := Lib.hid hn; clear hn
  have HWT := Lib.hid hWT; clear hWT
  have HA := Lib.hid ha; clear ha
  have hz : ((w.alloc (.cells #[.int .i64 W, .int .i64 T, .slice a n cap] 25)).alloc (.cells #[.int .i64 (-1)] 3)).cell? ⟨w.heap.size + 1, 0, none⟩ = some (.int .i64 (-1)) := by
    have h := new_int (w.alloc (.cells #[.int .i64 W, .int .i64 T, .slice a n cap] 25)) (-1) 0 _ rfl
    rw [add0] at h
    simp at h ⊢
  have HZ := Lib.hid hz; clear hz
  go_enter Try.func83, Try.ntmps83
  go_wp2_with (go_at_call 131; refine (repeat_any (w.heap.size + 1) 0 1 (-1) n n4 _ HZ.out).mono ?_; rintro e w1 ⟨g, rfl, ho, hb⟩; have hbx := heap_later (heap_later (heap_new w (.cells #[.int .i64 W, .int .i64 T, .slice a n cap] 25 (0, 0))) (below1 _ _)) hb; have hb2 := below_seq (below2 _ _ _) hb; obtain ⟨c0, c1, c2⟩ := cells3 hbx; have hgb := (World.ownsRow.lt ho g rfl).1; have HO := Lib.hid (ho.lower (B' := w.heap.size) (by simp; omega)); clear ho hb)
  have hgb2 : w.heap.size + 2 ≤ g := by simp at hgb; omega
  clear hgb
  have HBX := Lib.hid hbx; clear hbx
  have HB2 := Lib.hid hb2; clear hb2
  clear c0 c1 c2 HZ
  go_loopw [16] (fun i wr => ∃ (k : Nat) (M : List Int), i = .int .i64 k ∧ k ≤ n ∧ OwnsI wr w.heap.size (.slice (some ⟨g, 0, none⟩) n n) M ∧ MkI n (fun i => xs.getD i false) (adjW W corners) k M ∧ wr.heap[w.heap.size]? = some (.cells #[.int .i64 W, .int .i64 T, .slice a n cap] 25 (0, 0)) ∧ Below w.heap.size w wr) (fun i _ => n - (intOf i).toNat)
  case atStart => exact ⟨0, _, rfl, Nat.zero_le _, HO.out, MkI.start, HBX.out, HB2.out⟩
  case round =>
    clear HBX HB2 HO
    obtain ⟨k, M, rfl, hk, hom, hmk, hbx, hbl⟩ := hrel
    rename World => wr
    have HOM := Lib.hid hom; clear hom
    have HMK := Lib.hid hmk; clear hmk
    have HBL := Lib.hid hbl; clear hbl
    obtain ⟨c0, c1, c2⟩ := cells3 hbx
    have HBX := Lib.hid hbx; clear hbx
    have lg := HOM.out.lt
    by_cases hlt : k < n
    · obtain ⟨ab, ao, rfl, hcx⟩ := (HA.out.below HBL.out) k (by rw [← HN.out]; exact hlt)
      have hcm := HOM.out.cell (k := k) (by rw [HMK.out.len]; exact hlt)
      obtain ⟨mu, hmu⟩ : ∃ mu, mu = M.getD k 0 := ⟨_, rfl⟩
      rw [← hmu] at hcm
      obtain ⟨xk, hxk⟩ : ∃ xk, xk = xs.getD k false := ⟨_, rfl⟩
      rw [← hxk] at hcx
      have HMU := Lib.hid hmu; clear hmu
      have HXK := Lib.hid hxk; clear hxk
      have e1 : (k : Int) < n := by omega
      have e2 : (0 : Int) ≤ k := by omega
      have e3 : ((k : Int)).toNat = k := by omega
      cases xk
      · go_wp2
        go_roundw
        case rel => exact ⟨k + 1, M, by go_num, by omega, HOM.out, HMK.out.skip (adjW_symm W corners) (Or.inl HXK.out.symm), HBX.out, HBL.out⟩
        case measure => simp [intOf]; omega
      · by_cases hm : mu < 0
        · have hmd : decide (mu < 0) = true := decide_eq_true hm
          have HNEG : Hid (M.getD k 0 < 0) := by show _ < _; rw [← HMU.out]; exact hm
          go_wp2_with (go_at_call 132; refine (spreadMark_any W T (some ⟨ab, ao, none⟩) n cap xs corners g n w.heap.size M k wr w HN.out hW0 hW1 hT0 hT1 HWT.out HMK.out.len hlt HXK.out.symm (HMK.out.neg (adjW_symm W corners) hlt HXK.out.symm HNEG.out) (HA.out.below HBL.out) HA.out (Nat.le_refl _) HOM.out).mono ?_; rintro e w3 ⟨⟨v, rfl⟩, M', ho3, hsp, hg3⟩; have HO3 := Lib.hid ho3; clear ho3; have HSP := Lib.hid hsp; clear hsp; have HG3 := Lib.hid hg3; clear hg3)
          go_roundw
          case rel => exact ⟨k + 1, M', by go_num, by omega, HO3.out, HMK.out.spread (adjW_symm W corners) hlt HXK.out.symm HNEG.out HSP.out, heap_grown HBX.out HG3.out (by intro e; have := Option.some.inj e; omega), below_grown HBL.out HG3.out (Nat.le_refl _) (fun k e => by have := Option.some.inj e; omega)⟩
          case measure => simp [intOf]; omega
        · have hmd : decide (mu < 0) = false := decide_eq_false hm
          go_wp2
          go_roundw
          case rel => exact ⟨k + 1, M, by go_num, by omega, HOM.out, HMK.out.skip (adjW_symm W corners) (Or.inr ⟨hlt, by rw [← HMU.out]; omega⟩), HBX.out, HBL.out⟩
          case measure => simp [intOf]; omega
    · obtain rfl : k = n := by omega
      go_wp2
      go_ret
      exact ⟨g, M, rfl, HMK.out.len, HOM.out, HMK.out.marks, HBL.out⟩
end Go.Proofs.Ytpcajacekmidbaa
