/- The law FnDownOf: its walk. -/
import Derived.Test.YtpcajacekmidbaaGreatKDrawTwo
import Derived.Test.YtpcajacekmidbaaGreatKLowI
import Derived.Test.YtpcajacekmidbaaGreatKOrder
namespace Go.Proofs.YtpcajacekmidbaaGreat
open Go.RowKit
set_option linter.unusedVariables false
set_option maxRecDepth 100000
set_option linter.unusedSimpArgs false

end Go.Proofs.YtpcajacekmidbaaGreat

namespace Go.Proofs.YtpcajacekmidbaaGreat
open Go.RowKit
set_option linter.unusedVariables false
set_option maxRecDepth 100000
set_option linter.unusedSimpArgs false

end Go.Proofs.YtpcajacekmidbaaGreat

namespace Go.Proofs.YtpcajacekmidbaaGreat
open Go.RowKit
set_option linter.unusedVariables false
set_option maxRecDepth 100000
set_option linter.unusedSimpArgs false

end Go.Proofs.YtpcajacekmidbaaGreat

namespace Go.Proofs.YtpcajacekmidbaaGreat
open Go.RowKit
set_option linter.unusedVariables false
set_option maxRecDepth 100000
set_option linter.unusedSimpArgs false

theorem ret_slT {a : Option Addr} {n n' cap : Nat} {v : Value} (h : n = n') : Ending.returned (.tuple #[.slice a n cap, v]) = .returned (.tuple #[.slice a n' cap, v]) := by rw [h]
end Go.Proofs.YtpcajacekmidbaaGreat

namespace Go.Proofs.YtpcajacekmidbaaGreat
open Go.RowKit
set_option linter.unusedVariables false
set_option maxRecDepth 100000
set_option linter.unusedSimpArgs false

end Go.Proofs.YtpcajacekmidbaaGreat

namespace Go.Proofs.YtpcajacekmidbaaGreat
open Go.RowKit
set_option linter.unusedVariables false
set_option maxRecDepth 100000
set_option linter.unusedSimpArgs false

set_option maxHeartbeats 4000000 in
theorem drawDownOf_any (cb : Option Addr) (n cap : Nat) (zs : List Int) (w : World) (hn : n = zs.length) (hn' : n ≤ 1048576) (hcap : n ≤ cap) (hb : BytesAt w cb zs) :
 Calls Tryz.prog 6 #[.slice cb n cap] w (DrawnRg2 w) := by
 have HN := Lib.hid hn; clear hn
 have HB := Lib.hid hb; clear hb
 go_enter Tryz.func6, Tryz.ntmps6
 go_wp2_with fail
 refine (l20Open_any _ _ _ zs _ HN.out hn' hcap (HB.out.below (below1 _ _))).mono ?_; rintro e w1 ⟨rfl, r1, b1⟩
 have q1 := heap_later (heap_new w (.cells #[.int .i64 0, .int .i64 0, .slice none 0 0] 25)) b1
 have B1 := Lib.hid (below_seq (below1 w _) b1)
 have R1 : Hid (RD w1 (w.heap.size + 1) 0) := by show RD _ _ _; simpa using r1
 have l1 := heap_lt q1
 have l2 := R1.out.lt
 clear r1 b1
 go_wp2_with fail
 refine (l20Two_any (w.heap.size + 1) 0 _ (by omega) R1.out).mono ?_; rintro e w2 ⟨W, T, a, m, c, xs, la, q, lcap, L, lb, r, bcap, M, rfl, hm, h36, hs, o2, hq, hq36, i2, hr, hr36, j2, r2, g2⟩
 have q2 := heap_grown q1 g2 (by simp)
 have B2 := Lib.hid (below_grown B1.out g2 (Nat.le_refl _) (fun k e => by cases e; omega))
 have HM := Lib.hid hm; clear hm
 have HQ := Lib.hid hq; clear hq
 have HR := Lib.hid hr; clear hr
 have O2 := Lib.hid o2; clear o2
 have I2 := Lib.hid i2; clear i2
 clear j2
 have hl2 := r2.lt
 clear r2 g2
 obtain ⟨wB, hwB⟩ : ∃ wB, wB = w2.alloc (.cells #[.int .i64 W, .int .i64 T, .slice a m c] 25) := ⟨_, rfl⟩
 have pB : wB.heap[w2.heap.size]? = some (.cells #[.int .i64 W, .int .i64 T, .slice a m c] 25 (0, 0)) := by rw [hwB]; exact heap_new _ _
 have q3 : wB.heap[w.heap.size]? = some (.cells #[.int .i64 0, .int .i64 0, .slice none 0 0] 25 (0, 0)) := by rw [hwB]; exact heap_later q2 (below1 _ _)
 have B3 : Hid (Below w.heap.size w wB) := by rw [hwB]; exact below_seq B2.out (below1 _ _)
 have O3 : Hid (OwnsB wB w1.heap.size (.slice a m c) xs) := by rw [hwB]; exact O2.out.alloc _
 have I3 : Hid (OwnsI wB w1.heap.size (.slice la q lcap) L) := by rw [hwB]; exact I2.out.alloc _
 obtain ⟨c0, c1, c2⟩ := cells3 pB
 obtain ⟨d0, d1, d2⟩ := cells3 q3
 have f0 := free3 q3 0
 have f1 := free3 q3 1
 have f2 := free3 q3 2
 have HWB := Lib.hid hwB; clear hwB
 go_upto_region 2 with fail
 rw [← HWB.out]
 clear HWB
 go_wp2
 refine bodyPost_ret (v := .tuple #[.agg #[.int .i64 W, .int .i64 T, .slice a m c], .slice la q lcap]) (by simp [results, Tryz.results6, go_sem, d0, d1, d2]) rfl ⟨W, T, a, m, c, xs, la, q, lcap, L, rfl, HM.out, h36, hs, (O3.out.set3 (by omega) _ _ _).lower (by omega), HQ.out, hq36, (I3.out.set3d (by omega) _ _ _).lower (by omega), below_set3 B3.out (Nat.le_refl _) _ _ _⟩
end Go.Proofs.YtpcajacekmidbaaGreat

namespace Go.Proofs.YtpcajacekmidbaaGreat
open Go.RowKit
set_option linter.unusedVariables false
set_option maxRecDepth 100000
set_option linter.unusedSimpArgs false

attribute [local go_sem] nil_nilV some_nilV

def belowL (A B : List Int) (k : Nat) : Bool := (List.range k).all fun i => decide (A.getD i 0 ≤ B.getD i 0)
theorem belowL_succ (A B : List Int) (k : Nat) : belowL A B (k + 1) = (belowL A B k && decide (A.getD k 0 ≤ B.getD k 0)) := by unfold belowL; rw [List.range_succ, List.all_append]; simp
theorem belowL_no {A B : List Int} {k n : Nat} (hk : k < n) (h : ¬ A.getD k 0 ≤ B.getD k 0) : belowL A B n = false := by
 unfold belowL
 rw [List.all_eq_false]
 exact ⟨k, List.mem_range.2 hk, by simpa using h⟩
def belowB (A B : List Int) : Bool := decide (0 < A.length) && decide (0 < B.length) && belowL A B A.length
set_option maxHeartbeats 4000000 in
theorem iBelow_ret (W T : Int) (a : Option Addr) (n cap : Nat) (xs : List Bool) (la0 : Option Addr) (m0 lcap0 : Nat) (L0 : List Int) (la1 : Option Addr) (m1 lcap1 : Nat) (L1 : List Int) (A B : List Int) (w : World) (hn : n = xs.length) (hn' : n ≤ 1048576) (hm0 : m0 = L0.length) (hm0' : m0 ≤ 1048576) (hm1 : m1 = L1.length) (hm1' : m1 ≤ 1048576) (ha : BoolsAt w a xs) (hl0 : IntsAt w la0 L0) (hl1 : IntsAt w la1 L1) (hA : HtsR W T xs L0 A) (hB : HtsR W T xs L1 B) :
 Calls Tryz.prog 14 #[.agg #[.int .i64 W, .int .i64 T, .slice a n cap], .slice la0 m0 lcap0, .slice la1 m1 lcap1] w fun e w' => e = .returned (.bool (belowB A B)) ∧ Below w.heap.size w w' := by
 have HN := Lib.hid hn; clear hn
 have HM0 := Lib.hid hm0; clear hm0
 have HM1 := Lib.hid hm1; clear hm1
 have HA := Lib.hid ha; clear ha
 have HL0 := Lib.hid hl0; clear hl0
 have HL1 := Lib.hid hl1; clear hl1
 have HHA := Lib.hid hA; have HHB := Lib.hid hB
 have hla := hA.len; have hlb := hB.len
 have hsame := HtsR.same hA hB
 clear hA hB
 obtain ⟨p, hp⟩ : ∃ p, p = A.length := ⟨_, rfl⟩
 obtain ⟨q, hq⟩ : ∃ q, q = B.length := ⟨_, rfl⟩
 rw [← hp] at hla hsame; rw [← hq] at hlb hsame
 have HP := Lib.hid hp; have HQ := Lib.hid hq; have HSM := Lib.hid hsame
 clear hp hq hsame
 have PA : (w.alloc (.cells #[.int .i64 W, .int .i64 T, .slice a n cap] 25)).drew.heap[w.heap.size]? = some _ := heap_new w (.cells #[.int .i64 W, .int .i64 T, .slice a n cap] 25)
 have bA : Below w.heap.size w (w.alloc (.cells #[.int .i64 W, .int .i64 T, .slice a n cap] 25)).drew := below_seq (below1 _ _) (drew_below _)
 obtain ⟨c0, c1, c2⟩ := cells3 (heap_new w (.cells #[.int .i64 W, .int .i64 T, .slice a n cap] 25))
 go_enter Tryz.func14, Tryz.ntmps14
 go_wp2_with fail
 go_region_held3 (fun w' => w'.cell? ⟨w.heap.size, 0, none⟩ = some (.int .i64 W) ∧ w'.cell? ⟨w.heap.size, 1, none⟩ = some (.int .i64 T) ∧ w'.cell? ⟨w.heap.size, 2, none⟩ = some (.slice a n cap))
  (go_keep)
  (first
    | (go_at_call 39; refine (iHeightsOf_n W T a n cap xs la1 m1 lcap1 L1 B _ HN.out hn' HM1.out hm1' (HA.out.below (below_seq bA hb1)) (HL1.out.below (below_seq bA hb1)) HHB.out).mono ?_; rintro e w2 ⟨a2, q2, rfl, o2, n2, hb2⟩; have p2 := heap_later p1 hb2; obtain ⟨e0, e1, e2⟩ := cells3 p2)
    | (go_at_call 39; refine (iHeightsOf_n W T a n cap xs la0 m0 lcap0 L0 A _ HN.out hn' HM0.out hm0' (HA.out.below bA) (HL0.out.below bA) HHA.out).mono ?_; rintro e w1 ⟨a1, q1, rfl, o1, n1, hb1⟩; have p1 := heap_later PA hb1; obtain ⟨d0, d1, d2⟩ := cells3 p1))
 have B2 := Lib.hid (below_seq (below_seq bA hb1) hb2)
 have IA := Lib.hid (OwnsI.at (o1.below hb2))
 have IB := Lib.hid (OwnsI.at o2)
 rw [← HP.out] at n1 ⊢
 rw [← HQ.out] at n2 ⊢
 clear o1 o2 hb1 hb2 bA p1 p2 PA c0 c1 c2 d0 d1 d2 e0 e1 e2
 rcases n1 with ⟨rfl, rfl, rfl⟩ | ⟨hp0, g1, rfl⟩
 · have HF : Hid (belowB [] B = false) := rfl
   have hp0 : p = 0 := HP.out
   subst hp0
   clear n2
   go_wp2
   go_ret
   exact ⟨ret_bool HF.out.symm, B2.out⟩
 rcases n2 with ⟨rfl, rfl, rfl⟩ | ⟨hq0, g2, rfl⟩
 · have HF : Hid (belowB A [] = false) := by show _ = _; unfold belowB; simp
   have hq0 : q = 0 := HQ.out
   subst hq0
   go_wp2
   go_ret
   exact ⟨ret_bool HF.out.symm, B2.out⟩
 have hpq := HSM.out hp0 hq0
 subst hpq
 clear HSM
 go_wp2_with fail
 go_loopw [25] (fun i wr => ∃ k : Nat, k ≤ p ∧ i = .int .i64 k ∧ belowL A B k = true ∧ IntsAt wr (some ⟨g1, 0, none⟩) A ∧ IntsAt wr (some ⟨g2, 0, none⟩) B ∧ Below w.heap.size w wr) (fun i _ => p - (intOf i).toNat)
 case atStart => exact ⟨0, Nat.zero_le _, rfl, rfl, IA.out, IB.out, B2.out⟩
 case round =>
  clear IA IB B2
  rename World => wo
  obtain ⟨k, hk, rfl, hbl, ia, ib, bo⟩ := hrel
  have HBL := Lib.hid hbl; have IA := Lib.hid ia; have IB := Lib.hid ib; have BO := Lib.hid bo
  clear hbl ia ib bo
  by_cases hlt : k < p
  · have hltq := hlt
    have hx := IA.out.cellAt (i := k) (by rw [← HP.out]; exact hlt)
    have hy := IB.out.cellAt (i := k) (by rw [← HQ.out]; exact hltq)
    rw [Nat.zero_add] at hx hy
    have xb := HHA.out.entry (k := k) (by rw [← HP.out]; exact hlt)
    have yb := HHB.out.entry (k := k) (by rw [← HQ.out]; exact hltq)
    have hsc := belowL_succ A B k
    have hno := fun h => belowL_no (A := A) (B := B) (n := p) hlt h
    obtain ⟨x, hxx⟩ : ∃ x, x = A.getD k 0 := ⟨_, rfl⟩
    obtain ⟨y, hyy⟩ : ∃ y, y = B.getD k 0 := ⟨_, rfl⟩
    rw [← hxx] at hx xb hsc hno; rw [← hyy] at hy yb hsc hno
    clear hxx hyy hltq
    have e1 : (k : Int) < p := by omega
    by_cases h : y < x
    · have HF : Hid (belowB A B = false) := by show _ = _; unfold belowB; rw [← HP.out, hno (by omega)]; simp
      clear hno hsc
      go_wp2
      go_ret
      exact ⟨ret_bool HF.out.symm, BO.out⟩
    · have HT : Hid (belowL A B (k + 1) = true) := by show _ = _; rw [hsc, HBL.out, decide_eq_true (by omega)]; rfl
      have h' : x ≤ y := by omega
      clear hno hsc h
      go_wp2
      go_roundw
      case rel => exact ⟨k + 1, by omega, by go_num, HT.out, IA.out, IB.out, BO.out⟩
      case measure => simp [intOf]; omega
  · obtain rfl : k = p := by omega
    have HT : Hid (belowB A B = true) := by
     show _ = _; unfold belowB
     rw [← HP.out, ← HQ.out, decide_eq_true hp0, HBL.out]; rfl
    go_wp2
    go_ret
    exact ⟨ret_bool HT.out.symm, BO.out⟩

end Go.Proofs.YtpcajacekmidbaaGreat

namespace Go.Proofs.YtpcajacekmidbaaGreat
open Go.RowKit
set_option linter.unusedVariables false
set_option maxRecDepth 100000
set_option linter.unusedSimpArgs false

section
variable {W T : Int} {xs : List Bool} {L M A B : List Int}
end
theorem belowL_iff {A B : List Int} {n : Nat} : belowL A B n = true ↔ ∀ k, k < n → A.getD k 0 ≤ B.getD k 0 := by
 unfold belowL
 rw [List.all_eq_true]
 constructor
 · intro h k hk; have := h k (List.mem_range.2 hk); simpa using this
 · intro h k hk; have := h k (List.mem_range.1 hk); simpa using this
end Go.Proofs.YtpcajacekmidbaaGreat

namespace Go.Proofs.YtpcajacekmidbaaGreat
open Go.RowKit
set_option linter.unusedVariables false
set_option maxRecDepth 100000
set_option linter.unusedSimpArgs false

set_option maxHeartbeats 2000000 in
theorem turnTwo_no (W T : Int) (a : Option Addr) (n cap : Nat) (xs : List Bool) (la : Option Addr) (lcap : Nat) (L : List Int) (c : Int) (w : World) (hn : n = xs.length) (hm : n = L.length) (hk : lok W T xs L = true) (hc0 : -9223372036854775808 ≤ c) (hc1 : c ≤ 9223372036854775807) (hl : IntsAt w la L) (h : mayB W T L c = false) :
 Calls Tryz.prog 38 #[.agg #[.int .i64 W, .int .i64 T, .slice a n cap], .slice la n lcap, .int .i64 c] w fun e w' => e = .returned (.bool false) ∧ Below w.heap.size w w' := by
 have HN := Lib.hid hn; clear hn
 have HM := Lib.hid hm; clear hm
 have HL := Lib.hid hl; clear hl
 have HK := Lib.hid hk; clear hk
 have H := Lib.hid h; clear h
 go_enter Tryz.func38, Tryz.ntmps38
 go_wp2_with fail
 refine (twoAround_any _ _ _ _ _ xs _ _ L _ _ HN.out HM.out HK.out hc0 hc1 (HL.out.one _)).mono ?_; rintro e w1 ⟨rfl, hb1⟩
 rw [H.out]
 go_wp2
 go_ret
 exact ⟨rfl, below_seq (below1 _ _) hb1⟩

end Go.Proofs.YtpcajacekmidbaaGreat

namespace Go.Proofs.YtpcajacekmidbaaGreat
open Go.RowKit
set_option linter.unusedVariables false
set_option maxRecDepth 100000
set_option linter.unusedSimpArgs false

end Go.Proofs.YtpcajacekmidbaaGreat

namespace Go.Proofs.YtpcajacekmidbaaGreat
open Go.RowKit
set_option linter.unusedVariables false
set_option maxRecDepth 100000
set_option linter.unusedSimpArgs false

set_option maxHeartbeats 1000000 in
theorem iFlipOne_ret (W T : Int) (a : Option Addr) (n cap : Nat) (xs : List Bool) (la : Option Addr) (m lcap : Nat) (L : List Int) (c : Int) (w : World) (hn : n = xs.length) (hn' : n ≤ 1048576) (hm : m = L.length) (hm' : m ≤ 1048576) (hc : -9223372036854775808 ≤ c ∧ c ≤ 9223372036854775807) (ha : BoolsAt w a xs) (hl : IntsAt w la L) :
 Calls Tryz.prog 13 #[.agg #[.int .i64 W, .int .i64 T, .slice a n cap], .slice la m lcap, .int .i64 c] w (RetLT w (flpF W T xs L c).1.length (flpF W T xs L c).1 (flpF W T xs L c).2) := by
 obtain ⟨hc0, hc1⟩ := hc
 have HN := Lib.hid hn; clear hn
 have HM := Lib.hid hm; clear hm
 have HA := Lib.hid ha; clear ha
 have HL := Lib.hid hl; clear hl
 cases h : lok W T xs L
 · have e : flpF W T xs L c = ([], false) := by unfold flpF; rw [h]; rfl
   rw [e]
   have H := Lib.hid h; clear h e
   go_enter Tryz.func13, Tryz.ntmps13
   go_wp2_with fail
   refine (iLaidOk_any _ _ _ _ _ xs _ _ _ L _ HN.out hn' HM.out hm' (HA.out.one _) (HL.out.one _)).mono ?_; rintro e w1 ⟨rfl, hb1⟩
   rw [H.out]
   go_wp2
   go_ret2
   exact ⟨none, 0, rfl, OwnsI.nil _ _, below_seq (below1 _ _) hb1⟩
 · obtain ⟨h1, h2, h3⟩ := lok_rv h
   have hle : m = n := by rw [HM.out, HN.out]; exact h2
   subst hle
   obtain ⟨v1, v2, v3, v4, v5, _⟩ := rv_true h1
   have HV : Hid ((m : Int) = W * T) := by show (m : Int) = W * T; rw [HN.out]; exact v5
   have hpos := rv_pos v1 v3 HV.out
   have e : flpF W T xs L c = (flipL W T L c, mayB W T L c) := by unfold flpF; rw [h]; rfl
   rw [e]
   have HE : Hid ((flipL W T L c).length = m) := by show _ = m; rw [flipL_len, HM.out]
   clear h2 h3 h1 v5 e
   have H := Lib.hid h; clear h
   cases hmay : mayB W T L c
   · have HLL : Hid (flipL W T L c = L) := by show _ = _; unfold flipL; rw [hmay]; rfl
     have HC := Lib.hid hmay; clear hmay
     go_enter Tryz.func13, Tryz.ntmps13
     go_wp2_with fail
     refine (iLaidOk_any _ _ _ _ _ xs _ _ _ L _ HN.out hn' HM.out hm' (HA.out.one _) (HL.out.one _)).mono ?_; rintro e w1 ⟨rfl, hb1⟩
     have p1 := heap_later (heap_new w _) hb1
     have b1 := below_seq (below1 w _) hb1
     rw [H.out]
     go_wp2_with fail
     refine (clone_own _ _ _ L _ HM.out hpos hm' (HL.out.below b1)).mono ?_; rintro e w2 ⟨g, gc, rfl, ho2, hb2⟩
     have p2 := heap_later p1 hb2
     have b2 := below_seq b1 hb2
     have z2 := b1.size
     obtain ⟨c0, c1, c2⟩ := cells3 p2
     have O2 := Lib.hid (ho2.lower z2)
     clear ho2
     go_wp2_with fail
     refine (turnTwo_no _ _ _ _ _ xs _ _ L _ _ HN.out HM.out H.out hc0 hc1 (OwnsI.at O2.out) HC.out).mono ?_; rintro e w3 ⟨rfl, hb3⟩
     go_wp2
     go_ret2
     exact ⟨some ⟨g, 0, none⟩, gc, ret_slT HE.out.symm, by rw [HE.out, HLL.out]; exact O2.out.below hb3, below_seq b2 hb3⟩
   · have HC := Lib.hid hmay; clear hmay
     go_enter Tryz.func13, Tryz.ntmps13
     go_wp2_with fail
     refine (iLaidOk_any _ _ _ _ _ xs _ _ _ L _ HN.out hn' HM.out hm' (HA.out.one _) (HL.out.one _)).mono ?_; rintro e w1 ⟨rfl, hb1⟩
     have p1 := heap_later (heap_new w _) hb1
     have b1 := below_seq (below1 w _) hb1
     rw [H.out]
     go_wp2_with fail
     refine (clone_own _ _ _ L _ HM.out hpos hm' (HL.out.below b1)).mono ?_; rintro e w2 ⟨g, gc, rfl, ho2, hb2⟩
     have p2 := heap_later p1 hb2
     have b2 := below_seq b1 hb2
     have z2 := b1.size
     obtain ⟨c0, c1, c2⟩ := cells3 p2
     have O2 := Lib.hid (ho2.lower z2)
     clear ho2
     go_wp2_with fail
     refine (turnTwo_yes _ _ _ _ _ xs _ _ _ L _ _ HN.out hn' HM.out H.out hc0 hc1 (HA.out.below b2) w HA.out (Nat.le_refl _) O2.out HC.out).mono ?_; rintro e w3 ⟨rfl, ho3, hg3⟩
     have b3 := below_grown b2 hg3 (Nat.le_refl _) (fun k e => by cases e; exact O2.out.lt.1)
     go_wp2
     go_ret2
     exact ⟨some ⟨g, 0, none⟩, gc, ret_slT HE.out.symm, by rw [HE.out]; exact ho3, b3⟩

end Go.Proofs.YtpcajacekmidbaaGreat

namespace Go.Proofs.YtpcajacekmidbaaGreat
open Go.RowKit
set_option linter.unusedVariables false
set_option maxRecDepth 100000
set_option linter.unusedSimpArgs false

theorem down_below {W T : Int} {xs : List Bool} {L A B : List Int} {c : Int} (hc : c ∈ downF (-4) W T xs L) (hA : HtsR W T xs L A) (hB : HtsR W T xs (flipL W T L c) B) : belowB B A = true := by
 obtain ⟨hs, ht, hm, hfl⟩ := down_mem (by decide) hc
 obtain ⟨N, f, hN, _, hf⟩ := simple_corn hs
 obtain ⟨v1, v2, v3, v4, v5, _⟩ := rv_true (simpleB_rv hs)
 obtain ⟨c0, _⟩ := may_rng v1 v2 v3 v4 hm
 obtain ⟨k, rfl⟩ := Int.eq_ofNat_of_zero_le c0
 have ht' := tok_flip ht hm
 have hA' := htsR_of hs hN ht hA
 have hB' := htsR_of hs hN ht' hB
 obtain ⟨hk, hfh⟩ := flip_height hs hN ht ht' hm hA' hB'
 rw [Int.toNat_natCast] at hfl
 unfold belowB
 rw [hA'.len, hB'.len, decide_eq_true (by omega), Bool.true_and, Bool.true_and]
 rw [belowL_iff]
 intro j hj
 rw [hfh j hj]
 split
 · rw [hfl]; omega
 · omega
end Go.Proofs.YtpcajacekmidbaaGreat

namespace Go.Proofs.YtpcajacekmidbaaGreat
open Go.RowKit
set_option linter.unusedVariables false
set_option maxRecDepth 100000
set_option linter.unusedSimpArgs false

set_option maxHeartbeats 8000000 in
theorem promDownOf_walk (cb : Option Addr) (n cap : Nat) (zs : List Int) (w : World) (hn : n = zs.length) (hn' : n ≤ maxLen) (hcap : n ≤ cap) (hb : BytesAt w cb zs) :
 Calls Tryz.prog 3 #[.slice cb n cap] w fun e w' => e = .returned (.bool true) ∧ Below w.heap.size w w' := by
 have HN := Lib.hid hn; clear hn
 have HB := Lib.hid hb; clear hb
 by_cases hbig : 1048576 < n
 · unfold maxLen at hn'
   go_enter Tryz.func3, Tryz.ntmps3
   go_wp2
   go_ret
   exact ⟨rfl, Below.refl _ _⟩
 have hsm : n ≤ 1048576 := by omega
 clear hbig hn'
 go_enter Tryz.func3, Tryz.ntmps3
 go_wp2_with fail
 refine (drawDownOf_any _ _ _ zs _ HN.out hsm hcap HB.out).mono ?_; rintro e w1 ⟨W0, T0, a, m, c, xs, la, q, lcap, L, rfl, hm, h36, hs, ho, hq, hq36, hi, b1⟩
 have HM := Lib.hid hm; clear hm
 have HQ := Lib.hid hq; clear hq
 have A1 := Lib.hid (OwnsB.at ho); clear ho
 have I1 := Lib.hid (OwnsI.at hi); clear hi
 obtain ⟨s0, s1, s2, s3⟩ := hs
 obtain ⟨U, hU⟩ : ∃ U, downF (-4) W0 T0 xs L = U := ⟨_, rfl⟩
 obtain ⟨u, hu⟩ : ∃ u, u = U.length := ⟨_, rfl⟩
 have hu49 : u ≤ 49 := by have := downF_len (-4) W0 T0 xs L; rw [hU, ← hu] at this; exact this
 have HD := Lib.hid hU
 have HU := Lib.hid hu
 clear hu
 go_wp2_with fail
 refine (iDownOf_ret _ _ _ _ _ xs _ _ _ L _ HM.out (by omega) HQ.out (by omega) (A1.out.one _) (I1.out.one _)).mono ?_; rintro e w2 ⟨a2, cap2, rfl, ho2, hb2⟩
 rw [HD.out] at ho2 ⊢
 rw [← HU.out] at ho2 ⊢
 have b2 := below_seq (below_seq b1 (below1 _ _)) hb2
 have pr2 := heap_later (heap_new w1 (.cells #[.int .i64 W0, .int .i64 T0, .slice a m c] 25)) hb2
 have A2 := Lib.hid ((A1.out.one (.cells #[.int .i64 W0, .int .i64 T0, .slice a m c] 25)).below hb2)
 have I2 := Lib.hid ((I1.out.one (.cells #[.int .i64 W0, .int .i64 T0, .slice a m c] 25)).below hb2)
 have U2 := Lib.hid (OwnsI.at ho2)
 obtain ⟨cr20, cr21, cr22⟩ := cells3 pr2
 have lr2 := heap_lt pr2
 clear ho2
 go_wp2_with fail
 refine (sDownOf_ret _ _ _ _ _ xs _ _ _ L _ HM.out (by omega) HQ.out (by omega) A2.out I2.out).mono ?_; rintro e w3 ⟨a3, cap3, rfl, ho3, hb3⟩
 rw [HD.out] at ho3 ⊢
 rw [← HU.out] at ho3 ⊢
 have b3 := below_seq b2 hb3
 have pr3 := heap_later pr2 hb3
 have A3 := Lib.hid (A2.out.below hb3)
 have I3 := Lib.hid (I2.out.below hb3)
 have U3 := Lib.hid (U2.out.below hb3)
 have Y3 := Lib.hid (OwnsI.at ho3)
 clear cr20 cr21 cr22 lr2
 obtain ⟨cr30, cr31, cr32⟩ := cells3 pr3
 have lr3 := heap_lt pr3
 clear ho3
 go_wp2_with fail
 refine (sameInts_same _ _ _ _ _ U _ HU.out (by omega) U3.out Y3.out).mono ?_; rintro e w4 ⟨rfl, hb4⟩
 have b4 := below_seq b3 hb4
 have pr4 := heap_later pr3 hb4
 have A4 := Lib.hid (A3.out.below hb4)
 have I4 := Lib.hid (I3.out.below hb4)
 have U4 := Lib.hid (U3.out.below hb4)
 have Y4 := Lib.hid (Y3.out.below hb4)
 clear cr30 cr31 cr32 lr3
 obtain ⟨cr40, cr41, cr42⟩ := cells3 pr4
 have lr4 := heap_lt pr4
 cases hs : simpleB W0 T0 xs
 · have e9 : U = [] := by
    rw [← HD.out]; unfold downF
    apply List.eq_nil_iff_forall_not_mem.2
    intro c9 h9
    rw [List.mem_filter] at h9
    have h10 := h9.2
    unfold riseF at h10
    rw [hs, Bool.false_and, Bool.false_and] at h10
    simp at h10
   have hu0 : u = 0 := by rw [HU.out, e9]; rfl
   subst hu0
   have HS := Lib.hid hs; clear hs
   go_wp2_with fail
   refine (sSimple_any _ _ _ _ _ xs _ HM.out (by omega) A4.out).mono ?_; rintro e w5 ⟨rfl, hb5⟩
   rw [HS.out]
   have b5 := below_seq b4 hb5
   have pr5 := heap_later pr4 hb5
   have A5 := Lib.hid (A4.out.below hb5)
   have I5 := Lib.hid (I4.out.below hb5)
   have U5 := Lib.hid (U4.out.below hb5)
   clear cr40 cr41 cr42 lr4
   obtain ⟨cr50, cr51, cr52⟩ := cells3 pr5
   have lr5 := heap_lt pr5
   go_wp2_with fail
   refine (alive_any _).mono ?_; rintro e w6 ⟨rfl, hb6⟩
   go_wp2
   go_ret
   exact ⟨rfl, below_seq b5 hb6⟩
 cases ht : tok W0 T0 xs L
 · have e9 : U = [] := by
    rw [← HD.out]; unfold downF
    apply List.eq_nil_iff_forall_not_mem.2
    intro c9 h9
    rw [List.mem_filter] at h9
    have h10 := h9.2
    unfold riseF at h10
    rw [ht, Bool.and_false, Bool.false_and] at h10
    simp at h10
   have hu0 : u = 0 := by rw [HU.out, e9]; rfl
   subst hu0
   have HS := Lib.hid hs; clear hs
   have HT := Lib.hid ht; clear ht
   go_wp2_with fail
   refine (sSimple_any _ _ _ _ _ xs _ HM.out (by omega) A4.out).mono ?_; rintro e w5 ⟨rfl, hb5⟩
   rw [HS.out]
   have b5 := below_seq b4 hb5
   have pr5 := heap_later pr4 hb5
   have A5 := Lib.hid (A4.out.below hb5)
   have I5 := Lib.hid (I4.out.below hb5)
   have U5 := Lib.hid (U4.out.below hb5)
   clear cr40 cr41 cr42 lr4
   obtain ⟨cr50, cr51, cr52⟩ := cells3 pr5
   have lr5 := heap_lt pr5
   go_wp2_with fail
   refine (sTilingOk_any _ _ _ _ _ xs _ _ _ L _ HM.out (by omega) HQ.out (by omega) A5.out I5.out).mono ?_; rintro e w6 ⟨rfl, hb6⟩
   rw [HT.out]
   have b6 := below_seq b5 hb6
   have pr6 := heap_later pr5 hb6
   have A6 := Lib.hid (A5.out.below hb6)
   have I6 := Lib.hid (I5.out.below hb6)
   have U6 := Lib.hid (U5.out.below hb6)
   clear cr50 cr51 cr52 lr5
   obtain ⟨cr60, cr61, cr62⟩ := cells3 pr6
   have lr6 := heap_lt pr6
   go_wp2_with fail
   refine (alive_any _).mono ?_; rintro e w7 ⟨rfl, hb7⟩
   go_wp2
   go_ret
   exact ⟨rfl, below_seq b6 hb7⟩
 · obtain ⟨X, ok, hE⟩ := lowRes_exist false W0 T0 xs
   obtain ⟨rfl, H0, hE'⟩ : ok = true ∧ ∃ H0, EdgeR false W0 T0 xs X H0 := by
    rcases hE with ⟨e, h⟩ | ⟨_, _, h⟩
    · exact ⟨e, h⟩
    · exfalso
      rcases h with h | h
      · rw [hs] at h; cases h
      · have := h L; rw [ht] at this; cases this
   obtain ⟨x0, hx0⟩ : ∃ x0, x0 = X.length := ⟨_, rfl⟩
   have hx0q : x0 = q := by rw [hx0, HQ.out, (lok_rv (tok_lok1 hE'.2.1)).2.1, (lok_rv (tok_lok1 ht)).2.1]
   obtain rfl := hx0q
   have hway := way_edge false hE' ht
   simp only [Bool.false_eq_true, if_false, if_true] at hway
   rw [hU] at hway
   obtain ⟨e, he⟩ : ∃ e, decide (X = L) = e := ⟨_, rfl⟩
   have hue : ((u : Int) == 0) = e := by
    rw [← he]
    apply Bool.eq_iff_iff.2
    rw [beq_iff_eq, decide_eq_true_eq, ← hway]
    constructor
    · intro h; exact List.eq_nil_of_length_eq_zero (by rw [← HU.out]; omega)
    · intro h; rw [h] at HU; have := HU.out; simp at this; omega
   have hee : (e == e) = true := by simp
   have hasc := downF_asc (-4) W0 T0 xs L
   rw [hU, ← HU.out] at hasc
   have hall := ways_all hs ht
   have HS := Lib.hid hs
   have HT := Lib.hid ht
   have HE := Lib.hid hE
   have HEE := Lib.hid hE'
   have HX0 := Lib.hid hx0
   have HDE := Lib.hid he
   have HASC := Lib.hid hasc
   clear hs ht hE hE' hx0 he hasc hway
   clear hall
   obtain ⟨A, hA⟩ := htsR_exist W0 T0 xs L
   have HHA := Lib.hid hA
   have hgood : ∀ k, k < u → ∃ (C B : List Int), flpF W0 T0 xs L (U.getD k 0) = (C, true) ∧ HtsR W0 T0 xs C B ∧ C.length = L.length ∧ belowB B A = true ∧ (-9223372036854775808 ≤ U.getD k 0 ∧ U.getD k 0 ≤ 9223372036854775807) := by
    intro k hk
    have hkl : k < U.length := by rw [← HU.out]; exact hk
    have hmem : U.getD k 0 ∈ downF (-4) W0 T0 xs L := by
     rw [hU, List.getD_eq_getElem?_getD, List.getElem?_eq_getElem hkl, Option.getD_some]; exact List.getElem_mem hkl
    obtain ⟨hs9, ht9, hm9, _⟩ := down_mem (by decide) hmem
    obtain ⟨v1, v2, v3, v4, _⟩ := rv_true (simpleB_rv hs9)
    have hrg := may_rng v1 v2 v3 v4 hm9
    obtain ⟨B, hB⟩ := htsR_exist W0 T0 xs (flipL W0 T0 L (U.getD k 0))
    exact ⟨flipL W0 T0 L (U.getD k 0), B, by unfold flpF; rw [tok_lok1 ht9, hm9]; rfl, hB, flipL_len _ _ _ _, down_below hmem hA hB, by omega⟩
   have HGD := Lib.hid hgood
   clear hgood hU hA
   go_wp2_with fail
   refine (sSimple_any _ _ _ _ _ xs _ HM.out (by omega) A4.out).mono ?_; rintro e w5 ⟨rfl, hb5⟩
   rw [HS.out]
   have b5 := below_seq b4 hb5
   have pr5 := heap_later pr4 hb5
   have A5 := Lib.hid (A4.out.below hb5)
   have I5 := Lib.hid (I4.out.below hb5)
   have U5 := Lib.hid (U4.out.below hb5)
   clear cr40 cr41 cr42 lr4
   obtain ⟨cr50, cr51, cr52⟩ := cells3 pr5
   have lr5 := heap_lt pr5
   go_wp2_with fail
   refine (sTilingOk_any _ _ _ _ _ xs _ _ _ L _ HM.out (by omega) HQ.out (by omega) A5.out I5.out).mono ?_; rintro e w6 ⟨rfl, hb6⟩
   rw [HT.out]
   have b6 := below_seq b5 hb6
   have pr6 := heap_later pr5 hb6
   have A6 := Lib.hid (A5.out.below hb6)
   have I6 := Lib.hid (I5.out.below hb6)
   have U6 := Lib.hid (U5.out.below hb6)
   clear cr50 cr51 cr52 lr5
   obtain ⟨cr60, cr61, cr62⟩ := cells3 pr6
   have lr6 := heap_lt pr6
   go_wp2
   go_loopw [6, 7, 8] (fun i _ _ wr => ∃ k : Nat, k ≤ u ∧ i = .int .i64 k ∧ Below w6.heap.size w6 wr) (fun i _ _ _ => u - (intOf i).toNat)
   case atStart => exact ⟨0, Nat.zero_le _, rfl, Below.refl _ _⟩
   case round =>
    rename World => wo
    obtain ⟨k, hk, rfl, bo⟩ := hrel
    have b9 := below_seq b6 bo
    have pr9 := heap_later pr6 bo
    have A9 := Lib.hid (A6.out.below bo)
    have I9 := Lib.hid (I6.out.below bo)
    have U9 := Lib.hid (U6.out.below bo)
    have BO := Lib.hid bo; clear bo cr60 cr61 cr62 lr6
    obtain ⟨cr90, cr91, cr92⟩ := cells3 pr9
    have lr9 := heap_lt pr9
    by_cases hlt : k < u
    · have e1 : (k : Int) < u := by omega
      have e0 : (0 : Int) ≤ k := by omega
      obtain ⟨C, B, hC1, hC2, hC3, hC4, hC5⟩ := HGD.out k hlt
      obtain ⟨lb, lo, rfl, hcc⟩ := U9.out k (by rw [← HU.out]; exact hlt)
      obtain ⟨cv, hcv⟩ : ∃ cv, cv = U.getD k 0 := ⟨_, rfl⟩
      rw [← hcv] at hcc hC1 hC5
      obtain ⟨cn, hcn⟩ : ∃ cn, cn = C.length := ⟨_, rfl⟩
      rw [← hcn, ← HQ.out] at hC3
      have HC1 := Lib.hid hC1; clear hC1
      have HC2 := Lib.hid hC2; clear hC2
      have HC4 := Lib.hid hC4; clear hC4
      have HCN := Lib.hid hcn; clear hcn hcv
      go_wp2_with fail
      have PQ : wo.drew.heap[w1.heap.size]? = some _ := pr9
      go_region_held3 (fun w' => w'.cell? ⟨w1.heap.size, 0, none⟩ = some (.int .i64 W0) ∧ w'.cell? ⟨w1.heap.size, 1, none⟩ = some (.int .i64 T0) ∧ w'.cell? ⟨w1.heap.size, 2, none⟩ = some (.slice a m c) ∧ w'.cell? ⟨lb, lo + k, none⟩ = some (.int .i64 cv))
       (go_keep)
       (first
         | (go_at_call 13; refine (iFlipOne_ret _ _ _ _ _ xs _ _ _ L cv _ HM.out (by omega) HQ.out (by omega) hC5 (show BoolsAt wo.drew _ _ from A9.out) (show IntsAt wo.drew _ _ from I9.out)).mono ?_; rintro e w10 ⟨a10, cap10, rfl, ho10, hb10⟩; rw [HC1.out] at ho10 ⊢; simp only at ho10 ⊢; rw [← HCN.out] at ho10 ⊢; have p10 := heap_later PQ hb10; obtain ⟨c100, c101, c102⟩ := cells3 p10; have k10 := cell_later hb10 (show wo.drew.cell? ⟨lb, lo + k, none⟩ = some _ from hcc)))
      have b10 := below_seq b9 (below_seq (drew_below _) hb10)
      have A10 := Lib.hid ((show BoolsAt wo.drew _ _ from A9.out).below hb10)
      have I10 := Lib.hid ((show IntsAt wo.drew _ _ from I9.out).below hb10)
      have C10 := Lib.hid (OwnsI.at ho10)
      have BO10 := Lib.hid (below_seq BO.out (below_seq (drew_below _) hb10))
      clear ho10 hb10
      obtain rfl := hC3
      go_wp2_with fail
      refine (iBelow_ret _ _ _ _ _ xs _ _ _ C _ _ _ L B A _ HM.out (by omega) HCN.out (by omega) HQ.out (by omega) A10.out C10.out I10.out HC2.out HHA.out).mono ?_; rintro e w11 ⟨rfl, hb11⟩
      rw [HC4.out]
      have BO11 := Lib.hid (below_seq BO10.out hb11)
      go_wp2
      go_roundw
      case rel => exact ⟨k + 1, by omega, by go_num, BO11.out⟩
      case measure => simp [intOf]; omega
    · skip
      go_wp2_with fail
      refine (iLowest_ret _ _ _ _ _ xs X true _ HM.out (by omega) HE.out A9.out).mono ?_; rintro e w10 ⟨a10, cap10, rfl, ho10, hb10⟩
      rw [← HX0.out] at ho10 ⊢
      have b10 := below_seq b9 hb10
      have pr10 := heap_later pr9 hb10
      have A10 := Lib.hid (A9.out.below hb10)
      have I10 := Lib.hid (I9.out.below hb10)
      have U10 := Lib.hid (U9.out.below hb10)
      have Z10 := Lib.hid (OwnsI.at ho10)
      clear cr90 cr91 cr92 lr9
      obtain ⟨cr100, cr101, cr102⟩ := cells3 pr10
      have lr10 := heap_lt pr10
      clear ho10
      go_wp2_with fail
      refine (ascend_yes _ _ _ U _ HU.out (by omega) U10.out HASC.out).mono ?_; rintro e w11 ⟨rfl, hb11⟩
      have b11 := below_seq b10 hb11
      have pr11 := heap_later pr10 hb11
      have A11 := Lib.hid (A10.out.below hb11)
      have I11 := Lib.hid (I10.out.below hb11)
      have U11 := Lib.hid (U10.out.below hb11)
      have Z11 := Lib.hid (Z10.out.below hb11)
      clear cr100 cr101 cr102 lr10
      obtain ⟨cr110, cr111, cr112⟩ := cells3 pr11
      have lr11 := heap_lt pr11
      go_wp2_with fail
      refine (sameInts_any _ _ _ _ _ X L _ HX0.out HQ.out (by omega) Z11.out I11.out).mono ?_; rintro e w12 ⟨rfl, hb12⟩
      rw [HDE.out]
      have b12 := below_seq b11 hb12
      have pr12 := heap_later pr11 hb12
      have A12 := Lib.hid (A11.out.below hb12)
      have I12 := Lib.hid (I11.out.below hb12)
      have U12 := Lib.hid (U11.out.below hb12)
      have Z12 := Lib.hid (Z11.out.below hb12)
      clear cr110 cr111 cr112 lr11
      obtain ⟨cr120, cr121, cr122⟩ := cells3 pr12
      have lr12 := heap_lt pr12
      cases e
      all_goals
       go_wp2
       go_ret
       exact ⟨rfl, b12⟩

end Go.Proofs.YtpcajacekmidbaaGreat
