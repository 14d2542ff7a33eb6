/- Contract of impl.marksOf: each cell of a field has the least index of a cell that it hangs together with. -/
import Derived.Test.YtpcajacekmidbaaGreatKQueue
import Derived.Deep.CutBlock
import Derived.Laws.CopyOwn
import Derived.Deep.RegionLaw
import Derived.Laws.Bits64b
namespace Go.Proofs.YtpcajacekmidbaaGreat
open Go.RowKit
set_option linter.unusedVariables false
set_option maxRecDepth 100000
set_option linter.unusedSimpArgs false

theorem OwnsI.keptUp {w w' : World} {B : Nat} {v : Value} {xs : List Int} {row : Option Nat} (h : OwnsI w B v xs) (hg : w.grownBy w' row) (hr : v.ownBlock = none ∨ v.ownBlock ≠ row) : OwnsI w' B v xs := World.ownsRow.kept h hg hr
theorem grown_trans {a b c : World} {row : Option Nat} (h : a.grownBy b row) (k : b.grownBy c row) : a.grownBy c row :=
 ⟨k.os.trans h.os, k.tape.trans h.tape, k.output.trans h.output, Nat.le_trans h.size k.size, fun i hi hr => (k.block i (Nat.lt_of_lt_of_le hi h.size) hr).trans (h.block i hi hr)⟩
theorem grown_new {a b c : World} {row : Option Nat} {g : Nat} (h : a.grownBy b row) (k : b.grownBy c (some g)) (hg : a.heap.size ≤ g) : a.grownBy c row :=
 ⟨k.os.trans h.os, k.tape.trans h.tape, k.output.trans h.output, Nat.le_trans h.size k.size, fun i hi hr => (k.block i (Nat.lt_of_lt_of_le hi h.size) (by intro e; have := Option.some.inj e; omega)).trans (h.block i hi hr)⟩
theorem grown_low {a b : World} (h : Below a.heap.size a b) (row : Option Nat) : a.grownBy b row :=
 ⟨h.os, h.tape, h.output, h.size, fun k hk _ => h.block k hk⟩
theorem own_two {gm n mcap : Nat} {g : Nat} (h : g ≠ gm) : (Value.slice (some ⟨gm, 0, none⟩) n mcap).ownBlock = none ∨ (Value.slice (some ⟨gm, 0, none⟩) n mcap).ownBlock ≠ some g := Or.inr (by simp [Value.ownBlock]; omega)

structure SpW (W T : Int) (a : Option Addr) (n cap : Nat) (xs : List Bool) (corners : Bool) (gm mcap B first : Nat) (M0 : List Int) (w : World) (D : Nat → Prop) (k : Nat) (v : Value) (g : Nat) (M zs : List Int) (wr : World) : Prop where
 q : QAt wr g v zs
 ne : g ≠ gm
 ge : w.heap.size + 1 ≤ g
 m : OwnsI wr B (.slice (some ⟨gm, 0, none⟩) n mcap) M
 sp : SpI n (fun i => xs.getD i false) (adjW W corners) first M0 M zs D
 le : 2 * unM n M + zs.length ≤ k
 box : wr.heap[w.heap.size]? = some (.cells #[.int .i64 W, .int .i64 T, .slice a n cap] 25 (0, 0))
 gr : w.grownBy wr (some gm)

set_option maxHeartbeats 4000000 in
theorem spreadMark_any (W T : Int) (a : Option Addr) (n cap : Nat) (xs : List Bool) (corners : Bool) (gm mcap B : Nat) (M0 : List Int) (first : Nat) (w w0 : World) (hn : n = xs.length) (hW0 : 1 ≤ W) (hW1 : W ≤ 100) (hT0 : 0 ≤ T) (hT1 : T ≤ 100) (hWT : (n : Int) = W * T)
 (hl : M0.length = n) (hf : first < n) (hs : xs.getD first false = true) (hneg : ∀ j, Conn n (fun i => xs.getD i false) (adjW W corners) first j → M0.getD j 0 < 0)
 (ha : BoolsAt w a xs) (ha0 : BoolsAt w0 a xs) (hB : w0.heap.size ≤ B) (ho : OwnsI w B (.slice (some ⟨gm, 0, none⟩) n mcap) M0) :
 Calls Tryz.prog 109 #[.agg #[.int .i64 W, .int .i64 T, .slice a n cap], .bool corners, .slice (some ⟨gm, 0, none⟩) n mcap, .int .i64 first] w fun e w' => (∃ v, e = .returned v) ∧ ∃ M', OwnsI w' B (.slice (some ⟨gm, 0, none⟩) n mcap) M' ∧ Spread n (fun i => xs.getD i false) (adjW W corners) first M0 M' ∧ w.grownBy w' (some gm) := by
 have pb := (prod_bd (by omega) hW1 hT0 hT1).2
 have n4 : n ≤ 10000 := by omega
 have HN := Lib.hid hn; clear hn
 have HWT := Lib.hid hWT; clear hWT
 have HA0 := Lib.hid ha0; clear ha0
 have HA := Lib.hid ha; clear ha
 have HNEG := Lib.hid hneg; clear hneg
 have HS := Lib.hid hs; clear hs
 have HL := Lib.hid hl; clear hl
 have lm := ho.lt
 have hc1 := ho.cell (k := first) (by rw [HL.out]; exact hf)
 have hz1 := ho.free first
 have hst := OwnsI.set ho first (first : Int)
 have e1 : (first : Int) < n := by omega
 obtain ⟨x0, hx0⟩ : ∃ x0, x0 = M0.getD first 0 := ⟨_, rfl⟩
 rw [← hx0] at hc1
 clear hx0
 have HO := Lib.hid ho; clear ho
 have HST := Lib.hid hst; clear hst
 go_enter Tryz.func109, Tryz.ntmps109
 obtain ⟨wA, hwA⟩ : ∃ wA, wA = ((w.setCell ⟨gm, first, none⟩ (.int .i64 first)).alloc (.cells #[.int .i64 W, .int .i64 T, .slice a n cap] 25)) := ⟨_, rfl⟩
 have zA : wA.heap.size = w.heap.size + 1 := by rw [hwA]; simp
 have MA : OwnsI wA B (.slice (some ⟨gm, 0, none⟩) n mcap) (M0.set first first) := by
  rw [hwA]; exact HST.out.1.alloc _
 have GA : w.grownBy wA (some gm) := by
  rw [hwA]; exact grown_trans HST.out.2 (World.grownBy_alloc _ _ _)
 have BA : wA.heap[w.heap.size]? = some (.cells #[.int .i64 W, .int .i64 T, .slice a n cap] 25 (0, 0)) := by
  rw [hwA]
  have := heap_new (w.setCell ⟨gm, first, none⟩ (.int .i64 first)) (.cells #[.int .i64 W, .int .i64 T, .slice a n cap] 25 (0, 0))
  rwa [World.size_setCell] at this
 have S0 : SpW W T a n cap xs corners gm mcap B first M0 w (fun _ => False) (2 * n + 1) (.slice (some ⟨wA.heap.size, 0, none⟩) 1 1) wA.heap.size (M0.set first first) [(first : Int)] (wA.alloc (.cells #[.int .i64 first] 3 (0, 0))) :=
  ⟨QAt.one wA first, by omega, by omega, MA.alloc _, SpI.start HL.out hf HS.out HNEG.out, by have := unM_le n (M0.set first (first : Int)); simp; omega, heap_later BA (below1 _ _), grown_trans GA (World.grownBy_alloc _ _ _)⟩
 have HS0 := Lib.hid S0; clear S0
 clear MA GA BA HST
 go_wp2
 rw [← hwA]
 go_loopg [8] (2 * n + 1) (fun k v wr => k ≤ 2 * n + 1 ∧ ∃ (g : Nat) (M zs : List Int), SpW W T a n cap xs corners gm mcap B first M0 w (fun _ => False) k v g M zs wr)
 case atStart => exact ⟨Nat.le_refl _, _, _, _, by rw [← zA]; exact HS0.out⟩
 case round =>
  clear HS0
  obtain ⟨hk, g, M, zs, hsp⟩ := hrel
  have SP := Lib.hid hsp; clear hsp
  cases zs with
  | nil =>
    obtain ⟨off, gcap, cs, rfl, -⟩ := SP.out.q
    go_wp2
    go_end0
    have h := SP.out
    exact ⟨⟨_, rfl⟩, M, h.m, h.sp.done HNEG.out, h.gr⟩
  | cons z zs =>
    obtain ⟨off, gcap, rfl, hc, hg1, hg2, hq1, hq2⟩ := SP.out.q.head
    obtain ⟨cl, rfl, hcl, hcc, hpop⟩ := SP.out.sp.pop
    obtain ⟨c0, c1, c2⟩ := cells3 SP.out.box
    have e2 : (0 : Int) < (zs.length + 1 : Nat) := by omega
    have HQ1 := Lib.hid hq1; clear hq1
    have HQ2 := Lib.hid hq2; clear hq2
    have HP := Lib.hid hpop; clear hpop
    have HCC := Lib.hid hcc; clear hcc
    have lg := SP.out.q.lt
    have zr := heap_lt SP.out.box
    have hK : 2 * unM n M + zs.length + 1 ≤ gk := by have := SP.out.le; simp at this; omega
    have hlenz : zs.length ≤ 2 * n + 1 := by omega
    go_upto_region 5 with fail
    go_cut [8] (fun v8 wx => QAt wr g v8 zs ∧ wx = wr)
    case first =>
     cases gcap with
     | zero =>
       have hz : zs = [] := List.eq_nil_of_length_eq_zero (by omega)
       subst hz
       go_wp2
       go_meet
       exact ⟨HQ2.out (by first | rfl | trivial), rfl⟩
     | succ gcap =>
       go_wp2
       go_meet
       exact ⟨HQ1.out, rfl⟩
    case rest =>
    obtain ⟨hq, hw⟩ := hcut
    rw [hw]
    clear hw
    have HQ := Lib.hid hq; clear hq HQ1 HQ2 hc hg1 hg2
    have ha1 : BoolsAt wr a xs := BoolsAt.grown HA.out HA0.out SP.out.gr (fun k e => by have := Option.some.inj e; omega)
    go_wp2_with fail
    refine (cellsAround_any W T a n cap xs cl corners _ HN.out hW0 hW1 hT0 hT1 HWT.out hcl ha1).mono ?_; rintro e w3 ⟨vl, rfl, hol, hb3⟩
    obtain ⟨LS, hLS⟩ : ∃ LS, arList W T xs ((cl : Int) % W) ((cl : Int) / W) corners 9 = LS := ⟨_, rfl⟩
    rw [hLS] at hol
    have HLS := Lib.hid hLS; clear hLS
    have hl9 : LS.length ≤ 9 := by rw [← HLS.out]; exact arList_len _ _ _ _ _ _ _
    have S3 : Hid (∃ (g' : Nat) (M' zs' : List Int), QAt w3 g' _ zs' ∧ g' ≠ gm ∧ w.heap.size + 1 ≤ g' ∧ (vl.ownBlock = none ∨ vl.ownBlock ≠ some g') ∧ OwnsI w3 wr.heap.size vl LS ∧ OwnsI w3 B (.slice (some ⟨gm, 0, none⟩) n mcap) M' ∧ SpI n (fun i => xs.getD i false) (adjW W corners) first M0 M' zs' (fun j => j = cl) ∧ (∀ q, q < 0 → 0 ≤ M'.getD (LS.getD q 0).toNat 0) ∧ 2 * unM n M' + zs'.length + 1 ≤ gk ∧ w3.heap[w.heap.size]? = some (.cells #[.int .i64 W, .int .i64 T, .slice a n cap] 25 (0, 0)) ∧ w.grownBy w3 (some gm)) :=
     ⟨g, M, zs, HQ.out.below hb3, SP.out.ne, SP.out.ge, (by
      cases hv : vl.ownBlock with
      | none => exact Or.inl rfl
      | some k => right; intro e; have := OwnsI.ownAt hol (Nat.le_refl _) k hv; have := Option.some.inj e; omega), hol, SP.out.m.below hb3, HP.out, fun q hq => absurd hq (Nat.not_lt_zero q), hK, heap_later SP.out.box hb3, grown_trans SP.out.gr (grown_low hb3 _)⟩
    obtain ⟨al, capl, rfl⟩ := hol.form2
    clear hol hb3 ha1 HQ c0 c1 c2 HP hlenz hK
    have hcl' := HCC
    clear SP lg
    go_wp2
    go_loopw [8, 31] (fun v i wi => ∃ (p g' : Nat) (M' zs' : List Int), p ≤ LS.length ∧ i = .int .i64 p ∧ QAt wi g' v zs' ∧ g' ≠ gm ∧ w.heap.size + 1 ≤ g' ∧ ((Value.slice al LS.length capl).ownBlock = none ∨ (Value.slice al LS.length capl).ownBlock ≠ some g') ∧ OwnsI wi wr.heap.size (.slice al LS.length capl) LS ∧ OwnsI wi B (.slice (some ⟨gm, 0, none⟩) n mcap) M' ∧ SpI n (fun i => xs.getD i false) (adjW W corners) first M0 M' zs' (fun j => j = cl) ∧ (∀ q, q < p → 0 ≤ M'.getD (LS.getD q 0).toNat 0) ∧ 2 * unM n M' + zs'.length + 1 ≤ gk ∧ wi.heap[w.heap.size]? = some (.cells #[.int .i64 W, .int .i64 T, .slice a n cap] 25 (0, 0)) ∧ w.grownBy wi (some gm)) (fun _ i _ => LS.length - (intOf i).toNat)
    case atStart =>
     obtain ⟨g', M', zs', h⟩ := S3.out
     exact ⟨0, g', M', zs', Nat.zero_le _, rfl, h⟩
    case round =>
     clear S3
     obtain ⟨p, g', M', zs', hp, rfl, hq, hne, hge, hsep, hls, hmk, hsi, hpos, hle, hbx, hgr⟩ := hrel
     rename World => wi
     have HQ := Lib.hid hq; clear hq
     have HLO := Lib.hid hls; clear hls
     have HMK := Lib.hid hmk; clear hmk
     have HSI := Lib.hid hsi; clear hsi
     have HPO := Lib.hid hpos; clear hpos
     have HGR := Lib.hid hgr; clear hgr
     have HSEP := Lib.hid hsep; clear hsep
     by_cases hlt : p < LS.length
     · obtain ⟨u, hu, hun, hux, hua⟩ := ar_mem hW0 (by rw [← HN.out]; exact HWT.out) (by rw [HLS.out]; exact mem_getD hlt)
       rw [← HN.out] at hun
       obtain ⟨lb, lo, rfl, hcx⟩ := (OwnsI.at HLO.out) p hlt
       rw [hu] at hcx
       have hcm := HMK.out.cell (k := u) (by rw [HSI.out.len]; exact hun)
       have hfz := HMK.out.free u
       obtain ⟨mu, hmu⟩ : ∃ mu, mu = M'.getD u 0 := ⟨_, rfl⟩
       rw [← hmu] at hcm
       have hst := OwnsI.set HMK.out u (first : Int)
       have HU := Lib.hid hu; clear hu
       have hcu : Conn n (fun i => xs.getD i false) (adjW W corners) first u := .step HCC.out hua hun hux
       have HCU := Lib.hid hcu; clear hcu
       have e5 : (p : Int) < LS.length := by omega
       have e6 : (u : Int) < n := by omega
       have e7 : (0 : Int) ≤ p := by omega
       have e8 : (0 : Int) ≤ u := by omega
       have HST := Lib.hid hst; clear hst
       have lq := HQ.out.lt
       have lmk := HMK.out.lt
       by_cases hneg2 : mu < 0
       · have HMN : Hid (M'.getD u 0 < 0) := by show _ < _; rw [← hmu]; exact hneg2
         clear hmu
         obtain ⟨wS, hwS⟩ : ∃ wS, wS = wi.setCell ⟨gm, u, none⟩ (.int .i64 first) := ⟨_, rfl⟩
         have ZS : Hid (wS.heap.size = wi.heap.size) := by show _ = _; rw [hwS]; simp
         rw [← hwS] at HST
         have bS : wS.heap[w.heap.size]? = some (.cells #[.int .i64 W, .int .i64 T, .slice a n cap] 25 (0, 0)) := by rw [hwS]; exact heap_set_other hbx (by simp; omega) _
         have QS := Lib.hid (HQ.out.grown HST.out.2 (by intro e; have := Option.some.inj e; omega))
         have LSS : Hid (OwnsI wS wr.heap.size (.slice (some ⟨lb, lo, none⟩) LS.length capl) LS) := HLO.out.keptUp HST.out.2 (by
          right; intro e
          have h1 := OwnsI.ownAt HLO.out (Nat.le_refl _) gm e
          omega)
         have GS := Lib.hid (grown_trans HGR.out HST.out.2)
         have hzl : zs'.length ≤ 1000000 := by omega
         go_upto_region 11 with fail
         rw [← hwS]
         clear hwS hcm hcx hfz
         go_wp2_with (at_builtin; refine wpList_push _ rfl _ _ rfl rfl (QS.out.below (below1 wS (.cells #[.int .i64 u] 3 (0, 0)))) ⟨wS.heap.size, 0, none⟩ 1 u rfl (new_int wS _) hzl ?_; intro g2 v2 w2 hq2 hgrow hor; have hq2' := Lib.hid hq2; clear hq2)
         have zS := ZS.out
         have b2 := heap_grown (heap_later bS (below1 wS (.cells #[.int .i64 u] 3 (0, 0)))) hgrow (by intro e; have := Option.some.inj e; omega)
         have M2 := Lib.hid ((HST.out.1.alloc (.cells #[.int .i64 u] 3 (0, 0))).keptUp hgrow (own_two hne))
         have L2 := Lib.hid ((LSS.out.alloc (.cells #[.int .i64 u] 3 (0, 0))).keptUp hgrow HSEP.out)
         have G2 := Lib.hid (grown_new (grown_trans GS.out (World.grownBy_alloc wS (.cells #[.int .i64 u] 3 (0, 0)) _)) hgrow (by omega))
         have l2 : ∀ k, (Value.slice (some ⟨lb, lo, none⟩) LS.length capl).ownBlock = some k → k < wS.heap.size := fun k e => OwnsI.blkLt LSS.out k e
         have hun2 := unM_set (first := first) hun HSI.out.len HMN.out
         go_roundw
         case rel =>
          refine ⟨p + 1, g2, M'.set u (first : Int), zs' ++ [(u : Int)], by omega, by go_num, hq2'.out, ?_, ?_, ?_, L2.out, M2.out, HSI.out.mark hun HCU.out HMN.out, fun q hq => ?_, ?_, b2, G2.out⟩
          · rcases hor with e | e
            · rw [e]; exact hne
            · simp at e; omega
          · rcases hor with e | e
            · rw [e]; exact hge
            · simp at e; omega
          · rcases hor with e | e
            · rw [e]; exact HSEP.out
            · right; intro e'; have := l2 _ e'; simp at e; omega
          · rw [getD_set1]
            split
            · omega
            · by_cases e : q = p
              · subst e; rename_i hno; exfalso; apply hno; rw [HU.out]; exact ⟨by simp, by rw [HSI.out.len]; exact hun⟩
              · exact HPO.out q (by omega)
          · simp; omega
         case measure => simp [intOf]; omega
       · have HMN : Hid (0 ≤ M'.getD u 0) := by show 0 ≤ _; rw [← hmu]; omega
         clear hmu HST
         go_wp2
         go_roundw
         case rel =>
          refine ⟨p + 1, g', M', zs', by omega, by go_num, HQ.out, hne, hge, HSEP.out, HLO.out, HMK.out, HSI.out, fun q hq => ?_, hle, hbx, HGR.out⟩
          by_cases e : q = p
          · subst e; rw [HU.out]; simpa using HMN.out
          · exact HPO.out q (by omega)
         case measure => simp [intOf]; omega
     · obtain rfl : p = LS.length := by omega
       have hall : AllM n (fun i => xs.getD i false) (adjW W corners) M' cl := by
        intro j h1 h2 h3
        have hm := ar_all (c := cl) (T := T) hW0 hT0 (by rw [← HN.out]; exact HWT.out) (by rw [← HN.out]; exact h2) h3 h1
        rw [HLS.out] at hm
        obtain ⟨q, hq, e⟩ := getD_of_mem hm
        have := HPO.out q hq
        rw [e] at this
        simpa using this
       have HSC := Lib.hid (HSI.out.closed hall)
       go_wp2
       go_roundg (gk - 1)
       case measure => omega
       case rel => exact ⟨by omega, g', M', zs', HQ.out, hne, hge, HMK.out, HSC.out, by omega, hbx, HGR.out⟩
end Go.Proofs.YtpcajacekmidbaaGreat

namespace Go.Proofs.YtpcajacekmidbaaGreat
open Go.RowKit
set_option linter.unusedVariables false
set_option maxRecDepth 100000
set_option linter.unusedSimpArgs false

set_option maxHeartbeats 1000000 in
theorem mul64_one (n : Nat) (hn : n ≤ 10000) (w : World) :
 Calls Tryz.prog 123 #[.int .u64 1, .int .u64 n] w fun e w' => e = .returned (.tuple #[.int .u64 0, .int .u64 n]) ∧ w' = w := by
 have e1 : bits .and .u64 (1 : Int) 4294967295 = 1 := by decide
 have e2 : bits .and .u64 (n : Int) 4294967295 = n := by
  have h := bits_and_u64_nat n 4294967295 (by omega) (by omega)
  have e : n &&& 4294967295 = n := by
   rw [show (4294967295 : Nat) = 2 ^ 32 - 1 from rfl, Nat.and_two_pow_sub_one_eq_mod]; omega
  rw [e] at h; exact h
 have e3 : (n : Int) / 4294967296 = 0 := by omega
 go_enter Tryz.func123, Tryz.ntmps123
 go_wp2
 go_ret2
 have e4 : IntKind.u64.wrap (IntKind.u64.wrap (bits .and .u64 0 4294967295) / 4294967296) = 0 := by decide
 have e5 : IntKind.u64.wrap (n : Int) = n := by rw [IntKind.wrap_u64]; omega
 exact ⟨by simp [*], rfl⟩

theorem mul_one (n : Nat) (hn : n ≤ 10000) (w : World) :
 Calls Tryz.prog 113 #[.int .u64 1, .int .u64 n] w fun e w' => e = .returned (.tuple #[.int .u64 0, .int .u64 n]) ∧ w' = w := by
 go_enter Tryz.func113, Tryz.ntmps113
 go_wp2_with (go_at_call 123; refine (mul64_one n hn _).mono ?_; rintro e w1 ⟨rfl, rfl⟩)
 go_ret2
 exact ⟨rfl, rfl⟩

def RepAt (w : World) (g n k : Nat) (z : Int) : Prop := ∃ cur : List Value, w.heap[g]? = some (.cells cur.toArray 3 (0, 0)) ∧ cur.length = n ∧ k ≤ n ∧ ∀ j, j < k → cur[j]? = some (.int .i64 z)
theorem RepAt.owns {w : World} {B g n : Nat} {z : Int} (h : RepAt w g n n z) (hB : B ≤ g) (hm : n ≤ maxLen) : OwnsI w B (.slice (some ⟨g, 0, none⟩) n n) (List.replicate n z) := by
 obtain ⟨cur, h1, h2, _, h3⟩ := h
 unfold OwnsI World.ownsRow
 have e : cur = (List.replicate n z).map (Value.int .i64) := by
  apply List.ext_getElem?
  intro j
  by_cases hj : j < n
  · rw [h3 j hj]; simp [hj]
  · rw [List.getElem?_eq_none (by omega), List.getElem?_eq_none (by simp; omega)]
 refine ⟨by simp, Or.inr ⟨g, n, cur.toArray, by simp, hB, h1, by simp, hm, by simp [h2], ?_⟩⟩
 rw [← e]; simp [h2, List.take_of_length_le]
theorem RepAt.splice {w : World} {g n k m : Nat} {z : Int} {cur : List Value} (hk : k + m ≤ n) (hl : cur.length = n) (hc : ∀ j, j < k → cur[j]? = some (.int .i64 z))
 (h : w.heap[g]? = some (.cells (Go.splice cur k (List.replicate m (.int .i64 z))).toArray 3 (0, 0))) : RepAt w g n (k + m) z := by
 refine ⟨_, h, by rw [length_splice _ _ _ (by simp; omega), hl], hk, fun j hj => ?_⟩
 unfold Go.splice
 by_cases h1 : j < k
 · rw [List.getElem?_append_left (by simp; omega), List.getElem?_take_of_lt h1, hc j h1]
 · rw [List.getElem?_append_right (by simp; omega), List.getElem?_append_left (by simp; omega)]
   simp only [List.length_take, hl, List.getElem?_replicate]
   rw [if_pos (by omega)]

theorem own_block {w : World} {B g n : Nat} {xs : List Value} (h : w.ownsRow B 3 1 (.slice (some ⟨g, 0, none⟩) n n) n xs) : ∃ cur : List Value, w.heap[g]? = some (.cells cur.toArray 3 (0, 0)) ∧ cur.length = n := by
 rcases h.2 with ⟨h1, _⟩ | ⟨g', cap', cs, hv, hg, hh, hn, hm, hs, ht⟩
 · simp at h1
 · simp only [Value.slice.injEq, Option.some.injEq, Addr.mk.injEq] at hv
   obtain ⟨⟨rfl, _⟩, _, rfl⟩ := hv
   exact ⟨cs.toList, by simpa using hh, by simpa using hs⟩
theorem rep_one (v : Value) (h : v.oneCell' = true) (m : Nat) : ∀ u ∈ List.replicate m v, u.oneCell' = true := fun u hu => by rw [List.eq_of_mem_replicate hu]; exact h
theorem rep_at {w : World} {ad : Addr} {m : Nat} {v : Value} (h : ∀ j, j < m → w.cell? (ad.add j) = some v) : ∀ j u, (List.replicate m v)[j]? = some u → w.cell? (ad.add j) = some u := by
 intro j u hj
 rw [List.getElem?_replicate] at hj
 split at hj
 · rename_i hl; rw [h j hl]; exact hj
 · cases hj
theorem add0 (b off j : Nat) : (⟨b, off, none⟩ : Addr).add j = ⟨b, off + j, none⟩ := by unfold Addr.add; split <;> simp_all
theorem RepAt.cellAt {w : World} {g n k : Nat} {z : Int} (h : RepAt w g n k z) {j : Nat} (hj : j < k) : w.cell? ⟨g, j, none⟩ = some (.int .i64 z) := by
 obtain ⟨cur, h1, h2, _, h3⟩ := h
 have := h3 j hj
 simp [World.cell?, h1, this]

set_option maxHeartbeats 2000000 in
theorem repeat_any (b off c : Nat) (z : Int) (n : Nat) (hn : n ≤ 10000) (w : World) (hz : w.cell? ⟨b, off, none⟩ = some (.int .i64 z)) :
 Calls Tryz.prog 90 #[.slice (some ⟨b, off, none⟩) 1 c, .int .i64 n] w fun e w' => ∃ g, e = .returned (.slice (some ⟨g, 0, none⟩) n n) ∧ OwnsI w' w.heap.size (.slice (some ⟨g, 0, none⟩) n n) (List.replicate n z) ∧ Below w.heap.size w w' := by
 obtain ⟨i0, hi, hz0, hz1, hz2⟩ := info_parts infoInt
 have hsz : Hid ((Tryz.prog.info? 3).map (·.size) = some 1) := by show _ = _; rw [hi]; simp [hz1]
 have hbl : b < w.heap.size := by
  rcases Nat.lt_or_ge b w.heap.size with h | h
  · exact h
  · simp [World.cell?, Array.getElem?_eq_none h] at hz
 have HZ := Lib.hid hz; clear hz
 have e0 : ¬ ((n : Int) < 0) := by omega
 have e1 : IntKind.u64.wrap (n : Int) = n := by rw [IntKind.wrap_u64]; omega
 have e2 : ¬ ((9223372036854775807 : Int) < n) := by omega
 obtain ⟨m0, hm0⟩ : ∃ m0, m0 = Nat.min 1 n := ⟨_, rfl⟩
 have hm1 : m0 ≤ n ∧ m0 ≤ 1 ∧ (0 < n → 1 ≤ m0) := by rw [hm0]; exact ⟨Nat.min_le_right _ _, Nat.min_le_left _ _, fun h => by show 1 ≤ min 1 n; omega⟩
 have HM := Lib.hid hm0; clear hm0
 have HM1 := Lib.hid hm1; clear hm1
 have HONE : Hid (∀ w1, Below w.heap.size w w1 → ∀ j, j < m0 → w1.cell? ((⟨b, off, none⟩ : Addr).add j) = some (.int .i64 z)) := by
  intro w1 hb j hj
  have h1 := HM1.out
  have : j = 0 := by omega
  subst this
  rw [add0, (bcell hb).1 _ _ hbl]; exact HZ.out
 go_enter Tryz.func90, Tryz.ntmps90
 go_wp2_with first
  | (go_at_call 113; refine (mul_one n hn _).mono ?_; rintro e w1 ⟨rfl, hw⟩; rw [hw]; clear hw)
  | (at_make; refine wpList_make_full _ rfl _ _ 26 rfl w.heap.size 3 i0 (.int .i64 0) 1 Tryz.underlying26 hi hz0 hz1 _ _ _ _ n rfl rfl rfl rfl (by rw [hz2]; omega) (by unfold maxLen; omega) (by simp) ?_; intro w1 hown hgrow; have hb := grown_below hgrow; obtain ⟨cur, hcur, hlc⟩ := own_block hown; have HC := Lib.hid hcur; have HLC := Lib.hid hlc; clear hown hcur hlc)
  | (refine wpList_copy_splice rfl _ _ _ _ rfl 3 Tryz.underlying26 hsz.out _ _ _ _ _ _ rfl rfl w.heap.size 0 cur 3 HC.out (List.replicate m0 (.int .i64 z)) (by rw [List.length_replicate]; exact HM.out) (fun hp => ⟨rfl, _, rfl, rep_at (HONE.out _ hb)⟩) (by rw [List.length_replicate, HLC.out]; have h1 := HM1.out; omega) (rep_one _ rfl _) w.heap.size w hb (Nat.le_refl _) ?_; intro w2 HG2 hB2)
  | fail
 have hlr : (List.replicate m0 (Value.int .i64 z)).length = m0 := List.length_replicate
 have R0 : Hid (RepAt w2 w.heap.size n m0 z) := by
  have h1 := HM1.out
  have := RepAt.splice (k := 0) (m := m0) (by omega) HLC.out (fun j hj => absurd hj (Nat.not_lt_zero j)) HG2.out
  rw [Nat.zero_add] at this; exact this
 clear HG2 HC HLC
 go_loopw [8] (fun v8 wr => ∃ k : Nat, v8 = .int .i64 k ∧ (0 < n → 1 ≤ k) ∧ RepAt wr w.heap.size n k z ∧ Below w.heap.size w wr) (fun v8 _ => n - (intOf v8).toNat)
 case atStart => exact ⟨m0, by simp [go_sem], HM1.out.2.2, R0.out, hB2⟩
 case round =>
  clear R0 hB2 HM HM1 hlr
  obtain ⟨k, rfl, hk1, hra, hbl2⟩ := hrel
  rename World => wr
  have hkn : k ≤ n := by obtain ⟨_, _, _, h, _⟩ := hra; exact h
  have HR := Lib.hid hra; clear hra
  have HB := Lib.hid hbl2; clear hbl2
  by_cases hlt : k < n
  · obtain ⟨cur2, hc1, hc2, _, hc4⟩ := HR.out
    have HC1 := Lib.hid hc1; clear hc1
    have HC2 := Lib.hid hc2; clear hc2
    have HC4 := Lib.hid hc4; clear hc4
    obtain ⟨m, hm⟩ : ∃ m, m = Nat.min k (n - k) := ⟨_, rfl⟩
    have hm1 : Hid (m ≤ k ∧ k + m ≤ n ∧ 1 ≤ m) := by
     have : m = min k (n - k) := hm
     refine ⟨?_, ?_, ?_⟩ <;> omega
    have HM := Lib.hid hm; clear hm
    have hk0 : ((k : Int)).toNat = k := by omega
    have hkc : (k : Int) < n := by omega
    have hk2 : (0 : Int) ≤ k := by omega
    have hk3 : (k : Int) ≤ n := by omega
    have hnk : ¬ n = k := by omega
    have s1 : Hid ((List.replicate m (Value.int .i64 z)).length = Nat.min k (n - k)) := by show _ = _; rw [List.length_replicate]; exact HM.out
    have s2 : Hid (0 < (List.replicate m (Value.int .i64 z)).length → some (⟨w.heap.size, k, none⟩ : Addr) = some ⟨w.heap.size, k, none⟩ ∧ ∃ ad, some (⟨w.heap.size, 0, none⟩ : Addr) = some ad ∧ ∀ j v, (List.replicate m (Value.int .i64 z))[j]? = some v → wr.drew.cell? (ad.add j) = some v) :=
     fun _ => ⟨rfl, _, rfl, rep_at fun j hj => by rw [add0, Nat.zero_add]; exact RepAt.cellAt (w := wr.drew) HR.out (by have := hm1.out; omega)⟩
    have s3 : Hid (k + (List.replicate m (Value.int .i64 z)).length ≤ cur2.length) := by show _ ≤ _; rw [List.length_replicate, HC2.out]; exact hm1.out.2.1
    have hlm : (List.replicate m (Value.int .i64 z)).length = m := List.length_replicate
    go_upto_region 9 with fail
    go_region_law (refine step_copy_splice rfl (.tmp 41) (.tmp 44) 26 26 rfl 3 Tryz.underlying26 hsz.out (some ⟨w.heap.size, k, none⟩) (some ⟨w.heap.size, 0, none⟩) (n - k) (n - k) k n (by simp [Act.eval, Act.put]) (by simp [Act.eval, Act.put]) w.heap.size k cur2 3 HC1.out (List.replicate m (.int .i64 z)) s1.out s2.out s3.out (rep_one _ rfl _) w.heap.size w HB.out.drew (Nat.le_refl _) ?_; intro w4 hg4 hb4)
    have hra := Lib.hid (RepAt.splice hm1.out.2.1 HC2.out HC4.out hg4.out)
    have hm2 := hm1.out
    clear hg4 s1 s2 s3 HC1 HC2 HC4 HR
    have hwr : IntKind.i64.wrap ((k : Int) + (m : Int)) = (k : Int) + (m : Int) := by rw [IntKind.wrap_i64]; omega
    have hnm : IntKind.i64.wrap ((k : Int) + (m : Int)) = ((k + m : Nat) : Int) := by rw [hwr]; omega
    rw [hnm]
    clear hnm hwr
    go_wp2_with fail
    simp [go_sem]
    exact ⟨⟨k + m, by omega, fun h => by omega, hra.out, hb4⟩, by simp only [intOf]; omega⟩
  · obtain rfl : k = n := by omega
    go_wp2
    go_ret
    exact ⟨_, rfl, HR.out.owns (Nat.le_refl _) (by unfold maxLen; omega), HB.out⟩
end Go.Proofs.YtpcajacekmidbaaGreat

namespace Go.Proofs.YtpcajacekmidbaaGreat
open Go.RowKit
set_option linter.unusedVariables false
set_option maxRecDepth 100000
set_option linter.unusedSimpArgs false

set_option maxHeartbeats 400000 in
theorem marksOf_any (W T : Int) (a : Option Addr) (n cap : Nat) (xs : List Bool) (corners : Bool) (w : World) (hn : n = xs.length) (hW0 : 1 ≤ W) (hW1 : W ≤ 100) (hT0 : 0 ≤ T) (hT1 : T ≤ 100) (hWT : (n : Int) = W * T) (ha : BoolsAt w a xs) :
 Calls Tryz.prog 83 #[.agg #[.int .i64 W, .int .i64 T, .slice a n cap], .bool corners] w fun e w' => ∃ g M, e = .returned (.slice (some ⟨g, 0, none⟩) n n) ∧ M.length = n ∧ OwnsI w' w.heap.size (.slice (some ⟨g, 0, none⟩) n n) M ∧ Marks n (fun i => xs.getD i false) (adjW W corners) M ∧ Below w.heap.size w w' := by
 have pb := (prod_bd (by omega) hW1 hT0 hT1).2
 have n4 : n ≤ 10000 := by omega
 have HN := Lib.hid hn; clear hn
 have HWT := Lib.hid hWT; clear hWT
 have HA := Lib.hid ha; clear ha
 have hz : ((w.alloc (.cells #[.int .i64 W, .int .i64 T, .slice a n cap] 25)).alloc (.cells #[.int .i64 (-1)] 3)).cell? ⟨w.heap.size + 1, 0, none⟩ = some (.int .i64 (-1)) := by
  have h := new_int (w.alloc (.cells #[.int .i64 W, .int .i64 T, .slice a n cap] 25)) (-1) 0 _ rfl
  rw [add0] at h
  simp at h ⊢
 have HZ := Lib.hid hz; clear hz
 go_enter Tryz.func83, Tryz.ntmps83
 go_wp2_with (go_at_call 90; refine (repeat_any (w.heap.size + 1) 0 1 (-1) n n4 _ HZ.out).mono ?_; rintro e w1 ⟨g, rfl, ho, hb⟩; have hbx := heap_later (heap_later (heap_new w (.cells #[.int .i64 W, .int .i64 T, .slice a n cap] 25 (0, 0))) (below1 _ _)) hb; have hb2 := below_seq (below2 _ _ _) hb; obtain ⟨c0, c1, c2⟩ := cells3 hbx; have hgb := (World.ownsRow.lt ho g rfl).1; have HO := Lib.hid (ho.lower (B' := w.heap.size) (by simp; omega)); clear ho hb)
 have hgb2 : w.heap.size + 2 ≤ g := by simp at hgb; omega
 clear hgb
 have HBX := Lib.hid hbx; clear hbx
 have HB2 := Lib.hid hb2; clear hb2
 clear c0 c1 c2 HZ
 go_loopw [16] (fun i wr => ∃ (k : Nat) (M : List Int), i = .int .i64 k ∧ k ≤ n ∧ OwnsI wr w.heap.size (.slice (some ⟨g, 0, none⟩) n n) M ∧ MkI n (fun i => xs.getD i false) (adjW W corners) k M ∧ wr.heap[w.heap.size]? = some (.cells #[.int .i64 W, .int .i64 T, .slice a n cap] 25 (0, 0)) ∧ Below w.heap.size w wr) (fun i _ => n - (intOf i).toNat)
 case atStart => exact ⟨0, _, rfl, Nat.zero_le _, HO.out, MkI.start, HBX.out, HB2.out⟩
 case round =>
  clear HBX HB2 HO
  obtain ⟨k, M, rfl, hk, hom, hmk, hbx, hbl⟩ := hrel
  rename World => wr
  have HOM := Lib.hid hom; clear hom
  have HMK := Lib.hid hmk; clear hmk
  have HBL := Lib.hid hbl; clear hbl
  obtain ⟨c0, c1, c2⟩ := cells3 hbx
  have HBX := Lib.hid hbx; clear hbx
  have lg := HOM.out.lt
  by_cases hlt : k < n
  · obtain ⟨ab, ao, rfl, hcx⟩ := (HA.out.below HBL.out) k (by rw [← HN.out]; exact hlt)
    have hcm := HOM.out.cell (k := k) (by rw [HMK.out.len]; exact hlt)
    obtain ⟨mu, hmu⟩ : ∃ mu, mu = M.getD k 0 := ⟨_, rfl⟩
    rw [← hmu] at hcm
    obtain ⟨xk, hxk⟩ : ∃ xk, xk = xs.getD k false := ⟨_, rfl⟩
    rw [← hxk] at hcx
    have HMU := Lib.hid hmu; clear hmu
    have HXK := Lib.hid hxk; clear hxk
    have e1 : (k : Int) < n := by omega
    have e2 : (0 : Int) ≤ k := by omega
    have e3 : ((k : Int)).toNat = k := by omega
    cases xk
    · go_wp2
      go_roundw
      case rel => exact ⟨k + 1, M, by go_num, by omega, HOM.out, HMK.out.skip (adjW_symm W corners) (Or.inl HXK.out.symm), HBX.out, HBL.out⟩
      case measure => simp [intOf]; omega
    · by_cases hm : mu < 0
      · have hmd : decide (mu < 0) = true := decide_eq_true hm
        have HNEG : Hid (M.getD k 0 < 0) := by show _ < _; rw [← HMU.out]; exact hm
        go_wp2_with (go_at_call 109; refine (spreadMark_any W T (some ⟨ab, ao, none⟩) n cap xs corners g n w.heap.size M k wr w HN.out hW0 hW1 hT0 hT1 HWT.out HMK.out.len hlt HXK.out.symm (HMK.out.neg (adjW_symm W corners) hlt HXK.out.symm HNEG.out) (HA.out.below HBL.out) HA.out (Nat.le_refl _) HOM.out).mono ?_; rintro e w3 ⟨⟨v, rfl⟩, M', ho3, hsp, hg3⟩; have HO3 := Lib.hid ho3; clear ho3; have HSP := Lib.hid hsp; clear hsp; have HG3 := Lib.hid hg3; clear hg3)
        go_roundw
        case rel => exact ⟨k + 1, M', by go_num, by omega, HO3.out, HMK.out.spread (adjW_symm W corners) hlt HXK.out.symm HNEG.out HSP.out, heap_grown HBX.out HG3.out (by intro e; have := Option.some.inj e; omega), below_grown HBL.out HG3.out (Nat.le_refl _) (fun k e => by have := Option.some.inj e; omega)⟩
        case measure => simp [intOf]; omega
      · have hmd : decide (mu < 0) = false := decide_eq_false hm
        go_wp2
        go_roundw
        case rel => exact ⟨k + 1, M, by go_num, by omega, HOM.out, HMK.out.skip (adjW_symm W corners) (Or.inr ⟨hlt, by rw [← HMU.out]; omega⟩), HBX.out, HBL.out⟩
        case measure => simp [intOf]; omega
  · obtain rfl : k = n := by omega
    go_wp2
    go_ret
    exact ⟨g, M, rfl, HMK.out.len, HOM.out, HMK.out.marks, HBL.out⟩
end Go.Proofs.YtpcajacekmidbaaGreat
