/- Contract of impl.spreadMark: a mark spreads to all cells that hang together with the first one. -/
import Derived.Test.YtpcajacekmidbaaSpread
import Derived.Test.YtpcajacekmidbaaQueue
import Derived.Deep.DeepCutAuto
import Derived.Deep.CutBlock
namespace Go.Proofs.Ytpcajacekmidbaa
open Go.RowKit
set_option linter.unusedVariables false
set_option maxRecDepth 100000
set_option linter.unusedSimpArgs false

theorem OwnsI.keptUp {w w' : World} {B : Nat} {v : Value} {xs : List Int} {row : Option Nat} (h : OwnsI w B v xs) (hg : w.grownBy w' row) (hr : v.ownBlock = none ∨ v.ownBlock ≠ row) : OwnsI w' B v xs := World.ownsRow.kept h hg hr
theorem grown_trans {a b c : World} {row : Option Nat} (h : a.grownBy b row) (k : b.grownBy c row) : a.grownBy c row :=
  ⟨k.os.trans h.os, k.tape.trans h.tape, k.output.trans h.output, Nat.le_trans h.size k.size, fun i hi hr => (k.block i (Nat.lt_of_lt_of_le hi h.size) hr).trans (h.block i hi hr)⟩
theorem grown_new {a b c : World} {row : Option Nat} {g : Nat} (h : a.grownBy b row) (k : b.grownBy c (some g)) (hg : a.heap.size ≤ g) : a.grownBy c row :=
  ⟨k.os.trans h.os, k.tape.trans h.tape, k.output.trans h.output, Nat.le_trans h.size k.size, fun i hi hr => (k.block i (Nat.lt_of_lt_of_le hi h.size) (by intro e; have := Option.some.inj e; omega)).trans (h.block i hi hr)⟩
theorem grown_low {a b : World} (h : Below a.heap.size a b) (row : Option Nat) : a.grownBy b row :=
  ⟨h.os, h.tape, h.output, h.size, fun k hk _ => h.block k hk⟩
theorem own_two {gm n mcap : Nat} {g : Nat} (h : g ≠ gm) : (Value.slice (some ⟨gm, 0, none⟩) n mcap).ownBlock = none ∨ (Value.slice (some ⟨gm, 0, none⟩) n mcap).ownBlock ≠ some g := Or.inr (by simp [Value.ownBlock]; omega)

/-- What stands at the head of the loop over what is still to be looked at. -/
structure SpW (W T : Int) (a : Option Addr) (n cap : Nat) (xs : List Bool) (corners : Bool) (gm mcap B first : Nat) (M0 : List Int) (w : World) (D : Nat → Prop) (k : Nat) (v : Value) (g : Nat) (M zs : List Int) (wr : World) : Prop where
  q : QAt wr g v zs
  ne : g ≠ gm
  ge : w.heap.size + 1 ≤ g
  m : OwnsI wr B (.slice (some ⟨gm, 0, none⟩) n mcap) M
  sp : SpI n (fun i => xs.getD i false) (adjW W corners) first M0 M zs D
  le : 2 * unM n M + zs.length ≤ k
  box : wr.heap[w.heap.size]? = some (.cells #[.int .i64 W, .int .i64 T, .slice a n cap] 25 (0, 0))
  gr : w.grownBy wr (some gm)

set_option maxHeartbeats 4000000 in
theorem spreadMark_any (W T : Int) (a : Option Addr) (n cap : Nat) (xs : List Bool) (corners : Bool) (gm mcap B : Nat) (M0 : List Int) (first : Nat) (w w0 : World) (hn : n = xs.length) (hW0 : 1 ≤ W) (hW1 : W ≤ 100) (hT0 : 0 ≤ T) (hT1 : T ≤ 100) (hWT : (n : Int) = W * T)
    (hl : M0.length = n) (hf : first < n) (hs : xs.getD first false = true) (hneg : ∀ j, Conn n (fun i => xs.getD i false) (adjW W corners) first j → M0.getD j 0 < 0)
    (ha : BoolsAt w a xs) (ha0 : BoolsAt w0 a xs) (hB : w0.heap.size ≤ B) (ho : OwnsI w B (.slice (some ⟨gm, 0, none⟩) n mcap) M0) :
    Calls Try.prog 132 #[.agg #[.int .i64 W, .int .i64 T, .slice a n cap], .bool corners, .slice (some ⟨gm, 0, none⟩) n mcap, .int .i64 first] w fun e w' => (∃ v, e = .returned v) ∧ ∃ M', OwnsI w' B (.slice (some ⟨gm, 0, none⟩) n mcap) M' ∧ Spread n (fun i => xs.getD i false) (adjW W corners) first M0 M' ∧ w.grownBy w' (some gm) := by
  have pb := (prod_bd (by omega) hW1 hT0 hT1).2
  have n4 : n ≤ 10000 := by omega
  have HN := Lib.hid hn; clear hn
  have HWT := Lib.hid hWT; clear hWT
  have HA0 := Lib.hid ha0; clear ha0
  have HA := Lib.hid ha; clear ha
  have HNEG := Lib.hid hneg; clear hneg
  have HS := Lib.hid hs; clear hs
  have HL := Lib.hid hl; clear hl
  have lm := ho.lt
  have hc1 := ho.cell (k := first) (by rw [HL.out]; exact hf)
  have hz1 := ho.free first
  have hst := OwnsI.set ho first (first : Int)
  have e1 : (first : Int) < n := by omega
  obtain ⟨x0, hx0⟩ : ∃ x0, x0 = M0.getD first 0 := ⟨_, rfl⟩
  rw [← hx0] at hc1
  clear hx0
  have HO := Lib.hid ho; clear ho
  have HST := Lib.hid hst; clear hst
  go_enter Try.func132, Try.ntmps132
  obtain ⟨wA, hwA⟩ : ∃ wA, wA = ((w.setCell ⟨gm, first, none⟩ (.int .i64 first)).alloc (.cells #[.int .i64 W, .int .i64 T, .slice a n cap] 25)) := ⟨_, rfl⟩
  have zA : wA.heap.size = w.heap.size + 1 := by rw [hwA]; simp
  have MA : OwnsI wA B (.slice (some ⟨gm, 0, none⟩) n mcap) (M0.set first first) := by
    rw [hwA]; exact HST.out.1.alloc _
  have GA : w.grownBy wA (some gm) := by
    rw [hwA]; exact grown_trans HST.out.2 (World.grownBy_alloc _ _ _)
  have BA : wA.heap[w.heap.size]? = some (.cells #[.int .i64 W, .int .i64 T, .slice a n cap] 25 (0, 0)) := by
    rw [hwA]
    have := heap_new (w.setCell ⟨gm, first, none⟩ (.int .i64 first)) (.cells #[.int .i64 W, .int .i64 T, .slice a n cap] 25 (0, 0))
    rwa [World.size_setCell] at this
  have S0 : SpW W T a n cap xs corners gm mcap B first M0 w (fun _ => False) (2 * n + 1) (.slice (some ⟨wA.heap.size, 0, none⟩) 1 1) wA.heap.size (M0.set first first) [(first : Int)] (wA.alloc (.cells #[.int .i64 first] 3 (0, 0))) :=
    ⟨QAt.one wA first, by omega, by omega, MA.alloc _, SpI.start HL.out hf HS.out HNEG.out, by have := unM_le n (M0.set first (first : Int)); simp; omega, heap_later BA (below1 _ _), grown_trans GA (World.grownBy_alloc _ _ _)⟩
  have HS0 := Lib.hid S0; clear S0
  clear MA GA BA HST
  go_wp2
  rw [← hwA]
  go_loopg [8] (2 * n + 1) (fun k v wr => k ≤ 2 * n + 1 ∧ ∃ (g : Nat) (M zs : List Int), SpW W T a n cap xs corners gm mcap B first M0 w (fun _ => False) k v g M zs wr)
  case atStart => exact ⟨Nat.le_refl _, _, _, _, by rw [← zA]; exact HS0.out⟩
  case round =>
    clear HS0
    obtain ⟨hk, g, M, zs, hsp⟩ := hrel
    have SP := Lib.hid hsp; clear hsp
    cases zs with
    | nil =>
      obtain ⟨off, gcap, cs, rfl, -⟩ := SP.out.q
      go_wp2
      go_end0
      have h := SP.out
      exact ⟨⟨_, rfl⟩, M, h.m, h.sp.done HNEG.out, h.gr⟩
    | cons z zs =>
      obtain ⟨off, gcap, rfl, hc, hg1, hg2, hq1, hq2⟩ := SP.out.q.head
      obtain ⟨cl, rfl, hcl, hcc, hpop⟩ := SP.out.sp.pop
      obtain ⟨c0, c1, c2⟩ := cells3 SP.out.box
      have e2 : (0 : Int) < (zs.length + 1 : Nat) := by omega
      have HQ1 := Lib.hid hq1; clear hq1
      have HQ2 := Lib.hid hq2; clear hq2
      have HP := Lib.hid hpop; clear hpop
      have HCC := Lib.hid hcc; clear hcc
      have lg := SP.out.q.lt
      have zr := heap_lt SP.out.box
      have hK : 2 * unM n M + zs.length + 1 ≤ gk := by have := SP.out.le; simp at this; omega
      have hlenz : zs.length ≤ 2 * n + 1 := by omega
      go_upto_region 5 with fail
      go_cut [8] (fun v8 wx => QAt wr g v8 zs ∧ wx = wr)
      case first =>
        cases gcap with
        | zero =>
          have hz : zs = [] := List.eq_nil_of_length_eq_zero (by omega)
          subst hz
          go_wp2
          go_meet
          exact ⟨HQ2.out (by first | rfl | trivial), rfl⟩
        | succ gcap =>
          go_wp2
          go_meet
          exact ⟨HQ1.out, rfl⟩
      case rest =>
      obtain ⟨hq, hw⟩ := hcut
      rw [hw]
      clear hw
      have HQ := Lib.hid hq; clear hq HQ1 HQ2 hc hg1 hg2
      have ha1 : BoolsAt wr a xs := BoolsAt.grown HA.out HA0.out SP.out.gr (fun k e => by have := Option.some.inj e; omega)
      go_wp2_with fail
      refine (cellsAround_any W T a n cap xs cl corners _ HN.out hW0 hW1 hT0 hT1 HWT.out hcl ha1).mono ?_; rintro e w3 ⟨vl, rfl, hol, hb3⟩
      obtain ⟨LS, hLS⟩ : ∃ LS, arList W T xs ((cl : Int) % W) ((cl : Int) / W) corners 9 = LS := ⟨_, rfl⟩
      rw [hLS] at hol
      have HLS := Lib.hid hLS; clear hLS
      have hl9 : LS.length ≤ 9 := by rw [← HLS.out]; exact arList_len _ _ _ _ _ _ _
      have S3 : Hid (∃ (g' : Nat) (M' zs' : List Int), QAt w3 g' _ zs' ∧ g' ≠ gm ∧ w.heap.size + 1 ≤ g' ∧ (vl.ownBlock = none ∨ vl.ownBlock ≠ some g') ∧ OwnsI w3 wr.heap.size vl LS ∧ OwnsI w3 B (.slice (some ⟨gm, 0, none⟩) n mcap) M' ∧ SpI n (fun i => xs.getD i false) (adjW W corners) first M0 M' zs' (fun j => j = cl) ∧ (∀ q, q < 0 → 0 ≤ M'.getD (LS.getD q 0).toNat 0) ∧ 2 * unM n M' + zs'.length + 1 ≤ gk ∧ w3.heap[w.heap.size]? = some (.cells #[.int .i64 W, .int .i64 T, .slice a n cap] 25 (0, 0)) ∧ w.grownBy w3 (some gm)) :=
        ⟨g, M, zs, HQ.out.below hb3, SP.out.ne, SP.out.ge, (by
          cases hv : vl.ownBlock with
          | none => exact Or.inl rfl
          | some k => right; intro e; have := OwnsI.ownAt hol (Nat.le_refl _) k hv; have := Option.some.inj e; omega), hol, SP.out.m.below hb3, HP.out, fun q hq => absurd hq (Nat.not_lt_zero q), hK, heap_later SP.out.box hb3, grown_trans SP.out.gr (grown_low hb3 _)⟩
      obtain ⟨al, capl, rfl⟩ := hol.form2
      clear hol hb3 ha1 HQ c0 c1 c2 HP hlenz hK
      have hcl' := HCC
      clear SP lg
      go_wp2
      go_loopw [8, 31] (fun v i wi => ∃ (p g' : Nat) (M' zs' : List Int), p ≤ LS.length ∧ i = .int .i64 p ∧ QAt wi g' v zs' ∧ g' ≠ gm ∧ w.heap.size + 1 ≤ g' ∧ ((Value.slice al LS.length capl).ownBlock = none ∨ (Value.slice al LS.length capl).ownBlock ≠ some g') ∧ OwnsI wi wr.heap.size (.slice al LS.length capl) LS ∧ OwnsI wi B (.slice (some ⟨gm, 0, none⟩) n mcap) M' ∧ SpI n (fun i => xs.getD i false) (adjW W corners) first M0 M' zs' (fun j => j = cl) ∧ (∀ q, q < p → 0 ≤ M'.getD (LS.getD q 0).toNat 0) ∧ 2 * unM n M' + zs'.length + 1 ≤ gk ∧ wi.heap[w.heap.size]? = some (.cells #[.int .i64 W, .int .i64 T, .slice a n cap] 25 (0, 0)) ∧ w.grownBy wi (some gm)) (fun _ i _ => LS.length - (intOf i).toNat)
      case atStart =>
        obtain ⟨g', M', zs', h⟩ := S3.out
        exact ⟨0, g', M', zs', Nat.zero_le _, rfl, h⟩
      case round =>
        clear S3
        obtain ⟨p, g', M', zs', hp, rfl, hq, hne, hge, hsep, hls, hmk, hsi, hpos, hle, hbx, hgr⟩ := hrel
        rename World => wi
        have HQ := Lib.hid hq; clear hq
        have HLO := Lib.hid hls; clear hls
        have HMK := Lib.hid hmk; clear hmk
        have HSI := Lib.hid hsi; clear hsi
        have HPO := Lib.hid hpos; clear hpos
        have HGR := Lib.hid hgr; clear hgr
        have HSEP := Lib.hid hsep; clear hsep
        by_cases hlt : p < LS.length
        · obtain ⟨u, hu, hun, hux, hua⟩ := ar_mem hW0 (by rw [← HN.out]; exact HWT.out) (by rw [HLS.out]; exact mem_getD hlt)
          rw [← HN.out] at hun
          obtain ⟨lb, lo, rfl, hcx⟩ := (OwnsI.at HLO.out) p hlt
          rw [hu] at hcx
          have hcm := HMK.out.cell (k := u) (by rw [HSI.out.len]; exact hun)
          have hfz := HMK.out.free u
          obtain ⟨mu, hmu⟩ : ∃ mu, mu = M'.getD u 0 := ⟨_, rfl⟩
          rw [← hmu] at hcm
          have hst := OwnsI.set HMK.out u (first : Int)
          have HU := Lib.hid hu; clear hu
          have hcu : Conn n (fun i => xs.getD i false) (adjW W corners) first u := .step HCC.out hua hun hux
          have HCU := Lib.hid hcu; clear hcu
          have e5 : (p : Int) < LS.length := by omega
          have e6 : (u : Int) < n := by omega
          have e7 : (0 : Int) ≤ p := by omega
          have e8 : (0 : Int) ≤ u := by omega
          have HST := Lib.hid hst; clear hst
          have lq := HQ.out.lt
          have lmk := HMK.out.lt
          by_cases hneg2 : mu < 0
          · have HMN : Hid (M'.getD u 0 < 0) := by show _ < _; rw [← hmu]; exact hneg2
            clear hmu
            obtain ⟨wS, hwS⟩ : ∃ wS, wS = wi.setCell ⟨gm, u, none⟩ (.int .i64 first) := ⟨_, rfl⟩
            have ZS : Hid (wS.heap.size = wi.heap.size) := by show _ = _; rw [hwS]; simp
            rw [← hwS] at HST
            have bS : wS.heap[w.heap.size]? = some (.cells #[.int .i64 W, .int .i64 T, .slice a n cap] 25 (0, 0)) := by rw [hwS]; exact heap_set_other hbx (by simp; omega) _
            have QS := Lib.hid (HQ.out.grown HST.out.2 (by intro e; have := Option.some.inj e; omega))
            have LSS : Hid (OwnsI wS wr.heap.size (.slice (some ⟨lb, lo, none⟩) LS.length capl) LS) := HLO.out.keptUp HST.out.2 (by
              right; intro e
              have h1 := OwnsI.ownAt HLO.out (Nat.le_refl _) gm e
              omega)
            have GS := Lib.hid (grown_trans HGR.out HST.out.2)
            have hzl : zs'.length ≤ 1000000 := by omega
            go_upto_region 11 with fail
            rw [← hwS]
            clear hwS hcm hcx hfz
            go_wp2_with (at_builtin; refine wpList_push _ rfl _ _ rfl rfl (QS.out.below (below1 wS (.cells #[.int .i64 u] 3 (0, 0)))) ⟨wS.heap.size, 0, none⟩ 1 u rfl (new_int wS _) hzl ?_; intro g2 v2 w2 hq2 hgrow hor; have hq2' := Lib.hid hq2; clear hq2)
            have zS := ZS.out
            have b2 := heap_grown (heap_later bS (below1 wS (.cells #[.int .i64 u] 3 (0, 0)))) hgrow (by intro e; have := Option.some.inj e; omega)
            have M2 := Lib.hid ((HST.out.1.alloc (.cells #[.int .i64 u] 3 (0, 0))).keptUp hgrow (own_two hne))
            have L2 := Lib.hid ((LSS.out.alloc (.cells #[.int .i64 u] 3 (0, 0))).keptUp hgrow HSEP.out)
            have G2 := Lib.hid (grown_new (grown_trans GS.out (World.grownBy_alloc wS (.cells #[.int .i64 u] 3 (0, 0)) _)) hgrow (by omega))
            have l2 : ∀ k, (Value.slice (some ⟨lb, lo, none⟩) LS.length capl).ownBlock = some k → k < wS.heap.size := fun k e => OwnsI.blkLt LSS.out k e
            have hun2 := unM_set (first := first) hun HSI.out.len HMN.out
            go_roundw
            case rel =>
              refine ⟨p + 1, g2, M'.set u (first : Int), zs' ++ [(u : Int)], by omega, by go_num, hq2'.out, ?_, ?_, ?_, L2.out, M2.out, HSI.out.mark hun HCU.out HMN.out, fun q hq => ?_, ?_, b2, G2.out⟩
              · rcases hor with e | e
                · rw [e]; exact hne
                · simp at e; omega
              · rcases hor with e | e
                · rw [e]; exact hge
                · simp at e; omega
              · rcases hor with e | e
                · rw [e]; exact HSEP.out
                · right; intro e'; have := l2 _ e'; simp at e; omega
              · rw [getD_set1]
                split
                · omega
                · by_cases e : q = p
                  · subst e; rename_i hno; exfalso; apply hno; rw [HU.out]; exact ⟨by simp, by rw [HSI.out.len]; exact hun⟩
                  · exact HPO.out q (by omega)
              · simp; omega
            case measure => simp [intOf]; omega
          · have HMN : Hid (0 ≤ M'.getD u 0) := by show 0 ≤ _; rw [← hmu]; omega
            clear hmu HST
            go_wp2
            go_roundw
            case rel =>
              refine ⟨p + 1, g', M', zs', by omega, by go_num, HQ.out, hne, hge, HSEP.out, HLO.out, HMK.out, HSI.out, fun q hq => ?_, hle, hbx, HGR.out⟩
              by_cases e : q = p
              · subst e; rw [HU.out]; simpa using HMN.out
              · exact HPO.out q (by omega)
            case measure => simp [intOf]; omega
        · obtain rfl : p = LS.length := by omega
          have hall : AllM n (fun i => xs.getD i false) (adjW W corners) M' cl := by
            intro j h1 h2 h3
            have hm := ar_all (c := cl) (T := T) hW0 hT0 (by rw [← HN.out]; exact HWT.out) (by rw [← HN.out]; exact h2) h3 h1
            rw [HLS.out] at hm
            obtain ⟨q, hq, e⟩ := getD_of_mem hm
            have := HPO.out q hq
            rw [e] at this
            simpa using this
          have HSC := Lib.hid (HSI.out.closed hall)
          go_wp2
          go_roundg (gk - 1)
          case measure => omega
          case rel => exact ⟨by omega, g', M', zs', HQ.out, hne, hge, HMK.out, HSC.out, by omega, hbx, HGR.out⟩
end Go.Proofs.Ytpcajacekmidbaa
