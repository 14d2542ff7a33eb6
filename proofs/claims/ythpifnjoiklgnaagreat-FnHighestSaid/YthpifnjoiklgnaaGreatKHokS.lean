/- Contract of spec.HeightsOk. -/
import Derived.Test.YthpifnjoiklgnaaGreatKEdge
namespace Go.Proofs.YthpifnjoiklgnaaGreat
open Go.RowKit
set_option linter.unusedVariables false
set_option maxRecDepth 100000
set_option linter.unusedSimpArgs false

def endB (W : Int) (l : List (Nat × Bool)) (i : Nat) : Bool := l.any fun s => decide (i = s.1) || decide ((i : Int) = sTo W s.1 s.2)
def okS (W T : Int) (xs : List Bool) (H : List Int) (s : Nat × Bool) : Bool :=
 inB (H.getD s.1 0) (-60) 60 && inB (H.getD (sTo W s.1 s.2).toNat 0) (-60) 60 && rMay W T xs s.1 s.2 (H.getD (sTo W s.1 s.2).toNat 0 - H.getD s.1 0)
def fstS : List (Nat × Bool) → Int
 | [] => -1
 | s :: _ => s.1
theorem fstS_snoc (l : List (Nat × Bool)) (s : Nat × Bool) : fstS (l ++ [s]) = if fstS l < 0 then (s.1 : Int) else fstS l := by
 cases l with
 | nil => rfl
 | cons a l => show (a.1 : Int) = if (a.1 : Int) < 0 then _ else (a.1 : Int); rw [if_neg (by omega)]
theorem endB_snoc (W : Int) (l : List (Nat × Bool)) (k kt : Nat) (nth : Bool) (h : sTo W k nth = kt) (i : Nat) : endB W (l ++ [(k, nth)]) i = (if i = kt then true else if i = k then true else endB W l i) := by
 unfold endB
 rw [List.any_append]
 simp only [List.any_cons, List.any_nil, Bool.or_false, h]
 by_cases e1 : i = kt
 · subst e1; simp
 · by_cases e2 : i = k
   · subst e2; simp
   · rw [if_neg e1, if_neg e2, decide_eq_false e2, decide_eq_false (by omega)]; simp
theorem end_at {W T : Int} {xs : List Bool} {N k : Nat} (hW : 1 ≤ W) (hN : (W + 1) * (T + 1) = (N : Int)) (hk : k < N) : endB W (sidesK W T xs N) k = hAt W T xs k := by
 rw [Bool.eq_iff_iff, hAt_iff hW]
 unfold endB
 rw [List.any_eq_true]
 constructor
 · rintro ⟨⟨j, nth⟩, hs, he⟩
   obtain ⟨h1, h2⟩ := sidesK_mem.1 hs
   simp only [Bool.or_eq_true, decide_eq_true_eq] at he
   rcases he with rfl | he
   · exact Or.inl ⟨nth, h2⟩
   · exact Or.inr ⟨j, nth, h2, he.symm⟩
 · rintro (⟨nth, h⟩ | ⟨j, nth, h, he⟩)
   · exact ⟨(k, nth), sidesK_mem.2 ⟨hk, h⟩, by simp⟩
   · have := sTo_lt hW h
     exact ⟨(j, nth), sidesK_mem.2 ⟨by omega, h⟩, by simp [he]⟩
theorem hok_bad {W T : Int} {xs : List Bool} {H : List Int} {N k kt : Nat} {nth : Bool} (hW : 1 ≤ W) (hk : k < N) (hkt : kt < N) (hu : sUsed W T xs k nth = true) (ht : sTo W k nth = kt)
 (h : (inB (H.getD k 0) (-60) 60 && inB (H.getD kt 0) (-60) 60 && rMay W T xs k nth (H.getD kt 0 - H.getD k 0)) = false) : (hsMay W T xs H N && sdsOk W T xs H N) = false := by
 cases h1 : hsMay W T xs H N
 · rfl
 cases h2 : sdsOk W T xs H N
 · rfl
 have a := hsMay_at hk h1
 have b := hsMay_at hkt h1
 unfold hMay at a b
 rw [(hAt_iff hW).2 (Or.inl ⟨nth, hu⟩), if_pos rfl] at a
 rw [(hAt_iff hW).2 (Or.inr ⟨k, nth, hu, ht⟩), if_pos rfl] at b
 have c := sdsOk_iff.1 h2 (k, nth) (sidesK_mem.2 ⟨hk, hu⟩)
 simp only [ht, Int.toNat_natCast] at c
 rw [a, b, c] at h
 cases h
theorem hok_miss {W T : Int} {xs : List Bool} {H : List Int} {N k : Nat} (hW : 1 ≤ W) (hN : (W + 1) * (T + 1) = (N : Int)) (hk : k < N) (he : endB W (sidesK W T xs N) k = false) (h : H.getD k 0 ≠ 99) : hsMay W T xs H N = false := by
 refine hsMay_no hk ?_
 rw [end_at hW hN hk] at he
 unfold hMay
 rw [he, if_neg (by simp)]
 simpa using h
theorem hok_all {W T : Int} {xs : List Bool} {H : List Int} {N : Nat} (hW : 1 ≤ W) (hN : (W + 1) * (T + 1) = (N : Int)) (h1 : ∀ s ∈ sidesK W T xs N, okS W T xs H s = true) (h2 : ∀ k, k < N → endB W (sidesK W T xs N) k = false → H.getD k 0 = 99) : (hsMay W T xs H N && sdsOk W T xs H N) = true := by
 have a : hsMay W T xs H N = true := by
  unfold hsMay
  rw [List.all_eq_true]
  intro k hk
  have hkN := List.mem_range.1 hk
  unfold hMay
  cases hh : hAt W T xs k
  · rw [if_neg (by simp)]
    have := h2 k hkN (by rw [end_at hW hN hkN]; exact hh)
    simpa using this
  · rw [if_pos rfl]
    rcases (hAt_iff hW).1 hh with ⟨nth, hu⟩ | ⟨j, nth, hu, ht⟩
    · have := h1 (k, nth) (sidesK_mem.2 ⟨hkN, hu⟩)
      unfold okS at this
      simp only [Bool.and_eq_true] at this
      exact this.1.1
    · have := sTo_lt hW hu
      have := h1 (j, nth) (sidesK_mem.2 ⟨by omega, hu⟩)
      unfold okS at this
      simp only [Bool.and_eq_true] at this
      have h3 := this.1.2
      rw [ht, Int.toNat_natCast] at h3
      exact h3
 rw [a]
 rw [Bool.true_and, sdsOk_iff]
 intro s hs
 have := h1 s hs
 unfold okS at this
 simp only [Bool.and_eq_true] at this
 exact this.2
theorem fstS_sides {W T : Int} {xs : List Bool} {N : Nat} (h : 0 ≤ frstK W T xs N) : fstS (sidesK W T xs N) = frstK W T xs N := by
 obtain ⟨nth, rest, e⟩ := sidesK_head h
 rw [e]; show ((frstK W T xs N).toNat : Int) = _; omega

set_option maxHeartbeats 16000000 in
theorem sHeightsOk_any (W T : Int) (a : Option Addr) (n cap : Nat) (xs : List Bool) (la : Option Addr) (m lcap : Nat) (H : List Int) (w : World) (hn : n = xs.length) (hn' : n ≤ 1048576) (hm : m = H.length) (hm' : m ≤ 1048576) (ha : BoolsAt w a xs) (hl : IntsAt w la H) :
 Calls Tryz.prog 93 #[.agg #[.int .i64 W, .int .i64 T, .slice a n cap], .slice la m lcap] w fun e w' => e = .returned (.bool (hokB W T xs H)) ∧ Below w.heap.size w w' := by
 have HN := Lib.hid hn; clear hn
 have HM := Lib.hid hm; clear hm
 have HA := Lib.hid ha; clear ha
 have HL := Lib.hid hl; clear hl
 cases h : simpleB W T xs
 · have e : hokB W T xs H = false := by unfold hokB; rw [h]; rfl
   rw [e]
   have HS := Lib.hid h; clear h e
   go_enter Tryz.func93, Tryz.ntmps93
   go_wp2_with fail
   refine (sSimple_any _ _ _ _ _ xs _ HN.out hn' (HA.out.one _)).mono ?_; rintro e w1 ⟨rfl, hb1⟩
   rw [HS.out]
   go_wp2
   go_ret
   exact ⟨rfl, below_seq (below1 _ _) hb1⟩
 have hr := simpleB_rv h
 obtain ⟨v1, v2, v3, v4, v5, _⟩ := rv_true hr
 have hcb := corn_bd v1 v2 v3 v4
 obtain ⟨N, hN⟩ := Int.eq_ofNat_of_zero_le (show 0 ≤ (W + 1) * (T + 1) by omega)
 have HC : Hid (cornN W T xs = (N : Int)) := by show _ = _; unfold cornN; rw [hr, if_pos rfl, hN]
 have hfr := simple_first h hN
 have hfl := (frstK_lt W T xs N).2
 rw [hN] at hcb
 have hN49 : N ≤ 49 := by omega
 have HWT : Hid ((n : Int) = W * T) := by show _ = _; rw [HN.out]; exact v5
 have HR := Lib.hid hr; have HS := Lib.hid h; have HNN := Lib.hid hN
 clear hr h hN hcb v5
 by_cases hmn : m = N
 · subst hmn
   have hE : hokB W T xs H = ((hsMay W T xs H m && sdsOk W T xs H m) && (H.getD (frstK W T xs m).toNat 0 == 0)) := by
    unfold hokB; rw [HS.out, ← HM.out, HNN.out]; simp
   have HE := Lib.hid hE; clear hE
   have HFS := Lib.hid (fstS_sides hfr)
   obtain ⟨fk, hfk⟩ := Int.eq_ofNat_of_zero_le hfr
   rw [hfk] at hfl HFS
   have hfm : fk < m := by omega
   have HFK := Lib.hid hfk; clear hfk hfr hfl
   have hpos : 0 < m := by omega
   obtain ⟨lb, lo, rfl, hlc⟩ := HL.out 0 (by rw [← HM.out]; exact hpos)
   have hlb : lb < w.heap.size := World.block_lt_of_cell? w _ hlc
   clear hlc
   obtain ⟨i0, hi, hz0, hz1, hz2⟩ := info_parts infoBool
   go_enter Tryz.func93, Tryz.ntmps93
   go_wp2_with fail
   refine (sSimple_any _ _ _ _ _ xs _ HN.out hn' (HA.out.one _)).mono ?_; rintro e w1 ⟨rfl, hb1⟩
   rw [HS.out]
   have p1 := heap_later (heap_new w (.cells #[.int .i64 W, .int .i64 T, .slice a n cap] 25)) hb1
   have b1 := below_seq (below1 w (.cells #[.int .i64 W, .int .i64 T, .slice a n cap] 25)) hb1
   clear hb1
   obtain ⟨c0, c1, c2⟩ := cells3 p1
   go_wp2_with fail
   refine (sCornerMany_any _ _ _ _ _ xs _ HN.out hn' (HA.out.below b1)).mono ?_; rintro e w2 ⟨rfl, hb2⟩
   rw [HC.out]
   have p2 := heap_later p1 hb2
   have b2 := below_seq b1 hb2
   clear hb2 p1 b1 c0 c1 c2
   have lw2 := heap_lt p2
   go_wp2_with (at_make; refine wpList_make_full _ rfl _ _ 23 rfl w2.heap.size 4 i0 (.bool false) 1 Tryz.underlying23 hi hz0 hz1 _ _ _ _ m rfl rfl (by omega) (by omega) (by rw [hz2]; omega) (by unfold maxLen; omega) (by simp) ?_; intro w3 hown hgrow; have hb := grown_below hgrow; have ho1 : OwnsB w3 w2.heap.size (.slice (some ⟨w2.heap.size, 0, none⟩) m m) (List.replicate m false) := (by have h := hown; rw [made_bools] at h; unfold OwnsB; simpa using h); have R1 := (RowB.of ho1 (by simp)).congr (f' := endB W []) (fun i hi => by simp [hi, endB]); clear hown ho1; have R1H := Lib.hid R1; clear R1; have P3 := Lib.hid (heap_later p2 hb); have B3 := Lib.hid (below_seq b2 hb); clear hb hgrow p2 b2)
   go_loopw [6, 7, 8, 9, 10, 11, 12, 13, 14, 15] (fun f i _ _ _ _ _ _ _ _ wr => ∃ k : Nat, k ≤ m ∧ i = .int .i64 k ∧ f = .int .i64 (fstS (sidesK W T xs k)) ∧ RowB wr w2.heap.size w2.heap.size m m (endB W (sidesK W T xs k)) ∧ Hid (∀ s ∈ sidesK W T xs k, okS W T xs H s = true) ∧ wr.heap[w.heap.size]? = some (.cells #[.int .i64 W, .int .i64 T, .slice a n cap] 25 (0, 0)) ∧ Below w.heap.size w wr) (fun _ i _ _ _ _ _ _ _ _ _ => m - (intOf i).toNat)
   case atStart => exact ⟨0, Nat.zero_le _, rfl, rfl, R1H.out, (fun s hs => by cases hs), P3.out, B3.out⟩
   case round =>
    rename World => wo
    obtain ⟨k, hk, rfl, rfl, hrow, HOK, pr, hbel⟩ := hrel
    have ROW := Lib.hid hrow; clear hrow
    have BEL := Lib.hid hbel; clear hbel
    by_cases hlt : k < m
    · have e1 : (k : Int) < m := by omega
      have hkN : (k : Int) < (W + 1) * (T + 1) := by rw [HNN.out]; omega
      have HKN := Lib.hid hkN; clear hkN
      go_wp2
      go_loopw [6, 8, 9, 10, 11, 12, 13, 14, 15] (fun f jv _ _ _ _ _ _ _ wr => ∃ j : Nat, j ≤ 2 ∧ jv = .int .i64 j ∧ f = .int .i64 (fstS (sidesJ W T xs k j)) ∧ RowB wr w2.heap.size w2.heap.size m m (endB W (sidesJ W T xs k j)) ∧ Hid (∀ s ∈ sidesJ W T xs k j, okS W T xs H s = true) ∧ wr.heap[w.heap.size]? = some (.cells #[.int .i64 W, .int .i64 T, .slice a n cap] 25 (0, 0)) ∧ Below w.heap.size w wr) (fun _ jv _ _ _ _ _ _ _ _ => 2 - (intOf jv).toNat)
      case atStart => exact ⟨0, by omega, rfl, by rw [sidesJ_zero], by rw [sidesJ_zero]; exact ROW.out, by rw [sidesJ_zero]; exact HOK, pr, BEL.out⟩
      case round =>
       rename World => wq
       obtain ⟨j, hj, rfl, rfl, hrj, HOJ, pj, bj⟩ := hrel
       have RJ := Lib.hid hrj; clear hrj
       have BJ := Lib.hid bj; clear bj
       obtain ⟨c0, c1, c2⟩ := cells3 pj
       have lpj := heap_lt pj
       by_cases hj2 : j = 2
       · subst hj2
         have HSE : Hid (sidesJ W T xs k 2 = sidesK W T xs (k + 1)) := sidesJ_end W T xs k
         go_wp2
         go_roundw
         case rel => exact ⟨k + 1, by omega, by go_num, by rw [HSE.out], by rw [← HSE.out]; exact RJ.out, by rw [← HSE.out]; exact HOJ, pj, BJ.out⟩
         case measure => simp [intOf]; omega
       by_cases hj0 : j = 0
       · subst hj0
         clear hj hj2
         have HEV : Hid (edV W T xs k false = .tuple #[.int .i64 (sTo W k false), .bool (sUsed W T xs k false), .bool (sBoth W T xs k false), .int .i64 (if sLeft W T xs k false then sCell W k false else -1), .int .i64 (if sRight W T xs k false then sOther W k false else -1), .bool (sDark W k false)]) := rfl
         obtain ⟨ca, hca⟩ : ∃ ca, ca = (if sLeft W T xs k false then sCell W k false else -1) := ⟨_, rfl⟩
         obtain ⟨cb, hcb2⟩ : ∃ cb, cb = (if sRight W T xs k false then sOther W k false else -1) := ⟨_, rfl⟩
         rw [← hca, ← hcb2] at HEV
         clear hca hcb2
         cases hu : sUsed W T xs k false
         · rw [hu] at HEV
           have HX : Hid (sidesJ W T xs k (0 + 1) = sidesJ W T xs k 0) := by show _ = _; rw [sidesJ_one, hu]; rfl
           clear hu
           obtain ⟨kt, hkt⟩ : ∃ kt, kt = sTo W k false := ⟨_, rfl⟩
           rw [← hkt] at HEV
           clear hkt
           go_wp2_with fail
           refine (l4Edge_east _ _ _ _ _ xs k _ HN.out v1 v2 v3 v4 HWT.out HKN.out (HA.out.below BJ.out)).mono ?_; rintro e w5 ⟨rfl, hb5⟩
           rw [HEV.out]
           have p5 := heap_later pj hb5
           have B5 := Lib.hid (below_seq BJ.out hb5)
           have R5 := Lib.hid (RJ.out.below hb5)
           go_wp2
           go_roundw
           case rel => exact ⟨0 + 1, by omega, by go_num, by rw [HX.out], by rw [HX.out]; exact R5.out, by rw [HX.out]; exact HOJ, p5, B5.out⟩
           case measure => simp [intOf]
         · rw [hu] at HEV
           have HX : Hid (sidesJ W T xs k (0 + 1) = sidesJ W T xs k 0 ++ [(k, false)]) := by show _ = _; rw [sidesJ_one, hu]; rfl
           obtain ⟨t0, t1, t2⟩ := sTo_lt v1 hu
           rw [HNN.out] at t2
           obtain ⟨kt, hkt⟩ := Int.eq_ofNat_of_zero_le t0
           rw [hkt] at t1 t2 HEV
           have htm : kt < m := by omega
           have HBAD := Lib.hid (fun hh => hok_bad (H := H) v1 hlt htm hu hkt hh)
           have HGOOD : Hid ((inB (H.getD k 0) (-60) 60 && inB (H.getD kt 0) (-60) 60 && rMay W T xs k false (H.getD kt 0 - H.getD k 0)) = true → okS W T xs H (k, false) = true) := fun hh => by unfold okS; simp only [hkt, Int.toNat_natCast]; exact hh
           have HEND := Lib.hid (endB_snoc W (sidesJ W T xs k 0) k kt false hkt)
           have HFST := Lib.hid (fstS_snoc (sidesJ W T xs k 0) (k, false))
           have HRM : Hid (∀ d, rMay W T xs k false d = (d == sRise W k false || (sBoth W T xs k false && d == -3 * sRise W k false))) := fun d => rfl
           have HRS : Hid (sRise W k false = if sDark W k false then 1 else -1) := rfl
           clear hu hkt t0
           obtain ⟨x, hx⟩ : ∃ x, x = H.getD k 0 := ⟨_, rfl⟩
           obtain ⟨y, hy⟩ : ∃ y, y = H.getD kt 0 := ⟨_, rfl⟩
           have gx0 := (HL.out.below BJ.out).cellAt (i := k) (by rw [← HM.out]; exact hlt)
           have gy0 := (HL.out.below BJ.out).cellAt (i := kt) (by rw [← HM.out]; exact htm)
           rw [← hx] at gx0 HBAD HGOOD; rw [← hy] at gy0 HBAD HGOOD
           clear hx hy
           obtain ⟨D, hD⟩ : ∃ D, D = sDark W k false := ⟨_, rfl⟩
           obtain ⟨bo, hbo⟩ : ∃ bo, bo = sBoth W T xs k false := ⟨_, rfl⟩
           obtain ⟨rs, hrs⟩ : ∃ rs, rs = sRise W k false := ⟨_, rfl⟩
           rw [← hD] at HEV HRS; rw [← hbo] at HEV HRM; rw [← hrs] at HRM HRS
           clear hD hbo hrs
           obtain ⟨F, hF⟩ : ∃ F, F = fstS (sidesJ W T xs k 0) := ⟨_, rfl⟩
           rw [← hF] at HFST ⊢
           clear hF
           have k2 : (kt : Int) < m := by omega
           have hne : ¬ k = kt := by omega
           have hne2 : ¬ kt = k := by omega
           have hne3 : ¬ w2.heap.size = w.heap.size := by omega
           have hne4 : ¬ w2.heap.size = lb := by omega
           have hne5 : ¬ lb = w2.heap.size := by omega
           have hne6 : ¬ w.heap.size = w2.heap.size := by omega
           cases hix : inB x (-60) 60
           · have HBD : Hid ((hsMay W T xs H m && sdsOk W T xs H m) = false) := HBAD.out (by rw [hix]; rfl)
             have HIX := Lib.hid hix; clear hix
             by_cases hF0 : F < 0
             all_goals
              go_wp2_with fail
              refine (l4Edge_east _ _ _ _ _ xs k _ HN.out v1 v2 v3 v4 HWT.out HKN.out (HA.out.below BJ.out)).mono ?_; rintro e w5 ⟨rfl, hb5⟩
              rw [HEV.out]
              have p5 := heap_later pj hb5
              have B5 := Lib.hid (below_seq BJ.out hb5)
              have R5 := Lib.hid (RJ.out.below hb5)
              have gx := cell_later hb5 gx0
              have gy := cell_later hb5 gy0
              have zc1 := RowB.cell R5.out (k := k) hlt
              have zc2 := RowB.cell R5.out (k := kt) htm
              have zf1 := RowB.free R5.out k
              have zf2 := RowB.free R5.out kt
              have s1 := RowB.set R5.out k true
              have s2 := RowB.set s1.1 kt true
              have RF : Hid (RowB ((w5.setCell ⟨w2.heap.size, k, none⟩ (.bool true)).setCell ⟨w2.heap.size, kt, none⟩ (.bool true)) w2.heap.size w2.heap.size m m (endB W (sidesJ W T xs k (0 + 1)))) := s2.1.congr (fun i _ => by rw [HX.out, HEND.out])
              have BF := Lib.hid ((B5.out.setCell (p := ⟨w2.heap.size, k, none⟩) (Nat.le_of_lt lw2) (.bool true)).setCell (p := ⟨w2.heap.size, kt, none⟩) (Nat.le_of_lt lw2) (.bool true))
              have PF := Lib.hid (heap_off (i := kt) (.bool true) hne6 (heap_off (i := k) (.bool true) hne6 p5))
              have lp5 := heap_lt p5
              clear s1 s2 hb5
              go_wp2
              go_quiet (fail)
              go_wp2_with (first
               | (go_at_call 83; refine (l1In_any _ _ _ _).mono ?_; rintro e w6 ⟨rfl, rfl⟩; first | rw [HIX.out] | rw [HIY.out])
               | (go_at_call 98; refine (l4Rise_any _ _ _).mono ?_; rintro e w7 ⟨rfl, rfl⟩))
              go_ret
              exact ⟨ret_bool (by rw [HE.out, HBD.out]; rfl), below_seq BF.out (drewN_below _ _)⟩
           · cases hiy : inB y (-60) 60
             · have HBD : Hid ((hsMay W T xs H m && sdsOk W T xs H m) = false) := HBAD.out (by rw [hix, hiy]; rfl)
               have HIX := Lib.hid hix; have HIY := Lib.hid hiy; clear hix hiy
               by_cases hF0 : F < 0
               all_goals
                go_wp2_with fail
                refine (l4Edge_east _ _ _ _ _ xs k _ HN.out v1 v2 v3 v4 HWT.out HKN.out (HA.out.below BJ.out)).mono ?_; rintro e w5 ⟨rfl, hb5⟩
                rw [HEV.out]
                have p5 := heap_later pj hb5
                have B5 := Lib.hid (below_seq BJ.out hb5)
                have R5 := Lib.hid (RJ.out.below hb5)
                have gx := cell_later hb5 gx0
                have gy := cell_later hb5 gy0
                have zc1 := RowB.cell R5.out (k := k) hlt
                have zc2 := RowB.cell R5.out (k := kt) htm
                have zf1 := RowB.free R5.out k
                have zf2 := RowB.free R5.out kt
                have s1 := RowB.set R5.out k true
                have s2 := RowB.set s1.1 kt true
                have RF : Hid (RowB ((w5.setCell ⟨w2.heap.size, k, none⟩ (.bool true)).setCell ⟨w2.heap.size, kt, none⟩ (.bool true)) w2.heap.size w2.heap.size m m (endB W (sidesJ W T xs k (0 + 1)))) := s2.1.congr (fun i _ => by rw [HX.out, HEND.out])
                have BF := Lib.hid ((B5.out.setCell (p := ⟨w2.heap.size, k, none⟩) (Nat.le_of_lt lw2) (.bool true)).setCell (p := ⟨w2.heap.size, kt, none⟩) (Nat.le_of_lt lw2) (.bool true))
                have PF := Lib.hid (heap_off (i := kt) (.bool true) hne6 (heap_off (i := k) (.bool true) hne6 p5))
                have lp5 := heap_lt p5
                clear s1 s2 hb5
                go_wp2
                go_quiet (fail)
                go_wp2_with (first
                 | (go_at_call 83; refine (l1In_any _ _ _ _).mono ?_; rintro e w6 ⟨rfl, rfl⟩; first | rw [HIX.out] | rw [HIY.out])
                 | (go_at_call 98; refine (l4Rise_any _ _ _).mono ?_; rintro e w7 ⟨rfl, rfl⟩))
                go_ret
                exact ⟨ret_bool (by rw [HE.out, HBD.out]; rfl), below_seq BF.out (drewN_below _ _)⟩
             · obtain ⟨x0, x1⟩ := inB_rng hix
               obtain ⟨y0, y1⟩ := inB_rng hiy
               obtain ⟨d, hdd⟩ : ∃ d, y - x = d := ⟨_, rfl⟩
               have hdw : IntKind.i64.wrap d = d := by rw [IntKind.wrap_i64]; omega
               have rr := HRM.out d
               rw [hdd] at HBAD HGOOD
               have HIX := Lib.hid hix; have HIY := Lib.hid hiy; clear hix hiy
               have RR := Lib.hid rr; clear rr
               cases D
               · have hrs1 : rs = -1 := by have := HRS.out; simpa using this
                 by_cases q1 : d = -1
                 · have t1 : (d == (-1)) = true := by simpa using q1
                   have t2 : (d != (-1)) = false := by simpa using q1
                   have HGV : Hid ((inB x (-60) 60 && inB y (-60) 60 && rMay W T xs k false d) = true) := by show _ = _; rw [HIX.out, HIY.out, RR.out, hrs1]; rw [t1]; rfl
                   have HOK2 : Hid (∀ s ∈ sidesJ W T xs k (0 + 1), okS W T xs H s = true) := fun s hs => by
                    rw [HX.out, List.mem_append, List.mem_singleton] at hs
                    rcases hs with hs | rfl
                    · exact HOJ.out s hs
                    · exact HGOOD.out HGV.out
                   clear hrs1 q1
                   by_cases hF0 : F < 0
                   all_goals
                    go_wp2_with fail
                    refine (l4Edge_east _ _ _ _ _ xs k _ HN.out v1 v2 v3 v4 HWT.out HKN.out (HA.out.below BJ.out)).mono ?_; rintro e w5 ⟨rfl, hb5⟩
                    rw [HEV.out]
                    have p5 := heap_later pj hb5
                    have B5 := Lib.hid (below_seq BJ.out hb5)
                    have R5 := Lib.hid (RJ.out.below hb5)
                    have gx := cell_later hb5 gx0
                    have gy := cell_later hb5 gy0
                    have zc1 := RowB.cell R5.out (k := k) hlt
                    have zc2 := RowB.cell R5.out (k := kt) htm
                    have zf1 := RowB.free R5.out k
                    have zf2 := RowB.free R5.out kt
                    have s1 := RowB.set R5.out k true
                    have s2 := RowB.set s1.1 kt true
                    have RF : Hid (RowB ((w5.setCell ⟨w2.heap.size, k, none⟩ (.bool true)).setCell ⟨w2.heap.size, kt, none⟩ (.bool true)) w2.heap.size w2.heap.size m m (endB W (sidesJ W T xs k (0 + 1)))) := s2.1.congr (fun i _ => by rw [HX.out, HEND.out])
                    have BF := Lib.hid ((B5.out.setCell (p := ⟨w2.heap.size, k, none⟩) (Nat.le_of_lt lw2) (.bool true)).setCell (p := ⟨w2.heap.size, kt, none⟩) (Nat.le_of_lt lw2) (.bool true))
                    have PF := Lib.hid (heap_off (i := kt) (.bool true) hne6 (heap_off (i := k) (.bool true) hne6 p5))
                    have lp5 := heap_lt p5
                    clear s1 s2 hb5
                    go_wp2
                    go_quiet (fail)
                    go_wp2_with (first
                     | (go_at_call 83; refine (l1In_any _ _ _ _).mono ?_; rintro e w6 ⟨rfl, rfl⟩; first | rw [HIX.out] | rw [HIY.out])
                     | (go_at_call 98; refine (l4Rise_any _ _ _).mono ?_; rintro e w7 ⟨rfl, rfl⟩))
                    go_roundw
                    case rel => exact ⟨0 + 1, by omega, by go_num, by rw [HX.out, HFST.out]; first | (simp [hF0]; done) | (simp [hF0]; intro hh; omega), RF.out.below (drewN_below _ _), HOK2, heap_later PF.out (drewN_below _ _), below_seq BF.out (drewN_below _ _)⟩
                    case measure => simp [intOf]
                 · have t1 : (d == (-1)) = false := by simpa using q1
                   have t2 : (d != (-1)) = true := by simpa using q1
                   cases bo
                   · have HBD : Hid ((hsMay W T xs H m && sdsOk W T xs H m) = false) := HBAD.out (by rw [HIX.out, HIY.out, RR.out, hrs1]; rw [t1]; rfl)
                     clear hrs1 q1
                     by_cases hF0 : F < 0
                     all_goals
                      go_wp2_with fail
                      refine (l4Edge_east _ _ _ _ _ xs k _ HN.out v1 v2 v3 v4 HWT.out HKN.out (HA.out.below BJ.out)).mono ?_; rintro e w5 ⟨rfl, hb5⟩
                      rw [HEV.out]
                      have p5 := heap_later pj hb5
                      have B5 := Lib.hid (below_seq BJ.out hb5)
                      have R5 := Lib.hid (RJ.out.below hb5)
                      have gx := cell_later hb5 gx0
                      have gy := cell_later hb5 gy0
                      have zc1 := RowB.cell R5.out (k := k) hlt
                      have zc2 := RowB.cell R5.out (k := kt) htm
                      have zf1 := RowB.free R5.out k
                      have zf2 := RowB.free R5.out kt
                      have s1 := RowB.set R5.out k true
                      have s2 := RowB.set s1.1 kt true
                      have RF : Hid (RowB ((w5.setCell ⟨w2.heap.size, k, none⟩ (.bool true)).setCell ⟨w2.heap.size, kt, none⟩ (.bool true)) w2.heap.size w2.heap.size m m (endB W (sidesJ W T xs k (0 + 1)))) := s2.1.congr (fun i _ => by rw [HX.out, HEND.out])
                      have BF := Lib.hid ((B5.out.setCell (p := ⟨w2.heap.size, k, none⟩) (Nat.le_of_lt lw2) (.bool true)).setCell (p := ⟨w2.heap.size, kt, none⟩) (Nat.le_of_lt lw2) (.bool true))
                      have PF := Lib.hid (heap_off (i := kt) (.bool true) hne6 (heap_off (i := k) (.bool true) hne6 p5))
                      have lp5 := heap_lt p5
                      clear s1 s2 hb5
                      go_wp2
                      go_quiet (fail)
                      go_wp2_with (first
                       | (go_at_call 83; refine (l1In_any _ _ _ _).mono ?_; rintro e w6 ⟨rfl, rfl⟩; first | rw [HIX.out] | rw [HIY.out])
                       | (go_at_call 98; refine (l4Rise_any _ _ _).mono ?_; rintro e w7 ⟨rfl, rfl⟩))
                      go_ret
                      exact ⟨ret_bool (by rw [HE.out, HBD.out]; rfl), below_seq BF.out (drewN_below _ _)⟩
                   · by_cases q2 : d = 3
                     · have t3 : (d == 3) = true := by simpa using q2
                       have t4 : (d != 3) = false := by simpa using q2
                       have HGV : Hid ((inB x (-60) 60 && inB y (-60) 60 && rMay W T xs k false d) = true) := by show _ = _; rw [HIX.out, HIY.out, RR.out, hrs1]; rw [t1, show (-3 * (-1) : Int) = 3 from rfl, t3]; rfl
                       have HOK2 : Hid (∀ s ∈ sidesJ W T xs k (0 + 1), okS W T xs H s = true) := fun s hs => by
                        rw [HX.out, List.mem_append, List.mem_singleton] at hs
                        rcases hs with hs | rfl
                        · exact HOJ.out s hs
                        · exact HGOOD.out HGV.out
                       clear hrs1 q1 q2
                       by_cases hF0 : F < 0
                       all_goals
                        go_wp2_with fail
                        refine (l4Edge_east _ _ _ _ _ xs k _ HN.out v1 v2 v3 v4 HWT.out HKN.out (HA.out.below BJ.out)).mono ?_; rintro e w5 ⟨rfl, hb5⟩
                        rw [HEV.out]
                        have p5 := heap_later pj hb5
                        have B5 := Lib.hid (below_seq BJ.out hb5)
                        have R5 := Lib.hid (RJ.out.below hb5)
                        have gx := cell_later hb5 gx0
                        have gy := cell_later hb5 gy0
                        have zc1 := RowB.cell R5.out (k := k) hlt
                        have zc2 := RowB.cell R5.out (k := kt) htm
                        have zf1 := RowB.free R5.out k
                        have zf2 := RowB.free R5.out kt
                        have s1 := RowB.set R5.out k true
                        have s2 := RowB.set s1.1 kt true
                        have RF : Hid (RowB ((w5.setCell ⟨w2.heap.size, k, none⟩ (.bool true)).setCell ⟨w2.heap.size, kt, none⟩ (.bool true)) w2.heap.size w2.heap.size m m (endB W (sidesJ W T xs k (0 + 1)))) := s2.1.congr (fun i _ => by rw [HX.out, HEND.out])
                        have BF := Lib.hid ((B5.out.setCell (p := ⟨w2.heap.size, k, none⟩) (Nat.le_of_lt lw2) (.bool true)).setCell (p := ⟨w2.heap.size, kt, none⟩) (Nat.le_of_lt lw2) (.bool true))
                        have PF := Lib.hid (heap_off (i := kt) (.bool true) hne6 (heap_off (i := k) (.bool true) hne6 p5))
                        have lp5 := heap_lt p5
                        clear s1 s2 hb5
                        go_wp2
                        go_quiet (fail)
                        go_wp2_with (first
                         | (go_at_call 83; refine (l1In_any _ _ _ _).mono ?_; rintro e w6 ⟨rfl, rfl⟩; first | rw [HIX.out] | rw [HIY.out])
                         | (go_at_call 98; refine (l4Rise_any _ _ _).mono ?_; rintro e w7 ⟨rfl, rfl⟩))
                        go_roundw
                        case rel => exact ⟨0 + 1, by omega, by go_num, by rw [HX.out, HFST.out]; first | (simp [hF0]; done) | (simp [hF0]; intro hh; omega), RF.out.below (drewN_below _ _), HOK2, heap_later PF.out (drewN_below _ _), below_seq BF.out (drewN_below _ _)⟩
                        case measure => simp [intOf]
                     · have t3 : (d == 3) = false := by simpa using q2
                       have t4 : (d != 3) = true := by simpa using q2
                       have HBD : Hid ((hsMay W T xs H m && sdsOk W T xs H m) = false) := HBAD.out (by rw [HIX.out, HIY.out, RR.out, hrs1]; rw [t1, show (-3 * (-1) : Int) = 3 from rfl, t3]; rfl)
                       clear hrs1 q1 q2
                       by_cases hF0 : F < 0
                       all_goals
                        go_wp2_with fail
                        refine (l4Edge_east _ _ _ _ _ xs k _ HN.out v1 v2 v3 v4 HWT.out HKN.out (HA.out.below BJ.out)).mono ?_; rintro e w5 ⟨rfl, hb5⟩
                        rw [HEV.out]
                        have p5 := heap_later pj hb5
                        have B5 := Lib.hid (below_seq BJ.out hb5)
                        have R5 := Lib.hid (RJ.out.below hb5)
                        have gx := cell_later hb5 gx0
                        have gy := cell_later hb5 gy0
                        have zc1 := RowB.cell R5.out (k := k) hlt
                        have zc2 := RowB.cell R5.out (k := kt) htm
                        have zf1 := RowB.free R5.out k
                        have zf2 := RowB.free R5.out kt
                        have s1 := RowB.set R5.out k true
                        have s2 := RowB.set s1.1 kt true
                        have RF : Hid (RowB ((w5.setCell ⟨w2.heap.size, k, none⟩ (.bool true)).setCell ⟨w2.heap.size, kt, none⟩ (.bool true)) w2.heap.size w2.heap.size m m (endB W (sidesJ W T xs k (0 + 1)))) := s2.1.congr (fun i _ => by rw [HX.out, HEND.out])
                        have BF := Lib.hid ((B5.out.setCell (p := ⟨w2.heap.size, k, none⟩) (Nat.le_of_lt lw2) (.bool true)).setCell (p := ⟨w2.heap.size, kt, none⟩) (Nat.le_of_lt lw2) (.bool true))
                        have PF := Lib.hid (heap_off (i := kt) (.bool true) hne6 (heap_off (i := k) (.bool true) hne6 p5))
                        have lp5 := heap_lt p5
                        clear s1 s2 hb5
                        go_wp2
                        go_quiet (fail)
                        go_wp2_with (first
                         | (go_at_call 83; refine (l1In_any _ _ _ _).mono ?_; rintro e w6 ⟨rfl, rfl⟩; first | rw [HIX.out] | rw [HIY.out])
                         | (go_at_call 98; refine (l4Rise_any _ _ _).mono ?_; rintro e w7 ⟨rfl, rfl⟩))
                        go_ret
                        exact ⟨ret_bool (by rw [HE.out, HBD.out]; rfl), below_seq BF.out (drewN_below _ _)⟩
               · have hrs1 : rs = 1 := by have := HRS.out; simpa using this
                 by_cases q1 : d = 1
                 · have t1 : (d == 1) = true := by simpa using q1
                   have t2 : (d != 1) = false := by simpa using q1
                   have HGV : Hid ((inB x (-60) 60 && inB y (-60) 60 && rMay W T xs k false d) = true) := by show _ = _; rw [HIX.out, HIY.out, RR.out, hrs1]; rw [t1]; rfl
                   have HOK2 : Hid (∀ s ∈ sidesJ W T xs k (0 + 1), okS W T xs H s = true) := fun s hs => by
                    rw [HX.out, List.mem_append, List.mem_singleton] at hs
                    rcases hs with hs | rfl
                    · exact HOJ.out s hs
                    · exact HGOOD.out HGV.out
                   clear hrs1 q1
                   by_cases hF0 : F < 0
                   all_goals
                    go_wp2_with fail
                    refine (l4Edge_east _ _ _ _ _ xs k _ HN.out v1 v2 v3 v4 HWT.out HKN.out (HA.out.below BJ.out)).mono ?_; rintro e w5 ⟨rfl, hb5⟩
                    rw [HEV.out]
                    have p5 := heap_later pj hb5
                    have B5 := Lib.hid (below_seq BJ.out hb5)
                    have R5 := Lib.hid (RJ.out.below hb5)
                    have gx := cell_later hb5 gx0
                    have gy := cell_later hb5 gy0
                    have zc1 := RowB.cell R5.out (k := k) hlt
                    have zc2 := RowB.cell R5.out (k := kt) htm
                    have zf1 := RowB.free R5.out k
                    have zf2 := RowB.free R5.out kt
                    have s1 := RowB.set R5.out k true
                    have s2 := RowB.set s1.1 kt true
                    have RF : Hid (RowB ((w5.setCell ⟨w2.heap.size, k, none⟩ (.bool true)).setCell ⟨w2.heap.size, kt, none⟩ (.bool true)) w2.heap.size w2.heap.size m m (endB W (sidesJ W T xs k (0 + 1)))) := s2.1.congr (fun i _ => by rw [HX.out, HEND.out])
                    have BF := Lib.hid ((B5.out.setCell (p := ⟨w2.heap.size, k, none⟩) (Nat.le_of_lt lw2) (.bool true)).setCell (p := ⟨w2.heap.size, kt, none⟩) (Nat.le_of_lt lw2) (.bool true))
                    have PF := Lib.hid (heap_off (i := kt) (.bool true) hne6 (heap_off (i := k) (.bool true) hne6 p5))
                    have lp5 := heap_lt p5
                    clear s1 s2 hb5
                    go_wp2
                    go_quiet (fail)
                    go_wp2_with (first
                     | (go_at_call 83; refine (l1In_any _ _ _ _).mono ?_; rintro e w6 ⟨rfl, rfl⟩; first | rw [HIX.out] | rw [HIY.out])
                     | (go_at_call 98; refine (l4Rise_any _ _ _).mono ?_; rintro e w7 ⟨rfl, rfl⟩))
                    go_roundw
                    case rel => exact ⟨0 + 1, by omega, by go_num, by rw [HX.out, HFST.out]; first | (simp [hF0]; done) | (simp [hF0]; intro hh; omega), RF.out.below (drewN_below _ _), HOK2, heap_later PF.out (drewN_below _ _), below_seq BF.out (drewN_below _ _)⟩
                    case measure => simp [intOf]
                 · have t1 : (d == 1) = false := by simpa using q1
                   have t2 : (d != 1) = true := by simpa using q1
                   cases bo
                   · have HBD : Hid ((hsMay W T xs H m && sdsOk W T xs H m) = false) := HBAD.out (by rw [HIX.out, HIY.out, RR.out, hrs1]; rw [t1]; rfl)
                     clear hrs1 q1
                     by_cases hF0 : F < 0
                     all_goals
                      go_wp2_with fail
                      refine (l4Edge_east _ _ _ _ _ xs k _ HN.out v1 v2 v3 v4 HWT.out HKN.out (HA.out.below BJ.out)).mono ?_; rintro e w5 ⟨rfl, hb5⟩
                      rw [HEV.out]
                      have p5 := heap_later pj hb5
                      have B5 := Lib.hid (below_seq BJ.out hb5)
                      have R5 := Lib.hid (RJ.out.below hb5)
                      have gx := cell_later hb5 gx0
                      have gy := cell_later hb5 gy0
                      have zc1 := RowB.cell R5.out (k := k) hlt
                      have zc2 := RowB.cell R5.out (k := kt) htm
                      have zf1 := RowB.free R5.out k
                      have zf2 := RowB.free R5.out kt
                      have s1 := RowB.set R5.out k true
                      have s2 := RowB.set s1.1 kt true
                      have RF : Hid (RowB ((w5.setCell ⟨w2.heap.size, k, none⟩ (.bool true)).setCell ⟨w2.heap.size, kt, none⟩ (.bool true)) w2.heap.size w2.heap.size m m (endB W (sidesJ W T xs k (0 + 1)))) := s2.1.congr (fun i _ => by rw [HX.out, HEND.out])
                      have BF := Lib.hid ((B5.out.setCell (p := ⟨w2.heap.size, k, none⟩) (Nat.le_of_lt lw2) (.bool true)).setCell (p := ⟨w2.heap.size, kt, none⟩) (Nat.le_of_lt lw2) (.bool true))
                      have PF := Lib.hid (heap_off (i := kt) (.bool true) hne6 (heap_off (i := k) (.bool true) hne6 p5))
                      have lp5 := heap_lt p5
                      clear s1 s2 hb5
                      go_wp2
                      go_quiet (fail)
                      go_wp2_with (first
                       | (go_at_call 83; refine (l1In_any _ _ _ _).mono ?_; rintro e w6 ⟨rfl, rfl⟩; first | rw [HIX.out] | rw [HIY.out])
                       | (go_at_call 98; refine (l4Rise_any _ _ _).mono ?_; rintro e w7 ⟨rfl, rfl⟩))
                      go_ret
                      exact ⟨ret_bool (by rw [HE.out, HBD.out]; rfl), below_seq BF.out (drewN_below _ _)⟩
                   · by_cases q2 : d = -3
                     · have t3 : (d == (-3)) = true := by simpa using q2
                       have t4 : (d != (-3)) = false := by simpa using q2
                       have HGV : Hid ((inB x (-60) 60 && inB y (-60) 60 && rMay W T xs k false d) = true) := by show _ = _; rw [HIX.out, HIY.out, RR.out, hrs1]; rw [t1, show (-3 * 1 : Int) = (-3) from rfl, t3]; rfl
                       have HOK2 : Hid (∀ s ∈ sidesJ W T xs k (0 + 1), okS W T xs H s = true) := fun s hs => by
                        rw [HX.out, List.mem_append, List.mem_singleton] at hs
                        rcases hs with hs | rfl
                        · exact HOJ.out s hs
                        · exact HGOOD.out HGV.out
                       clear hrs1 q1 q2
                       by_cases hF0 : F < 0
                       all_goals
                        go_wp2_with fail
                        refine (l4Edge_east _ _ _ _ _ xs k _ HN.out v1 v2 v3 v4 HWT.out HKN.out (HA.out.below BJ.out)).mono ?_; rintro e w5 ⟨rfl, hb5⟩
                        rw [HEV.out]
                        have p5 := heap_later pj hb5
                        have B5 := Lib.hid (below_seq BJ.out hb5)
                        have R5 := Lib.hid (RJ.out.below hb5)
                        have gx := cell_later hb5 gx0
                        have gy := cell_later hb5 gy0
                        have zc1 := RowB.cell R5.out (k := k) hlt
                        have zc2 := RowB.cell R5.out (k := kt) htm
                        have zf1 := RowB.free R5.out k
                        have zf2 := RowB.free R5.out kt
                        have s1 := RowB.set R5.out k true
                        have s2 := RowB.set s1.1 kt true
                        have RF : Hid (RowB ((w5.setCell ⟨w2.heap.size, k, none⟩ (.bool true)).setCell ⟨w2.heap.size, kt, none⟩ (.bool true)) w2.heap.size w2.heap.size m m (endB W (sidesJ W T xs k (0 + 1)))) := s2.1.congr (fun i _ => by rw [HX.out, HEND.out])
                        have BF := Lib.hid ((B5.out.setCell (p := ⟨w2.heap.size, k, none⟩) (Nat.le_of_lt lw2) (.bool true)).setCell (p := ⟨w2.heap.size, kt, none⟩) (Nat.le_of_lt lw2) (.bool true))
                        have PF := Lib.hid (heap_off (i := kt) (.bool true) hne6 (heap_off (i := k) (.bool true) hne6 p5))
                        have lp5 := heap_lt p5
                        clear s1 s2 hb5
                        go_wp2
                        go_quiet (fail)
                        go_wp2_with (first
                         | (go_at_call 83; refine (l1In_any _ _ _ _).mono ?_; rintro e w6 ⟨rfl, rfl⟩; first | rw [HIX.out] | rw [HIY.out])
                         | (go_at_call 98; refine (l4Rise_any _ _ _).mono ?_; rintro e w7 ⟨rfl, rfl⟩))
                        go_roundw
                        case rel => exact ⟨0 + 1, by omega, by go_num, by rw [HX.out, HFST.out]; first | (simp [hF0]; done) | (simp [hF0]; intro hh; omega), RF.out.below (drewN_below _ _), HOK2, heap_later PF.out (drewN_below _ _), below_seq BF.out (drewN_below _ _)⟩
                        case measure => simp [intOf]
                     · have t3 : (d == (-3)) = false := by simpa using q2
                       have t4 : (d != (-3)) = true := by simpa using q2
                       have HBD : Hid ((hsMay W T xs H m && sdsOk W T xs H m) = false) := HBAD.out (by rw [HIX.out, HIY.out, RR.out, hrs1]; rw [t1, show (-3 * 1 : Int) = (-3) from rfl, t3]; rfl)
                       clear hrs1 q1 q2
                       by_cases hF0 : F < 0
                       all_goals
                        go_wp2_with fail
                        refine (l4Edge_east _ _ _ _ _ xs k _ HN.out v1 v2 v3 v4 HWT.out HKN.out (HA.out.below BJ.out)).mono ?_; rintro e w5 ⟨rfl, hb5⟩
                        rw [HEV.out]
                        have p5 := heap_later pj hb5
                        have B5 := Lib.hid (below_seq BJ.out hb5)
                        have R5 := Lib.hid (RJ.out.below hb5)
                        have gx := cell_later hb5 gx0
                        have gy := cell_later hb5 gy0
                        have zc1 := RowB.cell R5.out (k := k) hlt
                        have zc2 := RowB.cell R5.out (k := kt) htm
                        have zf1 := RowB.free R5.out k
                        have zf2 := RowB.free R5.out kt
                        have s1 := RowB.set R5.out k true
                        have s2 := RowB.set s1.1 kt true
                        have RF : Hid (RowB ((w5.setCell ⟨w2.heap.size, k, none⟩ (.bool true)).setCell ⟨w2.heap.size, kt, none⟩ (.bool true)) w2.heap.size w2.heap.size m m (endB W (sidesJ W T xs k (0 + 1)))) := s2.1.congr (fun i _ => by rw [HX.out, HEND.out])
                        have BF := Lib.hid ((B5.out.setCell (p := ⟨w2.heap.size, k, none⟩) (Nat.le_of_lt lw2) (.bool true)).setCell (p := ⟨w2.heap.size, kt, none⟩) (Nat.le_of_lt lw2) (.bool true))
                        have PF := Lib.hid (heap_off (i := kt) (.bool true) hne6 (heap_off (i := k) (.bool true) hne6 p5))
                        have lp5 := heap_lt p5
                        clear s1 s2 hb5
                        go_wp2
                        go_quiet (fail)
                        go_wp2_with (first
                         | (go_at_call 83; refine (l1In_any _ _ _ _).mono ?_; rintro e w6 ⟨rfl, rfl⟩; first | rw [HIX.out] | rw [HIY.out])
                         | (go_at_call 98; refine (l4Rise_any _ _ _).mono ?_; rintro e w7 ⟨rfl, rfl⟩))
                        go_ret
                        exact ⟨ret_bool (by rw [HE.out, HBD.out]; rfl), below_seq BF.out (drewN_below _ _)⟩
       · obtain rfl : j = 1 := by omega
         clear hj hj2 hj0
         have HEV : Hid (edV W T xs k true = .tuple #[.int .i64 (sTo W k true), .bool (sUsed W T xs k true), .bool (sBoth W T xs k true), .int .i64 (if sLeft W T xs k true then sCell W k true else -1), .int .i64 (if sRight W T xs k true then sOther W k true else -1), .bool (sDark W k true)]) := rfl
         obtain ⟨ca, hca⟩ : ∃ ca, ca = (if sLeft W T xs k true then sCell W k true else -1) := ⟨_, rfl⟩
         obtain ⟨cb, hcb2⟩ : ∃ cb, cb = (if sRight W T xs k true then sOther W k true else -1) := ⟨_, rfl⟩
         rw [← hca, ← hcb2] at HEV
         clear hca hcb2
         cases hu : sUsed W T xs k true
         · rw [hu] at HEV
           have HX : Hid (sidesJ W T xs k (1 + 1) = sidesJ W T xs k 1) := by show _ = _; rw [sidesJ_two, hu]; rfl
           clear hu
           obtain ⟨kt, hkt⟩ : ∃ kt, kt = sTo W k true := ⟨_, rfl⟩
           rw [← hkt] at HEV
           clear hkt
           go_wp2_with fail
           refine (l4Edge_north _ _ _ _ _ xs k _ HN.out v1 v2 v3 v4 HWT.out HKN.out (HA.out.below BJ.out)).mono ?_; rintro e w5 ⟨rfl, hb5⟩
           rw [HEV.out]
           have p5 := heap_later pj hb5
           have B5 := Lib.hid (below_seq BJ.out hb5)
           have R5 := Lib.hid (RJ.out.below hb5)
           go_wp2
           go_roundw
           case rel => exact ⟨1 + 1, by omega, by go_num, by rw [HX.out], by rw [HX.out]; exact R5.out, by rw [HX.out]; exact HOJ, p5, B5.out⟩
           case measure => simp [intOf]
         · rw [hu] at HEV
           have HX : Hid (sidesJ W T xs k (1 + 1) = sidesJ W T xs k 1 ++ [(k, true)]) := by show _ = _; rw [sidesJ_two, hu]; rfl
           obtain ⟨t0, t1, t2⟩ := sTo_lt v1 hu
           rw [HNN.out] at t2
           obtain ⟨kt, hkt⟩ := Int.eq_ofNat_of_zero_le t0
           rw [hkt] at t1 t2 HEV
           have htm : kt < m := by omega
           have HBAD := Lib.hid (fun hh => hok_bad (H := H) v1 hlt htm hu hkt hh)
           have HGOOD : Hid ((inB (H.getD k 0) (-60) 60 && inB (H.getD kt 0) (-60) 60 && rMay W T xs k true (H.getD kt 0 - H.getD k 0)) = true → okS W T xs H (k, true) = true) := fun hh => by unfold okS; simp only [hkt, Int.toNat_natCast]; exact hh
           have HEND := Lib.hid (endB_snoc W (sidesJ W T xs k 1) k kt true hkt)
           have HFST := Lib.hid (fstS_snoc (sidesJ W T xs k 1) (k, true))
           have HRM : Hid (∀ d, rMay W T xs k true d = (d == sRise W k true || (sBoth W T xs k true && d == -3 * sRise W k true))) := fun d => rfl
           have HRS : Hid (sRise W k true = if sDark W k true then 1 else -1) := rfl
           clear hu hkt t0
           obtain ⟨x, hx⟩ : ∃ x, x = H.getD k 0 := ⟨_, rfl⟩
           obtain ⟨y, hy⟩ : ∃ y, y = H.getD kt 0 := ⟨_, rfl⟩
           have gx0 := (HL.out.below BJ.out).cellAt (i := k) (by rw [← HM.out]; exact hlt)
           have gy0 := (HL.out.below BJ.out).cellAt (i := kt) (by rw [← HM.out]; exact htm)
           rw [← hx] at gx0 HBAD HGOOD; rw [← hy] at gy0 HBAD HGOOD
           clear hx hy
           obtain ⟨D, hD⟩ : ∃ D, D = sDark W k true := ⟨_, rfl⟩
           obtain ⟨bo, hbo⟩ : ∃ bo, bo = sBoth W T xs k true := ⟨_, rfl⟩
           obtain ⟨rs, hrs⟩ : ∃ rs, rs = sRise W k true := ⟨_, rfl⟩
           rw [← hD] at HEV HRS; rw [← hbo] at HEV HRM; rw [← hrs] at HRM HRS
           clear hD hbo hrs
           obtain ⟨F, hF⟩ : ∃ F, F = fstS (sidesJ W T xs k 1) := ⟨_, rfl⟩
           rw [← hF] at HFST ⊢
           clear hF
           have k2 : (kt : Int) < m := by omega
           have hne : ¬ k = kt := by omega
           have hne2 : ¬ kt = k := by omega
           have hne3 : ¬ w2.heap.size = w.heap.size := by omega
           have hne4 : ¬ w2.heap.size = lb := by omega
           have hne5 : ¬ lb = w2.heap.size := by omega
           have hne6 : ¬ w.heap.size = w2.heap.size := by omega
           cases hix : inB x (-60) 60
           · have HBD : Hid ((hsMay W T xs H m && sdsOk W T xs H m) = false) := HBAD.out (by rw [hix]; rfl)
             have HIX := Lib.hid hix; clear hix
             by_cases hF0 : F < 0
             all_goals
              go_wp2_with fail
              refine (l4Edge_north _ _ _ _ _ xs k _ HN.out v1 v2 v3 v4 HWT.out HKN.out (HA.out.below BJ.out)).mono ?_; rintro e w5 ⟨rfl, hb5⟩
              rw [HEV.out]
              have p5 := heap_later pj hb5
              have B5 := Lib.hid (below_seq BJ.out hb5)
              have R5 := Lib.hid (RJ.out.below hb5)
              have gx := cell_later hb5 gx0
              have gy := cell_later hb5 gy0
              have zc1 := RowB.cell R5.out (k := k) hlt
              have zc2 := RowB.cell R5.out (k := kt) htm
              have zf1 := RowB.free R5.out k
              have zf2 := RowB.free R5.out kt
              have s1 := RowB.set R5.out k true
              have s2 := RowB.set s1.1 kt true
              have RF : Hid (RowB ((w5.setCell ⟨w2.heap.size, k, none⟩ (.bool true)).setCell ⟨w2.heap.size, kt, none⟩ (.bool true)) w2.heap.size w2.heap.size m m (endB W (sidesJ W T xs k (1 + 1)))) := s2.1.congr (fun i _ => by rw [HX.out, HEND.out])
              have BF := Lib.hid ((B5.out.setCell (p := ⟨w2.heap.size, k, none⟩) (Nat.le_of_lt lw2) (.bool true)).setCell (p := ⟨w2.heap.size, kt, none⟩) (Nat.le_of_lt lw2) (.bool true))
              have PF := Lib.hid (heap_off (i := kt) (.bool true) hne6 (heap_off (i := k) (.bool true) hne6 p5))
              have lp5 := heap_lt p5
              clear s1 s2 hb5
              go_wp2
              go_quiet (fail)
              go_wp2_with (first
               | (go_at_call 83; refine (l1In_any _ _ _ _).mono ?_; rintro e w6 ⟨rfl, rfl⟩; first | rw [HIX.out] | rw [HIY.out])
               | (go_at_call 98; refine (l4Rise_any _ _ _).mono ?_; rintro e w7 ⟨rfl, rfl⟩))
              go_ret
              exact ⟨ret_bool (by rw [HE.out, HBD.out]; rfl), below_seq BF.out (drewN_below _ _)⟩
           · cases hiy : inB y (-60) 60
             · have HBD : Hid ((hsMay W T xs H m && sdsOk W T xs H m) = false) := HBAD.out (by rw [hix, hiy]; rfl)
               have HIX := Lib.hid hix; have HIY := Lib.hid hiy; clear hix hiy
               by_cases hF0 : F < 0
               all_goals
                go_wp2_with fail
                refine (l4Edge_north _ _ _ _ _ xs k _ HN.out v1 v2 v3 v4 HWT.out HKN.out (HA.out.below BJ.out)).mono ?_; rintro e w5 ⟨rfl, hb5⟩
                rw [HEV.out]
                have p5 := heap_later pj hb5
                have B5 := Lib.hid (below_seq BJ.out hb5)
                have R5 := Lib.hid (RJ.out.below hb5)
                have gx := cell_later hb5 gx0
                have gy := cell_later hb5 gy0
                have zc1 := RowB.cell R5.out (k := k) hlt
                have zc2 := RowB.cell R5.out (k := kt) htm
                have zf1 := RowB.free R5.out k
                have zf2 := RowB.free R5.out kt
                have s1 := RowB.set R5.out k true
                have s2 := RowB.set s1.1 kt true
                have RF : Hid (RowB ((w5.setCell ⟨w2.heap.size, k, none⟩ (.bool true)).setCell ⟨w2.heap.size, kt, none⟩ (.bool true)) w2.heap.size w2.heap.size m m (endB W (sidesJ W T xs k (1 + 1)))) := s2.1.congr (fun i _ => by rw [HX.out, HEND.out])
                have BF := Lib.hid ((B5.out.setCell (p := ⟨w2.heap.size, k, none⟩) (Nat.le_of_lt lw2) (.bool true)).setCell (p := ⟨w2.heap.size, kt, none⟩) (Nat.le_of_lt lw2) (.bool true))
                have PF := Lib.hid (heap_off (i := kt) (.bool true) hne6 (heap_off (i := k) (.bool true) hne6 p5))
                have lp5 := heap_lt p5
                clear s1 s2 hb5
                go_wp2
                go_quiet (fail)
                go_wp2_with (first
                 | (go_at_call 83; refine (l1In_any _ _ _ _).mono ?_; rintro e w6 ⟨rfl, rfl⟩; first | rw [HIX.out] | rw [HIY.out])
                 | (go_at_call 98; refine (l4Rise_any _ _ _).mono ?_; rintro e w7 ⟨rfl, rfl⟩))
                go_ret
                exact ⟨ret_bool (by rw [HE.out, HBD.out]; rfl), below_seq BF.out (drewN_below _ _)⟩
             · obtain ⟨x0, x1⟩ := inB_rng hix
               obtain ⟨y0, y1⟩ := inB_rng hiy
               obtain ⟨d, hdd⟩ : ∃ d, y - x = d := ⟨_, rfl⟩
               have hdw : IntKind.i64.wrap d = d := by rw [IntKind.wrap_i64]; omega
               have rr := HRM.out d
               rw [hdd] at HBAD HGOOD
               have HIX := Lib.hid hix; have HIY := Lib.hid hiy; clear hix hiy
               have RR := Lib.hid rr; clear rr
               cases D
               · have hrs1 : rs = -1 := by have := HRS.out; simpa using this
                 by_cases q1 : d = -1
                 · have t1 : (d == (-1)) = true := by simpa using q1
                   have t2 : (d != (-1)) = false := by simpa using q1
                   have HGV : Hid ((inB x (-60) 60 && inB y (-60) 60 && rMay W T xs k true d) = true) := by show _ = _; rw [HIX.out, HIY.out, RR.out, hrs1]; rw [t1]; rfl
                   have HOK2 : Hid (∀ s ∈ sidesJ W T xs k (1 + 1), okS W T xs H s = true) := fun s hs => by
                    rw [HX.out, List.mem_append, List.mem_singleton] at hs
                    rcases hs with hs | rfl
                    · exact HOJ.out s hs
                    · exact HGOOD.out HGV.out
                   clear hrs1 q1
                   by_cases hF0 : F < 0
                   all_goals
                    go_wp2_with fail
                    refine (l4Edge_north _ _ _ _ _ xs k _ HN.out v1 v2 v3 v4 HWT.out HKN.out (HA.out.below BJ.out)).mono ?_; rintro e w5 ⟨rfl, hb5⟩
                    rw [HEV.out]
                    have p5 := heap_later pj hb5
                    have B5 := Lib.hid (below_seq BJ.out hb5)
                    have R5 := Lib.hid (RJ.out.below hb5)
                    have gx := cell_later hb5 gx0
                    have gy := cell_later hb5 gy0
                    have zc1 := RowB.cell R5.out (k := k) hlt
                    have zc2 := RowB.cell R5.out (k := kt) htm
                    have zf1 := RowB.free R5.out k
                    have zf2 := RowB.free R5.out kt
                    have s1 := RowB.set R5.out k true
                    have s2 := RowB.set s1.1 kt true
                    have RF : Hid (RowB ((w5.setCell ⟨w2.heap.size, k, none⟩ (.bool true)).setCell ⟨w2.heap.size, kt, none⟩ (.bool true)) w2.heap.size w2.heap.size m m (endB W (sidesJ W T xs k (1 + 1)))) := s2.1.congr (fun i _ => by rw [HX.out, HEND.out])
                    have BF := Lib.hid ((B5.out.setCell (p := ⟨w2.heap.size, k, none⟩) (Nat.le_of_lt lw2) (.bool true)).setCell (p := ⟨w2.heap.size, kt, none⟩) (Nat.le_of_lt lw2) (.bool true))
                    have PF := Lib.hid (heap_off (i := kt) (.bool true) hne6 (heap_off (i := k) (.bool true) hne6 p5))
                    have lp5 := heap_lt p5
                    clear s1 s2 hb5
                    go_wp2
                    go_quiet (fail)
                    go_wp2_with (first
                     | (go_at_call 83; refine (l1In_any _ _ _ _).mono ?_; rintro e w6 ⟨rfl, rfl⟩; first | rw [HIX.out] | rw [HIY.out])
                     | (go_at_call 98; refine (l4Rise_any _ _ _).mono ?_; rintro e w7 ⟨rfl, rfl⟩))
                    go_roundw
                    case rel => exact ⟨1 + 1, by omega, by go_num, by rw [HX.out, HFST.out]; first | (simp [hF0]; done) | (simp [hF0]; intro hh; omega), RF.out.below (drewN_below _ _), HOK2, heap_later PF.out (drewN_below _ _), below_seq BF.out (drewN_below _ _)⟩
                    case measure => simp [intOf]
                 · have t1 : (d == (-1)) = false := by simpa using q1
                   have t2 : (d != (-1)) = true := by simpa using q1
                   cases bo
                   · have HBD : Hid ((hsMay W T xs H m && sdsOk W T xs H m) = false) := HBAD.out (by rw [HIX.out, HIY.out, RR.out, hrs1]; rw [t1]; rfl)
                     clear hrs1 q1
                     by_cases hF0 : F < 0
                     all_goals
                      go_wp2_with fail
                      refine (l4Edge_north _ _ _ _ _ xs k _ HN.out v1 v2 v3 v4 HWT.out HKN.out (HA.out.below BJ.out)).mono ?_; rintro e w5 ⟨rfl, hb5⟩
                      rw [HEV.out]
                      have p5 := heap_later pj hb5
                      have B5 := Lib.hid (below_seq BJ.out hb5)
                      have R5 := Lib.hid (RJ.out.below hb5)
                      have gx := cell_later hb5 gx0
                      have gy := cell_later hb5 gy0
                      have zc1 := RowB.cell R5.out (k := k) hlt
                      have zc2 := RowB.cell R5.out (k := kt) htm
                      have zf1 := RowB.free R5.out k
                      have zf2 := RowB.free R5.out kt
                      have s1 := RowB.set R5.out k true
                      have s2 := RowB.set s1.1 kt true
                      have RF : Hid (RowB ((w5.setCell ⟨w2.heap.size, k, none⟩ (.bool true)).setCell ⟨w2.heap.size, kt, none⟩ (.bool true)) w2.heap.size w2.heap.size m m (endB W (sidesJ W T xs k (1 + 1)))) := s2.1.congr (fun i _ => by rw [HX.out, HEND.out])
                      have BF := Lib.hid ((B5.out.setCell (p := ⟨w2.heap.size, k, none⟩) (Nat.le_of_lt lw2) (.bool true)).setCell (p := ⟨w2.heap.size, kt, none⟩) (Nat.le_of_lt lw2) (.bool true))
                      have PF := Lib.hid (heap_off (i := kt) (.bool true) hne6 (heap_off (i := k) (.bool true) hne6 p5))
                      have lp5 := heap_lt p5
                      clear s1 s2 hb5
                      go_wp2
                      go_quiet (fail)
                      go_wp2_with (first
                       | (go_at_call 83; refine (l1In_any _ _ _ _).mono ?_; rintro e w6 ⟨rfl, rfl⟩; first | rw [HIX.out] | rw [HIY.out])
                       | (go_at_call 98; refine (l4Rise_any _ _ _).mono ?_; rintro e w7 ⟨rfl, rfl⟩))
                      go_ret
                      exact ⟨ret_bool (by rw [HE.out, HBD.out]; rfl), below_seq BF.out (drewN_below _ _)⟩
                   · by_cases q2 : d = 3
                     · have t3 : (d == 3) = true := by simpa using q2
                       have t4 : (d != 3) = false := by simpa using q2
                       have HGV : Hid ((inB x (-60) 60 && inB y (-60) 60 && rMay W T xs k true d) = true) := by show _ = _; rw [HIX.out, HIY.out, RR.out, hrs1]; rw [t1, show (-3 * (-1) : Int) = 3 from rfl, t3]; rfl
                       have HOK2 : Hid (∀ s ∈ sidesJ W T xs k (1 + 1), okS W T xs H s = true) := fun s hs => by
                        rw [HX.out, List.mem_append, List.mem_singleton] at hs
                        rcases hs with hs | rfl
                        · exact HOJ.out s hs
                        · exact HGOOD.out HGV.out
                       clear hrs1 q1 q2
                       by_cases hF0 : F < 0
                       all_goals
                        go_wp2_with fail
                        refine (l4Edge_north _ _ _ _ _ xs k _ HN.out v1 v2 v3 v4 HWT.out HKN.out (HA.out.below BJ.out)).mono ?_; rintro e w5 ⟨rfl, hb5⟩
                        rw [HEV.out]
                        have p5 := heap_later pj hb5
                        have B5 := Lib.hid (below_seq BJ.out hb5)
                        have R5 := Lib.hid (RJ.out.below hb5)
                        have gx := cell_later hb5 gx0
                        have gy := cell_later hb5 gy0
                        have zc1 := RowB.cell R5.out (k := k) hlt
                        have zc2 := RowB.cell R5.out (k := kt) htm
                        have zf1 := RowB.free R5.out k
                        have zf2 := RowB.free R5.out kt
                        have s1 := RowB.set R5.out k true
                        have s2 := RowB.set s1.1 kt true
                        have RF : Hid (RowB ((w5.setCell ⟨w2.heap.size, k, none⟩ (.bool true)).setCell ⟨w2.heap.size, kt, none⟩ (.bool true)) w2.heap.size w2.heap.size m m (endB W (sidesJ W T xs k (1 + 1)))) := s2.1.congr (fun i _ => by rw [HX.out, HEND.out])
                        have BF := Lib.hid ((B5.out.setCell (p := ⟨w2.heap.size, k, none⟩) (Nat.le_of_lt lw2) (.bool true)).setCell (p := ⟨w2.heap.size, kt, none⟩) (Nat.le_of_lt lw2) (.bool true))
                        have PF := Lib.hid (heap_off (i := kt) (.bool true) hne6 (heap_off (i := k) (.bool true) hne6 p5))
                        have lp5 := heap_lt p5
                        clear s1 s2 hb5
                        go_wp2
                        go_quiet (fail)
                        go_wp2_with (first
                         | (go_at_call 83; refine (l1In_any _ _ _ _).mono ?_; rintro e w6 ⟨rfl, rfl⟩; first | rw [HIX.out] | rw [HIY.out])
                         | (go_at_call 98; refine (l4Rise_any _ _ _).mono ?_; rintro e w7 ⟨rfl, rfl⟩))
                        go_roundw
                        case rel => exact ⟨1 + 1, by omega, by go_num, by rw [HX.out, HFST.out]; first | (simp [hF0]; done) | (simp [hF0]; intro hh; omega), RF.out.below (drewN_below _ _), HOK2, heap_later PF.out (drewN_below _ _), below_seq BF.out (drewN_below _ _)⟩
                        case measure => simp [intOf]
                     · have t3 : (d == 3) = false := by simpa using q2
                       have t4 : (d != 3) = true := by simpa using q2
                       have HBD : Hid ((hsMay W T xs H m && sdsOk W T xs H m) = false) := HBAD.out (by rw [HIX.out, HIY.out, RR.out, hrs1]; rw [t1, show (-3 * (-1) : Int) = 3 from rfl, t3]; rfl)
                       clear hrs1 q1 q2
                       by_cases hF0 : F < 0
                       all_goals
                        go_wp2_with fail
                        refine (l4Edge_north _ _ _ _ _ xs k _ HN.out v1 v2 v3 v4 HWT.out HKN.out (HA.out.below BJ.out)).mono ?_; rintro e w5 ⟨rfl, hb5⟩
                        rw [HEV.out]
                        have p5 := heap_later pj hb5
                        have B5 := Lib.hid (below_seq BJ.out hb5)
                        have R5 := Lib.hid (RJ.out.below hb5)
                        have gx := cell_later hb5 gx0
                        have gy := cell_later hb5 gy0
                        have zc1 := RowB.cell R5.out (k := k) hlt
                        have zc2 := RowB.cell R5.out (k := kt) htm
                        have zf1 := RowB.free R5.out k
                        have zf2 := RowB.free R5.out kt
                        have s1 := RowB.set R5.out k true
                        have s2 := RowB.set s1.1 kt true
                        have RF : Hid (RowB ((w5.setCell ⟨w2.heap.size, k, none⟩ (.bool true)).setCell ⟨w2.heap.size, kt, none⟩ (.bool true)) w2.heap.size w2.heap.size m m (endB W (sidesJ W T xs k (1 + 1)))) := s2.1.congr (fun i _ => by rw [HX.out, HEND.out])
                        have BF := Lib.hid ((B5.out.setCell (p := ⟨w2.heap.size, k, none⟩) (Nat.le_of_lt lw2) (.bool true)).setCell (p := ⟨w2.heap.size, kt, none⟩) (Nat.le_of_lt lw2) (.bool true))
                        have PF := Lib.hid (heap_off (i := kt) (.bool true) hne6 (heap_off (i := k) (.bool true) hne6 p5))
                        have lp5 := heap_lt p5
                        clear s1 s2 hb5
                        go_wp2
                        go_quiet (fail)
                        go_wp2_with (first
                         | (go_at_call 83; refine (l1In_any _ _ _ _).mono ?_; rintro e w6 ⟨rfl, rfl⟩; first | rw [HIX.out] | rw [HIY.out])
                         | (go_at_call 98; refine (l4Rise_any _ _ _).mono ?_; rintro e w7 ⟨rfl, rfl⟩))
                        go_ret
                        exact ⟨ret_bool (by rw [HE.out, HBD.out]; rfl), below_seq BF.out (drewN_below _ _)⟩
               · have hrs1 : rs = 1 := by have := HRS.out; simpa using this
                 by_cases q1 : d = 1
                 · have t1 : (d == 1) = true := by simpa using q1
                   have t2 : (d != 1) = false := by simpa using q1
                   have HGV : Hid ((inB x (-60) 60 && inB y (-60) 60 && rMay W T xs k true d) = true) := by show _ = _; rw [HIX.out, HIY.out, RR.out, hrs1]; rw [t1]; rfl
                   have HOK2 : Hid (∀ s ∈ sidesJ W T xs k (1 + 1), okS W T xs H s = true) := fun s hs => by
                    rw [HX.out, List.mem_append, List.mem_singleton] at hs
                    rcases hs with hs | rfl
                    · exact HOJ.out s hs
                    · exact HGOOD.out HGV.out
                   clear hrs1 q1
                   by_cases hF0 : F < 0
                   all_goals
                    go_wp2_with fail
                    refine (l4Edge_north _ _ _ _ _ xs k _ HN.out v1 v2 v3 v4 HWT.out HKN.out (HA.out.below BJ.out)).mono ?_; rintro e w5 ⟨rfl, hb5⟩
                    rw [HEV.out]
                    have p5 := heap_later pj hb5
                    have B5 := Lib.hid (below_seq BJ.out hb5)
                    have R5 := Lib.hid (RJ.out.below hb5)
                    have gx := cell_later hb5 gx0
                    have gy := cell_later hb5 gy0
                    have zc1 := RowB.cell R5.out (k := k) hlt
                    have zc2 := RowB.cell R5.out (k := kt) htm
                    have zf1 := RowB.free R5.out k
                    have zf2 := RowB.free R5.out kt
                    have s1 := RowB.set R5.out k true
                    have s2 := RowB.set s1.1 kt true
                    have RF : Hid (RowB ((w5.setCell ⟨w2.heap.size, k, none⟩ (.bool true)).setCell ⟨w2.heap.size, kt, none⟩ (.bool true)) w2.heap.size w2.heap.size m m (endB W (sidesJ W T xs k (1 + 1)))) := s2.1.congr (fun i _ => by rw [HX.out, HEND.out])
                    have BF := Lib.hid ((B5.out.setCell (p := ⟨w2.heap.size, k, none⟩) (Nat.le_of_lt lw2) (.bool true)).setCell (p := ⟨w2.heap.size, kt, none⟩) (Nat.le_of_lt lw2) (.bool true))
                    have PF := Lib.hid (heap_off (i := kt) (.bool true) hne6 (heap_off (i := k) (.bool true) hne6 p5))
                    have lp5 := heap_lt p5
                    clear s1 s2 hb5
                    go_wp2
                    go_quiet (fail)
                    go_wp2_with (first
                     | (go_at_call 83; refine (l1In_any _ _ _ _).mono ?_; rintro e w6 ⟨rfl, rfl⟩; first | rw [HIX.out] | rw [HIY.out])
                     | (go_at_call 98; refine (l4Rise_any _ _ _).mono ?_; rintro e w7 ⟨rfl, rfl⟩))
                    go_roundw
                    case rel => exact ⟨1 + 1, by omega, by go_num, by rw [HX.out, HFST.out]; first | (simp [hF0]; done) | (simp [hF0]; intro hh; omega), RF.out.below (drewN_below _ _), HOK2, heap_later PF.out (drewN_below _ _), below_seq BF.out (drewN_below _ _)⟩
                    case measure => simp [intOf]
                 · have t1 : (d == 1) = false := by simpa using q1
                   have t2 : (d != 1) = true := by simpa using q1
                   cases bo
                   · have HBD : Hid ((hsMay W T xs H m && sdsOk W T xs H m) = false) := HBAD.out (by rw [HIX.out, HIY.out, RR.out, hrs1]; rw [t1]; rfl)
                     clear hrs1 q1
                     by_cases hF0 : F < 0
                     all_goals
                      go_wp2_with fail
                      refine (l4Edge_north _ _ _ _ _ xs k _ HN.out v1 v2 v3 v4 HWT.out HKN.out (HA.out.below BJ.out)).mono ?_; rintro e w5 ⟨rfl, hb5⟩
                      rw [HEV.out]
                      have p5 := heap_later pj hb5
                      have B5 := Lib.hid (below_seq BJ.out hb5)
                      have R5 := Lib.hid (RJ.out.below hb5)
                      have gx := cell_later hb5 gx0
                      have gy := cell_later hb5 gy0
                      have zc1 := RowB.cell R5.out (k := k) hlt
                      have zc2 := RowB.cell R5.out (k := kt) htm
                      have zf1 := RowB.free R5.out k
                      have zf2 := RowB.free R5.out kt
                      have s1 := RowB.set R5.out k true
                      have s2 := RowB.set s1.1 kt true
                      have RF : Hid (RowB ((w5.setCell ⟨w2.heap.size, k, none⟩ (.bool true)).setCell ⟨w2.heap.size, kt, none⟩ (.bool true)) w2.heap.size w2.heap.size m m (endB W (sidesJ W T xs k (1 + 1)))) := s2.1.congr (fun i _ => by rw [HX.out, HEND.out])
                      have BF := Lib.hid ((B5.out.setCell (p := ⟨w2.heap.size, k, none⟩) (Nat.le_of_lt lw2) (.bool true)).setCell (p := ⟨w2.heap.size, kt, none⟩) (Nat.le_of_lt lw2) (.bool true))
                      have PF := Lib.hid (heap_off (i := kt) (.bool true) hne6 (heap_off (i := k) (.bool true) hne6 p5))
                      have lp5 := heap_lt p5
                      clear s1 s2 hb5
                      go_wp2
                      go_quiet (fail)
                      go_wp2_with (first
                       | (go_at_call 83; refine (l1In_any _ _ _ _).mono ?_; rintro e w6 ⟨rfl, rfl⟩; first | rw [HIX.out] | rw [HIY.out])
                       | (go_at_call 98; refine (l4Rise_any _ _ _).mono ?_; rintro e w7 ⟨rfl, rfl⟩))
                      go_ret
                      exact ⟨ret_bool (by rw [HE.out, HBD.out]; rfl), below_seq BF.out (drewN_below _ _)⟩
                   · by_cases q2 : d = -3
                     · have t3 : (d == (-3)) = true := by simpa using q2
                       have t4 : (d != (-3)) = false := by simpa using q2
                       have HGV : Hid ((inB x (-60) 60 && inB y (-60) 60 && rMay W T xs k true d) = true) := by show _ = _; rw [HIX.out, HIY.out, RR.out, hrs1]; rw [t1, show (-3 * 1 : Int) = (-3) from rfl, t3]; rfl
                       have HOK2 : Hid (∀ s ∈ sidesJ W T xs k (1 + 1), okS W T xs H s = true) := fun s hs => by
                        rw [HX.out, List.mem_append, List.mem_singleton] at hs
                        rcases hs with hs | rfl
                        · exact HOJ.out s hs
                        · exact HGOOD.out HGV.out
                       clear hrs1 q1 q2
                       by_cases hF0 : F < 0
                       all_goals
                        go_wp2_with fail
                        refine (l4Edge_north _ _ _ _ _ xs k _ HN.out v1 v2 v3 v4 HWT.out HKN.out (HA.out.below BJ.out)).mono ?_; rintro e w5 ⟨rfl, hb5⟩
                        rw [HEV.out]
                        have p5 := heap_later pj hb5
                        have B5 := Lib.hid (below_seq BJ.out hb5)
                        have R5 := Lib.hid (RJ.out.below hb5)
                        have gx := cell_later hb5 gx0
                        have gy := cell_later hb5 gy0
                        have zc1 := RowB.cell R5.out (k := k) hlt
                        have zc2 := RowB.cell R5.out (k := kt) htm
                        have zf1 := RowB.free R5.out k
                        have zf2 := RowB.free R5.out kt
                        have s1 := RowB.set R5.out k true
                        have s2 := RowB.set s1.1 kt true
                        have RF : Hid (RowB ((w5.setCell ⟨w2.heap.size, k, none⟩ (.bool true)).setCell ⟨w2.heap.size, kt, none⟩ (.bool true)) w2.heap.size w2.heap.size m m (endB W (sidesJ W T xs k (1 + 1)))) := s2.1.congr (fun i _ => by rw [HX.out, HEND.out])
                        have BF := Lib.hid ((B5.out.setCell (p := ⟨w2.heap.size, k, none⟩) (Nat.le_of_lt lw2) (.bool true)).setCell (p := ⟨w2.heap.size, kt, none⟩) (Nat.le_of_lt lw2) (.bool true))
                        have PF := Lib.hid (heap_off (i := kt) (.bool true) hne6 (heap_off (i := k) (.bool true) hne6 p5))
                        have lp5 := heap_lt p5
                        clear s1 s2 hb5
                        go_wp2
                        go_quiet (fail)
                        go_wp2_with (first
                         | (go_at_call 83; refine (l1In_any _ _ _ _).mono ?_; rintro e w6 ⟨rfl, rfl⟩; first | rw [HIX.out] | rw [HIY.out])
                         | (go_at_call 98; refine (l4Rise_any _ _ _).mono ?_; rintro e w7 ⟨rfl, rfl⟩))
                        go_roundw
                        case rel => exact ⟨1 + 1, by omega, by go_num, by rw [HX.out, HFST.out]; first | (simp [hF0]; done) | (simp [hF0]; intro hh; omega), RF.out.below (drewN_below _ _), HOK2, heap_later PF.out (drewN_below _ _), below_seq BF.out (drewN_below _ _)⟩
                        case measure => simp [intOf]
                     · have t3 : (d == (-3)) = false := by simpa using q2
                       have t4 : (d != (-3)) = true := by simpa using q2
                       have HBD : Hid ((hsMay W T xs H m && sdsOk W T xs H m) = false) := HBAD.out (by rw [HIX.out, HIY.out, RR.out, hrs1]; rw [t1, show (-3 * 1 : Int) = (-3) from rfl, t3]; rfl)
                       clear hrs1 q1 q2
                       by_cases hF0 : F < 0
                       all_goals
                        go_wp2_with fail
                        refine (l4Edge_north _ _ _ _ _ xs k _ HN.out v1 v2 v3 v4 HWT.out HKN.out (HA.out.below BJ.out)).mono ?_; rintro e w5 ⟨rfl, hb5⟩
                        rw [HEV.out]
                        have p5 := heap_later pj hb5
                        have B5 := Lib.hid (below_seq BJ.out hb5)
                        have R5 := Lib.hid (RJ.out.below hb5)
                        have gx := cell_later hb5 gx0
                        have gy := cell_later hb5 gy0
                        have zc1 := RowB.cell R5.out (k := k) hlt
                        have zc2 := RowB.cell R5.out (k := kt) htm
                        have zf1 := RowB.free R5.out k
                        have zf2 := RowB.free R5.out kt
                        have s1 := RowB.set R5.out k true
                        have s2 := RowB.set s1.1 kt true
                        have RF : Hid (RowB ((w5.setCell ⟨w2.heap.size, k, none⟩ (.bool true)).setCell ⟨w2.heap.size, kt, none⟩ (.bool true)) w2.heap.size w2.heap.size m m (endB W (sidesJ W T xs k (1 + 1)))) := s2.1.congr (fun i _ => by rw [HX.out, HEND.out])
                        have BF := Lib.hid ((B5.out.setCell (p := ⟨w2.heap.size, k, none⟩) (Nat.le_of_lt lw2) (.bool true)).setCell (p := ⟨w2.heap.size, kt, none⟩) (Nat.le_of_lt lw2) (.bool true))
                        have PF := Lib.hid (heap_off (i := kt) (.bool true) hne6 (heap_off (i := k) (.bool true) hne6 p5))
                        have lp5 := heap_lt p5
                        clear s1 s2 hb5
                        go_wp2
                        go_quiet (fail)
                        go_wp2_with (first
                         | (go_at_call 83; refine (l1In_any _ _ _ _).mono ?_; rintro e w6 ⟨rfl, rfl⟩; first | rw [HIX.out] | rw [HIY.out])
                         | (go_at_call 98; refine (l4Rise_any _ _ _).mono ?_; rintro e w7 ⟨rfl, rfl⟩))
                        go_ret
                        exact ⟨ret_bool (by rw [HE.out, HBD.out]; rfl), below_seq BF.out (drewN_below _ _)⟩
    · obtain rfl : k = m := by omega
      obtain ⟨c0, c1, c2⟩ := cells3 pr
      rw [HFS.out]
      go_wp2
      go_loopw [16] (fun i wr => ∃ q : Nat, q ≤ k ∧ i = .int .i64 q ∧ Hid (∀ j, j < q → endB W (sidesK W T xs k) j = false → H.getD j 0 = 99) ∧ wr = wo) (fun i _ => k - (intOf i).toNat)
      case atStart => exact ⟨0, Nat.zero_le _, rfl, (fun j hj => absurd hj (Nat.not_lt_zero _)), rfl⟩
      case round =>
       obtain ⟨q, hq, rfl, HQ, rfl⟩ := hrel
       have IL := Lib.hid (HL.out.below BEL.out)
       by_cases hlt2 : q < k
       · have gb := RowB.cell ROW.out (k := q) hlt2
         have gh := IL.out.cellAt (i := q) (by rw [← HM.out]; exact hlt2)
         obtain ⟨eb, heb⟩ : ∃ eb, eb = endB W (sidesK W T xs k) q := ⟨_, rfl⟩
         obtain ⟨z, hz⟩ : ∃ z, z = H.getD q 0 := ⟨_, rfl⟩
         rw [← heb] at gb; rw [← hz] at gh
         have q1 : (q : Int) < k := by omega
         cases eb
         · by_cases h99 : z = 99
           · subst h99
             have HQ2 : Hid (∀ j, j < q + 1 → endB W (sidesK W T xs k) j = false → H.getD j 0 = 99) := fun j hj he => by
              by_cases e : j = q
              · subst e; exact hz.symm
              · exact HQ.out j (by omega) he
             clear heb hz
             go_wp2
             go_roundw
             case rel => exact ⟨q + 1, by omega, by go_num, HQ2, by trivial⟩
             case measure => simp [intOf]; omega
           · have HF : Hid (hsMay W T xs H k = false) := hok_miss v1 HNN.out hlt2 heb.symm (by rw [← hz]; exact h99)
             have z1 : (z != 99) = true := by simpa using h99
             have z2 : (z == 99) = false := by simpa using h99
             clear heb hz h99
             go_wp2
             go_ret
             exact ⟨ret_bool (by rw [HE.out, HF.out]; rfl), BEL.out⟩
         · have HQ2 : Hid (∀ j, j < q + 1 → endB W (sidesK W T xs k) j = false → H.getD j 0 = 99) := fun j hj he => by
            by_cases e : j = q
            · subst e; rw [he] at heb; cases heb
            · exact HQ.out j (by omega) he
           clear heb hz
           go_wp2
           go_roundw
           case rel => exact ⟨q + 1, by omega, by go_num, HQ2, by trivial⟩
           case measure => simp [intOf]; omega
       · obtain rfl : q = k := by omega
         have HT := Lib.hid (hok_all v1 HNN.out HOK.out HQ.out)
         have gf := IL.out.cellAt (i := fk) (by rw [← HM.out]; exact hfm)
         obtain ⟨z, hz⟩ : ∃ z, z = H.getD fk 0 := ⟨_, rfl⟩
         rw [← hz] at gf
         have HEE : Hid (hokB W T xs H = (z == 0)) := by show _ = _; rw [HE.out, HT.out, HFK.out, Int.toNat_natCast, ← hz]; rfl
         have fk1 : (fk : Int) < q := by omega
         clear hz
         go_wp2
         go_ret
         exact ⟨ret_bool HEE.out.symm, BEL.out⟩
 · have e : hokB W T xs H = false := by
    unfold hokB
    rw [HNN.out, show decide ((H.length : Int) = (N : Int)) = false by rw [← HM.out]; simp; omega]; simp
   rw [e]
   have n1 : ((m : Int) != N) = true := by simp; omega
   have n2 : ((m : Int) == N) = false := by simp; omega
   have n3 : (m == N) = false := by simpa using hmn
   have n4 : (m != N) = true := by simpa using hmn
   clear e hfr hfl
   go_enter Tryz.func93, Tryz.ntmps93
   go_wp2_with fail
   refine (sSimple_any _ _ _ _ _ xs _ HN.out hn' (HA.out.one _)).mono ?_; rintro e w1 ⟨rfl, hb1⟩
   rw [HS.out]
   have p1 := heap_later (heap_new w (.cells #[.int .i64 W, .int .i64 T, .slice a n cap] 25)) hb1
   have b1 := below_seq (below1 w (.cells #[.int .i64 W, .int .i64 T, .slice a n cap] 25)) hb1
   obtain ⟨c0, c1, c2⟩ := cells3 p1
   go_wp2_with fail
   refine (sCornerMany_any _ _ _ _ _ xs _ HN.out hn' (HA.out.below b1)).mono ?_; rintro e w2 ⟨rfl, hb2⟩
   rw [HC.out]
   go_wp2
   go_ret
   exact ⟨rfl, below_seq b1 hb2⟩
end Go.Proofs.YthpifnjoiklgnaaGreat
