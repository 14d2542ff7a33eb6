/- Plain facts: the lesser and the greater ones of two lists of right heights are right. -/
import Derived.Test.YtpcajacekmidbaaGreatKHtsN
import Derived.Test.YtpcajacekmidbaaGreatKHokI
namespace Go.Proofs.YtpcajacekmidbaaGreat
open Go.RowKit
set_option linter.unusedVariables false
set_option maxRecDepth 100000
set_option linter.unusedSimpArgs false

def hokB (W T : Int) (xs : List Bool) (H : List Int) : Bool :=
 simpleB W T xs && decide ((H.length : Int) = (W + 1) * (T + 1)) && hsMay W T xs H H.length && sdsOk W T xs H H.length && (H.getD (frstK W T xs H.length).toNat 0 == 0)

theorem hsMay_succ (W T : Int) (xs : List Bool) (H : List Int) (k : Nat) : hsMay W T xs H (k + 1) = (hsMay W T xs H k && hMay W T xs k (H.getD k 0)) := by
 unfold hsMay; rw [List.range_succ, List.all_append]; simp
theorem hsMay_no {W T : Int} {xs : List Bool} {H : List Int} {k n : Nat} (hk : k < n) (h : hMay W T xs k (H.getD k 0) = false) : hsMay W T xs H n = false := by
 unfold hsMay; rw [List.all_eq_false]; exact ⟨k, List.mem_range.2 hk, by rw [h]; exact Bool.false_ne_true⟩
theorem hsMay_at {W T : Int} {xs : List Bool} {H : List Int} {k n : Nat} (hk : k < n) (h : hsMay W T xs H n = true) : hMay W T xs k (H.getD k 0) = true := by
 unfold hsMay at h; rw [List.all_eq_true] at h; exact h k (List.mem_range.2 hk)
def sdsTo (W T : Int) (xs : List Bool) (H : List Int) (l : List (Nat × Bool)) (i : Nat) : Bool := (l.take i).all fun s => rMay W T xs s.1 s.2 (H.getD (sTo W s.1 s.2).toNat 0 - H.getD s.1 0)
theorem sdsTo_succ {W T : Int} {xs : List Bool} {H : List Int} {l : List (Nat × Bool)} {i : Nat} (hi : i < l.length) : sdsTo W T xs H l (i + 1) = (sdsTo W T xs H l i && rMay W T xs l[i].1 l[i].2 (H.getD (sTo W l[i].1 l[i].2).toNat 0 - H.getD l[i].1 0)) := by
 unfold sdsTo; rw [List.take_succ_eq_append_getElem hi, List.all_append]; simp
theorem sdsTo_all {W T : Int} {xs : List Bool} {H : List Int} {n : Nat} : sdsTo W T xs H (sidesK W T xs n) (sidesK W T xs n).length = sdsOk W T xs H n := by
 rw [Bool.eq_iff_iff, sdsOk_iff]
 unfold sdsTo
 rw [List.take_length, List.all_eq_true]
theorem sdsTo_no {W T : Int} {xs : List Bool} {H : List Int} {n i : Nat} (hi : i < (sidesK W T xs n).length) (h : rMay W T xs (sidesK W T xs n)[i].1 (sidesK W T xs n)[i].2 (H.getD (sTo W (sidesK W T xs n)[i].1 (sidesK W T xs n)[i].2).toNat 0 - H.getD (sidesK W T xs n)[i].1 0) = false) : sdsOk W T xs H n = false := by
 cases hs : sdsOk W T xs H n
 · rfl
 · rw [sdsOk_iff] at hs
   have := hs _ (List.getElem_mem hi)
   rw [h] at this; cases this

theorem flat6 (W T : Int) (xs : List Bool) : ∀ (l : List (Nat × Bool)) (i j : Nat) (hi : i < l.length), j < 6 → (l.flatMap (sdC W T xs))[i * 6 + j]? = (sdC W T xs l[i])[j]?
 | [], i, j, hi, _ => absurd hi (Nat.not_lt_zero _)
 | s :: l, 0, j, _, hj => by
   rw [List.flatMap_cons, List.getElem?_append_left (by simpa [sdC] using hj)]; simp
 | s :: l, i + 1, j, hi, hj => by
   rw [List.flatMap_cons, List.getElem?_append_right (by simp [sdC]; omega)]
   have e : (i + 1) * 6 + j - (sdC W T xs s).length = i * 6 + j := by simp [sdC]; omega
   rw [e]
   exact flat6 W T xs l i j (by simpa using hi) hj
theorem OwnsSd.cellAt {w : World} {B g n cap : Nat} {W T : Int} {xs : List Bool} {l : List (Nat × Bool)} (h : OwnsSd w B (.slice (some ⟨g, 0, none⟩) n cap) W T xs l) {i : Nat} (hi : i < l.length) : ∀ j u, (sdC W T xs l[i])[j]? = some u → w.cell? ⟨g, i * 6 + j, none⟩ = some u := by
 intro j u hu
 have hj : j < 6 := by
  obtain ⟨h1, _⟩ := List.getElem?_eq_some_iff.1 hu
  simpa [sdC] using h1
 have hn : n = l.length := by
  obtain ⟨a, c, e⟩ := OwnsSd.form h
  simp only [Value.slice.injEq] at e; exact e.2.1
 subst hn
 rw [World.ownsRow.cellAt h (i * 6 + j) (by omega), flat6 W T xs l i j hi hj, hu]
theorem OwnsSd.pos {w : World} {B : Nat} {v : Value} {W T : Int} {xs : List Bool} {l : List (Nat × Bool)} (h : OwnsSd w B v W T xs l) (h0 : 0 < l.length) : ∃ g cap, v = .slice (some ⟨g, 0, none⟩) l.length cap := by
 rcases h.2 with ⟨e, h2⟩ | ⟨g, cap, cur, e, _⟩
 · omega
 · exact ⟨g, cap, e⟩
theorem firstCorner_any (g q cap : Nat) (fk : Int) (w : World) (hq : 0 < q) (hq' : q ≤ 100000) (hc : w.cell? ⟨g, 0, none⟩ = some (.int .i64 fk)) :
 Calls Tryz.prog 92 #[.slice (some ⟨g, 0, none⟩) q cap] w fun e w' => e = .returned (.int .i64 fk) ∧ w' = w := by
 go_enter Tryz.func92, Tryz.ntmps92
 go_wp2
 go_ret
 exact ⟨rfl, rfl⟩
theorem simple_first {W T : Int} {xs : List Bool} (h : simpleB W T xs = true) {N : Nat} (hN : (W + 1) * (T + 1) = (N : Int)) : 0 ≤ frstK W T xs N := by
 have hr := simpleB_rv h
 obtain ⟨v1, v2, v3, v4, v5, _⟩ := rv_true hr
 have hp : partsN W T xs = 1 := by unfold simpleB at h; rw [Bool.and_eq_true, decide_eq_true_eq] at h; exact h.1
 unfold partsN at hp
 rw [hr, if_pos rfl] at hp
 have hpos : 0 < selfN (partsF W T xs) (partsF W T xs).length := by omega
 unfold selfN at hpos
 rw [List.countP_pos_iff] at hpos
 obtain ⟨i, hi, he⟩ := hpos
 have hi' : i < xs.length := Nat.lt_of_lt_of_le (List.mem_range.1 hi) (partsF_len W T xs)
 have hx : xs.getD i false = true := by
  cases hc : xs.getD i false
  · have hm := marksL_marks xs.length (fun i => xs.getD i false) (adjW W false)
    have := (hm.2 i hi').1 hc
    have e2 : partsF W T xs = marksL xs.length (fun i => xs.getD i false) (adjW W false) := by unfold partsF; rw [hr, if_pos rfl]
    rw [e2] at he
    simp only [beq_iff_eq] at he
    omega
  · rfl
 -- the corner in its south-west
 obtain ⟨m1, m2, m3, m4, m5⟩ := cell_split (W := W) (T := T) (k := (i : Int)) v1 (by omega) (by rw [← v5]; omega)
 obtain ⟨k, hk⟩ := Int.eq_ofNat_of_zero_le (show 0 ≤ (i : Int) / W * (W + 1) + (i : Int) % W by have := Int.mul_nonneg m3 (show 0 ≤ W + 1 by omega); omega)
 have kxe : kx W k = (i : Int) % W := by
  unfold kx
  rw [← hk, Int.add_comm, Int.add_mul_emod_self_right, Int.emod_eq_of_lt m1 (by omega)]
 have kye : ky W k = (i : Int) / W := by
  unfold ky
  rw [← hk, Int.add_comm, Int.add_mul_ediv_right _ _ (by omega), Int.ediv_eq_zero_of_lt m1 (by omega)]; omega
 have hu : sUsed W T xs k false = true := by
  have : sLeft W T xs k false = true := by
   unfold sLeft sLx
   rw [if_neg (by simp), kxe, kye]
   unfold atB inF
   rw [decide_eq_true ⟨m1, m2, m3, m4⟩, m5, Int.toNat_natCast, hx]; rfl
  unfold sUsed; rw [this]; rfl
 have hkN : k < N := by have := sTo_lt v1 hu; omega
 unfold frstK
 cases hf : (List.range N).find? fun k => sUsed W T xs k false || sUsed W T xs k true with
 | none =>
   rw [List.find?_eq_none] at hf
   have := hf k (List.mem_range.2 hkN)
   simp [hu] at this
 | some j => simp
theorem rise_one (W : Int) (k : Nat) (nth : Bool) : sRise W k nth = 1 ∨ sRise W k nth = -1 := by unfold sRise; split <;> simp
theorem inB_rng {v : Int} (h : inB v (-60) 60 = true) : -60 ≤ v ∧ v ≤ 60 := by simpa [inB] using h

set_option maxHeartbeats 8000000 in
theorem iHeightsOk_any (W T : Int) (a : Option Addr) (n cap : Nat) (xs : List Bool) (la : Option Addr) (m lcap : Nat) (H : List Int) (w : World) (hn : n = xs.length) (hn' : n ≤ 1048576) (hm : m = H.length) (hm' : m ≤ 1048576) (ha : BoolsAt w a xs) (hl : IntsAt w la H) :
 Calls Tryz.prog 85 #[.agg #[.int .i64 W, .int .i64 T, .slice a n cap], .slice la m lcap] w fun e w' => e = .returned (.bool (hokB W T xs H)) ∧ Below w.heap.size w w' := by
 have HN := Lib.hid hn; clear hn
 have HM := Lib.hid hm; clear hm
 have HA := Lib.hid ha; clear ha
 have HL := Lib.hid hl; clear hl
 cases h : simpleB W T xs
 · have e : hokB W T xs H = false := by unfold hokB; rw [h]; rfl
   rw [e]
   have HS := Lib.hid h; clear h e
   go_enter Tryz.func85, Tryz.ntmps85
   go_wp2_with fail
   refine (iSimple_any _ _ _ _ _ xs _ HN.out hn' (HA.out.one _)).mono ?_; rintro e w1 ⟨rfl, hb1⟩
   rw [HS.out]
   go_wp2
   go_ret
   exact ⟨rfl, below_seq (below1 _ _) hb1⟩
 have hr := simpleB_rv h
 obtain ⟨v1, v2, v3, v4, v5, _⟩ := rv_true hr
 have hcb := corn_bd v1 v2 v3 v4
 obtain ⟨N, hN⟩ := Int.eq_ofNat_of_zero_le (show 0 ≤ (W + 1) * (T + 1) by omega)
 have HC : Hid (cornN W T xs = (N : Int)) := by show _ = _; unfold cornN; rw [hr, if_pos rfl, hN]
 have hfr := simple_first h hN
 have hfl := (frstK_lt W T xs N).2
 rw [hN] at hcb
 have hN49 : N ≤ 49 := by omega
 have HWT : Hid ((n : Int) = W * T) := by show _ = _; rw [HN.out]; exact v5
 have HR := Lib.hid hr; have HS := Lib.hid h; have HNN := Lib.hid hN
 clear hr h hN hcb v5
 by_cases hmn : m = N
 · subst hmn
   have hE : hokB W T xs H = (hsMay W T xs H m && sdsOk W T xs H m && (H.getD (frstK W T xs m).toNat 0 == 0)) := by
    unfold hokB; rw [HS.out, ← HM.out, HNN.out]; simp
   have HE := Lib.hid hE; clear hE
   obtain ⟨fk, hfk⟩ := Int.eq_ofNat_of_zero_le hfr
   rw [hfk] at hfl
   have hfm : fk < m := by omega
   obtain ⟨hd, rest, hsd⟩ := sidesK_head hfr
   rw [hfk, Int.toNat_natCast] at hsd
   have HFK := Lib.hid hfk; clear hfk hfr hfl
   have HSD := Lib.hid hsd; clear hsd
   have hpos : 0 < m := by omega
   obtain ⟨lb, lo, rfl, -⟩ := HL.out 0 (by rw [← HM.out]; exact hpos)
   go_enter Tryz.func85, Tryz.ntmps85
   go_wp2_with fail
   refine (iSimple_any _ _ _ _ _ xs _ HN.out hn' (HA.out.one _)).mono ?_; rintro e w1 ⟨rfl, hb1⟩
   rw [HS.out]
   have p1 := heap_later (heap_new w (.cells #[.int .i64 W, .int .i64 T, .slice a n cap] 25)) hb1
   have b1 := below_seq (below1 w (.cells #[.int .i64 W, .int .i64 T, .slice a n cap] 25)) hb1
   clear hb1
   obtain ⟨c0, c1, c2⟩ := cells3 p1
   go_wp2_with fail
   refine (iCornerMany_any _ _ _ _ _ xs _ HN.out hn' (HA.out.below b1)).mono ?_; rintro e w2 ⟨rfl, hb2⟩
   rw [HC.out]
   have p2 := heap_later p1 hb2
   have b2 := below_seq b1 hb2
   clear hb2 p1 b1 c0 c1 c2
   go_wp2
   go_loopw [5, 6, 22] (fun _ _ i wr => ∃ k : Nat, k ≤ m ∧ i = .int .i64 k ∧ hsMay W T xs H k = true ∧ wr.heap[w.heap.size]? = some (.cells #[.int .i64 W, .int .i64 T, .slice a n cap] 25 (0, 0)) ∧ Below w.heap.size w wr) (fun _ _ i _ => m - (intOf i).toNat)
   case atStart => exact ⟨0, Nat.zero_le _, rfl, rfl, p2, b2⟩
   case round =>
    clear p2 b2
    rename World => wo
    obtain ⟨k, hk, rfl, hg, pr, hbel⟩ := hrel
    have HG := Lib.hid hg; clear hg
    have BEL := Lib.hid hbel; clear hbel
    obtain ⟨c0, c1, c2⟩ := cells3 pr
    by_cases hlt : k < m
    · have hcv := (HL.out.below BEL.out).cellAt (i := k) (by rw [← HM.out]; exact hlt)
      obtain ⟨v, hv⟩ : ∃ v, v = H.getD k 0 := ⟨_, rfl⟩
      rw [← hv] at hcv
      have e1 : (k : Int) < m := by omega
      have hkN : (k : Int) < (W + 1) * (T + 1) := by rw [HNN.out]; omega
      have HKN := Lib.hid hkN; clear hkN
      have hs := Lib.hid (hsMay_succ W T xs H k)
      cases hmay : hMay W T xs k v
      · have HF : Hid (hsMay W T xs H m = false) := hsMay_no hlt (by rw [← hv]; exact hmay)
        have HMY := Lib.hid hmay; clear hmay hv
        go_wp2_with fail
        refine (heightMay_any _ _ _ _ _ xs k v _ HN.out v1 v2 v3 v4 HWT.out HKN.out (HA.out.below BEL.out)).mono ?_; rintro e w3 ⟨rfl, hb3⟩
        rw [HMY.out]
        go_wp2
        go_ret
        exact ⟨ret_bool (by rw [HE.out, HF.out]; rfl), below_seq BEL.out hb3⟩
      · have HT : Hid (hsMay W T xs H (k + 1) = true) := by show _ = _; rw [hs.out, HG.out, ← hv, hmay]; rfl
        have HMY := Lib.hid hmay; clear hmay hv
        go_wp2_with fail
        refine (heightMay_any _ _ _ _ _ xs k v _ HN.out v1 v2 v3 v4 HWT.out HKN.out (HA.out.below BEL.out)).mono ?_; rintro e w3 ⟨rfl, hb3⟩
        rw [HMY.out]
        have p3 := heap_later pr hb3
        have b3 := below_seq BEL.out hb3
        go_wp2
        go_roundw
        case rel => exact ⟨k + 1, by omega, by go_num, HT.out, p3, b3⟩
        case measure => simp [intOf]; omega
    · obtain rfl : k = m := by omega
      obtain ⟨l, hl⟩ : ∃ l, l = sidesK W T xs k := ⟨_, rfl⟩
      have hll : 0 < l.length := by rw [hl, HSD.out]; simp
      have hl0 : l.getD 0 (0, false) = (fk, hd) := by rw [hl, HSD.out]; rfl
      have HSO : Hid (sdsTo W T xs H l l.length = sdsOk W T xs H k) := by show _ = _; rw [hl]; exact sdsTo_all
      have HNO : Hid (∀ i (hi : i < l.length), rMay W T xs l[i].1 l[i].2 (H.getD (sTo W l[i].1 l[i].2).toNat 0 - H.getD l[i].1 0) = false → sdsOk W T xs H k = false) := by
       intro i hi; subst hl; exact sdsTo_no hi
      have HMEM : Hid (∀ i (hi : i < l.length), l[i].1 < k ∧ sUsed W T xs l[i].1 l[i].2 = true) := by
       intro i hi; subst hl; exact sidesK_mem.1 (List.getElem_mem hi)
      have hlq : l.length ≤ 100 := by have := sidesK_len W T xs k; rw [← hl] at this; omega
      go_wp2_with fail
      refine (sidesOf_any _ _ _ _ _ xs k _ HN.out hn' HR.out HNN.out (HA.out.below BEL.out)).mono ?_; rintro e w3 ⟨v3', rfl, ho3, hb3⟩
      rw [← hl] at ho3
      clear hl
      obtain ⟨g, cap3, hv⟩ := OwnsSd.pos ho3 hll
      obtain ⟨q, hq⟩ : ∃ q, q = l.length := ⟨_, rfl⟩
      rw [← hq] at hv hlq hll
      subst hv
      have HQ := Lib.hid hq; clear hq
      have HL0 := Lib.hid hl0; clear hl0
      have O3 := Lib.hid ho3; clear ho3
      have B3 := Lib.hid (below_seq BEL.out hb3)
      clear hb3 pr c0 c1 c2
      go_wp2
      go_loopw [9, 37] (fun _ ci wr => ∃ i : Nat, i ≤ q ∧ ci = .int .i64 i ∧ sdsTo W T xs H l i = true ∧ OwnsSd wr wo.heap.size (.slice (some ⟨g, 0, none⟩) q cap3) W T xs l ∧ Below w.heap.size w wr) (fun _ ci _ => q - (intOf ci).toNat)
      case atStart => exact ⟨0, Nat.zero_le _, rfl, rfl, O3.out, B3.out⟩
      case round =>
       rename World => wq
       obtain ⟨i, hi, rfl, hst, hoi, hbi⟩ := hrel
       have HST := Lib.hid hst; clear hst
       have OI := Lib.hid hoi; clear hoi
       have BI := Lib.hid hbi; clear hbi
       by_cases hlt2 : i < q
       · have hil : i < l.length := by rw [← HQ.out]; exact hlt2
         obtain ⟨hkk, hus⟩ := HMEM.out i hil
         have hcell := OwnsSd.cellAt OI.out hil
         have hnx := sdsTo_succ (W := W) (T := T) (xs := xs) (H := H) hil
         have hno := HNO.out i hil
         obtain ⟨s, hs⟩ : ∃ s, s = l[i] := ⟨_, rfl⟩
         rw [← hs] at hkk hus hcell hnx hno
         clear hs
         obtain ⟨kk, nth⟩ := s
         (try simp only at hkk); (try simp only at hus); (try simp only at hcell); (try simp only at hnx); (try simp only at hno)
         obtain ⟨t0, t1, t2⟩ := sTo_lt v1 hus
         rw [HNN.out] at t2
         obtain ⟨kt, hkt⟩ := Int.eq_ofNat_of_zero_le t0
         rw [hkt] at t1 t2 hnx hno
         rw [Int.toNat_natCast] at hnx hno
         have htm : kt < k := by omega
         have ha1 := hsMay_at hkk HG.out
         have ha2 := hsMay_at htm HG.out
         unfold hMay at ha1 ha2
         rw [(hAt_iff v1).2 (Or.inl ⟨nth, hus⟩), if_pos rfl] at ha1
         rw [(hAt_iff v1).2 (Or.inr ⟨kk, nth, hus, hkt⟩), if_pos rfl] at ha2
         obtain ⟨x0, x1⟩ := inB_rng ha1
         obtain ⟨y0, y1⟩ := inB_rng ha2
         have gx := (HL.out.below BI.out).cellAt (i := kk) (by rw [← HM.out]; exact hkk)
         have gy := (HL.out.below BI.out).cellAt (i := kt) (by rw [← HM.out]; exact htm)
         obtain ⟨x, hx⟩ : ∃ x, x = H.getD kk 0 := ⟨_, rfl⟩
         obtain ⟨y, hy⟩ : ∃ y, y = H.getD kt 0 := ⟨_, rfl⟩
         rw [← hx] at x0 x1 gx hnx hno; rw [← hy] at y0 y1 gy hnx hno
         clear hx hy ha1 ha2
         have hr1 := rise_one W kk nth
         have HRM : Hid (rMay W T xs kk nth (y - x) = ((y - x) == sRise W kk nth || (sBoth W T xs kk nth && (y - x) == -3 * sRise W kk nth))) := rfl
         obtain ⟨rs, hrs⟩ : ∃ rs, rs = sRise W kk nth := ⟨_, rfl⟩
         obtain ⟨bo, hbo⟩ : ∃ bo, bo = sBoth W T xs kk nth := ⟨_, rfl⟩
         obtain ⟨cl, hcl⟩ : ∃ cl, cl = (if sBoth W T xs kk nth then sCell W kk nth else 0) := ⟨_, rfl⟩
         obtain ⟨wy, hwy⟩ : ∃ wy, wy = (if sBoth W T xs kk nth then sWay nth else 0) := ⟨_, rfl⟩
         have HEC : sdC W T xs (kk, nth) = [.int .i64 kk, .int .i64 kt, .int .i64 rs, .bool bo, .int .i64 cl, .int .i64 wy] := by unfold sdC; rw [hrs, hbo, hcl, hwy, ← hkt]
         rw [HEC] at hcell
         rw [← hrs] at hr1
         rw [← hrs, ← hbo] at HRM
         have f0 : wq.cell? ⟨g, i * 6, none⟩ = _ := hcell 0 _ rfl
         have f1 := hcell 1 _ rfl
         have f2 := hcell 2 _ rfl
         have f3 := hcell 3 _ rfl
         have f4 := hcell 4 _ rfl
         have f5 := hcell 5 _ rfl
         clear hrs hbo hcl hwy HEC hcell hus t0 hkt
         have HR1 := Lib.hid hr1; clear hr1
         have HNX := Lib.hid hnx; clear hnx
         have HNO2 := Lib.hid hno; clear hno
         have s1 : IntKind.i64.wrap (y - x) = y - x := by rw [IntKind.wrap_i64]; omega
         have k1 : (kk : Int) < k := by omega
         have k2 : (kt : Int) < k := by omega
         have i1 : (i : Int) < q := by omega
         cases hrm : rMay W T xs kk nth (y - x)
         · have HRV : Hid (((y - x) == rs || (bo && (y - x) == -3 * rs)) = false) := HRM.out.symm.trans hrm
           have HNE : Hid (sdsOk W T xs H k = false) := HNO2.out hrm
           clear hrm
           have PB : (wq.alloc (Obj.cells #[.int .i64 kk, .int .i64 kt, .int .i64 rs, .bool bo, .int .i64 cl, .int .i64 wy] 77)).drew.heap[wq.heap.size]? = some _ := heap_new wq (Obj.cells #[.int .i64 kk, .int .i64 kt, .int .i64 rs, .bool bo, .int .i64 cl, .int .i64 wy] 77)
           obtain ⟨h0, h1, h2, h3, h4, h5⟩ := cells6 PB
           have gx2 : (wq.alloc (Obj.cells #[.int .i64 kk, .int .i64 kt, .int .i64 rs, .bool bo, .int .i64 cl, .int .i64 wy] 77)).drew.cell? ⟨lb, lo + kk, none⟩ = some (.int .i64 x) := cell_later (below_seq (below1 wq (Obj.cells #[.int .i64 kk, .int .i64 kt, .int .i64 rs, .bool bo, .int .i64 cl, .int .i64 wy] 77)) (drew_below _)) gx
           have gy2 : (wq.alloc (Obj.cells #[.int .i64 kk, .int .i64 kt, .int .i64 rs, .bool bo, .int .i64 cl, .int .i64 wy] 77)).drew.cell? ⟨lb, lo + kt, none⟩ = some (.int .i64 y) := cell_later (below_seq (below1 wq (Obj.cells #[.int .i64 kk, .int .i64 kt, .int .i64 rs, .bool bo, .int .i64 cl, .int .i64 wy] 77)) (drew_below _)) gy
           have BB := Lib.hid (below_seq BI.out (below1 wq (Obj.cells #[.int .i64 kk, .int .i64 kt, .int .i64 rs, .bool bo, .int .i64 cl, .int .i64 wy] 77)))
           go_wp2
           go_region_held3 (fun w' => w'.cell? ⟨wq.heap.size, 0, none⟩ = some (.int .i64 kk) ∧ w'.cell? ⟨wq.heap.size, 1, none⟩ = some (.int .i64 kt) ∧ w'.cell? ⟨wq.heap.size, 2, none⟩ = some (.int .i64 rs) ∧ w'.cell? ⟨wq.heap.size, 3, none⟩ = some (.bool bo) ∧ w'.cell? ⟨wq.heap.size, 4, none⟩ = some (.int .i64 cl) ∧ w'.cell? ⟨wq.heap.size, 5, none⟩ = some (.int .i64 wy) ∧ w'.cell? ⟨lb, lo + kk, none⟩ = some (.int .i64 x) ∧ w'.cell? ⟨lb, lo + kt, none⟩ = some (.int .i64 y))
            (go_keep)
            (first
              | (go_at_call 112; refine (riseMay_any _ _ _ _ _ _ _ _ HR1.out).mono ?_; rintro e w4 ⟨rfl, hb4⟩; rw [HRV.out]; have p4 := heap_later PB hb4; obtain ⟨e0, e1, e2, e3, e4, e5⟩ := cells6 p4; have gx4 := cell_later hb4 gx2; have gy4 := cell_later hb4 gy2))
           go_wp2
           go_ret
           exact ⟨ret_bool (by rw [HE.out, HNE.out]; simp), below_seq BB.out (below_seq (drew_below _) hb4)⟩
         · have HRV : Hid (((y - x) == rs || (bo && (y - x) == -3 * rs)) = true) := HRM.out.symm.trans hrm
           have HTR : Hid (sdsTo W T xs H l (i + 1) = true) := by show _ = _; rw [HNX.out, HST.out, hrm]; rfl
           clear hrm
           have PB : (wq.alloc (Obj.cells #[.int .i64 kk, .int .i64 kt, .int .i64 rs, .bool bo, .int .i64 cl, .int .i64 wy] 77)).drew.heap[wq.heap.size]? = some _ := heap_new wq (Obj.cells #[.int .i64 kk, .int .i64 kt, .int .i64 rs, .bool bo, .int .i64 cl, .int .i64 wy] 77)
           obtain ⟨h0, h1, h2, h3, h4, h5⟩ := cells6 PB
           have gx2 : (wq.alloc (Obj.cells #[.int .i64 kk, .int .i64 kt, .int .i64 rs, .bool bo, .int .i64 cl, .int .i64 wy] 77)).drew.cell? ⟨lb, lo + kk, none⟩ = some (.int .i64 x) := cell_later (below_seq (below1 wq (Obj.cells #[.int .i64 kk, .int .i64 kt, .int .i64 rs, .bool bo, .int .i64 cl, .int .i64 wy] 77)) (drew_below _)) gx
           have gy2 : (wq.alloc (Obj.cells #[.int .i64 kk, .int .i64 kt, .int .i64 rs, .bool bo, .int .i64 cl, .int .i64 wy] 77)).drew.cell? ⟨lb, lo + kt, none⟩ = some (.int .i64 y) := cell_later (below_seq (below1 wq (Obj.cells #[.int .i64 kk, .int .i64 kt, .int .i64 rs, .bool bo, .int .i64 cl, .int .i64 wy] 77)) (drew_below _)) gy
           have BB := Lib.hid (below_seq BI.out (below1 wq (Obj.cells #[.int .i64 kk, .int .i64 kt, .int .i64 rs, .bool bo, .int .i64 cl, .int .i64 wy] 77)))
           go_wp2
           go_region_held3 (fun w' => w'.cell? ⟨wq.heap.size, 0, none⟩ = some (.int .i64 kk) ∧ w'.cell? ⟨wq.heap.size, 1, none⟩ = some (.int .i64 kt) ∧ w'.cell? ⟨wq.heap.size, 2, none⟩ = some (.int .i64 rs) ∧ w'.cell? ⟨wq.heap.size, 3, none⟩ = some (.bool bo) ∧ w'.cell? ⟨wq.heap.size, 4, none⟩ = some (.int .i64 cl) ∧ w'.cell? ⟨wq.heap.size, 5, none⟩ = some (.int .i64 wy) ∧ w'.cell? ⟨lb, lo + kk, none⟩ = some (.int .i64 x) ∧ w'.cell? ⟨lb, lo + kt, none⟩ = some (.int .i64 y))
            (go_keep)
            (first
              | (go_at_call 112; refine (riseMay_any _ _ _ _ _ _ _ _ HR1.out).mono ?_; rintro e w4 ⟨rfl, hb4⟩; rw [HRV.out]; have p4 := heap_later PB hb4; obtain ⟨e0, e1, e2, e3, e4, e5⟩ := cells6 p4; have gx4 := cell_later hb4 gx2; have gy4 := cell_later hb4 gy2))
           have O4 := Lib.hid (OwnsSd.below (OwnsSd.below OI.out (below_seq (below1 wq (Obj.cells #[.int .i64 kk, .int .i64 kt, .int .i64 rs, .bool bo, .int .i64 cl, .int .i64 wy] 77)) (drew_below _))) hb4)
           go_wp2
           go_roundw
           case rel => exact ⟨i + 1, by omega, by go_num, HTR.out, O4.out, below_seq BB.out (below_seq (drew_below _) hb4)⟩
           case measure => simp [intOf]; omega
       · obtain rfl : i = q := by omega
         have HSD2 : Hid (sdsOk W T xs H k = true) := by show _ = _; rw [← HSO.out, ← HQ.out]; exact HST.out
         have hil : 0 < l.length := by rw [← HQ.out]; exact hll
         have hcell := OwnsSd.cellAt OI.out hil
         have hl1 : l[0] = (fk, hd) := by rw [← HL0.out]; simp [List.getD, hil]
         rw [hl1] at hcell
         have f0 := hcell 0 (.int .i64 fk) rfl
         have gf := (HL.out.below BI.out).cellAt (i := fk) (by rw [← HM.out]; exact hfm)
         obtain ⟨z, hz⟩ : ∃ z, z = H.getD fk 0 := ⟨_, rfl⟩
         rw [← hz] at gf
         have HEE : Hid (hokB W T xs H = (z == 0)) := by show _ = _; rw [HE.out, HG.out, HSD2.out, HFK.out, Int.toNat_natCast, ← hz]; rfl
         have fk1 : (fk : Int) < k := by omega
         clear hcell hl1 hz
         go_wp2_with fail
         refine (firstCorner_any g i cap3 fk _ hll (by omega) (by simpa using f0)).mono ?_; rintro e w5 ⟨rfl, rfl⟩
         go_wp2
         go_ret
         exact ⟨ret_bool HEE.out.symm, BI.out⟩
 · have e : hokB W T xs H = false := by
    unfold hokB
    rw [HNN.out, show decide ((H.length : Int) = (N : Int)) = false by rw [← HM.out]; simp; omega]; simp
   rw [e]
   have n1 : ((m : Int) != N) = true := by simp; omega
   have n2 : ((m : Int) == N) = false := by simp; omega
   have n3 : (m == N) = false := by simpa using hmn
   have n4 : (m != N) = true := by simpa using hmn
   clear e hfr hfl
   go_enter Tryz.func85, Tryz.ntmps85
   go_wp2_with fail
   refine (iSimple_any _ _ _ _ _ xs _ HN.out hn' (HA.out.one _)).mono ?_; rintro e w1 ⟨rfl, hb1⟩
   rw [HS.out]
   have p1 := heap_later (heap_new w (.cells #[.int .i64 W, .int .i64 T, .slice a n cap] 25)) hb1
   have b1 := below_seq (below1 w (.cells #[.int .i64 W, .int .i64 T, .slice a n cap] 25)) hb1
   obtain ⟨c0, c1, c2⟩ := cells3 p1
   go_wp2_with fail
   refine (iCornerMany_any _ _ _ _ _ xs _ HN.out hn' (HA.out.below b1)).mono ?_; rintro e w2 ⟨rfl, hb2⟩
   rw [HC.out]
   go_wp2
   go_ret
   exact ⟨rfl, below_seq b1 hb2⟩
end Go.Proofs.YtpcajacekmidbaaGreat

namespace Go.Proofs.YtpcajacekmidbaaGreat
open Go.RowKit
set_option linter.unusedVariables false
set_option maxRecDepth 100000
set_option linter.unusedSimpArgs false

def edV (W T : Int) (xs : List Bool) (k : Nat) (nth : Bool) : Value :=
 .tuple #[.int .i64 (sTo W k nth), .bool (sUsed W T xs k nth), .bool (sBoth W T xs k nth), .int .i64 (if sLeft W T xs k nth then sCell W k nth else -1), .int .i64 (if sRight W T xs k nth then sOther W k nth else -1), .bool (sDark W k nth)]
theorem l1At_e (W T x y : Int) (a : Option Addr) (n cap : Nat) (xs : List Bool) (w : World) {v : Bool} (hn : n = xs.length) (hW0 : 0 ≤ W) (hW1 : W ≤ 100) (hT0 : 0 ≤ T) (hT1 : T ≤ 100) (hWT : (n : Int) = W * T) (ha : BoolsAt w a xs) (h : atB W T xs x y = v) :
 Calls Tryz.prog 64 #[.agg #[.int .i64 W, .int .i64 T, .slice a n cap], .int .i64 x, .int .i64 y] w fun e w' => e = .returned (.bool v) ∧ Below w.heap.size w w' := by
 subst h; exact l1At_any W T x y a n cap xs w hn hW0 hW1 hT0 hT1 hWT ha
theorem l4Dark_low (x y : Int) (w : World) {d : Bool} (hx : -1 ≤ x) (hx1 : x ≤ 10) (hy : 0 ≤ y) (hy1 : y ≤ 10) (h : decide ((x + y + 2) % 2 = 0) = d) :
 Calls Tryz.prog 120 #[.int .i64 x, .int .i64 y] w fun e w' => e = .returned (.bool d) ∧ w' = w := by
 have h0 : 0 ≤ x + y + 2 := by omega
 have e : ((x + y) % 2 == 0) = d := by rw [← h, show (x + y + 2) % 2 = (x + y) % 2 by omega]; rfl
 have HE := Lib.hid e; clear e h
 go_enter Tryz.func120, Tryz.ntmps120
 go_wp2
 go_ret
 exact ⟨ret_bool HE.out, rfl⟩
theorem l4Rise_any (dark across : Bool) (w : World) : Calls Tryz.prog 104 #[.bool dark, .bool across] w fun e w' => e = .returned (.int .i64 (if across then -3 * (if dark then 1 else -1) else (if dark then 1 else -1))) ∧ w' = w := by
 cases dark <;> cases across
 all_goals
  go_enter Tryz.func104, Tryz.ntmps104
  go_wp2
  go_ret
  exact ⟨rfl, rfl⟩

set_option maxHeartbeats 4000000 in
theorem l4Edge_east (W T : Int) (a : Option Addr) (n cap : Nat) (xs : List Bool) (k : Nat) (w : World) (hn : n = xs.length) (hW0 : 1 ≤ W) (hW1 : W ≤ 6) (hT0 : 1 ≤ T) (hT1 : T ≤ 6) (hWT : (n : Int) = W * T) (hk : (k : Int) < (W + 1) * (T + 1)) (ha : BoolsAt w a xs) :
 Calls Tryz.prog 103 #[.agg #[.int .i64 W, .int .i64 T, .slice a n cap], .int .i64 k, .bool false] w fun e w' => e = .returned (edV W T xs k false) ∧ Below w.heap.size w w' := by
 obtain ⟨kx0, kx1, ky0, ke⟩ := kxy hW0 k
 have ky1 := ky_le hW0 hk
 have hcb := corn_bd hW0 hW1 hT0 hT1
 have hk49 : (k : Int) ≤ 49 := by omega
 have HN := Lib.hid hn; clear hn
 have HA := Lib.hid ha; clear ha
 have HWT := Lib.hid hWT; clear hWT
 obtain ⟨L, hL⟩ : ∃ L, sLeft W T xs k false = L := ⟨_, rfl⟩
 obtain ⟨R, hR⟩ : ∃ R, sRight W T xs k false = R := ⟨_, rfl⟩
 obtain ⟨D, hD⟩ : ∃ D, sDark W k false = D := ⟨_, rfl⟩
 have hin : (L || R) = true → kx W k < W := fun h => by
  have hu : sUsed W T xs k false = true := by unfold sUsed; rw [hL, hR]; exact h
  have := sUsed_in hW0 hu
  simp at this
  omega
 have hcl : L = true → 0 ≤ ky W k * W ∧ ky W k * W ≤ 100000 ∧ 0 ≤ sLx W k false := fun h => by
  rw [h] at hL
  have q := atB_in hL
  obtain ⟨i0, i1, i2⟩ := idx_bd (W := W) (T := T) q.1 q.2.1 q.2.2.1 q.2.2.2
  have pb := (prod_bd (W := W) (T := T) (by omega) (by omega) (by omega) (by omega)).2
  exact ⟨i0, by have := q.1; omega, q.1⟩
 have hcr : R = true → 0 ≤ sRy W k false * W ∧ sRy W k false * W ≤ 100000 ∧ 0 ≤ sRy W k false := fun h => by
  rw [h] at hR
  have q := atB_in hR
  obtain ⟨i0, i1, i2⟩ := idx_bd (W := W) (T := T) q.1 q.2.1 q.2.2.1 q.2.2.2
  have pb := (prod_bd (W := W) (T := T) (by omega) (by omega) (by omega) (by omega)).2
  exact ⟨i0, by have := q.1; omega, q.2.2.1⟩
 have eV : Hid (edV W T xs k false = .tuple #[.int .i64 ((k : Int) + 1), .bool (L || R), .bool (L && R), .int .i64 (if L then ky W k * W + sLx W k false else -1), .int .i64 (if R then sRy W k false * W + kx W k else -1), .bool D]) := by
  show _ = _; unfold edV sUsed sBoth; rw [hL, hR, hD]; rfl
 rw [eV.out]
 have hL' : atB W T xs (kx W k) (ky W k) = L := hL
 have hR' : atB W T xs (kx W k) (ky W k - 1) = R := hR
 have hD' : decide ((kx W k + ky W k + 2) % 2 = 0) = D := hD
 have hsl : sLx W k false = kx W k := rfl
 have hsr : sRy W k false = ky W k - 1 := rfl
 rw [hsl] at hcl ⊢; rw [hsr] at hcr ⊢
 clear eV hL hR hD hsl hsr
 have r1 : (k : Int) % (W + 1) = kx W k := rfl
 have r2 : (k : Int) / (W + 1) = ky W k := rfl
 have r1' : (k : Int).tmod (W + 1) = kx W k := Int.tmod_eq_emod_of_nonneg (by omega)
 have r2' : (k : Int).tdiv (W + 1) = ky W k := Int.tdiv_eq_ediv_of_nonneg (by omega)
 obtain ⟨x, hx⟩ : ∃ x, kx W k = x := ⟨_, rfl⟩
 obtain ⟨y, hy⟩ : ∃ y, ky W k = y := ⟨_, rfl⟩
 rw [hx] at r1 r1' kx0 kx1; rw [hy] at r2 r2' ky0 ky1
 simp only [hx, hy] at hL' hR' hD' hcl hcr hin ⊢
 have r4 : W + 1 ≠ 0 := by omega
 have r5 : ((W + 1 : Int) == 0) = false := by simpa using r4
 clear hx hy ke hk hcb
 have HL := Lib.hid hL'; have HR := Lib.hid hR'; have HD := Lib.hid hD'; have HCL := Lib.hid hcl; have HCR := Lib.hid hcr; have HIN := Lib.hid hin
 clear hL' hR' hD' hcl hcr hin
 obtain ⟨wA, hwA⟩ : ∃ wA, wA = w.alloc (.cells #[.int .i64 W, .int .i64 T, .slice a n cap] 25) := ⟨_, rfl⟩
 have pA : wA.heap[w.heap.size]? = some (.cells #[.int .i64 W, .int .i64 T, .slice a n cap] 25 (0, 0)) := by rw [hwA]; exact heap_new _ _
 have bA : Below w.heap.size w wA := by rw [hwA]; exact below1 _ _
 obtain ⟨d0, d1, d2⟩ := cells3 pA
 cases L <;> cases R
 · by_cases hth : x < W
   all_goals
    go_enter Tryz.func103, Tryz.ntmps103
    go_wp2_with fail
    rw [← hwA]; clear hwA
    refine (l1At_e _ _ _ _ _ _ _ xs _ HN.out (by omega) (by omega) (by omega) (by omega) HWT.out (HA.out.below bA) HL.out).mono ?_; rintro e w1 ⟨rfl, hb1⟩
    have p1 := heap_later pA hb1; have b1 := below_seq bA hb1
    clear d0 d1 d2
    obtain ⟨c10, c11, c12⟩ := cells3 p1
    go_wp2_with fail
    refine (l1At_e _ _ _ _ _ _ _ xs _ HN.out (by omega) (by omega) (by omega) (by omega) HWT.out (HA.out.below b1) HR.out).mono ?_; rintro e w2 ⟨rfl, hb2⟩
    have p2 := heap_later p1 hb2; have b2 := below_seq b1 hb2
    clear c10 c11 c12
    obtain ⟨c20, c21, c22⟩ := cells3 p2
    go_wp2_with fail
    refine (l4Dark_low _ _ _ (by omega) (by omega) (by omega) (by omega) HD.out).mono ?_; rintro e w3 ⟨rfl, rfl⟩
    go_wp2
    refine bodyPost_ret (v := _) ?hr rfl ⟨rfl, b2⟩
    case hr => simp [results, Tryz.results103, go_sem]
 · have hth := HIN.out rfl
   obtain ⟨q0, q1, q2⟩ := HCR.out rfl
   go_enter Tryz.func103, Tryz.ntmps103
   go_wp2_with fail
   rw [← hwA]; clear hwA
   refine (l1At_e _ _ _ _ _ _ _ xs _ HN.out (by omega) (by omega) (by omega) (by omega) HWT.out (HA.out.below bA) HL.out).mono ?_; rintro e w1 ⟨rfl, hb1⟩
   have p1 := heap_later pA hb1; have b1 := below_seq bA hb1
   clear d0 d1 d2
   obtain ⟨c10, c11, c12⟩ := cells3 p1
   go_wp2_with fail
   refine (l1At_e _ _ _ _ _ _ _ xs _ HN.out (by omega) (by omega) (by omega) (by omega) HWT.out (HA.out.below b1) HR.out).mono ?_; rintro e w2 ⟨rfl, hb2⟩
   have p2 := heap_later p1 hb2; have b2 := below_seq b1 hb2
   clear c10 c11 c12
   obtain ⟨c20, c21, c22⟩ := cells3 p2
   go_wp2_with fail
   refine (l4Dark_low _ _ _ (by omega) (by omega) (by omega) (by omega) HD.out).mono ?_; rintro e w3 ⟨rfl, rfl⟩
   go_wp2
   refine bodyPost_ret (v := _) ?hr rfl ⟨rfl, b2⟩
   case hr => simp [results, Tryz.results103, go_sem]
 · have hth := HIN.out rfl
   obtain ⟨l0, l1, l2⟩ := HCL.out rfl
   go_enter Tryz.func103, Tryz.ntmps103
   go_wp2_with fail
   rw [← hwA]; clear hwA
   refine (l1At_e _ _ _ _ _ _ _ xs _ HN.out (by omega) (by omega) (by omega) (by omega) HWT.out (HA.out.below bA) HL.out).mono ?_; rintro e w1 ⟨rfl, hb1⟩
   have p1 := heap_later pA hb1; have b1 := below_seq bA hb1
   clear d0 d1 d2
   obtain ⟨c10, c11, c12⟩ := cells3 p1
   go_wp2_with fail
   refine (l1At_e _ _ _ _ _ _ _ xs _ HN.out (by omega) (by omega) (by omega) (by omega) HWT.out (HA.out.below b1) HR.out).mono ?_; rintro e w2 ⟨rfl, hb2⟩
   have p2 := heap_later p1 hb2; have b2 := below_seq b1 hb2
   clear c10 c11 c12
   obtain ⟨c20, c21, c22⟩ := cells3 p2
   go_wp2_with fail
   refine (l4Dark_low _ _ _ (by omega) (by omega) (by omega) (by omega) HD.out).mono ?_; rintro e w3 ⟨rfl, rfl⟩
   go_wp2
   refine bodyPost_ret (v := _) ?hr rfl ⟨rfl, b2⟩
   case hr => simp [results, Tryz.results103, go_sem]
 · have hth := HIN.out rfl
   obtain ⟨l0, l1, l2⟩ := HCL.out rfl
   obtain ⟨q0, q1, q2⟩ := HCR.out rfl
   go_enter Tryz.func103, Tryz.ntmps103
   go_wp2_with fail
   rw [← hwA]; clear hwA
   refine (l1At_e _ _ _ _ _ _ _ xs _ HN.out (by omega) (by omega) (by omega) (by omega) HWT.out (HA.out.below bA) HL.out).mono ?_; rintro e w1 ⟨rfl, hb1⟩
   have p1 := heap_later pA hb1; have b1 := below_seq bA hb1
   clear d0 d1 d2
   obtain ⟨c10, c11, c12⟩ := cells3 p1
   go_wp2_with fail
   refine (l1At_e _ _ _ _ _ _ _ xs _ HN.out (by omega) (by omega) (by omega) (by omega) HWT.out (HA.out.below b1) HR.out).mono ?_; rintro e w2 ⟨rfl, hb2⟩
   have p2 := heap_later p1 hb2; have b2 := below_seq b1 hb2
   clear c10 c11 c12
   obtain ⟨c20, c21, c22⟩ := cells3 p2
   go_wp2_with fail
   refine (l4Dark_low _ _ _ (by omega) (by omega) (by omega) (by omega) HD.out).mono ?_; rintro e w3 ⟨rfl, rfl⟩
   go_wp2
   refine bodyPost_ret (v := _) ?hr rfl ⟨rfl, b2⟩
   case hr => simp [results, Tryz.results103, go_sem]

set_option maxHeartbeats 4000000 in
theorem l4Edge_north (W T : Int) (a : Option Addr) (n cap : Nat) (xs : List Bool) (k : Nat) (w : World) (hn : n = xs.length) (hW0 : 1 ≤ W) (hW1 : W ≤ 6) (hT0 : 1 ≤ T) (hT1 : T ≤ 6) (hWT : (n : Int) = W * T) (hk : (k : Int) < (W + 1) * (T + 1)) (ha : BoolsAt w a xs) :
 Calls Tryz.prog 103 #[.agg #[.int .i64 W, .int .i64 T, .slice a n cap], .int .i64 k, .bool true] w fun e w' => e = .returned (edV W T xs k true) ∧ Below w.heap.size w w' := by
 obtain ⟨kx0, kx1, ky0, ke⟩ := kxy hW0 k
 have ky1 := ky_le hW0 hk
 have hcb := corn_bd hW0 hW1 hT0 hT1
 have hk49 : (k : Int) ≤ 49 := by omega
 have HN := Lib.hid hn; clear hn
 have HA := Lib.hid ha; clear ha
 have HWT := Lib.hid hWT; clear hWT
 obtain ⟨L, hL⟩ : ∃ L, sLeft W T xs k true = L := ⟨_, rfl⟩
 obtain ⟨R, hR⟩ : ∃ R, sRight W T xs k true = R := ⟨_, rfl⟩
 obtain ⟨D, hD⟩ : ∃ D, sDark W k true = D := ⟨_, rfl⟩
 have hin : (L || R) = true → ky W k < T := fun h => by
  have hu : sUsed W T xs k true = true := by unfold sUsed; rw [hL, hR]; exact h
  have := sUsed_in hW0 hu
  simp at this
  omega
 have hcl : L = true → 0 ≤ ky W k * W ∧ ky W k * W ≤ 100000 ∧ 0 ≤ sLx W k true := fun h => by
  rw [h] at hL
  have q := atB_in hL
  obtain ⟨i0, i1, i2⟩ := idx_bd (W := W) (T := T) q.1 q.2.1 q.2.2.1 q.2.2.2
  have pb := (prod_bd (W := W) (T := T) (by omega) (by omega) (by omega) (by omega)).2
  exact ⟨i0, by have := q.1; omega, q.1⟩
 have hcr : R = true → 0 ≤ sRy W k true * W ∧ sRy W k true * W ≤ 100000 ∧ 0 ≤ sRy W k true := fun h => by
  rw [h] at hR
  have q := atB_in hR
  obtain ⟨i0, i1, i2⟩ := idx_bd (W := W) (T := T) q.1 q.2.1 q.2.2.1 q.2.2.2
  have pb := (prod_bd (W := W) (T := T) (by omega) (by omega) (by omega) (by omega)).2
  exact ⟨i0, by have := q.1; omega, q.2.2.1⟩
 have eV : Hid (edV W T xs k true = .tuple #[.int .i64 ((k : Int) + W + 1), .bool (L || R), .bool (L && R), .int .i64 (if L then ky W k * W + sLx W k true else -1), .int .i64 (if R then sRy W k true * W + kx W k else -1), .bool D]) := by
  show _ = _; unfold edV sUsed sBoth; rw [hL, hR, hD]; rfl
 rw [eV.out]
 have hL' : atB W T xs (kx W k - 1) (ky W k) = L := hL
 have hR' : atB W T xs (kx W k) (ky W k) = R := hR
 have hD' : decide ((kx W k - 1 + ky W k + 2) % 2 = 0) = D := hD
 have hsl : sLx W k true = kx W k - 1 := rfl
 have hsr : sRy W k true = ky W k := rfl
 rw [hsl] at hcl ⊢; rw [hsr] at hcr ⊢
 clear eV hL hR hD hsl hsr
 have r1 : (k : Int) % (W + 1) = kx W k := rfl
 have r2 : (k : Int) / (W + 1) = ky W k := rfl
 have r1' : (k : Int).tmod (W + 1) = kx W k := Int.tmod_eq_emod_of_nonneg (by omega)
 have r2' : (k : Int).tdiv (W + 1) = ky W k := Int.tdiv_eq_ediv_of_nonneg (by omega)
 obtain ⟨x, hx⟩ : ∃ x, kx W k = x := ⟨_, rfl⟩
 obtain ⟨y, hy⟩ : ∃ y, ky W k = y := ⟨_, rfl⟩
 rw [hx] at r1 r1' kx0 kx1; rw [hy] at r2 r2' ky0 ky1
 simp only [hx, hy] at hL' hR' hD' hcl hcr hin ⊢
 have r4 : W + 1 ≠ 0 := by omega
 have r5 : ((W + 1 : Int) == 0) = false := by simpa using r4
 clear hx hy ke hk hcb
 have HL := Lib.hid hL'; have HR := Lib.hid hR'; have HD := Lib.hid hD'; have HCL := Lib.hid hcl; have HCR := Lib.hid hcr; have HIN := Lib.hid hin
 clear hL' hR' hD' hcl hcr hin
 obtain ⟨wA, hwA⟩ : ∃ wA, wA = w.alloc (.cells #[.int .i64 W, .int .i64 T, .slice a n cap] 25) := ⟨_, rfl⟩
 have pA : wA.heap[w.heap.size]? = some (.cells #[.int .i64 W, .int .i64 T, .slice a n cap] 25 (0, 0)) := by rw [hwA]; exact heap_new _ _
 have bA : Below w.heap.size w wA := by rw [hwA]; exact below1 _ _
 obtain ⟨d0, d1, d2⟩ := cells3 pA
 cases L <;> cases R
 · by_cases hth : y < T
   all_goals
    go_enter Tryz.func103, Tryz.ntmps103
    go_wp2_with fail
    rw [← hwA]; clear hwA
    refine (l1At_e _ _ _ _ _ _ _ xs _ HN.out (by omega) (by omega) (by omega) (by omega) HWT.out (HA.out.below bA) HL.out).mono ?_; rintro e w1 ⟨rfl, hb1⟩
    have p1 := heap_later pA hb1; have b1 := below_seq bA hb1
    clear d0 d1 d2
    obtain ⟨c10, c11, c12⟩ := cells3 p1
    go_wp2_with fail
    refine (l1At_e _ _ _ _ _ _ _ xs _ HN.out (by omega) (by omega) (by omega) (by omega) HWT.out (HA.out.below b1) HR.out).mono ?_; rintro e w2 ⟨rfl, hb2⟩
    have p2 := heap_later p1 hb2; have b2 := below_seq b1 hb2
    clear c10 c11 c12
    obtain ⟨c20, c21, c22⟩ := cells3 p2
    go_wp2_with fail
    refine (l4Dark_low _ _ _ (by omega) (by omega) (by omega) (by omega) HD.out).mono ?_; rintro e w3 ⟨rfl, rfl⟩
    go_wp2
    refine bodyPost_ret (v := _) ?hr rfl ⟨rfl, b2⟩
    case hr => simp [results, Tryz.results103, go_sem]
 · have hth := HIN.out rfl
   obtain ⟨q0, q1, q2⟩ := HCR.out rfl
   go_enter Tryz.func103, Tryz.ntmps103
   go_wp2_with fail
   rw [← hwA]; clear hwA
   refine (l1At_e _ _ _ _ _ _ _ xs _ HN.out (by omega) (by omega) (by omega) (by omega) HWT.out (HA.out.below bA) HL.out).mono ?_; rintro e w1 ⟨rfl, hb1⟩
   have p1 := heap_later pA hb1; have b1 := below_seq bA hb1
   clear d0 d1 d2
   obtain ⟨c10, c11, c12⟩ := cells3 p1
   go_wp2_with fail
   refine (l1At_e _ _ _ _ _ _ _ xs _ HN.out (by omega) (by omega) (by omega) (by omega) HWT.out (HA.out.below b1) HR.out).mono ?_; rintro e w2 ⟨rfl, hb2⟩
   have p2 := heap_later p1 hb2; have b2 := below_seq b1 hb2
   clear c10 c11 c12
   obtain ⟨c20, c21, c22⟩ := cells3 p2
   go_wp2_with fail
   refine (l4Dark_low _ _ _ (by omega) (by omega) (by omega) (by omega) HD.out).mono ?_; rintro e w3 ⟨rfl, rfl⟩
   go_wp2
   refine bodyPost_ret (v := _) ?hr rfl ⟨rfl, b2⟩
   case hr => simp [results, Tryz.results103, go_sem]
 · have hth := HIN.out rfl
   obtain ⟨l0, l1, l2⟩ := HCL.out rfl
   go_enter Tryz.func103, Tryz.ntmps103
   go_wp2_with fail
   rw [← hwA]; clear hwA
   refine (l1At_e _ _ _ _ _ _ _ xs _ HN.out (by omega) (by omega) (by omega) (by omega) HWT.out (HA.out.below bA) HL.out).mono ?_; rintro e w1 ⟨rfl, hb1⟩
   have p1 := heap_later pA hb1; have b1 := below_seq bA hb1
   clear d0 d1 d2
   obtain ⟨c10, c11, c12⟩ := cells3 p1
   go_wp2_with fail
   refine (l1At_e _ _ _ _ _ _ _ xs _ HN.out (by omega) (by omega) (by omega) (by omega) HWT.out (HA.out.below b1) HR.out).mono ?_; rintro e w2 ⟨rfl, hb2⟩
   have p2 := heap_later p1 hb2; have b2 := below_seq b1 hb2
   clear c10 c11 c12
   obtain ⟨c20, c21, c22⟩ := cells3 p2
   go_wp2_with fail
   refine (l4Dark_low _ _ _ (by omega) (by omega) (by omega) (by omega) HD.out).mono ?_; rintro e w3 ⟨rfl, rfl⟩
   go_wp2
   refine bodyPost_ret (v := _) ?hr rfl ⟨rfl, b2⟩
   case hr => simp [results, Tryz.results103, go_sem]
 · have hth := HIN.out rfl
   obtain ⟨l0, l1, l2⟩ := HCL.out rfl
   obtain ⟨q0, q1, q2⟩ := HCR.out rfl
   go_enter Tryz.func103, Tryz.ntmps103
   go_wp2_with fail
   rw [← hwA]; clear hwA
   refine (l1At_e _ _ _ _ _ _ _ xs _ HN.out (by omega) (by omega) (by omega) (by omega) HWT.out (HA.out.below bA) HL.out).mono ?_; rintro e w1 ⟨rfl, hb1⟩
   have p1 := heap_later pA hb1; have b1 := below_seq bA hb1
   clear d0 d1 d2
   obtain ⟨c10, c11, c12⟩ := cells3 p1
   go_wp2_with fail
   refine (l1At_e _ _ _ _ _ _ _ xs _ HN.out (by omega) (by omega) (by omega) (by omega) HWT.out (HA.out.below b1) HR.out).mono ?_; rintro e w2 ⟨rfl, hb2⟩
   have p2 := heap_later p1 hb2; have b2 := below_seq b1 hb2
   clear c10 c11 c12
   obtain ⟨c20, c21, c22⟩ := cells3 p2
   go_wp2_with fail
   refine (l4Dark_low _ _ _ (by omega) (by omega) (by omega) (by omega) HD.out).mono ?_; rintro e w3 ⟨rfl, rfl⟩
   go_wp2
   refine bodyPost_ret (v := _) ?hr rfl ⟨rfl, b2⟩
   case hr => simp [results, Tryz.results103, go_sem]
end Go.Proofs.YtpcajacekmidbaaGreat

namespace Go.Proofs.YtpcajacekmidbaaGreat
open Go.RowKit
set_option linter.unusedVariables false
set_option maxRecDepth 100000
set_option linter.unusedSimpArgs false

def pickI (hi : Bool) (x y : Int) : Int := if hi then (if x < y then y else x) else (if y < x then y else x)
def bothL (hi : Bool) (A B : List Int) (k : Nat) : List Int := (List.range A.length).map fun i => if i < k then pickI hi (A.getD i 0) (B.getD i 0) else A.getD i 0
def bothF (hi : Bool) (W T : Int) (xs : List Bool) (A B : List Int) : List Int := if hokB W T xs A && hokB W T xs B then bothL hi A B A.length else []
theorem bothL_len (hi : Bool) (A B : List Int) (k : Nat) : (bothL hi A B k).length = A.length := by simp [bothL]
theorem hokB_len {W T : Int} {xs : List Bool} {H : List Int} (h : hokB W T xs H = true) : (H.length : Int) = (W + 1) * (T + 1) ∧ rv W T xs = true := by
 unfold hokB at h
 simp only [Bool.and_eq_true, decide_eq_true_eq] at h
 exact ⟨h.1.1.1.2, simpleB_rv h.1.1.1.1⟩

end Go.Proofs.YtpcajacekmidbaaGreat

namespace Go.Proofs.YtpcajacekmidbaaGreat
open Go.RowKit
set_option linter.unusedVariables false
set_option maxRecDepth 100000
set_option linter.unusedSimpArgs false

end Go.Proofs.YtpcajacekmidbaaGreat

namespace Go.Proofs.YtpcajacekmidbaaGreat
open Go.RowKit
set_option linter.unusedVariables false
set_option maxRecDepth 100000
set_option linter.unusedSimpArgs false

structure HokP (W T : Int) (xs : List Bool) (H : List Int) (N fk : Nat) : Prop where
 hs : simpleB W T xs = true
 hN : (W + 1) * (T + 1) = (N : Int)
 fst : frstK W T xs N = fk
 len : H.length = N
 off : ∀ k, k < N → hAt W T xs k = false → H.getD k 0 = 99
 bd : ∀ k, k < N → hAt W T xs k = true → -60 ≤ H.getD k 0 ∧ H.getD k 0 ≤ 60
 side : ∀ k nth, k < N → sUsed W T xs k nth = true → rMay W T xs k nth (H.getD (sTo W k nth).toNat 0 - H.getD k 0) = true
 first : H.getD fk 0 = 0
theorem hokP_size {W T : Int} {xs : List Bool} (hs : simpleB W T xs = true) : ∃ N fk : Nat, (W + 1) * (T + 1) = (N : Int) ∧ frstK W T xs N = fk := by
 obtain ⟨v1, v2, v3, v4, v5, v6⟩ := rv_true (simpleB_rv hs)
 have hcb := corn_bd v1 v2 v3 v4
 obtain ⟨N, hN⟩ := Int.eq_ofNat_of_zero_le (show 0 ≤ (W + 1) * (T + 1) by omega)
 have hfr := simple_first hs hN
 obtain ⟨fk, hfk⟩ := Int.eq_ofNat_of_zero_le hfr
 exact ⟨N, fk, hN, hfk⟩
theorem hok_to {W T : Int} {xs : List Bool} {H : List Int} {N fk : Nat} (hN : (W + 1) * (T + 1) = (N : Int)) (hf : frstK W T xs N = fk) (h : hokB W T xs H = true) : HokP W T xs H N fk := by
 unfold hokB at h
 simp only [Bool.and_eq_true, decide_eq_true_eq, beq_iff_eq] at h
 obtain ⟨⟨⟨⟨hs, hl⟩, hm⟩, hsd⟩, h0⟩ := h
 have el : H.length = N := by omega
 rw [el] at hm hsd h0
 have hm' : ∀ k, k < N → hMay W T xs k (H.getD k 0) = true := by
  intro k hk
  unfold hsMay at hm
  exact List.all_eq_true.1 hm k (List.mem_range.2 hk)
 refine ⟨hs, hN, hf, el, ?_, ?_, ?_, ?_⟩
 · intro k hk ha
   have := hm' k hk
   unfold hMay at this
   rw [ha] at this
   simpa using this
 · intro k hk ha
   have := hm' k hk
   unfold hMay inB at this
   rw [ha] at this
   simpa using this
 · intro k nth hk hu
   exact sdsOk_iff.1 hsd (k, nth) (sidesK_mem.2 ⟨hk, hu⟩)
 · rw [hf] at h0; simpa using h0
theorem hok_of {W T : Int} {xs : List Bool} {H : List Int} {N fk : Nat} (h : HokP W T xs H N fk) : hokB W T xs H = true := by
 unfold hokB
 simp only [Bool.and_eq_true, decide_eq_true_eq, beq_iff_eq]
 have hN := h.hN
 refine ⟨⟨⟨⟨h.hs, by rw [h.len]; omega⟩, ?_⟩, ?_⟩, ?_⟩
 · rw [h.len]
   unfold hsMay
   rw [List.all_eq_true]
   intro k hk
   have hk := List.mem_range.1 hk
   unfold hMay
   cases ha : hAt W T xs k
   · have := h.off k hk ha
     simpa using this
   · have := h.bd k hk ha
     unfold inB
     simpa using this
 · rw [h.len, sdsOk_iff]
   rintro ⟨k, nth⟩ hs
   obtain ⟨h1, h2⟩ := sidesK_mem.1 hs
   exact h.side k nth h1 h2
 · rw [h.len, h.fst]; simpa using h.first
theorem may_cases {W T : Int} {xs : List Bool} {k : Nat} {nth : Bool} {d : Int} (h : rMay W T xs k nth d = true) : (sRise W k nth = 1 ∨ sRise W k nth = -1) ∧ (d = sRise W k nth ∨ (sBoth W T xs k nth = true ∧ d = -3 * sRise W k nth)) := by
 unfold rMay at h
 simp only [Bool.or_eq_true, Bool.and_eq_true, beq_iff_eq] at h
 exact ⟨by unfold sRise; split <;> simp, h⟩
theorem may_of {W T : Int} {xs : List Bool} {k : Nat} {nth : Bool} {d : Int} (h : d = sRise W k nth ∨ (sBoth W T xs k nth = true ∧ d = -3 * sRise W k nth)) : rMay W T xs k nth d = true := by
 unfold rMay
 simp only [Bool.or_eq_true, Bool.and_eq_true, beq_iff_eq]
 exact h
theorem hok_mod {W T : Int} {xs : List Bool} {A B : List Int} {N fk : Nat} (hA : HokP W T xs A N fk) (hB : HokP W T xs B N fk) : ∀ k, hAt W T xs k = true → (A.getD k 0 - B.getD k 0) % 4 = 0 := by
 obtain ⟨v1, v2, v3, v4, v5, v6⟩ := rv_true (simpleB_rv hA.hs)
 have hN := hA.hN
 refine corners_all hA.hs hA.fst (fun k => (A.getD k 0 - B.getD k 0) % 4 = 0) ?_ ?_
 · rw [hA.first, hB.first]; rfl
 · intro k nth hu
   obtain ⟨t0, t1, t2⟩ := sTo_lt v1 hu
   have a := may_cases (hA.side k nth (by omega) hu)
   have b := may_cases (hB.side k nth (by omega) hu)
   omega
theorem pick_cases (hi : Bool) (x y : Int) : (pickI hi x y = x ∧ (if hi then y ≤ x else x ≤ y)) ∨ (pickI hi x y = y ∧ (if hi then x ≤ y else y ≤ x)) := by
 unfold pickI
 cases hi
 · simp only [Bool.false_eq_true, if_false]
   by_cases h : y < x
   · rw [if_pos h]; right; exact ⟨rfl, by omega⟩
   · rw [if_neg h]; left; exact ⟨rfl, by omega⟩
 · simp only [if_true]
   by_cases h : x < y
   · rw [if_pos h]; right; exact ⟨rfl, by omega⟩
   · rw [if_neg h]; left; exact ⟨rfl, by omega⟩
theorem both_get (hi : Bool) (A B : List Int) {k : Nat} (hk : k < A.length) : (bothL hi A B A.length).getD k 0 = pickI hi (A.getD k 0) (B.getD k 0) := by
 simp [bothL, hk]
theorem hok_both (hi : Bool) {W T : Int} {xs : List Bool} {A B : List Int} {N fk : Nat} (hA : HokP W T xs A N fk) (hB : HokP W T xs B N fk) : HokP W T xs (bothL hi A B A.length) N fk := by
 obtain ⟨v1, v2, v3, v4, v5, v6⟩ := rv_true (simpleB_rv hA.hs)
 have hN := hA.hN
 have hlA := hA.len
 have G : ∀ k, k < N → (bothL hi A B A.length).getD k 0 = pickI hi (A.getD k 0) (B.getD k 0) := fun k hk => both_get hi A B (by omega)
 refine ⟨hA.hs, hA.hN, hA.fst, by rw [bothL_len]; exact hA.len, ?_, ?_, ?_, ?_⟩
 · intro k hk ha
   rw [G k hk, hA.off k hk ha, hB.off k hk ha]
   rcases pick_cases hi 99 99 with ⟨e, _⟩ | ⟨e, _⟩ <;> exact e
 · intro k hk ha
   rw [G k hk]
   have a := hA.bd k hk ha
   have b := hB.bd k hk ha
   rcases pick_cases hi (A.getD k 0) (B.getD k 0) with ⟨e, _⟩ | ⟨e, _⟩ <;> rw [e]
   · exact a
   · exact b
 · intro k nth hk hu
   obtain ⟨t0, t1, t2⟩ := sTo_lt v1 hu
   have hk2 : (sTo W k nth).toNat < N := by omega
   rw [G k hk, G _ hk2]
   obtain ⟨hr, a⟩ := may_cases (hA.side k nth hk hu)
   obtain ⟨_, b⟩ := may_cases (hB.side k nth hk hu)
   have hat1 : hAt W T xs k = true := (hAt_iff v1).2 (Or.inl ⟨nth, hu⟩)
   have m := hok_mod hA hB k hat1
   have ha : A.getD (sTo W k nth).toNat 0 - A.getD k 0 = sRise W k nth ∨ A.getD (sTo W k nth).toNat 0 - A.getD k 0 = -3 * sRise W k nth := a.imp id And.right
   have hb : B.getD (sTo W k nth).toNat 0 - B.getD k 0 = sRise W k nth ∨ B.getD (sTo W k nth).toNat 0 - B.getD k 0 = -3 * sRise W k nth := b.imp id And.right
   have key : pickI hi (A.getD (sTo W k nth).toNat 0) (B.getD (sTo W k nth).toNat 0) - pickI hi (A.getD k 0) (B.getD k 0) = A.getD (sTo W k nth).toNat 0 - A.getD k 0 ∨ pickI hi (A.getD (sTo W k nth).toNat 0) (B.getD (sTo W k nth).toNat 0) - pickI hi (A.getD k 0) (B.getD k 0) = B.getD (sTo W k nth).toNat 0 - B.getD k 0 := by
    have e1 := pick_cases hi (A.getD k 0) (B.getD k 0)
    have e2 := pick_cases hi (A.getD (sTo W k nth).toNat 0) (B.getD (sTo W k nth).toNat 0)
    generalize pickI hi (A.getD k 0) (B.getD k 0) = u at *
    generalize pickI hi (A.getD (sTo W k nth).toNat 0) (B.getD (sTo W k nth).toNat 0) = u' at *
    generalize A.getD (sTo W k nth).toNat 0 = a' at *
    generalize B.getD (sTo W k nth).toNat 0 = b' at *
    generalize A.getD k 0 = a0 at *
    generalize B.getD k 0 = b0 at *
    generalize sRise W k nth = r at *
    clear a b hat1 hk2 t0 t1 t2 hk hu G v1 v2 v3 v4 v5 v6 hN hlA hA hB
    cases hi <;> simp only [Bool.false_eq_true, if_false, if_true] at e1 e2 <;> omega
   refine may_of ?_
   rcases key with e | e <;> rw [e]
   · exact a
   · exact b
 · have hfk : fk < N := (first_hAt v1 hA.fst).1
   rw [G fk hfk, hA.first, hB.first]
   rcases pick_cases hi 0 0 with ⟨e, _⟩ | ⟨e, _⟩ <;> exact e
theorem both_hok (hi : Bool) {W T : Int} {xs : List Bool} {A B : List Int} (hA : hokB W T xs A = true) (hB : hokB W T xs B = true) : hokB W T xs (bothL hi A B A.length) = true := by
 have hs : simpleB W T xs = true := by unfold hokB at hA; simp only [Bool.and_eq_true] at hA; exact hA.1.1.1.1
 obtain ⟨N, fk, hN, hf⟩ := hokP_size hs
 exact hok_of (hok_both hi (hok_to hN hf hA) (hok_to hN hf hB))
theorem hok_length {W T : Int} {xs : List Bool} {A B : List Int} (hA : hokB W T xs A = true) (hB : hokB W T xs B = true) : A.length = B.length := by
 have a := (hokB_len hA).1
 have b := (hokB_len hB).1
 omega
theorem hok_entry {W T : Int} {xs : List Bool} {H : List Int} (h : hokB W T xs H = true) {k : Nat} (hk : k < H.length) : -60 ≤ H.getD k 0 ∧ H.getD k 0 ≤ 99 := by
 have hs : simpleB W T xs = true := by unfold hokB at h; simp only [Bool.and_eq_true] at h; exact h.1.1.1.1
 obtain ⟨N, fk, hN, hf⟩ := hokP_size hs
 have hp := hok_to hN hf h
 rw [hp.len] at hk
 cases ha : hAt W T xs k
 · have := hp.off k hk ha; omega
 · have := hp.bd k hk ha; omega
end Go.Proofs.YtpcajacekmidbaaGreat
