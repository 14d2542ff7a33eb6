/- Down as long as there is a way: plain facts, and the contracts of both functions DownAll. No statement is proved here. -/
import Derived.Test.YtpcajacekmidbaaGreatKBndv1
namespace Go.Proofs.YtpcajacekmidbaaGreat
open Go.RowKit
set_option linter.unusedVariables false
set_option maxRecDepth 100000
set_option linter.unusedSimpArgs false

def RetLI9 (w : World) (n : Nat) (ys : List Int) (v : Int) (e : Ending) (w' : World) : Prop :=
 ∃ a cap, e = .returned (.tuple #[.slice a n cap, .int .i64 v]) ∧ OwnsI w' w.heap.size (.slice a n cap) ys ∧ Below w.heap.size w w'
def stepD (W T : Int) (xs : List Bool) (M : List Int) : List Int := match downF (-4) W T xs M with | [] => M | c :: _ => flipL W T M c
def dnI (W T : Int) (xs : List Bool) (L : List Int) : Nat → List Int
 | 0 => L
 | n + 1 => stepD W T xs (dnI W T xs L n)
def dnC (W T : Int) (xs : List Bool) (L : List Int) : Nat := ((List.range 2000).find? fun n => (downF (-4) W T xs (dnI W T xs L n)).isEmpty).getD 0
def dnAllF (W T : Int) (xs : List Bool) (L : List Int) : List Int × Int := if simpleB W T xs && tok W T xs L then (dnI W T xs L (dnC W T xs L), dnC W T xs L) else ([], 0)

theorem sum_set : ∀ (l : List Int) (c : Nat) (v : Int), c < l.length → (l.set c v).sum = l.sum - l.getD c 0 + v
 | [], c, v, h => by simp at h
 | a :: l, 0, v, h => by simp only [List.set_cons_zero, List.sum_cons, List.getD_cons_zero]; omega
 | a :: l, c + 1, v, h => by
   simp only [List.set_cons_succ, List.sum_cons, List.getD_cons_succ]
   have := sum_set l c v (by simpa using h)
   omega
theorem sum_bd : ∀ (l : List Int), (∀ i, i < l.length → -49 ≤ l.getD i 0 ∧ l.getD i 0 ≤ 99) → -49 * (l.length : Int) ≤ l.sum ∧ l.sum ≤ 99 * (l.length : Int)
 | [], _ => by simp
 | a :: l, h => by
   have h0 := h 0 (by simp)
   have ih := sum_bd l (fun i hi => by have := h (i + 1) (by simpa using hi); simpa using this)
   simp only [List.getD_cons_zero] at h0
   simp only [List.sum_cons, List.length_cons]
   omega
theorem ext_set {A B : List Int} {c : Nat} {v : Int} (hl : B.length = A.length) (hc : c < A.length) (h : ∀ k, k < A.length → B.getD k 0 = if k = c then v else A.getD k 0) : B = A.set c v := by
 apply List.ext_getElem
 · rw [List.length_set]; exact hl
 · intro k h1 h2
   have := h k (by omega)
   rw [List.getD_eq_getElem?_getD, List.getElem?_eq_getElem h1, Option.getD_some] at this
   rw [this, List.getElem_set]
   by_cases e : k = c
   · rw [if_pos e, if_pos e.symm]
   · rw [if_neg e, if_neg (fun q => e q.symm), List.getD_eq_getElem?_getD, List.getElem?_eq_getElem (by omega), Option.getD_some]
def DnSt (W T : Int) (xs : List Bool) (L : List Int) (n : Nat) (M : List Int) : Prop :=
 M = dnI W T xs L n ∧ (∀ j, j < n → downF (-4) W T xs (dnI W T xs L j) ≠ []) ∧ tok W T xs M = true ∧ M.length = L.length ∧
  ∃ (N : Nat) (H0 H : List Int), (W + 1) * (T + 1) = (N : Int) ∧ HtsOf W T xs L H0 N ∧ HtsOf W T xs M H N ∧ H0.sum = H.sum + 4 * n
theorem hts_sum {W T : Int} {xs : List Bool} {L H : List Int} {N : Nat} (h : HtsOf W T xs L H N) : -49 * (N : Int) ≤ H.sum ∧ H.sum ≤ 99 * (N : Int) := by
 have := sum_bd H (fun i hi => by
  rw [h.len] at hi
  cases ha : hAt W T xs i
  · rw [h.off i hi ha]; omega
  · have := h.bd i hi ha; omega)
 rw [h.len] at this
 exact this
theorem DnSt.start {W T : Int} {xs : List Bool} {L : List Int} (hs : simpleB W T xs = true) (ht : tok W T xs L = true) : DnSt W T xs L 0 L := by
 obtain ⟨N, f, hN, _, hf⟩ := simple_corn hs
 obtain ⟨H, hH⟩ := hts_exist hs ht hN hf
 exact ⟨rfl, fun j hj => absurd hj (by omega), ht, rfl, N, H, H, hN, hH, hH, by omega⟩
theorem DnSt.next {W T : Int} {xs : List Bool} {L M : List Int} {n : Nat} {c : Int} {r : List Int} (hs : simpleB W T xs = true) (h : DnSt W T xs L n M) (hd : downF (-4) W T xs M = c :: r) :
 DnSt W T xs L (n + 1) (flipL W T M c) ∧ mayB W T M c = true ∧ n < 1900 := by
 obtain ⟨h1, h2, h3, h4, N, H0, H, hN, hH0, hH, hsum⟩ := h
 obtain ⟨N', f, hN', hN49, hf⟩ := simple_corn hs
 obtain rfl : N' = N := by omega
 obtain ⟨_, _, hm, hfl⟩ := down_mem (by decide) (show c ∈ downF (-4) W T xs M by rw [hd]; simp)
 obtain ⟨v1, v2, v3, v4, v5, _⟩ := rv_true (simpleB_rv hs)
 obtain ⟨c0, _⟩ := may_rng v1 v2 v3 v4 hm
 obtain ⟨k, rfl⟩ := Int.eq_ofNat_of_zero_le c0
 have ht' := tok_flip h3 hm
 obtain ⟨H', hH'⟩ := hts_exist hs ht' hN hf
 obtain ⟨hk, hall⟩ := flip_height hs hN h3 ht' hm hH hH'
 rw [Int.toNat_natCast] at hfl
 rw [hfl] at hall
 have hset : H' = H.set k (H.getD k 0 + -4) := ext_set (by rw [hH.len, hH'.len]) (by rw [hH.len]; exact hk) (fun j hj => by
  rw [hall j (by rw [← hH.len]; exact hj)]
  by_cases e : j = k
  · rw [if_pos e, if_pos e, e]
  · rw [if_neg e, if_neg e])
 have hsum' := sum_set H k (H.getD k 0 + -4) (by rw [hH.len]; exact hk)
 rw [← hset] at hsum'
 have b0 := hts_sum hH0
 have b1 := hts_sum hH
 refine ⟨⟨?_, ?_, ht', by rw [flipL_len]; exact h4, N', H0, H', hN, hH0, hH', by omega⟩, hm, by omega⟩
 · show _ = stepD W T xs (dnI W T xs L n)
   rw [← h1]
   unfold stepD
   rw [hd]
 · intro j hj
   by_cases e : j = n
   · rw [e, ← h1, hd]; simp
   · exact h2 j (by omega)
theorem DnSt.ends {W T : Int} {xs : List Bool} {L M : List Int} {n : Nat} (hs : simpleB W T xs = true) (ht : tok W T xs L = true) (hb : n ≤ 1900) (h : DnSt W T xs L n M) (hd : downF (-4) W T xs M = []) : dnAllF W T xs L = (M, (n : Int)) := by
 obtain ⟨h1, h2, _⟩ := h
 have hc : dnC W T xs L = n := by
  unfold dnC
  have e : List.range 2000 = List.range n ++ (n :: List.range' (n + 1) (2000 - n - 1)) := by
   have a1 : List.range' 0 n ++ List.range' n (2000 - n) = List.range' 0 2000 := by
    have := List.range'_append_1 (s := 0) (m := n) (n := 2000 - n)
    rw [Nat.zero_add, show n + (2000 - n) = 2000 by omega] at this; exact this
   have a2 : List.range' n (2000 - n) = n :: List.range' (n + 1) (2000 - n - 1) := by
    obtain ⟨q, hq⟩ : ∃ q, 2000 - n = q + 1 := ⟨1999 - n, by omega⟩
    rw [hq]; rfl
   rw [List.range_eq_range', List.range_eq_range', ← a1, a2]
  rw [e, List.find?_append]
  have : (List.range n).find? (fun n => (downF (-4) W T xs (dnI W T xs L n)).isEmpty) = none := by
   rw [List.find?_eq_none]
   intro j hj
   rw [List.mem_range] at hj
   have := h2 j hj
   simpa using this
  rw [this]
  rw [h1] at hd
  simp [hd]
 unfold dnAllF
 rw [hs, ht, hc, ← h1]; rfl
theorem dnAllF_no {W T : Int} {xs : List Bool} {L : List Int} (h : (simpleB W T xs && tok W T xs L) = false) : dnAllF W T xs L = ([], 0) := by unfold dnAllF; rw [h]; rfl
theorem dnI_len {W T : Int} {xs : List Bool} {L : List Int} (n : Nat) : (dnI W T xs L n).length = L.length := by
 induction n with
 | zero => rfl
 | succ n ih =>
   show (stepD W T xs (dnI W T xs L n)).length = _
   unfold stepD
   split
   · exact ih
   · rw [flipL_len]; exact ih
theorem dnAllF_le (W T : Int) (xs : List Bool) (L : List Int) : (dnAllF W T xs L).1.length ≤ L.length := by
 unfold dnAllF; split
 · show (dnI W T xs L _).length ≤ _; rw [dnI_len]; exact Nat.le_refl _
 · simp
theorem own_pos9 {w : World} {B : Nat} {v : Value} {xs : List Int} (h : OwnsI w B v xs) (h0 : 0 < xs.length) : ∃ g cap, v = .slice (some ⟨g, 0, none⟩) xs.length cap ∧ B ≤ g := by
 rcases h.forms with ⟨_, e⟩ | ⟨g, cap, e, h1, h2⟩
 · rw [e] at h0; simp at h0
 · exact ⟨g, cap, e, h1⟩

set_option maxHeartbeats 4000000 in
theorem iDownAll_ret (W T : Int) (a : Option Addr) (n cap : Nat) (xs : List Bool) (la : Option Addr) (m lcap : Nat) (L : List Int) (w : World) (hn : n = xs.length) (hn' : n ≤ 1048576) (hm : m = L.length) (hm' : m ≤ 1048576) (ha : BoolsAt w a xs) (hl : IntsAt w la L) :
 Calls Tryz.prog 23 #[.agg #[.int .i64 W, .int .i64 T, .slice a n cap], .slice la m lcap] w (RetLI9 w (dnAllF W T xs L).1.length (dnAllF W T xs L).1 (dnAllF W T xs L).2) := by
 have HN := Lib.hid hn; clear hn
 have HM := Lib.hid hm; clear hm
 have HA := Lib.hid ha; clear ha
 have HL := Lib.hid hl; clear hl
 cases hs : simpleB W T xs
 · rw [dnAllF_no (by rw [hs]; rfl)]
   have HS := Lib.hid hs; clear hs
   go_enter Tryz.func23, Tryz.ntmps23
   go_wp2_with fail
   refine (iSimple_any _ _ _ _ _ xs _ HN.out hn' (HA.out.one _)).mono ?_; rintro e w9 ⟨rfl, hb9⟩
   rw [HS.out]
   have BB := Lib.hid (below_seq (below1 w _) hb9)
   go_wp2
   exact bodyPost_ret (v := .tuple #[.slice none 0 0, .int .i64 0]) (by simp [results, Tryz.results23, go_sem]) rfl ⟨none, 0, rfl, OwnsI.nil _ _, BB.out⟩
 cases ht : tok W T xs L
 · rw [dnAllF_no (by rw [ht, Bool.and_false])]
   have HS := Lib.hid hs; clear hs
   have HT := Lib.hid ht; clear ht
   go_enter Tryz.func23, Tryz.ntmps23
   go_wp2_with fail
   refine (iSimple_any _ _ _ _ _ xs _ HN.out hn' (HA.out.one _)).mono ?_; rintro e w8 ⟨rfl, hb8⟩
   rw [HS.out]
   have p8 := heap_later (heap_new w (.cells #[.int .i64 W, .int .i64 T, .slice a n cap] 25)) hb8
   have b8 := below_seq (below1 w _) hb8
   obtain ⟨c0, c1, c2⟩ := cells3 p8
   go_wp2_with fail
   refine (iTilingOk_any _ _ _ _ _ xs _ _ _ L _ HN.out hn' HM.out hm' (HA.out.below b8) (HL.out.below b8)).mono ?_; rintro e w9 ⟨rfl, hb9⟩
   rw [HT.out]
   have BB := Lib.hid (below_seq b8 hb9)
   go_wp2
   exact bodyPost_ret (v := .tuple #[.slice none 0 0, .int .i64 0]) (by simp [results, Tryz.results23, go_sem]) rfl ⟨none, 0, rfl, OwnsI.nil _ _, BB.out⟩
 · have hlk : lok W T xs L = true := by unfold tok at ht; rw [Bool.and_eq_true] at ht; exact ht.1
   obtain ⟨hr, hlenL, _⟩ := lok_rv hlk
   have hmn : m = n := by rw [HM.out, HN.out]; exact hlenL
   subst hmn
   obtain ⟨hW0, hW1, hT0, hT1, v5, _⟩ := rv_true hr
   have m1 : 1 ≤ m := by
    have h1 : 1 * 1 ≤ W * T := Int.mul_le_mul hW0 hT0 (by omega) (by omega)
    have := HN.out; omega
   have HST := Lib.hid (DnSt.start hs ht)
   have HSI := Lib.hid hs
   have HTK := Lib.hid ht
   clear hlk hr hlenL v5 hs ht
   go_enter Tryz.func23, Tryz.ntmps23
   go_wp2_with fail
   refine (iSimple_any _ _ _ _ _ xs _ HN.out hn' (HA.out.one _)).mono ?_; rintro e w1 ⟨rfl, hb1⟩
   rw [HSI.out]
   have p1 := heap_later (heap_new w (.cells #[.int .i64 W, .int .i64 T, .slice a m cap] 25)) hb1
   have b1 := below_seq (below1 w _) hb1
   obtain ⟨c0, c1, c2⟩ := cells3 p1
   go_wp2_with fail
   refine (iTilingOk_any _ _ _ _ _ xs _ _ _ L _ HN.out hn' HM.out hm' (HA.out.below b1) (HL.out.below b1)).mono ?_; rintro e w2 ⟨rfl, hb2⟩
   rw [HTK.out]
   have p2 := heap_later p1 hb2
   have b2 := below_seq b1 hb2
   have y2 := heap_lt p2
   clear c0 c1 c2 hb1 hb2 p1 b1
   obtain ⟨c0, c1, c2⟩ := cells3 p2
   go_wp2_with fail
   refine (clone_own _ _ _ L _ HM.out m1 hm' (HL.out.below b2)).mono ?_; rintro e w3 ⟨gD, cD, rfl, ho3, hb3⟩
   have p3 := heap_later p2 hb3
   have b3 := below_seq b2 hb3
   have HO3 : Hid (OwnsI w3 (w.heap.size + 1) (.slice (some ⟨gD, 0, none⟩) m cD) L) := ho3.lower (by omega)
   have hgD := HO3.out.lt
   clear c0 c1 c2 ho3 hb3 p2 b2
   obtain ⟨c0, c1, c2⟩ := cells3 p3
   go_wp2_with fail
   refine (iDownOf_ret _ _ _ _ _ xs _ _ _ L _ HN.out hn' HM.out hm' (HA.out.below b3) (OwnsI.at HO3.out)).mono ?_; rintro e w4 ⟨a4, c4, rfl, ho4, hb4⟩
   have p4 := heap_later p3 hb4
   have b4 := Lib.hid (below_seq b3 hb4)
   have HO4 := Lib.hid (HO3.out.below hb4)
   have HD4 := Lib.hid ho4
   have z4 := hb4.size
   clear c0 c1 c2 ho4 hb4 p3 b3 HO3
   go_wp2
   go_loopw [7, 8] (fun many v wr => ∃ (k : Nat) (M : List Int) (B : Nat) (aD : Option Addr) (q : Nat) (cd : Nat), k ≤ 1900 ∧ many = .int .i64 k ∧ DnSt W T xs L k M ∧ OwnsI wr (w.heap.size + 1) (.slice (some ⟨gD, 0, none⟩) m cD) M ∧ v = .slice aD q cd ∧ q = (downF (-4) W T xs M).length ∧ gD < B ∧ OwnsI wr B (.slice aD q cd) (downF (-4) W T xs M) ∧ wr.heap[w.heap.size]? = some (.cells #[.int .i64 W, .int .i64 T, .slice a m cap] 25 (0, 0)) ∧ Below w.heap.size w wr) (fun many _ _ => 1901 - (intOf many).toNat)
   case atStart => exact ⟨0, L, w3.heap.size, a4, _, c4, by omega, rfl, HST.out, HO4.out, rfl, rfl, hgD.2, HD4.out, p4, b4.out⟩
   case round =>
    rename World => wr
    clear HO4 HD4 p4 b4 z4 HST
    obtain ⟨k, M, B, aD, q, cd, hk, rfl, hst, ho, rfl, hq, hgB, hod, pr, hbel⟩ := hrel
    have HO := Lib.hid ho; clear ho
    have HOD := Lib.hid hod; clear hod
    have BEL := Lib.hid hbel; clear hbel
    have HML : Hid (m = M.length) := by show _ = _; rw [hst.2.2.2.1]; exact HM.out
    have HMK : Hid (lok W T xs M = true) := by
     show _ = _
     have := hst.2.2.1
     unfold tok at this; rw [Bool.and_eq_true] at this; exact this.1
    obtain ⟨c0, c1, c2⟩ := cells3 pr
    have l1 := heap_lt pr
    have lq : w.heap.size ≤ wr.heap.size := BEL.out.size
    by_cases hq0 : q = 0
    · subst hq0
      have hnil := List.eq_nil_of_length_eq_zero hq.symm
      have HE := Lib.hid (DnSt.ends HSI.out HTK.out hk hst hnil)
      clear hst hq hnil
      go_wp2
      refine bodyPost_ret (v := .tuple #[.slice (some ⟨gD, 0, none⟩) m cD, .int .i64 k]) (by simp [results, Tryz.results23, go_sem]) rfl ?_
      rw [HE.out]
      show RetLI9 w M.length M k _ _
      rw [← HML.out]
      exact ⟨some ⟨gD, 0, none⟩, cD, rfl, HO.out.lower (Nat.le_succ _), BEL.out⟩
    · have hq1 : (0 : Int) < q := by omega
      cases hd : downF (-4) W T xs M with
      | nil => rw [hd] at hq; exact absurd hq hq0
      | cons c rest =>
      obtain ⟨hst2, hmay, hk9⟩ := DnSt.next HSI.out hst hd
      have HST2 := Lib.hid hst2
      have HMAY := Lib.hid hmay
      obtain ⟨g9, cap9, hv9, hg9, hg99⟩ := (show ∃ g cap, (Value.slice aD q cd) = .slice (some ⟨g, 0, none⟩) (downF (-4) W T xs M).length cap ∧ B ≤ g ∧ g < wr.heap.size by
       rcases HOD.out.forms with ⟨_, e⟩ | h
       · rw [hd] at e; cases e
       · exact h)
      simp only [Value.slice.injEq] at hv9
      obtain ⟨rfl, _, rfl⟩ := hv9
      have hc0 := OwnsI.cell (k := 0) HOD.out (by rw [hd]; simp)
      rw [hd] at hc0
      have hc00 : wr.cell? ⟨g9, 0, none⟩ = some (.int .i64 c) := hc0
      clear hc0 hst hst2 hmay
      obtain ⟨cr0, cr1⟩ := may_rng hW0 hW1 hT0 hT1 HMAY.out
      have hne9 : g9 ≠ gD := by omega
      have hneb : gD ≠ w.heap.size := by have := HO.out.lt.1; omega
      go_wp2_with fail
      have PQ : wr.drew.heap[w.heap.size]? = some _ := pr
      go_region_held3 (fun w' => w'.cell? ⟨w.heap.size, 0, none⟩ = some (.int .i64 W) ∧ w'.cell? ⟨w.heap.size, 1, none⟩ = some (.int .i64 T) ∧ w'.cell? ⟨w.heap.size, 2, none⟩ = some (.slice a m cap) ∧ w'.cell? ⟨g9, 0, none⟩ = some (.int .i64 c))
       (go_keep)
       (first
         | (go_at_call 38; refine (turnTwo_yes _ _ _ _ _ xs _ _ (w.heap.size + 1) M c _ HN.out hn' HML.out HMK.out (by omega) (by omega) (HA.out.below (below_seq BEL.out (drew_below _))) w HA.out (Nat.le_succ _) (show OwnsI wr.drew _ _ _ from HO.out) HMAY.out).mono ?_; rintro e w6 ⟨rfl, ho6, hg6⟩; have p6 := heap_grown PQ hg6 (by simp; omega); obtain ⟨c60, c61, c62⟩ := cells3 p6; have k6 := World.grownBy.cell hg6 (show wr.drew.cell? ⟨g9, 0, none⟩ = some _ from hc00) (by simp; omega)))
      have O6 := Lib.hid ho6
      have B6 := Lib.hid (below_grown (below_seq BEL.out (drew_below _)) hg6 (Nat.le_refl _) (fun k e => by cases e; omega))
      have hg66 := O6.out.lt
      clear ho6 hg6 c0 c1 c2 c60 c61 c62 k6
      obtain ⟨c60, c61, c62⟩ := cells3 p6
      have l6 := heap_lt p6
      have HML6 : Hid (m = (flipL W T M c).length) := by show _ = _; rw [flipL_len]; exact HML.out
      go_wp2_with fail
      refine (iDownOf_ret _ _ _ _ _ xs _ _ _ (flipL W T M c) _ HN.out hn' HML6.out hm' (HA.out.below B6.out) (OwnsI.at O6.out)).mono ?_; rintro e w7 ⟨a7, c7, rfl, ho7, hb7⟩
      have p7 := heap_later p6 hb7
      have B7 := Lib.hid (below_seq B6.out hb7)
      have O7 := Lib.hid (O6.out.below hb7)
      have D7 := Lib.hid ho7
      clear ho7 hb7
      go_wp2
      go_roundw
      case rel => exact ⟨k + 1, flipL W T M c, w6.heap.size, a7, _, c7, by omega, by go_num, HST2.out, O7.out, rfl, rfl, hg66.2, D7.out, p7, B7.out⟩
      case measure => simp [intOf]; omega

set_option maxHeartbeats 4000000 in
theorem sDownAll_ret (W T : Int) (a : Option Addr) (n cap : Nat) (xs : List Bool) (la : Option Addr) (m lcap : Nat) (L : List Int) (w : World) (hn : n = xs.length) (hn' : n ≤ 1048576) (hm : m = L.length) (hm' : m ≤ 1048576) (ha : BoolsAt w a xs) (hl : IntsAt w la L) :
 Calls Tryz.prog 24 #[.agg #[.int .i64 W, .int .i64 T, .slice a n cap], .slice la m lcap] w (RetLI9 w (dnAllF W T xs L).1.length (dnAllF W T xs L).1 (dnAllF W T xs L).2) := by
 have HN := Lib.hid hn; clear hn
 have HM := Lib.hid hm; clear hm
 have HA := Lib.hid ha; clear ha
 have HL := Lib.hid hl; clear hl
 cases hs : simpleB W T xs
 · rw [dnAllF_no (by rw [hs]; rfl)]
   have HS := Lib.hid hs; clear hs
   go_enter Tryz.func24, Tryz.ntmps24
   go_wp2_with fail
   refine (sSimple_any _ _ _ _ _ xs _ HN.out hn' (HA.out.one _)).mono ?_; rintro e w9 ⟨rfl, hb9⟩
   rw [HS.out]
   have BB := Lib.hid (below_seq (below1 w _) hb9)
   have zz := BB.out.size
   go_wp2
   exact bodyPost_ret (v := .tuple #[.slice (some ⟨w9.heap.size, 0, none⟩) 0 0, .int .i64 0]) (by simp [results, Tryz.results24, go_sem]) rfl ⟨some ⟨w9.heap.size, 0, none⟩, 0, rfl, World.ownsRow_made w9 #[] 0 zz (Nat.zero_le _) rfl, below_seq BB.out (below1 _ _)⟩
 cases ht : tok W T xs L
 · rw [dnAllF_no (by rw [ht, Bool.and_false])]
   have HS := Lib.hid hs; clear hs
   have HT := Lib.hid ht; clear ht
   go_enter Tryz.func24, Tryz.ntmps24
   go_wp2_with fail
   refine (sSimple_any _ _ _ _ _ xs _ HN.out hn' (HA.out.one _)).mono ?_; rintro e w8 ⟨rfl, hb8⟩
   rw [HS.out]
   have p8 := heap_later (heap_new w (.cells #[.int .i64 W, .int .i64 T, .slice a n cap] 25)) hb8
   have b8 := below_seq (below1 w _) hb8
   obtain ⟨c0, c1, c2⟩ := cells3 p8
   go_wp2_with fail
   refine (sTilingOk_any _ _ _ _ _ xs _ _ _ L _ HN.out hn' HM.out hm' (HA.out.below b8) (HL.out.below b8)).mono ?_; rintro e w9 ⟨rfl, hb9⟩
   rw [HT.out]
   have BB := Lib.hid (below_seq b8 hb9)
   have zz := BB.out.size
   go_wp2
   exact bodyPost_ret (v := .tuple #[.slice (some ⟨w9.heap.size, 0, none⟩) 0 0, .int .i64 0]) (by simp [results, Tryz.results24, go_sem]) rfl ⟨some ⟨w9.heap.size, 0, none⟩, 0, rfl, World.ownsRow_made w9 #[] 0 zz (Nat.zero_le _) rfl, below_seq BB.out (below1 _ _)⟩
 · have hlk : lok W T xs L = true := by unfold tok at ht; rw [Bool.and_eq_true] at ht; exact ht.1
   obtain ⟨hr, hlenL, _⟩ := lok_rv hlk
   have hmn : m = n := by rw [HM.out, HN.out]; exact hlenL
   subst hmn
   obtain ⟨hW0, hW1, hT0, hT1, v5, _⟩ := rv_true hr
   have m1 : 1 ≤ m := by
    have h1 : 1 * 1 ≤ W * T := Int.mul_le_mul hW0 hT0 (by omega) (by omega)
    have := HN.out; omega
   have HST := Lib.hid (DnSt.start hs ht)
   have HSI := Lib.hid hs
   have HTK := Lib.hid ht
   clear hlk hr hlenL v5 hs ht
   obtain ⟨i0, hi, hz0, hz1, hz2⟩ := info_parts infoInt
   obtain ⟨lb, lo, rfl, hlc0⟩ := HL.out 0 (by rw [← HM.out]; exact m1)
   clear hlc0
   go_enter Tryz.func24, Tryz.ntmps24
   go_wp2_with fail
   refine (sSimple_any _ _ _ _ _ xs _ HN.out hn' (HA.out.one _)).mono ?_; rintro e w1 ⟨rfl, hb1⟩
   rw [HSI.out]
   have p1 := heap_later (heap_new w (.cells #[.int .i64 W, .int .i64 T, .slice a m cap] 25)) hb1
   have b1 := below_seq (below1 w _) hb1
   obtain ⟨c0, c1, c2⟩ := cells3 p1
   go_wp2_with fail
   refine (sTilingOk_any _ _ _ _ _ xs _ _ _ L _ HN.out hn' HM.out hm' (HA.out.below b1) (HL.out.below b1)).mono ?_; rintro e w2 ⟨rfl, hb2⟩
   rw [HTK.out]
   have p2 := heap_later p1 hb2
   have b2 := Lib.hid (below_seq b1 hb2)
   have y2 := heap_lt p2
   have z2 := b2.out.size
   clear c0 c1 c2 hb1 hb2 p1 b1
   have HL1 := Lib.hid ((HL.out.below b2.out).one (.cells #[] 3 (0, 0)))
   have p2' := heap_later p2 (below1 w2 (.cells #[] 3 (0, 0)))
   go_wp2_with (at_builtin; refine wpList_append_own _ rfl _ _ 26 rfl w2.heap.size 3 i0 (.int .i64 0) 1 8 Tryz.underlying26 hi hz0 hz1 hz2 rfl (by decide) _ _ _ rfl (World.ownsRow_made w2 #[] 0 (Nat.le_refl _) (Nat.zero_le _) rfl) ⟨lb, lo, none⟩ m lcap (L.map (Value.int .i64)) rfl (by rw [List.length_map, ← HM.out]; omega) (ints_news HL1.out) (ints_one L) (by unfold maxLen; omega) (by omega) (by simp) ?_; intro v' w3 hown hgrow hnil; clear hnil; rw [Nat.zero_add, List.nil_append] at hown; obtain ⟨gD, cD, rfl, ho3⟩ := own_of_row (L := L) hown rfl HM.out.symm m1; clear hown; have hg3 : (w2.alloc (.cells #[] 3 (0, 0))).grownBy w3 (some w2.heap.size) := hgrow; clear hgrow; have b3 := Lib.hid (below_grown (below_seq b2.out (below1 _ _)) hg3 (Nat.le_refl _) (fun k e => by cases e; exact z2)); have p3 := heap_grown p2' hg3 (by simp; omega); clear hg3)
   have HO3 : Hid (OwnsI w3 (w.heap.size + 1) (.slice (some ⟨gD, 0, none⟩) m cD) L) := ho3.lower (by omega)
   clear ho3 p2 p2' HL1
   go_loopw [6, 7, 8, 9] (fun v many _ _ wr => ∃ (k : Nat) (M : List Int) (aD : Option Addr) (cd : Nat), k ≤ 1900 ∧ many = .int .i64 k ∧ DnSt W T xs L k M ∧ v = .slice aD m cd ∧ OwnsI wr (w.heap.size + 1) (.slice aD m cd) M ∧ wr.heap[w.heap.size]? = some (.cells #[.int .i64 W, .int .i64 T, .slice a m cap] 25 (0, 0)) ∧ Below w.heap.size w wr) (fun _ many _ _ _ => 1901 - (intOf many).toNat)
   case atStart => exact ⟨0, L, _, cD, by omega, rfl, HST.out, rfl, HO3.out, p3, b3.out⟩
   case round =>
    rename World => wr
    clear HO3 p3 b3 HST
    obtain ⟨k, M, aD, cd, hk, rfl, hst, rfl, ho, pr, hbel⟩ := hrel
    have HO := Lib.hid ho; clear ho
    have BEL := Lib.hid hbel; clear hbel
    have HML : Hid (m = M.length) := by show _ = _; rw [hst.2.2.2.1]; exact HM.out
    have HMK : Hid (lok W T xs M = true) := by
     show _ = _
     have := hst.2.2.1
     unfold tok at this; rw [Bool.and_eq_true] at this; exact this.1
    obtain ⟨c0, c1, c2⟩ := cells3 pr
    have l1 := heap_lt pr
    have lq : w.heap.size ≤ wr.heap.size := BEL.out.size
    go_wp2_with fail
    refine (sDownOf_ret _ _ _ _ _ xs _ _ _ M _ HN.out hn' HML.out hm' (HA.out.below BEL.out) (OwnsI.at HO.out)).mono ?_; rintro e w4 ⟨a4, c4, rfl, ho4, hb4⟩
    have p4 := heap_later pr hb4
    have B4 := Lib.hid (below_seq BEL.out hb4)
    have O4 := Lib.hid (HO.out.below hb4)
    clear ho4 hb4 c0 c1 c2 HO BEL
    obtain ⟨c0, c1, c2⟩ := cells3 p4
    have l4 := heap_lt p4
    cases hd : downF (-4) W T xs M with
    | nil =>
      have HE := Lib.hid (DnSt.ends HSI.out HTK.out hk hst hd)
      clear hst hd
      go_wp2
      refine bodyPost_ret (v := .tuple #[.slice aD m cd, .int .i64 k]) (by simp [results, Tryz.results24, go_sem]) rfl ?_
      rw [HE.out]
      show RetLI9 w M.length M k _ _
      rw [← HML.out]
      exact ⟨aD, cd, rfl, O4.out.lower (Nat.le_succ _), B4.out⟩
    | cons c rest =>
      obtain ⟨hst2, hmay, hk9⟩ := DnSt.next HSI.out hst hd
      have HST2 := Lib.hid hst2
      have HMAY := Lib.hid hmay
      have HD := Lib.hid hd
      have hq1 : (0 : Int) < ((rest.length : Int) + 1) := by omega
      have FF : Hid (flpF W T xs M c = (flipL W T M c, true)) := by show _ = _; unfold flpF; rw [HMK.out, hmay]; rfl
      clear hst hst2 hmay hd
      have lim := downF_len (-4) W T xs M
      rw [HD.out] at lim
      simp only [List.length_cons] at lim
      obtain ⟨cr0, cr1⟩ := may_rng hW0 hW1 hT0 hT1 HMAY.out
      go_wp2_with fail
      have PQ : w4.drew.heap[w.heap.size]? = some _ := p4
      have HSD : Hid ((fun w' : World => w'.cell? ⟨w.heap.size, 0, none⟩ = some (.int .i64 W) ∧ w'.cell? ⟨w.heap.size, 1, none⟩ = some (.int .i64 T) ∧ w'.cell? ⟨w.heap.size, 2, none⟩ = some (.slice a m cap)) w4.drew) := Lib.hid (show _ from ⟨(cells3 PQ).1, (cells3 PQ).2.1, (cells3 PQ).2.2⟩)
      refine wp_region_till (fun w' : World => w'.cell? ⟨w.heap.size, 0, none⟩ = some (.int .i64 W) ∧ w'.cell? ⟨w.heap.size, 1, none⟩ = some (.int .i64 T) ∧ w'.cell? ⟨w.heap.size, 2, none⟩ = some (.slice a m cap)) 12 (by kernel_rfl) ?_
      refine Till.take (i := 0) (v := ?_) rfl (by kernel_rfl) (by kernel_rfl) (by kernel_rfl) (by kernel_rfl) (fun _ _ _ h => h) (Or.inl ⟨by kernel_rfl, ?_⟩) HSD.out ?_
      rotate_left
      · intro ws hsw
        obtain ⟨s1, s2, s3⟩ := hsw
        go_simp
        try with_reducible rfl
      try simp only [Act.put, List.setIfInBounds_toArray, List.set_cons_zero, List.set_cons_succ]
      refine Till.take (i := 1) (v := ?_) rfl (by kernel_rfl) (by kernel_rfl) (by kernel_rfl) (by kernel_rfl) (fun _ _ _ h => h) (Or.inl ⟨by kernel_rfl, ?_⟩) HSD.out ?_
      rotate_left
      · intro ws hsw
        obtain ⟨s1, s2, s3⟩ := hsw
        go_simp
        try with_reducible rfl
      try simp only [Act.put, List.setIfInBounds_toArray, List.set_cons_zero, List.set_cons_succ]
      refine Till.take (i := 2) (v := ?_) rfl (by kernel_rfl) (by kernel_rfl) (by kernel_rfl) (by kernel_rfl) (fun _ _ _ h => h) (Or.inl ⟨by kernel_rfl, ?_⟩) HSD.out ?_
      rotate_left
      · intro ws hsw
        obtain ⟨s1, s2, s3⟩ := hsw
        go_simp
        try with_reducible rfl
      try simp only [Act.put, List.setIfInBounds_toArray, List.set_cons_zero, List.set_cons_succ]
      refine Till.take (i := 3) (v := ?_) rfl (by kernel_rfl) (by kernel_rfl) (by kernel_rfl) (by kernel_rfl) (fun _ _ _ h => h) (Or.inl ⟨by kernel_rfl, ?_⟩) HSD.out ?_
      rotate_left
      · intro ws hsw
        obtain ⟨s1, s2, s3⟩ := hsw
        go_simp
        try with_reducible rfl
      try simp only [Act.put, List.setIfInBounds_toArray, List.set_cons_zero, List.set_cons_succ]
      refine Till.one (i := 4) (by kernel_rfl) rfl (by rfl) (fun K hK => ?_)
      go_simp
      refine (sDownOf_ret _ _ _ _ _ xs _ _ _ M _ HN.out hn' HML.out hm' (HA.out.below (below_seq B4.out (drew_below _))) (OwnsI.at (show OwnsI w4.drew _ _ _ from O4.out))).mono ?_; rintro e w5 ⟨a5, c5, rfl, ho5, hb5⟩
      rw [HD.out] at ho5 ⊢
      obtain ⟨g5, cap5, hv5, hg5⟩ := own_pos9 ho5 (by simp)
      simp only [Value.slice.injEq] at hv5
      obtain ⟨rfl, _, rfl⟩ := hv5
      have k5 : w5.cell? ⟨g5, 0, none⟩ = some (.int .i64 c) := OwnsI.cell (k := 0) ho5 (by simp)
      have p5 := heap_later PQ hb5
      have B5 := Lib.hid (below_seq (below_seq B4.out (drew_below _)) hb5)
      have O5 := Lib.hid ((show OwnsI w4.drew _ _ _ from O4.out).below hb5)
      obtain ⟨c50, c51, c52⟩ := cells3 p5
      have HSE : Hid ((fun w' : World => w'.cell? ⟨w.heap.size, 0, none⟩ = some (.int .i64 W) ∧ w'.cell? ⟨w.heap.size, 1, none⟩ = some (.int .i64 T) ∧ w'.cell? ⟨w.heap.size, 2, none⟩ = some (.slice a m cap)) w5) := Lib.hid (show _ from ⟨c50, c51, c52⟩)
      show K _ w5
      refine hK.out _ _ (fun _ => ⟨c50, c51, c52⟩) ?_
      clear hK K
      refine Till.take (i := 5) (v := ?_) rfl (by kernel_rfl) (by kernel_rfl) (by kernel_rfl) (by kernel_rfl) (fun _ _ _ h => h) (Or.inl ⟨by kernel_rfl, ?_⟩) HSE.out ?_
      rotate_left
      · intro ws hsw
        obtain ⟨s1, s2, s3⟩ := hsw
        go_simp
        try with_reducible rfl
      try simp only [Act.put, List.setIfInBounds_toArray, List.set_cons_zero, List.set_cons_succ]
      refine Till.one (i := 6) (by kernel_rfl) rfl (by rfl) (fun K hK => ?_)
      go_simp
      refine hK.out _ _ (fun _ => ⟨c50, c51, c52⟩) ?_
      clear hK K
      refine Till.one (i := 7) (by kernel_rfl) rfl (by rfl) (fun K hK => ?_)
      go_simp
      refine (sFlipOne_ret _ _ _ _ _ xs _ _ _ M c _ HN.out hn' HML.out hm' (HA.out.below B5.out) (OwnsI.at O5.out)).mono ?_; rintro e w6 ⟨a6, c6, rfl, ho6, hb6⟩
      have p6 := heap_later p5 hb6
      obtain ⟨c60, c61, c62⟩ := cells3 p6
      show K _ w6
      refine hK.out _ _ (fun _ => ⟨c60, c61, c62⟩) ?_
      clear hK K
      refine Till.one (i := 8) (by kernel_rfl) rfl (by rfl) (fun K hK => ?_)
      go_simp
      refine hK.out _ _ (fun _ => ⟨c60, c61, c62⟩) ?_
      clear hK K
      have HSF : Hid ((fun w' : World => w'.cell? ⟨w.heap.size, 0, none⟩ = some (.int .i64 W) ∧ w'.cell? ⟨w.heap.size, 1, none⟩ = some (.int .i64 T) ∧ w'.cell? ⟨w.heap.size, 2, none⟩ = some (.slice a m cap)) w6) := Lib.hid (show _ from ⟨c60, c61, c62⟩)
      refine Till.take (i := 9) (v := ?_) rfl (by kernel_rfl) (by kernel_rfl) (by kernel_rfl) (by kernel_rfl) (fun _ _ _ h => h) (Or.inl ⟨by kernel_rfl, ?_⟩) HSF.out ?_
      rotate_left
      · intro ws hsw
        obtain ⟨s1, s2, s3⟩ := hsw
        go_simp
        try with_reducible rfl
      try simp only [Act.put, List.setIfInBounds_toArray, List.set_cons_zero, List.set_cons_succ]
      refine Till.take (i := 10) (v := ?_) rfl (by kernel_rfl) (by kernel_rfl) (by kernel_rfl) (by kernel_rfl) (fun _ _ _ h => h) (Or.inl ⟨by kernel_rfl, ?_⟩) HSF.out ?_
      rotate_left
      · intro ws hsw
        obtain ⟨s1, s2, s3⟩ := hsw
        go_simp
        try with_reducible rfl
      try simp only [Act.put, List.setIfInBounds_toArray, List.set_cons_zero, List.set_cons_succ]
      refine Till.one (i := 11) (by kernel_rfl) rfl (by rfl) (fun K hK => ?_)
      go_simp
      refine hK.out _ _ (fun _ => ⟨c60, c61, c62⟩) ?_
      clear hK K
      refine Till.one (i := 12) (by kernel_rfl) rfl (by rfl) (fun K hK => ?_)
      go_simp
      refine hK.out _ _ (fun h => absurd rfl h) ?_
      clear hK K
      refine Till.done (by kernel_rfl) ?_ _
      rw [FF.out] at ho6
      simp only [FF.out]
      have B6 := Lib.hid (below_seq B5.out hb6)
      have hz5 := B5.out.size
      have O6 : Hid (OwnsI w6 (w.heap.size + 1) (.slice a6 m c6) (flipL W T M c)) := by
       show OwnsI _ _ _ _
       have h6 := ho6.lower (B' := w.heap.size + 1) (by have := heap_lt p5; omega)
       simp only [flipL_len] at h6
       rw [← HML.out] at h6
       exact h6
      have FL6 : Hid ((flipL W T M c).length = m) := by show _ = _; rw [flipL_len]; exact HML.out.symm
      clear ho6 hb6
      simp only [FL6.out]
      go_wp2
      go_roundw
      case rel => exact ⟨k + 1, flipL W T M c, a6, c6, by omega, by go_num, HST2.out, rfl, O6.out, p6, B6.out⟩
      case measure => simp [intOf]; omega

end Go.Proofs.YtpcajacekmidbaaGreat
