/- Contract of impl.HolesMany; plain facts on numbers that fall until they are even. -/
import Derived.Test.YtpcajacekmidbaaKParts
import Derived.Deep.DeepMust
namespace Go.Proofs.Ytpcajacekmidbaa
open Go.RowKit
set_option linter.unusedVariables false
set_option maxRecDepth 100000
set_option linter.unusedSimpArgs false

def selfN (L : List Int) (k : Nat) : Nat := (List.range k).countP fun i => L.getD i 0 == (i : Int)
theorem selfN_succ (L : List Int) (k : Nat) : selfN L (k + 1) = selfN L k + if L.getD k 0 == (k : Int) then 1 else 0 := by
 unfold selfN; rw [List.range_succ, List.countP_append]; simp [List.countP_cons]
theorem selfN_le (L : List Int) (k : Nat) : selfN L k ≤ k := by
 have := List.countP_le_length (p := fun i => L.getD i 0 == (i : Int)) (l := List.range k)
 rwa [List.length_range] at this

theorem marksMany_any (la : Option Addr) (m lcap : Nat) (L : List Int) (w : World) (hm : m = L.length) (hm' : m ≤ 1048576) (hl : IntsAt w la L) :
 Calls Try.prog 82 #[.slice la m lcap] w fun e w' => e = .returned (.int .i64 (selfN L m : Nat)) ∧ w' = w := by
 have HM := Lib.hid hm; clear hm
 have HL := Lib.hid hl; clear hl
 go_enter Try.func82, Try.ntmps82
 go_wp2
 go_loop [3, 8] (fun c i => ∃ k : Nat, k ≤ m ∧ i = .int .i64 k ∧ c = .int .i64 (selfN L k : Nat)) (fun _ i => m - (intOf i).toNat)
 case atStart => exact ⟨0, Nat.zero_le _, rfl, rfl⟩
 case round =>
  obtain ⟨k, hk, rfl, rfl⟩ := hrel
  have hs := selfN_le L k
  by_cases hlt : k < m
  · obtain ⟨lb, lo, rfl, hcx⟩ := HL.out k (by rw [← HM.out]; exact hlt)
    have hsu := selfN_succ L k
    obtain ⟨mu, hmu⟩ : ∃ mu, mu = L.getD k 0 := ⟨_, rfl⟩
    rw [← hmu] at hcx hsu
    clear hmu
    have e1 : (k : Int) < m := by omega
    have e2 : (0 : Int) ≤ k := by omega
    obtain ⟨q, hq⟩ : ∃ q, q = selfN L k := ⟨_, rfl⟩
    obtain ⟨q2, hq2⟩ : ∃ q2, q2 = selfN L (k + 1) := ⟨_, rfl⟩
    rw [← hq, ← hq2] at hsu
    rw [← hq]
    have hqk : q ≤ k := by rw [hq]; exact hs
    have HQ2 := Lib.hid hq2; clear hq2 hq hs
    by_cases he : mu = k
    · have hsu2 : q2 = q + 1 := by rw [hsu, he]; simp
      have HS := Lib.hid hsu2; clear hsu hsu2
      subst he
      go_wp2
      go_round
      case rel => exact ⟨k + 1, by omega, by go_num, by rw [← HQ2.out, HS.out]; go_num⟩
      case measure => simp [intOf]; omega
    · have hne : (mu == (k : Int)) = false := by simpa using he
      have hsu2 : q2 = q := by rw [hsu, hne]; simp
      have HS := Lib.hid hsu2; clear hsu hsu2
      go_wp2
      go_round
      case rel => exact ⟨k + 1, by omega, by go_num, by rw [← HQ2.out, HS.out]⟩
      case measure => simp [intOf]; omega
  · obtain rfl : k = m := by omega
    go_wp2
    go_ret
    exact ⟨rfl, rfl⟩

def partsN (W T : Int) (xs : List Bool) : Int := if rv W T xs then (selfN (partsF W T xs) (partsF W T xs).length : Nat) else -1

theorem iPartsMany_any (W T : Int) (a : Option Addr) (n cap : Nat) (xs : List Bool) (w : World) (hn : n = xs.length) (hn' : n ≤ 1048576) (ha : BoolsAt w a xs) :
 Calls Try.prog 81 #[.agg #[.int .i64 W, .int .i64 T, .slice a n cap]] w fun e w' => e = .returned (.int .i64 (partsN W T xs)) ∧ Below w.heap.size w w' := by
 have HN := Lib.hid hn; clear hn
 have HA := Lib.hid ha; clear ha
 cases h : rv W T xs
 · have e : partsN W T xs = -1 := by unfold partsN; rw [h]; rfl
   rw [e]
   have H := Lib.hid h; clear h e
   go_enter Try.func81, Try.ntmps81
   go_wp2_with fail
   refine (iRegionValid_any _ _ _ _ _ xs _ HN.out hn' (HA.out.one _)).mono ?_; rintro e w1 ⟨rfl, hb1⟩
   rw [H.out]
   go_wp2
   go_ret
   exact ⟨rfl, below_seq (below1 _ _) hb1⟩
 · obtain ⟨v1, v2, v3, v4, v5, _⟩ := rv_true h
   have ef : partsF W T xs = marksL n (fun i => xs.getD i false) (adjW W false) := by unfold partsF; rw [h, if_pos rfl, HN.out]
   have e : partsN W T xs = (selfN (marksL n (fun i => xs.getD i false) (adjW W false)) n : Nat) := by unfold partsN; rw [h, if_pos rfl, ef, marksL_len]
   rw [e]
   have H := Lib.hid h; clear h e ef
   have hWT : (n : Int) = W * T := by rw [HN.out]; exact v5
   have HWT := Lib.hid hWT; clear hWT v5
   go_enter Try.func81, Try.ntmps81
   go_wp2_with fail
   refine (iRegionValid_any _ _ _ _ _ xs _ HN.out hn' (HA.out.one _)).mono ?_; rintro e w1 ⟨rfl, hb1⟩
   rw [H.out]
   have b1 := below_seq (below1 w (.cells #[.int .i64 W, .int .i64 T, .slice a n cap] 25)) hb1
   obtain ⟨c0, c1, c2⟩ := cells3 (heap_later (heap_new w (.cells #[.int .i64 W, .int .i64 T, .slice a n cap] 25)) hb1)
   go_wp2_with fail
   refine (marksOf_any W T a n cap xs false _ HN.out v1 (by omega) (by omega) (by omega) HWT.out (HA.out.below b1)).mono ?_; rintro e w2 ⟨g, M, rfl, hl, ho, hm, hb2⟩
   have hM := marksL_eq hm
   subst hM
   have HO := Lib.hid ho.at
   have HL := Lib.hid hl.symm
   have B2 := Lib.hid (below_seq b1 hb2)
   clear ho hl hm hb2 b1 c0 c1 c2
   go_wp2_with fail
   refine (marksMany_any _ n n _ _ HL.out hn' HO.out).mono ?_; rintro e w3 ⟨rfl, hw⟩
   rw [hw]
   clear hw
   go_wp2
   go_ret
   exact ⟨rfl, B2.out⟩

end Go.Proofs.Ytpcajacekmidbaa

namespace Go.Proofs.Ytpcajacekmidbaa
open Go.RowKit
set_option linter.unusedVariables false
set_option maxRecDepth 100000
set_option linter.unusedSimpArgs false

def outB (W T : Int) (xs : List Bool) (i : Nat) : Bool := !atB W T xs ((i : Int) % (W + 2) - 1) ((i : Int) / (W + 2) - 1)
def outL (W T : Int) (xs : List Bool) (N : Nat) : List Bool := (List.range N).map (outB W T xs)
theorem outL_len (W T : Int) (xs : List Bool) (N : Nat) : (outL W T xs N).length = N := by simp [outL]
theorem outL_get {W T : Int} {xs : List Bool} {N i : Nat} (h : i < N) : (outL W T xs N).getD i false = outB W T xs i := by simp [outL, h]
theorem rim_bd {W T : Int} (h1 : 1 ≤ W) (h2 : W ≤ 6) (h3 : 1 ≤ T) (h4 : T ≤ 6) : 9 ≤ (W + 2) * (T + 2) ∧ (W + 2) * (T + 2) ≤ 64 := by
 have a : (W + 2) * (T + 2) ≤ 8 * 8 := Int.mul_le_mul (by omega) (by omega) (by omega) (by omega)
 have b : 3 * 3 ≤ (W + 2) * (T + 2) := Int.mul_le_mul (by omega) (by omega) (by omega) (by omega)
 omega

set_option maxHeartbeats 600000 in
theorem outside_any (W T : Int) (a : Option Addr) (n cap : Nat) (xs : List Bool) (N : Nat) (w : World) (hn : n = xs.length) (v1 : 1 ≤ W) (v2 : W ≤ 6) (v3 : 1 ≤ T) (v4 : T ≤ 6) (hWT : (n : Int) = W * T) (hN : (W + 2) * (T + 2) = (N : Int)) (ha : BoolsAt w a xs) :
 Calls Try.prog 84 #[.agg #[.int .i64 W, .int .i64 T, .slice a n cap]] w fun e w' => ∃ g, e = .returned (.agg #[.int .i64 (W + 2), .int .i64 (T + 2), .slice (some ⟨g, 0, none⟩) N N]) ∧ OwnsB w' w.heap.size (.slice (some ⟨g, 0, none⟩) N N) (outL W T xs N) ∧ Below w.heap.size w w' := by
 have hb64 := rim_bd v1 v2 v3 v4
 have n64 : N ≤ 64 := by omega
 clear hb64
 have HN := Lib.hid hn; clear hn
 have HA := Lib.hid ha; clear ha
 have HWT := Lib.hid hWT; clear hWT
 have HNN := Lib.hid hN; clear hN
 obtain ⟨V, hV⟩ : ∃ V, W + 2 = V := ⟨_, rfl⟩
 obtain ⟨V2, hV2⟩ : ∃ V, T + 2 = V := ⟨_, rfl⟩
 rw [hV, hV2] at HNN
 rw [hV, hV2]
 have u1 : 3 ≤ V := by omega
 have u2 : V ≤ 8 := by omega
 have u3 : 3 ≤ V2 := by omega
 have u4 : V2 ≤ 8 := by omega
 have HV := Lib.hid hV
 go_enter Try.func84, Try.ntmps84
 go_wp2_with fail
 have b1 := below2 w (.cells #[.int .i64 W, .int .i64 T, .slice a n cap] 25) (.cells #[.int .i64 0, .int .i64 0, .slice none 0 0] 25)
 refine (bareField_any (V) (V2) N _ (by omega) (by omega) (by omega) (by omega) HNN.out (by omega)).mono ?_; rintro e w2 ⟨g, rfl, ho, hb2⟩
 have p2 := heap_later (heap_later (heap_new w (.cells #[.int .i64 W, .int .i64 T, .slice a n cap] 25 (0, 0))) (below1 _ _)) hb2
 have q2 := heap_later (heap_new2 w (.cells #[.int .i64 W, .int .i64 T, .slice a n cap] 25 (0, 0)) (.cells #[.int .i64 0, .int .i64 0, .slice none 0 0] 25 (0, 0))) hb2
 have b2 := below_seq b1 hb2
 have R2 : RowB w2 (w.heap.size + 2) g N N (fun _ => false) := (RowB.of (ho.lower (by simp)) (by simp)).congr (fun i hi => by simp [hi])
 have A2 := Lib.hid (HA.out.below b2)
 have lg := R2.base
 clear ho hb2 b1
 obtain ⟨c0, c1, c2⟩ := cells3 p2
 have lp := heap_lt p2
 have lq := heap_lt q2
 go_wp2
 clear hV hV2
 go_loopw [4, 15] (fun _ i wr => ∃ k : Nat, k ≤ N ∧ i = .int .i64 k ∧ RowB wr (w.heap.size + 2) g N N (fun j => decide (j < k) && outB W T xs j) ∧ wr.heap[w.heap.size]? = some (.cells #[.int .i64 W, .int .i64 T, .slice a n cap] 25 (0, 0)) ∧ wr.heap[w.heap.size + 1]? = some (.cells #[.int .i64 0, .int .i64 0, .slice none 0 0] 25 (0, 0)) ∧ wr.heap[w2.heap.size]? = some (.cells #[.int .i64 V, .int .i64 V2, .slice (some ⟨g, 0, none⟩) N N] 25 (0, 0)) ∧ Below w.heap.size w wr) (fun _ i _ => N - (intOf i).toNat)
 case atStart => exact ⟨0, Nat.zero_le _, rfl, (R2.below (below1 _ _)).congr (by intro i hi; simp), heap_later p2 (below1 _ _), heap_later q2 (below1 _ _), heap_new _ _, below_seq b2 (below1 _ _)⟩
 case round =>
  obtain ⟨k, hk, rfl, hr, pr, qr, sr, hbel⟩ := hrel
  rename World => wr
  clear c0 c1 c2
  obtain ⟨c0, c1, c2⟩ := cells3 pr
  obtain ⟨s0, s1, s2⟩ := cells3 sr
  have l1 := heap_lt pr
  have l2 := heap_lt sr
  by_cases hlt : k < N
  · have e1 : (k : Int) < N := by omega
    have e0 : (0 : Int) ≤ k := by omega
    have hW0 : V ≠ 0 := by omega
    obtain ⟨x, hx⟩ : ∃ x, x = (k : Int) % V := ⟨_, rfl⟩
    obtain ⟨y, hy⟩ : ∃ y, y = (k : Int) / V := ⟨_, rfl⟩
    have T1 : (k : Int).tmod V = x := by rw [hx]; exact Int.tmod_eq_emod_of_nonneg e0
    have T2 : (k : Int).tdiv V = y := by rw [hy]; exact Int.tdiv_eq_ediv_of_nonneg e0
    have x0 : 0 ≤ x := by rw [hx]; exact Int.emod_nonneg _ hW0
    have x1 : x < 8 := by have := Int.emod_lt_of_pos (k : Int) (b := V) (by omega); omega
    have y0 : 0 ≤ y := by rw [hy]; exact Int.ediv_nonneg e0 (by omega)
    have y1 : y ≤ k := by rw [hy]; exact Int.ediv_le_self _ e0
    have ew1 : IntKind.i64.wrap (x - 1) = x - 1 := by rw [IntKind.wrap_i64]; omega
    have ew2 : IntKind.i64.wrap y = y := by rw [IntKind.wrap_i64]; omega
    have ew3 : IntKind.i64.wrap (y - 1) = y - 1 := by rw [IntKind.wrap_i64]; omega
    have HOB : Hid (outB W T xs k = !atB W T xs (x - 1) (y - 1)) := by show _ = _; unfold outB; rw [HV.out, ← hx, ← hy]
    clear hx hy
    have HR := Lib.hid hr; clear hr
    have BEL := Lib.hid hbel; clear hbel
    have hcell := HR.out.cell (k := k) hlt
    have hfree := HR.out.free k
    obtain ⟨old, hold⟩ : ∃ old, old = (decide (k < k) && outB W T xs k) := ⟨_, rfl⟩
    rw [← hold] at hcell
    clear hold
    have PQ : wr.drew.heap[w.heap.size]? = some _ := pr
    have SQ : wr.drew.heap[w2.heap.size]? = some _ := sr
    have n1 : g ≠ w.heap.size := by omega
    have n2 : g ≠ w2.heap.size := by omega
    go_wp2_with fail
    go_region_held3 (fun w' => w'.cell? ⟨w.heap.size, 0, none⟩ = some (.int .i64 W) ∧ w'.cell? ⟨w.heap.size, 1, none⟩ = some (.int .i64 T) ∧ w'.cell? ⟨w.heap.size, 2, none⟩ = some (.slice a n cap) ∧ w'.cell? ⟨w2.heap.size, 0, none⟩ = some (.int .i64 V) ∧ w'.cell? ⟨w2.heap.size, 2, none⟩ = some (.slice (some ⟨g, 0, none⟩) N N))
     (go_keep)
     (first
       | (go_at_call 133; refine (hasCell_any W T (x - 1) (y - 1) a n cap xs _ HN.out (by omega) (by omega) (by omega) (by omega) HWT.out (HA.out.below (BEL.out.drew))).mono ?_; rintro e w6 ⟨rfl, hb6⟩; have p6 := heap_later PQ hb6; have s6 := heap_later SQ hb6; obtain ⟨c60, c61, c62⟩ := cells3 p6; obtain ⟨d60, d61, d62⟩ := cells3 s6; have k6 := cell_later hb6 (show (World.drew wr).cell? _ = some _ from hcell); have r6 := RowB.free (RowB.below (show RowB (World.drew wr) _ _ _ _ _ from HR.out) hb6) k))
    have q6 := heap_later (show (World.drew wr).heap[w.heap.size + 1]? = some _ from qr) hb6
    have R6 := RowB.below (show RowB (World.drew wr) _ _ _ _ _ from HR.out) hb6
    have hs := R6.set k (!atB W T xs (x - 1) (y - 1))
    have hs1 := hs.1.congr (f' := fun j => decide (j < k + 1) && outB W T xs j) (fun i hi => by
     by_cases e : i = k
     · subst e; simp [HOB.out]
     · have : decide (i < k + 1) = decide (i < k) := by apply decide_eq_decide.2; omega
       simp only [if_neg e, this])
    have HS := Lib.hid hs1
    have B6 := Lib.hid (below_seq BEL.out (below_seq (drew_below _) hb6))
    clear hs hs1 R6 r6 k6 c60 c61 c62 d60 d61 d62 c0 c1 c2 s0 s1 s2
    go_wp2
    go_roundw
    case rel => exact ⟨k + 1, by omega, by go_num, HS.out, heap_set_other p6 (by simp; omega) _, heap_set_other q6 (by simp; omega) _, heap_set_other s6 (by simp; omega) _, B6.out.setCell (by simp; omega) _⟩
    case measure => simp [intOf]; omega
  · obtain rfl : k = N := by omega
    have HR := Lib.hid hr; clear hr
    obtain ⟨d0, d1, d2⟩ := cells3 qr
    have e0 := free3 qr 0
    have e1 := free3 qr 1
    have e2 := free3 qr 2
    go_wp2
    refine bodyPost_ret (v := .agg #[.int .i64 V, .int .i64 V2, .slice (some ⟨g, 0, none⟩) k k]) (by simp [results, Try.results84, go_sem, d0, d1, d2]) rfl ⟨_, rfl, ?_, ?_⟩
    · have := (HR.out.congr (f' := outB W T xs) (fun i hi => by simp [hi])).owns
      exact (OwnsB.set3 this (by omega) _ _ _).lower (by omega)
    · exact below_set3 hbel (by omega) _ _ _
end Go.Proofs.Ytpcajacekmidbaa

namespace Go.Proofs.Ytpcajacekmidbaa
open Go.RowKit
set_option linter.unusedVariables false
set_option maxRecDepth 100000
set_option linter.unusedSimpArgs false

def oneMark (N : Nat) (s : Nat → Bool) (adj : Nat → Nat → Bool) : Bool := decide (selfN (marksL N s adj) N = 1)
theorem countP_one {l : List Nat} {p : Nat → Bool} {a : Nat} (ha : a ∈ l) (hp : p a = true) (h : l.countP p = 1) : ∀ b ∈ l, p b = true → b = a := by
 induction l with
 | nil => cases ha
 | cons x l ih =>
   intro b hb hpb
   rw [List.countP_cons] at h
   by_cases hx : p x = true
   · rw [if_pos hx] at h
     have h0 : l.countP p = 0 := by omega
     rw [List.countP_eq_zero] at h0
     have e1 : a = x := by
      rcases List.mem_cons.1 ha with e | e
      · exact e
      · exact absurd hp (h0 a e)
     have e2 : b = x := by
      rcases List.mem_cons.1 hb with e | e
      · exact e
      · exact absurd hpb (h0 b e)
     rw [e1, e2]
   · rw [if_neg hx] at h
     have ha' : a ∈ l := by
      rcases List.mem_cons.1 ha with e | e
      · subst e; exact absurd hp hx
      · exact e
     rcases List.mem_cons.1 hb with e | e
     · subst e; exact absurd hpb hx
     · exact ih ha' (by omega) b e hpb
theorem countP_le_one {l : List Nat} {p : Nat → Bool} {a : Nat} (hn : l.Nodup) (h : ∀ b ∈ l, p b = true → b = a) : l.countP p ≤ 1 := by
 induction l with
 | nil => simp
 | cons x l ih =>
   rw [List.countP_cons]
   rw [List.nodup_cons] at hn
   by_cases hx : p x = true
   · rw [if_pos hx]
     have : l.countP p = 0 := by
      rw [List.countP_eq_zero]
      intro b hb hpb
      have e1 := h b (List.mem_cons_of_mem _ hb) hpb
      have e2 := h x List.mem_cons_self hx
      rw [e1, ← e2] at hb
      exact hn.1 hb
     omega
   · rw [if_neg hx]
     have := ih hn.2 (fun b hb => h b (List.mem_cons_of_mem _ hb))
     omega
theorem oneMark_iff {N : Nat} {s : Nat → Bool} {adj : Nat → Nat → Bool} (h0 : 0 < N) (hs : s 0 = true) : oneMark N s adj = true ↔ ∀ k, k < N → s k = true → Conn N s adj 0 k := by
 have hm := marksL_marks N s adj
 have z : (marksL N s adj).getD 0 0 = 0 := by
  obtain ⟨j, hj, hc, hl⟩ := (hm.2 0 h0).2 hs
  have := hl 0 (.refl h0 hs)
  rw [hj]; omega
 unfold oneMark
 rw [decide_eq_true_eq]
 unfold selfN
 constructor
 · intro h k hk hsk
   obtain ⟨j, hj, hc, hl⟩ := (hm.2 k hk).2 hsk
   have hjN := hc.left
   have hself : (marksL N s adj).getD j 0 = (j : Int) := by
    obtain ⟨j2, hj2, hc2, hl2⟩ := (hm.2 j hjN.1).2 hjN.2
    have a1 := hl2 j (.refl hjN.1 hjN.2)
    have a2 := hl j2 (hc2.trans hc)
    rw [hj2]; omega
   have := countP_one (List.mem_range.2 h0) (by simpa using z) h j (List.mem_range.2 hjN.1) (by simpa using hself)
   rw [this] at hc; exact hc
 · intro h
   have hle : (List.range N).countP (fun i => (marksL N s adj).getD i 0 == (i : Int)) ≤ 1 := by
    refine countP_le_one (a := 0) List.nodup_range (fun b hb hpb => ?_)
    have hbN := List.mem_range.1 hb
    have hbe : (marksL N s adj).getD b 0 = (b : Int) := by simpa using hpb
    cases hsb : s b
    · have := (hm.2 b hbN).1 hsb; omega
    · obtain ⟨j, hj, hc, hl⟩ := (hm.2 b hbN).2 hsb
      have := hl 0 (h b hbN hsb)
      omega
   have hge : 0 < (List.range N).countP (fun i => (marksL N s adj).getD i 0 == (i : Int)) := by
    rw [List.countP_pos_iff]
    exact ⟨0, List.mem_range.2 h0, by simpa using z⟩
   omega

def dxw (way : Nat) : Int := [0, 1, 0, -1, 0].getD way 0
def dyw (way : Nat) : Int := [0, 0, 1, 0, -1].getD way 0
theorem adj_way {V : Int} {c k : Nat} (h : adjW V false c k = true) : ∃ way, 1 ≤ way ∧ way ≤ 4 ∧ (k : Int) % V = (c : Int) % V + dxw way ∧ (k : Int) / V = (c : Int) / V + dyw way := by
 unfold adjW at h
 simp only [Bool.and_eq_true, Bool.or_eq_true, Bool.not_eq_true', decide_eq_true_eq, decide_eq_false_iff_not, Bool.false_eq_true, false_or] at h
 obtain ⟨⟨⟨h1, h2, h3, h4⟩, hne⟩, hc⟩ := h
 generalize (k : Int) % V = x' at *
 generalize (c : Int) % V = x at *
 generalize (k : Int) / V = y' at *
 generalize (c : Int) / V = y at *
 rcases hc with hc | hc
 · have hy : y' = y + 1 ∨ y' = y - 1 := by
    have : y' ≠ y := fun e => hne ⟨hc, e⟩
    omega
   rcases hy with e | e
   · exact ⟨2, by omega, by omega, by simp [dxw]; omega, by simp [dyw]; omega⟩
   · exact ⟨4, by omega, by omega, by simp [dxw]; omega, by simp [dyw]; omega⟩
 · have hx : x' = x + 1 ∨ x' = x - 1 := by
    have : x' ≠ x := fun e => hne ⟨e, hc⟩
    omega
   rcases hx with e | e
   · exact ⟨1, by omega, by omega, by simp [dxw]; omega, by simp [dyw]; omega⟩
   · exact ⟨3, by omega, by omega, by simp [dxw]; omega, by simp [dyw]; omega⟩

structure QI (N : Nat) (s : Nat → Bool) (adj : Nat → Nat → Bool) (zs : List Int) (ys : Nat → Bool) (i : Nat) : Prop where
 cnt : zs.length = (List.range N).countP ys
 seen : ∀ j, j < N → ys j = true → Conn N s adj 0 j ∧ ∃ p, p < zs.length ∧ zs.getD p 0 = (j : Int)
 ent : ∀ p, p < zs.length → ∃ j : Nat, zs.getD p 0 = j ∧ j < N ∧ ys j = true
 zero : ys 0 = true
 clo : ∀ p, p < i → ∀ j k : Nat, zs.getD p 0 = j → adj j k = true → k < N → s k = true → ys k = true
theorem QI.le {N : Nat} {s : Nat → Bool} {adj : Nat → Nat → Bool} {zs : List Int} {ys : Nat → Bool} {i : Nat} (h : QI N s adj zs ys i) : zs.length ≤ N := by
 have := List.countP_le_length (p := ys) (l := List.range N)
 rw [List.length_range] at this
 rw [h.cnt]; exact this
theorem countP_set {N n : Nat} {ys : Nat → Bool} (hn : n < N) (h : ys n = false) : (List.range N).countP (fun j => if j = n then true else ys j) = (List.range N).countP ys + 1 := by
 have key : ∀ M, (List.range M).countP (fun j => if j = n then true else ys j) = (List.range M).countP ys + if n < M then 1 else 0 := by
  intro M
  induction M with
  | zero => simp
  | succ M ih =>
    rw [List.range_succ, List.countP_append, List.countP_append, ih]
    by_cases e : M = n
    · subst e; simp [h]
    · have e1 : (if n < M + 1 then 1 else 0) = (if n < M then 1 else 0 : Nat) := by
       by_cases hlt : n < M
       · rw [if_pos hlt, if_pos (by omega)]
       · rw [if_neg hlt, if_neg (by omega)]
      rw [e1]
      simp [e]; omega
 rw [key, if_pos hn]
end Go.Proofs.Ytpcajacekmidbaa

namespace Go.Proofs.Ytpcajacekmidbaa
open Go.RowKit
set_option linter.unusedVariables false
set_option maxRecDepth 100000
set_option linter.unusedSimpArgs false

structure Form where
 e : Nat → Nat → Int
 n : Nat → Nat → Int
def Form.circ (F : Form) (x y : Nat) : Int := F.e x y + F.n (x + 1) y - F.e x (y + 1) - F.n x y
def Form.Agree (V H : Nat) (I : Nat → Nat → Bool) (F G : Form) : Prop :=
 ∀ x y, x < V → y < H → I x y = true → G.e x y = F.e x y ∧ G.e x (y + 1) = F.e x (y + 1) ∧ G.n x y = F.n x y ∧ G.n (x + 1) y = F.n (x + 1) y
theorem Form.Agree.refl {V H : Nat} {I : Nat → Nat → Bool} (F : Form) : Form.Agree V H I F F := fun _ _ _ _ _ => ⟨rfl, rfl, rfl, rfl⟩
theorem Form.Agree.trans {V H : Nat} {I : Nat → Nat → Bool} {F G K : Form} (h : Form.Agree V H I F G) (k : Form.Agree V H I G K) : Form.Agree V H I F K := fun x y a b c => by
 obtain ⟨h1, h2, h3, h4⟩ := h x y a b c
 obtain ⟨k1, k2, k3, k4⟩ := k x y a b c
 exact ⟨k1.trans h1, k2.trans h2, k3.trans h3, k4.trans h4⟩
def Form.addE (F : Form) (a b : Nat) (d : Int) : Form := ⟨fun x y => if x = a ∧ y = b then F.e x y + d else F.e x y, F.n⟩
def Form.addN (F : Form) (a b : Nat) (d : Int) : Form := ⟨F.e, fun x y => if x = a ∧ y = b then F.n x y + d else F.n x y⟩
theorem Form.circ_addE (F : Form) (a b : Nat) (d : Int) (x y : Nat) : (F.addE a b d).circ x y = F.circ x y + (if x = a ∧ y = b then d else 0) - (if x = a ∧ y + 1 = b then d else 0) := by
 unfold Form.circ Form.addE
 simp only
 split <;> split <;> (try split) <;> omega
theorem Form.circ_addN (F : Form) (a b : Nat) (d : Int) (x y : Nat) : (F.addN a b d).circ x y = F.circ x y + (if x + 1 = a ∧ y = b then d else 0) - (if x = a ∧ y = b then d else 0) := by
 unfold Form.circ Form.addN
 simp only
 split <;> split <;> (try split) <;> omega
theorem Form.agree_addE {V H : Nat} {I : Nat → Nat → Bool} (F : Form) (a b : Nat) (d : Int) (h1 : a < V → b < H → I a b = false) (h2 : 0 < b → a < V → b - 1 < H → I a (b - 1) = false) : Form.Agree V H I F (F.addE a b d) := by
 intro x y hx hy hi
 refine ⟨?_, ?_, rfl, rfl⟩
 · show (if x = a ∧ y = b then F.e x y + d else F.e x y) = _
   rw [if_neg]
   rintro ⟨rfl, rfl⟩
   rw [h1 hx hy] at hi; cases hi
 · show (if x = a ∧ y + 1 = b then F.e x (y + 1) + d else F.e x (y + 1)) = _
   rw [if_neg]
   rintro ⟨rfl, rfl⟩
   have := h2 (by omega) hx (by simpa using hy)
   simp at this
   rw [this] at hi; cases hi
theorem Form.agree_addN {V H : Nat} {I : Nat → Nat → Bool} (F : Form) (a b : Nat) (d : Int) (h1 : a < V → b < H → I a b = false) (h2 : 0 < a → a - 1 < V → b < H → I (a - 1) b = false) : Form.Agree V H I F (F.addN a b d) := by
 intro x y hx hy hi
 refine ⟨rfl, rfl, ?_, ?_⟩
 · show (if x = a ∧ y = b then F.n x y + d else F.n x y) = _
   rw [if_neg]
   rintro ⟨rfl, rfl⟩
   rw [h1 hx hy] at hi; cases hi
 · show (if x + 1 = a ∧ y = b then F.n (x + 1) y + d else F.n (x + 1) y) = _
   rw [if_neg]
   rintro ⟨rfl, rfl⟩
   have := h2 (by omega) (by simpa using hx) hy
   simp at this
   rw [this] at hi; cases hi

theorem adj_nat {V j k : Nat} (hV : 0 < V) (h : adjW (V : Int) false j k = true) :
 (k % V = j % V + 1 ∧ k / V = j / V) ∨ (k % V = j % V ∧ k / V = j / V + 1) ∨ (j % V = k % V + 1 ∧ k / V = j / V) ∨ (k % V = j % V ∧ j / V = k / V + 1) := by
 obtain ⟨way, w1, w4, hx, hy⟩ := adj_way h
 rw [← Int.natCast_emod, ← Int.natCast_emod] at hx
 rw [← Int.natCast_ediv, ← Int.natCast_ediv] at hy
 have hw : way = 1 ∨ way = 2 ∨ way = 3 ∨ way = 4 := by omega
 rcases hw with rfl | rfl | rfl | rfl <;> simp [dxw, dyw] at hx hy <;> omega

theorem form_push {V H N : Nat} {s : Nat → Bool} (hV : 0 < V) (hN : N = V * H) {k : Nat} (hc : Conn N s (adjW (V : Int) false) 0 k) :
 ∀ (F : Form) (v : Int), ∃ G : Form, Form.Agree V H (fun x y => !s (y * V + x)) F G ∧ (k ≠ 0 → G.circ (k % V) (k / V) = v) ∧ ∀ x y, x < V → y < H → y * V + x ≠ 0 → y * V + x ≠ k → G.circ x y = F.circ x y := by
 have idx : ∀ x y, x < V → (y * V + x) % V = x ∧ (y * V + x) / V = y := fun x y hx => by
  rw [Nat.add_comm, Nat.add_mul_mod_self_right, Nat.mod_eq_of_lt hx, Nat.add_mul_div_right _ _ hV, Nat.div_eq_of_lt hx]
  exact ⟨rfl, by omega⟩
 have back : ∀ c : Nat, c / V * V + c % V = c := fun c => by rw [Nat.mul_comm]; exact Nat.div_add_mod c V
 have ltV : ∀ c : Nat, c % V < V := fun c => Nat.mod_lt _ hV
 have ltH : ∀ c, c < N → c / V < H := fun c h => Nat.div_lt_of_lt_mul (by rw [← hN]; exact h)
 induction hc with
 | refl h0 hs => exact fun F v => ⟨F, Form.Agree.refl F, fun h => absurd rfl h, fun _ _ _ _ _ _ => rfl⟩
 | @step j k hij hadj hk hsk ih =>
   intro F v
   by_cases hk0 : k = 0
   · exact ⟨F, Form.Agree.refl F, fun h => absurd hk0 h, fun _ _ _ _ _ _ => rfl⟩
   obtain ⟨hj, hsj⟩ := hij.right
   -- the side between both cells, changed so that k has what is wanted
   have h1 : ∃ G : Form, Form.Agree V H (fun x y => !s (y * V + x)) F G ∧ G.circ (k % V) (k / V) = v ∧ ∀ x y, x < V → y < H → y * V + x ≠ j → y * V + x ≠ k → G.circ x y = F.circ x y := by
    have ne : ∀ {x y c : Nat}, x < V → y * V + x ≠ c → ¬ (x = c % V ∧ y = c / V) := fun hx h e => h (by rw [e.1, e.2, back])
    obtain ⟨bj, bk, lj, lk, tj, tk⟩ := (⟨back j, back k, ltV j, ltV k, ltH j hj, ltH k hk⟩ : _ ∧ _ ∧ _ ∧ _ ∧ _ ∧ _)
    generalize hxj : j % V = xj at *
    generalize hyj : j / V = yj at *
    generalize hxk : k % V = xk at *
    generalize hyk : k / V = yk at *
    have nk : ∀ {x y : Nat}, x < V → y * V + x ≠ k → ¬ (x = xk ∧ y = yk) := fun hx h e => h (by rw [e.1, e.2, bk])
    have nj : ∀ {x y : Nat}, x < V → y * V + x ≠ j → ¬ (x = xj ∧ y = yj) := fun hx h e => h (by rw [e.1, e.2, bj])
    have adj := adj_nat hV hadj
    rw [hxj, hyj, hxk, hyk] at adj
    rcases adj with ⟨ax, ay⟩ | ⟨ax, ay⟩ | ⟨ax, ay⟩ | ⟨ax, ay⟩
    · -- k lies in the east
      refine ⟨F.addN xk yk (F.circ xk yk - v), Form.agree_addN _ _ _ _ (fun _ _ => by rw [bk, hsk]; rfl) (fun _ _ _ => by rw [ax, ay, Nat.add_sub_cancel, bj, hsj]; rfl), ?_, ?_⟩
      · rw [Form.circ_addN, if_neg (by omega), if_pos ⟨rfl, rfl⟩]; omega
      · intro x y hx hy h2 h3
        have e1 := nk hx h3
        have e2 := nj hx h2
        rw [Form.circ_addN, if_neg (by omega), if_neg (by omega)]; omega
    · -- in the north
      refine ⟨F.addE xk yk (v - F.circ xk yk), Form.agree_addE _ _ _ _ (fun _ _ => by rw [bk, hsk]; rfl) (fun _ _ _ => by rw [ax, ay, Nat.add_sub_cancel, bj, hsj]; rfl), ?_, ?_⟩
      · rw [Form.circ_addE, if_pos ⟨rfl, rfl⟩, if_neg (by omega)]; omega
      · intro x y hx hy h2 h3
        have e1 := nk hx h3
        have e2 := nj hx h2
        rw [Form.circ_addE, if_neg (by omega), if_neg (by omega)]; omega
    · -- in the west
      refine ⟨F.addN xj yj (v - F.circ xk yk), Form.agree_addN _ _ _ _ (fun _ _ => by rw [bj, hsj]; rfl) (fun _ _ _ => by rw [ax, ← ay, Nat.add_sub_cancel, bk, hsk]; rfl), ?_, ?_⟩
      · rw [Form.circ_addN, if_pos (by omega), if_neg (by omega)]; omega
      · intro x y hx hy h2 h3
        have e1 := nk hx h3
        have e2 := nj hx h2
        rw [Form.circ_addN, if_neg (by omega), if_neg (by omega)]; omega
    · -- in the south
      refine ⟨F.addE xj yj (F.circ xk yk - v), Form.agree_addE _ _ _ _ (fun _ _ => by rw [bj, hsj]; rfl) (fun _ _ _ => by rw [← ax, ay, Nat.add_sub_cancel, bk, hsk]; rfl), ?_, ?_⟩
      · rw [Form.circ_addE, if_neg (by omega), if_pos (by omega)]; omega
      · intro x y hx hy h2 h3
        have e1 := nk hx h3
        have e2 := nj hx h2
        rw [Form.circ_addE, if_neg (by omega), if_neg (by omega)]; omega
   obtain ⟨G, ag, gk, gr⟩ := h1
   obtain ⟨G2, ag2, gj2, gr2⟩ := ih G (F.circ (j % V) (j / V))
   by_cases hjk : j = k
   · subst hjk
     obtain ⟨G3, ag3, gj3, gr3⟩ := ih F v
     exact ⟨G3, ag3, gj3, gr3⟩
   refine ⟨G2, ag.trans ag2, fun _ => ?_, fun x y hx hy h0 h1 => ?_⟩
   · rw [gr2 _ _ (ltV k) (ltH k hk) (by rw [back]; exact hk0) (by rw [back]; exact fun e => hjk e.symm)]
     exact gk
   · by_cases e : y * V + x = j
     · obtain ⟨i1, i2⟩ := idx x y hx
       rw [e] at i1 i2
       have := gj2 (by omega)
       rw [i1, i2] at this
       exact this
     · rw [gr2 x y hx hy h0 e]
       exact gr x y hx hy e h1

theorem form_flat {V H N : Nat} {s : Nat → Bool} (hV : 0 < V) (hH : 0 < H) (hN : N = V * H) (h0 : s 0 = true) (hc : ∀ k, k < N → s k = true → Conn N s (adjW (V : Int) false) 0 k) (F : Form) :
 ∃ G : Form, Form.Agree V H (fun x y => !s (y * V + x)) F G ∧ ∀ x y, x < V → y < H → s (y * V + x) = true → G.circ x y = 0 := by
 have idx : ∀ x y, x < V → (y * V + x) % V = x ∧ (y * V + x) / V = y := fun x y hx => by
  rw [Nat.add_comm, Nat.add_mul_mod_self_right, Nat.mod_eq_of_lt hx, Nat.add_mul_div_right _ _ hV, Nat.div_eq_of_lt hx]
  exact ⟨rfl, by omega⟩
 have part : ∀ m, m ≤ N → ∃ G : Form, Form.Agree V H (fun x y => !s (y * V + x)) F G ∧ ∀ x y, x < V → y < H → s (y * V + x) = true → 0 < y * V + x → y * V + x < m → G.circ x y = 0 := by
  intro m
  induction m with
  | zero => exact fun _ => ⟨F, Form.Agree.refl F, fun _ _ _ _ _ _ h => absurd h (Nat.not_lt_zero _)⟩
  | succ m ih =>
    intro hm
    obtain ⟨G, ag, gz⟩ := ih (by omega)
    by_cases hs : s m = true ∧ m ≠ 0
    · obtain ⟨K, ak, kz, kr⟩ := form_push hV hN (hc m (by omega) hs.1) G 0
      refine ⟨K, ag.trans ak, fun x y hx hy h1 h2 h3 => ?_⟩
      by_cases e : y * V + x = m
      · obtain ⟨i1, i2⟩ := idx x y hx
        rw [e] at i1 i2
        have := kz hs.2
        rw [i1, i2] at this
        exact this
      · rw [kr x y hx hy (by omega) e]
        exact gz x y hx hy h1 h2 (by omega)
    · refine ⟨G, ag, fun x y hx hy h1 h2 h3 => ?_⟩
      by_cases e : y * V + x = m
      · rw [e] at h1 h2
        exact absurd ⟨h1, by omega⟩ hs
      · exact gz x y hx hy h1 h2 (by omega)
 obtain ⟨G, ag, gz⟩ := part N (Nat.le_refl _)
 refine ⟨G.addN 0 0 (G.circ 0 0), ag.trans (Form.agree_addN _ _ _ _ (fun _ _ => by simp [h0]) (fun h => absurd h (Nat.lt_irrefl _))), fun x y hx hy h1 => ?_⟩
 rw [Form.circ_addN, if_neg (by omega)]
 by_cases e : x = 0 ∧ y = 0
 · obtain ⟨rfl, rfl⟩ := e
   rw [if_pos ⟨rfl, rfl⟩]; omega
 · rw [if_neg e]
   have hlt : y * V + x < N := by
    rw [hN]
    have : (y + 1) * V ≤ H * V := Nat.mul_le_mul_right V hy
    rw [Nat.add_mul, Nat.one_mul, Nat.mul_comm H V] at this
    omega
   have hpos : 0 < y * V + x := by
    rcases Nat.eq_zero_or_pos x with h | h
    · have : 0 < y := by omega
      have : 0 < y * V := Nat.mul_pos this hV
      omega
    · omega
   rw [gz x y hx hy h1 hpos hlt]; rfl

def sumI (f : Nat → Int) : Nat → Int
 | 0 => 0
 | n + 1 => sumI f n + f n
def Form.height (F : Form) (x y : Nat) : Int := sumI (fun i => F.e i 0) x + sumI (fun j => F.n x j) y
theorem Form.height_north (F : Form) (x y : Nat) : F.height x (y + 1) - F.height x y = F.n x y := by
 unfold Form.height
 rw [sumI]; omega
theorem Form.height_east {V H : Nat} {F : Form} (h : ∀ x y, x < V → y < H → F.circ x y = 0) : ∀ y, y ≤ H → ∀ x, x < V → F.height (x + 1) y - F.height x y = F.e x y := by
 intro y
 induction y with
 | zero =>
   intro _ x hx
   unfold Form.height
   rw [sumI, sumI, sumI]; omega
 | succ y ih =>
   intro hy x hx
   have h1 := ih (by omega) x hx
   have h2 := F.height_north x y
   have h3 := F.height_north (x + 1) y
   have h4 := h x y hx (by omega)
   unfold Form.circ at h4
   omega

theorem form_heights {V H N : Nat} {s : Nat → Bool} (hV : 0 < V) (hH : 0 < H) (hN : N = V * H) (h0 : s 0 = true) (hc : ∀ k, k < N → s k = true → Conn N s (adjW (V : Int) false) 0 k) (F : Form) (hF : ∀ x y, x < V → y < H → s (y * V + x) = false → F.circ x y = 0) :
 ∃ h : Nat → Nat → Int, ∀ x y, x < V → y < H → s (y * V + x) = false → h (x + 1) y - h x y = F.e x y ∧ h (x + 1) (y + 1) - h x (y + 1) = F.e x (y + 1) ∧ h x (y + 1) - h x y = F.n x y ∧ h (x + 1) (y + 1) - h (x + 1) y = F.n (x + 1) y := by
 obtain ⟨G, ag, gz⟩ := form_flat hV hH hN h0 hc F
 have all : ∀ x y, x < V → y < H → G.circ x y = 0 := fun x y hx hy => by
  cases hs : s (y * V + x)
  · obtain ⟨a1, a2, a3, a4⟩ := ag x y hx hy (by simp [hs])
    have := hF x y hx hy hs
    unfold Form.circ at this ⊢
    rw [a1, a2, a3, a4]; exact this
  · exact gz x y hx hy hs
 refine ⟨G.height, fun x y hx hy hs => ?_⟩
 obtain ⟨a1, a2, a3, a4⟩ := ag x y hx hy (by simp [hs])
 rw [← a1, ← a2, ← a3, ← a4]
 exact ⟨Form.height_east all y (by omega) x hx, Form.height_east all (y + 1) hy x hx, G.height_north x y, G.height_north (x + 1) y⟩
end Go.Proofs.Ytpcajacekmidbaa

namespace Go.Proofs.Ytpcajacekmidbaa
open Go.RowKit
set_option linter.unusedVariables false
set_option maxRecDepth 100000
set_option linter.unusedSimpArgs false

def cornN (W T : Int) (xs : List Bool) : Int := if rv W T xs then (W + 1) * (T + 1) else -1
theorem corn_bd {W T : Int} (h1 : 1 ≤ W) (h2 : W ≤ 6) (h3 : 1 ≤ T) (h4 : T ≤ 6) : 4 ≤ (W + 1) * (T + 1) ∧ (W + 1) * (T + 1) ≤ 49 := by
 have a : (W + 1) * (T + 1) ≤ 7 * 7 := Int.mul_le_mul (by omega) (by omega) (by omega) (by omega)
 have b : 2 * 2 ≤ (W + 1) * (T + 1) := Int.mul_le_mul (by omega) (by omega) (by omega) (by omega)
 omega

theorem sCornerMany_any (W T : Int) (a : Option Addr) (n cap : Nat) (xs : List Bool) (w : World) (hn : n = xs.length) (hn' : n ≤ 1048576) (ha : BoolsAt w a xs) :
 Calls Try.prog 130 #[.agg #[.int .i64 W, .int .i64 T, .slice a n cap]] w fun e w' => e = .returned (.int .i64 (cornN W T xs)) ∧ Below w.heap.size w w' := by
 have HN := Lib.hid hn; clear hn
 have HA := Lib.hid ha; clear ha
 cases h : rv W T xs
 · have e : cornN W T xs = -1 := by unfold cornN; rw [h]; rfl
   rw [e]
   have H := Lib.hid h; clear h e
   go_enter Try.func130, Try.ntmps130
   go_wp2_with fail
   refine (sRegionValid_any _ _ _ _ _ xs _ HN.out hn' (HA.out.one _)).mono ?_; rintro e w1 ⟨rfl, hb1⟩
   rw [H.out]
   go_wp2
   go_ret
   exact ⟨rfl, below_seq (below1 _ _) hb1⟩
 · obtain ⟨v1, v2, v3, v4, v5, _⟩ := rv_true h
   have e : cornN W T xs = (W + 1) * (T + 1) := by unfold cornN; rw [h, if_pos rfl]
   rw [e]
   have H := Lib.hid h; clear h e v5
   have hb := corn_bd v1 v2 v3 v4
   go_enter Try.func130, Try.ntmps130
   go_wp2_with fail
   refine (sRegionValid_any _ _ _ _ _ xs _ HN.out hn' (HA.out.one _)).mono ?_; rintro e w1 ⟨rfl, hb1⟩
   rw [H.out]
   obtain ⟨c0, c1, c2⟩ := cells3 (heap_later (heap_new w (.cells #[.int .i64 W, .int .i64 T, .slice a n cap] 25)) hb1)
   go_wp2
   go_ret
   exact ⟨rfl, below_seq (below1 _ _) hb1⟩

theorem iCornerMany_any (W T : Int) (a : Option Addr) (n cap : Nat) (xs : List Bool) (w : World) (hn : n = xs.length) (hn' : n ≤ 1048576) (ha : BoolsAt w a xs) :
 Calls Try.prog 137 #[.agg #[.int .i64 W, .int .i64 T, .slice a n cap]] w fun e w' => e = .returned (.int .i64 (cornN W T xs)) ∧ Below w.heap.size w w' := by
 have HN := Lib.hid hn; clear hn
 have HA := Lib.hid ha; clear ha
 cases h : rv W T xs
 · have e : cornN W T xs = -1 := by unfold cornN; rw [h]; rfl
   rw [e]
   have H := Lib.hid h; clear h e
   go_enter Try.func137, Try.ntmps137
   go_wp2_with fail
   refine (iRegionValid_any _ _ _ _ _ xs _ HN.out hn' (HA.out.one _)).mono ?_; rintro e w1 ⟨rfl, hb1⟩
   rw [H.out]
   go_wp2
   go_ret
   exact ⟨rfl, below_seq (below1 _ _) hb1⟩
 · obtain ⟨v1, v2, v3, v4, v5, _⟩ := rv_true h
   have e : cornN W T xs = (W + 1) * (T + 1) := by unfold cornN; rw [h, if_pos rfl]
   rw [e]
   have H := Lib.hid h; clear h e v5
   have hb := corn_bd v1 v2 v3 v4
   go_enter Try.func137, Try.ntmps137
   go_wp2_with fail
   refine (iRegionValid_any _ _ _ _ _ xs _ HN.out hn' (HA.out.one _)).mono ?_; rintro e w1 ⟨rfl, hb1⟩
   rw [H.out]
   obtain ⟨c0, c1, c2⟩ := cells3 (heap_later (heap_new w (.cells #[.int .i64 W, .int .i64 T, .slice a n cap] 25)) hb1)
   go_wp2
   go_ret
   exact ⟨rfl, below_seq (below1 _ _) hb1⟩
end Go.Proofs.Ytpcajacekmidbaa

namespace Go.Proofs.Ytpcajacekmidbaa
open Go.RowKit
set_option linter.unusedVariables false
set_option maxRecDepth 100000
set_option linter.unusedSimpArgs false

def kx (W : Int) (k : Nat) : Int := (k : Int) % (W + 1)
def ky (W : Int) (k : Nat) : Int := (k : Int) / (W + 1)
def sLx (W : Int) (k : Nat) (nth : Bool) : Int := if nth then kx W k - 1 else kx W k
def sRy (W : Int) (k : Nat) (nth : Bool) : Int := if nth then ky W k else ky W k - 1
def sLeft (W T : Int) (xs : List Bool) (k : Nat) (nth : Bool) : Bool := atB W T xs (sLx W k nth) (ky W k)
def sRight (W T : Int) (xs : List Bool) (k : Nat) (nth : Bool) : Bool := atB W T xs (kx W k) (sRy W k nth)
def sTo (W : Int) (k : Nat) (nth : Bool) : Int := if nth then (k : Int) + W + 1 else (k : Int) + 1
def sUsed (W T : Int) (xs : List Bool) (k : Nat) (nth : Bool) : Bool := sLeft W T xs k nth || sRight W T xs k nth
def sBoth (W T : Int) (xs : List Bool) (k : Nat) (nth : Bool) : Bool := sLeft W T xs k nth && sRight W T xs k nth
def sDark (W : Int) (k : Nat) (nth : Bool) : Bool := decide ((sLx W k nth + ky W k + 2) % 2 = 0)
def sRise (W : Int) (k : Nat) (nth : Bool) : Int := if sDark W k nth then 1 else -1
def sCell (W : Int) (k : Nat) (nth : Bool) : Int := ky W k * W + sLx W k nth
def sOther (W : Int) (k : Nat) (nth : Bool) : Int := sRy W k nth * W + kx W k
def sWay (nth : Bool) : Int := if nth then 1 else 4

theorem kxy {W : Int} (hW : 1 ≤ W) (k : Nat) : 0 ≤ kx W k ∧ kx W k ≤ W ∧ 0 ≤ ky W k ∧ ky W k * (W + 1) + kx W k = k := by
 unfold kx ky
 have a := Int.emod_nonneg (k : Int) (show W + 1 ≠ 0 by omega)
 have b := Int.emod_lt_of_pos (k : Int) (show 0 < W + 1 by omega)
 have c := Int.ediv_nonneg (show 0 ≤ (k : Int) by omega) (show 0 ≤ W + 1 by omega)
 have d := Int.mul_ediv_add_emod (k : Int) (W + 1)
 rw [Int.mul_comm] at d
 omega
theorem atB_in {W T : Int} {xs : List Bool} {x y : Int} (h : atB W T xs x y = true) : 0 ≤ x ∧ x < W ∧ 0 ≤ y ∧ y < T := by
 unfold atB at h
 rw [Bool.and_eq_true] at h
 simpa [inF] using h.1
theorem sUsed_in {W T : Int} {xs : List Bool} {k : Nat} {nth : Bool} (hW : 1 ≤ W) (h : sUsed W T xs k nth = true) : if nth then ky W k < T else (kx W k < W ∧ ky W k ≤ T) := by
 obtain ⟨a, b, c, d⟩ := kxy hW k
 unfold sUsed sLeft sRight sLx sRy at h
 rw [Bool.or_eq_true] at h
 cases nth
 · rcases h with h | h <;> have := atB_in h <;> simp at this ⊢ <;> omega
 · rcases h with h | h <;> have := atB_in h <;> simp at this ⊢ <;> omega
theorem sTo_lt {W T : Int} {xs : List Bool} {k : Nat} {nth : Bool} (hW : 1 ≤ W) (h : sUsed W T xs k nth = true) : 0 ≤ sTo W k nth ∧ (k : Int) < sTo W k nth ∧ sTo W k nth < (W + 1) * (T + 1) := by
 obtain ⟨a, b, c, d⟩ := kxy hW k
 have hu := sUsed_in hW h
 have e : (W + 1) * (T + 1) = T * (W + 1) + (W + 1) := by rw [Int.mul_add, Int.mul_comm (W + 1) T]; omega
 unfold sTo
 cases nth
 · simp at hu ⊢
   have : ky W k * (W + 1) ≤ T * (W + 1) := Int.mul_le_mul_of_nonneg_right hu.2 (by omega)
   omega
 · simp at hu ⊢
   have : (ky W k + 1) * (W + 1) ≤ T * (W + 1) := Int.mul_le_mul_of_nonneg_right (by omega) (by omega)
   rw [Int.add_mul] at this
   omega

def hAt (W T : Int) (xs : List Bool) (k : Nat) : Bool :=
 atB W T xs (kx W k) (ky W k) || atB W T xs (kx W k - 1) (ky W k) || atB W T xs (kx W k) (ky W k - 1) || atB W T xs (kx W k - 1) (ky W k - 1)
def hMay (W T : Int) (xs : List Bool) (k : Nat) (v : Int) : Bool := if hAt W T xs k then inB v (-60) 60 else v == 99
def rMay (W T : Int) (xs : List Bool) (k : Nat) (nth : Bool) (d : Int) : Bool := d == sRise W k nth || (sBoth W T xs k nth && d == -3 * sRise W k nth)
def sdOk (W T : Int) (xs : List Bool) (H : List Int) (k : Nat) (nth : Bool) : Bool := !sUsed W T xs k nth || rMay W T xs k nth (H.getD (sTo W k nth).toNat 0 - H.getD k 0)
def sdsOk (W T : Int) (xs : List Bool) (H : List Int) (n : Nat) : Bool := (List.range n).all fun k => sdOk W T xs H k false && sdOk W T xs H k true
def hsMay (W T : Int) (xs : List Bool) (H : List Int) (n : Nat) : Bool := (List.range n).all fun k => hMay W T xs k (H.getD k 0)
def frstK (W T : Int) (xs : List Bool) (n : Nat) : Int := (((List.range n).find? fun k => sUsed W T xs k false || sUsed W T xs k true).map fun k : Nat => (k : Int)).getD (-1)
theorem frstK_zero (W T : Int) (xs : List Bool) : frstK W T xs 0 = -1 := rfl
theorem frstK_succ (W T : Int) (xs : List Bool) (n : Nat) : frstK W T xs (n + 1) = if frstK W T xs n < 0 then (if (sUsed W T xs n false || sUsed W T xs n true) then (n : Int) else -1) else frstK W T xs n := by
 unfold frstK
 rw [List.range_succ, List.find?_append]
 cases h : (List.range n).find? fun k => sUsed W T xs k false || sUsed W T xs k true with
 | none =>
   simp only [Option.none_or, Option.map_none, Option.getD_none, List.find?_cons, List.find?_nil]
   rw [if_pos (by decide)]
   cases hu : (sUsed W T xs n false || sUsed W T xs n true) <;> simp
 | some j => simp; intro h0; omega
def sidesK (W T : Int) (xs : List Bool) (n : Nat) : List (Nat × Bool) := (List.range n).flatMap fun k => (if sUsed W T xs k false then [(k, false)] else []) ++ (if sUsed W T xs k true then [(k, true)] else [])
theorem sidesK_succ (W T : Int) (xs : List Bool) (n : Nat) : sidesK W T xs (n + 1) = sidesK W T xs n ++ ((if sUsed W T xs n false then [(n, false)] else []) ++ (if sUsed W T xs n true then [(n, true)] else [])) := by
 unfold sidesK
 rw [List.range_succ, List.flatMap_append]; simp
theorem sidesK_mem {W T : Int} {xs : List Bool} {n k : Nat} {nth : Bool} : (k, nth) ∈ sidesK W T xs n ↔ k < n ∧ sUsed W T xs k nth = true := by
 unfold sidesK
 rw [List.mem_flatMap]
 constructor
 · rintro ⟨j, hj, h⟩
   rw [List.mem_range] at hj
   rw [List.mem_append] at h
   rcases h with h | h
   · split at h
     · simp at h; obtain ⟨rfl, rfl⟩ := h; exact ⟨hj, by assumption⟩
     · cases h
   · split at h
     · simp at h; obtain ⟨rfl, rfl⟩ := h; exact ⟨hj, by assumption⟩
     · cases h
 · rintro ⟨h1, h2⟩
   refine ⟨k, List.mem_range.2 h1, ?_⟩
   cases nth
   · simp [h2]
   · simp [h2]
theorem sdsOk_iff {W T : Int} {xs : List Bool} {H : List Int} {n : Nat} : sdsOk W T xs H n = true ↔ ∀ s ∈ sidesK W T xs n, rMay W T xs s.1 s.2 (H.getD (sTo W s.1 s.2).toNat 0 - H.getD s.1 0) = true := by
 unfold sdsOk sdOk
 simp only [List.all_eq_true, List.mem_range, Bool.and_eq_true, Bool.or_eq_true, Bool.not_eq_true']
 constructor
 · rintro h ⟨k, nth⟩ hs
   obtain ⟨h1, h2⟩ := sidesK_mem.1 hs
   obtain ⟨a, b⟩ := h k h1
   cases nth
   · rcases a with a | a
     · rw [a] at h2; cases h2
     · exact a
   · rcases b with b | b
     · rw [b] at h2; cases h2
     · exact b
 · intro h k hk
   refine ⟨?_, ?_⟩
   · cases hu : sUsed W T xs k false
     · exact Or.inl rfl
     · exact Or.inr (h (k, false) (sidesK_mem.2 ⟨hk, hu⟩))
   · cases hu : sUsed W T xs k true
     · exact Or.inl rfl
     · exact Or.inr (h (k, true) (sidesK_mem.2 ⟨hk, hu⟩))
theorem sidesK_head {W T : Int} {xs : List Bool} {n : Nat} (h : 0 ≤ frstK W T xs n) : ∃ nth rest, sidesK W T xs n = ((frstK W T xs n).toNat, nth) :: rest := by
 induction n with
 | zero => rw [frstK_zero] at h; omega
 | succ n ih =>
   rw [frstK_succ] at h ⊢
   rw [sidesK_succ]
   by_cases hn : frstK W T xs n < 0
   · rw [if_pos hn] at h ⊢
     have hnil : sidesK W T xs n = [] := by
      cases hs : sidesK W T xs n with
      | nil => rfl
      | cons s rest =>
        obtain ⟨k, nth⟩ := s
        have hm : (k, nth) ∈ sidesK W T xs n := by rw [hs]; exact List.mem_cons_self
        obtain ⟨h1, h2⟩ := sidesK_mem.1 hm
        unfold frstK at hn
        cases hf : (List.range n).find? fun k => sUsed W T xs k false || sUsed W T xs k true with
        | none =>
          rw [List.find?_eq_none] at hf
          have := hf k (List.mem_range.2 h1)
          cases nth <;> simp [h2] at this
        | some j => rw [hf] at hn; simp at hn; omega
     rw [hnil]
     cases h0 : sUsed W T xs n false
     · cases h1 : sUsed W T xs n true
       · rw [h0, h1] at h; simp at h
       · exact ⟨true, [], by simp⟩
     · exact ⟨false, if sUsed W T xs n true then [(n, true)] else [], by simp⟩
   · rw [if_neg hn] at h ⊢
     obtain ⟨nth, rest, e⟩ := ih (by omega)
     exact ⟨nth, rest ++ _, by rw [e]; rfl⟩

theorem hAt_iff {W T : Int} {xs : List Bool} {k : Nat} (hW : 1 ≤ W) : hAt W T xs k = true ↔ (∃ nth, sUsed W T xs k nth = true) ∨ ∃ j nth, sUsed W T xs j nth = true ∧ sTo W j nth = k := by
 obtain ⟨a, b, c, d⟩ := kxy hW k
 constructor
 · intro h
   unfold hAt at h
   simp only [Bool.or_eq_true] at h
   rcases h with ((h | h) | h) | h
   · exact Or.inl ⟨false, by unfold sUsed sLeft sLx; simp [h]⟩
   · exact Or.inl ⟨true, by unfold sUsed sLeft sLx; simp [h]⟩
   · exact Or.inl ⟨false, by unfold sUsed sRight sRy; simp [h]⟩
   · right
     have hin := atB_in h
     obtain ⟨j, hj⟩ := Int.eq_ofNat_of_zero_le (show 0 ≤ (k : Int) - 1 by
      have : 0 ≤ ky W k * (W + 1) := Int.mul_nonneg c (by omega)
      omega)
     have ej : (j : Int) = (kx W k - 1) + ky W k * (W + 1) := by omega
     have jx : kx W j = kx W k - 1 := by
      unfold kx at ej ⊢
      rw [ej, Int.add_mul_emod_self_right, Int.emod_eq_of_lt (by unfold kx at hin; omega) (by unfold kx at b; omega)]
     have jy : ky W j = ky W k := by
      have e2 : (j : Int) = (kx W k - 1) + ky W k * (W + 1) := ej
      unfold ky at e2 ⊢
      rw [e2, Int.add_mul_ediv_right _ _ (by omega), Int.ediv_eq_zero_of_lt (by omega) (by omega)]; omega
     refine ⟨j, false, ?_, ?_⟩
     · unfold sUsed sRight sRy; rw [jx, jy]; simp [h]
     · unfold sTo; simp; omega
 · rintro (⟨nth, h⟩ | ⟨j, nth, h, e⟩)
   · unfold sUsed sLeft sRight sLx sRy at h
     unfold hAt
     simp only [Bool.or_eq_true] at h ⊢
     cases nth
     · simp at h; rcases h with h | h
       · exact Or.inl (Or.inl (Or.inl h))
       · exact Or.inl (Or.inr h)
     · simp at h; rcases h with h | h
       · exact Or.inl (Or.inl (Or.inr h))
       · exact Or.inl (Or.inl (Or.inl h))
   · obtain ⟨a', b', c', d'⟩ := kxy hW j
     have hu := sUsed_in hW h
     unfold sTo at e
     cases nth
     · simp at hu e
       have kxe : kx W k = kx W j + 1 := by
        have e3 : (k : Int) = (kx W j + 1) + ky W j * (W + 1) := by omega
        show (k : Int) % (W + 1) = _
        rw [e3, Int.add_mul_emod_self_right, Int.emod_eq_of_lt (by omega) (by omega)]
       have kye : ky W k = ky W j := by
        have e3 : (k : Int) = (kx W j + 1) + ky W j * (W + 1) := by omega
        show (k : Int) / (W + 1) = _
        rw [e3, Int.add_mul_ediv_right _ _ (by omega), Int.ediv_eq_zero_of_lt (by omega) (by omega)]; omega
       unfold sUsed sLeft sRight sLx sRy at h
       unfold hAt
       rw [kxe, kye]
       simp only [Bool.or_eq_true, Int.add_sub_cancel] at h ⊢
       simp at h
       rcases h with h | h
       · exact Or.inl (Or.inl (Or.inr h))
       · exact Or.inr h
     · simp at hu e
       have kxe : kx W k = kx W j := by
        have e3 : (k : Int) = kx W j + (ky W j + 1) * (W + 1) := by rw [Int.add_mul]; omega
        show (k : Int) % (W + 1) = _
        rw [e3, Int.add_mul_emod_self_right, Int.emod_eq_of_lt (by omega) (by omega)]
       have kye : ky W k = ky W j + 1 := by
        have e3 : (k : Int) = kx W j + (ky W j + 1) * (W + 1) := by rw [Int.add_mul]; omega
        show (k : Int) / (W + 1) = _
        rw [e3, Int.add_mul_ediv_right _ _ (by omega), Int.ediv_eq_zero_of_lt (by omega) (by omega)]; omega
       unfold sUsed sLeft sRight sLx sRy at h
       unfold hAt
       rw [kxe, kye]
       simp only [Bool.or_eq_true, Int.add_sub_cancel] at h ⊢
       simp at h
       rcases h with h | h
       · exact Or.inr h
       · exact Or.inl (Or.inr h)
end Go.Proofs.Ytpcajacekmidbaa

namespace Go.Proofs.Ytpcajacekmidbaa
open Go.RowKit
set_option linter.unusedVariables false
set_option maxRecDepth 100000
set_option linter.unusedSimpArgs false

theorem outB_at {W T : Nat} {xs : List Bool} {x y : Nat} (hx : x < W + 2) : outB W T xs (y * (W + 2) + x) = !atB W T xs ((x : Int) - 1) ((y : Int) - 1) := by
 unfold outB
 have ew : ((W + 2 : Nat) : Int) = (W : Int) + 2 := by omega
 have e : ((y * (W + 2) + x : Nat) : Int) = (x : Int) + (y : Int) * ((W : Int) + 2) := by
  rw [Int.natCast_add, Int.natCast_mul, ew, Int.add_comm]
 have e1 : ((y * (W + 2) + x : Nat) : Int) % ((W : Int) + 2) = x := by
  rw [e, Int.add_mul_emod_self_right, Int.emod_eq_of_lt (by omega) (by omega)]
 have e2 : ((y * (W + 2) + x : Nat) : Int) / ((W : Int) + 2) = y := by
  rw [e, Int.add_mul_ediv_right _ _ (by omega), Int.ediv_eq_zero_of_lt (by omega) (by omega)]; omega
 rw [e1, e2]
end Go.Proofs.Ytpcajacekmidbaa

namespace Go.Proofs.Ytpcajacekmidbaa
open Go.RowKit
set_option linter.unusedVariables false
set_option maxRecDepth 100000
set_option linter.unusedSimpArgs false

def outOne (W T : Int) (xs : List Bool) : Bool := oneMark ((W + 2) * (T + 2)).toNat (outB W T xs) (adjW (W + 2) false)

end Go.Proofs.Ytpcajacekmidbaa

namespace Go.Proofs.Ytpcajacekmidbaa
open Go.RowKit
set_option linter.unusedVariables false
set_option maxRecDepth 100000
set_option linter.unusedSimpArgs false

theorem Conn.congr {N : Nat} {s s' : Nat → Bool} {adj : Nat → Nat → Bool} (h : ∀ i, i < N → s i = s' i) {i k : Nat} (hc : Conn N s adj i k) : Conn N s' adj i k := by
 induction hc with
 | refl a b => exact .refl a (by rw [← h _ a]; exact b)
 | step hij a b c ih => exact .step ih a b (by rw [← h _ b]; exact c)
theorem Marks.congr {N : Nat} {s s' : Nat → Bool} {adj : Nat → Nat → Bool} {M : List Int} (h : ∀ i, i < N → s i = s' i) (hm : Marks N s adj M) : Marks N s' adj M := by
 refine ⟨hm.1, fun k hk => ⟨fun h0 => (hm.2 k hk).1 (by rw [h k hk]; exact h0), fun h1 => ?_⟩⟩
 obtain ⟨j, hj, hc, hl⟩ := (hm.2 k hk).2 (by rw [h k hk]; exact h1)
 exact ⟨j, hj, hc.congr h, fun i hi => hl i (hi.congr (fun i hi => (h i hi).symm))⟩

def simpleB (W T : Int) (xs : List Bool) : Bool := decide (partsN W T xs = 1) && outOne W T xs
theorem simpleB_rv {W T : Int} {xs : List Bool} (h : simpleB W T xs = true) : rv W T xs = true := by
 unfold simpleB at h
 rw [Bool.and_eq_true, decide_eq_true_eq] at h
 cases hr : rv W T xs
 · have := h.1; unfold partsN at this; rw [hr] at this; simp at this
 · rfl
theorem partsN_rv {W T : Int} {xs : List Bool} (h : partsN W T xs = 1) : rv W T xs = true := by
 cases hr : rv W T xs
 · unfold partsN at h; rw [hr] at h; simp at h
 · rfl

theorem iSimple_any (W T : Int) (a : Option Addr) (n cap : Nat) (xs : List Bool) (w : World) (hn : n = xs.length) (hn' : n ≤ 1048576) (ha : BoolsAt w a xs) :
 Calls Try.prog 38 #[.agg #[.int .i64 W, .int .i64 T, .slice a n cap]] w fun e w' => e = .returned (.bool (simpleB W T xs)) ∧ Below w.heap.size w w' := by
 have HN := Lib.hid hn; clear hn
 have HA := Lib.hid ha; clear ha
 by_cases h : partsN W T xs = 1
 · obtain ⟨v1, v2, v3, v4, v5, _⟩ := rv_true (partsN_rv h)
   have hWT : Hid ((n : Int) = W * T) := by show (n : Int) = _; rw [HN.out]; exact v5
   have hb := rim_bd v1 v2 v3 v4
   obtain ⟨N, hN⟩ := Int.eq_ofNat_of_zero_le (by omega : 0 ≤ (W + 2) * (T + 2))
   have n64 : N ≤ 64 := by omega
   have e : simpleB W T xs = oneMark N (outB W T xs) (adjW (W + 2) false) := by
    unfold simpleB outOne; rw [decide_eq_true h, hN]; simp
   rw [e]
   have HNN := Lib.hid hN; clear hN hb v5
   have H := Lib.hid h; clear h e
   go_enter Try.func38, Try.ntmps38
   go_wp2_with fail
   refine (iPartsMany_any _ _ _ _ _ xs _ HN.out hn' (HA.out.one _)).mono ?_; rintro e w1 ⟨rfl, hb1⟩
   rw [H.out]
   have b1 := below_seq (below1 w (.cells #[.int .i64 W, .int .i64 T, .slice a n cap] 25)) hb1
   obtain ⟨c0, c1, c2⟩ := cells3 (heap_later (heap_new w (.cells #[.int .i64 W, .int .i64 T, .slice a n cap] 25)) hb1)
   go_wp2_with fail
   refine (outside_any W T a n cap xs N _ HN.out v1 v2 v3 v4 hWT.out HNN.out (HA.out.below b1)).mono ?_; rintro e w2 ⟨g, rfl, ho, hb2⟩
   have O2 := Lib.hid (OwnsB.at ho)
   have b2 := below_seq b1 hb2
   clear ho hb2 c0 c1 c2
   go_wp2_with fail
   refine (marksOf_any (W + 2) (T + 2) _ N N (outL W T xs N) false _ (outL_len _ _ _ _).symm (by omega) (by omega) (by omega) (by omega) HNN.out.symm O2.out).mono ?_; rintro e w3 ⟨g3, M, rfl, hl, ho, hm, hb3⟩
   have O3 := Lib.hid (OwnsI.at ho)
   have HL := Lib.hid hl.symm
   have hM := marksL_eq (hm.congr (s' := outB W T xs) (fun i hi => outL_get hi))
   have hsel : (decide (((selfN M N : Nat) : Int) = 1)) = oneMark N (outB W T xs) (adjW (W + 2) false) := by
    unfold oneMark; rw [← hM]; apply decide_eq_decide.2; omega
   have HS := Lib.hid hsel
   have b3 := below_seq b2 hb3
   clear ho hb3 hl hm hM hsel
   go_wp2_with fail
   refine (marksMany_any _ N N M _ HL.out (by omega) O3.out).mono ?_; rintro e w4 ⟨rfl, hw⟩
   rw [hw]
   clear hw
   go_wp2
   go_ret
   exact ⟨ret_bool HS.out, b3⟩
 · have e : simpleB W T xs = false := by unfold simpleB; rw [decide_eq_false h]; rfl
   rw [e]
   have hne : (partsN W T xs == 1) = false := by simpa using h
   have HNE := Lib.hid hne; clear hne
   have H := Lib.hid h; clear h e
   go_enter Try.func38, Try.ntmps38
   go_wp2_with fail
   refine (iPartsMany_any _ _ _ _ _ xs _ HN.out hn' (HA.out.one _)).mono ?_; rintro e w1 ⟨rfl, hb1⟩
   have hne := HNE.out
   have h := H.out
   generalize partsN W T xs = pn at hne h
   go_wp2
   go_ret
   exact ⟨rfl, below_seq (below1 _ _) hb1⟩
end Go.Proofs.Ytpcajacekmidbaa

namespace Go.Proofs.Ytpcajacekmidbaa
open Go.RowKit
set_option linter.unusedVariables false
set_option maxRecDepth 100000
set_option linter.unusedSimpArgs false

def holesN (W T : Int) (xs : List Bool) : Int :=
 if rv W T xs then (selfN (marksL ((W + 2) * (T + 2)).toNat (outB W T xs) (adjW (W + 2) true)) ((W + 2) * (T + 2)).toNat : Nat) - 1 else -1

structure HoI (N : Nat) (s : Nat → Bool) (adj : Nat → Nat → Bool) (P : List Int) : Prop where
 len : P.length = N
 off : ∀ j, j < N → s j = false → P.getD j 0 = -1
 on : ∀ j, j < N → s j = true → ∃ i : Nat, P.getD j 0 = i ∧ Conn N s adj i j ∧ i ≤ j
def nearB (V : Int) (k j : Nat) : Bool := inB ((k : Int) % V - (j : Int) % V) (-1) 1 && inB ((k : Int) / V - (j : Int) / V) (-1) 1
theorem near_adj {V : Int} {k j : Nat} (h : nearB V k j = true) (hne : k ≠ j) : adjW V true j k = true := by
 unfold nearB inB at h
 unfold adjW
 simp only [Bool.and_eq_true, Bool.or_eq_true, Bool.not_eq_true', decide_eq_true_eq, decide_eq_false_iff_not] at h ⊢
 refine ⟨⟨by omega, fun q => hne ?_⟩, Or.inl (by first | rfl | trivial)⟩
 have a1 := Int.emod_add_mul_ediv (k : Int) V
 have a2 := Int.emod_add_mul_ediv (j : Int) V
 rw [q.1, q.2] at a1
 omega
theorem HoI.step {N : Nat} {s : Nat → Bool} {V : Int} {P : List Int} {k j : Nat} (h : HoI N s (adjW V true) P) (hk : k < N) (hj : j < N) (hn : nearB V k j = true) (h0 : 0 ≤ P.getD j 0) (hlt : P.getD j 0 < P.getD k 0) : HoI N s (adjW V true) (P.set k (P.getD j 0)) := by
 have hl := h.len
 have sj : s j = true := by
  cases e : s j
  · rw [h.off j hj e] at h0; omega
  · rfl
 have sk : s k = true := by
  cases e : s k
  · rw [h.off k hk e] at hlt; omega
  · rfl
 have hne : k ≠ j := fun e => by rw [e] at hlt; omega
 obtain ⟨ik, ek, ck, lk⟩ := h.on k hk sk
 obtain ⟨ij, ej, cj, lj⟩ := h.on j hj sj
 have hg : ∀ i, (P.set k (P.getD j 0)).getD i 0 = if i = k then P.getD j 0 else P.getD i 0 := fun i => by
  rw [getD_set1]
  by_cases e : i = k
  · rw [if_pos ⟨e, by omega⟩, if_pos e]
  · rw [if_neg (fun q => e q.1), if_neg e]
 refine ⟨by simp [hl], fun i hi hs => ?_, fun i hi hs => ?_⟩
 · rw [hg, if_neg (fun e => by rw [e, sk] at hs; cases hs)]; exact h.off i hi hs
 · rw [hg]
   by_cases e : i = k
   · rw [if_pos e]
     subst e
     refine ⟨ij, ej, .step cj (near_adj hn hne) hk sk, ?_⟩
     rw [ej, ek] at hlt; omega
   · rw [if_neg e]; exact h.on i hi hs
end Go.Proofs.Ytpcajacekmidbaa
