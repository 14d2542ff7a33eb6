/- How many cells of the field with a rim do not belong to a region: all but its cells. -/
import Derived.Test.YtpcajacekmidbaaGreatKPartsS
namespace Go.Proofs.YtpcajacekmidbaaGreat
open Go.RowKit
set_option linter.unusedVariables false
set_option maxRecDepth 100000
set_option linter.unusedSimpArgs false

def firstN (p : Nat → Bool) : Nat → Nat → Nat
 | 0, s => s
 | f + 1, s => if p s then s else firstN p f (s + 1)
theorem firstN_spec (p : Nat → Bool) : ∀ f s i, s ≤ i → i < s + f → p i = true → p (firstN p f s) = true ∧ ∀ j, s ≤ j → p j = true → firstN p f s ≤ j
 | 0, s, i, h1, h2, _ => by omega
 | f + 1, s, i, h1, h2, h3 => by
   unfold firstN
   by_cases hp : p s = true
   · rw [if_pos hp]; exact ⟨hp, fun j hj _ => hj⟩
   · rw [if_neg hp]
     have hne : i ≠ s := fun e => hp (by rw [← e]; exact h3)
     obtain ⟨r1, r2⟩ := firstN_spec p f (s + 1) i (by omega) (by omega) h3
     refine ⟨r1, fun j hj hpj => r2 j ?_ hpj⟩
     have : j ≠ s := fun e => hp (by rw [← e]; exact hpj)
     omega
def marksL (N : Nat) (s : Nat → Bool) (adj : Nat → Nat → Bool) : List Int :=
 (List.range N).map fun k => if s k then ((firstN (fun i => reachT N s adj i N k) N 0 : Nat) : Int) else -1
theorem marksL_len (N : Nat) (s : Nat → Bool) (adj : Nat → Nat → Bool) : (marksL N s adj).length = N := by simp [marksL]
theorem marksL_marks (N : Nat) (s : Nat → Bool) (adj : Nat → Nat → Bool) : Marks N s adj (marksL N s adj) := by
 refine ⟨marksL_len _ _ _, fun k hk => ?_⟩
 have e : (marksL N s adj).getD k 0 = if s k then ((firstN (fun i => reachT N s adj i N k) N 0 : Nat) : Int) else -1 := by simp [marksL, hk]
 rw [e]
 refine ⟨fun h => by rw [h]; rfl, fun h => ?_⟩
 rw [h, if_pos rfl]
 obtain ⟨r1, r2⟩ := firstN_spec (fun i => reachT N s adj i N k) N 0 k (Nat.zero_le _) (by omega) (conn_reach (.refl hk h))
 have hlt : firstN (fun i => reachT N s adj i N k) N 0 ≤ k := r2 k (Nat.zero_le _) (conn_reach (.refl hk h))
 exact ⟨_, rfl, reachT_conn (by omega) hk r1, fun i hi => r2 i (Nat.zero_le _) (conn_reach hi)⟩
theorem marksL_eq {N : Nat} {s : Nat → Bool} {adj : Nat → Nat → Bool} {M : List Int} (h : Marks N s adj M) : M = marksL N s adj := marks_unique h (marksL_marks N s adj)

def partsF (W T : Int) (xs : List Bool) : List Int := if rv W T xs then marksL xs.length (fun i => xs.getD i false) (adjW W false) else []
theorem partsF_len (W T : Int) (xs : List Bool) : (partsF W T xs).length ≤ xs.length := by
 unfold partsF; split
 · rw [marksL_len]; exact Nat.le_refl _
 · exact Nat.zero_le _

theorem sPartsOf_ret (W T : Int) (a : Option Addr) (n cap : Nat) (xs : List Bool) (w : World) (hn : n = xs.length) (hn' : n ≤ 1048576) (ha : BoolsAt w a xs) :
 Calls Tryz.prog 62 #[.agg #[.int .i64 W, .int .i64 T, .slice a n cap]] w (RetL w (partsF W T xs).length (partsF W T xs)) := by
 cases h : rv W T xs
 · have e : partsF W T xs = [] := by unfold partsF; rw [h]; rfl
   rw [e]
   have HN := Lib.hid hn; clear hn
   have HA := Lib.hid ha; clear ha
   have H := Lib.hid h; clear h e
   obtain ⟨wA, hwA⟩ : ∃ wA, wA = (w.alloc (.cells #[.int .i64 W, .int .i64 T, .slice a n cap] 25)).alloc (.cells #[] 3 (0, 0)) := ⟨_, rfl⟩
   have pA : wA.heap[w.heap.size]? = some (.cells #[.int .i64 W, .int .i64 T, .slice a n cap] 25 (0, 0)) := by rw [hwA]; exact heap_later (heap_new w _) (below1 _ _)
   have bA : Below w.heap.size w wA := by rw [hwA]; exact below2 _ _ _
   have oA : OwnsI wA (w.heap.size + 1) (.slice (some ⟨w.heap.size + 1, 0, none⟩) 0 0) [] := by
    rw [hwA]; have := own_nil_litP (w.alloc (.cells #[.int .i64 W, .int .i64 T, .slice a n cap] 25)) (B := w.heap.size + 1) (by simp); simpa using this
   have HOA := Lib.hid oA; clear oA
   obtain ⟨c0, c1, c2⟩ := cells3 pA
   go_enter Tryz.func62, Tryz.ntmps62
   go_wp2_with fail
   rw [← hwA]
   clear hwA
   go_wp2_with fail
   refine (sRegionValid_any _ _ _ _ _ xs _ HN.out hn' (HA.out.below bA)).mono ?_; rintro e w1 ⟨rfl, hb1⟩
   rw [H.out]
   go_wp2
   go_ret
   exact ⟨some ⟨w.heap.size + 1, 0, none⟩, 0, rfl, (HOA.out.below hb1).lower (by omega), below_seq bA hb1⟩
 · have e : partsF W T xs = marksL n (fun i => xs.getD i false) (adjW W false) := by unfold partsF; rw [h, if_pos rfl, hn]
   rw [e]
   refine (sPartsOf_ok W T a n cap xs w hn h ha).mono ?_
   rintro e w2 ⟨g, c2, M, rfl, hl, ho, hm, hb2⟩
   have hM := marksL_eq hm
   rw [← hM, hl]
   exact ⟨_, _, rfl, ho, hb2⟩
end Go.Proofs.YtpcajacekmidbaaGreat

namespace Go.Proofs.YtpcajacekmidbaaGreat
open Go.RowKit
set_option linter.unusedVariables false
set_option maxRecDepth 100000
set_option linter.unusedSimpArgs false

def selfN (L : List Int) (k : Nat) : Nat := (List.range k).countP fun i => L.getD i 0 == (i : Int)
theorem selfN_succ (L : List Int) (k : Nat) : selfN L (k + 1) = selfN L k + if L.getD k 0 == (k : Int) then 1 else 0 := by
 unfold selfN; rw [List.range_succ, List.countP_append]; simp [List.countP_cons]
theorem selfN_le (L : List Int) (k : Nat) : selfN L k ≤ k := by
 have := List.countP_le_length (p := fun i => L.getD i 0 == (i : Int)) (l := List.range k)
 rwa [List.length_range] at this

theorem marksMany_any (la : Option Addr) (m lcap : Nat) (L : List Int) (w : World) (hm : m = L.length) (hm' : m ≤ 1048576) (hl : IntsAt w la L) :
 Calls Tryz.prog 82 #[.slice la m lcap] w fun e w' => e = .returned (.int .i64 (selfN L m : Nat)) ∧ w' = w := by
 have HM := Lib.hid hm; clear hm
 have HL := Lib.hid hl; clear hl
 go_enter Tryz.func82, Tryz.ntmps82
 go_wp2
 go_loop [3, 8] (fun c i => ∃ k : Nat, k ≤ m ∧ i = .int .i64 k ∧ c = .int .i64 (selfN L k : Nat)) (fun _ i => m - (intOf i).toNat)
 case atStart => exact ⟨0, Nat.zero_le _, rfl, rfl⟩
 case round =>
  obtain ⟨k, hk, rfl, rfl⟩ := hrel
  have hs := selfN_le L k
  by_cases hlt : k < m
  · obtain ⟨lb, lo, rfl, hcx⟩ := HL.out k (by rw [← HM.out]; exact hlt)
    have hsu := selfN_succ L k
    obtain ⟨mu, hmu⟩ : ∃ mu, mu = L.getD k 0 := ⟨_, rfl⟩
    rw [← hmu] at hcx hsu
    clear hmu
    have e1 : (k : Int) < m := by omega
    have e2 : (0 : Int) ≤ k := by omega
    obtain ⟨q, hq⟩ : ∃ q, q = selfN L k := ⟨_, rfl⟩
    obtain ⟨q2, hq2⟩ : ∃ q2, q2 = selfN L (k + 1) := ⟨_, rfl⟩
    rw [← hq, ← hq2] at hsu
    rw [← hq]
    have hqk : q ≤ k := by rw [hq]; exact hs
    have HQ2 := Lib.hid hq2; clear hq2 hq hs
    by_cases he : mu = k
    · have hsu2 : q2 = q + 1 := by rw [hsu, he]; simp
      have HS := Lib.hid hsu2; clear hsu hsu2
      subst he
      go_wp2
      go_round
      case rel => exact ⟨k + 1, by omega, by go_num, by rw [← HQ2.out, HS.out]; go_num⟩
      case measure => simp [intOf]; omega
    · have hne : (mu == (k : Int)) = false := by simpa using he
      have hsu2 : q2 = q := by rw [hsu, hne]; simp
      have HS := Lib.hid hsu2; clear hsu hsu2
      go_wp2
      go_round
      case rel => exact ⟨k + 1, by omega, by go_num, by rw [← HQ2.out, HS.out]⟩
      case measure => simp [intOf]; omega
  · obtain rfl : k = m := by omega
    go_wp2
    go_ret
    exact ⟨rfl, rfl⟩

def partsN (W T : Int) (xs : List Bool) : Int := if rv W T xs then (selfN (partsF W T xs) (partsF W T xs).length : Nat) else -1

theorem iPartsMany_any (W T : Int) (a : Option Addr) (n cap : Nat) (xs : List Bool) (w : World) (hn : n = xs.length) (hn' : n ≤ 1048576) (ha : BoolsAt w a xs) :
 Calls Tryz.prog 81 #[.agg #[.int .i64 W, .int .i64 T, .slice a n cap]] w fun e w' => e = .returned (.int .i64 (partsN W T xs)) ∧ Below w.heap.size w w' := by
 have HN := Lib.hid hn; clear hn
 have HA := Lib.hid ha; clear ha
 cases h : rv W T xs
 · have e : partsN W T xs = -1 := by unfold partsN; rw [h]; rfl
   rw [e]
   have H := Lib.hid h; clear h e
   go_enter Tryz.func81, Tryz.ntmps81
   go_wp2_with fail
   refine (iRegionValid_any _ _ _ _ _ xs _ HN.out hn' (HA.out.one _)).mono ?_; rintro e w1 ⟨rfl, hb1⟩
   rw [H.out]
   go_wp2
   go_ret
   exact ⟨rfl, below_seq (below1 _ _) hb1⟩
 · obtain ⟨v1, v2, v3, v4, v5, _⟩ := rv_true h
   have ef : partsF W T xs = marksL n (fun i => xs.getD i false) (adjW W false) := by unfold partsF; rw [h, if_pos rfl, HN.out]
   have e : partsN W T xs = (selfN (marksL n (fun i => xs.getD i false) (adjW W false)) n : Nat) := by unfold partsN; rw [h, if_pos rfl, ef, marksL_len]
   rw [e]
   have H := Lib.hid h; clear h e ef
   have hWT : (n : Int) = W * T := by rw [HN.out]; exact v5
   have HWT := Lib.hid hWT; clear hWT v5
   go_enter Tryz.func81, Tryz.ntmps81
   go_wp2_with fail
   refine (iRegionValid_any _ _ _ _ _ xs _ HN.out hn' (HA.out.one _)).mono ?_; rintro e w1 ⟨rfl, hb1⟩
   rw [H.out]
   have b1 := below_seq (below1 w (.cells #[.int .i64 W, .int .i64 T, .slice a n cap] 25)) hb1
   obtain ⟨c0, c1, c2⟩ := cells3 (heap_later (heap_new w (.cells #[.int .i64 W, .int .i64 T, .slice a n cap] 25)) hb1)
   go_wp2_with fail
   refine (marksOf_any W T a n cap xs false _ HN.out v1 (by omega) (by omega) (by omega) HWT.out (HA.out.below b1)).mono ?_; rintro e w2 ⟨g, M, rfl, hl, ho, hm, hb2⟩
   have hM := marksL_eq hm
   subst hM
   have HO := Lib.hid ho.at
   have HL := Lib.hid hl.symm
   have B2 := Lib.hid (below_seq b1 hb2)
   clear ho hl hm hb2 b1 c0 c1 c2
   go_wp2_with fail
   refine (marksMany_any _ n n _ _ HL.out hn' HO.out).mono ?_; rintro e w3 ⟨rfl, hw⟩
   rw [hw]
   clear hw
   go_wp2
   go_ret
   exact ⟨rfl, B2.out⟩

theorem sPartsMany_any (W T : Int) (a : Option Addr) (n cap : Nat) (xs : List Bool) (w : World) (hn : n = xs.length) (hn' : n ≤ 1048576) (ha : BoolsAt w a xs) :
 Calls Tryz.prog 31 #[.agg #[.int .i64 W, .int .i64 T, .slice a n cap]] w fun e w' => e = .returned (.int .i64 (partsN W T xs)) ∧ Below w.heap.size w w' := by
 have HN := Lib.hid hn; clear hn
 have HA := Lib.hid ha; clear ha
 cases h : rv W T xs
 · have e : partsN W T xs = -1 := by unfold partsN; rw [h]; rfl
   rw [e]
   have H := Lib.hid h; clear h e
   go_enter Tryz.func31, Tryz.ntmps31
   go_wp2_with fail
   refine (sRegionValid_any _ _ _ _ _ xs _ HN.out hn' (HA.out.one _)).mono ?_; rintro e w1 ⟨rfl, hb1⟩
   rw [H.out]
   go_wp2
   go_ret
   exact ⟨rfl, below_seq (below1 _ _) hb1⟩
 · have hlen := partsF_len W T xs
   have e : partsN W T xs = (selfN (partsF W T xs) (partsF W T xs).length : Nat) := by unfold partsN; rw [h, if_pos rfl]
   rw [e]
   have H := Lib.hid h; clear h e
   rw [← HN.out] at hlen
   have hS : ∀ (w : World), BoolsAt w a xs → Calls Tryz.prog 62 #[.agg #[.int .i64 W, .int .i64 T, .slice a n cap]] w (RetL w (partsF W T xs).length (partsF W T xs)) := fun w h => sPartsOf_ret W T a n cap xs w HN.out hn' h
   generalize partsF W T xs = L at hlen hS
   have HS := Lib.hid hS; clear hS
   obtain ⟨m, hm⟩ : ∃ m, m = L.length := ⟨_, rfl⟩
   rw [← hm] at hlen HS
   rw [← hm]
   have HM := Lib.hid hm; clear hm
   go_enter Tryz.func31, Tryz.ntmps31
   go_wp2_with fail
   refine (sRegionValid_any _ _ _ _ _ xs _ HN.out hn' (HA.out.one _)).mono ?_; rintro e w1 ⟨rfl, hb1⟩
   rw [H.out]
   have b1 := below_seq (below1 w (.cells #[.int .i64 W, .int .i64 T, .slice a n cap] 25)) hb1
   obtain ⟨c0, c1, c2⟩ := cells3 (heap_later (heap_new w (.cells #[.int .i64 W, .int .i64 T, .slice a n cap] 25)) hb1)
   go_wp2_with fail
   refine (HS.out _ (HA.out.below b1)).mono ?_; rintro e w2 ⟨la, lcap, rfl, ho, hb2⟩
   have HL := Lib.hid (OwnsI.at ho)
   have B2 := Lib.hid (below_seq b1 hb2)
   clear ho hb2 b1 c0 c1 c2 HS hb1
   go_wp2
   go_loop [3, 5] (fun c i => ∃ k : Nat, k ≤ m ∧ i = .int .i64 k ∧ c = .int .i64 (selfN L k : Nat)) (fun _ i => m - (intOf i).toNat)
   case atStart => exact ⟨0, Nat.zero_le _, rfl, rfl⟩
   case round =>
    obtain ⟨k, hk, rfl, rfl⟩ := hrel
    have hs := selfN_le L k
    by_cases hlt : k < m
    · obtain ⟨lb, lo, rfl, hcx⟩ := HL.out k (by rw [← HM.out]; exact hlt)
      have hsu := selfN_succ L k
      obtain ⟨mu, hmu⟩ : ∃ mu, mu = L.getD k 0 := ⟨_, rfl⟩
      rw [← hmu] at hcx hsu
      clear hmu
      have e1 : (k : Int) < m := by omega
      have e2 : (0 : Int) ≤ k := by omega
      obtain ⟨q, hq⟩ : ∃ q, q = selfN L k := ⟨_, rfl⟩
      obtain ⟨q2, hq2⟩ : ∃ q2, q2 = selfN L (k + 1) := ⟨_, rfl⟩
      rw [← hq, ← hq2] at hsu
      rw [← hq]
      have hqk : q ≤ k := by rw [hq]; exact hs
      have HQ2 := Lib.hid hq2; clear hq2 hq hs
      by_cases he : mu = k
      · have hsu2 : q2 = q + 1 := by rw [hsu, he]; simp
        have HS := Lib.hid hsu2; clear hsu hsu2
        subst he
        go_wp2
        go_round
        case rel => exact ⟨k + 1, by omega, by go_num, by rw [← HQ2.out, HS.out]; go_num⟩
        case measure => simp [intOf]; omega
      · have hne : (mu == (k : Int)) = false := by simpa using he
        have hsu2 : q2 = q := by rw [hsu, hne]; simp
        have HS := Lib.hid hsu2; clear hsu hsu2
        go_wp2
        go_round
        case rel => exact ⟨k + 1, by omega, by go_num, by rw [← HQ2.out, HS.out]⟩
        case measure => simp [intOf]; omega
    · obtain rfl : k = m := by omega
      go_wp2
      go_ret
      exact ⟨rfl, B2.out⟩
end Go.Proofs.YtpcajacekmidbaaGreat

namespace Go.Proofs.YtpcajacekmidbaaGreat
open Go.RowKit
set_option linter.unusedVariables false
set_option maxRecDepth 100000
set_option linter.unusedSimpArgs false

def outB (W T : Int) (xs : List Bool) (i : Nat) : Bool := !atB W T xs ((i : Int) % (W + 2) - 1) ((i : Int) / (W + 2) - 1)
def outL (W T : Int) (xs : List Bool) (N : Nat) : List Bool := (List.range N).map (outB W T xs)
theorem outL_len (W T : Int) (xs : List Bool) (N : Nat) : (outL W T xs N).length = N := by simp [outL]
theorem outL_get {W T : Int} {xs : List Bool} {N i : Nat} (h : i < N) : (outL W T xs N).getD i false = outB W T xs i := by simp [outL, h]
theorem rim_bd {W T : Int} (h1 : 1 ≤ W) (h2 : W ≤ 6) (h3 : 1 ≤ T) (h4 : T ≤ 6) : 9 ≤ (W + 2) * (T + 2) ∧ (W + 2) * (T + 2) ≤ 64 := by
 have a : (W + 2) * (T + 2) ≤ 8 * 8 := Int.mul_le_mul (by omega) (by omega) (by omega) (by omega)
 have b : 3 * 3 ≤ (W + 2) * (T + 2) := Int.mul_le_mul (by omega) (by omega) (by omega) (by omega)
 omega

set_option maxHeartbeats 600000 in
theorem outside_any (W T : Int) (a : Option Addr) (n cap : Nat) (xs : List Bool) (N : Nat) (w : World) (hn : n = xs.length) (v1 : 1 ≤ W) (v2 : W ≤ 6) (v3 : 1 ≤ T) (v4 : T ≤ 6) (hWT : (n : Int) = W * T) (hN : (W + 2) * (T + 2) = (N : Int)) (ha : BoolsAt w a xs) :
 Calls Tryz.prog 84 #[.agg #[.int .i64 W, .int .i64 T, .slice a n cap]] w fun e w' => ∃ g, e = .returned (.agg #[.int .i64 (W + 2), .int .i64 (T + 2), .slice (some ⟨g, 0, none⟩) N N]) ∧ OwnsB w' w.heap.size (.slice (some ⟨g, 0, none⟩) N N) (outL W T xs N) ∧ Below w.heap.size w w' := by
 have hb64 := rim_bd v1 v2 v3 v4
 have n64 : N ≤ 64 := by omega
 clear hb64
 have HN := Lib.hid hn; clear hn
 have HA := Lib.hid ha; clear ha
 have HWT := Lib.hid hWT; clear hWT
 have HNN := Lib.hid hN; clear hN
 obtain ⟨V, hV⟩ : ∃ V, W + 2 = V := ⟨_, rfl⟩
 obtain ⟨V2, hV2⟩ : ∃ V, T + 2 = V := ⟨_, rfl⟩
 rw [hV, hV2] at HNN
 rw [hV, hV2]
 have u1 : 3 ≤ V := by omega
 have u2 : V ≤ 8 := by omega
 have u3 : 3 ≤ V2 := by omega
 have u4 : V2 ≤ 8 := by omega
 have HV := Lib.hid hV
 go_enter Tryz.func84, Tryz.ntmps84
 go_wp2_with fail
 have b1 := below2 w (.cells #[.int .i64 W, .int .i64 T, .slice a n cap] 25) (.cells #[.int .i64 0, .int .i64 0, .slice none 0 0] 25)
 refine (bareField_any (V) (V2) N _ (by omega) (by omega) (by omega) (by omega) HNN.out (by omega)).mono ?_; rintro e w2 ⟨g, rfl, ho, hb2⟩
 have p2 := heap_later (heap_later (heap_new w (.cells #[.int .i64 W, .int .i64 T, .slice a n cap] 25 (0, 0))) (below1 _ _)) hb2
 have q2 := heap_later (heap_new2 w (.cells #[.int .i64 W, .int .i64 T, .slice a n cap] 25 (0, 0)) (.cells #[.int .i64 0, .int .i64 0, .slice none 0 0] 25 (0, 0))) hb2
 have b2 := below_seq b1 hb2
 have R2 : RowB w2 (w.heap.size + 2) g N N (fun _ => false) := (RowB.of (ho.lower (by simp)) (by simp)).congr (fun i hi => by simp [hi])
 have A2 := Lib.hid (HA.out.below b2)
 have lg := R2.base
 clear ho hb2 b1
 obtain ⟨c0, c1, c2⟩ := cells3 p2
 have lp := heap_lt p2
 have lq := heap_lt q2
 go_wp2
 clear hV hV2
 go_loopw [4, 15] (fun _ i wr => ∃ k : Nat, k ≤ N ∧ i = .int .i64 k ∧ RowB wr (w.heap.size + 2) g N N (fun j => decide (j < k) && outB W T xs j) ∧ wr.heap[w.heap.size]? = some (.cells #[.int .i64 W, .int .i64 T, .slice a n cap] 25 (0, 0)) ∧ wr.heap[w.heap.size + 1]? = some (.cells #[.int .i64 0, .int .i64 0, .slice none 0 0] 25 (0, 0)) ∧ wr.heap[w2.heap.size]? = some (.cells #[.int .i64 V, .int .i64 V2, .slice (some ⟨g, 0, none⟩) N N] 25 (0, 0)) ∧ Below w.heap.size w wr) (fun _ i _ => N - (intOf i).toNat)
 case atStart => exact ⟨0, Nat.zero_le _, rfl, (R2.below (below1 _ _)).congr (by intro i hi; simp), heap_later p2 (below1 _ _), heap_later q2 (below1 _ _), heap_new _ _, below_seq b2 (below1 _ _)⟩
 case round =>
  obtain ⟨k, hk, rfl, hr, pr, qr, sr, hbel⟩ := hrel
  rename World => wr
  clear c0 c1 c2
  obtain ⟨c0, c1, c2⟩ := cells3 pr
  obtain ⟨s0, s1, s2⟩ := cells3 sr
  have l1 := heap_lt pr
  have l2 := heap_lt sr
  by_cases hlt : k < N
  · have e1 : (k : Int) < N := by omega
    have e0 : (0 : Int) ≤ k := by omega
    have hW0 : V ≠ 0 := by omega
    obtain ⟨x, hx⟩ : ∃ x, x = (k : Int) % V := ⟨_, rfl⟩
    obtain ⟨y, hy⟩ : ∃ y, y = (k : Int) / V := ⟨_, rfl⟩
    have T1 : (k : Int).tmod V = x := by rw [hx]; exact Int.tmod_eq_emod_of_nonneg e0
    have T2 : (k : Int).tdiv V = y := by rw [hy]; exact Int.tdiv_eq_ediv_of_nonneg e0
    have x0 : 0 ≤ x := by rw [hx]; exact Int.emod_nonneg _ hW0
    have x1 : x < 8 := by have := Int.emod_lt_of_pos (k : Int) (b := V) (by omega); omega
    have y0 : 0 ≤ y := by rw [hy]; exact Int.ediv_nonneg e0 (by omega)
    have y1 : y ≤ k := by rw [hy]; exact Int.ediv_le_self _ e0
    have ew1 : IntKind.i64.wrap (x - 1) = x - 1 := by rw [IntKind.wrap_i64]; omega
    have ew2 : IntKind.i64.wrap y = y := by rw [IntKind.wrap_i64]; omega
    have ew3 : IntKind.i64.wrap (y - 1) = y - 1 := by rw [IntKind.wrap_i64]; omega
    have HOB : Hid (outB W T xs k = !atB W T xs (x - 1) (y - 1)) := by show _ = _; unfold outB; rw [HV.out, ← hx, ← hy]
    clear hx hy
    have HR := Lib.hid hr; clear hr
    have BEL := Lib.hid hbel; clear hbel
    have hcell := HR.out.cell (k := k) hlt
    have hfree := HR.out.free k
    obtain ⟨old, hold⟩ : ∃ old, old = (decide (k < k) && outB W T xs k) := ⟨_, rfl⟩
    rw [← hold] at hcell
    clear hold
    have PQ : wr.drew.heap[w.heap.size]? = some _ := pr
    have SQ : wr.drew.heap[w2.heap.size]? = some _ := sr
    have n1 : g ≠ w.heap.size := by omega
    have n2 : g ≠ w2.heap.size := by omega
    go_wp2_with fail
    go_region_held3 (fun w' => w'.cell? ⟨w.heap.size, 0, none⟩ = some (.int .i64 W) ∧ w'.cell? ⟨w.heap.size, 1, none⟩ = some (.int .i64 T) ∧ w'.cell? ⟨w.heap.size, 2, none⟩ = some (.slice a n cap) ∧ w'.cell? ⟨w2.heap.size, 0, none⟩ = some (.int .i64 V) ∧ w'.cell? ⟨w2.heap.size, 2, none⟩ = some (.slice (some ⟨g, 0, none⟩) N N))
     (go_keep)
     (first
       | (go_at_call 110; refine (hasCell_any W T (x - 1) (y - 1) a n cap xs _ HN.out (by omega) (by omega) (by omega) (by omega) HWT.out (HA.out.below (BEL.out.drew))).mono ?_; rintro e w6 ⟨rfl, hb6⟩; have p6 := heap_later PQ hb6; have s6 := heap_later SQ hb6; obtain ⟨c60, c61, c62⟩ := cells3 p6; obtain ⟨d60, d61, d62⟩ := cells3 s6; have k6 := cell_later hb6 (show (World.drew wr).cell? _ = some _ from hcell); have r6 := RowB.free (RowB.below (show RowB (World.drew wr) _ _ _ _ _ from HR.out) hb6) k))
    have q6 := heap_later (show (World.drew wr).heap[w.heap.size + 1]? = some _ from qr) hb6
    have R6 := RowB.below (show RowB (World.drew wr) _ _ _ _ _ from HR.out) hb6
    have hs := R6.set k (!atB W T xs (x - 1) (y - 1))
    have hs1 := hs.1.congr (f' := fun j => decide (j < k + 1) && outB W T xs j) (fun i hi => by
     by_cases e : i = k
     · subst e; simp [HOB.out]
     · have : decide (i < k + 1) = decide (i < k) := by apply decide_eq_decide.2; omega
       simp only [if_neg e, this])
    have HS := Lib.hid hs1
    have B6 := Lib.hid (below_seq BEL.out (below_seq (drew_below _) hb6))
    clear hs hs1 R6 r6 k6 c60 c61 c62 d60 d61 d62 c0 c1 c2 s0 s1 s2
    go_wp2
    go_roundw
    case rel => exact ⟨k + 1, by omega, by go_num, HS.out, heap_set_other p6 (by simp; omega) _, heap_set_other q6 (by simp; omega) _, heap_set_other s6 (by simp; omega) _, B6.out.setCell (by simp; omega) _⟩
    case measure => simp [intOf]; omega
  · obtain rfl : k = N := by omega
    have HR := Lib.hid hr; clear hr
    obtain ⟨d0, d1, d2⟩ := cells3 qr
    have e0 := free3 qr 0
    have e1 := free3 qr 1
    have e2 := free3 qr 2
    go_wp2
    refine bodyPost_ret (v := .agg #[.int .i64 V, .int .i64 V2, .slice (some ⟨g, 0, none⟩) k k]) (by simp [results, Tryz.results84, go_sem, d0, d1, d2]) rfl ⟨_, rfl, ?_, ?_⟩
    · have := (HR.out.congr (f' := outB W T xs) (fun i hi => by simp [hi])).owns
      exact (OwnsB.set3 this (by omega) _ _ _).lower (by omega)
    · exact below_set3 hbel (by omega) _ _ _
end Go.Proofs.YtpcajacekmidbaaGreat

namespace Go.Proofs.YtpcajacekmidbaaGreat
open Go.RowKit
set_option linter.unusedVariables false
set_option maxRecDepth 100000
set_option linter.unusedSimpArgs false

def oneMark (N : Nat) (s : Nat → Bool) (adj : Nat → Nat → Bool) : Bool := decide (selfN (marksL N s adj) N = 1)
theorem countP_one {l : List Nat} {p : Nat → Bool} {a : Nat} (ha : a ∈ l) (hp : p a = true) (h : l.countP p = 1) : ∀ b ∈ l, p b = true → b = a := by
 induction l with
 | nil => cases ha
 | cons x l ih =>
   intro b hb hpb
   rw [List.countP_cons] at h
   by_cases hx : p x = true
   · rw [if_pos hx] at h
     have h0 : l.countP p = 0 := by omega
     rw [List.countP_eq_zero] at h0
     have e1 : a = x := by
      rcases List.mem_cons.1 ha with e | e
      · exact e
      · exact absurd hp (h0 a e)
     have e2 : b = x := by
      rcases List.mem_cons.1 hb with e | e
      · exact e
      · exact absurd hpb (h0 b e)
     rw [e1, e2]
   · rw [if_neg hx] at h
     have ha' : a ∈ l := by
      rcases List.mem_cons.1 ha with e | e
      · subst e; exact absurd hp hx
      · exact e
     rcases List.mem_cons.1 hb with e | e
     · subst e; exact absurd hpb hx
     · exact ih ha' (by omega) b e hpb
theorem countP_le_one {l : List Nat} {p : Nat → Bool} {a : Nat} (hn : l.Nodup) (h : ∀ b ∈ l, p b = true → b = a) : l.countP p ≤ 1 := by
 induction l with
 | nil => simp
 | cons x l ih =>
   rw [List.countP_cons]
   rw [List.nodup_cons] at hn
   by_cases hx : p x = true
   · rw [if_pos hx]
     have : l.countP p = 0 := by
      rw [List.countP_eq_zero]
      intro b hb hpb
      have e1 := h b (List.mem_cons_of_mem _ hb) hpb
      have e2 := h x List.mem_cons_self hx
      rw [e1, ← e2] at hb
      exact hn.1 hb
     omega
   · rw [if_neg hx]
     have := ih hn.2 (fun b hb => h b (List.mem_cons_of_mem _ hb))
     omega
theorem oneMark_iff {N : Nat} {s : Nat → Bool} {adj : Nat → Nat → Bool} (h0 : 0 < N) (hs : s 0 = true) : oneMark N s adj = true ↔ ∀ k, k < N → s k = true → Conn N s adj 0 k := by
 have hm := marksL_marks N s adj
 have z : (marksL N s adj).getD 0 0 = 0 := by
  obtain ⟨j, hj, hc, hl⟩ := (hm.2 0 h0).2 hs
  have := hl 0 (.refl h0 hs)
  rw [hj]; omega
 unfold oneMark
 rw [decide_eq_true_eq]
 unfold selfN
 constructor
 · intro h k hk hsk
   obtain ⟨j, hj, hc, hl⟩ := (hm.2 k hk).2 hsk
   have hjN := hc.left
   have hself : (marksL N s adj).getD j 0 = (j : Int) := by
    obtain ⟨j2, hj2, hc2, hl2⟩ := (hm.2 j hjN.1).2 hjN.2
    have a1 := hl2 j (.refl hjN.1 hjN.2)
    have a2 := hl j2 (hc2.trans hc)
    rw [hj2]; omega
   have := countP_one (List.mem_range.2 h0) (by simpa using z) h j (List.mem_range.2 hjN.1) (by simpa using hself)
   rw [this] at hc; exact hc
 · intro h
   have hle : (List.range N).countP (fun i => (marksL N s adj).getD i 0 == (i : Int)) ≤ 1 := by
    refine countP_le_one (a := 0) List.nodup_range (fun b hb hpb => ?_)
    have hbN := List.mem_range.1 hb
    have hbe : (marksL N s adj).getD b 0 = (b : Int) := by simpa using hpb
    cases hsb : s b
    · have := (hm.2 b hbN).1 hsb; omega
    · obtain ⟨j, hj, hc, hl⟩ := (hm.2 b hbN).2 hsb
      have := hl 0 (h b hbN hsb)
      omega
   have hge : 0 < (List.range N).countP (fun i => (marksL N s adj).getD i 0 == (i : Int)) := by
    rw [List.countP_pos_iff]
    exact ⟨0, List.mem_range.2 h0, by simpa using z⟩
   omega

def dxw (way : Nat) : Int := [0, 1, 0, -1, 0].getD way 0
def dyw (way : Nat) : Int := [0, 0, 1, 0, -1].getD way 0
theorem way_adj {V : Int} {c k way : Nat} (h1 : 1 ≤ way) (h2 : way ≤ 4) (hx : (k : Int) % V = (c : Int) % V + dxw way) (hy : (k : Int) / V = (c : Int) / V + dyw way) : adjW V false c k = true := by
 unfold adjW
 rw [hx, hy]
 have hw : way = 1 ∨ way = 2 ∨ way = 3 ∨ way = 4 := by omega
 simp only [Bool.and_eq_true, Bool.or_eq_true, Bool.not_eq_true', decide_eq_true_eq, decide_eq_false_iff_not, Bool.false_eq_true, false_or]
 rcases hw with rfl | rfl | rfl | rfl <;> simp [dxw, dyw] <;> omega
theorem adj_way {V : Int} {c k : Nat} (h : adjW V false c k = true) : ∃ way, 1 ≤ way ∧ way ≤ 4 ∧ (k : Int) % V = (c : Int) % V + dxw way ∧ (k : Int) / V = (c : Int) / V + dyw way := by
 unfold adjW at h
 simp only [Bool.and_eq_true, Bool.or_eq_true, Bool.not_eq_true', decide_eq_true_eq, decide_eq_false_iff_not, Bool.false_eq_true, false_or] at h
 obtain ⟨⟨⟨h1, h2, h3, h4⟩, hne⟩, hc⟩ := h
 generalize (k : Int) % V = x' at *
 generalize (c : Int) % V = x at *
 generalize (k : Int) / V = y' at *
 generalize (c : Int) / V = y at *
 rcases hc with hc | hc
 · have hy : y' = y + 1 ∨ y' = y - 1 := by
    have : y' ≠ y := fun e => hne ⟨hc, e⟩
    omega
   rcases hy with e | e
   · exact ⟨2, by omega, by omega, by simp [dxw]; omega, by simp [dyw]; omega⟩
   · exact ⟨4, by omega, by omega, by simp [dxw]; omega, by simp [dyw]; omega⟩
 · have hx : x' = x + 1 ∨ x' = x - 1 := by
    have : x' ≠ x := fun e => hne ⟨e, hc⟩
    omega
   rcases hx with e | e
   · exact ⟨1, by omega, by omega, by simp [dxw]; omega, by simp [dyw]; omega⟩
   · exact ⟨3, by omega, by omega, by simp [dxw]; omega, by simp [dyw]; omega⟩

structure QI (N : Nat) (s : Nat → Bool) (adj : Nat → Nat → Bool) (zs : List Int) (ys : Nat → Bool) (i : Nat) : Prop where
 cnt : zs.length = (List.range N).countP ys
 seen : ∀ j, j < N → ys j = true → Conn N s adj 0 j ∧ ∃ p, p < zs.length ∧ zs.getD p 0 = (j : Int)
 ent : ∀ p, p < zs.length → ∃ j : Nat, zs.getD p 0 = j ∧ j < N ∧ ys j = true
 zero : ys 0 = true
 clo : ∀ p, p < i → ∀ j k : Nat, zs.getD p 0 = j → adj j k = true → k < N → s k = true → ys k = true
def Done (N : Nat) (s : Nat → Bool) (V : Int) (c way : Nat) (ys : Nat → Bool) : Prop :=
 ∀ k, k < N → s k = true → ∀ q, 1 ≤ q → q < way → (k : Int) % V = (c : Int) % V + dxw q → (k : Int) / V = (c : Int) / V + dyw q → ys k = true
theorem QI.le {N : Nat} {s : Nat → Bool} {adj : Nat → Nat → Bool} {zs : List Int} {ys : Nat → Bool} {i : Nat} (h : QI N s adj zs ys i) : zs.length ≤ N := by
 have := List.countP_le_length (p := ys) (l := List.range N)
 rw [List.length_range] at this
 rw [h.cnt]; exact this
theorem countP_set {N n : Nat} {ys : Nat → Bool} (hn : n < N) (h : ys n = false) : (List.range N).countP (fun j => if j = n then true else ys j) = (List.range N).countP ys + 1 := by
 have key : ∀ M, (List.range M).countP (fun j => if j = n then true else ys j) = (List.range M).countP ys + if n < M then 1 else 0 := by
  intro M
  induction M with
  | zero => simp
  | succ M ih =>
    rw [List.range_succ, List.countP_append, List.countP_append, ih]
    by_cases e : M = n
    · subst e; simp [h]
    · have e1 : (if n < M + 1 then 1 else 0) = (if n < M then 1 else 0 : Nat) := by
       by_cases hlt : n < M
       · rw [if_pos hlt, if_pos (by omega)]
       · rw [if_neg hlt, if_neg (by omega)]
      rw [e1]
      simp [e]; omega
 rw [key, if_pos hn]
theorem QI.push {N : Nat} {s : Nat → Bool} {adj : Nat → Nat → Bool} {zs : List Int} {ys : Nat → Bool} {i n c : Nat} (h : QI N s adj zs ys i) (hi : i < zs.length) (hn : n < N) (hs : s n = true) (hy : ys n = false) (hc : zs.getD i 0 = (c : Int)) (hcn : c < N) (hcs : ys c = true) (ha : adj c n = true) :
 QI N s adj (zs ++ [(n : Int)]) (fun j => if j = n then true else ys j) i := by
 have hg : ∀ p, p < zs.length → (zs ++ [(n : Int)]).getD p 0 = zs.getD p 0 := fun p hp => by simp [List.getD, List.getElem?_append_left hp]
 refine ⟨?_, fun j hj hyj => ?_, fun p hp => ?_, ?_, fun p hp j k hj hk hkN hks => ?_⟩
 · rw [countP_set hn hy, ← h.cnt]; simp
 · by_cases e : j = n
   · subst e
     exact ⟨.step (h.seen c hcn hcs).1 ha hn hs, zs.length, by simp, by simp [List.getD]⟩
   · simp only [if_neg e] at hyj
     obtain ⟨h1, p, hp, h2⟩ := h.seen j hj hyj
     exact ⟨h1, p, by simp; omega, by rw [hg p hp]; exact h2⟩
 · by_cases hp' : p < zs.length
   · obtain ⟨j, h1, h2, h3⟩ := h.ent p hp'
     exact ⟨j, by rw [hg p hp']; exact h1, h2, by split; rfl; exact h3⟩
   · have : p = zs.length := by simp at hp; omega
     subst this
     exact ⟨n, by simp [List.getD], hn, by simp⟩
 · split
   · rfl
   · exact h.zero
 · rw [hg p (by omega)] at hj
   split
   · rfl
   · exact h.clo p hp j k hj hk hkN hks
theorem Done.push {N : Nat} {s : Nat → Bool} {V : Int} {c way n : Nat} {ys : Nat → Bool} (h : Done N s V c way ys) : Done N s V c way (fun j => if j = n then true else ys j) := by
 intro k hk hs q h1 h2 h3 h4
 show (if k = n then true else ys k) = true
 split
 · rfl
 · exact h k hk hs q h1 h2 h3 h4
theorem Done.next {N : Nat} {s : Nat → Bool} {V : Int} {c way : Nat} {ys : Nat → Bool} (h : Done N s V c way ys) (hw : ∀ k, k < N → s k = true → (k : Int) % V = (c : Int) % V + dxw way → (k : Int) / V = (c : Int) / V + dyw way → ys k = true) : Done N s V c (way + 1) ys := by
 intro k hk hs q h1 h2 h3 h4
 by_cases e : q = way
 · subst e; exact hw k hk hs h3 h4
 · exact h k hk hs q h1 (by omega) h3 h4
theorem QI.next {N : Nat} {s : Nat → Bool} {V : Int} {zs : List Int} {ys : Nat → Bool} {i c : Nat} (h : QI N s (adjW V false) zs ys i) (hc : zs.getD i 0 = (c : Int)) (hd : Done N s V c 5 ys) : QI N s (adjW V false) zs ys (i + 1) := by
 refine ⟨h.cnt, h.seen, h.ent, h.zero, fun p hp j k hj hk hkN hks => ?_⟩
 by_cases e : p = i
 · subst e
   have : j = c := by omega
   subst this
   obtain ⟨way, h1, h2, h3, h4⟩ := adj_way hk
   exact hd k hkN hks way h1 (by omega) h3 h4
 · exact h.clo p (by omega) j k hj hk hkN hks
theorem QI.done {N : Nat} {s : Nat → Bool} {adj : Nat → Nat → Bool} {zs : List Int} {ys : Nat → Bool} (h : QI N s adj zs ys zs.length) (h0 : 0 < N) (hs0 : s 0 = true) :
 decide (zs.length = (List.range N).countP s) = oneMark N s adj := by
 have key : ∀ k, Conn N s adj 0 k → ys k = true := by
  intro k hc
  induction hc with
  | refl _ _ => exact h.zero
  | step hij a b c ih =>
    rename_i j k
    obtain ⟨_, p, hp, e⟩ := h.seen j hij.right.1 ih
    exact h.clo p hp j k e a b c
 apply Bool.eq_iff_iff.2
 rw [oneMark_iff h0 hs0, decide_eq_true_eq, h.cnt]
 have hsub : ∀ x ∈ List.range N, ys x = true → s x = true := fun x hx hy => (h.seen x (List.mem_range.1 hx) hy).1.right.2
 constructor
 · intro e k hk hsk
   have := countP_eq_of (List.range N) ys s hsub e k (List.mem_range.2 hk) hsk
   exact (h.seen k hk this).1
 · intro hall
   refine Nat.le_antisymm (List.countP_mono_left hsub) (List.countP_mono_left fun x hx hsx => key x (hall x (List.mem_range.1 hx) hsx))
theorem QI.start {N : Nat} {s : Nat → Bool} {adj : Nat → Nat → Bool} (h0 : 0 < N) (hs0 : s 0 = true) : QI N s adj [0] (fun j => decide (j = 0)) 0 := by
 refine ⟨?_, fun j hj hy => ?_, fun p hp => ?_, by simp, fun p hp => absurd hp (Nat.not_lt_zero p)⟩
 · have := countP_set (N := N) (n := 0) (ys := fun _ => false) h0 rfl
   have e : (fun j : Nat => decide (j = 0)) = (fun j => if j = 0 then true else (fun _ => false) j) := by funext j; by_cases e : j = 0 <;> simp [e]
   rw [e, this]; simp
 · have : j = 0 := by simpa using hy
   subst this
   exact ⟨.refl h0 hs0, 0, by simp, rfl⟩
 · have : p = 0 := by simp at hp; exact hp
   subst this
   exact ⟨0, rfl, h0, rfl⟩
end Go.Proofs.YtpcajacekmidbaaGreat

namespace Go.Proofs.YtpcajacekmidbaaGreat
open Go.RowKit
set_option linter.unusedVariables false
set_option maxRecDepth 100000
set_option linter.unusedSimpArgs false

def sumR (f : Nat → Nat) : Nat → Nat
 | 0 => 0
 | n + 1 => sumR f n + f n
theorem sumR_congr {f g : Nat → Nat} : ∀ {n : Nat}, (∀ i, i < n → f i = g i) → sumR f n = sumR g n
 | 0, _ => rfl
 | n + 1, h => by unfold sumR; rw [sumR_congr (fun i hi => h i (by omega)), h n (by omega)]
theorem sumR_shift (f : Nat → Nat) : ∀ n, sumR f (n + 1) = f 0 + sumR (fun i => f (i + 1)) n
 | 0 => by simp [sumR]
 | n + 1 => by
   rw [show sumR f (n + 1 + 1) = sumR f (n + 1) + f (n + 1) from rfl, sumR_shift f n]
   show f 0 + sumR (fun i => f (i + 1)) n + f (n + 1) = f 0 + (sumR (fun i => f (i + 1)) n + f (n + 1))
   omega
theorem sumR_rim (f : Nat → Nat) (n : Nat) (h0 : f 0 = 0) (h1 : f (n + 1) = 0) : sumR f (n + 2) = sumR (fun i => f (i + 1)) n := by
 rw [show sumR f (n + 2) = sumR f (n + 1) + f (n + 1) from rfl, sumR_shift, h0, h1]; omega
theorem countP_sumR (p : Nat → Bool) : ∀ n, (List.range n).countP p = sumR (fun i => if p i then 1 else 0) n
 | 0 => rfl
 | n + 1 => by
   rw [List.range_succ, List.countP_append, countP_sumR p n]
   simp [sumR, List.countP_cons]
theorem sumR_add (f : Nat → Nat) (n : Nat) : ∀ m, sumR f (n + m) = sumR f n + sumR (fun i => f (n + i)) m
 | 0 => by simp [sumR]
 | m + 1 => by
   rw [show n + (m + 1) = (n + m) + 1 by omega]
   show sumR f (n + m) + f (n + m) = sumR f n + (sumR (fun i => f (n + i)) m + f (n + m))
   rw [sumR_add f n m]; omega
theorem sumR_rows (f : Nat → Nat) (V : Nat) : ∀ H, sumR f (H * V) = sumR (fun y => sumR (fun x => f (y * V + x)) V) H
 | 0 => by simp [sumR]
 | H + 1 => by
   rw [Nat.add_mul, Nat.one_mul, sumR_add, sumR_rows f V H]; rfl
theorem outB_at {W T : Nat} {xs : List Bool} {x y : Nat} (hx : x < W + 2) : outB W T xs (y * (W + 2) + x) = !atB W T xs ((x : Int) - 1) ((y : Int) - 1) := by
 unfold outB
 have ew : ((W + 2 : Nat) : Int) = (W : Int) + 2 := by omega
 have e : ((y * (W + 2) + x : Nat) : Int) = (x : Int) + (y : Int) * ((W : Int) + 2) := by
  rw [Int.natCast_add, Int.natCast_mul, ew, Int.add_comm]
 have e1 : ((y * (W + 2) + x : Nat) : Int) % ((W : Int) + 2) = x := by
  rw [e, Int.add_mul_emod_self_right, Int.emod_eq_of_lt (by omega) (by omega)]
 have e2 : ((y * (W + 2) + x : Nat) : Int) / ((W : Int) + 2) = y := by
  rw [e, Int.add_mul_ediv_right _ _ (by omega), Int.ediv_eq_zero_of_lt (by omega) (by omega)]; omega
 rw [e1, e2]
theorem in_count {W T : Nat} {xs : List Bool} (hl : xs.length = W * T) : (List.range ((W + 2) * (T + 2))).countP (fun i => !outB W T xs i) = cnt xs := by
 have hc : cnt xs = (List.range (T * W)).countP fun i => xs.getD i false := by
  unfold cnt
  rw [Nat.mul_comm, ← hl]
  have key : ∀ k, k ≤ xs.length → (xs.take k).countP id = (List.range k).countP fun i => xs.getD i false := by
   intro k
   induction k with
   | zero => intro _; simp
   | succ k ih =>
     intro hk
     rw [List.range_succ, List.countP_append, ← ih (by omega), List.take_succ_eq_append_getElem (by omega), List.countP_append]
     have : k < xs.length := by omega
     simp [List.countP_cons, this]
  have := key xs.length (Nat.le_refl _)
  rwa [List.take_length] at this
 rw [hc, countP_sumR, countP_sumR, Nat.mul_comm (W + 2), sumR_rows, sumR_rows]
 have row : ∀ y, y < T + 2 → sumR (fun x => if (!outB W T xs (y * (W + 2) + x)) = true then 1 else 0) (W + 2) = sumR (fun x => if atB W T xs (x : Int) ((y : Int) - 1) = true then 1 else 0) W := by
  intro y hy
  rw [sumR_rim]
  · refine sumR_congr fun x hx => ?_
    rw [outB_at (by omega)]
    have : ((x + 1 : Nat) : Int) - 1 = x := by omega
    rw [this]; simp
  · rw [outB_at (by omega)]
    have : atB W T xs (((0 : Nat) : Int) - 1) ((y : Int) - 1) = false := by
     unfold atB inF
     rw [decide_eq_false (by omega)]; rfl
    rw [this]; rfl
  · rw [outB_at (by omega)]
    have : atB W T xs (((W + 1 : Nat) : Int) - 1) ((y : Int) - 1) = false := by
     unfold atB inF
     rw [decide_eq_false (by omega)]; rfl
    rw [this]; rfl
 rw [sumR_congr row, sumR_rim]
 · refine sumR_congr fun y hy => sumR_congr fun x hx => ?_
   have e : ((y + 1 : Nat) : Int) - 1 = y := by omega
   rw [e]
   unfold atB inF
   rw [decide_eq_true (by omega)]
   have : ((y : Int) * (W : Int) + (x : Int)).toNat = y * W + x := by
    have : (y : Int) * (W : Int) + (x : Int) = ((y * W + x : Nat) : Int) := by rw [Int.natCast_add, Int.natCast_mul]
    rw [this, Int.toNat_natCast]
   rw [this]; simp
 · have z : ∀ x, x < W → (if atB W T xs (x : Int) (((0 : Nat) : Int) - 1) = true then 1 else 0 : Nat) = 0 := by
    intro x hx
    unfold atB inF
    rw [decide_eq_false (by omega)]; rfl
   rw [sumR_congr (g := fun _ => 0) z]
   have : ∀ n, sumR (fun _ => 0) n = 0 := by intro n; induction n with | zero => rfl | succ n ih => unfold sumR; rw [ih]
   exact this W
 · have z : ∀ x, x < W → (if atB W T xs (x : Int) (((T + 1 : Nat) : Int) - 1) = true then 1 else 0 : Nat) = 0 := by
    intro x hx
    unfold atB inF
    rw [decide_eq_false (by omega)]; rfl
   rw [sumR_congr (g := fun _ => 0) z]
   have : ∀ n, sumR (fun _ => 0) n = 0 := by intro n; induction n with | zero => rfl | succ n ih => unfold sumR; rw [ih]
   exact this W
theorem out_count {W T : Nat} {xs : List Bool} (hl : xs.length = W * T) : (List.range ((W + 2) * (T + 2))).countP (outB W T xs) + cnt xs = (W + 2) * (T + 2) := by
 rw [← in_count hl]
 have key : ∀ n, (List.range n).countP (outB W T xs) + (List.range n).countP (fun i => !outB W T xs i) = n := by
  intro n
  induction n with
  | zero => rfl
  | succ n ih =>
    rw [List.range_succ, List.countP_append, List.countP_append]
    cases h : outB W T xs n <;> simp [List.countP_cons, h] <;> omega
 exact key _
end Go.Proofs.YtpcajacekmidbaaGreat
