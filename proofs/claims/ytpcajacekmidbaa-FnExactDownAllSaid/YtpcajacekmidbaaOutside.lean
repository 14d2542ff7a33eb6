/- Contract of impl.outside: what does not belong to a region, with a rim around its field. -/
import Derived.Test.YtpcajacekmidbaaPartsN
import Derived.Test.YtpcajacekmidbaaFlip
namespace Go.Proofs.Ytpcajacekmidbaa
open Go.RowKit
set_option linter.unusedVariables false
set_option maxRecDepth 100000
set_option linter.unusedSimpArgs false

/-- Whether the cell i of the field with a rim does not belong to the region. -/
def outB (W T : Int) (xs : List Bool) (i : Nat) : Bool := !atB W T xs ((i : Int) % (W + 2) - 1) ((i : Int) / (W + 2) - 1)
def outL (W T : Int) (xs : List Bool) (N : Nat) : List Bool := (List.range N).map (outB W T xs)
theorem outL_len (W T : Int) (xs : List Bool) (N : Nat) : (outL W T xs N).length = N := by simp [outL]
theorem outL_get {W T : Int} {xs : List Bool} {N i : Nat} (h : i < N) : (outL W T xs N).getD i false = outB W T xs i := by simp [outL, h]
theorem rim_bd {W T : Int} (h1 : 1 ≤ W) (h2 : W ≤ 6) (h3 : 1 ≤ T) (h4 : T ≤ 6) : 9 ≤ (W + 2) * (T + 2) ∧ (W + 2) * (T + 2) ≤ 64 := by
  have a : (W + 2) * (T + 2) ≤ 8 * 8 := Int.mul_le_mul (by omega) (by omega) (by omega) (by omega)
  have b : 3 * 3 ≤ (W + 2) * (T + 2) := Int.mul_le_mul (by omega) (by omega) (by omega) (by omega)
  omega

set_option maxHeartbeats 600000 in
theorem outside_any (W T : Int) (a : Option Addr) (n cap : Nat) (xs : List Bool) (N : Nat) (w : World) (hn : n = xs.length) (v1 : 1 ≤ W) (v2 : W ≤ 6) (v3 : 1 ≤ T) (v4 : T ≤ 6) (hWT : (n : Int) = W * T) (hN : (W + 2) * (T + 2) = (N : Int)) (ha : BoolsAt w a xs) :
    Calls Try.prog 84 #[.agg #[.int .i64 W, .int .i64 T, .slice a n cap]] w fun e w' => ∃ g, e = .returned (.agg #[.int .i64 (W + 2), .int .i64 (T + 2), .slice (some ⟨g, 0, none⟩) N N]) ∧ OwnsB w' w.heap.size (.slice (some ⟨g, 0, none⟩) N N) (outL W T xs N) ∧ Below w.heap.size w w' := by
  have hb64 := rim_bd v1 v2 v3 v4
  have n64 : N ≤ 64 := by omega
  clear hb64
  have HN := Lib.hid hn; clear hn
  have HA := Lib.hid ha; clear ha
  have HWT := Lib.hid hWT; clear hWT
  have HNN := Lib.hid hN; clear hN
  obtain ⟨V, hV⟩ : ∃ V, W + 2 = V := ⟨_, rfl⟩
  obtain ⟨V2, hV2⟩ : ∃ V, T + 2 = V := ⟨_, rfl⟩
  rw [hV, hV2] at HNN
  rw [hV, hV2]
  have u1 : 3 ≤ V := by omega
  have u2 : V ≤ 8 := by omega
  have u3 : 3 ≤ V2 := by omega
  have u4 : V2 ≤ 8 := by omega
  have HV := Lib.hid hV
  go_enter Try.func84, Try.ntmps84
  go_wp2_with fail
  have b1 := below2 w (.cells #[.int .i64 W, .int .i64 T, .slice a n cap] 25) (.cells #[.int .i64 0, .int .i64 0, .slice none 0 0] 25)
  refine (bareField_any (V) (V2) N _ (by omega) (by omega) (by omega) (by omega) HNN.out (by omega)).mono ?_; rintro e w2 ⟨g, rfl, ho, hb2⟩
  have p2 := heap_later (heap_later (heap_new w (.cells #[.int .i64 W, .int .i64 T, .slice a n cap] 25 (0, 0))) (below1 _ _)) hb2
  have q2 := heap_later (heap_new2 w (.cells #[.int .i64 W, .int .i64 T, .slice a n cap] 25 (0, 0)) (.cells #[.int .i64 0, .int .i64 0, .slice none 0 0] 25 (0, 0))) hb2
  have b2 := below_seq b1 hb2
  have R2 : RowB w2 (w.heap.size + 2) g N N (fun _ => false) := (RowB.of (ho.lower (by simp)) (by simp)).congr (fun i hi => by simp [hi])
  have A2 := Lib.hid (HA.out.below b2)
  have lg := R2.base
  clear ho hb2 b1
  obtain ⟨c0, c1, c2⟩ := cells3 p2
  have lp := heap_lt p2
  have lq := heap_lt q2
  go_wp2
  clear hV hV2
  go_loopw [4, 15] (fun _ i wr => ∃ k : Nat, k ≤ N ∧ i = .int .i64 k ∧ RowB wr (w.heap.size + 2) g N N (fun j => decide (j < k) && outB W T xs j) ∧ wr.heap[w.heap.size]? = some (.cells #[.int .i64 W, .int .i64 T, .slice a n cap] 25 (0, 0)) ∧ wr.heap[w.heap.size + 1]? = some (.cells #[.int .i64 0, .int .i64 0, .slice none 0 0] 25 (0, 0)) ∧ wr.heap[w2.heap.size]? = some (.cells #[.int .i64 V, .int .i64 V2, .slice (some ⟨g, 0, none⟩) N N] 25 (0, 0)) ∧ Below w.heap.size w wr) (fun _ i _ => N - (intOf i).toNat)
  case atStart => exact ⟨0, Nat.zero_le _, rfl, (R2.below (below1 _ _)).congr (by intro i hi; simp), heap_later p2 (below1 _ _), heap_later q2 (below1 _ _), heap_new _ _, below_seq b2 (below1 _ _)⟩
  case round =>
    obtain ⟨k, hk, rfl, hr, pr, qr, sr, hbel⟩ := hrel
    rename World => wr
    clear c0 c1 c2
    obtain ⟨c0, c1, c2⟩ := cells3 pr
    obtain ⟨s0, s1, s2⟩ := cells3 sr
    have l1 := heap_lt pr
    have l2 := heap_lt sr
    by_cases hlt : k < N
    · have e1 : (k : Int) < N := by omega
      have e0 : (0 : Int) ≤ k := by omega
      have hW0 : V ≠ 0 := by omega
      obtain ⟨x, hx⟩ : ∃ x, x = (k : Int) % V := ⟨_, rfl⟩
      obtain ⟨y, hy⟩ : ∃ y, y = (k : Int) / V := ⟨_, rfl⟩
      have T1 : (k : Int).tmod V = x := by rw [hx]; exact Int.tmod_eq_emod_of_nonneg e0
      have T2 : (k : Int).tdiv V = y := by rw [hy]; exact Int.tdiv_eq_ediv_of_nonneg e0
      have x0 : 0 ≤ x := by rw [hx]; exact Int.emod_nonneg _ hW0
      have x1 : x < 8 := by have := Int.emod_lt_of_pos (k : Int) (b := V) (by omega); omega
      have y0 : 0 ≤ y := by rw [hy]; exact Int.ediv_nonneg e0 (by omega)
      have y1 : y ≤ k := by rw [hy]; exact Int.ediv_le_self _ e0
      have ew1 : IntKind.i64.wrap (x - 1) = x - 1 := by rw [IntKind.wrap_i64]; omega
      have ew2 : IntKind.i64.wrap y = y := by rw [IntKind.wrap_i64]; omega
      have ew3 : IntKind.i64.wrap (y - 1) = y - 1 := by rw [IntKind.wrap_i64]; omega
      have HOB : Hid (outB W T xs k = !atB W T xs (x - 1) (y - 1)) := by show _ = _; unfold outB; rw [HV.out, ← hx, ← hy]
      clear hx hy
      have HR := Lib.hid hr; clear hr
      have BEL := Lib.hid hbel; clear hbel
      have hcell := HR.out.cell (k := k) hlt
      have hfree := HR.out.free k
      obtain ⟨old, hold⟩ : ∃ old, old = (decide (k < k) && outB W T xs k) := ⟨_, rfl⟩
      rw [← hold] at hcell
      clear hold
      have PQ : wr.drew.heap[w.heap.size]? = some _ := pr
      have SQ : wr.drew.heap[w2.heap.size]? = some _ := sr
      have n1 : g ≠ w.heap.size := by omega
      have n2 : g ≠ w2.heap.size := by omega
      go_wp2_with fail
      go_region_held3 (fun w' => w'.cell? ⟨w.heap.size, 0, none⟩ = some (.int .i64 W) ∧ w'.cell? ⟨w.heap.size, 1, none⟩ = some (.int .i64 T) ∧ w'.cell? ⟨w.heap.size, 2, none⟩ = some (.slice a n cap) ∧ w'.cell? ⟨w2.heap.size, 0, none⟩ = some (.int .i64 V) ∧ w'.cell? ⟨w2.heap.size, 2, none⟩ = some (.slice (some ⟨g, 0, none⟩) N N))
        (go_keep)
        (first
          | (go_at_call 133; refine (hasCell_any W T (x - 1) (y - 1) a n cap xs _ HN.out (by omega) (by omega) (by omega) (by omega) HWT.out (HA.out.below (BEL.out.drew))).mono ?_; rintro e w6 ⟨rfl, hb6⟩; have p6 := heap_later PQ hb6; have s6 := heap_later SQ hb6; obtain ⟨c60, c61, c62⟩ := cells3 p6; obtain ⟨d60, d61, d62⟩ := cells3 s6; have k6 := cell_later hb6 (show (World.drew wr).cell? _ = some _ from hcell); have r6 := RowB.free (RowB.below (show RowB (World.drew wr) _ _ _ _ _ from HR.out) hb6) k))
      have q6 := heap_later (show (World.drew wr).heap[w.heap.size + 1]? = some _ from qr) hb6
      have R6 := RowB.below (show RowB (World.drew wr) _ _ _ _ _ from HR.out) hb6
      have hs := R6.set k (!atB W T xs (x - 1) (y - 1))
      have hs1 := hs.1.congr (f' := fun j => decide (j < k + 1) && outB W T xs j) (fun i hi => by
        by_cases e : i = k
        · subst e; simp [HOB.out]
        · have : decide (i < k + 1) = decide (i < k) := by apply decide_eq_decide.2; omega
          simp only [if_neg e, this])
      have HS := Lib.hid hs1
      have B6 := Lib.hid (below_seq BEL.out (below_seq (drew_below _) hb6))
      clear hs hs1 R6 r6 k6 c60 c61 c62 d60 d61 d62 c0 c1 c2 s0 s1 s2
      go_wp2
      go_roundw
      case rel => exact ⟨k + 1, by omega, by go_num, HS.out, heap_set_other p6 (by simp; omega) _, heap_set_other q6 (by simp; omega) _, heap_set_other s6 (by simp; omega) _, B6.out.setCell (by simp; omega) _⟩
      case measure => simp [intOf]; omega
    · obtain rfl : k = N := by omega
      have HR := Lib.hid hr; clear hr
      obtain ⟨d0, d1, d2⟩ := cells3 qr
      have e0 := free3 qr 0
      have e1 := free3 qr 1
      have e2 := free3 qr 2
      go_wp2
      refine bodyPost_ret (v := .agg #[.int .i64 V, .int .i64 V2, .slice (some ⟨g, 0, none⟩) k k]) (by simp [results, Try.results84, go_sem, d0, d1, d2]) rfl ⟨_, rfl, ?_, ?_⟩
      · have := (HR.out.congr (f' := outB W T xs) (fun i hi => by simp [hi])).owns
        exact (OwnsB.set3 this (by omega) _ _ _).lower (by omega)
      · exact below_set3 hbel (by omega) _ _ _
end Go.Proofs.Ytpcajacekmidbaa
