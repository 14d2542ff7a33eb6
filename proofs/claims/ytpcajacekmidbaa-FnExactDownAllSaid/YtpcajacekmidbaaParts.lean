/- Contracts of both functions PartsOf: each cell of a valid region has the least index of a cell of its part. -/
import Derived.Test.YtpcajacekmidbaaPartsS
import Derived.Test.YtpcajacekmidbaaInts
namespace Go.Proofs.Ytpcajacekmidbaa
open Go.RowKit
set_option linter.unusedVariables false
set_option maxRecDepth 100000
set_option linter.unusedSimpArgs false

/-- The first number from s on, of f numbers, that p holds of. -/
def firstN (p : Nat → Bool) : Nat → Nat → Nat
  | 0, s => s
  | f + 1, s => if p s then s else firstN p f (s + 1)
theorem firstN_spec (p : Nat → Bool) : ∀ f s i, s ≤ i → i < s + f → p i = true → p (firstN p f s) = true ∧ ∀ j, s ≤ j → p j = true → firstN p f s ≤ j
  | 0, s, i, h1, h2, _ => by omega
  | f + 1, s, i, h1, h2, h3 => by
    unfold firstN
    by_cases hp : p s = true
    · rw [if_pos hp]; exact ⟨hp, fun j hj _ => hj⟩
    · rw [if_neg hp]
      have hne : i ≠ s := fun e => hp (by rw [← e]; exact h3)
      obtain ⟨r1, r2⟩ := firstN_spec p f (s + 1) i (by omega) (by omega) h3
      refine ⟨r1, fun j hj hpj => r2 j ?_ hpj⟩
      have : j ≠ s := fun e => hp (by rw [← e]; exact hpj)
      omega
/-- For each cell the least index of one that it hangs together with. -/
def marksL (N : Nat) (s : Nat → Bool) (adj : Nat → Nat → Bool) : List Int :=
  (List.range N).map fun k => if s k then ((firstN (fun i => reachT N s adj i N k) N 0 : Nat) : Int) else -1
theorem marksL_len (N : Nat) (s : Nat → Bool) (adj : Nat → Nat → Bool) : (marksL N s adj).length = N := by simp [marksL]
theorem marksL_marks (N : Nat) (s : Nat → Bool) (adj : Nat → Nat → Bool) : Marks N s adj (marksL N s adj) := by
  refine ⟨marksL_len _ _ _, fun k hk => ?_⟩
  have e : (marksL N s adj).getD k 0 = if s k then ((firstN (fun i => reachT N s adj i N k) N 0 : Nat) : Int) else -1 := by simp [marksL, hk]
  rw [e]
  refine ⟨fun h => by rw [h]; rfl, fun h => ?_⟩
  rw [h, if_pos rfl]
  obtain ⟨r1, r2⟩ := firstN_spec (fun i => reachT N s adj i N k) N 0 k (Nat.zero_le _) (by omega) (conn_reach (.refl hk h))
  have hlt : firstN (fun i => reachT N s adj i N k) N 0 ≤ k := r2 k (Nat.zero_le _) (conn_reach (.refl hk h))
  exact ⟨_, rfl, reachT_conn (by omega) hk r1, fun i hi => r2 i (Nat.zero_le _) (conn_reach hi)⟩
theorem marksL_eq {N : Nat} {s : Nat → Bool} {adj : Nat → Nat → Bool} {M : List Int} (h : Marks N s adj M) : M = marksL N s adj := marks_unique h (marksL_marks N s adj)

/-- What the list of the parts is. -/
def partsF (W T : Int) (xs : List Bool) : List Int := if rv W T xs then marksL xs.length (fun i => xs.getD i false) (adjW W false) else []
theorem partsF_len (W T : Int) (xs : List Bool) : (partsF W T xs).length ≤ xs.length := by
  unfold partsF; split
  · rw [marksL_len]; exact Nat.le_refl _
  · exact Nat.zero_le _

theorem sPartsOf_ret (W T : Int) (a : Option Addr) (n cap : Nat) (xs : List Bool) (w : World) (hn : n = xs.length) (hn' : n ≤ 1048576) (ha : BoolsAt w a xs) :
    Calls Try.prog 162 #[.agg #[.int .i64 W, .int .i64 T, .slice a n cap]] w (RetL w (partsF W T xs).length (partsF W T xs)) := by
  cases h : rv W T xs
  · have e : partsF W T xs = [] := by unfold partsF; rw [h]; rfl
    rw [e]
    have HN := Lib.hid hn; clear hn
    have HA := Lib.hid ha; clear ha
    have H := Lib.hid h; clear h e
    obtain ⟨wA, hwA⟩ : ∃ wA, wA = (w.alloc (.cells #[.int .i64 W, .int .i64 T, .slice a n cap] 25)).alloc (.cells #[] 3 (0, 0)) := ⟨_, rfl⟩
    have pA : wA.heap[w.heap.size]? = some (.cells #[.int .i64 W, .int .i64 T, .slice a n cap] 25 (0, 0)) := by rw [hwA]; exact heap_later (heap_new w _) (below1 _ _)
    have bA : Below w.heap.size w wA := by rw [hwA]; exact below2 _ _ _
    have oA : OwnsI wA (w.heap.size + 1) (.slice (some ⟨w.heap.size + 1, 0, none⟩) 0 0) [] := by
      rw [hwA]; have := own_nil_litP (w.alloc (.cells #[.int .i64 W, .int .i64 T, .slice a n cap] 25)) (B := w.heap.size + 1) (by simp); simpa using this
    have HOA := Lib.hid oA; clear oA
    obtain ⟨c0, c1, c2⟩ := cells3 pA
    go_enter Try.func162, Try.ntmps162
    go_wp2_with fail
    rw [← hwA]
    clear hwA
    go_wp2_with fail
    refine (sRegionValid_any _ _ _ _ _ xs _ HN.out hn' (HA.out.below bA)).mono ?_; rintro e w1 ⟨rfl, hb1⟩
    rw [H.out]
    go_wp2
    go_ret
    exact ⟨some ⟨w.heap.size + 1, 0, none⟩, 0, rfl, (HOA.out.below hb1).lower (by omega), below_seq bA hb1⟩
  · have e : partsF W T xs = marksL n (fun i => xs.getD i false) (adjW W false) := by unfold partsF; rw [h, if_pos rfl, hn]
    rw [e]
    refine (sPartsOf_ok W T a n cap xs w hn h ha).mono ?_
    rintro e w2 ⟨g, c2, M, rfl, hl, ho, hm, hb2⟩
    have hM := marksL_eq hm
    rw [← hM, hl]
    exact ⟨_, _, rfl, ho, hb2⟩
end Go.Proofs.Ytpcajacekmidbaa
