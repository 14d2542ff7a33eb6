/- What is beside some cells: plain facts, and the contracts of impl.besideSet, spec.l1Has and both functions CellsBeside. No statement is proved here. -/
import Derived.Test.YthlagmnnkckcnaaStep
import Derived.Test.YthlagmnnkckcnaaInts
namespace Go.Proofs.Ythlagmnnkckcnaa
open Go.RowKit
set_option linter.unusedVariables false
set_option maxRecDepth 100000
set_option linter.unusedSimpArgs false

/-- Whether one of the first j directions leads from a cell to the k-th one. -/
def hitW (W T : Int) (n : Nat) (c : Int) (j k : Nat) : Bool := (List.range j).any fun (d : Nat) => cellB W T n c ((d : Int) + 1) == (k : Int)
def setP (W T : Int) (xs : List Bool) (L : List Int) (i k : Nat) : Bool := xs.getD k false && (L.take i).any fun c => hitW W T xs.length c 4 k
def setQ (W T : Int) (xs : List Bool) (L : List Int) (i j k : Nat) : Bool := setP W T xs L i k || (xs.getD k false && hitW W T xs.length (L.getD i 0) j k)
theorem hitW_succ (W T : Int) (n : Nat) (c : Int) (j k : Nat) : hitW W T n c (j + 1) k = (hitW W T n c j k || (cellB W T n c ((j : Int) + 1) == (k : Int))) := by
  unfold hitW; rw [List.range_succ, List.any_append]; simp
theorem setQ_zero (W T : Int) (xs : List Bool) (L : List Int) (i k : Nat) : setQ W T xs L i 0 k = setP W T xs L i k := by
  unfold setQ hitW; simp
theorem setQ_four {W T : Int} {xs : List Bool} {L : List Int} {i : Nat} (h : i < L.length) (k : Nat) : setQ W T xs L i 4 k = setP W T xs L (i + 1) k := by
  unfold setQ setP
  rw [List.take_succ_eq_append_getElem h, List.any_append]
  have e : L.getD i 0 = L[i] := by rw [List.getD_eq_getElem?_getD, List.getElem?_eq_getElem h, Option.getD_some]
  rw [e]
  cases xs.getD k false <;> simp
theorem setQ_no {W T : Int} {xs : List Bool} {L : List Int} {i j : Nat} (h : cellB W T xs.length (L.getD i 0) ((j : Int) + 1) < 0) (k : Nat) : setQ W T xs L i (j + 1) k = setQ W T xs L i j k := by
  unfold setQ; rw [hitW_succ]
  have : (cellB W T xs.length (L.getD i 0) ((j : Int) + 1) == (k : Int)) = false := by rw [beq_eq_false_iff_ne]; omega
  rw [this, Bool.or_false]
theorem setQ_out {W T : Int} {xs : List Bool} {L : List Int} {i j o : Nat} (h : cellB W T xs.length (L.getD i 0) ((j : Int) + 1) = o) (ho : xs.getD o false = false) (k : Nat) : setQ W T xs L i (j + 1) k = setQ W T xs L i j k := by
  unfold setQ; rw [hitW_succ, h]
  by_cases e : o = k
  · subst e; rw [ho]; simp
  · have : ((o : Int) == (k : Int)) = false := by rw [beq_eq_false_iff_ne]; omega
    rw [this, Bool.or_false]
theorem setQ_in {W T : Int} {xs : List Bool} {L : List Int} {i j o : Nat} (h : cellB W T xs.length (L.getD i 0) ((j : Int) + 1) = o) (ho : xs.getD o false = true) (k : Nat) : setQ W T xs L i (j + 1) k = (setQ W T xs L i j k || decide (o = k)) := by
  unfold setQ; rw [hitW_succ, h]
  by_cases e : o = k
  · subst e; rw [ho]; simp
  · have : ((o : Int) == (k : Int)) = false := by rw [beq_eq_false_iff_ne]; omega
    rw [this]; simp [e]

/-- A number whose bits tell a set of cells. -/
def Bits (n S : Nat) (p : Nat → Bool) : Prop := S < 2 ^ n ∧ ∀ k, S.testBit k = p k
theorem Bits.zero (n : Nat) {p : Nat → Bool} (h : ∀ k, p k = false) : Bits n 0 p := ⟨Nat.two_pow_pos n, fun k => by rw [h]; simp⟩
theorem Bits.congr {n S : Nat} {p q : Nat → Bool} (h : Bits n S p) (e : ∀ k, q k = p k) : Bits n S q := ⟨h.1, fun k => by rw [e]; exact h.2 k⟩
theorem Bits.or {n S o : Nat} {p q : Nat → Bool} (h : Bits n S p) (ho : o < n) (e : ∀ k, q k = (p k || decide (o = k))) : Bits n (S ||| 2 ^ o) q :=
  ⟨Nat.or_lt_two_pow h.1 (Nat.pow_lt_pow_right (by omega) ho), fun k => by rw [Nat.testBit_or, Nat.testBit_two_pow, h.2 k, e]⟩

theorem ofInt_64 {a : Nat} (ha : a < 2 ^ 64) : (BitVec.ofInt 64 (a : Int)).toNat = a := by
  rw [BitVec.ofInt_natCast, BitVec.toNat_ofNat]; exact Nat.mod_eq_of_lt ha
theorem wrap_u64 {a : Nat} (ha : a < 2 ^ 64) : IntKind.u64.wrap (a : Int) = a := by
  simp [IntKind.wrap, IntKind.signed, IntKind.bits]; omega
theorem or_u64 {a b : Nat} (ha : a < 2 ^ 64) (hb : b < 2 ^ 64) : bits .or .u64 (a : Int) (b : Int) = ((a ||| b : Nat) : Int) := by
  show IntKind.u64.wrap ((BitVec.ofInt 64 (a : Int) ||| BitVec.ofInt 64 (b : Int)).toNat : Int) = _
  rw [BitVec.toNat_or, ofInt_64 ha, ofInt_64 hb]
  exact wrap_u64 (Nat.or_lt_two_pow ha hb)
theorem and_u64 {a : Nat} (ha : a < 2 ^ 64) : bits .and .u64 (a : Int) 1 = ((a % 2 : Nat) : Int) := by
  show IntKind.u64.wrap ((BitVec.ofInt 64 (a : Int) &&& BitVec.ofInt 64 ((1 : Nat) : Int)).toNat : Int) = _
  rw [BitVec.toNat_and, ofInt_64 ha, ofInt_64 (by decide), Nat.and_one_is_mod]
  exact wrap_u64 (by omega)
theorem shl_u64 {d : Nat} (hd : d < 64) : IntKind.u64.wrap ((2 : Int) ^ d) = ((2 ^ d : Nat) : Int) := by
  have h : (2 : Nat) ^ d < 2 ^ 64 := Nat.pow_lt_pow_right (by omega) hd
  have := wrap_u64 h
  rw [← this]; congr 1

set_option maxHeartbeats 2000000 in
theorem besideSet_any (W T : Int) (a : Option Addr) (n cap : Nat) (xs : List Bool) (la : Option Addr) (m lcap : Nat) (L : List Int) (w : World) (hn : n = xs.length) (hn' : n ≤ 1048576) (hm : m = L.length) (hm' : m ≤ 1048576) (hW0 : 1 ≤ W) (hW1 : W ≤ 6) (hT0 : 1 ≤ T) (hT1 : T ≤ 6) (hWT : (n : Int) = W * T) (ha : BoolsAt w a xs) (hl : IntsAt w la L) :
    Calls Try.prog 52 #[.agg #[.int .i64 W, .int .i64 T, .slice a n cap], .slice la m lcap] w fun e w' => ∃ S : Nat, e = .returned (.int .u64 S) ∧ Bits n S (setP W T xs L m) ∧ Below w.heap.size w w' := by
  have HN := Lib.hid hn; clear hn
  have HM := Lib.hid hm; clear hm
  have HA := Lib.hid ha; clear ha
  have HL := Lib.hid hl; clear hl
  have pb := (prod_bd (W := W) (T := T) (by omega) (by omega) (by omega) (by omega)).2
  have hW6 : Hid (n ≤ 36) := by
    show n ≤ 36
    have hw : W = 1 ∨ W = 2 ∨ W = 3 ∨ W = 4 ∨ W = 5 ∨ W = 6 := by omega
    rcases hw with rfl | rfl | rfl | rfl | rfl | rfl <;> omega
  have HWT := Lib.hid hWT; clear hWT
  obtain ⟨p0, q0⟩ : (w.alloc (.cells #[.int .i64 W, .int .i64 T, .slice a n cap] 25)).heap[w.heap.size]? = some (.cells #[.int .i64 W, .int .i64 T, .slice a n cap] 25 (0, 0)) ∧ True := ⟨heap_new w _, trivial⟩
  go_enter Try.func52, Try.ntmps52
  go_wp2
  go_loopw [5, 7, 8, 9, 12] (fun s _ _ _ i wr => ∃ (k S : Nat), k ≤ m ∧ i = .int .i64 k ∧ s = .int .u64 S ∧ Bits n S (setP W T xs L k) ∧ wr.heap[w.heap.size]? = some (.cells #[.int .i64 W, .int .i64 T, .slice a n cap] 25 (0, 0)) ∧ Below w.heap.size w wr) (fun _ _ _ _ i _ => m - (intOf i).toNat)
  case atStart => exact ⟨0, 0, Nat.zero_le _, rfl, rfl, Bits.zero _ (fun k => by simp [setP]), p0, below1 _ _⟩
  case round =>
    rename World => wo
    obtain ⟨k, S, hk, rfl, rfl, hbits, pr, hbel⟩ := hrel
    have HBI := Lib.hid hbits; clear hbits
    have BEL := Lib.hid hbel; clear hbel
    have l1 := heap_lt pr
    by_cases hlt : k < m
    · have e1 : (k : Int) < m := by omega
      obtain ⟨b, off, rfl, hc⟩ := (HL.out.below BEL.out) k (by rw [← HM.out]; exact hlt)
      obtain ⟨c, hcc⟩ : ∃ c, c = L.getD k 0 := ⟨_, rfl⟩
      rw [← hcc] at hc
      have HC := Lib.hid hcc; clear hcc
      go_wp2_with fail
      go_loopw [5, 8, 9] (fun s i _ wr => ∃ (j S : Nat), j ≤ 4 ∧ i = .int .i64 ((j : Int) + 1) ∧ s = .int .u64 S ∧ Bits n S (setQ W T xs L k j) ∧ wr.heap[w.heap.size]? = some (.cells #[.int .i64 W, .int .i64 T, .slice a n cap] 25 (0, 0)) ∧ Below w.heap.size w wr) (fun _ i _ _ => 5 - (intOf i).toNat)
      case atStart => exact ⟨0, S, Nat.zero_le _, rfl, rfl, HBI.out.congr (setQ_zero W T xs L k), pr, BEL.out⟩
      case round =>
        clear BEL HBI pr l1
        rename World => wq
        obtain ⟨j, S, hj, rfl, rfl, hbits, pr, hbel⟩ := hrel
        have HBI := Lib.hid hbits; clear hbits
        have BEL := Lib.hid hbel; clear hbel
        obtain ⟨c0, c1, c2⟩ := cells3 pr
        have l1 := heap_lt pr
        by_cases hj4 : j < 4
        · have j1 : (j : Int) + 1 ≤ 4 := by omega
          have j2 : ((j + 1 : Nat) : Int) = (j : Int) + 1 := by omega
          go_wp2_with fail
          refine (cellBeside_any W T a n cap c _ _ hW0 hW1 hT0 hT1 HWT.out).mono ?_; rintro e w2 ⟨rfl, hb2⟩
          have p2 := heap_later pr hb2
          have B2 := Lib.hid (below_seq BEL.out hb2)
          clear hb2 c0 c1 c2 pr l1
          obtain ⟨c0, c1, c2⟩ := cells3 p2
          have l2 := heap_lt p2
          obtain ⟨v, hv⟩ : ∃ v, v = cellB W T n c ((j : Int) + 1) := ⟨_, rfl⟩
          rw [← hv]
          have hcb : v < 0 ∨ 0 ≤ v ∧ v < n := by
            rw [hv]; unfold cellB
            split
            · rename_i h
              rcases step_bd (W := W) (T := T) (k := c) (way := (j : Int) + 1) hW0 h.1 (by rw [← HWT.out]; exact h.2) with h' | h'
              · left; rw [h']; decide
              · right; rw [HWT.out]; exact h'
            · left; decide
          rw [HN.out, HC.out] at hv
          rcases hcb with hneg | ⟨h0, h1⟩
          · have HQ := Lib.hid (HBI.out.congr (setQ_no (W := W) (T := T) (xs := xs) (L := L) (i := k) (j := j) (by rw [← hv]; exact hneg)))
            clear hv
            go_wp2
            go_roundw
            case rel => exact ⟨j + 1, S, by omega, by go_num, rfl, HQ.out, p2, B2.out⟩
            case measure => simp [intOf]; omega
          · obtain ⟨o, rfl⟩ := Int.eq_ofNat_of_zero_le h0
            have hon : o < n := by omega
            obtain ⟨ab, ao, rfl, hcx⟩ := (HA.out.below B2.out) o (by rw [← HN.out]; exact hon)
            cases hx : xs.getD o false
            · rw [hx] at hcx
              have HQ := Lib.hid (HBI.out.congr (setQ_out (W := W) (T := T) (xs := xs) (L := L) (i := k) (j := j) hv.symm hx))
              clear hv hx
              go_wp2
              go_roundw
              case rel => exact ⟨j + 1, S, by omega, by go_num, rfl, HQ.out, p2, B2.out⟩
              case measure => simp [intOf]; omega
            · rw [hx] at hcx
              have HQ := Lib.hid (HBI.out.or hon (setQ_in (W := W) (T := T) (xs := xs) (L := L) (i := k) (j := j) hv.symm hx))
              clear hv hx
              have h64 : (2 : Nat) ^ n ≤ 2 ^ 64 := Nat.pow_le_pow_right (by decide) (by have := hW6.out; omega)
              have hor := or_u64 (a := S) (b := 2 ^ o) (by have := HBI.out.1; omega) (Nat.pow_lt_pow_right (by decide) (by have := hW6.out; omega))
              have hsh := shl_u64 (d := o) (by have := hW6.out; omega)
              have o64 : min o 64 = o := by have := hW6.out; omega
              have HORR := Lib.hid hor; clear hor h64
              have hpw : ((2 : Int) ^ o) = ((2 ^ o : Nat) : Int) := by simp
              have HPW := Lib.hid hpw; clear hpw
              go_wp2
              go_roundw
              case rel => exact ⟨j + 1, S ||| 2 ^ o, by omega, by go_num, by first | rw [HORR.out] | rw [HPW.out, HORR.out], HQ.out, p2, B2.out⟩
              case measure => simp [intOf]; omega
        · obtain rfl : j = 4 := by omega
          have HQ := Lib.hid (HBI.out.congr (fun q => (setQ_four (W := W) (T := T) (xs := xs) (L := L) (i := k) (by rw [← HM.out]; exact hlt) q).symm))
          go_wp2
          go_roundw
          case rel => exact ⟨k + 1, S, by omega, by go_num, rfl, HQ.out, pr, BEL.out⟩
          case measure => simp [intOf]; omega
    · obtain rfl : k = m := by omega
      go_wp2
      go_ret
      exact ⟨S, rfl, HBI.out, BEL.out⟩

set_option maxHeartbeats 1000000 in
theorem l1Has_any (a : Option Addr) (n cap : Nat) (L : List Int) (v : Int) (w : World) (hn : n = L.length) (hn' : n ≤ 1048576) (ha : IntsAt w a L) :
    Calls Try.prog 56 #[.slice a n cap, .int .i64 v] w fun e w' => e = .returned (.bool (L.contains v)) ∧ w' = w := by
  have HN := Lib.hid hn; clear hn
  have HA := Lib.hid ha; clear ha
  obtain ⟨B, hB⟩ : ∃ B, B = L.contains v := ⟨_, rfl⟩
  rw [← hB]
  have HB := Lib.hid hB; clear hB
  go_enter Try.func56, Try.ntmps56
  go_wp2
  go_loop [5] (fun i => ∃ k : Nat, k ≤ n ∧ i = .int .i64 k ∧ (L.take k).contains v = false) (fun i => n - (intOf i).toNat)
  case atStart => exact ⟨0, Nat.zero_le _, rfl, by simp⟩
  case round =>
    obtain ⟨k, hk, rfl, hno⟩ := hrel
    by_cases hlt : k < n
    · have hkl : k < L.length := by rw [← HN.out]; exact hlt
      obtain ⟨b, off, rfl, hc⟩ := HA.out k hkl
      obtain ⟨u, hu⟩ : ∃ u, u = L.getD k 0 := ⟨_, rfl⟩
      rw [← hu] at hc
      have hel : L[k] = u := by rw [hu, List.getD_eq_getElem?_getD, List.getElem?_eq_getElem hkl, Option.getD_some]
      have HEL := Lib.hid hel; clear hel hu
      have HNO := Lib.hid hno; clear hno
      have e1 : (k : Int) < n := by omega
      have e0 : (0 : Int) ≤ k := by omega
      by_cases huv : u = v
      · subst huv
        have hh : L.contains u = true := by rw [List.contains_iff_mem, ← HEL.out]; exact List.getElem_mem hkl
        have HH := Lib.hid hh; clear hh
        have hvv : (u == u) = true := by simp
        go_wp2
        go_ret
        exact ⟨ret_bool (by rw [HB.out, HH.out]), rfl⟩
      · have hvv : (u == v) = false := by simpa using huv
        have hh : (L.take (k + 1)).contains v = false := by
          rw [List.take_succ_eq_append_getElem hkl, HEL.out]
          have h1 := HNO.out
          rw [Bool.eq_false_iff] at h1 ⊢
          intro h
          rw [List.contains_iff_mem, List.mem_append, List.mem_singleton] at h
          rcases h with h | h
          · exact h1 (List.contains_iff_mem.2 h)
          · exact huv h.symm
        have HH := Lib.hid hh; clear hh huv
        go_wp2
        go_round
        case rel => exact ⟨k + 1, by omega, by go_num, HH.out⟩
        case measure => simp [intOf]; omega
    · obtain rfl : k = n := by omega
      have hh : L.contains v = false := by rw [← hno, HN.out, List.take_length]
      have HH := Lib.hid hh; clear hh hno
      go_wp2
      go_ret
      exact ⟨ret_bool (by rw [HB.out, HH.out]), rfl⟩

set_option maxHeartbeats 1000000 in
theorem hasInt_any (a : Option Addr) (n cap : Nat) (L : List Int) (v : Int) (w : World) (hn : n = L.length) (hn' : n ≤ 1048576) (ha : IntsAt w a L) :
    Calls Try.prog 20 #[.slice a n cap, .int .i64 v] w fun e w' => e = .returned (.bool (L.contains v)) ∧ w' = w := by
  have HN := Lib.hid hn; clear hn
  have HA := Lib.hid ha; clear ha
  obtain ⟨B, hB⟩ : ∃ B, B = L.contains v := ⟨_, rfl⟩
  rw [← hB]
  have HB := Lib.hid hB; clear hB
  go_enter Try.func20, Try.ntmps20
  go_wp2
  go_loop [5] (fun i => ∃ k : Nat, k ≤ n ∧ i = .int .i64 k ∧ (L.take k).contains v = false) (fun i => n - (intOf i).toNat)
  case atStart => exact ⟨0, Nat.zero_le _, rfl, by simp⟩
  case round =>
    obtain ⟨k, hk, rfl, hno⟩ := hrel
    by_cases hlt : k < n
    · have hkl : k < L.length := by rw [← HN.out]; exact hlt
      obtain ⟨b, off, rfl, hc⟩ := HA.out k hkl
      obtain ⟨u, hu⟩ : ∃ u, u = L.getD k 0 := ⟨_, rfl⟩
      rw [← hu] at hc
      have hel : L[k] = u := by rw [hu, List.getD_eq_getElem?_getD, List.getElem?_eq_getElem hkl, Option.getD_some]
      have HEL := Lib.hid hel; clear hel hu
      have HNO := Lib.hid hno; clear hno
      have e1 : (k : Int) < n := by omega
      have e0 : (0 : Int) ≤ k := by omega
      by_cases huv : u = v
      · subst huv
        have hh : L.contains u = true := by rw [List.contains_iff_mem, ← HEL.out]; exact List.getElem_mem hkl
        have HH := Lib.hid hh; clear hh
        have hvv : (u == u) = true := by simp
        go_wp2
        go_ret
        exact ⟨ret_bool (by rw [HB.out, HH.out]), rfl⟩
      · have hvv : (u == v) = false := by simpa using huv
        have hh : (L.take (k + 1)).contains v = false := by
          rw [List.take_succ_eq_append_getElem hkl, HEL.out]
          have h1 := HNO.out
          rw [Bool.eq_false_iff] at h1 ⊢
          intro h
          rw [List.contains_iff_mem, List.mem_append, List.mem_singleton] at h
          rcases h with h | h
          · exact h1 (List.contains_iff_mem.2 h)
          · exact huv h.symm
        have HH := Lib.hid hh; clear hh huv
        go_wp2
        go_round
        case rel => exact ⟨k + 1, by omega, by go_num, HH.out⟩
        case measure => simp [intOf]; omega
    · obtain rfl : k = n := by omega
      have hh : L.contains v = false := by rw [← hno, HN.out, List.take_length]
      have HH := Lib.hid hh; clear hh hno
      go_wp2
      go_ret
      exact ⟨ret_bool (by rw [HB.out, HH.out]), rfl⟩

/-- Whether one of the first j directions leads from a cell to one of some cells. -/
def nearB (W T : Int) (L : List Int) (k j : Nat) : Bool := (List.range j).any fun (d : Nat) => decide (0 ≤ stepI W T k ((d : Int) + 1)) && L.contains (stepI W T k ((d : Int) + 1))
theorem nearB_succ (W T : Int) (L : List Int) (k j : Nat) : nearB W T L k (j + 1) = (nearB W T L k j || (decide (0 ≤ stepI W T k ((j : Int) + 1)) && L.contains (stepI W T k ((j : Int) + 1)))) := by
  unfold nearB; rw [List.range_succ, List.any_append]; simp
def besK (W T : Int) (xs : List Bool) (L : List Int) (k : Nat) : List Int := ((List.range k).filter fun i => xs.getD i false && nearB W T L i 4).map fun (i : Nat) => (i : Int)
def besF (W T : Int) (xs : List Bool) (L : List Int) : List Int := if rv W T xs then besK W T xs L xs.length else []
theorem besK_yes {W T : Int} {xs : List Bool} {L : List Int} {k : Nat} (h : (xs.getD k false && nearB W T L k 4) = true) : besK W T xs L (k + 1) = besK W T xs L k ++ [(k : Int)] := by
  unfold besK; rw [List.range_succ, List.filter_append, List.map_append]; simp only [List.filter_cons, h]; simp
theorem besK_no {W T : Int} {xs : List Bool} {L : List Int} {k : Nat} (h : (xs.getD k false && nearB W T L k 4) = false) : besK W T xs L (k + 1) = besK W T xs L k := by
  unfold besK; rw [List.range_succ, List.filter_append, List.map_append]; simp only [List.filter_cons, h]; simp
theorem besK_le (W T : Int) (xs : List Bool) (L : List Int) (k : Nat) : (besK W T xs L k).length ≤ k := by
  unfold besK; rw [List.length_map]; have := List.length_filter_le (fun i => xs.getD i false && nearB W T L i 4) (List.range k); rw [List.length_range] at this; exact this
theorem besF_le (W T : Int) (xs : List Bool) (L : List Int) : (besF W T xs L).length ≤ xs.length := by
  unfold besF; split
  · exact besK_le _ _ _ _ _
  · simp

theorem st_back {W T k way : Int} (hW : 1 ≤ W) (hW6 : W ≤ 6) (hk : 0 ≤ k) (hk1 : k < W * T) (hway : 0 ≤ way ∧ way ≤ 5) (h : 0 ≤ stepI W T k way) : stepI W T (stepI W T k way) (backI way) = k := by
  have hok := stepI_edge (W := W) (T := T) (k := k) (way := way) (by omega)
  have hb := step_bd (W := W) (T := T) (k := k) (way := way) hW hk hk1
  simp only [okOf, decide_eq_true_eq] at hok
  have hw : way = 1 ∨ way = 2 ∨ way = 3 ∨ way = 4 := by omega
  have hWs : W = 1 ∨ W = 2 ∨ W = 3 ∨ W = 4 ∨ W = 5 ∨ W = 6 := by omega
  rcases hWs with rfl | rfl | rfl | rfl | rfl | rfl <;> rcases hw with rfl | rfl | rfl | rfl
  all_goals (simp only [stepI, backI] at h hb ⊢)
  all_goals (try simp at h hb ⊢)
  all_goals (split at h <;> first | omega | (simp_all; done) | (simp_all <;> omega))

theorem any4 {p : Nat → Bool} : ((List.range 4).any p) = true ↔ ∃ d, d < 4 ∧ p d = true := by
  simp [List.any_eq_true]
/-- A cell is beside another one exactly if this is beside it. -/
theorem beside_iff {W T : Int} {n k : Nat} {c : Int} (hW : 1 ≤ W) (hW6 : W ≤ 6) (hWT : (n : Int) = W * T) (hk : k < n) : (hitW W T n c 4 k = true) ↔ ∃ d : Nat, d < 4 ∧ 0 ≤ stepI W T k ((d : Int) + 1) ∧ stepI W T k ((d : Int) + 1) = c := by
  unfold hitW
  rw [any4]
  constructor
  · rintro ⟨d, hd, h⟩
    rw [beq_iff_eq] at h
    unfold cellB at h
    split at h
    · rename_i hc
      have hb := st_back (T := T) hW hW6 hc.1 (by rw [← hWT]; exact hc.2) (way := (d : Int) + 1) ⟨by omega, by omega⟩ (by rw [h]; omega)
      rw [h] at hb
      obtain ⟨d', hd', e⟩ : ∃ d' : Nat, d' < 4 ∧ backI ((d : Int) + 1) = (d' : Int) + 1 := by
        have : d = 0 ∨ d = 1 ∨ d = 2 ∨ d = 3 := by omega
        rcases this with rfl | rfl | rfl | rfl
        · exact ⟨2, by decide, by decide⟩
        · exact ⟨3, by decide, by decide⟩
        · exact ⟨0, by decide, by decide⟩
        · exact ⟨1, by decide, by decide⟩
      rw [e] at hb
      exact ⟨d', hd', by rw [hb]; exact hc.1, hb⟩
    · omega
  · rintro ⟨d, hd, h0, h⟩
    have hsb := step_bd (W := W) (T := T) (k := (k : Int)) (way := (d : Int) + 1) hW (by omega) (by omega)
    have hb := st_back (T := T) (k := (k : Int)) hW hW6 (by omega) (by omega) (way := (d : Int) + 1) ⟨by omega, by omega⟩ h0
    rw [h] at hb hsb
    obtain ⟨d', hd', e⟩ : ∃ d' : Nat, d' < 4 ∧ backI ((d : Int) + 1) = (d' : Int) + 1 := by
      have : d = 0 ∨ d = 1 ∨ d = 2 ∨ d = 3 := by omega
      rcases this with rfl | rfl | rfl | rfl
      · exact ⟨2, by decide, by decide⟩
      · exact ⟨3, by decide, by decide⟩
      · exact ⟨0, by decide, by decide⟩
      · exact ⟨1, by decide, by decide⟩
    rw [e] at hb
    refine ⟨d', hd', ?_⟩
    rw [beq_iff_eq]
    unfold cellB
    rw [if_pos ⟨by omega, by omega⟩]
    exact hb
theorem near_iff {W T : Int} {L : List Int} {k : Nat} : (nearB W T L k 4 = true) ↔ ∃ d : Nat, d < 4 ∧ 0 ≤ stepI W T k ((d : Int) + 1) ∧ stepI W T k ((d : Int) + 1) ∈ L := by
  unfold nearB
  rw [any4]
  constructor
  · rintro ⟨d, hd, h⟩
    rw [Bool.and_eq_true, decide_eq_true_eq, List.contains_iff_mem] at h
    exact ⟨d, hd, h.1, h.2⟩
  · rintro ⟨d, hd, h0, h⟩
    exact ⟨d, hd, by rw [Bool.and_eq_true, decide_eq_true_eq, List.contains_iff_mem]; exact ⟨h0, h⟩⟩
theorem setP_near {W T : Int} {xs : List Bool} {L : List Int} {k : Nat} (hW : 1 ≤ W) (hW6 : W ≤ 6) (hWT : (xs.length : Int) = W * T) (hk : k < xs.length) : setP W T xs L L.length k = (xs.getD k false && nearB W T L k 4) := by
  unfold setP
  rw [List.take_length]
  congr 1
  apply Bool.eq_iff_iff.2
  rw [List.any_eq_true, near_iff]
  constructor
  · rintro ⟨c, hc, h⟩
    obtain ⟨d, hd, h0, rfl⟩ := (beside_iff hW hW6 hWT hk).1 h
    exact ⟨d, hd, h0, hc⟩
  · rintro ⟨d, hd, h0, h⟩
    exact ⟨_, h, (beside_iff hW hW6 hWT hk).2 ⟨d, hd, h0, rfl⟩⟩

theorem own_nil8 (w : World) {B : Nat} (hB : B ≤ w.heap.size) : OwnsI (w.alloc (.cells #[] 3 (0, 0))) B (.slice (some ⟨w.heap.size, 0, none⟩) 0 0) [] :=
  World.ownsRow_made w #[] 0 hB (Nat.zero_le _) rfl

set_option maxHeartbeats 2000000 in
theorem sCellsBeside_ret (W T : Int) (a : Option Addr) (n cap : Nat) (xs : List Bool) (la : Option Addr) (m lcap : Nat) (L : List Int) (w : World) (hn : n = xs.length) (hn' : n ≤ 1048576) (hm : m = L.length) (hm' : m ≤ 1048576) (ha : BoolsAt w a xs) (hl : IntsAt w la L) :
    Calls Try.prog 24 #[.agg #[.int .i64 W, .int .i64 T, .slice a n cap], .slice la m lcap] w (RetL w (besF W T xs L).length (besF W T xs L)) := by
  have HN := Lib.hid hn; clear hn
  have HM := Lib.hid hm; clear hm
  have HA := Lib.hid ha; clear ha
  have HL := Lib.hid hl; clear hl
  obtain ⟨wA, hwA⟩ : ∃ wA, wA = (w.alloc (.cells #[.int .i64 W, .int .i64 T, .slice a n cap] 25)).alloc (.cells #[] 3 (0, 0)) := ⟨_, rfl⟩
  have pA : wA.heap[w.heap.size]? = some (.cells #[.int .i64 W, .int .i64 T, .slice a n cap] 25 (0, 0)) := by rw [hwA]; exact heap_later (heap_new w _) (below1 _ _)
  have bA : Below w.heap.size w wA := by rw [hwA]; exact below2 _ _ _
  have oA : OwnsI wA (w.heap.size + 1) (.slice (some ⟨w.heap.size + 1, 0, none⟩) 0 0) [] := by
    rw [hwA]; have := own_nil8 (w.alloc (.cells #[.int .i64 W, .int .i64 T, .slice a n cap] 25)) (B := w.heap.size + 1) (by simp); simpa using this
  have HOA := Lib.hid oA; clear oA
  obtain ⟨c0, c1, c2⟩ := cells3 pA
  cases h : rv W T xs
  · have e : besF W T xs L = [] := by unfold besF; rw [h]; rfl
    rw [e]
    have H := Lib.hid h; clear h e
    by_cases hn0 : 0 < n
    · have hn1 : (0 : Int) < n := by omega
      go_enter Try.func24, Try.ntmps24
      go_wp2_with fail
      rw [← hwA]
      clear hwA
      refine wp_loop_rounds 1 ?_
      rw [rounds_succ]
      go_wp2_with fail
      refine (sRegionValid_any _ _ _ _ _ xs _ HN.out hn' (HA.out.below bA)).mono ?_; rintro e w1 ⟨rfl, hb1⟩
      rw [H.out]
      go_wp2
      go_ret
      exact ⟨some ⟨w.heap.size + 1, 0, none⟩, 0, rfl, (HOA.out.below hb1).lower (by omega), below_seq bA hb1⟩
    · obtain rfl : n = 0 := by omega
      go_enter Try.func24, Try.ntmps24
      go_wp2_with fail
      rw [← hwA]
      clear hwA
      refine wp_loop_rounds 1 ?_
      rw [rounds_succ]
      go_wp2
      go_ret
      exact ⟨some ⟨w.heap.size + 1, 0, none⟩, 0, rfl, HOA.out.lower (by omega), bA⟩
  · obtain ⟨v1, v2, v3, v4, v5, _⟩ := rv_true h
    have e : besF W T xs L = besK W T xs L n := by unfold besF; rw [h, if_pos rfl, HN.out]
    rw [e]
    have H := Lib.hid h; clear h e
    have HWT : Hid ((n : Int) = W * T) := by show (n : Int) = _; rw [HN.out]; exact v5
    clear v5
    obtain ⟨i0, hi, hz0, hz1, hz2⟩ := info_parts infoInt
    go_enter Try.func24, Try.ntmps24
    go_wp2_with fail
    rw [← hwA]
    clear hwA c0 c1 c2
    go_loopw [5, 6, 7, 8] (fun v i _ _ wr => ∃ k : Nat, k ≤ n ∧ i = .int .i64 k ∧ OwnsI wr (w.heap.size + 1) v (besK W T xs L k) ∧ wr.heap[w.heap.size]? = some (.cells #[.int .i64 W, .int .i64 T, .slice a n cap] 25 (0, 0)) ∧ Below w.heap.size w wr) (fun _ i _ _ _ => n - (intOf i).toNat)
    case atStart => exact ⟨0, Nat.zero_le _, rfl, HOA.out, pA, bA⟩
    case round =>
      rename World => wo
      obtain ⟨k, hk, rfl, ho, pr, hbel⟩ := hrel
      have HO := Lib.hid ho; clear ho
      have BEL := Lib.hid hbel; clear hbel
      obtain ⟨c0, c1, c2⟩ := cells3 pr
      have l1 := heap_lt pr
      by_cases hlt : k < n
      · have hle := besK_le W T xs L k
        have e1 : (k : Int) < n := by omega
        have e0 : (0 : Int) ≤ k := by omega
        have ekWT : (k : Int) < W * T := by rw [← HWT.out]; exact e1
        go_wp2_with fail
        refine (sRegionValid_any _ _ _ _ _ xs _ HN.out hn' (HA.out.below BEL.out)).mono ?_; rintro e w1 ⟨rfl, hb1⟩
        have p1 := heap_later pr hb1
        have B1 := Lib.hid (below_seq BEL.out hb1)
        have O1 := Lib.hid (HO.out.below hb1)
        rw [H.out]
        clear c0 c1 c2 hb1 pr l1 BEL HO
        go_wp2_with fail
        go_loopw [7, 8] (fun f i wr => ∃ j : Nat, j ≤ 4 ∧ i = .int .i64 ((j : Int) + 1) ∧ f = .bool (nearB W T L k j) ∧ wr.heap[w.heap.size]? = some (.cells #[.int .i64 W, .int .i64 T, .slice a n cap] 25 (0, 0)) ∧ Below w1.heap.size w1 wr) (fun _ i _ => 5 - (intOf i).toNat)
        case atStart => exact ⟨0, Nat.zero_le _, rfl, rfl, p1, Below.refl _ _⟩
        case round =>
          rename World => wq
          obtain ⟨j, hj, rfl, rfl, pr, hbel⟩ := hrel
          have BEL := Lib.hid hbel; clear hbel
          obtain ⟨c0, c1, c2⟩ := cells3 pr
          have l1 := heap_lt pr
          by_cases hj4 : j < 4
          · have j1 : (j : Int) + 1 ≤ 4 := by omega
            have hs := nearB_succ W T L k j
            cases hnj : nearB W T L k j
            · rw [hnj, Bool.false_or] at hs
              have HNJ := Lib.hid hnj; clear hnj
              obtain ⟨v, hv⟩ : ∃ v, v = stepI W T k ((j : Int) + 1) := ⟨_, rfl⟩
              rw [← hv] at hs
              go_wp2_with fail
              refine (l2Step_any W T a n cap k _ _ v1 v2 v3 v4 e0 ekWT).mono ?_; rintro e w2 ⟨rfl, hb2⟩
              rw [← hv]
              have p2 := heap_later pr hb2
              have B2 := Lib.hid (below_seq BEL.out hb2)
              clear hb2 c0 c1 c2 pr l1 BEL
              obtain ⟨c0, c1, c2⟩ := cells3 p2
              have l2 := heap_lt p2
              by_cases hv0 : 0 ≤ v
              · rw [decide_eq_true hv0, Bool.true_and] at hs
                obtain ⟨BB, hBB⟩ : ∃ BB, BB = L.contains v := ⟨_, rfl⟩
                rw [← hBB] at hs
                have HS := Lib.hid hs; clear hs
                go_wp2_with fail
                refine (l2Step_any W T a n cap k _ _ v1 v2 v3 v4 e0 ekWT).mono ?_; rintro e w3 ⟨rfl, hb3⟩
                rw [← hv]
                have p3 := heap_later p2 hb3
                have B3 := Lib.hid (below_seq B2.out hb3)
                clear hb3 c0 c1 c2 p2 l2 B2 hv
                go_wp2_with fail
                refine (l1Has_any _ _ _ L _ _ HM.out hm' (HL.out.below (below_seq B1.out B3.out))).mono ?_; rintro e w4 ⟨rfl, rfl⟩
                rw [← hBB]
                have HBB := Lib.hid hBB; clear hBB
                go_wp2
                go_roundw
                case rel => exact ⟨j + 1, by omega, by go_num, by rw [HS.out], p3, B3.out⟩
                case measure => simp [intOf]; omega
              · rw [decide_eq_false hv0, Bool.false_and] at hs
                have HS := Lib.hid hs; clear hs hv
                go_wp2
                go_roundw
                case rel => exact ⟨j + 1, by omega, by go_num, by rw [HS.out], p2, B2.out⟩
                case measure => simp [intOf]; omega
            · rw [hnj, Bool.true_or] at hs
              have HNJ := Lib.hid hnj; clear hnj
              have HS := Lib.hid hs; clear hs
              go_wp2
              go_roundw
              case rel => exact ⟨j + 1, by omega, by go_num, by rw [HS.out], pr, BEL.out⟩
              case measure => simp [intOf]; omega
          · obtain rfl : j = 4 := by omega
            obtain ⟨ab, ao, rfl, hcx⟩ := (HA.out.below (below_seq B1.out BEL.out)) k (by rw [← HN.out]; exact hlt)
            have BB := Lib.hid (below_seq B1.out BEL.out)
            have O2 := Lib.hid (O1.out.below BEL.out)
            cases hnj : nearB W T L k 4
            · have HNX := Lib.hid (besK_no (W := W) (T := T) (xs := xs) (L := L) (k := k) (by rw [hnj, Bool.and_false]))
              have HNJ := Lib.hid hnj; clear hnj
              go_wp2
              go_roundw
              case rel => exact ⟨k + 1, by omega, by go_num, by rw [HNX.out]; exact O2.out, pr, BB.out⟩
              case measure => simp [intOf]; omega
            · cases hx : xs.getD k false
              · rw [hx] at hcx
                have HNX := Lib.hid (besK_no (W := W) (T := T) (xs := xs) (L := L) (k := k) (by rw [hx]; rfl))
                have HNJ := Lib.hid hnj; clear hnj hx
                go_wp2
                go_roundw
                case rel => exact ⟨k + 1, by omega, by go_num, by rw [HNX.out]; exact O2.out, pr, BB.out⟩
                case measure => simp [intOf]; omega
              · rw [hx] at hcx
                have HNX := Lib.hid (besK_yes (W := W) (T := T) (xs := xs) (L := L) (k := k) (by rw [hx, hnj]; rfl))
                have HNJ := Lib.hid hnj; clear hnj hx
                go_wp2_with (at_builtin; refine wpList_append_own _ rfl _ _ 27 rfl (w.heap.size + 1) 3 i0 (.int .i64 0) 1 8 Try.underlying27 hi hz0 hz1 hz2 rfl (by decide) _ (besK W T xs L k).length ((besK W T xs L k).map (Value.int .i64)) rfl (World.ownsRow.alloc O2.out _) ⟨wq.heap.size, 0, none⟩ 1 1 [.int .i64 k] rfl rfl (new_int _ _) (one_int _) (by unfold maxLen; omega) (by omega) (by simp; omega) ?_; intro v' w8 hown' hgrow _; have p8 := heap_grown (heap_later pr (below1 _ _)) hgrow (O2.out.ownBlock (by omega)); have O8 := Lib.hid (OwnsI.ofRow (xs := besK W T xs L (k + 1)) hown' (by rw [HNX.out]; simp) (by rw [HNX.out]; simp)); have B8 := Lib.hid (below_grown (below_seq BB.out (below1 _ _)) hgrow (Nat.le_refl _) (O2.out.ownAt (by omega))); clear hown' hgrow)
                go_roundw
                case rel => exact ⟨k + 1, by omega, by go_num, O8.out, p8, B8.out⟩
                case measure => simp [intOf]; omega
      · obtain rfl : k = n := by omega
        obtain ⟨a9, cap9, hv⟩ := HO.out.form2
        subst hv
        go_wp2
        go_ret
        exact ⟨a9, cap9, rfl, HO.out.lower (by omega), BEL.out⟩

set_option maxHeartbeats 2000000 in
theorem iCellsBeside_ret (W T : Int) (a : Option Addr) (n cap : Nat) (xs : List Bool) (la : Option Addr) (m lcap : Nat) (L : List Int) (w : World) (hn : n = xs.length) (hn' : n ≤ 1048576) (hm : m = L.length) (hm' : m ≤ 1048576) (ha : BoolsAt w a xs) (hl : IntsAt w la L) :
    Calls Try.prog 19 #[.agg #[.int .i64 W, .int .i64 T, .slice a n cap], .slice la m lcap] w (RetL w (besF W T xs L).length (besF W T xs L)) := by
  have HN := Lib.hid hn; clear hn
  have HM := Lib.hid hm; clear hm
  have HA := Lib.hid ha; clear ha
  have HL := Lib.hid hl; clear hl
  cases h : rv W T xs
  · have e : besF W T xs L = [] := by unfold besF; rw [h]; rfl
    rw [e]
    have H := Lib.hid h; clear h e
    go_enter Try.func19, Try.ntmps19
    go_wp2_with fail
    refine (iRegionValid_any _ _ _ _ _ xs _ HN.out hn' (HA.out.one _)).mono ?_; rintro e w1 ⟨rfl, hb1⟩
    rw [H.out]
    go_wp2
    go_ret
    exact ⟨none, 0, rfl, OwnsI.nil _ _, below_seq (below1 _ _) hb1⟩
  · obtain ⟨v1, v2, v3, v4, v5, _⟩ := rv_true h
    have e : besF W T xs L = besK W T xs L n := by unfold besF; rw [h, if_pos rfl, HN.out]
    rw [e]
    have H := Lib.hid h; clear h e
    have HV := Lib.hid v5
    have HWT : Hid ((n : Int) = W * T) := by show (n : Int) = _; rw [HN.out]; exact v5
    clear v5
    have hn36 : Hid (n ≤ 36) := by
      show n ≤ 36
      have hWT := HWT.out
      have hw : W = 1 ∨ W = 2 ∨ W = 3 ∨ W = 4 ∨ W = 5 ∨ W = 6 := by omega
      rcases hw with rfl | rfl | rfl | rfl | rfl | rfl <;> omega
    obtain ⟨i0, hi, hz0, hz1, hz2⟩ := info_parts infoInt
    go_enter Try.func19, Try.ntmps19
    go_wp2_with fail
    refine (iRegionValid_any _ _ _ _ _ xs _ HN.out hn' (HA.out.one _)).mono ?_; rintro e w1 ⟨rfl, hb1⟩
    rw [H.out]
    have p1 := heap_later (heap_new w (.cells #[.int .i64 W, .int .i64 T, .slice a n cap] 25)) hb1
    have l1 := heap_lt p1
    have b1 := below_seq (below1 _ _) hb1
    clear hb1
    obtain ⟨c0, c1, c2⟩ := cells3 p1
    go_wp2_with fail
    refine (besideSet_any _ _ _ _ _ xs _ _ _ L _ HN.out hn' HM.out hm' v1 v2 v3 v4 HWT.out (HA.out.below b1) (HL.out.below b1)).mono ?_; rintro e w2 ⟨S, rfl, hbits, hb2⟩
    have p2 := heap_later p1 hb2
    have b2 := below_seq b1 hb2
    have HBI := Lib.hid hbits; clear hbits hb2 c0 c1 c2 p1 l1
    obtain ⟨c0, c1, c2⟩ := cells3 p2
    have l2 := heap_lt p2
    have hS64 : S < 2 ^ 64 := Nat.lt_of_lt_of_le HBI.out.1 (Nat.pow_le_pow_right (by decide) (by have := hn36.out; omega))
    have HS64 := Lib.hid hS64; clear hS64
    go_wp2
    clear c0 c1 c2
    go_loopw [5, 7, 17] (fun v _ i wr => ∃ k : Nat, k ≤ n ∧ i = .int .i64 k ∧ OwnsI wr (w.heap.size + 1) v (besK W T xs L k) ∧ w.heap.size < wr.heap.size ∧ Below w.heap.size w wr) (fun _ _ i _ => n - (intOf i).toNat)
    case atStart => exact ⟨0, Nat.zero_le _, rfl, OwnsI.nil _ _, l2, b2⟩
    case round =>
      rename World => wq
      obtain ⟨k, hk, rfl, ho, lq, hbel⟩ := hrel
      have HO := Lib.hid ho; clear ho
      have BEL := Lib.hid hbel; clear hbel
      by_cases hlt : k < n
      · have hle := besK_le W T xs L k
        have e1 : (k : Int) < n := by omega
        have e0 : (0 : Int) ≤ k := by omega
        have k64 : min k 64 = k := by have := hn36.out; omega
        have hp : setP W T xs L m k = (xs.getD k false && nearB W T L k 4) := by rw [HM.out]; exact setP_near v1 v2 HV.out (by rw [← HN.out]; exact hlt)
        have htb := HBI.out.2 k
        rw [hp, Nat.testBit_eq_decide_div_mod_eq] at htb
        have hand : bits .and .u64 ((S : Int) / (2 : Int) ^ k) 1 = ((S / 2 ^ k % 2 : Nat) : Int) := by
          have h1 : ((S : Int) / (2 : Int) ^ k) = ((S / 2 ^ k : Nat) : Int) := by push_cast; rfl
          rw [h1]; exact and_u64 (Nat.lt_of_le_of_lt (Nat.div_le_self _ _) HS64.out)
        cases hb : (xs.getD k false && nearB W T L k 4)
        · have HNX := Lib.hid (besK_no hb)
          rw [hb] at htb
          have hz : S / 2 ^ k % 2 = 0 := by have := of_decide_eq_false htb; omega
          rw [hz] at hand
          have HTB := Lib.hid htb; clear htb hb hz hp
          go_wp2
          go_roundw
          case rel => exact ⟨k + 1, by omega, by go_num, by rw [HNX.out]; exact HO.out, lq, BEL.out⟩
          case measure => simp [intOf]; omega
        · have HNX := Lib.hid (besK_yes hb)
          rw [hb] at htb
          have hz : S / 2 ^ k % 2 = 1 := of_decide_eq_true htb
          rw [hz] at hand
          have HTB := Lib.hid htb; clear htb hb hz hp
          go_wp2_with (at_builtin; refine wpList_append_own _ rfl _ _ 27 rfl (w.heap.size + 1) 3 i0 (.int .i64 0) 1 8 Try.underlying27 hi hz0 hz1 hz2 rfl (by decide) _ (besK W T xs L k).length ((besK W T xs L k).map (Value.int .i64)) rfl (World.ownsRow.alloc HO.out _) ⟨wq.heap.size, 0, none⟩ 1 1 [.int .i64 k] rfl rfl (new_int _ _) (one_int _) (by unfold maxLen; omega) (by omega) (by simp; omega) ?_; intro v' w8 hown' hgrow _; have l8 : w.heap.size < w8.heap.size := (by have := hgrow.size; simp at this; omega); have O8 := Lib.hid (OwnsI.ofRow (xs := besK W T xs L (k + 1)) hown' (by rw [HNX.out]; simp) (by rw [HNX.out]; simp)); have B8 := Lib.hid (below_grown (below_seq BEL.out (below1 _ _)) hgrow (Nat.le_refl _) (HO.out.ownAt (by omega))); clear hown' hgrow)
          go_roundw
          case rel => exact ⟨k + 1, by omega, by go_num, O8.out, l8, B8.out⟩
          case measure => simp [intOf]; omega
      · obtain rfl : k = n := by omega
        obtain ⟨a9, cap9, hv⟩ := HO.out.form2
        subst hv
        go_wp2
        go_ret
        exact ⟨a9, cap9, rfl, HO.out.lower (by omega), BEL.out⟩

end Go.Proofs.Ythlagmnnkckcnaa
