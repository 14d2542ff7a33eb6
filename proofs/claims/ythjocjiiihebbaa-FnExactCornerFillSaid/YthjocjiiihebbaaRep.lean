/- Contracts of math/bits.Mul at one and a small number, and of slices.Repeat at a list of one number. -/
import Derived.Test.YthjocjiiihebbaaInts
import Derived.Laws.CopyOwn
import Derived.Deep.RegionLaw
import Derived.Deep.DeepCutAuto
import Derived.Deep.CutBlock
import Derived.Laws.Bits64b
namespace Go.Proofs.Ythjocjiiihebbaa
open Go.RowKit
set_option linter.unusedVariables false
set_option maxRecDepth 100000
set_option linter.unusedSimpArgs false

set_option maxHeartbeats 1000000 in
theorem mul64_one (n : Nat) (hn : n ≤ 10000) (w : World) :
    Calls Try.prog 105 #[.int .u64 1, .int .u64 n] w fun e w' => e = .returned (.tuple #[.int .u64 0, .int .u64 n]) ∧ w' = w := by
  have e1 : bits .and .u64 (1 : Int) 4294967295 = 1 := by decide
  have e2 : bits .and .u64 (n : Int) 4294967295 = n := by
    have h := bits_and_u64_nat n 4294967295 (by omega) (by omega)
    have e : n &&& 4294967295 = n := by
      rw [show (4294967295 : Nat) = 2 ^ 32 - 1 from rfl, Nat.and_two_pow_sub_one_eq_mod]; omega
    rw [e] at h; exact h
  have e3 : (n : Int) / 4294967296 = 0 := by omega
  go_enter Try.func105, Try.ntmps105
  go_wp2
  go_ret2
  have e4 : IntKind.u64.wrap (IntKind.u64.wrap (bits .and .u64 0 4294967295) / 4294967296) = 0 := by decide
  have e5 : IntKind.u64.wrap (n : Int) = n := by rw [IntKind.wrap_u64]; omega
  exact ⟨by simp [*], rfl⟩

theorem mul_one (n : Nat) (hn : n ≤ 10000) (w : World) :
    Calls Try.prog 85 #[.int .u64 1, .int .u64 n] w fun e w' => e = .returned (.tuple #[.int .u64 0, .int .u64 n]) ∧ w' = w := by
  go_enter Try.func85, Try.ntmps85
  go_wp2_with (go_at_call 105; refine (mul64_one n hn _).mono ?_; rintro e w1 ⟨rfl, rfl⟩)
  go_ret2
  exact ⟨rfl, rfl⟩

/-- The first k cells of a block hold the number z. -/
def RepAt (w : World) (g n k : Nat) (z : Int) : Prop := ∃ cur : List Value, w.heap[g]? = some (.cells cur.toArray 3 (0, 0)) ∧ cur.length = n ∧ k ≤ n ∧ ∀ j, j < k → cur[j]? = some (.int .i64 z)
theorem RepAt.owns {w : World} {B g n : Nat} {z : Int} (h : RepAt w g n n z) (hB : B ≤ g) (hm : n ≤ maxLen) : OwnsI w B (.slice (some ⟨g, 0, none⟩) n n) (List.replicate n z) := by
  obtain ⟨cur, h1, h2, _, h3⟩ := h
  unfold OwnsI World.ownsRow
  have e : cur = (List.replicate n z).map (Value.int .i64) := by
    apply List.ext_getElem?
    intro j
    by_cases hj : j < n
    · rw [h3 j hj]; simp [hj]
    · rw [List.getElem?_eq_none (by omega), List.getElem?_eq_none (by simp; omega)]
  refine ⟨by simp, Or.inr ⟨g, n, cur.toArray, by simp, hB, h1, by simp, hm, by simp [h2], ?_⟩⟩
  rw [← e]; simp [h2, List.take_of_length_le]
theorem RepAt.splice {w : World} {g n k m : Nat} {z : Int} {cur : List Value} (hk : k + m ≤ n) (hl : cur.length = n) (hc : ∀ j, j < k → cur[j]? = some (.int .i64 z))
    (h : w.heap[g]? = some (.cells (Go.splice cur k (List.replicate m (.int .i64 z))).toArray 3 (0, 0))) : RepAt w g n (k + m) z := by
  refine ⟨_, h, by rw [length_splice _ _ _ (by simp; omega), hl], hk, fun j hj => ?_⟩
  unfold Go.splice
  by_cases h1 : j < k
  · rw [List.getElem?_append_left (by simp; omega), List.getElem?_take_of_lt h1, hc j h1]
  · rw [List.getElem?_append_right (by simp; omega), List.getElem?_append_left (by simp; omega)]
    simp only [List.length_take, hl, List.getElem?_replicate]
    rw [if_pos (by omega)]

theorem own_block {w : World} {B g n : Nat} {xs : List Value} (h : w.ownsRow B 3 1 (.slice (some ⟨g, 0, none⟩) n n) n xs) : ∃ cur : List Value, w.heap[g]? = some (.cells cur.toArray 3 (0, 0)) ∧ cur.length = n := by
  rcases h.2 with ⟨h1, _⟩ | ⟨g', cap', cs, hv, hg, hh, hn, hm, hs, ht⟩
  · simp at h1
  · simp only [Value.slice.injEq, Option.some.injEq, Addr.mk.injEq] at hv
    obtain ⟨⟨rfl, _⟩, _, rfl⟩ := hv
    exact ⟨cs.toList, by simpa using hh, by simpa using hs⟩
theorem rep_one (v : Value) (h : v.oneCell' = true) (m : Nat) : ∀ u ∈ List.replicate m v, u.oneCell' = true := fun u hu => by rw [List.eq_of_mem_replicate hu]; exact h
theorem rep_at {w : World} {ad : Addr} {m : Nat} {v : Value} (h : ∀ j, j < m → w.cell? (ad.add j) = some v) : ∀ j u, (List.replicate m v)[j]? = some u → w.cell? (ad.add j) = some u := by
  intro j u hj
  rw [List.getElem?_replicate] at hj
  split at hj
  · rename_i hl; rw [h j hl]; exact hj
  · cases hj
theorem add0 (b off j : Nat) : (⟨b, off, none⟩ : Addr).add j = ⟨b, off + j, none⟩ := by unfold Addr.add; split <;> simp_all
theorem RepAt.cellAt {w : World} {g n k : Nat} {z : Int} (h : RepAt w g n k z) {j : Nat} (hj : j < k) : w.cell? ⟨g, j, none⟩ = some (.int .i64 z) := by
  obtain ⟨cur, h1, h2, _, h3⟩ := h
  have := h3 j hj
  simp [World.cell?, h1, this]

set_option maxHeartbeats 2000000 in
theorem repeat_any (b off c : Nat) (z : Int) (n : Nat) (hn : n ≤ 10000) (w : World) (hz : w.cell? ⟨b, off, none⟩ = some (.int .i64 z)) :
    Calls Try.prog 64 #[.slice (some ⟨b, off, none⟩) 1 c, .int .i64 n] w fun e w' => ∃ g, e = .returned (.slice (some ⟨g, 0, none⟩) n n) ∧ OwnsI w' w.heap.size (.slice (some ⟨g, 0, none⟩) n n) (List.replicate n z) ∧ Below w.heap.size w w' := by
  obtain ⟨i0, hi, hz0, hz1, hz2⟩ := info_parts infoInt
  have hsz : Hid ((Try.prog.info? 3).map (·.size) = some 1) := by show _ = _; rw [hi]; simp [hz1]
  have hbl : b < w.heap.size := by
    rcases Nat.lt_or_ge b w.heap.size with h | h
    · exact h
    · simp [World.cell?, Array.getElem?_eq_none h] at hz
  have HZ := Lib.hid hz; clear hz
  have e0 : ¬ ((n : Int) < 0) := by omega
  have e1 : IntKind.u64.wrap (n : Int) = n := by rw [IntKind.wrap_u64]; omega
  have e2 : ¬ ((9223372036854775807 : Int) < n) := by omega
  obtain ⟨m0, hm0⟩ : ∃ m0, m0 = Nat.min 1 n := ⟨_, rfl⟩
  have hm1 : m0 ≤ n ∧ m0 ≤ 1 ∧ (0 < n → 1 ≤ m0) := by rw [hm0]; exact ⟨Nat.min_le_right _ _, Nat.min_le_left _ _, fun h => by show 1 ≤ min 1 n; omega⟩
  have HM := Lib.hid hm0; clear hm0
  have HM1 := Lib.hid hm1; clear hm1
  have HONE : Hid (∀ w1, Below w.heap.size w w1 → ∀ j, j < m0 → w1.cell? ((⟨b, off, none⟩ : Addr).add j) = some (.int .i64 z)) := by
    intro w1 hb j hj
    have h1 := HM1.out
    have : j = 0 := by omega
    subst this
    rw [add0, (bcell hb).1 _ _ hbl]; exact HZ.out
  go_enter Try.func64, Try.ntmps64
  go_wp2_with first
    | (go_at_call 85; refine (mul_one n hn _).mono ?_; rintro e w1 ⟨rfl, hw⟩; rw [hw]; clear hw)
    | (at_make; refine wpList_make_full _ rfl _ _ 32 rfl w.heap.size 3 i0 (.int .i64 0) 1 Try.underlying32 hi hz0 hz1 _ _ _ _ n rfl rfl rfl rfl (by rw [hz2]; omega) (by unfold maxLen; omega) (by simp) ?_; intro w1 hown hgrow; have hb := grown_below hgrow; obtain ⟨cur, hcur, hlc⟩ := own_block hown; have HC := Lib.hid hcur; have HLC := Lib.hid hlc; clear hown hcur hlc)
    | (refine wpList_copy_splice rfl _ _ _ _ rfl 3 Try.underlying32 hsz.out _ _ _ _ _ _ rfl rfl w.heap.size 0 cur 3 HC.out (List.replicate m0 (.int .i64 z)) (by rw [List.length_replicate]; exact HM.out) (fun hp => ⟨rfl, _, rfl, rep_at (HONE.out _ hb)⟩) (by rw [List.length_replicate, HLC.out]; have h1 := HM1.out; omega) (rep_one _ rfl _) w.heap.size w hb (Nat.le_refl _) ?_; intro w2 HG2 hB2)
    | fail
  have hlr : (List.replicate m0 (Value.int .i64 z)).length = m0 := List.length_replicate
  have R0 : Hid (RepAt w2 w.heap.size n m0 z) := by
    have h1 := HM1.out
    have := RepAt.splice (k := 0) (m := m0) (by omega) HLC.out (fun j hj => absurd hj (Nat.not_lt_zero j)) HG2.out
    rw [Nat.zero_add] at this; exact this
  clear HG2 HC HLC
  go_loopw [8] (fun v8 wr => ∃ k : Nat, v8 = .int .i64 k ∧ (0 < n → 1 ≤ k) ∧ RepAt wr w.heap.size n k z ∧ Below w.heap.size w wr) (fun v8 _ => n - (intOf v8).toNat)
  case atStart => exact ⟨m0, by simp [go_sem], HM1.out.2.2, R0.out, hB2⟩
  case round =>
    clear R0 hB2 HM HM1 hlr
    obtain ⟨k, rfl, hk1, hra, hbl2⟩ := hrel
    rename World => wr
    have hkn : k ≤ n := by obtain ⟨_, _, _, h, _⟩ := hra; exact h
    have HR := Lib.hid hra; clear hra
    have HB := Lib.hid hbl2; clear hbl2
    by_cases hlt : k < n
    · obtain ⟨cur2, hc1, hc2, _, hc4⟩ := HR.out
      have HC1 := Lib.hid hc1; clear hc1
      have HC2 := Lib.hid hc2; clear hc2
      have HC4 := Lib.hid hc4; clear hc4
      obtain ⟨m, hm⟩ : ∃ m, m = Nat.min k (n - k) := ⟨_, rfl⟩
      have hm1 : Hid (m ≤ k ∧ k + m ≤ n ∧ 1 ≤ m) := by
        have : m = min k (n - k) := hm
        refine ⟨?_, ?_, ?_⟩ <;> omega
      have HM := Lib.hid hm; clear hm
      have hk0 : ((k : Int)).toNat = k := by omega
      have hkc : (k : Int) < n := by omega
      have hk2 : (0 : Int) ≤ k := by omega
      have hk3 : (k : Int) ≤ n := by omega
      have hnk : ¬ n = k := by omega
      have s1 : Hid ((List.replicate m (Value.int .i64 z)).length = Nat.min k (n - k)) := by show _ = _; rw [List.length_replicate]; exact HM.out
      have s2 : Hid (0 < (List.replicate m (Value.int .i64 z)).length → some (⟨w.heap.size, k, none⟩ : Addr) = some ⟨w.heap.size, k, none⟩ ∧ ∃ ad, some (⟨w.heap.size, 0, none⟩ : Addr) = some ad ∧ ∀ j v, (List.replicate m (Value.int .i64 z))[j]? = some v → wr.drew.cell? (ad.add j) = some v) :=
        fun _ => ⟨rfl, _, rfl, rep_at fun j hj => by rw [add0, Nat.zero_add]; exact RepAt.cellAt (w := wr.drew) HR.out (by have := hm1.out; omega)⟩
      have s3 : Hid (k + (List.replicate m (Value.int .i64 z)).length ≤ cur2.length) := by show _ ≤ _; rw [List.length_replicate, HC2.out]; exact hm1.out.2.1
      have hlm : (List.replicate m (Value.int .i64 z)).length = m := List.length_replicate
      go_upto_region 9 with fail
      go_region_law (refine step_copy_splice rfl (.tmp 41) (.tmp 44) 32 32 rfl 3 Try.underlying32 hsz.out (some ⟨w.heap.size, k, none⟩) (some ⟨w.heap.size, 0, none⟩) (n - k) (n - k) k n (by simp [Act.eval, Act.put]) (by simp [Act.eval, Act.put]) w.heap.size k cur2 3 HC1.out (List.replicate m (.int .i64 z)) s1.out s2.out s3.out (rep_one _ rfl _) w.heap.size w HB.out.drew (Nat.le_refl _) ?_; intro w4 hg4 hb4)
      have hra := Lib.hid (RepAt.splice hm1.out.2.1 HC2.out HC4.out hg4.out)
      have hm2 := hm1.out
      clear hg4 s1 s2 s3 HC1 HC2 HC4 HR
      have hwr : IntKind.i64.wrap ((k : Int) + (m : Int)) = (k : Int) + (m : Int) := by rw [IntKind.wrap_i64]; omega
      have hnm : IntKind.i64.wrap ((k : Int) + (m : Int)) = ((k + m : Nat) : Int) := by rw [hwr]; omega
      rw [hnm]
      clear hnm hwr
      go_wp2_with fail
      simp [go_sem]
      exact ⟨⟨k + m, by omega, fun h => by omega, hra.out, hb4⟩, by simp only [intOf]; omega⟩
    · obtain rfl : k = n := by omega
      go_wp2
      go_ret
      exact ⟨_, rfl, HR.out.owns (Nat.le_refl _) (by unfold maxLen; omega), HB.out⟩
end Go.Proofs.Ythjocjiiihebbaa
