/- Contracts of laws.before and laws.ascend, where the answer is yes. -/
import Derived.Test.YtpcajacekmidbaaGreatKBnd
namespace Go.Proofs.YtpcajacekmidbaaGreat
open Go.RowKit
set_option linter.unusedVariables false
set_option maxRecDepth 100000
set_option linter.unusedSimpArgs false

end Go.Proofs.YtpcajacekmidbaaGreat

namespace Go.Proofs.YtpcajacekmidbaaGreat
open Go.RowKit Go.Shelf
set_option linter.unusedVariables false
set_option maxRecDepth 100000
set_option linter.unusedSimpArgs false
attribute [local go_sem] Oper.semAt_some

def ItPost (J Jx : List (List Int) → World → Prop) (pre all : List (List Int)) (b : Bool) (W' : World) : Prop :=
 (b = true → J (pre ++ all) W') ∧ (b = false → ∃ q, q <+: all ∧ q ≠ [] ∧ Jx (pre ++ q) W')

end Go.Proofs.YtpcajacekmidbaaGreat

namespace Go.Proofs.YtpcajacekmidbaaGreat
open Go.RowKit Go.Shelf
set_option linter.unusedVariables false
set_option maxRecDepth 100000
set_option linter.unusedSimpArgs false

def ItInv (lo : Nat) (J : Nat → List (List Int) → World → Prop) : Prop :=
 ∀ hi pre A D row, J hi pre A → A.grownBy D row → (∀ r, row = some r → lo ≤ r ∧ r < hi) → J hi pre D

def SeqIt (P : Program) (g : Nat) (lb : Array Value) (S0 : Nat → Prop) (all : List (List Int)) (ok : List Int → Prop) (w0 : World) : Prop :=
 ∀ (d l : Nat) (J Jx : Nat → List (List Int) → World → Prop) (W1 : World), Below w0.heap.size w0 W1 → ItInv W1.heap.size J → ItInv W1.heap.size Jx →
  (∀ W2, Below W1.heap.size W1 W2 → J W2.heap.size [] W2) →
  (∀ m hi pre M A A' v, J hi pre A → W1.heap.size ≤ hi → hi ≤ A.heap.size → Below A.heap.size A A' → OwnsI A' A.heap.size v M → ok M → pre.length < all.length → YieldAt Fence.wide m P l #[v] A' fun e W' =>
    ∃ b : Bool, e = .returned (.bool b) ∧ ItPost (J hi) (Jx hi) pre [M] b W' ∧ ItKeeps (fun k => S0 k ∨ W1.heap.size ≤ k ∧ k < hi) A' W') →
  CallsIn Fence.wide d P g (#[.func (.yield l) #[] #[]] ++ lb) W1 fun e W' => (∃ v, e = .returned v) ∧ ∃ hi b, W1.heap.size ≤ hi ∧ hi ≤ W'.heap.size ∧ ItPost (J hi) (Jx hi) [] all b W'

theorem SeqIt.later {P : Program} {g : Nat} {lb : Array Value} {S0 : Nat → Prop} {all : List (List Int)} {ok : List Int → Prop} {w w' : World} (h : SeqIt P g lb S0 all ok w) (hb : Below w.heap.size w w') : SeqIt P g lb S0 all ok w' :=
 fun d l J Jx W1 h1 => h d l J Jx W1 (below_seq hb h1)

end Go.Proofs.YtpcajacekmidbaaGreat

namespace Go.Proofs.YtpcajacekmidbaaGreat
open Go.RowKit Go.Shelf
set_option linter.unusedVariables false
set_option maxRecDepth 100000
set_option linter.unusedSimpArgs false
attribute [local go_sem] Oper.semAt_some

end Go.Proofs.YtpcajacekmidbaaGreat

namespace Go.Proofs.YtpcajacekmidbaaGreat
open Go.RowKit
set_option linter.unusedVariables false
set_option maxRecDepth 100000
set_option linter.unusedSimpArgs false

theorem filter_two : ∀ (l : List Int) (p q : Int → Bool), (∀ c ∈ l, p c = !q c) → (l.filter p).length + (l.filter q).length = l.length
 | [], _, _, _ => rfl
 | a :: l, p, q, h => by
   have ih := filter_two l p q (fun c hc => h c (by simp [hc]))
   have ha := h a (by simp)
   simp only [List.filter_cons]
   cases hq : q a
   · rw [hq] at ha
     rw [ha]
     simp only [Bool.not_false, if_true, Bool.false_eq_true, if_false, List.length_cons]
     omega
   · rw [hq] at ha
     rw [ha]
     simp only [Bool.not_true, if_true, Bool.false_eq_true, if_false, List.length_cons]
     omega
theorem ways_all {W T : Int} {xs : List Bool} {L : List Int} (hs : simpleB W T xs = true) (ht : tok W T xs L = true) : (downF 4 W T xs L).length + (downF (-4) W T xs L).length = (flipsF W T xs L).length := by
 unfold downF
 refine filter_two _ _ _ (fun c hc => ?_)
 unfold flipsF at hc
 rw [tok_lok1 ht, if_pos rfl] at hc
 unfold flipsL flipsK at hc
 rw [List.mem_map] at hc
 obtain ⟨j, hj, rfl⟩ := hc
 rw [List.mem_filter] at hj
 unfold riseF flipD
 rw [hs, ht, hj.2]
 simp only [Bool.and_self, if_true]
 split <;> decide
theorem range_asc (N : Nat) (p : Nat → Bool) : (((List.range N).filter p).map fun j : Nat => (j : Int)).Pairwise (· < ·) := by
 rw [List.pairwise_map]
 exact (List.pairwise_lt_range.filter p).imp (fun h => by omega)
theorem downF_asc (r W T : Int) (xs : List Bool) (L : List Int) : ∀ j, j + 1 < (downF r W T xs L).length → (downF r W T xs L).getD j 0 < (downF r W T xs L).getD (j + 1) 0 := by
 have hp : (downF r W T xs L).Pairwise (· < ·) := by
  unfold downF flipsF
  split
  · unfold flipsL flipsK
    exact (range_asc _ _).filter _
  · simp
 intro j hj
 have := (List.pairwise_iff_getElem.1 hp) j (j + 1) (by omega) hj (by omega)
 rw [List.getD_eq_getElem?_getD, List.getD_eq_getElem?_getD, List.getElem?_eq_getElem (by omega), List.getElem?_eq_getElem hj]
 exact this
end Go.Proofs.YtpcajacekmidbaaGreat

namespace Go.Proofs.YtpcajacekmidbaaGreat
open Go.RowKit
set_option linter.unusedVariables false
set_option maxRecDepth 100000
set_option linter.unusedSimpArgs false

def RowsAt (w : World) (a : Option Addr) (rows : List (List Int)) : Prop :=
 ∀ i, i < rows.length → ∃ b off a' cap, a = some ⟨b, off, none⟩ ∧ w.cell? ⟨b, off + i, none⟩ = some (.slice a' (rows.getD i []).length cap) ∧ IntsAt w a' (rows.getD i [])
theorem RowsAt.later {w w' : World} {B : Nat} {a : Option Addr} {rows : List (List Int)} (h : RowsAt w a rows) (hb : Below B w w') (hB : w.heap.size ≤ B) : RowsAt w' a rows := by
 intro i hi
 obtain ⟨b, off, a', cap, e, hc, hx⟩ := h i hi
 have hlt := World.block_lt_of_cell? w _ hc
 simp only at hlt
 exact ⟨b, off, a', cap, e, (hb.cell (p := ⟨b, off + i, none⟩) (by show b < B; omega)).trans hc, hx.later hb hB⟩
theorem RowsAt.below {w w' : World} {a : Option Addr} {rows : List (List Int)} (h : RowsAt w a rows) (hb : Below w.heap.size w w') : RowsAt w' a rows := h.later hb (Nat.le_refl _)
theorem RowsAt.one {w : World} {a : Option Addr} {rows : List (List Int)} (h : RowsAt w a rows) (o : Obj) : RowsAt (w.alloc o) a rows := h.below (below1 w o)
theorem own_form {w : World} {B : Nat} {v : Value} {M : List Int} (h : OwnsI w B v M) : ∃ a cap, v = .slice a M.length cap ∧ IntsAt w a M := by
 obtain ⟨a, cap, rfl⟩ := h.form2
 exact ⟨a, cap, rfl, OwnsI.at h⟩
theorem OwnsSS.at {w : World} {B : Nat} {a : Option Addr} {n cap : Nat} {rows : List (List Int)} (h : OwnsSS w B (.slice a n cap) rows) : RowsAt w a rows := by
 obtain ⟨ws, h1, h2⟩ := h
 intro i hi
 obtain ⟨a', cap', e, hx⟩ := own_form (h2.own i hi)
 rcases h1.2 with ⟨_, h0⟩ | ⟨g, cap2, cur, hv, _⟩
 · omega
 · simp only [Value.slice.injEq] at hv
   obtain ⟨rfl, rfl, rfl⟩ := hv
   refine ⟨g, 0, a', cap', rfl, ?_, hx⟩
   have hl : i < ws.length := by rw [h2.len]; exact hi
   rw [Nat.zero_add, World.ownsRow.cellAt (xs := ws) h1 i (by omega)]
   have e2 : ws.getD i (.slice none 0 0) = ws[i] := by simp [List.getD, hl]
   rw [e2] at e
   rw [List.getElem?_eq_getElem hl, e]
theorem RowsAt.cell {w : World} {a : Option Addr} {rows : List (List Int)} (h : RowsAt w a rows) {i : Nat} (hi : i < rows.length) {b off : Nat} (e : a = some ⟨b, off, none⟩) : ∃ a' cap, w.cell? ⟨b, off + i, none⟩ = some (.slice a' (rows.getD i []).length cap) ∧ IntsAt w a' (rows.getD i []) := by
 obtain ⟨b', off', a', cap, e', hc, hx⟩ := h i hi
 rw [e] at e'
 cases e'
 exact ⟨a', cap, hc, hx⟩

end Go.Proofs.YtpcajacekmidbaaGreat

namespace Go.Proofs.YtpcajacekmidbaaGreat
open Go.RowKit
set_option linter.unusedVariables false
set_option maxRecDepth 100000
set_option linter.unusedSimpArgs false

set_option maxHeartbeats 1000000 in
theorem sameInts_any (a b : Option Addr) (n cap cap' : Nat) (xs ys : List Int) (w : World) (hn : n = xs.length) (hm : n = ys.length) (hn' : n ≤ 1048576) (ha : IntsAt w a xs) (hb : IntsAt w b ys) :
 Calls Tryz.prog 8 #[.slice a n cap, .slice b n cap'] w fun e w' => e = .returned (.bool (decide (xs = ys))) ∧ Below w.heap.size w w' := by
 have HN := Lib.hid hn; clear hn
 have HM := Lib.hid hm; clear hm
 have HA := Lib.hid ha; clear ha
 have HB := Lib.hid hb; clear hb
 obtain ⟨d, hd⟩ : ∃ d, decide (xs = ys) = d := ⟨_, rfl⟩
 rw [hd]
 have HD := Lib.hid hd; clear hd
 go_enter Tryz.func8, Tryz.ntmps8
 go_wp2
 go_loopw [5] (fun i wr => ∃ k : Nat, k ≤ n ∧ i = .int .i64 k ∧ (∀ j, j < k → xs.getD j 0 = ys.getD j 0) ∧ ∃ q, wr = w.drewN q) (fun i _ => n - (intOf i).toNat)
 case atStart => exact ⟨0, Nat.zero_le _, rfl, fun j h => absurd h (Nat.not_lt_zero j), 0, rfl⟩
 case round =>
  obtain ⟨k, hk, rfl, hall, q, rfl⟩ := hrel
  have HALL := Lib.hid hall; clear hall
  by_cases hlt : k < n
  · obtain ⟨b1, o1, rfl, hc1⟩ := HA.out k (by rw [← HN.out]; exact hlt)
    obtain ⟨b2, o2, rfl, hc2⟩ := HB.out k (by rw [← HM.out]; exact hlt)
    obtain ⟨x, hx⟩ : ∃ x, x = xs.getD k 0 := ⟨_, rfl⟩
    obtain ⟨y, hy⟩ : ∃ y, y = ys.getD k 0 := ⟨_, rfl⟩
    rw [← hx] at hc1
    rw [← hy] at hc2
    have e1 : (k : Int) < n := by omega
    have e0 : (0 : Int) ≤ k := by omega
    cases hxy : (x != y)
    · have HS : Hid (∀ j, j < k + 1 → xs.getD j 0 = ys.getD j 0) := fun j hj => by
       by_cases e : j = k
       · rw [e, ← hx, ← hy]; simpa using hxy
       · exact HALL.out j (by omega)
      clear hx hy
      go_wp2
      go_big_quiet (fail)
      go_wp2
      go_roundw
      case rel => exact ⟨k + 1, by omega, by go_num, HS.out, _, rfl⟩
      case measure => simp [intOf]; omega
    · have HF : Hid (d = false) := by
       show d = false
       rw [← HD.out]
       simp only [decide_eq_false_iff_not]
       intro e
       rw [e] at hx
       rw [hx, hy] at hxy
       simp at hxy
      clear hx hy
      go_wp2
      go_big_quiet (fail)
      go_wp2
      go_ret
      exact ⟨ret_bool HF.out.symm, below_seq (drewN_below _ _) (drewN_below _ _)⟩
  · obtain rfl : k = n := by omega
    have HT : Hid (d = true) := by
     show d = true
     rw [← HD.out]
     simp only [decide_eq_true_eq]
     exact ext_getD (by rw [← HN.out, ← HM.out]) fun j hj => HALL.out j (by rw [HN.out]; exact hj)
    go_wp2
    go_ret
    exact ⟨ret_bool HT.out.symm, drewN_below _ _⟩

end Go.Proofs.YtpcajacekmidbaaGreat

namespace Go.Proofs.YtpcajacekmidbaaGreat
open Go.RowKit
set_option linter.unusedVariables false
set_option maxRecDepth 100000
set_option linter.unusedSimpArgs false

set_option maxHeartbeats 1000000 in
theorem ascend_yes (a : Option Addr) (n cap : Nat) (xs : List Int) (w : World) (hn : n = xs.length) (hn' : n ≤ 1048576) (ha : IntsAt w a xs) (h : ∀ j, j + 1 < n → xs.getD j 0 < xs.getD (j + 1) 0) :
 Calls Tryz.prog 16 #[.slice a n cap] w fun e w' => e = .returned (.bool true) ∧ Below w.heap.size w w' := by
 have HA := Lib.hid ha; clear ha
 have HN := Lib.hid hn; clear hn
 have HLT := Lib.hid h; clear h
 go_enter Tryz.func16, Tryz.ntmps16
 go_wp2
 go_loopw [3] (fun i wr => ∃ j : Nat, (j + 1 ≤ n ∨ j = 0) ∧ i = .int .i64 (j + 1 : Nat) ∧ ∃ q, wr = w.drewN q) (fun i _ => n + 1 - (intOf i).toNat)
 case atStart => exact ⟨0, Or.inr rfl, rfl, 0, rfl⟩
 case round =>
  obtain ⟨j, hj, rfl, q, rfl⟩ := hrel
  by_cases hlt : j + 1 < n
  · obtain ⟨b1, o1, rfl, hd1⟩ := HA.out j (by rw [← HN.out]; omega)
    have hd2 := HA.out.cellAt (i := j + 1) (by rw [← HN.out]; exact hlt)
    obtain ⟨x, hx⟩ : ∃ x, x = xs.getD j 0 := ⟨_, rfl⟩
    obtain ⟨y, hy⟩ : ∃ y, y = xs.getD (j + 1) 0 := ⟨_, rfl⟩
    have hxy : x < y := by rw [hx, hy]; exact HLT.out j hlt
    rw [← hx] at hd1
    rw [← hy] at hd2
    obtain ⟨i, hi⟩ : ∃ i, i = j + 1 := ⟨_, rfl⟩
    rw [← hi] at hd2 hlt ⊢
    have e1 : (i : Int) < n := by omega
    have e0 : (0 : Int) ≤ i := by omega
    have hge : ¬ (x ≥ y) := by omega
    have hge2 : (decide (x ≥ y)) = false := by simpa using hxy
    have e3 : IntKind.i64.wrap ((i : Int) - 1) = (j : Int) := by rw [IntWalk.i64_in _ (by omega)]; omega
    have e4 : (j : Int) < n := by omega
    have e5 : (0 : Int) ≤ j := by omega
    have HI := Lib.hid hi
    clear hx hy hi
    go_wp2
    go_big_quiet (fail)
    clear e3
    go_wp2
    go_roundw
    case rel => exact ⟨j + 1, Or.inl (by have := HI.out; omega), by have hi := HI.out; subst hi; go_num, _, rfl⟩
    case measure => simp [intOf]; omega
  · go_wp2
    go_ret
    exact ⟨rfl, drewN_below _ _⟩
end Go.Proofs.YtpcajacekmidbaaGreat
