/- Contract of impl.HeightsOk. -/
import Derived.Test.YtpcajacekmidbaaHokI
namespace Go.Proofs.Ytpcajacekmidbaa
open Go.RowKit
set_option linter.unusedVariables false
set_option maxRecDepth 100000
set_option linter.unusedSimpArgs false

/-- Whether heights are right. -/
def hokB (W T : Int) (xs : List Bool) (H : List Int) : Bool :=
  simpleB W T xs && decide ((H.length : Int) = (W + 1) * (T + 1)) && hsMay W T xs H H.length && sdsOk W T xs H H.length && (H.getD (frstK W T xs H.length).toNat 0 == 0)

theorem hsMay_succ (W T : Int) (xs : List Bool) (H : List Int) (k : Nat) : hsMay W T xs H (k + 1) = (hsMay W T xs H k && hMay W T xs k (H.getD k 0)) := by
  unfold hsMay; rw [List.range_succ, List.all_append]; simp
theorem hsMay_zero (W T : Int) (xs : List Bool) (H : List Int) : hsMay W T xs H 0 = true := rfl
theorem hsMay_no {W T : Int} {xs : List Bool} {H : List Int} {k n : Nat} (hk : k < n) (h : hMay W T xs k (H.getD k 0) = false) : hsMay W T xs H n = false := by
  unfold hsMay; rw [List.all_eq_false]; exact ⟨k, List.mem_range.2 hk, by rw [h]; exact Bool.false_ne_true⟩
theorem hsMay_at {W T : Int} {xs : List Bool} {H : List Int} {k n : Nat} (hk : k < n) (h : hsMay W T xs H n = true) : hMay W T xs k (H.getD k 0) = true := by
  unfold hsMay at h; rw [List.all_eq_true] at h; exact h k (List.mem_range.2 hk)
/-- The sides before the i-th one are right. -/
def sdsTo (W T : Int) (xs : List Bool) (H : List Int) (l : List (Nat × Bool)) (i : Nat) : Bool := (l.take i).all fun s => rMay W T xs s.1 s.2 (H.getD (sTo W s.1 s.2).toNat 0 - H.getD s.1 0)
theorem sdsTo_succ {W T : Int} {xs : List Bool} {H : List Int} {l : List (Nat × Bool)} {i : Nat} (hi : i < l.length) : sdsTo W T xs H l (i + 1) = (sdsTo W T xs H l i && rMay W T xs l[i].1 l[i].2 (H.getD (sTo W l[i].1 l[i].2).toNat 0 - H.getD l[i].1 0)) := by
  unfold sdsTo; rw [List.take_succ_eq_append_getElem hi, List.all_append]; simp
theorem sdsTo_all {W T : Int} {xs : List Bool} {H : List Int} {n : Nat} : sdsTo W T xs H (sidesK W T xs n) (sidesK W T xs n).length = sdsOk W T xs H n := by
  rw [Bool.eq_iff_iff, sdsOk_iff]
  unfold sdsTo
  rw [List.take_length, List.all_eq_true]
theorem sdsTo_no {W T : Int} {xs : List Bool} {H : List Int} {n i : Nat} (hi : i < (sidesK W T xs n).length) (h : rMay W T xs (sidesK W T xs n)[i].1 (sidesK W T xs n)[i].2 (H.getD (sTo W (sidesK W T xs n)[i].1 (sidesK W T xs n)[i].2).toNat 0 - H.getD (sidesK W T xs n)[i].1 0) = false) : sdsOk W T xs H n = false := by
  cases hs : sdsOk W T xs H n
  · rfl
  · rw [sdsOk_iff] at hs
    have := hs _ (List.getElem_mem hi)
    rw [h] at this; cases this

theorem flat6 (W T : Int) (xs : List Bool) : ∀ (l : List (Nat × Bool)) (i j : Nat) (hi : i < l.length), j < 6 → (l.flatMap (sdC W T xs))[i * 6 + j]? = (sdC W T xs l[i])[j]?
  | [], i, j, hi, _ => absurd hi (Nat.not_lt_zero _)
  | s :: l, 0, j, _, hj => by
    rw [List.flatMap_cons, List.getElem?_append_left (by simpa [sdC] using hj)]; simp
  | s :: l, i + 1, j, hi, hj => by
    rw [List.flatMap_cons, List.getElem?_append_right (by simp [sdC]; omega)]
    have e : (i + 1) * 6 + j - (sdC W T xs s).length = i * 6 + j := by simp [sdC]; omega
    rw [e]
    exact flat6 W T xs l i j (by simpa using hi) hj
theorem OwnsSd.cellAt {w : World} {B g n cap : Nat} {W T : Int} {xs : List Bool} {l : List (Nat × Bool)} (h : OwnsSd w B (.slice (some ⟨g, 0, none⟩) n cap) W T xs l) {i : Nat} (hi : i < l.length) : ∀ j u, (sdC W T xs l[i])[j]? = some u → w.cell? ⟨g, i * 6 + j, none⟩ = some u := by
  intro j u hu
  have hj : j < 6 := by
    obtain ⟨h1, _⟩ := List.getElem?_eq_some_iff.1 hu
    simpa [sdC] using h1
  have hn : n = l.length := by
    obtain ⟨a, c, e⟩ := OwnsSd.form h
    simp only [Value.slice.injEq] at e; exact e.2.1
  subst hn
  rw [World.ownsRow.cellAt h (i * 6 + j) (by omega), flat6 W T xs l i j hi hj, hu]
theorem OwnsSd.pos {w : World} {B : Nat} {v : Value} {W T : Int} {xs : List Bool} {l : List (Nat × Bool)} (h : OwnsSd w B v W T xs l) (h0 : 0 < l.length) : ∃ g cap, v = .slice (some ⟨g, 0, none⟩) l.length cap := by
  rcases h.2 with ⟨e, h2⟩ | ⟨g, cap, cur, e, _⟩
  · omega
  · exact ⟨g, cap, e⟩
theorem firstCorner_any (g q cap : Nat) (fk : Int) (w : World) (hq : 0 < q) (hq' : q ≤ 100000) (hc : w.cell? ⟨g, 0, none⟩ = some (.int .i64 fk)) :
    Calls Try.prog 173 #[.slice (some ⟨g, 0, none⟩) q cap] w fun e w' => e = .returned (.int .i64 fk) ∧ w' = w := by
  go_enter Try.func173, Try.ntmps173
  go_wp2
  go_ret
  exact ⟨rfl, rfl⟩
/-- A simple region has a cell, and so a first corner. -/
theorem simple_first {W T : Int} {xs : List Bool} (h : simpleB W T xs = true) {N : Nat} (hN : (W + 1) * (T + 1) = (N : Int)) : 0 ≤ frstK W T xs N := by
  have hr := simpleB_rv h
  obtain ⟨v1, v2, v3, v4, v5, _⟩ := rv_true hr
  have hp : partsN W T xs = 1 := by unfold simpleB at h; rw [Bool.and_eq_true, decide_eq_true_eq] at h; exact h.1
  unfold partsN at hp
  rw [hr, if_pos rfl] at hp
  have hpos : 0 < selfN (partsF W T xs) (partsF W T xs).length := by omega
  unfold selfN at hpos
  rw [List.countP_pos_iff] at hpos
  obtain ⟨i, hi, he⟩ := hpos
  have hi' : i < xs.length := Nat.lt_of_lt_of_le (List.mem_range.1 hi) (partsF_len W T xs)
  have hx : xs.getD i false = true := by
    cases hc : xs.getD i false
    · have hm := marksL_marks xs.length (fun i => xs.getD i false) (adjW W false)
      have := (hm.2 i hi').1 hc
      have e2 : partsF W T xs = marksL xs.length (fun i => xs.getD i false) (adjW W false) := by unfold partsF; rw [hr, if_pos rfl]
      rw [e2] at he
      simp only [beq_iff_eq] at he
      omega
    · rfl
  -- the corner in its south-west
  obtain ⟨m1, m2, m3, m4, m5⟩ := cell_split (W := W) (T := T) (k := (i : Int)) v1 (by omega) (by rw [← v5]; omega)
  obtain ⟨k, hk⟩ := Int.eq_ofNat_of_zero_le (show 0 ≤ (i : Int) / W * (W + 1) + (i : Int) % W by have := Int.mul_nonneg m3 (show 0 ≤ W + 1 by omega); omega)
  have kxe : kx W k = (i : Int) % W := by
    unfold kx
    rw [← hk, Int.add_comm, Int.add_mul_emod_self_right, Int.emod_eq_of_lt m1 (by omega)]
  have kye : ky W k = (i : Int) / W := by
    unfold ky
    rw [← hk, Int.add_comm, Int.add_mul_ediv_right _ _ (by omega), Int.ediv_eq_zero_of_lt m1 (by omega)]; omega
  have hu : sUsed W T xs k false = true := by
    have : sLeft W T xs k false = true := by
      unfold sLeft sLx
      rw [if_neg (by simp), kxe, kye]
      unfold atB inF
      rw [decide_eq_true ⟨m1, m2, m3, m4⟩, m5, Int.toNat_natCast, hx]; rfl
    unfold sUsed; rw [this]; rfl
  have hkN : k < N := by have := sTo_lt v1 hu; omega
  unfold frstK
  cases hf : (List.range N).find? fun k => sUsed W T xs k false || sUsed W T xs k true with
  | none =>
    rw [List.find?_eq_none] at hf
    have := hf k (List.mem_range.2 hkN)
    simp [hu] at this
  | some j => simp
theorem rise_one (W : Int) (k : Nat) (nth : Bool) : sRise W k nth = 1 ∨ sRise W k nth = -1 := by unfold sRise; split <;> simp
theorem inB_rng {v : Int} (h : inB v (-60) 60 = true) : -60 ≤ v ∧ v ≤ 60 := by simpa [inB] using h

end Go.Proofs.Ytpcajacekmidbaa
