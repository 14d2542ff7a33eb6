/- Plain facts: right heights are those of exactly one tiling, the one that they tell. -/
import Derived.Test.YtknigcjpgkolgaaKHtsS
import Derived.Test.YtknigcjpgkolgaaKLatM
import Derived.Test.YtknigcjpgkolgaaKTbyI
namespace Go.Proofs.Ytknigcjpgkolgaa
open Go.RowKit
set_option linter.unusedVariables false
set_option maxRecDepth 100000
set_option linter.unusedSimpArgs false

/-- Which way the domino of the cell at a place lies, told by jumps. -/
def wayP (W T : Int) (xs : List Bool) (H : List Int) (x y : Int) : Int :=
  if jmpB W T xs H (cI W x y) false then 4
  else if jmpB W T xs H (cI W (x + 1) y) true then 1
  else if jmpB W T xs H (cI W x (y + 1)) false then 2
  else if jmpB W T xs H (cI W x y) true then 3 else 0
theorem jmpP_all {W T : Int} {xs : List Bool} {H : List Int} (hW : 1 ≤ W) {N : Nat} (hN : (W + 1) * (T + 1) = (N : Int)) : jmpP W T xs H (sidesK W T xs N) = jmpB W T xs H := by
  funext k nth
  unfold jmpP
  cases hj : jmpB W T xs H k nth
  · simp
  · have hb : sBoth W T xs k nth = true := by unfold jmpB at hj; rw [Bool.and_eq_true] at hj; exact hj.1
    have hu : sUsed W T xs k nth = true := by unfold sBoth at hb; unfold sUsed; rw [Bool.and_eq_true] at hb; rw [hb.1]; rfl
    obtain ⟨t0, t1, t2⟩ := sTo_lt hW hu
    have hm : (k, nth) ∈ sidesK W T xs N := sidesK_mem.2 ⟨by omega, hu⟩
    rw [Bool.and_true]
    simpa using hm
theorem tbyL_get {W T : Int} {xs : List Bool} {H : List Int} (hW : 1 ≤ W) {N : Nat} (hN : (W + 1) * (T + 1) = (N : Int)) {c : Nat} (hc : c < xs.length) : (tbyP W T xs H (sidesK W T xs N)).getD c 0 = wayP W T xs H ((c : Int) % W) ((c : Int) / W) := by
  rw [tbyP_get hc, jmpP_all hW hN]; rfl
theorem jmp_south {W T : Int} {xs : List Bool} {H : List Int} {x y : Int} (hx0 : 0 ≤ x) (hx1 : x ≤ W) (hy0 : 0 ≤ y) (h : jmpB W T xs H (cI W x y) false = true) : atB W T xs x y = true ∧ atB W T xs x (y - 1) = true := by
  obtain ⟨p1, p2, p3⟩ := cI_xy hx0 hx1 hy0
  unfold jmpB at h
  rw [Bool.and_eq_true] at h
  have hb := h.1
  unfold sBoth sLeft sRight sLx sRy at hb
  simp only [Bool.false_eq_true, if_false, Bool.and_eq_true, p2, p3] at hb
  exact hb
theorem jmp_west {W T : Int} {xs : List Bool} {H : List Int} {x y : Int} (hx0 : 0 ≤ x) (hx1 : x ≤ W) (hy0 : 0 ≤ y) (h : jmpB W T xs H (cI W x y) true = true) : atB W T xs (x - 1) y = true ∧ atB W T xs x y = true := by
  obtain ⟨p1, p2, p3⟩ := cI_xy hx0 hx1 hy0
  unfold jmpB at h
  rw [Bool.and_eq_true] at h
  have hb := h.1
  unfold sBoth sLeft sRight sLx sRy at hb
  simp only [if_true, Bool.and_eq_true, p2, p3] at hb
  exact hb
/-- The jumps round a cell: exactly one. -/
theorem way_cases {W T : Int} {xs : List Bool} {H : List Int} {N : Nat} (hW : 1 ≤ W) (hN : (W + 1) * (T + 1) = (N : Int)) (hr : sdsOk W T xs H N = true) {x y : Int} (ha : atB W T xs x y = true) :
    1 ≤ wayP W T xs H x y ∧ wayP W T xs H x y ≤ 4 ∧ (wayP W T xs H x y = 4 ↔ jmpB W T xs H (cI W x y) false = true) ∧ (wayP W T xs H x y = 1 ↔ jmpB W T xs H (cI W (x + 1) y) true = true) ∧
    (wayP W T xs H x y = 2 ↔ jmpB W T xs H (cI W x (y + 1)) false = true) ∧ (wayP W T xs H x y = 3 ↔ jmpB W T xs H (cI W x y) true = true) := by
  have h := four_jump hW hN hr ha
  unfold wayP
  generalize jmpB W T xs H (cI W x y) false = a at *
  generalize jmpB W T xs H (cI W (x + 1) y) true = b at *
  generalize jmpB W T xs H (cI W x (y + 1)) false = c at *
  generalize jmpB W T xs H (cI W x y) true = d at *
  cases a <;> cases b <;> cases c <;> cases d <;> simp [b2i] at h ⊢
theorem way_none {W T : Int} {xs : List Bool} {H : List Int} (hW : 1 ≤ W) {x y : Int} (hx0 : 0 ≤ x) (hx1 : x < W) (hy0 : 0 ≤ y) (ha : atB W T xs x y = false) : wayP W T xs H x y = 0 := by
  unfold wayP
  rw [if_neg (fun h => by rw [(jmp_south hx0 (by omega) hy0 h).1] at ha; cases ha)]
  rw [if_neg (fun h => by have := (jmp_west (by omega) (by omega) hy0 h).1; rw [Int.add_sub_cancel, ha] at this; cases this)]
  rw [if_neg (fun h => by have := (jmp_south hx0 (by omega) (by omega) h).2; rw [Int.add_sub_cancel, ha] at this; cases this)]
  rw [if_neg (fun h => by rw [(jmp_west hx0 (by omega) hy0 h).2] at ha; cases ha)]
/-- The way at the other cell of a domino that heights tell. -/
theorem way_next {W T : Int} {xs : List Bool} {H : List Int} {N : Nat} (hW : 1 ≤ W) (hN : (W + 1) * (T + 1) = (N : Int)) (hr : sdsOk W T xs H N = true) {x y : Int} (ha : atB W T xs x y = true) :
    (wayP W T xs H x y = 1 → atB W T xs (x + 1) y = true ∧ wayP W T xs H (x + 1) y = 3) ∧ (wayP W T xs H x y = 2 → atB W T xs x (y + 1) = true ∧ wayP W T xs H x (y + 1) = 4) ∧
    (wayP W T xs H x y = 3 → atB W T xs (x - 1) y = true ∧ wayP W T xs H (x - 1) y = 1) ∧ (wayP W T xs H x y = 4 → atB W T xs x (y - 1) = true ∧ wayP W T xs H x (y - 1) = 2) := by
  obtain ⟨a0, a1, a2, a3⟩ := atB_in ha
  obtain ⟨_, _, c4, c1, c2, c3⟩ := way_cases hW hN hr ha
  refine ⟨fun h => ?_, fun h => ?_, fun h => ?_, fun h => ?_⟩
  · have j := c1.1 h
    have ha' := (jmp_west (by omega) (by omega) a2 j).2
    exact ⟨ha', (way_cases hW hN hr ha').2.2.2.2.2.2 j⟩
  · have j := c2.1 h
    have ha' := (jmp_south a0 (by omega) (by omega) j).1
    exact ⟨ha', (way_cases hW hN hr ha').2.2.1.2 j⟩
  · have j := c3.1 h
    have ha' := (jmp_west (by omega) (by omega) a2 j).1
    exact ⟨ha', (way_cases hW hN hr ha').2.2.2.1.2 (by rw [Int.sub_add_cancel]; exact j)⟩
  · have j := c4.1 h
    have ha' := (jmp_south a0 (by omega) a2 j).2
    exact ⟨ha', (way_cases hW hN hr ha').2.2.2.2.1.2 (by rw [Int.sub_add_cancel]; exact j)⟩
theorem at_cell {W T : Int} {xs : List Bool} {c : Nat} (hW : 1 ≤ W) (hl : (xs.length : Int) = W * T) (hc : c < xs.length) : atB W T xs ((c : Int) % W) ((c : Int) / W) = xs.getD c false ∧ 0 ≤ (c : Int) % W ∧ (c : Int) % W < W ∧ 0 ≤ (c : Int) / W ∧ (c : Int) / W < T := by
  have c0 := Int.emod_nonneg (c : Int) (show W ≠ 0 by omega)
  have c1 := Int.emod_lt_of_pos (c : Int) (show 0 < W by omega)
  have c2 := Int.ediv_nonneg (show (0 : Int) ≤ c by omega) (show 0 ≤ W by omega)
  have ce := Int.emod_add_mul_ediv (c : Int) W
  have c3 : (c : Int) / W < T := Int.ediv_lt_of_lt_mul (by omega) (by rw [Int.mul_comm]; omega)
  refine ⟨?_, c0, c1, c2, c3⟩
  unfold atB inF
  rw [decide_eq_true ⟨c0, c1, c2, c3⟩, Bool.true_and]
  congr 1
  rw [Int.mul_comm]; omega
theorem at_idx {W T : Int} {xs : List Bool} {x y : Int} (ha : atB W T xs x y = true) (hl : (xs.length : Int) = W * T) : ∃ k : Nat, (k : Int) = y * W + x ∧ (k : Int) % W = x ∧ (k : Int) / W = y ∧ k < xs.length ∧ xs.getD k false = true := by
  obtain ⟨a0, a1, a2, a3⟩ := atB_in ha
  obtain ⟨k, hk, kx, ky, hkl⟩ := place_idx a0 a1 a2 a3
  refine ⟨k, hk, kx, ky, by omega, ?_⟩
  unfold atB at ha
  rw [Bool.and_eq_true, show (y * W + x).toNat = k by omega] at ha
  exact ha.2
/-- What right heights tell is a tiling. -/
theorem tby_tok {W T : Int} {xs : List Bool} {H : List Int} {N fk : Nat} (h : HokP W T xs H N fk) : tok W T xs (tbyP W T xs H (sidesK W T xs N)) = true := by
  have hrv := simpleB_rv h.hs
  obtain ⟨v1, v2, v3, v4, v5, v6⟩ := rv_true hrv
  have hN := h.hN
  have hr : sdsOk W T xs H N = true := sdsOk_iff.2 (fun s hs => by obtain ⟨k, nth⟩ := s; obtain ⟨h1, h2⟩ := sidesK_mem.1 hs; exact h.side k nth h1 h2)
  have G : ∀ c, c < xs.length → (tbyP W T xs H (sidesK W T xs N)).getD c 0 = wayP W T xs H ((c : Int) % W) ((c : Int) / W) := fun c hc => tbyL_get v1 hN hc
  have hlen : (tbyP W T xs H (sidesK W T xs N)).length = xs.length := tbyP_len _ _ _ _ _
  have hlok : lok W T xs (tbyP W T xs H (sidesK W T xs N)) = true := by
    unfold lok
    rw [hrv, hlen]
    simp only [BEq.rfl, Bool.true_and]
    unfold goodN
    rw [List.all_eq_true]
    intro c hc
    have hc := List.mem_range.1 hc
    obtain ⟨ea, c0, c1, c2, c3⟩ := at_cell (W := W) (T := T) v1 v5 hc
    cases hx : xs.getD c false
    · rw [hx] at ea
      exact good_zero (by rw [G c hc, way_none v1 c0 c1 c2 ea])
    · rw [hx] at ea
      obtain ⟨w1, w4, _⟩ := way_cases v1 hN hr ea
      obtain ⟨n1, n2, n3, n4⟩ := way_next v1 hN hr ea
      have ce := Int.emod_add_mul_ediv (c : Int) W
      have tgt : ∀ x' y' : Int, atB W T xs x' y' = true → wayP W T xs H x' y' = backI (wayP W T xs H ((c : Int) % W) ((c : Int) / W)) → stepI W T c (wayP W T xs H ((c : Int) % W) ((c : Int) / W)) = y' * W + x' → goodB W T xs (tbyP W T xs H (sidesK W T xs N)) c = true := by
        intro x' y' ha' hw' hs'
        obtain ⟨o, ho, ox, oy, hol, hox⟩ := at_idx ha' v5
        unfold goodB bothB
        rw [G c hc, hs', ← ho, Int.toNat_natCast, G o hol, ox, oy, hw', hx, hox]
        simp
      generalize hv : wayP W T xs H ((c : Int) % W) ((c : Int) / W) = v at *
      generalize hX : (c : Int) % W = X at *
      generalize hY : (c : Int) / W = Y at *
      have hmul : W * Y = Y * W := Int.mul_comm _ _
      have : v = 1 ∨ v = 2 ∨ v = 3 ∨ v = 4 := by omega
      rcases this with rfl | rfl | rfl | rfl
      · obtain ⟨b1, b2⟩ := n1 rfl
        obtain ⟨q0, q1, q2, q3⟩ := atB_in b1
        refine tgt _ _ b1 b2 ?_
        unfold stepI
        rw [hX, if_pos ⟨rfl, by omega⟩]; omega
      · obtain ⟨b1, b2⟩ := n2 rfl
        obtain ⟨q0, q1, q2, q3⟩ := atB_in b1
        refine tgt _ _ b1 b2 ?_
        unfold stepI
        rw [hY, if_neg (by omega), if_pos ⟨rfl, by omega⟩, Int.add_mul]; omega
      · obtain ⟨b1, b2⟩ := n3 rfl
        obtain ⟨q0, q1, q2, q3⟩ := atB_in b1
        refine tgt _ _ b1 b2 ?_
        unfold stepI
        rw [hX, if_neg (by omega), if_neg (by omega), if_pos ⟨rfl, by omega⟩]; omega
      · obtain ⟨b1, b2⟩ := n4 rfl
        obtain ⟨q0, q1, q2, q3⟩ := atB_in b1
        refine tgt _ _ b1 b2 ?_
        unfold stepI
        rw [hY, if_neg (by omega), if_neg (by omega), if_neg (by omega), if_pos ⟨rfl, by omega⟩, Int.sub_mul]; omega
  unfold tok
  rw [hlok, Bool.true_and, decide_eq_true_eq]
  rcases first_cases xs (tbyP W T xs H (sidesK W T xs N)) 0 (tbyP W T xs H (sidesK W T xs N)).length with ⟨e, _⟩ | ⟨j, _, hj, _, hf, _⟩
  · omega
  · exfalso
    rw [hlen] at hj
    unfold freeB at hf
    rw [Bool.and_eq_true, G j hj, beq_iff_eq] at hf
    obtain ⟨ea, _⟩ := at_cell (W := W) (T := T) v1 v5 hj
    rw [hf.1] at ea
    have := way_cases v1 hN hr ea
    omega
theorem hts_like {W T : Int} {xs : List Bool} {L H : List Int} {N fk : Nat} (hs : simpleB W T xs = true) (ht : tok W T xs L = true) (hN : (W + 1) * (T + 1) = (N : Int)) (hf : frstK W T xs N = fk) (hlen : H.length = N) (hoff : ∀ k, k < N → hAt W T xs k = false → H.getD k 0 = 99) (h0 : H.getD fk 0 = 0)
    (hside : ∀ k nth, k < N → sUsed W T xs k nth = true → H.getD (sTo W k nth).toNat 0 - H.getD k 0 = rT W T xs L k nth) : HtsOf W T xs L H N := by
  obtain ⟨H', h'⟩ := hts_exist hs ht hN hf
  obtain ⟨v1, v2, v3, v4, v5, v6⟩ := rv_true (simpleB_rv hs)
  have all := corners_all hs hf (fun k => H.getD k 0 = H'.getD k 0) (by rw [h0, h'.first fk hf]) (fun k nth hu => by
    obtain ⟨t0, t1, t2⟩ := sTo_lt v1 hu
    have a := hside k nth (by omega) hu
    have b := h'.side k nth (by omega) hu
    omega)
  have e : H = H' := by
    refine ext_getD (by rw [hlen, h'.len]) fun k hk => ?_
    rw [hlen] at hk
    cases ha : hAt W T xs k
    · rw [hoff k hk ha, h'.off k hk ha]
    · exact all k ha
  rw [e]; exact h'
/-- Right heights are the heights of the tiling that they tell. -/
theorem tby_hts {W T : Int} {xs : List Bool} {H : List Int} {N fk : Nat} (h : HokP W T xs H N fk) : HtsOf W T xs (tbyP W T xs H (sidesK W T xs N)) H N := by
  have hrv := simpleB_rv h.hs
  obtain ⟨v1, v2, v3, v4, v5, v6⟩ := rv_true hrv
  have hN := h.hN
  have hr : sdsOk W T xs H N = true := sdsOk_iff.2 (fun s hs => by obtain ⟨k, nth⟩ := s; obtain ⟨h1, h2⟩ := sidesK_mem.1 hs; exact h.side k nth h1 h2)
  refine hts_like h.hs (tby_tok h) hN h.fst h.len h.off h.first fun k nth hk hu => ?_
  have hside := side_ok hr hk hu
  have key : sBoth W T xs k nth = true → ((tbyP W T xs H (sidesK W T xs N)).getD (sCell W k nth).toNat 0 = sWay nth ↔ jmpB W T xs H k nth = true) := by
    intro hb
    obtain ⟨a, b, e1, e2, al, bl, hne, ax, ay, bx, by_, hl, hra⟩ := side_left v1 hb
    rw [e1, Int.toNat_natCast, tbyL_get v1 hN (by omega), ax, ay]
    obtain ⟨_, _, c4, c1, c2, c3⟩ := way_cases v1 hN hr hl
    have ek := cI_of v1 k
    cases nth
    · have ex : sLx W k false = kx W k := rfl
      rw [ex] at c4 ⊢
      rw [ek] at c4
      exact c4
    · have ex : sLx W k true = kx W k - 1 := rfl
      rw [ex] at c1 ⊢
      rw [Int.sub_add_cancel, ek] at c1
      exact c1
  unfold rT
  cases hb : sBoth W T xs k nth
  · rw [Bool.false_and, if_neg (by simp)]
    rcases hside with ⟨e, _⟩ | ⟨_, hj⟩
    · exact e
    · unfold jmpB at hj; rw [hb] at hj; simp at hj
  · have kk := key hb
    rcases hside with ⟨e, hj⟩ | ⟨e, hj⟩
    · rw [if_neg (by rw [Bool.true_and, beq_iff_eq, kk, hj]; simp)]; exact e
    · rw [if_pos (by rw [Bool.true_and, beq_iff_eq, kk]; exact hj)]; exact e
end Go.Proofs.Ytknigcjpgkolgaa
