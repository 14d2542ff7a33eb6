/- Lists of lists: what a call owns; contract of slices.AppendSeq over the iterator over all tilings. -/
import Derived.Test.YthpifnjoiklgnaaGreatKTbyI
import Derived.Test.YthpifnjoiklgnaaGreatKHtsS
import Derived.RangeFuncKeeps
import Derived.RangeFuncBound
import Derived.RangeFuncLeaves
import Derived.Shelf.Abstract
import Derived.Shelf.RegionOpen
import Derived.OwnWalkIn
import Derived.TacticsInMore
import Derived.LoopNIn
import Derived.LoopIn
import Derived.RangeFuncFrom
import Derived.RangeFuncBox
import Derived.Laws.EntriesVeiled
namespace Go.Proofs.YthpifnjoiklgnaaGreat
open Go.RowKit
set_option linter.unusedVariables false
set_option maxRecDepth 100000
set_option linter.unusedSimpArgs false

def wayP (W T : Int) (xs : List Bool) (H : List Int) (x y : Int) : Int :=
 if jmpB W T xs H (cI W x y) false then 4
 else if jmpB W T xs H (cI W (x + 1) y) true then 1
 else if jmpB W T xs H (cI W x (y + 1)) false then 2
 else if jmpB W T xs H (cI W x y) true then 3 else 0
theorem jmpP_all {W T : Int} {xs : List Bool} {H : List Int} (hW : 1 ≤ W) {N : Nat} (hN : (W + 1) * (T + 1) = (N : Int)) : jmpP W T xs H (sidesK W T xs N) = jmpB W T xs H := by
 funext k nth
 unfold jmpP
 cases hj : jmpB W T xs H k nth
 · simp
 · have hb : sBoth W T xs k nth = true := by unfold jmpB at hj; rw [Bool.and_eq_true] at hj; exact hj.1
   have hu : sUsed W T xs k nth = true := by unfold sBoth at hb; unfold sUsed; rw [Bool.and_eq_true] at hb; rw [hb.1]; rfl
   obtain ⟨t0, t1, t2⟩ := sTo_lt hW hu
   have hm : (k, nth) ∈ sidesK W T xs N := sidesK_mem.2 ⟨by omega, hu⟩
   rw [Bool.and_true]
   simpa using hm
theorem tbyL_get {W T : Int} {xs : List Bool} {H : List Int} (hW : 1 ≤ W) {N : Nat} (hN : (W + 1) * (T + 1) = (N : Int)) {c : Nat} (hc : c < xs.length) : (tbyP W T xs H (sidesK W T xs N)).getD c 0 = wayP W T xs H ((c : Int) % W) ((c : Int) / W) := by
 rw [tbyP_get hc, jmpP_all hW hN]; rfl
theorem jmp_south {W T : Int} {xs : List Bool} {H : List Int} {x y : Int} (hx0 : 0 ≤ x) (hx1 : x ≤ W) (hy0 : 0 ≤ y) (h : jmpB W T xs H (cI W x y) false = true) : atB W T xs x y = true ∧ atB W T xs x (y - 1) = true := by
 obtain ⟨p1, p2, p3⟩ := cI_xy hx0 hx1 hy0
 unfold jmpB at h
 rw [Bool.and_eq_true] at h
 have hb := h.1
 unfold sBoth sLeft sRight sLx sRy at hb
 simp only [Bool.false_eq_true, if_false, Bool.and_eq_true, p2, p3] at hb
 exact hb
theorem jmp_west {W T : Int} {xs : List Bool} {H : List Int} {x y : Int} (hx0 : 0 ≤ x) (hx1 : x ≤ W) (hy0 : 0 ≤ y) (h : jmpB W T xs H (cI W x y) true = true) : atB W T xs (x - 1) y = true ∧ atB W T xs x y = true := by
 obtain ⟨p1, p2, p3⟩ := cI_xy hx0 hx1 hy0
 unfold jmpB at h
 rw [Bool.and_eq_true] at h
 have hb := h.1
 unfold sBoth sLeft sRight sLx sRy at hb
 simp only [if_true, Bool.and_eq_true, p2, p3] at hb
 exact hb
theorem way_cases {W T : Int} {xs : List Bool} {H : List Int} {N : Nat} (hW : 1 ≤ W) (hN : (W + 1) * (T + 1) = (N : Int)) (hr : sdsOk W T xs H N = true) {x y : Int} (ha : atB W T xs x y = true) :
 1 ≤ wayP W T xs H x y ∧ wayP W T xs H x y ≤ 4 ∧ (wayP W T xs H x y = 4 ↔ jmpB W T xs H (cI W x y) false = true) ∧ (wayP W T xs H x y = 1 ↔ jmpB W T xs H (cI W (x + 1) y) true = true) ∧
 (wayP W T xs H x y = 2 ↔ jmpB W T xs H (cI W x (y + 1)) false = true) ∧ (wayP W T xs H x y = 3 ↔ jmpB W T xs H (cI W x y) true = true) := by
 have h := four_jump hW hN hr ha
 unfold wayP
 generalize jmpB W T xs H (cI W x y) false = a at *
 generalize jmpB W T xs H (cI W (x + 1) y) true = b at *
 generalize jmpB W T xs H (cI W x (y + 1)) false = c at *
 generalize jmpB W T xs H (cI W x y) true = d at *
 cases a <;> cases b <;> cases c <;> cases d <;> simp [b2i] at h ⊢
theorem way_none {W T : Int} {xs : List Bool} {H : List Int} (hW : 1 ≤ W) {x y : Int} (hx0 : 0 ≤ x) (hx1 : x < W) (hy0 : 0 ≤ y) (ha : atB W T xs x y = false) : wayP W T xs H x y = 0 := by
 unfold wayP
 rw [if_neg (fun h => by rw [(jmp_south hx0 (by omega) hy0 h).1] at ha; cases ha)]
 rw [if_neg (fun h => by have := (jmp_west (by omega) (by omega) hy0 h).1; rw [Int.add_sub_cancel, ha] at this; cases this)]
 rw [if_neg (fun h => by have := (jmp_south hx0 (by omega) (by omega) h).2; rw [Int.add_sub_cancel, ha] at this; cases this)]
 rw [if_neg (fun h => by rw [(jmp_west hx0 (by omega) hy0 h).2] at ha; cases ha)]
theorem way_next {W T : Int} {xs : List Bool} {H : List Int} {N : Nat} (hW : 1 ≤ W) (hN : (W + 1) * (T + 1) = (N : Int)) (hr : sdsOk W T xs H N = true) {x y : Int} (ha : atB W T xs x y = true) :
 (wayP W T xs H x y = 1 → atB W T xs (x + 1) y = true ∧ wayP W T xs H (x + 1) y = 3) ∧ (wayP W T xs H x y = 2 → atB W T xs x (y + 1) = true ∧ wayP W T xs H x (y + 1) = 4) ∧
 (wayP W T xs H x y = 3 → atB W T xs (x - 1) y = true ∧ wayP W T xs H (x - 1) y = 1) ∧ (wayP W T xs H x y = 4 → atB W T xs x (y - 1) = true ∧ wayP W T xs H x (y - 1) = 2) := by
 obtain ⟨a0, a1, a2, a3⟩ := atB_in ha
 obtain ⟨_, _, c4, c1, c2, c3⟩ := way_cases hW hN hr ha
 refine ⟨fun h => ?_, fun h => ?_, fun h => ?_, fun h => ?_⟩
 · have j := c1.1 h
   have ha' := (jmp_west (by omega) (by omega) a2 j).2
   exact ⟨ha', (way_cases hW hN hr ha').2.2.2.2.2.2 j⟩
 · have j := c2.1 h
   have ha' := (jmp_south a0 (by omega) (by omega) j).1
   exact ⟨ha', (way_cases hW hN hr ha').2.2.1.2 j⟩
 · have j := c3.1 h
   have ha' := (jmp_west (by omega) (by omega) a2 j).1
   exact ⟨ha', (way_cases hW hN hr ha').2.2.2.1.2 (by rw [Int.sub_add_cancel]; exact j)⟩
 · have j := c4.1 h
   have ha' := (jmp_south a0 (by omega) a2 j).2
   exact ⟨ha', (way_cases hW hN hr ha').2.2.2.2.1.2 (by rw [Int.sub_add_cancel]; exact j)⟩
theorem at_cell {W T : Int} {xs : List Bool} {c : Nat} (hW : 1 ≤ W) (hl : (xs.length : Int) = W * T) (hc : c < xs.length) : atB W T xs ((c : Int) % W) ((c : Int) / W) = xs.getD c false ∧ 0 ≤ (c : Int) % W ∧ (c : Int) % W < W ∧ 0 ≤ (c : Int) / W ∧ (c : Int) / W < T := by
 have c0 := Int.emod_nonneg (c : Int) (show W ≠ 0 by omega)
 have c1 := Int.emod_lt_of_pos (c : Int) (show 0 < W by omega)
 have c2 := Int.ediv_nonneg (show (0 : Int) ≤ c by omega) (show 0 ≤ W by omega)
 have ce := Int.emod_add_mul_ediv (c : Int) W
 have c3 : (c : Int) / W < T := Int.ediv_lt_of_lt_mul (by omega) (by rw [Int.mul_comm]; omega)
 refine ⟨?_, c0, c1, c2, c3⟩
 unfold atB inF
 rw [decide_eq_true ⟨c0, c1, c2, c3⟩, Bool.true_and]
 congr 1
 rw [Int.mul_comm]; omega
theorem at_idx {W T : Int} {xs : List Bool} {x y : Int} (ha : atB W T xs x y = true) (hl : (xs.length : Int) = W * T) : ∃ k : Nat, (k : Int) = y * W + x ∧ (k : Int) % W = x ∧ (k : Int) / W = y ∧ k < xs.length ∧ xs.getD k false = true := by
 obtain ⟨a0, a1, a2, a3⟩ := atB_in ha
 obtain ⟨k, hk, kx, ky, hkl⟩ := place_idx a0 a1 a2 a3
 refine ⟨k, hk, kx, ky, by omega, ?_⟩
 unfold atB at ha
 rw [Bool.and_eq_true, show (y * W + x).toNat = k by omega] at ha
 exact ha.2
theorem tby_tok {W T : Int} {xs : List Bool} {H : List Int} {N fk : Nat} (h : HokP W T xs H N fk) : tok W T xs (tbyP W T xs H (sidesK W T xs N)) = true := by
 have hrv := simpleB_rv h.hs
 obtain ⟨v1, v2, v3, v4, v5, v6⟩ := rv_true hrv
 have hN := h.hN
 have hr : sdsOk W T xs H N = true := sdsOk_iff.2 (fun s hs => by obtain ⟨k, nth⟩ := s; obtain ⟨h1, h2⟩ := sidesK_mem.1 hs; exact h.side k nth h1 h2)
 have G : ∀ c, c < xs.length → (tbyP W T xs H (sidesK W T xs N)).getD c 0 = wayP W T xs H ((c : Int) % W) ((c : Int) / W) := fun c hc => tbyL_get v1 hN hc
 have hlen : (tbyP W T xs H (sidesK W T xs N)).length = xs.length := tbyP_len _ _ _ _ _
 have hlok : lok W T xs (tbyP W T xs H (sidesK W T xs N)) = true := by
  unfold lok
  rw [hrv, hlen]
  simp only [BEq.rfl, Bool.true_and]
  unfold goodN
  rw [List.all_eq_true]
  intro c hc
  have hc := List.mem_range.1 hc
  obtain ⟨ea, c0, c1, c2, c3⟩ := at_cell (W := W) (T := T) v1 v5 hc
  cases hx : xs.getD c false
  · rw [hx] at ea
    exact good_zero (by rw [G c hc, way_none v1 c0 c1 c2 ea])
  · rw [hx] at ea
    obtain ⟨w1, w4, _⟩ := way_cases v1 hN hr ea
    obtain ⟨n1, n2, n3, n4⟩ := way_next v1 hN hr ea
    have ce := Int.emod_add_mul_ediv (c : Int) W
    have tgt : ∀ x' y' : Int, atB W T xs x' y' = true → wayP W T xs H x' y' = backI (wayP W T xs H ((c : Int) % W) ((c : Int) / W)) → stepI W T c (wayP W T xs H ((c : Int) % W) ((c : Int) / W)) = y' * W + x' → goodB W T xs (tbyP W T xs H (sidesK W T xs N)) c = true := by
     intro x' y' ha' hw' hs'
     obtain ⟨o, ho, ox, oy, hol, hox⟩ := at_idx ha' v5
     unfold goodB bothB
     rw [G c hc, hs', ← ho, Int.toNat_natCast, G o hol, ox, oy, hw', hx, hox]
     simp
    generalize hv : wayP W T xs H ((c : Int) % W) ((c : Int) / W) = v at *
    generalize hX : (c : Int) % W = X at *
    generalize hY : (c : Int) / W = Y at *
    have hmul : W * Y = Y * W := Int.mul_comm _ _
    have : v = 1 ∨ v = 2 ∨ v = 3 ∨ v = 4 := by omega
    rcases this with rfl | rfl | rfl | rfl
    · obtain ⟨b1, b2⟩ := n1 rfl
      obtain ⟨q0, q1, q2, q3⟩ := atB_in b1
      refine tgt _ _ b1 b2 ?_
      unfold stepI
      rw [hX, if_pos ⟨rfl, by omega⟩]; omega
    · obtain ⟨b1, b2⟩ := n2 rfl
      obtain ⟨q0, q1, q2, q3⟩ := atB_in b1
      refine tgt _ _ b1 b2 ?_
      unfold stepI
      rw [hY, if_neg (by omega), if_pos ⟨rfl, by omega⟩, Int.add_mul]; omega
    · obtain ⟨b1, b2⟩ := n3 rfl
      obtain ⟨q0, q1, q2, q3⟩ := atB_in b1
      refine tgt _ _ b1 b2 ?_
      unfold stepI
      rw [hX, if_neg (by omega), if_neg (by omega), if_pos ⟨rfl, by omega⟩]; omega
    · obtain ⟨b1, b2⟩ := n4 rfl
      obtain ⟨q0, q1, q2, q3⟩ := atB_in b1
      refine tgt _ _ b1 b2 ?_
      unfold stepI
      rw [hY, if_neg (by omega), if_neg (by omega), if_neg (by omega), if_pos ⟨rfl, by omega⟩, Int.sub_mul]; omega
 unfold tok
 rw [hlok, Bool.true_and, decide_eq_true_eq]
 rcases first_cases xs (tbyP W T xs H (sidesK W T xs N)) 0 (tbyP W T xs H (sidesK W T xs N)).length with ⟨e, _⟩ | ⟨j, _, hj, _, hf, _⟩
 · omega
 · exfalso
   rw [hlen] at hj
   unfold freeB at hf
   rw [Bool.and_eq_true, G j hj, beq_iff_eq] at hf
   obtain ⟨ea, _⟩ := at_cell (W := W) (T := T) v1 v5 hj
   rw [hf.1] at ea
   have := way_cases v1 hN hr ea
   omega
theorem hts_like {W T : Int} {xs : List Bool} {L H : List Int} {N fk : Nat} (hs : simpleB W T xs = true) (ht : tok W T xs L = true) (hN : (W + 1) * (T + 1) = (N : Int)) (hf : frstK W T xs N = fk) (hlen : H.length = N) (hoff : ∀ k, k < N → hAt W T xs k = false → H.getD k 0 = 99) (h0 : H.getD fk 0 = 0)
 (hside : ∀ k nth, k < N → sUsed W T xs k nth = true → H.getD (sTo W k nth).toNat 0 - H.getD k 0 = rT W T xs L k nth) : HtsOf W T xs L H N := by
 obtain ⟨H', h'⟩ := hts_exist hs ht hN hf
 obtain ⟨v1, v2, v3, v4, v5, v6⟩ := rv_true (simpleB_rv hs)
 have all := corners_all hs hf (fun k => H.getD k 0 = H'.getD k 0) (by rw [h0, h'.first fk hf]) (fun k nth hu => by
  obtain ⟨t0, t1, t2⟩ := sTo_lt v1 hu
  have a := hside k nth (by omega) hu
  have b := h'.side k nth (by omega) hu
  omega)
 have e : H = H' := by
  refine ext_getD (by rw [hlen, h'.len]) fun k hk => ?_
  rw [hlen] at hk
  cases ha : hAt W T xs k
  · rw [hoff k hk ha, h'.off k hk ha]
  · exact all k ha
 rw [e]; exact h'
theorem tby_hts {W T : Int} {xs : List Bool} {H : List Int} {N fk : Nat} (h : HokP W T xs H N fk) : HtsOf W T xs (tbyP W T xs H (sidesK W T xs N)) H N := by
 have hrv := simpleB_rv h.hs
 obtain ⟨v1, v2, v3, v4, v5, v6⟩ := rv_true hrv
 have hN := h.hN
 have hr : sdsOk W T xs H N = true := sdsOk_iff.2 (fun s hs => by obtain ⟨k, nth⟩ := s; obtain ⟨h1, h2⟩ := sidesK_mem.1 hs; exact h.side k nth h1 h2)
 refine hts_like h.hs (tby_tok h) hN h.fst h.len h.off h.first fun k nth hk hu => ?_
 have hside := side_ok hr hk hu
 have key : sBoth W T xs k nth = true → ((tbyP W T xs H (sidesK W T xs N)).getD (sCell W k nth).toNat 0 = sWay nth ↔ jmpB W T xs H k nth = true) := by
  intro hb
  obtain ⟨a, b, e1, e2, al, bl, hne, ax, ay, bx, by_, hl, hra⟩ := side_left v1 hb
  rw [e1, Int.toNat_natCast, tbyL_get v1 hN (by omega), ax, ay]
  obtain ⟨_, _, c4, c1, c2, c3⟩ := way_cases v1 hN hr hl
  have ek := cI_of v1 k
  cases nth
  · have ex : sLx W k false = kx W k := rfl
    rw [ex] at c4 ⊢
    rw [ek] at c4
    exact c4
  · have ex : sLx W k true = kx W k - 1 := rfl
    rw [ex] at c1 ⊢
    rw [Int.sub_add_cancel, ek] at c1
    exact c1
 unfold rT
 cases hb : sBoth W T xs k nth
 · rw [Bool.false_and, if_neg (by simp)]
   rcases hside with ⟨e, _⟩ | ⟨_, hj⟩
   · exact e
   · unfold jmpB at hj; rw [hb] at hj; simp at hj
 · have kk := key hb
   rcases hside with ⟨e, hj⟩ | ⟨e, hj⟩
   · rw [if_neg (by rw [Bool.true_and, beq_iff_eq, kk, hj]; simp)]; exact e
   · rw [if_pos (by rw [Bool.true_and, beq_iff_eq, kk]; exact hj)]; exact e
theorem hts_hok {W T : Int} {xs : List Bool} {L H : List Int} {N fk : Nat} (hs : simpleB W T xs = true) (hN : (W + 1) * (T + 1) = (N : Int)) (hf : frstK W T xs N = fk) (h : HtsOf W T xs L H N) : HokP W T xs H N fk := by
 refine ⟨hs, hN, hf, h.len, h.off, fun k hk ha => by have := h.bd k hk ha; omega, fun k nth hk hu => ?_, h.first fk hf⟩
 rw [h.side k nth hk hu]
 refine may_of ?_
 unfold rT
 cases hb : sBoth W T xs k nth
 · left; simp
 · by_cases e : (true && (L.getD (sCell W k nth).toNat 0 == sWay nth)) = true
   · rw [if_pos e]; right; exact ⟨rfl, rfl⟩
   · rw [if_neg e]; left; rfl
theorem rs_inj (d a b : Bool) (h : rsB d a = rsB d b) : a = b := by cases d <;> cases a <;> cases b <;> first | rfl | (exfalso; revert h; decide)
theorem hts_inj {W T : Int} {xs : List Bool} {L L' H : List Int} {N : Nat} (hN : (W + 1) * (T + 1) = (N : Int)) (ht : tok W T xs L = true) (ht' : tok W T xs L' = true) (h : HtsOf W T xs L H N) (h' : HtsOf W T xs L' H N) : L = L' := by
 have hl := tok_lok1 ht
 have hl' := tok_lok1 ht'
 obtain ⟨hrv, len, _⟩ := lok_rv hl
 obtain ⟨_, len', _⟩ := lok_rv hl'
 obtain ⟨v1, v2, v3, v4, v5, v6⟩ := rv_true hrv
 refine ext_getD (by rw [len, len']) fun c hc => ?_
 rw [len] at hc
 obtain ⟨ea, c0, c1, c2, c3⟩ := at_cell (W := W) (T := T) v1 v5 hc
 cases hx : xs.getD c false
 · have z : ∀ M : List Int, lok W T xs M = true → M.getD c 0 = 0 := by
    intro M hM
    by_cases e : M.getD c 0 = 0
    · exact e
    · obtain ⟨o, _, _, _, hxc, _⟩ := lok_at hM hc e
      rw [hx] at hxc; cases hxc
   rw [z L hl, z L' hl']
 · rw [hx] at ea
   have ce := Int.emod_add_mul_ediv (c : Int) W
   have hv : ∀ M : List Int, lv W T xs M ((c : Int) % W) ((c : Int) / W) = M.getD c 0 := by
    intro M
    unfold lv
    rw [ea, if_pos rfl]
    congr 1
    rw [Int.mul_comm]; omega
   obtain ⟨f1, f2, f3⟩ := lv_four ht ea
   obtain ⟨g1, g2, g3⟩ := lv_four ht' ea
   obtain ⟨⟨s1, s2⟩, ⟨b1, b2⟩, ⟨w1, w2⟩, ⟨d1, d2⟩⟩ := cell_sides v1 ea
   have lt : ∀ {k : Nat} {nth : Bool}, sUsed W T xs k nth = true → k < N := fun hh => by obtain ⟨t0, t1, t2⟩ := sTo_lt v1 hh; omega
   have same : ∀ k nth, sUsed W T xs k nth = true → (lv W T xs L (sLx W k nth) (ky W k) == sWay nth) = (lv W T xs L' (sLx W k nth) (ky W k) == sWay nth) := by
    intro k nth hu
    have a := h.side k nth (lt hu) hu
    have b := h'.side k nth (lt hu) hu
    rw [rT_eq hl] at a
    rw [rT_eq hl'] at b
    exact rs_inj _ _ _ (a.symm.trans b)
   obtain ⟨p1, p2, p3⟩ := cI_xy (W := W) (x := (c : Int) % W) (y := (c : Int) / W) c0 (by omega) c2
   obtain ⟨q1, q2, q3⟩ := cI_xy (W := W) (x := (c : Int) % W) (y := (c : Int) / W + 1) c0 (by omega) (by omega)
   obtain ⟨r1, r2, r3⟩ := cI_xy (W := W) (x := (c : Int) % W + 1) (y := (c : Int) / W) (by omega) (by omega) c2
   have t4 := same _ _ s1
   have t2 := same _ _ b1
   have t1 := same _ _ d1
   have el : ∀ k, sLx W k false = kx W k := fun k => rfl
   have er : ∀ k, sLx W k true = kx W k - 1 := fun k => rfl
   have wf : sWay false = 4 := rfl
   have wt : sWay true = 1 := rfl
   rw [el, p2, p3, wf] at t4
   rw [el, q2, q3, wf, f1, g1] at t2
   rw [er, r2, r3, Int.add_sub_cancel, wt] at t1
   rw [hv L] at f3 t4 t2 t1
   rw [hv L'] at g3 t4 t2 t1
   generalize L.getD c 0 = u at *
   generalize L'.getD c 0 = v at *
   have hu : u = 1 ∨ u = 2 ∨ u = 3 ∨ u = 4 := by omega
   have hv' : v = 1 ∨ v = 2 ∨ v = 3 ∨ v = 4 := by omega
   clear hv
   rcases hu with rfl | rfl | rfl | rfl <;> rcases hv' with rfl | rfl | rfl | rfl <;> first | rfl | (exfalso; revert t4; decide) | (exfalso; revert t2; decide) | (exfalso; revert t1; decide)

theorem tby_of {W T : Int} {xs : List Bool} {L H : List Int} (hs : simpleB W T xs = true) (ht : tok W T xs L = true) (h : HtsR W T xs L H) : hokB W T xs H = true ∧ tbyF W T xs H = (L, true) := by
 obtain ⟨N, fk, hN, hf⟩ := hokP_size hs
 rcases h with ⟨_, h⟩ | ⟨h, _⟩
 · have eN : ((W + 1) * (T + 1)).toNat = N := by omega
   rw [eN] at h
   have hp := hts_hok hs hN hf h
   have hk := hok_of hp
   refine ⟨hk, ?_⟩
   unfold tbyF
   rw [if_pos hk, eN, hts_inj hN (tby_tok hp) ht (tby_hts hp) h]
 · rw [hs, ht] at h; cases h
theorem tby_to {W T : Int} {xs : List Bool} {H : List Int} (h : hokB W T xs H = true) : simpleB W T xs = true ∧ (tbyF W T xs H).2 = true ∧ tok W T xs (tbyF W T xs H).1 = true ∧ HtsR W T xs (tbyF W T xs H).1 H := by
 have hs : simpleB W T xs = true := by unfold hokB at h; simp only [Bool.and_eq_true] at h; exact h.1.1.1.1
 obtain ⟨N, fk, hN, hf⟩ := hokP_size hs
 have hp := hok_to hN hf h
 have eN : ((W + 1) * (T + 1)).toNat = N := by omega
 unfold tbyF
 rw [if_pos h, eN]
 refine ⟨hs, rfl, tby_tok hp, Or.inl ⟨by rw [hs, tby_tok hp]; rfl, ?_⟩⟩
 rw [eN]; exact tby_hts hp
theorem tby_no {W T : Int} {xs : List Bool} {H : List Int} (h : hokB W T xs H = false) : tbyF W T xs H = ([], false) := by
 unfold tbyF; rw [h]; rfl
theorem htsR_unique {W T : Int} {xs : List Bool} {L H H' : List Int} (h : HtsR W T xs L H) (h' : HtsR W T xs L H') : H = H' := by
 rcases h with ⟨c, h⟩ | ⟨c, h⟩ <;> rcases h' with ⟨c', h'⟩ | ⟨c', h'⟩
 · rw [Bool.and_eq_true] at c
   obtain ⟨N, fk, hN, hf⟩ := hokP_size c.1
   have eN : ((W + 1) * (T + 1)).toNat = N := by omega
   rw [eN] at h h'
   exact hts_unique c.1 hN hf h h'
 · rw [c] at c'; cases c'
 · rw [c] at c'; cases c'
 · rw [h, h']

end Go.Proofs.YthpifnjoiklgnaaGreat

namespace Go.Proofs.YthpifnjoiklgnaaGreat
open Go.RowKit
set_option linter.unusedVariables false
set_option maxRecDepth 100000
set_option linter.unusedSimpArgs false

theorem countP_none {l : List Nat} {p : Nat → Bool} (h : ∀ x ∈ l, p x = false) : l.countP p = 0 := by
 rw [List.countP_eq_zero]
 intro x hx; rw [h x hx]; exact Bool.false_ne_true
theorem count_shift {p q : Nat → Bool} {n d : Nat} (h1 : ∀ k, k + d < n → p k = q (k + d)) (h2 : ∀ k, k < n → n ≤ k + d → p k = false) (h3 : ∀ j, j < d → j < n → q j = false) : (List.range n).countP p = (List.range n).countP q := by
 by_cases hd : d ≤ n
 · obtain ⟨m, rfl⟩ : ∃ m, n = m + d := ⟨n - d, by omega⟩
   have e1 : (List.range (m + d)).countP p = (List.range m).countP p := by
    rw [List.range_add, List.countP_append, List.countP_map]
    rw [countP_none (l := List.range d) (fun x hx => by have := List.mem_range.1 hx; exact h2 (m + x) (by omega) (by omega))]
    omega
   have e2 : (List.range (m + d)).countP q = (List.range m).countP (fun k => q (k + d)) := by
    rw [Nat.add_comm m d, List.range_add, List.countP_append, List.countP_map]
    rw [countP_none (l := List.range d) (fun x hx => by have := List.mem_range.1 hx; exact h3 x this (by omega))]
    rw [Nat.zero_add]
    apply List.countP_congr
    intro x _
    simp [Nat.add_comm]
   rw [e1, e2]
   apply List.countP_congr
   intro x hx
   rw [h1 x (by have := List.mem_range.1 hx; omega)]
 · rw [countP_none (fun x hx => h2 x (List.mem_range.1 hx) (by have := List.mem_range.1 hx; omega)), countP_none (fun x hx => h3 x (by have := List.mem_range.1 hx; omega) (List.mem_range.1 hx))]

theorem step_one {W T k o : Int} (h : stepI W T k 1 = o) (h0 : 0 ≤ o) : o = k + 1 := by
 unfold stepI at h; simp at h; split at h <;> omega
theorem step_two {W T k o : Int} (h : stepI W T k 2 = o) (h0 : 0 ≤ o) : o = k + W := by
 unfold stepI at h; simp at h; split at h <;> omega
theorem step_three {W T k o : Int} (h : stepI W T k 3 = o) (h0 : 0 ≤ o) : o = k - 1 := by
 unfold stepI at h; simp at h; split at h <;> omega
theorem step_four {W T k o : Int} (h : stepI W T k 4 = o) (h0 : 0 ≤ o) : o = k - W := by
 unfold stepI at h; simp at h; split at h <;> omega
theorem count_ends {W T : Int} {xs : List Bool} {L : List Int} (h : lok W T xs L = true) : wayN L 1 L.length = wayN L 3 L.length ∧ wayN L 2 L.length = wayN L 4 L.length := by
 obtain ⟨hr, hlen, _⟩ := lok_rv h
 obtain ⟨v1, v2, v3, v4, v5, _⟩ := rv_true hr
 obtain ⟨Wn, rfl⟩ : ∃ Wn : Nat, W = Wn := ⟨W.toNat, by omega⟩
 have go : ∀ (v u : Int) (d : Nat), backI v = u → backI u = v → v ≠ 0 → u ≠ 0 → (∀ k o : Int, stepI Wn T k v = o → 0 ≤ o → o = k + d) → (∀ k o : Int, stepI Wn T k u = o → 0 ≤ o → o = k - d) → wayN L v L.length = wayN L u L.length := by
  intro v u d hb hb' hv0 hu0 s1 s2
  unfold wayN
  refine count_shift (d := d) (fun k hk => ?_) (fun k hk hkd => ?_) (fun j hj hjn => ?_)
  · apply Bool.eq_iff_iff.2
    simp only [beq_iff_eq]
    constructor
    · intro e
      obtain ⟨o, hs, ho, _, _, _, hbk, _⟩ := lok_at h (k := k) (by omega) (by rw [e]; exact hv0)
      rw [e] at hs hbk
      have := s1 _ _ hs (by omega)
      obtain rfl : o = k + d := by omega
      rw [hbk, hb]
    · intro e
      obtain ⟨o, hs, ho, _, _, _, hbk, _⟩ := lok_at h (k := k + d) (by omega) (by rw [e]; exact hu0)
      rw [e] at hs hbk
      have := s2 _ _ hs (by omega)
      obtain rfl : o = k := by omega
      rw [hbk, hb']
  · apply Bool.eq_false_iff.2
    simp only [ne_eq, beq_iff_eq]
    intro e
    obtain ⟨o, hs, ho, _⟩ := lok_at h (k := k) (by omega) (by rw [e]; exact hv0)
    rw [e] at hs
    have := s1 _ _ hs (by omega)
    omega
  · apply Bool.eq_false_iff.2
    simp only [ne_eq, beq_iff_eq]
    intro e
    obtain ⟨o, hs, ho, _⟩ := lok_at h (k := j) (by omega) (by rw [e]; exact hu0)
    rw [e] at hs
    have := s2 _ _ hs (by omega)
    omega
 constructor
 · exact go 1 3 1 rfl rfl (by decide) (by decide) (fun k o hs h0 => step_one hs h0) (fun k o hs h0 => step_three hs h0)
 · exact go 2 4 Wn rfl rfl (by decide) (by decide) (fun k o hs h0 => step_two hs h0) (fun k o hs h0 => step_four hs h0)
def nzN (L : List Int) (k : Nat) : Nat := (List.range k).countP fun i => L.getD i 0 != 0
theorem nzN_succ (L : List Int) (k : Nat) : nzN L (k + 1) = nzN L k + if L.getD k 0 != 0 then 1 else 0 := by
 unfold nzN
 rw [List.range_succ, List.countP_append]
 simp [List.countP_cons]
theorem nz_ways {W T : Int} {xs : List Bool} {L : List Int} (h : lok W T xs L = true) : ∀ k, k ≤ L.length → nzN L k = wayN L 1 k + wayN L 2 k + wayN L 3 k + wayN L 4 k
 | 0, _ => rfl
 | k + 1, hk => by
   rw [nzN_succ, wayN_succ, wayN_succ, wayN_succ, wayN_succ, nz_ways h k (by omega)]
   have hw := lok_way h (k := k) (by omega)
   have hc : L.getD k 0 = 0 ∨ L.getD k 0 = 1 ∨ L.getD k 0 = 2 ∨ L.getD k 0 = 3 ∨ L.getD k 0 = 4 := by omega
   rcases hc with e | e | e | e | e <;> rw [e] <;> simp <;> omega
theorem nz_twice {W T : Int} {xs : List Bool} {L : List Int} (h : lok W T xs L = true) : (nzN L L.length : Int) = 2 * laidN W T xs L := by
 have e := nz_ways h L.length (Nat.le_refl _)
 obtain ⟨a, b⟩ := count_ends h
 unfold laidN
 rw [if_pos h]
 omega
theorem nz_set {L : List Int} {k o : Nat} {v u : Int} (hk : k < L.length) (ho : o < L.length) (hne : o ≠ k) (hv : v ≠ 0) (hu : u ≠ 0) (h0 : L.getD k 0 = 0) (h1 : L.getD o 0 = 0) : nzN ((L.set k v).set o u) L.length = nzN L L.length + 2 := by
 have step : ∀ (M : List Int) (c : Nat) (x : Int), c < M.length → x ≠ 0 → M.getD c 0 = 0 → ∀ n, nzN (M.set c x) n = nzN M n + if c < n then 1 else 0 := by
  intro M c x hc hx hz n
  induction n with
  | zero => rfl
  | succ n ih =>
    rw [nzN_succ, nzN_succ, ih]
    by_cases e : n = c
    · subst e
      have e1 : (M.set n x).getD n 0 = x := by rw [getD_set1, if_pos ⟨rfl, hc⟩]
      rw [e1, hz]; simp [hx]
    · have e1 : (M.set c x).getD n 0 = M.getD n 0 := by rw [getD_set1, if_neg (fun q => e q.1)]
      rw [e1]
      by_cases h2 : c < n
      · rw [if_pos h2, if_pos (show c < n + 1 by omega)]; omega
      · rw [if_neg h2, if_neg (show ¬ c < n + 1 by omega)]; omega
 rw [step (L.set k v) o u (by simpa using ho) hu (by rw [getD_set1, if_neg (fun q => hne q.1)]; exact h1), step L k v hk hv h0, if_pos hk, if_pos ho]
theorem laid_more {W T : Int} {xs : List Bool} {L : List Int} {k way : Int} (h : lok W T xs L = true) (hc : canLay W T xs L k way = true) : laidN W T xs (laidL W T xs L k way) = laidN W T xs L + 1 := by
 obtain ⟨hr, hlen, _⟩ := lok_rv h
 obtain ⟨kn, o, rfl, hk, ho, hne, hs, hf, hfo, w1, w4, hb, e⟩ := canLay_at hr hlen hc
 have h2 := nz_twice (lok_laid h hc)
 have h1 := nz_twice h
 have hn := nz_set (L := L) (k := kn) (o := o) (v := way) (u := backI way) (by omega) (by omega) hne (by omega) (back_nz (by omega)) (free_zero hf).2 (free_zero hfo).2
 rw [laidL_len] at h2
 rw [e] at h2 ⊢
 rw [hn] at h2
 omega
end Go.Proofs.YthpifnjoiklgnaaGreat

namespace Go.Proofs.YthpifnjoiklgnaaGreat
open Go.RowKit
set_option linter.unusedVariables false
set_option maxRecDepth 100000
set_option linter.unusedSimpArgs false

def allL (W T : Int) (xs : List Bool) : Nat → List Int → List (List Int)
 | 0, _ => []
 | f + 1, L =>
   if firstI xs L 0 xs.length < 0 then [L]
   else (if canLay W T xs L (firstI xs L 0 xs.length) 1 = true then allL W T xs f (laidL W T xs L (firstI xs L 0 xs.length) 1) else []) ++
    (if canLay W T xs L (firstI xs L 0 xs.length) 2 = true then allL W T xs f (laidL W T xs L (firstI xs L 0 xs.length) 2) else [])
theorem allL_done {W T : Int} {xs : List Bool} {f : Nat} {L : List Int} {c : Int} (h : firstI xs L 0 xs.length = c) (h0 : c < 0) : allL W T xs (f + 1) L = [L] := by
 subst h
 have e : allL W T xs (f + 1) L = if firstI xs L 0 xs.length < 0 then [L]
  else (if canLay W T xs L (firstI xs L 0 xs.length) 1 = true then allL W T xs f (laidL W T xs L (firstI xs L 0 xs.length) 1) else []) ++
   (if canLay W T xs L (firstI xs L 0 xs.length) 2 = true then allL W T xs f (laidL W T xs L (firstI xs L 0 xs.length) 2) else []) := rfl
 rw [e, if_pos h0]
theorem allL_succ {W T : Int} {xs : List Bool} {f : Nat} {L : List Int} {c : Int} (h : firstI xs L 0 xs.length = c) (h0 : ¬ c < 0) : allL W T xs (f + 1) L =
 (if canLay W T xs L c 1 = true then allL W T xs f (laidL W T xs L c 1) else []) ++ (if canLay W T xs L c 2 = true then allL W T xs f (laidL W T xs L c 2) else []) := by
 subst h
 have e : allL W T xs (f + 1) L = if firstI xs L 0 xs.length < 0 then [L]
  else (if canLay W T xs L (firstI xs L 0 xs.length) 1 = true then allL W T xs f (laidL W T xs L (firstI xs L 0 xs.length) 1) else []) ++
   (if canLay W T xs L (firstI xs L 0 xs.length) 2 = true then allL W T xs f (laidL W T xs L (firstI xs L 0 xs.length) 2) else []) := rfl
 rw [e, if_neg h0]
theorem layF_of {W T : Int} {xs : List Bool} {L : List Int} {k way : Int} (hl : lok W T xs L = true) : layF W T xs L k way = (laidL W T xs L k way, canLay W T xs L k way) := by
 unfold layF; rw [if_pos hl]
theorem free_drop' {W T : Int} {xs : List Bool} {L : List Int} {k way : Int} (hw : way = 1 ∨ way = 2) (hl : lok W T xs L = true) (hc : canLay W T xs L k way = true) : freeN xs (laidL W T xs L k way) < freeN xs L := by
 have := free_drop (W := W) (T := T) (xs := xs) (L := L) (k := k) hw (by rw [layF_of hl]; exact hc)
 rwa [layF_of hl] at this
structure ItKeeps (S : Nat → Prop) (A B : World) : Prop where
 size : A.heap.size ≤ B.heap.size
 same : ∀ k, S k → k < A.heap.size → B.heap[k]? = A.heap[k]?
theorem ItKeeps.refl (S : Nat → Prop) (A : World) : ItKeeps S A A := ⟨Nat.le_refl _, fun _ _ _ => rfl⟩
theorem ItKeeps.trans {S : Nat → Prop} {A B C : World} (h : ItKeeps S A B) (k : ItKeeps S B C) : ItKeeps S A C :=
 ⟨Nat.le_trans h.size k.size, fun i hi hl => (k.same i hi (Nat.lt_of_lt_of_le hl h.size)).trans (h.same i hi hl)⟩
theorem ItKeeps.heap {S : Nat → Prop} {A B : World} (h : ItKeeps S A B) {b : Nat} {o : Obj} (hb : S b) (hh : A.heap[b]? = some o) : B.heap[b]? = some o := (h.same b hb (heap_lt hh)).trans hh
theorem OwnsI.block {w : World} {B g n cap : Nat} {L : List Int} (h : OwnsI w B (.slice (some ⟨g, 0, none⟩) n cap) L) : ∃ cs, w.heap[g]? = some (.cells cs 3 (0, 0)) := by
 rcases h.2 with ⟨hn, _⟩ | ⟨g', cap', cur, hv, hb, hh, r⟩
 · cases hn
 · have e : g = g' := by simp only [Value.slice.injEq, Option.some.injEq, Addr.mk.injEq] at hv; exact hv.1.1
   exact ⟨cur, by rw [e]; exact hh⟩
end Go.Proofs.YthpifnjoiklgnaaGreat

namespace Go.Proofs.YthpifnjoiklgnaaGreat
open Go.RowKit Go.Shelf
set_option linter.unusedVariables false
set_option maxRecDepth 100000
set_option linter.unusedSimpArgs false
attribute [local go_sem] Oper.semAt_some

def ItPost (J Jx : List (List Int) → World → Prop) (pre all : List (List Int)) (b : Bool) (W' : World) : Prop :=
 (b = true → J (pre ++ all) W') ∧ (b = false → ∃ q, q <+: all ∧ q ≠ [] ∧ Jx (pre ++ q) W')

end Go.Proofs.YthpifnjoiklgnaaGreat

namespace Go.Proofs.YthpifnjoiklgnaaGreat
open Go.RowKit Go.Shelf
set_option linter.unusedVariables false
set_option maxRecDepth 100000
set_option linter.unusedSimpArgs false

def ItInv (lo : Nat) (J : Nat → List (List Int) → World → Prop) : Prop :=
 ∀ hi pre A D row, J hi pre A → A.grownBy D row → (∀ r, row = some r → lo ≤ r ∧ r < hi) → J hi pre D

def SeqIt (P : Program) (g : Nat) (lb : Array Value) (S0 : Nat → Prop) (all : List (List Int)) (ok : List Int → Prop) (w0 : World) : Prop :=
 ∀ (d l : Nat) (J Jx : Nat → List (List Int) → World → Prop) (W1 : World), Below w0.heap.size w0 W1 → ItInv W1.heap.size J → ItInv W1.heap.size Jx →
  (∀ W2, Below W1.heap.size W1 W2 → J W2.heap.size [] W2) →
  (∀ m hi pre M A A' v, J hi pre A → W1.heap.size ≤ hi → hi ≤ A.heap.size → Below A.heap.size A A' → OwnsI A' A.heap.size v M → ok M → pre.length < all.length → YieldAt Fence.wide m P l #[v] A' fun e W' =>
    ∃ b : Bool, e = .returned (.bool b) ∧ ItPost (J hi) (Jx hi) pre [M] b W' ∧ ItKeeps (fun k => S0 k ∨ W1.heap.size ≤ k ∧ k < hi) A' W') →
  CallsIn Fence.wide d P g (#[.func (.yield l) #[] #[]] ++ lb) W1 fun e W' => (∃ v, e = .returned v) ∧ ∃ hi b, W1.heap.size ≤ hi ∧ hi ≤ W'.heap.size ∧ ItPost (J hi) (Jx hi) [] all b W'

theorem SeqIt.later {P : Program} {g : Nat} {lb : Array Value} {S0 : Nat → Prop} {all : List (List Int)} {ok : List Int → Prop} {w w' : World} (h : SeqIt P g lb S0 all ok w) (hb : Below w.heap.size w w') : SeqIt P g lb S0 all ok w' :=
 fun d l J Jx W1 h1 => h d l J Jx W1 (below_seq hb h1)

end Go.Proofs.YthpifnjoiklgnaaGreat

namespace Go.Proofs.YthpifnjoiklgnaaGreat
open Go.RowKit Go.Shelf
set_option linter.unusedVariables false
set_option maxRecDepth 100000
set_option linter.unusedSimpArgs false
attribute [local go_sem] Oper.semAt_some

end Go.Proofs.YthpifnjoiklgnaaGreat

namespace Go.Proofs.YthpifnjoiklgnaaGreat
open Go.RowKit Go.Shelf
set_option linter.unusedVariables false
set_option maxRecDepth 100000
set_option linter.unusedSimpArgs false

structure RowsI (w : World) (B : Nat) (ws : List Value) (rows : List (List Int)) : Prop where
 len : ws.length = rows.length
 own : ∀ i, i < rows.length → OwnsI w B (ws.getD i (.slice none 0 0)) (rows.getD i [])
 apart : ∀ i j, i < j → j < rows.length → ∀ k, (ws.getD i (.slice none 0 0)).ownBlock = some k → (ws.getD j (.slice none 0 0)).ownBlock ≠ some k

def OwnsSS (w : World) (B : Nat) (v : Value) (rows : List (List Int)) : Prop := ∃ ws, w.ownsRow B 27 1 v rows.length ws ∧ RowsI w B ws rows

theorem infoSl : (Tryz.prog.info? 27).map (fun i => (i.zero, i.size, i.bytes)) = some (some (.slice none 0 0), 1, 24) := by kernel_rfl

theorem RowsI.nil (w : World) (B : Nat) : RowsI w B [] [] := ⟨rfl, fun i h => absurd h (Nat.not_lt_zero i), fun i j _ h => absurd h (Nat.not_lt_zero j)⟩
theorem OwnsSS.nil (w : World) (B : Nat) : OwnsSS w B (.slice none 0 0) [] := ⟨[], World.ownsRow_nil _ _ _ _, RowsI.nil w B⟩
theorem RowsI.lower {w : World} {B B' : Nat} {ws : List Value} {rows : List (List Int)} (h : RowsI w B ws rows) (hB : B' ≤ B) : RowsI w B' ws rows := ⟨h.len, fun i hi => (h.own i hi).lower hB, h.apart⟩
theorem ownsRow_lower {w : World} {B B' n size : Nat} {e : TypeId} {v : Value} {xs : List Value} (h : w.ownsRow B e size v n xs) (hB : B' ≤ B) : w.ownsRow B' e size v n xs := by
 refine ⟨h.1, ?_⟩
 rcases h.2 with hn | ⟨g, cap, cur, hv, hb, r⟩
 · exact .inl hn
 · exact .inr ⟨g, cap, cur, hv, Nat.le_trans hB hb, r⟩
theorem OwnsSS.lower {w : World} {B B' : Nat} {v : Value} {rows : List (List Int)} (h : OwnsSS w B v rows) (hB : B' ≤ B) : OwnsSS w B' v rows := by
 obtain ⟨ws, h1, h2⟩ := h
 exact ⟨ws, ownsRow_lower h1 hB, h2.lower hB⟩
theorem RowsI.kept {w w' : World} {B : Nat} {ws : List Value} {rows : List (List Int)} {row : Option Nat} (h : RowsI w B ws rows) (hg : w.grownBy w' row) (hr : ∀ i, i < rows.length → ∀ k, (ws.getD i (.slice none 0 0)).ownBlock = some k → row ≠ some k) : RowsI w' B ws rows :=
 ⟨h.len, fun i hi => World.ownsRow.kept (h.own i hi) hg (by
  cases hk : (ws.getD i (.slice none 0 0)).ownBlock with
  | none => exact Or.inl rfl
  | some k => exact Or.inr (fun e => hr i hi k hk e.symm)), h.apart⟩
theorem RowsI.below {w w' : World} {B : Nat} {ws : List Value} {rows : List (List Int)} (h : RowsI w B ws rows) (hb : Below w.heap.size w w') : RowsI w' B ws rows := ⟨h.len, fun i hi => (h.own i hi).below hb, h.apart⟩
theorem OwnsSS.below {w w' : World} {B : Nat} {v : Value} {rows : List (List Int)} (h : OwnsSS w B v rows) (hb : Below w.heap.size w w') : OwnsSS w' B v rows := by
 obtain ⟨ws, h1, h2⟩ := h
 refine ⟨ws, ?_, h2.below hb⟩
 exact h1.kept (grown_of_below hb none) (by cases v.ownBlock <;> simp)
theorem RowsI.snoc {w : World} {B : Nat} {ws : List Value} {rows : List (List Int)} {v : Value} {M : List Int} (h : RowsI w B ws rows) (ho : OwnsI w B v M) (hf : ∀ i, i < rows.length → ∀ k, (ws.getD i (.slice none 0 0)).ownBlock = some k → v.ownBlock ≠ some k) : RowsI w B (ws ++ [v]) (rows ++ [M]) := by
 have gl : ∀ i, i < rows.length → (ws ++ [v]).getD i (.slice none 0 0) = ws.getD i (.slice none 0 0) := fun i hi => by
  simp [List.getD, List.getElem?_append_left (show i < ws.length by rw [h.len]; exact hi)]
 have gr : ∀ i, i < rows.length → (rows ++ [M]).getD i [] = rows.getD i [] := fun i hi => by
  simp [List.getD, List.getElem?_append_left hi]
 have gv : (ws ++ [v]).getD rows.length (.slice none 0 0) = v := by rw [← h.len]; simp [List.getD]
 have gm : (rows ++ [M]).getD rows.length [] = M := by simp [List.getD]
 refine ⟨by simp [h.len], fun i hi => ?_, fun i j hij hj k hk => ?_⟩
 · rw [List.length_append, List.length_singleton] at hi
   by_cases e : i < rows.length
   · rw [gl i e, gr i e]; exact h.own i e
   · obtain rfl : i = rows.length := by omega
     rw [gv, gm]; exact ho
 · rw [List.length_append, List.length_singleton] at hj
   rw [gl i (by omega)] at hk
   by_cases e : j < rows.length
   · rw [gl j e]; exact h.apart i j hij e k hk
   · obtain rfl : j = rows.length := by omega
     rw [gv]; exact hf i hij k hk
theorem RowsI.block {w : World} {B : Nat} {ws : List Value} {rows : List (List Int)} (h : RowsI w B ws rows) {i k : Nat} (hi : i < rows.length) (hk : (ws.getD i (.slice none 0 0)).ownBlock = some k) : B ≤ k ∧ ∃ cs, w.heap[k]? = some (.cells cs 3 (0, 0)) := by
 have ho := h.own i hi
 refine ⟨(World.ownsRow.lt ho k hk).1, ?_⟩
 rcases ho.2 with ⟨e, _⟩ | ⟨g, cap, cur, e, _, hh, _⟩
 · rw [e] at hk; cases hk
 · rw [e] at hk
   obtain rfl : g = k := by simpa [Value.ownBlock] using hk
   exact ⟨cur, hh⟩
theorem row_block {w : World} {B n size k : Nat} {e : TypeId} {v : Value} {xs : List Value} (h : w.ownsRow B e size v n xs) (hk : v.ownBlock = some k) : ∃ cs, w.heap[k]? = some (.cells cs e (0, 0)) := by
 rcases h.2 with ⟨e, _⟩ | ⟨g, cap, cur, e, _, hh, _⟩
 · rw [e] at hk; cases hk
 · rw [e] at hk
   obtain rfl : g = k := by simpa [Value.ownBlock] using hk
   exact ⟨cur, hh⟩

theorem OwnsSS.keptBy {w w' : World} {B : Nat} {v : Value} {rows : List (List Int)} {row : Option Nat} (h : OwnsSS w B v rows) (hg : w.grownBy w' row) (hr : ∀ k, row = some k → k < B) : OwnsSS w' B v rows := by
 obtain ⟨ws, h1, h2⟩ := h
 refine ⟨ws, h1.kept hg ?_, h2.kept hg (fun i hi k hk e => by
  have h3 := (h2.block hi hk).1
  have := hr k e
  omega)⟩
 cases hk : v.ownBlock with
 | none => exact Or.inl rfl
 | some k => exact Or.inr (fun e => by
    have h3 := (World.ownsRow.lt h1 k hk).1
    have := hr k e.symm
    omega)
theorem not_same {w : World} {k : Nat} {cs ds : Array Value} {t u : TypeId} (h : w.heap[k]? = some (.cells cs t (0, 0))) (h2 : w.heap[k]? = some (.cells ds u (0, 0))) (hne : t ≠ u) : False := by
 rw [h] at h2; cases h2; exact hne rfl
end Go.Proofs.YthpifnjoiklgnaaGreat
