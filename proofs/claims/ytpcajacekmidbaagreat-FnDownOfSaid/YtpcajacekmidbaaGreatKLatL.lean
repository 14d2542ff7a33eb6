/- Plain facts: the lattice of tilings: low and high ones, their order, and how far they are apart. -/
import Derived.Test.YtpcajacekmidbaaGreatKComp
import Derived.Test.YtpcajacekmidbaaGreatKTbyI
import Derived.Test.YtpcajacekmidbaaGreatKHtsS
import Derived.RangeFuncKeeps
import Derived.RangeFuncBound
import Derived.RangeFuncLeaves
import Derived.Shelf.Abstract
import Derived.Shelf.RegionOpen
import Derived.OwnWalkIn
import Derived.TacticsInMore
import Derived.LoopNIn
import Derived.LoopIn
import Derived.RangeFuncFrom
import Derived.RangeFuncBox
import Derived.Laws.EntriesVeiled
namespace Go.Proofs.YtpcajacekmidbaaGreat
open Go.RowKit
set_option linter.unusedVariables false
set_option maxRecDepth 100000
set_option linter.unusedSimpArgs false

def wayP (W T : Int) (xs : List Bool) (H : List Int) (x y : Int) : Int :=
 if jmpB W T xs H (cI W x y) false then 4
 else if jmpB W T xs H (cI W (x + 1) y) true then 1
 else if jmpB W T xs H (cI W x (y + 1)) false then 2
 else if jmpB W T xs H (cI W x y) true then 3 else 0
theorem jmpP_all {W T : Int} {xs : List Bool} {H : List Int} (hW : 1 ≤ W) {N : Nat} (hN : (W + 1) * (T + 1) = (N : Int)) : jmpP W T xs H (sidesK W T xs N) = jmpB W T xs H := by
 funext k nth
 unfold jmpP
 cases hj : jmpB W T xs H k nth
 · simp
 · have hb : sBoth W T xs k nth = true := by unfold jmpB at hj; rw [Bool.and_eq_true] at hj; exact hj.1
   have hu : sUsed W T xs k nth = true := by unfold sBoth at hb; unfold sUsed; rw [Bool.and_eq_true] at hb; rw [hb.1]; rfl
   obtain ⟨t0, t1, t2⟩ := sTo_lt hW hu
   have hm : (k, nth) ∈ sidesK W T xs N := sidesK_mem.2 ⟨by omega, hu⟩
   rw [Bool.and_true]
   simpa using hm
theorem tbyL_get {W T : Int} {xs : List Bool} {H : List Int} (hW : 1 ≤ W) {N : Nat} (hN : (W + 1) * (T + 1) = (N : Int)) {c : Nat} (hc : c < xs.length) : (tbyP W T xs H (sidesK W T xs N)).getD c 0 = wayP W T xs H ((c : Int) % W) ((c : Int) / W) := by
 rw [tbyP_get hc, jmpP_all hW hN]; rfl
theorem jmp_south {W T : Int} {xs : List Bool} {H : List Int} {x y : Int} (hx0 : 0 ≤ x) (hx1 : x ≤ W) (hy0 : 0 ≤ y) (h : jmpB W T xs H (cI W x y) false = true) : atB W T xs x y = true ∧ atB W T xs x (y - 1) = true := by
 obtain ⟨p1, p2, p3⟩ := cI_xy hx0 hx1 hy0
 unfold jmpB at h
 rw [Bool.and_eq_true] at h
 have hb := h.1
 unfold sBoth sLeft sRight sLx sRy at hb
 simp only [Bool.false_eq_true, if_false, Bool.and_eq_true, p2, p3] at hb
 exact hb
theorem jmp_west {W T : Int} {xs : List Bool} {H : List Int} {x y : Int} (hx0 : 0 ≤ x) (hx1 : x ≤ W) (hy0 : 0 ≤ y) (h : jmpB W T xs H (cI W x y) true = true) : atB W T xs (x - 1) y = true ∧ atB W T xs x y = true := by
 obtain ⟨p1, p2, p3⟩ := cI_xy hx0 hx1 hy0
 unfold jmpB at h
 rw [Bool.and_eq_true] at h
 have hb := h.1
 unfold sBoth sLeft sRight sLx sRy at hb
 simp only [if_true, Bool.and_eq_true, p2, p3] at hb
 exact hb
theorem way_cases {W T : Int} {xs : List Bool} {H : List Int} {N : Nat} (hW : 1 ≤ W) (hN : (W + 1) * (T + 1) = (N : Int)) (hr : sdsOk W T xs H N = true) {x y : Int} (ha : atB W T xs x y = true) :
 1 ≤ wayP W T xs H x y ∧ wayP W T xs H x y ≤ 4 ∧ (wayP W T xs H x y = 4 ↔ jmpB W T xs H (cI W x y) false = true) ∧ (wayP W T xs H x y = 1 ↔ jmpB W T xs H (cI W (x + 1) y) true = true) ∧
 (wayP W T xs H x y = 2 ↔ jmpB W T xs H (cI W x (y + 1)) false = true) ∧ (wayP W T xs H x y = 3 ↔ jmpB W T xs H (cI W x y) true = true) := by
 have h := four_jump hW hN hr ha
 unfold wayP
 generalize jmpB W T xs H (cI W x y) false = a at *
 generalize jmpB W T xs H (cI W (x + 1) y) true = b at *
 generalize jmpB W T xs H (cI W x (y + 1)) false = c at *
 generalize jmpB W T xs H (cI W x y) true = d at *
 cases a <;> cases b <;> cases c <;> cases d <;> simp [b2i] at h ⊢
theorem way_none {W T : Int} {xs : List Bool} {H : List Int} (hW : 1 ≤ W) {x y : Int} (hx0 : 0 ≤ x) (hx1 : x < W) (hy0 : 0 ≤ y) (ha : atB W T xs x y = false) : wayP W T xs H x y = 0 := by
 unfold wayP
 rw [if_neg (fun h => by rw [(jmp_south hx0 (by omega) hy0 h).1] at ha; cases ha)]
 rw [if_neg (fun h => by have := (jmp_west (by omega) (by omega) hy0 h).1; rw [Int.add_sub_cancel, ha] at this; cases this)]
 rw [if_neg (fun h => by have := (jmp_south hx0 (by omega) (by omega) h).2; rw [Int.add_sub_cancel, ha] at this; cases this)]
 rw [if_neg (fun h => by rw [(jmp_west hx0 (by omega) hy0 h).2] at ha; cases ha)]
theorem way_next {W T : Int} {xs : List Bool} {H : List Int} {N : Nat} (hW : 1 ≤ W) (hN : (W + 1) * (T + 1) = (N : Int)) (hr : sdsOk W T xs H N = true) {x y : Int} (ha : atB W T xs x y = true) :
 (wayP W T xs H x y = 1 → atB W T xs (x + 1) y = true ∧ wayP W T xs H (x + 1) y = 3) ∧ (wayP W T xs H x y = 2 → atB W T xs x (y + 1) = true ∧ wayP W T xs H x (y + 1) = 4) ∧
 (wayP W T xs H x y = 3 → atB W T xs (x - 1) y = true ∧ wayP W T xs H (x - 1) y = 1) ∧ (wayP W T xs H x y = 4 → atB W T xs x (y - 1) = true ∧ wayP W T xs H x (y - 1) = 2) := by
 obtain ⟨a0, a1, a2, a3⟩ := atB_in ha
 obtain ⟨_, _, c4, c1, c2, c3⟩ := way_cases hW hN hr ha
 refine ⟨fun h => ?_, fun h => ?_, fun h => ?_, fun h => ?_⟩
 · have j := c1.1 h
   have ha' := (jmp_west (by omega) (by omega) a2 j).2
   exact ⟨ha', (way_cases hW hN hr ha').2.2.2.2.2.2 j⟩
 · have j := c2.1 h
   have ha' := (jmp_south a0 (by omega) (by omega) j).1
   exact ⟨ha', (way_cases hW hN hr ha').2.2.1.2 j⟩
 · have j := c3.1 h
   have ha' := (jmp_west (by omega) (by omega) a2 j).1
   exact ⟨ha', (way_cases hW hN hr ha').2.2.2.1.2 (by rw [Int.sub_add_cancel]; exact j)⟩
 · have j := c4.1 h
   have ha' := (jmp_south a0 (by omega) a2 j).2
   exact ⟨ha', (way_cases hW hN hr ha').2.2.2.2.1.2 (by rw [Int.sub_add_cancel]; exact j)⟩
theorem at_cell {W T : Int} {xs : List Bool} {c : Nat} (hW : 1 ≤ W) (hl : (xs.length : Int) = W * T) (hc : c < xs.length) : atB W T xs ((c : Int) % W) ((c : Int) / W) = xs.getD c false ∧ 0 ≤ (c : Int) % W ∧ (c : Int) % W < W ∧ 0 ≤ (c : Int) / W ∧ (c : Int) / W < T := by
 have c0 := Int.emod_nonneg (c : Int) (show W ≠ 0 by omega)
 have c1 := Int.emod_lt_of_pos (c : Int) (show 0 < W by omega)
 have c2 := Int.ediv_nonneg (show (0 : Int) ≤ c by omega) (show 0 ≤ W by omega)
 have ce := Int.emod_add_mul_ediv (c : Int) W
 have c3 : (c : Int) / W < T := Int.ediv_lt_of_lt_mul (by omega) (by rw [Int.mul_comm]; omega)
 refine ⟨?_, c0, c1, c2, c3⟩
 unfold atB inF
 rw [decide_eq_true ⟨c0, c1, c2, c3⟩, Bool.true_and]
 congr 1
 rw [Int.mul_comm]; omega
theorem at_idx {W T : Int} {xs : List Bool} {x y : Int} (ha : atB W T xs x y = true) (hl : (xs.length : Int) = W * T) : ∃ k : Nat, (k : Int) = y * W + x ∧ (k : Int) % W = x ∧ (k : Int) / W = y ∧ k < xs.length ∧ xs.getD k false = true := by
 obtain ⟨a0, a1, a2, a3⟩ := atB_in ha
 obtain ⟨k, hk, kx, ky, hkl⟩ := place_idx a0 a1 a2 a3
 refine ⟨k, hk, kx, ky, by omega, ?_⟩
 unfold atB at ha
 rw [Bool.and_eq_true, show (y * W + x).toNat = k by omega] at ha
 exact ha.2
theorem tby_tok {W T : Int} {xs : List Bool} {H : List Int} {N fk : Nat} (h : HokP W T xs H N fk) : tok W T xs (tbyP W T xs H (sidesK W T xs N)) = true := by
 have hrv := simpleB_rv h.hs
 obtain ⟨v1, v2, v3, v4, v5, v6⟩ := rv_true hrv
 have hN := h.hN
 have hr : sdsOk W T xs H N = true := sdsOk_iff.2 (fun s hs => by obtain ⟨k, nth⟩ := s; obtain ⟨h1, h2⟩ := sidesK_mem.1 hs; exact h.side k nth h1 h2)
 have G : ∀ c, c < xs.length → (tbyP W T xs H (sidesK W T xs N)).getD c 0 = wayP W T xs H ((c : Int) % W) ((c : Int) / W) := fun c hc => tbyL_get v1 hN hc
 have hlen : (tbyP W T xs H (sidesK W T xs N)).length = xs.length := tbyP_len _ _ _ _ _
 have hlok : lok W T xs (tbyP W T xs H (sidesK W T xs N)) = true := by
  unfold lok
  rw [hrv, hlen]
  simp only [BEq.rfl, Bool.true_and]
  unfold goodN
  rw [List.all_eq_true]
  intro c hc
  have hc := List.mem_range.1 hc
  obtain ⟨ea, c0, c1, c2, c3⟩ := at_cell (W := W) (T := T) v1 v5 hc
  cases hx : xs.getD c false
  · rw [hx] at ea
    exact good_zero (by rw [G c hc, way_none v1 c0 c1 c2 ea])
  · rw [hx] at ea
    obtain ⟨w1, w4, _⟩ := way_cases v1 hN hr ea
    obtain ⟨n1, n2, n3, n4⟩ := way_next v1 hN hr ea
    have ce := Int.emod_add_mul_ediv (c : Int) W
    have tgt : ∀ x' y' : Int, atB W T xs x' y' = true → wayP W T xs H x' y' = backI (wayP W T xs H ((c : Int) % W) ((c : Int) / W)) → stepI W T c (wayP W T xs H ((c : Int) % W) ((c : Int) / W)) = y' * W + x' → goodB W T xs (tbyP W T xs H (sidesK W T xs N)) c = true := by
     intro x' y' ha' hw' hs'
     obtain ⟨o, ho, ox, oy, hol, hox⟩ := at_idx ha' v5
     unfold goodB bothB
     rw [G c hc, hs', ← ho, Int.toNat_natCast, G o hol, ox, oy, hw', hx, hox]
     simp
    generalize hv : wayP W T xs H ((c : Int) % W) ((c : Int) / W) = v at *
    generalize hX : (c : Int) % W = X at *
    generalize hY : (c : Int) / W = Y at *
    have hmul : W * Y = Y * W := Int.mul_comm _ _
    have : v = 1 ∨ v = 2 ∨ v = 3 ∨ v = 4 := by omega
    rcases this with rfl | rfl | rfl | rfl
    · obtain ⟨b1, b2⟩ := n1 rfl
      obtain ⟨q0, q1, q2, q3⟩ := atB_in b1
      refine tgt _ _ b1 b2 ?_
      unfold stepI
      rw [hX, if_pos ⟨rfl, by omega⟩]; omega
    · obtain ⟨b1, b2⟩ := n2 rfl
      obtain ⟨q0, q1, q2, q3⟩ := atB_in b1
      refine tgt _ _ b1 b2 ?_
      unfold stepI
      rw [hY, if_neg (by omega), if_pos ⟨rfl, by omega⟩, Int.add_mul]; omega
    · obtain ⟨b1, b2⟩ := n3 rfl
      obtain ⟨q0, q1, q2, q3⟩ := atB_in b1
      refine tgt _ _ b1 b2 ?_
      unfold stepI
      rw [hX, if_neg (by omega), if_neg (by omega), if_pos ⟨rfl, by omega⟩]; omega
    · obtain ⟨b1, b2⟩ := n4 rfl
      obtain ⟨q0, q1, q2, q3⟩ := atB_in b1
      refine tgt _ _ b1 b2 ?_
      unfold stepI
      rw [hY, if_neg (by omega), if_neg (by omega), if_neg (by omega), if_pos ⟨rfl, by omega⟩, Int.sub_mul]; omega
 unfold tok
 rw [hlok, Bool.true_and, decide_eq_true_eq]
 rcases first_cases xs (tbyP W T xs H (sidesK W T xs N)) 0 (tbyP W T xs H (sidesK W T xs N)).length with ⟨e, _⟩ | ⟨j, _, hj, _, hf, _⟩
 · omega
 · exfalso
   rw [hlen] at hj
   unfold freeB at hf
   rw [Bool.and_eq_true, G j hj, beq_iff_eq] at hf
   obtain ⟨ea, _⟩ := at_cell (W := W) (T := T) v1 v5 hj
   rw [hf.1] at ea
   have := way_cases v1 hN hr ea
   omega
theorem hts_like {W T : Int} {xs : List Bool} {L H : List Int} {N fk : Nat} (hs : simpleB W T xs = true) (ht : tok W T xs L = true) (hN : (W + 1) * (T + 1) = (N : Int)) (hf : frstK W T xs N = fk) (hlen : H.length = N) (hoff : ∀ k, k < N → hAt W T xs k = false → H.getD k 0 = 99) (h0 : H.getD fk 0 = 0)
 (hside : ∀ k nth, k < N → sUsed W T xs k nth = true → H.getD (sTo W k nth).toNat 0 - H.getD k 0 = rT W T xs L k nth) : HtsOf W T xs L H N := by
 obtain ⟨H', h'⟩ := hts_exist hs ht hN hf
 obtain ⟨v1, v2, v3, v4, v5, v6⟩ := rv_true (simpleB_rv hs)
 have all := corners_all hs hf (fun k => H.getD k 0 = H'.getD k 0) (by rw [h0, h'.first fk hf]) (fun k nth hu => by
  obtain ⟨t0, t1, t2⟩ := sTo_lt v1 hu
  have a := hside k nth (by omega) hu
  have b := h'.side k nth (by omega) hu
  omega)
 have e : H = H' := by
  refine ext_getD (by rw [hlen, h'.len]) fun k hk => ?_
  rw [hlen] at hk
  cases ha : hAt W T xs k
  · rw [hoff k hk ha, h'.off k hk ha]
  · exact all k ha
 rw [e]; exact h'
theorem tby_hts {W T : Int} {xs : List Bool} {H : List Int} {N fk : Nat} (h : HokP W T xs H N fk) : HtsOf W T xs (tbyP W T xs H (sidesK W T xs N)) H N := by
 have hrv := simpleB_rv h.hs
 obtain ⟨v1, v2, v3, v4, v5, v6⟩ := rv_true hrv
 have hN := h.hN
 have hr : sdsOk W T xs H N = true := sdsOk_iff.2 (fun s hs => by obtain ⟨k, nth⟩ := s; obtain ⟨h1, h2⟩ := sidesK_mem.1 hs; exact h.side k nth h1 h2)
 refine hts_like h.hs (tby_tok h) hN h.fst h.len h.off h.first fun k nth hk hu => ?_
 have hside := side_ok hr hk hu
 have key : sBoth W T xs k nth = true → ((tbyP W T xs H (sidesK W T xs N)).getD (sCell W k nth).toNat 0 = sWay nth ↔ jmpB W T xs H k nth = true) := by
  intro hb
  obtain ⟨a, b, e1, e2, al, bl, hne, ax, ay, bx, by_, hl, hra⟩ := side_left v1 hb
  rw [e1, Int.toNat_natCast, tbyL_get v1 hN (by omega), ax, ay]
  obtain ⟨_, _, c4, c1, c2, c3⟩ := way_cases v1 hN hr hl
  have ek := cI_of v1 k
  cases nth
  · have ex : sLx W k false = kx W k := rfl
    rw [ex] at c4 ⊢
    rw [ek] at c4
    exact c4
  · have ex : sLx W k true = kx W k - 1 := rfl
    rw [ex] at c1 ⊢
    rw [Int.sub_add_cancel, ek] at c1
    exact c1
 unfold rT
 cases hb : sBoth W T xs k nth
 · rw [Bool.false_and, if_neg (by simp)]
   rcases hside with ⟨e, _⟩ | ⟨_, hj⟩
   · exact e
   · unfold jmpB at hj; rw [hb] at hj; simp at hj
 · have kk := key hb
   rcases hside with ⟨e, hj⟩ | ⟨e, hj⟩
   · rw [if_neg (by rw [Bool.true_and, beq_iff_eq, kk, hj]; simp)]; exact e
   · rw [if_pos (by rw [Bool.true_and, beq_iff_eq, kk]; exact hj)]; exact e
theorem hts_hok {W T : Int} {xs : List Bool} {L H : List Int} {N fk : Nat} (hs : simpleB W T xs = true) (hN : (W + 1) * (T + 1) = (N : Int)) (hf : frstK W T xs N = fk) (h : HtsOf W T xs L H N) : HokP W T xs H N fk := by
 refine ⟨hs, hN, hf, h.len, h.off, fun k hk ha => by have := h.bd k hk ha; omega, fun k nth hk hu => ?_, h.first fk hf⟩
 rw [h.side k nth hk hu]
 refine may_of ?_
 unfold rT
 cases hb : sBoth W T xs k nth
 · left; simp
 · by_cases e : (true && (L.getD (sCell W k nth).toNat 0 == sWay nth)) = true
   · rw [if_pos e]; right; exact ⟨rfl, rfl⟩
   · rw [if_neg e]; left; rfl
theorem rs_inj (d a b : Bool) (h : rsB d a = rsB d b) : a = b := by cases d <;> cases a <;> cases b <;> first | rfl | (exfalso; revert h; decide)
theorem hts_inj {W T : Int} {xs : List Bool} {L L' H : List Int} {N : Nat} (hN : (W + 1) * (T + 1) = (N : Int)) (ht : tok W T xs L = true) (ht' : tok W T xs L' = true) (h : HtsOf W T xs L H N) (h' : HtsOf W T xs L' H N) : L = L' := by
 have hl := tok_lok1 ht
 have hl' := tok_lok1 ht'
 obtain ⟨hrv, len, _⟩ := lok_rv hl
 obtain ⟨_, len', _⟩ := lok_rv hl'
 obtain ⟨v1, v2, v3, v4, v5, v6⟩ := rv_true hrv
 refine ext_getD (by rw [len, len']) fun c hc => ?_
 rw [len] at hc
 obtain ⟨ea, c0, c1, c2, c3⟩ := at_cell (W := W) (T := T) v1 v5 hc
 cases hx : xs.getD c false
 · have z : ∀ M : List Int, lok W T xs M = true → M.getD c 0 = 0 := by
    intro M hM
    by_cases e : M.getD c 0 = 0
    · exact e
    · obtain ⟨o, _, _, _, hxc, _⟩ := lok_at hM hc e
      rw [hx] at hxc; cases hxc
   rw [z L hl, z L' hl']
 · rw [hx] at ea
   have ce := Int.emod_add_mul_ediv (c : Int) W
   have hv : ∀ M : List Int, lv W T xs M ((c : Int) % W) ((c : Int) / W) = M.getD c 0 := by
    intro M
    unfold lv
    rw [ea, if_pos rfl]
    congr 1
    rw [Int.mul_comm]; omega
   obtain ⟨f1, f2, f3⟩ := lv_four ht ea
   obtain ⟨g1, g2, g3⟩ := lv_four ht' ea
   obtain ⟨⟨s1, s2⟩, ⟨b1, b2⟩, ⟨w1, w2⟩, ⟨d1, d2⟩⟩ := cell_sides v1 ea
   have lt : ∀ {k : Nat} {nth : Bool}, sUsed W T xs k nth = true → k < N := fun hh => by obtain ⟨t0, t1, t2⟩ := sTo_lt v1 hh; omega
   have same : ∀ k nth, sUsed W T xs k nth = true → (lv W T xs L (sLx W k nth) (ky W k) == sWay nth) = (lv W T xs L' (sLx W k nth) (ky W k) == sWay nth) := by
    intro k nth hu
    have a := h.side k nth (lt hu) hu
    have b := h'.side k nth (lt hu) hu
    rw [rT_eq hl] at a
    rw [rT_eq hl'] at b
    exact rs_inj _ _ _ (a.symm.trans b)
   obtain ⟨p1, p2, p3⟩ := cI_xy (W := W) (x := (c : Int) % W) (y := (c : Int) / W) c0 (by omega) c2
   obtain ⟨q1, q2, q3⟩ := cI_xy (W := W) (x := (c : Int) % W) (y := (c : Int) / W + 1) c0 (by omega) (by omega)
   obtain ⟨r1, r2, r3⟩ := cI_xy (W := W) (x := (c : Int) % W + 1) (y := (c : Int) / W) (by omega) (by omega) c2
   have t4 := same _ _ s1
   have t2 := same _ _ b1
   have t1 := same _ _ d1
   have el : ∀ k, sLx W k false = kx W k := fun k => rfl
   have er : ∀ k, sLx W k true = kx W k - 1 := fun k => rfl
   have wf : sWay false = 4 := rfl
   have wt : sWay true = 1 := rfl
   rw [el, p2, p3, wf] at t4
   rw [el, q2, q3, wf, f1, g1] at t2
   rw [er, r2, r3, Int.add_sub_cancel, wt] at t1
   rw [hv L] at f3 t4 t2 t1
   rw [hv L'] at g3 t4 t2 t1
   generalize L.getD c 0 = u at *
   generalize L'.getD c 0 = v at *
   have hu : u = 1 ∨ u = 2 ∨ u = 3 ∨ u = 4 := by omega
   have hv' : v = 1 ∨ v = 2 ∨ v = 3 ∨ v = 4 := by omega
   clear hv
   rcases hu with rfl | rfl | rfl | rfl <;> rcases hv' with rfl | rfl | rfl | rfl <;> first | rfl | (exfalso; revert t4; decide) | (exfalso; revert t2; decide) | (exfalso; revert t1; decide)

theorem tby_of {W T : Int} {xs : List Bool} {L H : List Int} (hs : simpleB W T xs = true) (ht : tok W T xs L = true) (h : HtsR W T xs L H) : hokB W T xs H = true ∧ tbyF W T xs H = (L, true) := by
 obtain ⟨N, fk, hN, hf⟩ := hokP_size hs
 rcases h with ⟨_, h⟩ | ⟨h, _⟩
 · have eN : ((W + 1) * (T + 1)).toNat = N := by omega
   rw [eN] at h
   have hp := hts_hok hs hN hf h
   have hk := hok_of hp
   refine ⟨hk, ?_⟩
   unfold tbyF
   rw [if_pos hk, eN, hts_inj hN (tby_tok hp) ht (tby_hts hp) h]
 · rw [hs, ht] at h; cases h
theorem tby_to {W T : Int} {xs : List Bool} {H : List Int} (h : hokB W T xs H = true) : simpleB W T xs = true ∧ (tbyF W T xs H).2 = true ∧ tok W T xs (tbyF W T xs H).1 = true ∧ HtsR W T xs (tbyF W T xs H).1 H := by
 have hs : simpleB W T xs = true := by unfold hokB at h; simp only [Bool.and_eq_true] at h; exact h.1.1.1.1
 obtain ⟨N, fk, hN, hf⟩ := hokP_size hs
 have hp := hok_to hN hf h
 have eN : ((W + 1) * (T + 1)).toNat = N := by omega
 unfold tbyF
 rw [if_pos h, eN]
 refine ⟨hs, rfl, tby_tok hp, Or.inl ⟨by rw [hs, tby_tok hp]; rfl, ?_⟩⟩
 rw [eN]; exact tby_hts hp
theorem tby_no {W T : Int} {xs : List Bool} {H : List Int} (h : hokB W T xs H = false) : tbyF W T xs H = ([], false) := by
 unfold tbyF; rw [h]; rfl
theorem htsR_unique {W T : Int} {xs : List Bool} {L H H' : List Int} (h : HtsR W T xs L H) (h' : HtsR W T xs L H') : H = H' := by
 rcases h with ⟨c, h⟩ | ⟨c, h⟩ <;> rcases h' with ⟨c', h'⟩ | ⟨c', h'⟩
 · rw [Bool.and_eq_true] at c
   obtain ⟨N, fk, hN, hf⟩ := hokP_size c.1
   have eN : ((W + 1) * (T + 1)).toNat = N := by omega
   rw [eN] at h h'
   exact hts_unique c.1 hN hf h h'
 · rw [c] at c'; cases c'
 · rw [c] at c'; cases c'
 · rw [h, h']

end Go.Proofs.YtpcajacekmidbaaGreat

namespace Go.Proofs.YtpcajacekmidbaaGreat
open Go.RowKit
set_option linter.unusedVariables false
set_option maxRecDepth 100000
set_option linter.unusedSimpArgs false

theorem step_three {W T k o : Int} (h : stepI W T k 3 = o) (h0 : 0 ≤ o) : o = k - 1 := by
 unfold stepI at h; simp at h; split at h <;> omega
theorem step_four {W T k o : Int} (h : stepI W T k 4 = o) (h0 : 0 ≤ o) : o = k - W := by
 unfold stepI at h; simp at h; split at h <;> omega
end Go.Proofs.YtpcajacekmidbaaGreat

namespace Go.Proofs.YtpcajacekmidbaaGreat
open Go.RowKit
set_option linter.unusedVariables false
set_option maxRecDepth 100000
set_option linter.unusedSimpArgs false

def allL (W T : Int) (xs : List Bool) : Nat → List Int → List (List Int)
 | 0, _ => []
 | f + 1, L =>
   if firstI xs L 0 xs.length < 0 then [L]
   else (if canLay W T xs L (firstI xs L 0 xs.length) 1 = true then allL W T xs f (laidL W T xs L (firstI xs L 0 xs.length) 1) else []) ++
    (if canLay W T xs L (firstI xs L 0 xs.length) 2 = true then allL W T xs f (laidL W T xs L (firstI xs L 0 xs.length) 2) else [])
theorem allL_done {W T : Int} {xs : List Bool} {f : Nat} {L : List Int} {c : Int} (h : firstI xs L 0 xs.length = c) (h0 : c < 0) : allL W T xs (f + 1) L = [L] := by
 subst h
 have e : allL W T xs (f + 1) L = if firstI xs L 0 xs.length < 0 then [L]
  else (if canLay W T xs L (firstI xs L 0 xs.length) 1 = true then allL W T xs f (laidL W T xs L (firstI xs L 0 xs.length) 1) else []) ++
   (if canLay W T xs L (firstI xs L 0 xs.length) 2 = true then allL W T xs f (laidL W T xs L (firstI xs L 0 xs.length) 2) else []) := rfl
 rw [e, if_pos h0]
theorem allL_succ {W T : Int} {xs : List Bool} {f : Nat} {L : List Int} {c : Int} (h : firstI xs L 0 xs.length = c) (h0 : ¬ c < 0) : allL W T xs (f + 1) L =
 (if canLay W T xs L c 1 = true then allL W T xs f (laidL W T xs L c 1) else []) ++ (if canLay W T xs L c 2 = true then allL W T xs f (laidL W T xs L c 2) else []) := by
 subst h
 have e : allL W T xs (f + 1) L = if firstI xs L 0 xs.length < 0 then [L]
  else (if canLay W T xs L (firstI xs L 0 xs.length) 1 = true then allL W T xs f (laidL W T xs L (firstI xs L 0 xs.length) 1) else []) ++
   (if canLay W T xs L (firstI xs L 0 xs.length) 2 = true then allL W T xs f (laidL W T xs L (firstI xs L 0 xs.length) 2) else []) := rfl
 rw [e, if_neg h0]
theorem layF_of {W T : Int} {xs : List Bool} {L : List Int} {k way : Int} (hl : lok W T xs L = true) : layF W T xs L k way = (laidL W T xs L k way, canLay W T xs L k way) := by
 unfold layF; rw [if_pos hl]
theorem free_drop' {W T : Int} {xs : List Bool} {L : List Int} {k way : Int} (hw : way = 1 ∨ way = 2) (hl : lok W T xs L = true) (hc : canLay W T xs L k way = true) : freeN xs (laidL W T xs L k way) < freeN xs L := by
 have := free_drop (W := W) (T := T) (xs := xs) (L := L) (k := k) hw (by rw [layF_of hl]; exact hc)
 rwa [layF_of hl] at this
structure ItKeeps (S : Nat → Prop) (A B : World) : Prop where
 size : A.heap.size ≤ B.heap.size
 same : ∀ k, S k → k < A.heap.size → B.heap[k]? = A.heap[k]?
theorem ItKeeps.refl (S : Nat → Prop) (A : World) : ItKeeps S A A := ⟨Nat.le_refl _, fun _ _ _ => rfl⟩
theorem ItKeeps.trans {S : Nat → Prop} {A B C : World} (h : ItKeeps S A B) (k : ItKeeps S B C) : ItKeeps S A C :=
 ⟨Nat.le_trans h.size k.size, fun i hi hl => (k.same i hi (Nat.lt_of_lt_of_le hl h.size)).trans (h.same i hi hl)⟩
theorem ItKeeps.of_below {S : Nat → Prop} {A B : World} (h : Below A.heap.size A B) : ItKeeps S A B := ⟨h.size, fun k _ hk => h.block k hk⟩
theorem ItKeeps.heap {S : Nat → Prop} {A B : World} (h : ItKeeps S A B) {b : Nat} {o : Obj} (hb : S b) (hh : A.heap[b]? = some o) : B.heap[b]? = some o := (h.same b hb (heap_lt hh)).trans hh
theorem ItKeeps.bools {S : Nat → Prop} {A B : World} (h : ItKeeps S A B) {a : Option Addr} {xs : List Bool} (hS : ∀ b off, a = some ⟨b, off, none⟩ → S b) (hx : BoolsAt A a xs) : BoolsAt B a xs := by
 intro i hi
 obtain ⟨b, off, rfl, hc⟩ := hx i hi
 refine ⟨b, off, rfl, ?_⟩
 have hlt := World.block_lt_of_cell? A _ hc
 exact (World.cell?_of_block (w := A) (w' := B) (a := ⟨b, off + i, none⟩) (h.same b (hS b off rfl) hlt)).trans hc
theorem OwnsI.block {w : World} {B g n cap : Nat} {L : List Int} (h : OwnsI w B (.slice (some ⟨g, 0, none⟩) n cap) L) : ∃ cs, w.heap[g]? = some (.cells cs 3 (0, 0)) := by
 rcases h.2 with ⟨hn, _⟩ | ⟨g', cap', cur, hv, hb, hh, r⟩
 · cases hn
 · have e : g = g' := by simp only [Value.slice.injEq, Option.some.injEq, Addr.mk.injEq] at hv; exact hv.1.1
   exact ⟨cur, by rw [e]; exact hh⟩
theorem cell1 {w : World} {b : Nat} {v : Value} {t : TypeId} (h : w.heap[b]? = some (.cells #[v] t (0, 0))) : w.cell? ⟨b, 0, none⟩ = some v := by simp [World.cell?, h]

end Go.Proofs.YtpcajacekmidbaaGreat

namespace Go.Proofs.YtpcajacekmidbaaGreat
open Go.RowKit Go.Shelf
set_option linter.unusedVariables false
set_option maxRecDepth 100000
set_option linter.unusedSimpArgs false
attribute [local go_sem] Oper.semAt_some

theorem room_of_none' {F : Fence} (hd : F.depth = none) (k : Nat) : F.room k := fun d h => by rw [hd] at h; cases h
theorem RoundIn.anyDepth' {F : Fence} (hd : F.depth = none) {m m' : Nat} {P : Program} {l : Nat} {f : FuncId} {tmps : Array Value} {assign body : Code} {w : World} {R : Ending → World → Prop}
 (h : RoundIn F m P l f tmps assign body w R) : RoundIn F m' P l f tmps assign body w R := ⟨h.1, fun c cs _ => h.2 c cs (room_of_none' hd _)⟩
theorem YieldAt.anyDepth' {F : Fence} (hd : F.depth = none) {m : Nat} (m' : Nat) {P : Program} {l : Nat} {args : Array Value} {W : World} {R : Ending → World → Prop} (h : YieldAt F m P l args W R) : YieldAt F m' P l args W R := by
 obtain ⟨fn, tmps, assign, body, hy, hR⟩ := h
 exact ⟨fn, tmps, assign, body, hy, RoundIn.anyDepth' hd hR⟩

end Go.Proofs.YtpcajacekmidbaaGreat

namespace Go.Proofs.YtpcajacekmidbaaGreat
open Go.RowKit Go.Shelf
set_option linter.unusedVariables false
set_option maxRecDepth 100000
set_option linter.unusedSimpArgs false

def CallInv (B lo : Nat) (I : Nat → List (List Int) → World → Prop) : Prop :=
 ∀ hi pre A D row, I hi pre A → A.grownBy D row → (∀ r, row = some r → (lo ≤ r ∧ r < hi) ∨ (B ≤ r ∧ ∃ o : Obj, A.heap[r]? = some o ∧ o.isCells = false)) → I hi pre D
theorem CallInv.put {B lo : Nat} {I : Nat → List (List Int) → World → Prop} (h : CallInv B lo I) {hi : Nat} {pre : List (List Int)} {A : World} {l : Nat} {o : Obj} (o' : Obj) (hi' : I hi pre A) (hB : B ≤ l) (hl : A.heap[l]? = some o) (ho : o.isCells = false) : I hi pre (A.putObj l o') :=
 h hi pre A _ (some l) hi' (grownBy_putObj' A l o') (fun r e => by cases e; exact Or.inr ⟨hB, o, hl, ho⟩)

theorem keeps_low {A D : World} {row : Option Nat} {lo k : Nat} {o : Obj} (hg : A.grownBy D row) (hr : ∀ r, row = some r → lo ≤ r) (hk : k < lo) (h : A.heap[k]? = some o) : D.heap[k]? = some o :=
 (hg.block k (heap_lt h) (fun e => by have := hr k e.symm; omega)).trans h

end Go.Proofs.YtpcajacekmidbaaGreat

namespace Go.Proofs.YtpcajacekmidbaaGreat
open Go.RowKit Go.Shelf
set_option linter.unusedVariables false
set_option maxRecDepth 100000
set_option linter.unusedSimpArgs false
attribute [local go_sem] Oper.semAt_some

end Go.Proofs.YtpcajacekmidbaaGreat

namespace Go.Proofs.YtpcajacekmidbaaGreat
open Go.RowKit Go.Shelf
set_option linter.unusedVariables false
set_option maxRecDepth 100000
set_option linter.unusedSimpArgs false

structure RowsI (w : World) (B : Nat) (ws : List Value) (rows : List (List Int)) : Prop where
 len : ws.length = rows.length
 own : ∀ i, i < rows.length → OwnsI w B (ws.getD i (.slice none 0 0)) (rows.getD i [])
 apart : ∀ i j, i < j → j < rows.length → ∀ k, (ws.getD i (.slice none 0 0)).ownBlock = some k → (ws.getD j (.slice none 0 0)).ownBlock ≠ some k

def OwnsSS (w : World) (B : Nat) (v : Value) (rows : List (List Int)) : Prop := ∃ ws, w.ownsRow B 26 1 v rows.length ws ∧ RowsI w B ws rows

theorem RowsI.nil (w : World) (B : Nat) : RowsI w B [] [] := ⟨rfl, fun i h => absurd h (Nat.not_lt_zero i), fun i j _ h => absurd h (Nat.not_lt_zero j)⟩
theorem OwnsSS.nil (w : World) (B : Nat) : OwnsSS w B (.slice none 0 0) [] := ⟨[], World.ownsRow_nil _ _ _ _, RowsI.nil w B⟩
theorem RowsI.lower {w : World} {B B' : Nat} {ws : List Value} {rows : List (List Int)} (h : RowsI w B ws rows) (hB : B' ≤ B) : RowsI w B' ws rows := ⟨h.len, fun i hi => (h.own i hi).lower hB, h.apart⟩
theorem ownsRow_lower {w : World} {B B' n size : Nat} {e : TypeId} {v : Value} {xs : List Value} (h : w.ownsRow B e size v n xs) (hB : B' ≤ B) : w.ownsRow B' e size v n xs := by
 refine ⟨h.1, ?_⟩
 rcases h.2 with hn | ⟨g, cap, cur, hv, hb, r⟩
 · exact .inl hn
 · exact .inr ⟨g, cap, cur, hv, Nat.le_trans hB hb, r⟩
theorem OwnsSS.lower {w : World} {B B' : Nat} {v : Value} {rows : List (List Int)} (h : OwnsSS w B v rows) (hB : B' ≤ B) : OwnsSS w B' v rows := by
 obtain ⟨ws, h1, h2⟩ := h
 exact ⟨ws, ownsRow_lower h1 hB, h2.lower hB⟩
theorem RowsI.kept {w w' : World} {B : Nat} {ws : List Value} {rows : List (List Int)} {row : Option Nat} (h : RowsI w B ws rows) (hg : w.grownBy w' row) (hr : ∀ i, i < rows.length → ∀ k, (ws.getD i (.slice none 0 0)).ownBlock = some k → row ≠ some k) : RowsI w' B ws rows :=
 ⟨h.len, fun i hi => World.ownsRow.kept (h.own i hi) hg (by
  cases hk : (ws.getD i (.slice none 0 0)).ownBlock with
  | none => exact Or.inl rfl
  | some k => exact Or.inr (fun e => hr i hi k hk e.symm)), h.apart⟩
theorem RowsI.below {w w' : World} {B : Nat} {ws : List Value} {rows : List (List Int)} (h : RowsI w B ws rows) (hb : Below w.heap.size w w') : RowsI w' B ws rows := ⟨h.len, fun i hi => (h.own i hi).below hb, h.apart⟩
theorem OwnsSS.below {w w' : World} {B : Nat} {v : Value} {rows : List (List Int)} (h : OwnsSS w B v rows) (hb : Below w.heap.size w w') : OwnsSS w' B v rows := by
 obtain ⟨ws, h1, h2⟩ := h
 refine ⟨ws, ?_, h2.below hb⟩
 exact h1.kept (grown_of_below hb none) (by cases v.ownBlock <;> simp)
theorem RowsI.snoc {w : World} {B : Nat} {ws : List Value} {rows : List (List Int)} {v : Value} {M : List Int} (h : RowsI w B ws rows) (ho : OwnsI w B v M) (hf : ∀ i, i < rows.length → ∀ k, (ws.getD i (.slice none 0 0)).ownBlock = some k → v.ownBlock ≠ some k) : RowsI w B (ws ++ [v]) (rows ++ [M]) := by
 have gl : ∀ i, i < rows.length → (ws ++ [v]).getD i (.slice none 0 0) = ws.getD i (.slice none 0 0) := fun i hi => by
  simp [List.getD, List.getElem?_append_left (show i < ws.length by rw [h.len]; exact hi)]
 have gr : ∀ i, i < rows.length → (rows ++ [M]).getD i [] = rows.getD i [] := fun i hi => by
  simp [List.getD, List.getElem?_append_left hi]
 have gv : (ws ++ [v]).getD rows.length (.slice none 0 0) = v := by rw [← h.len]; simp [List.getD]
 have gm : (rows ++ [M]).getD rows.length [] = M := by simp [List.getD]
 refine ⟨by simp [h.len], fun i hi => ?_, fun i j hij hj k hk => ?_⟩
 · rw [List.length_append, List.length_singleton] at hi
   by_cases e : i < rows.length
   · rw [gl i e, gr i e]; exact h.own i e
   · obtain rfl : i = rows.length := by omega
     rw [gv, gm]; exact ho
 · rw [List.length_append, List.length_singleton] at hj
   rw [gl i (by omega)] at hk
   by_cases e : j < rows.length
   · rw [gl j e]; exact h.apart i j hij e k hk
   · obtain rfl : j = rows.length := by omega
     rw [gv]; exact hf i hij k hk
theorem RowsI.block {w : World} {B : Nat} {ws : List Value} {rows : List (List Int)} (h : RowsI w B ws rows) {i k : Nat} (hi : i < rows.length) (hk : (ws.getD i (.slice none 0 0)).ownBlock = some k) : B ≤ k ∧ ∃ cs, w.heap[k]? = some (.cells cs 3 (0, 0)) := by
 have ho := h.own i hi
 refine ⟨(World.ownsRow.lt ho k hk).1, ?_⟩
 rcases ho.2 with ⟨e, _⟩ | ⟨g, cap, cur, e, _, hh, _⟩
 · rw [e] at hk; cases hk
 · rw [e] at hk
   obtain rfl : g = k := by simpa [Value.ownBlock] using hk
   exact ⟨cur, hh⟩
theorem OwnsSS.keptBy {w w' : World} {B : Nat} {v : Value} {rows : List (List Int)} {row : Option Nat} (h : OwnsSS w B v rows) (hg : w.grownBy w' row) (hr : ∀ k, row = some k → k < B) : OwnsSS w' B v rows := by
 obtain ⟨ws, h1, h2⟩ := h
 refine ⟨ws, h1.kept hg ?_, h2.kept hg (fun i hi k hk e => by
  have h3 := (h2.block hi hk).1
  have := hr k e
  omega)⟩
 cases hk : v.ownBlock with
 | none => exact Or.inl rfl
 | some k => exact Or.inr (fun e => by
    have h3 := (World.ownsRow.lt h1 k hk).1
    have := hr k e.symm
    omega)
end Go.Proofs.YtpcajacekmidbaaGreat

namespace Go.Proofs.YtpcajacekmidbaaGreat
open Go.RowKit
set_option linter.unusedVariables false
set_option maxRecDepth 100000
set_option linter.unusedSimpArgs false

def allF (W T : Int) (xs : List Bool) : List (List Int) := if rv W T xs then allL W T xs (xs.length + 1) (bareL W T xs) else []
theorem allL_each {W T : Int} {xs : List Bool} : ∀ (f : Nat) (L : List Int), lok W T xs L = true → ∀ M, M ∈ allL W T xs f L → M.length = xs.length ∧ tok W T xs M = true
 | 0, L, _, M, hM => by simp [allL] at hM
 | f + 1, L, h, M, hM => by
   by_cases h0 : firstI xs L 0 xs.length < 0
   · rw [allL_done rfl h0] at hM
     simp only [List.mem_cons, List.not_mem_nil, or_false] at hM
     subst hM
     obtain ⟨_, hlen, _⟩ := lok_rv h
     refine ⟨hlen, ?_⟩
     unfold tok
     rw [h, hlen]
     simpa using h0
   · rw [allL_succ rfl h0, List.mem_append] at hM
     rcases hM with hM | hM
     all_goals
      split at hM
      · rename_i hc
        exact allL_each f _ (lok_laid h hc) M hM
      · simp at hM
theorem allF_each {W T : Int} {xs : List Bool} {M : List Int} (hM : M ∈ allF W T xs) : M.length = xs.length ∧ tok W T xs M = true := by
 unfold allF at hM
 split at hM
 · rename_i h
   exact allL_each _ _ (by rw [lok_bareL]; exact h) M hM
 · simp at hM

theorem BoolsAt.lt {w : World} {a : Option Addr} {n : Nat} {xs : List Bool} {W T : Int} {L : List Int} (h : BoolsAt w a xs) (hn : n = xs.length) (hl' : L.length = n) (hl : lok W T xs L = true) {b off : Nat} (e : a = some ⟨b, off, none⟩) : b < w.heap.size := by
 obtain ⟨hr, _, _⟩ := lok_rv hl
 obtain ⟨v1, v2, v3, v4, v5, _⟩ := rv_true hr
 have hn0 : 0 < n := rv_pos v1 v3 (by rw [hn]; exact v5)
 obtain ⟨b', off', e', hc⟩ := h 0 (by omega)
 rw [e'] at e
 cases e
 exact World.block_lt_of_cell? w _ hc
theorem RowsI.lt {w : World} {B : Nat} {ws : List Value} {rows : List (List Int)} (h : RowsI w B ws rows) {i b : Nat} (hi : i < rows.length) (hb : (ws.getD i (.slice none 0 0)).ownBlock = some b) : b < w.heap.size := by
 obtain ⟨_, cs, hc⟩ := h.block hi hb
 exact heap_lt hc
theorem RowsI.one {w : World} {B : Nat} {v : Value} {M : List Int} (h : OwnsI w B v M) : RowsI w B [v] [M] :=
 RowsI.snoc (RowsI.nil w B) h (fun i hi => absurd hi (Nat.not_lt_zero i))

theorem allF_row {W T : Int} {xs : List Bool} {i : Nat} (hi : i < (allF W T xs).length) : ((allF W T xs).getD i []).length = xs.length ∧ tok W T xs ((allF W T xs).getD i []) = true := by
 have e : (allF W T xs).getD i [] = (allF W T xs)[i] := by simp [List.getD, hi]
 rw [e]
 exact allF_each (List.getElem_mem hi)
end Go.Proofs.YtpcajacekmidbaaGreat

namespace Go.Proofs.YtpcajacekmidbaaGreat
open Go.RowKit
set_option linter.unusedVariables false
set_option maxRecDepth 100000
set_option linter.unusedSimpArgs false

end Go.Proofs.YtpcajacekmidbaaGreat

namespace Go.Proofs.YtpcajacekmidbaaGreat
open Go.RowKit
set_option linter.unusedVariables false
set_option maxRecDepth 100000
set_option linter.unusedSimpArgs false

theorem all4 {p : Nat → Nat → Nat → Nat → Bool} (h : ((List.range 7).all fun W => (List.range 7).all fun T => (List.range (W * T)).all fun k => (List.range 5).all fun v => p W T k v) = true) {W T k v : Nat} (hW : W ≤ 6) (hT : T ≤ 6) (hk : k < W * T) (hv : v ≤ 4) : p W T k v = true := by
 have h1 := List.all_eq_true.1 h W (List.mem_range.2 (by omega))
 have h2 := List.all_eq_true.1 h1 T (List.mem_range.2 (by omega))
 have h3 := List.all_eq_true.1 h2 k (List.mem_range.2 hk)
 exact List.all_eq_true.1 h3 v (List.mem_range.2 (by omega))
end Go.Proofs.YtpcajacekmidbaaGreat

namespace Go.Proofs.YtpcajacekmidbaaGreat
open Go.RowKit
set_option linter.unusedVariables false
set_option maxRecDepth 100000
set_option linter.unusedSimpArgs false

theorem tok_lokP {W T : Int} {xs : List Bool} {L : List Int} (h : tok W T xs L = true) : lok W T xs L = true := by unfold tok at h; simp only [Bool.and_eq_true] at h; exact h.1
theorem tok_cell {W T : Int} {xs : List Bool} {L : List Int} (h : tok W T xs L = true) {i : Nat} (hi : i < xs.length) (hx : xs.getD i false = true) : L.getD i 0 ≠ 0 := by
 have hl := tok_lokP h
 obtain ⟨_, hlen, _⟩ := lok_rv hl
 intro h0
 have hf : freeB xs L i = true := by unfold freeB; rw [hx, h0]; rfl
 unfold tok at h
 rw [hl, Bool.true_and, decide_eq_true_eq] at h
 rcases first_cases xs L 0 L.length with ⟨_, hno⟩ | ⟨k, _, _, hk, _⟩
 · have := hno i (Nat.zero_le _) (by omega)
   rw [hf] at this; cases this
 · rw [hk] at h; omega
end Go.Proofs.YtpcajacekmidbaaGreat

namespace Go.Proofs.YtpcajacekmidbaaGreat
open Go.RowKit
set_option linter.unusedVariables false
set_option maxRecDepth 100000
set_option linter.unusedSimpArgs false

def Has (L M : List Int) : Prop := ∀ k, L.getD k 0 ≠ 0 → M.getD k 0 = L.getD k 0
theorem canLay_of {W T : Int} {xs : List Bool} {L : List Int} {c o : Nat} {way : Int} (hr : rv W T xs = true) (hc : c < xs.length) (hs : stepI W T c way = o) (h1 : freeB xs L c = true) (h2 : freeB xs L o = true) : canLay W T xs L c way = true ∧ laidL W T xs L c way = (L.set c way).set o (backI way) := by
 have hcell : cellB W T xs.length c way = o := by unfold cellB; rw [if_pos ⟨by omega, by omega⟩]; exact hs
 have h : canLay W T xs L c way = true := canLay_yes (by rw [hcell]; omega) (by simpa using h1) (by rw [hcell]; simpa using h2)
 refine ⟨h, ?_⟩
 unfold laidL
 rw [if_pos h, hcell]
 rfl
theorem allL_mem {W T : Int} {xs : List Bool} : ∀ (f : Nat) (L M : List Int), freeN xs L < f → lok W T xs L = true → tok W T xs M = true → Has L M → M ∈ allL W T xs f L
 | 0, L, M, h, _, _, _ => absurd h (Nat.not_lt_zero _)
 | f + 1, L, M, hf, hl, hM, hh => by
   have hlM := tok_lokP hM
   obtain ⟨hr, hlen, _⟩ := lok_rv hl
   obtain ⟨_, hlenM, _⟩ := lok_rv hlM
   obtain ⟨v1, v2, v3, v4, v5, _⟩ := rv_true hr
   rcases first_cases xs L 0 xs.length with ⟨h0, hno⟩ | ⟨c, _, hc, h0, hfc, hno⟩
   · rw [allL_done h0 (by omega)]
     have e : M = L := by
      refine ext_getD (by rw [hlenM, hlen]) fun k hk => ?_
      rw [hlenM] at hk
      by_cases hz : L.getD k 0 = 0
      · have hx : xs.getD k false = false := by
         cases hx : xs.getD k false
         · rfl
         · have h1 := hno k (Nat.zero_le _) hk
           unfold freeB at h1
           rw [hx, hz] at h1; cases h1
        rw [hz]
        by_cases hm : M.getD k 0 = 0
        · exact hm
        · obtain ⟨_, _, _, _, hx', _⟩ := lok_at hlM hk hm
          rw [hx] at hx'; cases hx'
      · exact hh k hz
     rw [e]; exact List.mem_cons_self
   · rw [allL_succ h0 (by omega)]
     obtain ⟨hxc, hLc⟩ := free_zero hfc
     have hMc := tok_cell hM hc hxc
     obtain ⟨o, hs, ho, hne, _, hxo, hMo, hback, w1, w4⟩ := lok_at hlM hc hMc
     have hLo : L.getD o 0 = 0 := by
      by_cases hz : L.getD o 0 = 0
      · exact hz
      · exfalso
        have e1 := hh o hz
        obtain ⟨o2, hs2, _, _, _, _, hb2, _, _, _⟩ := lok_at hl ho hz
        rw [← e1, hMo, hback] at hs2
        have : o2 = c := by omega
        subst this
        rw [← e1, hMo, back_back ⟨w1, w4⟩] at hb2
        exact hMc (by rw [← hb2]; exact hLc)
     have hfo : freeB xs L o = true := by unfold freeB; rw [hxo, hLo]; rfl
     have hway : M.getD c 0 = 1 ∨ M.getD c 0 = 2 := by
      have hoc : c < o := by
       rcases Nat.lt_or_ge o c with h | h
       · have := hno o (Nat.zero_le _) h
         rw [hfo] at this; cases this
       · omega
      have : M.getD c 0 = 1 ∨ M.getD c 0 = 2 ∨ M.getD c 0 = 3 ∨ M.getD c 0 = 4 := by omega
      rcases this with e | e | e | e
      · exact Or.inl e
      · exact Or.inr e
      · rw [e] at hs; have := step_three hs (by omega); omega
      · rw [e] at hs; have := step_four hs (by omega); omega
     obtain ⟨hcan, hlaid⟩ := canLay_of hr hc hs hfc hfo
     have hhas : Has (laidL W T xs L c (M.getD c 0)) M := by
      rw [hlaid]
      intro k hk
      rw [getD_set2 (by rw [hlen]; exact hc) (by rw [hlen]; exact ho)] at hk ⊢
      by_cases e1 : k = o
      · rw [if_pos e1, e1, hMo]
      · rw [if_neg e1] at hk ⊢
        by_cases e2 : k = c
        · rw [if_pos e2, e2]
        · rw [if_neg e2] at hk ⊢; exact hh k hk
     have hrec := allL_mem f (laidL W T xs L c (M.getD c 0)) M (by have := free_drop' hway hl hcan; omega) (lok_laid hl hcan) hM hhas
     rw [List.mem_append]
     rcases hway with e | e
     · rw [e] at hcan hrec
       exact Or.inl (by rw [if_pos hcan]; exact hrec)
     · rw [e] at hcan hrec
       exact Or.inr (by rw [if_pos hcan]; exact hrec)
theorem bare_zero (W T : Int) (xs : List Bool) (k : Nat) : (bareL W T xs).getD k 0 = 0 := by
 unfold bareL
 split
 · by_cases h : k < xs.length
   · simp [List.getD, h]
   · simp [List.getD, h]
 · simp [List.getD]
theorem mem_allF {W T : Int} {xs : List Bool} {M : List Int} (h : tok W T xs M = true) : M ∈ allF W T xs := by
 have hl := tok_lokP h
 obtain ⟨hr, _, _⟩ := lok_rv hl
 unfold allF
 rw [if_pos hr]
 exact allL_mem _ _ _ (by have := freeN_le xs (bareL W T xs); omega) (by rw [lok_bareL]; exact hr) h (fun k hk => absurd (bare_zero W T xs k) hk)
end Go.Proofs.YtpcajacekmidbaaGreat

namespace Go.Proofs.YtpcajacekmidbaaGreat
open Go.RowKit
set_option linter.unusedVariables false
set_option maxRecDepth 100000
set_option linter.unusedSimpArgs false

theorem hts_mod {W T : Int} {xs : List Bool} {L M A B : List Int} (hs : simpleB W T xs = true) (hL : tok W T xs L = true) (hM : tok W T xs M = true) (hA : HtsR W T xs L A) (hB : HtsR W T xs M B) :
 A.length = B.length ∧ ∀ k, k < A.length → (A.getD k 0 - B.getD k 0) % 4 = 0 ∧ (-200 ≤ A.getD k 0 - B.getD k 0 ∧ A.getD k 0 - B.getD k 0 ≤ 200) := by
 have hoA := (tby_of hs hL hA).1
 have hoB := (tby_of hs hM hB).1
 have hl := hok_length hoA hoB
 obtain ⟨N, fk, hN, hf⟩ := hokP_size hs
 have a := hok_to hN hf hoA
 have b := hok_to hN hf hoB
 refine ⟨hl, fun k hk => ?_⟩
 have e1 := hok_entry hoA hk
 have e2 := hok_entry hoB (k := k) (by omega)
 refine ⟨?_, by omega, by omega⟩
 cases ha : hAt W T xs k
 · rw [a.off k (by rw [← a.len]; exact hk) ha, b.off k (by rw [← a.len]; exact hk) ha]; rfl
 · exact hok_mod a b k ha
end Go.Proofs.YtpcajacekmidbaaGreat

namespace Go.Proofs.YtpcajacekmidbaaGreat
open Go.RowKit
set_option linter.unusedVariables false
set_option maxRecDepth 100000
set_option linter.unusedSimpArgs false

set_option maxHeartbeats 2000000 in
theorem equalI_any (la : Option Addr) (m ca : Nat) (A : List Int) (lb : Option Addr) (q cb : Nat) (B : List Int) (w : World) (hm : m = A.length) (hm' : m ≤ 1048576) (hq : q = B.length) (hq' : q ≤ 1048576) (ha : IntsAt w la A) (hb : IntsAt w lb B) :
 Calls Tryz.prog 93 #[.slice la m ca, .slice lb q cb] w fun e w' => e = .returned (.bool (decide (A = B))) ∧ Below w.heap.size w w' := by
 have HM := Lib.hid hm; clear hm
 have HQ := Lib.hid hq; clear hq
 have HA := Lib.hid ha; clear ha
 have HB := Lib.hid hb; clear hb
 by_cases hne : m = q
 · subst hne
   go_enter Tryz.func93, Tryz.ntmps93
   go_wp2
   go_loopw [13] (fun i wr => ∃ k : Nat, k ≤ m ∧ i = .int .i64 k ∧ Hid (∀ j, j < k → A.getD j 0 = B.getD j 0) ∧ Below w.heap.size w wr) (fun i _ => m - (intOf i).toNat)
   case atStart => exact ⟨0, Nat.zero_le _, rfl, (fun j hj => absurd hj (Nat.not_lt_zero j)), Below.refl _ _⟩
   case round =>
    rename World => wo
    obtain ⟨k, hk, rfl, HE, bo⟩ := hrel
    by_cases hlt : k < m
    · obtain ⟨b1, o1, rfl, hx⟩ := (HA.out.below bo) k (by rw [← HM.out]; exact hlt)
      obtain ⟨b2, o2, rfl, hy⟩ := (HB.out.below bo) k (by rw [← HQ.out]; exact hlt)
      obtain ⟨x, hxx⟩ : ∃ x, x = A.getD k 0 := ⟨_, rfl⟩
      obtain ⟨y, hyy⟩ : ∃ y, y = B.getD k 0 := ⟨_, rfl⟩
      rw [← hxx] at hx; rw [← hyy] at hy
      have HX := Lib.hid hxx; have HY := Lib.hid hyy; clear hxx hyy
      have BO := Lib.hid bo; clear bo
      have e1 : (k : Int) < m := by omega
      by_cases e : x = y
      · have t1 : (x == y) = true := by simpa using e
        have t2 : (x != y) = false := by simpa using e
        have HE2 : Hid (∀ j, j < k + 1 → A.getD j 0 = B.getD j 0) := fun j hj => by
         by_cases ej : j = k
         · subst ej; rw [← HX.out, ← HY.out]; exact e
         · exact HE.out j (by omega)
        clear e
        go_wp2
        go_quiet (fail)
        go_wp2
        go_roundw
        case rel => exact ⟨k + 1, by omega, by go_num, HE2, below_drewN BO.out _⟩
        case measure => simp [intOf]; omega
      · have t1 : (x == y) = false := by simpa using e
        have t2 : (x != y) = true := by simpa using e
        have HD : Hid (decide (A = B) = false) := decide_eq_false fun h => e (by rw [HX.out, HY.out, h])
        clear e
        go_wp2
        go_quiet (fail)
        go_wp2
        go_ret
        exact ⟨ret_bool HD.out.symm, below_drewN BO.out _⟩
    · have HD : Hid (decide (A = B) = true) := decide_eq_true (ext_getD (by rw [← HM.out, ← HQ.out]) fun j hj => HE.out j (by rw [← HM.out] at hj; omega))
      have BO := Lib.hid bo; clear bo
      go_wp2
      go_ret
      exact ⟨ret_bool HD.out.symm, BO.out⟩
 · have HD : Hid (decide (A = B) = false) := decide_eq_false fun h => hne (by rw [HM.out, HQ.out, h])
   have t1 : (m == q) = false := by simpa using hne
   have t2 : (m != q) = true := by simpa using hne
   have t3 : ((m : Int) == q) = false := by simp; omega
   have t4 : ((m : Int) != q) = true := by simp; omega
   clear hne
   go_enter Tryz.func93, Tryz.ntmps93
   go_wp2
   go_ret
   exact ⟨ret_bool HD.out.symm, Below.refl _ _⟩

set_option maxHeartbeats 2000000 in
theorem riseUnder_any (k kt r cl wy : Int) (b : Bool) (la : Option Addr) (m lcap : Nat) (L : List Int) (w : World) (hr : r = 1 ∨ r = -1) (hm : m = L.length) (hm' : m ≤ 1048576) (hc : b = true → 0 ≤ cl ∧ cl < m) (hl : IntsAt w la L) :
 Calls Tryz.prog 80 #[.agg #[.int .i64 k, .int .i64 kt, .int .i64 r, .bool b, .int .i64 cl, .int .i64 wy], .slice la m lcap] w fun e w' => e = .returned (.int .i64 (if b && (L.getD cl.toNat 0 == wy) then -3 * r else r)) ∧ Below w.heap.size w w' := by
 have HR := Lib.hid hr; clear hr
 have HM := Lib.hid hm; clear hm
 have p1 := heap_new w (.cells #[.int .i64 k, .int .i64 kt, .int .i64 r, .bool b, .int .i64 cl, .int .i64 wy] 77)
 obtain ⟨c0, c1, c2, c3, c4, c5⟩ := cells6 p1
 have B1 := Lib.hid (below1 w (.cells #[.int .i64 k, .int .i64 kt, .int .i64 r, .bool b, .int .i64 cl, .int .i64 wy] 77))
 cases b
 · rw [Bool.false_and, if_neg (by simp)]
   clear hc hl
   go_enter Tryz.func80, Tryz.ntmps80
   go_wp2_with fail
   go_big_quiet (fail)
   go_wp2
   go_ret
   exact ⟨rfl, below_drewN B1.out _⟩
 · obtain ⟨h0, h1⟩ := hc rfl
   obtain ⟨q, hq⟩ := Int.eq_ofNat_of_zero_le h0
   subst hq
   have hqm : q < m := by omega
   obtain ⟨lb, lo, rfl, hx0⟩ := hl q (by rw [← HM.out]; exact hqm)
   have hx := cell_later B1.out hx0
   rw [Bool.true_and, Int.toNat_natCast]
   obtain ⟨v, hv⟩ : ∃ v, v = L.getD q 0 := ⟨_, rfl⟩
   rw [← hv] at hx ⊢
   clear hv hl hx0
   by_cases e : v = wy
   · subst e
     rw [beq_self_eq_true, if_pos rfl]
     clear hc
     go_enter Tryz.func80, Tryz.ntmps80
     go_wp2_with fail
     go_big_quiet (fail)
     go_wp2_with fail
     refine (jumpOf_any _ _ _ _ _ _ _ HR.out).mono ?_; rintro e w2 ⟨rfl, hb2⟩
     go_wp2
     go_ret
     exact ⟨rfl, below_seq (below_drewN B1.out _) hb2⟩
   · have t1 : (v == wy) = false := by simpa using e
     rw [t1, if_neg (by simp)]
     clear hc e
     go_enter Tryz.func80, Tryz.ntmps80
     go_wp2_with fail
     go_big_quiet (fail)
     go_wp2
     go_ret
     exact ⟨rfl, below_drewN B1.out _⟩

end Go.Proofs.YtpcajacekmidbaaGreat

namespace Go.Proofs.YtpcajacekmidbaaGreat
open Go.RowKit
set_option linter.unusedVariables false
set_option maxRecDepth 100000
set_option linter.unusedSimpArgs false

theorem OwnsSd.kept {w w' : World} {B : Nat} {v : Value} {W T : Int} {xs : List Bool} {l : List (Nat × Bool)} {g : Nat} (h : OwnsSd w B v W T xs l) (hg : w.grownBy w' (some g)) (hne : v.ownBlock ≠ some g) : OwnsSd w' B v W T xs l :=
 World.ownsRow.kept h hg (Or.inr hne)

end Go.Proofs.YtpcajacekmidbaaGreat

namespace Go.Proofs.YtpcajacekmidbaaGreat
open Go.RowKit
set_option linter.unusedVariables false
set_option maxRecDepth 100000
set_option linter.unusedSimpArgs false

def tlowF (hi : Bool) (W T : Int) (xs : List Bool) (A B : List Int) : List Int × Bool := tbyF W T xs (bothF hi W T xs A B)
end Go.Proofs.YtpcajacekmidbaaGreat

namespace Go.Proofs.YtpcajacekmidbaaGreat
open Go.RowKit
set_option linter.unusedVariables false
set_option maxRecDepth 100000
set_option linter.unusedSimpArgs false

section
variable {W T : Int} {xs : List Bool} {L M A B : List Int}
theorem low_mk (hi : Bool) (hs : simpleB W T xs = true) (hL : tok W T xs L = true) (hM : tok W T xs M = true) (hA : HtsR W T xs L A) (hB : HtsR W T xs M B) :
 ∃ X, tlowF hi W T xs A B = (X, true) ∧ tok W T xs X = true ∧ HtsR W T xs X (bothL hi A B A.length) ∧ X.length = xs.length := by
 have oA := (tby_of hs hL hA).1
 have oB := (tby_of hs hM hB).1
 have e : bothF hi W T xs A B = bothL hi A B A.length := by unfold bothF; rw [oA, oB]; rfl
 have ho := both_hok hi oA oB
 obtain ⟨_, h2, h3, h4⟩ := tby_to ho
 refine ⟨(tbyF W T xs (bothL hi A B A.length)).1, ?_, h3, h4, (lok_rv (tok_lok1 h3)).2.1⟩
 unfold tlowF
 rw [e, ← h2]
end
theorem pick_le (hi : Bool) (x y : Int) : if hi then x ≤ pickI hi x y ∧ y ≤ pickI hi x y else pickI hi x y ≤ x ∧ pickI hi x y ≤ y := by
 unfold pickI
 cases hi
 · simp only [Bool.false_eq_true, if_false]; split <;> omega
 · simp only [if_true]; split <;> omega
end Go.Proofs.YtpcajacekmidbaaGreat
