/- The law FnCellsBeside: its walk. -/
import Derived.Test.YthlagmnnkckcnaaDraw8
import Derived.Test.YthlagmnnkckcnaaSame
import Derived.Test.YthlagmnnkckcnaaOrder
import Derived.Test.YthlagmnnkckcnaaBeside
import Derived.Test.YthlagmnnkckcnaaTill
import Derived.Maps.AppendAt
import Derived.Deep.AppendLies
namespace Go.Proofs.Ythlagmnnkckcnaa
open Go.RowKit
set_option linter.unusedVariables false
set_option maxRecDepth 100000
set_option linter.unusedSimpArgs false

theorem mem_besF {W T : Int} {xs : List Bool} {L : List Int} {c : Int} : c ∈ besF W T xs L ↔ rv W T xs = true ∧ ∃ k : Nat, c = k ∧ k < xs.length ∧ xs.getD k false = true ∧ ∃ d : Nat, d < 4 ∧ 0 ≤ stepI W T k ((d : Int) + 1) ∧ stepI W T k ((d : Int) + 1) ∈ L := by
  unfold besF besK
  constructor
  · split
    · rename_i h
      intro hc
      obtain ⟨k, hk, rfl⟩ := List.mem_map.1 hc
      rw [List.mem_filter, List.mem_range, Bool.and_eq_true] at hk
      exact ⟨h, k, rfl, hk.1, hk.2.1, near_iff.1 hk.2.2⟩
    · intro hc; cases hc
  · rintro ⟨h, k, rfl, hk, hx, hd⟩
    rw [h, if_pos rfl]
    exact List.mem_map.2 ⟨k, by rw [List.mem_filter, List.mem_range, Bool.and_eq_true]; exact ⟨hk, hx, near_iff.2 hd⟩, rfl⟩
theorem besF_asc (W T : Int) (xs : List Bool) (L : List Int) : (besF W T xs L).Pairwise (· < ·) := by
  unfold besF besK; split
  · rw [List.pairwise_map]
    exact ((List.pairwise_lt_range).filter _).imp (fun h => by omega)
  · exact List.Pairwise.nil
theorem asc_get7 {L : List Int} (h : L.Pairwise (· < ·)) {j : Nat} (hj : j + 1 < L.length) : L.getD j 0 < L.getD (j + 1) 0 := by
  have := List.pairwise_iff_getElem.1 h j (j + 1) (by omega) hj (by omega)
  simpa [List.getD, show j < L.length by omega, hj] using this
/-- Whether the j-th of some cells is a cell of the field, and a further cell is beside it, or it does not belong to the region. -/
def tellJ (xs : List Bool) (back L : List Int) (j : Nat) : Bool := decide (0 ≤ L.getD j 0) && decide (L.getD j 0 < xs.length) && (back.contains (L.getD j 0) || !(xs.getD (L.getD j 0).toNat false))
def someJ (xs : List Bool) (back L : List Int) (j : Nat) : Bool := (List.range j).any (tellJ xs back L)
theorem someJ_succ (xs : List Bool) (back L : List Int) (j : Nat) : someJ xs back L (j + 1) = (someJ xs back L j || tellJ xs back L j) := by
  unfold someJ; rw [List.range_succ, List.any_append]; simp
theorem someJ_all {W T : Int} {xs : List Bool} {L : List Int} {c : Int} (h : c ∈ besF W T xs L) : someJ xs (besF W T xs [c]) L L.length = true := by
  obtain ⟨hr, k, rfl, hk, hx, d, hd, h0, hm⟩ := mem_besF.1 h
  obtain ⟨v1, v2, v3, v4, v5, _⟩ := rv_true hr
  obtain ⟨j, hj, hej⟩ := List.getElem_of_mem hm
  have hsb := step_bd (W := W) (T := T) (k := (k : Int)) (way := (d : Int) + 1) v1 (by omega) (by rw [← v5]; omega)
  obtain ⟨v, hv⟩ := Int.eq_ofNat_of_zero_le h0
  have hvn : v < xs.length := by omega
  have hget : L.getD j 0 = v := by rw [List.getD_eq_getElem?_getD, List.getElem?_eq_getElem hj, Option.getD_some, hej, hv]
  unfold someJ
  rw [List.any_eq_true]
  refine ⟨j, List.mem_range.2 hj, ?_⟩
  unfold tellJ
  rw [hget, decide_eq_true (by omega), decide_eq_true (by omega), Int.toNat_natCast]
  cases hxv : xs.getD v false
  · simp
  · have hb : ((v : Int)) ∈ besF W T xs [(k : Int)] := by
      refine mem_besF.2 ⟨hr, v, rfl, hvn, hxv, ?_⟩
      have hbk := st_back (T := T) (k := (k : Int)) v1 v2 (by omega) (by rw [← v5]; omega) (way := (d : Int) + 1) ⟨by omega, by omega⟩ h0
      rw [hv] at hbk
      obtain ⟨d', hd', e⟩ : ∃ d' : Nat, d' < 4 ∧ backI ((d : Int) + 1) = (d' : Int) + 1 := by
        have : d = 0 ∨ d = 1 ∨ d = 2 ∨ d = 3 := by omega
        rcases this with rfl | rfl | rfl | rfl
        · exact ⟨2, by decide, by decide⟩
        · exact ⟨3, by decide, by decide⟩
        · exact ⟨0, by decide, by decide⟩
        · exact ⟨1, by decide, by decide⟩
      rw [e] at hbk
      exact ⟨d', hd', by rw [hbk]; omega, by rw [hbk]; simp⟩
    rw [List.contains_iff_mem.2 hb]; simp
theorem besF_more {W T : Int} {xs : List Bool} {L : List Int} {c v : Int} (h : c ∈ besF W T xs L) : (besF W T xs (L ++ [v])).contains c = true := by
  rw [List.contains_iff_mem]
  obtain ⟨hr, k, rfl, hk, hx, d, hd, h0, hm⟩ := mem_besF.1 h
  exact mem_besF.2 ⟨hr, k, rfl, hk, hx, d, hd, h0, List.mem_append_left _ hm⟩

/-- An append to a row of the call's own, of no number too, as a step of a region. -/
theorem step_app7 {P : Program} (w : World) {ops : Array Oper} {o : Oper} {a : Act} {K : Act → World → Prop} {Q : Exit → Act → World → Prop} {E : Prop} (hgd : o.guard = none) (s x : Operand) (t : TypeId)
    (ho : o.op = .call { callee := .builtin .append, args := #[s, x], argTypes := #[t, t] })
    (base : Nat) (e : TypeId) (i : TypeInfo) (z : Value) (bytes : Nat) (ht : P.underlying t = some (.slice e)) (hi : P.info? e = some i) (hz : i.zero = some z)
    (hsize : i.size = 1) (hby : i.bytes = bytes) (hzs : z.cells.size = 1)
    (v : Value) (n : Nat) (xs : List Value) (hs : a.eval s = v) (hown : w.ownsRow base e 1 v n xs)
    (ad : Addr) (m c : Nat) (news : List Value) (hx : a.eval x = .slice (some ad) m c) (hl : news.length = m * 1) (hnews : ∀ j u, news[j]? = some u → w.cell? (ad.add j) = some u) (h1 : ∀ u ∈ news, u.oneCell' = true)
    (h63 : n + m ≤ maxLen) (hbytes : (n + m) * bytes ≤ 140737488355328) (hbase : base ≤ w.heap.size)
    (h : ∀ v' w', w'.ownsRow base e 1 v' (n + m) (xs ++ news) → w.grownBy w' v.ownBlock → K (a.put o.dst v') w') :
    if Region.wanted o (yielded ops a.tmps) = true then Oper.wp P o a w K Q else E := by
  rw [if_pos (by simp [Region.wanted, hgd])]
  obtain ⟨v', w', hr, h2, h3, _, _⟩ := run_append_own_at (P := P) w base t o.type e i z 1 bytes ht hi hz hsize hby hzs (by decide) v n xs hown ad m c news hl hnews h1 h63 hbytes hbase
  simp only [Oper.wp, execOp, ho, hs, hx, resolve, invoke, builtin, Sem.run_bind, Sem.run_pure, Result.andThen_ok, List.map_toArray, List.map_cons, List.map_nil, hr]
  exact h v' w' h2 h3

theorem sizeX (w : World) (o : Obj) : (w.alloc o).heap.size = w.heap.size + 1 := by simp
theorem one_cellX {w : World} {b : Nat} {x : Int} (h : w.cell? ⟨b, 0, none⟩ = some (.int .i64 x)) : ∀ j u, [Value.int .i64 x][j]? = some u → w.cell? ((⟨b, 0, none⟩ : Addr).add j) = some u := by
  intro j u hj
  cases j with
  | zero =>
    simp at hj
    subst hj
    have e : (⟨b, 0, none⟩ : Addr).add 0 = ⟨b, 0, none⟩ := by unfold Addr.add; split <;> simp_all
    rw [e]; exact h
  | succ j => simp at hj
theorem new_cellX (w : World) (x : Int) : (w.alloc (.cells #[.int .i64 x] 3)).cell? ⟨w.heap.size, 0, none⟩ = some (.int .i64 x) := by
  have h := new_int w x 0 _ rfl
  have e : (⟨w.heap.size, 0, none⟩ : Addr).add 0 = ⟨w.heap.size, 0, none⟩ := by unfold Addr.add; split <;> simp_all
  rw [e] at h; exact h
theorem int1X (w : World) (x : Int) : IntsAt (w.alloc (.cells #[.int .i64 x] 3)) (some ⟨w.heap.size, 0, none⟩) [x] := by
  intro i hi
  obtain rfl : i = 0 := by simp at hi; omega
  exact ⟨w.heap.size, 0, rfl, by simp⟩
theorem ints_newsX {w : World} {b off : Nat} {L : List Int} (h : IntsAt w (some ⟨b, off, none⟩) L) : ∀ j u, (L.map (Value.int .i64))[j]? = some u → w.cell? ((⟨b, off, none⟩ : Addr).add j) = some u := ints_news h

set_option maxHeartbeats 4000000 in
theorem promCellsBeside_walk (cb : Option Addr) (n cap : Nat) (zs : List Int) (w : World) (hn : n = zs.length) (hn' : n ≤ maxLen) (hcap : n ≤ cap) (hb : BytesAt w cb zs) :
    Calls Try.prog 4 #[.slice cb n cap] w fun e w' => e = .returned (.bool true) ∧ Below w.heap.size w w' := by
  obtain ⟨i0, hi, hz0, hz1, hz2⟩ := info_parts infoInt
  have HN := Lib.hid hn; clear hn
  have HB := Lib.hid hb; clear hb
  by_cases hbig : 1048576 < n
  · unfold maxLen at hn'
    go_enter Try.func4, Try.ntmps4
    go_wp2
    go_ret
    exact ⟨rfl, Below.refl _ _⟩
  have hsm : n ≤ 1048576 := by omega
  clear hbig hn'
  go_enter Try.func4, Try.ntmps4
  go_wp2_with fail
  refine (drawCellsBeside_any _ _ _ zs _ HN.out hsm hcap HB.out).mono ?_; rintro e w1 ⟨W0, T0, a, m, c, xs, ca, cm, ccap, C, rfl, hm, h36, hs, ho, hcm, h37, hoc, ⟨cg, rfl⟩, b1⟩
  have HM := Lib.hid hm; clear hm
  have HCM := Lib.hid hcm; clear hcm
  have AX := Lib.hid (OwnsB.at ho); clear ho
  have CX := Lib.hid (OwnsI.at hoc); clear hoc
  have hI : Hid (∀ (la : Option Addr) (lm lcap : Nat) (L : List Int) (w : World), lm = L.length → lm ≤ 1048576 → BoolsAt w a xs → IntsAt w la L → Calls Try.prog 19 #[.agg #[.int .i64 W0, .int .i64 T0, .slice a m c], .slice la lm lcap] w (RetL w (besF W0 T0 xs L).length (besF W0 T0 xs L))) := fun la lm lcap L w h1 h2 h3 h4 => iCellsBeside_ret W0 T0 a m c xs la lm lcap L w HM.out (by omega) h1 h2 h3 h4
  have hlen := besF_le W0 T0 xs C
  rw [← HM.out] at hlen
  have hasc := besF_asc W0 T0 xs C
  have hno : rv W0 T0 xs = false → (besF W0 T0 xs C).length = 0 := fun h => by unfold besF; rw [h]; rfl
  have hfacts : ∀ v, v ∈ besF W0 T0 xs C → (besF W0 T0 xs (C ++ [0])).contains v = true ∧ someJ xs (besF W0 T0 xs [v]) C C.length = true := fun v hv => ⟨besF_more hv, someJ_all hv⟩
  have hmore := besF_le W0 T0 xs (C ++ [0])
  rw [← HM.out] at hmore
  have hsp := fun w h1 h2 => sCellsBeside_ret W0 T0 a m c xs (some ⟨cg, 0, none⟩) cm ccap C w HM.out (by omega) HCM.out (by omega) h1 h2
  have hip := fun w h1 h2 => hI.out (some ⟨cg, 0, none⟩) cm ccap C w HCM.out (by omega) h1 h2
  have HFACTS := Lib.hid hfacts; clear hfacts
  have HNO := Lib.hid hno; clear hno
  have HASC := Lib.hid hasc; clear hasc
  obtain ⟨Lb, hLb⟩ : ∃ Lb, Lb = besF W0 T0 xs C := ⟨_, rfl⟩
  rw [← hLb] at HFACTS HNO HASC hlen hsp hip
  obtain ⟨Mo, hMo⟩ : ∃ Mo, Mo = besF W0 T0 xs (C ++ [0]) := ⟨_, rfl⟩
  rw [← hMo] at HFACTS hmore
  have HMO := Lib.hid hMo; clear hMo hLb
  obtain ⟨q, hq⟩ : ∃ q, q = Lb.length := ⟨_, rfl⟩
  rw [← hq] at hlen hsp hip HNO
  have HSP := Lib.hid hsp; have HIP := Lib.hid hip; clear hsp hip
  have HQ := Lib.hid hq; clear hq
  obtain ⟨w2, hw2⟩ : ∃ w2, w2 = w1.alloc (.cells #[.int .i64 W0, .int .i64 T0, .slice a m c] 25) := ⟨_, rfl⟩
  obtain ⟨E, hE⟩ : ∃ E, E = w1.heap.size := ⟨_, rfl⟩
  have p2 : w2.heap[E]? = some (.cells #[.int .i64 W0, .int .i64 T0, .slice a m c] 25 (0, 0)) := by rw [hw2, hE]; exact heap_new _ _
  have b2 : Below w.heap.size w w2 := by rw [hw2]; exact below_seq b1 (below1 _ _)
  have A2 : Hid (BoolsAt w2 a xs) := by rw [hw2]; exact AX.out.one _
  have C2 : Hid (IntsAt w2 (some ⟨cg, 0, none⟩) C) := by rw [hw2]; exact CX.out.one _
  go_wp2_with fail
  rw [← hw2]
  rw [← hE]
  clear hw2 hE AX CX b1
  refine (HIP.out _ A2.out C2.out).mono ?_; rintro e w3 ⟨la, lcap, rfl, ho3, hb3⟩
  have b3 := below_seq b2 hb3
  have p3 := heap_later p2 hb3
  have A3 := Lib.hid (A2.out.below hb3)
  have C3 := Lib.hid (C2.out.below hb3)
  have L3 := Lib.hid (OwnsI.at ho3); clear ho3
  obtain ⟨c0, c1, c2⟩ := cells3 p3
  go_wp2_with fail
  refine (HSP.out _ A3.out C3.out).mono ?_; rintro e w4 ⟨lb, lcb, rfl, ho4, hb4⟩
  have b4 := below_seq b3 hb4
  have p4 := heap_later p3 hb4
  have A4 := Lib.hid (A3.out.below hb4)
  have C4 := Lib.hid (C3.out.below hb4)
  have L4 := Lib.hid (L3.out.below hb4)
  have M4 := Lib.hid (OwnsI.at ho4); clear ho4
  clear c0 c1 c2
  obtain ⟨c0, c1, c2⟩ := cells3 p4
  go_wp2_with fail
  refine (sameInts_any _ _ _ _ _ Lb Lb _ HQ.out HQ.out (by omega) L4.out M4.out).mono ?_; rintro e w5 ⟨rfl, hb5⟩
  have hdl : decide (Lb = Lb) = true := by simp
  rw [hdl]
  clear hdl
  have b5 := below_seq b4 hb5
  have p5 := heap_later p4 hb5
  have A5 := Lib.hid (A4.out.below hb5)
  have C5 := Lib.hid (C4.out.below hb5)
  have L5 := Lib.hid (L4.out.below hb5)
  clear c0 c1 c2
  obtain ⟨c0, c1, c2⟩ := cells3 p5
  go_wp2_with fail
  refine (sRegionValid_any _ _ _ _ _ xs _ HM.out (by omega) A5.out).mono ?_; rintro e w6 ⟨rfl, hb6⟩
  have b6 := below_seq b5 hb6
  have p6 := heap_later p5 hb6
  have A6 := Lib.hid (A5.out.below hb6)
  have C6 := Lib.hid (C5.out.below hb6)
  have L6 := Lib.hid (L5.out.below hb6)
  clear c0 c1 c2 p2 p3 p4 p5 b2 b3 b4 b5 hb3 hb4 hb5 hb6 A2 A3 A4 A5 C2 C3 C4 C5 L3 L4 L5 M4
  obtain ⟨c0, c1, c2⟩ := cells3 p6
  have l6 := heap_lt p6
  obtain ⟨rvb, hrv⟩ : ∃ b, b = rv W0 T0 xs := ⟨_, rfl⟩
  rw [← hrv]
  cases rvb
  · have hq0 := HNO.out hrv.symm
    subst hq0
    clear hrv
    go_wp2_with fail
    refine (alive_any _).mono ?_; rintro e w7 ⟨rfl, hb7⟩
    go_wp2
    go_ret
    exact ⟨rfl, below_seq b6 hb7⟩
  · clear hrv HNO
    go_wp2_with fail
    refine cut_region (fun a0 a' w' => ∃ (v37 v38 v39 v40 v41 v42 v43 : Value) (ma : Option Addr) (mcap : Nat), a' = ((((((((a0.put (some 37) v37).put (some 38) v38).put (some 39) v39).put (some 40) v40).put (some 41) v41).put (some 42) v42).put (some 43) v43).put (some 6) (.slice ma Mo.length mcap)) ∧ IntsAt w' ma Mo ∧ Below w6.heap.size w6 w') ?_ ?_
    · have HSD := Lib.hid (show (fun w' : World => w'.cell? ⟨E, 0, none⟩ = some (.int .i64 W0) ∧ w'.cell? ⟨E, 1, none⟩ = some (.int .i64 T0) ∧ w'.cell? ⟨E, 2, none⟩ = some (.slice a m c)) w6.drew from ⟨c0, c1, c2⟩)
      refine wp_region_till (fun w' : World => w'.cell? ⟨E, 0, none⟩ = some (.int .i64 W0) ∧ w'.cell? ⟨E, 1, none⟩ = some (.int .i64 T0) ∧ w'.cell? ⟨E, 2, none⟩ = some (.slice a m c)) 7 (by kernel_rfl) ?_
      refine Till.take (i := 0) (v := ?_) rfl (by kernel_rfl) (by kernel_rfl) (by kernel_rfl) (by kernel_rfl) (by first | exact (fun _ _ _ h => nomatch h.1) | exact (fun _ _ _ h => h)) (Or.inl ⟨by kernel_rfl, ?_⟩) HSD.out ?_
      rotate_left
      · intro ws hsw
        obtain ⟨s1, s2, s3⟩ := hsw
        go_simp
        try with_reducible rfl
      try simp only [Act.put, List.setIfInBounds_toArray, List.set_cons_zero, List.set_cons_succ]
      refine Till.take (i := 2) (v := ?_) rfl (by kernel_rfl) (by kernel_rfl) (by kernel_rfl) (by kernel_rfl) (by first | exact (fun _ _ _ h => nomatch h.1) | exact (fun _ _ _ h => h)) (Or.inl ⟨by kernel_rfl, ?_⟩) HSD.out ?_
      rotate_left
      · intro ws hsw
        obtain ⟨s1, s2, s3⟩ := hsw
        go_simp
        try with_reducible rfl
      try simp only [Act.put, List.setIfInBounds_toArray, List.set_cons_zero, List.set_cons_succ]
      refine Till.two (i := 1) (j := 4) (by kernel_rfl) rfl rfl (by rfl) (by rfl) (fun K hK => ?_) (fun K hK => ?_)
      · have WNA := Lib.hid (show Below w6.heap.size w6 (w6.alloc (.cells #[] 3)).drew from below_seq (below1 _ _) (drew_below _))
        go_simp
        refine hK.out _ _ (fun _ => ⟨cell_later WNA.out c0, cell_later WNA.out c1, cell_later WNA.out c2⟩) ?_
        clear hK K
        refine Till.two (i := 3) (j := 4) (by kernel_rfl) rfl rfl (by rfl) (by rfl) (fun K hK => ?_) (fun K hK => ?_)
        · refine step_app7 _ rfl _ _ 27 rfl w6.heap.size 3 i0 (.int .i64 0) 8 Try.underlying27 hi hz0 hz1 hz2 rfl _ 0 [] rfl (show World.ownsRow (World.drew (w6.alloc _)) _ _ _ _ _ _ from World.ownsRow_made w6 #[] 0 (Nat.le_refl _) (Nat.zero_le _) rfl) ⟨cg, 0, none⟩ cm ccap (C.map (Value.int .i64)) rfl (by rw [List.length_map, ← HCM.out]; omega) (ints_newsX (C6.out.below WNA.out)) (ints_one C) (by unfold maxLen; omega) (by omega) WNA.out.size ?_
          intro v5 w5 hown5 hgrow5
          have hb5 := below_grown WNA.out hgrow5 (Nat.le_refl _) (fun k e => by have e' : some w6.heap.size = some k := e; cases e'; exact Nat.le_refl _)
          have WN5 := Lib.hid hb5; clear hb5
          have OW5 := Lib.hid (show w5.ownsRow w6.heap.size 3 1 v5 cm (C.map (Value.int .i64)) from by simpa using hown5); clear hown5
          clear hgrow5
          refine hK.out _ _ (fun _ => ⟨cell_later WN5.out c0, cell_later WN5.out c1, cell_later WN5.out c2⟩) ?_
          clear hK K
          have WN9 := Lib.hid (show Below w6.heap.size w6 (w5.alloc (.cells #[.int .i64 0] 3)) from below_seq WN5.out (below1 _ _))
          refine Till.one (i := 4) (by kernel_rfl) rfl (by rfl) (fun K hK => ?_)
          go_simp
          refine hK.out _ _ (fun _ => ⟨cell_later WN9.out c0, cell_later WN9.out c1, cell_later WN9.out c2⟩) ?_
          clear hK K
          refine Till.one (i := 5) (by kernel_rfl) rfl (by rfl) (fun K hK => ?_)
          refine step_append_lies _ rfl _ _ 27 rfl w6.heap.size 3 i0 (.int .i64 0) 1 8 Try.underlying27 hi hz0 hz1 hz2 rfl (by decide) _ cm (C.map (Value.int .i64)) rfl (World.ownsRow.alloc OW5.out _) ⟨w5.heap.size, 0, none⟩ 1 1 [.int .i64 0] rfl rfl (new_int w5 _) (one_int _) (by omega) (by unfold maxLen; omega) (by omega) (by have := WN5.out.size; simp; omega) _ rfl ?_
          intro g' c' w7 hown7 hgrow7 _ _
          have hb7 := below_grown WN9.out hgrow7 (Nat.le_refl _) (fun k e => (World.ownsRow.lt OW5.out k e).1)
          have WN7 := Lib.hid hb7; clear hb7
          have OW7 := Lib.hid (OwnsI.ofRow (xs := C ++ [0]) hown7 (by simp) (by rw [List.length_append, ← HCM.out]; rfl)); clear hown7 hgrow7
          refine hK.out _ _ (fun _ => ⟨cell_later WN7.out c0, cell_later WN7.out c1, cell_later WN7.out c2⟩) ?_
          clear hK K
          refine Till.one (i := 6) (by kernel_rfl) rfl (by rfl) (fun K hK => ?_)
          go_simp
          refine (hI.out (some ⟨g', 0, none⟩) (cm + 1) c' (C ++ [0]) _ (by rw [List.length_append, ← HCM.out]; rfl) (by omega) (A6.out.below WN7.out) (OwnsI.at OW7.out)).mono ?_; rintro e w8 ⟨ma, mcap, rfl, ho8, hb8⟩
          have WN8 := Lib.hid (below_seq WN7.out hb8)
          rw [← HMO.out] at ho8
          have hi8 := OwnsI.at ho8
          rw [← HMO.out]
          refine hK.out _ _ (fun _ => ⟨cell_later WN8.out c0, cell_later WN8.out c1, cell_later WN8.out c2⟩) ?_
          clear hK K
          refine Till.one (i := 7) (by kernel_rfl) rfl (by rfl) (fun K hK => ?_)
          go_simp
          refine hK.out _ _ (fun h => absurd rfl h) ?_
          clear hK K
          exact Till.done (by kernel_rfl) ⟨rfl, _, _, _, _, _, _, _, ma, mcap, rfl, hi8, WN8.out⟩ _
        · have WNB := Lib.hid (show Below w6.heap.size w6 ((w6.alloc (.cells #[] 3)).drew.alloc (.cells #[.int .i64 0] 3)) from below_seq WNA.out (below1 _ _))
          go_simp
          refine hK.out _ _ (fun _ => ⟨cell_later WNB.out c0, cell_later WNB.out c1, cell_later WNB.out c2⟩) ?_
          clear hK K
          refine Till.one (i := 3) (by kernel_rfl) rfl (by rfl) (fun K hK => ?_)
          refine step_app7 _ rfl _ _ 27 rfl w6.heap.size 3 i0 (.int .i64 0) 8 Try.underlying27 hi hz0 hz1 hz2 rfl _ 0 [] rfl (show World.ownsRow (World.alloc (World.drew (w6.alloc _)) _) _ _ _ _ _ _ from World.ownsRow.alloc (World.ownsRow_made w6 #[] 0 (Nat.le_refl _) (Nat.zero_le _) rfl) _) ⟨cg, 0, none⟩ cm ccap (C.map (Value.int .i64)) rfl (by rw [List.length_map, ← HCM.out]; omega) (ints_newsX (C6.out.below WNB.out)) (ints_one C) (by unfold maxLen; omega) (by omega) WNB.out.size ?_
          intro v5 w5 hown5 hgrow5
          have hb5 := below_grown WNB.out hgrow5 (Nat.le_refl _) (fun k e => by have e' : some w6.heap.size = some k := e; cases e'; exact Nat.le_refl _)
          have WN5 := Lib.hid hb5; clear hb5
          have OW5 := Lib.hid (show w5.ownsRow w6.heap.size 3 1 v5 cm (C.map (Value.int .i64)) from by simpa using hown5); clear hown5
          have cl5 : w5.cell? ⟨w6.heap.size + 1, 0, none⟩ = some (.int .i64 0) := hgrow5.cell (by have h9 := new_cellX (w6.alloc (.cells #[] 3)) 0; rw [sizeX] at h9; exact h9) (fun e => by have e' : some (w6.heap.size + 1) = some w6.heap.size := e; have := Option.some.inj e'; omega)
          clear hgrow5
          refine hK.out _ _ (fun _ => ⟨cell_later WN5.out c0, cell_later WN5.out c1, cell_later WN5.out c2⟩) ?_
          clear hK K
          refine Till.one (i := 5) (by kernel_rfl) rfl (by rfl) (fun K hK => ?_)
          refine step_append_lies _ rfl _ _ 27 rfl w6.heap.size 3 i0 (.int .i64 0) 1 8 Try.underlying27 hi hz0 hz1 hz2 rfl (by decide) _ cm (C.map (Value.int .i64)) rfl OW5.out ⟨w6.heap.size + 1, 0, none⟩ 1 1 [.int .i64 0] rfl rfl (one_cellX cl5) (one_int _) (by omega) (by unfold maxLen; omega) (by omega) (by have := WN5.out.size; omega) _ rfl ?_
          intro g' c' w7 hown7 hgrow7 _ _
          have hb7 := below_grown WN5.out hgrow7 (Nat.le_refl _) (fun k e => (World.ownsRow.lt OW5.out k e).1)
          have WN7 := Lib.hid hb7; clear hb7
          have OW7 := Lib.hid (OwnsI.ofRow (xs := C ++ [0]) hown7 (by simp) (by rw [List.length_append, ← HCM.out]; rfl)); clear hown7 hgrow7
          refine hK.out _ _ (fun _ => ⟨cell_later WN7.out c0, cell_later WN7.out c1, cell_later WN7.out c2⟩) ?_
          clear hK K
          refine Till.one (i := 6) (by kernel_rfl) rfl (by rfl) (fun K hK => ?_)
          go_simp
          refine (hI.out (some ⟨g', 0, none⟩) (cm + 1) c' (C ++ [0]) _ (by rw [List.length_append, ← HCM.out]; rfl) (by omega) (A6.out.below WN7.out) (OwnsI.at OW7.out)).mono ?_; rintro e w8 ⟨ma, mcap, rfl, ho8, hb8⟩
          have WN8 := Lib.hid (below_seq WN7.out hb8)
          rw [← HMO.out] at ho8
          have hi8 := OwnsI.at ho8
          rw [← HMO.out]
          refine hK.out _ _ (fun _ => ⟨cell_later WN8.out c0, cell_later WN8.out c1, cell_later WN8.out c2⟩) ?_
          clear hK K
          refine Till.one (i := 7) (by kernel_rfl) rfl (by rfl) (fun K hK => ?_)
          go_simp
          refine hK.out _ _ (fun h => absurd rfl h) ?_
          clear hK K
          exact Till.done (by kernel_rfl) ⟨rfl, _, _, _, _, _, _, _, ma, mcap, rfl, hi8, WN8.out⟩ _
      · have WNC := Lib.hid (show Below w6.heap.size w6 (w6.alloc (.cells #[.int .i64 0] 3)).drew from below_seq (below1 _ _) (drew_below _))
        go_simp
        refine hK.out _ _ (fun _ => ⟨cell_later WNC.out c0, cell_later WNC.out c1, cell_later WNC.out c2⟩) ?_
        clear hK K
        have WND := Lib.hid (show Below w6.heap.size w6 ((w6.alloc (.cells #[.int .i64 0] 3)).drew.alloc (.cells #[] 3)) from below_seq WNC.out (below1 _ _))
        refine Till.one (i := 1) (by kernel_rfl) rfl (by rfl) (fun K hK => ?_)
        go_simp
        refine hK.out _ _ (fun _ => ⟨cell_later WND.out c0, cell_later WND.out c1, cell_later WND.out c2⟩) ?_
        clear hK K
        refine Till.one (i := 3) (by kernel_rfl) rfl (by rfl) (fun K hK => ?_)
        refine step_app7 _ rfl _ _ 27 rfl w6.heap.size 3 i0 (.int .i64 0) 8 Try.underlying27 hi hz0 hz1 hz2 rfl _ 0 [] rfl (by have h := World.ownsRow_made (w6.alloc (.cells #[.int .i64 0] 3)) #[] 0 (base := w6.heap.size) (e := 3) (size := 1) (by simp) (Nat.zero_le _) rfl; rw [sizeX] at h; exact h) ⟨cg, 0, none⟩ cm ccap (C.map (Value.int .i64)) rfl (by rw [List.length_map, ← HCM.out]; omega) (ints_newsX (C6.out.below WND.out)) (ints_one C) (by unfold maxLen; omega) (by omega) WND.out.size ?_
        intro v5 w5 hown5 hgrow5
        have hb5 := below_grown WND.out hgrow5 (Nat.le_refl _) (fun k e => by have e' : some (w6.heap.size + 1) = some k := e; cases e'; omega)
        have WN5 := Lib.hid hb5; clear hb5
        have OW5 := Lib.hid (show w5.ownsRow w6.heap.size 3 1 v5 cm (C.map (Value.int .i64)) from by simpa using hown5); clear hown5
        have cl5 : w5.cell? ⟨w6.heap.size, 0, none⟩ = some (.int .i64 0) := hgrow5.cell (cell_later (below_seq (below1 _ _) (drew_below _)) (new_cellX w6 0)) (fun e => by have e' : some w6.heap.size = some (w6.heap.size + 1) := e; have := Option.some.inj e'; omega)
        clear hgrow5
        refine hK.out _ _ (fun _ => ⟨cell_later WN5.out c0, cell_later WN5.out c1, cell_later WN5.out c2⟩) ?_
        clear hK K
        refine Till.one (i := 5) (by kernel_rfl) rfl (by rfl) (fun K hK => ?_)
        refine step_append_lies _ rfl _ _ 27 rfl w6.heap.size 3 i0 (.int .i64 0) 1 8 Try.underlying27 hi hz0 hz1 hz2 rfl (by decide) _ cm (C.map (Value.int .i64)) rfl OW5.out ⟨w6.heap.size, 0, none⟩ 1 1 [.int .i64 0] rfl rfl (one_cellX cl5) (one_int _) (by omega) (by unfold maxLen; omega) (by omega) (by have := WN5.out.size; omega) _ rfl ?_
        intro g' c' w7 hown7 hgrow7 _ _
        have hb7 := below_grown WN5.out hgrow7 (Nat.le_refl _) (fun k e => (World.ownsRow.lt OW5.out k e).1)
        have WN7 := Lib.hid hb7; clear hb7
        have OW7 := Lib.hid (OwnsI.ofRow (xs := C ++ [0]) hown7 (by simp) (by rw [List.length_append, ← HCM.out]; rfl)); clear hown7 hgrow7
        refine hK.out _ _ (fun _ => ⟨cell_later WN7.out c0, cell_later WN7.out c1, cell_later WN7.out c2⟩) ?_
        clear hK K
        refine Till.one (i := 6) (by kernel_rfl) rfl (by rfl) (fun K hK => ?_)
        go_simp
        refine (hI.out (some ⟨g', 0, none⟩) (cm + 1) c' (C ++ [0]) _ (by rw [List.length_append, ← HCM.out]; rfl) (by omega) (A6.out.below WN7.out) (OwnsI.at OW7.out)).mono ?_; rintro e w8 ⟨ma, mcap, rfl, ho8, hb8⟩
        have WN8 := Lib.hid (below_seq WN7.out hb8)
        rw [← HMO.out] at ho8
        have hi8 := OwnsI.at ho8
        rw [← HMO.out]
        refine hK.out _ _ (fun _ => ⟨cell_later WN8.out c0, cell_later WN8.out c1, cell_later WN8.out c2⟩) ?_
        clear hK K
        refine Till.one (i := 7) (by kernel_rfl) rfl (by rfl) (fun K hK => ?_)
        go_simp
        refine hK.out _ _ (fun h => absurd rfl h) ?_
        clear hK K
        exact Till.done (by kernel_rfl) ⟨rfl, _, _, _, _, _, _, _, ma, mcap, rfl, hi8, WN8.out⟩ _
    · rintro a' w7 ⟨v37, v38, v39, v40, v41, v42, v43, ma, mcap, rfl, hi7, hb7⟩
      try simp only [Act.put, List.setIfInBounds_toArray, List.set_cons_zero, List.set_cons_succ]
      have p7 := heap_later p6 hb7
      have A7 := Lib.hid (A6.out.below hb7)
      have C7 := Lib.hid (C6.out.below hb7)
      have L7 := Lib.hid (L6.out.below hb7)
      have b7 := below_seq b6 hb7
      have I7 := Lib.hid hi7
      obtain ⟨mq, hmq⟩ : ∃ mq, mq = Mo.length := ⟨_, rfl⟩
      rw [← hmq] at hmore ⊢
      have HMQ := Lib.hid hmq
      have P7 := Lib.hid p7
      clear hmq p7 p6 c0 c1 c2 l6 b6 hb7 hi7 A6 C6 L6
      go_wp2_with fail
      go_loopw [7, 8, 9, 10] (fun i _ _ _ wr => ∃ k : Nat, k ≤ q ∧ i = .int .i64 k ∧ Below w7.heap.size w7 wr) (fun i _ _ _ _ => q - (intOf i).toNat)
      case atStart => exact ⟨0, Nat.zero_le _, rfl, Below.refl _ _⟩
      case round =>
        rename World => wr
        obtain ⟨k, hk, rfl, hbel⟩ := hrel
        have BEL := Lib.hid hbel; clear hbel
        by_cases hlt : k < q
        · have hkl : k < Lb.length := by rw [← HQ.out]; exact hlt
          have LR := Lib.hid (L7.out.below BEL.out)
          obtain ⟨lbk, lo, rfl, hcl⟩ := LR.out k hkl
          obtain ⟨v, hv⟩ : ∃ v, v = Lb.getD k 0 := ⟨_, rfl⟩
          rw [← hv] at hcl
          have hmem : v ∈ Lb := by rw [hv, List.getD_eq_getElem?_getD, List.getElem?_eq_getElem hkl, Option.getD_some]; exact List.getElem_mem hkl
          obtain ⟨hmo, hso⟩ := HFACTS.out v hmem
          have HV := Lib.hid hv; clear hv hmem
          have PR := Lib.hid (heap_later P7.out BEL.out)
          obtain ⟨c0, c1, c2⟩ := cells3 PR.out
          have lE := heap_lt PR.out
          have e1 : (k : Int) < q := by omega
          obtain ⟨Bk, hBk⟩ : ∃ Bk, Bk = besF W0 T0 xs [v] := ⟨_, rfl⟩
          rw [← hBk] at hso
          have hbl := besF_le W0 T0 xs [v]
          rw [← HM.out, ← hBk] at hbl
          have HBK := Lib.hid hBk; clear hBk
          have HMO2 := Lib.hid hmo; have HSO := Lib.hid hso; clear hmo hso
          go_wp2_with fail
          go_region_held3 (fun w' => w'.cell? ⟨E, 0, none⟩ = some (.int .i64 W0) ∧ w'.cell? ⟨E, 1, none⟩ = some (.int .i64 T0) ∧ w'.cell? ⟨E, 2, none⟩ = some (.slice a m c) ∧ w'.cell? ⟨lbk, lo + k, none⟩ = some (.int .i64 v))
            (go_keep)
            (first | (go_at_call 19; refine (hI.out (some ⟨wr.heap.size, 0, none⟩) 1 1 [v] _ rfl (by omega) (A7.out.below (below_seq BEL.out (below_seq (below1 _ _) (drew_below _)))) (show IntsAt (wr.alloc (.cells #[.int .i64 v] 3)) _ _ from int1X wr v)).mono ?_; rintro e w9 ⟨ba, bcap, rfl, ho9, hb9⟩; have p9 := heap_later (heap_later PR.out (below_seq (below1 _ _) (drew_below _))) hb9; obtain ⟨d0, d1, d2⟩ := cells3 p9; have hcl9 := cell_later hb9 (cell_later (below_seq (below1 _ _) (drew_below _)) hcl)))
          have B9 := Lib.hid (below_seq BEL.out (below_seq (below_seq (below1 _ _) (drew_below _)) hb9))
          rw [← HBK.out] at ho9 ⊢
          have K9 := Lib.hid (OwnsI.at ho9)
          obtain ⟨bq, hbq⟩ : ∃ bq, bq = Bk.length := ⟨_, rfl⟩
          rw [← hbq] at hbl ⊢
          have HBQ := Lib.hid hbq
          have P9 := Lib.hid p9
          clear hbq p9 ho9 hb9 c0 c1 c2 d0 d1 d2 hcl hcl9 PR lE LR BEL
          go_wp2_with fail
          go_loopw [9, 10] (fun f i wx => ∃ j : Nat, j ≤ cm ∧ i = .int .i64 j ∧ f = .bool (someJ xs Bk C j) ∧ Below w9.heap.size w9 wx) (fun _ i _ => cm - (intOf i).toNat)
          case atStart => exact ⟨0, Nat.zero_le _, rfl, rfl, Below.refl _ _⟩
          case round =>
            rename World => wq
            obtain ⟨j, hj, rfl, rfl, hbel⟩ := hrel
            have BQ := Lib.hid hbel; clear hbel
            have PQ := Lib.hid (heap_later P9.out BQ.out)
            obtain ⟨c0, c1, c2⟩ := cells3 PQ.out
            have lE := heap_lt PQ.out
            by_cases hjc : j < cm
            · obtain ⟨b9, o9, he9, hcj⟩ := (C7.out.below (below_seq B9.out BQ.out)) j (by rw [← HCM.out]; exact hjc)
              simp only [Option.some.injEq, Addr.mk.injEq, and_true] at he9
              obtain ⟨rfl, rfl⟩ := he9
              rw [Nat.zero_add] at hcj
              obtain ⟨x, hx⟩ : ∃ x, x = C.getD j 0 := ⟨_, rfl⟩
              rw [← hx] at hcj
              have j1 : (j : Int) < cm := by omega
              have hsu := someJ_succ xs Bk C j
              have htj : tellJ xs Bk C j = (decide (0 ≤ x) && decide (x < xs.length) && (Bk.contains x || !(xs.getD x.toNat false))) := by unfold tellJ; rw [← hx]
              rw [htj, ← HM.out] at hsu
              clear htj hx
              obtain ⟨bc, hbc⟩ : ∃ bc, bc = Bk.contains x := ⟨_, rfl⟩
              rw [← hbc] at hsu
              have HHH : Hid (∀ q9, Calls Try.prog 20 #[.slice ba bq bcap, .int .i64 x] (wq.drewN q9) fun e w' => e = .returned (.bool bc) ∧ w' = wq.drewN q9) := fun q9 => by
                have h := hasInt_any ba bq bcap Bk x (wq.drewN q9) HBQ.out (by omega) (show IntsAt wq _ _ from K9.out.below BQ.out)
                rw [← hbc] at h; exact h
              clear hbc
              cases hsj : someJ xs Bk C j
              · rw [hsj, Bool.false_or] at hsu
                have HSJ := Lib.hid hsj; clear hsj
                by_cases hx0 : 0 ≤ x
                · rw [decide_eq_true hx0, Bool.true_and] at hsu
                  by_cases hxm : x < m
                  · rw [decide_eq_true hxm, Bool.true_and] at hsu
                    obtain ⟨X, rfl⟩ := Int.eq_ofNat_of_zero_le hx0
                    rw [Int.toNat_natCast] at hsu
                    have hXm : X < m := by omega
                    obtain ⟨ab, ao, rfl, hcx⟩ := (A7.out.below (below_seq B9.out BQ.out)) X (by rw [← HM.out]; exact hXm)
                    cases bc
                    · cases hxx : xs.getD X false
                      all_goals
                        rw [hxx] at hsu hcx
                        have HSU := Lib.hid hsu; clear hsu hxx
                        go_wp2
                        go_big_quiet ((go_at_call 20; go_must (exact Calls.quiet_of_same (HHH.out _))))
                        go_wp2
                        go_roundw
                        case rel => exact ⟨j + 1, by omega, by go_num, by rw [HSU.out]; rfl, below_seq BQ.out (drewN_below _ _)⟩
                        case measure => simp [intOf]; omega
                    · rw [Bool.true_or] at hsu
                      have HSU := Lib.hid hsu; clear hsu
                      go_wp2
                      go_big_quiet ((go_at_call 20; go_must (exact Calls.quiet_of_same (HHH.out _))))
                      go_wp2
                      go_roundw
                      case rel => exact ⟨j + 1, by omega, by go_num, by rw [HSU.out], below_seq BQ.out (drewN_below _ _)⟩
                      case measure => simp [intOf]; omega
                  · rw [decide_eq_false hxm, Bool.false_and] at hsu
                    have HSU := Lib.hid hsu; clear hsu
                    have hxm2 : decide (x < (m : Int)) = false := decide_eq_false hxm
                    go_wp2
                    go_big_quiet (fail)
                    go_wp2
                    go_roundw
                    case rel => exact ⟨j + 1, by omega, by go_num, by rw [HSU.out], below_seq BQ.out (drewN_below _ _)⟩
                    case measure => simp [intOf]; omega
                · rw [decide_eq_false hx0, Bool.false_and, Bool.false_and] at hsu
                  have HSU := Lib.hid hsu; clear hsu
                  have hx2 : decide (0 ≤ x) = false := decide_eq_false hx0
                  go_wp2
                  go_big_quiet (fail)
                  go_wp2
                  go_roundw
                  case rel => exact ⟨j + 1, by omega, by go_num, by rw [HSU.out], below_seq BQ.out (drewN_below _ _)⟩
                  case measure => simp [intOf]; omega
              · rw [hsj, Bool.true_or] at hsu
                have HSJ := Lib.hid hsj; clear hsj
                have HSU := Lib.hid hsu; clear hsu
                go_wp2
                go_big_quiet (fail)
                go_wp2
                go_roundw
                case rel => exact ⟨j + 1, by omega, by go_num, by rw [HSU.out], below_seq BQ.out (drewN_below _ _)⟩
                case measure => simp [intOf]; omega
            · obtain rfl : j = cm := by omega
              have hso2 : someJ xs Bk C j = true := by have h := HSO.out; rwa [← HCM.out] at h
              rw [hso2]
              have HSO2 := Lib.hid hso2; clear hso2
              obtain ⟨b9, o9, he9, hcl⟩ := (L7.out.below (below_seq B9.out BQ.out)) k hkl
              simp only [Option.some.injEq, Addr.mk.injEq, and_true] at he9
              obtain ⟨rfl, rfl⟩ := he9
              rw [← HV.out] at hcl
              go_wp2_with fail
              refine (hasInt_any ma mq mcap Mo v _ HMQ.out (by omega) (I7.out.below (below_seq B9.out BQ.out))).mono ?_; rintro e w11 ⟨rfl, hw11⟩
              subst hw11
              rw [HMO2.out]
              go_wp2
              go_roundw
              case rel => exact ⟨k + 1, by omega, by go_num, below_seq B9.out BQ.out⟩
              case measure => simp [intOf]; omega
        · obtain rfl : k = q := by omega
          have LR := Lib.hid (L7.out.below BEL.out)
          go_wp2_with fail
          refine (ascend_yes _ _ _ Lb _ HQ.out (by omega) LR.out (fun j hj => asc_get7 HASC.out (by rw [← HQ.out]; exact hj))).mono ?_; rintro e w8 ⟨rfl, hb8⟩
          go_wp2
          go_ret
          exact ⟨rfl, below_seq (below_seq b7 BEL.out) hb8⟩

end Go.Proofs.Ythlagmnnkckcnaa
