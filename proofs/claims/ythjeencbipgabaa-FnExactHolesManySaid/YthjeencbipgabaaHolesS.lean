/- Contract of spec.HolesMany. -/
import Derived.Test.YthjeencbipgabaaHolesN
namespace Go.Proofs.Ythjeencbipgabaa
open Go.RowKit
set_option linter.unusedVariables false
set_option maxRecDepth 100000
set_option linter.unusedSimpArgs false

set_option maxHeartbeats 1000000 in
theorem sHolesMany_ok (W T : Int) (a : Option Addr) (n cap : Nat) (xs : List Bool) (N : Nat) (w : World) (hn : n = xs.length) (hr : rv W T xs = true) (hN : (W + 2) * (T + 2) = (N : Int)) (ha : BoolsAt w a xs) :
    Calls Try.prog 20 #[.agg #[.int .i64 W, .int .i64 T, .slice a n cap]] w fun e w' => (∃ M, Marks N (outB W T xs) (adjW (W + 2) true) M ∧ e = .returned (.int .i64 ((selfN M N : Nat) - 1))) ∧ Below w.heap.size w w' := by
  obtain ⟨v1, v2, v3, v4, v5, _⟩ := rv_true hr
  have hb64 := rim_bd v1 v2 v3 v4
  have n64 : N ≤ 64 := by omega
  have n9 : 9 ≤ N := by omega
  clear hb64
  have HWT : Hid ((n : Int) = W * T) := by show (n : Int) = _; rw [hn]; exact v5
  clear v5
  have hn' : n ≤ 1048576 := by
    have := HWT.out
    have := (mul_bd v1 v2 v3 v4).2
    omega
  have HN := Lib.hid hn; clear hn
  have HA := Lib.hid ha; clear ha
  have HR := Lib.hid hr; clear hr
  have HNN := Lib.hid hN; clear hN
  obtain ⟨ii0, hii, hii0, hii1, hii2⟩ := info_parts infoInt
  obtain ⟨V, hV⟩ : ∃ V, W + 2 = V := ⟨_, rfl⟩
  obtain ⟨V2, hV2⟩ : ∃ V, T + 2 = V := ⟨_, rfl⟩
  rw [hV, hV2] at HNN
  rw [hV]
  have hNN := HNN.out
  have u1 : 3 ≤ V := by omega
  have u2 : V ≤ 8 := by omega
  have u3 : 3 ≤ V2 := by omega
  have u4 : V2 ≤ 8 := by omega
  have HV := Lib.hid hV
  have hV0 : V ≠ 0 := by omega
  have XY : ∀ k : Nat, k < N → 0 ≤ (k : Int) % V ∧ (k : Int) % V < 8 ∧ 0 ≤ (k : Int) / V ∧ (k : Int) / V < 8 := fun k hk =>
    ⟨Int.emod_nonneg _ hV0, by have := Int.emod_lt_of_pos (k : Int) (b := V) (by omega); omega, Int.ediv_nonneg (by omega) (by omega), by
      have : (k : Int) / V < V2 := Int.ediv_lt_of_lt_mul (by omega) (by rw [Int.mul_comm, hNN]; omega)
      omega⟩
  have HXY := Lib.hid XY; clear XY
  go_enter Try.func20, Try.ntmps20
  go_wp2_with fail
  refine (sRegionValid_any _ _ _ _ _ xs _ HN.out hn' (HA.out.one _)).mono ?_; rintro e w1 ⟨rfl, hb1⟩
  rw [HR.out]
  have p1 := heap_later (heap_new w (.cells #[.int .i64 W, .int .i64 T, .slice a n cap] 28 (0, 0))) hb1
  have b1 := below_seq (below1 w (.cells #[.int .i64 W, .int .i64 T, .slice a n cap] 28)) hb1
  have hz1 : w.heap.size + 1 ≤ w1.heap.size := heap_lt p1
  clear hb1
  obtain ⟨c0, c1, c2⟩ := cells3 p1
  have HO0 := Lib.hid (own_nil_litP w1 (B := w.heap.size + 1) (by omega))
  go_wp2_with fail
  clear c0 c1 c2
  go_loopw [4, 5] (fun v i wr => ∃ k : Nat, k ≤ N ∧ i = .int .i64 k ∧ OwnsI wr (w.heap.size + 1) v (outI W T xs k) ∧ wr.heap[w.heap.size]? = some (.cells #[.int .i64 W, .int .i64 T, .slice a n cap] 28 (0, 0)) ∧ Below w.heap.size w wr) (fun _ i _ => N - (intOf i).toNat)
  case atStart => exact ⟨0, Nat.zero_le _, rfl, HO0.out, heap_later p1 (below1 _ _), below_seq b1 (below1 _ _)⟩
  case round =>
    clear HO0 p1 b1
    obtain ⟨k, hk, rfl, ho, pr, hbel⟩ := hrel
    rename World => wr
    have HO := Lib.hid ho; clear ho
    have BEL := Lib.hid hbel; clear hbel
    obtain ⟨c0, c1, c2⟩ := cells3 pr
    have l1 := heap_lt pr
    by_cases hlt : k < N
    · have e1 : (k : Int) < N := by omega
      have e2 : (0 : Int) ≤ k := by omega
      have e3 : ((k : Int)).toNat = k := by omega
      obtain ⟨x, hx⟩ : ∃ x, x = (k : Int) % V := ⟨_, rfl⟩
      obtain ⟨y, hy⟩ : ∃ y, y = (k : Int) / V := ⟨_, rfl⟩
      have T1 : (k : Int).tmod V = x := by rw [hx]; exact Int.tmod_eq_emod_of_nonneg e2
      have T2 : (k : Int).tdiv V = y := by rw [hy]; exact Int.tdiv_eq_ediv_of_nonneg e2
      have hxy := HXY.out k hlt
      rw [← hx, ← hy] at hxy
      obtain ⟨x0, x1, y0, y1⟩ := hxy
      have ew1 : IntKind.i64.wrap (x - 1) = x - 1 := by rw [IntKind.wrap_i64]; omega
      have ew2 : IntKind.i64.wrap y = y := by rw [IntKind.wrap_i64]; omega
      have ew3 : IntKind.i64.wrap (y - 1) = y - 1 := by rw [IntKind.wrap_i64]; omega
      have HOB : Hid (outB W T xs k = !atB W T xs (x - 1) (y - 1)) := by show _ = _; unfold outB; rw [HV.out, ← hx, ← hy]
      clear hx hy
      have hlo := outI_len W T xs k
      go_wp2_with (at_builtin; refine wpList_append_own _ rfl _ _ 26 rfl (w.heap.size + 1) 3 ii0 (.int .i64 0) 1 8 Try.underlying26 hii hii0 hii1 hii2 rfl (by decide) _ (outI W T xs k).length ((outI W T xs k).map (Value.int .i64)) rfl (World.ownsRow.alloc HO.out _) ⟨wr.heap.size, 0, none⟩ 1 1 [.int .i64 (k : Int)] rfl rfl (new_int _ _) (one_int _) (by unfold maxLen; omega) (by rw [outI_len]; omega) (by simp; omega) ?_; intro v' w8 hown hgrow _; clear hlo; have p8 := heap_grown (heap_later pr (below1 _ _)) hgrow (HO.out.ownBlock (by omega)); have O8 := Lib.hid (OwnsI.ofRow (xs := outI W T xs k ++ [(k : Int)]) hown (by simp) (by simp)); have B8 := Lib.hid (below_grown (below_seq BEL.out (below1 _ _)) hgrow (Nat.le_refl _) (HO.out.ownAt (by omega))); clear hown hgrow c0 c1 c2; obtain ⟨c0, c1, c2⟩ := cells3 p8; have l8 := heap_lt p8)
      have PQ : w8.drew.heap[w.heap.size]? = some _ := p8
      go_region_held3 (fun w' => w'.cell? ⟨w.heap.size, 0, none⟩ = some (.int .i64 W) ∧ w'.cell? ⟨w.heap.size, 1, none⟩ = some (.int .i64 T) ∧ w'.cell? ⟨w.heap.size, 2, none⟩ = some (.slice a n cap))
        (go_keep)
        (first
          | (go_at_call 37; refine (l1At_any W T (x - 1) (y - 1) a n cap xs _ HN.out (by omega) (by omega) (by omega) (by omega) HWT.out (HA.out.below (B8.out.drew))).mono ?_; rintro e w9 ⟨rfl, hb9⟩; have p9 := heap_later PQ hb9; obtain ⟨c90, c91, c92⟩ := cells3 p9))
      have O9 := Lib.hid ((show OwnsI w8.drew _ _ _ from O8.out).below hb9)
      have B9 := Lib.hid (below_seq B8.out (below_seq (drew_below _) hb9))
      have P9 := Lib.hid p9
      have hlk : (outI W T xs k ++ [(k : Int)]).length = k + 1 := by simp [outI_len]
      obtain ⟨g, pcap, hv, hg1, hg2⟩ := O9.out.pos (by simp)
      rw [hlk] at hv
      clear c0 c1 c2 c90 c91 c92 p9 PQ p8 pr
      cases hat : atB W T xs (x - 1) (y - 1)
      · have hob : outB W T xs k = true := by rw [HOB.out, hat]; rfl
        have HE := Lib.hid (outI_yes hob)
        clear hat hob
        go_wp2
        go_roundw
        case rel => exact ⟨k + 1, by omega, by go_num, by rw [← HE.out]; exact O9.out, P9.out, B9.out⟩
        case measure => simp [intOf]; omega
      · have hob : outB W T xs k = false := by rw [HOB.out, hat]; rfl
        have HE := Lib.hid (outI_no hob)
        clear hat hob
        subst hv
        have hc := O9.out.cell (k := k) (by rw [hlk]; omega)
        have hfz := O9.out.free k
        have e4 : (k : Int) < (k + 1 : Nat) := by omega
        have hst := OwnsI.set O9.out k (-1)
        rw [HE.out] at hst
        have HST := Lib.hid hst; clear hst
        go_wp2
        go_roundw
        case rel => exact ⟨k + 1, by omega, by go_num, HST.out.1, heap_set_other P9.out (by simp; omega) _, below_grown B9.out HST.out.2 (Nat.le_refl _) (fun q e => by have := Option.some.inj e; omega)⟩
        case measure => simp [intOf]; omega
    · obtain rfl : N = k := by omega
      obtain ⟨g, pcap, hv, hg1, hg2⟩ := HO.out.pos (by rw [outI_len]; omega)
      rw [outI_len] at hv
      subst hv
      have HH0 := Lib.hid (outI_ho (N := N) (W := W) (T := T) (xs := xs) (adj := adjW V true))
      generalize outI W T xs N = P0 at HO HH0
      go_wp2_with fail
      clear c0 c1 c2 pr hg2
      go_loopg [6] (totP N P0 + 1) (fun gk v6 wr2 => gk ≤ totP N P0 + 1 ∧ ∃ (c : Bool) (P : List Int), v6 = .bool c ∧ OwnsI wr2 (w.heap.size + 1) (.slice (some ⟨g, 0, none⟩) N pcap) P ∧ HoI N (outB W T xs) (adjW V true) P ∧ (c = true → totP N P + 1 ≤ gk) ∧ (c = false → StabN N V P) ∧ Below w.heap.size w wr2)
      case atStart => exact ⟨Nat.le_refl _, true, P0, rfl, HO.out, HH0.out, fun _ => Nat.le_refl _, (fun h => by cases h), BEL.out⟩
      case round =>
        obtain ⟨hgk, c, P, rfl, ho, hho, hct, hcf, hbel⟩ := hrel
        rename World => wr2
        clear HO HH0 BEL
        have HO := Lib.hid ho; clear ho
        have HH := Lib.hid hho; clear hho
        have BEL := Lib.hid hbel; clear hbel
        have hlP := HH.out.len
        cases c
        · have HM := Lib.hid (HH.out.marks (hcf rfl))
          have HL := Lib.hid hlP.symm
          have HI := Lib.hid (OwnsI.at HO.out)
          clear hct hcf hlP HO
          go_wp2_with fail
          go_loop [10, 11] (fun s i => ∃ k : Nat, k ≤ N ∧ i = .int .i64 k ∧ s = .int .i64 ((selfN P k : Nat) - 1)) (fun _ i => N - (intOf i).toNat)
          case atStart => exact ⟨0, Nat.zero_le _, rfl, rfl⟩
          case round =>
            obtain ⟨k, hk, rfl, rfl⟩ := hrel
            have hs := selfN_le P k
            by_cases hlt2 : k < N
            · obtain ⟨lb, lo, hla, hcx⟩ := HI.out k (by rw [← HL.out]; exact hlt2)
              simp only [Option.some.injEq, Addr.mk.injEq] at hla
              obtain ⟨rfl, rfl, -⟩ := hla
              have hsu := selfN_succ P k
              obtain ⟨mu, hmu⟩ : ∃ mu, mu = P.getD k 0 := ⟨_, rfl⟩
              rw [← hmu] at hcx hsu
              rw [Nat.zero_add] at hcx
              clear hmu
              have e1 : (k : Int) < N := by omega
              have e2 : (0 : Int) ≤ k := by omega
              obtain ⟨q, hq⟩ : ∃ q, q = selfN P k := ⟨_, rfl⟩
              obtain ⟨q2, hq2⟩ : ∃ q2, q2 = selfN P (k + 1) := ⟨_, rfl⟩
              rw [← hq, ← hq2] at hsu
              rw [← hq]
              have hqk : q ≤ k := by rw [hq]; exact hs
              have HQ2 := Lib.hid hq2; clear hq2 hq hs
              by_cases he : mu = k
              · have hsu2 : q2 = q + 1 := by rw [hsu, he]; simp
                have HS := Lib.hid hsu2; clear hsu hsu2
                subst he
                go_wp2
                go_round
                case rel => exact ⟨k + 1, by omega, by go_num, by rw [← HQ2.out, HS.out]; first | go_num | (congr 1; push_cast; omega)⟩
                case measure => simp [intOf]; omega
              · have hne : (mu == (k : Int)) = false := by simpa using he
                have hsu2 : q2 = q := by rw [hsu, hne]; simp
                have HS := Lib.hid hsu2; clear hsu hsu2
                go_wp2
                go_round
                case rel => exact ⟨k + 1, by omega, by go_num, by rw [← HQ2.out, HS.out]⟩
                case measure => simp [intOf]; omega
            · obtain rfl : N = k := by omega
              go_wp2
              go_ret
              exact ⟨⟨P, HM.out, rfl⟩, BEL.out⟩
        · have HCT := Lib.hid (hct rfl)
          have hgk1 : 1 ≤ gk := by have := HCT.out; omega
          clear hct hcf
          go_wp2_with fail
          go_loopw [6, 7] (fun v6 v7 wr3 => ∃ (i : Nat) (c : Bool) (Q : List Int), v7 = .int .i64 i ∧ i ≤ N ∧ v6 = .bool c ∧ OwnsI wr3 (w.heap.size + 1) (.slice (some ⟨g, 0, none⟩) N pcap) Q ∧ HoI N (outB W T xs) (adjW V true) Q ∧ (c = false → Q = P ∧ ∀ k, k < i → ∀ j, j < N → nearB V k j = true → 0 ≤ P.getD j 0 → P.getD k 0 ≤ P.getD j 0) ∧ (c = true → totP N Q < totP N P) ∧ Below w.heap.size w wr3) (fun _ i _ => N - (intOf i).toNat)
          case atStart => exact ⟨0, false, P, rfl, Nat.zero_le _, rfl, HO.out, HH.out, (fun _ => ⟨rfl, fun k hk => absurd hk (Nat.not_lt_zero k)⟩), (fun h => by cases h), BEL.out⟩
          case round =>
            clear HO HH BEL hlP
            obtain ⟨i, c, Q, rfl, hi, rfl, ho, hho, hcf, hct, hbel⟩ := hrel
            rename World => wr3
            have HO := Lib.hid ho; clear ho
            have HH := Lib.hid hho; clear hho
            have BEL := Lib.hid hbel; clear hbel
            have HCF := Lib.hid hcf; clear hcf
            have HTT := Lib.hid hct; clear hct
            have hlQ := HH.out.len
            by_cases hlti : i < N
            · have e1 : (i : Int) < N := by omega
              have e2 : (0 : Int) ≤ i := by omega
              go_wp2_with fail
              go_loopw [6, 8] (fun v6 v8 wr4 => ∃ (j : Nat) (c : Bool) (Q : List Int), v8 = .int .i64 j ∧ j ≤ N ∧ v6 = .bool c ∧ OwnsI wr4 (w.heap.size + 1) (.slice (some ⟨g, 0, none⟩) N pcap) Q ∧ HoI N (outB W T xs) (adjW V true) Q ∧ (c = false → Q = P ∧ (∀ k, k < i → ∀ j, j < N → nearB V k j = true → 0 ≤ P.getD j 0 → P.getD k 0 ≤ P.getD j 0) ∧ ∀ j', j' < j → nearB V i j' = true → 0 ≤ P.getD j' 0 → P.getD i 0 ≤ P.getD j' 0) ∧ (c = true → totP N Q < totP N P) ∧ Below w.heap.size w wr4) (fun _ j _ => N - (intOf j).toNat)
              case atStart => exact ⟨0, c, Q, rfl, Nat.zero_le _, rfl, HO.out, HH.out, (fun h => ⟨(HCF.out h).1, (HCF.out h).2, fun j' hj' => absurd hj' (Nat.not_lt_zero j')⟩), HTT.out, BEL.out⟩
              case round =>
                clear HO HH BEL HCF HTT hlQ
                obtain ⟨j, c, Q, rfl, hj, rfl, ho, hho, hcf, hct, hbel⟩ := hrel
                rename World => wr4
                have HO := Lib.hid ho; clear ho
                have HQ := Lib.hid hho; clear hho
                have BEL := Lib.hid hbel; clear hbel
                have HCF := Lib.hid hcf; clear hcf
                have CT := Lib.hid hct; clear hct
                have hlQ := HQ.out.len
                by_cases hltj : j < N
                · obtain ⟨xi, hxi⟩ : ∃ x, x = (i : Int) % V := ⟨_, rfl⟩
                  obtain ⟨yi, hyi⟩ : ∃ y, y = (i : Int) / V := ⟨_, rfl⟩
                  obtain ⟨xj, hxj⟩ : ∃ x, x = (j : Int) % V := ⟨_, rfl⟩
                  obtain ⟨yj, hyj⟩ : ∃ y, y = (j : Int) / V := ⟨_, rfl⟩
                  have e3 : (j : Int) < N := by omega
                  have e4 : (0 : Int) ≤ j := by omega
                  have T1 : (i : Int).tmod V = xi := by rw [hxi]; exact Int.tmod_eq_emod_of_nonneg e2
                  have T2 : (i : Int).tdiv V = yi := by rw [hyi]; exact Int.tdiv_eq_ediv_of_nonneg e2
                  have T3 : (j : Int).tmod V = xj := by rw [hxj]; exact Int.tmod_eq_emod_of_nonneg e4
                  have T4 : (j : Int).tdiv V = yj := by rw [hyj]; exact Int.tdiv_eq_ediv_of_nonneg e4
                  have hb1 := HXY.out i hlti
                  have hb2 := HXY.out j hltj
                  have hnear : nearB V i j = (inB (xi - xj) (-1) 1 && inB (yi - yj) (-1) 1) := by unfold nearB; rw [hxi, hyi, hxj, hyj]
                  rw [← hxi, ← hyi] at hb1
                  rw [← hxj, ← hyj] at hb2
                  clear hxi hyi hxj hyj
                  obtain ⟨i1, i2, i3, i4⟩ := hb1
                  obtain ⟨j1, j2, j3, j4⟩ := hb2
                  have ew1 : IntKind.i64.wrap (xi - xj) = xi - xj := by rw [IntKind.wrap_i64]; omega
                  have ew2 : IntKind.i64.wrap (yi - yj) = yi - yj := by rw [IntKind.wrap_i64]; omega
                  have ew3 : IntKind.i64.wrap yi = yi := by rw [IntKind.wrap_i64]; omega
                  have ew4 : IntKind.i64.wrap yj = yj := by rw [IntKind.wrap_i64]; omega
                  have e5 : ((i : Int)).toNat = i := by omega
                  have e6 : ((j : Int)).toNat = j := by omega
                  obtain ⟨pi, hpi⟩ : ∃ p, p = Q.getD i 0 := ⟨_, rfl⟩
                  obtain ⟨pj, hpj⟩ : ∃ p, p = Q.getD j 0 := ⟨_, rfl⟩
                  have hci := HO.out.cell (k := i) (by omega)
                  have hcj := HO.out.cell (k := j) (by omega)
                  have hfi := HO.out.free i
                  rw [← hpi] at hci
                  rw [← hpj] at hcj
                  have HPI := Lib.hid hpi; clear hpi
                  have HPJ := Lib.hid hpj; clear hpj
                  have NEXT : (nearB V i j = true → 0 ≤ pj → pi ≤ pj) → (c = false → Q = P ∧ (∀ k, k < i → ∀ j, j < N → nearB V k j = true → 0 ≤ P.getD j 0 → P.getD k 0 ≤ P.getD j 0) ∧ ∀ j', j' < j + 1 → nearB V i j' = true → 0 ≤ P.getD j' 0 → P.getD i 0 ≤ P.getD j' 0) := by
                    intro hh hc
                    obtain ⟨h1, h2, h3⟩ := HCF.out hc
                    refine ⟨h1, h2, fun j' hj' hn h0 => ?_⟩
                    by_cases e : j' = j
                    · subst e
                      have := hh hn
                      rw [HPI.out, HPJ.out, h1] at this
                      exact this h0
                    · exact h3 j' (by omega) hn h0
                  have HNR := Lib.hid hnear; clear hnear
                  cases hX : inB (xi - xj) (-1) 1
                  · have HX := Lib.hid hX
                    have HY : Hid True := trivial
                    have FIN := Lib.hid (NEXT (fun h => by rw [HNR.out, hX] at h; cases h))
                    clear hX NEXT
                    go_wp2_with fail
                    go_big_quiet ((go_at_call 38; exact Calls.quiet_of_same (l1In_same _ _ _ _ HX.out)))
                    go_upto_region 21 with fail
                    go_big_quiet (fail)
                    go_wp2
                    go_roundw
                    case rel => exact ⟨j + 1, c, Q, by go_num, by omega, rfl, own_same HO.out rfl, HQ.out, FIN.out, CT.out, below_drewN BEL.out _⟩
                    case measure => simp [intOf]; omega
                  · cases hY : inB (yi - yj) (-1) 1
                    · have HX := Lib.hid hX
                      have HY := Lib.hid hY
                      have FIN := Lib.hid (NEXT (fun h => by rw [HNR.out, hX, hY] at h; cases h))
                      clear hX hY NEXT
                      go_wp2_with fail
                      go_big_quiet ((go_at_call 38; first | exact Calls.quiet_of_same (l1In_same _ _ _ _ HX.out) | exact Calls.quiet_of_same (l1In_same _ _ _ _ HY.out)))
                      go_upto_region 21 with fail
                      go_big_quiet (fail)
                      go_wp2
                      go_roundw
                      case rel => exact ⟨j + 1, c, Q, by go_num, by omega, rfl, own_same HO.out rfl, HQ.out, FIN.out, CT.out, below_drewN BEL.out _⟩
                      case measure => simp [intOf]; omega
                    · have hnt : nearB V i j = true := by rw [HNR.out, hX, hY]; rfl
                      have HX := Lib.hid hX; clear hX
                      have HY := Lib.hid hY; clear hY
                      by_cases hgt : pj < pi
                      · have d1 : decide (pj < pi) = true := decide_eq_true hgt
                        by_cases h0 : 0 ≤ pj
                        · have d2 : decide (0 ≤ pj) = true := decide_eq_true h0
                          have hst := OwnsI.set HO.out i pj
                          have hho2 := HQ.out.step hlti hltj hnt (by rw [← HPJ.out]; exact h0) (by rw [← HPJ.out, ← HPI.out]; exact hgt)
                          rw [← HPJ.out] at hho2
                          have htp := totP_set (v := pj) hlQ hlti h0 (by rw [← HPI.out]; exact hgt)
                          have htot : Hid (totP N (Q.set i pj) < totP N P) := by
                            show _ < _
                            cases hc : c
                            · have h1 := (HCF.out hc).1
                              rw [h1] at htp ⊢; exact htp
                            · have := CT.out hc; omega
                          have HST := Lib.hid hst.1
                          have HSG := Lib.hid hst.2
                          have HH2 := Lib.hid hho2
                          clear hst hho2 htp NEXT HCF CT HPI HPJ HNR hnt
                          go_wp2_with fail
                          go_big_quiet ((go_at_call 38; first | exact Calls.quiet_of_same (l1In_same _ _ _ _ HX.out) | exact Calls.quiet_of_same (l1In_same _ _ _ _ HY.out)))
                          go_upto_region 21 with fail
                          go_big_quiet (fail)
                          go_wp2
                          go_roundw
                          case rel => exact ⟨j + 1, true, Q.set i pj, by go_num, by omega, rfl, own_same HST.out rfl, HH2.out, (fun h => by cases h), (fun _ => htot.out), by first | exact below_drewN (below_grown BEL.out HSG.out (Nat.le_refl _) (fun q e => by have := Option.some.inj e; omega)) _ | exact (below_drewN BEL.out _).setCell (by simp; omega) _⟩
                          case measure => simp [intOf]; omega
                        · have d2 : decide (0 ≤ pj) = false := decide_eq_false h0
                          have FIN := Lib.hid (NEXT (fun _ h => absurd h h0))
                          clear NEXT
                          go_wp2_with fail
                          go_big_quiet ((go_at_call 38; first | exact Calls.quiet_of_same (l1In_same _ _ _ _ HX.out) | exact Calls.quiet_of_same (l1In_same _ _ _ _ HY.out)))
                          go_upto_region 21 with fail
                          go_big_quiet (fail)
                          go_wp2
                          go_roundw
                          case rel => exact ⟨j + 1, c, Q, by go_num, by omega, rfl, own_same HO.out rfl, HQ.out, FIN.out, CT.out, below_drewN BEL.out _⟩
                          case measure => simp [intOf]; omega
                      · have d1 : decide (pj < pi) = false := decide_eq_false hgt
                        have FIN := Lib.hid (NEXT (fun _ _ => by omega))
                        clear NEXT
                        go_wp2_with fail
                        go_big_quiet ((go_at_call 38; first | exact Calls.quiet_of_same (l1In_same _ _ _ _ HX.out) | exact Calls.quiet_of_same (l1In_same _ _ _ _ HY.out)))
                        go_upto_region 21 with fail
                        go_big_quiet (fail)
                        go_wp2
                        go_roundw
                        case rel => exact ⟨j + 1, c, Q, by go_num, by omega, rfl, own_same HO.out rfl, HQ.out, FIN.out, CT.out, below_drewN BEL.out _⟩
                        case measure => simp [intOf]; omega
                · obtain rfl : N = j := by omega
                  go_wp2
                  go_roundw
                  case rel => exact ⟨i + 1, c, Q, by go_num, by omega, rfl, HO.out, HQ.out, (fun h => ⟨(HCF.out h).1, fun k hk j' hj' hn h0 => by
                    by_cases e : k = i
                    · subst e; exact (HCF.out h).2.2 j' hj' hn h0
                    · exact (HCF.out h).2.1 k (by omega) j' hj' hn h0⟩), CT.out, BEL.out⟩
                  case measure => simp [intOf]; omega
            · obtain rfl : N = i := by omega
              go_wp2
              go_roundg (gk - 1)
              case measure => omega
              case rel => exact ⟨by omega, c, Q, rfl, HO.out, HH.out, (fun h => by have := HTT.out h; have := HCT.out; omega), (fun h => by obtain ⟨h1, h2⟩ := HCF.out h; rw [h1]; exact fun k j hk hj hn h0 => h2 k hk j hj hn h0), BEL.out⟩
end Go.Proofs.Ythjeencbipgabaa
