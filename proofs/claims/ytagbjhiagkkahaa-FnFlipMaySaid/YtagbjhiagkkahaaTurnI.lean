/- Contracts of the functions TilingTurn and TilingFlip. -/
import Derived.Test.YtagbjhiagkkahaaLayOne
import Derived.Test.YtagbjhiagkkahaaTurn
import Derived.Test.YtagbjhiagkkahaaFlip
namespace Go.Proofs.Ytagbjhiagkkahaa
open Go.RowKit
set_option linter.unusedVariables false
set_option maxRecDepth 100000
set_option linter.unusedSimpArgs false

def turnW (v : Int) : Int := if v = 0 then 0 else v % 4 + 1
def flipW (v : Int) : Int := if v = 1 ∨ v = 3 then backI v else v
def tPartI (W T : Nat) (L : List Int) (k j : Nat) : Int := if tSrc W T j < k then turnW (L.getD (tSrc W T j) 0) else 0
def fPartI (W T : Nat) (L : List Int) (k j : Nat) : Int := if fIdx W j < k then flipW (L.getD (fIdx W j) 0) else 0
def turnedI (W T : Nat) (L : List Int) : List Int := tabI (W * T) fun j => turnW (L.getD (tSrc W T j) 0)
def flippedI (W T : Nat) (L : List Int) : List Int := tabI (W * T) fun j => flipW (L.getD (fIdx W j) 0)
def turnLF (W T : Int) (xs : List Bool) (L : List Int) : List Int := if lok W T xs L then turnedI W.toNat T.toNat L else []
def flipLF (W T : Int) (xs : List Bool) (L : List Int) : List Int := if lok W T xs L then flippedI W.toNat T.toNat L else []
theorem tPartI_step {W T : Nat} (L : List Int) {k : Nat} (hW : 0 < W) (hT : 0 < T) (hk : k < W * T) :
    ∀ j, j < W * T → (if j = tDst W T k then turnW (L.getD k 0) else tPartI W T L k j) = tPartI W T L (k + 1) j := by
  intro j hj
  by_cases e : j = tDst W T k
  · rw [if_pos e, e]; unfold tPartI; rw [tSrc_dst hW hT hk]; simp
  · rw [if_neg e]; unfold tPartI
    have : tSrc W T j ≠ k := fun h => e (by rw [← h, tDst_src hW hT hj])
    have : (tSrc W T j < k) = (tSrc W T j < k + 1) := by apply propext; omega
    simp [this]
theorem tPartI_skip {W T : Nat} (L : List Int) {k : Nat} (h : L.getD k 0 = 0) : ∀ j, tPartI W T L k j = tPartI W T L (k + 1) j := by
  intro j
  unfold tPartI
  by_cases e : tSrc W T j = k
  · rw [e, h]; simp [turnW]
  · have : (tSrc W T j < k) = (tSrc W T j < k + 1) := by apply propext; omega
    simp [this]
theorem tPartI_all {W T : Nat} (L : List Int) (hW : 0 < W) (hT : 0 < T) : ∀ j, j < W * T → tPartI W T L (W * T) j = turnW (L.getD (tSrc W T j) 0) := by
  intro j hj; unfold tPartI; rw [if_pos (tSrc_lt hW hT hj)]
theorem fPartI_step {W T : Nat} (L : List Int) {k : Nat} (hW : 0 < W) (hT : 0 < T) (hk : k < W * T) :
    ∀ j, j < W * T → (if j = fIdx W k then flipW (L.getD k 0) else fPartI W T L k j) = fPartI W T L (k + 1) j := by
  intro j _
  by_cases e : j = fIdx W k
  · rw [if_pos e, e]; unfold fPartI; rw [fIdx_fIdx hW]; simp
  · rw [if_neg e]; unfold fPartI
    have : fIdx W j ≠ k := fun h => e (by rw [← h, fIdx_fIdx hW])
    have : (fIdx W j < k) = (fIdx W j < k + 1) := by apply propext; omega
    simp [this]
theorem fPartI_all {W T : Nat} (L : List Int) (hW : 0 < W) (hT : 0 < T) : ∀ j, j < W * T → fPartI W T L (W * T) j = flipW (L.getD (fIdx W j) 0) := by
  intro j hj; unfold fPartI; rw [if_pos (fIdx_lt hW hj)]
theorem lok_nat {W T : Int} {xs : List Bool} {L : List Int} (h : lok W T xs L = true) : ∃ (Wn Tn : Nat), W = Wn ∧ T = Tn ∧ L.length = Wn * Tn := by
  obtain ⟨h1, h2, _⟩ := lok_rv h
  obtain ⟨v1, v2, v3, v4, v5, _⟩ := rv_true h1
  refine ⟨W.toNat, T.toNat, by omega, by omega, ?_⟩
  have e : ((W.toNat * T.toNat : Nat) : Int) = W * T := by rw [Int.natCast_mul, Int.toNat_of_nonneg (by omega), Int.toNat_of_nonneg (by omega)]
  omega
theorem turnLF_len (W T : Int) (xs : List Bool) (L : List Int) : (turnLF W T xs L).length ≤ L.length := by
  unfold turnLF
  by_cases h : lok W T xs L = true
  · obtain ⟨Wn, Tn, rfl, rfl, hl⟩ := lok_nat h
    rw [if_pos h, hl]; simp [turnedI, tabI_len]
  · rw [if_neg h]; simp
theorem flipLF_len (W T : Int) (xs : List Bool) (L : List Int) : (flipLF W T xs L).length ≤ L.length := by
  unfold flipLF
  by_cases h : lok W T xs L = true
  · obtain ⟨Wn, Tn, rfl, rfl, hl⟩ := lok_nat h
    rw [if_pos h, hl]; simp [flippedI, tabI_len]
  · rw [if_neg h]; simp

theorem turnedWay_any (v : Int) (w : World) (h0 : 0 ≤ v) (h1 : v ≤ 4) :
    Calls Try.prog 54 #[.int .i64 v] w fun e w' => e = .returned (.int .i64 (turnW v)) ∧ w = w' := by
  by_cases hz : v = 0
  · subst hz
    go_enter Try.func54, Try.ntmps54
    go_wp2
    go_ret
    exact ⟨rfl, rfl⟩
  · have z2 : (v == 0) = false := by simpa using hz
    have HZ := Lib.hid hz; clear hz
    go_enter Try.func54, Try.ntmps54
    go_wp2
    go_ret
    exact ⟨ret_int (by unfold turnW; rw [if_neg HZ.out]), rfl⟩
theorem ret_slice {a : Option Addr} {n n' cap : Nat} (h : n = n') : Ending.returned (.slice a n cap) = .returned (.slice a n' cap) := by rw [h]

set_option maxHeartbeats 2000000 in
theorem iTilingTurn_ret (W T : Int) (a : Option Addr) (n cap : Nat) (xs : List Bool) (la : Option Addr) (m lcap : Nat) (L : List Int) (w : World) (hn : n = xs.length) (hn' : n ≤ 1048576) (hm : m = L.length) (hm' : m ≤ 1048576) (ha : BoolsAt w a xs) (hl : IntsAt w la L) :
    Calls Try.prog 29 #[.agg #[.int .i64 W, .int .i64 T, .slice a n cap], .slice la m lcap] w (RetL w (turnLF W T xs L).length (turnLF W T xs L)) := by
  have HN := Lib.hid hn; clear hn
  have HM := Lib.hid hm; clear hm
  have HA := Lib.hid ha; clear ha
  have HL := Lib.hid hl; clear hl
  cases h : lok W T xs L
  · have e : turnLF W T xs L = [] := by unfold turnLF; rw [h]; rfl
    rw [e]
    have H := Lib.hid h; clear h e
    go_enter Try.func29, Try.ntmps29
    go_wp2_with fail
    refine (iLaidOk_any _ _ _ _ _ xs _ _ _ L _ HN.out hn' HM.out hm' (HA.out.one _) (HL.out.one _)).mono ?_; rintro e w1 ⟨rfl, hb1⟩
    have b1 := below_seq (below1 w _) hb1
    rw [H.out]
    go_wp2
    go_ret
    exact ⟨none, 0, rfl, OwnsI.nil _ _, b1⟩
  · obtain ⟨Wn, Tn, rfl, rfl, hlen⟩ := lok_nat h
    obtain ⟨h1, h2, h3⟩ := lok_rv h
    have hle : m = n := by rw [HM.out, HN.out]; exact h2
    subst hle
    obtain ⟨v1, v2, v3, v4, v5, _⟩ := rv_true h1
    have e : turnLF Wn Tn xs L = turnedI Wn Tn L := by unfold turnLF; rw [h, if_pos rfl]; simp
    rw [e]
    have hmWT : m = Wn * Tn := by rw [HM.out]; exact hlen
    have HE : Hid ((turnedI Wn Tn L).length = m) := by show _ = m; unfold turnedI; rw [tabI_len, hmWT]
    have hW : 0 < Wn := by omega
    have hT : 0 < Tn := by omega
    have HNW := Lib.hid hmWT; clear hmWT
    have hNTW : Hid ((Tn : Int) * Wn = m) := by show (Tn : Int) * Wn = m; rw [Int.mul_comm, HNW.out]; simp
    have n36 : m ≤ 36 := by
      have := mul_bd v1 v2 v3 v4
      have h9 : ((Wn * Tn : Nat) : Int) ≤ 36 := by push_cast; exact this.2
      have := HNW.out
      omega
    clear h1 h2 h3 v5 hlen e
    have H := Lib.hid h; clear h
    obtain ⟨i0, hi, hz0, hz1, hz2⟩ := info_parts infoInt
    go_enter Try.func29, Try.ntmps29
    go_wp2_with fail
    refine (iLaidOk_any _ _ _ _ _ xs _ _ _ L _ HN.out hn' HM.out hm' (HA.out.one _) (HL.out.one _)).mono ?_; rintro e w1 ⟨rfl, hb1⟩
    have p1 := heap_later (heap_new w _) hb1
    have b1 := below_seq (below1 w _) hb1
    have z1 : w.heap.size < w1.heap.size := heap_lt p1
    rw [H.out]
    clear hb1
    go_wp2_with (at_make; refine wpList_make_full _ rfl _ _ 26 rfl w1.heap.size 3 i0 (.int .i64 0) 1 Try.underlying26 hi hz0 hz1 _ _ _ _ m rfl rfl rfl rfl (by rw [hz2]; omega) (by unfold maxLen; omega) (Nat.le_refl _) ?_; intro w2 hown hgrow)
    rw [show (Value.int .i64 0).cells = #[.int .i64 0] from rfl, toList_madeCells_one] at hown
    have b2 := below_grown b1 hgrow (Nat.le_refl _) (by simp)
    have p2 := heap_grown p1 hgrow (by simp)
    have R2 : RowI w2 w1.heap.size w1.heap.size m m (tPartI Wn Tn L 0) := (RowI.of (OwnsI.ofRow (xs := List.replicate m 0) hown (by simp) (by simp)) (by simp)).congr (fun i hi => by simp [hi, tPartI])
    have lg := R2.base
    clear hown hgrow p1
    obtain ⟨c0, c1, c2⟩ := cells3 p2
    go_loopw [6, 7, 17] (fun _ _ i wr => ∃ k : Nat, k ≤ m ∧ i = .int .i64 k ∧ RowI wr w1.heap.size w1.heap.size m m (tPartI Wn Tn L k) ∧ wr.heap[w.heap.size]? = some (.cells #[.int .i64 Wn, .int .i64 Tn, .slice a m cap] 25 (0, 0)) ∧ Below w.heap.size w wr) (fun _ _ i _ => m - (intOf i).toNat)
    case atStart => exact ⟨0, Nat.zero_le _, rfl, R2, p2, b2⟩
    case round =>
      clear c0 c1 c2
      obtain ⟨k, hk, rfl, hr, pr, hbel⟩ := hrel
      obtain ⟨c0, c1, c2⟩ := cells3 pr
      have l1 := heap_lt pr
      by_cases hlt : k < m
      · have IL := HL.out.below hbel
        obtain ⟨lb, lo, rfl, hc⟩ := HL.out k (by rw [← HM.out]; exact hlt)
        have hbl := World.block_lt_of_cell? w _ hc
        simp only at hbl
        clear hc
        have hc := IL.cellAt (i := k) (by rw [← HM.out]; exact hlt)
        have hwy := lok_way H.out (k := k) (by rw [← HM.out]; exact hlt)
        obtain ⟨m1, m2, m3, m4⟩ := divmod_bd (W := Wn) (k := k) v1
        have e1 : (k : Int) < m := by omega
        have e0 : (0 : Int) ≤ k := by omega
        have hW0 : (Wn : Int) ≠ 0 := by omega
        obtain ⟨x, hx⟩ : ∃ x, x = L.getD k 0 := ⟨_, rfl⟩
        rw [← hx] at hc hwy
        obtain ⟨x0, x1⟩ := hwy
        have HX := Lib.hid hx; clear hx IL
        have hkW : k < Wn * Tn := by rw [← HNW.out]; exact hlt
        have hdst := tDst_lt hW hT hkW
        have hcell := hr.cell (k := tDst Wn Tn k) (by rw [HNW.out]; exact hdst)
        have hfree := hr.free (tDst Wn Tn k)
        obtain ⟨old, hold⟩ : ∃ old, old = tPartI Wn Tn L k (tDst Wn Tn k) := ⟨_, rfl⟩
        rw [← hold] at hcell
        clear hold
        have HR := Lib.hid hr; clear hr
        have BEL := Lib.hid hbel; clear hbel
        have i3 : ((tDst Wn Tn k : Nat) : Int) < m := by rw [HNW.out]; exact_mod_cast hdst
        go_wp2_with fail
        refine (turnedCell_any Wn Tn _ m cap k _ hW (by omega) hT (by omega) hkW).mono ?_; rintro e w6 ⟨rfl, hb6⟩
        have p6 := heap_later pr hb6
        have R6 := RowI.below HR.out hb6
        have hcell6 := cell_later hb6 hcell
        have hfree6 := R6.free (tDst Wn Tn k)
        have hs := R6.set (tDst Wn Tn k) (turnW x)
        have HS := Lib.hid (hs.1.congr (f' := tPartI Wn Tn L (k + 1)) (fun i hi => by rw [HX.out]; exact tPartI_step L hW hT hkW i (by rw [← HNW.out]; exact hi)))
        have B6 := Lib.hid (below_seq BEL.out hb6)
        clear hs R6 hcell hfree
        go_wp2_with fail
        refine (turnedWay_any x _ x0 x1).mono ?_; rintro e w7 ⟨rfl, rfl⟩
        go_wp2
        go_roundw
        case rel => exact ⟨k + 1, by omega, by go_num, HS.out, heap_set_other p6 (by simp; omega) _, B6.out.setCell (by simp; omega) _⟩
        case measure => simp [intOf]; omega
      · obtain rfl : k = m := by omega
        have HR := Lib.hid hr; clear hr
        go_wp2
        go_ret
        refine ⟨some ⟨w1.heap.size, 0, none⟩, k, ret_slice HE.out.symm, ?_, hbel⟩
        have := (HR.out.congr (f' := fun j => turnW (L.getD (tSrc Wn Tn j) 0)) (fun i hi => by rw [HNW.out]; exact tPartI_all L hW hT i (by rw [← HNW.out]; exact hi))).owns
        rw [HE.out]
        have h9 : turnedI Wn Tn L = tabI k (fun j => turnW (L.getD (tSrc Wn Tn j) 0)) := by unfold turnedI; rw [HNW.out]
        rw [h9]
        exact this.lower (by omega)

end Go.Proofs.Ytagbjhiagkkahaa
