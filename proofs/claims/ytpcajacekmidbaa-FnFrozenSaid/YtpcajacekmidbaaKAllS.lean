/- All tilings of a region: how many there are at most; what a call that returns them does. Merged of: AllM, AllS. -/
import Derived.Test.YtpcajacekmidbaaKFlipM
namespace Go.Proofs.Ytpcajacekmidbaa
open Go.RowKit
set_option linter.unusedVariables false
set_option maxRecDepth 100000
set_option linter.unusedSimpArgs false

theorem cnt_range (xs : List Bool) : cnt xs = (List.range xs.length).countP (fun i => xs.getD i false) := by
 rw [cnt_sum, countP_sumN]
 apply sumN_congr
 intro i _
 unfold b2n
 cases xs.getD i false <;> rfl
theorem countP_split {n : Nat} {p q r : Nat → Bool} (h : ∀ i, i < n → (if p i then 1 else 0) + (if q i then 1 else 0) = (if r i then 1 else 0 : Nat)) : (List.range n).countP p + (List.range n).countP q = (List.range n).countP r := by
 rw [countP_sumN, countP_sumN, countP_sumN, ← sumN_add]
 exact sumN_congr h
theorem free_cnt {W T : Int} {xs : List Bool} {L : List Int} (h : lok W T xs L = true) : freeN xs L + nzN L L.length = cnt xs := by
 obtain ⟨hr, hlen, _⟩ := lok_rv h
 rw [cnt_range]
 unfold freeN nzN
 rw [hlen]
 apply countP_split
 intro i hi
 by_cases hz : L.getD i 0 = 0
 · have e : freeB xs L i = xs.getD i false := by unfold freeB; rw [hz]; simp
   rw [e, hz]; simp
 · obtain ⟨o, _, _, _, hx, _⟩ := lok_at h hi hz
   have e0 : (L.getD i 0 == 0) = false := by simpa using hz
   have e1 : (L.getD i 0 != 0) = true := by simpa using hz
   have e : freeB xs L i = false := by unfold freeB; rw [e0, Bool.and_false]
   rw [e, e1, hx]
   rfl
theorem free_two {W T : Int} {xs : List Bool} {L : List Int} {k way : Int} (h : lok W T xs L = true) (hc : canLay W T xs L k way = true) : freeN xs (laidL W T xs L k way) + 2 = freeN xs L := by
 have h1 := free_cnt h
 have h2 := free_cnt (lok_laid h hc)
 have h3 := nz_twice h
 have h4 := nz_twice (lok_laid h hc)
 have h5 := laid_more h hc
 omega
theorem pow_half {a b : Nat} (h : a + 2 = b) : 2 ^ (a / 2) + 2 ^ (a / 2) ≤ 2 ^ (b / 2) := by
 subst h
 rw [show (a + 2) / 2 = a / 2 + 1 by omega, Nat.pow_succ]
 omega
theorem allL_count {W T : Int} {xs : List Bool} : ∀ (f : Nat) (L : List Int), lok W T xs L = true → (allL W T xs f L).length ≤ 2 ^ (freeN xs L / 2)
 | 0, L, _ => by simp [allL]
 | f + 1, L, h => by
   have hp : 0 < 2 ^ (freeN xs L / 2) := Nat.pow_pos (by omega)
   by_cases h0 : firstI xs L 0 xs.length < 0
   · rw [allL_done rfl h0]
     simp only [List.length_cons, List.length_nil]
     omega
   · rw [allL_succ rfl h0, List.length_append]
     have part : ∀ way : Int, (if canLay W T xs L (firstI xs L 0 xs.length) way = true then allL W T xs f (laidL W T xs L (firstI xs L 0 xs.length) way) else []).length ≤ (if canLay W T xs L (firstI xs L 0 xs.length) way = true then 2 ^ (freeN xs (laidL W T xs L (firstI xs L 0 xs.length) way) / 2) else 0) := by
      intro way
      split
      · rename_i hc
        exact allL_count f _ (lok_laid h hc)
      · simp
     have p1 := part 1
     have p2 := part 2
     have q : ∀ way : Int, canLay W T xs L (firstI xs L 0 xs.length) way = true → 2 ^ (freeN xs (laidL W T xs L (firstI xs L 0 xs.length) way) / 2) + 2 ^ (freeN xs (laidL W T xs L (firstI xs L 0 xs.length) way) / 2) ≤ 2 ^ (freeN xs L / 2) := fun way hc => pow_half (free_two h hc)
     by_cases c1 : canLay W T xs L (firstI xs L 0 xs.length) 1 = true
     · have q1 := q 1 c1
       simp only [if_pos c1] at p1 ⊢
       by_cases c2 : canLay W T xs L (firstI xs L 0 xs.length) 2 = true
       · have q2 := q 2 c2
         simp only [if_pos c2] at p2 ⊢
         omega
       · simp only [if_neg c2] at p2 ⊢
         omega
     · simp only [if_neg c1] at p1 ⊢
       by_cases c2 : canLay W T xs L (firstI xs L 0 xs.length) 2 = true
       · have q2 := q 2 c2
         simp only [if_pos c2] at p2 ⊢
         omega
       · simp only [if_neg c2] at p2 ⊢
         omega
def allF (W T : Int) (xs : List Bool) : List (List Int) := if rv W T xs then allL W T xs (xs.length + 1) (bareL W T xs) else []
theorem allF_count (W T : Int) (xs : List Bool) : (allF W T xs).length ≤ 4096 := by
 unfold allF
 split
 · rename_i h
   have h1 := allL_count (W := W) (T := T) (xs := xs) (xs.length + 1) (bareL W T xs) (by rw [lok_bareL]; exact h)
   have h2 := free_cnt (W := W) (T := T) (xs := xs) (L := bareL W T xs) (by rw [lok_bareL]; exact h)
   obtain ⟨_, _, _, _, _, h3⟩ := rv_true h
   have h4 : 2 ^ (freeN xs (bareL W T xs) / 2) ≤ 2 ^ 12 := Nat.pow_le_pow_right (by omega) (by omega)
   omega
 · simp
theorem allL_each {W T : Int} {xs : List Bool} : ∀ (f : Nat) (L : List Int), lok W T xs L = true → ∀ M, M ∈ allL W T xs f L → M.length = xs.length ∧ tok W T xs M = true
 | 0, L, _, M, hM => by simp [allL] at hM
 | f + 1, L, h, M, hM => by
   by_cases h0 : firstI xs L 0 xs.length < 0
   · rw [allL_done rfl h0] at hM
     simp only [List.mem_cons, List.not_mem_nil, or_false] at hM
     subst hM
     obtain ⟨_, hlen, _⟩ := lok_rv h
     refine ⟨hlen, ?_⟩
     unfold tok
     rw [h, hlen]
     simpa using h0
   · rw [allL_succ rfl h0, List.mem_append] at hM
     rcases hM with hM | hM
     all_goals
      split at hM
      · rename_i hc
        exact allL_each f _ (lok_laid h hc) M hM
      · simp at hM
theorem allF_each {W T : Int} {xs : List Bool} {M : List Int} (hM : M ∈ allF W T xs) : M.length = xs.length ∧ tok W T xs M = true := by
 unfold allF at hM
 split at hM
 · rename_i h
   exact allL_each _ _ (by rw [lok_bareL]; exact h) M hM
 · simp at hM

def RetSS (w : World) (rows : List (List Int)) (e : Ending) (w' : World) : Prop :=
 ∃ a cap, e = .returned (.slice a rows.length cap) ∧ OwnsSS w' w.heap.size (.slice a rows.length cap) rows ∧ Below w.heap.size w w'
theorem RowsI.append {w : World} {B B2 : Nat} {ws us : List Value} {rows qs : List (List Int)} (h : RowsI w B ws rows) (k : RowsI w B2 us qs) (hB : B ≤ B2) (hlt : ∀ i, i < rows.length → ∀ b, (ws.getD i (.slice none 0 0)).ownBlock = some b → b < B2) : RowsI w B (ws ++ us) (rows ++ qs) := by
 have gl : ∀ i, i < rows.length → (ws ++ us).getD i (.slice none 0 0) = ws.getD i (.slice none 0 0) := fun i hi => by
  simp [List.getD, List.getElem?_append_left (show i < ws.length by rw [h.len]; exact hi)]
 have gr : ∀ i, i < rows.length → (rows ++ qs).getD i [] = rows.getD i [] := fun i hi => by
  simp [List.getD, List.getElem?_append_left hi]
 have hl : ∀ i, rows.length ≤ i → (ws ++ us).getD i (.slice none 0 0) = us.getD (i - rows.length) (.slice none 0 0) := fun i hi => by
  simp [List.getD, List.getElem?_append_right (show ws.length ≤ i by rw [h.len]; exact hi), h.len]
 have hr : ∀ i, rows.length ≤ i → (rows ++ qs).getD i [] = qs.getD (i - rows.length) [] := fun i hi => by
  simp [List.getD, List.getElem?_append_right hi]
 refine ⟨by simp [h.len, k.len], fun i hi => ?_, fun i j hij hj b hb => ?_⟩
 · rw [List.length_append] at hi
   by_cases e : i < rows.length
   · rw [gl i e, gr i e]; exact h.own i e
   · rw [hl i (by omega), hr i (by omega)]; exact (k.own _ (by omega)).lower hB
 · rw [List.length_append] at hj
   by_cases e : j < rows.length
   · rw [gl i (by omega)] at hb
     rw [gl j e]; exact h.apart i j hij e b hb
   · rw [hl j (by omega)]
     by_cases e2 : i < rows.length
     · rw [gl i e2] at hb
       intro hb2
       have h1 := hlt i e2 b hb
       have h2 := (k.block (i := j - rows.length) (by omega) hb2).1
       omega
     · rw [hl i (by omega)] at hb
       exact k.apart (i - rows.length) (j - rows.length) (by omega) (by omega) b hb
theorem BoolsAt.lt {w : World} {a : Option Addr} {n : Nat} {xs : List Bool} {W T : Int} {L : List Int} (h : BoolsAt w a xs) (hn : n = xs.length) (hl' : L.length = n) (hl : lok W T xs L = true) {b off : Nat} (e : a = some ⟨b, off, none⟩) : b < w.heap.size := by
 obtain ⟨hr, _, _⟩ := lok_rv hl
 obtain ⟨v1, v2, v3, v4, v5, _⟩ := rv_true hr
 have hn0 : 0 < n := rv_pos v1 v3 (by rw [hn]; exact v5)
 obtain ⟨b', off', e', hc⟩ := h 0 (by omega)
 rw [e'] at e
 cases e
 exact World.block_lt_of_cell? w _ hc
theorem RowsI.lt {w : World} {B : Nat} {ws : List Value} {rows : List (List Int)} (h : RowsI w B ws rows) {i b : Nat} (hi : i < rows.length) (hb : (ws.getD i (.slice none 0 0)).ownBlock = some b) : b < w.heap.size := by
 obtain ⟨_, cs, hc⟩ := h.block hi hb
 exact heap_lt hc
theorem RowsI.one {w : World} {B : Nat} {v : Value} {M : List Int} (h : OwnsI w B v M) : RowsI w B [v] [M] :=
 RowsI.snoc (RowsI.nil w B) h (fun i hi => absurd hi (Nat.not_lt_zero i))

theorem allF_row {W T : Int} {xs : List Bool} {i : Nat} (hi : i < (allF W T xs).length) : ((allF W T xs).getD i []).length = xs.length ∧ tok W T xs ((allF W T xs).getD i []) = true := by
 have e : (allF W T xs).getD i [] = (allF W T xs)[i] := by simp [List.getD, hi]
 rw [e]
 exact allF_each (List.getElem_mem hi)
end Go.Proofs.Ytpcajacekmidbaa

namespace Go.Proofs.Ytpcajacekmidbaa
open Go.RowKit
set_option linter.unusedVariables false
set_option maxRecDepth 100000
set_option linter.unusedSimpArgs false

def RetAll (B : Nat) (w : World) (rows : List (List Int)) (e : Ending) (w' : World) : Prop :=
 ∃ g cap ws, e = .returned (.slice (some ⟨g, 0, none⟩) rows.length cap) ∧ w'.ownsRow w.heap.size 26 1 (.slice (some ⟨g, 0, none⟩) rows.length cap) rows.length ws ∧ RowsI w' B ws rows ∧ Below w.heap.size w w'
theorem rows_one (v : Value) (h : v.oneCell' = true) : ∀ u ∈ [v], u.oneCell' = true := by intro u hu; simp at hu; subst hu; exact h
theorem own_oneCell {w : World} {B : Nat} {v : Value} {M : List Int} (h : OwnsI w B v M) : v.oneCell' = true := by
 rcases h.2 with ⟨e, _⟩ | ⟨g, cap, cur, e, _⟩ <;> rw [e] <;> rfl
theorem RowsI.oneCell {w : World} {B : Nat} {ws : List Value} {rows : List (List Int)} (h : RowsI w B ws rows) : ∀ u ∈ ws, u.oneCell' = true := by
 intro u hu
 obtain ⟨i, hi, rfl⟩ := List.mem_iff_getElem.1 hu
 have := own_oneCell (h.own i (by rw [← h.len]; exact hi))
 simpa [List.getD, hi] using this
theorem row_some {w : World} {B n size : Nat} {e : TypeId} {g cap : Nat} {ws : List Value} {v' : Value} (h : w.ownsRow B e size v' n ws) (hne : v' ≠ .slice none 0 0) : ∃ g cap, v' = .slice (some ⟨g, 0, none⟩) n cap := by
 rcases h.2 with ⟨e, _⟩ | ⟨g, cap, cur, e, _⟩
 · exact absurd e hne
 · exact ⟨g, cap, e⟩
theorem made_empty (w : World) (o : Obj) {w1 : World} (hb : Below ((w.alloc o).alloc (.cells #[] 26)).heap.size ((w.alloc o).alloc (.cells #[] 26)) w1) : w1.ownsRow w.heap.size 26 1 (.slice (some ⟨w.heap.size + 1, 0, none⟩) 0 0) 0 [] := by
 have h := World.ownsRow_made (w.alloc o) #[] 0 (base := w.heap.size) (e := 26) (size := 1) (by simp) (Nat.zero_le _) rfl
 rw [World.size_alloc] at h
 exact h.kept (grown_of_below hb none) (Or.inr (by simp [Value.ownBlock]))
def partsB (A1 A2 : List (List Int)) : Nat → List (List Int)
 | 0 => []
 | 1 => []
 | 2 => A1
 | _ => A1 ++ A2

set_option maxHeartbeats 8000000 in
theorem l2All_ret (W T : Int) (xs : List Bool) : ∀ (f : Nat) (a : Option Addr) (n cap : Nat) (la : Option Addr) (lcap : Nat) (L : List Int) (B : Nat) (w : World), n = xs.length → n ≤ 1048576 → n = L.length → freeN xs L < f → lok W T xs L = true → BoolsAt w a xs → OwnsI w B (.slice la n lcap) L → B ≤ w.heap.size →
 Calls Try.prog 166 #[.agg #[.int .i64 W, .int .i64 T, .slice a n cap], .slice la n lcap] w (RetAll B w (allL W T xs f L)) := by
 intro f
 induction f with
 | zero => intro a n cap la lcap L B w _ _ _ h; exact absurd h (Nat.not_lt_zero _)
 | succ f ih =>
 intro a n cap la lcap L B w hn hn' hm hf hlk ha hl hBw
 obtain ⟨i0, hI0, hz0, hz1, hz2⟩ := info_parts infoSl
 have HCT : Hid ((allL W T xs (f + 1) L).length ≤ 4096) := by
  show _ ≤ _
  have h1 := allL_count (f + 1) L hlk
  have h2 := free_cnt hlk
  obtain ⟨hr, _, _⟩ := lok_rv hlk
  obtain ⟨_, _, _, _, _, h3⟩ := rv_true hr
  have h4 : 2 ^ (freeN xs L / 2) ≤ 2 ^ 12 := Nat.pow_le_pow_right (by omega) (by omega)
  omega
 have HN := Lib.hid hn; clear hn
 have HM := Lib.hid hm; clear hm
 have HA := Lib.hid ha; clear ha
 have HL := Lib.hid hl; clear hl
 have HI := Lib.hid ih; clear ih
 have HF := Lib.hid hf; clear hf
 have HK := Lib.hid hlk; clear hlk
 obtain ⟨fv, hfv⟩ : ∃ fv, firstI xs L 0 n = fv := ⟨_, rfl⟩
 by_cases h0 : fv < 0
 · have HE : Hid (allL W T xs (f + 1) L = [L]) := allL_done (by rw [← HN.out]; exact hfv) h0
   have HFV := Lib.hid hfv; clear hfv
   rw [HE.out]
   go_enter Try.func166, Try.ntmps166
   go_wp2_with fail
   refine (l2First_any _ _ _ _ _ xs _ _ L _ HN.out HM.out hn' ((HA.out.one _).one _) (OwnsI.at ((HL.out.alloc _).alloc _))).mono ?_; rintro e w1 ⟨rfl, hb1⟩
   have b1 := below_seq (below2 w _ _) hb1
   rw [HFV.out]
   have hrow : w1.ownsRow w.heap.size 26 1 (.slice (some ⟨w.heap.size + 1, 0, none⟩) 0 0) 0 [] := made_empty w _ hb1
   have hz := b1.size
   have L1 := Lib.hid (HL.out.below b1)
   have B1 := Lib.hid b1; clear b1
   clear hb1
   go_wp2_with (at_builtin; refine wpList_append_own _ rfl _ _ 91 rfl w.heap.size 26 i0 (.slice none 0 0) 1 24 Try.underlying91 hI0 hz0 hz1 hz2 rfl (by decide) _ _ _ rfl (hrow.alloc _) ⟨w1.heap.size, 0, none⟩ 1 1 [.slice la n lcap] rfl rfl (cell_one_new _ _ _) (rows_one _ rfl) (by unfold maxLen; omega) (by omega) (by simp; omega) ?_; intro v' w2 hown hgrow hnil)
   go_ret
   obtain ⟨g, cp, rfl⟩ : ∃ g cp, v' = .slice (some ⟨g, 0, none⟩) 1 cp := row_some (g := 0) (cap := 0) hown (fun e => by have := hnil.1 e; simp at this)
   have b2 : Below w.heap.size w w2 := below_grown (B1.out.alloc hz _) hgrow (Nat.le_refl _) (fun k e => by have e' : some (w.heap.size + 1) = some k := e; cases e'; omega)
   refine ⟨g, cp, [.slice la n lcap], rfl, hown, RowsI.one ?_, b2⟩
   refine World.ownsRow.kept (L1.out.alloc _) hgrow ?_
   cases hob : (Value.slice la n lcap).ownBlock with
   | none => exact Or.inl rfl
   | some k =>
     refine Or.inr (fun e => ?_)
     have e' : some k = some (w.heap.size + 1) := e
     cases e'
     have := (World.ownsRow.lt HL.out (w.heap.size + 1) hob).2
     omega
 · obtain ⟨c, rfl⟩ : ∃ c : Nat, fv = c := ⟨fv.toNat, by omega⟩
   obtain ⟨A1, hA1⟩ : ∃ A1, A1 = (if canLay W T xs L c 1 = true then allL W T xs f (laidL W T xs L c 1) else []) := ⟨_, rfl⟩
   obtain ⟨A2, hA2⟩ : ∃ A2, A2 = (if canLay W T xs L c 2 = true then allL W T xs f (laidL W T xs L c 2) else []) := ⟨_, rfl⟩
   have HAll : Hid (allL W T xs (f + 1) L = A1 ++ A2) := by show _ = _; rw [hA1, hA2]; exact allL_succ (by rw [← HN.out]; exact hfv) h0
   have hct := HCT.out
   rw [HAll.out] at hct ⊢
   rw [List.length_append] at hct
   have HA1 := Lib.hid hA1; clear hA1
   have HA2 := Lib.hid hA2; clear hA2
   have HFV := Lib.hid hfv; clear hfv
   have HBW := Lib.hid hBw
   go_enter Try.func166, Try.ntmps166
   go_wp2_with fail
   refine (l2First_any _ _ _ _ _ xs _ _ L _ HN.out HM.out hn' ((HA.out.one _).one _) (OwnsI.at ((HL.out.alloc _).alloc _))).mono ?_; rintro e w1 ⟨rfl, hb1⟩
   have p1 := heap_later (heap_later (heap_new w (.cells #[.int .i64 W, .int .i64 T, .slice a n cap] 25)) (below1 _ (.cells #[] 26))) hb1
   have hrow : w1.ownsRow w.heap.size 26 1 (.slice (some ⟨w.heap.size + 1, 0, none⟩) 0 0) 0 [] := made_empty w _ hb1
   have ROW := Lib.hid hrow; clear hrow
   have BB1 := Lib.hid (below_seq (below2 w _ _) hb1)
   rw [HFV.out]
   clear hb1
   have hc0 : ¬ ((c : Int) < 0) := by omega
   clear h0
   go_wp2
   go_loopw [5, 7] (fun o i wr => ∃ (wy g cp : Nat) (ws : List Value), (wy = 1 ∨ wy = 2 ∨ wy = 3) ∧ i = .int .i64 wy ∧ o = .slice (some ⟨g, 0, none⟩) (partsB A1 A2 wy).length cp ∧ wr.ownsRow w.heap.size 26 1 (.slice (some ⟨g, 0, none⟩) (partsB A1 A2 wy).length cp) (partsB A1 A2 wy).length ws ∧ RowsI wr w.heap.size ws (partsB A1 A2 wy) ∧
    wr.heap[w.heap.size]? = some (.cells #[.int .i64 W, .int .i64 T, .slice a n cap] 25 (0, 0)) ∧ Below w.heap.size w wr) (fun _ i _ => 3 - (intOf i).toNat)
   case atStart => exact ⟨1, w.heap.size + 1, 0, [], Or.inl rfl, rfl, rfl, ROW.out, RowsI.nil _ _, p1, BB1.out⟩
   case round =>
    rename World => wo
    clear p1 ROW BB1
    obtain ⟨wy, g, cp, ws, hwy, rfl, rfl, hro, hrs, po, bo⟩ := hrel
    have BO := Lib.hid bo; clear bo
    have RO := Lib.hid hro; clear hro
    have RS := Lib.hid hrs; clear hrs
    obtain ⟨c0, c1, c2⟩ := cells3 po
    have zo := BO.out.size
    rcases hwy with rfl | rfl | rfl
    · have HF2 : Hid (layF W T xs L (c : Int) 1 = (laidL W T xs L c 1, canLay W T xs L c 1)) := layF_of HK.out
      have hpn : partsB A1 A2 2 = partsB A1 A2 1 ++ A1 := by simp [partsB]
      have hpl : (partsB A1 A2 1).length + A1.length ≤ 4096 := by simp only [partsB, List.length_nil]; omega
      have HPN := Lib.hid hpn; clear hpn
      obtain ⟨P, hP⟩ : ∃ P, P = partsB A1 A2 1 := ⟨_, rfl⟩
      rw [← hP] at hpl HPN RO RS ⊢
      clear hP
      go_wp2_with fail
      refine (sLayOne_ret _ _ _ _ _ xs _ _ _ L _ _ _ HN.out hn' HM.out (by omega) (HA.out.below BO.out) (OwnsI.at (HL.out.below BO.out))).mono ?_; rintro e w2 ⟨a2, cap2, rfl, ho2, hb2⟩
      rw [HF2.out] at ho2 ⊢
      simp only at ho2 ⊢
      have B2 := Lib.hid (below_seq BO.out hb2)
      have p2 := heap_later po hb2
      have R2 := Lib.hid (RO.out.kept (grown_of_below hb2 none) (Or.inr (by simp [Value.ownBlock])))
      have S2 := Lib.hid (RS.out.below hb2)
      clear c0 c1 c2
      obtain ⟨c0, c1, c2⟩ := cells3 p2
      have z2 := hb2.size
      have HLT : Hid (∀ i, i < P.length → ∀ b, (ws.getD i (.slice none 0 0)).ownBlock = some b → b < wo.heap.size) := fun i hi b hb => RS.out.lt hi hb
      clear hb2
      cases hok : canLay W T xs L (c : Int) 1
      · have HE : Hid (A1 = []) := by show _ = _; rw [HA1.out, if_neg (by rw [hok]; exact Bool.false_ne_true)]
        clear hok
        go_wp2
        go_roundw
        case rel => exact ⟨2, g, cp, ws, by omega, by go_num, by rw [HPN.out, HE.out, List.append_nil], by rw [HPN.out, HE.out, List.append_nil]; exact R2.out, by rw [HPN.out, HE.out, List.append_nil]; exact S2.out, p2, B2.out⟩
        case measure => simp [intOf]
      · have HE : Hid (A1 = allL W T xs f (laidL W T xs L c 1)) := by show _ = _; rw [HA1.out, if_pos hok]
        have HL2 : Hid (n = (laidL W T xs L c 1).length) := by show n = _; rw [laidL_len]; exact HM.out
        have HFR : Hid (freeN xs (laidL W T xs L c 1) < f) := by show _ < _; have h1 := free_drop' (way := 1) (by omega) HK.out hok; have h2 := HF.out; omega
        have HK2 : Hid (lok W T xs (laidL W T xs L c 1) = true) := lok_laid HK.out hok
        rw [← HL2.out] at ho2 ⊢
        have O2 := Lib.hid ho2; clear ho2
        clear hok
        go_wp2_with fail
        refine (HI.out _ _ _ _ _ _ wo.heap.size _ HN.out hn' HL2.out HFR.out HK2.out (HA.out.below B2.out) O2.out z2).mono ?_; rintro e w3 ⟨g3, cap3, us, rfl, hr3, hs3, hb3⟩
        rw [← HE.out] at hr3 hs3 ⊢
        have B3 := Lib.hid (below_seq B2.out hb3)
        have p3 := heap_later p2 hb3
        have R3 := R2.out.kept (grown_of_below hb3 none) (Or.inr (by simp [Value.ownBlock]))
        have S3 := Lib.hid (S2.out.below hb3)
        have z3 := hb3.size
        have HS3 := Lib.hid hs3; clear hs3
        have HR3 := Lib.hid hr3; clear hr3
        have hg := (World.ownsRow.lt R3 g rfl)
        clear c0 c1 c2 hb3 p2
        go_wp2_with (at_builtin; refine wpList_append_own _ rfl _ _ 91 rfl w.heap.size 26 i0 (.slice none 0 0) 1 24 Try.underlying91 hI0 hz0 hz1 hz2 rfl (by decide) _ _ _ rfl R3 ⟨g3, 0, none⟩ A1.length cap3 us rfl (by rw [HS3.out.len]; omega) (HR3.out.cells rfl) HS3.out.oneCell (by unfold maxLen; omega) (by omega) (by omega) ?_; intro v' w4 hown hgrow hnil)
        obtain ⟨g4, cp4, rfl⟩ : ∃ g4 cp4, v' = .slice (some ⟨g4, 0, none⟩) (P.length + A1.length) cp4 := row_some (g := 0) (cap := 0) hown (fun e => by have h : Value.slice (some ⟨g, 0, none⟩) P.length cp = .slice none 0 0 := (hnil.1 e).1; cases h)
        have HL4 : Hid ((P ++ A1).length = P.length + A1.length) := List.length_append
        have RS3 := Lib.hid (S3.out.append HS3.out zo HLT.out)
        have RS4 : Hid (RowsI w4 w.heap.size (ws ++ us) (P ++ A1)) := RS3.out.kept hgrow (fun i hi k hk e => by
         have e' : some g = some k := e
         cases e'
         obtain ⟨_, cs, hc⟩ := RS3.out.block hi hk
         obtain ⟨ds, hd⟩ := row_block R3 rfl
         exact not_same hc hd (by decide))
        have p4 := heap_grown p3 hgrow (by intro e; have e' : some g = some w.heap.size := e; cases e'; obtain ⟨ds, hd⟩ := row_block R3 rfl; exact not_same p3 hd (by decide))
        have B4 := Lib.hid (below_grown B3.out hgrow (Nat.le_refl _) (fun k e => by have e' : some g = some k := e; cases e'; exact hg.1))
        have HOW := Lib.hid hown; clear hown
        go_roundw
        case rel => exact ⟨2, g4, cp4, ws ++ us, by omega, by go_num, by rw [HPN.out, HL4.out], by rw [HPN.out, HL4.out]; exact HOW.out, by rw [HPN.out]; exact RS4.out, p4, B4.out⟩
        case measure => simp [intOf]
    · have HF2 : Hid (layF W T xs L (c : Int) 2 = (laidL W T xs L c 2, canLay W T xs L c 2)) := layF_of HK.out
      have hpn : partsB A1 A2 3 = partsB A1 A2 2 ++ A2 := by simp [partsB]
      have hpl : (partsB A1 A2 2).length + A2.length ≤ 4096 := by simp only [partsB, List.length_nil]; omega
      have HPN := Lib.hid hpn; clear hpn
      obtain ⟨P, hP⟩ : ∃ P, P = partsB A1 A2 2 := ⟨_, rfl⟩
      rw [← hP] at hpl HPN RO RS ⊢
      clear hP
      go_wp2_with fail
      refine (sLayOne_ret _ _ _ _ _ xs _ _ _ L _ _ _ HN.out hn' HM.out (by omega) (HA.out.below BO.out) (OwnsI.at (HL.out.below BO.out))).mono ?_; rintro e w2 ⟨a2, cap2, rfl, ho2, hb2⟩
      rw [HF2.out] at ho2 ⊢
      simp only at ho2 ⊢
      have B2 := Lib.hid (below_seq BO.out hb2)
      have p2 := heap_later po hb2
      have R2 := Lib.hid (RO.out.kept (grown_of_below hb2 none) (Or.inr (by simp [Value.ownBlock])))
      have S2 := Lib.hid (RS.out.below hb2)
      clear c0 c1 c2
      obtain ⟨c0, c1, c2⟩ := cells3 p2
      have z2 := hb2.size
      have HLT : Hid (∀ i, i < P.length → ∀ b, (ws.getD i (.slice none 0 0)).ownBlock = some b → b < wo.heap.size) := fun i hi b hb => RS.out.lt hi hb
      clear hb2
      cases hok : canLay W T xs L (c : Int) 2
      · have HE : Hid (A2 = []) := by show _ = _; rw [HA2.out, if_neg (by rw [hok]; exact Bool.false_ne_true)]
        clear hok
        go_wp2
        go_roundw
        case rel => exact ⟨3, g, cp, ws, by omega, by go_num, by rw [HPN.out, HE.out, List.append_nil], by rw [HPN.out, HE.out, List.append_nil]; exact R2.out, by rw [HPN.out, HE.out, List.append_nil]; exact S2.out, p2, B2.out⟩
        case measure => simp [intOf]
      · have HE : Hid (A2 = allL W T xs f (laidL W T xs L c 2)) := by show _ = _; rw [HA2.out, if_pos hok]
        have HL2 : Hid (n = (laidL W T xs L c 2).length) := by show n = _; rw [laidL_len]; exact HM.out
        have HFR : Hid (freeN xs (laidL W T xs L c 2) < f) := by show _ < _; have h1 := free_drop' (way := 2) (by omega) HK.out hok; have h2 := HF.out; omega
        have HK2 : Hid (lok W T xs (laidL W T xs L c 2) = true) := lok_laid HK.out hok
        rw [← HL2.out] at ho2 ⊢
        have O2 := Lib.hid ho2; clear ho2
        clear hok
        go_wp2_with fail
        refine (HI.out _ _ _ _ _ _ wo.heap.size _ HN.out hn' HL2.out HFR.out HK2.out (HA.out.below B2.out) O2.out z2).mono ?_; rintro e w3 ⟨g3, cap3, us, rfl, hr3, hs3, hb3⟩
        rw [← HE.out] at hr3 hs3 ⊢
        have B3 := Lib.hid (below_seq B2.out hb3)
        have p3 := heap_later p2 hb3
        have R3 := R2.out.kept (grown_of_below hb3 none) (Or.inr (by simp [Value.ownBlock]))
        have S3 := Lib.hid (S2.out.below hb3)
        have z3 := hb3.size
        have HS3 := Lib.hid hs3; clear hs3
        have HR3 := Lib.hid hr3; clear hr3
        have hg := (World.ownsRow.lt R3 g rfl)
        clear c0 c1 c2 hb3 p2
        go_wp2_with (at_builtin; refine wpList_append_own _ rfl _ _ 91 rfl w.heap.size 26 i0 (.slice none 0 0) 1 24 Try.underlying91 hI0 hz0 hz1 hz2 rfl (by decide) _ _ _ rfl R3 ⟨g3, 0, none⟩ A2.length cap3 us rfl (by rw [HS3.out.len]; omega) (HR3.out.cells rfl) HS3.out.oneCell (by unfold maxLen; omega) (by omega) (by omega) ?_; intro v' w4 hown hgrow hnil)
        obtain ⟨g4, cp4, rfl⟩ : ∃ g4 cp4, v' = .slice (some ⟨g4, 0, none⟩) (P.length + A2.length) cp4 := row_some (g := 0) (cap := 0) hown (fun e => by have h : Value.slice (some ⟨g, 0, none⟩) P.length cp = .slice none 0 0 := (hnil.1 e).1; cases h)
        have HL4 : Hid ((P ++ A2).length = P.length + A2.length) := List.length_append
        have RS3 := Lib.hid (S3.out.append HS3.out zo HLT.out)
        have RS4 : Hid (RowsI w4 w.heap.size (ws ++ us) (P ++ A2)) := RS3.out.kept hgrow (fun i hi k hk e => by
         have e' : some g = some k := e
         cases e'
         obtain ⟨_, cs, hc⟩ := RS3.out.block hi hk
         obtain ⟨ds, hd⟩ := row_block R3 rfl
         exact not_same hc hd (by decide))
        have p4 := heap_grown p3 hgrow (by intro e; have e' : some g = some w.heap.size := e; cases e'; obtain ⟨ds, hd⟩ := row_block R3 rfl; exact not_same p3 hd (by decide))
        have B4 := Lib.hid (below_grown B3.out hgrow (Nat.le_refl _) (fun k e => by have e' : some g = some k := e; cases e'; exact hg.1))
        have HOW := Lib.hid hown; clear hown
        go_roundw
        case rel => exact ⟨3, g4, cp4, ws ++ us, by omega, by go_num, by rw [HPN.out, HL4.out], by rw [HPN.out, HL4.out]; exact HOW.out, by rw [HPN.out]; exact RS4.out, p4, B4.out⟩
        case measure => simp [intOf]
    · go_wp2
      go_ret
      exact ⟨g, cp, ws, rfl, RO.out, RS.out.lower HBW.out, BO.out⟩

set_option maxHeartbeats 2000000 in
theorem sTilingsAll_ret (W T : Int) (a : Option Addr) (n cap : Nat) (xs : List Bool) (w : World) (hn : n = xs.length) (hn' : n ≤ 1048576) (ha : BoolsAt w a xs) :
 Calls Try.prog 128 #[.agg #[.int .i64 W, .int .i64 T, .slice a n cap]] w (RetSS w (allF W T xs)) := by
 have HN := Lib.hid hn; clear hn
 have HA := Lib.hid ha; clear ha
 cases h : rv W T xs
 · have HE : Hid (allF W T xs = []) := by show _ = _; unfold allF; rw [h]; rfl
   have H := Lib.hid h; clear h
   rw [HE.out]
   go_enter Try.func128, Try.ntmps128
   go_wp2_with fail
   refine (sRegionValid_any _ _ _ _ _ xs _ HN.out hn' (HA.out.one _)).mono ?_; rintro e w1 ⟨rfl, hb1⟩
   rw [H.out]
   go_wp2
   go_ret
   have b1 := below_seq (below1 w _) hb1
   refine ⟨_, _, rfl, ⟨[], ?_, RowsI.nil _ _⟩, below_seq b1 (below1 _ _)⟩
   exact World.ownsRow_made w1 #[] 0 b1.size (Nat.zero_le _) rfl
 · have HE : Hid (allF W T xs = allL W T xs (xs.length + 1) (bareL W T xs)) := by show _ = _; unfold allF; rw [h]; rfl
   rw [HE.out]
   have HB : Hid ((bareL W T xs).length = n) := by show _ = _; unfold bareL; rw [h, HN.out]; simp
   have HLK : Hid (lok W T xs (bareL W T xs) = true) := by show _ = _; rw [lok_bareL]; exact h
   have HF : Hid (freeN xs (bareL W T xs) < xs.length + 1) := by show _ < _; have := freeN_le xs (bareL W T xs); omega
   have H := Lib.hid h; clear h
   obtain ⟨ALL, hALL⟩ : ∃ ALL, ALL = allL W T xs (xs.length + 1) (bareL W T xs) := ⟨_, rfl⟩
   rw [← hALL]
   have HALL := Lib.hid hALL; clear hALL
   go_enter Try.func128, Try.ntmps128
   go_wp2_with fail
   refine (sRegionValid_any _ _ _ _ _ xs _ HN.out hn' (HA.out.one _)).mono ?_; rintro e w1 ⟨rfl, hb1⟩
   rw [H.out]
   have p1 := heap_later (heap_new w (.cells #[.int .i64 W, .int .i64 T, .slice a n cap] 25)) hb1
   have b1 := below_seq (below1 w _) hb1
   have A0 : BoolsAt w1 a xs := (HA.out.one _).below hb1
   have A1 : Hid (BoolsAt w1.drew a xs) := A0
   have P1 : w1.drew.heap[w.heap.size]? = some (.cells #[.int .i64 W, .int .i64 T, .slice a n cap] 25 (0, 0)) := p1
   have l1 := heap_lt p1
   obtain ⟨c0, c1, c2⟩ := cells3 p1
   clear hb1 p1 A0
   go_wp2_with fail
   go_region_held3 (fun w' => w'.cell? ⟨w.heap.size, 0, none⟩ = some (.int .i64 W) ∧ w'.cell? ⟨w.heap.size, 1, none⟩ = some (.int .i64 T) ∧ w'.cell? ⟨w.heap.size, 2, none⟩ = some (.slice a n cap))
    (go_keep)
    (first
      | (go_at_call 166; refine (l2All_ret W T xs _ _ _ _ _ _ _ w1.drew.heap.size _ HN.out hn' HB.out.symm HF.out HLK.out A2.out O2.out hb2.size).mono ?_; rw [← HALL.out]; rintro e w4 ⟨g4, cap4, ws4, rfl, hr4, hs4, hb4⟩; have p4 := heap_later p2 hb4; obtain ⟨c40, c41, c42⟩ := cells3 p4)
      | (go_at_call 105; refine (sLaidBare_ret _ _ _ _ _ xs _ HN.out hn' A1.out).mono ?_; rintro e w2 ⟨a2, cap2, rfl, ho2, hb2⟩; rw [HB.out] at ho2 ⊢; have p2 := heap_later P1 hb2; have A2 := Lib.hid (A1.out.below hb2); have O2 := Lib.hid ho2; obtain ⟨c20, c21, c22⟩ := cells3 p2))
   go_wp2
   go_ret
   have b4 : Below w.heap.size w w4 := below_seq b1 (below_seq (drew_below w1) (below_seq hb2 hb4))
   have z2 := (below_seq b1 (below_seq (drew_below w1) hb2)).size
   exact ⟨_, cap4, rfl, ⟨ws4, ownsRow_lower hr4 z2, hs4.lower b1.size⟩, b4⟩

end Go.Proofs.Ytpcajacekmidbaa
