/- Plain facts on the square of four cells around a corner, and on the flip of two dominoes there. -/
import Derived.Test.YtpcajacekmidbaaGreatKLatL
namespace Go.Proofs.YtpcajacekmidbaaGreat
open Go.RowKit
set_option linter.unusedVariables false
set_option maxRecDepth 100000
set_option linter.unusedSimpArgs false

def loB (W T : Int) (xs : List Bool) (s : Nat × Bool) : Int := if sBoth W T xs s.1 s.2 then (if -3 * sRise W s.1 s.2 < sRise W s.1 s.2 then -3 * sRise W s.1 s.2 else sRise W s.1 s.2) else sRise W s.1 s.2
def hiB (W T : Int) (xs : List Bool) (s : Nat × Bool) : Int := if sBoth W T xs s.1 s.2 then (if sRise W s.1 s.2 < -3 * sRise W s.1 s.2 then -3 * sRise W s.1 s.2 else sRise W s.1 s.2) else sRise W s.1 s.2
def loW (up : Bool) (W T : Int) (xs : List Bool) (s : Nat × Bool) : Int := if up then loB W T xs s else -hiB W T xs s
def hiW (up : Bool) (W T : Int) (xs : List Bool) (s : Nat × Bool) : Int := if up then hiB W T xs s else -loB W T xs s
def sgnL (up : Bool) (W T : Int) (xs : List Bool) (H : List Int) (N : Nat) : List Int := (List.range N).map fun k => if hAt W T xs k then (if up then H.getD k 0 else -H.getD k 0) else 99
theorem sgnL_get {up : Bool} {W T : Int} {xs : List Bool} {H : List Int} {N k : Nat} (hk : k < N) : (sgnL up W T xs H N).getD k 0 = if hAt W T xs k then (if up then H.getD k 0 else -H.getD k 0) else 99 := by simp [sgnL, hk]
theorem sgnL_len (up : Bool) (W T : Int) (xs : List Bool) (H : List Int) (N : Nat) : (sgnL up W T xs H N).length = N := by simp [sgnL]
theorem bnd_cases {W T : Int} {xs : List Bool} (k : Nat) (nth : Bool) : (sRise W k nth = 1 ∨ sRise W k nth = -1) ∧ ((sBoth W T xs k nth = false ∧ loB W T xs (k, nth) = sRise W k nth ∧ hiB W T xs (k, nth) = sRise W k nth) ∨ (sBoth W T xs k nth = true ∧ ((sRise W k nth = 1 ∧ loB W T xs (k, nth) = -3 ∧ hiB W T xs (k, nth) = 1) ∨ (sRise W k nth = -1 ∧ loB W T xs (k, nth) = -1 ∧ hiB W T xs (k, nth) = 3)))) := by
 have hr : sRise W k nth = 1 ∨ sRise W k nth = -1 := by unfold sRise; split <;> simp
 refine ⟨hr, ?_⟩
 unfold loB hiB
 cases hb : sBoth W T xs k nth
 · left; simp
 · right
   refine ⟨rfl, ?_⟩
   rcases hr with e | e
   · left; rw [e]; exact ⟨rfl, rfl, rfl⟩
   · right; rw [e]; exact ⟨rfl, rfl, rfl⟩
theorem gt_wide (up : Bool) {W T : Int} {xs : List Bool} {X H : List Int} {N fk : Nat} (hs : simpleB W T xs = true) (hN : (W + 1) * (T + 1) = (N : Int)) (hf : frstK W T xs N = fk) (ht : tok W T xs X = true) (hH : HtsOf W T xs X H N)
 (hmax : ∀ M B, tok W T xs M = true → HtsOf W T xs M B N → ∀ k, k < N → if up then B.getD k 0 ≤ H.getD k 0 else H.getD k 0 ≤ B.getD k 0) :
 GT W T xs N fk (loW up W T xs) (hiW up W T xs) (sgnL up W T xs H N) := by
 obtain ⟨v1, v2, v3, v4, v5, v6⟩ := rv_true (simpleB_rv hs)
 have hp := hts_hok hs hN hf hH
 obtain ⟨hfN, hfa⟩ := first_hAt v1 hf
 have hend : ∀ k nth, k < N → sUsed W T xs k nth = true → (sTo W k nth).toNat < N ∧ hAt W T xs k = true ∧ hAt W T xs (sTo W k nth).toNat = true := by
  intro k nth hk hu
  obtain ⟨t0, t1, t2⟩ := sTo_lt v1 hu
  refine ⟨by omega, (hAt_iff v1).2 (Or.inl ⟨nth, hu⟩), (hAt_iff v1).2 (Or.inr ⟨k, nth, hu, by omega⟩)⟩
 have hdiff : ∀ k nth, k < N → sUsed W T xs k nth = true → (sRise W k nth = 1 ∨ sRise W k nth = -1) ∧ (H.getD (sTo W k nth).toNat 0 - H.getD k 0 = sRise W k nth ∨ (sBoth W T xs k nth = true ∧ H.getD (sTo W k nth).toNat 0 - H.getD k 0 = -3 * sRise W k nth)) := fun k nth hk hu => may_cases (hp.side k nth hk hu)
 refine ⟨hf, sgnL_len _ _ _ _ _ _, ?_, ?_, ?_, ?_, ?_, ?_⟩
 · intro k hk ha
   rw [sgnL_get hk, ha]; rfl
 · intro k hk ha
   have := hH.bd k hk ha
   rw [sgnL_get hk, ha, if_pos rfl]
   cases up <;> simp only [Bool.false_eq_true, if_false, if_true] <;> omega
 · rw [sgnL_get hfN, hfa, if_pos rfl, hp.first]; cases up <;> rfl
 · intro k nth hk hu
   obtain ⟨e1, e2, e3⟩ := hend k nth hk hu
   obtain ⟨hr, hd⟩ := hdiff k nth hk hu
   obtain ⟨_, hb⟩ := bnd_cases (W := W) (T := T) (xs := xs) k nth
   rw [sgnL_get e1, sgnL_get hk, e2, e3, if_pos rfl, if_pos rfl]
   unfold loW hiW
   generalize H.getD (sTo W k nth).toNat 0 = y at *
   generalize H.getD k 0 = x at *
   generalize loB W T xs (k, nth) = lo at *
   generalize hiB W T xs (k, nth) = hi at *
   generalize sRise W k nth = r at *
   generalize sBoth W T xs k nth = b at *
   rcases hb with ⟨rfl, rfl, rfl⟩ | ⟨rfl, ⟨rfl, rfl, rfl⟩ | ⟨rfl, rfl, rfl⟩⟩ <;> cases up <;> simp only [Bool.false_eq_true, if_false, if_true, false_and, or_false, true_and] at hd ⊢ <;> omega
 · rintro ⟨k, nth⟩
   obtain ⟨hr, hb⟩ := bnd_cases (W := W) (T := T) (xs := xs) k nth
   unfold loW hiW
   generalize loB W T xs (k, nth) = lo at *
   generalize hiB W T xs (k, nth) = hi at *
   generalize sRise W k nth = r at *
   generalize sBoth W T xs k nth = b at *
   rcases hb with ⟨rfl, rfl, rfl⟩ | ⟨rfl, ⟨rfl, rfl, rfl⟩ | ⟨rfl, rfl, rfl⟩⟩ <;> cases up <;> simp only [Bool.false_eq_true, if_false, if_true] <;> omega
 · intro E hE0 hE k0 hk0 ha0
   refine Classical.byContradiction fun hne => ?_
   classical
   obtain ⟨mv, hmv⟩ : ∃ mv : Int → Int, ∀ x, mv x = if up then x + 4 else x - 4 := ⟨_, fun _ => rfl⟩
   obtain ⟨K, hK⟩ : ∃ K : List Int, K = (List.range N).map fun k => if hAt W T xs k = true ∧ ¬ E k then mv (H.getD k 0) else H.getD k 0 := ⟨_, rfl⟩
   have hKg : ∀ k, k < N → K.getD k 0 = if hAt W T xs k = true ∧ ¬ E k then mv (H.getD k 0) else H.getD k 0 := by
    intro k hk; rw [hK]; simp [hk]
   have hKp : HokP W T xs K N fk := by
    refine ⟨hs, hN, hf, by rw [hK]; simp, ?_, ?_, ?_, ?_⟩
    · intro k hk ha
      rw [hKg k hk, if_neg (fun h => by rw [ha] at h; cases h.1)]
      exact hH.off k hk ha
    · intro k hk ha
      have := hH.bd k hk ha
      rw [hKg k hk]
      have hm1 := hmv (H.getD k 0)
      split
      · rw [hm1]; split <;> omega
      · omega
    · intro k nth hk hu
      obtain ⟨e1, e2, e3⟩ := hend k nth hk hu
      obtain ⟨hr, hd⟩ := hdiff k nth hk hu
      obtain ⟨_, hb⟩ := bnd_cases (W := W) (T := T) (xs := xs) k nth
      obtain ⟨t1, t2⟩ := hE k nth hk hu
      rw [sgnL_get e1, sgnL_get hk, e2, e3, if_pos rfl, if_pos rfl] at t1 t2
      unfold hiW at t1
      unfold loW at t2
      rw [hKg k hk, hKg _ e1]
      refine may_of ?_
      by_cases h1 : E k <;> by_cases h2 : E (sTo W k nth).toNat
      · rw [if_neg (fun h => h.2 h2), if_neg (fun h => h.2 h1)]; exact hd
      · rw [if_pos ⟨e3, h2⟩, if_neg (fun h => h.2 h1)]
        have t1' : ¬ _ := fun e => h2 (t1 h1 e)
        rw [hmv]
        clear t1 t2
        generalize H.getD (sTo W k nth).toNat 0 = y at *
        generalize H.getD k 0 = x at *
        generalize loB W T xs (k, nth) = lo at *
        generalize hiB W T xs (k, nth) = hi at *
        generalize sRise W k nth = r at *
        generalize sBoth W T xs k nth = b at *
        rcases hb with ⟨rfl, rfl, rfl⟩ | ⟨rfl, ⟨rfl, rfl, rfl⟩ | ⟨rfl, rfl, rfl⟩⟩ <;> cases up <;> simp only [Bool.false_eq_true, if_false, if_true, false_and, or_false, true_and] at hd t1' ⊢ <;> omega
      · rw [if_neg (fun h => h.2 h2), if_pos ⟨e2, h1⟩]
        have t2' : ¬ _ := fun e => h1 (t2 h2 e)
        rw [hmv]
        clear t1 t2
        generalize H.getD (sTo W k nth).toNat 0 = y at *
        generalize H.getD k 0 = x at *
        generalize loB W T xs (k, nth) = lo at *
        generalize hiB W T xs (k, nth) = hi at *
        generalize sRise W k nth = r at *
        generalize sBoth W T xs k nth = b at *
        rcases hb with ⟨rfl, rfl, rfl⟩ | ⟨rfl, ⟨rfl, rfl, rfl⟩ | ⟨rfl, rfl, rfl⟩⟩ <;> cases up <;> simp only [Bool.false_eq_true, if_false, if_true, false_and, or_false, true_and] at hd t2' ⊢ <;> omega
      · rw [if_pos ⟨e3, h2⟩, if_pos ⟨e2, h1⟩]
        have e : ∀ x y : Int, mv y - mv x = y - x := by intro x y; rw [hmv, hmv]; split <;> omega
        rw [e]; exact hd
    · rw [hKg fk hfN, if_neg (fun h => h.2 hE0)]; exact hp.first
   have hm := hmax _ K (tby_tok hKp) (tby_hts hKp) k0 hk0
   have hk0' : K.getD k0 0 = mv (H.getD k0 0) := by rw [hKg k0 hk0, if_pos ⟨ha0, hne⟩]
   rw [hk0', hmv] at hm
   cases up <;> simp only [Bool.false_eq_true, if_false, if_true] at hm <;> omega

def EdgeR (up : Bool) (W T : Int) (xs : List Bool) (X H : List Int) : Prop :=
 simpleB W T xs = true ∧ tok W T xs X = true ∧ HtsR W T xs X H ∧ ∀ M B, tok W T xs M = true → HtsR W T xs M B → ∀ k, k < H.length → if up then B.getD k 0 ≤ H.getD k 0 else H.getD k 0 ≤ B.getD k 0
theorem fold_step (up : Bool) {W T : Int} {xs : List Bool} {X H M B : List Int} (hs : simpleB W T xs = true) (ht : tok W T xs X = true) (hH : HtsR W T xs X H) (htM : tok W T xs M = true) (hB : HtsR W T xs M B) :
 ∃ Y K, tlowF up W T xs H B = (Y, true) ∧ tok W T xs Y = true ∧ HtsR W T xs Y K ∧ Y.length = xs.length ∧ K.length = H.length ∧ (∀ k, k < H.length → if up then H.getD k 0 ≤ K.getD k 0 ∧ B.getD k 0 ≤ K.getD k 0 else K.getD k 0 ≤ H.getD k 0 ∧ K.getD k 0 ≤ B.getD k 0) := by
 obtain ⟨Y, h1, h2, h3, h4⟩ := low_mk up hs ht htM hH hB
 refine ⟨Y, _, h1, h2, h3, h4, bothL_len _ _ _ _, fun k hk => ?_⟩
 rw [both_get up H B hk]
 exact pick_le up _ _
theorem edge_exist (up : Bool) {W T : Int} {xs : List Bool} (hs : simpleB W T xs = true) : ∀ l : List (List Int), (∀ M ∈ l, tok W T xs M = true) → ∀ X H, tok W T xs X = true → HtsR W T xs X H → ∃ Y K, tok W T xs Y = true ∧ HtsR W T xs Y K ∧ K.length = H.length ∧ (∀ k, k < H.length → if up then H.getD k 0 ≤ K.getD k 0 else K.getD k 0 ≤ H.getD k 0) ∧ ∀ M ∈ l, ∀ B, HtsR W T xs M B → ∀ k, k < H.length → if up then B.getD k 0 ≤ K.getD k 0 else K.getD k 0 ≤ B.getD k 0
 | [], _, X, H, ht, hH => ⟨X, H, ht, hH, rfl, fun k _ => by cases up <;> simp, fun M hM => by cases hM⟩
 | M :: l, hl, X, H, ht, hH => by
   obtain ⟨B, hB⟩ := htsR_exist W T xs M
   obtain ⟨Y, K, _, h2, h3, _, h5, h6⟩ := fold_step up hs ht hH (hl M (List.mem_cons_self ..)) hB
   obtain ⟨Z, J, j1, j2, j3, j4, j5⟩ := edge_exist up hs l (fun N hN => hl N (List.mem_cons_of_mem _ hN)) Y K h2 h3
   refine ⟨Z, J, j1, j2, by rw [j3, h5], fun k hk => ?_, fun N hN C hC k hk => ?_⟩
   · have a := j4 k (by omega)
     have b := h6 k hk
     cases up <;> simp only [Bool.false_eq_true, if_false, if_true] at a b ⊢ <;> omega
   · rcases List.mem_cons.1 hN with rfl | hN'
     · have e := htsR_unique hC hB
       subst e
       have a := j4 k (by omega)
       have b := h6 k hk
       cases up <;> simp only [Bool.false_eq_true, if_false, if_true] at a b ⊢ <;> omega
     · exact j5 N hN' C hC k (by omega)
theorem edge_some (up : Bool) {W T : Int} {xs : List Bool} {L : List Int} (hs : simpleB W T xs = true) (ht : tok W T xs L = true) : ∃ X H, EdgeR up W T xs X H := by
 obtain ⟨A, hA⟩ := htsR_exist W T xs L
 obtain ⟨X, H, h1, h2, h3, _, h5⟩ := edge_exist up hs (allF W T xs) (fun M hM => by
  obtain ⟨i, hi, e⟩ := List.getElem_of_mem hM
  have := (allF_row (W := W) (T := T) (xs := xs) hi).2
  rw [show (allF W T xs).getD i [] = M by rw [← e]; simp [List.getD, hi]] at this
  exact this) L A ht hA
 exact ⟨X, H, hs, h1, h2, fun M B hM hB k hk => h5 M (mem_allF hM) B hB k (by omega)⟩
theorem edge_gt {up : Bool} {W T : Int} {xs : List Bool} {X H : List Int} {N fk : Nat} (hN : (W + 1) * (T + 1) = (N : Int)) (hf : frstK W T xs N = fk) (h : EdgeR up W T xs X H) : GT W T xs N fk (loW up W T xs) (hiW up W T xs) (sgnL up W T xs H N) := by
 obtain ⟨hs, ht, hH, hm⟩ := h
 have eN : ((W + 1) * (T + 1)).toNat = N := by omega
 have full : ∀ {M B : List Int}, tok W T xs M = true → HtsR W T xs M B → HtsOf W T xs M B N := by
  intro M B hM hB
  rcases hB with ⟨_, h⟩ | ⟨h, _⟩
  · rw [eN] at h; exact h
  · rw [hs, hM] at h; cases h
 have hHf := full ht hH
 refine gt_wide up hs hN hf ht hHf fun M B hM hB k hk => hm M B hM (Or.inl ⟨by rw [hs, hM]; rfl, by rw [eN]; exact hB⟩) k (by rw [hHf.len]; exact hk)
def LowRes (up : Bool) (W T : Int) (xs : List Bool) (X : List Int) (ok : Bool) : Prop :=
 (ok = true ∧ ∃ H, EdgeR up W T xs X H) ∨ (ok = false ∧ X = [] ∧ (simpleB W T xs = false ∨ ∀ L, tok W T xs L = false))
theorem lowRes_exist (up : Bool) (W T : Int) (xs : List Bool) : ∃ X ok, LowRes up W T xs X ok := by
 cases hs : simpleB W T xs
 · exact ⟨[], false, Or.inr ⟨rfl, rfl, Or.inl hs⟩⟩
 · cases hl : allF W T xs with
   | nil =>
     refine ⟨[], false, Or.inr ⟨rfl, rfl, Or.inr fun L => ?_⟩⟩
     cases ht : tok W T xs L
     · rfl
     · have := mem_allF ht; rw [hl] at this; cases this
   | cons M l =>
     have ht : tok W T xs M = true := by
      have := (allF_row (W := W) (T := T) (xs := xs) (i := 0) (by rw [hl]; simp)).2
      rw [hl] at this; exact this
     obtain ⟨X, H, h⟩ := edge_some up hs ht
     exact ⟨X, true, Or.inl ⟨rfl, H, h⟩⟩
theorem LowRes.len {up : Bool} {W T : Int} {xs : List Bool} {X : List Int} {ok : Bool} (h : LowRes up W T xs X ok) : X.length ≤ xs.length := by
 rcases h with ⟨_, H, _, ht, _⟩ | ⟨_, rfl, _⟩
 · rw [(lok_rv (tok_lok1 ht)).2.1]; exact Nat.le_refl _
 · simp
theorem hok_none {W T : Int} {xs : List Bool} (h : ∀ L, tok W T xs L = false) (H : List Int) : hokB W T xs H = false := by
 cases hc : hokB W T xs H
 · rfl
 · have := (tby_to hc).2.2.1
   rw [h] at this; cases this

end Go.Proofs.YtpcajacekmidbaaGreat

namespace Go.Proofs.YtpcajacekmidbaaGreat
open Go.RowKit
set_option linter.unusedVariables false
set_option maxRecDepth 100000
set_option linter.unusedSimpArgs false

def cxI (W c : Int) : Int := c.tmod (W + 1)
def cyI (W c : Int) : Int := c.tdiv (W + 1)
def sqF (W T c : Int) : Bool := inF W T (cxI W c - 1) (cyI W c - 1) && inF W T (cxI W c) (cyI W c)
def sqI (W T c : Int) : Int := if sqF W T c then (cyI W c - 1) * W + (cxI W c - 1) else -1
def sqB (W T : Int) (xs : List Bool) (c : Int) : Bool :=
 atB W T xs (cxI W c - 1) (cyI W c - 1) && atB W T xs (cxI W c) (cyI W c - 1) && atB W T xs (cxI W c - 1) (cyI W c) && atB W T xs (cxI W c) (cyI W c)

theorem cx_neg {W c : Int} (hW : 1 ≤ W) (hc : c < 0) : cxI W c ≤ 0 := by
 unfold cxI
 obtain ⟨n, rfl⟩ : ∃ n : Nat, c = -(n : Int) := ⟨c.natAbs, by omega⟩
 rw [Int.neg_tmod]
 have : 0 ≤ (n : Int).tmod (W + 1) := Int.tmod_nonneg _ (by omega)
 omega
theorem cxy_pos {W c : Int} (hW : 1 ≤ W) (hc : 0 ≤ c) : cxI W c = c % (W + 1) ∧ cyI W c = c / (W + 1) ∧ 0 ≤ c % (W + 1) ∧ c % (W + 1) ≤ W ∧ 0 ≤ c / (W + 1) ∧ c / (W + 1) ≤ c := by
 refine ⟨Int.tmod_eq_emod_of_nonneg hc, Int.tdiv_eq_ediv_of_nonneg hc, Int.emod_nonneg _ (by omega), ?_, Int.ediv_nonneg hc (by omega), Int.ediv_le_self _ hc⟩
 have := Int.emod_lt_of_pos c (show 0 < W + 1 by omega)
 omega
theorem cy_big {W T c : Int} (hW : 1 ≤ W) (hc : (W + 1) * (T + 1) ≤ c) (h0 : 0 ≤ c) : T + 1 ≤ c / (W + 1) := by
 refine Int.le_ediv_of_mul_le (by omega) ?_
 rw [Int.mul_comm]; exact hc
theorem sqF_neg {W T c : Int} (hW : 1 ≤ W) (hc : c < 0) : inF W T (cxI W c - 1) (cyI W c - 1) = false := by
 have := cx_neg hW hc
 simp [inF]; omega
theorem sqF_big {W T c : Int} (hW : 1 ≤ W) (h0 : 0 ≤ c) (hc : (W + 1) * (T + 1) ≤ c) : inF W T (cxI W c - 1) (cyI W c - 1) = false ∧ inF W T (cxI W c) (cyI W c) = false := by
 have h1 := cy_big hW hc h0
 obtain ⟨e1, e2, b1, b2, b3, b4⟩ := cxy_pos hW h0
 rw [e1, e2]
 constructor <;> (simp [inF]; omega)
theorem sq_rng {W T c : Int} (hW : 1 ≤ W) (h : sqF W T c = true) : 0 ≤ c ∧ c < (W + 1) * (T + 1) := by
 unfold sqF at h
 rw [Bool.and_eq_true] at h
 by_cases h0 : c < 0
 · rw [sqF_neg hW h0] at h; simp at h
 · by_cases h1 : c < (W + 1) * (T + 1)
   · exact ⟨by omega, h1⟩
   · rw [(sqF_big hW (by omega) (by omega)).1] at h; simp at h

set_option maxHeartbeats 4000000 in
theorem sq_tab : ∀ (W T : Fin 7) (c : Fin 49), 1 ≤ W.val → 1 ≤ T.val → sqF (W.val : Int) T.val c.val = true →
 2 ≤ W.val ∧ 0 ≤ sqI (W.val : Int) T.val c.val ∧ sqI (W.val : Int) T.val c.val + W.val + 1 < (W.val : Int) * T.val ∧
 stepI (W.val : Int) T.val (sqI (W.val : Int) T.val c.val) 1 = sqI (W.val : Int) T.val c.val + 1 ∧
 stepI (W.val : Int) T.val (sqI (W.val : Int) T.val c.val) 2 = sqI (W.val : Int) T.val c.val + W.val ∧
 stepI (W.val : Int) T.val (sqI (W.val : Int) T.val c.val + W.val + 1) 3 = sqI (W.val : Int) T.val c.val + W.val ∧
 stepI (W.val : Int) T.val (sqI (W.val : Int) T.val c.val + W.val + 1) 4 = sqI (W.val : Int) T.val c.val + 1 ∧
 stepI (W.val : Int) T.val (sqI (W.val : Int) T.val c.val + 1) 2 = sqI (W.val : Int) T.val c.val + W.val + 1 ∧
 stepI (W.val : Int) T.val (sqI (W.val : Int) T.val c.val + W.val) 1 = sqI (W.val : Int) T.val c.val + W.val + 1 := by decide +kernel

theorem sq_at {W T c : Int} (hW : 1 ≤ W) (hW6 : W ≤ 6) (hT : 1 ≤ T) (hT6 : T ≤ 6) (h : sqF W T c = true) :
 ∃ a wn : Nat, W = wn ∧ 2 ≤ wn ∧ sqI W T c = a ∧ (a : Int) + wn + 1 < W * T ∧ stepI W T a 1 = a + 1 ∧ stepI W T a 2 = a + W ∧ stepI W T (a + W + 1) 3 = a + W ∧ stepI W T (a + W + 1) 4 = a + 1 ∧
  stepI W T (a + 1) 2 = a + W + 1 ∧ stepI W T (a + W) 1 = a + W + 1 := by
 obtain ⟨c0, c1⟩ := sq_rng hW h
 have hb := corn_bd hW hW6 hT hT6
 obtain ⟨wn, rfl⟩ := Int.eq_ofNat_of_zero_le (show 0 ≤ W by omega)
 obtain ⟨tn, rfl⟩ := Int.eq_ofNat_of_zero_le (show 0 ≤ T by omega)
 obtain ⟨cn, rfl⟩ := Int.eq_ofNat_of_zero_le c0
 have := sq_tab ⟨wn, by omega⟩ ⟨tn, by omega⟩ ⟨cn, by omega⟩ (by simp only []; omega) (by simp only []; omega) h
 simp only [] at this
 obtain ⟨hw, h0, h1, h2⟩ := this
 obtain ⟨a, ha⟩ := Int.eq_ofNat_of_zero_le h0
 rw [ha] at h1 h2
 exact ⟨a, wn, rfl, hw, ha, h1, h2⟩

def mayB (W T : Int) (L : List Int) (c : Int) : Bool :=
 sqF W T c && (L.getD (sqI W T c).toNat 0 == 1 || L.getD (sqI W T c).toNat 0 == 2) && (L.getD (sqI W T c + W + 1).toNat 0 == backI (L.getD (sqI W T c).toNat 0))
def fmayB (W T : Int) (xs : List Bool) (L : List Int) (c : Int) : Bool := lok W T xs L && mayB W T L c
def flipA (W : Int) (a : Nat) (L : List Int) : List Int :=
 if L.getD a 0 = 1 then (((L.set a 2).set (a + 1) 2).set (a + W.toNat) 4).set (a + W.toNat + 1) 4
 else (((L.set a 1).set (a + W.toNat) 1).set (a + 1) 3).set (a + W.toNat + 1) 3
def flipL (W T : Int) (L : List Int) (c : Int) : List Int := if mayB W T L c then flipA W (sqI W T c).toNat L else L
theorem flipA_len (W : Int) (a : Nat) (L : List Int) : (flipA W a L).length = L.length := by unfold flipA; split <;> simp
theorem flipL_len (W T : Int) (L : List Int) (c : Int) : (flipL W T L c).length = L.length := by
 unfold flipL; split
 · exact flipA_len _ _ _
 · rfl
def flpF (W T : Int) (xs : List Bool) (L : List Int) (c : Int) : List Int × Bool :=
 if lok W T xs L then (flipL W T L c, mayB W T L c) else ([], false)
theorem flpF_len (W T : Int) (xs : List Bool) (L : List Int) (c : Int) : (flpF W T xs L c).1.length ≤ L.length := by
 unfold flpF; split
 · rw [flipL_len]; exact Nat.le_refl _
 · simp

theorem may_at {W T : Int} {xs : List Bool} {L : List Int} {c : Int} (h : lok W T xs L = true) (hm : mayB W T L c = true) :
 ∃ a wn : Nat, W = wn ∧ 2 ≤ wn ∧ sqI W T c = a ∧ a + wn + 1 < xs.length ∧ sqF W T c = true ∧
  (∀ i, i = a ∨ i = a + 1 ∨ i = a + wn ∨ i = a + wn + 1 → xs.getD i false = true) ∧
  ((L.getD a 0 = 1 ∧ L.getD (a + 1) 0 = 3 ∧ L.getD (a + wn) 0 = 1 ∧ L.getD (a + wn + 1) 0 = 3) ∨
   (L.getD a 0 = 2 ∧ L.getD (a + wn) 0 = 4 ∧ L.getD (a + 1) 0 = 2 ∧ L.getD (a + wn + 1) 0 = 4)) ∧
  stepI W T a 1 = (a + 1 : Nat) ∧ stepI W T a 2 = (a + wn : Nat) ∧ stepI W T (a + wn + 1 : Nat) 3 = (a + wn : Nat) ∧ stepI W T (a + wn + 1 : Nat) 4 = (a + 1 : Nat) := by
 obtain ⟨hr, hl, _⟩ := lok_rv h
 obtain ⟨v1, v2, v3, v4, v5, _⟩ := rv_true hr
 unfold mayB at hm
 simp only [Bool.and_eq_true, Bool.or_eq_true, beq_iff_eq] at hm
 obtain ⟨⟨h1, h2⟩, h3⟩ := hm
 obtain ⟨a, wn, rfl, hw2, ha, hb, s1, s2, s3, s4, s5, s6⟩ := sq_at v1 v2 v3 v4 h1
 rw [ha] at h2 h3
 rw [← v5] at hb
 simp only [Int.toNat_natCast] at h2 h3
 rw [show (a : Int) + wn + 1 = (a + wn + 1 : Nat) by omega] at s3 s4
 rw [show ((a : Int) + wn + 1).toNat = a + wn + 1 by omega] at h3
 refine ⟨a, wn, rfl, hw2, ha, by omega, h1, ?_, ?_, by rw [s1]; omega, by rw [s2]; omega, by rw [s3]; omega, by rw [s4]; omega⟩
 all_goals rcases h2 with h2 | h2
 all_goals
  rw [h2] at h3
  obtain ⟨o, o1, o2, o3, o4, o5, o6, o7, o8⟩ := lok_at h (k := a) (by omega) (by omega)
  obtain ⟨p, p1, p2, p3, p4, p5, p6, p7, p8⟩ := lok_at h (k := a + wn + 1) (by omega) (by rw [h3]; decide)
  rw [h2] at o1 o6
  rw [h3] at p1 p6
 · rw [s1] at o1
   rw [show backI 1 = 3 from rfl, s3] at p1
   obtain rfl : o = a + 1 := by omega
   obtain rfl : p = a + wn := by omega
   intro i hi; rcases hi with rfl | rfl | rfl | rfl <;> assumption
 · rw [s2] at o1
   rw [show backI 2 = 4 from rfl, s4] at p1
   obtain rfl : o = a + wn := by omega
   obtain rfl : p = a + 1 := by omega
   intro i hi; rcases hi with rfl | rfl | rfl | rfl <;> assumption
 · rw [s1] at o1
   rw [show backI 1 = 3 from rfl, s3] at p1
   obtain rfl : o = a + 1 := by omega
   obtain rfl : p = a + wn := by omega
   exact Or.inl ⟨h2, o6, p6, h3⟩
 · rw [s2] at o1
   rw [show backI 2 = 4 from rfl, s4] at p1
   obtain rfl : o = a + wn := by omega
   obtain rfl : p = a + 1 := by omega
   exact Or.inr ⟨h2, o6, p6, h3⟩

def mayS (W T : Int) (xs : List Bool) (L : List Int) (c : Int) : Bool :=
 sqB W T xs c && ((L.getD (sqI W T c).toNat 0 == 1 && L.getD ((sqI W T c).toNat + W.toNat) 0 == 1) || (L.getD (sqI W T c).toNat 0 == 2 && L.getD ((sqI W T c).toNat + 1) 0 == 2))
theorem sqB_F {W T : Int} {xs : List Bool} {c : Int} (h : sqB W T xs c = true) : sqF W T c = true := by
 unfold sqB atB at h
 unfold sqF
 simp only [Bool.and_eq_true] at h ⊢
 exact ⟨h.1.1.1.1, h.2.1⟩
theorem atB_idx {W T : Int} {xs : List Bool} {x y : Int} {k : Nat} (h : inF W T x y = true) (hk : y * W + x = k) : atB W T xs x y = xs.getD k false := by
 unfold atB; rw [h, hk, Int.toNat_natCast]; simp
theorem inF_four {W T x y : Int} (h1 : inF W T (x - 1) (y - 1) = true) (h2 : inF W T x y = true) : inF W T x (y - 1) = true ∧ inF W T (x - 1) y = true := by
 simp only [inF, decide_eq_true_eq] at h1 h2 ⊢
 omega
theorem sqB_idx {W T : Int} {xs : List Bool} {c : Int} {a wn : Nat} (h : sqF W T c = true) (hW : W = wn) (ha : sqI W T c = a) :
 sqB W T xs c = (xs.getD a false && xs.getD (a + 1) false && xs.getD (a + wn) false && xs.getD (a + wn + 1) false) := by
 have h' := h
 unfold sqF at h'
 rw [Bool.and_eq_true] at h'
 obtain ⟨f1, f2⟩ := inF_four h'.1 h'.2
 unfold sqI at ha
 rw [if_pos h] at ha
 unfold sqB
 have e : (cyI W c - 1) * W = cyI W c * W - W := by rw [Int.sub_mul]; omega
 rw [e] at ha
 rw [atB_idx h'.1 (k := a) (by rw [e]; omega), atB_idx f1 (k := a + 1) (by rw [e]; omega), atB_idx f2 (k := a + wn) (by omega), atB_idx h'.2 (k := a + wn + 1) (by omega)]
theorem may_eq {W T : Int} {xs : List Bool} {L : List Int} {c : Int} (h : lok W T xs L = true) : mayS W T xs L c = mayB W T L c := by
 obtain ⟨hr, hl, _⟩ := lok_rv h
 obtain ⟨v1, v2, v3, v4, v5, _⟩ := rv_true hr
 rw [Bool.eq_iff_iff]
 constructor
 · intro hs
   unfold mayS at hs
   simp only [Bool.and_eq_true, Bool.or_eq_true, beq_iff_eq] at hs
   obtain ⟨h1, h2⟩ := hs
   have hF := sqB_F h1
   obtain ⟨a, wn, rfl, hw2, ha, hb, s1, s2, s3, s4, s5, s6⟩ := sq_at v1 v2 v3 v4 hF
   rw [← v5] at hb
   rw [ha] at h2
   simp only [Int.toNat_natCast] at h2
   unfold mayB
   rw [ha, hF]
   simp only [Int.toNat_natCast, Bool.true_and, Bool.and_eq_true, Bool.or_eq_true, beq_iff_eq]
   rw [show ((a : Int) + wn + 1).toNat = a + wn + 1 by omega]
   rw [show (a : Int) + wn = (a + wn : Nat) by omega] at s6
   rw [show (a : Int) + 1 = (a + 1 : Nat) by omega] at s5
   rcases h2 with ⟨e1, e2⟩ | ⟨e1, e2⟩
   · obtain ⟨o, o1, o2, o3, o4, o5, o6, o7, o8⟩ := lok_at h (k := a + wn) (by omega) (by omega)
     rw [e2] at o1 o6
     rw [s6] at o1
     obtain rfl : o = a + wn + 1 := by omega
     exact ⟨Or.inl e1, by rw [o6, e1]⟩
   · obtain ⟨o, o1, o2, o3, o4, o5, o6, o7, o8⟩ := lok_at h (k := a + 1) (by omega) (by omega)
     rw [e2] at o1 o6
     rw [s5] at o1
     obtain rfl : o = a + wn + 1 := by omega
     exact ⟨Or.inr e1, by rw [o6, e1]⟩
 · intro hm
   obtain ⟨a, wn, rfl, hw2, ha, hb, hF, hx, hc, _⟩ := may_at h hm
   unfold mayS
   rw [sqB_idx hF rfl ha, ha]
   rw [hx a (by simp), hx (a + 1) (by simp), hx (a + wn) (by simp), hx (a + wn + 1) (by simp)]
   simp only [Int.toNat_natCast, Bool.true_and, Bool.and_eq_true, Bool.or_eq_true, beq_iff_eq]
   rcases hc with ⟨e1, e2, e3, e4⟩ | ⟨e1, e2, e3, e4⟩
   · exact Or.inl ⟨e1, e3⟩
   · exact Or.inr ⟨e1, e3⟩

theorem flip_steps {W T : Int} {xs : List Bool} {L : List Int} {c : Int} (h : lok W T xs L = true) (hm : mayB W T L c = true) {a wn : Nat} (hW : W = wn) (ha : sqI W T c = a) (v : Int) (hv : v = if L.getD a 0 = 1 then 2 else 1) :
 ∃ o p : Nat, o < L.length ∧ p < L.length ∧ a + wn + 1 < L.length ∧ o ≠ a ∧ p ≠ a + wn + 1 ∧ L.getD a 0 ≠ 0 ∧ cellB W T L.length a (L.getD a 0) = o ∧
  ((L.set o 0).set a 0).getD (a + wn + 1) 0 ≠ 0 ∧ cellB W T L.length (a + wn + 1 : Nat) (((L.set o 0).set a 0).getD (a + wn + 1) 0) = p ∧
  canLay W T xs ((((L.set o 0).set a 0).set p 0).set (a + wn + 1) 0) a v = true ∧
  canLay W T xs (laidL W T xs ((((L.set o 0).set a 0).set p 0).set (a + wn + 1) 0) a v) (a + wn + 1 : Nat) (backI v) = true ∧
  laidL W T xs (laidL W T xs ((((L.set o 0).set a 0).set p 0).set (a + wn + 1) 0) a v) (a + wn + 1 : Nat) (backI v) = flipL W T L c := by
 subst hW
 obtain ⟨a', wn', e1, hw2, e2, hb, hF, hx, hc, s1, s2, s3, s4⟩ := may_at h hm
 obtain rfl : wn = wn' := by omega
 obtain rfl : a = a' := by omega
 obtain ⟨hr, hl, _⟩ := lok_rv h
 obtain ⟨v1, v2, v3, v4, v5, _⟩ := rv_true hr
 have hfl : flipL (wn : Int) T L c = flipA wn a L := by unfold flipL; rw [if_pos hm, ha, Int.toNat_natCast]
 have cb : ∀ (k : Nat) (way : Int), k < xs.length → cellB wn T xs.length k way = stepI wn T k way := fun k way hk => by unfold cellB; rw [if_pos ⟨by omega, by omega⟩]
 have gs : ∀ (M : List Int) (j k : Nat) (u : Int), (M.set k u).getD j 0 = if j = k ∧ k < M.length then u else M.getD j 0 := fun M j k u => getD_set1
 have back : ∀ {u : Int}, u = 1 ∨ u = 2 → backI u = u + 2 := fun hu => by rcases hu with rfl | rfl <;> rfl
 rcases hc with ⟨d1, d2, d3, d4⟩ | ⟨d1, d2, d3, d4⟩
 · rw [d1, if_pos rfl] at hv
   subst hv
   refine ⟨a + 1, a + wn, by omega, by omega, by omega, by omega, by omega, by rw [d1]; decide, by rw [hl, cb _ _ (by omega), d1, s1], ?_, ?_, ?_⟩
   · rw [gs, if_neg (by simp; omega), gs, if_neg (by omega), d4]; decide
   · rw [gs, if_neg (by simp; omega), gs, if_neg (by omega), d4, hl, cb _ _ (by omega), s3]
   obtain ⟨M, hM⟩ : ∃ M, M = (((L.set (a + 1) 0).set a 0).set (a + wn) 0).set (a + wn + 1) 0 := ⟨_, rfl⟩
   have hMl : M.length = L.length := by rw [hM]; simp
   have hMg : ∀ j, M.getD j 0 = if j = a ∨ j = a + 1 ∨ j = a + wn ∨ j = a + wn + 1 then 0 else L.getD j 0 := fun j => by
    rw [hM]; simp only [gs, List.length_set]
    by_cases q1 : j = a + wn + 1
    · rw [if_pos ⟨q1, by omega⟩, if_pos (by omega)]
    rw [if_neg (fun e => q1 e.1)]
    by_cases q2 : j = a + wn
    · rw [if_pos ⟨q2, by omega⟩, if_pos (by omega)]
    rw [if_neg (fun e => q2 e.1)]
    by_cases q3 : j = a
    · rw [if_pos ⟨q3, by omega⟩, if_pos (by omega)]
    rw [if_neg (fun e => q3 e.1)]
    by_cases q4 : j = a + 1
    · rw [if_pos ⟨q4, by omega⟩, if_pos (by omega)]
    rw [if_neg (fun e => q4 e.1), if_neg (by omega)]
   rw [← hM]
   have k1 : canLay wn T xs M a 2 = true := by
    refine canLay_yes (by rw [cb _ _ (by omega), s2]; omega) ?_ ?_
    · unfold freeB; rw [Int.toNat_natCast, hx a (by simp), hMg, if_pos (by simp)]; rfl
    · rw [cb _ _ (by omega), s2, Int.toNat_natCast]; unfold freeB; rw [hx _ (by simp), hMg, if_pos (by simp)]; rfl
   have l1 : laidL wn T xs M a 2 = (M.set a 2).set (a + wn) 4 := by unfold laidL; rw [if_pos k1, cb _ _ (by omega), s2]; rfl
   have k2 : canLay wn T xs (laidL wn T xs M a 2) (a + wn + 1 : Nat) (backI 2) = true := by
    rw [l1]
    refine canLay_yes (by rw [cb _ _ (by omega), show backI 2 = 4 from rfl, s4]; omega) ?_ ?_
    · unfold freeB; rw [Int.toNat_natCast, hx _ (by simp), gs, if_neg (by omega), gs, if_neg (by omega), hMg, if_pos (by simp)]; rfl
    · rw [cb _ _ (by omega), show backI 2 = 4 from rfl, s4, Int.toNat_natCast]; unfold freeB; rw [hx _ (by simp), gs, if_neg (by omega), gs, if_neg (by omega), hMg, if_pos (by simp)]; rfl
   refine ⟨k1, k2, ?_⟩
   have l2 : laidL wn T xs (laidL wn T xs M a 2) (a + wn + 1 : Nat) (backI 2) = (((M.set a 2).set (a + wn) 4).set (a + wn + 1) 4).set (a + 1) 2 := by
    rw [l1] at k2 ⊢
    unfold laidL; rw [if_pos k2, cb _ _ (by omega), show backI 2 = 4 from rfl, s4]; rfl
   rw [l2, hfl]
   unfold flipA
   rw [if_pos d1, Int.toNat_natCast]
   refine ext_getD (by simp [hMl]) fun j hj => ?_
   simp only [List.length_set, hMl] at hj
   simp only [gs, List.length_set, hMl]
   rw [hMg]
   by_cases q1 : j = a
   · subst q1; simp only [show ¬ j = j + wn by omega, show ¬ j = j + 1 by omega, show ¬ j = j + wn + 1 by omega, show j < L.length by omega]; simp
   by_cases q2 : j = a + 1
   · subst q2; first | (simp [hj]; done) | (simp [hj]; omega)
   by_cases q3 : j = a + wn
   · subst q3; first | (simp [hj, q2]; done) | (simp [hj, q2]; omega)
   by_cases q4 : j = a + wn + 1
   · subst q4; first | (simp [hj]; done) | (simp [hj]; omega)
   simp [q1, q2, q3, q4]
 · rw [if_neg (by omega)] at hv
   subst hv
   refine ⟨a + wn, a + 1, by omega, by omega, by omega, by omega, by omega, by rw [d1]; decide, by rw [hl, cb _ _ (by omega), d1, s2], ?_, ?_, ?_⟩
   · rw [gs, if_neg (by simp; omega), gs, if_neg (by omega), d4]; decide
   · rw [gs, if_neg (by simp; omega), gs, if_neg (by omega), d4, hl, cb _ _ (by omega), s4]
   obtain ⟨M, hM⟩ : ∃ M, M = (((L.set (a + wn) 0).set a 0).set (a + 1) 0).set (a + wn + 1) 0 := ⟨_, rfl⟩
   have hMl : M.length = L.length := by rw [hM]; simp
   have hMg : ∀ j, M.getD j 0 = if j = a ∨ j = a + 1 ∨ j = a + wn ∨ j = a + wn + 1 then 0 else L.getD j 0 := fun j => by
    rw [hM]; simp only [gs, List.length_set]
    by_cases q1 : j = a + wn + 1
    · rw [if_pos ⟨q1, by omega⟩, if_pos (by omega)]
    rw [if_neg (fun e => q1 e.1)]
    by_cases q4 : j = a + 1
    · rw [if_pos ⟨q4, by omega⟩, if_pos (by omega)]
    rw [if_neg (fun e => q4 e.1)]
    by_cases q3 : j = a
    · rw [if_pos ⟨q3, by omega⟩, if_pos (by omega)]
    rw [if_neg (fun e => q3 e.1)]
    by_cases q2 : j = a + wn
    · rw [if_pos ⟨q2, by omega⟩, if_pos (by omega)]
    rw [if_neg (fun e => q2 e.1), if_neg (by omega)]
   rw [← hM]
   have k1 : canLay wn T xs M a 1 = true := by
    refine canLay_yes (by rw [cb _ _ (by omega), s1]; omega) ?_ ?_
    · unfold freeB; rw [Int.toNat_natCast, hx a (by simp), hMg, if_pos (by simp)]; rfl
    · rw [cb _ _ (by omega), s1, Int.toNat_natCast]; unfold freeB; rw [hx _ (by simp), hMg, if_pos (by simp)]; rfl
   have l1 : laidL wn T xs M a 1 = (M.set a 1).set (a + 1) 3 := by unfold laidL; rw [if_pos k1, cb _ _ (by omega), s1]; rfl
   have k2 : canLay wn T xs (laidL wn T xs M a 1) (a + wn + 1 : Nat) (backI 1) = true := by
    rw [l1]
    refine canLay_yes (by rw [cb _ _ (by omega), show backI 1 = 3 from rfl, s3]; omega) ?_ ?_
    · unfold freeB; rw [Int.toNat_natCast, hx _ (by simp), gs, if_neg (by omega), gs, if_neg (by omega), hMg, if_pos (by simp)]; rfl
    · rw [cb _ _ (by omega), show backI 1 = 3 from rfl, s3, Int.toNat_natCast]; unfold freeB; rw [hx _ (by simp), gs, if_neg (by simp; omega), gs, if_neg (by omega), hMg, if_pos (by simp)]; rfl
   refine ⟨k1, k2, ?_⟩
   have l2 : laidL wn T xs (laidL wn T xs M a 1) (a + wn + 1 : Nat) (backI 1) = (((M.set a 1).set (a + 1) 3).set (a + wn + 1) 3).set (a + wn) 1 := by
    rw [l1] at k2 ⊢
    unfold laidL; rw [if_pos k2, cb _ _ (by omega), show backI 1 = 3 from rfl, s3]; rfl
   rw [l2, hfl]
   unfold flipA
   rw [if_neg (by omega), Int.toNat_natCast]
   refine ext_getD (by simp [hMl]) fun j hj => ?_
   simp only [List.length_set, hMl] at hj
   simp only [gs, List.length_set, hMl]
   rw [hMg]
   by_cases q1 : j = a
   · subst q1; simp only [show ¬ j = j + wn by omega, show ¬ j = j + 1 by omega, show ¬ j = j + wn + 1 by omega, show j < L.length by omega]; simp
   by_cases q2 : j = a + 1
   · subst q2; first | (simp [hj]; done) | (simp [hj]; omega)
   by_cases q3 : j = a + wn
   · subst q3; first | (simp [hj, q2]; done) | (simp [hj, q2]; omega)
   by_cases q4 : j = a + wn + 1
   · subst q4; first | (simp [hj]; done) | (simp [hj]; omega)
   simp [q1, q2, q3, q4]

theorem lok_flip {W T : Int} {xs : List Bool} {L : List Int} (h : lok W T xs L = true) (c : Int) : lok W T xs (flipL W T L c) = true := by
 cases hm : mayB W T L c
 · unfold flipL; rw [hm]; exact h
 obtain ⟨a, wn, hW, hw2, ha, hb, _⟩ := may_at h hm
 obtain ⟨hr, hl, _⟩ := lok_rv h
 obtain ⟨v1, v2, v3, v4, v5, _⟩ := rv_true hr
 obtain ⟨o, p, o1, p1, b1, oa, pd, n0, st, n1, st1, k1, k2, e⟩ := flip_steps h hm hW ha _ rfl
 have cb : ∀ (k : Nat) (way : Int), k < xs.length → cellB W T L.length k way = stepI W T k way := fun k way hk => by rw [hl]; unfold cellB; rw [if_pos ⟨by omega, by omega⟩]
 rw [cb _ _ (by omega)] at st st1
 have h1 := lok_lift h (a : Int)
 rw [liftL_at (canLift_of (by omega) n0) st] at h1
 have h2 := lok_lift h1 ((a + wn + 1 : Nat) : Int)
 rw [liftL_at (canLift_of (by simp; omega) n1) st1] at h2
 have h3 := lok_laid h2 k1
 have h4 := lok_laid h3 k2
 rw [e] at h4; exact h4
end Go.Proofs.YtpcajacekmidbaaGreat
