/- Contracts of spec.l20Corner and of the draws of FlipMay and FlipOne. -/
import Derived.Test.YtagbjhiagkkahaaDrawL
import Derived.Test.YtagbjhiagkkahaaFlipsOf
namespace Go.Proofs.Ytagbjhiagkkahaa
open Go.RowKit
set_option linter.unusedVariables false
set_option maxRecDepth 100000
set_option linter.unusedSimpArgs false

theorem flips_entry {W T : Int} {xs : List Bool} {L : List Int} {i : Nat} (hi : i < (flipsF W T xs L).length) : 0 ≤ (flipsF W T xs L).getD i 0 ∧ (flipsF W T xs L).getD i 0 ≤ 49 := by
  have hm : (flipsF W T xs L).getD i 0 ∈ flipsF W T xs L := by
    have e : (flipsF W T xs L).getD i 0 = (flipsF W T xs L)[i] := by simp [List.getD, hi]
    rw [e]; exact List.getElem_mem hi
  revert hm
  generalize (flipsF W T xs L).getD i 0 = v
  unfold flipsF
  cases h : lok W T xs L
  · intro hm; simp at hm
  · obtain ⟨hr, _, _⟩ := lok_rv h
    obtain ⟨v1, v2, v3, v4, _⟩ := rv_true hr
    have hcb := corn_bd v1 v2 v3 v4
    rw [if_pos rfl]
    unfold flipsL flipsK
    intro hm
    rw [List.mem_map] at hm
    obtain ⟨j, hj, rfl⟩ := hm
    rw [List.mem_filter, List.mem_range] at hj
    omega
theorem corn_cases (W T : Int) (xs : List Bool) : cornN W T xs = -1 ∨ (1 ≤ cornN W T xs ∧ cornN W T xs ≤ 49) := by
  unfold cornN
  cases h : rv W T xs
  · exact Or.inl rfl
  · obtain ⟨v1, v2, v3, v4, _⟩ := rv_true h
    have hcb := corn_bd v1 v2 v3 v4
    rw [if_pos rfl]; omega

set_option maxHeartbeats 4000000 in
theorem l20Corner_any (rb P B : Nat) (W T : Int) (a : Option Addr) (n cap : Nat) (xs : List Bool) (la : Option Addr) (m lcap : Nat) (L : List Int) (w : World) (hP : P ≤ 90000) (hn : n = xs.length) (hn' : n ≤ 1048576) (hm : m = L.length) (hm' : m ≤ 1048576) (hB : rb < B) (ho : OwnsB w B (.slice a n cap) xs) (hl : IntsAt w la L) (hr : RD w rb P) :
    Calls Try.prog 32 #[.pointer (some ⟨rb, 0, none⟩), .agg #[.int .i64 W, .int .i64 T, .slice a n cap], .slice la m lcap] w fun e w' => ∃ V : Int, e = .returned (.int .i64 V) ∧ (-1 ≤ V ∧ V ≤ 60) ∧ RD w' rb (P + 3) ∧ w.grownBy w' (some rb) := by
  have HN := Lib.hid hn; clear hn
  have HM := Lib.hid hm; clear hm
  have HO := Lib.hid ho; clear ho
  have HA := Lib.hid (OwnsB.at HO.out)
  have HL := Lib.hid hl; clear hl
  have hrb := hr.lt
  have p0 := heap_new w (.cells #[.int .i64 W, .int .i64 T, .slice a n cap] 25)
  have b0 := below1 w (.cells #[.int .i64 W, .int .i64 T, .slice a n cap] 25)
  have hfl := flipsF_len W T xs L
  have HFE := Lib.hid (fun i => flips_entry (W := W) (T := T) (xs := xs) (L := L) (i := i))
  have HSF := fun w' h h2 => sFlipsOf_ret W T a n cap xs la m lcap L w' HN.out hn' HM.out hm' h h2
  obtain ⟨F, hF⟩ : ∃ F, F = flipsF W T xs L := ⟨_, rfl⟩
  rw [← hF] at hfl HFE HSF
  obtain ⟨f, hf⟩ : ∃ f, f = F.length := ⟨_, rfl⟩
  rw [← hf] at hfl HSF HFE
  have HF := Lib.hid hf
  have HSFH := Lib.hid HSF
  clear hF hf HSF
  have hcc := corn_cases W T xs
  have HCM := fun w' h => sCornerMany_any W T a n cap xs w' HN.out hn' h
  obtain ⟨K, hK⟩ : ∃ K, K = cornN W T xs := ⟨_, rfl⟩
  rw [← hK] at hcc HCM
  have HCMH := Lib.hid HCM
  clear hK HCM
  go_enter Try.func32, Try.ntmps32
  go_wp2_with fail
  refine (HSFH.out _ (HA.out.below b0) (HL.out.below b0)).mono ?_; rintro e w1 ⟨a1, k1, rfl, o1, hb1⟩
  have b1 := below_seq b0 hb1
  have p1 := heap_later p0 hb1
  have r1 := hr.below b1
  have G1 := Lib.hid (grown_of_below b1 (some rb))
  have OB1 := Lib.hid (HO.out.below b1)
  have A1 := Lib.hid (OwnsB.at OB1.out)
  have O1 := Lib.hid o1
  clear b0 hb1 o1 p0 b1
  by_cases hf0 : f = 0
  · subst hf0
    clear HFE
    obtain ⟨c0, c1, c2⟩ := cells3 p1
    rcases hcc with hK | ⟨hK0, hK1⟩
    · have hmA : (if K < (0 : Int) then (0 : Int) else K) = 0 := if_pos (by omega)
      have hmB : (if (0 : Int) < K then K else (0 : Int)) = 0 := if_neg (by omega)
      have HK := Lib.hid hK
      subst hK
      go_wp2_with fail
      refine (HCMH.out _ A1.out).mono ?_; rintro e w8 ⟨rfl, hb8⟩
      have r8 := r1.below hb8
      have G8 := Lib.hid (grownBy_trans G1.out (grown_of_below hb8 (some rb)))
      clear hb8
      go_wp2_with fail
      refine (pick_any rb (P) 1 _ (by omega) (by omega) (by omega) r8).mono ?_; rintro e w9 ⟨u, hu, rfl, r9, g9⟩
      go_wp2_with fail
      refine (pick_any rb (P + 1) 20 _ (by omega) (by omega) (by omega) r9).mono ?_; rintro e w10 ⟨v, hv, rfl, r10, g10⟩
      have G10 := Lib.hid (grownBy_trans (grownBy_trans G8.out g9) g10)
      clear g9 g10
      go_wp2
      go_ret
      exact ⟨_, rfl, by omega, r10.mono (by omega), G10.out⟩
    · obtain ⟨kn, rfl⟩ := Int.eq_ofNat_of_zero_le (show 0 ≤ K by omega)
      have hmA : (if (kn : Int) < (0 : Int) then (0 : Int) else (kn : Int)) = kn := if_neg (by omega)
      have hmB : (if (0 : Int) < (kn : Int) then (kn : Int) else (0 : Int)) = kn := if_pos (by omega)
      go_wp2_with fail
      refine (HCMH.out _ A1.out).mono ?_; rintro e w8 ⟨rfl, hb8⟩
      have r8 := r1.below hb8
      have G8 := Lib.hid (grownBy_trans G1.out (grown_of_below hb8 (some rb)))
      clear hb8
      go_wp2_with fail
      refine (pick_i rb (P) ((kn : Int) + 1) _ (by omega) (by omega) (by omega) r8).mono ?_; rintro e w9 ⟨u, hu, rfl, r9, g9⟩
      go_wp2_with fail
      refine (pick_any rb (P + 1) 20 _ (by omega) (by omega) (by omega) r9).mono ?_; rintro e w10 ⟨v, hv, rfl, r10, g10⟩
      have G10 := Lib.hid (grownBy_trans (grownBy_trans G8.out g9) g10)
      clear g9 g10
      go_wp2
      go_ret
      exact ⟨_, rfl, by omega, r10.mono (by omega), G10.out⟩
  · have hf1 : 0 < f := by omega
    have hf2 : (0 : Int) < f := by omega
    go_wp2_with fail
    refine (pick_any rb P 3 _ (by omega) (by omega) (by omega) r1).mono ?_; rintro e w2 ⟨x, hx, rfl, r2, g2⟩
    have p2 := heap_grown p1 g2 (by simp; omega)
    have G2 := Lib.hid (grownBy_trans G1.out g2)
    have A2 := Lib.hid (OwnsB.at (OwnsB.keptBy OB1.out g2 (fun k e => by cases e; omega)))
    have O2 := Lib.hid (OwnsI.keptBy O1.out g2 (fun k e => by cases e; simp; omega))
    clear G1 A1 O1 r1 g2 p1
    by_cases hx0 : x = 0
    · subst hx0
      obtain ⟨c0, c1, c2⟩ := cells3 p2
      rcases hcc with hK | ⟨hK0, hK1⟩
      · have hmA : (if K < (0 : Int) then (0 : Int) else K) = 0 := if_pos (by omega)
        have hmB : (if (0 : Int) < K then K else (0 : Int)) = 0 := if_neg (by omega)
        have HK := Lib.hid hK
        subst hK
        go_wp2_with fail
        refine (HCMH.out _ A2.out).mono ?_; rintro e w8 ⟨rfl, hb8⟩
        have r8 := r2.below hb8
        have G8 := Lib.hid (grownBy_trans G2.out (grown_of_below hb8 (some rb)))
        clear hb8
        go_wp2_with fail
        refine (pick_any rb (P + 1) 1 _ (by omega) (by omega) (by omega) r8).mono ?_; rintro e w9 ⟨u, hu, rfl, r9, g9⟩
        go_wp2_with fail
        refine (pick_any rb (P + 1 + 1) 20 _ (by omega) (by omega) (by omega) r9).mono ?_; rintro e w10 ⟨v, hv, rfl, r10, g10⟩
        have G10 := Lib.hid (grownBy_trans (grownBy_trans G8.out g9) g10)
        clear g9 g10
        go_wp2
        go_ret
        exact ⟨_, rfl, by omega, r10.mono (by omega), G10.out⟩
      · obtain ⟨kn, rfl⟩ := Int.eq_ofNat_of_zero_le (show 0 ≤ K by omega)
        have hmA : (if (kn : Int) < (0 : Int) then (0 : Int) else (kn : Int)) = kn := if_neg (by omega)
        have hmB : (if (0 : Int) < (kn : Int) then (kn : Int) else (0 : Int)) = kn := if_pos (by omega)
        go_wp2_with fail
        refine (HCMH.out _ A2.out).mono ?_; rintro e w8 ⟨rfl, hb8⟩
        have r8 := r2.below hb8
        have G8 := Lib.hid (grownBy_trans G2.out (grown_of_below hb8 (some rb)))
        clear hb8
        go_wp2_with fail
        refine (pick_i rb (P + 1) ((kn : Int) + 1) _ (by omega) (by omega) (by omega) r8).mono ?_; rintro e w9 ⟨u, hu, rfl, r9, g9⟩
        go_wp2_with fail
        refine (pick_any rb (P + 1 + 1) 20 _ (by omega) (by omega) (by omega) r9).mono ?_; rintro e w10 ⟨v, hv, rfl, r10, g10⟩
        have G10 := Lib.hid (grownBy_trans (grownBy_trans G8.out g9) g10)
        clear g9 g10
        go_wp2
        go_ret
        exact ⟨_, rfl, by omega, r10.mono (by omega), G10.out⟩
    · have hx1 : (0 : Int) < x := by omega
      go_wp2_with fail
      refine (pick_any rb (P + 1) f _ hf1 (by omega) (by omega) r2).mono ?_; rintro e w3 ⟨y, hy, rfl, r3, g3⟩
      have O3 := Lib.hid (OwnsI.keptBy O2.out g3 (fun k e => by cases e; simp; omega))
      have G3 := Lib.hid (grownBy_trans G2.out g3)
      obtain ⟨bb, bo, rfl, hc⟩ := (OwnsI.at O3.out) y (by rw [← HF.out]; exact hy)
      have hvb := HFE.out y hy
      obtain ⟨V, hV⟩ : ∃ V, V = F.getD y 0 := ⟨_, rfl⟩
      rw [← hV] at hc hvb
      clear hV g3
      have hy2 : (y : Int) < f := by omega
      go_wp2
      go_ret
      exact ⟨V, rfl, by omega, r3.mono (by omega), G3.out⟩
end Go.Proofs.Ytagbjhiagkkahaa
