/- Plain facts: with a further cell there is one part more at most, and three fewer at most. Merged of: PartsP, SimpleP. -/
import Derived.Test.YtpcajacekmidbaaGreatKFaultsS
namespace Go.Proofs.YtpcajacekmidbaaGreat
open Go.RowKit
set_option linter.unusedVariables false
set_option maxRecDepth 100000
set_option linter.unusedSimpArgs false

def DrawnRg2 (w : World) (e : Ending) (w' : World) : Prop :=
 ∃ (W T : Int) (a : Option Addr) (n cap : Nat) (xs : List Bool) (la : Option Addr) (m lcap : Nat) (L : List Int), e = .returned (.tuple #[.agg #[.int .i64 W, .int .i64 T, .slice a n cap], .slice la m lcap]) ∧ n = xs.length ∧ n ≤ 36 ∧ (0 ≤ W ∧ W ≤ 6 ∧ 0 ≤ T ∧ T ≤ 6) ∧ OwnsB w' (w.heap.size + 1) (.slice a n cap) xs ∧ m = L.length ∧ m ≤ 36 ∧ OwnsI w' (w.heap.size + 1) (.slice la m lcap) L ∧ Below w.heap.size w w'
theorem OwnsI.set3d {w : World} {B : Nat} {v : Value} {xs : List Int} (h : OwnsI w B v xs) {b : Nat} (hb : b < B) (x y z : Value) : OwnsI (((w.setCell ⟨b, 0, none⟩ x).setCell ⟨b, 1, none⟩ y).setCell ⟨b, 2, none⟩ z) B v xs :=
 ((h.setBelow (p := ⟨b, 0, none⟩) hb x).setBelow (p := ⟨b, 1, none⟩) hb y).setBelow (p := ⟨b, 2, none⟩) hb z
end Go.Proofs.YtpcajacekmidbaaGreat

namespace Go.Proofs.YtpcajacekmidbaaGreat
open Go.RowKit
set_option linter.unusedVariables false
set_option maxRecDepth 100000
set_option linter.unusedSimpArgs false

structure Form where
 e : Nat → Nat → Int
 n : Nat → Nat → Int
def Form.circ (F : Form) (x y : Nat) : Int := F.e x y + F.n (x + 1) y - F.e x (y + 1) - F.n x y
def Form.Agree (V H : Nat) (I : Nat → Nat → Bool) (F G : Form) : Prop :=
 ∀ x y, x < V → y < H → I x y = true → G.e x y = F.e x y ∧ G.e x (y + 1) = F.e x (y + 1) ∧ G.n x y = F.n x y ∧ G.n (x + 1) y = F.n (x + 1) y
theorem Form.Agree.refl {V H : Nat} {I : Nat → Nat → Bool} (F : Form) : Form.Agree V H I F F := fun _ _ _ _ _ => ⟨rfl, rfl, rfl, rfl⟩
theorem Form.Agree.trans {V H : Nat} {I : Nat → Nat → Bool} {F G K : Form} (h : Form.Agree V H I F G) (k : Form.Agree V H I G K) : Form.Agree V H I F K := fun x y a b c => by
 obtain ⟨h1, h2, h3, h4⟩ := h x y a b c
 obtain ⟨k1, k2, k3, k4⟩ := k x y a b c
 exact ⟨k1.trans h1, k2.trans h2, k3.trans h3, k4.trans h4⟩
def Form.addE (F : Form) (a b : Nat) (d : Int) : Form := ⟨fun x y => if x = a ∧ y = b then F.e x y + d else F.e x y, F.n⟩
def Form.addN (F : Form) (a b : Nat) (d : Int) : Form := ⟨F.e, fun x y => if x = a ∧ y = b then F.n x y + d else F.n x y⟩
theorem Form.circ_addE (F : Form) (a b : Nat) (d : Int) (x y : Nat) : (F.addE a b d).circ x y = F.circ x y + (if x = a ∧ y = b then d else 0) - (if x = a ∧ y + 1 = b then d else 0) := by
 unfold Form.circ Form.addE
 simp only
 split <;> split <;> (try split) <;> omega
theorem Form.circ_addN (F : Form) (a b : Nat) (d : Int) (x y : Nat) : (F.addN a b d).circ x y = F.circ x y + (if x + 1 = a ∧ y = b then d else 0) - (if x = a ∧ y = b then d else 0) := by
 unfold Form.circ Form.addN
 simp only
 split <;> split <;> (try split) <;> omega
theorem Form.agree_addE {V H : Nat} {I : Nat → Nat → Bool} (F : Form) (a b : Nat) (d : Int) (h1 : a < V → b < H → I a b = false) (h2 : 0 < b → a < V → b - 1 < H → I a (b - 1) = false) : Form.Agree V H I F (F.addE a b d) := by
 intro x y hx hy hi
 refine ⟨?_, ?_, rfl, rfl⟩
 · show (if x = a ∧ y = b then F.e x y + d else F.e x y) = _
   rw [if_neg]
   rintro ⟨rfl, rfl⟩
   rw [h1 hx hy] at hi; cases hi
 · show (if x = a ∧ y + 1 = b then F.e x (y + 1) + d else F.e x (y + 1)) = _
   rw [if_neg]
   rintro ⟨rfl, rfl⟩
   have := h2 (by omega) hx (by simpa using hy)
   simp at this
   rw [this] at hi; cases hi
theorem Form.agree_addN {V H : Nat} {I : Nat → Nat → Bool} (F : Form) (a b : Nat) (d : Int) (h1 : a < V → b < H → I a b = false) (h2 : 0 < a → a - 1 < V → b < H → I (a - 1) b = false) : Form.Agree V H I F (F.addN a b d) := by
 intro x y hx hy hi
 refine ⟨rfl, rfl, ?_, ?_⟩
 · show (if x = a ∧ y = b then F.n x y + d else F.n x y) = _
   rw [if_neg]
   rintro ⟨rfl, rfl⟩
   rw [h1 hx hy] at hi; cases hi
 · show (if x + 1 = a ∧ y = b then F.n (x + 1) y + d else F.n (x + 1) y) = _
   rw [if_neg]
   rintro ⟨rfl, rfl⟩
   have := h2 (by omega) (by simpa using hx) hy
   simp at this
   rw [this] at hi; cases hi

theorem adj_nat {V j k : Nat} (hV : 0 < V) (h : adjW (V : Int) false j k = true) :
 (k % V = j % V + 1 ∧ k / V = j / V) ∨ (k % V = j % V ∧ k / V = j / V + 1) ∨ (j % V = k % V + 1 ∧ k / V = j / V) ∨ (k % V = j % V ∧ j / V = k / V + 1) := by
 obtain ⟨way, w1, w4, hx, hy⟩ := adj_way h
 rw [← Int.natCast_emod, ← Int.natCast_emod] at hx
 rw [← Int.natCast_ediv, ← Int.natCast_ediv] at hy
 have hw : way = 1 ∨ way = 2 ∨ way = 3 ∨ way = 4 := by omega
 rcases hw with rfl | rfl | rfl | rfl <;> simp [dxw, dyw] at hx hy <;> omega

theorem form_push {V H N : Nat} {s : Nat → Bool} (hV : 0 < V) (hN : N = V * H) {k : Nat} (hc : Conn N s (adjW (V : Int) false) 0 k) :
 ∀ (F : Form) (v : Int), ∃ G : Form, Form.Agree V H (fun x y => !s (y * V + x)) F G ∧ (k ≠ 0 → G.circ (k % V) (k / V) = v) ∧ ∀ x y, x < V → y < H → y * V + x ≠ 0 → y * V + x ≠ k → G.circ x y = F.circ x y := by
 have idx : ∀ x y, x < V → (y * V + x) % V = x ∧ (y * V + x) / V = y := fun x y hx => by
  rw [Nat.add_comm, Nat.add_mul_mod_self_right, Nat.mod_eq_of_lt hx, Nat.add_mul_div_right _ _ hV, Nat.div_eq_of_lt hx]
  exact ⟨rfl, by omega⟩
 have back : ∀ c : Nat, c / V * V + c % V = c := fun c => by rw [Nat.mul_comm]; exact Nat.div_add_mod c V
 have ltV : ∀ c : Nat, c % V < V := fun c => Nat.mod_lt _ hV
 have ltH : ∀ c, c < N → c / V < H := fun c h => Nat.div_lt_of_lt_mul (by rw [← hN]; exact h)
 induction hc with
 | refl h0 hs => exact fun F v => ⟨F, Form.Agree.refl F, fun h => absurd rfl h, fun _ _ _ _ _ _ => rfl⟩
 | @step j k hij hadj hk hsk ih =>
   intro F v
   by_cases hk0 : k = 0
   · exact ⟨F, Form.Agree.refl F, fun h => absurd hk0 h, fun _ _ _ _ _ _ => rfl⟩
   obtain ⟨hj, hsj⟩ := hij.right
   -- the side between both cells, changed so that k has what is wanted
   have h1 : ∃ G : Form, Form.Agree V H (fun x y => !s (y * V + x)) F G ∧ G.circ (k % V) (k / V) = v ∧ ∀ x y, x < V → y < H → y * V + x ≠ j → y * V + x ≠ k → G.circ x y = F.circ x y := by
    have ne : ∀ {x y c : Nat}, x < V → y * V + x ≠ c → ¬ (x = c % V ∧ y = c / V) := fun hx h e => h (by rw [e.1, e.2, back])
    obtain ⟨bj, bk, lj, lk, tj, tk⟩ := (⟨back j, back k, ltV j, ltV k, ltH j hj, ltH k hk⟩ : _ ∧ _ ∧ _ ∧ _ ∧ _ ∧ _)
    generalize hxj : j % V = xj at *
    generalize hyj : j / V = yj at *
    generalize hxk : k % V = xk at *
    generalize hyk : k / V = yk at *
    have nk : ∀ {x y : Nat}, x < V → y * V + x ≠ k → ¬ (x = xk ∧ y = yk) := fun hx h e => h (by rw [e.1, e.2, bk])
    have nj : ∀ {x y : Nat}, x < V → y * V + x ≠ j → ¬ (x = xj ∧ y = yj) := fun hx h e => h (by rw [e.1, e.2, bj])
    have adj := adj_nat hV hadj
    rw [hxj, hyj, hxk, hyk] at adj
    rcases adj with ⟨ax, ay⟩ | ⟨ax, ay⟩ | ⟨ax, ay⟩ | ⟨ax, ay⟩
    · -- k lies in the east
      refine ⟨F.addN xk yk (F.circ xk yk - v), Form.agree_addN _ _ _ _ (fun _ _ => by rw [bk, hsk]; rfl) (fun _ _ _ => by rw [ax, ay, Nat.add_sub_cancel, bj, hsj]; rfl), ?_, ?_⟩
      · rw [Form.circ_addN, if_neg (by omega), if_pos ⟨rfl, rfl⟩]; omega
      · intro x y hx hy h2 h3
        have e1 := nk hx h3
        have e2 := nj hx h2
        rw [Form.circ_addN, if_neg (by omega), if_neg (by omega)]; omega
    · -- in the north
      refine ⟨F.addE xk yk (v - F.circ xk yk), Form.agree_addE _ _ _ _ (fun _ _ => by rw [bk, hsk]; rfl) (fun _ _ _ => by rw [ax, ay, Nat.add_sub_cancel, bj, hsj]; rfl), ?_, ?_⟩
      · rw [Form.circ_addE, if_pos ⟨rfl, rfl⟩, if_neg (by omega)]; omega
      · intro x y hx hy h2 h3
        have e1 := nk hx h3
        have e2 := nj hx h2
        rw [Form.circ_addE, if_neg (by omega), if_neg (by omega)]; omega
    · -- in the west
      refine ⟨F.addN xj yj (v - F.circ xk yk), Form.agree_addN _ _ _ _ (fun _ _ => by rw [bj, hsj]; rfl) (fun _ _ _ => by rw [ax, ← ay, Nat.add_sub_cancel, bk, hsk]; rfl), ?_, ?_⟩
      · rw [Form.circ_addN, if_pos (by omega), if_neg (by omega)]; omega
      · intro x y hx hy h2 h3
        have e1 := nk hx h3
        have e2 := nj hx h2
        rw [Form.circ_addN, if_neg (by omega), if_neg (by omega)]; omega
    · -- in the south
      refine ⟨F.addE xj yj (F.circ xk yk - v), Form.agree_addE _ _ _ _ (fun _ _ => by rw [bj, hsj]; rfl) (fun _ _ _ => by rw [← ax, ay, Nat.add_sub_cancel, bk, hsk]; rfl), ?_, ?_⟩
      · rw [Form.circ_addE, if_neg (by omega), if_pos (by omega)]; omega
      · intro x y hx hy h2 h3
        have e1 := nk hx h3
        have e2 := nj hx h2
        rw [Form.circ_addE, if_neg (by omega), if_neg (by omega)]; omega
   obtain ⟨G, ag, gk, gr⟩ := h1
   obtain ⟨G2, ag2, gj2, gr2⟩ := ih G (F.circ (j % V) (j / V))
   by_cases hjk : j = k
   · subst hjk
     obtain ⟨G3, ag3, gj3, gr3⟩ := ih F v
     exact ⟨G3, ag3, gj3, gr3⟩
   refine ⟨G2, ag.trans ag2, fun _ => ?_, fun x y hx hy h0 h1 => ?_⟩
   · rw [gr2 _ _ (ltV k) (ltH k hk) (by rw [back]; exact hk0) (by rw [back]; exact fun e => hjk e.symm)]
     exact gk
   · by_cases e : y * V + x = j
     · obtain ⟨i1, i2⟩ := idx x y hx
       rw [e] at i1 i2
       have := gj2 (by omega)
       rw [i1, i2] at this
       exact this
     · rw [gr2 x y hx hy h0 e]
       exact gr x y hx hy e h1

theorem form_flat {V H N : Nat} {s : Nat → Bool} (hV : 0 < V) (hH : 0 < H) (hN : N = V * H) (h0 : s 0 = true) (hc : ∀ k, k < N → s k = true → Conn N s (adjW (V : Int) false) 0 k) (F : Form) :
 ∃ G : Form, Form.Agree V H (fun x y => !s (y * V + x)) F G ∧ ∀ x y, x < V → y < H → s (y * V + x) = true → G.circ x y = 0 := by
 have idx : ∀ x y, x < V → (y * V + x) % V = x ∧ (y * V + x) / V = y := fun x y hx => by
  rw [Nat.add_comm, Nat.add_mul_mod_self_right, Nat.mod_eq_of_lt hx, Nat.add_mul_div_right _ _ hV, Nat.div_eq_of_lt hx]
  exact ⟨rfl, by omega⟩
 have part : ∀ m, m ≤ N → ∃ G : Form, Form.Agree V H (fun x y => !s (y * V + x)) F G ∧ ∀ x y, x < V → y < H → s (y * V + x) = true → 0 < y * V + x → y * V + x < m → G.circ x y = 0 := by
  intro m
  induction m with
  | zero => exact fun _ => ⟨F, Form.Agree.refl F, fun _ _ _ _ _ _ h => absurd h (Nat.not_lt_zero _)⟩
  | succ m ih =>
    intro hm
    obtain ⟨G, ag, gz⟩ := ih (by omega)
    by_cases hs : s m = true ∧ m ≠ 0
    · obtain ⟨K, ak, kz, kr⟩ := form_push hV hN (hc m (by omega) hs.1) G 0
      refine ⟨K, ag.trans ak, fun x y hx hy h1 h2 h3 => ?_⟩
      by_cases e : y * V + x = m
      · obtain ⟨i1, i2⟩ := idx x y hx
        rw [e] at i1 i2
        have := kz hs.2
        rw [i1, i2] at this
        exact this
      · rw [kr x y hx hy (by omega) e]
        exact gz x y hx hy h1 h2 (by omega)
    · refine ⟨G, ag, fun x y hx hy h1 h2 h3 => ?_⟩
      by_cases e : y * V + x = m
      · rw [e] at h1 h2
        exact absurd ⟨h1, by omega⟩ hs
      · exact gz x y hx hy h1 h2 (by omega)
 obtain ⟨G, ag, gz⟩ := part N (Nat.le_refl _)
 refine ⟨G.addN 0 0 (G.circ 0 0), ag.trans (Form.agree_addN _ _ _ _ (fun _ _ => by simp [h0]) (fun h => absurd h (Nat.lt_irrefl _))), fun x y hx hy h1 => ?_⟩
 rw [Form.circ_addN, if_neg (by omega)]
 by_cases e : x = 0 ∧ y = 0
 · obtain ⟨rfl, rfl⟩ := e
   rw [if_pos ⟨rfl, rfl⟩]; omega
 · rw [if_neg e]
   have hlt : y * V + x < N := by
    rw [hN]
    have : (y + 1) * V ≤ H * V := Nat.mul_le_mul_right V hy
    rw [Nat.add_mul, Nat.one_mul, Nat.mul_comm H V] at this
    omega
   have hpos : 0 < y * V + x := by
    rcases Nat.eq_zero_or_pos x with h | h
    · have : 0 < y := by omega
      have : 0 < y * V := Nat.mul_pos this hV
      omega
    · omega
   rw [gz x y hx hy h1 hpos hlt]; rfl

def sumI (f : Nat → Int) : Nat → Int
 | 0 => 0
 | n + 1 => sumI f n + f n
def Form.height (F : Form) (x y : Nat) : Int := sumI (fun i => F.e i 0) x + sumI (fun j => F.n x j) y
theorem Form.height_north (F : Form) (x y : Nat) : F.height x (y + 1) - F.height x y = F.n x y := by
 unfold Form.height
 rw [sumI]; omega
theorem Form.height_east {V H : Nat} {F : Form} (h : ∀ x y, x < V → y < H → F.circ x y = 0) : ∀ y, y ≤ H → ∀ x, x < V → F.height (x + 1) y - F.height x y = F.e x y := by
 intro y
 induction y with
 | zero =>
   intro _ x hx
   unfold Form.height
   rw [sumI, sumI, sumI]; omega
 | succ y ih =>
   intro hy x hx
   have h1 := ih (by omega) x hx
   have h2 := F.height_north x y
   have h3 := F.height_north (x + 1) y
   have h4 := h x y hx (by omega)
   unfold Form.circ at h4
   omega

theorem form_heights {V H N : Nat} {s : Nat → Bool} (hV : 0 < V) (hH : 0 < H) (hN : N = V * H) (h0 : s 0 = true) (hc : ∀ k, k < N → s k = true → Conn N s (adjW (V : Int) false) 0 k) (F : Form) (hF : ∀ x y, x < V → y < H → s (y * V + x) = false → F.circ x y = 0) :
 ∃ h : Nat → Nat → Int, ∀ x y, x < V → y < H → s (y * V + x) = false → h (x + 1) y - h x y = F.e x y ∧ h (x + 1) (y + 1) - h x (y + 1) = F.e x (y + 1) ∧ h x (y + 1) - h x y = F.n x y ∧ h (x + 1) (y + 1) - h (x + 1) y = F.n (x + 1) y := by
 obtain ⟨G, ag, gz⟩ := form_flat hV hH hN h0 hc F
 have all : ∀ x y, x < V → y < H → G.circ x y = 0 := fun x y hx hy => by
  cases hs : s (y * V + x)
  · obtain ⟨a1, a2, a3, a4⟩ := ag x y hx hy (by simp [hs])
    have := hF x y hx hy hs
    unfold Form.circ at this ⊢
    rw [a1, a2, a3, a4]; exact this
  · exact gz x y hx hy hs
 refine ⟨G.height, fun x y hx hy hs => ?_⟩
 obtain ⟨a1, a2, a3, a4⟩ := ag x y hx hy (by simp [hs])
 rw [← a1, ← a2, ← a3, ← a4]
 exact ⟨Form.height_east all y (by omega) x hx, Form.height_east all (y + 1) hy x hx, G.height_north x y, G.height_north (x + 1) y⟩
end Go.Proofs.YtpcajacekmidbaaGreat

namespace Go.Proofs.YtpcajacekmidbaaGreat
open Go.RowKit
set_option linter.unusedVariables false
set_option maxRecDepth 100000
set_option linter.unusedSimpArgs false

def cornN (W T : Int) (xs : List Bool) : Int := if rv W T xs then (W + 1) * (T + 1) else -1
theorem corn_bd {W T : Int} (h1 : 1 ≤ W) (h2 : W ≤ 6) (h3 : 1 ≤ T) (h4 : T ≤ 6) : 4 ≤ (W + 1) * (T + 1) ∧ (W + 1) * (T + 1) ≤ 49 := by
 have a : (W + 1) * (T + 1) ≤ 7 * 7 := Int.mul_le_mul (by omega) (by omega) (by omega) (by omega)
 have b : 2 * 2 ≤ (W + 1) * (T + 1) := Int.mul_le_mul (by omega) (by omega) (by omega) (by omega)
 omega

theorem sCornerMany_any (W T : Int) (a : Option Addr) (n cap : Nat) (xs : List Bool) (w : World) (hn : n = xs.length) (hn' : n ≤ 1048576) (ha : BoolsAt w a xs) :
 Calls Tryz.prog 58 #[.agg #[.int .i64 W, .int .i64 T, .slice a n cap]] w fun e w' => e = .returned (.int .i64 (cornN W T xs)) ∧ Below w.heap.size w w' := by
 have HN := Lib.hid hn; clear hn
 have HA := Lib.hid ha; clear ha
 cases h : rv W T xs
 · have e : cornN W T xs = -1 := by unfold cornN; rw [h]; rfl
   rw [e]
   have H := Lib.hid h; clear h e
   go_enter Tryz.func58, Tryz.ntmps58
   go_wp2_with fail
   refine (sRegionValid_any _ _ _ _ _ xs _ HN.out hn' (HA.out.one _)).mono ?_; rintro e w1 ⟨rfl, hb1⟩
   rw [H.out]
   go_wp2
   go_ret
   exact ⟨rfl, below_seq (below1 _ _) hb1⟩
 · obtain ⟨v1, v2, v3, v4, v5, _⟩ := rv_true h
   have e : cornN W T xs = (W + 1) * (T + 1) := by unfold cornN; rw [h, if_pos rfl]
   rw [e]
   have H := Lib.hid h; clear h e v5
   have hb := corn_bd v1 v2 v3 v4
   go_enter Tryz.func58, Tryz.ntmps58
   go_wp2_with fail
   refine (sRegionValid_any _ _ _ _ _ xs _ HN.out hn' (HA.out.one _)).mono ?_; rintro e w1 ⟨rfl, hb1⟩
   rw [H.out]
   obtain ⟨c0, c1, c2⟩ := cells3 (heap_later (heap_new w (.cells #[.int .i64 W, .int .i64 T, .slice a n cap] 25)) hb1)
   go_wp2
   go_ret
   exact ⟨rfl, below_seq (below1 _ _) hb1⟩

theorem iCornerMany_any (W T : Int) (a : Option Addr) (n cap : Nat) (xs : List Bool) (w : World) (hn : n = xs.length) (hn' : n ≤ 1048576) (ha : BoolsAt w a xs) :
 Calls Tryz.prog 91 #[.agg #[.int .i64 W, .int .i64 T, .slice a n cap]] w fun e w' => e = .returned (.int .i64 (cornN W T xs)) ∧ Below w.heap.size w w' := by
 have HN := Lib.hid hn; clear hn
 have HA := Lib.hid ha; clear ha
 cases h : rv W T xs
 · have e : cornN W T xs = -1 := by unfold cornN; rw [h]; rfl
   rw [e]
   have H := Lib.hid h; clear h e
   go_enter Tryz.func91, Tryz.ntmps91
   go_wp2_with fail
   refine (iRegionValid_any _ _ _ _ _ xs _ HN.out hn' (HA.out.one _)).mono ?_; rintro e w1 ⟨rfl, hb1⟩
   rw [H.out]
   go_wp2
   go_ret
   exact ⟨rfl, below_seq (below1 _ _) hb1⟩
 · obtain ⟨v1, v2, v3, v4, v5, _⟩ := rv_true h
   have e : cornN W T xs = (W + 1) * (T + 1) := by unfold cornN; rw [h, if_pos rfl]
   rw [e]
   have H := Lib.hid h; clear h e v5
   have hb := corn_bd v1 v2 v3 v4
   go_enter Tryz.func91, Tryz.ntmps91
   go_wp2_with fail
   refine (iRegionValid_any _ _ _ _ _ xs _ HN.out hn' (HA.out.one _)).mono ?_; rintro e w1 ⟨rfl, hb1⟩
   rw [H.out]
   obtain ⟨c0, c1, c2⟩ := cells3 (heap_later (heap_new w (.cells #[.int .i64 W, .int .i64 T, .slice a n cap] 25)) hb1)
   go_wp2
   go_ret
   exact ⟨rfl, below_seq (below1 _ _) hb1⟩
end Go.Proofs.YtpcajacekmidbaaGreat

namespace Go.Proofs.YtpcajacekmidbaaGreat
open Go.RowKit
set_option linter.unusedVariables false
set_option maxRecDepth 100000
set_option linter.unusedSimpArgs false

def kx (W : Int) (k : Nat) : Int := (k : Int) % (W + 1)
def ky (W : Int) (k : Nat) : Int := (k : Int) / (W + 1)
def sLx (W : Int) (k : Nat) (nth : Bool) : Int := if nth then kx W k - 1 else kx W k
def sRy (W : Int) (k : Nat) (nth : Bool) : Int := if nth then ky W k else ky W k - 1
def sLeft (W T : Int) (xs : List Bool) (k : Nat) (nth : Bool) : Bool := atB W T xs (sLx W k nth) (ky W k)
def sRight (W T : Int) (xs : List Bool) (k : Nat) (nth : Bool) : Bool := atB W T xs (kx W k) (sRy W k nth)
def sTo (W : Int) (k : Nat) (nth : Bool) : Int := if nth then (k : Int) + W + 1 else (k : Int) + 1
def sUsed (W T : Int) (xs : List Bool) (k : Nat) (nth : Bool) : Bool := sLeft W T xs k nth || sRight W T xs k nth
def sBoth (W T : Int) (xs : List Bool) (k : Nat) (nth : Bool) : Bool := sLeft W T xs k nth && sRight W T xs k nth
def sDark (W : Int) (k : Nat) (nth : Bool) : Bool := decide ((sLx W k nth + ky W k + 2) % 2 = 0)
def sRise (W : Int) (k : Nat) (nth : Bool) : Int := if sDark W k nth then 1 else -1
def sCell (W : Int) (k : Nat) (nth : Bool) : Int := ky W k * W + sLx W k nth
def sOther (W : Int) (k : Nat) (nth : Bool) : Int := sRy W k nth * W + kx W k
def sWay (nth : Bool) : Int := if nth then 1 else 4

theorem kxy {W : Int} (hW : 1 ≤ W) (k : Nat) : 0 ≤ kx W k ∧ kx W k ≤ W ∧ 0 ≤ ky W k ∧ ky W k * (W + 1) + kx W k = k := by
 unfold kx ky
 have a := Int.emod_nonneg (k : Int) (show W + 1 ≠ 0 by omega)
 have b := Int.emod_lt_of_pos (k : Int) (show 0 < W + 1 by omega)
 have c := Int.ediv_nonneg (show 0 ≤ (k : Int) by omega) (show 0 ≤ W + 1 by omega)
 have d := Int.mul_ediv_add_emod (k : Int) (W + 1)
 rw [Int.mul_comm] at d
 omega
theorem ky_le {W T : Int} {k : Nat} (hW : 1 ≤ W) (hk : (k : Int) < (W + 1) * (T + 1)) : ky W k ≤ T := by
 unfold ky
 have : (k : Int) / (W + 1) < T + 1 := Int.ediv_lt_of_lt_mul (by omega) (by rw [Int.mul_comm]; exact hk)
 omega
theorem atB_in {W T : Int} {xs : List Bool} {x y : Int} (h : atB W T xs x y = true) : 0 ≤ x ∧ x < W ∧ 0 ≤ y ∧ y < T := by
 unfold atB at h
 rw [Bool.and_eq_true] at h
 simpa [inF] using h.1
theorem sUsed_in {W T : Int} {xs : List Bool} {k : Nat} {nth : Bool} (hW : 1 ≤ W) (h : sUsed W T xs k nth = true) : if nth then ky W k < T else (kx W k < W ∧ ky W k ≤ T) := by
 obtain ⟨a, b, c, d⟩ := kxy hW k
 unfold sUsed sLeft sRight sLx sRy at h
 rw [Bool.or_eq_true] at h
 cases nth
 · rcases h with h | h <;> have := atB_in h <;> simp at this ⊢ <;> omega
 · rcases h with h | h <;> have := atB_in h <;> simp at this ⊢ <;> omega
theorem sTo_lt {W T : Int} {xs : List Bool} {k : Nat} {nth : Bool} (hW : 1 ≤ W) (h : sUsed W T xs k nth = true) : 0 ≤ sTo W k nth ∧ (k : Int) < sTo W k nth ∧ sTo W k nth < (W + 1) * (T + 1) := by
 obtain ⟨a, b, c, d⟩ := kxy hW k
 have hu := sUsed_in hW h
 have e : (W + 1) * (T + 1) = T * (W + 1) + (W + 1) := by rw [Int.mul_add, Int.mul_comm (W + 1) T]; omega
 unfold sTo
 cases nth
 · simp at hu ⊢
   have : ky W k * (W + 1) ≤ T * (W + 1) := Int.mul_le_mul_of_nonneg_right hu.2 (by omega)
   omega
 · simp at hu ⊢
   have : (ky W k + 1) * (W + 1) ≤ T * (W + 1) := Int.mul_le_mul_of_nonneg_right (by omega) (by omega)
   rw [Int.add_mul] at this
   omega

def hAt (W T : Int) (xs : List Bool) (k : Nat) : Bool :=
 atB W T xs (kx W k) (ky W k) || atB W T xs (kx W k - 1) (ky W k) || atB W T xs (kx W k) (ky W k - 1) || atB W T xs (kx W k - 1) (ky W k - 1)
def hMay (W T : Int) (xs : List Bool) (k : Nat) (v : Int) : Bool := if hAt W T xs k then inB v (-60) 60 else v == 99
def rMay (W T : Int) (xs : List Bool) (k : Nat) (nth : Bool) (d : Int) : Bool := d == sRise W k nth || (sBoth W T xs k nth && d == -3 * sRise W k nth)
def sdOk (W T : Int) (xs : List Bool) (H : List Int) (k : Nat) (nth : Bool) : Bool := !sUsed W T xs k nth || rMay W T xs k nth (H.getD (sTo W k nth).toNat 0 - H.getD k 0)
def sdsOk (W T : Int) (xs : List Bool) (H : List Int) (n : Nat) : Bool := (List.range n).all fun k => sdOk W T xs H k false && sdOk W T xs H k true
def hsMay (W T : Int) (xs : List Bool) (H : List Int) (n : Nat) : Bool := (List.range n).all fun k => hMay W T xs k (H.getD k 0)
def frstK (W T : Int) (xs : List Bool) (n : Nat) : Int := (((List.range n).find? fun k => sUsed W T xs k false || sUsed W T xs k true).map fun k : Nat => (k : Int)).getD (-1)
theorem frstK_zero (W T : Int) (xs : List Bool) : frstK W T xs 0 = -1 := rfl
theorem frstK_succ (W T : Int) (xs : List Bool) (n : Nat) : frstK W T xs (n + 1) = if frstK W T xs n < 0 then (if (sUsed W T xs n false || sUsed W T xs n true) then (n : Int) else -1) else frstK W T xs n := by
 unfold frstK
 rw [List.range_succ, List.find?_append]
 cases h : (List.range n).find? fun k => sUsed W T xs k false || sUsed W T xs k true with
 | none =>
   simp only [Option.none_or, Option.map_none, Option.getD_none, List.find?_cons, List.find?_nil]
   rw [if_pos (by decide)]
   cases hu : (sUsed W T xs n false || sUsed W T xs n true) <;> simp
 | some j => simp; intro h0; omega
theorem frstK_lt (W T : Int) (xs : List Bool) (n : Nat) : -1 ≤ frstK W T xs n ∧ frstK W T xs n < n := by
 induction n with
 | zero => rw [frstK_zero]; omega
 | succ n ih =>
   rw [frstK_succ]
   split
   · split <;> omega
   · omega
def sidesK (W T : Int) (xs : List Bool) (n : Nat) : List (Nat × Bool) := (List.range n).flatMap fun k => (if sUsed W T xs k false then [(k, false)] else []) ++ (if sUsed W T xs k true then [(k, true)] else [])
theorem sidesK_succ (W T : Int) (xs : List Bool) (n : Nat) : sidesK W T xs (n + 1) = sidesK W T xs n ++ ((if sUsed W T xs n false then [(n, false)] else []) ++ (if sUsed W T xs n true then [(n, true)] else [])) := by
 unfold sidesK
 rw [List.range_succ, List.flatMap_append]; simp
theorem sidesK_len (W T : Int) (xs : List Bool) (n : Nat) : (sidesK W T xs n).length ≤ 2 * n := by
 induction n with
 | zero => simp [sidesK]
 | succ n ih =>
   rw [sidesK_succ, List.length_append, List.length_append]
   have a : (if sUsed W T xs n false then [(n, false)] else [] : List (Nat × Bool)).length ≤ 1 := by split <;> simp
   have b : (if sUsed W T xs n true then [(n, true)] else [] : List (Nat × Bool)).length ≤ 1 := by split <;> simp
   omega
theorem sidesK_mem {W T : Int} {xs : List Bool} {n k : Nat} {nth : Bool} : (k, nth) ∈ sidesK W T xs n ↔ k < n ∧ sUsed W T xs k nth = true := by
 unfold sidesK
 rw [List.mem_flatMap]
 constructor
 · rintro ⟨j, hj, h⟩
   rw [List.mem_range] at hj
   rw [List.mem_append] at h
   rcases h with h | h
   · split at h
     · simp at h; obtain ⟨rfl, rfl⟩ := h; exact ⟨hj, by assumption⟩
     · cases h
   · split at h
     · simp at h; obtain ⟨rfl, rfl⟩ := h; exact ⟨hj, by assumption⟩
     · cases h
 · rintro ⟨h1, h2⟩
   refine ⟨k, List.mem_range.2 h1, ?_⟩
   cases nth
   · simp [h2]
   · simp [h2]
theorem sdsOk_iff {W T : Int} {xs : List Bool} {H : List Int} {n : Nat} : sdsOk W T xs H n = true ↔ ∀ s ∈ sidesK W T xs n, rMay W T xs s.1 s.2 (H.getD (sTo W s.1 s.2).toNat 0 - H.getD s.1 0) = true := by
 unfold sdsOk sdOk
 simp only [List.all_eq_true, List.mem_range, Bool.and_eq_true, Bool.or_eq_true, Bool.not_eq_true']
 constructor
 · rintro h ⟨k, nth⟩ hs
   obtain ⟨h1, h2⟩ := sidesK_mem.1 hs
   obtain ⟨a, b⟩ := h k h1
   cases nth
   · rcases a with a | a
     · rw [a] at h2; cases h2
     · exact a
   · rcases b with b | b
     · rw [b] at h2; cases h2
     · exact b
 · intro h k hk
   refine ⟨?_, ?_⟩
   · cases hu : sUsed W T xs k false
     · exact Or.inl rfl
     · exact Or.inr (h (k, false) (sidesK_mem.2 ⟨hk, hu⟩))
   · cases hu : sUsed W T xs k true
     · exact Or.inl rfl
     · exact Or.inr (h (k, true) (sidesK_mem.2 ⟨hk, hu⟩))
theorem sidesK_head {W T : Int} {xs : List Bool} {n : Nat} (h : 0 ≤ frstK W T xs n) : ∃ nth rest, sidesK W T xs n = ((frstK W T xs n).toNat, nth) :: rest := by
 induction n with
 | zero => rw [frstK_zero] at h; omega
 | succ n ih =>
   rw [frstK_succ] at h ⊢
   rw [sidesK_succ]
   by_cases hn : frstK W T xs n < 0
   · rw [if_pos hn] at h ⊢
     have hnil : sidesK W T xs n = [] := by
      cases hs : sidesK W T xs n with
      | nil => rfl
      | cons s rest =>
        obtain ⟨k, nth⟩ := s
        have hm : (k, nth) ∈ sidesK W T xs n := by rw [hs]; exact List.mem_cons_self
        obtain ⟨h1, h2⟩ := sidesK_mem.1 hm
        unfold frstK at hn
        cases hf : (List.range n).find? fun k => sUsed W T xs k false || sUsed W T xs k true with
        | none =>
          rw [List.find?_eq_none] at hf
          have := hf k (List.mem_range.2 h1)
          cases nth <;> simp [h2] at this
        | some j => rw [hf] at hn; simp at hn; omega
     rw [hnil]
     cases h0 : sUsed W T xs n false
     · cases h1 : sUsed W T xs n true
       · rw [h0, h1] at h; simp at h
       · exact ⟨true, [], by simp⟩
     · exact ⟨false, if sUsed W T xs n true then [(n, true)] else [], by simp⟩
   · rw [if_neg hn] at h ⊢
     obtain ⟨nth, rest, e⟩ := ih (by omega)
     exact ⟨nth, rest ++ _, by rw [e]; rfl⟩

theorem hAt_iff {W T : Int} {xs : List Bool} {k : Nat} (hW : 1 ≤ W) : hAt W T xs k = true ↔ (∃ nth, sUsed W T xs k nth = true) ∨ ∃ j nth, sUsed W T xs j nth = true ∧ sTo W j nth = k := by
 obtain ⟨a, b, c, d⟩ := kxy hW k
 constructor
 · intro h
   unfold hAt at h
   simp only [Bool.or_eq_true] at h
   rcases h with ((h | h) | h) | h
   · exact Or.inl ⟨false, by unfold sUsed sLeft sLx; simp [h]⟩
   · exact Or.inl ⟨true, by unfold sUsed sLeft sLx; simp [h]⟩
   · exact Or.inl ⟨false, by unfold sUsed sRight sRy; simp [h]⟩
   · right
     have hin := atB_in h
     obtain ⟨j, hj⟩ := Int.eq_ofNat_of_zero_le (show 0 ≤ (k : Int) - 1 by
      have : 0 ≤ ky W k * (W + 1) := Int.mul_nonneg c (by omega)
      omega)
     have ej : (j : Int) = (kx W k - 1) + ky W k * (W + 1) := by omega
     have jx : kx W j = kx W k - 1 := by
      unfold kx at ej ⊢
      rw [ej, Int.add_mul_emod_self_right, Int.emod_eq_of_lt (by unfold kx at hin; omega) (by unfold kx at b; omega)]
     have jy : ky W j = ky W k := by
      have e2 : (j : Int) = (kx W k - 1) + ky W k * (W + 1) := ej
      unfold ky at e2 ⊢
      rw [e2, Int.add_mul_ediv_right _ _ (by omega), Int.ediv_eq_zero_of_lt (by omega) (by omega)]; omega
     refine ⟨j, false, ?_, ?_⟩
     · unfold sUsed sRight sRy; rw [jx, jy]; simp [h]
     · unfold sTo; simp; omega
 · rintro (⟨nth, h⟩ | ⟨j, nth, h, e⟩)
   · unfold sUsed sLeft sRight sLx sRy at h
     unfold hAt
     simp only [Bool.or_eq_true] at h ⊢
     cases nth
     · simp at h; rcases h with h | h
       · exact Or.inl (Or.inl (Or.inl h))
       · exact Or.inl (Or.inr h)
     · simp at h; rcases h with h | h
       · exact Or.inl (Or.inl (Or.inr h))
       · exact Or.inl (Or.inl (Or.inl h))
   · obtain ⟨a', b', c', d'⟩ := kxy hW j
     have hu := sUsed_in hW h
     unfold sTo at e
     cases nth
     · simp at hu e
       have kxe : kx W k = kx W j + 1 := by
        have e3 : (k : Int) = (kx W j + 1) + ky W j * (W + 1) := by omega
        show (k : Int) % (W + 1) = _
        rw [e3, Int.add_mul_emod_self_right, Int.emod_eq_of_lt (by omega) (by omega)]
       have kye : ky W k = ky W j := by
        have e3 : (k : Int) = (kx W j + 1) + ky W j * (W + 1) := by omega
        show (k : Int) / (W + 1) = _
        rw [e3, Int.add_mul_ediv_right _ _ (by omega), Int.ediv_eq_zero_of_lt (by omega) (by omega)]; omega
       unfold sUsed sLeft sRight sLx sRy at h
       unfold hAt
       rw [kxe, kye]
       simp only [Bool.or_eq_true, Int.add_sub_cancel] at h ⊢
       simp at h
       rcases h with h | h
       · exact Or.inl (Or.inl (Or.inr h))
       · exact Or.inr h
     · simp at hu e
       have kxe : kx W k = kx W j := by
        have e3 : (k : Int) = kx W j + (ky W j + 1) * (W + 1) := by rw [Int.add_mul]; omega
        show (k : Int) % (W + 1) = _
        rw [e3, Int.add_mul_emod_self_right, Int.emod_eq_of_lt (by omega) (by omega)]
       have kye : ky W k = ky W j + 1 := by
        have e3 : (k : Int) = kx W j + (ky W j + 1) * (W + 1) := by rw [Int.add_mul]; omega
        show (k : Int) / (W + 1) = _
        rw [e3, Int.add_mul_ediv_right _ _ (by omega), Int.ediv_eq_zero_of_lt (by omega) (by omega)]; omega
       unfold sUsed sLeft sRight sLx sRy at h
       unfold hAt
       rw [kxe, kye]
       simp only [Bool.or_eq_true, Int.add_sub_cancel] at h ⊢
       simp at h
       rcases h with h | h
       · exact Or.inr h
       · exact Or.inl (Or.inr h)
end Go.Proofs.YtpcajacekmidbaaGreat

namespace Go.Proofs.YtpcajacekmidbaaGreat
open Go.RowKit
set_option linter.unusedVariables false
set_option maxRecDepth 100000
set_option linter.unusedSimpArgs false

def holesN (W T : Int) (xs : List Bool) : Int :=
 if rv W T xs then (selfN (marksL ((W + 2) * (T + 2)).toNat (outB W T xs) (adjW (W + 2) true)) ((W + 2) * (T + 2)).toNat : Nat) - 1 else -1

structure HoI (N : Nat) (s : Nat → Bool) (adj : Nat → Nat → Bool) (P : List Int) : Prop where
 len : P.length = N
 off : ∀ j, j < N → s j = false → P.getD j 0 = -1
 on : ∀ j, j < N → s j = true → ∃ i : Nat, P.getD j 0 = i ∧ Conn N s adj i j ∧ i ≤ j
def nearB (V : Int) (k j : Nat) : Bool := inB ((k : Int) % V - (j : Int) % V) (-1) 1 && inB ((k : Int) / V - (j : Int) / V) (-1) 1
theorem near_adj {V : Int} {k j : Nat} (h : nearB V k j = true) (hne : k ≠ j) : adjW V true j k = true := by
 unfold nearB inB at h
 unfold adjW
 simp only [Bool.and_eq_true, Bool.or_eq_true, Bool.not_eq_true', decide_eq_true_eq, decide_eq_false_iff_not] at h ⊢
 refine ⟨⟨by omega, fun q => hne ?_⟩, Or.inl (by first | rfl | trivial)⟩
 have a1 := Int.emod_add_mul_ediv (k : Int) V
 have a2 := Int.emod_add_mul_ediv (j : Int) V
 rw [q.1, q.2] at a1
 omega
theorem HoI.step {N : Nat} {s : Nat → Bool} {V : Int} {P : List Int} {k j : Nat} (h : HoI N s (adjW V true) P) (hk : k < N) (hj : j < N) (hn : nearB V k j = true) (h0 : 0 ≤ P.getD j 0) (hlt : P.getD j 0 < P.getD k 0) : HoI N s (adjW V true) (P.set k (P.getD j 0)) := by
 have hl := h.len
 have sj : s j = true := by
  cases e : s j
  · rw [h.off j hj e] at h0; omega
  · rfl
 have sk : s k = true := by
  cases e : s k
  · rw [h.off k hk e] at hlt; omega
  · rfl
 have hne : k ≠ j := fun e => by rw [e] at hlt; omega
 obtain ⟨ik, ek, ck, lk⟩ := h.on k hk sk
 obtain ⟨ij, ej, cj, lj⟩ := h.on j hj sj
 have hg : ∀ i, (P.set k (P.getD j 0)).getD i 0 = if i = k then P.getD j 0 else P.getD i 0 := fun i => by
  rw [getD_set1]
  by_cases e : i = k
  · rw [if_pos ⟨e, by omega⟩, if_pos e]
  · rw [if_neg (fun q => e q.1), if_neg e]
 refine ⟨by simp [hl], fun i hi hs => ?_, fun i hi hs => ?_⟩
 · rw [hg, if_neg (fun e => by rw [e, sk] at hs; cases hs)]; exact h.off i hi hs
 · rw [hg]
   by_cases e : i = k
   · rw [if_pos e]
     subst e
     refine ⟨ij, ej, .step cj (near_adj hn hne) hk sk, ?_⟩
     rw [ej, ek] at hlt; omega
   · rw [if_neg e]; exact h.on i hi hs
end Go.Proofs.YtpcajacekmidbaaGreat

namespace Go.Proofs.YtpcajacekmidbaaGreat
open Go.RowKit
set_option linter.unusedVariables false
set_option maxRecDepth 100000
set_option linter.unusedSimpArgs false

section
variable {N : Nat} {s s' : Nat → Bool} {adj : Nat → Nat → Bool}
theorem rep_iff {M : List Int} (hm : Marks N s adj M) {k : Nat} (hk : k < N) : (M.getD k 0 == (k : Int)) = true ↔ s k = true ∧ ∀ i, Conn N s adj i k → k ≤ i := by
 constructor
 · intro h
   have h' : M.getD k 0 = (k : Int) := by simpa using h
   cases hs : s k
   · have := (hm.2 k hk).1 hs; omega
   · obtain ⟨j, hj, _, hl⟩ := (hm.2 k hk).2 hs
     have : j = k := by omega
     subst this
     exact ⟨rfl, hl⟩
 · rintro ⟨hs, hl⟩
   obtain ⟨j, hj, hc, hl2⟩ := (hm.2 k hk).2 hs
   have h1 := hl j hc
   have h2 := hl2 k (.refl hk hs)
   have : j = k := by omega
   subst this
   simpa using hj
theorem Conn.more (hss : ∀ i, s i = true → s' i = true) {i k : Nat} (h : Conn N s adj i k) : Conn N s' adj i k := by
 induction h with
 | refl a b => exact .refl a (hss _ b)
 | step hij a b c ih => exact .step ih a b (hss _ c)
end
end Go.Proofs.YtpcajacekmidbaaGreat

namespace Go.Proofs.YtpcajacekmidbaaGreat
open Go.RowKit
set_option linter.unusedVariables false
set_option maxRecDepth 100000
set_option linter.unusedSimpArgs false

def sideP (x y x' y' : Int) : Prop := (x' = x ∧ (y' = y + 1 ∨ y' = y - 1)) ∨ (y' = y ∧ (x' = x + 1 ∨ x' = x - 1))
inductive CP (P : Int → Int → Bool) (x0 y0 : Int) : Int → Int → Prop
 | refl : P x0 y0 = true → CP P x0 y0 x0 y0
 | step {x y x' y' : Int} : CP P x0 y0 x y → sideP x y x' y' → P x' y' = true → CP P x0 y0 x' y'
theorem CP.map {P P' : Int → Int → Bool} {f g : Int → Int → Int} (hP : ∀ x y, P' (f x y) (g x y) = P x y) (hs : ∀ x y x' y', sideP x y x' y' → sideP (f x y) (g x y) (f x' y') (g x' y')) {x0 y0 x y : Int} (h : CP P x0 y0 x y) : CP P' (f x0 y0) (g x0 y0) (f x y) (g x y) := by
 induction h with
 | refl h0 => exact .refl (by rw [hP]; exact h0)
 | step _ h1 h2 ih => exact .step ih (hs _ _ _ _ h1) (by rw [hP]; exact h2)
def AllC (P : Int → Int → Bool) : Prop := ∀ x y x' y', P x y = true → P x' y' = true → CP P x y x' y'
theorem AllC.map {P P' : Int → Int → Bool} {f g f' g' : Int → Int → Int} (hP : ∀ x y, P' (f x y) (g x y) = P x y) (hs : ∀ x y x' y', sideP x y x' y' → sideP (f x y) (g x y) (f x' y') (g x' y')) (hf : ∀ x y, f (f' x y) (g' x y) = x) (hg : ∀ x y, g (f' x y) (g' x y) = y) (h : AllC P) : AllC P' := by
 intro x y x' y' h1 h2
 have h1' : P (f' x y) (g' x y) = true := by rw [← hP, hf, hg]; exact h1
 have h2' : P (f' x' y') (g' x' y') = true := by rw [← hP, hf, hg]; exact h2
 have := (h _ _ _ _ h1' h2').map hP hs
 rw [hf, hg, hf, hg] at this
 exact this
section
variable {V H : Int} {N : Nat} {s : Nat → Bool} {P : Int → Int → Bool}
theorem conn_cp (hV : 1 ≤ V) (hs : ∀ k, k < N → s k = P ((k : Int) % V) ((k : Int) / V)) {i k : Nat} (h : Conn N s (adjW V false) i k) : CP P ((i : Int) % V) ((i : Int) / V) ((k : Int) % V) ((k : Int) / V) := by
 induction h with
 | refl a b => exact .refl (by rw [← hs _ a]; exact b)
 | step hij a b c ih =>
   refine .step ih ?_ (by rw [← hs _ b]; exact c)
   unfold adjW at a
   simp only [Bool.and_eq_true, Bool.or_eq_true, Bool.not_eq_true', decide_eq_true_eq, decide_eq_false_iff_not, Bool.false_eq_true, false_or] at a
   unfold sideP
   obtain ⟨⟨⟨h1, h2, h3, h4⟩, hne⟩, hc⟩ := a
   rename_i j k
   generalize (k : Int) % V = x' at *
   generalize (j : Int) % V = x at *
   generalize (k : Int) / V = y' at *
   generalize (j : Int) / V = y at *
   omega
theorem cp_conn (hV : 1 ≤ V) (hVH : V * H = (N : Int)) (hin : ∀ x y, P x y = true → 0 ≤ x ∧ x < V ∧ 0 ≤ y ∧ y < H) (hs : ∀ k, k < N → s k = P ((k : Int) % V) ((k : Int) / V)) {i : Nat} (hi : i < N) {x y : Int} (h : CP P ((i : Int) % V) ((i : Int) / V) x y) : ∃ k : Nat, k < N ∧ (k : Int) % V = x ∧ (k : Int) / V = y ∧ Conn N s (adjW V false) i k := by
 induction h with
 | refl h0 => exact ⟨i, hi, rfl, rfl, .refl hi (by rw [hs i hi]; exact h0)⟩
 | step hcp h1 h2 ih =>
   rename_i x y x' y'
   obtain ⟨j, hj, e1, e2, hc⟩ := ih
   obtain ⟨b1, b2, b3, b4⟩ := hin _ _ h2
   obtain ⟨i0, i1, i2⟩ := idx_bd (W := V) (T := H) (x := x') (y := y') (by omega) (by omega) (by omega) (by omega)
   obtain ⟨k, hk⟩ := Int.eq_ofNat_of_zero_le i1
   have hkN : k < N := by rw [hk, hVH] at i2; omega
   have k1 : (k : Int) % V = x' := by rw [← hk, Int.add_comm, Int.add_mul_emod_self_right, Int.emod_eq_of_lt b1 b2]
   have k2 : (k : Int) / V = y' := by rw [← hk, Int.add_comm, Int.add_mul_ediv_right _ _ (by omega), Int.ediv_eq_zero_of_lt b1 b2]; omega
   refine ⟨k, hkN, k1, k2, .step hc ?_ hkN (by rw [hs k hkN, k1, k2]; exact h2)⟩
   unfold adjW
   rw [k1, k2, e1, e2]
   unfold sideP at h1
   simp only [Bool.and_eq_true, Bool.or_eq_true, Bool.not_eq_true', decide_eq_true_eq, decide_eq_false_iff_not, Bool.false_eq_true, false_or]
   refine ⟨⟨by omega, fun q => by omega⟩, by omega⟩
theorem one_iff {adj : Nat → Nat → Bool} (ha : ∀ j k, adj j k = adj k j) : selfN (marksL N s adj) N = 1 ↔ (∃ k, k < N ∧ s k = true) ∧ ∀ i k, i < N → k < N → s i = true → s k = true → Conn N s adj i k := by
 have hm := marksL_marks N s adj
 constructor
 · intro h
   have hpos : 0 < selfN (marksL N s adj) N := by omega
   unfold selfN at hpos h
   rw [List.countP_pos_iff] at hpos
   obtain ⟨r, hr, hrr⟩ := hpos
   have hrN := List.mem_range.1 hr
   obtain ⟨sr, _⟩ := (rep_iff hm hrN).1 hrr
   refine ⟨⟨r, hrN, sr⟩, ?_⟩
   have key : ∀ k, k < N → s k = true → Conn N s adj r k := by
    intro k hk hsk
    obtain ⟨j, hj, hc, hl⟩ := (hm.2 k hk).2 hsk
    have hjN := hc.left
    have hj2 : ((marksL N s adj).getD j 0 == (j : Int)) = true := (rep_iff hm hjN.1).2 ⟨hjN.2, fun i hi => hl i (hi.trans hc)⟩
    have := countP_one (List.mem_range.2 hrN) hrr h j (List.mem_range.2 hjN.1) hj2
    rw [this] at hc; exact hc
   intro i k hi hk hsi hsk
   exact ((key i hi hsi).symm ha).trans (key k hk hsk)
 · rintro ⟨⟨k0, hk0, hs0⟩, hall⟩
   obtain ⟨r, hr, hc, hl⟩ := (hm.2 k0 hk0).2 hs0
   have hrN := hc.left
   unfold selfN
   have hle : (List.range N).countP (fun i => (marksL N s adj).getD i 0 == (i : Int)) ≤ 1 := by
    refine countP_le_one (a := r) List.nodup_range (fun b hb hpb => ?_)
    have hbN := List.mem_range.1 hb
    obtain ⟨sb, hbl⟩ := (rep_iff hm hbN).1 hpb
    have h1 := hbl r (hall r b hrN.1 hbN hrN.2 sb)
    have h2 := hl b (hall b k0 hbN hk0 sb hs0)
    omega
   have hge : 0 < (List.range N).countP (fun i => (marksL N s adj).getD i 0 == (i : Int)) := by
    rw [List.countP_pos_iff]
    exact ⟨r, List.mem_range.2 hrN.1, (rep_iff hm hrN.1).2 ⟨hrN.2, fun i hi => hl i (hi.trans hc)⟩⟩
   omega
theorem all_iff (hV : 1 ≤ V) (hVH : V * H = (N : Int)) (hin : ∀ x y, P x y = true → 0 ≤ x ∧ x < V ∧ 0 ≤ y ∧ y < H) (hs : ∀ k, k < N → s k = P ((k : Int) % V) ((k : Int) / V)) :
 selfN (marksL N s (adjW V false)) N = 1 ↔ (∃ x y, P x y = true) ∧ AllC P := by
 have at_ : ∀ x y, P x y = true → ∃ k : Nat, k < N ∧ (k : Int) % V = x ∧ (k : Int) / V = y ∧ s k = true := by
  intro x y h
  obtain ⟨b1, b2, b3, b4⟩ := hin _ _ h
  obtain ⟨i0, i1, i2⟩ := idx_bd (W := V) (T := H) (x := x) (y := y) (by omega) (by omega) (by omega) (by omega)
  obtain ⟨k, hk⟩ := Int.eq_ofNat_of_zero_le i1
  have hkN : k < N := by rw [hk, hVH] at i2; omega
  have k1 : (k : Int) % V = x := by rw [← hk, Int.add_comm, Int.add_mul_emod_self_right, Int.emod_eq_of_lt b1 b2]
  have k2 : (k : Int) / V = y := by rw [← hk, Int.add_comm, Int.add_mul_ediv_right _ _ (by omega), Int.ediv_eq_zero_of_lt b1 b2]; omega
  exact ⟨k, hkN, k1, k2, by rw [hs k hkN, k1, k2]; exact h⟩
 rw [one_iff (adjW_symm V false)]
 constructor
 · rintro ⟨⟨k, hk, hsk⟩, hall⟩
   refine ⟨⟨_, _, by rw [← hs k hk]; exact hsk⟩, fun x y x' y' h1 h2 => ?_⟩
   obtain ⟨i, a1, a2, a3, a4⟩ := at_ x y h1
   obtain ⟨j, b1, b2, b3, b4⟩ := at_ x' y' h2
   have := conn_cp hV hs (hall i j a1 b1 a4 b4)
   rw [a2, a3, b2, b3] at this
   exact this
 · rintro ⟨⟨x, y, h⟩, hall⟩
   obtain ⟨k0, c1, c2, c3, c4⟩ := at_ x y h
   refine ⟨⟨k0, c1, c4⟩, fun i k hi hk hsi hsk => ?_⟩
   have h1 : P ((i : Int) % V) ((i : Int) / V) = true := by rw [← hs i hi]; exact hsi
   have h2 : P ((k : Int) % V) ((k : Int) / V) = true := by rw [← hs k hk]; exact hsk
   obtain ⟨j, d1, d2, d3, d4⟩ := cp_conn hV hVH hin hs hi (hall _ _ _ _ h1 h2)
   have e1 := Int.emod_add_mul_ediv (j : Int) V
   have e2 := Int.emod_add_mul_ediv (k : Int) V
   rw [d2, d3] at e1
   have : j = k := by omega
   rw [← this]; exact d4
end
def outP (W T : Int) (xs : List Bool) (x y : Int) : Bool := decide (0 ≤ x ∧ x < W + 2 ∧ 0 ≤ y ∧ y < T + 2) && !atB W T xs (x - 1) (y - 1)
theorem simple_iff {W T : Int} {xs : List Bool} : simpleB W T xs = true ↔ rv W T xs = true ∧ (∃ x y, atB W T xs x y = true) ∧ AllC (atB W T xs) ∧ AllC (outP W T xs) := by
 have main : rv W T xs = true → (simpleB W T xs = true ↔ (∃ x y, atB W T xs x y = true) ∧ AllC (atB W T xs) ∧ AllC (outP W T xs)) := by
  intro h
  obtain ⟨v1, v2, v3, v4, v5, v6⟩ := rv_true h
  have hb := rim_bd v1 v2 v3 v4
  obtain ⟨N, hN⟩ := Int.eq_ofNat_of_zero_le (by omega : 0 ≤ (W + 2) * (T + 2))
  have ef : partsF W T xs = marksL xs.length (fun i => xs.getD i false) (adjW W false) := by unfold partsF; rw [h, if_pos rfl]
  have e1 : partsN W T xs = 1 ↔ selfN (marksL xs.length (fun i => xs.getD i false) (adjW W false)) xs.length = 1 := by
   unfold partsN; rw [h, if_pos rfl, ef, marksL_len]; omega
  have inA : ∀ x y, atB W T xs x y = true → 0 ≤ x ∧ x < W ∧ 0 ≤ y ∧ y < T := by
   intro x y h; unfold atB inF at h; rw [Bool.and_eq_true, decide_eq_true_eq] at h; exact h.1
  have sA : ∀ k, k < xs.length → (fun i => xs.getD i false) k = atB W T xs ((k : Int) % W) ((k : Int) / W) := by
   intro k hk
   have a0 := Int.emod_nonneg (k : Int) (show W ≠ 0 by omega)
   have a1 := Int.emod_lt_of_pos (k : Int) (show 0 < W by omega)
   have b0 := Int.ediv_nonneg (show (0 : Int) ≤ k by omega) (show 0 ≤ W by omega)
   have b1 : (k : Int) / W < T := Int.ediv_lt_of_lt_mul (by omega) (by rw [Int.mul_comm]; omega)
   have ae := Int.emod_add_mul_ediv (k : Int) W
   have ei : ((k : Int) / W * W + (k : Int) % W).toNat = k := by rw [Int.mul_comm]; omega
   unfold atB inF
   rw [decide_eq_true ⟨a0, a1, b0, b1⟩, ei]; rfl
  have inO : ∀ x y, outP W T xs x y = true → 0 ≤ x ∧ x < W + 2 ∧ 0 ≤ y ∧ y < T + 2 := by
   intro x y h; unfold outP at h; rw [Bool.and_eq_true, decide_eq_true_eq] at h; exact h.1
  have sO : ∀ k, k < N → outB W T xs k = outP W T xs ((k : Int) % (W + 2)) ((k : Int) / (W + 2)) := by
   intro k hk
   have a0 := Int.emod_nonneg (k : Int) (show W + 2 ≠ 0 by omega)
   have a1 := Int.emod_lt_of_pos (k : Int) (show 0 < W + 2 by omega)
   have b0 := Int.ediv_nonneg (show (0 : Int) ≤ k by omega) (show 0 ≤ W + 2 by omega)
   have b1 : (k : Int) / (W + 2) < T + 2 := Int.ediv_lt_of_lt_mul (by omega) (by rw [Int.mul_comm, hN]; omega)
   unfold outB outP
   rw [decide_eq_true ⟨a0, a1, b0, b1⟩]; rfl
  have hA := all_iff (V := W) (H := T) (N := xs.length) (s := fun i => xs.getD i false) (P := atB W T xs) v1 v5.symm inA sA
  have hO := all_iff (V := W + 2) (H := T + 2) (N := N) (s := outB W T xs) (P := outP W T xs) (by omega) hN inO sO
  have hO0 : ∃ x y, outP W T xs x y = true := by
   refine ⟨0, 0, ?_⟩
   unfold outP atB inF
   rw [decide_eq_true (by omega), decide_eq_false (by omega)]; rfl
  have eo : outOne W T xs = true ↔ selfN (marksL N (outB W T xs) (adjW (W + 2) false)) N = 1 := by
   unfold outOne oneMark
   rw [hN, Int.toNat_natCast, decide_eq_true_eq]
  unfold simpleB
  rw [Bool.and_eq_true, decide_eq_true_eq, e1, eo, hA, hO]
  constructor
  · rintro ⟨⟨a, b⟩, _, d⟩; exact ⟨a, b, d⟩
  · rintro ⟨a, b, d⟩; exact ⟨⟨a, b⟩, hO0, d⟩
 constructor
 · intro h; exact ⟨simpleB_rv h, (main (simpleB_rv h)).1 h⟩
 · rintro ⟨h, h2⟩; exact (main h).2 h2
theorem simple_parts {W T : Int} {xs : List Bool} (h : simpleB W T xs = true) : partsN W T xs = 1 ∧ holesN W T xs = 0 := by
 have hr := simpleB_rv h
 obtain ⟨v1, v2, v3, v4, v5, v6⟩ := rv_true hr
 have hb := rim_bd v1 v2 v3 v4
 obtain ⟨N, hN⟩ := Int.eq_ofNat_of_zero_le (by omega : 0 ≤ (W + 2) * (T + 2))
 unfold simpleB at h
 rw [Bool.and_eq_true, decide_eq_true_eq] at h
 refine ⟨h.1, ?_⟩
 have ho := h.2
 unfold outOne oneMark at ho
 rw [hN, Int.toNat_natCast, decide_eq_true_eq, one_iff (adjW_symm _ false)] at ho
 have hup : ∀ {i k : Nat}, Conn N (outB W T xs) (adjW (W + 2) false) i k → Conn N (outB W T xs) (adjW (W + 2) true) i k := by
  intro i k hc
  induction hc with
  | refl a b => exact .refl a b
  | step hij a b c ih =>
    refine .step ih ?_ b c
    unfold adjW at *
    simp only [Bool.and_eq_true, Bool.or_eq_true, Bool.not_eq_true', decide_eq_true_eq, decide_eq_false_iff_not, Bool.false_eq_true, false_or] at a ⊢
    exact ⟨a.1, Or.inl (by first | rfl | trivial)⟩
 have ho2 : selfN (marksL N (outB W T xs) (adjW (W + 2) true)) N = 1 := (one_iff (adjW_symm _ true)).2 ⟨ho.1, fun i k a b c d => hup (ho.2 i k a b c d)⟩
 unfold holesN
 rw [hr, if_pos rfl, hN, Int.toNat_natCast, ho2]; rfl
section
variable {W T : Nat} {xs : List Bool}
end
end Go.Proofs.YtpcajacekmidbaaGreat
