/- Plain facts: numbers on the sides of a field of cells that go round each cell of a simple region to nothing are the differences of heights. -/
import Derived.Test.YtpcajacekmidbaaOutsideM
namespace Go.Proofs.Ytpcajacekmidbaa
open Go.RowKit
set_option linter.unusedVariables false
set_option maxRecDepth 100000
set_option linter.unusedSimpArgs false

/-- Numbers on the sides to the east and to the north. -/
structure Form where
  e : Nat → Nat → Int
  n : Nat → Nat → Int
/-- Once round a cell. -/
def Form.circ (F : Form) (x y : Nat) : Int := F.e x y + F.n (x + 1) y - F.e x (y + 1) - F.n x y
/-- All four sides of each cell within are as they were. -/
def Form.Agree (V H : Nat) (I : Nat → Nat → Bool) (F G : Form) : Prop :=
  ∀ x y, x < V → y < H → I x y = true → G.e x y = F.e x y ∧ G.e x (y + 1) = F.e x (y + 1) ∧ G.n x y = F.n x y ∧ G.n (x + 1) y = F.n (x + 1) y
theorem Form.Agree.refl {V H : Nat} {I : Nat → Nat → Bool} (F : Form) : Form.Agree V H I F F := fun _ _ _ _ _ => ⟨rfl, rfl, rfl, rfl⟩
theorem Form.Agree.trans {V H : Nat} {I : Nat → Nat → Bool} {F G K : Form} (h : Form.Agree V H I F G) (k : Form.Agree V H I G K) : Form.Agree V H I F K := fun x y a b c => by
  obtain ⟨h1, h2, h3, h4⟩ := h x y a b c
  obtain ⟨k1, k2, k3, k4⟩ := k x y a b c
  exact ⟨k1.trans h1, k2.trans h2, k3.trans h3, k4.trans h4⟩
/-- The number on one side, changed. -/
def Form.addE (F : Form) (a b : Nat) (d : Int) : Form := ⟨fun x y => if x = a ∧ y = b then F.e x y + d else F.e x y, F.n⟩
def Form.addN (F : Form) (a b : Nat) (d : Int) : Form := ⟨F.e, fun x y => if x = a ∧ y = b then F.n x y + d else F.n x y⟩
theorem Form.circ_addE (F : Form) (a b : Nat) (d : Int) (x y : Nat) : (F.addE a b d).circ x y = F.circ x y + (if x = a ∧ y = b then d else 0) - (if x = a ∧ y + 1 = b then d else 0) := by
  unfold Form.circ Form.addE
  simp only
  split <;> split <;> (try split) <;> omega
theorem Form.circ_addN (F : Form) (a b : Nat) (d : Int) (x y : Nat) : (F.addN a b d).circ x y = F.circ x y + (if x + 1 = a ∧ y = b then d else 0) - (if x = a ∧ y = b then d else 0) := by
  unfold Form.circ Form.addN
  simp only
  split <;> split <;> (try split) <;> omega
theorem Form.agree_addE {V H : Nat} {I : Nat → Nat → Bool} (F : Form) (a b : Nat) (d : Int) (h1 : a < V → b < H → I a b = false) (h2 : 0 < b → a < V → b - 1 < H → I a (b - 1) = false) : Form.Agree V H I F (F.addE a b d) := by
  intro x y hx hy hi
  refine ⟨?_, ?_, rfl, rfl⟩
  · show (if x = a ∧ y = b then F.e x y + d else F.e x y) = _
    rw [if_neg]
    rintro ⟨rfl, rfl⟩
    rw [h1 hx hy] at hi; cases hi
  · show (if x = a ∧ y + 1 = b then F.e x (y + 1) + d else F.e x (y + 1)) = _
    rw [if_neg]
    rintro ⟨rfl, rfl⟩
    have := h2 (by omega) hx (by simpa using hy)
    simp at this
    rw [this] at hi; cases hi
theorem Form.agree_addN {V H : Nat} {I : Nat → Nat → Bool} (F : Form) (a b : Nat) (d : Int) (h1 : a < V → b < H → I a b = false) (h2 : 0 < a → a - 1 < V → b < H → I (a - 1) b = false) : Form.Agree V H I F (F.addN a b d) := by
  intro x y hx hy hi
  refine ⟨rfl, rfl, ?_, ?_⟩
  · show (if x = a ∧ y = b then F.n x y + d else F.n x y) = _
    rw [if_neg]
    rintro ⟨rfl, rfl⟩
    rw [h1 hx hy] at hi; cases hi
  · show (if x + 1 = a ∧ y = b then F.n (x + 1) y + d else F.n (x + 1) y) = _
    rw [if_neg]
    rintro ⟨rfl, rfl⟩
    have := h2 (by omega) (by simpa using hx) hy
    simp at this
    rw [this] at hi; cases hi

/-- Two cells side by side. -/
theorem adj_nat {V j k : Nat} (hV : 0 < V) (h : adjW (V : Int) false j k = true) :
    (k % V = j % V + 1 ∧ k / V = j / V) ∨ (k % V = j % V ∧ k / V = j / V + 1) ∨ (j % V = k % V + 1 ∧ k / V = j / V) ∨ (k % V = j % V ∧ j / V = k / V + 1) := by
  obtain ⟨way, w1, w4, hx, hy⟩ := adj_way h
  rw [← Int.natCast_emod, ← Int.natCast_emod] at hx
  rw [← Int.natCast_ediv, ← Int.natCast_ediv] at hy
  have hw : way = 1 ∨ way = 2 ∨ way = 3 ∨ way = 4 := by omega
  rcases hw with rfl | rfl | rfl | rfl <;> simp [dxw, dyw] at hx hy <;> omega

/-- What goes round an outside cell can be whatever is wanted: only the cell at the corner changes besides, and no side of a cell within. -/
theorem form_push {V H N : Nat} {s : Nat → Bool} (hV : 0 < V) (hN : N = V * H) {k : Nat} (hc : Conn N s (adjW (V : Int) false) 0 k) :
    ∀ (F : Form) (v : Int), ∃ G : Form, Form.Agree V H (fun x y => !s (y * V + x)) F G ∧ (k ≠ 0 → G.circ (k % V) (k / V) = v) ∧ ∀ x y, x < V → y < H → y * V + x ≠ 0 → y * V + x ≠ k → G.circ x y = F.circ x y := by
  have idx : ∀ x y, x < V → (y * V + x) % V = x ∧ (y * V + x) / V = y := fun x y hx => by
    rw [Nat.add_comm, Nat.add_mul_mod_self_right, Nat.mod_eq_of_lt hx, Nat.add_mul_div_right _ _ hV, Nat.div_eq_of_lt hx]
    exact ⟨rfl, by omega⟩
  have back : ∀ c : Nat, c / V * V + c % V = c := fun c => by rw [Nat.mul_comm]; exact Nat.div_add_mod c V
  have ltV : ∀ c : Nat, c % V < V := fun c => Nat.mod_lt _ hV
  have ltH : ∀ c, c < N → c / V < H := fun c h => Nat.div_lt_of_lt_mul (by rw [← hN]; exact h)
  induction hc with
  | refl h0 hs => exact fun F v => ⟨F, Form.Agree.refl F, fun h => absurd rfl h, fun _ _ _ _ _ _ => rfl⟩
  | @step j k hij hadj hk hsk ih =>
    intro F v
    by_cases hk0 : k = 0
    · exact ⟨F, Form.Agree.refl F, fun h => absurd hk0 h, fun _ _ _ _ _ _ => rfl⟩
    obtain ⟨hj, hsj⟩ := hij.right
    -- the side between both cells, changed so that k has what is wanted
    have h1 : ∃ G : Form, Form.Agree V H (fun x y => !s (y * V + x)) F G ∧ G.circ (k % V) (k / V) = v ∧ ∀ x y, x < V → y < H → y * V + x ≠ j → y * V + x ≠ k → G.circ x y = F.circ x y := by
      have ne : ∀ {x y c : Nat}, x < V → y * V + x ≠ c → ¬ (x = c % V ∧ y = c / V) := fun hx h e => h (by rw [e.1, e.2, back])
      obtain ⟨bj, bk, lj, lk, tj, tk⟩ := (⟨back j, back k, ltV j, ltV k, ltH j hj, ltH k hk⟩ : _ ∧ _ ∧ _ ∧ _ ∧ _ ∧ _)
      generalize hxj : j % V = xj at *
      generalize hyj : j / V = yj at *
      generalize hxk : k % V = xk at *
      generalize hyk : k / V = yk at *
      have nk : ∀ {x y : Nat}, x < V → y * V + x ≠ k → ¬ (x = xk ∧ y = yk) := fun hx h e => h (by rw [e.1, e.2, bk])
      have nj : ∀ {x y : Nat}, x < V → y * V + x ≠ j → ¬ (x = xj ∧ y = yj) := fun hx h e => h (by rw [e.1, e.2, bj])
      have adj := adj_nat hV hadj
      rw [hxj, hyj, hxk, hyk] at adj
      rcases adj with ⟨ax, ay⟩ | ⟨ax, ay⟩ | ⟨ax, ay⟩ | ⟨ax, ay⟩
      · -- k lies in the east
        refine ⟨F.addN xk yk (F.circ xk yk - v), Form.agree_addN _ _ _ _ (fun _ _ => by rw [bk, hsk]; rfl) (fun _ _ _ => by rw [ax, ay, Nat.add_sub_cancel, bj, hsj]; rfl), ?_, ?_⟩
        · rw [Form.circ_addN, if_neg (by omega), if_pos ⟨rfl, rfl⟩]; omega
        · intro x y hx hy h2 h3
          have e1 := nk hx h3
          have e2 := nj hx h2
          rw [Form.circ_addN, if_neg (by omega), if_neg (by omega)]; omega
      · -- in the north
        refine ⟨F.addE xk yk (v - F.circ xk yk), Form.agree_addE _ _ _ _ (fun _ _ => by rw [bk, hsk]; rfl) (fun _ _ _ => by rw [ax, ay, Nat.add_sub_cancel, bj, hsj]; rfl), ?_, ?_⟩
        · rw [Form.circ_addE, if_pos ⟨rfl, rfl⟩, if_neg (by omega)]; omega
        · intro x y hx hy h2 h3
          have e1 := nk hx h3
          have e2 := nj hx h2
          rw [Form.circ_addE, if_neg (by omega), if_neg (by omega)]; omega
      · -- in the west
        refine ⟨F.addN xj yj (v - F.circ xk yk), Form.agree_addN _ _ _ _ (fun _ _ => by rw [bj, hsj]; rfl) (fun _ _ _ => by rw [ax, ← ay, Nat.add_sub_cancel, bk, hsk]; rfl), ?_, ?_⟩
        · rw [Form.circ_addN, if_pos (by omega), if_neg (by omega)]; omega
        · intro x y hx hy h2 h3
          have e1 := nk hx h3
          have e2 := nj hx h2
          rw [Form.circ_addN, if_neg (by omega), if_neg (by omega)]; omega
      · -- in the south
        refine ⟨F.addE xj yj (F.circ xk yk - v), Form.agree_addE _ _ _ _ (fun _ _ => by rw [bj, hsj]; rfl) (fun _ _ _ => by rw [← ax, ay, Nat.add_sub_cancel, bk, hsk]; rfl), ?_, ?_⟩
        · rw [Form.circ_addE, if_neg (by omega), if_pos (by omega)]; omega
        · intro x y hx hy h2 h3
          have e1 := nk hx h3
          have e2 := nj hx h2
          rw [Form.circ_addE, if_neg (by omega), if_neg (by omega)]; omega
    obtain ⟨G, ag, gk, gr⟩ := h1
    obtain ⟨G2, ag2, gj2, gr2⟩ := ih G (F.circ (j % V) (j / V))
    by_cases hjk : j = k
    · subst hjk
      obtain ⟨G3, ag3, gj3, gr3⟩ := ih F v
      exact ⟨G3, ag3, gj3, gr3⟩
    refine ⟨G2, ag.trans ag2, fun _ => ?_, fun x y hx hy h0 h1 => ?_⟩
    · rw [gr2 _ _ (ltV k) (ltH k hk) (by rw [back]; exact hk0) (by rw [back]; exact fun e => hjk e.symm)]
      exact gk
    · by_cases e : y * V + x = j
      · obtain ⟨i1, i2⟩ := idx x y hx
        rw [e] at i1 i2
        have := gj2 (by omega)
        rw [i1, i2] at this
        exact this
      · rw [gr2 x y hx hy h0 e]
        exact gr x y hx hy e h1

/-- All outside goes round to nothing, by changes of sides that no cell within has. -/
theorem form_flat {V H N : Nat} {s : Nat → Bool} (hV : 0 < V) (hH : 0 < H) (hN : N = V * H) (h0 : s 0 = true) (hc : ∀ k, k < N → s k = true → Conn N s (adjW (V : Int) false) 0 k) (F : Form) :
    ∃ G : Form, Form.Agree V H (fun x y => !s (y * V + x)) F G ∧ ∀ x y, x < V → y < H → s (y * V + x) = true → G.circ x y = 0 := by
  have idx : ∀ x y, x < V → (y * V + x) % V = x ∧ (y * V + x) / V = y := fun x y hx => by
    rw [Nat.add_comm, Nat.add_mul_mod_self_right, Nat.mod_eq_of_lt hx, Nat.add_mul_div_right _ _ hV, Nat.div_eq_of_lt hx]
    exact ⟨rfl, by omega⟩
  have part : ∀ m, m ≤ N → ∃ G : Form, Form.Agree V H (fun x y => !s (y * V + x)) F G ∧ ∀ x y, x < V → y < H → s (y * V + x) = true → 0 < y * V + x → y * V + x < m → G.circ x y = 0 := by
    intro m
    induction m with
    | zero => exact fun _ => ⟨F, Form.Agree.refl F, fun _ _ _ _ _ _ h => absurd h (Nat.not_lt_zero _)⟩
    | succ m ih =>
      intro hm
      obtain ⟨G, ag, gz⟩ := ih (by omega)
      by_cases hs : s m = true ∧ m ≠ 0
      · obtain ⟨K, ak, kz, kr⟩ := form_push hV hN (hc m (by omega) hs.1) G 0
        refine ⟨K, ag.trans ak, fun x y hx hy h1 h2 h3 => ?_⟩
        by_cases e : y * V + x = m
        · obtain ⟨i1, i2⟩ := idx x y hx
          rw [e] at i1 i2
          have := kz hs.2
          rw [i1, i2] at this
          exact this
        · rw [kr x y hx hy (by omega) e]
          exact gz x y hx hy h1 h2 (by omega)
      · refine ⟨G, ag, fun x y hx hy h1 h2 h3 => ?_⟩
        by_cases e : y * V + x = m
        · rw [e] at h1 h2
          exact absurd ⟨h1, by omega⟩ hs
        · exact gz x y hx hy h1 h2 (by omega)
  obtain ⟨G, ag, gz⟩ := part N (Nat.le_refl _)
  refine ⟨G.addN 0 0 (G.circ 0 0), ag.trans (Form.agree_addN _ _ _ _ (fun _ _ => by simp [h0]) (fun h => absurd h (Nat.lt_irrefl _))), fun x y hx hy h1 => ?_⟩
  rw [Form.circ_addN, if_neg (by omega)]
  by_cases e : x = 0 ∧ y = 0
  · obtain ⟨rfl, rfl⟩ := e
    rw [if_pos ⟨rfl, rfl⟩]; omega
  · rw [if_neg e]
    have hlt : y * V + x < N := by
      rw [hN]
      have : (y + 1) * V ≤ H * V := Nat.mul_le_mul_right V hy
      rw [Nat.add_mul, Nat.one_mul, Nat.mul_comm H V] at this
      omega
    have hpos : 0 < y * V + x := by
      rcases Nat.eq_zero_or_pos x with h | h
      · have : 0 < y := by omega
        have : 0 < y * V := Nat.mul_pos this hV
        omega
      · omega
    rw [gz x y hx hy h1 hpos hlt]; rfl

def sumI (f : Nat → Int) : Nat → Int
  | 0 => 0
  | n + 1 => sumI f n + f n
/-- Where all cells go round to nothing there are heights. -/
def Form.height (F : Form) (x y : Nat) : Int := sumI (fun i => F.e i 0) x + sumI (fun j => F.n x j) y
theorem Form.height_north (F : Form) (x y : Nat) : F.height x (y + 1) - F.height x y = F.n x y := by
  unfold Form.height
  rw [sumI]; omega
theorem Form.height_east {V H : Nat} {F : Form} (h : ∀ x y, x < V → y < H → F.circ x y = 0) : ∀ y, y ≤ H → ∀ x, x < V → F.height (x + 1) y - F.height x y = F.e x y := by
  intro y
  induction y with
  | zero =>
    intro _ x hx
    unfold Form.height
    rw [sumI, sumI, sumI]; omega
  | succ y ih =>
    intro hy x hx
    have h1 := ih (by omega) x hx
    have h2 := F.height_north x y
    have h3 := F.height_north (x + 1) y
    have h4 := h x y hx (by omega)
    unfold Form.circ at h4
    omega

/-- Numbers that go round each cell within to nothing are the differences of heights along the sides of these cells, if all outside hangs together. -/
theorem form_heights {V H N : Nat} {s : Nat → Bool} (hV : 0 < V) (hH : 0 < H) (hN : N = V * H) (h0 : s 0 = true) (hc : ∀ k, k < N → s k = true → Conn N s (adjW (V : Int) false) 0 k) (F : Form) (hF : ∀ x y, x < V → y < H → s (y * V + x) = false → F.circ x y = 0) :
    ∃ h : Nat → Nat → Int, ∀ x y, x < V → y < H → s (y * V + x) = false → h (x + 1) y - h x y = F.e x y ∧ h (x + 1) (y + 1) - h x (y + 1) = F.e x (y + 1) ∧ h x (y + 1) - h x y = F.n x y ∧ h (x + 1) (y + 1) - h (x + 1) y = F.n (x + 1) y := by
  obtain ⟨G, ag, gz⟩ := form_flat hV hH hN h0 hc F
  have all : ∀ x y, x < V → y < H → G.circ x y = 0 := fun x y hx hy => by
    cases hs : s (y * V + x)
    · obtain ⟨a1, a2, a3, a4⟩ := ag x y hx hy (by simp [hs])
      have := hF x y hx hy hs
      unfold Form.circ at this ⊢
      rw [a1, a2, a3, a4]; exact this
    · exact gz x y hx hy hs
  refine ⟨G.height, fun x y hx hy hs => ?_⟩
  obtain ⟨a1, a2, a3, a4⟩ := ag x y hx hy (by simp [hs])
  rw [← a1, ← a2, ← a3, ← a4]
  exact ⟨Form.height_east all y (by omega) x hx, Form.height_east all (y + 1) hy x hx, G.height_north x y, G.height_north (x + 1) y⟩
end Go.Proofs.Ytpcajacekmidbaa
