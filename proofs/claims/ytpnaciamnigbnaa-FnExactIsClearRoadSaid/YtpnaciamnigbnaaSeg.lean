/- Two straight parts in the plane have a place in common: told by ranges and sides, and by crossing; both are one. Plain mathematics. -/
import Derived.Test.YtpnaciamnigbnaaSheet
namespace Go.Proofs.Ytpnaciamnigbnaa.Seg
theorem sq_nn (a : Int) : 0 ≤ a * a := by
  rcases Int.le_total 0 a with h | h
  · exact Int.mul_nonneg h h
  · have := Int.mul_nonneg (Int.neg_nonneg_of_nonpos h) (Int.neg_nonneg_of_nonpos h)
    rwa [Int.neg_mul_neg] at this
theorem sq_pos {a : Int} (h : a ≠ 0) : 0 < a * a := by
  have := sq_nn a
  have : a * a ≠ 0 := fun e => by rcases Int.mul_eq_zero.1 e with e | e <;> exact h e
  omega
theorem nn_of_mul {p x : Int} (hp : 0 < p) (h : 0 ≤ p * x) : 0 ≤ x := by
  refine Int.not_lt.1 fun hx => ?_
  have := Int.mul_neg_of_pos_of_neg hp hx
  omega
theorem form_nn {P Q R : Int} (hP : 0 ≤ P) (hQ : 0 ≤ Q) (h : R * R = P * Q) (x y : Int) : 0 ≤ P * (x * x) - 2 * (R * (x * y)) + Q * (y * y) := by
  by_cases hp : P = 0
  · subst hp
    have hr : R = 0 := by
      rcases Int.mul_eq_zero.1 (show R * R = 0 by rw [h]; simp) with e | e <;> exact e
    subst hr
    have := Int.mul_nonneg hQ (sq_nn y)
    omega
  · refine nn_of_mul (p := P) (by omega) ?_
    have e : P * (P * (x * x) - 2 * (R * (x * y)) + Q * (y * y)) = (P * x - R * y) * (P * x - R * y) := by grind
    rw [e]
    exact sq_nn _
/-- f and g lie on one line, in one direction: seen from e they lie on one side. -/
theorem one_side {ex ey fx fy gx gy : Int} (h : fx * gy = fy * gx) (hx : 0 ≤ fx * gx) (hy : 0 ≤ fy * gy) : 0 ≤ (ex * fy - ey * fx) * (ex * gy - ey * gx) := by
  have := form_nn (P := fy * gy) (Q := fx * gx) (R := fx * gy) hy hx (by grind) ex ey
  have e : (ex * fy - ey * fx) * (ex * gy - ey * gx) = fy * gy * (ex * ex) - 2 * (fx * gy * (ex * ey)) + fx * gx * (ey * ey) := by grind
  rw [e]; exact this
theorem signs {A B : Int} (hs : 0 ≤ A * B) : (0 ≤ A ∧ 0 ≤ B) ∨ (A ≤ 0 ∧ B ≤ 0) := by
  rcases Int.lt_trichotomy A 0 with h | h | h
  · right
    refine ⟨by omega, ?_⟩
    refine Int.not_lt.1 fun hb => ?_
    have := Int.mul_neg_of_neg_of_pos h hb
    omega
  · rcases Int.le_total 0 B with k | k
    · exact .inl ⟨by omega, k⟩
    · exact .inr ⟨by omega, k⟩
  · exact .inl ⟨by omega, nn_of_mul h hs⟩
/-- And the other way round, if e does not lie on their line. -/
theorem one_way {A B f g : Int} (h : A * g = B * f) (hs : 0 ≤ A * B) (hn : A + B ≠ 0) : 0 ≤ f * g := by
  have k : (A + B) * (f * g) = B * (f * f) + A * (g * g) := by grind
  have hf := sq_nn f
  have hg := sq_nn g
  rcases signs hs with ⟨ha, hb⟩ | ⟨ha, hb⟩
  · have h1 := Int.mul_nonneg hb hf
    have h2 := Int.mul_nonneg ha hg
    exact nn_of_mul (p := A + B) (by omega) (by omega)
  · have h1 := Int.mul_nonneg (show 0 ≤ -B by omega) hf
    have h2 := Int.mul_nonneg (show 0 ≤ -A by omega) hg
    refine nn_of_mul (p := -(A + B)) (by omega) ?_
    rw [Int.neg_mul, k]
    rw [Int.neg_mul] at h1 h2
    omega
/-- Between, by the product of the two steps. -/
theorem between_iff {a b x : Int} : (min a b ≤ x ∧ x ≤ max a b) ↔ 0 ≤ (x - a) * (b - x) := by
  constructor
  · intro h
    rcases Int.le_total a b with k | k
    · exact Int.mul_nonneg (by omega) (by omega)
    · have := Int.mul_nonneg (show 0 ≤ -(x - a) by omega) (show 0 ≤ -(b - x) by omega)
      rwa [Int.neg_mul_neg] at this
  · intro h
    rcases signs h with ⟨h1, h2⟩ | ⟨h1, h2⟩ <;> omega
/-- On which side of the way from (a, b) to (c, d) the place (x, y) lies. -/
def side (a b c d x y : Int) : Int := (c - a) * (y - d) - (d - b) * (x - c)
def sideP (a b c d x y : Int) : Int := (c - a) * (y - b) - (d - b) * (x - a)
theorem side_eq (a b c d x y : Int) : sideP a b c d x y = side a b c d x y := by unfold side sideP; grind
def On (a b c d x y : Int) : Prop := side a b c d x y = 0 ∧ (min a c ≤ x ∧ x ≤ max a c) ∧ (min b d ≤ y ∧ y ≤ max b d)
def Split (a b c d x y u v : Int) : Prop := (0 < side a b c d x y ∧ side a b c d u v < 0) ∨ (side a b c d x y < 0 ∧ 0 < side a b c d u v)
def Cross (a b c d x y u v : Int) : Prop := On a b c d x y ∨ On a b c d u v ∨ On x y u v a b ∨ On x y u v c d ∨ (Split a b c d x y u v ∧ Split x y u v a b c d)
def Ranges (a b c d : Int) : Prop := max (min a b) (min c d) ≤ min (max a b) (max c d)
def Meet (a b c d x y u v : Int) : Prop := Ranges a c x u ∧ Ranges b d y v ∧ ¬ 0 < side a b c d x y * side a b c d u v ∧ ¬ 0 < side x y u v a b * side x y u v c d
theorem on_other {a b c d x y : Int} (h : On a b c d x y) (u v : Int) : ¬ 0 < side x y u v a b * side x y u v c d := by
  obtain ⟨h0, h1, h2⟩ := h
  rw [between_iff] at h1 h2
  have k := one_side (ex := u - x) (ey := v - y) (fx := x - a) (fy := y - b) (gx := c - x) (gy := d - y) (by unfold side at h0; grind) h1 h2
  have e : side x y u v a b * side x y u v c d = - (((u - x) * (y - b) - (v - y) * (x - a)) * ((u - x) * (d - y) - (v - y) * (c - x))) := by
    unfold side; grind
  rw [e]; omega
theorem side_zero {a b c d x y : Int} (h : side a b c d x y = 0) (z : Int) : ¬ 0 < side a b c d x y * z := by rw [h]; simp
theorem side_zero' {a b c d x y : Int} (h : side a b c d x y = 0) (z : Int) : ¬ 0 < z * side a b c d x y := by rw [h]; simp
theorem split_no {a b c d x y u v : Int} (h : Split a b c d x y u v) : side a b c d x y * side a b c d u v < 0 := by
  rcases h with ⟨h1, h2⟩ | ⟨h1, h2⟩
  · exact Int.mul_neg_of_pos_of_neg h1 h2
  · exact Int.mul_neg_of_neg_of_pos h1 h2
theorem cross_meet1 {a b c d x y u v : Int} (h : On a b c d x y) : Meet a b c d x y u v := by
  have k := on_other h u v
  obtain ⟨h0, h1, h2⟩ := h
  exact ⟨by unfold Ranges; omega, by unfold Ranges; omega, side_zero h0 _, k⟩
theorem side_rev (a b c d x y : Int) : side c d a b x y = - side a b c d x y := by unfold side; grind
theorem meet_rev2 {a b c d x y u v : Int} (h : Meet a b c d u v x y) : Meet a b c d x y u v := by
  obtain ⟨h1, h2, h3, h4⟩ := h
  refine ⟨by unfold Ranges at *; omega, by unfold Ranges at *; omega, by rwa [Int.mul_comm] at h3, ?_⟩
  rw [side_rev, side_rev x y u v c d, Int.neg_mul_neg] at h4
  exact h4
theorem meet_swap {a b c d x y u v : Int} (h : Meet x y u v a b c d) : Meet a b c d x y u v := by
  obtain ⟨h1, h2, h3, h4⟩ := h
  exact ⟨by unfold Ranges at *; omega, by unfold Ranges at *; omega, h4, h3⟩

theorem range_of {s1 s2 t1 t2 a c x u : Int} (e : s2 * x - s1 * u + t2 * a - t1 * c = 0) (d : s2 - s1 + t2 - t1 = 0) (h1 : s1 < 0) (h2 : 0 < s2) (h3 : t2 < 0) (h4 : 0 < t1) : Ranges a c x u := by
  unfold Ranges
  refine Classical.byContradiction fun hn => ?_
  rcases (show (a < x ∧ a < u ∧ c < x ∧ c < u) ∨ (x < a ∧ u < a ∧ x < c ∧ u < c) by omega) with ⟨k1, k2, k3, k4⟩ | ⟨k1, k2, k3, k4⟩
  · obtain ⟨m, h5, h6, h7⟩ : ∃ m, a ≤ m ∧ c ≤ m ∧ (m < x ∧ m < u) := ⟨max a c, by omega, by omega, by omega⟩
    have p1 := Int.mul_pos h2 (show 0 < x - m by omega)
    have p2 := Int.mul_pos (show 0 < -s1 by omega) (show 0 < u - m by omega)
    have p3 := Int.mul_nonneg (show 0 ≤ -t2 by omega) (show 0 ≤ m - a by omega)
    have p4 := Int.mul_nonneg (show 0 ≤ t1 by omega) (show 0 ≤ m - c by omega)
    have k : s2 * (x - m) + (-s1) * (u - m) + (-t2) * (m - a) + t1 * (m - c) = 0 := by grind
    omega
  · obtain ⟨m, h5, h6, h7⟩ : ∃ m, m ≤ a ∧ m ≤ c ∧ (x < m ∧ u < m) := ⟨min a c, by omega, by omega, by omega⟩
    have p1 := Int.mul_pos h2 (show 0 < m - x by omega)
    have p2 := Int.mul_pos (show 0 < -s1 by omega) (show 0 < m - u by omega)
    have p3 := Int.mul_nonneg (show 0 ≤ -t2 by omega) (show 0 ≤ a - m by omega)
    have p4 := Int.mul_nonneg (show 0 ≤ t1 by omega) (show 0 ≤ c - m by omega)
    have k : s2 * (m - x) + (-s1) * (m - u) + (-t2) * (a - m) + t1 * (c - m) = 0 := by grind
    omega
theorem split_X {a b c d x y u v : Int} (h1 : Split a b c d x y u v) (h2 : Split x y u v a b c d) : Ranges a c x u := by
  have e : side a b c d u v * x - side a b c d x y * u + side x y u v c d * a - side x y u v a b * c = 0 := by unfold side; grind
  have D : side a b c d u v - side a b c d x y + side x y u v c d - side x y u v a b = 0 := by unfold side; grind
  unfold Split at h1 h2
  generalize side a b c d u v = s2 at *
  generalize side a b c d x y = s1 at *
  generalize side x y u v c d = t2 at *
  generalize side x y u v a b = t1 at *
  rcases h1 with ⟨k1, k2⟩ | ⟨k1, k2⟩
  · exact range_of (s1 := -s1) (s2 := -s2) (t1 := -t1) (t2 := -t2) (by rw [Int.neg_mul, Int.neg_mul, Int.neg_mul, Int.neg_mul]; omega) (by omega) (by omega) (by omega) (by omega) (by omega)
  · exact range_of e D k1 k2 (by omega) (by omega)
theorem split_Y {a b c d x y u v : Int} (h1 : Split a b c d x y u v) (h2 : Split x y u v a b c d) : Ranges b d y v := by
  have e : side a b c d u v * y - side a b c d x y * v + side x y u v c d * b - side x y u v a b * d = 0 := by unfold side; grind
  have D : side a b c d u v - side a b c d x y + side x y u v c d - side x y u v a b = 0 := by unfold side; grind
  unfold Split at h1 h2
  generalize side a b c d u v = s2 at *
  generalize side a b c d x y = s1 at *
  generalize side x y u v c d = t2 at *
  generalize side x y u v a b = t1 at *
  rcases h1 with ⟨k1, k2⟩ | ⟨k1, k2⟩
  · exact range_of (s1 := -s1) (s2 := -s2) (t1 := -t1) (t2 := -t2) (by rw [Int.neg_mul, Int.neg_mul, Int.neg_mul, Int.neg_mul]; omega) (by omega) (by omega) (by omega) (by omega) (by omega)
  · exact range_of e D k1 k2 (by omega) (by omega)
theorem cross_meet {a b c d x y u v : Int} (h : Cross a b c d x y u v) : Meet a b c d x y u v := by
  rcases h with h | h | h | h | ⟨h1, h2⟩
  · exact cross_meet1 h
  · exact meet_rev2 (cross_meet1 h)
  · exact meet_swap (cross_meet1 h)
  · exact meet_swap (meet_rev2 (cross_meet1 h))
  · have k1 := split_no h1
    have k2 := split_no h2
    exact ⟨split_X h1 h2, split_Y h1 h2, by omega, by omega⟩
/-- On a line that is not upright: between by X is between by Y. -/
theorem bet_other {dx dy fx fy gx gy : Int} (hd : dx ≠ 0) (h1 : dx * fy = dy * fx) (h2 : dx * gy = dy * gx) (h : 0 ≤ fx * gx) : 0 ≤ fy * gy := by
  have k : dx * dx * (fy * gy) = dy * dy * (fx * gx) := by grind
  have := Int.mul_nonneg (sq_nn dy) h
  exact nn_of_mul (sq_pos hd) (by omega)
theorem on_X {a b c d x y : Int} (hd : c - a ≠ 0) (h0 : side a b c d x y = 0) (h : min a c ≤ x ∧ x ≤ max a c) : On a b c d x y := by
  refine ⟨h0, h, ?_⟩
  rw [between_iff] at h ⊢
  unfold side at h0
  exact bet_other (dy := d - b) hd (by grind) (by grind) h
theorem on_Y {a b c d x y : Int} (hd : d - b ≠ 0) (h0 : side a b c d x y = 0) (h : min b d ≤ y ∧ y ≤ max b d) : On a b c d x y := by
  refine ⟨h0, ?_, h⟩
  rw [between_iff] at h ⊢
  unfold side at h0
  exact bet_other (dy := c - a) hd (by grind) (by grind) h
theorem ranges_four {a c x u : Int} (h : Ranges a c x u) : (min a c ≤ x ∧ x ≤ max a c) ∨ (min a c ≤ u ∧ u ≤ max a c) ∨ (min x u ≤ a ∧ a ≤ max x u) ∨ (min x u ≤ c ∧ c ≤ max x u) := by
  unfold Ranges at h; omega
/-- All four on one line. -/
theorem line_cross {a b c d x y u v : Int} (hd : c - a ≠ 0 ∨ d - b ≠ 0) (he : u - x ≠ 0 ∨ v - y ≠ 0) (s1 : side a b c d x y = 0) (s2 : side a b c d u v = 0) (t1 : side x y u v a b = 0) (t2 : side x y u v c d = 0)
    (hx : Ranges a c x u) (hy : Ranges b d y v) : Cross a b c d x y u v := by
  have D : (c - a) * (v - y) = (d - b) * (u - x) := by unfold side at *; grind
  by_cases h0 : c - a = 0
  · have h1 : d - b ≠ 0 := by omega
    have h2 : v - y ≠ 0 := by
      intro e
      rw [h0, Int.zero_mul] at D
      rcases Int.mul_eq_zero.1 D.symm with k | k <;> omega
    rcases ranges_four hy with h | h | h | h
    · exact .inl (on_Y h1 s1 h)
    · exact .inr (.inl (on_Y h1 s2 h))
    · exact .inr (.inr (.inl (on_Y h2 t1 h)))
    · exact .inr (.inr (.inr (.inl (on_Y h2 t2 h))))
  · have h2 : u - x ≠ 0 := by
      intro e
      rw [e, Int.mul_zero] at D
      rcases Int.mul_eq_zero.1 D with k | k <;> omega
    rcases ranges_four hx with h | h | h | h
    · exact .inl (on_X h0 s1 h)
    · exact .inr (.inl (on_X h0 s2 h))
    · exact .inr (.inr (.inl (on_X h2 t1 h)))
    · exact .inr (.inr (.inr (.inl (on_X h2 t2 h))))
theorem par {dx dy ex ey fx fy : Int} (hd : dx ≠ 0 ∨ dy ≠ 0) (h1 : dx * ey = dy * ex) (h2 : dx * fy = dy * fx) : ex * fy = ey * fx := by
  rcases hd with hd | hd
  · have k : dx * (ex * fy - ey * fx) = 0 := by grind
    rcases Int.mul_eq_zero.1 k with k | k <;> omega
  · have k : dy * (ex * fy - ey * fx) = 0 := by grind
    rcases Int.mul_eq_zero.1 k with k | k <;> omega
theorem meet_on {a b c d x y u v : Int} (hd : c - a ≠ 0 ∨ d - b ≠ 0) (he : u - x ≠ 0 ∨ v - y ≠ 0) (s1 : side a b c d x y = 0) (h : Meet a b c d x y u v) : Cross a b c d x y u v := by
  obtain ⟨hx, hy, _, h4⟩ := h
  by_cases hD : (c - a) * (v - y) = (d - b) * (u - x)
  · have P := par (ex := u - x) (ey := v - y) (fx := x - a) (fy := y - b) hd (by grind) (by unfold side at s1; grind)
    exact line_cross hd he s1 (by unfold side at *; grind) (by unfold side at *; grind) (by unfold side at *; grind) hx hy
  · have e : side x y u v a b * side x y u v c d = - (((u - x) * (y - b) - (v - y) * (x - a)) * ((u - x) * (d - y) - (v - y) * (c - x))) := by
      unfold side; grind
    rw [e] at h4
    have hs : 0 ≤ ((u - x) * (y - b) - (v - y) * (x - a)) * ((u - x) * (d - y) - (v - y) * (c - x)) := by omega
    have hn : ((u - x) * (y - b) - (v - y) * (x - a)) + ((u - x) * (d - y) - (v - y) * (c - x)) ≠ 0 := by
      intro k; apply hD; grind
    refine .inl ⟨s1, between_iff.2 (one_way (A := (u - x) * (y - b) - (v - y) * (x - a)) (B := (u - x) * (d - y) - (v - y) * (c - x)) ?_ hs hn), between_iff.2 (one_way (A := (u - x) * (y - b) - (v - y) * (x - a)) (B := (u - x) * (d - y) - (v - y) * (c - x)) ?_ hs hn)⟩
    · unfold side at s1; grind
    · unfold side at s1; grind
theorem cross_rev2 {a b c d x y u v : Int} (h : Cross a b c d u v x y) : Cross a b c d x y u v := by
  have on_rev : ∀ {p q : Int}, On u v x y p q → On x y u v p q := fun {p q} h => ⟨by have := h.1; rw [side_rev] at this; omega, by have := h.2.1; omega, by have := h.2.2; omega⟩
  rcases h with h | h | h | h | ⟨h1, h2⟩
  · exact .inr (.inl h)
  · exact .inl h
  · exact .inr (.inr (.inl (on_rev h)))
  · exact .inr (.inr (.inr (.inl (on_rev h))))
  · refine .inr (.inr (.inr (.inr ⟨?_, ?_⟩)))
    · rcases h1 with ⟨k1, k2⟩ | ⟨k1, k2⟩
      · exact .inr ⟨k2, k1⟩
      · exact .inl ⟨k2, k1⟩
    · unfold Split at *
      rw [side_rev, side_rev x y u v c d] at h2
      omega
theorem cross_swap {a b c d x y u v : Int} (h : Cross x y u v a b c d) : Cross a b c d x y u v := by
  rcases h with h | h | h | h | ⟨h1, h2⟩
  · exact .inr (.inr (.inl h))
  · exact .inr (.inr (.inr (.inl h)))
  · exact .inl h
  · exact .inr (.inl h)
  · exact .inr (.inr (.inr (.inr ⟨h2, h1⟩)))
theorem split_of {p q : Int} (hp : p ≠ 0) (hq : q ≠ 0) (h : ¬ 0 < p * q) : (0 < p ∧ q < 0) ∨ (p < 0 ∧ 0 < q) := by
  rcases Int.lt_trichotomy p 0 with k | k | k
  · rcases Int.lt_trichotomy q 0 with j | j | j
    · have := Int.mul_pos_of_neg_of_neg k j; omega
    · omega
    · exact .inr ⟨k, j⟩
  · omega
  · rcases Int.lt_trichotomy q 0 with j | j | j
    · exact .inl ⟨k, j⟩
    · omega
    · have := Int.mul_pos k j; omega
theorem meet_cross {a b c d x y u v : Int} (hd : c - a ≠ 0 ∨ d - b ≠ 0) (he : u - x ≠ 0 ∨ v - y ≠ 0) (h : Meet a b c d x y u v) : Cross a b c d x y u v := by
  by_cases s1 : side a b c d x y = 0
  · exact meet_on hd he s1 h
  by_cases s2 : side a b c d u v = 0
  · exact cross_rev2 (meet_on hd (by omega) s2 (meet_rev2 h))
  by_cases t1 : side x y u v a b = 0
  · exact cross_swap (meet_on he hd t1 (meet_swap h))
  by_cases t2 : side x y u v c d = 0
  · exact cross_swap (cross_rev2 (meet_on he (by omega) t2 (meet_rev2 (meet_swap h))))
  obtain ⟨_, _, h3, h4⟩ := h
  exact .inr (.inr (.inr (.inr ⟨split_of s1 s2 h3, split_of t1 t2 h4⟩)))
theorem meet_iff {a b c d x y u v : Int} (hd : c - a ≠ 0 ∨ d - b ≠ 0) (he : u - x ≠ 0 ∨ v - y ≠ 0) : Meet a b c d x y u v ↔ Cross a b c d x y u v := ⟨meet_cross hd he, cross_meet⟩
end Go.Proofs.Ytpnaciamnigbnaa.Seg
