/- Stretches, fixed spots, whole roots, as plain mathematics. -/
import Derived.Test.YtidaoijpbdljbaaPt
namespace Go.Proofs.Ytidaoijpbdljbaa
open Go.RowKit

/-! Fractions. -/
theorem redN_scale {k n d : Nat} (hk : 0 < k) : (k * n) / Nat.gcd (k * n) (k * d) = n / Nat.gcd n d ∧ (k * d) / Nat.gcd (k * n) (k * d) = d / Nat.gcd n d := by
  rw [Nat.gcd_mul_left]
  exact ⟨Nat.mul_div_mul_left _ _ hk, Nat.mul_div_mul_left _ _ hk⟩
/-- Once more in lowest terms, after a factor above and one below. -/
theorem redN_step {n d a b : Nat} (hd : 0 < d) :
    (n / Nat.gcd n d * a) / Nat.gcd (n / Nat.gcd n d * a) (d / Nat.gcd n d * b) = (n * a) / Nat.gcd (n * a) (d * b) ∧
    (d / Nat.gcd n d * b) / Nat.gcd (n / Nat.gcd n d * a) (d / Nat.gcd n d * b) = (d * b) / Nat.gcd (n * a) (d * b) := by
  have g : 0 < Nat.gcd n d := Nat.gcd_pos_of_pos_right _ hd
  have h := redN_scale (k := Nat.gcd n d) (n := n / Nat.gcd n d * a) (d := d / Nat.gcd n d * b) g
  rw [← Nat.mul_assoc, ← Nat.mul_assoc, Nat.mul_div_cancel' (Nat.gcd_dvd_left n d), Nat.mul_div_cancel' (Nat.gcd_dvd_right n d)] at h
  exact ⟨h.1.symm, h.2.symm⟩
theorem redN_cross {n d m e : Nat} (hd : 0 < d) (he : 0 < e) (h : n * e = m * d) : n / Nat.gcd n d = m / Nat.gcd m e ∧ d / Nat.gcd n d = e / Nat.gcd m e := by
  have h1 := redN_scale (k := e) (n := n) (d := d) he
  have h2 := redN_scale (k := d) (n := m) (d := e) hd
  rw [Nat.mul_comm e n, h, Nat.mul_comm m d, Nat.mul_comm e d] at h1
  exact ⟨h1.1.symm.trans h2.1, h1.2.symm.trans h2.2⟩
def StretchOf_0 (xs : List VGridTurn) : Int := if chOk xs then sumQ xs else 0
def StretchOf_1 (xs : List VGridTurn) : Int := if chOk xs then ((prodNum xs / Nat.gcd (prodNum xs) (prodDen xs) : Nat) : Int) else 0
def StretchOf_2 (xs : List VGridTurn) : Int := if chOk xs then ((prodDen xs / Nat.gcd (prodNum xs) (prodDen xs) : Nat) : Int) else 0
def StretchOf_3 (xs : List VGridTurn) : Bool := chOk xs
theorem same_stretch {xs ys : List VGridTurn} (hx : chOk xs = true) (hy : chOk ys = true) (h0 : goL xs ⟨0, 0, 1⟩ = goL ys ⟨0, 0, 1⟩) (h1 : goL xs ⟨1, 0, 1⟩ = goL ys ⟨1, 0, 1⟩) :
    StretchOf_0 xs = StretchOf_0 ys ∧ StretchOf_1 xs = StretchOf_1 ys ∧ StretchOf_2 xs = StretchOf_2 ys := by
  have h := same_chains (chOk_iff.1 hx).1 (chOk_iff.1 hy).1 h0 h1
  have px := prods_bd (chOk_iff.1 hx).1 xs.length (Nat.le_refl _)
  have py := prods_bd (chOk_iff.1 hy).1 ys.length (Nat.le_refl _)
  rw [List.take_length] at px py
  obtain ⟨e1, e2⟩ := redN_cross px.2.2.1 py.2.2.1 h.2.2
  unfold StretchOf_0 StretchOf_1 StretchOf_2
  rw [hx, hy, h.2.1, e1, e2]
  exact ⟨rfl, rfl, rfl⟩

/-! The spot that a turn leads to itself. -/
def fixedA (t : VGridTurn) : Int := t.Den - (rotN t.Quarters.toNat t.Num 0).1
def fixedB (t : VGridTurn) : Int := -(rotN t.Quarters.toNat t.Num 0).2
def FixedSpot_1 (t : VGridTurn) : Bool := t.ok && !(decide (t.Quarters = 0) && decide (t.Num = t.Den))
def FixedSpot_0 (t : VGridTurn) : VSpot :=
  if FixedSpot_1 t then low (t.Den * (t.East * fixedA t + t.North * fixedB t)) (t.Den * (t.North * fixedA t - t.East * fixedB t)) (fixedA t * fixedA t + fixedB t * fixedB t) else ⟨0, 0, 0⟩
theorem sq_nonneg' (a : Int) : 0 ≤ a * a := by
  rcases Int.le_total 0 a with h | h
  · exact Int.mul_nonneg h h
  · exact Int.mul_nonneg_of_nonpos_of_nonpos h h
theorem sq_pos' {a : Int} (h : a ≠ 0) : 0 < a * a := by
  rcases (by omega : 0 < a ∨ a < 0) with h | h
  · exact Int.mul_pos h h
  · exact Int.mul_pos_of_neg_of_neg h h
theorem fixed_square {t : VGridTurn} (ht : t.ok = true) : (fixedA t * fixedA t + fixedB t * fixedB t = 0 ↔ FixedSpot_1 t = false) ∧ 0 ≤ fixedA t * fixedA t + fixedB t * fixedB t := by
  have h := turn_iff.1 ht
  have a0 := sq_nonneg' (fixedA t)
  have b0 := sq_nonneg' (fixedB t)
  refine ⟨?_, by omega⟩
  have hz : fixedA t * fixedA t + fixedB t * fixedB t = 0 ↔ fixedA t = 0 ∧ fixedB t = 0 := by
    constructor
    · intro h0
      refine ⟨?_, ?_⟩ <;> refine Classical.byContradiction fun hn => ?_
      · have := sq_pos' hn; omega
      · have := sq_pos' hn; omega
    · rintro ⟨h1, h2⟩; rw [h1, h2]; rfl
  rw [hz]
  unfold FixedSpot_1
  rw [ht]
  have e : (true && !(decide (t.Quarters = 0) && decide (t.Num = t.Den))) = false ↔ t.Quarters = 0 ∧ t.Num = t.Den := by simp
  rw [e]
  unfold fixedA fixedB
  rcases turn_q ht with hq | hq | hq | hq <;> rw [hq] <;> simp [rotN] <;> omega
/-- What the model tells of an even number of quarters, … -/
theorem fixed_even {t : VGridTurn} {f : Int} (ht : FixedSpot_1 t = true) (hA : fixedA t = f) (hB : fixedB t = 0) (hf : f ≠ 0) :
    FixedSpot_0 t = if 0 < f then low (t.East * t.Den) (t.North * t.Den) f else low (-t.East * t.Den) (-t.North * t.Den) (-f) := by
  unfold FixedSpot_0
  rw [if_pos ht, hA, hB]
  have := sq_pos' hf
  split
  · refine low_ext (by omega) (by assumption) ?_ ?_ <;> grind
  · refine low_ext (by omega) (by omega) ?_ ?_ <;> grind
theorem fixed_0 {t : VGridTurn} (ht : FixedSpot_1 t = true) (hq : t.Quarters = 0) : t.Den - t.Num ≠ 0 ∧ FixedSpot_0 t = if 0 < t.Den - t.Num then low (t.East * t.Den) (t.North * t.Den) (t.Den - t.Num) else low (-t.East * t.Den) (-t.North * t.Den) (-(t.Den - t.Num)) := by
  have hf : t.Den - t.Num ≠ 0 := by
    unfold FixedSpot_1 at ht; simp [hq] at ht; omega
  refine ⟨hf, fixed_even ht ?_ ?_ hf⟩ <;> simp [fixedA, fixedB, hq, rotN]
theorem fixed_2 {t : VGridTurn} (ht : FixedSpot_1 t = true) (hok : t.ok = true) (hq : t.Quarters = 2) : FixedSpot_0 t = low (t.East * t.Den) (t.North * t.Den) (t.Den + t.Num) := by
  have h := turn_iff.1 hok
  have := fixed_even (f := t.Den + t.Num) ht (by simp [fixedA, hq, rotN]) (by simp [fixedB, hq, rotN]) (by omega)
  rw [this, if_pos (by omega)]
/-- … and of an odd one. -/
theorem fixed_1 {t : VGridTurn} (ht : FixedSpot_1 t = true) (hq : t.Quarters = 1) : FixedSpot_0 t = low (t.Den * (t.Den * t.East - t.Num * t.North)) (t.Den * (t.Den * t.North + t.Num * t.East)) (t.Den * t.Den + t.Num * t.Num) := by
  unfold FixedSpot_0
  rw [if_pos ht]
  simp [fixedA, fixedB, hq, rotN]
  congr 1 <;> grind
theorem fixed_3 {t : VGridTurn} (ht : FixedSpot_1 t = true) (hq : t.Quarters = 3) : FixedSpot_0 t = low (t.Den * (t.Den * t.East + t.Num * t.North)) (t.Den * (t.Den * t.North - t.Num * t.East)) (t.Den * t.Den + t.Num * t.Num) := by
  unfold FixedSpot_0
  rw [if_pos ht]
  simp [fixedA, fixedB, hq, rotN]
  congr 1 <;> grind

/-! The whole part of a root. -/
def wroot : Nat → Nat
  | 0 => 0
  | n + 1 => if (wroot n + 1) * (wroot n + 1) ≤ n + 1 then wroot n + 1 else wroot n
theorem wroot_is (n : Nat) : wroot n * wroot n ≤ n ∧ n < (wroot n + 1) * (wroot n + 1) := by
  induction n with
  | zero => simp [wroot]
  | succ n ih =>
    obtain ⟨h1, h2⟩ := ih
    unfold wroot
    split
    · rename_i h
      refine ⟨h, ?_⟩
      generalize wroot n = r at *
      have : (r + 1 + 1) * (r + 1 + 1) = (r + 1) * (r + 1) + 2 * r + 3 := by grind
      omega
    · rename_i h; exact ⟨by omega, by omega⟩
theorem wroot_one {n r : Nat} (h1 : r * r ≤ n) (h2 : n < (r + 1) * (r + 1)) : r = wroot n := by
  obtain ⟨w1, w2⟩ := wroot_is n
  have lt_of {a b : Nat} (h : a * a < (b + 1) * (b + 1)) : a ≤ b := by
    refine Nat.le_of_not_lt fun hn => ?_
    have := Nat.mul_le_mul (show b + 1 ≤ a by omega) (show b + 1 ≤ a by omega)
    omega
  exact Nat.le_antisymm (lt_of (by omega)) (lt_of (by omega))
def apart2 (x y u v : Int) : Nat := ((x - u) * (x - u) + (y - v) * (y - v)).toNat
theorem apart2_cast (x y u v : Int) : (apart2 x y u v : Int) = (x - u) * (x - u) + (y - v) * (y - v) := by
  unfold apart2
  have := sq_nonneg' (x - u)
  have := sq_nonneg' (y - v)
  omega
theorem apart2_bd {x y u v : Int} (h : placeB x y = true) (k : placeB u v = true) : apart2 x y u v ≤ 19999600002 := by
  have h := place_iff.1 h
  have k := place_iff.1 k
  have e1 := abs_mul (a := x - u) (b := x - u) (A := 99999) (B := 99999) (by omega) (by omega)
  have e2 := abs_mul (a := y - v) (b := y - v) (A := 99999) (B := 99999) (by omega) (by omega)
  have := apart2_cast x y u v
  omega
def PlacesApart_1 (x y u v : Int) : Bool := placeB x y && placeB u v
def PlacesApart_0 (x y u v : Int) : Int := if PlacesApart_1 x y u v then (wroot (apart2 x y u v) : Int) else 0
end Go.Proofs.Ytidaoijpbdljbaa
