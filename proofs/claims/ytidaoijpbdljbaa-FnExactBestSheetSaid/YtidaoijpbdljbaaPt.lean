/- Spots and turns of grids, as plain mathematics: lowest terms, one turn, one turn back, chains. -/
import Derived.Test.YtidaoijpbdljbaaGridTurnT
import Derived.Test.YtidaoijpbdljbaaSpotT
import Derived.Test.YtidaoijpbdljbaaSheet
namespace Go.Proofs.Ytidaoijpbdljbaa
open Go.RowKit

def gcd3 (x y d : Int) : Nat := Int.gcd x (Int.gcd y d)
def low (x y d : Int) : VSpot := ⟨x.tdiv (gcd3 x y d), y.tdiv (gcd3 x y d), d.tdiv (gcd3 x y d)⟩
theorem gcd3_pos {x y d : Int} (hd : 0 < d) : 0 < gcd3 x y d := by
  have h : 0 < Int.gcd y d := Int.gcd_pos_of_ne_zero_right _ (by omega)
  exact Int.gcd_pos_of_ne_zero_right _ (by omega)
theorem gcd3_dvd (x y d : Int) : (gcd3 x y d : Int) ∣ x ∧ (gcd3 x y d : Int) ∣ y ∧ (gcd3 x y d : Int) ∣ d :=
  ⟨Int.gcd_dvd_left .., Int.dvd_trans (Int.gcd_dvd_right ..) (Int.gcd_dvd_left ..), Int.dvd_trans (Int.gcd_dvd_right ..) (Int.gcd_dvd_right ..)⟩
theorem low_mul (x y d : Int) : (low x y d).X * (gcd3 x y d : Int) = x ∧ (low x y d).Y * (gcd3 x y d : Int) = y ∧ (low x y d).Den * (gcd3 x y d : Int) = d := by
  obtain ⟨h1, h2, h3⟩ := gcd3_dvd x y d
  exact ⟨Int.tdiv_mul_cancel h1, Int.tdiv_mul_cancel h2, Int.tdiv_mul_cancel h3⟩
theorem low_den {x y d : Int} (hd : 0 < d) : 0 < (low x y d).Den := by
  have h := (low_mul x y d).2.2
  have g := gcd3_pos (x := x) (y := y) hd
  refine Classical.byContradiction fun hn => ?_
  have h2 : (low x y d).Den * (gcd3 x y d : Int) ≤ 0 := Int.mul_nonpos_of_nonpos_of_nonneg (by omega) (by omega)
  omega
theorem gcd3_scale (k x y d : Int) (hk : 0 < k) : (gcd3 (k * x) (k * y) (k * d) : Int) = k * (gcd3 x y d : Int) := by
  unfold gcd3
  have e : ((Int.gcd (k * y) (k * d) : Nat) : Int) = k * ((Int.gcd y d : Nat) : Int) := by
    rw [Int.gcd_mul_left, Int.natCast_mul, Int.natAbs_of_nonneg (by omega)]
  rw [e, Int.gcd_mul_left, Int.natCast_mul, Int.natAbs_of_nonneg (by omega)]
theorem low_scale (k x y d : Int) (hk : 0 < k) : low (k * x) (k * y) (k * d) = low x y d := by
  unfold low
  rw [gcd3_scale k x y d hk, Int.mul_tdiv_mul_of_pos _ _ hk, Int.mul_tdiv_mul_of_pos _ _ hk, Int.mul_tdiv_mul_of_pos _ _ hk]
theorem low_ext {x y d x' y' d' : Int} (hd : 0 < d) (hd' : 0 < d') (hx : x * d' = x' * d) (hy : y * d' = y' * d) : low x y d = low x' y' d' := by
  rw [← low_scale d' x y d hd', ← low_scale d x' y' d' hd]
  have e1 : d' * x = d * x' := by rw [Int.mul_comm d' x, hx, Int.mul_comm]
  have e2 : d' * y = d * y' := by rw [Int.mul_comm d' y, hy, Int.mul_comm]
  rw [e1, e2, Int.mul_comm d' d]
theorem low_cross {x y d x' y' d' : Int} (h : low x y d = low x' y' d') : x * d' = x' * d ∧ y * d' = y' * d := by
  obtain ⟨a1, a2, a3⟩ := low_mul x y d
  obtain ⟨b1, b2, b3⟩ := low_mul x' y' d'
  rw [h] at a1 a2 a3
  generalize (gcd3 x y d : Int) = g at *
  generalize (gcd3 x' y' d' : Int) = g' at *
  generalize low x' y' d' = s at *
  subst a1 a2 a3 b1 b2 b3
  constructor <;> grind
/-- In lowest terms, with a positive denominator. -/
def VSpot.red (s : VSpot) : Prop := 0 < s.Den ∧ gcd3 s.X s.Y s.Den = 1
theorem low_red {x y d : Int} (hd : 0 < d) : (low x y d).red := by
  refine ⟨low_den hd, ?_⟩
  have g := gcd3_pos (x := x) (y := y) hd
  obtain ⟨a1, a2, a3⟩ := low_mul x y d
  have h := gcd3_scale (gcd3 x y d : Int) (low x y d).X (low x y d).Y (low x y d).Den (by omega)
  rw [Int.mul_comm _ (low x y d).X, Int.mul_comm _ (low x y d).Y, Int.mul_comm _ (low x y d).Den, a1, a2, a3] at h
  generalize gcd3 (low x y d).X (low x y d).Y (low x y d).Den = m at h ⊢
  have h' : gcd3 x y d = gcd3 x y d * m := by exact_mod_cast h
  exact Nat.eq_of_mul_eq_mul_left g (h'.symm.trans (Nat.mul_one _).symm)
theorem low_self {s : VSpot} (h : s.red) : low s.X s.Y s.Den = s := by
  unfold low
  rw [h.2]
  simp [Int.tdiv_one]
theorem low_whole (x y : Int) : VSpot.red ⟨x, y, 1⟩ := by
  refine ⟨by show (0 : Int) < 1; decide, ?_⟩
  show Int.gcd x (Int.gcd y 1) = 1
  simp
theorem low_abs {x y d : Int} (hd : 0 < d) : (low x y d).X.natAbs ≤ x.natAbs ∧ (low x y d).Y.natAbs ≤ y.natAbs ∧ (low x y d).Den ≤ d := by
  have g := gcd3_pos (x := x) (y := y) hd
  obtain ⟨a1, a2, a3⟩ := low_mul x y d
  have p := low_den (x := x) (y := y) hd
  have k (z : Int) : z.natAbs ≤ (z * (gcd3 x y d : Int)).natAbs := by
    rw [Int.natAbs_mul]
    exact Nat.le_mul_of_pos_right _ (by omega)
  refine ⟨?_, ?_, ?_⟩
  · have := k (low x y d).X; rw [a1] at this; exact this
  · have := k (low x y d).Y; rw [a2] at this; exact this
  · have := k (low x y d).Den; rw [a3] at this; omega

/-- Turned by some quarters to the left. -/
def rotN : Nat → Int → Int → Int × Int
  | 0, x, y => (x, y)
  | n + 1, x, y => (-(rotN n x y).2, (rotN n x y).1)
theorem rotN_abs (n : Nat) (x y : Int) (B : Nat) (hx : x.natAbs ≤ B) (hy : y.natAbs ≤ B) : (rotN n x y).1.natAbs ≤ B ∧ (rotN n x y).2.natAbs ≤ B := by
  induction n with
  | zero => exact ⟨hx, hy⟩
  | succ n ih => simp only [rotN]; omega
theorem rotN_mul (n : Nat) (x y k : Int) : rotN n (x * k) (y * k) = ((rotN n x y).1 * k, (rotN n x y).2 * k) := by
  induction n with
  | zero => rfl
  | succ n ih => simp only [rotN, ih]; rw [Int.neg_mul]
theorem rotN_four (x y : Int) : rotN 4 x y = (x, y) := by simp [rotN]

def VGridTurn.ok (t : VGridTurn) : Bool := inB t.Quarters 0 3 && (inB t.Num 1 20 && inB t.Den 1 20) && (inB t.East (-99999) 99999 && inB t.North (-99999) 99999)
theorem turn_iff {t : VGridTurn} : t.ok = true ↔ (0 ≤ t.Quarters ∧ t.Quarters ≤ 3) ∧ (1 ≤ t.Num ∧ t.Num ≤ 20) ∧ (1 ≤ t.Den ∧ t.Den ≤ 20) ∧ (-99999 ≤ t.East ∧ t.East ≤ 99999) ∧ (-99999 ≤ t.North ∧ t.North ≤ 99999) := by
  unfold VGridTurn.ok inB
  simp
  omega
theorem turn_q {t : VGridTurn} (h : t.ok = true) : t.Quarters.toNat = 0 ∨ t.Quarters.toNat = 1 ∨ t.Quarters.toNat = 2 ∨ t.Quarters.toNat = 3 := by
  have := turn_iff.1 h; omega
theorem turn_q4 {t : VGridTurn} (h : t.ok = true) : (4 - t.Quarters).toNat = 4 - t.Quarters.toNat := by
  have := turn_iff.1 h; omega
/-- A valid turn makes a spot … -/
def spotOn (t : VGridTurn) (s : VSpot) : VSpot :=
  low ((rotN t.Quarters.toNat s.X s.Y).1 * t.Num + t.East * (s.Den * t.Den)) ((rotN t.Quarters.toNat s.X s.Y).2 * t.Num + t.North * (s.Den * t.Den)) (s.Den * t.Den)
/-- … and where it was made from. -/
def spotBack (t : VGridTurn) (s : VSpot) : VSpot :=
  low ((rotN (4 - t.Quarters).toNat (s.X - t.East * s.Den) (s.Y - t.North * s.Den)).1 * t.Den) ((rotN (4 - t.Quarters).toNat (s.X - t.East * s.Den) (s.Y - t.North * s.Den)).2 * t.Den) (s.Den * t.Num)
theorem spotOn_red {t : VGridTurn} {s : VSpot} (ht : t.ok = true) (hs : 0 < s.Den) : (spotOn t s).red := by
  have := turn_iff.1 ht
  exact low_red (Int.mul_pos hs (by omega))
theorem spotBack_red {t : VGridTurn} {s : VSpot} (ht : t.ok = true) (hs : 0 < s.Den) : (spotBack t s).red := by
  have := turn_iff.1 ht
  exact low_red (Int.mul_pos hs (by omega))
theorem spotOn_low {t : VGridTurn} {x y d : Int} (ht : t.ok = true) (hd : 0 < d) : spotOn t (low x y d) =
    low ((rotN t.Quarters.toNat x y).1 * t.Num + t.East * (d * t.Den)) ((rotN t.Quarters.toNat x y).2 * t.Num + t.North * (d * t.Den)) (d * t.Den) := by
  have h := turn_iff.1 ht
  obtain ⟨p1, p2, p3⟩ := low_mul x y d
  have hl := low_den (x := x) (y := y) hd
  unfold spotOn
  generalize (gcd3 x y d : Int) = g at p1 p2 p3
  generalize low x y d = u at *
  subst p1 p2
  rw [rotN_mul]
  refine low_ext (Int.mul_pos hl (by omega)) (Int.mul_pos hd (by omega)) ?_ ?_ <;> subst p3 <;> grind
theorem spotBack_low {t : VGridTurn} {x y d : Int} (ht : t.ok = true) (hd : 0 < d) : spotBack t (low x y d) =
    low ((rotN (4 - t.Quarters).toNat (x - t.East * d) (y - t.North * d)).1 * t.Den) ((rotN (4 - t.Quarters).toNat (x - t.East * d) (y - t.North * d)).2 * t.Den) (d * t.Num) := by
  have h := turn_iff.1 ht
  obtain ⟨p1, p2, p3⟩ := low_mul x y d
  have hl := low_den (x := x) (y := y) hd
  unfold spotBack
  generalize (gcd3 x y d : Int) = g at p1 p2 p3
  generalize low x y d = u at *
  have e1 : x - t.East * d = (u.X - t.East * u.Den) * g := by subst p1 p3; grind
  have e2 : y - t.North * d = (u.Y - t.North * u.Den) * g := by subst p2 p3; grind
  rw [e1, e2, rotN_mul]
  refine low_ext (Int.mul_pos hl (by omega)) (Int.mul_pos hd (by omega)) ?_ ?_ <;> subst p3 <;> grind
theorem rot_back {t : VGridTurn} (ht : t.ok = true) (x y : Int) : rotN (4 - t.Quarters).toNat (rotN t.Quarters.toNat x y).1 (rotN t.Quarters.toNat x y).2 = (x, y) := by
  rw [turn_q4 ht]
  rcases turn_q ht with h | h | h | h <;> rw [h] <;> simp [rotN]
theorem rot_on {t : VGridTurn} (ht : t.ok = true) (x y : Int) : rotN t.Quarters.toNat (rotN (4 - t.Quarters).toNat x y).1 (rotN (4 - t.Quarters).toNat x y).2 = (x, y) := by
  rw [turn_q4 ht]
  rcases turn_q ht with h | h | h | h <;> rw [h] <;> simp [rotN]
/-- Back from what a turn made, … -/
theorem back_on {t : VGridTurn} {s : VSpot} (ht : t.ok = true) (hs : s.red) : spotBack t (spotOn t s) = s := by
  have h := turn_iff.1 ht
  have hD : 0 < s.Den * t.Den := Int.mul_pos hs.1 (by omega)
  have hp := hs.1
  have e := spotBack_low (t := t) (x := (rotN t.Quarters.toNat s.X s.Y).1 * t.Num + t.East * (s.Den * t.Den)) (y := (rotN t.Quarters.toNat s.X s.Y).2 * t.Num + t.North * (s.Den * t.Den)) ht hD
  rw [Int.add_sub_cancel, Int.add_sub_cancel, rotN_mul, rot_back ht] at e
  refine e.trans ?_
  refine Eq.trans ?_ (low_self hs)
  refine low_ext (Int.mul_pos hD (by omega)) hp ?_ ?_ <;> grind
/-- … and what a turn makes of where it came from. -/
theorem on_back {t : VGridTurn} {s : VSpot} (ht : t.ok = true) (hs : s.red) : spotOn t (spotBack t s) = s := by
  have h := turn_iff.1 ht
  have hD : 0 < s.Den * t.Num := Int.mul_pos hs.1 (by omega)
  have hp := hs.1
  have e := spotOn_low (t := t) (x := (rotN (4 - t.Quarters).toNat (s.X - t.East * s.Den) (s.Y - t.North * s.Den)).1 * t.Den) (y := (rotN (4 - t.Quarters).toNat (s.X - t.East * s.Den) (s.Y - t.North * s.Den)).2 * t.Den) ht hD
  rw [rotN_mul, rot_on ht] at e
  refine e.trans ?_
  refine Eq.trans ?_ (low_self hs)
  refine low_ext (Int.mul_pos hD (by omega)) hp ?_ ?_ <;> grind

/-! Chains. -/
def chOk (xs : List VGridTurn) : Bool := xs.all VGridTurn.ok && decide (xs.length ≤ 4)
theorem chOk_iff {xs : List VGridTurn} : chOk xs = true ↔ (∀ t ∈ xs, t.ok = true) ∧ xs.length ≤ 4 := by unfold chOk; simp
def goL (xs : List VGridTurn) (s : VSpot) : VSpot := xs.foldl (fun s t => spotOn t s) s
def backL (xs : List VGridTurn) (s : VSpot) : VSpot := xs.foldr spotBack s
theorem goL_snoc (xs : List VGridTurn) (t : VGridTurn) (s : VSpot) : goL (xs ++ [t]) s = spotOn t (goL xs s) := by simp [goL]
theorem goL_red {xs : List VGridTurn} {s : VSpot} (h : ∀ t ∈ xs, t.ok = true) (hs : s.red) : (goL xs s).red := by
  induction xs generalizing s with
  | nil => exact hs
  | cons t l ih => exact ih (fun u hu => h u (List.mem_cons_of_mem _ hu)) (spotOn_red (h t (List.mem_cons_self ..)) hs.1)
theorem backL_red {xs : List VGridTurn} {s : VSpot} (h : ∀ t ∈ xs, t.ok = true) (hs : s.red) : (backL xs s).red := by
  induction xs with
  | nil => exact hs
  | cons t l ih => exact spotBack_red (h t (List.mem_cons_self ..)) (ih (fun u hu => h u (List.mem_cons_of_mem _ hu))).1
theorem backL_goL {xs : List VGridTurn} {s : VSpot} (h : ∀ t ∈ xs, t.ok = true) (hs : s.red) : backL xs (goL xs s) = s := by
  induction xs generalizing s with
  | nil => rfl
  | cons t l ih =>
    have ht := h t (List.mem_cons_self ..)
    show spotBack t (backL l (goL l (spotOn t s))) = s
    rw [ih (fun u hu => h u (List.mem_cons_of_mem _ hu)) (spotOn_red ht hs.1), back_on ht hs]
theorem goL_backL {xs : List VGridTurn} {s : VSpot} (h : ∀ t ∈ xs, t.ok = true) (hs : s.red) : goL xs (backL xs s) = s := by
  induction xs with
  | nil => rfl
  | cons t l ih =>
    have ht := h t (List.mem_cons_self ..)
    have hl : ∀ u ∈ l, u.ok = true := fun u hu => h u (List.mem_cons_of_mem _ hu)
    show goL l (spotOn t (spotBack t (backL l s))) = s
    rw [on_back ht (backL_red hl hs), ih hl]

/-! Bounds: all numbers of a chain are small. -/
def spotBd (i : Nat) (s : VSpot) : Prop := s.X.natAbs ≤ 99999 * 20 ^ i * (i + 1) ∧ s.Y.natAbs ≤ 99999 * 20 ^ i * (i + 1) ∧ 1 ≤ s.Den ∧ s.Den ≤ (20 ^ i : Nat)
theorem abs_mul {a b : Int} {A B : Nat} (ha : a.natAbs ≤ A) (hb : b.natAbs ≤ B) : (a * b).natAbs ≤ A * B := by
  rw [Int.natAbs_mul]; exact Nat.mul_le_mul ha hb
theorem spotOn_bd {t : VGridTurn} {s : VSpot} {i : Nat} (ht : t.ok = true) (hs : spotBd i s) : spotBd (i + 1) (spotOn t s) := by
  obtain ⟨_, hn, hd, he, hh⟩ := turn_iff.1 ht
  obtain ⟨b1, b2, b3, b4⟩ := hs
  have hD : 0 < s.Den * t.Den := Int.mul_pos (by omega) (by omega)
  obtain ⟨r1, r2⟩ := rotN_abs t.Quarters.toNat s.X s.Y _ b1 b2
  obtain ⟨l1, l2, l3⟩ := low_abs (x := (rotN t.Quarters.toNat s.X s.Y).1 * t.Num + t.East * (s.Den * t.Den)) (y := (rotN t.Quarters.toNat s.X s.Y).2 * t.Num + t.North * (s.Den * t.Den)) hD
  have l0 := low_den (x := (rotN t.Quarters.toNat s.X s.Y).1 * t.Num + t.East * (s.Den * t.Den)) (y := (rotN t.Quarters.toNat s.X s.Y).2 * t.Num + t.North * (s.Den * t.Den)) hD
  have m1 := abs_mul (b := t.Num) (B := 20) r1 (by omega)
  have m2 := abs_mul (b := t.Num) (B := 20) r2 (by omega)
  have m3 := abs_mul (a := s.Den) (b := t.Den) (A := 20 ^ i) (B := 20) (by omega) (by omega)
  have m4 := abs_mul (a := t.East) (A := 99999) (by omega) m3
  have m5 := abs_mul (a := t.North) (A := 99999) (by omega) m3
  have e1 : 99999 * 20 ^ (i + 1) * (i + 1 + 1) = 99999 * 20 ^ i * (i + 1) * 20 + 99999 * (20 ^ i * 20) := by grind
  have e2 : 20 ^ (i + 1) = 20 ^ i * 20 := by grind
  refine ⟨?_, ?_, l0, ?_⟩
  · rw [e1]; exact Nat.le_trans l1 (Nat.le_trans (Int.natAbs_add_le _ _) (Nat.add_le_add m1 m4))
  · rw [e1]; exact Nat.le_trans l2 (Nat.le_trans (Int.natAbs_add_le _ _) (Nat.add_le_add m2 m5))
  · rw [e2]; have := l3; unfold spotOn; omega
theorem spotBack_bd {t : VGridTurn} {s : VSpot} {i : Nat} (ht : t.ok = true) (hs : spotBd i s) : spotBd (i + 1) (spotBack t s) := by
  obtain ⟨_, hn, hd, he, hh⟩ := turn_iff.1 ht
  obtain ⟨b1, b2, b3, b4⟩ := hs
  have hD : 0 < s.Den * t.Num := Int.mul_pos (by omega) (by omega)
  have m4 := abs_mul (a := t.East) (A := 99999) (b := s.Den) (B := 20 ^ i) (by omega) (by omega)
  have m5 := abs_mul (a := t.North) (A := 99999) (b := s.Den) (B := 20 ^ i) (by omega) (by omega)
  obtain ⟨r1, r2⟩ := rotN_abs (4 - t.Quarters).toNat (s.X - t.East * s.Den) (s.Y - t.North * s.Den) (99999 * 20 ^ i * (i + 1) + 99999 * 20 ^ i)
    (by have := Int.natAbs_sub_le s.X (t.East * s.Den); omega) (by have := Int.natAbs_sub_le s.Y (t.North * s.Den); omega)
  obtain ⟨l1, l2, l3⟩ := low_abs (x := (rotN (4 - t.Quarters).toNat (s.X - t.East * s.Den) (s.Y - t.North * s.Den)).1 * t.Den) (y := (rotN (4 - t.Quarters).toNat (s.X - t.East * s.Den) (s.Y - t.North * s.Den)).2 * t.Den) hD
  have l0 := low_den (x := (rotN (4 - t.Quarters).toNat (s.X - t.East * s.Den) (s.Y - t.North * s.Den)).1 * t.Den) (y := (rotN (4 - t.Quarters).toNat (s.X - t.East * s.Den) (s.Y - t.North * s.Den)).2 * t.Den) hD
  have m1 := abs_mul (b := t.Den) (B := 20) r1 (by omega)
  have m2 := abs_mul (b := t.Den) (B := 20) r2 (by omega)
  have m3 := abs_mul (a := s.Den) (b := t.Num) (A := 20 ^ i) (B := 20) (by omega) (by omega)
  have e1 : 99999 * 20 ^ (i + 1) * (i + 1 + 1) = (99999 * 20 ^ i * (i + 1) + 99999 * 20 ^ i) * 20 := by grind
  have e2 : 20 ^ (i + 1) = 20 ^ i * 20 := by grind
  refine ⟨?_, ?_, l0, ?_⟩
  · rw [e1]; exact Nat.le_trans l1 m1
  · rw [e1]; exact Nat.le_trans l2 m2
  · rw [e2]; have := l3; unfold spotBack; omega
/-- What the program's contracts ask of a spot. -/
def VSpot.mid (s : VSpot) : Prop := s.X.natAbs ≤ 100000000000 ∧ s.Y.natAbs ≤ 100000000000 ∧ 1 ≤ s.Den ∧ s.Den ≤ 160000
theorem spotBd_mid {i : Nat} {s : VSpot} (hi : i ≤ 4) (h : spotBd i s) : s.mid := by
  obtain ⟨b1, b2, b3, b4⟩ := h
  unfold VSpot.mid
  rcases (by omega : i = 0 ∨ i = 1 ∨ i = 2 ∨ i = 3 ∨ i = 4) with rfl | rfl | rfl | rfl | rfl <;> omega
def placeB (x y : Int) : Bool := inB x 0 99999 && inB y 0 99999
theorem place_iff {x y : Int} : placeB x y = true ↔ (0 ≤ x ∧ x ≤ 99999) ∧ (0 ≤ y ∧ y ≤ 99999) := by unfold placeB inB; simp
theorem place_bd {x y : Int} (h : placeB x y = true) : spotBd 0 ⟨x, y, 1⟩ := by
  have := place_iff.1 h
  unfold spotBd
  refine ⟨?_, ?_, by simp, by simp⟩ <;> simp <;> omega
theorem goL_bd {xs : List VGridTurn} {s : VSpot} (h : ∀ t ∈ xs, t.ok = true) (hs : spotBd 0 s) (i : Nat) (hi : i ≤ xs.length) : spotBd i (goL (xs.take i) s) := by
  induction i with
  | zero => exact hs
  | succ i ih =>
    have hx : xs[i]? = some (xs[i]'(by omega)) := List.getElem?_eq_getElem _
    rw [List.take_add_one, hx]
    show spotBd (i + 1) (goL (xs.take i ++ [xs[i]'(by omega)]) s)
    rw [goL_snoc]
    exact spotOn_bd (h _ (List.getElem_mem _)) (ih (by omega))
theorem backL_bd {xs : List VGridTurn} {s : VSpot} (h : ∀ t ∈ xs, t.ok = true) (hs : spotBd 0 s) : spotBd xs.length (backL xs s) := by
  induction xs with
  | nil => exact hs
  | cons t l ih => exact spotBack_bd (h t (List.mem_cons_self ..)) (ih fun u hu => h u (List.mem_cons_of_mem _ hu))

/-! A chain as a whole. -/
structure Aff where
  p : Int
  q : Int
  c : Int
  e : Int
  d : Int
def Aff.img (A : Aff) (x y : Int) : VSpot := low (A.p * x - A.q * y + A.c) (A.q * x + A.p * y + A.e) A.d
def Aff.on (t : VGridTurn) (A : Aff) : Aff :=
  ⟨(rotN t.Quarters.toNat A.p A.q).1 * t.Num, (rotN t.Quarters.toNat A.p A.q).2 * t.Num, (rotN t.Quarters.toNat A.c A.e).1 * t.Num + t.East * (A.d * t.Den), (rotN t.Quarters.toNat A.c A.e).2 * t.Num + t.North * (A.d * t.Den), A.d * t.Den⟩
theorem rotN_aff (n : Nat) (p q c e x y : Int) : rotN n (p * x - q * y + c) (q * x + p * y + e) =
    ((rotN n p q).1 * x - (rotN n p q).2 * y + (rotN n c e).1, (rotN n p q).2 * x + (rotN n p q).1 * y + (rotN n c e).2) := by
  induction n with
  | zero => rfl
  | succ n ih => simp only [rotN, ih, Prod.mk.injEq]; constructor <;> grind
theorem Aff.img_on {t : VGridTurn} {A : Aff} (ht : t.ok = true) (hd : 0 < A.d) (x y : Int) : (Aff.on t A).img x y = spotOn t (A.img x y) := by
  unfold Aff.img
  rw [spotOn_low ht hd, rotN_aff]
  unfold Aff.on
  simp only
  congr 1 <;> grind
def affL (xs : List VGridTurn) (A : Aff) : Aff := xs.foldl (fun A t => Aff.on t A) A
theorem Aff.on_d {t : VGridTurn} {A : Aff} (ht : t.ok = true) (hd : 0 < A.d) : 0 < (Aff.on t A).d := by
  have := turn_iff.1 ht
  exact Int.mul_pos hd (by omega)
theorem goL_img {xs : List VGridTurn} {A : Aff} (h : ∀ t ∈ xs, t.ok = true) (hd : 0 < A.d) (x y : Int) : goL xs (A.img x y) = (affL xs A).img x y ∧ 0 < (affL xs A).d := by
  induction xs generalizing A with
  | nil => exact ⟨rfl, hd⟩
  | cons t l ih =>
    have ht := h t (List.mem_cons_self ..)
    show goL l (spotOn t (A.img x y)) = (affL l (Aff.on t A)).img x y ∧ 0 < (affL l (Aff.on t A)).d
    rw [← Aff.img_on ht hd]
    exact ih (fun u hu => h u (List.mem_cons_of_mem _ hu)) (Aff.on_d ht hd)
def aff1 : Aff := ⟨1, 0, 0, 0, 1⟩
theorem aff1_img (x y : Int) : aff1.img x y = ⟨x, y, 1⟩ := by
  have := low_self (low_whole x y)
  unfold Aff.img aff1
  simp only
  rw [show 1 * x - 0 * y + 0 = x from by omega, show 0 * x + 1 * y + 0 = y from by omega]
  exact this
/-- The product of all numerators, of all denominators, the sum of all quarters. -/
def prodNum (xs : List VGridTurn) : Nat := xs.foldl (fun p t => p * t.Num.toNat) 1
def prodDen (xs : List VGridTurn) : Nat := xs.foldl (fun p t => p * t.Den.toNat) 1
def sumQ (xs : List VGridTurn) : Int := xs.foldl (fun q t => (q + t.Quarters) % 4) 0
theorem prodNum_snoc (xs : List VGridTurn) (t : VGridTurn) : prodNum (xs ++ [t]) = prodNum xs * t.Num.toNat := by simp [prodNum]
theorem prodDen_snoc (xs : List VGridTurn) (t : VGridTurn) : prodDen (xs ++ [t]) = prodDen xs * t.Den.toNat := by simp [prodDen]
theorem sumQ_snoc (xs : List VGridTurn) (t : VGridTurn) : sumQ (xs ++ [t]) = (sumQ xs + t.Quarters) % 4 := by simp [sumQ]
theorem prods_bd {xs : List VGridTurn} (h : ∀ t ∈ xs, t.ok = true) (i : Nat) (hi : i ≤ xs.length) : 1 ≤ prodNum (xs.take i) ∧ prodNum (xs.take i) ≤ 20 ^ i ∧ 1 ≤ prodDen (xs.take i) ∧ prodDen (xs.take i) ≤ 20 ^ i ∧ 0 ≤ sumQ (xs.take i) ∧ sumQ (xs.take i) ≤ 3 := by
  induction i with
  | zero => simp [prodNum, prodDen, sumQ]
  | succ i ih =>
    have hx : xs[i]? = some (xs[i]'(by omega)) := List.getElem?_eq_getElem _
    have ht := turn_iff.1 (h _ (List.getElem_mem (show i < xs.length by omega)))
    obtain ⟨a1, a2, a3, a4, a5, a6⟩ := ih (by omega)
    rw [List.take_add_one, hx]
    show 1 ≤ prodNum (xs.take i ++ [xs[i]'(by omega)]) ∧ prodNum (xs.take i ++ [xs[i]'(by omega)]) ≤ 20 ^ (i + 1) ∧ 1 ≤ prodDen (xs.take i ++ [xs[i]'(by omega)]) ∧ prodDen (xs.take i ++ [xs[i]'(by omega)]) ≤ 20 ^ (i + 1) ∧ 0 ≤ sumQ (xs.take i ++ [xs[i]'(by omega)]) ∧ sumQ (xs.take i ++ [xs[i]'(by omega)]) ≤ 3
    rw [prodNum_snoc, prodDen_snoc, sumQ_snoc, Nat.pow_succ]
    refine ⟨Nat.mul_pos a1 (by omega), Nat.mul_le_mul a2 (by omega), Nat.mul_pos a3 (by omega), Nat.mul_le_mul a4 (by omega), by omega, by omega⟩
theorem aff_whole {xs : List VGridTurn} (h : ∀ t ∈ xs, t.ok = true) (i : Nat) (hi : i ≤ xs.length) :
    (affL (xs.take i) aff1).d = (prodDen (xs.take i) : Int) ∧ ((affL (xs.take i) aff1).p, (affL (xs.take i) aff1).q) = rotN (sumQ (xs.take i)).toNat (prodNum (xs.take i) : Int) 0 := by
  induction i with
  | zero => simp [affL, aff1, prodDen, prodNum, sumQ, rotN]
  | succ i ih =>
    have hx : xs[i]? = some (xs[i]'(by omega)) := List.getElem?_eq_getElem _
    have ht := turn_iff.1 (h _ (List.getElem_mem (show i < xs.length by omega)))
    obtain ⟨_, _, _, _, a5, a6⟩ := prods_bd h i (by omega)
    obtain ⟨e1, e2⟩ := ih (by omega)
    rw [List.take_add_one, hx]
    generalize xs[i]'(by omega) = t at ht ⊢
    have hs : affL (xs.take i ++ [t]) aff1 = Aff.on t (affL (xs.take i) aff1) := by simp [affL]
    show (affL (xs.take i ++ [t]) aff1).d = (prodDen (xs.take i ++ [t]) : Int) ∧ ((affL (xs.take i ++ [t]) aff1).p, (affL (xs.take i ++ [t]) aff1).q) = rotN (sumQ (xs.take i ++ [t])).toNat (prodNum (xs.take i ++ [t]) : Int) 0
    rw [hs, prodNum_snoc, prodDen_snoc, sumQ_snoc]
    generalize affL (xs.take i) aff1 = A at *
    generalize prodNum (xs.take i) = N at *
    generalize prodDen (xs.take i) = D at *
    generalize sumQ (xs.take i) = Q at *
    have e3 := congrArg Prod.fst e2
    have e4 := congrArg Prod.snd e2
    simp only at e3 e4
    have en : ((N * t.Num.toNat : Nat) : Int) = (N : Int) * t.Num := by rw [Int.natCast_mul, Int.toNat_of_nonneg (by omega)]
    have ed : ((D * t.Den.toNat : Nat) : Int) = (D : Int) * t.Den := by rw [Int.natCast_mul, Int.toNat_of_nonneg (by omega)]
    refine ⟨?_, ?_⟩
    · show A.d * t.Den = _; rw [e1, ed]
    · show ((rotN t.Quarters.toNat A.p A.q).1 * t.Num, (rotN t.Quarters.toNat A.p A.q).2 * t.Num) = _
      rw [en]
      obtain ⟨k, hk⟩ : ∃ k, t.Quarters.toNat = k := ⟨_, rfl⟩
      obtain ⟨m, hm⟩ : ∃ m, Q.toNat = m := ⟨_, rfl⟩
      have hr : ((Q + t.Quarters) % 4).toNat = (m + k) % 4 := by omega
      rw [hr, hk]
      rw [hm] at e3 e4
      have hk4 : k < 4 := by omega
      have hm4 : m < 4 := by omega
      rcases (by omega : k = 0 ∨ k = 1 ∨ k = 2 ∨ k = 3) with rfl | rfl | rfl | rfl <;> rcases (by omega : m = 0 ∨ m = 1 ∨ m = 2 ∨ m = 3) with rfl | rfl | rfl | rfl <;> simp [rotN] at e3 e4 ⊢ <;> simp [e3, e4, Int.neg_mul]
/-- Two chains that lead 0, 0 and 1, 0 to the same spots lead all places to the same, and stretch alike. -/
theorem same_chains {xs ys : List VGridTurn} (hx : ∀ t ∈ xs, t.ok = true) (hy : ∀ t ∈ ys, t.ok = true) (h0 : goL xs ⟨0, 0, 1⟩ = goL ys ⟨0, 0, 1⟩) (h1 : goL xs ⟨1, 0, 1⟩ = goL ys ⟨1, 0, 1⟩) :
    (∀ x y, goL xs ⟨x, y, 1⟩ = goL ys ⟨x, y, 1⟩) ∧ sumQ xs = sumQ ys ∧ prodNum xs * prodDen ys = prodNum ys * prodDen xs := by
  have gx (x y : Int) := goL_img (A := aff1) hx (by decide) x y
  have gy (x y : Int) := goL_img (A := aff1) hy (by decide) x y
  have ex (x y : Int) : goL xs ⟨x, y, 1⟩ = (affL xs aff1).img x y := by rw [← aff1_img]; exact (gx x y).1
  have ey (x y : Int) : goL ys ⟨x, y, 1⟩ = (affL ys aff1).img x y := by rw [← aff1_img]; exact (gy x y).1
  have dx := (gx 0 0).2
  have dy := (gy 0 0).2
  rw [ex, ey] at h0 h1
  obtain ⟨a1, a2⟩ := low_cross h0
  obtain ⟨b1, b2⟩ := low_cross h1
  have wx := aff_whole hx xs.length (Nat.le_refl _)
  have wy := aff_whole hy ys.length (Nat.le_refl _)
  have px := prods_bd hx xs.length (Nat.le_refl _)
  have py := prods_bd hy ys.length (Nat.le_refl _)
  rw [List.take_length] at wx wy px py
  have c1 : (affL xs aff1).p * (affL ys aff1).d = (affL ys aff1).p * (affL xs aff1).d := by grind
  have c2 : (affL xs aff1).q * (affL ys aff1).d = (affL ys aff1).q * (affL xs aff1).d := by grind
  have c3 : (affL xs aff1).c * (affL ys aff1).d = (affL ys aff1).c * (affL xs aff1).d := by grind
  have c4 : (affL xs aff1).e * (affL ys aff1).d = (affL ys aff1).e * (affL xs aff1).d := by grind
  refine ⟨fun x y => ?_, ?_⟩
  · rw [ex, ey]
    refine low_ext dx dy ?_ ?_ <;> grind
  · obtain ⟨x1, x2⟩ := wx
    obtain ⟨y1, y2⟩ := wy
    have x3 := congrArg Prod.fst x2
    have x4 := congrArg Prod.snd x2
    have y3 := congrArg Prod.fst y2
    have y4 := congrArg Prod.snd y2
    simp only at x3 x4 y3 y4
    rw [x1, y1] at c1 c2
    generalize affL xs aff1 = A at *
    generalize affL ys aff1 = B at *
    generalize prodNum xs = N at *
    generalize prodDen xs = D at *
    generalize prodNum ys = M at *
    generalize prodDen ys = E at *
    generalize sumQ xs = Q at *
    generalize sumQ ys = R at *
    have n1 : 0 < N * E := Nat.mul_pos px.1 py.2.2.1
    have n2 : 0 < M * D := Nat.mul_pos py.1 px.2.2.1
    have z1 : (N : Int) * (E : Int) = ((N * E : Nat) : Int) := by push_cast; rfl
    have z2 : (M : Int) * (D : Int) = ((M * D : Nat) : Int) := by push_cast; rfl
    rw [x3, y3] at c1
    rw [x4, y4] at c2
    clear x1 x2 x3 x4 y1 y2 y3 y4 a1 a2 b1 b2 c3 c4
    rcases (by omega : Q = 0 ∨ Q = 1 ∨ Q = 2 ∨ Q = 3) with rfl | rfl | rfl | rfl <;> rcases (by omega : R = 0 ∨ R = 1 ∨ R = 2 ∨ R = 3) with rfl | rfl | rfl | rfl <;>
      simp [rotN, Int.neg_mul] at c1 c2 <;> first | (refine ⟨rfl, ?_⟩; omega) | (exfalso; omega)
end Go.Proofs.Ytidaoijpbdljbaa
