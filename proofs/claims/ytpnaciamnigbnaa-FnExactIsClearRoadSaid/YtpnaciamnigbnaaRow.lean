/- The whole part of a root of up to 2^41, in the program and in the model. -/
import Derived.Test.YtpnaciamnigbnaaRo
import Derived.Test.YtpnaciamnigbnaaShelf
namespace Go.Proofs.Ytpnaciamnigbnaa
open Go.RowKit

theorem lt_bitLen (x : Nat) : x < 2 ^ 64 → x < 2 ^ Lib.bitLen x := by
  induction x using Nat.strongRecOn with
  | ind x ih =>
    intro h
    by_cases h0 : x = 0
    · subst h0; decide
    · have := ih (x / 2) (by omega) (by omega)
      rw [Lib.bitLen_half x h0 h, Nat.add_comm, Nat.pow_succ]
      omega
theorem half_bits (n : Nat) (h : n < 2199023255552) : Lib.bitLen n / 2 ≤ 20 ∧ n < 2 ^ (Lib.bitLen n / 2 + 1) * 2 ^ (Lib.bitLen n / 2 + 1) := by
  have h1 := Lib.bitLen_le n 41 (by omega) (by omega)
  have h2 := lt_bitLen n (by omega)
  refine ⟨by omega, Nat.lt_of_lt_of_le h2 ?_⟩
  rw [← Nat.pow_add]
  exact Nat.pow_le_pow_right (by omega) (by omega)
theorem ofInt_i64 (a : Nat) (ha : a < 18446744073709551616) : (BitVec.ofInt 64 (a : Int)).toNat = a := by
  rw [BitVec.ofInt_natCast, BitVec.toNat_ofNat]; exact Nat.mod_eq_of_lt (by omega)
theorem i64_or_nat (a b : Nat) (ha : a < 2 ^ 62) (hb : b < 2 ^ 62) : bits .or .i64 (a : Int) (b : Int) = ((a ||| b : Nat) : Int) := by
  have hx : a ||| b < 2 ^ 62 := Nat.or_lt_two_pow ha hb
  show IntKind.i64.wrap ((BitVec.ofInt 64 (a : Int) ||| BitVec.ofInt 64 (b : Int)).toNat : Int) = _
  rw [BitVec.toNat_or, ofInt_i64 a (by omega), ofInt_i64 b (by omega)]
  exact IntWalk.i64_in _ (by omega)
theorem or_bit (R d : Nat) : (R * 2 ^ (d + 1)) ||| 2 ^ d = R * 2 ^ (d + 1) + 2 ^ d := by
  have h := Nat.two_pow_add_eq_or_of_lt (i := d + 1) (b := 2 ^ d) (Nat.pow_lt_pow_right (by omega) (by omega)) R
  rw [Nat.mul_comm] at h
  exact h.symm
/-- The root as far as its bits are known: x, the bits below 2^c still to come. -/
def RootTo (n x c : Nat) : Prop := (∃ R, x = R * 2 ^ c) ∧ x * x ≤ n ∧ n < (x + 2 ^ c) * (x + 2 ^ c)
theorem root_small {n x c : Nat} (hn : n < 2199023255552) (h : RootTo n x c) : x < 2097152 := by
  obtain ⟨_, h1, _⟩ := h
  refine Nat.lt_of_not_le fun hx => ?_
  have := Nat.mul_le_mul hx hx
  omega
theorem root_yes {n x d : Nat} (h : RootTo n x (d + 1)) (hy : (x + 2 ^ d) * (x + 2 ^ d) ≤ n) : RootTo n (x + 2 ^ d) d := by
  obtain ⟨⟨R, rfl⟩, h1, h2⟩ := h
  refine ⟨⟨R * 2 + 1, by rw [Nat.pow_succ, Nat.add_mul, Nat.one_mul, Nat.mul_assoc R 2, Nat.mul_comm 2]⟩, hy, ?_⟩
  have e : R * 2 ^ (d + 1) + 2 ^ d + 2 ^ d = R * 2 ^ (d + 1) + 2 ^ (d + 1) := by rw [Nat.pow_succ]; omega
  rw [e]; exact h2
theorem root_no {n x d : Nat} (h : RootTo n x (d + 1)) (hy : ¬ (x + 2 ^ d) * (x + 2 ^ d) ≤ n) : RootTo n x d := by
  obtain ⟨⟨R, rfl⟩, h1, h2⟩ := h
  exact ⟨⟨R * 2, by rw [Nat.pow_succ, Nat.mul_assoc, Nat.mul_comm 2]⟩, h1, by omega⟩
theorem root_or {n x d : Nat} (hd : d ≤ 21) (hx : x < 2097152) (h : RootTo n x (d + 1)) : bits BinOp.or IntKind.i64 (x : Int) ((2 ^ d : Nat) : Int) = ((x + 2 ^ d : Nat) : Int) := by
  obtain ⟨⟨R, rfl⟩, _⟩ := h
  have hp : 2 ^ d ≤ 2 ^ 21 := Nat.pow_le_pow_right (by omega) hd
  rw [i64_or_nat _ _ (by omega) (by omega), or_bit]
set_option maxHeartbeats 3200000 in
set_option maxRecDepth 100000 in
theorem wholeRoot_any (n : Nat) (w : World) (hn : n < 2199023255552) :
    Calls Try.prog 149 #[.int .i64 (n : Int)] w fun e w' => e = .returned (.int .i64 (qroot n : Int)) ∧ w = w' := by
  have LEN := Lib.hid (Try.bits_Len (n : Int) w (by omega) (by omega))
  have u1 : IntKind.u64.wrap (n : Int) = (n : Int) := by simp [IntKind.wrap, IntKind.bits, IntKind.signed]; omega
  obtain ⟨B, hB⟩ : ∃ B, Lib.bitLen n / 2 = B := ⟨_, rfl⟩
  have HB := half_bits n hn
  rw [hB] at HB
  have ST := Lib.hid (show B ≤ 20 ∧ RootTo n 0 (B + 1) from ⟨HB.1, ⟨0, by simp⟩, by simp, by simpa using HB.2⟩)
  clear HB
  go_enter Try.func149, Try.ntmps149
  go_wp2_with fail
  refine (LEN.out).mono ?_
  rintro e w1 ⟨rfl, rfl⟩
  rw [Int.toNat_natCast]
  clear LEN
  generalize Lib.bitLen n = L at *
  have v1 : ((L : Int).tdiv 2) = (B : Int) := by rw [Int.tdiv_eq_ediv_of_nonneg (by omega)]; omega
  have v2 : ((L : Int) / 2) = (B : Int) := by omega
  have v3 : IntKind.i64.wrap (B : Int) = (B : Int) := IntWalk.i64_in _ (by have := ST.out.1; omega)
  clear hB
  go_wp2
  go_loop [3, 4, 5] (fun r b _ => ∃ (x c : Nat), c ≤ 21 ∧ r = .int .i64 (x : Int) ∧ b = .int .i64 ((c : Int) - 1) ∧ RootTo n x c) (fun _ b _ => (intOf b + 1).toNat)
  case atStart => exact ⟨0, B + 1, by have := ST.out.1; omega, rfl, by first | rfl | (rw [show ((B + 1 : Nat) : Int) - 1 = (B : Int) from by omega]), ST.out.2⟩
  case round =>
    obtain ⟨x, c, hc, rfl, rfl, hr⟩ := hrel
    have hx := root_small hn hr
    clear v1 v2 v3
    by_cases h0 : c = 0
    · subst h0
      have HR := Lib.hid (show x = qroot n from qroot_one hr.2.1 (by simpa using hr.2.2))
      clear hr
      go_wp2
      go_ret
      exact ⟨ret_int (by rw [HR.out]), rfl⟩
    · obtain ⟨d, rfl⟩ : ∃ d, c = d + 1 := ⟨c - 1, by omega⟩
      have e1 : ((d + 1 : Nat) : Int) - 1 = (d : Int) := by omega
      rw [e1]
      have OR := root_or (by omega) hx hr
      have hp : 2 ^ d ≤ 2 ^ 21 := Nat.pow_le_pow_right (by omega) (by omega)
      have YES := Lib.hid (root_yes hr)
      have NO := Lib.hid (root_no hr)
      obtain ⟨p, hpp⟩ : ∃ p, 2 ^ d = p := ⟨_, rfl⟩
      have w1 : IntKind.i64.wrap ((2 : Int) ^ d) = (p : Int) := by
        have : ((2 : Int) ^ d) = (p : Int) := by rw [← hpp]; push_cast; rfl
        rw [this]; exact IntWalk.i64_in _ (by omega)
      rw [hpp] at OR hp
      obtain ⟨y, hy⟩ : ∃ y, x + p = y := ⟨_, rfl⟩
      rw [hy] at OR
      have PP := Lib.hid hpp
      have YY := Lib.hid hy
      clear hr hpp e1
      have yy : y * y ≤ 10000000 * 10000000 := Nat.mul_le_mul (by omega) (by omega)
      have w3 : IntKind.i64.wrap ((y : Int) * (y : Int)) = (y : Int) * (y : Int) := by
        have : ((y : Int) * (y : Int)) = ((y * y : Nat) : Int) := by push_cast; rfl
        rw [this]; exact IntWalk.i64_in _ (by omega)
      clear hy
      by_cases hyn : y * y ≤ n
      · have hyn' : (y : Int) * (y : Int) ≤ (n : Int) := by exact_mod_cast hyn
        have YN := Lib.hid hyn
        clear hyn
        go_wp2
        go_round
        case rel => exact ⟨y, d, by omega, rfl, by first | rfl | go_num, by have := YES.out; rw [PP.out, YY.out] at this; exact this YN.out⟩
        case measure => first | (simp [intOf]; done) | (simp [intOf]; omega)
      · have hyn' : ¬ (y : Int) * (y : Int) ≤ (n : Int) := fun h => hyn (by exact_mod_cast h)
        have YN := Lib.hid hyn
        clear hyn
        go_wp2
        go_round
        case rel => exact ⟨x, d, by omega, rfl, by first | rfl | go_num, by have := NO.out; rw [PP.out, YY.out] at this; exact this YN.out⟩
        case measure => first | (simp [intOf]; done) | (simp [intOf]; omega)
set_option maxHeartbeats 3200000 in
set_option maxRecDepth 100000 in
theorem l10Root_any (n : Nat) (w : World) (hn : n < 2199023255552) :
    Calls Try.prog 151 #[.int .i64 (n : Int)] w fun e w' => e = .returned (.int .i64 (qroot n : Int)) ∧ w = w' := by
  go_enter Try.func151, Try.ntmps151
  go_wp2
  go_loop [3, 4, 5] (fun a b _ => ∃ lo hi : Nat, a = .int .i64 (lo : Int) ∧ b = .int .i64 (hi : Int) ∧ lo ≤ hi ∧ hi ≤ 2000000 ∧ lo * lo ≤ n ∧ n < (hi + 1) * (hi + 1)) (fun a b _ => (intOf b - intOf a).toNat)
  case atStart => exact ⟨0, 2000000, rfl, rfl, by omega, by omega, by omega, by omega⟩
  case round =>
    obtain ⟨lo, hi, rfl, rfl, h1, h2, h3, h4⟩ := hrel
    by_cases hlt : lo < hi
    · obtain ⟨m, hm⟩ : ∃ m, (lo + hi + 1) / 2 = m := ⟨_, rfl⟩
      have mm : m * m ≤ 10000000 * 10000000 := Nat.mul_le_mul (by omega) (by omega)
      have v1 : IntKind.i64.wrap ((lo : Int) + (hi : Int)) = (lo : Int) + (hi : Int) := IntWalk.i64_in _ (by omega)
      have v2 : IntKind.i64.wrap ((lo : Int) + (hi : Int) + 1) = (lo : Int) + (hi : Int) + 1 := IntWalk.i64_in _ (by omega)
      have v3 : ((lo : Int) + (hi : Int) + 1).tdiv 2 = (m : Int) := by rw [Int.tdiv_eq_ediv_of_nonneg (by omega)]; omega
      have v4 : ((lo : Int) + (hi : Int) + 1) / 2 = (m : Int) := by omega
      have v5 : IntKind.i64.wrap (m : Int) = (m : Int) := IntWalk.i64_in _ (by omega)
      have v6 : IntKind.i64.wrap ((m : Int) - 1) = (m : Int) - 1 := IntWalk.i64_in _ (by omega)
      have v7 : IntKind.i64.wrap ((m : Int) * (m : Int)) = (m : Int) * (m : Int) := by
        have : ((m : Int) * (m : Int)) = ((m * m : Nat) : Int) := by push_cast; rfl
        rw [this]; exact IntWalk.i64_in _ (by omega)
      have hm1 : lo < m := by omega
      have hm2 : m ≤ hi := by omega
      have H3 := Lib.hid h3
      have H4 := Lib.hid h4
      clear hm h3 h4
      by_cases hyn : m * m ≤ n
      · have hyn' : (m : Int) * (m : Int) ≤ (n : Int) := by exact_mod_cast hyn
        have YN := Lib.hid hyn
        clear hyn
        go_wp2
        go_round
        case rel => exact ⟨m, hi, rfl, rfl, hm2, h2, YN.out, H4.out⟩
        case measure => simp [intOf]; omega
      · have hyn' : ¬ (m : Int) * (m : Int) ≤ (n : Int) := fun h => hyn (by exact_mod_cast h)
        have YN := Lib.hid hyn
        clear hyn
        go_wp2
        go_round
        case rel => exact ⟨lo, m - 1, rfl, by first | rfl | (congr 1; omega), by omega, by omega, H3.out, by have := YN.out; rw [show m - 1 + 1 = m from by omega]; omega⟩
        case measure => simp [intOf]; omega
    · obtain rfl : lo = hi := by omega
      have HR := Lib.hid (show lo = qroot n from qroot_one h3 h4)
      clear h3 h4
      go_wp2
      go_ret
      exact ⟨ret_int (by rw [HR.out]), rfl⟩
end Go.Proofs.Ytpnaciamnigbnaa
