/- Fractions in lowest terms: the model's, by the greatest common divisor (the program's own: Low). -/
import Derived.Test.YtpnaciamnigbnaaSheet
namespace Go.Proofs.Ytpnaciamnigbnaa
open Go.RowKit

theorem l1Most_any (x y : Int) (w : World) :
    Calls Try.prog 140 #[.int .i64 x, .int .i64 y] w fun e w' => e = .returned (.int .i64 (max x y)) ∧ w = w' := by
  by_cases h : y < x
  · go_enter Try.func140, Try.ntmps140
    go_wp2
    go_ret
    exact ⟨ret_int (by omega), rfl⟩
  · go_enter Try.func140, Try.ntmps140
    go_wp2
    go_ret
    exact ⟨ret_int (by omega), rfl⟩
theorem l1Least_any (x y : Int) (w : World) :
    Calls Try.prog 142 #[.int .i64 x, .int .i64 y] w fun e w' => e = .returned (.int .i64 (min x y)) ∧ w = w' := by
  by_cases h : x < y
  · go_enter Try.func142, Try.ntmps142
    go_wp2
    go_ret
    exact ⟨ret_int (by omega), rfl⟩
  · go_enter Try.func142, Try.ntmps142
    go_wp2
    go_ret
    exact ⟨ret_int (by omega), rfl⟩

/-- A fraction of two whole numbers in lowest terms. -/
def LowPost (n d : Nat) (w : World) (e : Ending) (w' : World) : Prop := e = .returned (.tuple #[.int .i64 ((n / Nat.gcd n d : Nat) : Int), .int .i64 ((d / Nat.gcd n d : Nat) : Int)]) ∧ Below w.heap.size w w'
theorem ret_two {a a' b b' : Int} (h : a = a') (k : b = b') : Ending.returned (.tuple #[.int .i64 a, .int .i64 b]) = .returned (.tuple #[.int .i64 a', .int .i64 b']) := by rw [h, k]
theorem wrap_div (n x : Nat) (hn : n ≤ 1000000000000000000) : IntKind.i64.wrap ((n : Int) / (x : Int)) = ((n / x : Nat) : Int) := by
  have h := Nat.div_le_self n x
  have e : ((n / x : Nat) : Int) = (n : Int) / (x : Int) := by omega
  rw [← e]
  clear e
  revert h
  generalize n / x = q
  intro h
  exact IntWalk.i64_in _ (by omega)
theorem gcd_step {x y n d : Nat} (h : Nat.gcd x y = Nat.gcd n d) : Nat.gcd y (x % y) = Nat.gcd n d := by
  rw [← h, Nat.gcd_comm, ← Nat.gcd_rec, Nat.gcd_comm]

set_option maxHeartbeats 1600000 in
theorem l2Reduce_any (n d : Nat) (w : World) (hd : 0 < d) (hn : n ≤ 1000000000000000000) (hd1 : d ≤ 1000000000000000000) :
    Calls Try.prog 116 #[.int .i64 (n : Int), .int .i64 (d : Int)] w (LowPost n d w) := by
  go_enter Try.func116, Try.ntmps116
  go_wp2_with (go_at_call 140; refine (l1Most_any _ _ _).mono ?_; rintro e w' ⟨rfl, rfl⟩)
  go_loop [6, 7] (fun a b => ∃ x y : Nat, a = .int .i64 (x : Int) ∧ b = .int .i64 (y : Int) ∧ Nat.gcd x y = Nat.gcd n d ∧ (0 < x ∨ 0 < y) ∧ x ≤ 1000000000000000000 ∧ y ≤ 1000000000000000000) (fun _ b => (intOf b).toNat)
  case atStart => exact ⟨n, d, by rw [show max (n : Int) (-(n : Int)) = (n : Int) from by omega], rfl, rfl, .inr hd, hn, hd1⟩
  case round =>
    obtain ⟨x, y, rfl, rfl, hg, hp, hx, hy⟩ := hrel
    have G := Lib.hid hg
    clear hg
    by_cases hz : y = 0
    · subst hz
      have hx0 : 0 < x := by omega
      have hx1 : (x : Int) ≠ 0 := by omega
      have E := Lib.hid (show x = Nat.gcd n d by rw [← G.out, Nat.gcd_zero_right])
      have q1 := wrap_div n x hn
      have q2 := wrap_div d x hd1
      go_wp2
      go_quiet (fail)
      go_wp2
      go_ret2
      exact ⟨ret_two (by rw [← E.out]; omega) (by rw [← E.out]; omega), bel_drawn _ _⟩
    · have hy0 : 0 < y := by omega
      have hy1 : ¬ (y : Int) = 0 := by omega
      have hlt := Nat.mod_lt x hy0
      go_wp2
      go_round
      case rel => exact ⟨y, x % y, rfl, by go_num, gcd_step G.out, .inl hy0, hy, by omega⟩
      case measure => simp [intOf]; omega

end Go.Proofs.Ytpnaciamnigbnaa
