/- Fractions in lowest terms: the model's, by the greatest common divisor (the program's own: Low). -/
import Derived.Test.YtidaoijpbdljbabSheet
namespace Go.Proofs.Ytidaoijpbdljbab
open Go.RowKit

theorem l1Most_any (x y : Int) (w : World) :
    Calls Try.prog 94 #[.int .i64 x, .int .i64 y] w fun e w' => e = .returned (.int .i64 (max x y)) ∧ w = w' := by
  by_cases h : y < x
  · go_enter Try.func94, Try.ntmps94
    go_wp2
    go_ret
    exact ⟨ret_int (by omega), rfl⟩
  · go_enter Try.func94, Try.ntmps94
    go_wp2
    go_ret
    exact ⟨ret_int (by omega), rfl⟩
theorem l1Least_any (x y : Int) (w : World) :
    Calls Try.prog 67 #[.int .i64 x, .int .i64 y] w fun e w' => e = .returned (.int .i64 (min x y)) ∧ w = w' := by
  by_cases h : x < y
  · go_enter Try.func67, Try.ntmps67
    go_wp2
    go_ret
    exact ⟨ret_int (by omega), rfl⟩
  · go_enter Try.func67, Try.ntmps67
    go_wp2
    go_ret
    exact ⟨ret_int (by omega), rfl⟩

/-- A fraction of two whole numbers in lowest terms. -/
def LowPost (n d : Nat) (w : World) (e : Ending) (w' : World) : Prop := e = .returned (.tuple #[.int .i64 ((n / Nat.gcd n d : Nat) : Int), .int .i64 ((d / Nat.gcd n d : Nat) : Int)]) ∧ Below w.heap.size w w'
theorem ret_two {a a' b b' : Int} (h : a = a') (k : b = b') : Ending.returned (.tuple #[.int .i64 a, .int .i64 b]) = .returned (.tuple #[.int .i64 a', .int .i64 b']) := by rw [h, k]
theorem wrap_div (n x : Nat) (hn : n ≤ 1000000000000000000) : IntKind.i64.wrap ((n : Int) / (x : Int)) = ((n / x : Nat) : Int) := by
  have h := Nat.div_le_self n x
  have e : ((n / x : Nat) : Int) = (n : Int) / (x : Int) := by omega
  rw [← e]
  clear e
  revert h
  generalize n / x = q
  intro h
  exact IntWalk.i64_in _ (by omega)
theorem gcd_step {x y n d : Nat} (h : Nat.gcd x y = Nat.gcd n d) : Nat.gcd y (x % y) = Nat.gcd n d := by
  rw [← h, Nat.gcd_comm, ← Nat.gcd_rec, Nat.gcd_comm]

end Go.Proofs.Ytidaoijpbdljbab
