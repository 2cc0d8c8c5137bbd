/- The model's l1In and l1Num: a bound's test, and the decimal numeral of a number by recursion. -/
import Derived.Test.YtffbljbgmgifnaaDoorBase
import Derived.WalkKit
import Derived.WalkSpells
import Derived.Deep.QuietTactic
import Derived.BigQuiet
import Derived.Lib.Hide
import Derived.Lib.ItoaNum
import Derived.Below
import Derived.IntWalk
namespace Go.Proofs.YtffbljbgmgifnaaDoor
open Go.RowKit

theorem l1In_yes (x a b : Int) (w : World) (h1 : a ≤ x) (h2 : x ≤ b) :
    Calls Tryd.prog 17 #[.int .i64 x, .int .i64 a, .int .i64 b] w fun e w' => e = .returned (.bool true) ∧ w = w' := by
  go_enter Tryd.func17, Tryd.ntmps17
  go_wp2
  go_ret
  exact ⟨rfl, rfl⟩
theorem l1In_low (x a b : Int) (w : World) (h1 : x < a) :
    Calls Tryd.prog 17 #[.int .i64 x, .int .i64 a, .int .i64 b] w fun e w' => e = .returned (.bool false) ∧ w = w' := by
  go_enter Tryd.func17, Tryd.ntmps17
  go_wp2
  go_ret
  exact ⟨rfl, rfl⟩
theorem l1In_high (x a b : Int) (w : World) (h1 : b < x) :
    Calls Tryd.prog 17 #[.int .i64 x, .int .i64 a, .int .i64 b] w fun e w' => e = .returned (.bool false) ∧ w = w' := by
  by_cases h : x < a
  · exact l1In_low x a b w h
  have h' : a ≤ x := by omega
  have h2 : decide (x ≤ b) = false := by simp; omega
  go_enter Tryd.func17, Tryd.ntmps17
  go_wp2
  go_ret
  exact ⟨rfl, rfl⟩

theorem l1In_out (x a b : Int) (w : World) (h : x < a ∨ b < x) :
    Calls Tryd.prog 17 #[.int .i64 x, .int .i64 a, .int .i64 b] w fun e w' => e = .returned (.bool false) ∧ w = w' := by
  rcases h with h | h
  · exact l1In_low x a b w h
  · exact l1In_high x a b w h

def digits10 : ByteArray := ⟨#[48, 49, 50, 51, 52, 53, 54, 55, 56, 57]⟩
/-- The decimal numeral of n, as the library has it. -/
def numOf (n : Nat) : ByteArray := strOf (Lib.decDigits n)
def digOf (n : Nat) : ByteArray := strOf [UInt8.ofNat (48 + n)]
theorem digit_at (n : Nat) (h : n < 10) : digits10.extract n (n + 1) = digOf n := by
  match n, h with
  | 0, _ | 1, _ | 2, _ | 3, _ | 4, _ | 5, _ | 6, _ | 7, _ | 8, _ | 9, _ => rfl
theorem decDigits_len (n : Nat) : (Lib.decDigits n).length ≤ n + 1 := by
  induction n using Nat.strongRecOn with
  | _ n ih =>
    by_cases h : n < 10
    · rw [Lib.decDigits, dif_pos h]; simp
    · rw [Lib.decDigits, dif_neg h]
      have := ih (n / 10) (by omega)
      simp; omega
theorem numOf_size (n : Nat) : (numOf n).size ≤ n + 1 := by rw [numOf, strOf_size]; exact decDigits_len n
theorem digOf_size (n : Nat) : (digOf n).size = 1 := rfl
theorem numOf_small (n : Nat) (h : n < 10) : numOf n = digOf n := by unfold numOf; rw [Lib.decDigits, dif_pos h]; rfl
theorem numOf_big (n : Nat) (h : ¬ n < 10) : numOf n = numOf (n / 10) ++ digOf (n % 10) := by
  unfold numOf digOf; rw [Lib.decDigits, dif_neg h, strOf_append]

theorem l1Num_small (n : Nat) (w : World) (h : n < 10) :
    Calls Tryd.prog 8 #[.int .i64 n] w fun e w' => e = .returned (.string (numOf n)) ∧ ∃ m, w' = w.drewN m := by
  have hd := digit_at n h
  rw [numOf_small n h]
  have H := Lib.hid hd
  clear hd
  go_enter Tryd.func8, Tryd.ntmps8
  go_wp2
  go_ret
  exact ⟨congrArg (fun s => Ending.returned (Value.string s)) H.out, 0, rfl⟩

/-- The numeral of a natural number: the world draws, and nothing else. -/
theorem l1Num_nat : ∀ (n : Nat) (w : World), n ≤ 1000000000000 →
    Calls Tryd.prog 8 #[.int .i64 n] w fun e w' => e = .returned (.string (numOf n)) ∧ ∃ m, w' = w.drewN m := by
  intro n
  induction n using Nat.strongRecOn with
  | _ n ih =>
    intro w hn
    by_cases h : n < 10
    · exact l1Num_small n w h
    rw [numOf_big n h]
    have ih1 : ∀ w, Calls Tryd.prog 8 #[.int .i64 ((n : Int) / 10)] w fun e w' => e = .returned (.string (numOf (n / 10))) ∧ ∃ m, w' = w.drewN m := fun w => by
      rw [show ((n : Int) / 10) = ((n / 10 : Nat) : Int) from by omega]
      exact ih (n / 10) (by omega) w (by omega)
    have hd := digit_at (n % 10) (by omega)
    have q : ∀ k, Calls Tryd.prog 8 #[.int .i64 ((n : Int) / 10)] (w.drewN k) fun e w'' => e = .returned (.string (numOf (n / 10))) ∧ ∃ m, w'' = w.drewN m := fun k => Calls.quiet_of (ih1 _)
    have I := Lib.hid q
    have hz : (numOf (n / 10)).size + (digOf (n % 10)).size ≤ 9223372036854775807 := by have := numOf_size (n / 10); have := digOf_size (n % 10); omega
    have e1 : IntKind.i64.wrap ((n : Int) / 10) = (n : Int) / 10 := IntWalk.i64_in _ (by omega)
    have e2 : IntKind.i64.wrap ((n : Int) % 10 + 1) = (n : Int) % 10 + 1 := IntWalk.i64_in _ (by omega)
    have e3 : ((n : Int) % 10).toNat = n % 10 := by omega
    have e4 : ((n : Int) % 10 + 1).toNat = n % 10 + 1 := by omega
    have hs : ∀ w : World, (Instr.slice 9 (.string ⟨#[48, 49, 50, 51, 52, 53, 54, 55, 56, 57]⟩) (some (.int .i64 ((n : Int) % 10))) (some (.int .i64 ((n : Int) % 10 + 1))) none).run Tryd.prog w = .ok (.string (digOf (n % 10))) w := fun w => by
      rw [run_slice_string_if _ _ _ _ _ _ _ Tryd.underlying9, if_pos ⟨by omega, by show (n : Int) % 10 + 1 ≤ 10; omega⟩, if_pos ⟨by omega, by omega⟩, e3, e4]
      exact congrArg (fun s => Result.ok (Value.string s) w) hd
    clear e3 e4 ih ih1 hd q
    go_enter Tryd.func8, Tryd.ntmps8
    go_wp2
    go_quiet ((go_at_call 8; exact I.out _))
    go_wp2
    go_ret
    exact ⟨rfl, _, rfl⟩
end Go.Proofs.YtffbljbgmgifnaaDoor
