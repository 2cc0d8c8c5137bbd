/- Greater numbers as texts, and what SpotText tells, as plain mathematics. -/
import Derived.Test.YtghgipadogdfiaaDoorItoa
import Derived.Test.YtghgipadogdfiaaDoorGcd
import Derived.Test.YtghgipadogdfiaaDoorSpotT
namespace Go.Proofs.YtghgipadogdfiaaDoor
open Go.RowKit

/-- The numeral of a natural number: the world draws, and nothing else. -/
theorem l1Num_natB : ∀ (n : Nat) (w : World), n ≤ 3000000000000 →
    Calls Tryd.prog 9 #[.int .i64 n] w fun e w' => e = .returned (.string (numOf n)) ∧ ∃ m, w' = w.drewN m := by
  intro n
  induction n using Nat.strongRecOn with
  | _ n ih =>
    intro w hn
    by_cases h : n < 10
    · exact l1Num_small n w h
    rw [numOf_big n h]
    have ih1 : ∀ w, Calls Tryd.prog 9 #[.int .i64 ((n : Int) / 10)] w fun e w' => e = .returned (.string (numOf (n / 10))) ∧ ∃ m, w' = w.drewN m := fun w => by
      rw [show ((n : Int) / 10) = ((n / 10 : Nat) : Int) from by omega]
      exact ih (n / 10) (by omega) w (by omega)
    have hd := digit_at (n % 10) (by omega)
    have q : ∀ k, Calls Tryd.prog 9 #[.int .i64 ((n : Int) / 10)] (w.drewN k) fun e w'' => e = .returned (.string (numOf (n / 10))) ∧ ∃ m, w'' = w.drewN m := fun k => Calls.quiet_of (ih1 _)
    have I := Lib.hid q
    have hz : (numOf (n / 10)).size + (digOf (n % 10)).size ≤ 9223372036854775807 := by have := numOf_size (n / 10); have := digOf_size (n % 10); omega
    have e1 : IntKind.i64.wrap ((n : Int) / 10) = (n : Int) / 10 := IntWalk.i64_in _ (by omega)
    have e2 : IntKind.i64.wrap ((n : Int) % 10 + 1) = (n : Int) % 10 + 1 := IntWalk.i64_in _ (by omega)
    have e3 : ((n : Int) % 10).toNat = n % 10 := by omega
    have e4 : ((n : Int) % 10 + 1).toNat = n % 10 + 1 := by omega
    have hs : ∀ w : World, (Instr.slice 9 (.string ⟨#[48, 49, 50, 51, 52, 53, 54, 55, 56, 57]⟩) (some (.int .i64 ((n : Int) % 10))) (some (.int .i64 ((n : Int) % 10 + 1))) none).run Tryd.prog w = .ok (.string (digOf (n % 10))) w := fun w => by
      rw [run_slice_string_if _ _ _ _ _ _ _ Tryd.underlying9, if_pos ⟨by omega, by show (n : Int) % 10 + 1 ≤ 10; omega⟩, if_pos ⟨by omega, by omega⟩, e3, e4]
      exact congrArg (fun s => Result.ok (Value.string s) w) hd
    clear e3 e4 ih ih1 hd q
    go_enter Tryd.func9, Tryd.ntmps9
    go_wp2
    go_quiet ((go_at_call 9; exact I.out _))
    go_wp2
    go_ret
    exact ⟨rfl, _, rfl⟩
theorem textOf_sizeB (n : Int) (h1 : -3000000000000 ≤ n) (h2 : n ≤ 3000000000000) : (textOf n).size ≤ 3000000000002 := by
  by_cases h : 0 ≤ n
  · rw [textOf_pos n h]; have := numOf_size n.toNat; omega
  · rw [textOf_neg n (by omega)]; have := numOf_size (-n).toNat; have h1 : minus.size = 1 := rfl; rw [ByteArray.size_append]; omega

theorem l1Num_posB (n : Int) (w : World) (h0 : 0 ≤ n) (h1 : n ≤ 3000000000000) :
    Calls Tryd.prog 9 #[.int .i64 n] w fun e w' => e = .returned (.string (numOf n.toNat)) ∧ ∃ m, w' = w.drewN m := by
  obtain ⟨k, rfl⟩ := Int.eq_ofNat_of_zero_le h0; exact l1Num_natB k w (by omega)

/-- The numeral of any number up to 3 * 10^12. -/
theorem l1Num_anyB (n : Int) (w : World) (h0 : -3000000000000 ≤ n) (h1 : n ≤ 3000000000000) :
    Calls Tryd.prog 9 #[.int .i64 n] w fun e w' => e = .returned (.string (textOf n)) ∧ ∃ m, w' = w.drewN m := by
  by_cases h : 0 ≤ n
  · rw [textOf_pos n h]; exact l1Num_posB n w h h1
  rw [textOf_neg n (by omega)]
  have hz : (ByteArray.mk #[45]).size + (numOf (-n).toNat).size ≤ 9223372036854775807 := by have := numOf_size (-n).toNat; have : (ByteArray.mk #[45]).size = 1 := rfl; omega
  have hlt : n < 0 := by omega
  unfold minus
  clear h
  go_enter Tryd.func9, Tryd.ntmps9
  go_wp2_with (go_at_call 9; refine (l1Num_posB _ _ (by omega) (by omega)).mono ?_; rintro e w' ⟨rfl, m, rfl⟩)
  go_ret
  exact ⟨rfl, _, rfl⟩


theorem itoaB_any (n : Int) (h0 : -3000000000000 ≤ n) (h1 : n ≤ 3000000000000) (w : World) (ht : TabPow w) :
    Calls Tryd.prog 12 #[.int .i64 n] w fun e w' => e = .returned (.string (textOf n)) ∧ Below w.heap.size w w' :=
  (Tryd.strconv_Itoa n (by omega) (by omega) w ht).mono fun _ _ ⟨he, _, _, hw⟩ => ⟨he, hw ▸ Lib.below_grow _ _ (Nat.le_refl _) _ _⟩
theorem numB_any (n : Int) (h0 : -3000000000000 ≤ n) (h1 : n ≤ 3000000000000) (w : World) : Calls Tryd.prog 9 #[.int .i64 n] w fun e w' => e = .returned (.string (textOf n)) ∧ Below w.heap.size w w' := drawn_below (l1Num_anyB _ w (by omega) (by omega))

def spotGcd (s : VSpot) : Nat := Int.gcd s.X (Int.gcd s.Y s.Den)
def spotOk (s : VSpot) : Bool := inB s.Den 1 160000 && ((inB s.X (-2000000000000) 2000000000000 && inB s.Y (-2000000000000) 2000000000000) && decide (spotGcd s = 1))
def spotBase (s : VSpot) : ByteArray := textOf s.X ++ ⟨#[44]⟩ ++ textOf s.Y
def spotText (s : VSpot) : ByteArray := if 1 < s.Den then spotBase s ++ ⟨#[47]⟩ ++ textOf s.Den else spotBase s
def SpotText_0 (s : VSpot) : ByteArray := if spotOk s then spotText s else ⟨#[]⟩
def SpotText_1 (s : VSpot) : Bool := spotOk s
theorem spotOk_iff {s : VSpot} : spotOk s = true ↔ (1 ≤ s.Den ∧ s.Den ≤ 160000) ∧ (-2000000000000 ≤ s.X ∧ s.X ≤ 2000000000000) ∧ (-2000000000000 ≤ s.Y ∧ s.Y ≤ 2000000000000) ∧ spotGcd s = 1 := by
  unfold spotOk
  simp only [Bool.and_eq_true, inB_iff, decide_eq_true_eq]
  exact ⟨fun ⟨a, ⟨b, c⟩, d⟩ => ⟨a, b, c, d⟩, fun ⟨a, b, c, d⟩ => ⟨a, ⟨b, c⟩, d⟩⟩
theorem spotBase_size {s : VSpot} (h : spotOk s = true) : (spotBase s).size ≤ 6000000000100 := by
  obtain ⟨_, ⟨b0, b1⟩, ⟨c0, c1⟩, _⟩ := spotOk_iff.1 h
  have z0 := textOf_sizeB s.X (by omega) (by omega)
  have z1 := textOf_sizeB s.Y (by omega) (by omega)
  unfold spotBase
  simp only [ByteArray.size_append]
  have e1 : (⟨#[44]⟩ : ByteArray).size = 1 := rfl
  omega
theorem spotText_long (s : VSpot) (h : 1 < s.Den) : spotText s = spotBase s ++ ⟨#[47]⟩ ++ textOf s.Den := if_pos h
theorem spotText_plain (s : VSpot) (h : ¬ 1 < s.Den) : spotText s = spotBase s := if_neg h
theorem str_assoc' (a b c : ByteArray) : a ++ (b ++ c) = a ++ b ++ c := (ByteArray.append_assoc ..).symm
theorem gcdL_spot (s : VSpot) : gcdL [s.X, s.Y, s.Den] = spotGcd s := by
  show Int.gcd ((Int.gcd ((Int.gcd ((0 : Nat) : Int) s.X : Nat) : Int) s.Y : Nat) : Int) s.Den = Int.gcd s.X (Int.gcd s.Y s.Den)
  rw [← Int.gcd_assoc, Int.gcd_eq_natAbs_gcd_natAbs]
  simp [Int.gcd]
end Go.Proofs.YtghgipadogdfiaaDoor
