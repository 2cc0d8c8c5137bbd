/- FormatInt, the model's and the program's: the decimal text of a number within the bounds, and the empty text outside. -/
import Derived.Test.YtffbljbgmgifnaaDoorNum
import Derived.Test.YtffbljbgmgifnaaDoorShelf
import Derived.Below
import Derived.Lib.AppendIntMem
namespace Go.Proofs.YtffbljbgmgifnaaDoor
open Go.RowKit

def TabPow (w : World) : Prop := Lib.TabIs Tryd.prog w "internal/strconv.uint64pow10" .u64 Lib.pow10Tab
/-- The decimal text of a number, as strconv.Itoa has it. -/
def textOf (n : Int) : ByteArray := strOf (Lib.itoa n)
theorem textOf_nat (n : Nat) : textOf n = numOf n := by
  unfold textOf numOf Lib.itoa; rw [if_neg (by omega)]; simp
theorem textOf_pos (n : Int) (h : 0 ≤ n) : textOf n = numOf n.toNat := by
  obtain ⟨k, rfl⟩ := Int.eq_ofNat_of_zero_le h; exact textOf_nat k
def minus : ByteArray := ⟨#[45]⟩
theorem textOf_neg (n : Int) (h : n < 0) : textOf n = minus ++ numOf (-n).toNat := by
  unfold textOf numOf minus Lib.itoa; rw [if_pos h, show n.natAbs = (-n).toNat from by omega]
  exact (strOf_append [45] _).symm
theorem textOf_size (n : Int) (h1 : -1000000000000 ≤ n) (h2 : n ≤ 1000000000000) : (textOf n).size ≤ 1000000000002 := by
  by_cases h : 0 ≤ n
  · rw [textOf_pos n h]; have := numOf_size n.toNat; omega
  · rw [textOf_neg n (by omega)]; have := numOf_size (-n).toNat; have h1 : minus.size = 1 := rfl; rw [ByteArray.size_append]; omega

theorem l1Num_pos (n : Int) (w : World) (h0 : 0 ≤ n) (h1 : n ≤ 1000000000000) :
    Calls Tryd.prog 8 #[.int .i64 n] w fun e w' => e = .returned (.string (numOf n.toNat)) ∧ ∃ m, w' = w.drewN m := by
  obtain ⟨k, rfl⟩ := Int.eq_ofNat_of_zero_le h0; exact l1Num_nat k w (by omega)

/-- The numeral of any number of at most thirteen digits. -/
theorem l1Num_any (n : Int) (w : World) (h0 : -1000000000000 ≤ n) (h1 : n ≤ 1000000000000) :
    Calls Tryd.prog 8 #[.int .i64 n] w fun e w' => e = .returned (.string (textOf n)) ∧ ∃ m, w' = w.drewN m := by
  by_cases h : 0 ≤ n
  · rw [textOf_pos n h]; exact l1Num_pos n w h h1
  rw [textOf_neg n (by omega)]
  have hz : (ByteArray.mk #[45]).size + (numOf (-n).toNat).size ≤ 9223372036854775807 := by have := numOf_size (-n).toNat; have : (ByteArray.mk #[45]).size = 1 := rfl; omega
  have hlt : n < 0 := by omega
  unfold minus
  clear h
  go_enter Tryd.func8, Tryd.ntmps8
  go_wp2_with (go_at_call 8; refine (l1Num_pos _ _ (by omega) (by omega)).mono ?_; rintro e w' ⟨rfl, m, rfl⟩)
  go_ret
  exact ⟨rfl, _, rfl⟩

end Go.Proofs.YtffbljbgmgifnaaDoor
