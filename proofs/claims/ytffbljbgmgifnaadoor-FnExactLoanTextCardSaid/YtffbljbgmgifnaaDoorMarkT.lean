/- markText: the law's marks for texts, each a text of its number. -/
import Derived.Test.YtffbljbgmgifnaaDoorBase
import Derived.Laws.BytesArg
import Derived.WalkLawsBesides
namespace Go.Proofs.YtffbljbgmgifnaaDoor
open Go.RowKit

def markGo : Nat → Nat → ByteArray → ByteArray
  | 0, _, out => out
  | f + 1, k, out => if k = 0 then out else markGo f (k / 10) (strOfNums [48 + ((k % 10 : Nat) : Int)] ++ out)
theorem markGo_zero (f : Nat) (out : ByteArray) : markGo f 0 out = out := by cases f <;> rfl
/-- The text that marks number k. -/
def markOf (k : Nat) : ByteArray := ⟨#[109]⟩ ++ markGo k k ByteArray.empty
theorem numStr_size (x : Int) : (strOfNums [x]).size = 1 := by simp [strOfNums, ByteArray.size]
theorem str_one (x : Int) (W : World) : (convert 40 9 (.slice (some ⟨W.heap.size, 0, none⟩) 1 1)).run Tryd.prog (W.alloc (.cells #[.int .u8 x] 5)) = .ok (.string (strOfNums [x])) (W.alloc (.cells #[.int .u8 x] 5)) :=
  run_convert_bytes_arg (P := Tryd.prog) _ 40 5 Tryd.underlying40 Tryd.underlying5 _ 0 1 1 [x] (by simp) (fun i hi => by
    rw [World.cell?_alloc_new]
    obtain rfl : i = 0 := by omega
    rfl) 9 Tryd.underlying9
theorem mark_eq {a b : Nat} (h : a = b) : Value.string (markOf a) = .string (markOf b) := by rw [h]
theorem markGo_size : ∀ (f k : Nat) (out : ByteArray), (markGo f k out).size ≤ out.size + f
  | 0, _, _ => Nat.le_refl _
  | f + 1, k, out => by
    unfold markGo
    split
    · omega
    · refine Nat.le_trans (markGo_size f _ _) ?_
      rw [ByteArray.size_append, numStr_size]; omega
theorem markOf_size (k : Nat) (h : k ≤ 100000000) : (markOf k).size ≤ maxLen := by
  unfold markOf
  rw [ByteArray.size_append]
  have := markGo_size k k ByteArray.empty
  have e : (⟨#[109]⟩ : ByteArray).size = 1 := rfl
  have e2 : ByteArray.empty.size = 0 := rfl
  unfold maxLen
  omega
end Go.Proofs.YtffbljbgmgifnaaDoor
