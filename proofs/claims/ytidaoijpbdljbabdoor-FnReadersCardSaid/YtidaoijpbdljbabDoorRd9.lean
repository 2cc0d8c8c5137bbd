/- Readers: the counts of the classes. In the model. -/
import Derived.Test.YtidaoijpbdljbabDoorRd8
namespace Go.Proofs.YtidaoijpbdljbabDoor
open Go.RowKit

/-- How many of the first k readers are of the class c. -/
def cnt (xs : List VReader) (c : Int) (k : Nat) : Int := (((xs.take k).filter fun s => s.Class == c).length : Nat)
theorem cnt_zero (xs : List VReader) (c : Int) : cnt xs c 0 = 0 := by simp [cnt]
theorem cnt_le (xs : List VReader) (c : Int) (k : Nat) : 0 ≤ cnt xs c k ∧ cnt xs c k ≤ xs.length := by
  unfold cnt
  have h1 := List.length_filter_le (fun s : VReader => s.Class == c) (xs.take k)
  have h2 := List.length_take_le k xs
  have h3 : (xs.take k).length ≤ xs.length := by rw [List.length_take]; omega
  omega
theorem cnt_succ {xs : List VReader} {k : Nat} {s : VReader} (c : Int) (hs : xs[k]? = some s) : cnt xs c (k + 1) = if s.Class = c then cnt xs c k + 1 else cnt xs c k := by
  unfold cnt
  rw [filter_snoc' (fun s : VReader => s.Class == c) hs, List.length_append]
  by_cases h : s.Class = c
  · rw [if_pos h, if_pos (by simpa using h)]; simp
  · rw [if_neg h, if_neg (by simpa using h)]; simp
theorem made3 : (madeCells (Value.int .i64 0).cells (3 * 1)).toList = intCells [0, 0, 0] := by
  simp [madeCells, intCells, Value.cells, List.range, List.range.loop]
def ClassCounts_0 (xs : List VReader) : List Int := if areRd xs = true then [cnt xs 1 xs.length, cnt xs 2 xs.length, cnt xs 3 xs.length] else []
def ClassCounts_1 (xs : List VReader) : Bool := areRd xs
theorem ClassCounts_0_len (xs : List VReader) (_ : xs.length ≤ 1048576) (_ : ∀ s ∈ xs, s.sized) : (ClassCounts_0 xs).length ≤ 1000000 := by
  unfold ClassCounts_0; split <;> simp
def ClassCounts_Post (z0 : List VReader) (w : World) (e : Ending) (w' : World) : Prop :=
  ∃ v0 : Value, e = .returned (.tuple #[v0, .bool (ClassCounts_1 z0)]) ∧ w'.ownsRow w.heap.size 3 1 v0 (ClassCounts_0 z0).length (intCells (ClassCounts_0 z0)) ∧ Below w.heap.size w w'
end Go.Proofs.YtidaoijpbdljbabDoor
