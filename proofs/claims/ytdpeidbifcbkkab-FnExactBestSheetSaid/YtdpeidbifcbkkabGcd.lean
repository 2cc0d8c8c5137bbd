/- The greatest common divisor in the program, of a list of numbers, and in the model, of two. -/
import Derived.Test.YtdpeidbifcbkkabPaper
import Derived.Test.YtdpeidbifcbkkabBox0
namespace Go.Proofs.Ytdpeidbifcbkkab
open Go.RowKit

def gcdL (zs : List Int) : Nat := zs.foldl (fun d z => Int.gcd d z) 0
theorem gcdL_snoc (zs : List Int) (k : Nat) (z : Int) (h : zs[k]? = some z) : gcdL (zs.take (k + 1)) = Int.gcd (gcdL (zs.take k)) z := by
  rw [List.take_add_one, h]; simp [gcdL]
theorem gcd_tmod (x y : Int) : Int.gcd y (x.tmod y) = Int.gcd x y := by
  have e : x.tmod y = x - y * (x.tdiv y) := by have := Int.mul_tdiv_add_tmod x y; omega
  rw [e, Int.gcd_comm x y]
  exact Int.gcd_sub_mul_left_right ..
theorem tmod_lt {x y : Int} (h : y ≠ 0) : (x.tmod y).natAbs < y.natAbs := by
  have := Int.natAbs_tmod x y
  rw [this]
  exact Nat.mod_lt _ (by omega)
theorem keep_cell {w w' : World} {b o : Nat} {v : Value} (h : w.cell? ⟨b, o, none⟩ = some v) (hb : Below w.heap.size w w') : w'.cell? ⟨b, o, none⟩ = some v := (hb.cell (p := ⟨b, o, none⟩) (block_lt_of_cell h)).trans h
theorem max_neg (x : Int) : max x (-x) = (x.natAbs : Int) := by omega
theorem ret_int' {a b : Int} (h : a = b) : Ending.returned (.int .i64 a) = .returned (.int .i64 b) := by rw [h]

end Go.Proofs.Ytdpeidbifcbkkab
