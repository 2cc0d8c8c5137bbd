/- Lowest terms and turning by quarters, in the program and in the model. -/
import Derived.Test.YtidaoijpbdljbaaPi
import Derived.Test.YtidaoijpbdljbaaSpotR
import Derived.StillTailTactics
namespace Go.Proofs.Ytidaoijpbdljbaa
open Go.RowKit

def SpotPost (s : VSpot) (w : World) (e : Ending) (w' : World) : Prop := e = .returned (.agg #[.int .i64 s.X, .int .i64 s.Y, .int .i64 s.Den]) ∧ Below w.heap.size w w'
def spot0 : VSpot := ⟨0, 0, 0⟩
theorem lit3 (W : World) (x y z : Int) (t : TypeId) (B : Nat) (hB : W.heap.size = B) : ∀ (j : Nat) u, [x, y, z][j]? = some u → (W.alloc (.cells #[.int .i64 x, .int .i64 y, .int .i64 z] t)).cell? ⟨B, j, none⟩ = some (.int .i64 u) := by
  intro j u hj
  subst hB
  match j, hj with
  | 0, hj => simp at hj; subst hj; simp [World.cell?_alloc_new]
  | 1, hj => simp at hj; subst hj; simp [World.cell?_alloc_new]
  | 2, hj => simp at hj; subst hj; simp [World.cell?_alloc_new]
  | j + 3, hj => simp at hj
theorem gcdL_three (x y d : Int) : gcdL [x, y, d] = gcd3 x y d := by
  show Int.gcd ((Int.gcd ((Int.gcd ((0 : Nat) : Int) x : Nat) : Int) y : Nat) : Int) d = Int.gcd x (Int.gcd y d)
  rw [← Int.gcd_assoc, Int.gcd_eq_natAbs_gcd_natAbs]
  simp [Int.gcd]
theorem small_tdiv {x : Int} {g : Nat} {B : Nat} (h : x.natAbs ≤ B) : (x.tdiv (g : Int)).natAbs ≤ B := by
  rw [Int.natAbs_tdiv]
  exact Nat.le_trans (Nat.div_le_self _ _) h
/-- The three quotients, as the walk meets them. -/
structure Quos (x y d : Int) (g : Nat) : Prop where
  q1 : IntKind.i64.wrap (x.tdiv (g : Int)) = x.tdiv (g : Int)
  q2 : IntKind.i64.wrap (y.tdiv (g : Int)) = y.tdiv (g : Int)
  q3 : IntKind.i64.wrap (d.tdiv (g : Int)) = d.tdiv (g : Int)
theorem quos (x y d : Int) (g : Nat) (hx : x.natAbs ≤ 4000000000000000000) (hy : y.natAbs ≤ 4000000000000000000) (hd : d.natAbs ≤ 4000000000000000000) : Quos x y d g := by
  have h1 := small_tdiv (g := g) hx
  have h2 := small_tdiv (g := g) hy
  have h3 := small_tdiv (g := g) hd
  exact ⟨IntWalk.i64_in _ (by omega), IntWalk.i64_in _ (by omega), IntWalk.i64_in _ (by omega)⟩
end Go.Proofs.Ytidaoijpbdljbaa
