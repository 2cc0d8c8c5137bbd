/- Lowest terms and turning by quarters, in the program and in the model. -/
import Derived.Test.YtghgipadogdfiaaPi
import Derived.Test.YtghgipadogdfiaaSpotR
import Derived.StillTailTactics
namespace Go.Proofs.Ytghgipadogdfiaa
open Go.RowKit

def SpotPost (s : VSpot) (w : World) (e : Ending) (w' : World) : Prop := e = .returned (.agg #[.int .i64 s.X, .int .i64 s.Y, .int .i64 s.Den]) ∧ Below w.heap.size w w'
def spot0 : VSpot := ⟨0, 0, 0⟩
theorem lit3 (W : World) (x y z : Int) (t : TypeId) (B : Nat) (hB : W.heap.size = B) : ∀ (j : Nat) u, [x, y, z][j]? = some u → (W.alloc (.cells #[.int .i64 x, .int .i64 y, .int .i64 z] t)).cell? ⟨B, j, none⟩ = some (.int .i64 u) := by
  intro j u hj
  subst hB
  match j, hj with
  | 0, hj => simp at hj; subst hj; simp [World.cell?_alloc_new]
  | 1, hj => simp at hj; subst hj; simp [World.cell?_alloc_new]
  | 2, hj => simp at hj; subst hj; simp [World.cell?_alloc_new]
  | j + 3, hj => simp at hj
theorem gcdL_three (x y d : Int) : gcdL [x, y, d] = gcd3 x y d := by
  show Int.gcd ((Int.gcd ((Int.gcd ((0 : Nat) : Int) x : Nat) : Int) y : Nat) : Int) d = Int.gcd x (Int.gcd y d)
  rw [← Int.gcd_assoc, Int.gcd_eq_natAbs_gcd_natAbs]
  simp [Int.gcd]
theorem small_tdiv {x : Int} {g : Nat} {B : Nat} (h : x.natAbs ≤ B) : (x.tdiv (g : Int)).natAbs ≤ B := by
  rw [Int.natAbs_tdiv]
  exact Nat.le_trans (Nat.div_le_self _ _) h
/-- The three quotients, as the walk meets them. -/
structure Quos (x y d : Int) (g : Nat) : Prop where
  q1 : IntKind.i64.wrap (x.tdiv (g : Int)) = x.tdiv (g : Int)
  q2 : IntKind.i64.wrap (y.tdiv (g : Int)) = y.tdiv (g : Int)
  q3 : IntKind.i64.wrap (d.tdiv (g : Int)) = d.tdiv (g : Int)
theorem quos (x y d : Int) (g : Nat) (hx : x.natAbs ≤ 4000000000000000000) (hy : y.natAbs ≤ 4000000000000000000) (hd : d.natAbs ≤ 4000000000000000000) : Quos x y d g := by
  have h1 := small_tdiv (g := g) hx
  have h2 := small_tdiv (g := g) hy
  have h3 := small_tdiv (g := g) hd
  exact ⟨IntWalk.i64_in _ (by omega), IntWalk.i64_in _ (by omega), IntWalk.i64_in _ (by omega)⟩
set_option maxHeartbeats 3200000 in
set_option maxRecDepth 100000 in
theorem leastSpot_any (x y d : Int) (w : World) (hx : x.natAbs ≤ 4000000000000000000) (hy : y.natAbs ≤ 4000000000000000000) (hd0 : 0 < d) (hd : d ≤ 4000000000000000000) :
    Calls Try.prog 72 #[.int .i64 x, .int .i64 y, .int .i64 d] w (SpotPost (low x y d) w) := by
  obtain ⟨g, hg⟩ : ∃ g, gcd3 x y d = g := ⟨_, rfl⟩
  have g0 : 0 < g := by rw [← hg]; exact gcd3_pos hd0
  have g2 : ¬ g = 0 := by omega
  obtain ⟨q1, q2, q3⟩ := quos x y d g hx hy (by omega)
  have E := Lib.hid (show low x y d = ⟨x.tdiv g, y.tdiv g, d.tdiv g⟩ by unfold low; rw [hg])
  have G := Lib.hid (show gcdL [x, y, d] = g from (gcdL_three x y d).trans hg)
  have Z := Lib.hid (HBSpot.new w spot0 _ rfl)
  have B0 := Lib.hid (bel_al2 w (.cells #[.int .i64 spot0.X, .int .i64 spot0.Y, .int .i64 spot0.Den] 28) (.cells #[.int .i64 x, .int .i64 y, .int .i64 d] 3))
  have Z1 := Lib.hid (Z.out.alloc (.cells #[.int .i64 x, .int .i64 y, .int .i64 d] 3))
  have AB := Lib.hid (show ∀ z ∈ [x, y, d], z.natAbs ≤ 4000000000000000000 by intro z hz; simp at hz; omega)
  clear hg hx hy hd hd0
  go_enter Try.func72, Try.ntmps72
  go_wp2_with fail
  refine (commonDivisor_any _ 3 3 [x, y, d] _ rfl (by omega) AB.out (lit3 _ _ _ _ _ _ (by simp))).mono ?_
  rintro e w1 ⟨rfl, hb⟩
  rw [G.out]
  have B := Lib.hid (show Below w.heap.size w w1 from Below.then' B0.out hb)
  have hz := Z1.out.below hb
  have h0 := hz.free 0
  have h1 := hz.free 1
  have h2 := hz.free 2
  obtain ⟨d0, d1, d2⟩ := hz.cells
  have ZZ := Lib.hid hz
  clear hb hz
  go_wp2_with fail
  go_still_tail 10, (by kernel_rfl)
  change wpList _ _ _ _ _ w1.drew
  have ZW := Lib.hid ((ZZ.out.drew).setAll ⟨x.tdiv g, y.tdiv g, d.tdiv g⟩)
  go_wp2
  rw [E.out]
  refine bodyPost_ret (resultsSpot1 rfl rfl ZW.out) rfl ⟨rfl, ?_⟩
  exact ((((bel_drew' B.out).setCell (by simp) _).setCell (by simp) _).setCell (by simp) _)
end Go.Proofs.Ytghgipadogdfiaa
