/- The order by row and then by col, as the program hands it to the sort: cmp.Compare, cmp.Or, and the function itself. -/
import Derived.Test.YtidaoijpbdljbaaIdx
import Derived.Lib.Small
import Derived.Sort.Grow
import Derived.StillTailTactics
namespace Go.Proofs.Ytidaoijpbdljbaa
open Go.RowKit

theorem isNaN_any (x : Int) (w : World) : Calls Try.prog 99 #[.int .i64 x] w fun e w' => e = .returned (.bool false) ∧ w = w' := by
  go_enter Try.func99, Try.ntmps99
  go_wp2
  go_ret
  exact ⟨by first | rfl | simp, rfl⟩
set_option maxHeartbeats 800000 in
theorem compare_any (x y : Int) (w : World) : Calls Try.prog 84 #[.int .i64 x, .int .i64 y] w fun e w' => e = .returned (.int .i64 (Lib.compareInt x y)) ∧ w = w' := by
  by_cases h1 : x < y
  · go_enter Try.func84, Try.ntmps84
    go_wp2_with (go_at_call 99; refine (isNaN_any _ _).mono ?_; rintro e w' ⟨rfl, rfl⟩)
    go_ret
    exact ⟨ret_int (by unfold Lib.compareInt; rw [if_pos h1]), rfl⟩
  · by_cases h2 : y < x
    · go_enter Try.func84, Try.ntmps84
      go_wp2_with (go_at_call 99; refine (isNaN_any _ _).mono ?_; rintro e w' ⟨rfl, rfl⟩)
      go_ret
      exact ⟨ret_int (by unfold Lib.compareInt; rw [if_neg (by omega), if_pos (by omega)]), rfl⟩
    · go_enter Try.func84, Try.ntmps84
      go_wp2_with (go_at_call 99; refine (isNaN_any _ _).mono ?_; rintro e w' ⟨rfl, rfl⟩)
      go_ret
      exact ⟨ret_int (by unfold Lib.compareInt; rw [if_neg (by omega), if_neg (by omega)]), rfl⟩
set_option maxHeartbeats 800000 in
theorem or_any (b c : Nat) (x y : Int) (w : World) (h0 : w.cell? ⟨b, 0, none⟩ = some (.int .i64 x)) (h1 : w.cell? ⟨b, 1, none⟩ = some (.int .i64 y)) :
    Calls Try.prog 83 #[.slice (some ⟨b, 0, none⟩) 2 c] w fun e w' => e = .returned (.int .i64 (if x = 0 then y else x)) ∧ w = w' := by
  have C0 := Lib.hid h0
  have C1 := Lib.hid h1
  clear h0 h1
  go_enter Try.func83, Try.ntmps83
  go_wp2
  go_loop [8, 5] (fun i _ => ∃ k : Nat, k ≤ 2 ∧ i = .int .i64 k ∧ (1 ≤ k → x = 0) ∧ (2 ≤ k → y = 0)) (fun i _ => 2 - (intOf i).toNat)
  case atStart => exact ⟨0, by omega, rfl, by omega, by omega⟩
  case round =>
    obtain ⟨k, hk, rfl, h2, h3⟩ := hrel
    have hk3 : k = 0 ∨ k = 1 ∨ k = 2 := by omega
    rcases hk3 with rfl | rfl | rfl
    · have c0 := C0.out
      by_cases hx : x = 0
      · subst hx
        go_wp2
        go_round
        case rel => exact ⟨1, by omega, rfl, by simp, by omega⟩
        case measure => simp [intOf]
      · have hx1 : (x != 0) = true := by simpa using hx
        have HX := Lib.hid hx
        clear hx
        go_wp2
        go_ret
        exact ⟨ret_int (by have := HX.out; simp), rfl⟩
    · have c1 := C1.out
      obtain rfl : x = 0 := h2 (by omega)
      clear h2
      by_cases hy : y = 0
      · subst hy
        go_wp2
        go_round
        case rel => exact ⟨2, by omega, rfl, by simp, by simp⟩
        case measure => simp [intOf]
      · have hy1 : (y != 0) = true := by simpa using hy
        go_wp2
        go_ret
        exact ⟨ret_int (by simp), rfl⟩
    · obtain rfl : x = 0 := h2 (by omega)
      obtain rfl : y = 0 := h3 (by omega)
      clear h2 h3
      go_wp2
      go_ret
      exact ⟨ret_int (by simp), rfl⟩

theorem or_new (W : World) (x y : Int) (t : TypeId) (B : Nat) (hB : W.heap.size = B) :
    Calls Try.prog 83 #[.slice (some ⟨B, 0, none⟩) 2 2] (W.alloc (.cells #[.int .i64 x, .int .i64 y] t)).drew fun e w' => e = .returned (.int .i64 (if x = 0 then y else x)) ∧ (W.alloc (.cells #[.int .i64 x, .int .i64 y] t)).drew = w' :=
  or_any B 2 x y _ (lit2 W x y t B hB 0 x rfl) (lit2 W x y t B hB 1 y rfl)
theorem grown2 (w : World) (o1 o2 : Obj) : ∃ os, (w.alloc o1).alloc o2 = Sort.grow w os := ⟨#[o1] ++ #[o2], by rw [Sort.alloc_eq_grow, Sort.alloc_eq_grow, Sort.grow_grow]⟩
/-- The order by row and then by col. -/
def cmpRC (a b : Sh) : Int := if Lib.compareInt a.row b.row = 0 then Lib.compareInt a.col b.col else Lib.compareInt a.row b.row

set_option maxHeartbeats 1600000 in
set_option maxRecDepth 100000 in
theorem cmpRC_any (a b : Sh) (w : World) :
    Calls Try.prog 94 #[.agg #[.int .i64 a.id, .int .i64 a.row, .int .i64 a.col, .int .i64 a.scale, .int .i64 a.year], .agg #[.int .i64 b.id, .int .i64 b.row, .int .i64 b.col, .int .i64 b.scale, .int .i64 b.year]] w
      fun e w' => e = .returned (.int .i64 (cmpRC a b)) ∧ ∃ q os, w' = Sort.grow (w.drewN q) os := by
  have b1 := boxAt_new w 35 a _ rfl
  have b1' := b1.below (bel_alloc1 _ (.cells #[.int .i64 b.id, .int .i64 b.row, .int .i64 b.col, .int .i64 b.scale, .int .i64 b.year] 35))
  have b2 := boxAt_new (w.alloc (.cells #[.int .i64 a.id, .int .i64 a.row, .int .i64 a.col, .int .i64 a.scale, .int .i64 a.year] 35)) 35 b (w.heap.size + 1) (by simp)
  obtain ⟨_, c1, c2, _, _⟩ := b1'
  obtain ⟨_, d1, d2, _, _⟩ := b2
  clear b1
  obtain ⟨x, hx⟩ : ∃ x, Lib.compareInt a.row b.row = x := ⟨_, rfl⟩
  obtain ⟨y, hy⟩ : ∃ y, Lib.compareInt a.col b.col = y := ⟨_, rfl⟩
  have k1 : ∀ W, Calls Try.prog 84 #[.int .i64 a.row, .int .i64 b.row] W fun e w' => e = .returned (.int .i64 x) ∧ w' = W := fun W => by rw [← hx]; exact (compare_any _ _ W).mono fun _ _ ⟨h1, h2⟩ => ⟨h1, h2.symm⟩
  have k2 : ∀ W, Calls Try.prog 84 #[.int .i64 a.col, .int .i64 b.col] W fun e w' => e = .returned (.int .i64 y) ∧ w' = W := fun W => by rw [← hy]; exact (compare_any _ _ W).mono fun _ _ ⟨h1, h2⟩ => ⟨h1, h2.symm⟩
  obtain ⟨z, hz⟩ : ∃ z, (if x = 0 then y else x) = z := ⟨_, rfl⟩
  have E := Lib.hid (show cmpRC a b = z by unfold cmpRC; rw [hx, hy]; exact hz)
  have K3 : Hid (∀ (W : World) (c : Nat), W.cell? ⟨c, 0, none⟩ = some (.int .i64 x) → W.cell? ⟨c, 1, none⟩ = some (.int .i64 y) → Calls Try.prog 83 #[.slice (some ⟨c, 0, none⟩) 2 2] W fun e w' => e = .returned (.int .i64 z) ∧ W = w') := Lib.hid (fun W c h0 h1 => by rw [← hz]; exact or_any c 2 x y W h0 h1)
  have K1 := Lib.hid k1
  have K2 := Lib.hid k2
  clear hx hy k1 k2 hz
  go_enter Try.func94, Try.ntmps94
  go_wp2
  refine wp_world (fun W => (∃ os, W = Sort.grow w os) ∧ BoxAt W w.heap.size a ∧ BoxAt W (w.heap.size + 1) b) ⟨grown2 _ _ _, (boxAt_new w 35 a _ rfl).below (bel_alloc1 _ _), boxAt_new _ _ _ _ (by simp)⟩ ?_
  clear c1 c2 d1 d2
  rintro W ⟨hw, ⟨_, c1, c2, _, _⟩, ⟨_, d1, d2, _, _⟩⟩
  have HW := Lib.hid hw
  clear hw
  have c1' : ({ W with drawn := W.drawn + 1 } : World).cell? ⟨w.heap.size, 1, none⟩ = some (.int .i64 a.row) := c1
  have c2' : ({ W with drawn := W.drawn + 1 } : World).cell? ⟨w.heap.size, 2, none⟩ = some (.int .i64 a.col) := c2
  have d1' : ({ W with drawn := W.drawn + 1 } : World).cell? ⟨w.heap.size + 1, 1, none⟩ = some (.int .i64 b.row) := d1
  have d2' : ({ W with drawn := W.drawn + 1 } : World).cell? ⟨w.heap.size + 1, 2, none⟩ = some (.int .i64 b.col) := d2
  refine wp_region_still_tail 10 (by kernel_rfl) (by kernel_rfl) ?_
  simp only [List.take_succ_cons, List.take_zero, List.drop_succ_cons, List.drop_zero]
  repeat still_step
  still_call (K1.out _)
  repeat still_step
  still_call (K2.out _)
  refine wpStill_nil ?_
  change wpList _ _ _ _ _ W.drew
  go_wp2_with fail
  refine (K3.out (W.alloc (.cells #[.int .i64 x, .int .i64 y] 3)).drew W.heap.size (lit2 W x y 3 _ rfl 0 x rfl) (lit2 W x y 3 _ rfl 1 y rfl)).mono ?_
  rintro e w' ⟨rfl, rfl⟩
  go_wp2
  go_ret
  refine ⟨ret_int E.out.symm, ?_⟩
  obtain ⟨os, rfl⟩ := HW.out
  exact ⟨1, os ++ #[.cells #[.int .i64 x, .int .i64 y] 3], by rw [Sort.alloc_eq_grow, Sort.grow_grow]; rfl⟩
end Go.Proofs.Ytidaoijpbdljbaa
