/- areInRange at one, two and four numbers. -/
import Derived.Test.YtpnaciamnigbnaaSheet
namespace Go.Proofs.Ytpnaciamnigbnaa
open Go.RowKit
theorem areOne (lo hi x : Int) (t : TypeId) (w : World) (B : Nat) (hB : w.heap.size = B) :
    Calls Try.prog 84 #[.int .i64 lo, .int .i64 hi, .slice (some ⟨B, 0, none⟩) 1 1] (w.alloc (.cells #[.int .i64 x] t)) fun e w' => e = .returned (.bool (inB x lo hi)) ∧ w.alloc (.cells #[.int .i64 x] t) = w' :=
  (areInRange_any B 1 1 [x] lo hi _ rfl (by omega) (lit1 w x t B hB)).mono fun e w' h => ⟨by rw [h.1]; simp, h.2⟩
theorem areTwo (lo hi x y : Int) (t : TypeId) (w : World) (B : Nat) (hB : w.heap.size = B) :
    Calls Try.prog 84 #[.int .i64 lo, .int .i64 hi, .slice (some ⟨B, 0, none⟩) 2 2] (w.alloc (.cells #[.int .i64 x, .int .i64 y] t)) fun e w' => e = .returned (.bool (inB x lo hi && inB y lo hi)) ∧ w.alloc (.cells #[.int .i64 x, .int .i64 y] t) = w' :=
  (areInRange_any B 2 2 [x, y] lo hi _ rfl (by omega) (lit2 w x y t B hB)).mono fun e w' h => ⟨by rw [h.1]; simp, h.2⟩
theorem lit4 (w : World) (x y u v : Int) (t : TypeId) (B : Nat) (hB : w.heap.size = B) : ∀ (k : Nat) z, [x, y, u, v][k]? = some z → (w.alloc (.cells #[.int .i64 x, .int .i64 y, .int .i64 u, .int .i64 v] t)).cell? ⟨B, k, none⟩ = some (.int .i64 z) := by
  subst hB
  intro k z h
  match k, h with
  | 0, h => simp at h; subst h; simp [World.cell?_alloc_new]
  | 1, h => simp at h; subst h; simp [World.cell?_alloc_new]
  | 2, h => simp at h; subst h; simp [World.cell?_alloc_new]
  | 3, h => simp at h; subst h; simp [World.cell?_alloc_new]
  | k + 4, h => simp at h
theorem areFour (lo hi x y u v : Int) (t : TypeId) (w : World) (B : Nat) (hB : w.heap.size = B) :
    Calls Try.prog 84 #[.int .i64 lo, .int .i64 hi, .slice (some ⟨B, 0, none⟩) 4 4] (w.alloc (.cells #[.int .i64 x, .int .i64 y, .int .i64 u, .int .i64 v] t)) fun e w' => e = .returned (.bool (inB x lo hi && (inB y lo hi && (inB u lo hi && inB v lo hi)))) ∧ w.alloc (.cells #[.int .i64 x, .int .i64 y, .int .i64 u, .int .i64 v] t) = w' :=
  (areInRange_any B 4 4 [x, y, u, v] lo hi _ rfl (by omega) (lit4 w x y u v t B hB)).mono fun e w' h => ⟨by rw [h.1]; simp, h.2⟩
end Go.Proofs.Ytpnaciamnigbnaa
