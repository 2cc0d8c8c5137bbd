/- Stands a byte in a text? The model's l1Stands; and the library's index of a byte as the same question. -/
import Derived.Test.YtidaoijpbdljbaaDoorBase
import Derived.Lib.IndexAny
namespace Go.Proofs.YtidaoijpbdljbaaDoor
open Go.RowKit

/-- Stands the byte cv among the bytes l? -/
def stands (l : List UInt8) (cv : Int) : Bool := l.any fun x => (x.toNat : Int) == cv
theorem stands_snoc (l : List UInt8) (c : UInt8) (cv : Int) : stands (l ++ [c]) cv = (stands l cv || (c.toNat : Int) == cv) := by simp [stands]
theorem stands_of_take {l : List UInt8} {cv : Int} (k : Nat) (h : stands (l.take k) cv = true) : stands l cv = true := by
  unfold stands at *; rw [List.any_eq_true] at *
  obtain ⟨x, hx, hc⟩ := h
  exact ⟨x, List.mem_of_mem_take hx, hc⟩
theorem stands_index (l : List UInt8) (c : UInt8) : decide (0 ≤ Lib.indexByte l c) = stands l (c.toNat : Int) := by
  rw [← Lib.contains_iff_indexByte]
  unfold stands
  rw [Bool.eq_iff_iff, List.any_eq_true, List.contains_iff_mem]
  constructor
  · intro h; exact ⟨c, h, by simp⟩
  · rintro ⟨x, hx, he⟩
    have : x = c := UInt8.toNat_inj.1 (by simp at he; omega)
    exact this ▸ hx

end Go.Proofs.YtidaoijpbdljbaaDoor
