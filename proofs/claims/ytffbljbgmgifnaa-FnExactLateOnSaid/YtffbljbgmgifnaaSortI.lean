/- The library's sort of numbers at a row of the call's own. -/
import Derived.Test.YtffbljbgmgifnaaShelf
import Derived.Test.YtffbljbgmgifnaaInts
import Derived.Sort.OwnSortedInts
namespace Go.Proofs.Ytffbljbgmgifnaa
open Go.RowKit Go.Sort

/-- The numbers, sorted, in the same row. -/
def SortedOwn (base : Nat) (v : Value) (zs : List Int) (w : World) (e : Ending) (w' : World) : Prop :=
  e = .returned (.tuple #[]) ∧ w'.ownsRow base 3 1 v zs.length (intCells (zs.mergeSort fun x y => decide (x ≤ y))) ∧ ∀ (B : Nat) (w0 : World), Below B w0 w → B ≤ base → B ≤ w.heap.size → Below B w0 w'
theorem sortI_any (base : Nat) (v : Value) (zs : List Int) (w : World) (h : w.ownsRow base 3 1 v zs.length (intCells zs)) (hl : zs.length < 4611686018427387904) :
    Calls Try.prog 142 #[v] w (SortedOwn base v zs w) := by
  rcases h.2 with ⟨rfl, h0⟩ | ⟨g, cap, cur, rfl, hbase, hb, h1, h2, h3, h4⟩
  · obtain rfl : zs = [] := List.length_eq_zero_iff.1 h0
    refine (Try.slices_Sort_int_none none 0 w).mono ?_
    rintro e w' ⟨rfl, rfl⟩
    exact ⟨rfl, by simpa using h, fun B w0 hb _ _ => hb⟩
  · have hg : g < w.heap.size := (Array.getElem?_eq_some_iff.1 hb).1
    refine (Try.slices_Sort_int g 0 cap zs w (holds_of_blockI hb (by simpa [intCells] using h4)) hg hl).mono ?_
    rintro e w' ⟨rfl, n, os, rfl⟩
    refine ⟨rfl, ?_, fun B w0 hb' hB hBw => hb'.grown (grownBy_sortedI _) hBw (fun k e => by cases e; omega)⟩
    exact ownsRow_sortedI (by simp) hbase hb h1 h2 h3
end Go.Proofs.Ytffbljbgmgifnaa
