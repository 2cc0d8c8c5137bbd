/- Small lemmas on rows and blocks of the call's own, whatever their elements. -/
import Derived.Test.YtffbljbgmgifnaaDoorBase
import Derived.Laws.IdiomRangeMap
import Derived.Laws.OwnMore
namespace Go.Proofs.YtffbljbgmgifnaaDoor
open Go.RowKit

theorem bel_drew' {w w1 : World} (h : Below w.heap.size w w1) : Below w.heap.size w w1.drew := ⟨h.os, h.tape, h.output, h.size, h.block⟩
theorem bel_al1 (w : World) (o : Obj) : Below w.heap.size w (w.alloc o) := (Below.refl _ _).alloc (Nat.le_refl _) o
theorem size_al (w : World) (o : Obj) : (w.alloc o).heap.size = w.heap.size + 1 := by
  show (w.heap.push o).size = _
  simp
theorem bel_al2 (w : World) (o o' : Obj) : Below w.heap.size w ((w.alloc o).alloc o') := Below.then' (bel_al1 _ _) (bel_al1 _ _)
theorem bel_al3 (w : World) (o o' o'' : Obj) : Below w.heap.size w (((w.alloc o).alloc o').alloc o'') := Below.then' (bel_al2 _ _ _) (bel_al1 _ _)
theorem ownsRow_grown0 {w w' : World} {base : Nat} {e : TypeId} {size n : Nat} {v : Value} {xs : List Value} {row : Option Nat} (h : w.ownsRow base e size v n xs) (hg : w.grownBy w' row) (hne : ∀ k, row = some k → k < base) : w'.ownsRow base e size v n xs := by
  refine ⟨h.1, ?_⟩
  rcases h.2 with h0 | ⟨g, cap, cur, rfl, hb, hh, r⟩
  · exact .inl h0
  · exact .inr ⟨g, cap, cur, rfl, hb, (hg.block g (Array.getElem?_eq_some_iff.1 hh).1 (fun e => by have := hne g e.symm; omega)).trans hh, r⟩
theorem cons_congr {α : Type} {a b : α} {l m : List α} (h : a = b) (t : l = m) : a :: l = b :: m := by rw [h, t]
theorem int_eq {k : IntKind} {a b : Int} (h : a = b) : Value.int k a = .int k b := by rw [h]
theorem own_eq {w : World} {base n : Nat} {e : TypeId} {size : Nat} {v : Value} {L M : List Value} (h : w.ownsRow base e size v n L) (hl : L = M) : w.ownsRow base e size v n M := hl ▸ h
theorem own_cell {w : World} {base n c g : Nat} {e : TypeId} {size : Nat} {L : List Value} (h : w.ownsRow base e size (.slice (some ⟨g, 0, none⟩) n c) n L) (i : Nat) (hi : i < L.length) : ∃ u, w.cell? ⟨g, i, none⟩ = some u := by
  have hc := h.cells (g := g) rfl i _ (List.getElem?_eq_getElem hi)
  rw [add_plain, Nat.zero_add] at hc
  exact ⟨_, hc⟩
end Go.Proofs.YtffbljbgmgifnaaDoor
