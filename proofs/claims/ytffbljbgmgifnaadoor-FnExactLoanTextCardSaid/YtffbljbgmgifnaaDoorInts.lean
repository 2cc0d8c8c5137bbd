/- Rows of integers: what is known of one; whether two are equal; the law's marks in one. -/
import Derived.Test.YtffbljbgmgifnaaDoorBase
import Derived.Laws.OwnMore
namespace Go.Proofs.YtffbljbgmgifnaaDoor
open Go.RowKit

/-- The slice 'a len cap' holds the integers xs. -/
def IsInts (w : World) (a : Option Addr) (len cap : Nat) (xs : List Int) : Prop :=
  len = xs.length ∧ len ≤ cap ∧ cap ≤ maxLen ∧ (len = 0 ∨ ∃ b o, a = some ⟨b, o, none⟩ ∧ b < w.heap.size ∧ ∀ (k : Nat) z, xs[k]? = some z → w.cell? ⟨b, o + k, none⟩ = some (.int .i64 z))
theorem IsInts.below {w w' : World} {a : Option Addr} {len cap : Nat} {xs : List Int} (h : IsInts w a len cap xs) (hb : Below w.heap.size w w') : IsInts w' a len cap xs := by
  refine ⟨h.1, h.2.1, h.2.2.1, ?_⟩
  rcases h.2.2.2 with h0 | ⟨b, o, rfl, h1, h2⟩
  · exact .inl h0
  · exact .inr ⟨b, o, rfl, Nat.lt_of_lt_of_le h1 hb.size, fun k z hz => (hb.cell (p := ⟨b, o + k, none⟩) h1).trans (h2 k z hz)⟩
theorem IsInts.grown {w w' : World} {a : Option Addr} {len cap : Nat} {xs : List Int} {row : Option Nat} (h : IsInts w a len cap xs) (hg : w.grownBy w' row) (hne : ∀ b o, a = some ⟨b, o, none⟩ → some b ≠ row) : IsInts w' a len cap xs := by
  refine ⟨h.1, h.2.1, h.2.2.1, ?_⟩
  rcases h.2.2.2 with h0 | ⟨b, o, rfl, h1, h2⟩
  · exact .inl h0
  · exact .inr ⟨b, o, rfl, Nat.lt_of_lt_of_le h1 hg.size, fun k z hz => (World.cell?_of_block (w := w) (a := ⟨b, o + k, none⟩) (hg.block b h1 (hne b o rfl))).trans (h2 k z hz)⟩
theorem IsInts.at {w : World} {a : Option Addr} {len cap : Nat} {xs : List Int} (h : IsInts w a len cap xs) (hpos : 0 < len) : ∃ b o, a = some ⟨b, o, none⟩ ∧ b < w.heap.size ∧ ∀ (k : Nat) z, xs[k]? = some z → w.cell? ⟨b, o + k, none⟩ = some (.int .i64 z) := by
  rcases h.2.2.2 with h0 | h1
  · omega
  · exact h1
theorem int_at {xs : List Int} {len k : Nat} (hl : Hid (len = xs.length)) (hk : k < len) : ∃ s, xs[k]? = some s := ⟨xs[k]'(by have := hl.out; omega), List.getElem?_eq_getElem _⟩
def intCells (xs : List Int) : List Value := xs.map (Value.int .i64)
theorem intCells_len (xs : List Int) : (intCells xs).length = xs.length := by simp [intCells]
theorem intCells_snoc (xs : List Int) (z : Int) : intCells (xs ++ [z]) = intCells xs ++ [.int .i64 z] := by simp [intCells]
theorem isInts_own {w : World} {base : Nat} {v : Value} {xs : List Int} (h : w.ownsRow base 3 1 v xs.length (intCells xs)) :
    ∃ a cap, v = .slice a xs.length cap ∧ IsInts w a xs.length cap xs ∧ ∀ b o, a = some ⟨b, o, none⟩ → v.ownBlock = some b := by
  have hlt := h.lt
  rcases h.2 with ⟨rfl, h0⟩ | ⟨g, cap, cur, rfl, hg, hh, hn, hcap, hsz, htake⟩
  · exact ⟨none, 0, by rw [h0], ⟨rfl, by omega, by simp [maxLen], .inl h0⟩, fun _ _ h => by cases h⟩
  · refine ⟨some ⟨g, 0, none⟩, cap, rfl, ⟨rfl, hn, hcap, ?_⟩, fun b o h => by cases h; rfl⟩
    by_cases hz : xs.length = 0
    · exact .inl hz
    · refine .inr ⟨g, 0, rfl, (hlt g rfl).2, fun k z hz => ?_⟩
      have hc := h.cells (g := g) rfl k (.int .i64 z) (by simp [intCells, hz])
      rw [add_plain] at hc; exact hc
theorem ownsRow_grown' {w w' : World} {base : Nat} {e : TypeId} {size n : Nat} {v : Value} {xs : List Value} {row : Option Nat} (h : w.ownsRow base e size v n xs) (hg : w.grownBy w' row) (hne : ∀ k, row = some k → k < base) : w'.ownsRow base e size v n xs := by
  refine ⟨h.1, ?_⟩
  rcases h.2 with h0 | ⟨g, cap, cur, rfl, hb, hh, r⟩
  · exact .inl h0
  · exact .inr ⟨g, cap, cur, rfl, hb, (hg.block g (Array.getElem?_eq_some_iff.1 hh).1 (fun e => by have := hne g e.symm; omega)).trans hh, r⟩
theorem infoInt : (Tryd.prog.info? 3).map (fun i => (i.zero, i.size, i.bytes)) = some (some (.int .i64 0), 1, 8) := by kernel_rfl
/-- A row of integers of the call's own and whether it stands, and the world below as it was. -/
def IntsOk (xs : List Int) (ok : Bool) (w : World) (e : Ending) (w' : World) : Prop := ∃ v, e = .returned (.tuple #[v, .bool ok]) ∧ w'.ownsRow w.heap.size 3 1 v xs.length (intCells xs) ∧ Below w.heap.size w w'


/-- The marks k, k + 1, .. k + n - 1. -/
def marksI (k n : Nat) : List Int := (List.range n).map fun i => ((k + i : Nat) : Int)
theorem marksI_len (k n : Nat) : (marksI k n).length = n := by simp [marksI]
theorem marksI_succ (k n : Nat) : marksI k (n + 1) = marksI k n ++ [((k + n : Nat) : Int)] := by simp [marksI, List.range_succ]
theorem marksI_at (k n i : Nat) (h : i < n) : (marksI k n)[i]? = some ((k + i : Nat) : Int) := by simp [marksI, h]
theorem set_markI {k j : Nat} {L : List Value} (h : j < L.length) : (intCells (marksI k j) ++ L.drop j).set j (.int .i64 ((k + j : Nat) : Int)) = intCells (marksI k (j + 1)) ++ L.drop (j + 1) := by
  have hl : (intCells (marksI k j)).length = j := by rw [intCells_len, marksI_len]
  rw [List.set_append_right _ _ (by omega), hl, Nat.sub_self, List.drop_eq_getElem_cons h, List.set_cons_zero, marksI_succ, intCells_snoc]
  simp
/-- The row v of n values bears the marks from k on; nothing else that was there has turned. -/
def MarkI (base k n : Nat) (v : Value) (w : World) (e : Ending) (w' : World) : Prop := e = .returned (.int .i64 ((k + n : Nat) : Int)) ∧ w'.ownsRow base 3 1 v n (intCells (marksI k n)) ∧ w.grownBy w' v.ownBlock

end Go.Proofs.YtffbljbgmgifnaaDoor
