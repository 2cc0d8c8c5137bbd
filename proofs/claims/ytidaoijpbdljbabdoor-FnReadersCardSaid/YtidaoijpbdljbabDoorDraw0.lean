/- The code and the cursor as the laws' drawing functions meet them. -/
import Derived.Test.YtidaoijpbdljbabDoorCur
namespace Go.Proofs.YtidaoijpbdljbabDoor
open Go.RowKit

/-- The code as the law holds it: some bytes of the world as it came in. -/
def CodeIn (w : World) (a : Option Addr) (len cap : Nat) : Prop :=
  len ≤ cap ∧ cap ≤ maxLen ∧ (len = 0 ∨ ∃ b o, a = some ⟨b, o, none⟩ ∧ b < w.heap.size ∧ ∀ i, i < len → ∃ c : Int, 0 ≤ c ∧ c ≤ 255 ∧ w.cell? ⟨b, o + i, none⟩ = some (.int .u8 c))
theorem u8_wf {n : Int} (h : (Lit.int .u8 n).wf = true) : 0 ≤ n ∧ n ≤ 255 := by
  simp [Lit.wf] at h
  have e0 : IntKind.u8.min = 0 := by decide
  have e1 : IntKind.u8.max = 255 := by decide
  omega
theorem CodeIn.of_row {w : World} {a : Option Addr} {len cap : Nat} {zs : List Int} (h : IsRow .u8 w a len cap zs) : CodeIn w a len cap := by
  rcases h with ⟨rfl, rfl, rfl, rfl⟩ | ⟨x, rfl, h1, h2, h3, h4, h5⟩
  · exact ⟨by omega, by simp, .inl rfl⟩
  · refine ⟨h1, h2, ?_⟩
    by_cases h0 : len = 0
    · exact .inl h0
    obtain ⟨b, o, spot⟩ := x
    have k1 := h4 0 (by omega)
    have hspot : spot = none := by simpa [Addr.add] using World.cell?_spot k1
    subst hspot
    refine .inr ⟨b, o, rfl, ?_, fun i hi => ?_⟩
    · have : w.cell? ⟨b, o, none⟩ ≠ none := by
        have := k1
        simp [Addr.add] at this
        rw [this]; simp
      by_cases hb : b < w.heap.size
      · exact hb
      · exfalso; apply this; simp [World.cell?, Array.getElem?_eq_none (Nat.le_of_not_lt hb)]
    · have hc := h4 i (by omega)
      rw [add_plain] at hc
      have hw := h5 (zs.getD i 0) (by
        have hi' : i < zs.length := by omega
        rw [List.getD_eq_getElem?_getD, List.getElem?_eq_getElem hi']
        exact List.getElem_mem hi')
      obtain ⟨b0, b1⟩ := u8_wf hw
      exact ⟨zs.getD i 0, b0, b1, hc⟩
theorem CodeIn.below {w w' : World} {a : Option Addr} {len cap : Nat} (h : CodeIn w a len cap) (hb : Below w.heap.size w w') : CodeIn w' a len cap := by
  refine ⟨h.1, h.2.1, ?_⟩
  rcases h.2.2 with h0 | ⟨b, o, rfl, h1, h2⟩
  · exact .inl h0
  · refine .inr ⟨b, o, rfl, Nat.lt_of_lt_of_le h1 hb.size, fun i hi => ?_⟩
    obtain ⟨c, c0, c1, hc⟩ := h2 i hi
    exact ⟨c, c0, c1, (hb.cell (p := ⟨b, o + i, none⟩) h1).trans hc⟩
theorem CodeIn.at {w w' : World} {a : Option Addr} {len cap : Nat} (h : CodeIn w a len cap) (hb : Below w.heap.size w w') : CodeAt w' a len cap w.heap.size := by
  refine ⟨h.1, h.2.1, ?_⟩
  rcases (h.below hb).2.2 with h0 | ⟨b, o, rfl, h1, h2⟩
  · exact .inl h0
  · by_cases h0 : len = 0
    · exact .inl h0
    refine .inr ⟨b, o, rfl, h1, ?_, h2⟩
    rcases h.2.2 with h00 | ⟨b', o', e, h1', _⟩
    · omega
    · cases e; omega
theorem bel_alloc (w : World) (o : Obj) : Below w.heap.size w (w.alloc o) := (Below.refl _ _).alloc (Nat.le_refl _) o
theorem lits_of (w : World) (C : Array Value) (T : TypeId) (m n : Nat) (hn : C.size = n) (hC : ∀ v ∈ C.toList, ∃ x : ByteArray, x.size ≤ m ∧ v = .string x) : ∀ i, i < n → ∃ x : ByteArray, x.size ≤ m ∧ (w.alloc (.cells C T)).cell? ⟨w.heap.size, 0 + i, none⟩ = some (.string x) := by
  subst hn
  intro i hi
  obtain ⟨x, hx, e⟩ := hC C[i] (by simp)
  refine ⟨x, hx, ?_⟩
  rw [World.cell?_alloc_new, Nat.zero_add, Array.getElem?_eq_getElem hi, e]
theorem CurAt.alloc {w : World} {bc : Nat} {a : Option Addr} {len cap t : Nat} (h : CurAt w bc a len cap t) (o : Obj) : CurAt (w.alloc o) bc a len cap t := h.heap (Below.heap_alloc w o bc h.lt)
theorem CodeAt.alloc {w : World} {bc : Nat} {a : Option Addr} {len cap : Nat} (h : CodeAt w a len cap bc) (o : Obj) : CodeAt (w.alloc o) a len cap bc := h.grown (grown_below (bel_alloc w o) _)

theorem below_cur {w w0 w' : World} {row : Option Nat} (hb : Below w.heap.size w w0) (hr : row = some w.heap.size) (hg : w0.grownBy w' row) : Below w.heap.size w w' := hb.grown hg hb.size (fun k e => by rw [hr] at e; cases e; exact Nat.le_refl _)
theorem cur_new (w : World) (a : Option Addr) (len cap : Nat) : CurAt (w.alloc (.cells #[.slice a len cap, .int .i64 0, .int .u64 0] 51)) w.heap.size a len cap 0 := ⟨0, 0, Nat.le_refl _, by omega, by omega, by
  show (w.heap.push _)[w.heap.size]? = _
  simp⟩
end Go.Proofs.YtidaoijpbdljbabDoor
