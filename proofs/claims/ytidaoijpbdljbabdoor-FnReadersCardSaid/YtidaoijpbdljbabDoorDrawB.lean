/- Small lemmas for the laws' draws, whatever they draw. -/
import Derived.Test.YtidaoijpbdljbabDoorDraw0
import Derived.Test.YtidaoijpbdljbabDoorBox0
namespace Go.Proofs.YtidaoijpbdljbabDoor
open Go.RowKit

theorem ints_at (w : World) (C : Array Value) (T : TypeId) (lo hi : Int) (n B : Nat) (hB : w.heap.size = B) (hn : C.size = n) (hC : ∀ v ∈ C.toList, ∃ x : Int, lo ≤ x ∧ x ≤ hi ∧ v = .int .i64 x) : ∀ i, i < n → ∃ x : Int, lo ≤ x ∧ x ≤ hi ∧ (w.alloc (.cells C T)).cell? ⟨B, 0 + i, none⟩ = some (.int .i64 x) := by
  subst hn hB
  intro i hi'
  obtain ⟨x, h1, h2, e⟩ := hC C[i] (by simp)
  refine ⟨x, h1, h2, ?_⟩
  rw [World.cell?_alloc_new, Nat.zero_add, Array.getElem?_eq_getElem hi', e]
theorem strs_at (w : World) (C : Array Value) (T : TypeId) (m n B : Nat) (hB : w.heap.size = B) (hn : C.size = n) (hC : ∀ v ∈ C.toList, ∃ x : ByteArray, x.size ≤ m ∧ v = .string x) : ∀ i, i < n → ∃ x : ByteArray, x.size ≤ m ∧ (w.alloc (.cells C T)).cell? ⟨B, 0 + i, none⟩ = some (.string x) := by
  subst hn hB
  intro i hi'
  obtain ⟨x, h1, e⟩ := hC C[i] (by simp)
  refine ⟨x, h1, ?_⟩
  rw [World.cell?_alloc_new, Nat.zero_add, Array.getElem?_eq_getElem hi', e]
theorem CurAt.grown {w w' : World} {bc : Nat} {a : Option Addr} {len cap t : Nat} {row : Option Nat} (h : CurAt w bc a len cap t) (hg : w.grownBy w' row) (hne : some bc ≠ row) : CurAt w' bc a len cap t := h.heap (hg.block bc h.lt hne)
theorem grow_st {w w' : World} {row : Option Nat} (h : w.grownBy w' row) {p : Addr} (hp : w.heap.size ≤ p.block) (v : Value) : w.grownBy (w'.setCell p v) row :=
  ⟨h.os, h.tape, h.output, by rw [World.size_setCell]; exact h.size, fun k hk hr => (heap_setCell_other w' p k v (by omega)).trans (h.block k hk hr)⟩
theorem grow_al {w w' : World} {row : Option Nat} (h : w.grownBy w' row) (o : Obj) : w.grownBy (w'.alloc o) row := grown_trans h (grown_below ((Below.refl _ _).alloc (Nat.le_refl _) o) row)
theorem grown_own0 {w w1 w2 : World} {r row : Option Nat} (h : w.grownBy w1 r) (k : w1.grownBy w2 row) (hr : ∀ j, row = some j → w.heap.size ≤ j) : w.grownBy w2 r :=
  ⟨k.os.trans h.os, k.tape.trans h.tape, k.output.trans h.output, Nat.le_trans h.size k.size, fun j hj hne => (k.block j (Nat.lt_of_lt_of_le hj h.size) (fun e => by have := hr j e.symm; omega)).trans (h.block j hj hne)⟩
theorem pick_anyI (bc : Nat) (a : Option Addr) (len cap t : Nat) (n : Int) (w : World) (hc : CurAt w bc a len cap t) (hd : CodeAt w a len cap bc) (ht : t ≤ 900000) (hn0 : 1 ≤ n) (hn : n ≤ 65536) :
    Calls Tryd.prog 54 #[.pointer (some ⟨bc, 0, none⟩), .int .i64 n] w (PickPost bc a len cap (t + 2) n w) := by
  obtain ⟨m, rfl⟩ := Int.eq_ofNat_of_zero_le (show 0 ≤ n by omega)
  exact pick_any bc a len cap t m w hc hd ht (by omega) (by omega)
end Go.Proofs.YtidaoijpbdljbabDoor
