/- Memory that a call owns, told by an interval of blocks: a row in lo .. hi; what turns only there; rows elsewhere stay. -/
import Derived.Test.YtffbljbgmgifnaaDoorBox0
import Derived.Test.YtffbljbgmgifnaaDoorInts
namespace Go.Proofs.YtffbljbgmgifnaaDoor
open Go.RowKit

/-- From w to w' no block outside lo .. hi has turned. -/
structure Turned (lo hi : Nat) (w w' : World) : Prop where
  os : w'.os = w.os
  tape : w'.tape = w.tape
  output : w'.output = w.output
  size : w.heap.size ≤ w'.heap.size
  block : ∀ k, k < w.heap.size → (k < lo ∨ hi ≤ k) → w'.heap[k]? = w.heap[k]?
theorem Turned.refl (lo hi : Nat) (w : World) : Turned lo hi w w := ⟨rfl, rfl, rfl, Nat.le_refl _, fun _ _ _ => rfl⟩
theorem Turned.trans {lo hi : Nat} {a b c : World} (h : Turned lo hi a b) (k : Turned lo hi b c) : Turned lo hi a c :=
  ⟨k.os.trans h.os, k.tape.trans h.tape, k.output.trans h.output, Nat.le_trans h.size k.size, fun j hj ho => (k.block j (Nat.lt_of_lt_of_le hj h.size) ho).trans (h.block j hj ho)⟩
theorem Turned.of_below {lo hi : Nat} {w w' : World} (h : Below w.heap.size w w') : Turned lo hi w w' := ⟨h.os, h.tape, h.output, h.size, fun k hk _ => h.block k hk⟩
theorem Turned.of_grown {lo hi : Nat} {w w' : World} {row : Option Nat} (h : w.grownBy w' row) (hr : ∀ k, row = some k → lo ≤ k ∧ k < hi) : Turned lo hi w w' :=
  ⟨h.os, h.tape, h.output, h.size, fun k hk ho => h.block k hk (fun e => by have := hr k e.symm; omega)⟩
theorem Turned.below {lo hi B : Nat} {w0 w w' : World} (b : Below B w0 w) (h : Turned lo hi w w') (hB : B ≤ lo) (hw : B ≤ w.heap.size) : Below B w0 w' :=
  b.trans ⟨h.os, h.tape, h.output, h.size, fun k hk => h.block k (by omega) (.inl (by omega))⟩
theorem Turned.mono {lo hi lo' hi' : Nat} {w w' : World} (h : Turned lo hi w w') (h1 : lo' ≤ lo) (h2 : hi ≤ hi') : Turned lo' hi' w w' := ⟨h.os, h.tape, h.output, h.size, fun k hk ho => h.block k hk (by omega)⟩
theorem Turned.setCell {lo hi : Nat} {a w : World} (h : Turned lo hi a w) {p : Addr} (h1 : lo ≤ p.block) (h2 : p.block < hi) (u : Value) : Turned lo hi a (w.setCell p u) :=
  h.trans ⟨rfl, rfl, rfl, by simp [World.setCell], fun k _ ho => Below.heap_setCell _ _ _ _ (by omega)⟩
theorem Turned.alloc {lo hi : Nat} {a w : World} (h : Turned lo hi a w) (o : Obj) : Turned lo hi a (w.alloc o) := h.trans (Turned.of_below (bel_al1 w o))

/-- A row of the call's own that lies in lo .. hi. -/
def OwnIn (lo hi : Nat) (w : World) (e : TypeId) (size : Nat) (v : Value) (n : Nat) (L : List Value) : Prop := w.ownsRow lo e size v n L ∧ ∀ b, v.ownBlock = some b → b < hi
section
variable {lo hi : Nat} {w w' : World} {e : TypeId} {size n : Nat} {v : Value} {L : List Value}
theorem OwnIn.row (h : OwnIn lo hi w e size v n L) : w.ownsRow lo e size v n L := h.1
theorem OwnIn.lt (h : OwnIn lo hi w e size v n L) {b : Nat} (hb : v.ownBlock = some b) : lo ≤ b ∧ b < hi ∧ b < w.heap.size := ⟨(h.1.lt b hb).1, h.2 b hb, (h.1.lt b hb).2⟩
theorem OwnIn.keep (h : OwnIn lo hi w e size v n L) (hk : ∀ b, v.ownBlock = some b → w'.heap[b]? = w.heap[b]?) : OwnIn lo hi w' e size v n L := by
  refine ⟨⟨h.1.1, ?_⟩, h.2⟩
  rcases h.1.2 with h0 | ⟨g, cap, cur, rfl, hg, hh, r⟩
  · exact .inl h0
  · exact .inr ⟨g, cap, cur, rfl, hg, (hk g rfl).trans hh, r⟩
theorem OwnIn.turned (h : OwnIn lo hi w e size v n L) {lo' hi' : Nat} (t : Turned lo' hi' w w') (hd : hi ≤ lo' ∨ hi' ≤ lo) : OwnIn lo hi w' e size v n L :=
  h.keep fun b hb => t.block b (h.lt hb).2.2 (by have := h.lt hb; omega)
theorem OwnIn.below (h : OwnIn lo hi w e size v n L) (hb : Below w.heap.size w w') : OwnIn lo hi w' e size v n L := h.keep fun b hv => hb.block b (h.lt hv).2.2
theorem OwnIn.mono (h : OwnIn lo hi w e size v n L) {lo' hi' : Nat} (h1 : lo' ≤ lo) (h2 : hi ≤ hi') : OwnIn lo' hi' w e size v n L :=
  ⟨ownsRow_base h.1 h1, fun b hb => Nat.lt_of_lt_of_le (h.2 b hb) h2⟩
theorem OwnIn.of_row {base : Nat} (h : w.ownsRow base e size v n L) (hl : lo ≤ base) (hh : w.heap.size ≤ hi) : OwnIn lo hi w e size v n L :=
  ⟨ownsRow_base h hl, fun b hb => Nat.lt_of_lt_of_le (h.lt b hb).2 hh⟩
end
theorem isInts_ownIn {lo hi : Nat} {w : World} {v : Value} {xs : List Int} (h : OwnIn lo hi w 3 1 v xs.length (intCells xs)) : ∃ a cap, v = .slice a xs.length cap ∧ IsInts w a xs.length cap xs := by
  obtain ⟨a, c, e, hi, _⟩ := isInts_own h.1
  exact ⟨a, c, e, hi⟩

/-- A slice's three parts. -/
structure Hd where
  a : Option Addr
  n : Nat
  c : Nat
def Hd.v (h : Hd) : Value := .slice h.a h.n h.c
def Hd.blk (h : Hd) : Option Nat := h.v.ownBlock
/-- A row of integers of the call's own, by its parts. -/
def HInts (lo hi : Nat) (w : World) (h : Hd) (zs : List Int) : Prop := OwnIn lo hi w 3 1 (.slice h.a h.n h.c) zs.length (intCells zs)
theorem HInts.is {lo hi : Nat} {w : World} {h : Hd} {zs : List Int} (H : HInts lo hi w h zs) : IsInts w h.a h.n h.c zs ∧ h.n = zs.length := by
  obtain ⟨a, c, e, hi⟩ := isInts_ownIn H
  simp only [Value.slice.injEq] at e
  obtain ⟨rfl, e2, rfl⟩ := e
  rw [e2]; exact ⟨hi, rfl⟩
end Go.Proofs.YtffbljbgmgifnaaDoor
