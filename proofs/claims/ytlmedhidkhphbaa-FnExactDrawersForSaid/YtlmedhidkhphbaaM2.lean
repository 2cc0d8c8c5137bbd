/- Texts in one: Own, Open3, DrawerT, Sheet, Up, Up2, LawsR, Fl. -/
import Derived.Test.YtlmedhidkhphbaaM1
import Derived.Deep.RegionWith
import Derived.Laws.OwnMore
import Derived.Handy
import Derived.Laws.IdiomRangeMap
namespace Go.Proofs.Ytlmedhidkhphbaa
open Go.RowKit

/-- From w to w' no block outside lo .. hi has turned. -/
structure Turned (lo hi : Nat) (w w' : World) : Prop where
  os : w'.os = w.os
  tape : w'.tape = w.tape
  output : w'.output = w.output
  size : w.heap.size ≤ w'.heap.size
  block : ∀ k, k < w.heap.size → (k < lo ∨ hi ≤ k) → w'.heap[k]? = w.heap[k]?
theorem Turned.refl (lo hi : Nat) (w : World) : Turned lo hi w w := ⟨rfl, rfl, rfl, Nat.le_refl _, fun _ _ _ => rfl⟩
theorem Turned.trans {lo hi : Nat} {a b c : World} (h : Turned lo hi a b) (k : Turned lo hi b c) : Turned lo hi a c :=
  ⟨k.os.trans h.os, k.tape.trans h.tape, k.output.trans h.output, Nat.le_trans h.size k.size, fun j hj ho => (k.block j (Nat.lt_of_lt_of_le hj h.size) ho).trans (h.block j hj ho)⟩
theorem Turned.of_below {lo hi : Nat} {w w' : World} (h : Below w.heap.size w w') : Turned lo hi w w' := ⟨h.os, h.tape, h.output, h.size, fun k hk _ => h.block k hk⟩
theorem Turned.of_grown {lo hi : Nat} {w w' : World} {row : Option Nat} (h : w.grownBy w' row) (hr : ∀ k, row = some k → lo ≤ k ∧ k < hi) : Turned lo hi w w' :=
  ⟨h.os, h.tape, h.output, h.size, fun k hk ho => h.block k hk (fun e => by have := hr k e.symm; omega)⟩
theorem Turned.below {lo hi B : Nat} {w0 w w' : World} (b : Below B w0 w) (h : Turned lo hi w w') (hB : B ≤ lo) (hw : B ≤ w.heap.size) : Below B w0 w' :=
  b.trans ⟨h.os, h.tape, h.output, h.size, fun k hk => h.block k (by omega) (.inl (by omega))⟩
theorem Turned.mono {lo hi lo' hi' : Nat} {w w' : World} (h : Turned lo hi w w') (h1 : lo' ≤ lo) (h2 : hi ≤ hi') : Turned lo' hi' w w' := ⟨h.os, h.tape, h.output, h.size, fun k hk ho => h.block k hk (by omega)⟩
theorem Turned.setCell {lo hi : Nat} {a w : World} (h : Turned lo hi a w) {p : Addr} (h1 : lo ≤ p.block) (h2 : p.block < hi) (u : Value) : Turned lo hi a (w.setCell p u) :=
  h.trans ⟨rfl, rfl, rfl, by simp [World.setCell], fun k _ ho => Below.heap_setCell _ _ _ _ (by omega)⟩
theorem Turned.alloc {lo hi : Nat} {a w : World} (h : Turned lo hi a w) (o : Obj) : Turned lo hi a (w.alloc o) := h.trans (Turned.of_below (bel_al1 w o))

/-- A row of the call's own that lies in lo .. hi. -/
def OwnIn (lo hi : Nat) (w : World) (e : TypeId) (size : Nat) (v : Value) (n : Nat) (L : List Value) : Prop := w.ownsRow lo e size v n L ∧ ∀ b, v.ownBlock = some b → b < hi
section
variable {lo hi : Nat} {w w' : World} {e : TypeId} {size n : Nat} {v : Value} {L : List Value}
theorem OwnIn.row (h : OwnIn lo hi w e size v n L) : w.ownsRow lo e size v n L := h.1
theorem OwnIn.lt (h : OwnIn lo hi w e size v n L) {b : Nat} (hb : v.ownBlock = some b) : lo ≤ b ∧ b < hi ∧ b < w.heap.size := ⟨(h.1.lt b hb).1, h.2 b hb, (h.1.lt b hb).2⟩
theorem OwnIn.keep (h : OwnIn lo hi w e size v n L) (hk : ∀ b, v.ownBlock = some b → w'.heap[b]? = w.heap[b]?) : OwnIn lo hi w' e size v n L := by
  refine ⟨⟨h.1.1, ?_⟩, h.2⟩
  rcases h.1.2 with h0 | ⟨g, cap, cur, rfl, hg, hh, r⟩
  · exact .inl h0
  · exact .inr ⟨g, cap, cur, rfl, hg, (hk g rfl).trans hh, r⟩
theorem OwnIn.turned (h : OwnIn lo hi w e size v n L) {lo' hi' : Nat} (t : Turned lo' hi' w w') (hd : hi ≤ lo' ∨ hi' ≤ lo) : OwnIn lo hi w' e size v n L :=
  h.keep fun b hb => t.block b (h.lt hb).2.2 (by have := h.lt hb; omega)
theorem OwnIn.below (h : OwnIn lo hi w e size v n L) (hb : Below w.heap.size w w') : OwnIn lo hi w' e size v n L := h.keep fun b hv => hb.block b (h.lt hv).2.2
theorem OwnIn.mono (h : OwnIn lo hi w e size v n L) {lo' hi' : Nat} (h1 : lo' ≤ lo) (h2 : hi ≤ hi') : OwnIn lo' hi' w e size v n L :=
  ⟨ownsRow_base h.1 h1, fun b hb => Nat.lt_of_lt_of_le (h.2 b hb) h2⟩
theorem OwnIn.of_row {base : Nat} (h : w.ownsRow base e size v n L) (hl : lo ≤ base) (hh : w.heap.size ≤ hi) : OwnIn lo hi w e size v n L :=
  ⟨ownsRow_base h hl, fun b hb => Nat.lt_of_lt_of_le (h.lt b hb).2 hh⟩
end
theorem isInts_ownIn {lo hi : Nat} {w : World} {v : Value} {xs : List Int} (h : OwnIn lo hi w 3 1 v xs.length (intCells xs)) : ∃ a cap, v = .slice a xs.length cap ∧ IsInts w a xs.length cap xs := by
  obtain ⟨a, c, e, hi, _⟩ := isInts_own h.1
  exact ⟨a, c, e, hi⟩

/-- A slice's three parts. -/
structure Hd where
  a : Option Addr
  n : Nat
  c : Nat
def Hd.v (h : Hd) : Value := .slice h.a h.n h.c
def Hd.blk (h : Hd) : Option Nat := h.v.ownBlock
/-- A row of integers of the call's own, by its parts. -/
def HInts (lo hi : Nat) (w : World) (h : Hd) (zs : List Int) : Prop := OwnIn lo hi w 3 1 (.slice h.a h.n h.c) zs.length (intCells zs)
theorem HInts.is {lo hi : Nat} {w : World} {h : Hd} {zs : List Int} (H : HInts lo hi w h zs) : IsInts w h.a h.n h.c zs ∧ h.n = zs.length := by
  obtain ⟨a, c, e, hi⟩ := isInts_ownIn H
  simp only [Value.slice.injEq] at e
  obtain ⟨rfl, e2, rfl⟩ := e
  rw [e2]; exact ⟨hi, rfl⟩
end Go.Proofs.Ytlmedhidkhphbaa
namespace Go.Proofs.Ytlmedhidkhphbaa
open Go.RowKit Go.ChangeShapes Go.WideShapes Go.Deep

section
variable {H : Type} {enc : TypeId × Value → H} {P : Program} {w : World} {base : Nat} {spare : Nat → Bool} {held : Bool}
/-- A cell that reads as a slice of integers. -/
theorem trod_ints {t e : TypeId} {fuel : Nat} {c : Value} {x : DataW H × List MemPlace} (ht : P.underlying t = some (.slice e)) (he : P.underlying e = some (.int .i64)) (hC : P.cellsOf e = 1) (h : DataW.trod enc P w base (fun _ => true) held fuel t [c] = some x) :
    ∃ (hd : Hd) (zs : List Int), c = .slice hd.a hd.n hd.c ∧ IsInts w hd.a hd.n hd.c zs := by
  rcases open_slice ht h with ⟨hcs, _⟩ | ⟨y, l, cp, m, n, D, Pl, hcs, hb, hl, hm, hmm, _, hi⟩
  · refine ⟨⟨none, 0, 0⟩, [], by simpa using hcs, rfl, Nat.le_refl _, by simp [maxLen], .inl rfl⟩
  · simp at hmm
    subst hmm
    have hc : c = .slice (some y) l m := by simpa using hcs
    subst hc
    obtain ⟨b, o, spot⟩ := y
    have each : ∀ i, i < l → ∃ z : Int, w.cell? ((⟨b, o, spot⟩ : Addr).add i) = some (.int .i64 z) := by
      intro i hlt
      obtain ⟨cs', hc, ht'⟩ := hi i (by omega)
      rw [hC] at hc
      obtain ⟨_, hcl, hat⟩ := World.cells?_some hc
      obtain ⟨z, hz, _⟩ := DataW.trod_int he ht'
      refine ⟨z, ?_⟩
      have h1 := hat 0 (by omega)
      rw [hz] at h1
      rw [Nat.mul_one] at h1
      rw [Go.Deep.add_add] at h1
      simpa using h1
    by_cases h0 : l = 0
    · exact ⟨⟨some ⟨b, o, spot⟩, l, m⟩, [], rfl, by simpa using h0, hl, hm, .inl h0⟩
    · obtain ⟨z0, h1⟩ := each 0 (by omega)
      have hspot : spot = none := by simpa [Addr.add] using World.cell?_spot h1
      subst hspot
      obtain ⟨f, hf⟩ := Classical.axiomOfChoice (r := fun (i : Fin l) (z : Int) => w.cell? ((⟨b, o, none⟩ : Addr).add i.1) = some (.int .i64 z)) (fun i => each i.1 i.2)
      refine ⟨⟨some ⟨b, o, none⟩, l, m⟩, (List.finRange l).map f, rfl, by simp, hl, hm, .inr ⟨b, o, rfl, ?_, fun k z hz => ?_⟩⟩
      · rw [add_plain] at h1
        exact World.lt_of_cell h1
      · obtain ⟨hk, e2⟩ := List.getElem?_eq_some_iff.1 hz
        have hk' : k < l := by simpa using hk
        simp at e2
        subst e2
        have := hf ⟨k, hk'⟩
        rw [add_plain] at this
        exact this
/-- Each field of a struct that reads, reads. -/
theorem cells_trod {e : TypeId} {fs : Array Field} {fuel : Nat} {cs : List Value} {x : DataW H × List MemPlace} (he : P.underlying e = some (.struct fs)) (hone : oneCellFields P fs = true) (hsz : cs.length = fs.size)
    (h : DataW.trod enc P w base spare held fuel e cs = some x) : ∀ (j : Nat) (f : Field), fs[j]? = some f → ∃ c n y, cs[j]? = some c ∧ DataW.trod enc P w base spare held n f.type [c] = some y := by
  obtain ⟨ys, n, _, _, _, hyl, hf⟩ := DataW.trod_struct he h
  intro j f hj'
  have hj : j < fs.size := (Array.getElem?_eq_some_iff.1 hj').1
  obtain ⟨ho, hk⟩ := hone_of hone j _ hj'
  have h1 := hf j _ hj'
  rw [ho, hk] at h1
  have hone' : (cs.drop j).take 1 = [cs[j]'(by omega)] := by
    rw [List.drop_eq_getElem_cons (by omega)]
    rfl
  rw [hone'] at h1
  have hys : ys[j]? = some (ys[j]'(by omega)) := List.getElem?_eq_getElem (by omega)
  exact ⟨cs[j]'(by omega), _, _, List.getElem?_eq_getElem (by omega), h1.trans hys⟩
theorem open_trod_struct {r : Reach} {b0 : Nat} {t : TypeId} {fs : Array Field} {v : Value} {d : DataW H} {p : List MemPlace} (hs : P.underlying t = some (.struct fs)) (hone : oneCellFields P fs = true) (hC : P.cellsOf t = fs.size)
    (hv : Value.okWide P w r b0 t v) (h : DataW.Trod enc P w base spare held t v d p) : ∃ cs : List Value, v = .agg cs.toArray ∧ cs.length = fs.size ∧ ∀ (j : Nat) (f : Field), fs[j]? = some f → ∃ c n y, cs[j]? = some c ∧ DataW.trod enc P w base spare held n f.type [c] = some y := by
  obtain ⟨cs, rfl, hsz⟩ := okWide_struct hs hv
  obtain ⟨fuel, hf⟩ := h
  obtain ⟨l⟩ := cs
  have hl : l.length = fs.size := by simpa using hsz.trans hC
  exact ⟨l, rfl, hl, cells_trod hs hone hl (by simpa [Value.cells] using hf)⟩
theorem open_trod_structs {t e : TypeId} {fs : Array Field} {fuel : Nat} {a : Option Addr} {len cap : Nat} {x : DataW H × List MemPlace} (ht : P.underlying t = some (.slice e)) (he : P.underlying e = some (.struct fs))
    (hone : oneCellFields P fs = true) (hC : P.cellsOf e = fs.size) (hpos : 0 < fs.size) (h : DataW.trod enc P w base (fun _ => true) held fuel t (Value.slice a len cap).cells.toList = some x) :
    (a = none ∧ len = 0 ∧ cap = 0) ∨ ∃ (b o : Nat), (len = 0 ∨ a = some ⟨b, o, none⟩) ∧ len ≤ cap ∧ cap ≤ maxLen ∧ (0 < len → b < w.heap.size) ∧ ∀ i, i < len → ∀ (j : Nat) (f : Field), fs[j]? = some f → ∃ c n y, w.cell? ⟨b, o + (i * fs.size + j), none⟩ = some c ∧ DataW.trod enc P w base (fun _ => true) held n f.type [c] = some y := by
  rcases open_slice ht h with ⟨hcs, _⟩ | ⟨y, l, c, m, n, D, Pl, hcs, hb, hl, hm, hmm, _, hi⟩
  · simp [Value.cells] at hcs
    exact .inl hcs
  · right
    simp [Value.cells] at hcs
    obtain ⟨rfl, rfl, rfl⟩ := hcs
    simp at hmm
    subst hmm
    obtain ⟨b, o, spot⟩ := y
    have each : ∀ i, i < len → ∀ (j : Nat) (f : Field), fs[j]? = some f → ∃ c n y, w.cell? ((⟨b, o, spot⟩ : Addr).add (i * fs.size + j)) = some c ∧ DataW.trod enc P w base (fun _ => true) held n f.type [c] = some y := by
      intro i hlt j f hf
      obtain ⟨cs', hc, ht'⟩ := hi i (by omega)
      rw [hC] at hc
      obtain ⟨_, hcl, hat⟩ := World.cells?_some hc
      obtain ⟨c, n, y, h1, h2⟩ := cells_trod he hone hcl ht' j f hf
      refine ⟨c, n, y, ?_, h2⟩
      have hj : j < fs.size := (Array.getElem?_eq_some_iff.1 hf).1
      rw [← Go.Deep.add_add, hat j hj]
      exact h1
    by_cases h0 : len = 0
    · exact ⟨b, o, .inl h0, hl, hm, by omega, by omega⟩
    · obtain ⟨c0, _, _, h1, _⟩ := each 0 (by omega) 0 fs[0] (Array.getElem?_eq_getElem hpos)
      have hspot : spot = none := by simpa [Addr.add] using World.cell?_spot h1
      subst hspot
      refine ⟨b, o, .inr rfl, hl, hm, fun _ => ?_, fun i hi j f hf => ?_⟩
      · rw [add_plain] at h1
        exact World.lt_of_cell h1
      · obtain ⟨c, n, y, h1, h2⟩ := each i hi j f hf
        rw [add_plain] at h1
        exact ⟨c, n, y, h1, h2⟩
end
end Go.Proofs.Ytlmedhidkhphbaa
namespace Go.Proofs.Ytlmedhidkhphbaa
open Go.RowKit Go.ChangeShapes Go.WideShapes Go.Deep

structure VDrawer where
  Id : Int
  Wide : Int
  High : Int
  Holds : Int
  Flats : List Int
/-- Its value and where its slice lies. -/
structure PDrawer where
  x : VDrawer
  h : Hd
def PDrawer.vals (p : PDrawer) : List Value := [.int .i64 p.x.Id, .int .i64 p.x.Wide, .int .i64 p.x.High, .int .i64 p.x.Holds, .slice p.h.a p.h.n p.h.c]
theorem PDrawer.vals_len (p : PDrawer) : p.vals.length = 5 := rfl
theorem PDrawer.vals_one (p : PDrawer) : ∀ u ∈ p.vals, u.oneCell' = true := by
  intro u hu
  simp [PDrawer.vals] at hu
  rcases hu with rfl | rfl | rfl | rfl | rfl <;> rfl
/-- It lies at block b from offset o on, its slice's parts in h. -/
def DrawerAt (w : World) (b o : Nat) (x : VDrawer) (h : Hd) : Prop :=
  w.cell? ⟨b, o, none⟩ = some (.int .i64 x.Id) ∧ w.cell? ⟨b, o + 1, none⟩ = some (.int .i64 x.Wide) ∧ w.cell? ⟨b, o + 2, none⟩ = some (.int .i64 x.High) ∧ w.cell? ⟨b, o + 3, none⟩ = some (.int .i64 x.Holds) ∧ w.cell? ⟨b, o + 4, none⟩ = some (.slice h.a h.n h.c) ∧ IsInts w h.a h.n h.c x.Flats
def IsDrawerS (w : World) (a : Option Addr) (len cap : Nat) (xs : List VDrawer) : Prop :=
  len = xs.length ∧ len ≤ cap ∧ cap ≤ maxLen ∧ (len = 0 ∨ ∃ b o, a = some ⟨b, o, none⟩ ∧ b < w.heap.size ∧ ∀ (k : Nat) x, xs[k]? = some x → ∃ h, DrawerAt w b (o + k * 5) x h)
theorem DrawerAt.below {w w' : World} {b o : Nat} {x : VDrawer} {h : Hd} (H : DrawerAt w b o x h) (hb : Below w.heap.size w w') (hlt : b < w.heap.size) : DrawerAt w' b o x h :=
  ⟨(hb.cell (p := ⟨b, o, none⟩) hlt).trans H.1, (hb.cell (p := ⟨b, o + 1, none⟩) hlt).trans H.2.1, (hb.cell (p := ⟨b, o + 2, none⟩) hlt).trans H.2.2.1, (hb.cell (p := ⟨b, o + 3, none⟩) hlt).trans H.2.2.2.1, (hb.cell (p := ⟨b, o + 4, none⟩) hlt).trans H.2.2.2.2.1, H.2.2.2.2.2.below hb⟩
theorem IsDrawerS.below {w w' : World} {a : Option Addr} {len cap : Nat} {xs : List VDrawer} (h : IsDrawerS w a len cap xs) (hb : Below w.heap.size w w') : IsDrawerS w' a len cap xs := by
  refine ⟨h.1, h.2.1, h.2.2.1, ?_⟩
  rcases h.2.2.2 with h0 | ⟨b, o, rfl, h1, h2⟩
  · exact .inl h0
  · exact .inr ⟨b, o, rfl, Nat.lt_of_lt_of_le h1 hb.size, fun k x hx => by
      obtain ⟨h, hh⟩ := h2 k x hx
      exact ⟨h, hh.below hb h1⟩⟩
theorem IsDrawerS.at {w : World} {a : Option Addr} {len cap : Nat} {xs : List VDrawer} (h : IsDrawerS w a len cap xs) (hpos : 0 < len) : ∃ b o, a = some ⟨b, o, none⟩ ∧ b < w.heap.size ∧ ∀ (k : Nat) x, xs[k]? = some x → ∃ h, DrawerAt w b (o + k * 5) x h := by
  rcases h.2.2.2 with h0 | h1
  · omega
  · exact h1
theorem nil_IsDrawerS (w : World) : IsDrawerS w none 0 0 [] := ⟨rfl, Nat.le_refl _, by simp [maxLen], .inl rfl⟩
/-- The first elements of a slice. -/
theorem IsDrawerS.take {w : World} {a : Option Addr} {len cap : Nat} {xs : List VDrawer} (h : IsDrawerS w a len cap xs) {k : Nat} (hk : k ≤ len) : IsDrawerS w a k cap (xs.take k) := by
  refine ⟨by rw [List.length_take, ← h.1]; omega, Nat.le_trans hk h.2.1, h.2.2.1, ?_⟩
  by_cases h0 : k = 0
  · exact .inl h0
  · obtain ⟨b, o, e, h1, h2⟩ := h.at (by omega)
    refine .inr ⟨b, o, e, h1, fun j x hj => h2 j x ?_⟩
    rw [List.getElem?_take] at hj
    split at hj
    · exact hj
    · cases hj
set_option maxRecDepth 100000 in
theorem open_Drawer {H : Type} {enc : TypeId × Value → H} {w : World} {base : Nat} {held : Bool} {r : Reach} {b0 : Nat} {v : Value} {d : DataW H} {p : List MemPlace}
    (hv : Value.okWide Try.prog w r b0 59 v) (h : DataW.Trod enc Try.prog w base (fun _ => true) held 59 v d p) : ∃ (x : VDrawer) (h : Hd), v = .agg #[.int .i64 x.Id, .int .i64 x.Wide, .int .i64 x.High, .int .i64 x.Holds, .slice h.a h.n h.c] ∧ IsInts w h.a h.n h.c x.Flats := by
  obtain ⟨cs, rfl, hl, hc⟩ := open_trod_struct (P := Try.prog) Try.underlying59 (by kernel_rfl) (by kernel_rfl) hv h
  obtain ⟨c0, n0, y0, h0, k0⟩ := hc 0 _ rfl
  obtain ⟨z0, q0, _⟩ := DataW.trod_int Try.underlying3 k0
  obtain rfl : c0 = .int .i64 z0 := by simpa using q0
  obtain ⟨c1, n1, y1, h1, k1⟩ := hc 1 _ rfl
  obtain ⟨z1, q1, _⟩ := DataW.trod_int Try.underlying3 k1
  obtain rfl : c1 = .int .i64 z1 := by simpa using q1
  obtain ⟨c2, n2, y2, h2, k2⟩ := hc 2 _ rfl
  obtain ⟨z2, q2, _⟩ := DataW.trod_int Try.underlying3 k2
  obtain rfl : c2 = .int .i64 z2 := by simpa using q2
  obtain ⟨c3, n3, y3, h3, k3⟩ := hc 3 _ rfl
  obtain ⟨z3, q3, _⟩ := DataW.trod_int Try.underlying3 k3
  obtain rfl : c3 = .int .i64 z3 := by simpa using q3
  obtain ⟨c4, n4, y4, h4, k4⟩ := hc 4 _ rfl
  obtain ⟨hd, zs, rfl, hzs⟩ := trod_ints Try.underlying31 Try.underlying3 (by kernel_rfl) k4
  have e : cs = [.int .i64 z0, .int .i64 z1, .int .i64 z2, .int .i64 z3, .slice hd.a hd.n hd.c] := by
    apply List.ext_getElem?
    intro j
    by_cases hj : j < 5
    · rcases (show j = 0 ∨ j = 1 ∨ j = 2 ∨ j = 3 ∨ j = 4 by omega) with rfl | rfl | rfl | rfl | rfl
      all_goals first | exact h0 | exact h1 | exact h2 | exact h3 | exact h4
    · rw [List.getElem?_eq_none (by simp at hl; omega), List.getElem?_eq_none (by simp; omega)]
  subst e
  exact ⟨⟨z0, z1, z2, z3, zs⟩, hd, rfl, hzs⟩
set_option maxRecDepth 100000 in
theorem open_DrawerS {H : Type} {enc : TypeId × Value → H} {W : World} {base : Nat} {held : Bool} {a : Option Addr} {len cap : Nat} {d : DataW H} {p : List MemPlace}
    (h : DataW.Trod enc Try.prog W base (fun _ => true) held 54 (.slice a len cap) d p) : ∃ xs : List VDrawer, IsDrawerS W a len cap xs := by
  obtain ⟨fuel, hf⟩ := h
  rcases open_trod_structs Try.underlying54 Try.underlying59 (by kernel_rfl) (by kernel_rfl) (by decide) hf with ⟨rfl, rfl, rfl⟩ | ⟨b, o, ha, hl, hm, hb, hc⟩
  · exact ⟨[], nil_IsDrawerS W⟩
  · have each : ∀ i, i < len → ∃ (x : VDrawer) (h : Hd), DrawerAt W b (o + i * 5) x h := by
      intro i hi
      obtain ⟨c0, n0, y0, h0, k0⟩ := hc i hi 0 _ rfl
      obtain ⟨z0, q0, _⟩ := DataW.trod_int Try.underlying3 k0
      obtain rfl : c0 = .int .i64 z0 := by simpa using q0
      obtain ⟨c1, n1, y1, h1, k1⟩ := hc i hi 1 _ rfl
      obtain ⟨z1, q1, _⟩ := DataW.trod_int Try.underlying3 k1
      obtain rfl : c1 = .int .i64 z1 := by simpa using q1
      obtain ⟨c2, n2, y2, h2, k2⟩ := hc i hi 2 _ rfl
      obtain ⟨z2, q2, _⟩ := DataW.trod_int Try.underlying3 k2
      obtain rfl : c2 = .int .i64 z2 := by simpa using q2
      obtain ⟨c3, n3, y3, h3, k3⟩ := hc i hi 3 _ rfl
      obtain ⟨z3, q3, _⟩ := DataW.trod_int Try.underlying3 k3
      obtain rfl : c3 = .int .i64 z3 := by simpa using q3
      obtain ⟨c4, n4, y4, h4, k4⟩ := hc i hi 4 _ rfl
      obtain ⟨hd, zs, rfl, hzs⟩ := trod_ints Try.underlying31 Try.underlying3 (by kernel_rfl) k4
      exact ⟨⟨z0, z1, z2, z3, zs⟩, hd, h0, h1, h2, h3, h4, hzs⟩
    obtain ⟨pick, hpick⟩ := Classical.axiomOfChoice (r := fun (i : Fin len) (x : VDrawer) => ∃ h : Hd, DrawerAt W b (o + i.1 * 5) x h) (fun i => each i.1 i.2)
    refine ⟨(List.finRange len).map pick, by simp, hl, hm, ?_⟩
    rcases ha with h0 | rfl
    · exact .inl h0
    · by_cases h0 : len = 0
      · exact .inl h0
      · refine .inr ⟨b, o, rfl, hb (by omega), fun k s hs => ?_⟩
        obtain ⟨hk, rfl⟩ := List.getElem?_eq_some_iff.1 hs
        have hk' : k < len := by simpa using hk
        have := hpick ⟨k, hk'⟩
        simpa using this
def cellsDrawer (ps : List PDrawer) : List Value := ps.flatMap PDrawer.vals
theorem cellsDrawer_len (ps : List PDrawer) : (cellsDrawer ps).length = ps.length * 5 := by
  induction ps with
  | nil => rfl
  | cons x l ih => simp [cellsDrawer, PDrawer.vals_len] at *; omega
theorem cellsDrawer_append (xs ys : List PDrawer) : cellsDrawer (xs ++ ys) = cellsDrawer xs ++ cellsDrawer ys := by simp [cellsDrawer]
theorem cellsDrawer_snoc (xs : List PDrawer) (s : PDrawer) : cellsDrawer (xs ++ [s]) = cellsDrawer xs ++ s.vals := by simp [cellsDrawer]
theorem cellsDrawer_at {xs : List PDrawer} {k : Nat} {s : PDrawer} (h : xs[k]? = some s) (j : Nat) (hj : j < 5) : (cellsDrawer xs)[k * 5 + j]? = s.vals[j]? := by
  have hk : k < xs.length := (List.getElem?_eq_some_iff.1 h).1
  have e : xs = xs.take k ++ s :: xs.drop (k + 1) := by
    have h2 := List.take_append_drop k xs
    rw [List.drop_eq_getElem_cons hk] at h2
    have : xs[k] = s := by rw [List.getElem?_eq_getElem hk] at h; simpa using h
    rw [this] at h2; exact h2.symm
  have hl : (cellsDrawer (xs.take k)).length = k * 5 := by rw [cellsDrawer_len, List.length_take]; omega
  rw [e, show cellsDrawer (xs.take k ++ s :: xs.drop (k + 1)) = cellsDrawer (xs.take k) ++ (s.vals ++ cellsDrawer (xs.drop (k + 1))) from by simp [cellsDrawer], List.getElem?_append_right (by omega), hl, show k * 5 + j - k * 5 = j from by omega, List.getElem?_append_left (by rw [PDrawer.vals_len]; exact hj)]
theorem cellsDrawer_drop (xs : List PDrawer) (i : Nat) : (cellsDrawer xs).drop (i * 5) = cellsDrawer (xs.drop i) := by
  by_cases h : i ≤ xs.length
  · have e : cellsDrawer xs = cellsDrawer (xs.take i) ++ cellsDrawer (xs.drop i) := by
      unfold cellsDrawer
      rw [← List.flatMap_append, List.take_append_drop]
    have hl : (cellsDrawer (xs.take i)).length = i * 5 := by rw [cellsDrawer_len, List.length_take]; omega
    rw [e, List.drop_append_of_le_length (by omega), List.drop_of_length_le (by omega), List.nil_append]
  · rw [List.drop_of_length_le (show xs.length ≤ i by omega), List.drop_of_length_le (by rw [cellsDrawer_len]; omega)]; rfl
theorem cellsDrawer_take (xs : List PDrawer) (i : Nat) : cellsDrawer xs = cellsDrawer (xs.take i) ++ (cellsDrawer xs).drop (i * 5) := by
  rw [cellsDrawer_drop]
  unfold cellsDrawer
  rw [← List.flatMap_append, List.take_append_drop]
theorem cellsDrawer_set (xs : List PDrawer) (i : Nat) (r : PDrawer) (h : i < xs.length) : cellsDrawer (xs.set i r) = cellsDrawer (xs.take i) ++ (r.vals ++ (cellsDrawer xs).drop (i * 5 + 5)) := by
  rw [List.set_eq_take_append_cons_drop, if_pos h, show i * 5 + 5 = (i + 1) * 5 by omega, cellsDrawer_drop]
  simp [cellsDrawer]
theorem one_Drawer (xs : List PDrawer) : ∀ u ∈ cellsDrawer xs, u.oneCell' = true := by
  intro u hu
  obtain ⟨s, _, hs⟩ := List.mem_flatMap.1 hu
  exact s.vals_one u hs
theorem infoDrawer : (Try.prog.info? 42).map (fun i => (i.zero, i.size, i.bytes)) = some (some (.agg #[.int .i64 0, .int .i64 0, .int .i64 0, .int .i64 0, .slice none 0 0]), 5, 56) := by kernel_rfl
def zerosDrawer (n : Nat) : List Value := (List.replicate n [.int .i64 0, .int .i64 0, .int .i64 0, .int .i64 0, .slice none 0 0]).flatten
theorem zerosDrawer_succ (n : Nat) : zerosDrawer (n + 1) = .int .i64 0 :: .int .i64 0 :: .int .i64 0 :: .int .i64 0 :: .slice none 0 0 :: zerosDrawer n := by
  unfold zerosDrawer; rw [List.replicate_succ]; rfl
theorem zerosDrawer_len (n : Nat) : (zerosDrawer n).length = n * 5 := by
  induction n with
  | zero => rfl
  | succ n ih => rw [zerosDrawer_succ]; simp [ih]; omega
theorem zerosDrawer_at (n j : Nat) (h : j < n * 5) : (zerosDrawer n)[j]? = [.int .i64 0, .int .i64 0, .int .i64 0, .int .i64 0, .slice none 0 0][j % 5]? := by
  induction n generalizing j with
  | zero => omega
  | succ n ih =>
    rw [zerosDrawer_succ]
    by_cases hj : j < 5
    · rw [Nat.mod_eq_of_lt hj]
      rcases (show j = 0 ∨ j = 1 ∨ j = 2 ∨ j = 3 ∨ j = 4 by omega) with rfl | rfl | rfl | rfl | rfl <;> rfl
    · obtain ⟨i, rfl⟩ : ∃ i, j = i + 5 := ⟨j - 5, by omega⟩
      rw [Nat.add_mod_right, ← ih i (by omega)]
      rfl
theorem madeDrawer (n : Nat) : (madeCells (.agg #[.int .i64 0, .int .i64 0, .int .i64 0, .int .i64 0, .slice none 0 0] : Value).cells (n * 5)).toList = zerosDrawer n := by
  apply List.ext_getElem?
  intro j
  rw [Array.getElem?_toList]
  by_cases h : j < n * 5
  · rw [zerosDrawer_at n j h]
    have hm : j % 5 < 5 := Nat.mod_lt _ (by decide)
    simp only [madeCells, Value.cells]
    rw [Array.getElem?_eq_getElem (by simpa using h)]
    rcases (show j % 5 = 0 ∨ j % 5 = 1 ∨ j % 5 = 2 ∨ j % 5 = 3 ∨ j % 5 = 4 by omega) with e | e | e | e | e <;> simp [e]
  · rw [List.getElem?_eq_none (by rw [zerosDrawer_len]; omega)]
    simp [madeCells, h]
theorem setDrawer (A L : List Value) (v0 v1 v2 v3 v4 : Value) (o : Nat) (hA : A.length = o) (hL : o + 5 ≤ L.length) :
    ((((((A ++ L.drop o).set (o) v0).set (o + 1) v1).set (o + 2) v2).set (o + 3) v3).set (o + 4) v4) = A ++ v0 :: v1 :: v2 :: v3 :: v4 :: L.drop (o + 5) := by
  subst hA
  obtain ⟨a0, a1, a2, a3, a4, e⟩ : ∃ a0 a1 a2 a3 a4, L.drop A.length = a0 :: a1 :: a2 :: a3 :: a4 :: L.drop (A.length + 5) := ⟨_, _, _, _, _, by rw [List.drop_eq_getElem_cons (show A.length < L.length by omega), List.drop_eq_getElem_cons (show A.length + 1 < L.length by omega), List.drop_eq_getElem_cons (show A.length + 2 < L.length by omega), List.drop_eq_getElem_cons (show A.length + 3 < L.length by omega), List.drop_eq_getElem_cons (show A.length + 4 < L.length by omega)]⟩
  rw [e]
  generalize L.drop (A.length + 5) = D
  simp [List.set_append_right]
theorem storedDrawer {w : World} {base n c g o : Nat} {e : TypeId} {size : Nat} {A L : List Value} (h : w.ownsRow base e size (.slice (some ⟨g, 0, none⟩) n c) n (A ++ L.drop o)) (hA : A.length = o) (hL : o + 5 ≤ L.length) (v0 v1 v2 v3 v4 : Value) :
    (((((w.setCell ⟨g, o, none⟩ v0).setCell ⟨g, o + 1, none⟩ v1).setCell ⟨g, o + 2, none⟩ v2).setCell ⟨g, o + 3, none⟩ v3).setCell ⟨g, o + 4, none⟩ v4).ownsRow base e size (.slice (some ⟨g, 0, none⟩) n c) n (A ++ v0 :: v1 :: v2 :: v3 :: v4 :: L.drop (o + 5)) ∧ w.grownBy (((((w.setCell ⟨g, o, none⟩ v0).setCell ⟨g, o + 1, none⟩ v1).setCell ⟨g, o + 2, none⟩ v2).setCell ⟨g, o + 3, none⟩ v3).setCell ⟨g, o + 4, none⟩ v4) (some g) := by
  have h0 := h.stored (o) v0
  have h1 := h0.1.stored (o + 1) v1
  have h2 := h1.1.stored (o + 2) v2
  have h3 := h2.1.stored (o + 3) v3
  have h4 := h3.1.stored (o + 4) v4
  refine ⟨?_, (grown_trans (grown_trans (grown_trans (grown_trans h0.2 h1.2) h2.2) h3.2) h4.2)⟩
  have := h4.1
  rw [setDrawer A L v0 v1 v2 v3 v4 o hA hL] at this
  exact this
/-- The slices inside: each owned, in blocks of their own, none in the block g0 of the row itself. -/
def InnerDrawer (lo hi : Nat) (w : World) (g0 : Option Nat) (ps : List PDrawer) : Prop :=
  (∀ (k : Nat) p, ps[k]? = some p → HInts lo hi w p.h p.x.Flats) ∧ (∀ (k : Nat) p b, ps[k]? = some p → p.h.blk = some b → g0 ≠ some b) ∧
  (∀ (i j : Nat) p q b, i ≠ j → ps[i]? = some p → ps[j]? = some q → p.h.blk = some b → q.h.blk ≠ some b)
/-- A row of the call's own in lo .. hi, the slices inside too. -/
def RawDrawer (lo hi : Nat) (w : World) (v : Value) (ps : List PDrawer) : Prop := OwnIn lo hi w 42 5 v ps.length (cellsDrawer ps) ∧ InnerDrawer lo hi w v.ownBlock ps
def OwnDrawerS (lo hi : Nat) (w : World) (v : Value) (xs : List VDrawer) : Prop := ∃ ps : List PDrawer, ps.map PDrawer.x = xs ∧ RawDrawer lo hi w v ps
section
variable {lo hi lo' hi' : Nat} {w w' : World} {v : Value} {g0 : Option Nat} {ps : List PDrawer} {xs : List VDrawer}
theorem nil_InnerDrawer (lo hi : Nat) (w : World) (g0 : Option Nat) : InnerDrawer lo hi w g0 [] := ⟨fun k p h => by simp at h, fun k p b h => by simp at h, fun i j p q b _ h => by simp at h⟩
theorem InnerDrawer.keep (h : InnerDrawer lo hi w g0 ps) (hk : ∀ b, lo ≤ b → b < hi → b < w.heap.size → g0 ≠ some b → w'.heap[b]? = w.heap[b]?) : InnerDrawer lo hi w' g0 ps :=
  ⟨fun k p hp => (h.1 k p hp).keep fun b hb => by
    have := (h.1 k p hp).lt hb
    exact hk b this.1 this.2.1 this.2.2 (h.2.1 k p b hp hb), h.2.1, h.2.2⟩
theorem InnerDrawer.mono (h : InnerDrawer lo hi w g0 ps) (h1 : lo' ≤ lo) (h2 : hi ≤ hi') : InnerDrawer lo' hi' w g0 ps := ⟨fun k p hp => (h.1 k p hp).mono h1 h2, h.2.1, h.2.2⟩
theorem InnerDrawer.below (h : InnerDrawer lo hi w g0 ps) (hb : Below w.heap.size w w') : InnerDrawer lo hi w' g0 ps := h.keep fun b _ _ hs _ => hb.block b hs
theorem InnerDrawer.grown (h : InnerDrawer lo hi w g0 ps) (hg : w.grownBy w' g0) : InnerDrawer lo hi w' g0 ps := h.keep fun b _ _ hs hne => hg.block b hs (fun e => hne e.symm)
/-- One more, its slice in newer memory. -/
theorem InnerDrawer.snoc (h : InnerDrawer lo hi w g0 ps) {p : PDrawer} (hp : HInts hi hi' w p.h p.x.Flats) (hl : lo ≤ hi) (hh : hi ≤ hi') (hg : ∀ b, g0 = some b → b < hi) : InnerDrawer lo hi' w g0 (ps ++ [p]) := by
  have old : ∀ k q, k < ps.length → (ps ++ [p])[k]? = some q → ps[k]? = some q := fun k q hk hq => by rwa [List.getElem?_append_left hk] at hq
  have new : ∀ k q, ¬ k < ps.length → (ps ++ [p])[k]? = some q → k = ps.length ∧ q = p := fun k q hk hq => by
    have hl := (List.getElem?_eq_some_iff.1 hq).1
    rw [List.length_append, List.length_singleton] at hl
    have e : k = ps.length := by omega
    subst e
    simp at hq
    exact ⟨rfl, hq.symm⟩
  refine ⟨fun k q hq => ?_, fun k q b hq hb => ?_, fun i j q r b hij hq hr hb hc => ?_⟩
  · by_cases hk : k < ps.length
    · exact (h.1 k q (old k q hk hq)).mono (Nat.le_refl _) hh
    · obtain ⟨_, rfl⟩ := new k q hk hq
      exact hp.mono hl (Nat.le_refl _)
  · by_cases hk : k < ps.length
    · exact h.2.1 k q b (old k q hk hq) hb
    · obtain ⟨_, rfl⟩ := new k q hk hq
      intro e
      have := hg b e
      have := (hp.lt hb).1
      omega
  · by_cases hi : i < ps.length
    · by_cases hj : j < ps.length
      · exact h.2.2 i j q r b hij (old i q hi hq) (old j r hj hr) hb hc
      · obtain ⟨_, rfl⟩ := new j r hj hr
        have := ((h.1 i q (old i q hi hq)).lt hb).2.1
        have := (hp.lt hc).1
        omega
    · obtain ⟨ei, rfl⟩ := new i q hi hq
      by_cases hj : j < ps.length
      · have := ((h.1 j r (old j r hj hr)).lt hc).2.1
        have := (hp.lt hb).1
        omega
      · obtain ⟨ej, _⟩ := new j r hj hr
        omega
/-- One replaced: its slice as it lay, or in newer memory. -/
theorem InnerDrawer.set (h : InnerDrawer lo hi w g0 ps) {k : Nat} {p q : PDrawer} (hp : ps[k]? = some p) (hq : HInts lo hi' w q.h q.x.Flats) (hh : hi ≤ hi') (hn : ∀ b, q.h.blk = some b → p.h.blk = some b ∨ (hi ≤ b ∧ ∀ b', g0 = some b' → b' < hi)) : InnerDrawer lo hi' w g0 (ps.set k q) := by
  have hkl := (List.getElem?_eq_some_iff.1 hp).1
  have get : ∀ i r, (ps.set k q)[i]? = some r → (i = k ∧ r = q) ∨ (i ≠ k ∧ ps[i]? = some r) := fun i r hr => by
    by_cases e : i = k
    · subst e; rw [List.getElem?_set_self hkl] at hr; exact .inl ⟨rfl, (Option.some.inj hr).symm⟩
    · rw [List.getElem?_set_ne (Ne.symm e)] at hr; exact .inr ⟨e, hr⟩
  refine ⟨fun i r hr => ?_, fun i r b hr hb => ?_, fun i j r s b hij hr hs hb hc => ?_⟩
  · rcases get i r hr with ⟨_, rfl⟩ | ⟨_, hr⟩
    · exact hq
    · exact (h.1 i r hr).mono (Nat.le_refl _) hh
  · rcases get i r hr with ⟨_, rfl⟩ | ⟨_, hr⟩
    · rcases hn b hb with h1 | ⟨h1, h2⟩
      · exact h.2.1 k p b hp h1
      · intro e; have := h2 b e; omega
    · exact h.2.1 i r b hr hb
  · rcases get i r hr with ⟨ei, e1⟩ | ⟨ei, hr2⟩
    · rw [e1] at hb
      rcases get j s hs with ⟨ej, _⟩ | ⟨ej, hs2⟩
      · omega
      · rcases hn b hb with h1 | ⟨h1, _⟩
        · exact h.2.2 k j p s b (Ne.symm ej) hp hs2 h1 hc
        · have := ((h.1 j s hs2).lt hc).2.1; omega
    · rcases get j s hs with ⟨ej, e2⟩ | ⟨ej, hs2⟩
      · rw [e2] at hc
        rcases hn b hc with h1 | ⟨h1, _⟩
        · exact h.2.2 i k r p b ei hr2 hp hb h1
        · have := ((h.1 i r hr2).lt hb).2.1; omega
      · exact h.2.2 i j r s b hij hr2 hs2 hb hc
theorem RawDrawer.keep (h : RawDrawer lo hi w v ps) (hk : ∀ b, lo ≤ b → b < hi → b < w.heap.size → w'.heap[b]? = w.heap[b]?) : RawDrawer lo hi w' v ps :=
  ⟨h.1.keep fun b hb => by have := h.1.lt hb; exact hk b this.1 this.2.1 this.2.2, h.2.keep fun b h1 h2 h3 _ => hk b h1 h2 h3⟩
theorem OwnDrawerS.keep (h : OwnDrawerS lo hi w v xs) (hk : ∀ b, lo ≤ b → b < hi → b < w.heap.size → w'.heap[b]? = w.heap[b]?) : OwnDrawerS lo hi w' v xs := by
  obtain ⟨ps, e, h⟩ := h
  exact ⟨ps, e, h.keep hk⟩
theorem OwnDrawerS.below (h : OwnDrawerS lo hi w v xs) (hb : Below w.heap.size w w') : OwnDrawerS lo hi w' v xs := h.keep fun b _ _ hs => hb.block b hs
theorem OwnDrawerS.turned (h : OwnDrawerS lo hi w v xs) (t : Turned lo' hi' w w') (hd : hi ≤ lo' ∨ hi' ≤ lo) : OwnDrawerS lo hi w' v xs := h.keep fun b h1 h2 hs => t.block b hs (by omega)
theorem RawDrawer.mono (h : RawDrawer lo hi w v ps) (h1 : lo' ≤ lo) (h2 : hi ≤ hi') : RawDrawer lo' hi' w v ps := ⟨h.1.mono h1 h2, h.2.mono h1 h2⟩
theorem OwnDrawerS.mono (h : OwnDrawerS lo hi w v xs) (h1 : lo' ≤ lo) (h2 : hi ≤ hi') : OwnDrawerS lo' hi' w v xs := by
  obtain ⟨ps, e, h⟩ := h
  exact ⟨ps, e, h.mono h1 h2⟩
theorem nil_OwnDrawerS (lo hi : Nat) (w : World) : OwnDrawerS lo hi w (.slice none 0 0) [] := ⟨[], rfl, ⟨⟨by simp [cellsDrawer], .inl ⟨rfl, rfl⟩⟩, fun b h => by cases h⟩, nil_InnerDrawer _ _ _ _⟩
theorem OwnDrawerS.form (h : OwnDrawerS lo hi w v xs) : ∃ a c, v = .slice a xs.length c := by
  obtain ⟨ps, e, h⟩ := h
  have el : ps.length = xs.length := by rw [← e, List.length_map]
  rcases h.1.1.2 with ⟨rfl, h0⟩ | ⟨g, cap, cur, rfl, _⟩
  · exact ⟨none, 0, by rw [← el, h0]⟩
  · exact ⟨_, cap, by rw [← el]⟩
/-- An owned row's element as it lies. -/
theorem RawDrawer.elem {g n c : Nat} (h : RawDrawer lo hi w (.slice (some ⟨g, 0, none⟩) n c) ps) {k : Nat} {p : PDrawer} (hp : ps[k]? = some p) : DrawerAt w g (k * 5) p.x p.h := by
  have each : ∀ j u, j < 5 → p.vals[j]? = some u → w.cell? ⟨g, k * 5 + j, none⟩ = some u := fun j u hj hu => by
    have hc := h.1.1.cells (g := g) rfl (k * 5 + j) u ((cellsDrawer_at hp j hj).trans hu)
    rw [add_plain, Nat.zero_add] at hc; exact hc
  exact ⟨each 0 _ (by decide) rfl, each 1 _ (by decide) rfl, each 2 _ (by decide) rfl, each 3 _ (by decide) rfl, each 4 _ (by decide) rfl, (h.2.1 k p hp).is.1⟩
theorem RawDrawer.len {a : Option Addr} {n c : Nat} (h : RawDrawer lo hi w (.slice a n c) ps) : n = ps.length ∧ n ≤ c ∧ c ≤ maxLen := by
  rcases h.1.1.2 with ⟨e, h0⟩ | ⟨g, cap, cur, e, _, _, h1, h2, _⟩
  · cases e; exact ⟨h0.symm, Nat.le_refl _, by simp [maxLen]⟩
  · cases e; exact ⟨rfl, h1, h2⟩
theorem RawDrawer.row {g n c : Nat} (h : RawDrawer lo hi w (.slice (some ⟨g, 0, none⟩) n c) ps) : w.ownsRow lo 42 5 (.slice (some ⟨g, 0, none⟩) n c) n (cellsDrawer ps) := by
  have := h.1.1
  rw [← h.len.1] at this
  exact this
theorem RawDrawer.free {g n c : Nat} (h : RawDrawer lo hi w (.slice (some ⟨g, 0, none⟩) n c) ps) (j : Nat) : w.frozen? ⟨g, j, none⟩ = false := h.row.frozenAt j
theorem RawDrawer.is {a : Option Addr} {n c : Nat} (h : RawDrawer lo hi w (.slice a n c) ps) : IsDrawerS w a n c (ps.map PDrawer.x) := by
  have hl := h.len
  refine ⟨by rw [List.length_map]; exact hl.1, hl.2.1, hl.2.2, ?_⟩
  rcases h.1.1.2 with ⟨e, h0⟩ | ⟨g, cap, cur, e, _, _, h1, h2, _⟩
  · exact .inl (by omega)
  · cases e
    refine .inr ⟨g, 0, rfl, (h.1.lt rfl).2.2, fun k x hx => ?_⟩
    rw [List.getElem?_map] at hx
    cases hp : ps[k]? with
    | none => rw [hp] at hx; cases hx
    | some p =>
      rw [hp] at hx
      cases hx
      exact ⟨p.h, by simpa using h.elem hp⟩
theorem OwnDrawerS.is {a : Option Addr} {n c : Nat} (h : OwnDrawerS lo hi w (.slice a n c) xs) : IsDrawerS w a n c xs := by
  obtain ⟨ps, rfl, h⟩ := h
  exact h.is
/-- A slice's elements with their parts, as the source of an append. -/
theorem IsDrawerS.src {a : Option Addr} {n c : Nat} (h : IsDrawerS w a n c xs) : ∃ ps : List PDrawer, ps.map PDrawer.x = xs ∧ SrcAt w a n 5 (cellsDrawer ps) ∧ ∀ (k : Nat) p, ps[k]? = some p → IsInts w p.h.a p.h.n p.h.c p.x.Flats := by
  by_cases h0 : n = 0
  · have : xs = [] := List.length_eq_zero_iff.1 (by rw [← h.1, h0])
    subst this
    exact ⟨[], rfl, ⟨by simp [cellsDrawer, h0], .inl h0⟩, fun k p hp => by simp at hp⟩
  · obtain ⟨b, o, e, hb, hat⟩ := h.at (by omega)
    have each : ∀ i : Fin xs.length, ∃ hd : Hd, DrawerAt w b (o + i.1 * 5) xs[i.1] hd := fun i => hat i.1 _ (List.getElem?_eq_getElem i.2)
    obtain ⟨pick, hpick⟩ := Classical.axiomOfChoice each
    refine ⟨(List.finRange xs.length).map fun i => ⟨xs[i.1], pick i⟩, ?_, ⟨?_, .inr ⟨_, e, fun j u hj => ?_⟩⟩, fun k p hp => ?_⟩
    · apply List.ext_getElem
      · simp
      · intro i h1 h2; simp
    · rw [cellsDrawer_len, List.length_map, List.length_finRange, h.1]
    · rw [add_plain]
      have hl := (List.getElem?_eq_some_iff.1 hj).1
      rw [cellsDrawer_len, List.length_map, List.length_finRange] at hl
      obtain ⟨k, r, rfl, hr⟩ : ∃ k r, j = k * 5 + r ∧ r < 5 := ⟨j / 5, j % 5, by omega, Nat.mod_lt _ (by decide)⟩
      have hk : k < xs.length := by omega
      have hs : ((List.finRange xs.length).map fun i => (⟨xs[i.1], pick i⟩ : PDrawer))[k]? = some ⟨xs[k], pick ⟨k, hk⟩⟩ := by simp [hk]
      have hu := cellsDrawer_at hs r hr
      rw [hj] at hu
      have ha := hpick ⟨k, hk⟩
      rw [← Nat.add_assoc]
      rcases (show r = 0 ∨ r = 1 ∨ r = 2 ∨ r = 3 ∨ r = 4 by omega) with rfl | rfl | rfl | rfl | rfl
      · rw [hu]; exact ha.1
      · rw [hu]; exact ha.2.1
      · rw [hu]; exact ha.2.2.1
      · rw [hu]; exact ha.2.2.2.1
      · rw [hu]; exact ha.2.2.2.2.1
    · obtain ⟨hk, e2⟩ := List.getElem?_eq_some_iff.1 hp
      have hk' : k < xs.length := by simpa using hk
      simp at e2
      subst e2
      exact (hpick ⟨k, hk'⟩).2.2.2.2.2
end
theorem set_intsDrawer (ps : List PDrawer) (k : Nat) (p : PDrawer) (hp : ps[k]? = some p) (i0 i1 i2 i3 : Int) : (((((cellsDrawer ps).set (k * 5) (.int .i64 i0)).set (k * 5 + 1) (.int .i64 i1)).set (k * 5 + 2) (.int .i64 i2)).set (k * 5 + 3) (.int .i64 i3)) = cellsDrawer (ps.set k ⟨⟨i0, i1, i2, i3, p.x.Flats⟩, p.h⟩) := by
  have hk := (List.getElem?_eq_some_iff.1 hp).1
  rw [cellsDrawer_set ps k _ hk]
  have e : cellsDrawer ps = cellsDrawer (ps.take k) ++ (p.vals ++ (cellsDrawer ps).drop (k * 5 + 5)) := by
    have h1 := cellsDrawer_set ps k p hk
    rw [show ps.set k p = ps from by
      apply List.ext_getElem?
      intro j
      by_cases e : j = k
      · subst e; rw [List.getElem?_set_self hk, hp]
      · rw [List.getElem?_set_ne (Ne.symm e)]] at h1
    exact h1
  have hl : (cellsDrawer (ps.take k)).length = k * 5 := by rw [cellsDrawer_len, List.length_take]; omega
  generalize (cellsDrawer ps).drop (k * 5 + 5) = D at e ⊢
  rw [e, ← hl]
  simp [PDrawer.vals, List.set_append_right]
theorem RawDrawer.setInts {lo hi : Nat} {w : World} {g n c : Nat} {ps : List PDrawer} (h : RawDrawer lo hi w (.slice (some ⟨g, 0, none⟩) n c) ps) {k : Nat} {p : PDrawer} (hp : ps[k]? = some p) (i0 i1 i2 i3 : Int) :
    RawDrawer lo hi ((((w.setCell ⟨g, k * 5, none⟩ (.int .i64 i0)).setCell ⟨g, k * 5 + 1, none⟩ (.int .i64 i1)).setCell ⟨g, k * 5 + 2, none⟩ (.int .i64 i2)).setCell ⟨g, k * 5 + 3, none⟩ (.int .i64 i3)) (.slice (some ⟨g, 0, none⟩) n c) (ps.set k ⟨⟨i0, i1, i2, i3, p.x.Flats⟩, p.h⟩) ∧ w.grownBy ((((w.setCell ⟨g, k * 5, none⟩ (.int .i64 i0)).setCell ⟨g, k * 5 + 1, none⟩ (.int .i64 i1)).setCell ⟨g, k * 5 + 2, none⟩ (.int .i64 i2)).setCell ⟨g, k * 5 + 3, none⟩ (.int .i64 i3)) (some g) := by
  obtain ⟨rfl, _, _⟩ := h.len
  have s0 := h.1.1.stored (k * 5) (.int .i64 i0)
  have s1 := s0.1.stored (k * 5 + 1) (.int .i64 i1)
  have s2 := s1.1.stored (k * 5 + 2) (.int .i64 i2)
  have s3 := s2.1.stored (k * 5 + 3) (.int .i64 i3)
  have G := (grown_trans (grown_trans (grown_trans s0.2 s1.2) s2.2) s3.2)
  refine ⟨⟨⟨?_, h.1.2⟩, ?_⟩, G⟩
  · have h1 := s3.1
    rw [set_intsDrawer ps k p hp] at h1
    rw [List.length_set]
    exact h1
  · exact (h.2.grown G).set hp ((h.2.grown G).1 k p hp) (Nat.le_refl _) (fun b hb => .inl hb)
theorem set_sliceDrawer (ps : List PDrawer) (k : Nat) (p : PDrawer) (hp : ps[k]? = some p) (zs : List Int) (h' : Hd) : (cellsDrawer ps).set (k * 5 + 4) (.slice h'.a h'.n h'.c) = cellsDrawer (ps.set k ⟨{ p.x with Flats := zs }, h'⟩) := by
  have hk := (List.getElem?_eq_some_iff.1 hp).1
  rw [cellsDrawer_set ps k _ hk]
  have e : cellsDrawer ps = cellsDrawer (ps.take k) ++ (p.vals ++ (cellsDrawer ps).drop (k * 5 + 5)) := by
    have h1 := cellsDrawer_set ps k p hk
    rw [show ps.set k p = ps from by
      apply List.ext_getElem?
      intro j
      by_cases e : j = k
      · subst e; rw [List.getElem?_set_self hk, hp]
      · rw [List.getElem?_set_ne (Ne.symm e)]] at h1
    exact h1
  have hl : (cellsDrawer (ps.take k)).length = k * 5 := by rw [cellsDrawer_len, List.length_take]; omega
  generalize (cellsDrawer ps).drop (k * 5 + 5) = D at e ⊢
  rw [e, ← hl]
  simp [PDrawer.vals, List.set_append_right]
/-- Another slice in the place of an element's. -/
theorem RawDrawer.setSlice {lo hi hi' : Nat} {w : World} {g n c : Nat} {ps : List PDrawer} (h : RawDrawer lo hi w (.slice (some ⟨g, 0, none⟩) n c) ps) {k : Nat} {p : PDrawer} (hp : ps[k]? = some p) {h' : Hd} {zs : List Int} (H : HInts lo hi' w h' zs) (hh : hi ≤ hi') (hn : ∀ b, h'.blk = some b → p.h.blk = some b ∨ hi ≤ b) :
    RawDrawer lo hi' (w.setCell ⟨g, k * 5 + 4, none⟩ (.slice h'.a h'.n h'.c)) (.slice (some ⟨g, 0, none⟩) n c) (ps.set k ⟨{ p.x with Flats := zs }, h'⟩) ∧ w.grownBy (w.setCell ⟨g, k * 5 + 4, none⟩ (.slice h'.a h'.n h'.c)) (some g) := by
  obtain ⟨rfl, _, _⟩ := h.len
  have s0 := h.1.1.stored (k * 5 + 4) (.slice h'.a h'.n h'.c)
  have G := s0.2
  have hg : g < hi := (h.1.lt rfl).2.1
  have H2 : HInts lo hi' (w.setCell ⟨g, k * 5 + 4, none⟩ (.slice h'.a h'.n h'.c)) h' zs := H.keep fun b hb => G.block b (H.lt hb).2.2 (fun e => by
    cases e
    rcases hn g hb with h1 | h1
    · exact h.2.2.1 k p g hp h1 rfl
    · omega)
  refine ⟨⟨⟨?_, fun b hb => Nat.lt_of_lt_of_le (h.1.2 b hb) hh⟩, ?_⟩, G⟩
  · have h1 := s0.1
    rw [set_sliceDrawer ps k p hp zs h'] at h1
    rw [List.length_set]
    exact h1
  · exact (h.2.grown G).set hp H2 hh (fun b hb => (hn b hb).imp id fun h1 => ⟨h1, fun b' e => by cases e; exact hg⟩)
/-- What an element's slice holds has turned; nothing else has. -/
theorem RawDrawer.inner {lo hi : Nat} {w w' : World} {v : Value} {ps : List PDrawer} (h : RawDrawer lo hi w v ps) {k : Nat} {p : PDrawer} (hp : ps[k]? = some p) {zs : List Int} (hl : zs.length = p.x.Flats.length) (hz : w'.ownsRow lo 3 1 (.slice p.h.a p.h.n p.h.c) p.x.Flats.length (intCells zs)) (hg : w.grownBy w' p.h.blk) :
    RawDrawer lo hi w' v (ps.set k ⟨{ p.x with Flats := zs }, p.h⟩) := by
  have hk := (List.getElem?_eq_some_iff.1 hp).1
  have hI := h.2.1 k p hp
  have H2 : HInts lo hi w' p.h zs := ⟨by rw [hl]; exact hz, hI.2⟩
  have O2 : OwnIn lo hi w' 42 5 v ps.length (cellsDrawer ps) := h.1.keep fun b hb => hg.block b (h.1.lt hb).2.2 (fun e => h.2.2.1 k p b hp e.symm hb)
  refine ⟨?_, ?_⟩
  · rw [List.length_set, show cellsDrawer (ps.set k ⟨{ p.x with Flats := zs }, p.h⟩) = cellsDrawer ps from by
      have h1 := cellsDrawer_set ps k p hk
      rw [show ps.set k p = ps from by
        apply List.ext_getElem?
        intro j
        by_cases e : j = k
        · subst e; rw [List.getElem?_set_self hk, hp]
        · rw [List.getElem?_set_ne (Ne.symm e)]] at h1
      exact (cellsDrawer_set ps k ⟨{ p.x with Flats := zs }, p.h⟩ hk).trans h1.symm]
    exact O2
  · have get : ∀ i r, (ps.set k ⟨{ p.x with Flats := zs }, p.h⟩)[i]? = some r → (i = k ∧ r = ⟨{ p.x with Flats := zs }, p.h⟩) ∨ (i ≠ k ∧ ps[i]? = some r) := fun i r hr => by
      by_cases e : i = k
      · subst e; rw [List.getElem?_set_self hk] at hr; exact .inl ⟨rfl, (Option.some.inj hr).symm⟩
      · rw [List.getElem?_set_ne (Ne.symm e)] at hr; exact .inr ⟨e, hr⟩
    refine ⟨fun i r hr => ?_, fun i r b hr hb => ?_, fun i j r s b hij hr hs hb hc => ?_⟩
    · rcases get i r hr with ⟨_, rfl⟩ | ⟨ei, hr⟩
      · exact H2
      · exact (h.2.1 i r hr).keep fun b hb => hg.block b ((h.2.1 i r hr).lt hb).2.2 (fun e => h.2.2.2 i k r p b ei hr hp hb e.symm)
    · rcases get i r hr with ⟨_, rfl⟩ | ⟨_, hr⟩
      · exact h.2.2.1 k p b hp hb
      · exact h.2.2.1 i r b hr hb
    · rcases get i r hr with ⟨ei, rfl⟩ | ⟨ei, hr⟩
      · rcases get j s hs with ⟨ej, _⟩ | ⟨ej, hs⟩
        · omega
        · exact h.2.2.2 k j p s b (Ne.symm ej) hp hs hb hc
      · rcases get j s hs with ⟨ej, rfl⟩ | ⟨ej, hs⟩
        · exact h.2.2.2 i k r p b ei hr hp hb hc
        · exact h.2.2.2 i j r s b hij hr hs hb hc
/-- Block b holds it, all of it, and may be written. -/
def HBDrawer (w : World) (b : Nat) (p : PDrawer) : Prop := w.heap[b]? = some (.cells #[.int .i64 p.x.Id, .int .i64 p.x.Wide, .int .i64 p.x.High, .int .i64 p.x.Holds, .slice p.h.a p.h.n p.h.c] 42 (0, 0))
section
variable {w w' : World} {b b' j : Nat} {p : PDrawer} {row : Option Nat}
theorem HBDrawer.lt (h : HBDrawer w b p) : b < w.heap.size := (Array.getElem?_eq_some_iff.1 h).1
theorem HBDrawer.new (w : World) (p : PDrawer) (B : Nat) (hB : w.heap.size = B) : HBDrawer (w.alloc (.cells #[.int .i64 p.x.Id, .int .i64 p.x.Wide, .int .i64 p.x.High, .int .i64 p.x.Holds, .slice p.h.a p.h.n p.h.c] 42)) B p := hB ▸ heap_alloc_new w _
theorem HBDrawer.below (h : HBDrawer w b p) (hb : Below w.heap.size w w') : HBDrawer w' b p := (hb.block b h.lt).trans h
theorem HBDrawer.grown (h : HBDrawer w b p) (hg : w.grownBy w' row) (hne : some b ≠ row) : HBDrawer w' b p := (hg.block b h.lt hne).trans h
theorem HBDrawer.drew (h : HBDrawer w b p) : HBDrawer w.drew b p := h
theorem HBDrawer.alloc (h : HBDrawer w b p) (o : Obj) : HBDrawer (w.alloc o) b p := (Below.heap_alloc w o b h.lt).trans h
theorem HBDrawer.other (h : HBDrawer w b p) (hne : b ≠ b') (u : Value) : HBDrawer (w.setCell ⟨b', j, none⟩ u) b p := (heap_setCell_other w ⟨b', j, none⟩ b u hne).trans h
theorem HBDrawer.cells (h : HBDrawer w b p) : w.cell? ⟨b, 0, none⟩ = some (.int .i64 p.x.Id) ∧ w.cell? ⟨b, 1, none⟩ = some (.int .i64 p.x.Wide) ∧ w.cell? ⟨b, 2, none⟩ = some (.int .i64 p.x.High) ∧ w.cell? ⟨b, 3, none⟩ = some (.int .i64 p.x.Holds) ∧ w.cell? ⟨b, 4, none⟩ = some (.slice p.h.a p.h.n p.h.c) := by
  unfold HBDrawer at h
  refine ⟨?_, ?_, ?_, ?_, ?_⟩ <;> simp [World.cell?, h]
theorem HBDrawer.free (h : HBDrawer w b p) (j : Nat) : w.frozen? ⟨b, j, none⟩ = false := by
  unfold HBDrawer at h
  simp [World.frozen?, h]
theorem HBDrawer.set0 (h : HBDrawer w b p) (v : Int) : HBDrawer (w.setCell ⟨b, 0, none⟩ (.int .i64 v)) b ⟨⟨v, p.x.Wide, p.x.High, p.x.Holds, p.x.Flats⟩, p.h⟩ := heap_setCell_same w b 0 _ _ _ h
theorem HBDrawer.set1 (h : HBDrawer w b p) (v : Int) : HBDrawer (w.setCell ⟨b, 1, none⟩ (.int .i64 v)) b ⟨⟨p.x.Id, v, p.x.High, p.x.Holds, p.x.Flats⟩, p.h⟩ := heap_setCell_same w b 1 _ _ _ h
theorem HBDrawer.set2 (h : HBDrawer w b p) (v : Int) : HBDrawer (w.setCell ⟨b, 2, none⟩ (.int .i64 v)) b ⟨⟨p.x.Id, p.x.Wide, v, p.x.Holds, p.x.Flats⟩, p.h⟩ := heap_setCell_same w b 2 _ _ _ h
theorem HBDrawer.set3 (h : HBDrawer w b p) (v : Int) : HBDrawer (w.setCell ⟨b, 3, none⟩ (.int .i64 v)) b ⟨⟨p.x.Id, p.x.Wide, p.x.High, v, p.x.Flats⟩, p.h⟩ := heap_setCell_same w b 3 _ _ _ h
theorem HBDrawer.setS (h : HBDrawer w b p) (zs : List Int) (q : Hd) : HBDrawer (w.setCell ⟨b, 4, none⟩ (.slice q.a q.n q.c)) b ⟨⟨p.x.Id, p.x.Wide, p.x.High, p.x.Holds, zs⟩, q⟩ := heap_setCell_same w b 4 _ _ _ h
theorem HBDrawer.setAll (h : HBDrawer w b p) (q : PDrawer) : HBDrawer (((((w.setCell ⟨b, 0, none⟩ (.int .i64 q.x.Id)).setCell ⟨b, 1, none⟩ (.int .i64 q.x.Wide)).setCell ⟨b, 2, none⟩ (.int .i64 q.x.High)).setCell ⟨b, 3, none⟩ (.int .i64 q.x.Holds)).setCell ⟨b, 4, none⟩ (.slice q.h.a q.h.n q.h.c)) b q :=
  (heap_setCell_same _ b 4 _ _ _ (heap_setCell_same _ b 3 _ _ _ (heap_setCell_same _ b 2 _ _ _ (heap_setCell_same _ b 1 _ _ _ (heap_setCell_same _ b 0 _ _ _ h)))))
theorem HBDrawer.otherAll (h : HBDrawer w b p) (hne : b ≠ b') (x0 x1 x2 x3 x4 : Value) : HBDrawer (((((w.setCell ⟨b', 0, none⟩ x0).setCell ⟨b', 1, none⟩ x1).setCell ⟨b', 2, none⟩ x2).setCell ⟨b', 3, none⟩ x3).setCell ⟨b', 4, none⟩ x4) b p :=
  (((((h.other hne x0).other hne x1).other hne x2).other hne x3).other hne x4)
/-- It lies in the box b of some type. -/
def BoxDrawer (w : World) (b : Nat) (p : PDrawer) : Prop := w.cell? ⟨b, 0, none⟩ = some (.int .i64 p.x.Id) ∧ w.cell? ⟨b, 1, none⟩ = some (.int .i64 p.x.Wide) ∧ w.cell? ⟨b, 2, none⟩ = some (.int .i64 p.x.High) ∧ w.cell? ⟨b, 3, none⟩ = some (.int .i64 p.x.Holds) ∧ w.cell? ⟨b, 4, none⟩ = some (.slice p.h.a p.h.n p.h.c)
theorem BoxDrawer.new (w : World) (t : TypeId) (p : PDrawer) (B : Nat) (hB : w.heap.size = B) : BoxDrawer (w.alloc (.cells #[.int .i64 p.x.Id, .int .i64 p.x.Wide, .int .i64 p.x.High, .int .i64 p.x.Holds, .slice p.h.a p.h.n p.h.c] t)) B p := by
  subst hB
  refine ⟨?_, ?_, ?_, ?_, ?_⟩ <;> simp [World.cell?_alloc_new]
theorem BoxDrawer.lt (h : BoxDrawer w b p) : b < w.heap.size := World.lt_of_cell h.1
theorem BoxDrawer.below (h : BoxDrawer w b p) (hb : Below w.heap.size w w') : BoxDrawer w' b p :=
  ⟨(hb.cell (p := ⟨b, 0, none⟩) h.lt).trans h.1, (hb.cell (p := ⟨b, 1, none⟩) h.lt).trans h.2.1, (hb.cell (p := ⟨b, 2, none⟩) h.lt).trans h.2.2.1, (hb.cell (p := ⟨b, 3, none⟩) h.lt).trans h.2.2.2.1, (hb.cell (p := ⟨b, 4, none⟩) h.lt).trans h.2.2.2.2⟩
theorem resultsDrawer1 {fn : Func} {tm : Array Value} {a : Nat} (hf : fn.results = #[.cell a 42]) (ha : tm.getD a undef = .pointer (some ⟨b, 0, none⟩)) (h : HBDrawer w b p) :
    (results fn tm).run Try.prog w = .ok (.agg #[.int .i64 p.x.Id, .int .i64 p.x.Wide, .int .i64 p.x.High, .int .i64 p.x.Holds, .slice p.h.a p.h.n p.h.c]) w := by
  obtain ⟨h0, h1, h2, h3, h4⟩ := h.cells
  simp only [Array.getD_eq_getD_getElem?] at ha
  simp [results, hf, ha, go_sem, h0, h1, h2, h3, h4]
end
end Go.Proofs.Ytlmedhidkhphbaa
namespace Go.Proofs.Ytlmedhidkhphbaa
open Go.RowKit

/-- Lies x in a .. b? -/
def inB (x a b : Int) : Bool := decide (a ≤ x) && decide (x ≤ b)
theorem inB_iff {x a b : Int} : inB x a b = true ↔ a ≤ x ∧ x ≤ b := by simp [inB]
theorem inB_not {x a b : Int} : inB x a b = false ↔ ¬ (a ≤ x ∧ x ≤ b) := by rw [← inB_iff]; simp
/-- A sheet's five numbers. -/
structure Sh where
  id : Int
  row : Int
  col : Int
  scale : Int
  year : Int
/-- Is the sheet valid? -/
def Sh.ok (s : Sh) : Bool := inB s.id 1 999 && (inB s.row 0 99 && (inB s.col 0 99 && (inB s.scale 10 500 && inB s.year 1500 2100)))

set_option maxHeartbeats 400000 in
theorem l1In_any (x a b : Int) (w : World) :
    Calls Try.prog 119 #[.int .i64 x, .int .i64 a, .int .i64 b] w fun e w' => e = .returned (.bool (inB x a b)) ∧ w = w' := by
  by_cases h : a ≤ x
  · go_enter Try.func119, Try.ntmps119
    go_wp2
    go_ret
    exact ⟨ret_bool (by simp [inB, h]), rfl⟩
  · go_enter Try.func119, Try.ntmps119
    go_wp2
    go_ret
    exact ⟨ret_bool (by simp [inB]; omega), rfl⟩
theorem bel_alloc1 (w : World) (o : Obj) : Below w.heap.size w (w.alloc o) := (Below.refl _ _).alloc (Nat.le_refl _) o

theorem all_snoc (zs : List Int) (k : Nat) (z lo hi : Int) (h : zs[k]? = some z) : ((zs.take (k + 1)).all fun z => inB z lo hi) = (((zs.take k).all fun z => inB z lo hi) && inB z lo hi) := by
  rw [List.take_add_one, h]; simp
set_option maxHeartbeats 400000 in
/-- Are all numbers of a slice in lo .. hi? -/
theorem areInRange_any (b n c : Nat) (zs : List Int) (lo hi : Int) (w : World) (hn : n = zs.length) (hm : n ≤ 1000000) (hc : ∀ (j : Nat) z, zs[j]? = some z → w.cell? ⟨b, j, none⟩ = some (.int .i64 z)) :
    Calls Try.prog 127 #[.int .i64 lo, .int .i64 hi, .slice (some ⟨b, 0, none⟩) n c] w fun e w' => e = .returned (.bool (zs.all fun z => inB z lo hi)) ∧ w = w' := by
  have C := Lib.hid hc
  have L := Lib.hid hn
  clear hc hn
  go_enter Try.func127, Try.ntmps127
  go_wp2
  go_loop [11, 8] (fun i _ => ∃ k : Nat, k ≤ n ∧ i = .int .i64 k ∧ ((zs.take k).all fun z => inB z lo hi) = true) (fun i _ => n - (intOf i).toNat)
  case atStart => exact ⟨0, Nat.zero_le _, rfl, rfl⟩
  case round =>
    obtain ⟨k, hk, rfl, hall⟩ := hrel
    have H := Lib.hid hall
    clear hall
    by_cases hlt : k < n
    · obtain ⟨z, hz⟩ : ∃ z, zs[k]? = some z := ⟨zs[k]'(by have := L.out; omega), List.getElem?_eq_getElem _⟩
      have hcell := C.out k z hz
      have S := Lib.hid (all_snoc zs k z lo hi hz)
      have T := Lib.hid (List.mem_of_getElem? hz)
      clear hz
      by_cases hin : inB z lo hi = true
      · obtain ⟨h1, h2⟩ := inB_iff.1 hin
        have I := Lib.hid hin
        clear hin
        go_wp2
        go_round
        case rel => exact ⟨k + 1, by omega, by go_num, by rw [S.out, H.out, I.out]; rfl⟩
        case measure => simp [intOf]; omega
      · have hin' : inB z lo hi = false := by simpa using hin
        have h1 := inB_not.1 hin'
        have I := Lib.hid hin'
        have hF : (zs.all fun z => inB z lo hi) = false := by
          rw [List.all_eq_false]; exact ⟨z, T.out, by simp [I.out]⟩
        have F := Lib.hid hF
        clear hin hin' hF
        by_cases h2 : z < lo
        · clear h1
          go_wp2
          go_ret
          exact ⟨ret_bool F.out.symm, rfl⟩
        · have h3 : hi < z := by omega
          clear h1
          go_wp2
          go_ret
          exact ⟨ret_bool F.out.symm, rfl⟩
    · obtain rfl : k = n := by omega
      go_wp2
      go_ret
      exact ⟨ret_bool (by rw [← H.out, List.take_of_length_le (by have := L.out; omega)]), rfl⟩

theorem lit1 (W : World) (x : Int) (t : TypeId) (B : Nat) (hB : W.heap.size = B) : ∀ (j : Nat) z, [x][j]? = some z → (W.alloc (.cells #[.int .i64 x] t)).cell? ⟨B, j, none⟩ = some (.int .i64 z) := by
  intro j z hj
  subst hB
  match j, hj with
  | 0, hj => simp at hj; subst hj; simp [World.cell?_alloc_new]
  | j + 1, hj => simp at hj
theorem lit2 (W : World) (x y : Int) (t : TypeId) (B : Nat) (hB : W.heap.size = B) : ∀ (j : Nat) z, [x, y][j]? = some z → (W.alloc (.cells #[.int .i64 x, .int .i64 y] t)).cell? ⟨B, j, none⟩ = some (.int .i64 z) := by
  intro j z hj
  subst hB
  match j, hj with
  | 0, hj => simp at hj; subst hj; simp [World.cell?_alloc_new]
  | 1, hj => simp at hj; subst hj; simp [World.cell?_alloc_new]
  | j + 2, hj => simp at hj
theorem size_alloc (W : World) (o : Obj) : (W.alloc o).heap.size = W.heap.size + 1 := by
  show (W.heap.push o).size = _
  simp

end Go.Proofs.Ytlmedhidkhphbaa
namespace Go.Proofs.Ytlmedhidkhphbaa
section
variable {α : Type}

/-- The index of the first element that fits, or -1. -/
def firstOf (f : α → Bool) : List α → Int
  | [] => -1
  | s :: l => if f s = true then 0 else if firstOf f l < 0 then -1 else firstOf f l + 1
theorem firstOf_cases (f : α → Bool) (xs : List α) : (firstOf f xs = -1 ∧ ∀ s ∈ xs, f s = false) ∨ ∃ (i : Nat) (s : α), firstOf f xs = (i : Int) ∧ xs[i]? = some s ∧ f s = true ∧ ∀ (j : Nat) t, j < i → xs[j]? = some t → f t = false := by
  induction xs with
  | nil => exact .inl ⟨rfl, by simp⟩
  | cons x l ih =>
    by_cases h : f x = true
    · exact .inr ⟨0, x, by simp [firstOf, h], rfl, h, by omega⟩
    · have h' : f x = false := by simpa using h
      rcases ih with ⟨h1, h2⟩ | ⟨i, s, h1, h2, h3, h4⟩
      · exact .inl ⟨by simp [firstOf, h', h1], by simpa [h'] using h2⟩
      · refine .inr ⟨i + 1, s, by simp [firstOf, h', h1]; omega, h2, h3, fun j t hj ht => ?_⟩
        match j, ht with
        | 0, ht => simp at ht; rw [← ht]; exact h'
        | j + 1, ht => exact h4 j t (by omega) ht
theorem firstOf_at {f : α → Bool} {xs : List α} {i : Nat} {s : α} (hs : xs[i]? = some s) (hf : f s = true) (hb : ∀ (j : Nat) t, j < i → xs[j]? = some t → f t = false) : firstOf f xs = (i : Int) := by
  rcases firstOf_cases f xs with ⟨_, h2⟩ | ⟨i', s', h1, h2, h3, h4⟩
  · rw [h2 s (List.mem_of_getElem? hs)] at hf; cases hf
  · rw [h1]
    have : i' = i := by
      rcases Nat.lt_trichotomy i i' with h | h | h
      · rw [h4 i s h hs] at hf; cases hf
      · exact h.symm
      · rw [hb i' s' h h2] at h3; cases h3
    rw [this]
theorem firstOf_none {f : α → Bool} {xs : List α} (h : ∀ s ∈ xs, f s = false) : firstOf f xs = -1 := by
  rcases firstOf_cases f xs with ⟨h1, _⟩ | ⟨i, s, _, h2, h3, _⟩
  · exact h1
  · rw [h s (List.mem_of_getElem? h2)] at h3; cases h3
theorem firstOf_no {f : α → Bool} {xs : List α} (h : ∀ (j : Nat) t, j < xs.length → xs[j]? = some t → f t = false) : firstOf f xs = -1 :=
  firstOf_none fun s hs => by
    obtain ⟨j, hj⟩ := List.getElem?_of_mem hs
    exact h j s (List.getElem?_eq_some_iff.1 hj).1 hj
theorem firstOf_bd (f : α → Bool) (xs : List α) : -1 ≤ firstOf f xs ∧ firstOf f xs < (xs.length : Int) := by
  rcases firstOf_cases f xs with ⟨h1, _⟩ | ⟨i, s, h1, h2, _⟩
  · omega
  · have := (List.getElem?_eq_some_iff.1 h2).1; omega

/-- Is the element i right: valid, and its number greater than that of the one before? -/
def upStep (ok : α → Bool) (id : α → Int) (xs : List α) (i : Nat) : Bool :=
  match xs[i]? with
  | none => true
  | some s => ok s && (i == 0 || (match xs[i - 1]? with | some p => decide (id p < id s) | none => true))
def upB (ok : α → Bool) (id : α → Int) (xs : List α) : Bool := (List.range xs.length).all (upStep ok id xs)
variable {ok : α → Bool} {id : α → Int} {xs : List α}
theorem upB_iff : upB ok id xs = true ↔ ∀ i, i < xs.length → upStep ok id xs i = true := by simp [upB]
theorem upB_bad {i : Nat} (h : upStep ok id xs i = false) (hi : i < xs.length) : upB ok id xs = false := by
  by_cases h2 : upB ok id xs = true
  · rw [upB_iff.1 h2 i hi] at h; cases h
  · simpa using h2
theorem upStep_zero {s : α} (hs : xs[0]? = some s) : upStep ok id xs 0 = ok s := by unfold upStep; rw [hs]; simp
theorem upStep_succ {i : Nat} {p s : α} (hp : xs[i]? = some p) (hs : xs[i + 1]? = some s) : upStep ok id xs (i + 1) = (ok s && decide (id p < id s)) := by
  unfold upStep; rw [hs]; simp [hp]
theorem upStep_at {i : Nat} {p s : α} (h : 0 < i) (hp : xs[i - 1]? = some p) (hs : xs[i]? = some s) : upStep ok id xs i = (ok s && decide (id p < id s)) := by
  obtain ⟨j, rfl⟩ : ∃ j, i = j + 1 := ⟨i - 1, by omega⟩
  exact upStep_succ hp hs
theorem upB_ok (h : upB ok id xs = true) {s : α} (hs : s ∈ xs) : ok s = true := by
  obtain ⟨i, hi⟩ := List.getElem?_of_mem hs
  have h1 := upB_iff.1 h i (List.getElem?_eq_some_iff.1 hi).1
  unfold upStep at h1
  rw [hi] at h1
  simp at h1
  exact h1.1
theorem upB_lt (h : upB ok id xs = true) : ∀ (j i : Nat) (s t : α), i < j → xs[i]? = some s → xs[j]? = some t → id s < id t := by
  intro j
  induction j with
  | zero => intro i s t hi; omega
  | succ j ih =>
    intro i s t hij hs ht
    have hl := (List.getElem?_eq_some_iff.1 ht).1
    obtain ⟨p, hp⟩ : ∃ p, xs[j]? = some p := ⟨xs[j]'(by omega), List.getElem?_eq_getElem _⟩
    have hpt : id p < id t := by
      have h1 := upB_iff.1 h (j + 1) hl
      rw [upStep_succ hp ht] at h1
      simp at h1
      exact h1.2
    by_cases e : i = j
    · subst e; rw [hs] at hp; cases hp; exact hpt
    · exact Int.lt_trans (ih i s p (by omega) hs hp) hpt
theorem upB_same (h : upB ok id xs = true) {s t : α} (hs : s ∈ xs) (ht : t ∈ xs) (e : id s = id t) : s = t := by
  obtain ⟨i, hi⟩ := List.getElem?_of_mem hs
  obtain ⟨j, hj⟩ := List.getElem?_of_mem ht
  rcases Nat.lt_trichotomy i j with h1 | h1 | h1
  · have := upB_lt h j i s t h1 hi hj; omega
  · subst h1; rw [hi] at hj; exact Option.some.inj hj
  · have := upB_lt h i j t s h1 hj hi; omega
/-- Where the element with a number stands. -/
theorem upB_first (h : upB ok id xs = true) {i : Nat} {s : α} (hs : xs[i]? = some s) : firstOf (fun t => id t == id s) xs = (i : Int) :=
  firstOf_at hs (by simp) fun j t hj ht => by
    have := upB_lt h i j t s hj ht hs
    simp; omega
theorem filter_snoc' {k : Nat} {s : α} (f : α → Bool) (hs : xs[k]? = some s) : (xs.take (k + 1)).filter f = (xs.take k).filter f ++ (if f s = true then [s] else []) := by
  rw [List.take_add_one, hs, List.filter_append]
  cases h : f s <;> simp [h]
theorem filter_len' (f : α → Bool) (xs : List α) (k : Nat) : ((xs.take k).filter f).length ≤ k := Nat.le_trans (List.length_filter_le _ _) (by rw [List.length_take]; omega)
end
end Go.Proofs.Ytlmedhidkhphbaa
namespace Go.Proofs.Ytlmedhidkhphbaa
section
variable {α : Type} {ok : α → Bool} {id : α → Int} {xs : List α}
theorem upStep_set_ne {i j : Nat} {s r : α} (hs : xs[i]? = some s) (e : id r = id s) (hj : j ≠ i) : upStep ok id (xs.set i r) j = upStep ok id xs j := by
  have hi := (List.getElem?_eq_some_iff.1 hs).1
  unfold upStep
  rw [List.getElem?_set_ne (Ne.symm hj)]
  cases h : xs[j]? with
  | none => rfl
  | some t =>
    by_cases h2 : i = j - 1
    · subst h2; rw [List.getElem?_set_self hi, hs]; simp [e]
    · rw [List.getElem?_set_ne h2]
theorem upStep_set_self {i : Nat} {s r : α} (hs : xs[i]? = some s) (e : id r = id s) (h : upStep ok id xs i = true) : upStep ok id (xs.set i r) i = ok r := by
  have hi := (List.getElem?_eq_some_iff.1 hs).1
  unfold upStep at h ⊢
  rw [hs] at h
  rw [List.getElem?_set_self hi]
  simp only [Bool.and_eq_true] at h
  by_cases h0 : i = 0
  · subst h0; simp
  · rw [List.getElem?_set_ne (by omega)]
    have h2 := h.2
    cases hp : xs[i - 1]? with
    | none => simp
    | some p => rw [hp] at h2; simp [h0] at h2; simp [e, h2]
theorem upB_set {i : Nat} {s r : α} (h : upB ok id xs = true) (hs : xs[i]? = some s) (e : id r = id s) : upB ok id (xs.set i r) = ok r := by
  have hi := (List.getElem?_eq_some_iff.1 hs).1
  have h1 := upStep_set_self (ok := ok) hs e (upB_iff.1 h i hi)
  cases hr : ok r with
  | true =>
    refine upB_iff.2 fun j hj => ?_
    rw [List.length_set] at hj
    by_cases hji : j = i
    · subst hji; rw [h1, hr]
    · rw [upStep_set_ne hs e hji]; exact upB_iff.1 h j hj
  | false => exact upB_bad (by rw [h1, hr]) (by rw [List.length_set]; exact hi)
theorem upStep_app {ys : List α} {j : Nat} (hj : j < xs.length) : upStep ok id (xs ++ ys) j = upStep ok id xs j := by
  unfold upStep
  rw [List.getElem?_append_left hj]
  by_cases h0 : j = 0
  · subst h0; simp
  · rw [List.getElem?_append_left (by omega)]
theorem upB_prefix {ys : List α} (h : upB ok id (xs ++ ys) = true) : upB ok id xs = true :=
  upB_iff.2 fun j hj => by rw [← upStep_app (ys := ys) hj]; exact upB_iff.1 h j (by rw [List.length_append]; omega)
end
end Go.Proofs.Ytlmedhidkhphbaa
namespace Go.Proofs.Ytlmedhidkhphbaa
open Go.RowKit

set_option maxHeartbeats 800000 in
theorem rBig_any (a : Option Addr) (len cap : Nat) (w : World) :
    Calls Try.prog 15 #[.slice a len cap] w fun e w' => e = .returned (.bool (decide (65536 < len))) ∧ w = w' := by
  by_cases h : 65536 < len
  · go_enter Try.func15, Try.ntmps15
    go_wp2
    go_ret
    exact ⟨ret_bool (by simp; omega), rfl⟩
  · go_enter Try.func15, Try.ntmps15
    go_wp2
    go_ret
    exact ⟨ret_bool (by simp; omega), rfl⟩
theorem bnn (q : Bool) : (q != q) = false := by cases q <;> rfl
set_option maxHeartbeats 1600000 in
set_option maxRecDepth 100000 in
theorem rInts_yes (a : Option Addr) (len cap : Nat) (a' : Option Addr) (len' cap' : Nat) (xs : List Int) (w : World) (h : IsInts w a len cap xs) (h' : IsInts w a' len' cap' xs) :
    Calls Try.prog 22 #[.slice a len cap, .slice a' len' cap'] w fun e w' => e = .returned (.bool true) ∧ Below w.heap.size w w' := by
  obtain rfl := h.1
  obtain rfl := h'.1
  have hm := h.2.2.1
  have hcl := h.2.1
  unfold maxLen at hm
  have S := Lib.hid h
  have S' := Lib.hid h'
  clear h h'
  go_enter Try.func22, Try.ntmps22
  go_wp2
  go_loopw [5] (fun i wr => ∃ k : Nat, k ≤ xs.length ∧ i = .int .i64 k ∧ Below w.heap.size w wr) (fun i _ => xs.length - (intOf i).toNat)
  case atStart => exact ⟨0, Nat.zero_le _, rfl, Below.refl _ _⟩
  case round =>
    obtain ⟨k, hk, rfl, hbel⟩ := hrel
    have B := Lib.hid hbel
    by_cases hlt : k < xs.length
    · obtain ⟨s, hs⟩ : ∃ s, xs[k]? = some s := ⟨xs[k]'hlt, List.getElem?_eq_getElem _⟩
      obtain ⟨b, o, rfl, hb, hat⟩ := (S.out.below hbel).at (by omega)
      obtain ⟨b', o', rfl, hb', hat'⟩ := (S'.out.below hbel).at (by omega)
      have c0 := hat k s hs
      have d0 := hat' k s hs
      have hi0 : (0 : Int) ≤ (k : Int) := by omega
      have hi1 : (k : Int) < (xs.length : Int) := by omega
      clear hbel hs hat hat'
      go_wp2
      go_quiet (fail)
      have B1 := Lib.hid (Below.then' B.out (bel_drawn wr nq))
      go_wp2
      go_roundw
      case rel => exact ⟨k + 1, by omega, by go_num, B1.out⟩
      case measure => simp [intOf]; omega
    · obtain rfl : k = xs.length := by omega
      clear hbel
      go_wp2
      go_ret
      exact ⟨rfl, B.out⟩
def hasB (x : Int) (xs : List Int) : Bool := xs.any fun y => y == x
theorem hasB_iff {x : Int} {xs : List Int} : hasB x xs = true ↔ x ∈ xs := by
  unfold hasB; rw [List.any_eq_true]
  constructor
  · rintro ⟨y, h1, h2⟩; rw [← (by simpa using h2 : y = x)]; exact h1
  · intro h; exact ⟨x, h, by simp⟩
set_option maxHeartbeats 1600000 in
set_option maxRecDepth 100000 in
theorem rHas_any (a : Option Addr) (len cap : Nat) (xs : List Int) (x : Int) (w : World) (h : IsInts w a len cap xs) :
    Calls Try.prog 23 #[.slice a len cap, .int .i64 x] w fun e w' => e = .returned (.bool (hasB x xs)) ∧ w = w' := by
  obtain rfl := h.1
  have hm := h.2.2.1
  have hcl := h.2.1
  unfold maxLen at hm
  have S := Lib.hid h
  clear h
  go_enter Try.func23, Try.ntmps23
  go_wp2
  go_loop [5] (fun i => ∃ k : Nat, k ≤ xs.length ∧ i = .int .i64 k ∧ ∀ j y, j < k → xs[j]? = some y → ¬ y = x) (fun i => xs.length - (intOf i).toNat)
  case atStart => exact ⟨0, Nat.zero_le _, rfl, fun _ _ h => by omega⟩
  case round =>
    obtain ⟨k, hk, rfl, hno⟩ := hrel
    have NO := Lib.hid hno
    clear hno
    by_cases hlt : k < xs.length
    · obtain ⟨s, hs⟩ : ∃ s, xs[k]? = some s := ⟨xs[k]'hlt, List.getElem?_eq_getElem _⟩
      obtain ⟨b, o, rfl, hb, hat⟩ := S.out.at (by omega)
      have c0 := hat k s hs
      have hi0 : (0 : Int) ≤ (k : Int) := by omega
      have hi1 : (k : Int) < (xs.length : Int) := by omega
      have HS := Lib.hid hs
      clear hs hat
      by_cases he : s = x
      · have Y := Lib.hid (show hasB x xs = true from hasB_iff.2 (he ▸ List.mem_of_getElem? HS.out))
        have hb1 : (s == x) = true := by simpa using he
        subst he
        go_wp2
        go_ret
        exact ⟨ret_bool Y.out.symm, rfl⟩
      · have hb1 : (s == x) = false := by simpa using he
        have HE := Lib.hid he
        clear he
        go_wp2
        go_round
        case rel => exact ⟨k + 1, by omega, by go_num, fun j y hj hy => by
          by_cases e : j = k
          · subst e; rw [HS.out] at hy; cases hy; exact HE.out
          · exact NO.out j y (by omega) hy⟩
        case measure => simp [intOf]; omega
    · obtain rfl : k = xs.length := by omega
      have Y := Lib.hid (show hasB x xs = false from by
        rw [← Bool.not_eq_true, hasB_iff]
        intro h
        obtain ⟨j, hj⟩ := List.getElem?_of_mem h
        exact NO.out j x (List.getElem?_eq_some_iff.1 hj).1 hj rfl)
      go_wp2
      go_ret
      exact ⟨ret_bool Y.out.symm, rfl⟩
end Go.Proofs.Ytlmedhidkhphbaa
namespace Go.Proofs.Ytlmedhidkhphbaa

def sumI : List Int → Int
  | [] => 0
  | x :: l => x + sumI l
theorem sumI_app (a b : List Int) : sumI (a ++ b) = sumI a + sumI b := by
  induction a with
  | nil => simp [sumI]
  | cons x l ih => simp [sumI, ih]; omega

theorem find_first {α : Type} (f : α → Bool) (xs : List α) : (firstOf f xs = -1 ∧ xs.find? f = none) ∨ ∃ (i : Nat) (s : α), firstOf f xs = (i : Int) ∧ xs[i]? = some s ∧ xs.find? f = some s ∧ f s = true := by
  induction xs with
  | nil => exact .inl ⟨rfl, rfl⟩
  | cons x l ih =>
    by_cases h : f x = true
    · exact .inr ⟨0, x, by simp [firstOf, h], rfl, by simp [h], h⟩
    · have h' : f x = false := by simpa using h
      rcases ih with ⟨h1, h2⟩ | ⟨i, s, h1, h2, h3, h4⟩
      · exact .inl ⟨by simp [firstOf, h', h1], by simp [h', h2]⟩
      · exact .inr ⟨i + 1, s, by simp [firstOf, h', h1]; omega, h2, by simp [h', h3], h4⟩

def VFlat.ok (f : VFlat) : Bool := inB f.Id 1 999 && (inB f.Wide 10 2000 && (inB f.High 10 2000 && inB f.Grams 1 5000))
def flatsB (fs : List VFlat) : Bool := upB VFlat.ok VFlat.Id fs && decide (fs.length ≤ 20)
def idOk (z : Int) : Bool := inB z 1 999
def idsB (zs : List Int) : Bool := upB idOk (fun z => z) zs && decide (zs.length ≤ 12)
def VDrawer.ok (d : VDrawer) : Bool := inB d.Id 1 99 && (inB d.Wide 100 2000 && (inB d.High 100 2000 && (inB d.Holds 100 50000 && idsB d.Flats)))
def fitsB (f : VFlat) (d : VDrawer) : Bool := (decide (f.Wide ≤ d.Wide) && decide (f.High ≤ d.High)) || (decide (f.High ≤ d.Wide) && decide (f.Wide ≤ d.High))
def flatI (fs : List VFlat) (id : Int) : Int := firstOf (fun f => f.Id == id) fs
def flatOf (fs : List VFlat) (id : Int) : Option VFlat := fs.find? fun f => f.Id == id
def drawI (ds : List VDrawer) (id : Int) : Int := firstOf (fun d => d.Id == id) ds
def holdI (ds : List VDrawer) (id : Int) : Int := firstOf (fun d => hasB id d.Flats) ds
def gramsL (fs : List VFlat) (ids : List Int) : Int := sumI ((fs.filter fun f => hasB f.Id ids).map VFlat.Grams)
def fitsId (fs : List VFlat) (d : VDrawer) (id : Int) : Bool := match flatOf fs id with | none => false | some f => fitsB f d
def rightB (fs : List VFlat) (d : VDrawer) : Bool := d.Flats.all (fitsId fs d) && decide (gramsL fs d.Flats ≤ d.Holds)
def apartB (ds : List VDrawer) (i : Nat) (d : VDrawer) : Bool := d.Flats.all fun id => decide (holdI (ds.take i) id < 0)
def rightAt (fs : List VFlat) (ds : List VDrawer) (i : Nat) : Bool := match ds[i]? with | none => true | some d => rightB fs d && apartB ds i d
def listB (ds : List VDrawer) : Bool := upB VDrawer.ok VDrawer.Id ds && decide (ds.length ≤ 8)
def goodB (fs : List VFlat) (ds : List VDrawer) : Bool := flatsB fs && (listB ds && (List.range ds.length).all (rightAt fs ds))
def insAt (n : Int) (zs : List Int) : List Int := zs.takeWhile (fun z => decide (z < n)) ++ n :: zs.dropWhile (fun z => decide (z < n))
def withF (d : VDrawer) (zs : List Int) : VDrawer := { d with Flats := zs }
def setF (ds : List VDrawer) (i : Nat) (g : List Int → List Int) : List VDrawer := match ds[i]? with | none => ds | some d => ds.set i (withF d (g d.Flats))
def putAt (ds : List VDrawer) (i : Nat) (flat : Int) : List VDrawer := setF ds i (insAt flat)
def looseB (fs : List VFlat) (ds : List VDrawer) (flat : Int) : Bool := goodB fs ds && (decide (0 ≤ flatI fs flat) && decide (holdI ds flat < 0))
def putB (fs : List VFlat) (ds : List VDrawer) (flat id : Int) : Bool := looseB fs ds flat && (decide (0 ≤ drawI ds id) && goodB fs (putAt ds (drawI ds id).toNat flat))

def AreFlats_0 (fs : List VFlat) : Bool := flatsB fs
def AreDrawers_0 (fs : List VFlat) (ds : List VDrawer) : Bool := goodB fs ds
def DoesFit_1 (f : VFlat) (d : VDrawer) : Bool := f.ok && d.ok
def DoesFit_0 (f : VFlat) (d : VDrawer) : Bool := DoesFit_1 f d && fitsB f d
def GramsIn_1 (fs : List VFlat) (ds : List VDrawer) (id : Int) : Bool := goodB fs ds && decide (0 ≤ drawI ds id)
def GramsIn_0 (fs : List VFlat) (ds : List VDrawer) (id : Int) : Int := if GramsIn_1 fs ds id then (match ds.find? (fun d => d.Id == id) with | none => 0 | some d => gramsL fs d.Flats) else 0
def DrawerOf_1 (fs : List VFlat) (ds : List VDrawer) (flat : Int) : Bool := goodB fs ds && decide (0 ≤ flatI fs flat)
def DrawerOf_0 (fs : List VFlat) (ds : List VDrawer) (flat : Int) : Int := if DrawerOf_1 fs ds flat then (match ds.find? (fun d => hasB flat d.Flats) with | none => 0 | some d => d.Id) else 0
def PutFlat_1 (fs : List VFlat) (ds : List VDrawer) (flat id : Int) : Bool := putB fs ds flat id
def PutFlat_0 (fs : List VFlat) (ds : List VDrawer) (flat id : Int) : List VDrawer := if putB fs ds flat id then putAt ds (drawI ds id).toNat flat else []
def without (flat : Int) (zs : List Int) : List Int := zs.filter fun z => !(z == flat)
def TakeFlat_1 (fs : List VFlat) (ds : List VDrawer) (flat : Int) : Bool := goodB fs ds && decide (0 ≤ holdI ds flat)
def TakeFlat_0 (fs : List VFlat) (ds : List VDrawer) (flat : Int) : List VDrawer := if TakeFlat_1 fs ds flat then setF ds (holdI ds flat).toNat (without flat) else []
def DrawersFor_1 (fs : List VFlat) (ds : List VDrawer) (flat : Int) : Bool := looseB fs ds flat
def DrawersFor_0 (fs : List VFlat) (ds : List VDrawer) (flat : Int) : List Int := if looseB fs ds flat then (ds.filter fun d => putB fs ds flat d.Id).map VDrawer.Id else []
def areaD (ds : List VDrawer) (id : Int) : Int := match ds.find? (fun d => d.Id == id) with | none => 0 | some d => d.Wide * d.High
/-- The first least one by a number. -/
def leastBy (f : Int → Int) : List Int → Int → Int
  | [], b => b
  | x :: l, b => leastBy f l (if f x < f b then x else b)
def TightestFor_0 (fs : List VFlat) (ds : List VDrawer) (flat : Int) : Int := match DrawersFor_0 fs ds flat with | [] => 0 | x :: l => leastBy (areaD ds) l x
def TightestFor_1 (fs : List VFlat) (ds : List VDrawer) (flat : Int) : Bool := !(DrawersFor_0 fs ds flat).isEmpty
def looseL (fs : List VFlat) (ds : List VDrawer) : List Int := (fs.filter fun f => decide (holdI ds f.Id < 0)).map VFlat.Id
def LooseFlats_1 (fs : List VFlat) (ds : List VDrawer) : Bool := goodB fs ds
def LooseFlats_0 (fs : List VFlat) (ds : List VDrawer) : List Int := if goodB fs ds then looseL fs ds else []
def EmptyDrawers_1 (fs : List VFlat) (ds : List VDrawer) : Bool := goodB fs ds
def EmptyDrawers_0 (fs : List VFlat) (ds : List VDrawer) : List Int := if goodB fs ds then (ds.filter fun d => d.Flats.isEmpty).map VDrawer.Id else []
/-- One flat is stored, if it can be. -/
def storeF (fs : List VFlat) (ds : List VDrawer) (f : VFlat) : List VDrawer := if TightestFor_1 fs ds f.Id then PutFlat_0 fs ds f.Id (TightestFor_0 fs ds f.Id) else ds
def areaF (f : VFlat) : Int := f.Wide * f.High
/-- f is put into a row: behind those that are not less. -/
def insF (f : VFlat) : List VFlat → List VFlat
  | [] => [f]
  | x :: l => if areaF x < areaF f then f :: x :: l else x :: insF f l
def orderF (fs : List VFlat) : List VFlat := fs.foldl (fun l f => insF f l) []
def storedL (fs : List VFlat) (ds : List VDrawer) : List VDrawer := (orderF (fs.filter fun f => decide (holdI ds f.Id < 0))).foldl (storeF fs) ds
def StoreAll_2 (fs : List VFlat) (ds : List VDrawer) : Bool := goodB fs ds
def StoreAll_0 (fs : List VFlat) (ds : List VDrawer) : List VDrawer := if goodB fs ds then storedL fs ds else []
def StoreAll_1 (fs : List VFlat) (ds : List VDrawer) : List Int := if goodB fs ds then looseL fs (storedL fs ds) else []
end Go.Proofs.Ytlmedhidkhphbaa
