/- The struct Drawer (integers and a slice of integers): its value; read from an argument; rows of it that a call owns. (made by gen2.py) -/
import Derived.Test.YtlmedhidkhphbaaOpen3
import Derived.Test.YtlmedhidkhphbaaAppL
import Derived.Test.YtlmedhidkhphbaaReg
import Derived.Deep.RegionWith
import Derived.Laws.OwnMore
import Derived.Handy
import Derived.Laws.IdiomRangeMap
namespace Go.Proofs.Ytlmedhidkhphbaa
open Go.RowKit Go.ChangeShapes Go.WideShapes Go.Deep

structure VDrawer where
  Id : Int
  Wide : Int
  High : Int
  Holds : Int
  Flats : List Int
/-- Its value and where its slice lies. -/
structure PDrawer where
  x : VDrawer
  h : Hd
def PDrawer.vals (p : PDrawer) : List Value := [.int .i64 p.x.Id, .int .i64 p.x.Wide, .int .i64 p.x.High, .int .i64 p.x.Holds, .slice p.h.a p.h.n p.h.c]
theorem PDrawer.vals_len (p : PDrawer) : p.vals.length = 5 := rfl
theorem PDrawer.vals_one (p : PDrawer) : ∀ u ∈ p.vals, u.oneCell' = true := by
  intro u hu
  simp [PDrawer.vals] at hu
  rcases hu with rfl | rfl | rfl | rfl | rfl <;> rfl
/-- It lies at block b from offset o on, its slice's parts in h. -/
def DrawerAt (w : World) (b o : Nat) (x : VDrawer) (h : Hd) : Prop :=
  w.cell? ⟨b, o, none⟩ = some (.int .i64 x.Id) ∧ w.cell? ⟨b, o + 1, none⟩ = some (.int .i64 x.Wide) ∧ w.cell? ⟨b, o + 2, none⟩ = some (.int .i64 x.High) ∧ w.cell? ⟨b, o + 3, none⟩ = some (.int .i64 x.Holds) ∧ w.cell? ⟨b, o + 4, none⟩ = some (.slice h.a h.n h.c) ∧ IsInts w h.a h.n h.c x.Flats
def IsDrawerS (w : World) (a : Option Addr) (len cap : Nat) (xs : List VDrawer) : Prop :=
  len = xs.length ∧ len ≤ cap ∧ cap ≤ maxLen ∧ (len = 0 ∨ ∃ b o, a = some ⟨b, o, none⟩ ∧ b < w.heap.size ∧ ∀ (k : Nat) x, xs[k]? = some x → ∃ h, DrawerAt w b (o + k * 5) x h)
theorem DrawerAt.below {w w' : World} {b o : Nat} {x : VDrawer} {h : Hd} (H : DrawerAt w b o x h) (hb : Below w.heap.size w w') (hlt : b < w.heap.size) : DrawerAt w' b o x h :=
  ⟨(hb.cell (p := ⟨b, o, none⟩) hlt).trans H.1, (hb.cell (p := ⟨b, o + 1, none⟩) hlt).trans H.2.1, (hb.cell (p := ⟨b, o + 2, none⟩) hlt).trans H.2.2.1, (hb.cell (p := ⟨b, o + 3, none⟩) hlt).trans H.2.2.2.1, (hb.cell (p := ⟨b, o + 4, none⟩) hlt).trans H.2.2.2.2.1, H.2.2.2.2.2.below hb⟩
theorem IsDrawerS.below {w w' : World} {a : Option Addr} {len cap : Nat} {xs : List VDrawer} (h : IsDrawerS w a len cap xs) (hb : Below w.heap.size w w') : IsDrawerS w' a len cap xs := by
  refine ⟨h.1, h.2.1, h.2.2.1, ?_⟩
  rcases h.2.2.2 with h0 | ⟨b, o, rfl, h1, h2⟩
  · exact .inl h0
  · exact .inr ⟨b, o, rfl, Nat.lt_of_lt_of_le h1 hb.size, fun k x hx => by
      obtain ⟨h, hh⟩ := h2 k x hx
      exact ⟨h, hh.below hb h1⟩⟩
theorem IsDrawerS.at {w : World} {a : Option Addr} {len cap : Nat} {xs : List VDrawer} (h : IsDrawerS w a len cap xs) (hpos : 0 < len) : ∃ b o, a = some ⟨b, o, none⟩ ∧ b < w.heap.size ∧ ∀ (k : Nat) x, xs[k]? = some x → ∃ h, DrawerAt w b (o + k * 5) x h := by
  rcases h.2.2.2 with h0 | h1
  · omega
  · exact h1
theorem nil_IsDrawerS (w : World) : IsDrawerS w none 0 0 [] := ⟨rfl, Nat.le_refl _, by simp [maxLen], .inl rfl⟩
/-- The first elements of a slice. -/
theorem IsDrawerS.take {w : World} {a : Option Addr} {len cap : Nat} {xs : List VDrawer} (h : IsDrawerS w a len cap xs) {k : Nat} (hk : k ≤ len) : IsDrawerS w a k cap (xs.take k) := by
  refine ⟨by rw [List.length_take, ← h.1]; omega, Nat.le_trans hk h.2.1, h.2.2.1, ?_⟩
  by_cases h0 : k = 0
  · exact .inl h0
  · obtain ⟨b, o, e, h1, h2⟩ := h.at (by omega)
    refine .inr ⟨b, o, e, h1, fun j x hj => h2 j x ?_⟩
    rw [List.getElem?_take] at hj
    split at hj
    · exact hj
    · cases hj
set_option maxRecDepth 100000 in
theorem open_Drawer {H : Type} {enc : TypeId × Value → H} {w : World} {base : Nat} {held : Bool} {r : Reach} {b0 : Nat} {v : Value} {d : DataW H} {p : List MemPlace}
    (hv : Value.okWide Try.prog w r b0 59 v) (h : DataW.Trod enc Try.prog w base (fun _ => true) held 59 v d p) : ∃ (x : VDrawer) (h : Hd), v = .agg #[.int .i64 x.Id, .int .i64 x.Wide, .int .i64 x.High, .int .i64 x.Holds, .slice h.a h.n h.c] ∧ IsInts w h.a h.n h.c x.Flats := by
  obtain ⟨cs, rfl, hl, hc⟩ := open_trod_struct (P := Try.prog) Try.underlying59 (by kernel_rfl) (by kernel_rfl) hv h
  obtain ⟨c0, n0, y0, h0, k0⟩ := hc 0 _ rfl
  obtain ⟨z0, q0, _⟩ := DataW.trod_int Try.underlying3 k0
  obtain rfl : c0 = .int .i64 z0 := by simpa using q0
  obtain ⟨c1, n1, y1, h1, k1⟩ := hc 1 _ rfl
  obtain ⟨z1, q1, _⟩ := DataW.trod_int Try.underlying3 k1
  obtain rfl : c1 = .int .i64 z1 := by simpa using q1
  obtain ⟨c2, n2, y2, h2, k2⟩ := hc 2 _ rfl
  obtain ⟨z2, q2, _⟩ := DataW.trod_int Try.underlying3 k2
  obtain rfl : c2 = .int .i64 z2 := by simpa using q2
  obtain ⟨c3, n3, y3, h3, k3⟩ := hc 3 _ rfl
  obtain ⟨z3, q3, _⟩ := DataW.trod_int Try.underlying3 k3
  obtain rfl : c3 = .int .i64 z3 := by simpa using q3
  obtain ⟨c4, n4, y4, h4, k4⟩ := hc 4 _ rfl
  obtain ⟨hd, zs, rfl, hzs⟩ := trod_ints Try.underlying31 Try.underlying3 (by kernel_rfl) k4
  have e : cs = [.int .i64 z0, .int .i64 z1, .int .i64 z2, .int .i64 z3, .slice hd.a hd.n hd.c] := by
    apply List.ext_getElem?
    intro j
    by_cases hj : j < 5
    · rcases (show j = 0 ∨ j = 1 ∨ j = 2 ∨ j = 3 ∨ j = 4 by omega) with rfl | rfl | rfl | rfl | rfl
      all_goals first | exact h0 | exact h1 | exact h2 | exact h3 | exact h4
    · rw [List.getElem?_eq_none (by simp at hl; omega), List.getElem?_eq_none (by simp; omega)]
  subst e
  exact ⟨⟨z0, z1, z2, z3, zs⟩, hd, rfl, hzs⟩
set_option maxRecDepth 100000 in
theorem open_DrawerS {H : Type} {enc : TypeId × Value → H} {W : World} {base : Nat} {held : Bool} {a : Option Addr} {len cap : Nat} {d : DataW H} {p : List MemPlace}
    (h : DataW.Trod enc Try.prog W base (fun _ => true) held 54 (.slice a len cap) d p) : ∃ xs : List VDrawer, IsDrawerS W a len cap xs := by
  obtain ⟨fuel, hf⟩ := h
  rcases open_trod_structs Try.underlying54 Try.underlying59 (by kernel_rfl) (by kernel_rfl) (by decide) hf with ⟨rfl, rfl, rfl⟩ | ⟨b, o, ha, hl, hm, hb, hc⟩
  · exact ⟨[], nil_IsDrawerS W⟩
  · have each : ∀ i, i < len → ∃ (x : VDrawer) (h : Hd), DrawerAt W b (o + i * 5) x h := by
      intro i hi
      obtain ⟨c0, n0, y0, h0, k0⟩ := hc i hi 0 _ rfl
      obtain ⟨z0, q0, _⟩ := DataW.trod_int Try.underlying3 k0
      obtain rfl : c0 = .int .i64 z0 := by simpa using q0
      obtain ⟨c1, n1, y1, h1, k1⟩ := hc i hi 1 _ rfl
      obtain ⟨z1, q1, _⟩ := DataW.trod_int Try.underlying3 k1
      obtain rfl : c1 = .int .i64 z1 := by simpa using q1
      obtain ⟨c2, n2, y2, h2, k2⟩ := hc i hi 2 _ rfl
      obtain ⟨z2, q2, _⟩ := DataW.trod_int Try.underlying3 k2
      obtain rfl : c2 = .int .i64 z2 := by simpa using q2
      obtain ⟨c3, n3, y3, h3, k3⟩ := hc i hi 3 _ rfl
      obtain ⟨z3, q3, _⟩ := DataW.trod_int Try.underlying3 k3
      obtain rfl : c3 = .int .i64 z3 := by simpa using q3
      obtain ⟨c4, n4, y4, h4, k4⟩ := hc i hi 4 _ rfl
      obtain ⟨hd, zs, rfl, hzs⟩ := trod_ints Try.underlying31 Try.underlying3 (by kernel_rfl) k4
      exact ⟨⟨z0, z1, z2, z3, zs⟩, hd, h0, h1, h2, h3, h4, hzs⟩
    obtain ⟨pick, hpick⟩ := Classical.axiomOfChoice (r := fun (i : Fin len) (x : VDrawer) => ∃ h : Hd, DrawerAt W b (o + i.1 * 5) x h) (fun i => each i.1 i.2)
    refine ⟨(List.finRange len).map pick, by simp, hl, hm, ?_⟩
    rcases ha with h0 | rfl
    · exact .inl h0
    · by_cases h0 : len = 0
      · exact .inl h0
      · refine .inr ⟨b, o, rfl, hb (by omega), fun k s hs => ?_⟩
        obtain ⟨hk, rfl⟩ := List.getElem?_eq_some_iff.1 hs
        have hk' : k < len := by simpa using hk
        have := hpick ⟨k, hk'⟩
        simpa using this
def cellsDrawer (ps : List PDrawer) : List Value := ps.flatMap PDrawer.vals
theorem cellsDrawer_len (ps : List PDrawer) : (cellsDrawer ps).length = ps.length * 5 := by
  induction ps with
  | nil => rfl
  | cons x l ih => simp [cellsDrawer, PDrawer.vals_len] at *; omega
theorem cellsDrawer_append (xs ys : List PDrawer) : cellsDrawer (xs ++ ys) = cellsDrawer xs ++ cellsDrawer ys := by simp [cellsDrawer]
theorem cellsDrawer_snoc (xs : List PDrawer) (s : PDrawer) : cellsDrawer (xs ++ [s]) = cellsDrawer xs ++ s.vals := by simp [cellsDrawer]
theorem cellsDrawer_at {xs : List PDrawer} {k : Nat} {s : PDrawer} (h : xs[k]? = some s) (j : Nat) (hj : j < 5) : (cellsDrawer xs)[k * 5 + j]? = s.vals[j]? := by
  have hk : k < xs.length := (List.getElem?_eq_some_iff.1 h).1
  have e : xs = xs.take k ++ s :: xs.drop (k + 1) := by
    have h2 := List.take_append_drop k xs
    rw [List.drop_eq_getElem_cons hk] at h2
    have : xs[k] = s := by rw [List.getElem?_eq_getElem hk] at h; simpa using h
    rw [this] at h2; exact h2.symm
  have hl : (cellsDrawer (xs.take k)).length = k * 5 := by rw [cellsDrawer_len, List.length_take]; omega
  rw [e, show cellsDrawer (xs.take k ++ s :: xs.drop (k + 1)) = cellsDrawer (xs.take k) ++ (s.vals ++ cellsDrawer (xs.drop (k + 1))) from by simp [cellsDrawer], List.getElem?_append_right (by omega), hl, show k * 5 + j - k * 5 = j from by omega, List.getElem?_append_left (by rw [PDrawer.vals_len]; exact hj)]
theorem cellsDrawer_drop (xs : List PDrawer) (i : Nat) : (cellsDrawer xs).drop (i * 5) = cellsDrawer (xs.drop i) := by
  by_cases h : i ≤ xs.length
  · have e : cellsDrawer xs = cellsDrawer (xs.take i) ++ cellsDrawer (xs.drop i) := by
      unfold cellsDrawer
      rw [← List.flatMap_append, List.take_append_drop]
    have hl : (cellsDrawer (xs.take i)).length = i * 5 := by rw [cellsDrawer_len, List.length_take]; omega
    rw [e, List.drop_append_of_le_length (by omega), List.drop_of_length_le (by omega), List.nil_append]
  · rw [List.drop_of_length_le (show xs.length ≤ i by omega), List.drop_of_length_le (by rw [cellsDrawer_len]; omega)]; rfl
theorem cellsDrawer_take (xs : List PDrawer) (i : Nat) : cellsDrawer xs = cellsDrawer (xs.take i) ++ (cellsDrawer xs).drop (i * 5) := by
  rw [cellsDrawer_drop]
  unfold cellsDrawer
  rw [← List.flatMap_append, List.take_append_drop]
theorem cellsDrawer_set (xs : List PDrawer) (i : Nat) (r : PDrawer) (h : i < xs.length) : cellsDrawer (xs.set i r) = cellsDrawer (xs.take i) ++ (r.vals ++ (cellsDrawer xs).drop (i * 5 + 5)) := by
  rw [List.set_eq_take_append_cons_drop, if_pos h, show i * 5 + 5 = (i + 1) * 5 by omega, cellsDrawer_drop]
  simp [cellsDrawer]
theorem one_Drawer (xs : List PDrawer) : ∀ u ∈ cellsDrawer xs, u.oneCell' = true := by
  intro u hu
  obtain ⟨s, _, hs⟩ := List.mem_flatMap.1 hu
  exact s.vals_one u hs
theorem infoDrawer : (Try.prog.info? 42).map (fun i => (i.zero, i.size, i.bytes)) = some (some (.agg #[.int .i64 0, .int .i64 0, .int .i64 0, .int .i64 0, .slice none 0 0]), 5, 56) := by kernel_rfl
def zerosDrawer (n : Nat) : List Value := (List.replicate n [.int .i64 0, .int .i64 0, .int .i64 0, .int .i64 0, .slice none 0 0]).flatten
theorem zerosDrawer_succ (n : Nat) : zerosDrawer (n + 1) = .int .i64 0 :: .int .i64 0 :: .int .i64 0 :: .int .i64 0 :: .slice none 0 0 :: zerosDrawer n := by
  unfold zerosDrawer; rw [List.replicate_succ]; rfl
theorem zerosDrawer_len (n : Nat) : (zerosDrawer n).length = n * 5 := by
  induction n with
  | zero => rfl
  | succ n ih => rw [zerosDrawer_succ]; simp [ih]; omega
theorem zerosDrawer_at (n j : Nat) (h : j < n * 5) : (zerosDrawer n)[j]? = [.int .i64 0, .int .i64 0, .int .i64 0, .int .i64 0, .slice none 0 0][j % 5]? := by
  induction n generalizing j with
  | zero => omega
  | succ n ih =>
    rw [zerosDrawer_succ]
    by_cases hj : j < 5
    · rw [Nat.mod_eq_of_lt hj]
      rcases (show j = 0 ∨ j = 1 ∨ j = 2 ∨ j = 3 ∨ j = 4 by omega) with rfl | rfl | rfl | rfl | rfl <;> rfl
    · obtain ⟨i, rfl⟩ : ∃ i, j = i + 5 := ⟨j - 5, by omega⟩
      rw [Nat.add_mod_right, ← ih i (by omega)]
      rfl
theorem madeDrawer (n : Nat) : (madeCells (.agg #[.int .i64 0, .int .i64 0, .int .i64 0, .int .i64 0, .slice none 0 0] : Value).cells (n * 5)).toList = zerosDrawer n := by
  apply List.ext_getElem?
  intro j
  rw [Array.getElem?_toList]
  by_cases h : j < n * 5
  · rw [zerosDrawer_at n j h]
    have hm : j % 5 < 5 := Nat.mod_lt _ (by decide)
    simp only [madeCells, Value.cells]
    rw [Array.getElem?_eq_getElem (by simpa using h)]
    rcases (show j % 5 = 0 ∨ j % 5 = 1 ∨ j % 5 = 2 ∨ j % 5 = 3 ∨ j % 5 = 4 by omega) with e | e | e | e | e <;> simp [e]
  · rw [List.getElem?_eq_none (by rw [zerosDrawer_len]; omega)]
    simp [madeCells, h]
theorem setDrawer (A L : List Value) (v0 v1 v2 v3 v4 : Value) (o : Nat) (hA : A.length = o) (hL : o + 5 ≤ L.length) :
    ((((((A ++ L.drop o).set (o) v0).set (o + 1) v1).set (o + 2) v2).set (o + 3) v3).set (o + 4) v4) = A ++ v0 :: v1 :: v2 :: v3 :: v4 :: L.drop (o + 5) := by
  subst hA
  obtain ⟨a0, a1, a2, a3, a4, e⟩ : ∃ a0 a1 a2 a3 a4, L.drop A.length = a0 :: a1 :: a2 :: a3 :: a4 :: L.drop (A.length + 5) := ⟨_, _, _, _, _, by rw [List.drop_eq_getElem_cons (show A.length < L.length by omega), List.drop_eq_getElem_cons (show A.length + 1 < L.length by omega), List.drop_eq_getElem_cons (show A.length + 2 < L.length by omega), List.drop_eq_getElem_cons (show A.length + 3 < L.length by omega), List.drop_eq_getElem_cons (show A.length + 4 < L.length by omega)]⟩
  rw [e]
  generalize L.drop (A.length + 5) = D
  simp [List.set_append_right]
theorem storedDrawer {w : World} {base n c g o : Nat} {e : TypeId} {size : Nat} {A L : List Value} (h : w.ownsRow base e size (.slice (some ⟨g, 0, none⟩) n c) n (A ++ L.drop o)) (hA : A.length = o) (hL : o + 5 ≤ L.length) (v0 v1 v2 v3 v4 : Value) :
    (((((w.setCell ⟨g, o, none⟩ v0).setCell ⟨g, o + 1, none⟩ v1).setCell ⟨g, o + 2, none⟩ v2).setCell ⟨g, o + 3, none⟩ v3).setCell ⟨g, o + 4, none⟩ v4).ownsRow base e size (.slice (some ⟨g, 0, none⟩) n c) n (A ++ v0 :: v1 :: v2 :: v3 :: v4 :: L.drop (o + 5)) ∧ w.grownBy (((((w.setCell ⟨g, o, none⟩ v0).setCell ⟨g, o + 1, none⟩ v1).setCell ⟨g, o + 2, none⟩ v2).setCell ⟨g, o + 3, none⟩ v3).setCell ⟨g, o + 4, none⟩ v4) (some g) := by
  have h0 := h.stored (o) v0
  have h1 := h0.1.stored (o + 1) v1
  have h2 := h1.1.stored (o + 2) v2
  have h3 := h2.1.stored (o + 3) v3
  have h4 := h3.1.stored (o + 4) v4
  refine ⟨?_, (grown_trans (grown_trans (grown_trans (grown_trans h0.2 h1.2) h2.2) h3.2) h4.2)⟩
  have := h4.1
  rw [setDrawer A L v0 v1 v2 v3 v4 o hA hL] at this
  exact this
/-- The slices inside: each owned, in blocks of their own, none in the block g0 of the row itself. -/
def InnerDrawer (lo hi : Nat) (w : World) (g0 : Option Nat) (ps : List PDrawer) : Prop :=
  (∀ (k : Nat) p, ps[k]? = some p → HInts lo hi w p.h p.x.Flats) ∧ (∀ (k : Nat) p b, ps[k]? = some p → p.h.blk = some b → g0 ≠ some b) ∧
  (∀ (i j : Nat) p q b, i ≠ j → ps[i]? = some p → ps[j]? = some q → p.h.blk = some b → q.h.blk ≠ some b)
/-- A row of the call's own in lo .. hi, the slices inside too. -/
def RawDrawer (lo hi : Nat) (w : World) (v : Value) (ps : List PDrawer) : Prop := OwnIn lo hi w 42 5 v ps.length (cellsDrawer ps) ∧ InnerDrawer lo hi w v.ownBlock ps
def OwnDrawerS (lo hi : Nat) (w : World) (v : Value) (xs : List VDrawer) : Prop := ∃ ps : List PDrawer, ps.map PDrawer.x = xs ∧ RawDrawer lo hi w v ps
section
variable {lo hi lo' hi' : Nat} {w w' : World} {v : Value} {g0 : Option Nat} {ps : List PDrawer} {xs : List VDrawer}
theorem nil_InnerDrawer (lo hi : Nat) (w : World) (g0 : Option Nat) : InnerDrawer lo hi w g0 [] := ⟨fun k p h => by simp at h, fun k p b h => by simp at h, fun i j p q b _ h => by simp at h⟩
theorem InnerDrawer.keep (h : InnerDrawer lo hi w g0 ps) (hk : ∀ b, lo ≤ b → b < hi → b < w.heap.size → g0 ≠ some b → w'.heap[b]? = w.heap[b]?) : InnerDrawer lo hi w' g0 ps :=
  ⟨fun k p hp => (h.1 k p hp).keep fun b hb => by
    have := (h.1 k p hp).lt hb
    exact hk b this.1 this.2.1 this.2.2 (h.2.1 k p b hp hb), h.2.1, h.2.2⟩
theorem InnerDrawer.mono (h : InnerDrawer lo hi w g0 ps) (h1 : lo' ≤ lo) (h2 : hi ≤ hi') : InnerDrawer lo' hi' w g0 ps := ⟨fun k p hp => (h.1 k p hp).mono h1 h2, h.2.1, h.2.2⟩
theorem InnerDrawer.below (h : InnerDrawer lo hi w g0 ps) (hb : Below w.heap.size w w') : InnerDrawer lo hi w' g0 ps := h.keep fun b _ _ hs _ => hb.block b hs
theorem InnerDrawer.grown (h : InnerDrawer lo hi w g0 ps) (hg : w.grownBy w' g0) : InnerDrawer lo hi w' g0 ps := h.keep fun b _ _ hs hne => hg.block b hs (fun e => hne e.symm)
/-- One more, its slice in newer memory. -/
theorem InnerDrawer.snoc (h : InnerDrawer lo hi w g0 ps) {p : PDrawer} (hp : HInts hi hi' w p.h p.x.Flats) (hl : lo ≤ hi) (hh : hi ≤ hi') (hg : ∀ b, g0 = some b → b < hi) : InnerDrawer lo hi' w g0 (ps ++ [p]) := by
  have old : ∀ k q, k < ps.length → (ps ++ [p])[k]? = some q → ps[k]? = some q := fun k q hk hq => by rwa [List.getElem?_append_left hk] at hq
  have new : ∀ k q, ¬ k < ps.length → (ps ++ [p])[k]? = some q → k = ps.length ∧ q = p := fun k q hk hq => by
    have hl := (List.getElem?_eq_some_iff.1 hq).1
    rw [List.length_append, List.length_singleton] at hl
    have e : k = ps.length := by omega
    subst e
    simp at hq
    exact ⟨rfl, hq.symm⟩
  refine ⟨fun k q hq => ?_, fun k q b hq hb => ?_, fun i j q r b hij hq hr hb hc => ?_⟩
  · by_cases hk : k < ps.length
    · exact (h.1 k q (old k q hk hq)).mono (Nat.le_refl _) hh
    · obtain ⟨_, rfl⟩ := new k q hk hq
      exact hp.mono hl (Nat.le_refl _)
  · by_cases hk : k < ps.length
    · exact h.2.1 k q b (old k q hk hq) hb
    · obtain ⟨_, rfl⟩ := new k q hk hq
      intro e
      have := hg b e
      have := (hp.lt hb).1
      omega
  · by_cases hi : i < ps.length
    · by_cases hj : j < ps.length
      · exact h.2.2 i j q r b hij (old i q hi hq) (old j r hj hr) hb hc
      · obtain ⟨_, rfl⟩ := new j r hj hr
        have := ((h.1 i q (old i q hi hq)).lt hb).2.1
        have := (hp.lt hc).1
        omega
    · obtain ⟨ei, rfl⟩ := new i q hi hq
      by_cases hj : j < ps.length
      · have := ((h.1 j r (old j r hj hr)).lt hc).2.1
        have := (hp.lt hb).1
        omega
      · obtain ⟨ej, _⟩ := new j r hj hr
        omega
/-- One replaced: its slice as it lay, or in newer memory. -/
theorem InnerDrawer.set (h : InnerDrawer lo hi w g0 ps) {k : Nat} {p q : PDrawer} (hp : ps[k]? = some p) (hq : HInts lo hi' w q.h q.x.Flats) (hh : hi ≤ hi') (hn : ∀ b, q.h.blk = some b → p.h.blk = some b ∨ (hi ≤ b ∧ ∀ b', g0 = some b' → b' < hi)) : InnerDrawer lo hi' w g0 (ps.set k q) := by
  have hkl := (List.getElem?_eq_some_iff.1 hp).1
  have get : ∀ i r, (ps.set k q)[i]? = some r → (i = k ∧ r = q) ∨ (i ≠ k ∧ ps[i]? = some r) := fun i r hr => by
    by_cases e : i = k
    · subst e; rw [List.getElem?_set_self hkl] at hr; exact .inl ⟨rfl, (Option.some.inj hr).symm⟩
    · rw [List.getElem?_set_ne (Ne.symm e)] at hr; exact .inr ⟨e, hr⟩
  refine ⟨fun i r hr => ?_, fun i r b hr hb => ?_, fun i j r s b hij hr hs hb hc => ?_⟩
  · rcases get i r hr with ⟨_, rfl⟩ | ⟨_, hr⟩
    · exact hq
    · exact (h.1 i r hr).mono (Nat.le_refl _) hh
  · rcases get i r hr with ⟨_, rfl⟩ | ⟨_, hr⟩
    · rcases hn b hb with h1 | ⟨h1, h2⟩
      · exact h.2.1 k p b hp h1
      · intro e; have := h2 b e; omega
    · exact h.2.1 i r b hr hb
  · rcases get i r hr with ⟨ei, e1⟩ | ⟨ei, hr2⟩
    · rw [e1] at hb
      rcases get j s hs with ⟨ej, _⟩ | ⟨ej, hs2⟩
      · omega
      · rcases hn b hb with h1 | ⟨h1, _⟩
        · exact h.2.2 k j p s b (Ne.symm ej) hp hs2 h1 hc
        · have := ((h.1 j s hs2).lt hc).2.1; omega
    · rcases get j s hs with ⟨ej, e2⟩ | ⟨ej, hs2⟩
      · rw [e2] at hc
        rcases hn b hc with h1 | ⟨h1, _⟩
        · exact h.2.2 i k r p b ei hr2 hp hb h1
        · have := ((h.1 i r hr2).lt hb).2.1; omega
      · exact h.2.2 i j r s b hij hr2 hs2 hb hc
theorem RawDrawer.keep (h : RawDrawer lo hi w v ps) (hk : ∀ b, lo ≤ b → b < hi → b < w.heap.size → w'.heap[b]? = w.heap[b]?) : RawDrawer lo hi w' v ps :=
  ⟨h.1.keep fun b hb => by have := h.1.lt hb; exact hk b this.1 this.2.1 this.2.2, h.2.keep fun b h1 h2 h3 _ => hk b h1 h2 h3⟩
theorem OwnDrawerS.keep (h : OwnDrawerS lo hi w v xs) (hk : ∀ b, lo ≤ b → b < hi → b < w.heap.size → w'.heap[b]? = w.heap[b]?) : OwnDrawerS lo hi w' v xs := by
  obtain ⟨ps, e, h⟩ := h
  exact ⟨ps, e, h.keep hk⟩
theorem OwnDrawerS.below (h : OwnDrawerS lo hi w v xs) (hb : Below w.heap.size w w') : OwnDrawerS lo hi w' v xs := h.keep fun b _ _ hs => hb.block b hs
theorem OwnDrawerS.turned (h : OwnDrawerS lo hi w v xs) (t : Turned lo' hi' w w') (hd : hi ≤ lo' ∨ hi' ≤ lo) : OwnDrawerS lo hi w' v xs := h.keep fun b h1 h2 hs => t.block b hs (by omega)
theorem RawDrawer.mono (h : RawDrawer lo hi w v ps) (h1 : lo' ≤ lo) (h2 : hi ≤ hi') : RawDrawer lo' hi' w v ps := ⟨h.1.mono h1 h2, h.2.mono h1 h2⟩
theorem OwnDrawerS.mono (h : OwnDrawerS lo hi w v xs) (h1 : lo' ≤ lo) (h2 : hi ≤ hi') : OwnDrawerS lo' hi' w v xs := by
  obtain ⟨ps, e, h⟩ := h
  exact ⟨ps, e, h.mono h1 h2⟩
theorem nil_OwnDrawerS (lo hi : Nat) (w : World) : OwnDrawerS lo hi w (.slice none 0 0) [] := ⟨[], rfl, ⟨⟨by simp [cellsDrawer], .inl ⟨rfl, rfl⟩⟩, fun b h => by cases h⟩, nil_InnerDrawer _ _ _ _⟩
theorem OwnDrawerS.form (h : OwnDrawerS lo hi w v xs) : ∃ a c, v = .slice a xs.length c := by
  obtain ⟨ps, e, h⟩ := h
  have el : ps.length = xs.length := by rw [← e, List.length_map]
  rcases h.1.1.2 with ⟨rfl, h0⟩ | ⟨g, cap, cur, rfl, _⟩
  · exact ⟨none, 0, by rw [← el, h0]⟩
  · exact ⟨_, cap, by rw [← el]⟩
/-- An owned row's element as it lies. -/
theorem RawDrawer.elem {g n c : Nat} (h : RawDrawer lo hi w (.slice (some ⟨g, 0, none⟩) n c) ps) {k : Nat} {p : PDrawer} (hp : ps[k]? = some p) : DrawerAt w g (k * 5) p.x p.h := by
  have each : ∀ j u, j < 5 → p.vals[j]? = some u → w.cell? ⟨g, k * 5 + j, none⟩ = some u := fun j u hj hu => by
    have hc := h.1.1.cells (g := g) rfl (k * 5 + j) u ((cellsDrawer_at hp j hj).trans hu)
    rw [add_plain, Nat.zero_add] at hc; exact hc
  exact ⟨each 0 _ (by decide) rfl, each 1 _ (by decide) rfl, each 2 _ (by decide) rfl, each 3 _ (by decide) rfl, each 4 _ (by decide) rfl, (h.2.1 k p hp).is.1⟩
theorem RawDrawer.len {a : Option Addr} {n c : Nat} (h : RawDrawer lo hi w (.slice a n c) ps) : n = ps.length ∧ n ≤ c ∧ c ≤ maxLen := by
  rcases h.1.1.2 with ⟨e, h0⟩ | ⟨g, cap, cur, e, _, _, h1, h2, _⟩
  · cases e; exact ⟨h0.symm, Nat.le_refl _, by simp [maxLen]⟩
  · cases e; exact ⟨rfl, h1, h2⟩
theorem RawDrawer.row {g n c : Nat} (h : RawDrawer lo hi w (.slice (some ⟨g, 0, none⟩) n c) ps) : w.ownsRow lo 42 5 (.slice (some ⟨g, 0, none⟩) n c) n (cellsDrawer ps) := by
  have := h.1.1
  rw [← h.len.1] at this
  exact this
theorem RawDrawer.free {g n c : Nat} (h : RawDrawer lo hi w (.slice (some ⟨g, 0, none⟩) n c) ps) (j : Nat) : w.frozen? ⟨g, j, none⟩ = false := h.row.frozenAt j
theorem RawDrawer.is {a : Option Addr} {n c : Nat} (h : RawDrawer lo hi w (.slice a n c) ps) : IsDrawerS w a n c (ps.map PDrawer.x) := by
  have hl := h.len
  refine ⟨by rw [List.length_map]; exact hl.1, hl.2.1, hl.2.2, ?_⟩
  rcases h.1.1.2 with ⟨e, h0⟩ | ⟨g, cap, cur, e, _, _, h1, h2, _⟩
  · exact .inl (by omega)
  · cases e
    refine .inr ⟨g, 0, rfl, (h.1.lt rfl).2.2, fun k x hx => ?_⟩
    rw [List.getElem?_map] at hx
    cases hp : ps[k]? with
    | none => rw [hp] at hx; cases hx
    | some p =>
      rw [hp] at hx
      cases hx
      exact ⟨p.h, by simpa using h.elem hp⟩
theorem OwnDrawerS.is {a : Option Addr} {n c : Nat} (h : OwnDrawerS lo hi w (.slice a n c) xs) : IsDrawerS w a n c xs := by
  obtain ⟨ps, rfl, h⟩ := h
  exact h.is
/-- A slice's elements with their parts, as the source of an append. -/
theorem IsDrawerS.src {a : Option Addr} {n c : Nat} (h : IsDrawerS w a n c xs) : ∃ ps : List PDrawer, ps.map PDrawer.x = xs ∧ SrcAt w a n 5 (cellsDrawer ps) ∧ ∀ (k : Nat) p, ps[k]? = some p → IsInts w p.h.a p.h.n p.h.c p.x.Flats := by
  by_cases h0 : n = 0
  · have : xs = [] := List.length_eq_zero_iff.1 (by rw [← h.1, h0])
    subst this
    exact ⟨[], rfl, ⟨by simp [cellsDrawer, h0], .inl h0⟩, fun k p hp => by simp at hp⟩
  · obtain ⟨b, o, e, hb, hat⟩ := h.at (by omega)
    have each : ∀ i : Fin xs.length, ∃ hd : Hd, DrawerAt w b (o + i.1 * 5) xs[i.1] hd := fun i => hat i.1 _ (List.getElem?_eq_getElem i.2)
    obtain ⟨pick, hpick⟩ := Classical.axiomOfChoice each
    refine ⟨(List.finRange xs.length).map fun i => ⟨xs[i.1], pick i⟩, ?_, ⟨?_, .inr ⟨_, e, fun j u hj => ?_⟩⟩, fun k p hp => ?_⟩
    · apply List.ext_getElem
      · simp
      · intro i h1 h2; simp
    · rw [cellsDrawer_len, List.length_map, List.length_finRange, h.1]
    · rw [add_plain]
      have hl := (List.getElem?_eq_some_iff.1 hj).1
      rw [cellsDrawer_len, List.length_map, List.length_finRange] at hl
      obtain ⟨k, r, rfl, hr⟩ : ∃ k r, j = k * 5 + r ∧ r < 5 := ⟨j / 5, j % 5, by omega, Nat.mod_lt _ (by decide)⟩
      have hk : k < xs.length := by omega
      have hs : ((List.finRange xs.length).map fun i => (⟨xs[i.1], pick i⟩ : PDrawer))[k]? = some ⟨xs[k], pick ⟨k, hk⟩⟩ := by simp [hk]
      have hu := cellsDrawer_at hs r hr
      rw [hj] at hu
      have ha := hpick ⟨k, hk⟩
      rw [← Nat.add_assoc]
      rcases (show r = 0 ∨ r = 1 ∨ r = 2 ∨ r = 3 ∨ r = 4 by omega) with rfl | rfl | rfl | rfl | rfl
      · rw [hu]; exact ha.1
      · rw [hu]; exact ha.2.1
      · rw [hu]; exact ha.2.2.1
      · rw [hu]; exact ha.2.2.2.1
      · rw [hu]; exact ha.2.2.2.2.1
    · obtain ⟨hk, e2⟩ := List.getElem?_eq_some_iff.1 hp
      have hk' : k < xs.length := by simpa using hk
      simp at e2
      subst e2
      exact (hpick ⟨k, hk'⟩).2.2.2.2.2
end
theorem set_intsDrawer (ps : List PDrawer) (k : Nat) (p : PDrawer) (hp : ps[k]? = some p) (i0 i1 i2 i3 : Int) : (((((cellsDrawer ps).set (k * 5) (.int .i64 i0)).set (k * 5 + 1) (.int .i64 i1)).set (k * 5 + 2) (.int .i64 i2)).set (k * 5 + 3) (.int .i64 i3)) = cellsDrawer (ps.set k ⟨⟨i0, i1, i2, i3, p.x.Flats⟩, p.h⟩) := by
  have hk := (List.getElem?_eq_some_iff.1 hp).1
  rw [cellsDrawer_set ps k _ hk]
  have e : cellsDrawer ps = cellsDrawer (ps.take k) ++ (p.vals ++ (cellsDrawer ps).drop (k * 5 + 5)) := by
    have h1 := cellsDrawer_set ps k p hk
    rw [show ps.set k p = ps from by
      apply List.ext_getElem?
      intro j
      by_cases e : j = k
      · subst e; rw [List.getElem?_set_self hk, hp]
      · rw [List.getElem?_set_ne (Ne.symm e)]] at h1
    exact h1
  have hl : (cellsDrawer (ps.take k)).length = k * 5 := by rw [cellsDrawer_len, List.length_take]; omega
  generalize (cellsDrawer ps).drop (k * 5 + 5) = D at e ⊢
  rw [e, ← hl]
  simp [PDrawer.vals, List.set_append_right]
theorem RawDrawer.setInts {lo hi : Nat} {w : World} {g n c : Nat} {ps : List PDrawer} (h : RawDrawer lo hi w (.slice (some ⟨g, 0, none⟩) n c) ps) {k : Nat} {p : PDrawer} (hp : ps[k]? = some p) (i0 i1 i2 i3 : Int) :
    RawDrawer lo hi ((((w.setCell ⟨g, k * 5, none⟩ (.int .i64 i0)).setCell ⟨g, k * 5 + 1, none⟩ (.int .i64 i1)).setCell ⟨g, k * 5 + 2, none⟩ (.int .i64 i2)).setCell ⟨g, k * 5 + 3, none⟩ (.int .i64 i3)) (.slice (some ⟨g, 0, none⟩) n c) (ps.set k ⟨⟨i0, i1, i2, i3, p.x.Flats⟩, p.h⟩) ∧ w.grownBy ((((w.setCell ⟨g, k * 5, none⟩ (.int .i64 i0)).setCell ⟨g, k * 5 + 1, none⟩ (.int .i64 i1)).setCell ⟨g, k * 5 + 2, none⟩ (.int .i64 i2)).setCell ⟨g, k * 5 + 3, none⟩ (.int .i64 i3)) (some g) := by
  obtain ⟨rfl, _, _⟩ := h.len
  have s0 := h.1.1.stored (k * 5) (.int .i64 i0)
  have s1 := s0.1.stored (k * 5 + 1) (.int .i64 i1)
  have s2 := s1.1.stored (k * 5 + 2) (.int .i64 i2)
  have s3 := s2.1.stored (k * 5 + 3) (.int .i64 i3)
  have G := (grown_trans (grown_trans (grown_trans s0.2 s1.2) s2.2) s3.2)
  refine ⟨⟨⟨?_, h.1.2⟩, ?_⟩, G⟩
  · have h1 := s3.1
    rw [set_intsDrawer ps k p hp] at h1
    rw [List.length_set]
    exact h1
  · exact (h.2.grown G).set hp ((h.2.grown G).1 k p hp) (Nat.le_refl _) (fun b hb => .inl hb)
theorem set_sliceDrawer (ps : List PDrawer) (k : Nat) (p : PDrawer) (hp : ps[k]? = some p) (zs : List Int) (h' : Hd) : (cellsDrawer ps).set (k * 5 + 4) (.slice h'.a h'.n h'.c) = cellsDrawer (ps.set k ⟨{ p.x with Flats := zs }, h'⟩) := by
  have hk := (List.getElem?_eq_some_iff.1 hp).1
  rw [cellsDrawer_set ps k _ hk]
  have e : cellsDrawer ps = cellsDrawer (ps.take k) ++ (p.vals ++ (cellsDrawer ps).drop (k * 5 + 5)) := by
    have h1 := cellsDrawer_set ps k p hk
    rw [show ps.set k p = ps from by
      apply List.ext_getElem?
      intro j
      by_cases e : j = k
      · subst e; rw [List.getElem?_set_self hk, hp]
      · rw [List.getElem?_set_ne (Ne.symm e)]] at h1
    exact h1
  have hl : (cellsDrawer (ps.take k)).length = k * 5 := by rw [cellsDrawer_len, List.length_take]; omega
  generalize (cellsDrawer ps).drop (k * 5 + 5) = D at e ⊢
  rw [e, ← hl]
  simp [PDrawer.vals, List.set_append_right]
/-- Another slice in the place of an element's. -/
theorem RawDrawer.setSlice {lo hi hi' : Nat} {w : World} {g n c : Nat} {ps : List PDrawer} (h : RawDrawer lo hi w (.slice (some ⟨g, 0, none⟩) n c) ps) {k : Nat} {p : PDrawer} (hp : ps[k]? = some p) {h' : Hd} {zs : List Int} (H : HInts lo hi' w h' zs) (hh : hi ≤ hi') (hn : ∀ b, h'.blk = some b → p.h.blk = some b ∨ hi ≤ b) :
    RawDrawer lo hi' (w.setCell ⟨g, k * 5 + 4, none⟩ (.slice h'.a h'.n h'.c)) (.slice (some ⟨g, 0, none⟩) n c) (ps.set k ⟨{ p.x with Flats := zs }, h'⟩) ∧ w.grownBy (w.setCell ⟨g, k * 5 + 4, none⟩ (.slice h'.a h'.n h'.c)) (some g) := by
  obtain ⟨rfl, _, _⟩ := h.len
  have s0 := h.1.1.stored (k * 5 + 4) (.slice h'.a h'.n h'.c)
  have G := s0.2
  have hg : g < hi := (h.1.lt rfl).2.1
  have H2 : HInts lo hi' (w.setCell ⟨g, k * 5 + 4, none⟩ (.slice h'.a h'.n h'.c)) h' zs := H.keep fun b hb => G.block b (H.lt hb).2.2 (fun e => by
    cases e
    rcases hn g hb with h1 | h1
    · exact h.2.2.1 k p g hp h1 rfl
    · omega)
  refine ⟨⟨⟨?_, fun b hb => Nat.lt_of_lt_of_le (h.1.2 b hb) hh⟩, ?_⟩, G⟩
  · have h1 := s0.1
    rw [set_sliceDrawer ps k p hp zs h'] at h1
    rw [List.length_set]
    exact h1
  · exact (h.2.grown G).set hp H2 hh (fun b hb => (hn b hb).imp id fun h1 => ⟨h1, fun b' e => by cases e; exact hg⟩)
/-- What an element's slice holds has turned; nothing else has. -/
theorem RawDrawer.inner {lo hi : Nat} {w w' : World} {v : Value} {ps : List PDrawer} (h : RawDrawer lo hi w v ps) {k : Nat} {p : PDrawer} (hp : ps[k]? = some p) {zs : List Int} (hl : zs.length = p.x.Flats.length) (hz : w'.ownsRow lo 3 1 (.slice p.h.a p.h.n p.h.c) p.x.Flats.length (intCells zs)) (hg : w.grownBy w' p.h.blk) :
    RawDrawer lo hi w' v (ps.set k ⟨{ p.x with Flats := zs }, p.h⟩) := by
  have hk := (List.getElem?_eq_some_iff.1 hp).1
  have hI := h.2.1 k p hp
  have H2 : HInts lo hi w' p.h zs := ⟨by rw [hl]; exact hz, hI.2⟩
  have O2 : OwnIn lo hi w' 42 5 v ps.length (cellsDrawer ps) := h.1.keep fun b hb => hg.block b (h.1.lt hb).2.2 (fun e => h.2.2.1 k p b hp e.symm hb)
  refine ⟨?_, ?_⟩
  · rw [List.length_set, show cellsDrawer (ps.set k ⟨{ p.x with Flats := zs }, p.h⟩) = cellsDrawer ps from by
      have h1 := cellsDrawer_set ps k p hk
      rw [show ps.set k p = ps from by
        apply List.ext_getElem?
        intro j
        by_cases e : j = k
        · subst e; rw [List.getElem?_set_self hk, hp]
        · rw [List.getElem?_set_ne (Ne.symm e)]] at h1
      exact (cellsDrawer_set ps k ⟨{ p.x with Flats := zs }, p.h⟩ hk).trans h1.symm]
    exact O2
  · have get : ∀ i r, (ps.set k ⟨{ p.x with Flats := zs }, p.h⟩)[i]? = some r → (i = k ∧ r = ⟨{ p.x with Flats := zs }, p.h⟩) ∨ (i ≠ k ∧ ps[i]? = some r) := fun i r hr => by
      by_cases e : i = k
      · subst e; rw [List.getElem?_set_self hk] at hr; exact .inl ⟨rfl, (Option.some.inj hr).symm⟩
      · rw [List.getElem?_set_ne (Ne.symm e)] at hr; exact .inr ⟨e, hr⟩
    refine ⟨fun i r hr => ?_, fun i r b hr hb => ?_, fun i j r s b hij hr hs hb hc => ?_⟩
    · rcases get i r hr with ⟨_, rfl⟩ | ⟨ei, hr⟩
      · exact H2
      · exact (h.2.1 i r hr).keep fun b hb => hg.block b ((h.2.1 i r hr).lt hb).2.2 (fun e => h.2.2.2 i k r p b ei hr hp hb e.symm)
    · rcases get i r hr with ⟨_, rfl⟩ | ⟨_, hr⟩
      · exact h.2.2.1 k p b hp hb
      · exact h.2.2.1 i r b hr hb
    · rcases get i r hr with ⟨ei, rfl⟩ | ⟨ei, hr⟩
      · rcases get j s hs with ⟨ej, _⟩ | ⟨ej, hs⟩
        · omega
        · exact h.2.2.2 k j p s b (Ne.symm ej) hp hs hb hc
      · rcases get j s hs with ⟨ej, rfl⟩ | ⟨ej, hs⟩
        · exact h.2.2.2 i k r p b ei hr hp hb hc
        · exact h.2.2.2 i j r s b hij hr hs hb hc
/-- Block b holds it, all of it, and may be written. -/
def HBDrawer (w : World) (b : Nat) (p : PDrawer) : Prop := w.heap[b]? = some (.cells #[.int .i64 p.x.Id, .int .i64 p.x.Wide, .int .i64 p.x.High, .int .i64 p.x.Holds, .slice p.h.a p.h.n p.h.c] 42 (0, 0))
section
variable {w w' : World} {b b' j : Nat} {p : PDrawer} {row : Option Nat}
theorem HBDrawer.lt (h : HBDrawer w b p) : b < w.heap.size := (Array.getElem?_eq_some_iff.1 h).1
theorem HBDrawer.new (w : World) (p : PDrawer) (B : Nat) (hB : w.heap.size = B) : HBDrawer (w.alloc (.cells #[.int .i64 p.x.Id, .int .i64 p.x.Wide, .int .i64 p.x.High, .int .i64 p.x.Holds, .slice p.h.a p.h.n p.h.c] 42)) B p := hB ▸ heap_alloc_new w _
theorem HBDrawer.below (h : HBDrawer w b p) (hb : Below w.heap.size w w') : HBDrawer w' b p := (hb.block b h.lt).trans h
theorem HBDrawer.grown (h : HBDrawer w b p) (hg : w.grownBy w' row) (hne : some b ≠ row) : HBDrawer w' b p := (hg.block b h.lt hne).trans h
theorem HBDrawer.drew (h : HBDrawer w b p) : HBDrawer w.drew b p := h
theorem HBDrawer.alloc (h : HBDrawer w b p) (o : Obj) : HBDrawer (w.alloc o) b p := (Below.heap_alloc w o b h.lt).trans h
theorem HBDrawer.other (h : HBDrawer w b p) (hne : b ≠ b') (u : Value) : HBDrawer (w.setCell ⟨b', j, none⟩ u) b p := (heap_setCell_other w ⟨b', j, none⟩ b u hne).trans h
theorem HBDrawer.cells (h : HBDrawer w b p) : w.cell? ⟨b, 0, none⟩ = some (.int .i64 p.x.Id) ∧ w.cell? ⟨b, 1, none⟩ = some (.int .i64 p.x.Wide) ∧ w.cell? ⟨b, 2, none⟩ = some (.int .i64 p.x.High) ∧ w.cell? ⟨b, 3, none⟩ = some (.int .i64 p.x.Holds) ∧ w.cell? ⟨b, 4, none⟩ = some (.slice p.h.a p.h.n p.h.c) := by
  unfold HBDrawer at h
  refine ⟨?_, ?_, ?_, ?_, ?_⟩ <;> simp [World.cell?, h]
theorem HBDrawer.free (h : HBDrawer w b p) (j : Nat) : w.frozen? ⟨b, j, none⟩ = false := by
  unfold HBDrawer at h
  simp [World.frozen?, h]
theorem HBDrawer.set0 (h : HBDrawer w b p) (v : Int) : HBDrawer (w.setCell ⟨b, 0, none⟩ (.int .i64 v)) b ⟨⟨v, p.x.Wide, p.x.High, p.x.Holds, p.x.Flats⟩, p.h⟩ := heap_setCell_same w b 0 _ _ _ h
theorem HBDrawer.set1 (h : HBDrawer w b p) (v : Int) : HBDrawer (w.setCell ⟨b, 1, none⟩ (.int .i64 v)) b ⟨⟨p.x.Id, v, p.x.High, p.x.Holds, p.x.Flats⟩, p.h⟩ := heap_setCell_same w b 1 _ _ _ h
theorem HBDrawer.set2 (h : HBDrawer w b p) (v : Int) : HBDrawer (w.setCell ⟨b, 2, none⟩ (.int .i64 v)) b ⟨⟨p.x.Id, p.x.Wide, v, p.x.Holds, p.x.Flats⟩, p.h⟩ := heap_setCell_same w b 2 _ _ _ h
theorem HBDrawer.set3 (h : HBDrawer w b p) (v : Int) : HBDrawer (w.setCell ⟨b, 3, none⟩ (.int .i64 v)) b ⟨⟨p.x.Id, p.x.Wide, p.x.High, v, p.x.Flats⟩, p.h⟩ := heap_setCell_same w b 3 _ _ _ h
theorem HBDrawer.setS (h : HBDrawer w b p) (zs : List Int) (q : Hd) : HBDrawer (w.setCell ⟨b, 4, none⟩ (.slice q.a q.n q.c)) b ⟨⟨p.x.Id, p.x.Wide, p.x.High, p.x.Holds, zs⟩, q⟩ := heap_setCell_same w b 4 _ _ _ h
theorem HBDrawer.setAll (h : HBDrawer w b p) (q : PDrawer) : HBDrawer (((((w.setCell ⟨b, 0, none⟩ (.int .i64 q.x.Id)).setCell ⟨b, 1, none⟩ (.int .i64 q.x.Wide)).setCell ⟨b, 2, none⟩ (.int .i64 q.x.High)).setCell ⟨b, 3, none⟩ (.int .i64 q.x.Holds)).setCell ⟨b, 4, none⟩ (.slice q.h.a q.h.n q.h.c)) b q :=
  (heap_setCell_same _ b 4 _ _ _ (heap_setCell_same _ b 3 _ _ _ (heap_setCell_same _ b 2 _ _ _ (heap_setCell_same _ b 1 _ _ _ (heap_setCell_same _ b 0 _ _ _ h)))))
theorem HBDrawer.otherAll (h : HBDrawer w b p) (hne : b ≠ b') (x0 x1 x2 x3 x4 : Value) : HBDrawer (((((w.setCell ⟨b', 0, none⟩ x0).setCell ⟨b', 1, none⟩ x1).setCell ⟨b', 2, none⟩ x2).setCell ⟨b', 3, none⟩ x3).setCell ⟨b', 4, none⟩ x4) b p :=
  (((((h.other hne x0).other hne x1).other hne x2).other hne x3).other hne x4)
/-- It lies in the box b of some type. -/
def BoxDrawer (w : World) (b : Nat) (p : PDrawer) : Prop := w.cell? ⟨b, 0, none⟩ = some (.int .i64 p.x.Id) ∧ w.cell? ⟨b, 1, none⟩ = some (.int .i64 p.x.Wide) ∧ w.cell? ⟨b, 2, none⟩ = some (.int .i64 p.x.High) ∧ w.cell? ⟨b, 3, none⟩ = some (.int .i64 p.x.Holds) ∧ w.cell? ⟨b, 4, none⟩ = some (.slice p.h.a p.h.n p.h.c)
theorem BoxDrawer.new (w : World) (t : TypeId) (p : PDrawer) (B : Nat) (hB : w.heap.size = B) : BoxDrawer (w.alloc (.cells #[.int .i64 p.x.Id, .int .i64 p.x.Wide, .int .i64 p.x.High, .int .i64 p.x.Holds, .slice p.h.a p.h.n p.h.c] t)) B p := by
  subst hB
  refine ⟨?_, ?_, ?_, ?_, ?_⟩ <;> simp [World.cell?_alloc_new]
theorem BoxDrawer.lt (h : BoxDrawer w b p) : b < w.heap.size := World.lt_of_cell h.1
theorem BoxDrawer.below (h : BoxDrawer w b p) (hb : Below w.heap.size w w') : BoxDrawer w' b p :=
  ⟨(hb.cell (p := ⟨b, 0, none⟩) h.lt).trans h.1, (hb.cell (p := ⟨b, 1, none⟩) h.lt).trans h.2.1, (hb.cell (p := ⟨b, 2, none⟩) h.lt).trans h.2.2.1, (hb.cell (p := ⟨b, 3, none⟩) h.lt).trans h.2.2.2.1, (hb.cell (p := ⟨b, 4, none⟩) h.lt).trans h.2.2.2.2⟩
theorem resultsDrawer1 {fn : Func} {tm : Array Value} {a : Nat} (hf : fn.results = #[.cell a 42]) (ha : tm.getD a undef = .pointer (some ⟨b, 0, none⟩)) (h : HBDrawer w b p) :
    (results fn tm).run Try.prog w = .ok (.agg #[.int .i64 p.x.Id, .int .i64 p.x.Wide, .int .i64 p.x.High, .int .i64 p.x.Holds, .slice p.h.a p.h.n p.h.c]) w := by
  obtain ⟨h0, h1, h2, h3, h4⟩ := h.cells
  simp only [Array.getD_eq_getD_getElem?] at ha
  simp [results, hf, ha, go_sem, h0, h1, h2, h3, h4]
end
end Go.Proofs.Ytlmedhidkhphbaa
