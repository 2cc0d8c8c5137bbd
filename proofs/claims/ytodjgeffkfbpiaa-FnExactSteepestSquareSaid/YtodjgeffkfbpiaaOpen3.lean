/- Arguments that are structs whose fields have one cell each, slices of integers among them, or slices of such structs: opened to what each cell reads as. -/
import Derived.Test.YtodjgeffkfbpiaaOpen2
import Derived.Test.YtodjgeffkfbpiaaOwn
import Derived.Test.YtodjgeffkfbpiaaReg
namespace Go.Proofs.Ytodjgeffkfbpiaa
open Go.RowKit Go.ChangeShapes Go.WideShapes Go.Deep

section
variable {H : Type} {enc : TypeId × Value → H} {P : Program} {w : World} {base : Nat} {spare : Nat → Bool} {held : Bool}
/-- A cell that reads as a slice of integers. -/
theorem trod_ints {t e : TypeId} {fuel : Nat} {c : Value} {x : DataW H × List MemPlace} (ht : P.underlying t = some (.slice e)) (he : P.underlying e = some (.int .i64)) (hC : P.cellsOf e = 1) (h : DataW.trod enc P w base (fun _ => true) held fuel t [c] = some x) :
    ∃ (hd : Hd) (zs : List Int), c = .slice hd.a hd.n hd.c ∧ IsInts w hd.a hd.n hd.c zs := by
  rcases open_slice ht h with ⟨hcs, _⟩ | ⟨y, l, cp, m, n, D, Pl, hcs, hb, hl, hm, hmm, _, hi⟩
  · refine ⟨⟨none, 0, 0⟩, [], by simpa using hcs, rfl, Nat.le_refl _, by simp [maxLen], .inl rfl⟩
  · simp at hmm
    subst hmm
    have hc : c = .slice (some y) l m := by simpa using hcs
    subst hc
    obtain ⟨b, o, spot⟩ := y
    have each : ∀ i, i < l → ∃ z : Int, w.cell? ((⟨b, o, spot⟩ : Addr).add i) = some (.int .i64 z) := by
      intro i hlt
      obtain ⟨cs', hc, ht'⟩ := hi i (by omega)
      rw [hC] at hc
      obtain ⟨_, hcl, hat⟩ := World.cells?_some hc
      obtain ⟨z, hz, _⟩ := DataW.trod_int he ht'
      refine ⟨z, ?_⟩
      have h1 := hat 0 (by omega)
      rw [hz] at h1
      rw [Nat.mul_one] at h1
      rw [Go.Deep.add_add] at h1
      simpa using h1
    by_cases h0 : l = 0
    · exact ⟨⟨some ⟨b, o, spot⟩, l, m⟩, [], rfl, by simpa using h0, hl, hm, .inl h0⟩
    · obtain ⟨z0, h1⟩ := each 0 (by omega)
      have hspot : spot = none := by simpa [Addr.add] using World.cell?_spot h1
      subst hspot
      obtain ⟨f, hf⟩ := Classical.axiomOfChoice (r := fun (i : Fin l) (z : Int) => w.cell? ((⟨b, o, none⟩ : Addr).add i.1) = some (.int .i64 z)) (fun i => each i.1 i.2)
      refine ⟨⟨some ⟨b, o, none⟩, l, m⟩, (List.finRange l).map f, rfl, by simp, hl, hm, .inr ⟨b, o, rfl, ?_, fun k z hz => ?_⟩⟩
      · rw [add_plain] at h1
        exact World.lt_of_cell h1
      · obtain ⟨hk, e2⟩ := List.getElem?_eq_some_iff.1 hz
        have hk' : k < l := by simpa using hk
        simp at e2
        subst e2
        have := hf ⟨k, hk'⟩
        rw [add_plain] at this
        exact this
/-- Each field of a struct that reads, reads. -/
theorem cells_trod {e : TypeId} {fs : Array Field} {fuel : Nat} {cs : List Value} {x : DataW H × List MemPlace} (he : P.underlying e = some (.struct fs)) (hone : oneCellFields P fs = true) (hsz : cs.length = fs.size)
    (h : DataW.trod enc P w base spare held fuel e cs = some x) : ∀ (j : Nat) (f : Field), fs[j]? = some f → ∃ c n y, cs[j]? = some c ∧ DataW.trod enc P w base spare held n f.type [c] = some y := by
  obtain ⟨ys, n, _, _, _, hyl, hf⟩ := DataW.trod_struct he h
  intro j f hj'
  have hj : j < fs.size := (Array.getElem?_eq_some_iff.1 hj').1
  obtain ⟨ho, hk⟩ := hone_of hone j _ hj'
  have h1 := hf j _ hj'
  rw [ho, hk] at h1
  have hone' : (cs.drop j).take 1 = [cs[j]'(by omega)] := by
    rw [List.drop_eq_getElem_cons (by omega)]
    rfl
  rw [hone'] at h1
  have hys : ys[j]? = some (ys[j]'(by omega)) := List.getElem?_eq_getElem (by omega)
  exact ⟨cs[j]'(by omega), _, _, List.getElem?_eq_getElem (by omega), h1.trans hys⟩
theorem open_trod_struct {r : Reach} {b0 : Nat} {t : TypeId} {fs : Array Field} {v : Value} {d : DataW H} {p : List MemPlace} (hs : P.underlying t = some (.struct fs)) (hone : oneCellFields P fs = true) (hC : P.cellsOf t = fs.size)
    (hv : Value.okWide P w r b0 t v) (h : DataW.Trod enc P w base spare held t v d p) : ∃ cs : List Value, v = .agg cs.toArray ∧ cs.length = fs.size ∧ ∀ (j : Nat) (f : Field), fs[j]? = some f → ∃ c n y, cs[j]? = some c ∧ DataW.trod enc P w base spare held n f.type [c] = some y := by
  obtain ⟨cs, rfl, hsz⟩ := okWide_struct hs hv
  obtain ⟨fuel, hf⟩ := h
  obtain ⟨l⟩ := cs
  have hl : l.length = fs.size := by simpa using hsz.trans hC
  exact ⟨l, rfl, hl, cells_trod hs hone hl (by simpa [Value.cells] using hf)⟩
theorem open_trod_structs {t e : TypeId} {fs : Array Field} {fuel : Nat} {a : Option Addr} {len cap : Nat} {x : DataW H × List MemPlace} (ht : P.underlying t = some (.slice e)) (he : P.underlying e = some (.struct fs))
    (hone : oneCellFields P fs = true) (hC : P.cellsOf e = fs.size) (hpos : 0 < fs.size) (h : DataW.trod enc P w base (fun _ => true) held fuel t (Value.slice a len cap).cells.toList = some x) :
    (a = none ∧ len = 0 ∧ cap = 0) ∨ ∃ (b o : Nat), (len = 0 ∨ a = some ⟨b, o, none⟩) ∧ len ≤ cap ∧ cap ≤ maxLen ∧ (0 < len → b < w.heap.size) ∧ ∀ i, i < len → ∀ (j : Nat) (f : Field), fs[j]? = some f → ∃ c n y, w.cell? ⟨b, o + (i * fs.size + j), none⟩ = some c ∧ DataW.trod enc P w base (fun _ => true) held n f.type [c] = some y := by
  rcases open_slice ht h with ⟨hcs, _⟩ | ⟨y, l, c, m, n, D, Pl, hcs, hb, hl, hm, hmm, _, hi⟩
  · simp [Value.cells] at hcs
    exact .inl hcs
  · right
    simp [Value.cells] at hcs
    obtain ⟨rfl, rfl, rfl⟩ := hcs
    simp at hmm
    subst hmm
    obtain ⟨b, o, spot⟩ := y
    have each : ∀ i, i < len → ∀ (j : Nat) (f : Field), fs[j]? = some f → ∃ c n y, w.cell? ((⟨b, o, spot⟩ : Addr).add (i * fs.size + j)) = some c ∧ DataW.trod enc P w base (fun _ => true) held n f.type [c] = some y := by
      intro i hlt j f hf
      obtain ⟨cs', hc, ht'⟩ := hi i (by omega)
      rw [hC] at hc
      obtain ⟨_, hcl, hat⟩ := World.cells?_some hc
      obtain ⟨c, n, y, h1, h2⟩ := cells_trod he hone hcl ht' j f hf
      refine ⟨c, n, y, ?_, h2⟩
      have hj : j < fs.size := (Array.getElem?_eq_some_iff.1 hf).1
      rw [← Go.Deep.add_add, hat j hj]
      exact h1
    by_cases h0 : len = 0
    · exact ⟨b, o, .inl h0, hl, hm, by omega, by omega⟩
    · obtain ⟨c0, _, _, h1, _⟩ := each 0 (by omega) 0 fs[0] (Array.getElem?_eq_getElem hpos)
      have hspot : spot = none := by simpa [Addr.add] using World.cell?_spot h1
      subst hspot
      refine ⟨b, o, .inr rfl, hl, hm, fun _ => ?_, fun i hi j f hf => ?_⟩
      · rw [add_plain] at h1
        exact World.lt_of_cell h1
      · obtain ⟨c, n, y, h1, h2⟩ := each i hi j f hf
        rw [add_plain] at h1
        exact ⟨c, n, y, h1, h2⟩
end
end Go.Proofs.Ytodjgeffkfbpiaa
