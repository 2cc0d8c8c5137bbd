/- Arguments that are structs of integers, or slices of such structs: opened to their cells, whatever the number of fields. -/
import Derived.Test.YtffbljbgmgifnaaDoorBase
import Derived.Deep.Slices
import Derived.Deep.Fields
import Derived.ChangeSame
import Derived.ChangeArms
namespace Go.Proofs.YtffbljbgmgifnaaDoor
open Go.RowKit Go.ChangeShapes Go.WideShapes Go.Deep

section
variable {H : Type} {enc : TypeId × Value → H} {P : Program} {w : World} {base : Nat} {spare : Nat → Bool} {held : Bool}

/-- Every field is an integer of 64 bits. -/
def AllInts (P : Program) (fs : Array Field) : Prop := ∀ (j : Nat) (f : Field), fs[j]? = some f → P.underlying f.type = some (.int .i64)
theorem AllInts.mk {P : Program} {fs : Array Field} {t : TypeId} (h : fs.all (fun f => f.type == t) = true) (ht : P.underlying t = some (.int .i64)) : AllInts P fs := by
  intro j f hj
  obtain ⟨hlt, he⟩ := Array.getElem?_eq_some_iff.1 hj
  have := Array.all_eq_true.1 h j hlt
  rw [he] at this
  simp at this
  rw [this]; exact ht

/-- The cells of a struct that reads are integers, one a field. -/
theorem cells_of_struct {e : TypeId} {fs : Array Field} {fuel : Nat} {cs : List Value} {x : DataW H × List MemPlace} (he : P.underlying e = some (.struct fs)) (hone : oneCellFields P fs = true) (hints : AllInts P fs) (hsz : cs.length = fs.size)
    (h : DataW.trod enc P w base spare held fuel e cs = some x) : ∃ f : Nat → Int, ∀ j, j < fs.size → cs[j]? = some (.int .i64 (f j)) := by
  obtain ⟨ys, n, _, _, _, hyl, hf⟩ := DataW.trod_struct he h
  have each : ∀ j, j < fs.size → ∃ z : Int, cs[j]? = some (.int .i64 z) := by
    intro j hj
    have hj' : fs[j]? = some (fs[j]'hj) := Array.getElem?_eq_getElem hj
    obtain ⟨ho, hk⟩ := hone_of hone j _ hj'
    have h1 := hf j _ hj'
    rw [ho, hk] at h1
    have hone' : (cs.drop j).take 1 = [cs[j]'(by omega)] := by
      rw [List.drop_eq_getElem_cons (by omega)]
      rfl
    rw [hone'] at h1
    have hys : ys[j]? = some (ys[j]'(by omega)) := List.getElem?_eq_getElem (by omega)
    obtain ⟨z, hz, _⟩ := DataW.trod_int (hints j _ hj') (h1.trans hys)
    exact ⟨z, by rw [List.getElem?_eq_getElem (by omega)]; simpa using hz⟩
  obtain ⟨f, hf⟩ := Classical.axiomOfChoice (r := fun (j : Fin fs.size) (z : Int) => cs[j.1]? = some (.int .i64 z)) (fun j => each j.1 j.2)
  exact ⟨fun j => if hj : j < fs.size then f ⟨j, hj⟩ else 0, fun j hj => by simp only [hj, dif_pos]; exact hf ⟨j, hj⟩⟩

/-- A struct of integers, by value. -/
theorem open_ints_struct {r : Reach} {b0 : Nat} {t : TypeId} {fs : Array Field} {v : Value} {d : DataW H} {p : List MemPlace} (hs : P.underlying t = some (.struct fs)) (hone : oneCellFields P fs = true) (hints : AllInts P fs) (hC : P.cellsOf t = fs.size)
    (hv : Value.okWide P w r b0 t v) (h : DataW.Trod enc P w base spare held t v d p) : ∃ f : Nat → Int, v = .agg ((List.range fs.size).map fun j => Value.int .i64 (f j)).toArray := by
  obtain ⟨cs, rfl, hsz⟩ := okWide_struct hs hv
  obtain ⟨fuel, hf⟩ := h
  obtain ⟨l⟩ := cs
  have hl : l.length = fs.size := by simpa using hsz.trans hC
  obtain ⟨f, hcell⟩ := cells_of_struct hs hone hints (cs := l) hl (by simpa [Value.cells] using hf)
  refine ⟨f, ?_⟩
  congr 1
  congr 1
  apply List.ext_getElem?
  intro j
  by_cases hj : j < fs.size
  · rw [hcell j hj]; simp [hj]
  · rw [List.getElem?_eq_none (by omega), List.getElem?_eq_none (by simp; omega)]

/-- A slice of structs of integers. -/
theorem open_ints_structs {t e : TypeId} {fs : Array Field} {fuel : Nat} {a : Option Addr} {len cap : Nat} {x : DataW H × List MemPlace} (ht : P.underlying t = some (.slice e)) (he : P.underlying e = some (.struct fs))
    (hone : oneCellFields P fs = true) (hints : AllInts P fs) (hC : P.cellsOf e = fs.size) (hpos : 0 < fs.size) (h : DataW.trod enc P w base (fun _ => true) held fuel t (Value.slice a len cap).cells.toList = some x) :
    (a = none ∧ len = 0 ∧ cap = 0) ∨ ∃ (b o : Nat) (f : Nat → Nat → Int), (len = 0 ∨ a = some ⟨b, o, none⟩) ∧ len ≤ cap ∧ cap ≤ maxLen ∧ (0 < len → b < w.heap.size) ∧ ∀ i j, i < len → j < fs.size → w.cell? ⟨b, o + (i * fs.size + j), none⟩ = some (.int .i64 (f i j)) := by
  rcases open_slice ht h with ⟨hcs, _⟩ | ⟨y, l, c, m, n, D, Pl, hcs, hb, hl, hm, hmm, _, hi⟩
  · simp [Value.cells] at hcs
    exact .inl hcs
  · right
    simp [Value.cells] at hcs
    obtain ⟨rfl, rfl, rfl⟩ := hcs
    simp at hmm
    subst hmm
    obtain ⟨b, o, spot⟩ := y
    have each : ∀ i, i < len → ∃ f : Nat → Int, ∀ j, j < fs.size → w.cell? ((⟨b, o, spot⟩ : Addr).add (i * fs.size + j)) = some (.int .i64 (f j)) := by
      intro i hlt
      obtain ⟨cs', hc, ht'⟩ := hi i (by omega)
      rw [hC] at hc
      obtain ⟨_, hcl, hat⟩ := World.cells?_some hc
      obtain ⟨f, hf⟩ := cells_of_struct he hone hints hcl ht'
      refine ⟨f, fun j hj => ?_⟩
      rw [← Go.Deep.add_add, hat j hj]
      exact hf j hj
    by_cases h0 : len = 0
    · exact ⟨b, o, fun _ _ => 0, .inl h0, hl, hm, by omega, by omega⟩
    · obtain ⟨f0, hf0⟩ := each 0 (by omega)
      have h1 := hf0 0 hpos
      have hspot : spot = none := by simpa [Addr.add] using World.cell?_spot h1
      subst hspot
      obtain ⟨f, hf⟩ := Classical.axiomOfChoice (r := fun (i : Fin len) (g : Nat → Int) => ∀ j, j < fs.size → w.cell? ((⟨b, o, none⟩ : Addr).add (i.1 * fs.size + j)) = some (.int .i64 (g j))) (fun i => each i.1 i.2)
      refine ⟨b, o, fun i => if hi : i < len then f ⟨i, hi⟩ else fun _ => 0, .inr rfl, hl, hm, fun _ => ?_, fun i j hi hj => ?_⟩
      · have h2 := h1
        rw [add_plain] at h2
        by_cases hb : b < w.heap.size
        · exact hb
        · exfalso
          have : w.cell? ⟨b, o + (0 * fs.size + 0), none⟩ = none := by simp [World.cell?, Array.getElem?_eq_none (Nat.le_of_not_lt hb)]
          rw [this] at h2; cases h2
      · have := hf ⟨i, hi⟩ j hj
        rw [add_plain] at this
        simpa [hi] using this
end
end Go.Proofs.YtffbljbgmgifnaaDoor
