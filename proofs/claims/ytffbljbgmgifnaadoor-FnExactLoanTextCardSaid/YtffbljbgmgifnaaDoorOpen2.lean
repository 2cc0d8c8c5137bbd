/- Arguments that are structs of integers, texts and truth values, or slices of such structs: opened to their cells, whatever the number of fields. -/
import Derived.Test.YtffbljbgmgifnaaDoorOpen
namespace Go.Proofs.YtffbljbgmgifnaaDoor
open Go.RowKit Go.ChangeShapes Go.WideShapes Go.Deep

section
variable {H : Type} {enc : TypeId × Value → H} {P : Program} {w : World} {base : Nat} {spare : Nat → Bool} {held : Bool}

/-- What a field of one cell holds, by its type. -/
def FieldIs (P : Program) (f : Field) (v : Value) : Prop :=
  (P.underlying f.type = some (.int .i64) → ∃ z : Int, v = .int .i64 z) ∧ (P.underlying f.type = some .string → ∃ s : ByteArray, v = .string s ∧ s.size ≤ maxLen) ∧ (P.underlying f.type = some .bool → ∃ b : Bool, v = .bool b)
theorem trod_field {f : Field} {fuel : Nat} {c : Value} {x : DataW H × List MemPlace} (h : DataW.trod enc P w base spare held fuel f.type [c] = some x) : FieldIs P f c := by
  refine ⟨fun ht => ?_, fun ht => ?_, fun ht => ?_⟩
  · obtain ⟨z, hz, _⟩ := DataW.trod_int ht h
    exact ⟨z, by simpa using hz⟩
  · obtain ⟨s, hs, _, hl⟩ := DataW.trod_string ht h
    exact ⟨s, by simpa using hs, hl⟩
  · obtain ⟨b, hb, _⟩ := DataW.trod_bool ht h
    exact ⟨b, by simpa using hb⟩
theorem cells_of_one {e : TypeId} {fs : Array Field} {fuel : Nat} {cs : List Value} {x : DataW H × List MemPlace} (he : P.underlying e = some (.struct fs)) (hone : oneCellFields P fs = true) (hsz : cs.length = fs.size)
    (h : DataW.trod enc P w base spare held fuel e cs = some x) : ∀ (j : Nat) (f : Field), fs[j]? = some f → ∃ c, cs[j]? = some c ∧ FieldIs P f c := by
  obtain ⟨ys, n, _, _, _, hyl, hf⟩ := DataW.trod_struct he h
  intro j f hj'
  have hj : j < fs.size := (Array.getElem?_eq_some_iff.1 hj').1
  obtain ⟨ho, hk⟩ := hone_of hone j _ hj'
  have h1 := hf j _ hj'
  rw [ho, hk] at h1
  have hone' : (cs.drop j).take 1 = [cs[j]'(by omega)] := by
    rw [List.drop_eq_getElem_cons (by omega)]
    rfl
  rw [hone'] at h1
  have hys : ys[j]? = some (ys[j]'(by omega)) := List.getElem?_eq_getElem (by omega)
  exact ⟨cs[j]'(by omega), List.getElem?_eq_getElem (by omega), trod_field (h1.trans hys)⟩
/-- A struct of such fields, by value. -/
theorem open_one_struct {r : Reach} {b0 : Nat} {t : TypeId} {fs : Array Field} {v : Value} {d : DataW H} {p : List MemPlace} (hs : P.underlying t = some (.struct fs)) (hone : oneCellFields P fs = true) (hC : P.cellsOf t = fs.size)
    (hv : Value.okWide P w r b0 t v) (h : DataW.Trod enc P w base spare held t v d p) : ∃ cs : List Value, v = .agg cs.toArray ∧ cs.length = fs.size ∧ ∀ (j : Nat) (f : Field), fs[j]? = some f → ∃ c, cs[j]? = some c ∧ FieldIs P f c := by
  obtain ⟨cs, rfl, hsz⟩ := okWide_struct hs hv
  obtain ⟨fuel, hf⟩ := h
  obtain ⟨l⟩ := cs
  have hl : l.length = fs.size := by simpa using hsz.trans hC
  exact ⟨l, rfl, hl, cells_of_one hs hone hl (by simpa [Value.cells] using hf)⟩
/-- A slice of such structs. -/
theorem open_one_structs {t e : TypeId} {fs : Array Field} {fuel : Nat} {a : Option Addr} {len cap : Nat} {x : DataW H × List MemPlace} (ht : P.underlying t = some (.slice e)) (he : P.underlying e = some (.struct fs))
    (hone : oneCellFields P fs = true) (hC : P.cellsOf e = fs.size) (hpos : 0 < fs.size) (h : DataW.trod enc P w base (fun _ => true) held fuel t (Value.slice a len cap).cells.toList = some x) :
    (a = none ∧ len = 0 ∧ cap = 0) ∨ ∃ (b o : Nat), (len = 0 ∨ a = some ⟨b, o, none⟩) ∧ len ≤ cap ∧ cap ≤ maxLen ∧ (0 < len → b < w.heap.size) ∧ ∀ i, i < len → ∀ (j : Nat) (f : Field), fs[j]? = some f → ∃ c, w.cell? ⟨b, o + (i * fs.size + j), none⟩ = some c ∧ FieldIs P f c := by
  rcases open_slice ht h with ⟨hcs, _⟩ | ⟨y, l, c, m, n, D, Pl, hcs, hb, hl, hm, hmm, _, hi⟩
  · simp [Value.cells] at hcs
    exact .inl hcs
  · right
    simp [Value.cells] at hcs
    obtain ⟨rfl, rfl, rfl⟩ := hcs
    simp at hmm
    subst hmm
    obtain ⟨b, o, spot⟩ := y
    have each : ∀ i, i < len → ∀ (j : Nat) (f : Field), fs[j]? = some f → ∃ c, w.cell? ((⟨b, o, spot⟩ : Addr).add (i * fs.size + j)) = some c ∧ FieldIs P f c := by
      intro i hlt j f hf
      obtain ⟨cs', hc, ht'⟩ := hi i (by omega)
      rw [hC] at hc
      obtain ⟨_, hcl, hat⟩ := World.cells?_some hc
      obtain ⟨c, h1, h2⟩ := cells_of_one he hone hcl ht' j f hf
      refine ⟨c, ?_, h2⟩
      have hj : j < fs.size := (Array.getElem?_eq_some_iff.1 hf).1
      rw [← Go.Deep.add_add, hat j hj]
      exact h1
    by_cases h0 : len = 0
    · exact ⟨b, o, .inl h0, hl, hm, by omega, by omega⟩
    · obtain ⟨c0, h1, _⟩ := each 0 (by omega) 0 fs[0] (Array.getElem?_eq_getElem hpos)
      have hspot : spot = none := by simpa [Addr.add] using World.cell?_spot h1
      subst hspot
      refine ⟨b, o, .inr rfl, hl, hm, fun _ => ?_, fun i hi j f hf => ?_⟩
      · have h2 := h1
        rw [add_plain] at h2
        by_cases hb : b < w.heap.size
        · exact hb
        · exfalso
          have : w.cell? ⟨b, o + (0 * fs.size + 0), none⟩ = none := by simp [World.cell?, Array.getElem?_eq_none (Nat.le_of_not_lt hb)]
          rw [this] at h2; cases h2
      · obtain ⟨c, h1, h2⟩ := each i hi j f hf
        rw [add_plain] at h1
        exact ⟨c, h1, h2⟩
end
end Go.Proofs.YtffbljbgmgifnaaDoor
