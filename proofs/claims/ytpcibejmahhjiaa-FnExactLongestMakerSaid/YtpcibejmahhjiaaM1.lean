/- Texts in one: Base, Open, Open2, Box0, AppL, Reg, MarkT, MakerT. -/
import Derived.Test.YtpcibejmahhjiaaProg
import Derived.WalkKit
import Derived.WalkSpells
import Derived.ProofKit
import Derived.Lib.Hide
import Derived.Deep.QuietTactic
import Derived.BigQuiet
import Derived.Below
import Derived.IntWalk
import Derived.LoopTactic
import Derived.Lib.SlicesS
import Derived.Lib.IndexBytes
import Derived.Laws.AppendOwn
import Derived.OwnWalk
import Derived.Deep.Slices
import Derived.Deep.Fields
import Derived.ChangeSame
import Derived.ChangeArms
import Derived.Laws.IdiomRangeMap
import Derived.Laws.OwnMore
import Derived.Lib.QuietBelow
import Derived.Laws.BytesArg
import Derived.WalkLawsBesides
import Derived.Deep.RegionWith
import Derived.Handy
namespace Go.Proofs.Ytpcibejmahhjiaa
open Go.RowKit

theorem ret_int {k : IntKind} {a b : Int} (h : a = b) : Ending.returned (.int k a) = .returned (.int k b) := by rw [h]
theorem ret_bool {a b : Bool} (h : a = b) : Ending.returned (.bool a) = .returned (.bool b) := by rw [h]
theorem ret_str {a b : ByteArray} (h : a = b) : Ending.returned (.string a) = .returned (.string b) := by rw [h]
theorem ret_str_v {a b : ByteArray} {v : Value} (h : a = b) : Ending.returned (.tuple #[.string a, v]) = .returned (.tuple #[.string b, v]) := by rw [h]
theorem ret_int_v {k : IntKind} {a b : Int} {v : Value} (h : a = b) : Ending.returned (.tuple #[.int k a, v]) = .returned (.tuple #[.int k b, v]) := by rw [h]
theorem u8_bd (c : UInt8) : (c.toNat : Int) ≤ 255 := by have := c.toNat_lt; omega
theorem take_snoc (s : ByteArray) (k : Nat) (h : k < s.size) : s.data.toList.take (k + 1) = s.data.toList.take k ++ [s[k]] := by
  rw [List.take_succ_eq_append_getElem (by simpa using h)]; rfl
theorem take_all (s : ByteArray) : s.data.toList.take s.size = s.data.toList := List.take_of_length_le (by simp)
theorem drop_cons (s : ByteArray) (k : Nat) (h : k < s.size) : s.data.toList.drop k = s[k] :: s.data.toList.drop (k + 1) := by
  rw [List.drop_eq_getElem_cons (by simpa using h)]; rfl
theorem drop_none (s : ByteArray) : s.data.toList.drop s.size = [] := by
  apply List.drop_eq_nil_of_le; simp
theorem size_list (s : ByteArray) : s.size = s.data.toList.length := Array.length_toList.symm
theorem bytes_ext {a b : ByteArray} (h : a.data.toList = b.data.toList) : a = b := by
  rcases a with ⟨⟨a⟩⟩; rcases b with ⟨⟨b⟩⟩; simp at h; rw [h]
theorem bytes_append (a b : ByteArray) : (a ++ b).data.toList = a.data.toList ++ b.data.toList := by simp
theorem ne_test {a b : ByteArray} (h : (!a.toList == b.toList) = true) : a ≠ b := (Lib.bytes_beq_false_iff a b).1 (by simpa using h)
theorem eq_test {a b : ByteArray} (h : (!a.toList == b.toList) = false) : a = b := (Lib.bytes_beq_iff a b).1 (by simpa using h)
theorem eq_testT {a b : ByteArray} (h : a = b) : (a.toList == b.toList) = true := (Lib.bytes_beq_iff a b).2 h
theorem ne_testT {a b : ByteArray} (h : a ≠ b) : (a.toList == b.toList) = false := (Lib.bytes_beq_false_iff a b).2 h
theorem bel_drawn (w : World) (n : Nat) : Below w.heap.size w (w.drewN n) := ⟨rfl, rfl, rfl, Nat.le_refl _, fun _ _ => rfl⟩
theorem bel_drawn2 (w : World) (m n : Nat) : Below w.heap.size w ((w.drewN m).drewN n) := ⟨rfl, rfl, rfl, Nat.le_refl _, fun _ _ => rfl⟩
theorem Below.then' {w w1 w2 : World} (h : Below w.heap.size w w1) (k : Below w1.heap.size w1 w2) : Below w.heap.size w w2 := h.trans (k.mono h.size)
def strOf (l : List UInt8) : ByteArray := ⟨l.toArray⟩
theorem strOf_size (l : List UInt8) : (strOf l).size = l.length := by simp [strOf, ByteArray.size]
theorem strOf_append (l k : List UInt8) : strOf l ++ strOf k = strOf (l ++ k) := by
  apply ByteArray.ext; simp [strOf]
theorem strOf_list (l : List UInt8) : (strOf l).data.toList = l := by simp [strOf]
theorem add_plain (b o j : Nat) : (⟨b, o, none⟩ : Addr).add j = ⟨b, o + j, none⟩ := by unfold Addr.add; split <;> simp_all
theorem infoStr : (Try.prog.info? 9).map (fun i => (i.zero, i.size, i.bytes)) = some (some (.string ByteArray.empty), 1, 16) := by kernel_rfl
theorem cell_one (w : World) (x : Value) (t : TypeId) : ∀ j u, [x][j]? = some u → (w.alloc (.cells #[x] t)).cell? ((⟨w.heap.size, 0, none⟩ : Addr).add j) = some u := by
  intro j u hj
  match j, hj with
  | 0, hj => simp at hj; subst hj; simp [Addr.add]
  | j + 1, hj => simp at hj
theorem ownsRow_below {w w' : World} {base : Nat} {e : TypeId} {size n : Nat} {v : Value} {xs : List Value} (h : w.ownsRow base e size v n xs) (hb : Below w.heap.size w w') : w'.ownsRow base e size v n xs := by
  refine ⟨h.1, ?_⟩
  rcases h.2 with h0 | ⟨g, cap, cur, rfl, hg, hh, r⟩
  · exact .inl h0
  · exact .inr ⟨g, cap, cur, rfl, hg, (hb.block g (Array.getElem?_eq_some_iff.1 hh).1).trans hh, r⟩
theorem ownsRow_base {w : World} {base base' : Nat} {e : TypeId} {size n : Nat} {v : Value} {xs : List Value} (h : w.ownsRow base e size v n xs) (hb : base' ≤ base) : w.ownsRow base' e size v n xs := by
  refine ⟨h.1, ?_⟩
  rcases h.2 with h0 | ⟨g, cap, cur, rfl, hg, r⟩
  · exact .inl h0
  · exact .inr ⟨g, cap, cur, rfl, Nat.le_trans hb hg, r⟩
theorem grown_below {w w' : World} (h : Below w.heap.size w w') (row : Option Nat) : w.grownBy w' row := ⟨h.os, h.tape, h.output, h.size, fun k hk _ => h.block k hk⟩
theorem grown_trans {a b c : World} {row : Option Nat} (h : a.grownBy b row) (k : b.grownBy c row) : a.grownBy c row :=
  ⟨k.os.trans h.os, k.tape.trans h.tape, k.output.trans h.output, Nat.le_trans h.size k.size, fun j hj hr => (k.block j (Nat.lt_of_lt_of_le hj h.size) hr).trans (h.block j hj hr)⟩
/-- A row of texts of the call's own, and the world below as it was. -/
def RowPost (xs : List ByteArray) (w : World) (e : Ending) (w' : World) : Prop := ∃ v, e = .returned v ∧ w'.ownsRow w.heap.size 9 1 v xs.length (xs.map Value.string) ∧ Below w.heap.size w w'
end Go.Proofs.Ytpcibejmahhjiaa
namespace Go.Proofs.Ytpcibejmahhjiaa
open Go.RowKit Go.ChangeShapes Go.WideShapes Go.Deep

section
variable {H : Type} {enc : TypeId × Value → H} {P : Program} {w : World} {base : Nat} {spare : Nat → Bool} {held : Bool}

/-- Every field is an integer of 64 bits. -/
def AllInts (P : Program) (fs : Array Field) : Prop := ∀ (j : Nat) (f : Field), fs[j]? = some f → P.underlying f.type = some (.int .i64)
theorem AllInts.mk {P : Program} {fs : Array Field} {t : TypeId} (h : fs.all (fun f => f.type == t) = true) (ht : P.underlying t = some (.int .i64)) : AllInts P fs := by
  intro j f hj
  obtain ⟨hlt, he⟩ := Array.getElem?_eq_some_iff.1 hj
  have := Array.all_eq_true.1 h j hlt
  rw [he] at this
  simp at this
  rw [this]; exact ht

/-- The cells of a struct that reads are integers, one a field. -/
theorem cells_of_struct {e : TypeId} {fs : Array Field} {fuel : Nat} {cs : List Value} {x : DataW H × List MemPlace} (he : P.underlying e = some (.struct fs)) (hone : oneCellFields P fs = true) (hints : AllInts P fs) (hsz : cs.length = fs.size)
    (h : DataW.trod enc P w base spare held fuel e cs = some x) : ∃ f : Nat → Int, ∀ j, j < fs.size → cs[j]? = some (.int .i64 (f j)) := by
  obtain ⟨ys, n, _, _, _, hyl, hf⟩ := DataW.trod_struct he h
  have each : ∀ j, j < fs.size → ∃ z : Int, cs[j]? = some (.int .i64 z) := by
    intro j hj
    have hj' : fs[j]? = some (fs[j]'hj) := Array.getElem?_eq_getElem hj
    obtain ⟨ho, hk⟩ := hone_of hone j _ hj'
    have h1 := hf j _ hj'
    rw [ho, hk] at h1
    have hone' : (cs.drop j).take 1 = [cs[j]'(by omega)] := by
      rw [List.drop_eq_getElem_cons (by omega)]
      rfl
    rw [hone'] at h1
    have hys : ys[j]? = some (ys[j]'(by omega)) := List.getElem?_eq_getElem (by omega)
    obtain ⟨z, hz, _⟩ := DataW.trod_int (hints j _ hj') (h1.trans hys)
    exact ⟨z, by rw [List.getElem?_eq_getElem (by omega)]; simpa using hz⟩
  obtain ⟨f, hf⟩ := Classical.axiomOfChoice (r := fun (j : Fin fs.size) (z : Int) => cs[j.1]? = some (.int .i64 z)) (fun j => each j.1 j.2)
  exact ⟨fun j => if hj : j < fs.size then f ⟨j, hj⟩ else 0, fun j hj => by simp only [hj, dif_pos]; exact hf ⟨j, hj⟩⟩

/-- A struct of integers, by value. -/
theorem open_ints_struct {r : Reach} {b0 : Nat} {t : TypeId} {fs : Array Field} {v : Value} {d : DataW H} {p : List MemPlace} (hs : P.underlying t = some (.struct fs)) (hone : oneCellFields P fs = true) (hints : AllInts P fs) (hC : P.cellsOf t = fs.size)
    (hv : Value.okWide P w r b0 t v) (h : DataW.Trod enc P w base spare held t v d p) : ∃ f : Nat → Int, v = .agg ((List.range fs.size).map fun j => Value.int .i64 (f j)).toArray := by
  obtain ⟨cs, rfl, hsz⟩ := okWide_struct hs hv
  obtain ⟨fuel, hf⟩ := h
  obtain ⟨l⟩ := cs
  have hl : l.length = fs.size := by simpa using hsz.trans hC
  obtain ⟨f, hcell⟩ := cells_of_struct hs hone hints (cs := l) hl (by simpa [Value.cells] using hf)
  refine ⟨f, ?_⟩
  congr 1
  congr 1
  apply List.ext_getElem?
  intro j
  by_cases hj : j < fs.size
  · rw [hcell j hj]; simp [hj]
  · rw [List.getElem?_eq_none (by omega), List.getElem?_eq_none (by simp; omega)]

/-- A slice of structs of integers. -/
theorem open_ints_structs {t e : TypeId} {fs : Array Field} {fuel : Nat} {a : Option Addr} {len cap : Nat} {x : DataW H × List MemPlace} (ht : P.underlying t = some (.slice e)) (he : P.underlying e = some (.struct fs))
    (hone : oneCellFields P fs = true) (hints : AllInts P fs) (hC : P.cellsOf e = fs.size) (hpos : 0 < fs.size) (h : DataW.trod enc P w base (fun _ => true) held fuel t (Value.slice a len cap).cells.toList = some x) :
    (a = none ∧ len = 0 ∧ cap = 0) ∨ ∃ (b o : Nat) (f : Nat → Nat → Int), (len = 0 ∨ a = some ⟨b, o, none⟩) ∧ len ≤ cap ∧ cap ≤ maxLen ∧ (0 < len → b < w.heap.size) ∧ ∀ i j, i < len → j < fs.size → w.cell? ⟨b, o + (i * fs.size + j), none⟩ = some (.int .i64 (f i j)) := by
  rcases open_slice ht h with ⟨hcs, _⟩ | ⟨y, l, c, m, n, D, Pl, hcs, hb, hl, hm, hmm, _, hi⟩
  · simp [Value.cells] at hcs
    exact .inl hcs
  · right
    simp [Value.cells] at hcs
    obtain ⟨rfl, rfl, rfl⟩ := hcs
    simp at hmm
    subst hmm
    obtain ⟨b, o, spot⟩ := y
    have each : ∀ i, i < len → ∃ f : Nat → Int, ∀ j, j < fs.size → w.cell? ((⟨b, o, spot⟩ : Addr).add (i * fs.size + j)) = some (.int .i64 (f j)) := by
      intro i hlt
      obtain ⟨cs', hc, ht'⟩ := hi i (by omega)
      rw [hC] at hc
      obtain ⟨_, hcl, hat⟩ := World.cells?_some hc
      obtain ⟨f, hf⟩ := cells_of_struct he hone hints hcl ht'
      refine ⟨f, fun j hj => ?_⟩
      rw [← Go.Deep.add_add, hat j hj]
      exact hf j hj
    by_cases h0 : len = 0
    · exact ⟨b, o, fun _ _ => 0, .inl h0, hl, hm, by omega, by omega⟩
    · obtain ⟨f0, hf0⟩ := each 0 (by omega)
      have h1 := hf0 0 hpos
      have hspot : spot = none := by simpa [Addr.add] using World.cell?_spot h1
      subst hspot
      obtain ⟨f, hf⟩ := Classical.axiomOfChoice (r := fun (i : Fin len) (g : Nat → Int) => ∀ j, j < fs.size → w.cell? ((⟨b, o, none⟩ : Addr).add (i.1 * fs.size + j)) = some (.int .i64 (g j))) (fun i => each i.1 i.2)
      refine ⟨b, o, fun i => if hi : i < len then f ⟨i, hi⟩ else fun _ => 0, .inr rfl, hl, hm, fun _ => ?_, fun i j hi hj => ?_⟩
      · have h2 := h1
        rw [add_plain] at h2
        by_cases hb : b < w.heap.size
        · exact hb
        · exfalso
          have : w.cell? ⟨b, o + (0 * fs.size + 0), none⟩ = none := by simp [World.cell?, Array.getElem?_eq_none (Nat.le_of_not_lt hb)]
          rw [this] at h2; cases h2
      · have := hf ⟨i, hi⟩ j hj
        rw [add_plain] at this
        simpa [hi] using this
end
end Go.Proofs.Ytpcibejmahhjiaa
namespace Go.Proofs.Ytpcibejmahhjiaa
open Go.RowKit Go.ChangeShapes Go.WideShapes Go.Deep

section
variable {H : Type} {enc : TypeId × Value → H} {P : Program} {w : World} {base : Nat} {spare : Nat → Bool} {held : Bool}

/-- What a field of one cell holds, by its type. -/
def FieldIs (P : Program) (f : Field) (v : Value) : Prop :=
  (P.underlying f.type = some (.int .i64) → ∃ z : Int, v = .int .i64 z) ∧ (P.underlying f.type = some .string → ∃ s : ByteArray, v = .string s ∧ s.size ≤ maxLen) ∧ (P.underlying f.type = some .bool → ∃ b : Bool, v = .bool b)
theorem trod_field {f : Field} {fuel : Nat} {c : Value} {x : DataW H × List MemPlace} (h : DataW.trod enc P w base spare held fuel f.type [c] = some x) : FieldIs P f c := by
  refine ⟨fun ht => ?_, fun ht => ?_, fun ht => ?_⟩
  · obtain ⟨z, hz, _⟩ := DataW.trod_int ht h
    exact ⟨z, by simpa using hz⟩
  · obtain ⟨s, hs, _, hl⟩ := DataW.trod_string ht h
    exact ⟨s, by simpa using hs, hl⟩
  · obtain ⟨b, hb, _⟩ := DataW.trod_bool ht h
    exact ⟨b, by simpa using hb⟩
theorem cells_of_one {e : TypeId} {fs : Array Field} {fuel : Nat} {cs : List Value} {x : DataW H × List MemPlace} (he : P.underlying e = some (.struct fs)) (hone : oneCellFields P fs = true) (hsz : cs.length = fs.size)
    (h : DataW.trod enc P w base spare held fuel e cs = some x) : ∀ (j : Nat) (f : Field), fs[j]? = some f → ∃ c, cs[j]? = some c ∧ FieldIs P f c := by
  obtain ⟨ys, n, _, _, _, hyl, hf⟩ := DataW.trod_struct he h
  intro j f hj'
  have hj : j < fs.size := (Array.getElem?_eq_some_iff.1 hj').1
  obtain ⟨ho, hk⟩ := hone_of hone j _ hj'
  have h1 := hf j _ hj'
  rw [ho, hk] at h1
  have hone' : (cs.drop j).take 1 = [cs[j]'(by omega)] := by
    rw [List.drop_eq_getElem_cons (by omega)]
    rfl
  rw [hone'] at h1
  have hys : ys[j]? = some (ys[j]'(by omega)) := List.getElem?_eq_getElem (by omega)
  exact ⟨cs[j]'(by omega), List.getElem?_eq_getElem (by omega), trod_field (h1.trans hys)⟩
/-- A struct of such fields, by value. -/
theorem open_one_struct {r : Reach} {b0 : Nat} {t : TypeId} {fs : Array Field} {v : Value} {d : DataW H} {p : List MemPlace} (hs : P.underlying t = some (.struct fs)) (hone : oneCellFields P fs = true) (hC : P.cellsOf t = fs.size)
    (hv : Value.okWide P w r b0 t v) (h : DataW.Trod enc P w base spare held t v d p) : ∃ cs : List Value, v = .agg cs.toArray ∧ cs.length = fs.size ∧ ∀ (j : Nat) (f : Field), fs[j]? = some f → ∃ c, cs[j]? = some c ∧ FieldIs P f c := by
  obtain ⟨cs, rfl, hsz⟩ := okWide_struct hs hv
  obtain ⟨fuel, hf⟩ := h
  obtain ⟨l⟩ := cs
  have hl : l.length = fs.size := by simpa using hsz.trans hC
  exact ⟨l, rfl, hl, cells_of_one hs hone hl (by simpa [Value.cells] using hf)⟩
/-- A slice of such structs. -/
theorem open_one_structs {t e : TypeId} {fs : Array Field} {fuel : Nat} {a : Option Addr} {len cap : Nat} {x : DataW H × List MemPlace} (ht : P.underlying t = some (.slice e)) (he : P.underlying e = some (.struct fs))
    (hone : oneCellFields P fs = true) (hC : P.cellsOf e = fs.size) (hpos : 0 < fs.size) (h : DataW.trod enc P w base (fun _ => true) held fuel t (Value.slice a len cap).cells.toList = some x) :
    (a = none ∧ len = 0 ∧ cap = 0) ∨ ∃ (b o : Nat), (len = 0 ∨ a = some ⟨b, o, none⟩) ∧ len ≤ cap ∧ cap ≤ maxLen ∧ (0 < len → b < w.heap.size) ∧ ∀ i, i < len → ∀ (j : Nat) (f : Field), fs[j]? = some f → ∃ c, w.cell? ⟨b, o + (i * fs.size + j), none⟩ = some c ∧ FieldIs P f c := by
  rcases open_slice ht h with ⟨hcs, _⟩ | ⟨y, l, c, m, n, D, Pl, hcs, hb, hl, hm, hmm, _, hi⟩
  · simp [Value.cells] at hcs
    exact .inl hcs
  · right
    simp [Value.cells] at hcs
    obtain ⟨rfl, rfl, rfl⟩ := hcs
    simp at hmm
    subst hmm
    obtain ⟨b, o, spot⟩ := y
    have each : ∀ i, i < len → ∀ (j : Nat) (f : Field), fs[j]? = some f → ∃ c, w.cell? ((⟨b, o, spot⟩ : Addr).add (i * fs.size + j)) = some c ∧ FieldIs P f c := by
      intro i hlt j f hf
      obtain ⟨cs', hc, ht'⟩ := hi i (by omega)
      rw [hC] at hc
      obtain ⟨_, hcl, hat⟩ := World.cells?_some hc
      obtain ⟨c, h1, h2⟩ := cells_of_one he hone hcl ht' j f hf
      refine ⟨c, ?_, h2⟩
      have hj : j < fs.size := (Array.getElem?_eq_some_iff.1 hf).1
      rw [← Go.Deep.add_add, hat j hj]
      exact h1
    by_cases h0 : len = 0
    · exact ⟨b, o, .inl h0, hl, hm, by omega, by omega⟩
    · obtain ⟨c0, h1, _⟩ := each 0 (by omega) 0 fs[0] (Array.getElem?_eq_getElem hpos)
      have hspot : spot = none := by simpa [Addr.add] using World.cell?_spot h1
      subst hspot
      refine ⟨b, o, .inr rfl, hl, hm, fun _ => ?_, fun i hi j f hf => ?_⟩
      · have h2 := h1
        rw [add_plain] at h2
        by_cases hb : b < w.heap.size
        · exact hb
        · exfalso
          have : w.cell? ⟨b, o + (0 * fs.size + 0), none⟩ = none := by simp [World.cell?, Array.getElem?_eq_none (Nat.le_of_not_lt hb)]
          rw [this] at h2; cases h2
      · obtain ⟨c, h1, h2⟩ := each i hi j f hf
        rw [add_plain] at h1
        exact ⟨c, h1, h2⟩
end
end Go.Proofs.Ytpcibejmahhjiaa
namespace Go.Proofs.Ytpcibejmahhjiaa
open Go.RowKit

theorem bel_drew' {w w1 : World} (h : Below w.heap.size w w1) : Below w.heap.size w w1.drew := ⟨h.os, h.tape, h.output, h.size, h.block⟩
theorem bel_al1 (w : World) (o : Obj) : Below w.heap.size w (w.alloc o) := (Below.refl _ _).alloc (Nat.le_refl _) o
theorem size_al (w : World) (o : Obj) : (w.alloc o).heap.size = w.heap.size + 1 := by
  show (w.heap.push o).size = _
  simp
theorem bel_al2 (w : World) (o o' : Obj) : Below w.heap.size w ((w.alloc o).alloc o') := Below.then' (bel_al1 _ _) (bel_al1 _ _)
theorem bel_al3 (w : World) (o o' o'' : Obj) : Below w.heap.size w (((w.alloc o).alloc o').alloc o'') := Below.then' (bel_al2 _ _ _) (bel_al1 _ _)
theorem ownsRow_grown0 {w w' : World} {base : Nat} {e : TypeId} {size n : Nat} {v : Value} {xs : List Value} {row : Option Nat} (h : w.ownsRow base e size v n xs) (hg : w.grownBy w' row) (hne : ∀ k, row = some k → k < base) : w'.ownsRow base e size v n xs := by
  refine ⟨h.1, ?_⟩
  rcases h.2 with h0 | ⟨g, cap, cur, rfl, hb, hh, r⟩
  · exact .inl h0
  · exact .inr ⟨g, cap, cur, rfl, hb, (hg.block g (Array.getElem?_eq_some_iff.1 hh).1 (fun e => by have := hne g e.symm; omega)).trans hh, r⟩
theorem cons_congr {α : Type} {a b : α} {l m : List α} (h : a = b) (t : l = m) : a :: l = b :: m := by rw [h, t]
theorem int_eq {k : IntKind} {a b : Int} (h : a = b) : Value.int k a = .int k b := by rw [h]
theorem own_eq {w : World} {base n : Nat} {e : TypeId} {size : Nat} {v : Value} {L M : List Value} (h : w.ownsRow base e size v n L) (hl : L = M) : w.ownsRow base e size v n M := hl ▸ h
theorem own_cell {w : World} {base n c g : Nat} {e : TypeId} {size : Nat} {L : List Value} (h : w.ownsRow base e size (.slice (some ⟨g, 0, none⟩) n c) n L) (i : Nat) (hi : i < L.length) : ∃ u, w.cell? ⟨g, i, none⟩ = some u := by
  have hc := h.cells (g := g) rfl i _ (List.getElem?_eq_getElem hi)
  rw [add_plain, Nat.zero_add] at hc
  exact ⟨_, hc⟩
end Go.Proofs.Ytpcibejmahhjiaa
namespace Go.Proofs.Ytpcibejmahhjiaa
open Go.RowKit

/-- The slice 'a m' holds the cells news, m elements of some size. -/
def SrcAt (w : World) (a : Option Addr) (m size : Nat) (news : List Value) : Prop :=
  news.length = m * size ∧ (m = 0 ∨ ∃ ad, a = some ad ∧ ∀ (j : Nat) u, news[j]? = some u → w.cell? (ad.add j) = some u)
theorem append_nothing {P : Program} {w : World} {base n size : Nat} {t ty e : TypeId} {i : TypeInfo} {v : Value} {xs : List Value} (ht : P.underlying t = some (.slice e)) (hi : P.info? e = some i) (hown : w.ownsRow base e size v n xs) (c : Nat) :
    (Builtin.append_ #[t, t] ty #[v, .slice none 0 c]).run P w = .ok v w := by
  obtain ⟨_, h⟩ := hown
  rcases h with ⟨rfl, rfl⟩ | ⟨g, cap, cur, rfl, h1, h2, h3, h4⟩
  all_goals simp [Builtin.append_, run_underlying ht, sizeOf, typeInfo, Builtin.lenOf, Builtin.firstCells, storeCells, *]
theorem wpList_append_list {P : Program} {w : World} {ops : Array Oper} {rest : List Oper} {o : Oper} {a : Act} {Q : Exit → Act → World → Prop} (hgd : o.guard = none) (s x : Operand) (t : TypeId)
    (ho : o.op = .call { callee := .builtin .append, args := #[s, x], argTypes := #[t, t] })
    (base : Nat) (e : TypeId) (i : TypeInfo) (z : Value) (size bytes : Nat) (ht : P.underlying t = some (.slice e)) (hi : P.info? e = some i) (hz : i.zero = some z)
    (hsize : i.size = size) (hby : i.bytes = bytes) (hzs : z.cells.size = size) (hsz : 0 < size)
    (v : Value) (n : Nat) (xs : List Value) (hs : a.eval s = v) (hown : w.ownsRow base e size v n xs)
    (ad : Option Addr) (m c : Nat) (news : List Value) (hx : a.eval x = .slice ad m c) (hsrc : SrcAt w ad m size news) (h1 : ∀ u ∈ news, u.oneCell' = true)
    (h63 : n + m ≤ maxLen) (hbytes : (n + m) * bytes ≤ 140737488355328) (hbase : base ≤ w.heap.size)
    (h : ∀ v' w', w'.ownsRow base e size v' (n + m) (xs ++ news) → w.grownBy w' v.ownBlock → wpList P ops Q rest (a.put o.dst v') w') : wpList P ops Q (o :: rest) a w := by
  obtain ⟨hl, hc⟩ := hsrc
  cases ad with
  | some ad =>
    refine wpList_append_own w hgd s x t ho base e i z size bytes ht hi hz hsize hby hzs hsz v n xs hs hown ad m c news hx hl ?_ h1 h63 hbytes hbase (fun v' w' a b _ => h v' w' a b)
    rcases hc with rfl | ⟨ad', e', hc⟩
    · have : news = [] := List.eq_nil_of_length_eq_zero (by simpa using hl)
      subst this
      intro j u hj; simp at hj
    · cases e'; exact hc
  | none =>
    have hm : m = 0 := by
      rcases hc with h0 | ⟨_, e', _⟩
      · exact h0
      · cases e'
    subst hm
    have hn : news = [] := List.eq_nil_of_length_eq_zero (by simpa using hl)
    subst hn
    refine wpList_plain hgd fun K hK => ?_
    have hrun := append_nothing (P := P) (w := w) (ty := o.type) ht hi hown c
    unfold Oper.wp
    simp [execOp, ho, resolve, invoke, builtin, hs, hx, hrun, Result.andThen]
    exact hK _ _ (h v w (by simpa using hown) (World.grownBy.refl w _))
theorem own_some {w : World} {base n : Nat} {e : TypeId} {size : Nat} {v : Value} {L : List Value} (h : w.ownsRow base e size v n L) (hn : 0 < n) : ∃ g c, v = .slice (some ⟨g, 0, none⟩) n c ∧ base ≤ g ∧ n ≤ c ∧ c ≤ 9223372036854775807 := by
  rcases h.2 with ⟨_, h0⟩ | ⟨g, c, _, e', hg, _, hn', hc, _⟩
  · omega
  · exact ⟨g, c, e', hg, hn', hc⟩
theorem own_ne {g g' n c : Nat} (h : g ≠ g') : some g ≠ (Value.slice (some ⟨g', 0, none⟩) n c).ownBlock := fun e => h (Option.some.inj e)
theorem own_is {g k n c : Nat} (h : (Value.slice (some ⟨g, 0, none⟩) n c).ownBlock = some k) : k = g := (Option.some.inj h).symm
end Go.Proofs.Ytpcibejmahhjiaa
namespace Go.Proofs.Ytpcibejmahhjiaa
open Go.RowKit

/-- A callee's contract, in every world of a drawn region's class. -/
theorem below_at {P : Program} {f : FuncId} {args : Array Value} {v : Value} {W : World} (h : ∀ W', Below W.heap.size W W' → Calls P f args W' fun e w' => e = .returned v ∧ Below W'.heap.size W' w') :
    ∀ d os, Calls P f args (Sort.grow (redrawn W d) os) fun e w'' => e = .returned v ∧ ∃ p : Regrown, w'' = Sort.grow (redrawn W p.d) p.os := fun d os => Calls.regrown_of (h _ (below_regrown W d os))
theorem below_of_re {W W' : World} (h : ∃ p : Regrown, W' = Sort.grow (redrawn W p.d) p.os) : Below W.heap.size W W' := by
  obtain ⟨p, rfl⟩ := h
  exact below_regrown _ _ _
theorem same_below {P : Program} {f : FuncId} {args : Array Value} {v : Value} {W : World} (h : Calls P f args W fun e w' => e = .returned v ∧ W = w') : Calls P f args W fun e w' => e = .returned v ∧ Below W.heap.size W w' :=
  h.mono fun _ _ ⟨he, hw⟩ => ⟨he, hw ▸ Below.refl _ _⟩
theorem World.lt_of_cell {w : World} {b o : Nat} {v : Value} (h : w.cell? ⟨b, o, none⟩ = some v) : b < w.heap.size := block_lt_of_cell h
theorem wp_world {P : Program} {c : Code} {Q : Exit → Act → World → Prop} {a : Act} {w0 : World} (F : World → Prop) (h0 : F w0) (h : ∀ W, F W → Code.wp P c Q a W) : Code.wp P c Q a w0 := h w0 h0
end Go.Proofs.Ytpcibejmahhjiaa
namespace Go.Proofs.Ytpcibejmahhjiaa
open Go.RowKit

def markGo : Nat → Nat → ByteArray → ByteArray
  | 0, _, out => out
  | f + 1, k, out => if k = 0 then out else markGo f (k / 10) (strOfNums [48 + ((k % 10 : Nat) : Int)] ++ out)
theorem markGo_zero (f : Nat) (out : ByteArray) : markGo f 0 out = out := by cases f <;> rfl
/-- The text that marks number k. -/
def markOf (k : Nat) : ByteArray := ⟨#[109]⟩ ++ markGo k k ByteArray.empty
theorem numStr_size (x : Int) : (strOfNums [x]).size = 1 := by simp [strOfNums, ByteArray.size]
theorem str_one (x : Int) (W : World) : (convert 22 9 (.slice (some ⟨W.heap.size, 0, none⟩) 1 1)).run Try.prog (W.alloc (.cells #[.int .u8 x] 5)) = .ok (.string (strOfNums [x])) (W.alloc (.cells #[.int .u8 x] 5)) :=
  run_convert_bytes_arg (P := Try.prog) _ 22 5 Try.underlying22 Try.underlying5 _ 0 1 1 [x] (by simp) (fun i hi => by
    rw [World.cell?_alloc_new]
    obtain rfl : i = 0 := by omega
    rfl) 9 Try.underlying9
set_option maxHeartbeats 1600000 in
theorem markText_any (k : Nat) (w : World) (hk : k ≤ 100000000) (hk0 : 1 ≤ k) :
    Calls Try.prog 76 #[.int .i64 (k : Int)] w fun e w' => e = .returned (.string (markOf k)) ∧ Below w.heap.size w w' := by
  have hcv := fun (x : Int) (W : World) => str_one x W
  obtain ⟨R, hR⟩ : ∃ R, markGo k k ByteArray.empty = R := ⟨_, rfl⟩
  have HR := Lib.hid hR
  have g0 : ¬ (k : Int) ≤ 0 := by omega
  clear hR
  go_enter Try.func76, Try.ntmps76
  go_wp2
  go_loopw [0, 3] (fun i o wr => ∃ (f j : Nat) (out : ByteArray), i = .int .i64 j ∧ o = .string out ∧ j ≤ f ∧ j ≤ k ∧ markGo f j out = R ∧ out.size + j ≤ k ∧ Below w.heap.size w wr) (fun i _ _ => (intOf i).toNat)
  case atStart => exact ⟨k, k, ByteArray.empty, rfl, rfl, Nat.le_refl _, Nat.le_refl _, HR.out, by simp, Below.refl _ _⟩
  case round =>
    obtain ⟨f, j, out, rfl, rfl, hjf, hjk, hgo, hsz, hbel⟩ := hrel
    have B := Lib.hid (Below.then' hbel (show Below wr.heap.size wr (wr.alloc (.cells #[.int .u8 (48 + ((j % 10 : Nat) : Int))] 5)) from (Below.refl _ _).alloc (Nat.le_refl _) _))
    have GO := Lib.hid hgo
    have B0 := Lib.hid hbel
    clear hgo hbel
    by_cases h0 : 0 < j
    · obtain ⟨f, rfl⟩ : ∃ f', f = f' + 1 := ⟨f - 1, by omega⟩
      have G2 := GO.out
      unfold markGo at G2
      rw [if_neg (by omega)] at G2
      have G2 := Lib.hid G2
      have p1 : (0 : Int) < (j : Int) := by omega
      have p2 : (0 : Int) ≤ (j : Int) % 10 := by omega
      have p3 : (j : Int) % 10 ≤ 9 := by omega
      have w1 : IntKind.i64.wrap (48 + (j : Int) % 10) = 48 + (j : Int) % 10 := IntWalk.i64_in _ (by omega)
      have s1 : (strOfNums [48 + (j : Int) % 10]).size + out.size ≤ 9223372036854775807 := by rw [numStr_size]; omega
      have HS := Lib.hid (show (strOfNums [48 + ((j % 10 : Nat) : Int)] ++ out).size + j / 10 ≤ k from by rw [ByteArray.size_append, numStr_size]; omega)
      go_wp2
      go_roundw
      case rel => exact ⟨f, j / 10, strOfNums [48 + ((j % 10 : Nat) : Int)] ++ out, by go_num, by simp, by omega, by omega, G2.out, HS.out, B.out⟩
      case measure => simp [intOf]; omega
    · obtain rfl : j = 0 := by omega
      have E := Lib.hid (show out = R by rw [← GO.out, markGo_zero])
      have s1 : (1 : Nat) + out.size ≤ 9223372036854775807 := by omega
      go_wp2
      go_ret
      exact ⟨ret_str (by unfold markOf; rw [HR.out, E.out]), B0.out⟩
theorem markText_int (x : Int) (w : World) (h0 : 1 ≤ x) (h1 : x ≤ 100000000) :
    Calls Try.prog 76 #[.int .i64 x] w fun e w' => e = .returned (.string (markOf x.toNat)) ∧ Below w.heap.size w w' := by
  obtain ⟨k, rfl⟩ := Int.eq_ofNat_of_zero_le (show 0 ≤ x by omega)
  exact markText_any k w (by omega) (by omega)
theorem mark_eq {a b : Nat} (h : a = b) : Value.string (markOf a) = .string (markOf b) := by rw [h]
theorem markGo_size : ∀ (f k : Nat) (out : ByteArray), (markGo f k out).size ≤ out.size + f
  | 0, _, _ => Nat.le_refl _
  | f + 1, k, out => by
    unfold markGo
    split
    · omega
    · refine Nat.le_trans (markGo_size f _ _) ?_
      rw [ByteArray.size_append, numStr_size]; omega
theorem markOf_size (k : Nat) (h : k ≤ 100000000) : (markOf k).size ≤ maxLen := by
  unfold markOf
  rw [ByteArray.size_append]
  have := markGo_size k k ByteArray.empty
  have e : (⟨#[109]⟩ : ByteArray).size = 1 := rfl
  have e2 : ByteArray.empty.size = 0 := rfl
  unfold maxLen
  omega
end Go.Proofs.Ytpcibejmahhjiaa
namespace Go.Proofs.Ytpcibejmahhjiaa
open Go.RowKit Go.ChangeShapes Go.WideShapes Go.Deep

structure VMaker where
  Id : Int
  Name : ByteArray
  From : Int
  Until : Int
  Heir : Int
def VMaker.vals (s : VMaker) : List Value := [.int .i64 s.Id, .string s.Name, .int .i64 s.From, .int .i64 s.Until, .int .i64 s.Heir]
theorem VMaker.vals_len (s : VMaker) : s.vals.length = 5 := rfl
theorem VMaker.vals_one (s : VMaker) : ∀ u ∈ s.vals, u.oneCell' = true := by
  intro u hu
  simp [VMaker.vals] at hu
  rcases hu with rfl | rfl | rfl | rfl | rfl <;> rfl
/-- Its texts are no longer than any text may be. -/
def VMaker.small (s : VMaker) : Prop := s.Name.size ≤ maxLen
/-- It lies at block b from offset o on. -/
def MakerAt (w : World) (b o : Nat) (s : VMaker) : Prop :=
  w.cell? ⟨b, o, none⟩ = some (.int .i64 s.Id) ∧ w.cell? ⟨b, o + 1, none⟩ = some (.string s.Name) ∧ w.cell? ⟨b, o + 2, none⟩ = some (.int .i64 s.From) ∧ w.cell? ⟨b, o + 3, none⟩ = some (.int .i64 s.Until) ∧ w.cell? ⟨b, o + 4, none⟩ = some (.int .i64 s.Heir) ∧ s.small
def IsMakerS (w : World) (a : Option Addr) (len cap : Nat) (xs : List VMaker) : Prop :=
  len = xs.length ∧ len ≤ cap ∧ cap ≤ maxLen ∧ (len = 0 ∨ ∃ b o, a = some ⟨b, o, none⟩ ∧ b < w.heap.size ∧ ∀ (k : Nat) s, xs[k]? = some s → MakerAt w b (o + k * 5) s)
theorem MakerAt.below {w w' : World} {b o : Nat} {s : VMaker} (h : MakerAt w b o s) (hb : Below w.heap.size w w') (hlt : b < w.heap.size) : MakerAt w' b o s :=
  ⟨(hb.cell (p := ⟨b, o, none⟩) hlt).trans h.1, (hb.cell (p := ⟨b, o + 1, none⟩) hlt).trans h.2.1, (hb.cell (p := ⟨b, o + 2, none⟩) hlt).trans h.2.2.1, (hb.cell (p := ⟨b, o + 3, none⟩) hlt).trans h.2.2.2.1, (hb.cell (p := ⟨b, o + 4, none⟩) hlt).trans h.2.2.2.2.1, h.2.2.2.2.2⟩
theorem MakerAt.block {w w' : World} {b o : Nat} {s : VMaker} (h : MakerAt w b o s) (hb : w'.heap[b]? = w.heap[b]?) : MakerAt w' b o s :=
  ⟨(World.cell?_of_block (w := w) (a := ⟨b, o, none⟩) hb).trans h.1, (World.cell?_of_block (w := w) (a := ⟨b, o + 1, none⟩) hb).trans h.2.1, (World.cell?_of_block (w := w) (a := ⟨b, o + 2, none⟩) hb).trans h.2.2.1, (World.cell?_of_block (w := w) (a := ⟨b, o + 3, none⟩) hb).trans h.2.2.2.1, (World.cell?_of_block (w := w) (a := ⟨b, o + 4, none⟩) hb).trans h.2.2.2.2.1, h.2.2.2.2.2⟩
theorem IsMakerS.below {w w' : World} {a : Option Addr} {len cap : Nat} {xs : List VMaker} (h : IsMakerS w a len cap xs) (hb : Below w.heap.size w w') : IsMakerS w' a len cap xs := by
  refine ⟨h.1, h.2.1, h.2.2.1, ?_⟩
  rcases h.2.2.2 with h0 | ⟨b, o, rfl, h1, h2⟩
  · exact .inl h0
  · exact .inr ⟨b, o, rfl, Nat.lt_of_lt_of_le h1 hb.size, fun k s hs => (h2 k s hs).below hb h1⟩
theorem IsMakerS.grown {w w' : World} {a : Option Addr} {len cap : Nat} {xs : List VMaker} {row : Option Nat} (h : IsMakerS w a len cap xs) (hg : w.grownBy w' row) (hne : ∀ b o, a = some ⟨b, o, none⟩ → some b ≠ row) : IsMakerS w' a len cap xs := by
  refine ⟨h.1, h.2.1, h.2.2.1, ?_⟩
  rcases h.2.2.2 with h0 | ⟨b, o, rfl, h1, h2⟩
  · exact .inl h0
  · exact .inr ⟨b, o, rfl, Nat.lt_of_lt_of_le h1 hg.size, fun k s hs => (h2 k s hs).block (hg.block b h1 (hne b o rfl))⟩
theorem IsMakerS.at {w : World} {a : Option Addr} {len cap : Nat} {xs : List VMaker} (h : IsMakerS w a len cap xs) (hpos : 0 < len) : ∃ b o, a = some ⟨b, o, none⟩ ∧ b < w.heap.size ∧ ∀ (k : Nat) s, xs[k]? = some s → MakerAt w b (o + k * 5) s := by
  rcases h.2.2.2 with h0 | h1
  · omega
  · exact h1
theorem nil_IsMakerS (w : World) : IsMakerS w none 0 0 [] := ⟨rfl, Nat.le_refl _, by simp [maxLen], .inl rfl⟩
set_option maxRecDepth 100000 in
theorem open_Maker {H : Type} {enc : TypeId × Value → H} {w : World} {base : Nat} {spare : Nat → Bool} {held : Bool} {r : Reach} {b0 : Nat} {v : Value} {d : DataW H} {p : List MemPlace}
    (hv : Value.okWide Try.prog w r b0 39 v) (h : DataW.Trod enc Try.prog w base spare held 39 v d p) : ∃ s : VMaker, v = .agg #[.int .i64 s.Id, .string s.Name, .int .i64 s.From, .int .i64 s.Until, .int .i64 s.Heir] ∧ s.small := by
  obtain ⟨cs, rfl, hl, hc⟩ := open_one_struct (P := Try.prog) Try.underlying39 (by kernel_rfl) (by kernel_rfl) hv h
  obtain ⟨c0, h0, k0⟩ := hc 0 _ rfl
  obtain ⟨z0, rfl⟩ := k0.1 Try.underlying3
  obtain ⟨c1, h1, k1⟩ := hc 1 _ rfl
  obtain ⟨z1, rfl, l1⟩ := k1.2.1 Try.underlying9
  obtain ⟨c2, h2, k2⟩ := hc 2 _ rfl
  obtain ⟨z2, rfl⟩ := k2.1 Try.underlying3
  obtain ⟨c3, h3, k3⟩ := hc 3 _ rfl
  obtain ⟨z3, rfl⟩ := k3.1 Try.underlying3
  obtain ⟨c4, h4, k4⟩ := hc 4 _ rfl
  obtain ⟨z4, rfl⟩ := k4.1 Try.underlying3
  have e : cs = [.int .i64 z0, .string z1, .int .i64 z2, .int .i64 z3, .int .i64 z4] := by
    apply List.ext_getElem?
    intro j
    by_cases hj : j < 5
    · rcases (show j = 0 ∨ j = 1 ∨ j = 2 ∨ j = 3 ∨ j = 4 by omega) with rfl | rfl | rfl | rfl | rfl
      all_goals first | exact h0 | exact h1 | exact h2 | exact h3 | exact h4
    · rw [List.getElem?_eq_none (by simp at hl; omega), List.getElem?_eq_none (by simp; omega)]
  subst e
  exact ⟨⟨z0, z1, z2, z3, z4⟩, rfl, l1⟩
set_option maxRecDepth 100000 in
theorem open_MakerS {H : Type} {enc : TypeId × Value → H} {W : World} {base : Nat} {held : Bool} {a : Option Addr} {len cap : Nat} {d : DataW H} {p : List MemPlace}
    (h : DataW.Trod enc Try.prog W base (fun _ => true) held 45 (.slice a len cap) d p) : ∃ xs : List VMaker, IsMakerS W a len cap xs := by
  obtain ⟨fuel, hf⟩ := h
  rcases open_one_structs Try.underlying45 Try.underlying39 (by kernel_rfl) (by kernel_rfl) (by decide) hf with ⟨rfl, rfl, rfl⟩ | ⟨b, o, ha, hl, hm, hb, hc⟩
  · exact ⟨[], nil_IsMakerS W⟩
  · have each : ∀ i, i < len → ∃ s : VMaker, MakerAt W b (o + i * 5) s := by
      intro i hi
      obtain ⟨c0, h0, k0⟩ := hc i hi 0 _ rfl
      obtain ⟨z0, rfl⟩ := k0.1 Try.underlying3
      obtain ⟨c1, h1, k1⟩ := hc i hi 1 _ rfl
      obtain ⟨z1, rfl, l1⟩ := k1.2.1 Try.underlying9
      obtain ⟨c2, h2, k2⟩ := hc i hi 2 _ rfl
      obtain ⟨z2, rfl⟩ := k2.1 Try.underlying3
      obtain ⟨c3, h3, k3⟩ := hc i hi 3 _ rfl
      obtain ⟨z3, rfl⟩ := k3.1 Try.underlying3
      obtain ⟨c4, h4, k4⟩ := hc i hi 4 _ rfl
      obtain ⟨z4, rfl⟩ := k4.1 Try.underlying3
      exact ⟨⟨z0, z1, z2, z3, z4⟩, h0, h1, h2, h3, h4, l1⟩
    obtain ⟨pick, hpick⟩ := Classical.axiomOfChoice (r := fun (i : Fin len) (s : VMaker) => MakerAt W b (o + i.1 * 5) s) (fun i => each i.1 i.2)
    refine ⟨(List.finRange len).map pick, by simp, hl, hm, ?_⟩
    rcases ha with h0 | rfl
    · exact .inl h0
    · by_cases h0 : len = 0
      · exact .inl h0
      · refine .inr ⟨b, o, rfl, hb (by omega), fun k s hs => ?_⟩
        obtain ⟨hk, rfl⟩ := List.getElem?_eq_some_iff.1 hs
        have hk' : k < len := by simpa using hk
        have := hpick ⟨k, hk'⟩
        simpa using this
theorem infoMaker : (Try.prog.info? 42).map (fun i => (i.zero, i.size, i.bytes)) = some (some (.agg #[.int .i64 0, .string ByteArray.empty, .int .i64 0, .int .i64 0, .int .i64 0]), 5, 48) := by kernel_rfl
def cellsMaker (xs : List VMaker) : List Value := xs.flatMap VMaker.vals
theorem cellsMaker_len (xs : List VMaker) : (cellsMaker xs).length = xs.length * 5 := by
  induction xs with
  | nil => rfl
  | cons x xs ih => simp [cellsMaker, VMaker.vals_len] at *; omega
theorem cellsMaker_append (xs ys : List VMaker) : cellsMaker (xs ++ ys) = cellsMaker xs ++ cellsMaker ys := by simp [cellsMaker]
theorem cellsMaker_snoc (xs : List VMaker) (s : VMaker) : cellsMaker (xs ++ [s]) = cellsMaker xs ++ s.vals := by simp [cellsMaker]
theorem cellsMaker_at {xs : List VMaker} {k : Nat} {s : VMaker} (h : xs[k]? = some s) (j : Nat) (hj : j < 5) : (cellsMaker xs)[k * 5 + j]? = s.vals[j]? := by
  have hk : k < xs.length := (List.getElem?_eq_some_iff.1 h).1
  have e : xs = xs.take k ++ s :: xs.drop (k + 1) := by
    have h2 := List.take_append_drop k xs
    rw [List.drop_eq_getElem_cons hk] at h2
    have : xs[k] = s := by rw [List.getElem?_eq_getElem hk] at h; simpa using h
    rw [this] at h2; exact h2.symm
  have hl : (cellsMaker (xs.take k)).length = k * 5 := by rw [cellsMaker_len, List.length_take]; omega
  rw [e, show cellsMaker (xs.take k ++ s :: xs.drop (k + 1)) = cellsMaker (xs.take k) ++ (s.vals ++ cellsMaker (xs.drop (k + 1))) from by simp [cellsMaker], List.getElem?_append_right (by omega), hl, show k * 5 + j - k * 5 = j from by omega, List.getElem?_append_left (by rw [VMaker.vals_len]; exact hj)]
theorem isMakerS_own {w : World} {base : Nat} {v : Value} {xs : List VMaker} (h : w.ownsRow base 42 5 v xs.length (cellsMaker xs)) (hsm : ∀ s ∈ xs, s.small) :
    ∃ a cap, v = .slice a xs.length cap ∧ IsMakerS w a xs.length cap xs ∧ ∀ b o, a = some ⟨b, o, none⟩ → v.ownBlock = some b := by
  have hlt := h.lt
  rcases h.2 with ⟨rfl, h0⟩ | ⟨g, cap, cur, rfl, hg, hh, hn, hcap, hsz, htake⟩
  · exact ⟨none, 0, by rw [h0], ⟨by rw [h0], by omega, by simp [maxLen], .inl h0⟩, fun _ _ h => by cases h⟩
  · refine ⟨some ⟨g, 0, none⟩, cap, rfl, ⟨rfl, hn, hcap, ?_⟩, fun b o h => by cases h; rfl⟩
    by_cases hz : xs.length = 0
    · exact .inl hz
    · refine .inr ⟨g, 0, rfl, (hlt g rfl).2, fun k s hs => ?_⟩
      have each : ∀ j u, j < 5 → s.vals[j]? = some u → w.cell? ⟨g, 0 + k * 5 + j, none⟩ = some u := fun j u hj hu => by
        have hc := h.cells (g := g) rfl (k * 5 + j) u ((cellsMaker_at hs j hj).trans hu)
        rw [add_plain, ← Nat.add_assoc] at hc; exact hc
      exact ⟨each 0 _ (by decide) rfl, each 1 _ (by decide) rfl, each 2 _ (by decide) rfl, each 3 _ (by decide) rfl, each 4 _ (by decide) rfl, hsm s (List.mem_of_getElem? hs)⟩
theorem nil_ownMaker (w : World) (base : Nat) : w.ownsRow base 42 5 (.slice none 0 0) ([] : List VMaker).length (cellsMaker []) := ⟨by simp [cellsMaker], .inl ⟨rfl, rfl⟩⟩
theorem cell_Maker (w : World) (s : VMaker) (t : TypeId) : ∀ j u, s.vals[j]? = some u → (w.alloc (.cells #[.int .i64 s.Id, .string s.Name, .int .i64 s.From, .int .i64 s.Until, .int .i64 s.Heir] t)).cell? ((⟨w.heap.size, 0, none⟩ : Addr).add j) = some u := by
  intro j u hj
  rw [add_plain, Nat.zero_add, World.cell?_alloc_new]
  simpa [VMaker.vals] using hj
theorem cell_Maker2 (w : World) (o : Obj) (s : VMaker) (t : TypeId) : ∀ j u, s.vals[j]? = some u → ((w.alloc o).alloc (.cells #[.int .i64 s.Id, .string s.Name, .int .i64 s.From, .int .i64 s.Until, .int .i64 s.Heir] t)).cell? ((⟨w.heap.size + 1, 0, none⟩ : Addr).add j) = some u := by
  have h := cell_Maker (w.alloc o) s t
  rw [show (w.alloc o).heap.size = w.heap.size + 1 from by show (w.heap.push o).size = _; simp] at h
  exact h
/-- What is left of a row of the call's own when it is cut behind some elements. -/
theorem take_ownMaker {w : World} {base : Nat} {a : Option Addr} {cap k : Nat} {xs : List VMaker} (h : w.ownsRow base 42 5 (.slice a xs.length cap) xs.length (cellsMaker xs)) (hk : k ≤ xs.length) :
    w.ownsRow base 42 5 (.slice a k cap) k (cellsMaker (xs.take k)) := by
  have hl : (cellsMaker (xs.take k)).length = k * 5 := by rw [cellsMaker_len, List.length_take]; omega
  refine ⟨hl, ?_⟩
  rcases h.2 with ⟨h0, h1⟩ | ⟨g, cap', cur, e, hg, hh, hn, hcap, hsz, htake⟩
  · simp only [Value.slice.injEq] at h0
    obtain ⟨rfl, h2, rfl⟩ := h0
    exact .inl ⟨by rw [show k = 0 by omega], by omega⟩
  · cases e
    refine .inr ⟨g, cap, cur, rfl, hg, hh, by omega, hcap, hsz, ?_⟩
    have e2 : cellsMaker xs = cellsMaker (xs.take k) ++ cellsMaker (xs.drop k) := by
      unfold cellsMaker
      rw [← List.flatMap_append, List.take_append_drop]
    have h3 := congrArg (List.take (k * 5)) htake
    rw [List.take_take, Nat.min_eq_left (by have := Nat.mul_le_mul_right 5 hk; omega), e2, List.take_append_of_le_length (by omega), List.take_of_length_le (show (cellsMaker (xs.take k)).length ≤ k * 5 by omega)] at h3
    exact h3
/-- A slice of them, as what is appended. -/
theorem srcMaker {w : World} {a : Option Addr} {len cap : Nat} {xs : List VMaker} (h : IsMakerS w a len cap xs) : SrcAt w a len 5 (cellsMaker xs) := by
  refine ⟨by rw [cellsMaker_len, h.1], ?_⟩
  rcases h.2.2.2 with h0 | ⟨b, o, rfl, hb, hat⟩
  · exact .inl h0
  · refine .inr ⟨_, rfl, fun j u hj => ?_⟩
    rw [add_plain]
    have hl := (List.getElem?_eq_some_iff.1 hj).1
    rw [cellsMaker_len] at hl
    obtain ⟨k, r, rfl, hr⟩ : ∃ k r, j = k * 5 + r ∧ r < 5 := ⟨j / 5, j % 5, by omega, Nat.mod_lt _ (by decide)⟩
    have hk : k < xs.length := by omega
    have hs : xs[k]? = some xs[k] := List.getElem?_eq_getElem hk
    have hu := cellsMaker_at hs r hr
    rw [hj] at hu
    have ha := hat k _ hs
    rw [← Nat.add_assoc]
    rcases (show r = 0 ∨ r = 1 ∨ r = 2 ∨ r = 3 ∨ r = 4 by omega) with rfl | rfl | rfl | rfl | rfl
    · rw [hu]; exact ha.1
    · rw [hu]; exact ha.2.1
    · rw [hu]; exact ha.2.2.1
    · rw [hu]; exact ha.2.2.2.1
    · rw [hu]; exact ha.2.2.2.2.1
/-- Block b holds it, all of it, and may be written. -/
def HBMaker (w : World) (b : Nat) (s : VMaker) : Prop := w.heap[b]? = some (.cells #[.int .i64 s.Id, .string s.Name, .int .i64 s.From, .int .i64 s.Until, .int .i64 s.Heir] 42 (0, 0))
theorem HBMaker.lt {w : World} {b : Nat} {s : VMaker} (h : HBMaker w b s) : b < w.heap.size := (Array.getElem?_eq_some_iff.1 h).1
theorem HBMaker.new (w : World) (s : VMaker) (B : Nat) (hB : w.heap.size = B) : HBMaker (w.alloc (.cells #[.int .i64 s.Id, .string s.Name, .int .i64 s.From, .int .i64 s.Until, .int .i64 s.Heir] 42)) B s := hB ▸ heap_alloc_new w _
theorem HBMaker.below {w w' : World} {b : Nat} {s : VMaker} (h : HBMaker w b s) (hb : Below w.heap.size w w') : HBMaker w' b s := (hb.block b h.lt).trans h
theorem HBMaker.grown {w w' : World} {b : Nat} {s : VMaker} {row : Option Nat} (h : HBMaker w b s) (hg : w.grownBy w' row) (hne : some b ≠ row) : HBMaker w' b s := (hg.block b h.lt hne).trans h
theorem HBMaker.drew {w : World} {b : Nat} {s : VMaker} (h : HBMaker w b s) : HBMaker w.drew b s := h
theorem HBMaker.alloc {w : World} {b : Nat} {s : VMaker} (h : HBMaker w b s) (o : Obj) : HBMaker (w.alloc o) b s := (Below.heap_alloc w o b h.lt).trans h
theorem HBMaker.other {w : World} {b b' j : Nat} {s : VMaker} (h : HBMaker w b s) (hne : b ≠ b') (u : Value) : HBMaker (w.setCell ⟨b', j, none⟩ u) b s := (heap_setCell_other w ⟨b', j, none⟩ b u hne).trans h
theorem HBMaker.cells {w : World} {b : Nat} {s : VMaker} (h : HBMaker w b s) : w.cell? ⟨b, 0, none⟩ = some (.int .i64 s.Id) ∧ w.cell? ⟨b, 1, none⟩ = some (.string s.Name) ∧ w.cell? ⟨b, 2, none⟩ = some (.int .i64 s.From) ∧ w.cell? ⟨b, 3, none⟩ = some (.int .i64 s.Until) ∧ w.cell? ⟨b, 4, none⟩ = some (.int .i64 s.Heir) := by
  unfold HBMaker at h
  refine ⟨?_, ?_, ?_, ?_, ?_⟩ <;> simp [World.cell?, h]
theorem HBMaker.free {w : World} {b : Nat} {s : VMaker} (h : HBMaker w b s) (j : Nat) : w.frozen? ⟨b, j, none⟩ = false := by
  unfold HBMaker at h
  simp [World.frozen?, h]
theorem HBMaker.set0 {w : World} {b : Nat} {s : VMaker} (h : HBMaker w b s) (v : Int) : HBMaker (w.setCell ⟨b, 0, none⟩ (.int .i64 v)) b ⟨v, s.Name, s.From, s.Until, s.Heir⟩ := heap_setCell_same w b 0 _ _ _ h
theorem HBMaker.set1 {w : World} {b : Nat} {s : VMaker} (h : HBMaker w b s) (v : ByteArray) : HBMaker (w.setCell ⟨b, 1, none⟩ (.string v)) b ⟨s.Id, v, s.From, s.Until, s.Heir⟩ := heap_setCell_same w b 1 _ _ _ h
theorem HBMaker.set2 {w : World} {b : Nat} {s : VMaker} (h : HBMaker w b s) (v : Int) : HBMaker (w.setCell ⟨b, 2, none⟩ (.int .i64 v)) b ⟨s.Id, s.Name, v, s.Until, s.Heir⟩ := heap_setCell_same w b 2 _ _ _ h
theorem HBMaker.set3 {w : World} {b : Nat} {s : VMaker} (h : HBMaker w b s) (v : Int) : HBMaker (w.setCell ⟨b, 3, none⟩ (.int .i64 v)) b ⟨s.Id, s.Name, s.From, v, s.Heir⟩ := heap_setCell_same w b 3 _ _ _ h
theorem HBMaker.set4 {w : World} {b : Nat} {s : VMaker} (h : HBMaker w b s) (v : Int) : HBMaker (w.setCell ⟨b, 4, none⟩ (.int .i64 v)) b ⟨s.Id, s.Name, s.From, s.Until, v⟩ := heap_setCell_same w b 4 _ _ _ h
theorem HBMaker.setAll {w : World} {b : Nat} {s : VMaker} (h : HBMaker w b s) (t : VMaker) : HBMaker (((((w.setCell ⟨b, 0, none⟩ (.int .i64 t.Id)).setCell ⟨b, 1, none⟩ (.string t.Name)).setCell ⟨b, 2, none⟩ (.int .i64 t.From)).setCell ⟨b, 3, none⟩ (.int .i64 t.Until)).setCell ⟨b, 4, none⟩ (.int .i64 t.Heir)) b t :=
  (heap_setCell_same _ b 4 _ _ _ (heap_setCell_same _ b 3 _ _ _ (heap_setCell_same _ b 2 _ _ _ (heap_setCell_same _ b 1 _ _ _ (heap_setCell_same _ b 0 _ _ _ h)))))
theorem HBMaker.otherAll {w : World} {b b' : Nat} {s : VMaker} (h : HBMaker w b s) (hne : b ≠ b') (x0 x1 x2 x3 x4 : Value) : HBMaker (((((w.setCell ⟨b', 0, none⟩ x0).setCell ⟨b', 1, none⟩ x1).setCell ⟨b', 2, none⟩ x2).setCell ⟨b', 3, none⟩ x3).setCell ⟨b', 4, none⟩ x4) b s :=
  (((((h.other hne x0).other hne x1).other hne x2).other hne x3).other hne x4)
/-- It lies in the box b of some type. -/
def BoxMaker (w : World) (b : Nat) (s : VMaker) : Prop := w.cell? ⟨b, 0, none⟩ = some (.int .i64 s.Id) ∧ w.cell? ⟨b, 1, none⟩ = some (.string s.Name) ∧ w.cell? ⟨b, 2, none⟩ = some (.int .i64 s.From) ∧ w.cell? ⟨b, 3, none⟩ = some (.int .i64 s.Until) ∧ w.cell? ⟨b, 4, none⟩ = some (.int .i64 s.Heir)
theorem BoxMaker.new (w : World) (t : TypeId) (s : VMaker) (B : Nat) (hB : w.heap.size = B) : BoxMaker (w.alloc (.cells #[.int .i64 s.Id, .string s.Name, .int .i64 s.From, .int .i64 s.Until, .int .i64 s.Heir] t)) B s := by
  subst hB
  refine ⟨?_, ?_, ?_, ?_, ?_⟩ <;> simp [World.cell?_alloc_new]
theorem BoxMaker.lt {w : World} {b : Nat} {s : VMaker} (h : BoxMaker w b s) : b < w.heap.size := World.lt_of_cell h.1
theorem BoxMaker.below {w w' : World} {b : Nat} {s : VMaker} (h : BoxMaker w b s) (hb : Below w.heap.size w w') : BoxMaker w' b s :=
  ⟨(hb.cell (p := ⟨b, 0, none⟩) h.lt).trans h.1, (hb.cell (p := ⟨b, 1, none⟩) h.lt).trans h.2.1, (hb.cell (p := ⟨b, 2, none⟩) h.lt).trans h.2.2.1, (hb.cell (p := ⟨b, 3, none⟩) h.lt).trans h.2.2.2.1, (hb.cell (p := ⟨b, 4, none⟩) h.lt).trans h.2.2.2.2⟩
theorem BoxMaker.grown {w w' : World} {b : Nat} {s : VMaker} {row : Option Nat} (h : BoxMaker w b s) (hg : w.grownBy w' row) (hne : some b ≠ row) : BoxMaker w' b s :=
  ⟨(World.cell?_of_block (w := w) (a := ⟨b, 0, none⟩) (hg.block b h.lt hne)).trans h.1, (World.cell?_of_block (w := w) (a := ⟨b, 1, none⟩) (hg.block b h.lt hne)).trans h.2.1, (World.cell?_of_block (w := w) (a := ⟨b, 2, none⟩) (hg.block b h.lt hne)).trans h.2.2.1, (World.cell?_of_block (w := w) (a := ⟨b, 3, none⟩) (hg.block b h.lt hne)).trans h.2.2.2.1, (World.cell?_of_block (w := w) (a := ⟨b, 4, none⟩) (hg.block b h.lt hne)).trans h.2.2.2.2⟩
set_option maxHeartbeats 3200000 in
theorem toMaker_any (s : VMaker) (w : World) :
    Calls Try.prog 31 #[.agg #[.int .i64 s.Id, .string s.Name, .int .i64 s.From, .int .i64 s.Until, .int .i64 s.Heir]] w fun e w' => e = .returned (.agg #[.int .i64 s.Id, .string s.Name, .int .i64 s.From, .int .i64 s.Until, .int .i64 s.Heir]) ∧ Below w.heap.size w w' := by
  go_enter Try.func31, Try.ntmps31
  go_wp2
  refine bodyPost_ret (v := .agg #[.int .i64 s.Id, .string s.Name, .int .i64 s.From, .int .i64 s.Until, .int .i64 s.Heir]) (by simp [results, Try.results31, go_sem]) rfl ⟨rfl, ?_⟩
  repeat (first | exact Below.refl _ _ | refine Below.setCell ?_ (by simp; try omega) _ | refine Below.alloc ?_ (by simp; try omega) _)
set_option maxHeartbeats 3200000 in
theorem eqMaker_yes (s : VMaker) (w : World) :
    Calls Try.prog 75 #[.agg #[.int .i64 s.Id, .string s.Name, .int .i64 s.From, .int .i64 s.Until, .int .i64 s.Heir], .agg #[.int .i64 s.Id, .string s.Name, .int .i64 s.From, .int .i64 s.Until, .int .i64 s.Heir]] w fun e w' => e = .returned (.bool true) ∧ Below w.heap.size w w' := by
  go_enter Try.func75, Try.ntmps75
  go_wp2
  go_ret
  exact ⟨rfl, by repeat (first | exact Below.refl _ _ | refine Below.alloc ?_ (by simp; try omega) _)⟩
def zerosMaker (n : Nat) : List Value := (List.replicate n [.int .i64 0, .string ByteArray.empty, .int .i64 0, .int .i64 0, .int .i64 0]).flatten
theorem zerosMaker_succ (n : Nat) : zerosMaker (n + 1) = .int .i64 0 :: .string ByteArray.empty :: .int .i64 0 :: .int .i64 0 :: .int .i64 0 :: zerosMaker n := by
  unfold zerosMaker; rw [List.replicate_succ]; rfl
theorem zerosMaker_len (n : Nat) : (zerosMaker n).length = n * 5 := by
  induction n with
  | zero => rfl
  | succ n ih => rw [zerosMaker_succ]; simp [ih]; omega
theorem zerosMaker_at (n j : Nat) (h : j < n * 5) : (zerosMaker n)[j]? = [.int .i64 0, .string ByteArray.empty, .int .i64 0, .int .i64 0, .int .i64 0][j % 5]? := by
  induction n generalizing j with
  | zero => omega
  | succ n ih =>
    rw [zerosMaker_succ]
    by_cases hj : j < 5
    · rw [Nat.mod_eq_of_lt hj]
      rcases (show j = 0 ∨ j = 1 ∨ j = 2 ∨ j = 3 ∨ j = 4 by omega) with rfl | rfl | rfl | rfl | rfl <;> rfl
    · obtain ⟨i, rfl⟩ : ∃ i, j = i + 5 := ⟨j - 5, by omega⟩
      rw [Nat.add_mod_right, ← ih i (by omega)]
      rfl
theorem madeMaker (n : Nat) : (madeCells (.agg #[.int .i64 0, .string ByteArray.empty, .int .i64 0, .int .i64 0, .int .i64 0] : Value).cells (n * 5)).toList = zerosMaker n := by
  apply List.ext_getElem?
  intro j
  rw [Array.getElem?_toList]
  by_cases h : j < n * 5
  · rw [zerosMaker_at n j h]
    have hm : j % 5 < 5 := Nat.mod_lt _ (by decide)
    simp only [madeCells, Value.cells]
    rw [Array.getElem?_eq_getElem (by simpa using h)]
    rcases (show j % 5 = 0 ∨ j % 5 = 1 ∨ j % 5 = 2 ∨ j % 5 = 3 ∨ j % 5 = 4 by omega) with e | e | e | e | e <;> simp [e]
  · rw [List.getElem?_eq_none (by rw [zerosMaker_len]; omega)]
    simp [madeCells, h]
theorem setMaker (A L : List Value) (v0 v1 v2 v3 v4 : Value) (o : Nat) (hA : A.length = o) (hL : o + 5 ≤ L.length) :
    ((((((A ++ L.drop o).set (o) v0).set (o + 1) v1).set (o + 2) v2).set (o + 3) v3).set (o + 4) v4) = A ++ v0 :: v1 :: v2 :: v3 :: v4 :: L.drop (o + 5) := by
  subst hA
  obtain ⟨a0, a1, a2, a3, a4, e⟩ : ∃ a0 a1 a2 a3 a4, L.drop A.length = a0 :: a1 :: a2 :: a3 :: a4 :: L.drop (A.length + 5) := ⟨_, _, _, _, _, by rw [List.drop_eq_getElem_cons (show A.length < L.length by omega), List.drop_eq_getElem_cons (show A.length + 1 < L.length by omega), List.drop_eq_getElem_cons (show A.length + 2 < L.length by omega), List.drop_eq_getElem_cons (show A.length + 3 < L.length by omega), List.drop_eq_getElem_cons (show A.length + 4 < L.length by omega)]⟩
  rw [e]
  generalize L.drop (A.length + 5) = D
  simp [List.set_append_right]
theorem storedMaker {w : World} {base n c g o : Nat} {e : TypeId} {size : Nat} {A L : List Value} (h : w.ownsRow base e size (.slice (some ⟨g, 0, none⟩) n c) n (A ++ L.drop o)) (hA : A.length = o) (hL : o + 5 ≤ L.length) (v0 v1 v2 v3 v4 : Value) :
    (((((w.setCell ⟨g, o, none⟩ v0).setCell ⟨g, o + 1, none⟩ v1).setCell ⟨g, o + 2, none⟩ v2).setCell ⟨g, o + 3, none⟩ v3).setCell ⟨g, o + 4, none⟩ v4).ownsRow base e size (.slice (some ⟨g, 0, none⟩) n c) n (A ++ v0 :: v1 :: v2 :: v3 :: v4 :: L.drop (o + 5)) ∧ w.grownBy (((((w.setCell ⟨g, o, none⟩ v0).setCell ⟨g, o + 1, none⟩ v1).setCell ⟨g, o + 2, none⟩ v2).setCell ⟨g, o + 3, none⟩ v3).setCell ⟨g, o + 4, none⟩ v4) (some g) := by
  have h0 := h.stored (o) v0
  have h1 := h0.1.stored (o + 1) v1
  have h2 := h1.1.stored (o + 2) v2
  have h3 := h2.1.stored (o + 3) v3
  have h4 := h3.1.stored (o + 4) v4
  refine ⟨?_, (grown_trans (grown_trans (grown_trans (grown_trans h0.2 h1.2) h2.2) h3.2) h4.2)⟩
  have := h4.1
  rw [setMaker A L v0 v1 v2 v3 v4 o hA hL] at this
  exact this
/-- A row of the call's own, and the world below as it was. -/
def MakerRow (xs : List VMaker) (w : World) (e : Ending) (w' : World) : Prop := ∃ v, e = .returned v ∧ w'.ownsRow w.heap.size 42 5 v xs.length (cellsMaker xs) ∧ Below w.heap.size w w'
theorem cellsMaker_drop (xs : List VMaker) (i : Nat) : (cellsMaker xs).drop (i * 5) = cellsMaker (xs.drop i) := by
  by_cases h : i ≤ xs.length
  · have e : cellsMaker xs = cellsMaker (xs.take i) ++ cellsMaker (xs.drop i) := by
      unfold cellsMaker
      rw [← List.flatMap_append, List.take_append_drop]
    have hl : (cellsMaker (xs.take i)).length = i * 5 := by rw [cellsMaker_len, List.length_take]; omega
    rw [e, List.drop_append_of_le_length (by omega), List.drop_of_length_le (by omega), List.nil_append]
  · rw [List.drop_of_length_le (show xs.length ≤ i by omega), List.drop_of_length_le (by rw [cellsMaker_len]; omega)]; rfl
theorem cellsMaker_take (xs : List VMaker) (i : Nat) : cellsMaker xs = cellsMaker (xs.take i) ++ (cellsMaker xs).drop (i * 5) := by
  rw [cellsMaker_drop]
  unfold cellsMaker
  rw [← List.flatMap_append, List.take_append_drop]
theorem cellsMaker_set (xs : List VMaker) (i : Nat) (r : VMaker) (h : i < xs.length) : cellsMaker (xs.set i r) = cellsMaker (xs.take i) ++ (r.vals ++ (cellsMaker xs).drop (i * 5 + 5)) := by
  rw [List.set_eq_take_append_cons_drop, if_pos h, show i * 5 + 5 = (i + 1) * 5 by omega, cellsMaker_drop]
  simp [cellsMaker]
/-- An element of a row of the call's own is replaced. -/
theorem own_setMaker {w : World} {base m c g i : Nat} {xs : List VMaker} (h : w.ownsRow base 42 5 (.slice (some ⟨g, 0, none⟩) m c) m (cellsMaker xs)) (hi : i < xs.length) (r : VMaker) :
    (((((w.setCell ⟨g, i * 5, none⟩ (.int .i64 r.Id)).setCell ⟨g, i * 5 + 1, none⟩ (.string r.Name)).setCell ⟨g, i * 5 + 2, none⟩ (.int .i64 r.From)).setCell ⟨g, i * 5 + 3, none⟩ (.int .i64 r.Until)).setCell ⟨g, i * 5 + 4, none⟩ (.int .i64 r.Heir)).ownsRow base 42 5 (.slice (some ⟨g, 0, none⟩) m c) m (cellsMaker (xs.set i r)) ∧ w.grownBy (((((w.setCell ⟨g, i * 5, none⟩ (.int .i64 r.Id)).setCell ⟨g, i * 5 + 1, none⟩ (.string r.Name)).setCell ⟨g, i * 5 + 2, none⟩ (.int .i64 r.From)).setCell ⟨g, i * 5 + 3, none⟩ (.int .i64 r.Until)).setCell ⟨g, i * 5 + 4, none⟩ (.int .i64 r.Heir)) (some g) := by
  rw [cellsMaker_set xs i r hi]
  rw [cellsMaker_take xs i] at h
  exact storedMaker h (by rw [cellsMaker_len, List.length_take]; omega) (by rw [cellsMaker_len]; omega) (.int .i64 r.Id) (.string r.Name) (.int .i64 r.From) (.int .i64 r.Until) (.int .i64 r.Heir)
set_option maxHeartbeats 3200000 in
set_option maxRecDepth 100000 in
theorem toMakerS_any (a : Option Addr) (len cap : Nat) (xs : List VMaker) (w : World) (h : IsMakerS w a len cap xs) (hsz : len ≤ 1048576) :
    Calls Try.prog 35 #[.slice a len cap] w (MakerRow xs w) := by
  obtain rfl := h.1
  obtain ⟨i0, hi, hz0, hz1, hz2⟩ := info_parts infoMaker
  have S := Lib.hid h
  clear h
  go_enter Try.func35, Try.ntmps35
  go_wp2_with (refine wpList_make_full _ rfl _ _ 24 rfl w.heap.size 42 i0 (.agg #[.int .i64 0, .string ByteArray.empty, .int .i64 0, .int .i64 0, .int .i64 0]) 5 Try.underlying24 hi hz0 hz1 .i64 .i64 _ _ xs.length rfl rfl rfl rfl (by rw [hz2]; omega) (by unfold maxLen; omega) (Nat.le_refl _) ?_; intro w1 hown hgrow)
  have hb1 : Below w.heap.size w w1 := (Below.refl _ _).grown hgrow (Nat.le_refl _) (fun k e => by cases e)
  have H1 := Lib.hid hown
  have hg1 := (hown.lt w.heap.size rfl).2
  clear hown hgrow
  go_loopw [4] (fun i wr => ∃ k : Nat, k ≤ xs.length ∧ i = .int .i64 k ∧ Below w.heap.size w wr ∧ wr.ownsRow w.heap.size 42 5 (.slice (some ⟨w.heap.size, 0, none⟩) xs.length xs.length) xs.length (cellsMaker (xs.take k) ++ (zerosMaker xs.length).drop (k * 5))) (fun i _ => xs.length - (intOf i).toNat)
  case atStart => exact ⟨0, Nat.zero_le _, rfl, hb1, by have h := H1.out; rw [madeMaker] at h; simpa [cellsMaker] using h⟩
  case round =>
    obtain ⟨k, hk, rfl, hbel, hown⟩ := hrel
    have O := Lib.hid hown
    have B := Lib.hid hbel
    by_cases hlt : k < xs.length
    · obtain ⟨s, hs⟩ : ∃ s, xs[k]? = some s := ⟨xs[k]'hlt, List.getElem?_eq_getElem _⟩
      obtain ⟨b, o, rfl, hb, hat⟩ := (S.out.below hbel).at (by omega)
      obtain ⟨c0, c1, c2, c3, c4, _⟩ := hat k s hs
      have K := Lib.hid hs
      have hm := S.out.2.2.1
      unfold maxLen at hm
      clear hown hbel hs hat
      go_wp2_with fail
      refine (toMaker_any s _).mono ?_
      rintro e w2 ⟨rfl, hb2⟩
      have O2 := Lib.hid (ownsRow_below O.out hb2)
      have B2 := Lib.hid (Below.then' B.out hb2)
      clear hb2 c0 c1 c2 c3 c4
      have f0 := O2.out.frozenAt (k * 5)
      have f1 := O2.out.frozenAt (k * 5 + 1)
      have f2 := O2.out.frozenAt (k * 5 + 2)
      have f3 := O2.out.frozenAt (k * 5 + 3)
      have f4 := O2.out.frozenAt (k * 5 + 4)
      obtain ⟨u0, d0⟩ := own_cell O2.out (k * 5) (by rw [List.length_append, cellsMaker_len, List.length_take, List.length_drop, zerosMaker_len]; omega)
      obtain ⟨u1, d1⟩ := own_cell O2.out (k * 5 + 1) (by rw [List.length_append, cellsMaker_len, List.length_take, List.length_drop, zerosMaker_len]; omega)
      obtain ⟨u2, d2⟩ := own_cell O2.out (k * 5 + 2) (by rw [List.length_append, cellsMaker_len, List.length_take, List.length_drop, zerosMaker_len]; omega)
      obtain ⟨u3, d3⟩ := own_cell O2.out (k * 5 + 3) (by rw [List.length_append, cellsMaker_len, List.length_take, List.length_drop, zerosMaker_len]; omega)
      obtain ⟨u4, d4⟩ := own_cell O2.out (k * 5 + 4) (by rw [List.length_append, cellsMaker_len, List.length_take, List.length_drop, zerosMaker_len]; omega)
      go_wp2
      go_roundw
      case rel =>
        have h5 := storedMaker O2.out (by rw [cellsMaker_len, List.length_take]; omega) (by rw [zerosMaker_len]; omega) (.int .i64 s.Id) (.string s.Name) (.int .i64 s.From) (.int .i64 s.Until) (.int .i64 s.Heir)
        refine ⟨k + 1, by omega, by go_num, B2.out.grown h5.2 B2.out.size (fun j e => by cases e; exact Nat.le_refl _), ?_⟩
        rw [List.take_add_one, K.out, show (some s).toList = [s] from rfl, cellsMaker_snoc, List.append_assoc, show (k + 1) * 5 = k * 5 + 5 by omega]
        exact h5.1
      case measure => simp [intOf]; omega
    · obtain rfl : k = xs.length := by omega
      clear hown hbel
      have hm := S.out.2.2.1
      unfold maxLen at hm
      go_wp2
      go_ret
      refine ⟨_, rfl, ?_, B.out⟩
      have h := O.out
      rw [List.drop_of_length_le (by rw [zerosMaker_len]; omega), List.append_nil, List.take_of_length_le (Nat.le_refl _)] at h
      exact h
set_option maxHeartbeats 3200000 in
set_option maxRecDepth 100000 in
theorem eqMakerS_yes (a : Option Addr) (len cap : Nat) (a' : Option Addr) (len' cap' : Nat) (xs : List VMaker) (w : World) (h : IsMakerS w a len cap xs) (h' : IsMakerS w a' len' cap' xs) :
    Calls Try.prog 37 #[.slice a len cap, .slice a' len' cap'] w fun e w' => e = .returned (.bool true) ∧ Below w.heap.size w w' := by
  obtain rfl := h.1
  obtain rfl := h'.1
  have hm := h.2.2.1
  have hcl := h.2.1
  unfold maxLen at hm
  have S := Lib.hid h
  have S' := Lib.hid h'
  clear h h'
  go_enter Try.func37, Try.ntmps37
  go_wp2
  go_loopw [5] (fun i wr => ∃ k : Nat, k ≤ xs.length ∧ i = .int .i64 k ∧ Below w.heap.size w wr) (fun i _ => xs.length - (intOf i).toNat)
  case atStart => exact ⟨0, Nat.zero_le _, rfl, Below.refl _ _⟩
  case round =>
    obtain ⟨k, hk, rfl, hbel⟩ := hrel
    have B := Lib.hid hbel
    by_cases hlt : k < xs.length
    · obtain ⟨s, hs⟩ : ∃ s, xs[k]? = some s := ⟨xs[k]'hlt, List.getElem?_eq_getElem _⟩
      obtain ⟨b, o, rfl, hb, hat⟩ := (S.out.below hbel).at (by omega)
      obtain ⟨b', o', rfl, hb', hat'⟩ := (S'.out.below hbel).at (by omega)
      obtain ⟨c0, c1, c2, c3, c4, _⟩ := hat k s hs
      obtain ⟨d0, d1, d2, d3, d4, _⟩ := hat' k s hs
      have hi0 : (0 : Int) ≤ (k : Int) := by omega
      have hi1 : (k : Int) < (xs.length : Int) := by omega
      clear hbel hs hat hat'
      go_wp2
      go_region_with (go_at_call 75; refine (eqMaker_yes s _).mono ?_; rintro e w1 ⟨rfl, hb1⟩; have B1 := Lib.hid (Below.then' (bel_drew' B.out) hb1); clear hb1)
      all_goals go_wp2
      all_goals go_roundw
      all_goals first
        | exact ⟨k + 1, by omega, by go_num, B1.out⟩
        | (simp [intOf]; omega)
    · obtain rfl : k = xs.length := by omega
      clear hbel
      go_wp2
      go_ret
      exact ⟨rfl, B.out⟩
def VMaker.sized (s : VMaker) : Prop := s.Name.size ≤ 1048576
theorem sized_smallMaker (s : VMaker) (h : s.sized) : s.small := by unfold VMaker.sized at h; unfold VMaker.small; unfold maxLen; omega
set_option maxHeartbeats 800000 in
theorem szMaker_any (s : VMaker) (left : Int) (w : World) (hs : s.small) (h0 : 0 ≤ left) (h1 : left ≤ 1048576) :
    Calls Try.prog 29 #[.agg #[.int .i64 s.Id, .string s.Name, .int .i64 s.From, .int .i64 s.Until, .int .i64 s.Heir], .int .i64 left] w fun e w' => ∃ z : Int, e = .returned (.int .i64 z) ∧ z ≤ left ∧ (0 ≤ z → s.sized) ∧ Below w.heap.size w w' := by
  have hs0 : s.Name.size ≤ maxLen := hs
  unfold maxLen at hs0
  go_enter Try.func29, Try.ntmps29
  go_wp2
  all_goals go_ret
  all_goals exact ⟨_, rfl, by omega, fun hz => by unfold VMaker.sized; omega, (Below.refl _ _).alloc (Nat.le_refl _) _⟩
set_option maxHeartbeats 1600000 in
theorem szMakerS_any (a : Option Addr) (len cap : Nat) (xs : List VMaker) (left : Int) (w : World) (h : IsMakerS w a len cap xs) (h0 : 0 ≤ left) (h1 : left ≤ 1048576) :
    Calls Try.prog 33 #[.slice a len cap, .int .i64 left] w fun e w' => ∃ z : Int, e = .returned (.int .i64 z) ∧ z ≤ left ∧ (0 ≤ z → len ≤ 1048576 ∧ ∀ s ∈ xs, s.sized) ∧ Below w.heap.size w w' := by
  obtain rfl := h.1
  have hm := h.2.2.1
  have hcl := h.2.1
  unfold maxLen at hm
  have S := Lib.hid h
  clear h
  by_cases hlt : left < (xs.length : Int)
  · have hn : left - (xs.length : Int) < 0 := by omega
    go_enter Try.func33, Try.ntmps33
    go_wp2
    go_ret
    exact ⟨-1, rfl, by omega, by omega, Below.refl _ _⟩
  · have hn : ¬ left - (xs.length : Int) < 0 := by omega
    have hn2 : 0 ≤ left - (xs.length : Int) := by omega
    obtain ⟨l0, hl0⟩ : ∃ l0, left - (xs.length : Int) = l0 := ⟨_, rfl⟩
    have b0 : 0 ≤ l0 := by omega
    have b1 : l0 ≤ left := by omega
    have L0 := Lib.hid hl0
    clear hl0
    go_enter Try.func33, Try.ntmps33
    go_wp2
    go_loopw [1, 5] (fun l i wr => ∃ (k : Nat) (y : Int), k ≤ xs.length ∧ i = .int .i64 k ∧ l = .int .i64 y ∧ 0 ≤ y ∧ y ≤ left ∧ (∀ j s, j < k → xs[j]? = some s → s.sized) ∧ Below w.heap.size w wr) (fun _ i _ => xs.length - (intOf i).toNat)
    case atStart => exact ⟨0, l0, Nat.zero_le _, rfl, by rw [L0.out], b0, b1, fun _ _ h => by omega, Below.refl _ _⟩
    case round =>
      obtain ⟨k, y, hk, rfl, rfl, y0, y1, hsz, hbel⟩ := hrel
      have SZ := Lib.hid hsz
      have B := Lib.hid hbel
      by_cases hlt2 : k < xs.length
      · obtain ⟨s, hs⟩ : ∃ s, xs[k]? = some s := ⟨xs[k]'hlt2, List.getElem?_eq_getElem _⟩
        obtain ⟨b, o, rfl, hb, hat⟩ := (S.out.below hbel).at (by omega)
        obtain ⟨c0, c1, c2, c3, c4, hsm⟩ := hat k s hs
        have HS := Lib.hid hs
        have hi0 : (0 : Int) ≤ (k : Int) := by omega
        have hi1 : (k : Int) < (xs.length : Int) := by omega
        clear hbel hs hat hsz
        go_wp2_with fail
        refine (szMaker_any s y _ hsm y0 (by omega)).mono ?_
        rintro e w2 ⟨z, rfl, z1, z2, hb2⟩
        have B2 := Lib.hid (Below.then' B.out hb2)
        have Z2 := Lib.hid z2
        clear hb2 z2
        by_cases hz : z < 0
        · go_wp2
          go_ret
          exact ⟨-1, rfl, by omega, by omega, B2.out⟩
        · go_wp2
          go_roundw
          case rel => exact ⟨k + 1, z, by omega, by go_num, rfl, by omega, by omega, fun j t hj ht => by
            by_cases e : j = k
            · subst e; rw [HS.out] at ht; cases ht; exact Z2.out (by omega)
            · exact SZ.out j t (by omega) ht, B2.out⟩
          case measure => simp [intOf]; omega
      · obtain rfl : k = xs.length := by omega
        clear hbel hsz
        go_wp2
        go_ret
        exact ⟨y, rfl, by omega, fun _ => ⟨by omega, fun s hs => by
          obtain ⟨j, hj⟩ := List.getElem?_of_mem hs
          exact SZ.out j s (List.getElem?_eq_some_iff.1 hj).1 hj⟩, B.out⟩
/-- The marks from b on, and n of them. -/
def markMaker (b : Nat) : VMaker := ⟨((b : Nat) : Int), markOf (b + 1), ((b + 2 : Nat) : Int), ((b + 3 : Nat) : Int), ((b + 4 : Nat) : Int)⟩
def marksMaker (k n : Nat) : List VMaker := (List.range n).map fun i => markMaker (k + i * 5)
theorem marksMaker_len (k n : Nat) : (marksMaker k n).length = n := by simp [marksMaker]
theorem marksMaker_succ (k n : Nat) : marksMaker k (n + 1) = marksMaker k n ++ [markMaker (k + n * 5)] := by simp [marksMaker, List.range_succ]
theorem marksMaker_at (k n i : Nat) (h : i < n) : (marksMaker k n)[i]? = some (markMaker (k + i * 5)) := by simp [marksMaker, h]
def MakerMarked (base k n : Nat) (v : Value) (w : World) (e : Ending) (w' : World) : Prop := e = .returned (.int .i64 ((k + n * 5 : Nat) : Int)) ∧ w'.ownsRow base 42 5 v n (cellsMaker (marksMaker k n)) ∧ w.grownBy w' v.ownBlock
theorem markMaker_small (b : Nat) (h : b + 5 ≤ 100000000) : (markMaker b).small := markOf_size _ (by omega)
theorem marksMaker_small (k n : Nat) (h : k + n * 5 + 5 ≤ 100000000) : ∀ s ∈ marksMaker k n, s.small := by
  intro s hs
  obtain ⟨i, hi⟩ := List.getElem?_of_mem hs
  have hlt := (List.getElem?_eq_some_iff.1 hi).1
  rw [marksMaker_len] at hlt
  rw [marksMaker_at k n i hlt] at hi
  cases hi
  exact markMaker_small _ (by have := Nat.mul_le_mul_right 5 (Nat.le_of_lt hlt); omega)
set_option maxHeartbeats 3200000 in
set_option maxRecDepth 100000 in
theorem markMakerS_any (base : Nat) (v : Value) (n k : Nat) (L : List Value) (w : World) (hown : w.ownsRow base 42 5 v n L) (hk1 : 1 ≤ k) (hk : k ≤ 1000000) (hn : n ≤ 1048576) :
    Calls Try.prog 39 #[v, .int .i64 (k : Int)] w (MakerMarked base k n v w) := by
  have hlen : L.length = n * 5 := by have := hown.1; omega
  rcases hown.2 with ⟨rfl, rfl⟩ | ⟨g, cap, cur, rfl, hg, hh, hncap, hcap, _⟩
  · have hL : L = [] := List.length_eq_zero_iff.1 (by omega)
    subst hL
    have H := Lib.hid hown
    clear hown
    go_enter Try.func39, Try.ntmps39
    go_wp2
    refine wp_loop_rounds 1 ?_
    rw [rounds_succ]
    go_wp2
    go_ret
    exact ⟨rfl, H.out, World.grownBy.refl _ _⟩
  clear hh
  have H := Lib.hid hown
  have L0 := Lib.hid hlen
  unfold maxLen at hcap
  clear hown hlen
  go_enter Try.func39, Try.ntmps39
  go_wp2
  go_loopw [1, 5] (fun q i wr => ∃ j : Nat, j ≤ n ∧ i = .int .i64 j ∧ q = .int .i64 ((k + j * 5 : Nat) : Int) ∧ wr.ownsRow base 42 5 (.slice (some ⟨g, 0, none⟩) n cap) n (cellsMaker (marksMaker k j) ++ L.drop (j * 5)) ∧ w.grownBy wr (some g)) (fun _ i _ => n - (intOf i).toNat)
  case atStart => exact ⟨0, Nat.zero_le _, rfl, by simp, by simpa [marksMaker, cellsMaker] using H.out, World.grownBy.refl _ _⟩
  case round =>
    obtain ⟨j, hj, rfl, rfl, hrow, hgr⟩ := hrel
    have R := Lib.hid hrow
    have G := Lib.hid hgr
    clear hrow hgr
    by_cases hlt : j < n
    · obtain ⟨x, hx⟩ : ∃ x : Int, ((k + j * 5 : Nat) : Int) = x := ⟨_, rfl⟩
      rw [hx]
      have x0 : 1 ≤ x := by omega
      have x1 : x ≤ 20000000 := by omega
      have HX := Lib.hid hx
      have i0 : (0 : Int) ≤ (j : Int) := by omega
      have i1 : (j : Int) < (n : Int) := by omega
      clear hx
      have R0 := R
      have G0 := G
      have f0 := R0.out.frozenAt (j * 5)
      obtain ⟨u0, d0⟩ := own_cell R0.out (j * 5) (by have e := L0.out; simp [cellsMaker_len, marksMaker_len]; omega)
      have f1 := R0.out.frozenAt (j * 5 + 1)
      obtain ⟨u1, d1⟩ := own_cell R0.out (j * 5 + 1) (by have e := L0.out; simp [cellsMaker_len, marksMaker_len]; omega)
      have f2 := R0.out.frozenAt (j * 5 + 2)
      obtain ⟨u2, d2⟩ := own_cell R0.out (j * 5 + 2) (by have e := L0.out; simp [cellsMaker_len, marksMaker_len]; omega)
      have f3 := R0.out.frozenAt (j * 5 + 3)
      obtain ⟨u3, d3⟩ := own_cell R0.out (j * 5 + 3) (by have e := L0.out; simp [cellsMaker_len, marksMaker_len]; omega)
      have f4 := R0.out.frozenAt (j * 5 + 4)
      obtain ⟨u4, d4⟩ := own_cell R0.out (j * 5 + 4) (by have e := L0.out; simp [cellsMaker_len, marksMaker_len]; omega)
      go_wp2_with fail
      refine (markText_int _ _ (by omega) (by omega)).mono ?_
      rintro e w1 ⟨rfl, hb1⟩
      have R2 := Lib.hid (ownsRow_below ((R0.out.stored (j * 5) _).1) hb1)
      have G2 := Lib.hid (grown_trans (grown_trans G0.out (R0.out.stored (j * 5) _).2) (grown_below hb1 _))
      clear hb1 f0 d0 f1 d1 f2 d2 f3 d3 f4 d4
      have f1 := R2.out.frozenAt (j * 5 + 1)
      obtain ⟨u1, d1⟩ := own_cell R2.out (j * 5 + 1) (by have e := L0.out; simp [cellsMaker_len, marksMaker_len]; omega)
      have f2 := R2.out.frozenAt (j * 5 + 2)
      obtain ⟨u2, d2⟩ := own_cell R2.out (j * 5 + 2) (by have e := L0.out; simp [cellsMaker_len, marksMaker_len]; omega)
      have f3 := R2.out.frozenAt (j * 5 + 3)
      obtain ⟨u3, d3⟩ := own_cell R2.out (j * 5 + 3) (by have e := L0.out; simp [cellsMaker_len, marksMaker_len]; omega)
      have f4 := R2.out.frozenAt (j * 5 + 4)
      obtain ⟨u4, d4⟩ := own_cell R2.out (j * 5 + 4) (by have e := L0.out; simp [cellsMaker_len, marksMaker_len]; omega)
      go_wp2
      go_roundw
      case rel =>
        refine ⟨j + 1, by omega, by go_num, by have := HX.out; first | (rw [← this]; go_num) | (exact int_eq (by omega)), own_eq ((((R2.out.stored (j * 5 + 1) _).1.stored (j * 5 + 2) _).1.stored (j * 5 + 3) _).1.stored (j * 5 + 4) _).1 ?_, (grown_trans (grown_trans (grown_trans (grown_trans G2.out (R2.out.stored (j * 5 + 1) _).2) ((R2.out.stored (j * 5 + 1) _).1.stored (j * 5 + 2) _).2) (((R2.out.stored (j * 5 + 1) _).1.stored (j * 5 + 2) _).1.stored (j * 5 + 3) _).2) ((((R2.out.stored (j * 5 + 1) _).1.stored (j * 5 + 2) _).1.stored (j * 5 + 3) _).1.stored (j * 5 + 4) _).2)⟩
        rw [show cellsMaker (marksMaker k (j + 1)) ++ L.drop ((j + 1) * 5) = cellsMaker (marksMaker k j) ++ ((markMaker (k + j * 5)).vals ++ L.drop (j * 5 + 5)) from by rw [marksMaker_succ, cellsMaker_snoc, List.append_assoc, show (j + 1) * 5 = j * 5 + 5 by omega]]
        rw [setMaker _ L _ _ _ _ _ (j * 5) (by rw [cellsMaker_len, marksMaker_len]) (by have := L0.out; have := Nat.mul_le_mul_right 5 (show j + 1 ≤ n by omega); omega)]
        refine congrArg (fun l => cellsMaker (marksMaker k j) ++ l) ?_
        exact cons_congr (int_eq (by simp only [markMaker]; have := HX.out; omega)) (cons_congr (mark_eq (by have := HX.out; omega)) (cons_congr (int_eq (by simp only [markMaker]; have := HX.out; omega)) (cons_congr (int_eq (by simp only [markMaker]; have := HX.out; omega)) (cons_congr (int_eq (by simp only [markMaker]; have := HX.out; omega)) (rfl)))))
      case measure => simp [intOf]; omega
    · obtain rfl : j = n := by omega
      go_wp2
      go_ret
      refine ⟨rfl, ?_, G.out⟩
      have h := R.out
      rw [List.drop_of_length_le (by rw [L0.out]; omega), List.append_nil] at h
      exact h
set_option maxHeartbeats 3200000 in
set_option maxRecDepth 100000 in
theorem heldMakerS_any (a : Option Addr) (n cap k : Nat) (w : World) (h : IsMakerS w a n cap (marksMaker k n)) (hk1 : 1 ≤ k) (hk : k ≤ 1000000) (hn : n ≤ 1048576) :
    Calls Try.prog 51 #[.slice a n cap, .int .i64 (k : Int)] w fun e w' => e = .returned (.int .i64 ((k + n * 5 : Nat) : Int)) ∧ Below w.heap.size w w' := by
  have hm := h.2.2.1
  have hcl := h.2.1
  unfold maxLen at hm
  have S := Lib.hid h
  clear h
  go_enter Try.func51, Try.ntmps51
  go_wp2
  go_loopw [1, 5] (fun q i wr => ∃ j : Nat, j ≤ n ∧ i = .int .i64 j ∧ q = .int .i64 ((k + j * 5 : Nat) : Int) ∧ Below w.heap.size w wr) (fun _ i _ => n - (intOf i).toNat)
  case atStart => exact ⟨0, Nat.zero_le _, rfl, by simp, Below.refl _ _⟩
  case round =>
    obtain ⟨j, hj, rfl, rfl, hbel⟩ := hrel
    have B := Lib.hid hbel
    by_cases hlt : j < n
    · obtain ⟨b, o, rfl, hb, hat⟩ := (S.out.below hbel).at (by omega)
      obtain ⟨e0, e1, e2, e3, e4, _⟩ := hat j _ (marksMaker_at k n j hlt)
      obtain ⟨x, hx⟩ : ∃ x : Int, ((k + j * 5 : Nat) : Int) = x := ⟨_, rfl⟩
      rw [hx]
      have x0 : 1 ≤ x := by omega
      have x1 : x ≤ 20000000 := by omega
      have HX := Lib.hid hx
      have i0 : (0 : Int) ≤ (j : Int) := by omega
      have i1 : (j : Int) < (n : Int) := by omega
      have c0 : wr.cell? ⟨b, o + j * 5, none⟩ = some (.int .i64 (x)) := e0.trans (congrArg some (int_eq (by simp only [markMaker]; have := HX.out; omega)))
      have c1 : wr.cell? ⟨b, o + j * 5 + 1, none⟩ = some (.string (markOf (x + 1).toNat)) := e1.trans (congrArg some (mark_eq (by have := HX.out; omega)))
      have c2 : wr.cell? ⟨b, o + j * 5 + 2, none⟩ = some (.int .i64 (x + 2)) := e2.trans (congrArg some (int_eq (by simp only [markMaker]; have := HX.out; omega)))
      have c3 : wr.cell? ⟨b, o + j * 5 + 3, none⟩ = some (.int .i64 (x + 3)) := e3.trans (congrArg some (int_eq (by simp only [markMaker]; have := HX.out; omega)))
      have c4 : wr.cell? ⟨b, o + j * 5 + 4, none⟩ = some (.int .i64 (x + 4)) := e4.trans (congrArg some (int_eq (by simp only [markMaker]; have := HX.out; omega)))
      clear hx hat hbel e0 e1 e2 e3 e4
      go_wp2
      go_region_with (go_at_call 76; refine (markText_int _ _ (by omega) (by omega)).mono ?_; rintro e w1 ⟨rfl, hb1⟩; have B := Lib.hid (Below.then' (bel_drew' B.out) hb1); have c1 := (hb1.cell (p := ⟨b, o + j * 5 + 1, none⟩) hb).trans c1; have c2 := (hb1.cell (p := ⟨b, o + j * 5 + 2, none⟩) hb).trans c2; have c3 := (hb1.cell (p := ⟨b, o + j * 5 + 3, none⟩) hb).trans c3; have c4 := (hb1.cell (p := ⟨b, o + j * 5 + 4, none⟩) hb).trans c4; have hb := Nat.lt_of_lt_of_le hb hb1.size; clear hb1)
      all_goals go_wp2
      all_goals go_roundw
      all_goals first
        | exact ⟨j + 1, by omega, by go_num, by have := HX.out; exact int_eq (by omega), B.out⟩
        | (simp [intOf]; omega)
    · obtain rfl : j = n := by omega
      clear hbel
      go_wp2
      go_ret
      exact ⟨rfl, B.out⟩
end Go.Proofs.Ytpcibejmahhjiaa
