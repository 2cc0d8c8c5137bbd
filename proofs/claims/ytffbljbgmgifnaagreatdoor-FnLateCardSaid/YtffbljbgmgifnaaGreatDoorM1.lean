/- Texts in one: Base, Open, Open2, Box0, AppL, Reg, LoanT, Up. -/
import Derived.Test.YtffbljbgmgifnaaGreatDoorProg
import Derived.WalkKit
import Derived.WalkSpells
import Derived.ProofKit
import Derived.Lib.Hide
import Derived.Deep.QuietTactic
import Derived.BigQuiet
import Derived.Below
import Derived.IntWalk
import Derived.LoopTactic
import Derived.Lib.SlicesS
import Derived.Lib.IndexBytes
import Derived.Laws.AppendOwn
import Derived.OwnWalk
import Derived.Deep.Slices
import Derived.Deep.Fields
import Derived.ChangeSame
import Derived.ChangeArms
import Derived.Laws.IdiomRangeMap
import Derived.Laws.OwnMore
import Derived.Lib.QuietBelow
import Derived.Deep.RegionWith
import Derived.Handy
namespace Go.Proofs.YtffbljbgmgifnaaGreatDoor
open Go.RowKit

theorem ret_int {k : IntKind} {a b : Int} (h : a = b) : Ending.returned (.int k a) = .returned (.int k b) := by rw [h]
theorem ret_bool {a b : Bool} (h : a = b) : Ending.returned (.bool a) = .returned (.bool b) := by rw [h]
theorem ret_str {a b : ByteArray} (h : a = b) : Ending.returned (.string a) = .returned (.string b) := by rw [h]
theorem ret_str_v {a b : ByteArray} {v : Value} (h : a = b) : Ending.returned (.tuple #[.string a, v]) = .returned (.tuple #[.string b, v]) := by rw [h]
theorem ret_int_v {k : IntKind} {a b : Int} {v : Value} (h : a = b) : Ending.returned (.tuple #[.int k a, v]) = .returned (.tuple #[.int k b, v]) := by rw [h]
theorem u8_bd (c : UInt8) : (c.toNat : Int) ≤ 255 := by have := c.toNat_lt; omega
theorem take_snoc (s : ByteArray) (k : Nat) (h : k < s.size) : s.data.toList.take (k + 1) = s.data.toList.take k ++ [s[k]] := by
  rw [List.take_succ_eq_append_getElem (by simpa using h)]; rfl
theorem take_all (s : ByteArray) : s.data.toList.take s.size = s.data.toList := List.take_of_length_le (by simp)
theorem drop_cons (s : ByteArray) (k : Nat) (h : k < s.size) : s.data.toList.drop k = s[k] :: s.data.toList.drop (k + 1) := by
  rw [List.drop_eq_getElem_cons (by simpa using h)]; rfl
theorem drop_none (s : ByteArray) : s.data.toList.drop s.size = [] := by
  apply List.drop_eq_nil_of_le; simp
theorem size_list (s : ByteArray) : s.size = s.data.toList.length := Array.length_toList.symm
theorem bytes_ext {a b : ByteArray} (h : a.data.toList = b.data.toList) : a = b := by
  rcases a with ⟨⟨a⟩⟩; rcases b with ⟨⟨b⟩⟩; simp at h; rw [h]
theorem bytes_append (a b : ByteArray) : (a ++ b).data.toList = a.data.toList ++ b.data.toList := by simp
theorem ne_test {a b : ByteArray} (h : (!a.toList == b.toList) = true) : a ≠ b := (Lib.bytes_beq_false_iff a b).1 (by simpa using h)
theorem eq_test {a b : ByteArray} (h : (!a.toList == b.toList) = false) : a = b := (Lib.bytes_beq_iff a b).1 (by simpa using h)
theorem eq_testT {a b : ByteArray} (h : a = b) : (a.toList == b.toList) = true := (Lib.bytes_beq_iff a b).2 h
theorem ne_testT {a b : ByteArray} (h : a ≠ b) : (a.toList == b.toList) = false := (Lib.bytes_beq_false_iff a b).2 h
theorem bel_drawn (w : World) (n : Nat) : Below w.heap.size w (w.drewN n) := ⟨rfl, rfl, rfl, Nat.le_refl _, fun _ _ => rfl⟩
theorem bel_drawn2 (w : World) (m n : Nat) : Below w.heap.size w ((w.drewN m).drewN n) := ⟨rfl, rfl, rfl, Nat.le_refl _, fun _ _ => rfl⟩
theorem Below.then' {w w1 w2 : World} (h : Below w.heap.size w w1) (k : Below w1.heap.size w1 w2) : Below w.heap.size w w2 := h.trans (k.mono h.size)
def strOf (l : List UInt8) : ByteArray := ⟨l.toArray⟩
theorem strOf_size (l : List UInt8) : (strOf l).size = l.length := by simp [strOf, ByteArray.size]
theorem strOf_append (l k : List UInt8) : strOf l ++ strOf k = strOf (l ++ k) := by
  apply ByteArray.ext; simp [strOf]
theorem strOf_list (l : List UInt8) : (strOf l).data.toList = l := by simp [strOf]
theorem add_plain (b o j : Nat) : (⟨b, o, none⟩ : Addr).add j = ⟨b, o + j, none⟩ := by unfold Addr.add; split <;> simp_all
theorem infoStr : (Tryz.prog.info? 9).map (fun i => (i.zero, i.size, i.bytes)) = some (some (.string ByteArray.empty), 1, 16) := by kernel_rfl
theorem cell_one (w : World) (x : Value) (t : TypeId) : ∀ j u, [x][j]? = some u → (w.alloc (.cells #[x] t)).cell? ((⟨w.heap.size, 0, none⟩ : Addr).add j) = some u := by
  intro j u hj
  match j, hj with
  | 0, hj => simp at hj; subst hj; simp [Addr.add]
  | j + 1, hj => simp at hj
theorem ownsRow_below {w w' : World} {base : Nat} {e : TypeId} {size n : Nat} {v : Value} {xs : List Value} (h : w.ownsRow base e size v n xs) (hb : Below w.heap.size w w') : w'.ownsRow base e size v n xs := by
  refine ⟨h.1, ?_⟩
  rcases h.2 with h0 | ⟨g, cap, cur, rfl, hg, hh, r⟩
  · exact .inl h0
  · exact .inr ⟨g, cap, cur, rfl, hg, (hb.block g (Array.getElem?_eq_some_iff.1 hh).1).trans hh, r⟩
theorem ownsRow_base {w : World} {base base' : Nat} {e : TypeId} {size n : Nat} {v : Value} {xs : List Value} (h : w.ownsRow base e size v n xs) (hb : base' ≤ base) : w.ownsRow base' e size v n xs := by
  refine ⟨h.1, ?_⟩
  rcases h.2 with h0 | ⟨g, cap, cur, rfl, hg, r⟩
  · exact .inl h0
  · exact .inr ⟨g, cap, cur, rfl, Nat.le_trans hb hg, r⟩
theorem grown_below {w w' : World} (h : Below w.heap.size w w') (row : Option Nat) : w.grownBy w' row := ⟨h.os, h.tape, h.output, h.size, fun k hk _ => h.block k hk⟩
theorem grown_trans {a b c : World} {row : Option Nat} (h : a.grownBy b row) (k : b.grownBy c row) : a.grownBy c row :=
  ⟨k.os.trans h.os, k.tape.trans h.tape, k.output.trans h.output, Nat.le_trans h.size k.size, fun j hj hr => (k.block j (Nat.lt_of_lt_of_le hj h.size) hr).trans (h.block j hj hr)⟩
/-- A row of texts of the call's own, and the world below as it was. -/
def RowPost (xs : List ByteArray) (w : World) (e : Ending) (w' : World) : Prop := ∃ v, e = .returned v ∧ w'.ownsRow w.heap.size 9 1 v xs.length (xs.map Value.string) ∧ Below w.heap.size w w'
end Go.Proofs.YtffbljbgmgifnaaGreatDoor
namespace Go.Proofs.YtffbljbgmgifnaaGreatDoor
open Go.RowKit Go.ChangeShapes Go.WideShapes Go.Deep

section
variable {H : Type} {enc : TypeId × Value → H} {P : Program} {w : World} {base : Nat} {spare : Nat → Bool} {held : Bool}

/-- Every field is an integer of 64 bits. -/
def AllInts (P : Program) (fs : Array Field) : Prop := ∀ (j : Nat) (f : Field), fs[j]? = some f → P.underlying f.type = some (.int .i64)
theorem AllInts.mk {P : Program} {fs : Array Field} {t : TypeId} (h : fs.all (fun f => f.type == t) = true) (ht : P.underlying t = some (.int .i64)) : AllInts P fs := by
  intro j f hj
  obtain ⟨hlt, he⟩ := Array.getElem?_eq_some_iff.1 hj
  have := Array.all_eq_true.1 h j hlt
  rw [he] at this
  simp at this
  rw [this]; exact ht

/-- The cells of a struct that reads are integers, one a field. -/
theorem cells_of_struct {e : TypeId} {fs : Array Field} {fuel : Nat} {cs : List Value} {x : DataW H × List MemPlace} (he : P.underlying e = some (.struct fs)) (hone : oneCellFields P fs = true) (hints : AllInts P fs) (hsz : cs.length = fs.size)
    (h : DataW.trod enc P w base spare held fuel e cs = some x) : ∃ f : Nat → Int, ∀ j, j < fs.size → cs[j]? = some (.int .i64 (f j)) := by
  obtain ⟨ys, n, _, _, _, hyl, hf⟩ := DataW.trod_struct he h
  have each : ∀ j, j < fs.size → ∃ z : Int, cs[j]? = some (.int .i64 z) := by
    intro j hj
    have hj' : fs[j]? = some (fs[j]'hj) := Array.getElem?_eq_getElem hj
    obtain ⟨ho, hk⟩ := hone_of hone j _ hj'
    have h1 := hf j _ hj'
    rw [ho, hk] at h1
    have hone' : (cs.drop j).take 1 = [cs[j]'(by omega)] := by
      rw [List.drop_eq_getElem_cons (by omega)]
      rfl
    rw [hone'] at h1
    have hys : ys[j]? = some (ys[j]'(by omega)) := List.getElem?_eq_getElem (by omega)
    obtain ⟨z, hz, _⟩ := DataW.trod_int (hints j _ hj') (h1.trans hys)
    exact ⟨z, by rw [List.getElem?_eq_getElem (by omega)]; simpa using hz⟩
  obtain ⟨f, hf⟩ := Classical.axiomOfChoice (r := fun (j : Fin fs.size) (z : Int) => cs[j.1]? = some (.int .i64 z)) (fun j => each j.1 j.2)
  exact ⟨fun j => if hj : j < fs.size then f ⟨j, hj⟩ else 0, fun j hj => by simp only [hj, dif_pos]; exact hf ⟨j, hj⟩⟩

/-- A struct of integers, by value. -/
theorem open_ints_struct {r : Reach} {b0 : Nat} {t : TypeId} {fs : Array Field} {v : Value} {d : DataW H} {p : List MemPlace} (hs : P.underlying t = some (.struct fs)) (hone : oneCellFields P fs = true) (hints : AllInts P fs) (hC : P.cellsOf t = fs.size)
    (hv : Value.okWide P w r b0 t v) (h : DataW.Trod enc P w base spare held t v d p) : ∃ f : Nat → Int, v = .agg ((List.range fs.size).map fun j => Value.int .i64 (f j)).toArray := by
  obtain ⟨cs, rfl, hsz⟩ := okWide_struct hs hv
  obtain ⟨fuel, hf⟩ := h
  obtain ⟨l⟩ := cs
  have hl : l.length = fs.size := by simpa using hsz.trans hC
  obtain ⟨f, hcell⟩ := cells_of_struct hs hone hints (cs := l) hl (by simpa [Value.cells] using hf)
  refine ⟨f, ?_⟩
  congr 1
  congr 1
  apply List.ext_getElem?
  intro j
  by_cases hj : j < fs.size
  · rw [hcell j hj]; simp [hj]
  · rw [List.getElem?_eq_none (by omega), List.getElem?_eq_none (by simp; omega)]

/-- A slice of structs of integers. -/
theorem open_ints_structs {t e : TypeId} {fs : Array Field} {fuel : Nat} {a : Option Addr} {len cap : Nat} {x : DataW H × List MemPlace} (ht : P.underlying t = some (.slice e)) (he : P.underlying e = some (.struct fs))
    (hone : oneCellFields P fs = true) (hints : AllInts P fs) (hC : P.cellsOf e = fs.size) (hpos : 0 < fs.size) (h : DataW.trod enc P w base (fun _ => true) held fuel t (Value.slice a len cap).cells.toList = some x) :
    (a = none ∧ len = 0 ∧ cap = 0) ∨ ∃ (b o : Nat) (f : Nat → Nat → Int), (len = 0 ∨ a = some ⟨b, o, none⟩) ∧ len ≤ cap ∧ cap ≤ maxLen ∧ (0 < len → b < w.heap.size) ∧ ∀ i j, i < len → j < fs.size → w.cell? ⟨b, o + (i * fs.size + j), none⟩ = some (.int .i64 (f i j)) := by
  rcases open_slice ht h with ⟨hcs, _⟩ | ⟨y, l, c, m, n, D, Pl, hcs, hb, hl, hm, hmm, _, hi⟩
  · simp [Value.cells] at hcs
    exact .inl hcs
  · right
    simp [Value.cells] at hcs
    obtain ⟨rfl, rfl, rfl⟩ := hcs
    simp at hmm
    subst hmm
    obtain ⟨b, o, spot⟩ := y
    have each : ∀ i, i < len → ∃ f : Nat → Int, ∀ j, j < fs.size → w.cell? ((⟨b, o, spot⟩ : Addr).add (i * fs.size + j)) = some (.int .i64 (f j)) := by
      intro i hlt
      obtain ⟨cs', hc, ht'⟩ := hi i (by omega)
      rw [hC] at hc
      obtain ⟨_, hcl, hat⟩ := World.cells?_some hc
      obtain ⟨f, hf⟩ := cells_of_struct he hone hints hcl ht'
      refine ⟨f, fun j hj => ?_⟩
      rw [← Go.Deep.add_add, hat j hj]
      exact hf j hj
    by_cases h0 : len = 0
    · exact ⟨b, o, fun _ _ => 0, .inl h0, hl, hm, by omega, by omega⟩
    · obtain ⟨f0, hf0⟩ := each 0 (by omega)
      have h1 := hf0 0 hpos
      have hspot : spot = none := by simpa [Addr.add] using World.cell?_spot h1
      subst hspot
      obtain ⟨f, hf⟩ := Classical.axiomOfChoice (r := fun (i : Fin len) (g : Nat → Int) => ∀ j, j < fs.size → w.cell? ((⟨b, o, none⟩ : Addr).add (i.1 * fs.size + j)) = some (.int .i64 (g j))) (fun i => each i.1 i.2)
      refine ⟨b, o, fun i => if hi : i < len then f ⟨i, hi⟩ else fun _ => 0, .inr rfl, hl, hm, fun _ => ?_, fun i j hi hj => ?_⟩
      · have h2 := h1
        rw [add_plain] at h2
        by_cases hb : b < w.heap.size
        · exact hb
        · exfalso
          have : w.cell? ⟨b, o + (0 * fs.size + 0), none⟩ = none := by simp [World.cell?, Array.getElem?_eq_none (Nat.le_of_not_lt hb)]
          rw [this] at h2; cases h2
      · have := hf ⟨i, hi⟩ j hj
        rw [add_plain] at this
        simpa [hi] using this
end
end Go.Proofs.YtffbljbgmgifnaaGreatDoor
namespace Go.Proofs.YtffbljbgmgifnaaGreatDoor
open Go.RowKit Go.ChangeShapes Go.WideShapes Go.Deep

section
variable {H : Type} {enc : TypeId × Value → H} {P : Program} {w : World} {base : Nat} {spare : Nat → Bool} {held : Bool}

/-- What a field of one cell holds, by its type. -/
def FieldIs (P : Program) (f : Field) (v : Value) : Prop :=
  (P.underlying f.type = some (.int .i64) → ∃ z : Int, v = .int .i64 z) ∧ (P.underlying f.type = some .string → ∃ s : ByteArray, v = .string s ∧ s.size ≤ maxLen) ∧ (P.underlying f.type = some .bool → ∃ b : Bool, v = .bool b)
theorem trod_field {f : Field} {fuel : Nat} {c : Value} {x : DataW H × List MemPlace} (h : DataW.trod enc P w base spare held fuel f.type [c] = some x) : FieldIs P f c := by
  refine ⟨fun ht => ?_, fun ht => ?_, fun ht => ?_⟩
  · obtain ⟨z, hz, _⟩ := DataW.trod_int ht h
    exact ⟨z, by simpa using hz⟩
  · obtain ⟨s, hs, _, hl⟩ := DataW.trod_string ht h
    exact ⟨s, by simpa using hs, hl⟩
  · obtain ⟨b, hb, _⟩ := DataW.trod_bool ht h
    exact ⟨b, by simpa using hb⟩
theorem cells_of_one {e : TypeId} {fs : Array Field} {fuel : Nat} {cs : List Value} {x : DataW H × List MemPlace} (he : P.underlying e = some (.struct fs)) (hone : oneCellFields P fs = true) (hsz : cs.length = fs.size)
    (h : DataW.trod enc P w base spare held fuel e cs = some x) : ∀ (j : Nat) (f : Field), fs[j]? = some f → ∃ c, cs[j]? = some c ∧ FieldIs P f c := by
  obtain ⟨ys, n, _, _, _, hyl, hf⟩ := DataW.trod_struct he h
  intro j f hj'
  have hj : j < fs.size := (Array.getElem?_eq_some_iff.1 hj').1
  obtain ⟨ho, hk⟩ := hone_of hone j _ hj'
  have h1 := hf j _ hj'
  rw [ho, hk] at h1
  have hone' : (cs.drop j).take 1 = [cs[j]'(by omega)] := by
    rw [List.drop_eq_getElem_cons (by omega)]
    rfl
  rw [hone'] at h1
  have hys : ys[j]? = some (ys[j]'(by omega)) := List.getElem?_eq_getElem (by omega)
  exact ⟨cs[j]'(by omega), List.getElem?_eq_getElem (by omega), trod_field (h1.trans hys)⟩
/-- A struct of such fields, by value. -/
theorem open_one_struct {r : Reach} {b0 : Nat} {t : TypeId} {fs : Array Field} {v : Value} {d : DataW H} {p : List MemPlace} (hs : P.underlying t = some (.struct fs)) (hone : oneCellFields P fs = true) (hC : P.cellsOf t = fs.size)
    (hv : Value.okWide P w r b0 t v) (h : DataW.Trod enc P w base spare held t v d p) : ∃ cs : List Value, v = .agg cs.toArray ∧ cs.length = fs.size ∧ ∀ (j : Nat) (f : Field), fs[j]? = some f → ∃ c, cs[j]? = some c ∧ FieldIs P f c := by
  obtain ⟨cs, rfl, hsz⟩ := okWide_struct hs hv
  obtain ⟨fuel, hf⟩ := h
  obtain ⟨l⟩ := cs
  have hl : l.length = fs.size := by simpa using hsz.trans hC
  exact ⟨l, rfl, hl, cells_of_one hs hone hl (by simpa [Value.cells] using hf)⟩
/-- A slice of such structs. -/
theorem open_one_structs {t e : TypeId} {fs : Array Field} {fuel : Nat} {a : Option Addr} {len cap : Nat} {x : DataW H × List MemPlace} (ht : P.underlying t = some (.slice e)) (he : P.underlying e = some (.struct fs))
    (hone : oneCellFields P fs = true) (hC : P.cellsOf e = fs.size) (hpos : 0 < fs.size) (h : DataW.trod enc P w base (fun _ => true) held fuel t (Value.slice a len cap).cells.toList = some x) :
    (a = none ∧ len = 0 ∧ cap = 0) ∨ ∃ (b o : Nat), (len = 0 ∨ a = some ⟨b, o, none⟩) ∧ len ≤ cap ∧ cap ≤ maxLen ∧ (0 < len → b < w.heap.size) ∧ ∀ i, i < len → ∀ (j : Nat) (f : Field), fs[j]? = some f → ∃ c, w.cell? ⟨b, o + (i * fs.size + j), none⟩ = some c ∧ FieldIs P f c := by
  rcases open_slice ht h with ⟨hcs, _⟩ | ⟨y, l, c, m, n, D, Pl, hcs, hb, hl, hm, hmm, _, hi⟩
  · simp [Value.cells] at hcs
    exact .inl hcs
  · right
    simp [Value.cells] at hcs
    obtain ⟨rfl, rfl, rfl⟩ := hcs
    simp at hmm
    subst hmm
    obtain ⟨b, o, spot⟩ := y
    have each : ∀ i, i < len → ∀ (j : Nat) (f : Field), fs[j]? = some f → ∃ c, w.cell? ((⟨b, o, spot⟩ : Addr).add (i * fs.size + j)) = some c ∧ FieldIs P f c := by
      intro i hlt j f hf
      obtain ⟨cs', hc, ht'⟩ := hi i (by omega)
      rw [hC] at hc
      obtain ⟨_, hcl, hat⟩ := World.cells?_some hc
      obtain ⟨c, h1, h2⟩ := cells_of_one he hone hcl ht' j f hf
      refine ⟨c, ?_, h2⟩
      have hj : j < fs.size := (Array.getElem?_eq_some_iff.1 hf).1
      rw [← Go.Deep.add_add, hat j hj]
      exact h1
    by_cases h0 : len = 0
    · exact ⟨b, o, .inl h0, hl, hm, by omega, by omega⟩
    · obtain ⟨c0, h1, _⟩ := each 0 (by omega) 0 fs[0] (Array.getElem?_eq_getElem hpos)
      have hspot : spot = none := by simpa [Addr.add] using World.cell?_spot h1
      subst hspot
      refine ⟨b, o, .inr rfl, hl, hm, fun _ => ?_, fun i hi j f hf => ?_⟩
      · have h2 := h1
        rw [add_plain] at h2
        by_cases hb : b < w.heap.size
        · exact hb
        · exfalso
          have : w.cell? ⟨b, o + (0 * fs.size + 0), none⟩ = none := by simp [World.cell?, Array.getElem?_eq_none (Nat.le_of_not_lt hb)]
          rw [this] at h2; cases h2
      · obtain ⟨c, h1, h2⟩ := each i hi j f hf
        rw [add_plain] at h1
        exact ⟨c, h1, h2⟩
end
end Go.Proofs.YtffbljbgmgifnaaGreatDoor
namespace Go.Proofs.YtffbljbgmgifnaaGreatDoor
open Go.RowKit

theorem bel_drew' {w w1 : World} (h : Below w.heap.size w w1) : Below w.heap.size w w1.drew := ⟨h.os, h.tape, h.output, h.size, h.block⟩
theorem bel_al1 (w : World) (o : Obj) : Below w.heap.size w (w.alloc o) := (Below.refl _ _).alloc (Nat.le_refl _) o
theorem size_al (w : World) (o : Obj) : (w.alloc o).heap.size = w.heap.size + 1 := by
  show (w.heap.push o).size = _
  simp
theorem bel_al2 (w : World) (o o' : Obj) : Below w.heap.size w ((w.alloc o).alloc o') := Below.then' (bel_al1 _ _) (bel_al1 _ _)
theorem bel_al3 (w : World) (o o' o'' : Obj) : Below w.heap.size w (((w.alloc o).alloc o').alloc o'') := Below.then' (bel_al2 _ _ _) (bel_al1 _ _)
theorem ownsRow_grown0 {w w' : World} {base : Nat} {e : TypeId} {size n : Nat} {v : Value} {xs : List Value} {row : Option Nat} (h : w.ownsRow base e size v n xs) (hg : w.grownBy w' row) (hne : ∀ k, row = some k → k < base) : w'.ownsRow base e size v n xs := by
  refine ⟨h.1, ?_⟩
  rcases h.2 with h0 | ⟨g, cap, cur, rfl, hb, hh, r⟩
  · exact .inl h0
  · exact .inr ⟨g, cap, cur, rfl, hb, (hg.block g (Array.getElem?_eq_some_iff.1 hh).1 (fun e => by have := hne g e.symm; omega)).trans hh, r⟩
theorem cons_congr {α : Type} {a b : α} {l m : List α} (h : a = b) (t : l = m) : a :: l = b :: m := by rw [h, t]
theorem int_eq {k : IntKind} {a b : Int} (h : a = b) : Value.int k a = .int k b := by rw [h]
theorem own_eq {w : World} {base n : Nat} {e : TypeId} {size : Nat} {v : Value} {L M : List Value} (h : w.ownsRow base e size v n L) (hl : L = M) : w.ownsRow base e size v n M := hl ▸ h
theorem own_cell {w : World} {base n c g : Nat} {e : TypeId} {size : Nat} {L : List Value} (h : w.ownsRow base e size (.slice (some ⟨g, 0, none⟩) n c) n L) (i : Nat) (hi : i < L.length) : ∃ u, w.cell? ⟨g, i, none⟩ = some u := by
  have hc := h.cells (g := g) rfl i _ (List.getElem?_eq_getElem hi)
  rw [add_plain, Nat.zero_add] at hc
  exact ⟨_, hc⟩
end Go.Proofs.YtffbljbgmgifnaaGreatDoor
namespace Go.Proofs.YtffbljbgmgifnaaGreatDoor
open Go.RowKit

/-- The slice 'a m' holds the cells news, m elements of some size. -/
def SrcAt (w : World) (a : Option Addr) (m size : Nat) (news : List Value) : Prop :=
  news.length = m * size ∧ (m = 0 ∨ ∃ ad, a = some ad ∧ ∀ (j : Nat) u, news[j]? = some u → w.cell? (ad.add j) = some u)
theorem append_nothing {P : Program} {w : World} {base n size : Nat} {t ty e : TypeId} {i : TypeInfo} {v : Value} {xs : List Value} (ht : P.underlying t = some (.slice e)) (hi : P.info? e = some i) (hown : w.ownsRow base e size v n xs) (c : Nat) :
    (Builtin.append_ #[t, t] ty #[v, .slice none 0 c]).run P w = .ok v w := by
  obtain ⟨_, h⟩ := hown
  rcases h with ⟨rfl, rfl⟩ | ⟨g, cap, cur, rfl, h1, h2, h3, h4⟩
  all_goals simp [Builtin.append_, run_underlying ht, sizeOf, typeInfo, Builtin.lenOf, Builtin.firstCells, storeCells, *]
theorem wpList_append_list {P : Program} {w : World} {ops : Array Oper} {rest : List Oper} {o : Oper} {a : Act} {Q : Exit → Act → World → Prop} (hgd : o.guard = none) (s x : Operand) (t : TypeId)
    (ho : o.op = .call { callee := .builtin .append, args := #[s, x], argTypes := #[t, t] })
    (base : Nat) (e : TypeId) (i : TypeInfo) (z : Value) (size bytes : Nat) (ht : P.underlying t = some (.slice e)) (hi : P.info? e = some i) (hz : i.zero = some z)
    (hsize : i.size = size) (hby : i.bytes = bytes) (hzs : z.cells.size = size) (hsz : 0 < size)
    (v : Value) (n : Nat) (xs : List Value) (hs : a.eval s = v) (hown : w.ownsRow base e size v n xs)
    (ad : Option Addr) (m c : Nat) (news : List Value) (hx : a.eval x = .slice ad m c) (hsrc : SrcAt w ad m size news) (h1 : ∀ u ∈ news, u.oneCell' = true)
    (h63 : n + m ≤ maxLen) (hbytes : (n + m) * bytes ≤ 140737488355328) (hbase : base ≤ w.heap.size)
    (h : ∀ v' w', w'.ownsRow base e size v' (n + m) (xs ++ news) → w.grownBy w' v.ownBlock → wpList P ops Q rest (a.put o.dst v') w') : wpList P ops Q (o :: rest) a w := by
  obtain ⟨hl, hc⟩ := hsrc
  cases ad with
  | some ad =>
    refine wpList_append_own w hgd s x t ho base e i z size bytes ht hi hz hsize hby hzs hsz v n xs hs hown ad m c news hx hl ?_ h1 h63 hbytes hbase (fun v' w' a b _ => h v' w' a b)
    rcases hc with rfl | ⟨ad', e', hc⟩
    · have : news = [] := List.eq_nil_of_length_eq_zero (by simpa using hl)
      subst this
      intro j u hj; simp at hj
    · cases e'; exact hc
  | none =>
    have hm : m = 0 := by
      rcases hc with h0 | ⟨_, e', _⟩
      · exact h0
      · cases e'
    subst hm
    have hn : news = [] := List.eq_nil_of_length_eq_zero (by simpa using hl)
    subst hn
    refine wpList_plain hgd fun K hK => ?_
    have hrun := append_nothing (P := P) (w := w) (ty := o.type) ht hi hown c
    unfold Oper.wp
    simp [execOp, ho, resolve, invoke, builtin, hs, hx, hrun, Result.andThen]
    exact hK _ _ (h v w (by simpa using hown) (World.grownBy.refl w _))
theorem own_some {w : World} {base n : Nat} {e : TypeId} {size : Nat} {v : Value} {L : List Value} (h : w.ownsRow base e size v n L) (hn : 0 < n) : ∃ g c, v = .slice (some ⟨g, 0, none⟩) n c ∧ base ≤ g ∧ n ≤ c ∧ c ≤ 9223372036854775807 := by
  rcases h.2 with ⟨_, h0⟩ | ⟨g, c, _, e', hg, _, hn', hc, _⟩
  · omega
  · exact ⟨g, c, e', hg, hn', hc⟩
theorem own_ne {g g' n c : Nat} (h : g ≠ g') : some g ≠ (Value.slice (some ⟨g', 0, none⟩) n c).ownBlock := fun e => h (Option.some.inj e)
theorem own_is {g k n c : Nat} (h : (Value.slice (some ⟨g, 0, none⟩) n c).ownBlock = some k) : k = g := (Option.some.inj h).symm
end Go.Proofs.YtffbljbgmgifnaaGreatDoor
namespace Go.Proofs.YtffbljbgmgifnaaGreatDoor
open Go.RowKit

/-- A callee's contract, in every world of a drawn region's class. -/
theorem below_at {P : Program} {f : FuncId} {args : Array Value} {v : Value} {W : World} (h : ∀ W', Below W.heap.size W W' → Calls P f args W' fun e w' => e = .returned v ∧ Below W'.heap.size W' w') :
    ∀ d os, Calls P f args (Sort.grow (redrawn W d) os) fun e w'' => e = .returned v ∧ ∃ p : Regrown, w'' = Sort.grow (redrawn W p.d) p.os := fun d os => Calls.regrown_of (h _ (below_regrown W d os))
theorem below_of_re {W W' : World} (h : ∃ p : Regrown, W' = Sort.grow (redrawn W p.d) p.os) : Below W.heap.size W W' := by
  obtain ⟨p, rfl⟩ := h
  exact below_regrown _ _ _
theorem same_below {P : Program} {f : FuncId} {args : Array Value} {v : Value} {W : World} (h : Calls P f args W fun e w' => e = .returned v ∧ W = w') : Calls P f args W fun e w' => e = .returned v ∧ Below W.heap.size W w' :=
  h.mono fun _ _ ⟨he, hw⟩ => ⟨he, hw ▸ Below.refl _ _⟩
theorem World.lt_of_cell {w : World} {b o : Nat} {v : Value} (h : w.cell? ⟨b, o, none⟩ = some v) : b < w.heap.size := block_lt_of_cell h
theorem wp_world {P : Program} {c : Code} {Q : Exit → Act → World → Prop} {a : Act} {w0 : World} (F : World → Prop) (h0 : F w0) (h : ∀ W, F W → Code.wp P c Q a W) : Code.wp P c Q a w0 := h w0 h0
end Go.Proofs.YtffbljbgmgifnaaGreatDoor
namespace Go.Proofs.YtffbljbgmgifnaaGreatDoor
open Go.RowKit Go.ChangeShapes Go.WideShapes Go.Deep

structure VLoan where
  Sheet : Int
  Reader : Int
  Out : Int
  Due : Int
  Back : Int
def VLoan.vals (s : VLoan) : List Value := [.int .i64 s.Sheet, .int .i64 s.Reader, .int .i64 s.Out, .int .i64 s.Due, .int .i64 s.Back]
theorem VLoan.vals_len (s : VLoan) : s.vals.length = 5 := rfl
theorem VLoan.vals_one (s : VLoan) : ∀ u ∈ s.vals, u.oneCell' = true := by
  intro u hu
  simp [VLoan.vals] at hu
  rcases hu with rfl | rfl | rfl | rfl | rfl <;> rfl
/-- It lies at block b from offset o on. -/
def LoanAt (w : World) (b o : Nat) (s : VLoan) : Prop :=
  w.cell? ⟨b, o, none⟩ = some (.int .i64 s.Sheet) ∧ w.cell? ⟨b, o + 1, none⟩ = some (.int .i64 s.Reader) ∧ w.cell? ⟨b, o + 2, none⟩ = some (.int .i64 s.Out) ∧ w.cell? ⟨b, o + 3, none⟩ = some (.int .i64 s.Due) ∧ w.cell? ⟨b, o + 4, none⟩ = some (.int .i64 s.Back)
def IsLoanS (w : World) (a : Option Addr) (len cap : Nat) (xs : List VLoan) : Prop :=
  len = xs.length ∧ len ≤ cap ∧ cap ≤ maxLen ∧ (len = 0 ∨ ∃ b o, a = some ⟨b, o, none⟩ ∧ b < w.heap.size ∧ ∀ (k : Nat) s, xs[k]? = some s → LoanAt w b (o + k * 5) s)
theorem LoanAt.below {w w' : World} {b o : Nat} {s : VLoan} (h : LoanAt w b o s) (hb : Below w.heap.size w w') (hlt : b < w.heap.size) : LoanAt w' b o s :=
  ⟨(hb.cell (p := ⟨b, o, none⟩) hlt).trans h.1, (hb.cell (p := ⟨b, o + 1, none⟩) hlt).trans h.2.1, (hb.cell (p := ⟨b, o + 2, none⟩) hlt).trans h.2.2.1, (hb.cell (p := ⟨b, o + 3, none⟩) hlt).trans h.2.2.2.1, (hb.cell (p := ⟨b, o + 4, none⟩) hlt).trans h.2.2.2.2⟩
theorem LoanAt.block {w w' : World} {b o : Nat} {s : VLoan} (h : LoanAt w b o s) (hb : w'.heap[b]? = w.heap[b]?) : LoanAt w' b o s :=
  ⟨(World.cell?_of_block (w := w) (a := ⟨b, o, none⟩) hb).trans h.1, (World.cell?_of_block (w := w) (a := ⟨b, o + 1, none⟩) hb).trans h.2.1, (World.cell?_of_block (w := w) (a := ⟨b, o + 2, none⟩) hb).trans h.2.2.1, (World.cell?_of_block (w := w) (a := ⟨b, o + 3, none⟩) hb).trans h.2.2.2.1, (World.cell?_of_block (w := w) (a := ⟨b, o + 4, none⟩) hb).trans h.2.2.2.2⟩
theorem IsLoanS.below {w w' : World} {a : Option Addr} {len cap : Nat} {xs : List VLoan} (h : IsLoanS w a len cap xs) (hb : Below w.heap.size w w') : IsLoanS w' a len cap xs := by
  refine ⟨h.1, h.2.1, h.2.2.1, ?_⟩
  rcases h.2.2.2 with h0 | ⟨b, o, rfl, h1, h2⟩
  · exact .inl h0
  · exact .inr ⟨b, o, rfl, Nat.lt_of_lt_of_le h1 hb.size, fun k s hs => (h2 k s hs).below hb h1⟩
theorem IsLoanS.grown {w w' : World} {a : Option Addr} {len cap : Nat} {xs : List VLoan} {row : Option Nat} (h : IsLoanS w a len cap xs) (hg : w.grownBy w' row) (hne : ∀ b o, a = some ⟨b, o, none⟩ → some b ≠ row) : IsLoanS w' a len cap xs := by
  refine ⟨h.1, h.2.1, h.2.2.1, ?_⟩
  rcases h.2.2.2 with h0 | ⟨b, o, rfl, h1, h2⟩
  · exact .inl h0
  · exact .inr ⟨b, o, rfl, Nat.lt_of_lt_of_le h1 hg.size, fun k s hs => (h2 k s hs).block (hg.block b h1 (hne b o rfl))⟩
theorem IsLoanS.at {w : World} {a : Option Addr} {len cap : Nat} {xs : List VLoan} (h : IsLoanS w a len cap xs) (hpos : 0 < len) : ∃ b o, a = some ⟨b, o, none⟩ ∧ b < w.heap.size ∧ ∀ (k : Nat) s, xs[k]? = some s → LoanAt w b (o + k * 5) s := by
  rcases h.2.2.2 with h0 | h1
  · omega
  · exact h1
theorem nil_IsLoanS (w : World) : IsLoanS w none 0 0 [] := ⟨rfl, Nat.le_refl _, by simp [maxLen], .inl rfl⟩
theorem infoLoan : (Tryz.prog.info? 43).map (fun i => (i.zero, i.size, i.bytes)) = some (some (.agg #[.int .i64 0, .int .i64 0, .int .i64 0, .int .i64 0, .int .i64 0]), 5, 40) := by kernel_rfl
def cellsLoan (xs : List VLoan) : List Value := xs.flatMap VLoan.vals
theorem cellsLoan_len (xs : List VLoan) : (cellsLoan xs).length = xs.length * 5 := by
  induction xs with
  | nil => rfl
  | cons x xs ih => simp [cellsLoan, VLoan.vals_len] at *; omega
theorem cellsLoan_append (xs ys : List VLoan) : cellsLoan (xs ++ ys) = cellsLoan xs ++ cellsLoan ys := by simp [cellsLoan]
theorem cellsLoan_snoc (xs : List VLoan) (s : VLoan) : cellsLoan (xs ++ [s]) = cellsLoan xs ++ s.vals := by simp [cellsLoan]
theorem cellsLoan_at {xs : List VLoan} {k : Nat} {s : VLoan} (h : xs[k]? = some s) (j : Nat) (hj : j < 5) : (cellsLoan xs)[k * 5 + j]? = s.vals[j]? := by
  have hk : k < xs.length := (List.getElem?_eq_some_iff.1 h).1
  have e : xs = xs.take k ++ s :: xs.drop (k + 1) := by
    have h2 := List.take_append_drop k xs
    rw [List.drop_eq_getElem_cons hk] at h2
    have : xs[k] = s := by rw [List.getElem?_eq_getElem hk] at h; simpa using h
    rw [this] at h2; exact h2.symm
  have hl : (cellsLoan (xs.take k)).length = k * 5 := by rw [cellsLoan_len, List.length_take]; omega
  rw [e, show cellsLoan (xs.take k ++ s :: xs.drop (k + 1)) = cellsLoan (xs.take k) ++ (s.vals ++ cellsLoan (xs.drop (k + 1))) from by simp [cellsLoan], List.getElem?_append_right (by omega), hl, show k * 5 + j - k * 5 = j from by omega, List.getElem?_append_left (by rw [VLoan.vals_len]; exact hj)]
theorem isLoanS_own {w : World} {base : Nat} {v : Value} {xs : List VLoan} (h : w.ownsRow base 43 5 v xs.length (cellsLoan xs)) :
    ∃ a cap, v = .slice a xs.length cap ∧ IsLoanS w a xs.length cap xs ∧ ∀ b o, a = some ⟨b, o, none⟩ → v.ownBlock = some b := by
  have hlt := h.lt
  rcases h.2 with ⟨rfl, h0⟩ | ⟨g, cap, cur, rfl, hg, hh, hn, hcap, hsz, htake⟩
  · exact ⟨none, 0, by rw [h0], ⟨by rw [h0], by omega, by simp [maxLen], .inl h0⟩, fun _ _ h => by cases h⟩
  · refine ⟨some ⟨g, 0, none⟩, cap, rfl, ⟨rfl, hn, hcap, ?_⟩, fun b o h => by cases h; rfl⟩
    by_cases hz : xs.length = 0
    · exact .inl hz
    · refine .inr ⟨g, 0, rfl, (hlt g rfl).2, fun k s hs => ?_⟩
      have each : ∀ j u, j < 5 → s.vals[j]? = some u → w.cell? ⟨g, 0 + k * 5 + j, none⟩ = some u := fun j u hj hu => by
        have hc := h.cells (g := g) rfl (k * 5 + j) u ((cellsLoan_at hs j hj).trans hu)
        rw [add_plain, ← Nat.add_assoc] at hc; exact hc
      exact ⟨each 0 _ (by decide) rfl, each 1 _ (by decide) rfl, each 2 _ (by decide) rfl, each 3 _ (by decide) rfl, each 4 _ (by decide) rfl⟩
theorem nil_ownLoan (w : World) (base : Nat) : w.ownsRow base 43 5 (.slice none 0 0) ([] : List VLoan).length (cellsLoan []) := ⟨by simp [cellsLoan], .inl ⟨rfl, rfl⟩⟩
theorem cell_Loan (w : World) (s : VLoan) (t : TypeId) : ∀ j u, s.vals[j]? = some u → (w.alloc (.cells #[.int .i64 s.Sheet, .int .i64 s.Reader, .int .i64 s.Out, .int .i64 s.Due, .int .i64 s.Back] t)).cell? ((⟨w.heap.size, 0, none⟩ : Addr).add j) = some u := by
  intro j u hj
  rw [add_plain, Nat.zero_add, World.cell?_alloc_new]
  simpa [VLoan.vals] using hj
theorem cell_Loan2 (w : World) (o : Obj) (s : VLoan) (t : TypeId) : ∀ j u, s.vals[j]? = some u → ((w.alloc o).alloc (.cells #[.int .i64 s.Sheet, .int .i64 s.Reader, .int .i64 s.Out, .int .i64 s.Due, .int .i64 s.Back] t)).cell? ((⟨w.heap.size + 1, 0, none⟩ : Addr).add j) = some u := by
  have h := cell_Loan (w.alloc o) s t
  rw [show (w.alloc o).heap.size = w.heap.size + 1 from by show (w.heap.push o).size = _; simp] at h
  exact h
/-- What is left of a row of the call's own when it is cut behind some elements. -/
theorem take_ownLoan {w : World} {base : Nat} {a : Option Addr} {cap k : Nat} {xs : List VLoan} (h : w.ownsRow base 43 5 (.slice a xs.length cap) xs.length (cellsLoan xs)) (hk : k ≤ xs.length) :
    w.ownsRow base 43 5 (.slice a k cap) k (cellsLoan (xs.take k)) := by
  have hl : (cellsLoan (xs.take k)).length = k * 5 := by rw [cellsLoan_len, List.length_take]; omega
  refine ⟨hl, ?_⟩
  rcases h.2 with ⟨h0, h1⟩ | ⟨g, cap', cur, e, hg, hh, hn, hcap, hsz, htake⟩
  · simp only [Value.slice.injEq] at h0
    obtain ⟨rfl, h2, rfl⟩ := h0
    exact .inl ⟨by rw [show k = 0 by omega], by omega⟩
  · cases e
    refine .inr ⟨g, cap, cur, rfl, hg, hh, by omega, hcap, hsz, ?_⟩
    have e2 : cellsLoan xs = cellsLoan (xs.take k) ++ cellsLoan (xs.drop k) := by
      unfold cellsLoan
      rw [← List.flatMap_append, List.take_append_drop]
    have h3 := congrArg (List.take (k * 5)) htake
    rw [List.take_take, Nat.min_eq_left (by have := Nat.mul_le_mul_right 5 hk; omega), e2, List.take_append_of_le_length (by omega), List.take_of_length_le (show (cellsLoan (xs.take k)).length ≤ k * 5 by omega)] at h3
    exact h3
/-- A slice of them, as what is appended. -/
theorem srcLoan {w : World} {a : Option Addr} {len cap : Nat} {xs : List VLoan} (h : IsLoanS w a len cap xs) : SrcAt w a len 5 (cellsLoan xs) := by
  refine ⟨by rw [cellsLoan_len, h.1], ?_⟩
  rcases h.2.2.2 with h0 | ⟨b, o, rfl, hb, hat⟩
  · exact .inl h0
  · refine .inr ⟨_, rfl, fun j u hj => ?_⟩
    rw [add_plain]
    have hl := (List.getElem?_eq_some_iff.1 hj).1
    rw [cellsLoan_len] at hl
    obtain ⟨k, r, rfl, hr⟩ : ∃ k r, j = k * 5 + r ∧ r < 5 := ⟨j / 5, j % 5, by omega, Nat.mod_lt _ (by decide)⟩
    have hk : k < xs.length := by omega
    have hs : xs[k]? = some xs[k] := List.getElem?_eq_getElem hk
    have hu := cellsLoan_at hs r hr
    rw [hj] at hu
    have ha := hat k _ hs
    rw [← Nat.add_assoc]
    rcases (show r = 0 ∨ r = 1 ∨ r = 2 ∨ r = 3 ∨ r = 4 by omega) with rfl | rfl | rfl | rfl | rfl
    · rw [hu]; exact ha.1
    · rw [hu]; exact ha.2.1
    · rw [hu]; exact ha.2.2.1
    · rw [hu]; exact ha.2.2.2.1
    · rw [hu]; exact ha.2.2.2.2
/-- Block b holds it, all of it, and may be written. -/
def HBLoan (w : World) (b : Nat) (s : VLoan) : Prop := w.heap[b]? = some (.cells #[.int .i64 s.Sheet, .int .i64 s.Reader, .int .i64 s.Out, .int .i64 s.Due, .int .i64 s.Back] 43 (0, 0))
theorem HBLoan.lt {w : World} {b : Nat} {s : VLoan} (h : HBLoan w b s) : b < w.heap.size := (Array.getElem?_eq_some_iff.1 h).1
theorem HBLoan.new (w : World) (s : VLoan) (B : Nat) (hB : w.heap.size = B) : HBLoan (w.alloc (.cells #[.int .i64 s.Sheet, .int .i64 s.Reader, .int .i64 s.Out, .int .i64 s.Due, .int .i64 s.Back] 43)) B s := hB ▸ heap_alloc_new w _
theorem HBLoan.below {w w' : World} {b : Nat} {s : VLoan} (h : HBLoan w b s) (hb : Below w.heap.size w w') : HBLoan w' b s := (hb.block b h.lt).trans h
theorem HBLoan.grown {w w' : World} {b : Nat} {s : VLoan} {row : Option Nat} (h : HBLoan w b s) (hg : w.grownBy w' row) (hne : some b ≠ row) : HBLoan w' b s := (hg.block b h.lt hne).trans h
theorem HBLoan.drew {w : World} {b : Nat} {s : VLoan} (h : HBLoan w b s) : HBLoan w.drew b s := h
theorem HBLoan.alloc {w : World} {b : Nat} {s : VLoan} (h : HBLoan w b s) (o : Obj) : HBLoan (w.alloc o) b s := (Below.heap_alloc w o b h.lt).trans h
theorem HBLoan.other {w : World} {b b' j : Nat} {s : VLoan} (h : HBLoan w b s) (hne : b ≠ b') (u : Value) : HBLoan (w.setCell ⟨b', j, none⟩ u) b s := (heap_setCell_other w ⟨b', j, none⟩ b u hne).trans h
theorem HBLoan.cells {w : World} {b : Nat} {s : VLoan} (h : HBLoan w b s) : w.cell? ⟨b, 0, none⟩ = some (.int .i64 s.Sheet) ∧ w.cell? ⟨b, 1, none⟩ = some (.int .i64 s.Reader) ∧ w.cell? ⟨b, 2, none⟩ = some (.int .i64 s.Out) ∧ w.cell? ⟨b, 3, none⟩ = some (.int .i64 s.Due) ∧ w.cell? ⟨b, 4, none⟩ = some (.int .i64 s.Back) := by
  unfold HBLoan at h
  refine ⟨?_, ?_, ?_, ?_, ?_⟩ <;> simp [World.cell?, h]
theorem HBLoan.free {w : World} {b : Nat} {s : VLoan} (h : HBLoan w b s) (j : Nat) : w.frozen? ⟨b, j, none⟩ = false := by
  unfold HBLoan at h
  simp [World.frozen?, h]
theorem HBLoan.set0 {w : World} {b : Nat} {s : VLoan} (h : HBLoan w b s) (v : Int) : HBLoan (w.setCell ⟨b, 0, none⟩ (.int .i64 v)) b ⟨v, s.Reader, s.Out, s.Due, s.Back⟩ := heap_setCell_same w b 0 _ _ _ h
theorem HBLoan.set1 {w : World} {b : Nat} {s : VLoan} (h : HBLoan w b s) (v : Int) : HBLoan (w.setCell ⟨b, 1, none⟩ (.int .i64 v)) b ⟨s.Sheet, v, s.Out, s.Due, s.Back⟩ := heap_setCell_same w b 1 _ _ _ h
theorem HBLoan.set2 {w : World} {b : Nat} {s : VLoan} (h : HBLoan w b s) (v : Int) : HBLoan (w.setCell ⟨b, 2, none⟩ (.int .i64 v)) b ⟨s.Sheet, s.Reader, v, s.Due, s.Back⟩ := heap_setCell_same w b 2 _ _ _ h
theorem HBLoan.set3 {w : World} {b : Nat} {s : VLoan} (h : HBLoan w b s) (v : Int) : HBLoan (w.setCell ⟨b, 3, none⟩ (.int .i64 v)) b ⟨s.Sheet, s.Reader, s.Out, v, s.Back⟩ := heap_setCell_same w b 3 _ _ _ h
theorem HBLoan.set4 {w : World} {b : Nat} {s : VLoan} (h : HBLoan w b s) (v : Int) : HBLoan (w.setCell ⟨b, 4, none⟩ (.int .i64 v)) b ⟨s.Sheet, s.Reader, s.Out, s.Due, v⟩ := heap_setCell_same w b 4 _ _ _ h
theorem HBLoan.setAll {w : World} {b : Nat} {s : VLoan} (h : HBLoan w b s) (t : VLoan) : HBLoan (((((w.setCell ⟨b, 0, none⟩ (.int .i64 t.Sheet)).setCell ⟨b, 1, none⟩ (.int .i64 t.Reader)).setCell ⟨b, 2, none⟩ (.int .i64 t.Out)).setCell ⟨b, 3, none⟩ (.int .i64 t.Due)).setCell ⟨b, 4, none⟩ (.int .i64 t.Back)) b t :=
  (heap_setCell_same _ b 4 _ _ _ (heap_setCell_same _ b 3 _ _ _ (heap_setCell_same _ b 2 _ _ _ (heap_setCell_same _ b 1 _ _ _ (heap_setCell_same _ b 0 _ _ _ h)))))
theorem HBLoan.otherAll {w : World} {b b' : Nat} {s : VLoan} (h : HBLoan w b s) (hne : b ≠ b') (x0 x1 x2 x3 x4 : Value) : HBLoan (((((w.setCell ⟨b', 0, none⟩ x0).setCell ⟨b', 1, none⟩ x1).setCell ⟨b', 2, none⟩ x2).setCell ⟨b', 3, none⟩ x3).setCell ⟨b', 4, none⟩ x4) b s :=
  (((((h.other hne x0).other hne x1).other hne x2).other hne x3).other hne x4)
/-- It lies in the box b of some type. -/
def BoxLoan (w : World) (b : Nat) (s : VLoan) : Prop := w.cell? ⟨b, 0, none⟩ = some (.int .i64 s.Sheet) ∧ w.cell? ⟨b, 1, none⟩ = some (.int .i64 s.Reader) ∧ w.cell? ⟨b, 2, none⟩ = some (.int .i64 s.Out) ∧ w.cell? ⟨b, 3, none⟩ = some (.int .i64 s.Due) ∧ w.cell? ⟨b, 4, none⟩ = some (.int .i64 s.Back)
theorem BoxLoan.new (w : World) (t : TypeId) (s : VLoan) (B : Nat) (hB : w.heap.size = B) : BoxLoan (w.alloc (.cells #[.int .i64 s.Sheet, .int .i64 s.Reader, .int .i64 s.Out, .int .i64 s.Due, .int .i64 s.Back] t)) B s := by
  subst hB
  refine ⟨?_, ?_, ?_, ?_, ?_⟩ <;> simp [World.cell?_alloc_new]
theorem BoxLoan.lt {w : World} {b : Nat} {s : VLoan} (h : BoxLoan w b s) : b < w.heap.size := World.lt_of_cell h.1
theorem BoxLoan.below {w w' : World} {b : Nat} {s : VLoan} (h : BoxLoan w b s) (hb : Below w.heap.size w w') : BoxLoan w' b s :=
  ⟨(hb.cell (p := ⟨b, 0, none⟩) h.lt).trans h.1, (hb.cell (p := ⟨b, 1, none⟩) h.lt).trans h.2.1, (hb.cell (p := ⟨b, 2, none⟩) h.lt).trans h.2.2.1, (hb.cell (p := ⟨b, 3, none⟩) h.lt).trans h.2.2.2.1, (hb.cell (p := ⟨b, 4, none⟩) h.lt).trans h.2.2.2.2⟩
theorem BoxLoan.grown {w w' : World} {b : Nat} {s : VLoan} {row : Option Nat} (h : BoxLoan w b s) (hg : w.grownBy w' row) (hne : some b ≠ row) : BoxLoan w' b s :=
  ⟨(World.cell?_of_block (w := w) (a := ⟨b, 0, none⟩) (hg.block b h.lt hne)).trans h.1, (World.cell?_of_block (w := w) (a := ⟨b, 1, none⟩) (hg.block b h.lt hne)).trans h.2.1, (World.cell?_of_block (w := w) (a := ⟨b, 2, none⟩) (hg.block b h.lt hne)).trans h.2.2.1, (World.cell?_of_block (w := w) (a := ⟨b, 3, none⟩) (hg.block b h.lt hne)).trans h.2.2.2.1, (World.cell?_of_block (w := w) (a := ⟨b, 4, none⟩) (hg.block b h.lt hne)).trans h.2.2.2.2⟩
def zerosLoan (n : Nat) : List Value := (List.replicate n [.int .i64 0, .int .i64 0, .int .i64 0, .int .i64 0, .int .i64 0]).flatten
theorem zerosLoan_succ (n : Nat) : zerosLoan (n + 1) = .int .i64 0 :: .int .i64 0 :: .int .i64 0 :: .int .i64 0 :: .int .i64 0 :: zerosLoan n := by
  unfold zerosLoan; rw [List.replicate_succ]; rfl
theorem zerosLoan_len (n : Nat) : (zerosLoan n).length = n * 5 := by
  induction n with
  | zero => rfl
  | succ n ih => rw [zerosLoan_succ]; simp [ih]; omega
theorem zerosLoan_at (n j : Nat) (h : j < n * 5) : (zerosLoan n)[j]? = [.int .i64 0, .int .i64 0, .int .i64 0, .int .i64 0, .int .i64 0][j % 5]? := by
  induction n generalizing j with
  | zero => omega
  | succ n ih =>
    rw [zerosLoan_succ]
    by_cases hj : j < 5
    · rw [Nat.mod_eq_of_lt hj]
      rcases (show j = 0 ∨ j = 1 ∨ j = 2 ∨ j = 3 ∨ j = 4 by omega) with rfl | rfl | rfl | rfl | rfl <;> rfl
    · obtain ⟨i, rfl⟩ : ∃ i, j = i + 5 := ⟨j - 5, by omega⟩
      rw [Nat.add_mod_right, ← ih i (by omega)]
      rfl
theorem madeLoan (n : Nat) : (madeCells (.agg #[.int .i64 0, .int .i64 0, .int .i64 0, .int .i64 0, .int .i64 0] : Value).cells (n * 5)).toList = zerosLoan n := by
  apply List.ext_getElem?
  intro j
  rw [Array.getElem?_toList]
  by_cases h : j < n * 5
  · rw [zerosLoan_at n j h]
    have hm : j % 5 < 5 := Nat.mod_lt _ (by decide)
    simp only [madeCells, Value.cells]
    rw [Array.getElem?_eq_getElem (by simpa using h)]
    rcases (show j % 5 = 0 ∨ j % 5 = 1 ∨ j % 5 = 2 ∨ j % 5 = 3 ∨ j % 5 = 4 by omega) with e | e | e | e | e <;> simp [e]
  · rw [List.getElem?_eq_none (by rw [zerosLoan_len]; omega)]
    simp [madeCells, h]
theorem setLoan (A L : List Value) (v0 v1 v2 v3 v4 : Value) (o : Nat) (hA : A.length = o) (hL : o + 5 ≤ L.length) :
    ((((((A ++ L.drop o).set (o) v0).set (o + 1) v1).set (o + 2) v2).set (o + 3) v3).set (o + 4) v4) = A ++ v0 :: v1 :: v2 :: v3 :: v4 :: L.drop (o + 5) := by
  subst hA
  obtain ⟨a0, a1, a2, a3, a4, e⟩ : ∃ a0 a1 a2 a3 a4, L.drop A.length = a0 :: a1 :: a2 :: a3 :: a4 :: L.drop (A.length + 5) := ⟨_, _, _, _, _, by rw [List.drop_eq_getElem_cons (show A.length < L.length by omega), List.drop_eq_getElem_cons (show A.length + 1 < L.length by omega), List.drop_eq_getElem_cons (show A.length + 2 < L.length by omega), List.drop_eq_getElem_cons (show A.length + 3 < L.length by omega), List.drop_eq_getElem_cons (show A.length + 4 < L.length by omega)]⟩
  rw [e]
  generalize L.drop (A.length + 5) = D
  simp [List.set_append_right]
theorem storedLoan {w : World} {base n c g o : Nat} {e : TypeId} {size : Nat} {A L : List Value} (h : w.ownsRow base e size (.slice (some ⟨g, 0, none⟩) n c) n (A ++ L.drop o)) (hA : A.length = o) (hL : o + 5 ≤ L.length) (v0 v1 v2 v3 v4 : Value) :
    (((((w.setCell ⟨g, o, none⟩ v0).setCell ⟨g, o + 1, none⟩ v1).setCell ⟨g, o + 2, none⟩ v2).setCell ⟨g, o + 3, none⟩ v3).setCell ⟨g, o + 4, none⟩ v4).ownsRow base e size (.slice (some ⟨g, 0, none⟩) n c) n (A ++ v0 :: v1 :: v2 :: v3 :: v4 :: L.drop (o + 5)) ∧ w.grownBy (((((w.setCell ⟨g, o, none⟩ v0).setCell ⟨g, o + 1, none⟩ v1).setCell ⟨g, o + 2, none⟩ v2).setCell ⟨g, o + 3, none⟩ v3).setCell ⟨g, o + 4, none⟩ v4) (some g) := by
  have h0 := h.stored (o) v0
  have h1 := h0.1.stored (o + 1) v1
  have h2 := h1.1.stored (o + 2) v2
  have h3 := h2.1.stored (o + 3) v3
  have h4 := h3.1.stored (o + 4) v4
  refine ⟨?_, (grown_trans (grown_trans (grown_trans (grown_trans h0.2 h1.2) h2.2) h3.2) h4.2)⟩
  have := h4.1
  rw [setLoan A L v0 v1 v2 v3 v4 o hA hL] at this
  exact this
/-- A row of the call's own, and the world below as it was. -/
def LoanRow (xs : List VLoan) (w : World) (e : Ending) (w' : World) : Prop := ∃ v, e = .returned v ∧ w'.ownsRow w.heap.size 43 5 v xs.length (cellsLoan xs) ∧ Below w.heap.size w w'
theorem cellsLoan_drop (xs : List VLoan) (i : Nat) : (cellsLoan xs).drop (i * 5) = cellsLoan (xs.drop i) := by
  by_cases h : i ≤ xs.length
  · have e : cellsLoan xs = cellsLoan (xs.take i) ++ cellsLoan (xs.drop i) := by
      unfold cellsLoan
      rw [← List.flatMap_append, List.take_append_drop]
    have hl : (cellsLoan (xs.take i)).length = i * 5 := by rw [cellsLoan_len, List.length_take]; omega
    rw [e, List.drop_append_of_le_length (by omega), List.drop_of_length_le (by omega), List.nil_append]
  · rw [List.drop_of_length_le (show xs.length ≤ i by omega), List.drop_of_length_le (by rw [cellsLoan_len]; omega)]; rfl
theorem cellsLoan_take (xs : List VLoan) (i : Nat) : cellsLoan xs = cellsLoan (xs.take i) ++ (cellsLoan xs).drop (i * 5) := by
  rw [cellsLoan_drop]
  unfold cellsLoan
  rw [← List.flatMap_append, List.take_append_drop]
theorem cellsLoan_set (xs : List VLoan) (i : Nat) (r : VLoan) (h : i < xs.length) : cellsLoan (xs.set i r) = cellsLoan (xs.take i) ++ (r.vals ++ (cellsLoan xs).drop (i * 5 + 5)) := by
  rw [List.set_eq_take_append_cons_drop, if_pos h, show i * 5 + 5 = (i + 1) * 5 by omega, cellsLoan_drop]
  simp [cellsLoan]
/-- An element of a row of the call's own is replaced. -/
theorem own_setLoan {w : World} {base m c g i : Nat} {xs : List VLoan} (h : w.ownsRow base 43 5 (.slice (some ⟨g, 0, none⟩) m c) m (cellsLoan xs)) (hi : i < xs.length) (r : VLoan) :
    (((((w.setCell ⟨g, i * 5, none⟩ (.int .i64 r.Sheet)).setCell ⟨g, i * 5 + 1, none⟩ (.int .i64 r.Reader)).setCell ⟨g, i * 5 + 2, none⟩ (.int .i64 r.Out)).setCell ⟨g, i * 5 + 3, none⟩ (.int .i64 r.Due)).setCell ⟨g, i * 5 + 4, none⟩ (.int .i64 r.Back)).ownsRow base 43 5 (.slice (some ⟨g, 0, none⟩) m c) m (cellsLoan (xs.set i r)) ∧ w.grownBy (((((w.setCell ⟨g, i * 5, none⟩ (.int .i64 r.Sheet)).setCell ⟨g, i * 5 + 1, none⟩ (.int .i64 r.Reader)).setCell ⟨g, i * 5 + 2, none⟩ (.int .i64 r.Out)).setCell ⟨g, i * 5 + 3, none⟩ (.int .i64 r.Due)).setCell ⟨g, i * 5 + 4, none⟩ (.int .i64 r.Back)) (some g) := by
  rw [cellsLoan_set xs i r hi]
  rw [cellsLoan_take xs i] at h
  exact storedLoan h (by rw [cellsLoan_len, List.length_take]; omega) (by rw [cellsLoan_len]; omega) (.int .i64 r.Sheet) (.int .i64 r.Reader) (.int .i64 r.Out) (.int .i64 r.Due) (.int .i64 r.Back)
/-- The marks from b on, and n of them. -/
def markLoan (b : Nat) : VLoan := ⟨((b : Nat) : Int), ((b + 1 : Nat) : Int), ((b + 2 : Nat) : Int), ((b + 3 : Nat) : Int), ((b + 4 : Nat) : Int)⟩
def marksLoan (k n : Nat) : List VLoan := (List.range n).map fun i => markLoan (k + i * 5)
theorem marksLoan_len (k n : Nat) : (marksLoan k n).length = n := by simp [marksLoan]
theorem marksLoan_succ (k n : Nat) : marksLoan k (n + 1) = marksLoan k n ++ [markLoan (k + n * 5)] := by simp [marksLoan, List.range_succ]
theorem marksLoan_at (k n i : Nat) (h : i < n) : (marksLoan k n)[i]? = some (markLoan (k + i * 5)) := by simp [marksLoan, h]
def LoanMarked (base k n : Nat) (v : Value) (w : World) (e : Ending) (w' : World) : Prop := e = .returned (.int .i64 ((k + n * 5 : Nat) : Int)) ∧ w'.ownsRow base 43 5 v n (cellsLoan (marksLoan k n)) ∧ w.grownBy w' v.ownBlock
end Go.Proofs.YtffbljbgmgifnaaGreatDoor
namespace Go.Proofs.YtffbljbgmgifnaaGreatDoor
section
variable {α : Type}

/-- The index of the first element that fits, or -1. -/
def firstOf (f : α → Bool) : List α → Int
  | [] => -1
  | s :: l => if f s = true then 0 else if firstOf f l < 0 then -1 else firstOf f l + 1
theorem firstOf_cases (f : α → Bool) (xs : List α) : (firstOf f xs = -1 ∧ ∀ s ∈ xs, f s = false) ∨ ∃ (i : Nat) (s : α), firstOf f xs = (i : Int) ∧ xs[i]? = some s ∧ f s = true ∧ ∀ (j : Nat) t, j < i → xs[j]? = some t → f t = false := by
  induction xs with
  | nil => exact .inl ⟨rfl, by simp⟩
  | cons x l ih =>
    by_cases h : f x = true
    · exact .inr ⟨0, x, by simp [firstOf, h], rfl, h, by omega⟩
    · have h' : f x = false := by simpa using h
      rcases ih with ⟨h1, h2⟩ | ⟨i, s, h1, h2, h3, h4⟩
      · exact .inl ⟨by simp [firstOf, h', h1], by simpa [h'] using h2⟩
      · refine .inr ⟨i + 1, s, by simp [firstOf, h', h1]; omega, h2, h3, fun j t hj ht => ?_⟩
        match j, ht with
        | 0, ht => simp at ht; rw [← ht]; exact h'
        | j + 1, ht => exact h4 j t (by omega) ht
theorem firstOf_at {f : α → Bool} {xs : List α} {i : Nat} {s : α} (hs : xs[i]? = some s) (hf : f s = true) (hb : ∀ (j : Nat) t, j < i → xs[j]? = some t → f t = false) : firstOf f xs = (i : Int) := by
  rcases firstOf_cases f xs with ⟨_, h2⟩ | ⟨i', s', h1, h2, h3, h4⟩
  · rw [h2 s (List.mem_of_getElem? hs)] at hf; cases hf
  · rw [h1]
    have : i' = i := by
      rcases Nat.lt_trichotomy i i' with h | h | h
      · rw [h4 i s h hs] at hf; cases hf
      · exact h.symm
      · rw [hb i' s' h h2] at h3; cases h3
    rw [this]
theorem firstOf_none {f : α → Bool} {xs : List α} (h : ∀ s ∈ xs, f s = false) : firstOf f xs = -1 := by
  rcases firstOf_cases f xs with ⟨h1, _⟩ | ⟨i, s, _, h2, h3, _⟩
  · exact h1
  · rw [h s (List.mem_of_getElem? h2)] at h3; cases h3
theorem firstOf_no {f : α → Bool} {xs : List α} (h : ∀ (j : Nat) t, j < xs.length → xs[j]? = some t → f t = false) : firstOf f xs = -1 :=
  firstOf_none fun s hs => by
    obtain ⟨j, hj⟩ := List.getElem?_of_mem hs
    exact h j s (List.getElem?_eq_some_iff.1 hj).1 hj
theorem firstOf_bd (f : α → Bool) (xs : List α) : -1 ≤ firstOf f xs ∧ firstOf f xs < (xs.length : Int) := by
  rcases firstOf_cases f xs with ⟨h1, _⟩ | ⟨i, s, h1, h2, _⟩
  · omega
  · have := (List.getElem?_eq_some_iff.1 h2).1; omega

/-- Is the element i right: valid, and its number greater than that of the one before? -/
def upStep (ok : α → Bool) (id : α → Int) (xs : List α) (i : Nat) : Bool :=
  match xs[i]? with
  | none => true
  | some s => ok s && (i == 0 || (match xs[i - 1]? with | some p => decide (id p < id s) | none => true))
def upB (ok : α → Bool) (id : α → Int) (xs : List α) : Bool := (List.range xs.length).all (upStep ok id xs)
variable {ok : α → Bool} {id : α → Int} {xs : List α}
theorem upB_iff : upB ok id xs = true ↔ ∀ i, i < xs.length → upStep ok id xs i = true := by simp [upB]
theorem upB_bad {i : Nat} (h : upStep ok id xs i = false) (hi : i < xs.length) : upB ok id xs = false := by
  by_cases h2 : upB ok id xs = true
  · rw [upB_iff.1 h2 i hi] at h; cases h
  · simpa using h2
theorem upStep_zero {s : α} (hs : xs[0]? = some s) : upStep ok id xs 0 = ok s := by unfold upStep; rw [hs]; simp
theorem upStep_succ {i : Nat} {p s : α} (hp : xs[i]? = some p) (hs : xs[i + 1]? = some s) : upStep ok id xs (i + 1) = (ok s && decide (id p < id s)) := by
  unfold upStep; rw [hs]; simp [hp]
theorem upStep_at {i : Nat} {p s : α} (h : 0 < i) (hp : xs[i - 1]? = some p) (hs : xs[i]? = some s) : upStep ok id xs i = (ok s && decide (id p < id s)) := by
  obtain ⟨j, rfl⟩ : ∃ j, i = j + 1 := ⟨i - 1, by omega⟩
  exact upStep_succ hp hs
theorem upB_ok (h : upB ok id xs = true) {s : α} (hs : s ∈ xs) : ok s = true := by
  obtain ⟨i, hi⟩ := List.getElem?_of_mem hs
  have h1 := upB_iff.1 h i (List.getElem?_eq_some_iff.1 hi).1
  unfold upStep at h1
  rw [hi] at h1
  simp at h1
  exact h1.1
theorem upB_lt (h : upB ok id xs = true) : ∀ (j i : Nat) (s t : α), i < j → xs[i]? = some s → xs[j]? = some t → id s < id t := by
  intro j
  induction j with
  | zero => intro i s t hi; omega
  | succ j ih =>
    intro i s t hij hs ht
    have hl := (List.getElem?_eq_some_iff.1 ht).1
    obtain ⟨p, hp⟩ : ∃ p, xs[j]? = some p := ⟨xs[j]'(by omega), List.getElem?_eq_getElem _⟩
    have hpt : id p < id t := by
      have h1 := upB_iff.1 h (j + 1) hl
      rw [upStep_succ hp ht] at h1
      simp at h1
      exact h1.2
    by_cases e : i = j
    · subst e; rw [hs] at hp; cases hp; exact hpt
    · exact Int.lt_trans (ih i s p (by omega) hs hp) hpt
theorem upB_same (h : upB ok id xs = true) {s t : α} (hs : s ∈ xs) (ht : t ∈ xs) (e : id s = id t) : s = t := by
  obtain ⟨i, hi⟩ := List.getElem?_of_mem hs
  obtain ⟨j, hj⟩ := List.getElem?_of_mem ht
  rcases Nat.lt_trichotomy i j with h1 | h1 | h1
  · have := upB_lt h j i s t h1 hi hj; omega
  · subst h1; rw [hi] at hj; exact Option.some.inj hj
  · have := upB_lt h i j t s h1 hj hi; omega
/-- Where the element with a number stands. -/
theorem upB_first (h : upB ok id xs = true) {i : Nat} {s : α} (hs : xs[i]? = some s) : firstOf (fun t => id t == id s) xs = (i : Int) :=
  firstOf_at hs (by simp) fun j t hj ht => by
    have := upB_lt h i j t s hj ht hs
    simp; omega
theorem filter_snoc' {k : Nat} {s : α} (f : α → Bool) (hs : xs[k]? = some s) : (xs.take (k + 1)).filter f = (xs.take k).filter f ++ (if f s = true then [s] else []) := by
  rw [List.take_add_one, hs, List.filter_append]
  cases h : f s <;> simp [h]
theorem filter_len' (f : α → Bool) (xs : List α) (k : Nat) : ((xs.take k).filter f).length ≤ k := Nat.le_trans (List.length_filter_le _ _) (by rw [List.length_take]; omega)
end
end Go.Proofs.YtffbljbgmgifnaaGreatDoor
