/- Readers in the program: where one stands; copies; a copy with one replaced. -/
import Derived.Test.YtidaoijpbdljbabDoorRi2
import Derived.Test.YtidaoijpbdljbabDoorReaderL
import Derived.Test.YtidaoijpbdljbabDoorStrClone
import Derived.Test.YtidaoijpbdljbabDoorReaderFb
namespace Go.Proofs.YtidaoijpbdljbabDoor
open Go.RowKit

theorem cell_new1 (w : World) (v : Value) (t : TypeId) (B : Nat) (hB : w.heap.size = B) : (w.alloc (.cells #[v] t)).cell? ⟨B, 0, none⟩ = some v := by
  subst hB
  simp [World.cell?_alloc_new]
theorem cell_kept {w w' : World} {b o : Nat} {v : Value} (h : w.cell? ⟨b, o, none⟩ = some v) (hb : Below w.heap.size w w') : w'.cell? ⟨b, o, none⟩ = some v := (hb.cell (p := ⟨b, o, none⟩) (World.lt_of_cell h)).trans h
theorem set_same {α : Type} {l : List α} {i : Nat} {v : α} (h : l[i]? = some v) : l.set i v = l := by
  apply List.ext_getElem?
  intro j
  by_cases e : i = j
  · subst e; obtain ⟨hl, hv⟩ := List.getElem?_eq_some_iff.1 h; rw [List.getElem?_set_self hl, h]
  · rw [List.getElem?_set_ne e]
/-- What the search for a reader leaves. -/
def FindPost (xs : List VReader) (id : Int) (w : World) (e : Ending) (w' : World) : Prop :=
  ∃ z : Int, e = .returned (.tuple #[.int .i64 z, .bool (decide (0 ≤ rdFind xs id))]) ∧ (0 ≤ rdFind xs id → z = rdFind xs id) ∧ Below w.heap.size w w'
theorem find_no {xs : List VReader} {id : Int} {w w' : World} {e : Ending} (h : FindPost xs id w e w') (hn : rdFind xs id = -1) : ∃ z : Int, e = .returned (.tuple #[.int .i64 z, .bool false]) ∧ Below w.heap.size w w' := by
  obtain ⟨z, rfl, _, hb⟩ := h
  exact ⟨z, by rw [hn]; rfl, hb⟩
theorem find_yes {xs : List VReader} {id : Int} {w w' : World} {e : Ending} {i : Nat} (h : FindPost xs id w e w') (hn : rdFind xs id = (i : Int)) : e = .returned (.tuple #[.int .i64 (i : Int), .bool true]) ∧ Below w.heap.size w w' := by
  obtain ⟨z, rfl, hz, hb⟩ := h
  have h0 : 0 ≤ rdFind xs id := by omega
  rw [hz h0, hn] at *
  exact ⟨by rw [decide_eq_true (by omega)], hb⟩
set_option maxHeartbeats 1600000 in
set_option maxRecDepth 100000 in
theorem findReader_any (a : Option Addr) (len cap : Nat) (xs : List VReader) (id : Int) (w : World) (h : IsReaderS w a len cap xs) :
    Calls Tryd.prog 32 #[.slice a len cap, .int .i64 id] w (FindPost xs id w) := by
  have E := Lib.hid (show (areRd xs && decide (0 ≤ firstOf (fun s : VReader => s.Id == id) xs)) = decide (0 ≤ rdFind xs id) from by
    unfold rdFind; cases areRd xs <;> simp)
  have E2 := Lib.hid (show 0 ≤ rdFind xs id → areRd xs = true ∧ rdFind xs id = firstOf (fun s => s.Id == id) xs from by
    unfold rdFind; cases areRd xs <;> simp)
  have S0 := Lib.hid h
  clear h
  go_enter Tryd.func32, Tryd.ntmps32
  go_wp2_with fail
  refine (findByReader_any 29 47 (areRd xs) VReader.Id _ _ _ xs id _ S0.out (enters_fn Tryd.func29 (by kernel_rfl) (by kernel_rfl)) (enters_fn Tryd.func47 (by kernel_rfl) (by kernel_rfl)) (fun W hW => areRd_any _ _ _ xs W hW) (fun W s => readerId_any s W)).mono ?_
  rintro e w1 ⟨z, rfl, hz, hb⟩
  have B1 := Lib.hid hb
  have HZ := Lib.hid hz
  rw [E.out]
  obtain ⟨q, hq⟩ : ∃ q, decide (0 ≤ rdFind xs id) = q := ⟨_, rfl⟩
  have Q := Lib.hid hq
  rw [hq]
  clear hb hz hq
  go_wp2
  go_ret2
  exact ⟨_, by rw [Q.out]; rfl, fun h => by rw [(E2.out h).2]; exact HZ.out (E2.out h).1, B1.out⟩
set_option maxHeartbeats 3200000 in
set_option maxRecDepth 100000 in
theorem copyReaders_any (a : Option Addr) (len cap : Nat) (xs : List VReader) (w : World) (h : IsReaderS w a len cap xs) (hx : xs.length ≤ 1048576) (hz : ∀ s ∈ xs, s.sized) :
    Calls Tryd.prog 30 #[.slice a len cap] w (ReaderRow xs w) := by
  have S := Lib.hid h
  have HZ := Lib.hid hz
  clear h hz
  go_enter Tryd.func30, Tryd.ntmps30
  go_wp2_with fail
  refine (cloneReader_any _ _ _ xs _ S.out hx).mono ?_
  rintro e w1 ⟨v, rfl, hown, hb⟩
  have hv : ∃ a1 c1, v = .slice a1 xs.length c1 := by
    rcases hown.2 with ⟨e1, e2⟩ | ⟨g, c, _, e1, _⟩
    · exact ⟨none, 0, by rw [e1, e2]⟩
    · exact ⟨_, _, e1⟩
  obtain ⟨a1, c1, rfl⟩ := hv
  have O1 := Lib.hid hown
  have B1 := Lib.hid hb
  clear hown hb
  go_wp2
  go_loopw [10] (fun i wr => ∃ k : Nat, k ≤ xs.length ∧ i = .int .i64 k ∧ wr.ownsRow w.heap.size 36 5 (.slice a1 xs.length c1) xs.length (cellsReader xs) ∧ Below w.heap.size w wr) (fun i _ => xs.length - (intOf i).toNat)
  case atStart => exact ⟨0, Nat.zero_le _, rfl, O1.out, B1.out⟩
  case round =>
    obtain ⟨k, hk, rfl, hown, hbel⟩ := hrel
    have O := Lib.hid hown
    have B := Lib.hid hbel
    by_cases hlt : k < xs.length
    · obtain ⟨s, hs⟩ : ∃ s, xs[k]? = some s := ⟨xs[k]'hlt, List.getElem?_eq_getElem _⟩
      obtain ⟨g, c, e1, hg, hn, hc⟩ := own_some hown (by omega)
      cases e1
      obtain ⟨_, _, e2, his, _⟩ := isReaderS_own hown (rd_sized_small HZ.out)
      cases e2
      obtain ⟨b, o, e3, _, hat⟩ := his.at (by omega)
      cases e3
      obtain ⟨d0, d1, d2, d3, d4, _⟩ := hat k s hs
      simp only [Nat.zero_add] at d0 d1 d2 d3 d4
      have K := Lib.hid hs
      have NS := Lib.hid (HZ.out s (List.mem_of_getElem? hs))
      have hi0 : (0 : Int) ≤ (k : Int) := by omega
      have hi1 : (k : Int) < (xs.length : Int) := by omega
      clear hown hbel hs his hat
      go_wp2_with fail
      refine (str_clone s.Name _ NS.out).mono ?_
      rintro e w2 ⟨rfl, hb⟩
      have hb2 := Below.then' (bel_al1 _ _) hb
      have O2 := Lib.hid (ownsRow_below O.out hb2)
      have B2 := Lib.hid (Below.then' B.out hb2)
      clear hb hb2 d0 d1 d2 d3 d4
      have f1 := O2.out.frozenAt (k * 5 + 1)
      obtain ⟨u1, d1⟩ := own_cell O2.out (k * 5 + 1) (by rw [cellsReader_len]; omega)
      have T := Lib.hid (O2.out.stored (k * 5 + 1) (.string s.Name))
      have hsz := B2.out.size
      go_wp2
      go_roundw
      case rel =>
        refine ⟨k + 1, by omega, by go_num, ?_, B2.out.grown T.out.2 hsz (fun j e => (O2.out.lt j e).1)⟩
        have h := T.out.1
        rw [set_same (cellsReader_at K.out 1 (by decide))] at h
        exact h
      case measure => simp [intOf]; omega
    · obtain rfl : k = xs.length := by omega
      have hcc : c1 ≤ 9223372036854775807 ∧ xs.length ≤ c1 := by
        rcases hown.2 with ⟨e1, e2⟩ | ⟨g, c, _, e1, _, _, h1, h2, _⟩
        · simp only [Value.slice.injEq] at e1; omega
        · cases e1; unfold maxLen at h2; omega
      clear hbel hown
      go_wp2
      go_ret
      exact ⟨_, rfl, O.out, B.out⟩
set_option maxHeartbeats 3200000 in
set_option maxRecDepth 100000 in
theorem withReader_any (a : Option Addr) (len cap : Nat) (xs : List VReader) (i : Nat) (r : VReader) (w : World) (h : IsReaderS w a len cap xs) (hi' : i < xs.length) (hx : xs.length ≤ 1048576) (hz : ∀ s ∈ xs, s.sized) (hr : r.sized) :
    Calls Tryd.prog 36 #[.slice a len cap, .int .i64 (i : Int), .agg #[.int .i64 r.Id, .string r.Name, .int .i64 r.Joined, .int .i64 r.Class, .int .i64 r.Fines]] w (ReaderRow (xs.set i r) w) := by
  have B0 := Lib.hid (bel_al1 w (.cells #[.int .i64 r.Id, .string r.Name, .int .i64 r.Joined, .int .i64 r.Class, .int .i64 r.Fines] 36))
  have X0 := Lib.hid (BoxReader.new w 36 r _ rfl)
  have S0 := Lib.hid (h.below B0.out)
  have SM := Lib.hid (show ∀ s ∈ xs.set i r, s.sized from fun s hs => (List.mem_or_eq_of_mem_set hs).elim (hz s) (fun e => e ▸ hr))
  clear h hz hr
  go_enter Tryd.func36, Tryd.ntmps36
  go_wp2_with fail
  refine (cloneReader_any _ _ _ xs _ S0.out hx).mono ?_
  rintro e w1 ⟨v, rfl, hown, hb⟩
  obtain ⟨g, c1, rfl, hg, hn, hc⟩ := own_some hown (by omega)
  have B1 := Lib.hid (Below.then' B0.out hb)
  obtain ⟨p0, p1, p2, p3, p4⟩ := X0.out.below hb
  have O1 := Lib.hid hown
  have hg' : w.heap.size ≤ g := by rw [size_al] at hg; omega
  clear hown hb
  have hi0 : (0 : Int) ≤ (i : Int) := by omega
  have hi1 : (i : Int) < (xs.length : Int) := by omega
  have f0 := O1.out.frozenAt (i * 5)
  obtain ⟨u0, d0⟩ := own_cell O1.out (i * 5) (by rw [cellsReader_len]; omega)
  have f1 := O1.out.frozenAt (i * 5 + 1)
  obtain ⟨u1, d1⟩ := own_cell O1.out (i * 5 + 1) (by rw [cellsReader_len]; omega)
  have f2 := O1.out.frozenAt (i * 5 + 2)
  obtain ⟨u2, d2⟩ := own_cell O1.out (i * 5 + 2) (by rw [cellsReader_len]; omega)
  have f3 := O1.out.frozenAt (i * 5 + 3)
  obtain ⟨u3, d3⟩ := own_cell O1.out (i * 5 + 3) (by rw [cellsReader_len]; omega)
  have f4 := O1.out.frozenAt (i * 5 + 4)
  obtain ⟨u4, d4⟩ := own_cell O1.out (i * 5 + 4) (by rw [cellsReader_len]; omega)
  have h5 := own_setReader O1.out hi' r
  have B5 := Lib.hid (B1.out.grown h5.2 B1.out.size (fun k e => by cases e; exact hg'))
  have hown5 := h5.1
  rw [show xs.length = (xs.set i r).length from List.length_set.symm] at hown5
  obtain ⟨a5, c5, e5, his, _⟩ := isReaderS_own hown5 (rd_sized_small SM.out)
  cases e5
  rw [List.length_set] at his
  have S5 := Lib.hid his
  clear h5 hown5 his
  go_wp2_with fail
  refine (copyReaders_any _ _ _ (xs.set i r) _ S5.out (by rw [List.length_set]; exact hx) SM.out).mono ?_
  rintro e w2 ⟨v, rfl, hown, hb⟩
  have O := Lib.hid (ownsRow_base hown B5.out.size)
  have B6 := Lib.hid (Below.then' B5.out hb)
  clear hown hb
  go_wp2
  go_ret
  exact ⟨_, rfl, O.out, B6.out⟩
end Go.Proofs.YtidaoijpbdljbabDoor
