/- Texts in one: StrClone, Fb0, ReaderFb, Ri3, Up2, Ri4, Ri5, AppL2. -/
import Derived.Test.YtidaoijpbdljbabGreatDoorM1
import Derived.Test.YtidaoijpbdljbabGreatDoorShelf
import Derived.Test.YtidaoijpbdljbabGreatDoorM3
import Derived.Test.YtidaoijpbdljbabGreatDoorM2
import Derived.Deep.RegionLaw
namespace Go.Proofs.YtidaoijpbdljbabGreatDoor
open Go.RowKit

theorem str_clone (s : ByteArray) (w : World) (hs : s.size ≤ 1048576) :
    Calls Tryz.prog 32 #[.string s] w fun e w' => e = .returned (.string s) ∧ Below w.heap.size w w' := by
  go_enter Tryz.func32, Tryz.ntmps32
  go_wp2_with (go_at_call 64; refine (Tryz.stringslite_Clone _ _ (by omega)).mono ?_; rintro e w' ⟨rfl, hb⟩)
  go_ret
  exact ⟨rfl, hb⟩
end Go.Proofs.YtidaoijpbdljbabGreatDoor
namespace Go.Proofs.YtidaoijpbdljbabGreatDoor
open Go.RowKit
/-- The place of the first element that fits, where the list is valid, and whether there is one. -/
def FoundBy {α : Type} (q : Bool) (f : α → Bool) (xs : List α) (w : World) (e : Ending) (w' : World) : Prop :=
  ∃ z : Int, e = .returned (.tuple #[.int .i64 z, .bool (q && decide (0 ≤ firstOf f xs))]) ∧ (q = true → z = firstOf f xs) ∧ Below w.heap.size w w'
theorem FoundBy.bad {α : Type} {q : Bool} {f : α → Bool} {xs : List α} {w w' : World} {e : Ending} (h : FoundBy q f xs w e w') (hq : q = false) : ∃ z : Int, e = .returned (.tuple #[.int .i64 z, .bool false]) ∧ Below w.heap.size w w' := by
  obtain ⟨z, rfl, _, hb⟩ := h
  exact ⟨z, by rw [hq]; rfl, hb⟩
theorem FoundBy.none {α : Type} {q : Bool} {f : α → Bool} {xs : List α} {w w' : World} {e : Ending} (h : FoundBy q f xs w e w') (hn : firstOf f xs = -1) : ∃ z : Int, e = .returned (.tuple #[.int .i64 z, .bool false]) ∧ Below w.heap.size w w' := by
  obtain ⟨z, rfl, _, hb⟩ := h
  exact ⟨z, by rw [hn]; simp, hb⟩
theorem FoundBy.some {α : Type} {q : Bool} {f : α → Bool} {xs : List α} {w w' : World} {e : Ending} {i : Nat} (h : FoundBy q f xs w e w') (hq : q = true) (hn : firstOf f xs = (i : Int)) : e = .returned (.tuple #[.int .i64 (i : Int), .bool true]) ∧ Below w.heap.size w w' := by
  obtain ⟨z, rfl, hz, hb⟩ := h
  rw [hz hq, hn, hq, decide_eq_true (by omega)]
  exact ⟨rfl, hb⟩
theorem firstOf_any {α : Type} (f : α → Bool) (xs : List α) : decide (0 ≤ firstOf f xs) = xs.any f := by
  rcases firstOf_cases f xs with ⟨h1, h2⟩ | ⟨i, s, h1, h2, h3, _⟩
  · rw [h1, show xs.any f = false from by rw [List.any_eq_false]; intro x hx; simp [h2 x hx]]; rfl
  · rw [h1, show xs.any f = true from List.any_eq_true.2 ⟨s, List.mem_of_getElem? h2, h3⟩, decide_eq_true (by omega)]
end Go.Proofs.YtidaoijpbdljbabGreatDoor
namespace Go.Proofs.YtidaoijpbdljbabGreatDoor
open Go.RowKit

set_option maxHeartbeats 1600000 in
theorem findByReader_any (KA K : FuncId) (q : Bool) (idf : VReader → Int) (a : Option Addr) (len cap : Nat) (xs : List VReader) (id : Int) (w : World) (h : IsReaderS w a len cap xs)
    (hca : ∀ args W, (callFunc KA args).run Tryz.prog W = .ok (.enter KA args) W) (hcall : ∀ args W, (callFunc K args).run Tryz.prog W = .ok (.enter K args) W)
    (hA : ∀ W : World, IsReaderS W a len cap xs → Calls Tryz.prog KA #[.slice a len cap] W fun e w' => e = .returned (.bool q) ∧ Below W.heap.size W w')
    (hf : ∀ (W : World) (s : VReader), Calls Tryz.prog K #[.agg #[.int .i64 s.Id, .string s.Name, .int .i64 s.Joined, .int .i64 s.Class, .int .i64 s.Fines]] W fun e w' => e = .returned (.int .i64 (idf s)) ∧ Below W.heap.size W w') :
    Calls Tryz.prog 65 #[.slice a len cap, .int .i64 id, .func (.func KA) #[] #[], .func (.func K) #[] #[]] w (FoundBy q (fun s => idf s == id) xs w) := by
  have S := Lib.hid h
  have HA := Lib.hid hA
  have HF := Lib.hid hf
  have HC := Lib.hid hcall
  clear h hA hf hcall
  go_enter Tryz.func65, Tryz.ntmps65
  go_wp2_with fail
  refine (HA.out _ S.out).mono ?_
  rintro e w1 ⟨rfl, hb⟩
  have B1 := Lib.hid hb
  have S1 := Lib.hid (S.out.below hb)
  clear hb hca
  cases q
  · go_wp2
    go_ret2
    exact ⟨_, rfl, fun h => (by cases h), B1.out⟩
  · obtain ⟨z, hz⟩ : ∃ z, firstOf (fun s => idf s == id) xs = z := ⟨_, rfl⟩
    have Z := Lib.hid hz
    clear hz
    go_wp2_with fail
    refine (indexByReader_any K idf _ _ _ xs id _ S1.out HC.out HF.out).mono ?_
    rintro e w2 ⟨rfl, hb⟩
    rw [Z.out]
    have B2 := Lib.hid (Below.then' B1.out hb)
    clear hb
    go_wp2
    go_ret2
    exact ⟨_, by rw [Z.out]; rfl, fun _ => Z.out.symm, B2.out⟩
set_option maxHeartbeats 1600000 in
theorem allOfReader_any (s : VReader) (w : World) : Calls Tryz.prog 73 #[.agg #[.int .i64 s.Id, .string s.Name, .int .i64 s.Joined, .int .i64 s.Class, .int .i64 s.Fines]] w fun e w' => e = .returned (.bool true) ∧ Below w.heap.size w w' := by
  go_enter Tryz.func73, Tryz.ntmps73
  go_wp2
  go_ret
  exact ⟨rfl, wh_al1 _ _⟩
set_option maxHeartbeats 1600000 in
theorem idsOfReader_any (K : FuncId) (idf : VReader → Int) (a : Option Addr) (len cap : Nat) (xs : List VReader) (w : World) (h : IsReaderS w a len cap xs) (hl : xs.length ≤ 100000)
    (hcall : ∀ args W, (callFunc K args).run Tryz.prog W = .ok (.enter K args) W)
    (hf : ∀ (W : World) (s : VReader), Calls Tryz.prog K #[.agg #[.int .i64 s.Id, .string s.Name, .int .i64 s.Joined, .int .i64 s.Class, .int .i64 s.Fines]] W fun e w' => e = .returned (.int .i64 (idf s)) ∧ Below W.heap.size W w') :
    Calls Tryz.prog 53 #[.slice a len cap, .func (.func K) #[] #[]] w (IdsOwn (xs.map idf) w) := by
  have S := Lib.hid h
  have HF := Lib.hid hf
  have HC := Lib.hid hcall
  clear h hf hcall
  go_enter Tryz.func53, Tryz.ntmps53
  go_wp2_with fail
  refine (idsWhereReader_any K 73 idf #[] (fun _ => true) _ _ _ xs _ S.out hl HC.out (enters_fn' Tryz.func73 (by kernel_rfl) (by kernel_rfl)) HF.out (fun W s _ _ _ => by
    have h1 := allOfReader_any s W
    simpa using h1)).mono ?_
  rintro e w1 ⟨v, rfl, hown, hb⟩
  rw [show xs.filter (fun _ => true) = xs from List.filter_eq_self.2 (fun _ _ => rfl)] at hown
  have O := Lib.hid hown
  have B := Lib.hid hb
  clear hown hb
  go_wp2
  go_ret
  exact ⟨v, rfl, O.out, B.out⟩
end Go.Proofs.YtidaoijpbdljbabGreatDoor
namespace Go.Proofs.YtidaoijpbdljbabGreatDoor
open Go.RowKit

theorem cell_new1 (w : World) (v : Value) (t : TypeId) (B : Nat) (hB : w.heap.size = B) : (w.alloc (.cells #[v] t)).cell? ⟨B, 0, none⟩ = some v := by
  subst hB
  simp [World.cell?_alloc_new]
theorem cell_kept {w w' : World} {b o : Nat} {v : Value} (h : w.cell? ⟨b, o, none⟩ = some v) (hb : Below w.heap.size w w') : w'.cell? ⟨b, o, none⟩ = some v := (hb.cell (p := ⟨b, o, none⟩) (World.lt_of_cell h)).trans h
theorem set_same {α : Type} {l : List α} {i : Nat} {v : α} (h : l[i]? = some v) : l.set i v = l := by
  apply List.ext_getElem?
  intro j
  by_cases e : i = j
  · subst e; obtain ⟨hl, hv⟩ := List.getElem?_eq_some_iff.1 h; rw [List.getElem?_set_self hl, h]
  · rw [List.getElem?_set_ne e]
/-- What the search for a reader leaves. -/
def FindPost (xs : List VReader) (id : Int) (w : World) (e : Ending) (w' : World) : Prop :=
  ∃ z : Int, e = .returned (.tuple #[.int .i64 z, .bool (decide (0 ≤ rdFind xs id))]) ∧ (0 ≤ rdFind xs id → z = rdFind xs id) ∧ Below w.heap.size w w'
theorem find_no {xs : List VReader} {id : Int} {w w' : World} {e : Ending} (h : FindPost xs id w e w') (hn : rdFind xs id = -1) : ∃ z : Int, e = .returned (.tuple #[.int .i64 z, .bool false]) ∧ Below w.heap.size w w' := by
  obtain ⟨z, rfl, _, hb⟩ := h
  exact ⟨z, by rw [hn]; rfl, hb⟩
theorem find_yes {xs : List VReader} {id : Int} {w w' : World} {e : Ending} {i : Nat} (h : FindPost xs id w e w') (hn : rdFind xs id = (i : Int)) : e = .returned (.tuple #[.int .i64 (i : Int), .bool true]) ∧ Below w.heap.size w w' := by
  obtain ⟨z, rfl, hz, hb⟩ := h
  have h0 : 0 ≤ rdFind xs id := by omega
  rw [hz h0, hn] at *
  exact ⟨by rw [decide_eq_true (by omega)], hb⟩
set_option maxHeartbeats 1600000 in
set_option maxRecDepth 100000 in
theorem findReader_any (a : Option Addr) (len cap : Nat) (xs : List VReader) (id : Int) (w : World) (h : IsReaderS w a len cap xs) :
    Calls Tryz.prog 40 #[.slice a len cap, .int .i64 id] w (FindPost xs id w) := by
  have E := Lib.hid (show (areRd xs && decide (0 ≤ firstOf (fun s : VReader => s.Id == id) xs)) = decide (0 ≤ rdFind xs id) from by
    unfold rdFind; cases areRd xs <;> simp)
  have E2 := Lib.hid (show 0 ≤ rdFind xs id → areRd xs = true ∧ rdFind xs id = firstOf (fun s => s.Id == id) xs from by
    unfold rdFind; cases areRd xs <;> simp)
  have S0 := Lib.hid h
  clear h
  go_enter Tryz.func40, Tryz.ntmps40
  go_wp2_with fail
  refine (findByReader_any 47 54 (areRd xs) VReader.Id _ _ _ xs id _ S0.out (enters_fn Tryz.func47 (by kernel_rfl) (by kernel_rfl)) (enters_fn Tryz.func54 (by kernel_rfl) (by kernel_rfl)) (fun W hW => areRd_any _ _ _ xs W hW) (fun W s => readerId_any s W)).mono ?_
  rintro e w1 ⟨z, rfl, hz, hb⟩
  have B1 := Lib.hid hb
  have HZ := Lib.hid hz
  rw [E.out]
  obtain ⟨q, hq⟩ : ∃ q, decide (0 ≤ rdFind xs id) = q := ⟨_, rfl⟩
  have Q := Lib.hid hq
  rw [hq]
  clear hb hz hq
  go_wp2
  go_ret2
  exact ⟨_, by rw [Q.out]; rfl, fun h => by rw [(E2.out h).2]; exact HZ.out (E2.out h).1, B1.out⟩
set_option maxHeartbeats 3200000 in
set_option maxRecDepth 100000 in
theorem copyReaders_any (a : Option Addr) (len cap : Nat) (xs : List VReader) (w : World) (h : IsReaderS w a len cap xs) (hx : xs.length ≤ 1048576) (hz : ∀ s ∈ xs, s.sized) :
    Calls Tryz.prog 66 #[.slice a len cap] w (ReaderRow xs w) := by
  have S := Lib.hid h
  have HZ := Lib.hid hz
  clear h hz
  go_enter Tryz.func66, Tryz.ntmps66
  go_wp2_with fail
  refine (cloneReader_any _ _ _ xs _ S.out hx).mono ?_
  rintro e w1 ⟨v, rfl, hown, hb⟩
  have hv : ∃ a1 c1, v = .slice a1 xs.length c1 := by
    rcases hown.2 with ⟨e1, e2⟩ | ⟨g, c, _, e1, _⟩
    · exact ⟨none, 0, by rw [e1, e2]⟩
    · exact ⟨_, _, e1⟩
  obtain ⟨a1, c1, rfl⟩ := hv
  have O1 := Lib.hid hown
  have B1 := Lib.hid hb
  clear hown hb
  go_wp2
  go_loopw [10] (fun i wr => ∃ k : Nat, k ≤ xs.length ∧ i = .int .i64 k ∧ wr.ownsRow w.heap.size 25 5 (.slice a1 xs.length c1) xs.length (cellsReader xs) ∧ Below w.heap.size w wr) (fun i _ => xs.length - (intOf i).toNat)
  case atStart => exact ⟨0, Nat.zero_le _, rfl, O1.out, B1.out⟩
  case round =>
    obtain ⟨k, hk, rfl, hown, hbel⟩ := hrel
    have O := Lib.hid hown
    have B := Lib.hid hbel
    by_cases hlt : k < xs.length
    · obtain ⟨s, hs⟩ : ∃ s, xs[k]? = some s := ⟨xs[k]'hlt, List.getElem?_eq_getElem _⟩
      obtain ⟨g, c, e1, hg, hn, hc⟩ := own_some hown (by omega)
      cases e1
      obtain ⟨_, _, e2, his, _⟩ := isReaderS_own hown (rd_sized_small HZ.out)
      cases e2
      obtain ⟨b, o, e3, _, hat⟩ := his.at (by omega)
      cases e3
      obtain ⟨d0, d1, d2, d3, d4, _⟩ := hat k s hs
      simp only [Nat.zero_add] at d0 d1 d2 d3 d4
      have K := Lib.hid hs
      have NS := Lib.hid (HZ.out s (List.mem_of_getElem? hs))
      have hi0 : (0 : Int) ≤ (k : Int) := by omega
      have hi1 : (k : Int) < (xs.length : Int) := by omega
      clear hown hbel hs his hat
      go_wp2_with fail
      refine (str_clone s.Name _ NS.out).mono ?_
      rintro e w2 ⟨rfl, hb⟩
      have hb2 := Below.then' (bel_al1 _ _) hb
      have O2 := Lib.hid (ownsRow_below O.out hb2)
      have B2 := Lib.hid (Below.then' B.out hb2)
      clear hb hb2 d0 d1 d2 d3 d4
      have f1 := O2.out.frozenAt (k * 5 + 1)
      obtain ⟨u1, d1⟩ := own_cell O2.out (k * 5 + 1) (by rw [cellsReader_len]; omega)
      have T := Lib.hid (O2.out.stored (k * 5 + 1) (.string s.Name))
      have hsz := B2.out.size
      go_wp2
      go_roundw
      case rel =>
        refine ⟨k + 1, by omega, by go_num, ?_, B2.out.grown T.out.2 hsz (fun j e => (O2.out.lt j e).1)⟩
        have h := T.out.1
        rw [set_same (cellsReader_at K.out 1 (by decide))] at h
        exact h
      case measure => simp [intOf]; omega
    · obtain rfl : k = xs.length := by omega
      have hcc : c1 ≤ 9223372036854775807 ∧ xs.length ≤ c1 := by
        rcases hown.2 with ⟨e1, e2⟩ | ⟨g, c, _, e1, _, _, h1, h2, _⟩
        · simp only [Value.slice.injEq] at e1; omega
        · cases e1; unfold maxLen at h2; omega
      clear hbel hown
      go_wp2
      go_ret
      exact ⟨_, rfl, O.out, B.out⟩
set_option maxHeartbeats 3200000 in
set_option maxRecDepth 100000 in
theorem withReader_any (a : Option Addr) (len cap : Nat) (xs : List VReader) (i : Nat) (r : VReader) (w : World) (h : IsReaderS w a len cap xs) (hi' : i < xs.length) (hx : xs.length ≤ 1048576) (hz : ∀ s ∈ xs, s.sized) (hr : r.sized) :
    Calls Tryz.prog 41 #[.slice a len cap, .int .i64 (i : Int), .agg #[.int .i64 r.Id, .string r.Name, .int .i64 r.Joined, .int .i64 r.Class, .int .i64 r.Fines]] w (ReaderRow (xs.set i r) w) := by
  have B0 := Lib.hid (bel_al1 w (.cells #[.int .i64 r.Id, .string r.Name, .int .i64 r.Joined, .int .i64 r.Class, .int .i64 r.Fines] 25))
  have X0 := Lib.hid (BoxReader.new w 25 r _ rfl)
  have S0 := Lib.hid (h.below B0.out)
  have SM := Lib.hid (show ∀ s ∈ xs.set i r, s.sized from fun s hs => (List.mem_or_eq_of_mem_set hs).elim (hz s) (fun e => e ▸ hr))
  clear h hz hr
  go_enter Tryz.func41, Tryz.ntmps41
  go_wp2_with fail
  refine (cloneReader_any _ _ _ xs _ S0.out hx).mono ?_
  rintro e w1 ⟨v, rfl, hown, hb⟩
  obtain ⟨g, c1, rfl, hg, hn, hc⟩ := own_some hown (by omega)
  have B1 := Lib.hid (Below.then' B0.out hb)
  obtain ⟨p0, p1, p2, p3, p4⟩ := X0.out.below hb
  have O1 := Lib.hid hown
  have hg' : w.heap.size ≤ g := by rw [size_al] at hg; omega
  clear hown hb
  have hi0 : (0 : Int) ≤ (i : Int) := by omega
  have hi1 : (i : Int) < (xs.length : Int) := by omega
  have f0 := O1.out.frozenAt (i * 5)
  obtain ⟨u0, d0⟩ := own_cell O1.out (i * 5) (by rw [cellsReader_len]; omega)
  have f1 := O1.out.frozenAt (i * 5 + 1)
  obtain ⟨u1, d1⟩ := own_cell O1.out (i * 5 + 1) (by rw [cellsReader_len]; omega)
  have f2 := O1.out.frozenAt (i * 5 + 2)
  obtain ⟨u2, d2⟩ := own_cell O1.out (i * 5 + 2) (by rw [cellsReader_len]; omega)
  have f3 := O1.out.frozenAt (i * 5 + 3)
  obtain ⟨u3, d3⟩ := own_cell O1.out (i * 5 + 3) (by rw [cellsReader_len]; omega)
  have f4 := O1.out.frozenAt (i * 5 + 4)
  obtain ⟨u4, d4⟩ := own_cell O1.out (i * 5 + 4) (by rw [cellsReader_len]; omega)
  have h5 := own_setReader O1.out hi' r
  have B5 := Lib.hid (B1.out.grown h5.2 B1.out.size (fun k e => by cases e; exact hg'))
  have hown5 := h5.1
  rw [show xs.length = (xs.set i r).length from List.length_set.symm] at hown5
  obtain ⟨a5, c5, e5, his, _⟩ := isReaderS_own hown5 (rd_sized_small SM.out)
  cases e5
  rw [List.length_set] at his
  have S5 := Lib.hid his
  clear h5 hown5 his
  go_wp2_with fail
  refine (copyReaders_any _ _ _ (xs.set i r) _ S5.out (by rw [List.length_set]; exact hx) SM.out).mono ?_
  rintro e w2 ⟨v, rfl, hown, hb⟩
  have O := Lib.hid (ownsRow_base hown B5.out.size)
  have B6 := Lib.hid (Below.then' B5.out hb)
  clear hown hb
  go_wp2
  go_ret
  exact ⟨_, rfl, O.out, B6.out⟩
end Go.Proofs.YtidaoijpbdljbabGreatDoor
namespace Go.Proofs.YtidaoijpbdljbabGreatDoor
section
variable {α : Type} {ok : α → Bool} {id : α → Int} {xs : List α}
theorem upStep_set_ne {i j : Nat} {s r : α} (hs : xs[i]? = some s) (e : id r = id s) (hj : j ≠ i) : upStep ok id (xs.set i r) j = upStep ok id xs j := by
  have hi := (List.getElem?_eq_some_iff.1 hs).1
  unfold upStep
  rw [List.getElem?_set_ne (Ne.symm hj)]
  cases h : xs[j]? with
  | none => rfl
  | some t =>
    by_cases h2 : i = j - 1
    · subst h2; rw [List.getElem?_set_self hi, hs]; simp [e]
    · rw [List.getElem?_set_ne h2]
theorem upStep_set_self {i : Nat} {s r : α} (hs : xs[i]? = some s) (e : id r = id s) (h : upStep ok id xs i = true) : upStep ok id (xs.set i r) i = ok r := by
  have hi := (List.getElem?_eq_some_iff.1 hs).1
  unfold upStep at h ⊢
  rw [hs] at h
  rw [List.getElem?_set_self hi]
  simp only [Bool.and_eq_true] at h
  by_cases h0 : i = 0
  · subst h0; simp
  · rw [List.getElem?_set_ne (by omega)]
    have h2 := h.2
    cases hp : xs[i - 1]? with
    | none => simp
    | some p => rw [hp] at h2; simp [h0] at h2; simp [e, h2]
theorem upB_set {i : Nat} {s r : α} (h : upB ok id xs = true) (hs : xs[i]? = some s) (e : id r = id s) : upB ok id (xs.set i r) = ok r := by
  have hi := (List.getElem?_eq_some_iff.1 hs).1
  have h1 := upStep_set_self (ok := ok) hs e (upB_iff.1 h i hi)
  cases hr : ok r with
  | true =>
    refine upB_iff.2 fun j hj => ?_
    rw [List.length_set] at hj
    by_cases hji : j = i
    · subst hji; rw [h1, hr]
    · rw [upStep_set_ne hs e hji]; exact upB_iff.1 h j hj
  | false => exact upB_bad (by rw [h1, hr]) (by rw [List.length_set]; exact hi)
theorem upStep_app {ys : List α} {j : Nat} (hj : j < xs.length) : upStep ok id (xs ++ ys) j = upStep ok id xs j := by
  unfold upStep
  rw [List.getElem?_append_left hj]
  by_cases h0 : j = 0
  · subst h0; simp
  · rw [List.getElem?_append_left (by omega)]
theorem upB_prefix {ys : List α} (h : upB ok id (xs ++ ys) = true) : upB ok id xs = true :=
  upB_iff.2 fun j hj => by rw [← upStep_app (ys := ys) hj]; exact upB_iff.1 h j (by rw [List.length_append]; omega)
end
end Go.Proofs.YtidaoijpbdljbabGreatDoor
namespace Go.Proofs.YtidaoijpbdljbabGreatDoor
open Go.RowKit

theorem areRd_set {xs : List VReader} {i : Nat} {s r : VReader} (h : areRd xs = true) (hs : xs[i]? = some s) (e : r.Id = s.Id) : areRd (xs.set i r) = r.ok := by
  have h1 : upB VReader.ok VReader.Id xs = true := by unfold areRd rdUp at h; simp only [Bool.and_eq_true] at h; exact h.1
  have h2 := areRd_len h
  unfold areRd rdUp
  rw [upB_set h1 hs e, List.length_set, decide_eq_true h2, Bool.and_true]
theorem rdWith_ok' {xs : List VReader} {i : Nat} {s r : VReader} (h : areRd xs = true) (hs : xs[i]? = some s) (e : r.Id = s.Id) (ho : r.ok = true) : rdWith xs i r = (xs.set i r, true) := by
  unfold rdWith; rw [areRd_set h hs e, if_pos ho]
theorem rdWith_no {xs : List VReader} {i : Nat} {s r : VReader} (h : areRd xs = true) (hs : xs[i]? = some s) (e : r.Id = s.Id) (ho : r.ok = false) : rdWith xs i r = ([], false) := by
  unfold rdWith; rw [areRd_set h hs e, ho]; rfl
theorem rdOk_sized {s : VReader} (h : s.ok = true) : s.sized := by
  have := (word_size (rdOk_iff.1 h).2.1).2
  unfold VReader.sized; omega
theorem areRd_sized {xs : List VReader} (h : areRd xs = true) : ∀ s ∈ xs, s.sized := fun _ hs => rdOk_sized (areRd_ok h hs)
set_option maxHeartbeats 3200000 in
set_option maxRecDepth 100000 in
theorem implFineReader_any (a : Option Addr) (len cap : Nat) (xs : List VReader) (id c : Int) (w : World) (h : IsReaderS w a len cap xs) (hx : xs.length ≤ 1048576) (hz : ∀ s ∈ xs, s.sized) :
    Calls Tryz.prog 13 #[.slice a len cap, .int .i64 id, .int .i64 c] w (FineReader_Post xs id c w) := by
  have hm := h.2.2.1
  have hcl := h.2.1
  unfold maxLen at hm
  obtain rfl := h.1
  have S := Lib.hid h
  have HZ := Lib.hid hz
  clear h hz
  rcases rdSel_ways xs id with ⟨h1, h2⟩ | ⟨i, s, ha, h1, hs, hi, hid, h2⟩
  · have F := Lib.hid h1
    have E := Lib.hid (show rdFine xs id c = ([], false) from by unfold rdFine; rw [h2])
    clear h1 h2
    go_enter Tryz.func13, Tryz.ntmps13
    go_wp2_with fail
    refine (findReader_any _ _ _ xs id _ S.out).mono ?_
    intro e w1 hp
    obtain ⟨z, rfl, hb⟩ := find_no hp F.out
    have B1 := Lib.hid hb
    clear hb hp
    go_wp2
    go_ret2
    refine ⟨_, by unfold FineReader_1; rw [E.out]; rfl, by unfold FineReader_0; rw [E.out]; exact nil_ownReader _ _, B1.out⟩
  · have F := Lib.hid h1
    have H2 := Lib.hid h2
    have HS := Lib.hid hs
    have HA := Lib.hid ha
    obtain ⟨q, hq⟩ : ∃ q, inB c 1 10000 = q := ⟨_, rfl⟩
    have Q := Lib.hid hq
    have OK := Lib.hid (rdOk_iff.1 (areRd_ok ha (List.mem_of_getElem? hs)))
    clear h1 h2 hs hq ha hid
    go_enter Tryz.func13, Tryz.ntmps13
    go_wp2_with fail
    refine (findReader_any _ _ _ xs id _ S.out).mono ?_
    intro e w1 hp
    obtain ⟨rfl, hb⟩ := find_yes hp F.out
    have B1 := Lib.hid hb
    clear hb hp
    go_wp2_with fail
    refine (areIn1 _ _ _ _ _ _ rfl).mono ?_
    rintro e w' ⟨rfl, rfl⟩
    rw [Q.out]
    have B2 := Lib.hid (Below.then' B1.out (bel_al1 w1 (.cells #[.int .i64 c] 3)))
    cases q
    · have E := Lib.hid (show rdFine xs id c = ([], false) from by unfold rdFine centsB; rw [H2.out]; simp [Q.out])
      go_wp2
      go_ret2
      refine ⟨_, by unfold FineReader_1; rw [E.out]; rfl, by unfold FineReader_0; rw [E.out]; exact nil_ownReader _ _, B2.out⟩
    obtain ⟨_, hw, _, _, f0, f1⟩ := OK.out
    have c1 : 1 ≤ c ∧ c ≤ 10000 := inB_iff.1 Q.out
    have v1 : IntKind.i64.wrap (s.Fines + c) = s.Fines + c := IntWalk.i64_in _ (by omega)
    have SR := Lib.hid (show (⟨s.Id, s.Name, s.Joined, s.Class, s.Fines + c⟩ : VReader).sized from HZ.out s (List.mem_of_getElem? HS.out))
    have E := Lib.hid (show rdFine xs id c = rdWith xs i ⟨s.Id, s.Name, s.Joined, s.Class, s.Fines + c⟩ from by unfold rdFine centsB; rw [H2.out]; simp [Q.out])
    obtain ⟨b, o, rfl, hbw, hat⟩ := (S.out.below B2.out).at (by omega)
    obtain ⟨d0, d1, d2, d3, d4, _⟩ := hat i s HS.out
    have i1 : (i : Int) < (xs.length : Int) := by omega
    have i2 : (0 : Int) ≤ (i : Int) := by omega
    clear hat hw
    obtain ⟨p, hp⟩ : ∃ p, (⟨s.Id, s.Name, s.Joined, s.Class, s.Fines + c⟩ : VReader).ok = p := ⟨_, rfl⟩
    have PP := Lib.hid hp
    clear hp
    go_wp2_with fail
    refine (isRd_any ⟨s.Id, s.Name, s.Joined, s.Class, s.Fines + c⟩ _ (sized_smallReader _ SR.out)).mono ?_
    rintro e w3 ⟨rfl, hb⟩
    rw [PP.out]
    have B3 := Lib.hid (Below.then' (Below.then' B2.out (bel_al1 _ _)) hb)
    have X3 := Lib.hid ((BoxReader.new (w1.alloc (.cells #[.int .i64 c] 3)) 25 ⟨s.Id, s.Name, s.Joined, s.Class, s.Fines + c⟩ (w1.heap.size + 1) (size_al _ _)).below hb)
    clear hb d0 d1 d2 d3 d4
    cases p
    · have E2 := Lib.hid (E.out.trans (rdWith_no HA.out HS.out rfl PP.out))
      go_wp2
      go_ret2
      refine ⟨_, by unfold FineReader_1; rw [E2.out]; rfl, by unfold FineReader_0; rw [E2.out]; exact nil_ownReader _ _, B3.out⟩
    · have E2 := Lib.hid (E.out.trans (rdWith_ok' HA.out HS.out rfl PP.out))
      obtain ⟨d0, d1, d2, d3, d4⟩ := X3.out
      have S3 := Lib.hid (S.out.below B3.out)
      go_wp2_with fail
      refine (withReader_any _ _ _ xs i ⟨s.Id, s.Name, s.Joined, s.Class, s.Fines + c⟩ _ S3.out hi hx HZ.out SR.out).mono ?_
      rintro e w4 ⟨v, rfl, hown, hb⟩
      have B4 := Lib.hid (Below.then' B3.out hb)
      have O := Lib.hid (ownsRow_base hown B3.out.size)
      clear hown hb
      go_wp2
      go_ret2
      refine ⟨v, by unfold FineReader_1; rw [E2.out]; rfl, by unfold FineReader_0; rw [E2.out]; exact O.out, B4.out⟩
end Go.Proofs.YtidaoijpbdljbabGreatDoor
namespace Go.Proofs.YtidaoijpbdljbabGreatDoor
open Go.RowKit

set_option maxHeartbeats 3200000 in
set_option maxRecDepth 100000 in
theorem implPayFines_any (a : Option Addr) (len cap : Nat) (xs : List VReader) (id c : Int) (w : World) (h : IsReaderS w a len cap xs) (hx : xs.length ≤ 1048576) (hz : ∀ s ∈ xs, s.sized) :
    Calls Tryz.prog 16 #[.slice a len cap, .int .i64 id, .int .i64 c] w (PayFines_Post xs id c w) := by
  have hm := h.2.2.1
  have hcl := h.2.1
  unfold maxLen at hm
  obtain rfl := h.1
  have S := Lib.hid h
  have HZ := Lib.hid hz
  clear h hz
  rcases rdSel_ways xs id with ⟨h1, h2⟩ | ⟨i, s, ha, h1, hs, hi, hid, h2⟩
  · have F := Lib.hid h1
    have E := Lib.hid (show rdPay xs id c = ([], 0, false) from by unfold rdPay; rw [h2])
    clear h1 h2
    go_enter Tryz.func16, Tryz.ntmps16
    go_wp2_with fail
    refine (findReader_any _ _ _ xs id _ S.out).mono ?_
    intro e w1 hp
    obtain ⟨z, rfl, hb⟩ := find_no hp F.out
    have B1 := Lib.hid hb
    clear hb hp
    go_wp2
    go_ret3
    refine ⟨_, by unfold PayFines_1 PayFines_2; rw [E.out]; rfl, by unfold PayFines_0; rw [E.out]; exact nil_ownReader _ _, B1.out⟩
  · have F := Lib.hid h1
    have H2 := Lib.hid h2
    have HS := Lib.hid hs
    have HA := Lib.hid ha
    obtain ⟨q, hq⟩ : ∃ q, inB c 1 10000 = q := ⟨_, rfl⟩
    have Q := Lib.hid hq
    have OKB := Lib.hid (areRd_ok ha (List.mem_of_getElem? hs))
    clear h1 h2 hs hq ha hid
    go_enter Tryz.func16, Tryz.ntmps16
    go_wp2_with fail
    refine (findReader_any _ _ _ xs id _ S.out).mono ?_
    intro e w1 hp
    obtain ⟨rfl, hb⟩ := find_yes hp F.out
    have B1 := Lib.hid hb
    clear hb hp
    go_wp2_with fail
    refine (areIn1 _ _ _ _ _ _ rfl).mono ?_
    rintro e w' ⟨rfl, rfl⟩
    rw [Q.out]
    have B2 := Lib.hid (Below.then' B1.out (bel_al1 w1 (.cells #[.int .i64 c] 3)))
    cases q
    · have E := Lib.hid (show rdPay xs id c = ([], 0, false) from by unfold rdPay centsB; rw [H2.out]; simp [Q.out])
      go_wp2
      go_ret3
      refine ⟨_, by unfold PayFines_1 PayFines_2; rw [E.out]; rfl, by unfold PayFines_0; rw [E.out]; exact nil_ownReader _ _, B2.out⟩
    obtain ⟨_, hw, _, _, f0, f1⟩ := rdOk_iff.1 OKB.out
    have c1 : 1 ≤ c ∧ c ≤ 10000 := inB_iff.1 Q.out
    obtain ⟨n, hn⟩ : ∃ n, min c s.Fines = n := ⟨_, rfl⟩
    have hn0 : 0 ≤ n ∧ n ≤ s.Fines ∧ n ≤ c := by omega
    have HN := Lib.hid hn
    have OK2 := Lib.hid (show (⟨s.Id, s.Name, s.Joined, s.Class, s.Fines - n⟩ : VReader).ok = true from by
      have h := rdOk_iff.1 OKB.out
      exact rdOk_iff.2 ⟨h.1, h.2.1, h.2.2.1, h.2.2.2.1, by show 0 ≤ s.Fines - n ∧ s.Fines - n ≤ 10000; omega⟩)
    have E := Lib.hid (show rdPay xs id c = (xs.set i ⟨s.Id, s.Name, s.Joined, s.Class, s.Fines - n⟩, c - n, true) from by
      unfold rdPay centsB; rw [H2.out]; simp only [Q.out, if_true, hn]
      rw [rdWith_ok' (r := ⟨s.Id, s.Name, s.Joined, s.Class, s.Fines - n⟩) HA.out HS.out rfl OK2.out])
    have SR := Lib.hid (show (⟨s.Id, s.Name, s.Joined, s.Class, s.Fines - n⟩ : VReader).sized from HZ.out s (List.mem_of_getElem? HS.out))
    obtain ⟨b, o, rfl, hbw, hat⟩ := (S.out.below B2.out).at (by omega)
    obtain ⟨d0, d1, d2, d3, d4, _⟩ := hat i s HS.out
    have i1 : (i : Int) < (xs.length : Int) := by omega
    have i2 : (0 : Int) ≤ (i : Int) := by omega
    clear hat hw hn
    have hmin : min c s.Fines = n := HN.out
    have B3 := Lib.hid (Below.then' B2.out (bel_al1 _ (.cells #[.int .i64 s.Id, .string s.Name, .int .i64 s.Joined, .int .i64 s.Class, .int .i64 (s.Fines - n)] 25)))
    have S3 := Lib.hid (S.out.below B3.out)
    go_wp2_with fail
    refine (withReader_any _ _ _ xs i ⟨s.Id, s.Name, s.Joined, s.Class, s.Fines - n⟩ _ S3.out hi hx HZ.out SR.out).mono ?_
    rintro e w4 ⟨v, rfl, hown, hb⟩
    have B4 := Lib.hid (Below.then' B3.out hb)
    have O := Lib.hid (ownsRow_base hown B3.out.size)
    clear hown hb
    go_wp2
    go_ret3
    refine ⟨v, by unfold PayFines_1 PayFines_2; rw [E.out]; rfl, by unfold PayFines_0; rw [E.out]; exact O.out, B4.out⟩
end Go.Proofs.YtidaoijpbdljbabGreatDoor
namespace Go.Proofs.YtidaoijpbdljbabGreatDoor
open Go.RowKit

theorem wp_append_list {P : Program} {w : World} {o : Oper} {a : Act} {K : Act → World → Prop} {Q : Exit → Act → World → Prop} (s x : Operand) (t : TypeId)
    (ho : o.op = .call { callee := .builtin .append, args := #[s, x], argTypes := #[t, t] })
    (base : Nat) (e : TypeId) (i : TypeInfo) (z : Value) (size bytes : Nat) (ht : P.underlying t = some (.slice e)) (hi : P.info? e = some i) (hz : i.zero = some z)
    (hsize : i.size = size) (hby : i.bytes = bytes) (hzs : z.cells.size = size) (hsz : 0 < size)
    (v : Value) (n : Nat) (xs : List Value) (hs : a.eval s = v) (hown : w.ownsRow base e size v n xs)
    (ad : Option Addr) (m c : Nat) (news : List Value) (hx : a.eval x = .slice ad m c) (hsrc : SrcAt w ad m size news) (h1 : ∀ u ∈ news, u.oneCell' = true)
    (h63 : n + m ≤ maxLen) (hbytes : (n + m) * bytes ≤ 140737488355328) (hbase : base ≤ w.heap.size)
    (h : ∀ v' w', w'.ownsRow base e size v' (n + m) (xs ++ news) → w.grownBy w' v.ownBlock → K (a.put o.dst v') w') : Oper.wp P o a w K Q := by
  obtain ⟨hl, hc⟩ := hsrc
  cases ad with
  | some ad =>
    refine wp_append_own w s x t ho base e i z size bytes ht hi hz hsize hby hzs hsz v n xs hs hown ad m c news hx hl ?_ h1 h63 hbytes hbase (fun v' w' a b _ => h v' w' a b)
    rcases hc with rfl | ⟨ad', e', hc⟩
    · have : news = [] := List.eq_nil_of_length_eq_zero (by simpa using hl)
      subst this
      intro j u hj; simp at hj
    · cases e'; exact hc
  | none =>
    have hm : m = 0 := by
      rcases hc with h0 | ⟨_, e', _⟩
      · exact h0
      · cases e'
    subst hm
    have hn : news = [] := List.eq_nil_of_length_eq_zero (by simpa using hl)
    subst hn
    have hrun := append_nothing (P := P) (w := w) (ty := o.type) ht hi hown c
    unfold Oper.wp
    simp [execOp, ho, resolve, invoke, builtin, hs, hx, hrun, Result.andThen]
    exact h v w (by simpa using hown) (World.grownBy.refl w _)
/-- The same as a step of a region that draws its order. -/
theorem step_append_list {P : Program} {w : World} {ops : Array Oper} {o : Oper} {a : Act} {K : Act → World → Prop} {Q : Exit → Act → World → Prop} {E : Prop} (hgd : o.guard = none) (s x : Operand) (t : TypeId)
    (ho : o.op = .call { callee := .builtin .append, args := #[s, x], argTypes := #[t, t] })
    (base : Nat) (e : TypeId) (i : TypeInfo) (z : Value) (size bytes : Nat) (ht : P.underlying t = some (.slice e)) (hi : P.info? e = some i) (hz : i.zero = some z)
    (hsize : i.size = size) (hby : i.bytes = bytes) (hzs : z.cells.size = size) (hsz : 0 < size)
    (v : Value) (n : Nat) (xs : List Value) (hs : a.eval s = v) (hown : w.ownsRow base e size v n xs)
    (ad : Option Addr) (m c : Nat) (news : List Value) (hx : a.eval x = .slice ad m c) (hsrc : SrcAt w ad m size news) (h1 : ∀ u ∈ news, u.oneCell' = true)
    (h63 : n + m ≤ maxLen) (hbytes : (n + m) * bytes ≤ 140737488355328) (hbase : base ≤ w.heap.size)
    (h : ∀ v' w', w'.ownsRow base e size v' (n + m) (xs ++ news) → w.grownBy w' v.ownBlock → K (a.put o.dst v') w') :
    if Region.wanted o (yielded ops a.tmps) = true then Oper.wp P o a w K Q else E := by
  have hw : Region.wanted o (yielded ops a.tmps) = true := by simp [Region.wanted, hgd]
  rw [if_pos hw]
  exact wp_append_list s x t ho base e i z size bytes ht hi hz hsize hby hzs hsz v n xs hs hown ad m c news hx hsrc h1 h63 hbytes hbase h
/-- The same, and what was no nil slice stays none. -/
theorem step_append_some {P : Program} {w : World} {ops : Array Oper} {o : Oper} {a : Act} {K : Act → World → Prop} {Q : Exit → Act → World → Prop} {E : Prop} (hgd : o.guard = none) (s x : Operand) (t : TypeId)
    (ho : o.op = .call { callee := .builtin .append, args := #[s, x], argTypes := #[t, t] })
    (base : Nat) (e : TypeId) (i : TypeInfo) (z : Value) (size bytes : Nat) (ht : P.underlying t = some (.slice e)) (hi : P.info? e = some i) (hz : i.zero = some z)
    (hsize : i.size = size) (hby : i.bytes = bytes) (hzs : z.cells.size = size) (hsz : 0 < size)
    (v : Value) (hs : a.eval s = v) (g cp : Nat) (n : Nat) (xs : List Value) (hv : v = .slice (some ⟨g, 0, none⟩) n cp) (hown : w.ownsRow base e size (.slice (some ⟨g, 0, none⟩) n cp) n xs)
    (u : Value) (hx : a.eval x = u) (ad : Addr) (m c : Nat) (news : List Value) (hu : u = .slice (some ad) m c) (hsrc : SrcAt w (some ad) m size news) (h1 : ∀ u ∈ news, u.oneCell' = true)
    (h63 : n + m ≤ maxLen) (hbytes : (n + m) * bytes ≤ 140737488355328) (hbase : base ≤ w.heap.size)
    (h : ∀ g' cp' w', w'.ownsRow base e size (.slice (some ⟨g', 0, none⟩) (n + m) cp') (n + m) (xs ++ news) → w.grownBy w' (some g) → n + m ≤ cp' → cp' ≤ 9223372036854775807 → base ≤ g' → g' < w'.heap.size → K (a.put o.dst (.slice (some ⟨g', 0, none⟩) (n + m) cp')) w') :
    if Region.wanted o (yielded ops a.tmps) = true then Oper.wp P o a w K Q else E := by
  have hw : Region.wanted o (yielded ops a.tmps) = true := by simp [Region.wanted, hgd]
  rw [if_pos hw]
  subst hv hu
  obtain ⟨hl, hc⟩ := hsrc
  refine wp_append_own w s x t ho base e i z size bytes ht hi hz hsize hby hzs hsz _ n xs hs hown ad m c news hx hl ?_ h1 h63 hbytes hbase (fun v' w' a b hn => ?_)
  · rcases hc with rfl | ⟨ad', e', hc⟩
    · have : news = [] := List.eq_nil_of_length_eq_zero (by simpa using hl)
      subst this
      intro j u hj; simp at hj
    · cases e'; exact hc
  · rcases a.2 with ⟨e1, _⟩ | ⟨g', c', _, e', hg, _, hn', hc', _⟩
    · exact absurd (hn.1 e1).1 (by simp)
    · subst e'
      exact h g' c' w' a b hn' hc' hg (a.lt g' rfl).2
end Go.Proofs.YtidaoijpbdljbabGreatDoor
