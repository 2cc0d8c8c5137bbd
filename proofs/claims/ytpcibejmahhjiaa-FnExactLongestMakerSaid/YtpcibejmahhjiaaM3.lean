/- Texts in one: Rd2, RdD, Ri, Own, Sw, MakerBy, MakerL, Wh. -/
import Derived.Test.YtpcibejmahhjiaaM2
import Derived.Test.YtpcibejmahhjiaaM1
import Derived.Lib.QuietBelow
import Derived.Lib.SliceRun
namespace Go.Proofs.Ytpcibejmahhjiaa
open Go.RowKit

theorem at_of {α : Type} {xs : List α} {len k : Nat} (hl : Hid (len = xs.length)) (hk : k < len) : ∃ s, xs[k]? = some s := ⟨xs[k]'(by have := hl.out; omega), List.getElem?_eq_getElem _⟩
theorem all_succ' {P : Nat → Prop} {k : Nat} (h : ∀ j, j < k → P j) (h1 : P k) : ∀ j, j < k + 1 → P j := by
  intro j hj
  by_cases e : j = k
  · subst e; exact h1
  · exact h j (by omega)
/-- Why an element is right, or not. -/
theorem step_ways {α : Type} {ok : α → Bool} {id : α → Int} {xs : List α} {k : Nat} {s : α} (hs : xs[k]? = some s) :
    (ok s = false ∧ upStep ok id xs k = false) ∨ (ok s = true ∧ k = 0 ∧ upStep ok id xs k = true) ∨ (ok s = true ∧ ∃ j p, k = j + 1 ∧ xs[j]? = some p ∧ ((¬ id s ≤ id p ∧ upStep ok id xs k = true) ∨ (id s ≤ id p ∧ upStep ok id xs k = false))) := by
  match k, hs with
  | 0, hs =>
    rw [upStep_zero hs]
    cases h : ok s
    · exact .inl ⟨rfl, rfl⟩
    · exact .inr (.inl ⟨rfl, rfl, rfl⟩)
  | j + 1, hs =>
    have hl := (List.getElem?_eq_some_iff.1 hs).1
    have hp : xs[j]? = some xs[j] := List.getElem?_eq_getElem (by omega)
    rw [upStep_succ hp hs]
    cases h : ok s
    · exact .inl ⟨rfl, rfl⟩
    · refine .inr (.inr ⟨rfl, j, xs[j], rfl, hp, ?_⟩)
      by_cases h2 : id s ≤ id xs[j]
      · exact .inr ⟨h2, by simp; omega⟩
      · exact .inl ⟨h2, by simp; omega⟩
end Go.Proofs.Ytpcibejmahhjiaa
namespace Go.Proofs.Ytpcibejmahhjiaa

/-- The reader with an id, and where it stands. -/
def rdSel (xs : List VReader) (id : Int) : Option (Nat × VReader) := if 0 ≤ rdFind xs id then (xs[(rdFind xs id).toNat]?).map fun s => ((rdFind xs id).toNat, s) else none
theorem rdSel_ways (xs : List VReader) (id : Int) : (rdFind xs id = -1 ∧ rdSel xs id = none) ∨ ∃ (i : Nat) (s : VReader), areRd xs = true ∧ rdFind xs id = (i : Int) ∧ xs[i]? = some s ∧ i < xs.length ∧ s.Id = id ∧ rdSel xs id = some (i, s) := by
  unfold rdSel
  by_cases ha : areRd xs = true
  · rcases firstOf_cases (fun s : VReader => s.Id == id) xs with ⟨h1, _⟩ | ⟨i, s, h1, h2, h3, _⟩
    · have e : rdFind xs id = -1 := by unfold rdFind; rw [if_pos ha, h1]
      exact .inl ⟨e, by rw [e]; rfl⟩
    · have e : rdFind xs id = (i : Int) := by unfold rdFind; rw [if_pos ha, h1]
      refine .inr ⟨i, s, ha, e, h2, (List.getElem?_eq_some_iff.1 h2).1, by simpa using h3, ?_⟩
      rw [e, if_pos (by omega), Int.toNat_natCast, h2]; rfl
  · have e : rdFind xs id = -1 := by unfold rdFind; rw [if_neg ha]
    exact .inl ⟨e, by rw [e]; rfl⟩
def centsB (c : Int) : Bool := inB c 1 10000
/-- The list in which a reader is replaced, and whether it is valid. -/
def rdWith (xs : List VReader) (i : Nat) (r : VReader) : List VReader × Bool := if areRd (xs.set i r) = true then (xs.set i r, true) else ([], false)
def rdFine (xs : List VReader) (id c : Int) : List VReader × Bool :=
  match rdSel xs id with
  | none => ([], false)
  | some (i, s) => if centsB c = true then rdWith xs i ⟨s.Id, s.Name, s.Joined, s.Class, s.Fines + c⟩ else ([], false)
def rdPay (xs : List VReader) (id c : Int) : List VReader × Int × Bool :=
  match rdSel xs id with
  | none => ([], 0, false)
  | some (i, s) => if centsB c = true then ((rdWith xs i ⟨s.Id, s.Name, s.Joined, s.Class, s.Fines - min c s.Fines⟩).1, c - min c s.Fines, (rdWith xs i ⟨s.Id, s.Name, s.Joined, s.Class, s.Fines - min c s.Fines⟩).2) else ([], 0, false)
def ripeB (s : VReader) (day : Int) : Bool := decide (s.Class < 3) && (s.Fines == 0 && decide (365 * s.Class ≤ day - s.Joined))
def rdRaise (xs : List VReader) (id day : Int) : List VReader × Bool :=
  match rdSel xs id with
  | none => ([], false)
  | some (i, s) => if (dayB day && ripeB s day) = true then rdWith xs i ⟨s.Id, s.Name, s.Joined, s.Class + 1, s.Fines⟩ else ([], false)
def rdLast (xs : List VReader) : Int := match xs.getLast? with | some s => s.Id + 1 | none => 1
def rdJoin (xs : List VReader) (nm : ByteArray) (d : Int) : List VReader × Int × Bool :=
  if (areRd xs && areRd (xs ++ [⟨rdLast xs, nm, d, 1, 0⟩])) = true then (xs ++ [⟨rdLast xs, nm, d, 1, 0⟩], rdLast xs, true) else ([], 0, false)
def mayOf (cl : Int) : Int := if cl = 1 then 2 else if cl = 2 then 5 else 10
def rdMay (xs : List VReader) (id home : Int) : Int × Bool :=
  match rdSel xs id with
  | none => (0, false)
  | some (_, s) => if inB home 0 99 = true then (if 500 ≤ s.Fines then 0 else max 0 (mayOf s.Class - home), true) else (0, false)
def IsReader_0 (s : VReader) : Bool := s.ok
def AreReaders_0 (xs : List VReader) : Bool := areRd xs
def FineReader_0 (xs : List VReader) (id c : Int) : List VReader := (rdFine xs id c).1
def FineReader_1 (xs : List VReader) (id c : Int) : Bool := (rdFine xs id c).2
def PayFines_0 (xs : List VReader) (id c : Int) : List VReader := (rdPay xs id c).1
def PayFines_1 (xs : List VReader) (id c : Int) : Int := (rdPay xs id c).2.1
def PayFines_2 (xs : List VReader) (id c : Int) : Bool := (rdPay xs id c).2.2
def RaiseClass_0 (xs : List VReader) (id d : Int) : List VReader := (rdRaise xs id d).1
def RaiseClass_1 (xs : List VReader) (id d : Int) : Bool := (rdRaise xs id d).2
def JoinReader_0 (xs : List VReader) (nm : ByteArray) (d : Int) : List VReader := (rdJoin xs nm d).1
def JoinReader_1 (xs : List VReader) (nm : ByteArray) (d : Int) : Int := (rdJoin xs nm d).2.1
def JoinReader_2 (xs : List VReader) (nm : ByteArray) (d : Int) : Bool := (rdJoin xs nm d).2.2
def MayTake_0 (xs : List VReader) (id h : Int) : Int := (rdMay xs id h).1
def MayTake_1 (xs : List VReader) (id h : Int) : Bool := (rdMay xs id h).2
def RipeReaders_0 (xs : List VReader) (d : Int) : List Int := if (areRd xs && dayB d) = true then (xs.filter fun s => ripeB s d).map VReader.Id else []
def RipeReaders_1 (xs : List VReader) (d : Int) : Bool := areRd xs && dayB d
theorem areRd_len {xs : List VReader} (h : areRd xs = true) : xs.length ≤ 10 := by unfold areRd at h; simp at h; exact h.2
theorem areRd_ok {xs : List VReader} (h : areRd xs = true) {s : VReader} (hs : s ∈ xs) : s.ok = true := by
  unfold areRd at h
  simp only [Bool.and_eq_true] at h
  exact upB_ok h.1 hs
theorem rdOk_iff {s : VReader} : s.ok = true ↔ (1 ≤ s.Id ∧ s.Id ≤ 999) ∧ wordB s.Name = true ∧ (0 ≤ s.Joined ∧ s.Joined ≤ 4000) ∧ (1 ≤ s.Class ∧ s.Class ≤ 3) ∧ (0 ≤ s.Fines ∧ s.Fines ≤ 10000) := by
  unfold VReader.ok dayB; simp only [Bool.and_eq_true, inB_iff]
theorem word_size {s : ByteArray} (h : wordB s = true) : 1 ≤ s.size ∧ s.size ≤ 10 := by
  unfold wordB at h
  simp only [Bool.and_eq_true, inB_iff] at h
  omega
theorem rdOk_small {s : VReader} (h : s.ok = true) : s.small := by
  have := (word_size (rdOk_iff.1 h).2.1).2
  unfold VReader.small maxLen
  omega
theorem rdWith_ok (xs : List VReader) (i : Nat) (r : VReader) : (rdWith xs i r).1.length ≤ 10 ∧ ∀ s ∈ (rdWith xs i r).1, s.ok = true := by
  unfold rdWith
  split
  · rename_i h; exact ⟨areRd_len h, fun s hs => areRd_ok h hs⟩
  · exact ⟨by simp, by simp⟩
theorem rdFine_ok (xs : List VReader) (id c : Int) : (rdFine xs id c).1.length ≤ 10 ∧ ∀ s ∈ (rdFine xs id c).1, s.ok = true := by
  unfold rdFine
  split
  · exact ⟨by simp, by simp⟩
  · split
    · exact rdWith_ok _ _ _
    · exact ⟨by simp, by simp⟩
theorem rdPay_ok (xs : List VReader) (id c : Int) : (rdPay xs id c).1.length ≤ 10 ∧ ∀ s ∈ (rdPay xs id c).1, s.ok = true := by
  unfold rdPay
  split
  · exact ⟨by simp, by simp⟩
  · split
    · exact rdWith_ok _ _ _
    · exact ⟨by simp, by simp⟩
theorem rdRaise_ok (xs : List VReader) (id c : Int) : (rdRaise xs id c).1.length ≤ 10 ∧ ∀ s ∈ (rdRaise xs id c).1, s.ok = true := by
  unfold rdRaise
  split
  · exact ⟨by simp, by simp⟩
  · split
    · exact rdWith_ok _ _ _
    · exact ⟨by simp, by simp⟩
theorem rdJoin_ok (xs : List VReader) (nm : ByteArray) (d : Int) : (rdJoin xs nm d).1.length ≤ 10 ∧ ∀ s ∈ (rdJoin xs nm d).1, s.ok = true := by
  unfold rdJoin
  split
  · rename_i h
    simp only [Bool.and_eq_true] at h
    exact ⟨areRd_len h.2, fun s hs => areRd_ok h.2 hs⟩
  · exact ⟨by simp, by simp⟩
theorem FineReader_0_len (xs : List VReader) (id c : Int) (_ : xs.length ≤ 1048576) (_ : ∀ s ∈ xs, s.sized) : (FineReader_0 xs id c).length ≤ 1000000 := Nat.le_trans (rdFine_ok xs id c).1 (by omega)
theorem FineReader_0_small (xs : List VReader) (id c : Int) (_ : xs.length ≤ 1048576) (_ : ∀ s ∈ xs, s.sized) : ∀ s ∈ FineReader_0 xs id c, s.small := fun s hs => rdOk_small ((rdFine_ok xs id c).2 s hs)
theorem PayFines_0_len (xs : List VReader) (id c : Int) (_ : xs.length ≤ 1048576) (_ : ∀ s ∈ xs, s.sized) : (PayFines_0 xs id c).length ≤ 1000000 := Nat.le_trans (rdPay_ok xs id c).1 (by omega)
theorem PayFines_0_small (xs : List VReader) (id c : Int) (_ : xs.length ≤ 1048576) (_ : ∀ s ∈ xs, s.sized) : ∀ s ∈ PayFines_0 xs id c, s.small := fun s hs => rdOk_small ((rdPay_ok xs id c).2 s hs)
theorem RaiseClass_0_len (xs : List VReader) (id c : Int) (_ : xs.length ≤ 1048576) (_ : ∀ s ∈ xs, s.sized) : (RaiseClass_0 xs id c).length ≤ 1000000 := Nat.le_trans (rdRaise_ok xs id c).1 (by omega)
theorem RaiseClass_0_small (xs : List VReader) (id c : Int) (_ : xs.length ≤ 1048576) (_ : ∀ s ∈ xs, s.sized) : ∀ s ∈ RaiseClass_0 xs id c, s.small := fun s hs => rdOk_small ((rdRaise_ok xs id c).2 s hs)
theorem JoinReader_0_len (xs : List VReader) (nm : ByteArray) (d : Int) (_ : xs.length ≤ 1048576) (_ : ∀ s ∈ xs, s.sized) (_ : nm.size ≤ 1048576) : (JoinReader_0 xs nm d).length ≤ 1000000 := Nat.le_trans (rdJoin_ok xs nm d).1 (by omega)
theorem JoinReader_0_small (xs : List VReader) (nm : ByteArray) (d : Int) (_ : xs.length ≤ 1048576) (_ : ∀ s ∈ xs, s.sized) (_ : nm.size ≤ 1048576) : ∀ s ∈ JoinReader_0 xs nm d, s.small := fun s hs => rdOk_small ((rdJoin_ok xs nm d).2 s hs)
theorem RipeReaders_0_len (xs : List VReader) (d : Int) (_ : xs.length ≤ 1048576) (_ : ∀ s ∈ xs, s.sized) : (RipeReaders_0 xs d).length ≤ 1000000 := by
  unfold RipeReaders_0
  split
  · rename_i h
    simp only [Bool.and_eq_true] at h
    rw [List.length_map]
    have := areRd_len h.1
    exact Nat.le_trans (List.length_filter_le _ _) (by omega)
  · simp
end Go.Proofs.Ytpcibejmahhjiaa
namespace Go.Proofs.Ytpcibejmahhjiaa
open Go.RowKit

/-- One number in a range, the list of one just made. -/
theorem areIn1 (lo hi x : Int) (t : TypeId) (w : World) (B : Nat) (hB : w.heap.size = B) :
    Calls Try.prog 71 #[.int .i64 lo, .int .i64 hi, .slice (some ⟨B, 0, none⟩) 1 1] (w.alloc (.cells #[.int .i64 x] t)) fun e w' => e = .returned (.bool (inB x lo hi)) ∧ w.alloc (.cells #[.int .i64 x] t) = w' :=
  (areInRange_any B 1 1 [x] lo hi _ rfl (by omega) (lit1 w x t B hB)).mono fun e w' h => ⟨by rw [h.1]; simp, h.2⟩
theorem wordB_no {s : ByteArray} {k : Nat} (hlt : k < s.size) (h : lowB s[k] = false) : wordB s = false := by
  have h : s.data.toList.all lowB = false := by
    rw [List.all_eq_false]
    exact ⟨s[k], List.mem_of_getElem? (i := k) (by simp [hlt]; rfl), by simp [h]⟩
  unfold wordB; rw [h]; rfl
set_option maxHeartbeats 1600000 in
theorem isWord_any (s : ByteArray) (w : World) (hs : s.size ≤ maxLen) :
    Calls Try.prog 72 #[.string s] w fun e w' => e = .returned (.bool (wordB s)) ∧ Below w.heap.size w w' := by
  unfold maxLen at hs
  obtain ⟨q, hq⟩ : ∃ q, inB (s.size : Int) 1 10 = q := ⟨_, rfl⟩
  have Q := Lib.hid hq
  clear hq
  go_enter Try.func72, Try.ntmps72
  go_wp2_with fail
  refine (areIn1 _ _ _ _ _ _ (by simp)).mono ?_
  rintro e w' ⟨rfl, rfl⟩
  rw [Q.out]
  cases q
  · go_wp2
    go_ret
    exact ⟨ret_bool (by unfold wordB; rw [Q.out]; simp), bel_al1 _ _⟩
  · go_wp2
    go_loop [11, 3] (fun i _ => ∃ k : Nat, k ≤ s.size ∧ i = .int .i64 k ∧ (s.data.toList.take k).all lowB = true) (fun i _ => s.size - (intOf i).toNat)
    case atStart => exact ⟨0, Nat.zero_le _, rfl, rfl⟩
    case round =>
      obtain ⟨k, hk, rfl, hall⟩ := hrel
      have A := Lib.hid hall
      clear hall
      by_cases hlt : k < s.size
      · have T := Lib.hid (take_snoc s k hlt)
        by_cases h1 : 97 ≤ (s[k].toNat : Int)
        · by_cases h2 : (s[k].toNat : Int) ≤ 122
          · have LO := Lib.hid (show (s.data.toList.take (k + 1)).all lowB = true from by
              rw [T.out, List.all_append, A.out]; simp [lowB]; omega)
            go_wp2
            go_round
            case rel => exact ⟨k + 1, by omega, by go_num, LO.out⟩
            case measure => simp [intOf]; omega
          · have NO := Lib.hid (wordB_no hlt (by simp [lowB]; omega))
            have h3 : (122 : Int) < (s[k].toNat : Int) := by omega
            go_wp2
            go_ret
            exact ⟨ret_bool NO.out.symm, bel_al1 _ _⟩
        · have NO := Lib.hid (wordB_no hlt (by simp [lowB]; omega))
          have h3 : (s[k].toNat : Int) < 97 := by omega
          go_wp2
          go_ret
          exact ⟨ret_bool NO.out.symm, bel_al1 _ _⟩
      · obtain rfl : k = s.size := by omega
        have E := Lib.hid (show wordB s = true from by
          have h := A.out
          rw [take_all] at h
          unfold wordB; rw [h, Q.out]; rfl)
        go_wp2
        go_ret
        exact ⟨ret_bool E.out.symm, bel_al1 _ _⟩
end Go.Proofs.Ytpcibejmahhjiaa
namespace Go.Proofs.Ytpcibejmahhjiaa
open Go.RowKit

/-- From w to w' no block outside lo .. hi has turned. -/
structure Turned (lo hi : Nat) (w w' : World) : Prop where
  os : w'.os = w.os
  tape : w'.tape = w.tape
  output : w'.output = w.output
  size : w.heap.size ≤ w'.heap.size
  block : ∀ k, k < w.heap.size → (k < lo ∨ hi ≤ k) → w'.heap[k]? = w.heap[k]?
theorem Turned.refl (lo hi : Nat) (w : World) : Turned lo hi w w := ⟨rfl, rfl, rfl, Nat.le_refl _, fun _ _ _ => rfl⟩
theorem Turned.trans {lo hi : Nat} {a b c : World} (h : Turned lo hi a b) (k : Turned lo hi b c) : Turned lo hi a c :=
  ⟨k.os.trans h.os, k.tape.trans h.tape, k.output.trans h.output, Nat.le_trans h.size k.size, fun j hj ho => (k.block j (Nat.lt_of_lt_of_le hj h.size) ho).trans (h.block j hj ho)⟩
theorem Turned.of_below {lo hi : Nat} {w w' : World} (h : Below w.heap.size w w') : Turned lo hi w w' := ⟨h.os, h.tape, h.output, h.size, fun k hk _ => h.block k hk⟩
theorem Turned.of_grown {lo hi : Nat} {w w' : World} {row : Option Nat} (h : w.grownBy w' row) (hr : ∀ k, row = some k → lo ≤ k ∧ k < hi) : Turned lo hi w w' :=
  ⟨h.os, h.tape, h.output, h.size, fun k hk ho => h.block k hk (fun e => by have := hr k e.symm; omega)⟩
theorem Turned.below {lo hi B : Nat} {w0 w w' : World} (b : Below B w0 w) (h : Turned lo hi w w') (hB : B ≤ lo) (hw : B ≤ w.heap.size) : Below B w0 w' :=
  b.trans ⟨h.os, h.tape, h.output, h.size, fun k hk => h.block k (by omega) (.inl (by omega))⟩
theorem Turned.mono {lo hi lo' hi' : Nat} {w w' : World} (h : Turned lo hi w w') (h1 : lo' ≤ lo) (h2 : hi ≤ hi') : Turned lo' hi' w w' := ⟨h.os, h.tape, h.output, h.size, fun k hk ho => h.block k hk (by omega)⟩
theorem Turned.setCell {lo hi : Nat} {a w : World} (h : Turned lo hi a w) {p : Addr} (h1 : lo ≤ p.block) (h2 : p.block < hi) (u : Value) : Turned lo hi a (w.setCell p u) :=
  h.trans ⟨rfl, rfl, rfl, by simp [World.setCell], fun k _ ho => Below.heap_setCell _ _ _ _ (by omega)⟩
theorem Turned.alloc {lo hi : Nat} {a w : World} (h : Turned lo hi a w) (o : Obj) : Turned lo hi a (w.alloc o) := h.trans (Turned.of_below (bel_al1 w o))

/-- A row of the call's own that lies in lo .. hi. -/
def OwnIn (lo hi : Nat) (w : World) (e : TypeId) (size : Nat) (v : Value) (n : Nat) (L : List Value) : Prop := w.ownsRow lo e size v n L ∧ ∀ b, v.ownBlock = some b → b < hi
section
variable {lo hi : Nat} {w w' : World} {e : TypeId} {size n : Nat} {v : Value} {L : List Value}
theorem OwnIn.row (h : OwnIn lo hi w e size v n L) : w.ownsRow lo e size v n L := h.1
theorem OwnIn.lt (h : OwnIn lo hi w e size v n L) {b : Nat} (hb : v.ownBlock = some b) : lo ≤ b ∧ b < hi ∧ b < w.heap.size := ⟨(h.1.lt b hb).1, h.2 b hb, (h.1.lt b hb).2⟩
theorem OwnIn.keep (h : OwnIn lo hi w e size v n L) (hk : ∀ b, v.ownBlock = some b → w'.heap[b]? = w.heap[b]?) : OwnIn lo hi w' e size v n L := by
  refine ⟨⟨h.1.1, ?_⟩, h.2⟩
  rcases h.1.2 with h0 | ⟨g, cap, cur, rfl, hg, hh, r⟩
  · exact .inl h0
  · exact .inr ⟨g, cap, cur, rfl, hg, (hk g rfl).trans hh, r⟩
theorem OwnIn.turned (h : OwnIn lo hi w e size v n L) {lo' hi' : Nat} (t : Turned lo' hi' w w') (hd : hi ≤ lo' ∨ hi' ≤ lo) : OwnIn lo hi w' e size v n L :=
  h.keep fun b hb => t.block b (h.lt hb).2.2 (by have := h.lt hb; omega)
theorem OwnIn.below (h : OwnIn lo hi w e size v n L) (hb : Below w.heap.size w w') : OwnIn lo hi w' e size v n L := h.keep fun b hv => hb.block b (h.lt hv).2.2
theorem OwnIn.mono (h : OwnIn lo hi w e size v n L) {lo' hi' : Nat} (h1 : lo' ≤ lo) (h2 : hi ≤ hi') : OwnIn lo' hi' w e size v n L :=
  ⟨ownsRow_base h.1 h1, fun b hb => Nat.lt_of_lt_of_le (h.2 b hb) h2⟩
theorem OwnIn.of_row {base : Nat} (h : w.ownsRow base e size v n L) (hl : lo ≤ base) (hh : w.heap.size ≤ hi) : OwnIn lo hi w e size v n L :=
  ⟨ownsRow_base h hl, fun b hb => Nat.lt_of_lt_of_le (h.lt b hb).2 hh⟩
end
theorem isInts_ownIn {lo hi : Nat} {w : World} {v : Value} {xs : List Int} (h : OwnIn lo hi w 3 1 v xs.length (intCells xs)) : ∃ a cap, v = .slice a xs.length cap ∧ IsInts w a xs.length cap xs := by
  obtain ⟨a, c, e, hi, _⟩ := isInts_own h.1
  exact ⟨a, c, e, hi⟩

/-- A slice's three parts. -/
structure Hd where
  a : Option Addr
  n : Nat
  c : Nat
def Hd.v (h : Hd) : Value := .slice h.a h.n h.c
def Hd.blk (h : Hd) : Option Nat := h.v.ownBlock
/-- A row of integers of the call's own, by its parts. -/
def HInts (lo hi : Nat) (w : World) (h : Hd) (zs : List Int) : Prop := OwnIn lo hi w 3 1 (.slice h.a h.n h.c) zs.length (intCells zs)
theorem HInts.is {lo hi : Nat} {w : World} {h : Hd} {zs : List Int} (H : HInts lo hi w h zs) : IsInts w h.a h.n h.c zs ∧ h.n = zs.length := by
  obtain ⟨a, c, e, hi⟩ := isInts_ownIn H
  simp only [Value.slice.injEq] at e
  obtain ⟨rfl, e2, rfl⟩ := e
  rw [e2]; exact ⟨hi, rfl⟩
end Go.Proofs.Ytpcibejmahhjiaa
namespace Go.Proofs.Ytpcibejmahhjiaa
open Go.RowKit
theorem el_at {α : Type} {xs : List α} {len k : Nat} (hl : Hid (len = xs.length)) (hk : k < len) : ∃ s, xs[k]? = some s := ⟨xs[k]'(by have := hl.out; omega), List.getElem?_eq_getElem _⟩
theorem all_more {P : Nat → Prop} {k : Nat} (h : ∀ j, j < k → P j) (h1 : P k) : ∀ j, j < k + 1 → P j := by
  intro j hj
  by_cases e : j = k
  · subst e; exact h1
  · exact h j (by omega)
theorem up_ways {α : Type} {ok : α → Bool} {id : α → Int} {xs : List α} {k : Nat} {s : α} (hs : xs[k]? = some s) :
    (ok s = false ∧ upStep ok id xs k = false) ∨ (ok s = true ∧ k = 0 ∧ upStep ok id xs k = true) ∨ (ok s = true ∧ ∃ j p, k = j + 1 ∧ xs[j]? = some p ∧ ((¬ id s ≤ id p ∧ upStep ok id xs k = true) ∨ (id s ≤ id p ∧ upStep ok id xs k = false))) := by
  match k, hs with
  | 0, hs =>
    rw [upStep_zero hs]
    cases h : ok s
    · exact .inl ⟨rfl, rfl⟩
    · exact .inr (.inl ⟨rfl, rfl, rfl⟩)
  | j + 1, hs =>
    have hl := (List.getElem?_eq_some_iff.1 hs).1
    have hp : xs[j]? = some xs[j] := List.getElem?_eq_getElem (by omega)
    rw [upStep_succ hp hs]
    cases h : ok s
    · exact .inl ⟨rfl, rfl⟩
    · refine .inr (.inr ⟨rfl, j, xs[j], rfl, hp, ?_⟩)
      by_cases h2 : id s ≤ id xs[j]
      · exact .inr ⟨h2, by simp; omega⟩
      · exact .inl ⟨h2, by simp; omega⟩
/-- A call of a function value enters the function. -/
theorem enters_fn {P : Program} {K : FuncId} {fn : Func} (hf : P.funcs[K]? = some fn) (h1 : (fn.name == "runtime.NumGoroutine") = false) (h2 : fn.body.isNone = false) : ∀ args W, (callFunc K args).run P W = .ok (.enter K args) W := by
  intro args W
  have h1' : ¬ fn.name = "runtime.NumGoroutine" := by simpa using h1
  have h2' : ¬ fn.body = none := by intro h; rw [h] at h2; cases h2
  simp [callFunc, go_sem, hf, h1', h2']
theorem cell_box (w : World) (v : Value) (t : TypeId) (B : Nat) (hB : w.heap.size = B) : (w.alloc (.cells #[v] t)).cell? ⟨B, 0, none⟩ = some v := by
  subst hB
  simp [World.cell?_alloc_new]
theorem cell_stay {w w' : World} {b o : Nat} {v : Value} (h : w.cell? ⟨b, o, none⟩ = some v) (hb : Below w.heap.size w w') : w'.cell? ⟨b, o, none⟩ = some v := (hb.cell (p := ⟨b, o, none⟩) (World.lt_of_cell h)).trans h
end Go.Proofs.Ytpcibejmahhjiaa
namespace Go.Proofs.Ytpcibejmahhjiaa
open Go.RowKit

set_option maxHeartbeats 12800000 in
set_option maxRecDepth 100000 in
theorem byMaker_any (K1 K2 : FuncId) (ok : VMaker → Bool) (id : VMaker → Int) (limit : Int) (a : Option Addr) (len cap : Nat) (xs : List VMaker) (w : World) (h : IsMakerS w a len cap xs)
    (hc1 : ∀ args W, (callFunc K1 args).run Try.prog W = .ok (.enter K1 args) W) (hc2 : ∀ args W, (callFunc K2 args).run Try.prog W = .ok (.enter K2 args) W)
    (h1 : ∀ (W : World) (s : VMaker), s ∈ xs → s.small → Calls Try.prog K1 #[.agg #[.int .i64 s.Id, .string s.Name, .int .i64 s.From, .int .i64 s.Until, .int .i64 s.Heir]] W fun e w' => e = .returned (.bool (ok s)) ∧ Below W.heap.size W w')
    (h2 : ∀ (W : World) (s : VMaker), Calls Try.prog K2 #[.agg #[.int .i64 s.Id, .string s.Name, .int .i64 s.From, .int .i64 s.Until, .int .i64 s.Heir]] W fun e w' => e = .returned (.int .i64 (id s)) ∧ Below W.heap.size W w') :
    Calls Try.prog 73 #[.slice a len cap, .int .i64 limit, .func (.func K1) #[] #[], .func (.func K2) #[] #[]] w fun e w' => e = .returned (.bool (upB ok id xs && decide ((xs.length : Int) ≤ limit))) ∧ Below w.heap.size w w' := by
  have hm := h.2.2.1
  have hcl := h.2.1
  unfold maxLen at hm
  have S := Lib.hid h
  have L := Lib.hid h.1
  have F1 := Lib.hid h1
  have F2 := Lib.hid h2
  clear h h1 h2
  by_cases hl : limit < (len : Int)
  · go_enter Try.func73, Try.ntmps73
    go_wp2
    go_ret
    exact ⟨ret_bool (by have e := L.out; rw [decide_eq_false (by omega)]; simp), Below.refl _ _⟩
  go_enter Try.func73, Try.ntmps73
  go_wp2
  go_loopw [17] (fun i wr => ∃ k : Nat, k ≤ len ∧ i = .int .i64 k ∧ Below w.heap.size w wr ∧ ∀ j, j < k → upStep ok id xs j = true) (fun i _ => len - (intOf i).toNat)
  case atStart => exact ⟨0, Nat.zero_le _, rfl, Below.refl _ _, by omega⟩
  case round =>
    obtain ⟨k, hk, rfl, hbel, hall⟩ := hrel
    have A := Lib.hid hall
    have B := Lib.hid hbel
    clear hall
    by_cases hlt : k < len
    · obtain ⟨s, hs⟩ := el_at L hlt
      obtain ⟨b, o, rfl, hb, hat⟩ := (S.out.below hbel).at (by omega)
      obtain ⟨c0, c1, c2, c3, c4, hsm⟩ := hat k s hs
      have SM := Lib.hid hsm
      clear hsm
      have AT := Lib.hid hat
      have K := Lib.hid hs
      clear hs hat hbel
      go_wp2
      refine wp_world (fun W => BoxMaker W wr.heap.size s ∧ Below wr.heap.size wr W) ⟨BoxMaker.new _ _ s _ rfl, bel_al1 _ _⟩ ?_
      rintro W ⟨hbox, hbw⟩
      have BW := Lib.hid hbw
      obtain ⟨e0, e1, e2, e3, e4⟩ := hbox
      clear c0 c1 c2 c3 c4 hbw
      have k0 := cell_regrown e0
      have k1 := cell_regrown e1
      have k2 := cell_regrown e2
      have k3 := cell_regrown e3
      have k4 := cell_regrown e4
      clear e0 e1 e2 e3 e4
      have hi0 : (0 : Int) ≤ (k : Int) := by omega
      have hi1 : (k : Int) < (len : Int) := by omega
      rcases up_ways (ok := ok) (id := id) K.out with ⟨h1, h2⟩ | ⟨h1, rfl, h2⟩ | ⟨h1, j, p, rfl, hp, h2⟩
      · have cQ := below_at (W := W) (fun W' hbW => h1 ▸ F1.out W' s (List.mem_of_getElem? K.out) SM.out)
        have Z := Lib.hid h2
        clear h1 h2
        refine wp_region_quiet_below (by kernel_rfl) (by kernel_rfl) ?_
        repeat (first | go_big_quiet_step (first | (with_reducible exact cQ _ _)) | quiet_step (first | (with_reducible exact cQ _ _)))
        refine wpQuiet_nil ?_
        intro W2 hw2
        have B2 := Lib.hid (Below.then' (Below.then' B.out BW.out) (below_of_re hw2))
        clear hw2 cQ k0 k1 k2 k3 k4
        go_wp2
        go_ret
        exact ⟨ret_bool (by rw [upB_bad Z.out (by have := L.out; omega)]; rfl), B2.out⟩
      · have cQ := below_at (W := W) (fun W' hbW => h1 ▸ F1.out W' s (List.mem_of_getElem? K.out) SM.out)
        have Z := Lib.hid h2
        clear h1 h2
        refine wp_region_quiet_below (by kernel_rfl) (by kernel_rfl) ?_
        repeat (first | go_big_quiet_step (first | (with_reducible exact cQ _ _)) | quiet_step (first | (with_reducible exact cQ _ _)))
        refine wpQuiet_nil ?_
        intro W2 hw2
        have B2 := Lib.hid (Below.then' (Below.then' B.out BW.out) (below_of_re hw2))
        clear hw2 cQ k0 k1 k2 k3 k4
        go_wp2
        go_roundw
        case rel => exact ⟨1, by omega, by go_num, B2.out, all_more A.out Z.out⟩
        case measure => simp [intOf]; omega
      · have cQ := below_at (W := W) (fun W' hbW => h1 ▸ F1.out W' s (List.mem_of_getElem? K.out) SM.out)
        obtain ⟨p0, p1, p2, p3, p4, _⟩ := (AT.out j p hp).below BW.out hb
        have q0 := cell_regrown p0
        have q1 := cell_regrown p1
        have q2 := cell_regrown p2
        have q3 := cell_regrown p3
        have q4 := cell_regrown p4
        clear p0 p1 p2 p3 p4
        obtain ⟨u, hu⟩ : ∃ u, id p = u := ⟨_, rfl⟩
        obtain ⟨v, hv⟩ : ∃ v, id s = v := ⟨_, rfl⟩
        rw [hu, hv] at h2
        have cP := below_at (W := W) (fun W' _ => hu ▸ F2.out W' p)
        have cS := below_at (W := W) (fun W' _ => hv ▸ F2.out W' s)
        have hp0 : (0 : Int) ≤ (j : Int) := by omega
        have hp1 : (j : Int) < (len : Int) := by omega
        clear h1 hp hu hv
        rcases h2 with ⟨h2, h3⟩ | ⟨h2, h3⟩
        · have Z := Lib.hid h3
          clear h3
          refine wp_region_quiet_below (by kernel_rfl) (by kernel_rfl) ?_
          repeat (first | go_big_quiet_step (first | (with_reducible exact cQ _ _) | (with_reducible exact cP _ _) | (with_reducible exact cS _ _)) | quiet_step (first | (with_reducible exact cQ _ _) | (with_reducible exact cP _ _) | (with_reducible exact cS _ _)))
          refine wpQuiet_nil ?_
          intro W2 hw2
          have B2 := Lib.hid (Below.then' (Below.then' B.out BW.out) (below_of_re hw2))
          clear hw2 cQ cP cS k0 k1 k2 k3 k4 q0 q1 q2 q3 q4
          go_wp2
          go_roundw
          case rel => exact ⟨j + 1 + 1, by omega, by go_num, B2.out, all_more A.out Z.out⟩
          case measure => simp [intOf]; omega
        · have Z := Lib.hid h3
          clear h3
          refine wp_region_quiet_below (by kernel_rfl) (by kernel_rfl) ?_
          repeat (first | go_big_quiet_step (first | (with_reducible exact cQ _ _) | (with_reducible exact cP _ _) | (with_reducible exact cS _ _)) | quiet_step (first | (with_reducible exact cQ _ _) | (with_reducible exact cP _ _) | (with_reducible exact cS _ _)))
          refine wpQuiet_nil ?_
          intro W2 hw2
          have B2 := Lib.hid (Below.then' (Below.then' B.out BW.out) (below_of_re hw2))
          clear hw2 cQ cP cS k0 k1 k2 k3 k4 q0 q1 q2 q3 q4
          go_wp2
          go_ret
          exact ⟨ret_bool (by rw [upB_bad Z.out (by have := L.out; omega)]; rfl), B2.out⟩
    · obtain rfl : k = len := by omega
      have U := Lib.hid (show (upB ok id xs && decide ((xs.length : Int) ≤ limit)) = true from by
        rw [upB_iff.2 (fun i hi => A.out i (by have := L.out; omega)), decide_eq_true (by have := L.out; omega)]; rfl)
      clear hbel
      go_wp2
      go_ret
      exact ⟨ret_bool U.out.symm, B.out⟩
end Go.Proofs.Ytpcibejmahhjiaa
namespace Go.Proofs.Ytpcibejmahhjiaa
open Go.RowKit
theorem list_atMaker {xs : List VMaker} {len k : Nat} (hl : Hid (len = xs.length)) (hk : k < len) : ∃ s, xs[k]? = some s := ⟨xs[k]'(by have := hl.out; omega), List.getElem?_eq_getElem _⟩
theorem made_ownMaker (w : World) (base : Nat) (h : base ≤ w.heap.size) : (w.alloc (.cells #[] 42)).ownsRow base 42 5 (.slice (some ⟨w.heap.size, 0, none⟩) 0 0) ([] : List VMaker).length (cellsMaker []) :=
  World.ownsRow_made (base := base) (e := 42) (size := 5) w #[] 0 h (Nat.zero_le _) rfl
theorem one_Maker (xs : List VMaker) : ∀ u ∈ cellsMaker xs, u.oneCell' = true := by
  intro u hu
  obtain ⟨s, _, hs⟩ := List.mem_flatMap.1 hu
  exact s.vals_one u hs
set_option maxHeartbeats 1600000 in
set_option maxRecDepth 100000 in
/-- The index of the first element that a function value likes. -/
theorem idxMaker_any (K : FuncId) (caps : Array Value) (f : VMaker → Bool) (a : Option Addr) (len cap : Nat) (xs : List VMaker) (w : World) (h : IsMakerS w a len cap xs)
    (hcall : ∀ args W, (callFunc K args).run Try.prog W = .ok (.enter K args) W)
    (hf : ∀ W s, s ∈ xs → Below w.heap.size w W → Calls Try.prog K (#[.agg #[.int .i64 s.Id, .string s.Name, .int .i64 s.From, .int .i64 s.Until, .int .i64 s.Heir]] ++ caps) W fun e w' => e = .returned (.bool (f s)) ∧ Below W.heap.size W w') :
    Calls Try.prog 97 #[.slice a len cap, .func (.func K) #[] caps] w fun e w' => e = .returned (.int .i64 (firstOf f xs)) ∧ Below w.heap.size w w' := by
  have hm := h.2.2.1
  have hcl := h.2.1
  unfold maxLen at hm
  have S := Lib.hid h
  have L := Lib.hid h.1
  have F := Lib.hid hf
  clear h hf
  go_enter Try.func97, Try.ntmps97
  go_wp2
  go_loopw [8, 5] (fun i _ wr => ∃ k : Nat, k ≤ len ∧ i = .int .i64 k ∧ Below w.heap.size w wr ∧ ∀ (j : Nat) t, j < k → xs[j]? = some t → f t = false) (fun i _ _ => len - (intOf i).toNat)
  case atStart => exact ⟨0, Nat.zero_le _, rfl, Below.refl _ _, by omega⟩
  case round =>
    obtain ⟨k, hk, rfl, hbel, hall⟩ := hrel
    have A := Lib.hid hall
    have B := Lib.hid hbel
    clear hall
    by_cases hlt : k < len
    · obtain ⟨s, hs⟩ := list_atMaker L hlt
      obtain ⟨b, o, rfl, hb, hat⟩ := (S.out.below hbel).at (by omega)
      obtain ⟨c0, c1, c2, c3, c4, _⟩ := hat k s hs
      have X := Lib.hid hs
      clear hs hat hbel
      go_wp2_with fail
      refine (F.out wr s (List.mem_of_getElem? X.out) B.out).mono ?_
      rintro e w1 ⟨rfl, hb1⟩
      have B1 := Lib.hid (Below.then' B.out hb1)
      clear hb1
      by_cases hfs : f s = true
      · have FS := Lib.hid hfs
        rw [hfs]
        clear hfs
        go_wp2
        go_ret
        exact ⟨ret_int (firstOf_at X.out FS.out A.out).symm, B1.out⟩
      · have hfs' : f s = false := by simpa using hfs
        have FS := Lib.hid hfs'
        rw [hfs']
        clear hfs hfs'
        go_wp2
        go_roundw
        case rel => exact ⟨k + 1, by omega, by go_num, B1.out, fun j t hj ht => by
          by_cases e : j = k
          · subst e; rw [X.out] at ht; cases ht; exact FS.out
          · exact A.out j t (by omega) ht⟩
        case measure => simp [intOf]; omega
    · obtain rfl : k = len := by omega
      clear hbel
      go_wp2
      go_ret
      exact ⟨ret_int (firstOf_no fun j t hj ht => A.out j t (by have := L.out; omega) ht).symm, B.out⟩
set_option maxHeartbeats 1600000 in
set_option maxRecDepth 100000 in
/-- A clone: a row of the call's own. -/
theorem cloneMaker_any (a : Option Addr) (len cap : Nat) (xs : List VMaker) (w : World) (h : IsMakerS w a len cap xs) (hx : xs.length ≤ 1048576) :
    Calls Try.prog 98 #[.slice a len cap] w (MakerRow xs w) := by
  obtain rfl := h.1
  obtain ⟨i0, hi, hz0, hz1, hz2⟩ := info_parts infoMaker
  cases a with
  | none =>
    have h0 : xs.length = 0 := by
      rcases h.2.2.2 with h0 | ⟨b, o, e, _⟩
      · exact h0
      · cases e
    obtain rfl : xs = [] := List.length_eq_zero_iff.1 h0
    clear h h0
    have hnil := fun w a n c n' c' => Lib.run_eql_slice_nil (P := Try.prog) w 24 42 a n c n' c' Try.underlying24
    go_enter Try.func98, Try.ntmps98
    go_wp2
    go_ret
    exact ⟨_, rfl, ⟨by simp [cellsMaker], .inl ⟨rfl, rfl⟩⟩, Below.refl _ _⟩
  | some ad =>
    have B0 := Lib.hid (bel_al1 w (.cells #[] 42))
    have O0 := made_ownMaker w w.heap.size (Nat.le_refl _)
    have SRC := srcMaker (h.below B0.out)
    have SZ := Lib.hid (size_al w (.cells #[] 42))
    clear h
    have hnil := fun w a n c n' c' => Lib.run_eql_slice_nil (P := Try.prog) w 24 42 a n c n' c' Try.underlying24
    go_enter Try.func98, Try.ntmps98
    go_wp2_with (at_builtin; refine wpList_append_list rfl _ _ 24 rfl w.heap.size 42 i0 (.agg #[.int .i64 0, .string ByteArray.empty, .int .i64 0, .int .i64 0, .int .i64 0]) 5 48 Try.underlying24 hi hz0 hz1 hz2 rfl (by decide) _ _ _ rfl O0 _ xs.length cap (cellsMaker xs) rfl SRC (one_Maker xs) (by simp; unfold maxLen; omega) (by simp; omega) (by rw [SZ.out]; omega) ?_; intro v1 w1 hown1 hgrow1; have B1 := Lib.hid (B0.out.grown hgrow1 (by rw [SZ.out]; omega) (fun k e => by have := own_is e; omega)); have O1 := Lib.hid hown1; clear hown1 hgrow1)
    go_ret
    refine ⟨v1, rfl, ?_, B1.out⟩
    have h := O1.out
    simpa [cellsMaker] using h
/-- A call of a function value enters the function. -/
theorem callf_ofMaker {P : Program} {K : FuncId} {fn : Func} (hf : P.funcs[K]? = some fn) (h1 : (fn.name == "runtime.NumGoroutine") = false) (h2 : fn.body.isNone = false) : ∀ args W, (callFunc K args).run P W = .ok (.enter K args) W := by
  intro args W
  have h1' : ¬ fn.name = "runtime.NumGoroutine" := by simpa using h1
  have h2' : ¬ fn.body = none := by intro h; rw [h] at h2; cases h2
  simp [callFunc, go_sem, hf, h1', h2']
end Go.Proofs.Ytpcibejmahhjiaa
namespace Go.Proofs.Ytpcibejmahhjiaa
open Go.RowKit
/-- A row of integers of the call's own, and the world below as it was. -/
def IdsOwn (xs : List Int) (w : World) (e : Ending) (w' : World) : Prop := ∃ v, e = .returned v ∧ w'.ownsRow w.heap.size 3 1 v xs.length (intCells xs) ∧ Below w.heap.size w w'
theorem where_more {α : Type} {xs : List α} {k : Nat} {s : α} (f : α → Bool) (g : α → Int) (hs : xs[k]? = some s) : ((xs.take (k + 1)).filter f).map g = ((xs.take k).filter f).map g ++ (if f s = true then [g s] else []) := by
  rw [List.take_add_one, hs, List.filter_append, List.map_append]
  cases h : f s <;> simp [h]
theorem where_len {α : Type} (f : α → Bool) (g : α → Int) (xs : List α) (k : Nat) : (((xs.take k).filter f).map g).length ≤ k := by
  rw [List.length_map]
  exact Nat.le_trans (List.length_filter_le _ _) (by rw [List.length_take]; omega)
theorem nil_ids (w : World) (base : Nat) : w.ownsRow base 3 1 (.slice none 0 0) ([] : List Int).length (intCells []) := ⟨by simp [intCells], .inl ⟨rfl, rfl⟩⟩
theorem made_ids (w : World) : (w.alloc (.cells #[] 3)).ownsRow w.heap.size 3 1 (.slice (some ⟨w.heap.size, 0, none⟩) 0 0) ([] : List Int).length (intCells []) :=
  World.ownsRow_made (base := w.heap.size) (e := 3) (size := 1) w #[] 0 (Nat.le_refl _) (Nat.zero_le _) rfl
theorem wh_al1 (w : World) (o : Obj) : Below w.heap.size w (w.alloc o) := (Below.refl _ _).alloc (Nat.le_refl _) _
theorem cell_box' (w : World) (v : Value) (t : TypeId) (B : Nat) (hB : w.heap.size = B) : (w.alloc (.cells #[v] t)).cell? ⟨B, 0, none⟩ = some v := by
  subst hB
  simp [World.cell?_alloc_new]
theorem cell_stay' {w w' : World} {b o : Nat} {v : Value} (h : w.cell? ⟨b, o, none⟩ = some v) (hb : Below w.heap.size w w') : w'.cell? ⟨b, o, none⟩ = some v := (hb.cell (p := ⟨b, o, none⟩) (World.lt_of_cell h)).trans h
/-- A call of a function value enters the function. -/
theorem enters_fn' {P : Program} {K : FuncId} {fn : Func} (hf : P.funcs[K]? = some fn) (h1 : (fn.name == "runtime.NumGoroutine") = false) (h2 : fn.body.isNone = false) : ∀ args W, (callFunc K args).run P W = .ok (.enter K args) W := by
  intro args W
  have h1' : ¬ fn.name = "runtime.NumGoroutine" := by simpa using h1
  have h2' : ¬ fn.body = none := by intro h; rw [h] at h2; cases h2
  simp [callFunc, go_sem, hf, h1', h2']
end Go.Proofs.Ytpcibejmahhjiaa
