/- Readers: what the chapter's functions give, as plain mathematics. -/
import Derived.Test.YtffbljbgmgifnaaDoorRd2
namespace Go.Proofs.YtffbljbgmgifnaaDoor

/-- The reader with an id, and where it stands. -/
def rdSel (xs : List VReader) (id : Int) : Option (Nat × VReader) := if 0 ≤ rdFind xs id then (xs[(rdFind xs id).toNat]?).map fun s => ((rdFind xs id).toNat, s) else none
theorem rdSel_ways (xs : List VReader) (id : Int) : (rdFind xs id = -1 ∧ rdSel xs id = none) ∨ ∃ (i : Nat) (s : VReader), areRd xs = true ∧ rdFind xs id = (i : Int) ∧ xs[i]? = some s ∧ i < xs.length ∧ s.Id = id ∧ rdSel xs id = some (i, s) := by
  unfold rdSel
  by_cases ha : areRd xs = true
  · rcases firstOf_cases (fun s : VReader => s.Id == id) xs with ⟨h1, _⟩ | ⟨i, s, h1, h2, h3, _⟩
    · have e : rdFind xs id = -1 := by unfold rdFind; rw [if_pos ha, h1]
      exact .inl ⟨e, by rw [e]; rfl⟩
    · have e : rdFind xs id = (i : Int) := by unfold rdFind; rw [if_pos ha, h1]
      refine .inr ⟨i, s, ha, e, h2, (List.getElem?_eq_some_iff.1 h2).1, by simpa using h3, ?_⟩
      rw [e, if_pos (by omega), Int.toNat_natCast, h2]; rfl
  · have e : rdFind xs id = -1 := by unfold rdFind; rw [if_neg ha]
    exact .inl ⟨e, by rw [e]; rfl⟩
def centsB (c : Int) : Bool := inB c 1 10000
/-- The list in which a reader is replaced, and whether it is valid. -/
def rdWith (xs : List VReader) (i : Nat) (r : VReader) : List VReader × Bool := if areRd (xs.set i r) = true then (xs.set i r, true) else ([], false)
def rdFine (xs : List VReader) (id c : Int) : List VReader × Bool :=
  match rdSel xs id with
  | none => ([], false)
  | some (i, s) => if centsB c = true then rdWith xs i ⟨s.Id, s.Name, s.Joined, s.Class, s.Fines + c⟩ else ([], false)
def rdPay (xs : List VReader) (id c : Int) : List VReader × Int × Bool :=
  match rdSel xs id with
  | none => ([], 0, false)
  | some (i, s) => if centsB c = true then ((rdWith xs i ⟨s.Id, s.Name, s.Joined, s.Class, s.Fines - min c s.Fines⟩).1, c - min c s.Fines, (rdWith xs i ⟨s.Id, s.Name, s.Joined, s.Class, s.Fines - min c s.Fines⟩).2) else ([], 0, false)
def ripeB (s : VReader) (day : Int) : Bool := decide (s.Class < 3) && (s.Fines == 0 && decide (365 * s.Class ≤ day - s.Joined))
def rdRaise (xs : List VReader) (id day : Int) : List VReader × Bool :=
  match rdSel xs id with
  | none => ([], false)
  | some (i, s) => if (dayB day && ripeB s day) = true then rdWith xs i ⟨s.Id, s.Name, s.Joined, s.Class + 1, s.Fines⟩ else ([], false)
def rdLast (xs : List VReader) : Int := match xs.getLast? with | some s => s.Id + 1 | none => 1
def rdJoin (xs : List VReader) (nm : ByteArray) (d : Int) : List VReader × Int × Bool :=
  if (areRd xs && areRd (xs ++ [⟨rdLast xs, nm, d, 1, 0⟩])) = true then (xs ++ [⟨rdLast xs, nm, d, 1, 0⟩], rdLast xs, true) else ([], 0, false)
def mayOf (cl : Int) : Int := if cl = 1 then 2 else if cl = 2 then 5 else 10
def rdMay (xs : List VReader) (id home : Int) : Int × Bool :=
  match rdSel xs id with
  | none => (0, false)
  | some (_, s) => if inB home 0 99 = true then (if 500 ≤ s.Fines then 0 else max 0 (mayOf s.Class - home), true) else (0, false)
def IsReader_0 (s : VReader) : Bool := s.ok
def AreReaders_0 (xs : List VReader) : Bool := areRd xs
def FineReader_0 (xs : List VReader) (id c : Int) : List VReader := (rdFine xs id c).1
def FineReader_1 (xs : List VReader) (id c : Int) : Bool := (rdFine xs id c).2
def PayFines_0 (xs : List VReader) (id c : Int) : List VReader := (rdPay xs id c).1
def PayFines_1 (xs : List VReader) (id c : Int) : Int := (rdPay xs id c).2.1
def PayFines_2 (xs : List VReader) (id c : Int) : Bool := (rdPay xs id c).2.2
def RaiseClass_0 (xs : List VReader) (id d : Int) : List VReader := (rdRaise xs id d).1
def RaiseClass_1 (xs : List VReader) (id d : Int) : Bool := (rdRaise xs id d).2
def JoinReader_0 (xs : List VReader) (nm : ByteArray) (d : Int) : List VReader := (rdJoin xs nm d).1
def JoinReader_1 (xs : List VReader) (nm : ByteArray) (d : Int) : Int := (rdJoin xs nm d).2.1
def JoinReader_2 (xs : List VReader) (nm : ByteArray) (d : Int) : Bool := (rdJoin xs nm d).2.2
def MayTake_0 (xs : List VReader) (id h : Int) : Int := (rdMay xs id h).1
def MayTake_1 (xs : List VReader) (id h : Int) : Bool := (rdMay xs id h).2
def RipeReaders_0 (xs : List VReader) (d : Int) : List Int := if (areRd xs && dayB d) = true then (xs.filter fun s => ripeB s d).map VReader.Id else []
def RipeReaders_1 (xs : List VReader) (d : Int) : Bool := areRd xs && dayB d
theorem areRd_len {xs : List VReader} (h : areRd xs = true) : xs.length ≤ 10 := by unfold areRd at h; simp at h; exact h.2
theorem areRd_ok {xs : List VReader} (h : areRd xs = true) {s : VReader} (hs : s ∈ xs) : s.ok = true := by
  unfold areRd at h
  simp only [Bool.and_eq_true] at h
  exact upB_ok h.1 hs
theorem rdOk_iff {s : VReader} : s.ok = true ↔ (1 ≤ s.Id ∧ s.Id ≤ 999) ∧ wordB s.Name = true ∧ (0 ≤ s.Joined ∧ s.Joined ≤ 4000) ∧ (1 ≤ s.Class ∧ s.Class ≤ 3) ∧ (0 ≤ s.Fines ∧ s.Fines ≤ 10000) := by
  unfold VReader.ok dayB; simp only [Bool.and_eq_true, inB_iff]
theorem word_size {s : ByteArray} (h : wordB s = true) : 1 ≤ s.size ∧ s.size ≤ 10 := by
  unfold wordB at h
  simp only [Bool.and_eq_true, inB_iff] at h
  omega
theorem rdOk_small {s : VReader} (h : s.ok = true) : s.small := by
  have := (word_size (rdOk_iff.1 h).2.1).2
  unfold VReader.small maxLen
  omega
theorem rdWith_ok (xs : List VReader) (i : Nat) (r : VReader) : (rdWith xs i r).1.length ≤ 10 ∧ ∀ s ∈ (rdWith xs i r).1, s.ok = true := by
  unfold rdWith
  split
  · rename_i h; exact ⟨areRd_len h, fun s hs => areRd_ok h hs⟩
  · exact ⟨by simp, by simp⟩
theorem rdFine_ok (xs : List VReader) (id c : Int) : (rdFine xs id c).1.length ≤ 10 ∧ ∀ s ∈ (rdFine xs id c).1, s.ok = true := by
  unfold rdFine
  split
  · exact ⟨by simp, by simp⟩
  · split
    · exact rdWith_ok _ _ _
    · exact ⟨by simp, by simp⟩
theorem rdPay_ok (xs : List VReader) (id c : Int) : (rdPay xs id c).1.length ≤ 10 ∧ ∀ s ∈ (rdPay xs id c).1, s.ok = true := by
  unfold rdPay
  split
  · exact ⟨by simp, by simp⟩
  · split
    · exact rdWith_ok _ _ _
    · exact ⟨by simp, by simp⟩
theorem rdRaise_ok (xs : List VReader) (id c : Int) : (rdRaise xs id c).1.length ≤ 10 ∧ ∀ s ∈ (rdRaise xs id c).1, s.ok = true := by
  unfold rdRaise
  split
  · exact ⟨by simp, by simp⟩
  · split
    · exact rdWith_ok _ _ _
    · exact ⟨by simp, by simp⟩
theorem rdJoin_ok (xs : List VReader) (nm : ByteArray) (d : Int) : (rdJoin xs nm d).1.length ≤ 10 ∧ ∀ s ∈ (rdJoin xs nm d).1, s.ok = true := by
  unfold rdJoin
  split
  · rename_i h
    simp only [Bool.and_eq_true] at h
    exact ⟨areRd_len h.2, fun s hs => areRd_ok h.2 hs⟩
  · exact ⟨by simp, by simp⟩
theorem FineReader_0_len (xs : List VReader) (id c : Int) (_ : xs.length ≤ 1048576) (_ : ∀ s ∈ xs, s.sized) : (FineReader_0 xs id c).length ≤ 1000000 := Nat.le_trans (rdFine_ok xs id c).1 (by omega)
theorem FineReader_0_small (xs : List VReader) (id c : Int) (_ : xs.length ≤ 1048576) (_ : ∀ s ∈ xs, s.sized) : ∀ s ∈ FineReader_0 xs id c, s.small := fun s hs => rdOk_small ((rdFine_ok xs id c).2 s hs)
theorem PayFines_0_len (xs : List VReader) (id c : Int) (_ : xs.length ≤ 1048576) (_ : ∀ s ∈ xs, s.sized) : (PayFines_0 xs id c).length ≤ 1000000 := Nat.le_trans (rdPay_ok xs id c).1 (by omega)
theorem PayFines_0_small (xs : List VReader) (id c : Int) (_ : xs.length ≤ 1048576) (_ : ∀ s ∈ xs, s.sized) : ∀ s ∈ PayFines_0 xs id c, s.small := fun s hs => rdOk_small ((rdPay_ok xs id c).2 s hs)
theorem RaiseClass_0_len (xs : List VReader) (id c : Int) (_ : xs.length ≤ 1048576) (_ : ∀ s ∈ xs, s.sized) : (RaiseClass_0 xs id c).length ≤ 1000000 := Nat.le_trans (rdRaise_ok xs id c).1 (by omega)
theorem RaiseClass_0_small (xs : List VReader) (id c : Int) (_ : xs.length ≤ 1048576) (_ : ∀ s ∈ xs, s.sized) : ∀ s ∈ RaiseClass_0 xs id c, s.small := fun s hs => rdOk_small ((rdRaise_ok xs id c).2 s hs)
theorem JoinReader_0_len (xs : List VReader) (nm : ByteArray) (d : Int) (_ : xs.length ≤ 1048576) (_ : ∀ s ∈ xs, s.sized) (_ : nm.size ≤ 1048576) : (JoinReader_0 xs nm d).length ≤ 1000000 := Nat.le_trans (rdJoin_ok xs nm d).1 (by omega)
theorem JoinReader_0_small (xs : List VReader) (nm : ByteArray) (d : Int) (_ : xs.length ≤ 1048576) (_ : ∀ s ∈ xs, s.sized) (_ : nm.size ≤ 1048576) : ∀ s ∈ JoinReader_0 xs nm d, s.small := fun s hs => rdOk_small ((rdJoin_ok xs nm d).2 s hs)
theorem RipeReaders_0_len (xs : List VReader) (d : Int) (_ : xs.length ≤ 1048576) (_ : ∀ s ∈ xs, s.sized) : (RipeReaders_0 xs d).length ≤ 1000000 := by
  unfold RipeReaders_0
  split
  · rename_i h
    simp only [Bool.and_eq_true] at h
    rw [List.length_map]
    have := areRd_len h.1
    exact Nat.le_trans (List.length_filter_le _ _) (by omega)
  · simp
end Go.Proofs.YtffbljbgmgifnaaDoor
