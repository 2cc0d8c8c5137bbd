/- Texts in one: LoanE, RdD, Ri, LoanL, Loi, Loi2, Loi3, Loi4. -/
import Derived.Test.YtffbljbgmgifnaaM1
import Derived.Test.YtffbljbgmgifnaaM4
import Derived.Lib.SliceRun
import Derived.Test.YtffbljbgmgifnaaM3
import Derived.Deep.DeepCutAuto
import Derived.Test.YtffbljbgmgifnaaM5
import Derived.Deep.RegionLaw
import Derived.StillTailTactics
namespace Go.Proofs.Ytffbljbgmgifnaa
open Go.RowKit
set_option maxHeartbeats 3200000 in
set_option maxRecDepth 100000 in
theorem rLoans_yes (a : Option Addr) (len cap : Nat) (a' : Option Addr) (len' cap' : Nat) (xs : List VLoan) (w : World) (h : IsLoanS w a len cap xs) (h' : IsLoanS w a' len' cap' xs) :
    Calls Try.prog 35 #[.slice a len cap, .slice a' len' cap'] w fun e w' => e = .returned (.bool true) ∧ Below w.heap.size w w' := by
  obtain rfl := h.1
  obtain rfl := h'.1
  have hm := h.2.2.1
  have hcl := h.2.1
  unfold maxLen at hm
  have S := Lib.hid h
  have S' := Lib.hid h'
  clear h h'
  go_enter Try.func35, Try.ntmps35
  go_wp2
  go_loopw [5] (fun i wr => ∃ k : Nat, k ≤ xs.length ∧ i = .int .i64 k ∧ Below w.heap.size w wr) (fun i _ => xs.length - (intOf i).toNat)
  case atStart => exact ⟨0, Nat.zero_le _, rfl, Below.refl _ _⟩
  case round =>
    obtain ⟨k, hk, rfl, hbel⟩ := hrel
    have B := Lib.hid hbel
    by_cases hlt : k < xs.length
    · obtain ⟨s, hs⟩ : ∃ s, xs[k]? = some s := ⟨xs[k]'hlt, List.getElem?_eq_getElem _⟩
      obtain ⟨b, o, rfl, hb, hat⟩ := (S.out.below hbel).at (by omega)
      obtain ⟨b', o', rfl, hb', hat'⟩ := (S'.out.below hbel).at (by omega)
      obtain ⟨c0, c1, c2, c3, c4⟩ := hat k s hs
      obtain ⟨d0, d1, d2, d3, d4⟩ := hat' k s hs
      have hi0 : (0 : Int) ≤ (k : Int) := by omega
      have hi1 : (k : Int) < (xs.length : Int) := by omega
      clear hbel hs hat hat'
      go_wp2
      go_quiet (fail)
      have B1 := Lib.hid (Below.then' B.out (bel_drawn wr nq))
      go_wp2
      go_roundw
      case rel => exact ⟨k + 1, by omega, by go_num, B1.out⟩
      case measure => simp [intOf]; omega
    · obtain rfl : k = xs.length := by omega
      clear hbel
      go_wp2
      go_ret
      exact ⟨rfl, B.out⟩
end Go.Proofs.Ytffbljbgmgifnaa
namespace Go.Proofs.Ytffbljbgmgifnaa

/-- The reader with an id, and where it stands. -/
def rdSel (xs : List VReader) (id : Int) : Option (Nat × VReader) := if 0 ≤ rdFind xs id then (xs[(rdFind xs id).toNat]?).map fun s => ((rdFind xs id).toNat, s) else none
theorem rdSel_ways (xs : List VReader) (id : Int) : (rdFind xs id = -1 ∧ rdSel xs id = none) ∨ ∃ (i : Nat) (s : VReader), areRd xs = true ∧ rdFind xs id = (i : Int) ∧ xs[i]? = some s ∧ i < xs.length ∧ s.Id = id ∧ rdSel xs id = some (i, s) := by
  unfold rdSel
  by_cases ha : areRd xs = true
  · rcases firstOf_cases (fun s : VReader => s.Id == id) xs with ⟨h1, _⟩ | ⟨i, s, h1, h2, h3, _⟩
    · have e : rdFind xs id = -1 := by unfold rdFind; rw [if_pos ha, h1]
      exact .inl ⟨e, by rw [e]; rfl⟩
    · have e : rdFind xs id = (i : Int) := by unfold rdFind; rw [if_pos ha, h1]
      refine .inr ⟨i, s, ha, e, h2, (List.getElem?_eq_some_iff.1 h2).1, by simpa using h3, ?_⟩
      rw [e, if_pos (by omega), Int.toNat_natCast, h2]; rfl
  · have e : rdFind xs id = -1 := by unfold rdFind; rw [if_neg ha]
    exact .inl ⟨e, by rw [e]; rfl⟩
def centsB (c : Int) : Bool := inB c 1 10000
/-- The list in which a reader is replaced, and whether it is valid. -/
def rdWith (xs : List VReader) (i : Nat) (r : VReader) : List VReader × Bool := if areRd (xs.set i r) = true then (xs.set i r, true) else ([], false)
def rdFine (xs : List VReader) (id c : Int) : List VReader × Bool :=
  match rdSel xs id with
  | none => ([], false)
  | some (i, s) => if centsB c = true then rdWith xs i ⟨s.Id, s.Name, s.Joined, s.Class, s.Fines + c⟩ else ([], false)
def rdPay (xs : List VReader) (id c : Int) : List VReader × Int × Bool :=
  match rdSel xs id with
  | none => ([], 0, false)
  | some (i, s) => if centsB c = true then ((rdWith xs i ⟨s.Id, s.Name, s.Joined, s.Class, s.Fines - min c s.Fines⟩).1, c - min c s.Fines, (rdWith xs i ⟨s.Id, s.Name, s.Joined, s.Class, s.Fines - min c s.Fines⟩).2) else ([], 0, false)
def ripeB (s : VReader) (day : Int) : Bool := decide (s.Class < 3) && (s.Fines == 0 && decide (365 * s.Class ≤ day - s.Joined))
def rdRaise (xs : List VReader) (id day : Int) : List VReader × Bool :=
  match rdSel xs id with
  | none => ([], false)
  | some (i, s) => if (dayB day && ripeB s day) = true then rdWith xs i ⟨s.Id, s.Name, s.Joined, s.Class + 1, s.Fines⟩ else ([], false)
def rdLast (xs : List VReader) : Int := match xs.getLast? with | some s => s.Id + 1 | none => 1
def rdJoin (xs : List VReader) (nm : ByteArray) (d : Int) : List VReader × Int × Bool :=
  if (areRd xs && areRd (xs ++ [⟨rdLast xs, nm, d, 1, 0⟩])) = true then (xs ++ [⟨rdLast xs, nm, d, 1, 0⟩], rdLast xs, true) else ([], 0, false)
def mayOf (cl : Int) : Int := if cl = 1 then 2 else if cl = 2 then 5 else 10
def rdMay (xs : List VReader) (id home : Int) : Int × Bool :=
  match rdSel xs id with
  | none => (0, false)
  | some (_, s) => if inB home 0 99 = true then (if 500 ≤ s.Fines then 0 else max 0 (mayOf s.Class - home), true) else (0, false)
def IsReader_0 (s : VReader) : Bool := s.ok
def AreReaders_0 (xs : List VReader) : Bool := areRd xs
def FineReader_0 (xs : List VReader) (id c : Int) : List VReader := (rdFine xs id c).1
def FineReader_1 (xs : List VReader) (id c : Int) : Bool := (rdFine xs id c).2
def PayFines_0 (xs : List VReader) (id c : Int) : List VReader := (rdPay xs id c).1
def PayFines_1 (xs : List VReader) (id c : Int) : Int := (rdPay xs id c).2.1
def PayFines_2 (xs : List VReader) (id c : Int) : Bool := (rdPay xs id c).2.2
def RaiseClass_0 (xs : List VReader) (id d : Int) : List VReader := (rdRaise xs id d).1
def RaiseClass_1 (xs : List VReader) (id d : Int) : Bool := (rdRaise xs id d).2
def JoinReader_0 (xs : List VReader) (nm : ByteArray) (d : Int) : List VReader := (rdJoin xs nm d).1
def JoinReader_1 (xs : List VReader) (nm : ByteArray) (d : Int) : Int := (rdJoin xs nm d).2.1
def JoinReader_2 (xs : List VReader) (nm : ByteArray) (d : Int) : Bool := (rdJoin xs nm d).2.2
def MayTake_0 (xs : List VReader) (id h : Int) : Int := (rdMay xs id h).1
def MayTake_1 (xs : List VReader) (id h : Int) : Bool := (rdMay xs id h).2
def RipeReaders_0 (xs : List VReader) (d : Int) : List Int := if (areRd xs && dayB d) = true then (xs.filter fun s => ripeB s d).map VReader.Id else []
def RipeReaders_1 (xs : List VReader) (d : Int) : Bool := areRd xs && dayB d
theorem areRd_len {xs : List VReader} (h : areRd xs = true) : xs.length ≤ 10 := by unfold areRd at h; simp at h; exact h.2
theorem areRd_ok {xs : List VReader} (h : areRd xs = true) {s : VReader} (hs : s ∈ xs) : s.ok = true := by
  unfold areRd at h
  simp only [Bool.and_eq_true] at h
  exact upB_ok h.1 hs
theorem rdOk_iff {s : VReader} : s.ok = true ↔ (1 ≤ s.Id ∧ s.Id ≤ 999) ∧ wordB s.Name = true ∧ (0 ≤ s.Joined ∧ s.Joined ≤ 4000) ∧ (1 ≤ s.Class ∧ s.Class ≤ 3) ∧ (0 ≤ s.Fines ∧ s.Fines ≤ 10000) := by
  unfold VReader.ok dayB; simp only [Bool.and_eq_true, inB_iff]
theorem word_size {s : ByteArray} (h : wordB s = true) : 1 ≤ s.size ∧ s.size ≤ 10 := by
  unfold wordB at h
  simp only [Bool.and_eq_true, inB_iff] at h
  omega
theorem rdOk_small {s : VReader} (h : s.ok = true) : s.small := by
  have := (word_size (rdOk_iff.1 h).2.1).2
  unfold VReader.small maxLen
  omega
theorem rdWith_ok (xs : List VReader) (i : Nat) (r : VReader) : (rdWith xs i r).1.length ≤ 10 ∧ ∀ s ∈ (rdWith xs i r).1, s.ok = true := by
  unfold rdWith
  split
  · rename_i h; exact ⟨areRd_len h, fun s hs => areRd_ok h hs⟩
  · exact ⟨by simp, by simp⟩
theorem rdFine_ok (xs : List VReader) (id c : Int) : (rdFine xs id c).1.length ≤ 10 ∧ ∀ s ∈ (rdFine xs id c).1, s.ok = true := by
  unfold rdFine
  split
  · exact ⟨by simp, by simp⟩
  · split
    · exact rdWith_ok _ _ _
    · exact ⟨by simp, by simp⟩
theorem rdPay_ok (xs : List VReader) (id c : Int) : (rdPay xs id c).1.length ≤ 10 ∧ ∀ s ∈ (rdPay xs id c).1, s.ok = true := by
  unfold rdPay
  split
  · exact ⟨by simp, by simp⟩
  · split
    · exact rdWith_ok _ _ _
    · exact ⟨by simp, by simp⟩
theorem rdRaise_ok (xs : List VReader) (id c : Int) : (rdRaise xs id c).1.length ≤ 10 ∧ ∀ s ∈ (rdRaise xs id c).1, s.ok = true := by
  unfold rdRaise
  split
  · exact ⟨by simp, by simp⟩
  · split
    · exact rdWith_ok _ _ _
    · exact ⟨by simp, by simp⟩
theorem rdJoin_ok (xs : List VReader) (nm : ByteArray) (d : Int) : (rdJoin xs nm d).1.length ≤ 10 ∧ ∀ s ∈ (rdJoin xs nm d).1, s.ok = true := by
  unfold rdJoin
  split
  · rename_i h
    simp only [Bool.and_eq_true] at h
    exact ⟨areRd_len h.2, fun s hs => areRd_ok h.2 hs⟩
  · exact ⟨by simp, by simp⟩
theorem FineReader_0_len (xs : List VReader) (id c : Int) (_ : xs.length ≤ 1048576) (_ : ∀ s ∈ xs, s.sized) : (FineReader_0 xs id c).length ≤ 1000000 := Nat.le_trans (rdFine_ok xs id c).1 (by omega)
theorem FineReader_0_small (xs : List VReader) (id c : Int) (_ : xs.length ≤ 1048576) (_ : ∀ s ∈ xs, s.sized) : ∀ s ∈ FineReader_0 xs id c, s.small := fun s hs => rdOk_small ((rdFine_ok xs id c).2 s hs)
theorem PayFines_0_len (xs : List VReader) (id c : Int) (_ : xs.length ≤ 1048576) (_ : ∀ s ∈ xs, s.sized) : (PayFines_0 xs id c).length ≤ 1000000 := Nat.le_trans (rdPay_ok xs id c).1 (by omega)
theorem PayFines_0_small (xs : List VReader) (id c : Int) (_ : xs.length ≤ 1048576) (_ : ∀ s ∈ xs, s.sized) : ∀ s ∈ PayFines_0 xs id c, s.small := fun s hs => rdOk_small ((rdPay_ok xs id c).2 s hs)
theorem RaiseClass_0_len (xs : List VReader) (id c : Int) (_ : xs.length ≤ 1048576) (_ : ∀ s ∈ xs, s.sized) : (RaiseClass_0 xs id c).length ≤ 1000000 := Nat.le_trans (rdRaise_ok xs id c).1 (by omega)
theorem RaiseClass_0_small (xs : List VReader) (id c : Int) (_ : xs.length ≤ 1048576) (_ : ∀ s ∈ xs, s.sized) : ∀ s ∈ RaiseClass_0 xs id c, s.small := fun s hs => rdOk_small ((rdRaise_ok xs id c).2 s hs)
theorem JoinReader_0_len (xs : List VReader) (nm : ByteArray) (d : Int) (_ : xs.length ≤ 1048576) (_ : ∀ s ∈ xs, s.sized) (_ : nm.size ≤ 1048576) : (JoinReader_0 xs nm d).length ≤ 1000000 := Nat.le_trans (rdJoin_ok xs nm d).1 (by omega)
theorem JoinReader_0_small (xs : List VReader) (nm : ByteArray) (d : Int) (_ : xs.length ≤ 1048576) (_ : ∀ s ∈ xs, s.sized) (_ : nm.size ≤ 1048576) : ∀ s ∈ JoinReader_0 xs nm d, s.small := fun s hs => rdOk_small ((rdJoin_ok xs nm d).2 s hs)
theorem RipeReaders_0_len (xs : List VReader) (d : Int) (_ : xs.length ≤ 1048576) (_ : ∀ s ∈ xs, s.sized) : (RipeReaders_0 xs d).length ≤ 1000000 := by
  unfold RipeReaders_0
  split
  · rename_i h
    simp only [Bool.and_eq_true] at h
    rw [List.length_map]
    have := areRd_len h.1
    exact Nat.le_trans (List.length_filter_le _ _) (by omega)
  · simp
end Go.Proofs.Ytffbljbgmgifnaa
namespace Go.Proofs.Ytffbljbgmgifnaa
open Go.RowKit

/-- One number in a range, the list of one just made. -/
theorem areIn1 (lo hi x : Int) (t : TypeId) (w : World) (B : Nat) (hB : w.heap.size = B) :
    Calls Try.prog 89 #[.int .i64 lo, .int .i64 hi, .slice (some ⟨B, 0, none⟩) 1 1] (w.alloc (.cells #[.int .i64 x] t)) fun e w' => e = .returned (.bool (inB x lo hi)) ∧ w.alloc (.cells #[.int .i64 x] t) = w' :=
  (areInRange_any B 1 1 [x] lo hi _ rfl (by omega) (lit1 w x t B hB)).mono fun e w' h => ⟨by rw [h.1]; simp, h.2⟩
theorem isDay_any (d : Int) (w : World) :
    Calls Try.prog 95 #[.int .i64 d] w fun e w' => e = .returned (.bool (dayB d)) ∧ Below w.heap.size w w' := by
  go_enter Try.func95, Try.ntmps95
  go_wp2_with fail
  refine (areIn1 _ _ _ _ _ _ (by simp)).mono ?_
  rintro e w' ⟨rfl, rfl⟩
  go_wp2
  go_ret
  exact ⟨rfl, bel_al1 _ _⟩
theorem wordB_no {s : ByteArray} {k : Nat} (hlt : k < s.size) (h : lowB s[k] = false) : wordB s = false := by
  have h : s.data.toList.all lowB = false := by
    rw [List.all_eq_false]
    exact ⟨s[k], List.mem_of_getElem? (i := k) (by simp [hlt]; rfl), by simp [h]⟩
  unfold wordB; rw [h]; rfl
end Go.Proofs.Ytffbljbgmgifnaa
namespace Go.Proofs.Ytffbljbgmgifnaa
open Go.RowKit
theorem list_atLoan {xs : List VLoan} {len k : Nat} (hl : Hid (len = xs.length)) (hk : k < len) : ∃ s, xs[k]? = some s := ⟨xs[k]'(by have := hl.out; omega), List.getElem?_eq_getElem _⟩
theorem made_ownLoan (w : World) (base : Nat) (h : base ≤ w.heap.size) : (w.alloc (.cells #[] 101)).ownsRow base 101 5 (.slice (some ⟨w.heap.size, 0, none⟩) 0 0) ([] : List VLoan).length (cellsLoan []) :=
  World.ownsRow_made (base := base) (e := 101) (size := 5) w #[] 0 h (Nat.zero_le _) rfl
theorem one_Loan (xs : List VLoan) : ∀ u ∈ cellsLoan xs, u.oneCell' = true := by
  intro u hu
  obtain ⟨s, _, hs⟩ := List.mem_flatMap.1 hu
  exact s.vals_one u hs
set_option maxHeartbeats 1600000 in
set_option maxRecDepth 100000 in
/-- The index of the first element that a function value likes. -/
theorem idxLoan_any (K : FuncId) (caps : Array Value) (f : VLoan → Bool) (a : Option Addr) (len cap : Nat) (xs : List VLoan) (w : World) (h : IsLoanS w a len cap xs)
    (hcall : ∀ args W, (callFunc K args).run Try.prog W = .ok (.enter K args) W)
    (hf : ∀ W s, s ∈ xs → Below w.heap.size w W → Calls Try.prog K (#[.agg #[.int .i64 s.Sheet, .int .i64 s.Reader, .int .i64 s.Out, .int .i64 s.Due, .int .i64 s.Back]] ++ caps) W fun e w' => e = .returned (.bool (f s)) ∧ Below W.heap.size W w') :
    Calls Try.prog 138 #[.slice a len cap, .func (.func K) #[] caps] w fun e w' => e = .returned (.int .i64 (firstOf f xs)) ∧ Below w.heap.size w w' := by
  have hm := h.2.2.1
  have hcl := h.2.1
  unfold maxLen at hm
  have S := Lib.hid h
  have L := Lib.hid h.1
  have F := Lib.hid hf
  clear h hf
  go_enter Try.func138, Try.ntmps138
  go_wp2
  go_loopw [8, 5] (fun i _ wr => ∃ k : Nat, k ≤ len ∧ i = .int .i64 k ∧ Below w.heap.size w wr ∧ ∀ (j : Nat) t, j < k → xs[j]? = some t → f t = false) (fun i _ _ => len - (intOf i).toNat)
  case atStart => exact ⟨0, Nat.zero_le _, rfl, Below.refl _ _, by omega⟩
  case round =>
    obtain ⟨k, hk, rfl, hbel, hall⟩ := hrel
    have A := Lib.hid hall
    have B := Lib.hid hbel
    clear hall
    by_cases hlt : k < len
    · obtain ⟨s, hs⟩ := list_atLoan L hlt
      obtain ⟨b, o, rfl, hb, hat⟩ := (S.out.below hbel).at (by omega)
      obtain ⟨c0, c1, c2, c3, c4⟩ := hat k s hs
      have X := Lib.hid hs
      clear hs hat hbel
      go_wp2_with fail
      refine (F.out wr s (List.mem_of_getElem? X.out) B.out).mono ?_
      rintro e w1 ⟨rfl, hb1⟩
      have B1 := Lib.hid (Below.then' B.out hb1)
      clear hb1
      by_cases hfs : f s = true
      · have FS := Lib.hid hfs
        rw [hfs]
        clear hfs
        go_wp2
        go_ret
        exact ⟨ret_int (firstOf_at X.out FS.out A.out).symm, B1.out⟩
      · have hfs' : f s = false := by simpa using hfs
        have FS := Lib.hid hfs'
        rw [hfs']
        clear hfs hfs'
        go_wp2
        go_roundw
        case rel => exact ⟨k + 1, by omega, by go_num, B1.out, fun j t hj ht => by
          by_cases e : j = k
          · subst e; rw [X.out] at ht; cases ht; exact FS.out
          · exact A.out j t (by omega) ht⟩
        case measure => simp [intOf]; omega
    · obtain rfl : k = len := by omega
      clear hbel
      go_wp2
      go_ret
      exact ⟨ret_int (firstOf_no fun j t hj ht => A.out j t (by have := L.out; omega) ht).symm, B.out⟩
set_option maxHeartbeats 1600000 in
set_option maxRecDepth 100000 in
/-- A clone: a row of the call's own. -/
theorem cloneLoan_any (a : Option Addr) (len cap : Nat) (xs : List VLoan) (w : World) (h : IsLoanS w a len cap xs) (hx : xs.length ≤ 1048576) :
    Calls Try.prog 90 #[.slice a len cap] w (LoanRow xs w) := by
  obtain rfl := h.1
  obtain ⟨i0, hi, hz0, hz1, hz2⟩ := info_parts infoLoan
  cases a with
  | none =>
    have h0 : xs.length = 0 := by
      rcases h.2.2.2 with h0 | ⟨b, o, e, _⟩
      · exact h0
      · cases e
    obtain rfl : xs = [] := List.length_eq_zero_iff.1 h0
    clear h h0
    have hnil := fun w a n c n' c' => Lib.run_eql_slice_nil (P := Try.prog) w 42 101 a n c n' c' Try.underlying42
    go_enter Try.func90, Try.ntmps90
    go_wp2
    go_ret
    exact ⟨_, rfl, ⟨by simp [cellsLoan], .inl ⟨rfl, rfl⟩⟩, Below.refl _ _⟩
  | some ad =>
    have B0 := Lib.hid (bel_al1 w (.cells #[] 101))
    have O0 := made_ownLoan w w.heap.size (Nat.le_refl _)
    have SRC := srcLoan (h.below B0.out)
    have SZ := Lib.hid (size_al w (.cells #[] 101))
    clear h
    have hnil := fun w a n c n' c' => Lib.run_eql_slice_nil (P := Try.prog) w 42 101 a n c n' c' Try.underlying42
    go_enter Try.func90, Try.ntmps90
    go_wp2_with (at_builtin; refine wpList_append_list rfl _ _ 42 rfl w.heap.size 101 i0 (.agg #[.int .i64 0, .int .i64 0, .int .i64 0, .int .i64 0, .int .i64 0]) 5 40 Try.underlying42 hi hz0 hz1 hz2 rfl (by decide) _ _ _ rfl O0 _ xs.length cap (cellsLoan xs) rfl SRC (one_Loan xs) (by simp; unfold maxLen; omega) (by simp; omega) (by rw [SZ.out]; omega) ?_; intro v1 w1 hown1 hgrow1; have B1 := Lib.hid (B0.out.grown hgrow1 (by rw [SZ.out]; omega) (fun k e => by have := own_is e; omega)); have O1 := Lib.hid hown1; clear hown1 hgrow1)
    go_ret
    refine ⟨v1, rfl, ?_, B1.out⟩
    have h := O1.out
    simpa [cellsLoan] using h
/-- A call of a function value enters the function. -/
theorem callf_ofLoan {P : Program} {K : FuncId} {fn : Func} (hf : P.funcs[K]? = some fn) (h1 : (fn.name == "runtime.NumGoroutine") = false) (h2 : fn.body.isNone = false) : ∀ args W, (callFunc K args).run P W = .ok (.enter K args) W := by
  intro args W
  have h1' : ¬ fn.name = "runtime.NumGoroutine" := by simpa using h1
  have h2' : ¬ fn.body = none := by intro h; rw [h] at h2; cases h2
  simp [callFunc, go_sem, hf, h1', h2']
end Go.Proofs.Ytffbljbgmgifnaa
namespace Go.Proofs.Ytffbljbgmgifnaa
open Go.RowKit

theorem isLoanId_any (d : Int) (w : World) :
    Calls Try.prog 94 #[.int .i64 d] w fun e w' => e = .returned (.bool (idB d)) ∧ Below w.heap.size w w' := by
  go_enter Try.func94, Try.ntmps94
  go_wp2_with fail
  refine (areIn1 _ _ _ _ _ _ (by simp)).mono ?_
  rintro e w' ⟨rfl, rfl⟩
  go_wp2
  go_ret
  exact ⟨rfl, bel_al1 _ _⟩
set_option maxHeartbeats 3200000 in
theorem isLoan_any (s : VLoan) (w : World) :
    Calls Try.prog 109 #[.agg #[.int .i64 s.Sheet, .int .i64 s.Reader, .int .i64 s.Out, .int .i64 s.Due, .int .i64 s.Back]] w fun e w' => e = .returned (.bool s.ok) ∧ Below w.heap.size w w' := by
  obtain ⟨q1, h1⟩ : ∃ q, idB s.Sheet = q := ⟨_, rfl⟩
  obtain ⟨q2, h2⟩ : ∃ q, idB s.Reader = q := ⟨_, rfl⟩
  obtain ⟨q3, h3⟩ : ∃ q, dayB s.Out = q := ⟨_, rfl⟩
  obtain ⟨q4, h4⟩ : ∃ q, inB s.Due s.Out 4000 = q := ⟨_, rfl⟩
  obtain ⟨q5, h5⟩ : ∃ q, inB s.Back s.Out 4000 = q := ⟨_, rfl⟩
  have OK := Lib.hid (show s.ok = (q1 && (q2 && (q3 && (q4 && (s.Back == -1 || q5))))) from by rw [← h1, ← h2, ← h3, ← h4, ← h5]; rfl)
  have H1 := Lib.hid h1
  have H2 := Lib.hid h2
  have H3 := Lib.hid h3
  have H4 := Lib.hid h4
  have H5 := Lib.hid h5
  have X0 := Lib.hid (BoxLoan.new w 101 s _ rfl)
  have B0 := Lib.hid (bel_al1 w (.cells #[.int .i64 s.Sheet, .int .i64 s.Reader, .int .i64 s.Out, .int .i64 s.Due, .int .i64 s.Back] 101))
  clear h1 h2 h3 h4 h5
  go_enter Try.func109, Try.ntmps109
  go_wp2_with fail
  refine (isLoanId_any _ _).mono ?_
  rintro e w2 ⟨rfl, hb⟩
  rw [H1.out]
  have B2 := Lib.hid (Below.then' B0.out hb)
  obtain ⟨c0, c1, c2, c3, c4⟩ := X0.out.below hb
  have X2 := Lib.hid (X0.out.below hb)
  clear hb
  cases q1
  · go_wp2
    go_ret
    exact ⟨ret_bool (by rw [OK.out]; rfl), B2.out⟩
  go_wp2_with fail
  refine (isLoanId_any _ _).mono ?_
  rintro e w3 ⟨rfl, hb⟩
  rw [H2.out]
  have B3 := Lib.hid (Below.then' B2.out hb)
  clear c0 c1 c2 c3 c4
  obtain ⟨c0, c1, c2, c3, c4⟩ := X2.out.below hb
  have X3 := Lib.hid (X2.out.below hb)
  clear hb
  cases q2
  · go_wp2
    go_ret
    exact ⟨ret_bool (by rw [OK.out]; rfl), B3.out⟩
  go_wp2_with fail
  refine (isDay_any _ _).mono ?_
  rintro e w4 ⟨rfl, hb⟩
  rw [H3.out]
  have B4 := Lib.hid (Below.then' B3.out hb)
  clear c0 c1 c2 c3 c4
  obtain ⟨c0, c1, c2, c3, c4⟩ := X3.out.below hb
  have X4 := Lib.hid (X3.out.below hb)
  clear hb
  cases q3
  · go_wp2
    go_ret
    exact ⟨ret_bool (by rw [OK.out]; rfl), B4.out⟩
  go_wp2_with fail
  refine (areIn1 _ _ _ _ _ _ (by simp)).mono ?_
  rintro e w' ⟨rfl, rfl⟩
  rw [H4.out]
  have B5 := Lib.hid (Below.then' B4.out (bel_al1 w4 (.cells #[.int .i64 s.Due] 3)))
  clear c0 c1 c2 c3 c4
  obtain ⟨c0, c1, c2, c3, c4⟩ := X4.out.below (bel_al1 w4 (.cells #[.int .i64 s.Due] 3))
  cases q4
  · go_wp2
    go_ret
    exact ⟨ret_bool (by rw [OK.out]; rfl), B5.out⟩
  by_cases hb : s.Back = -1
  · have E := Lib.hid (show (s.Back == -1) = true by simp [hb])
    have e1 := E.out
    clear hb
    go_wp2
    go_ret
    exact ⟨ret_bool (by rw [OK.out, E.out]; rfl), B5.out⟩
  have E := Lib.hid (show (s.Back == -1) = false by simp [hb])
  have e1 := E.out
  clear hb
  go_wp2_with fail
  refine (areIn1 _ _ _ _ _ _ (by simp)).mono ?_
  rintro e w' ⟨rfl, rfl⟩
  rw [H5.out]
  have B6 := Lib.hid (Below.then' B5.out (bel_al1 _ (.cells #[.int .i64 s.Back] 3)))
  go_wp2
  go_ret
  exact ⟨ret_bool (by rw [OK.out, E.out]; rfl), B6.out⟩
set_option maxHeartbeats 1600000 in
theorem isOpen_any (s : VLoan) (d : Int) (w : World) :
    Calls Try.prog 99 #[.agg #[.int .i64 s.Sheet, .int .i64 s.Reader, .int .i64 s.Out, .int .i64 s.Due, .int .i64 s.Back], .int .i64 d] w fun e w' => e = .returned (.bool (openOn d s)) ∧ Below w.heap.size w w' := by
  by_cases h1 : s.Out ≤ d
  · have D1 := Lib.hid (decide_eq_true h1)
    by_cases h2 : s.Back = -1
    · have E := Lib.hid (show (s.Back == -1) = true by simp [h2])
      have e1 := E.out
      clear h2
      go_enter Try.func99, Try.ntmps99
      go_wp2
      go_ret
      exact ⟨ret_bool (by unfold openOn; rw [D1.out, E.out]; rfl), bel_al1 _ _⟩
    · have E := Lib.hid (show (s.Back == -1) = false by simp [h2])
      have e1 := E.out
      clear h2
      go_enter Try.func99, Try.ntmps99
      go_wp2
      go_ret
      exact ⟨ret_bool (by unfold openOn; rw [D1.out, E.out]; rfl), bel_al1 _ _⟩
  · have D1 := Lib.hid (decide_eq_false h1)
    have h3 : d < s.Out := by omega
    go_enter Try.func99, Try.ntmps99
    go_wp2
    go_ret
    exact ⟨ret_bool (by unfold openOn; rw [D1.out]; rfl), bel_al1 _ _⟩
end Go.Proofs.Ytffbljbgmgifnaa
namespace Go.Proofs.Ytffbljbgmgifnaa
open Go.RowKit

theorem IsLoanS.take {w : World} {a : Option Addr} {len cap k : Nat} {xs : List VLoan} (h : IsLoanS w a len cap xs) (hk : k ≤ len) : IsLoanS w a k cap (xs.take k) := by
  refine ⟨by rw [List.length_take, ← h.1, Nat.min_eq_left hk], by have := h.2.1; omega, h.2.2.1, ?_⟩
  rcases h.2.2.2 with h0 | ⟨b, o, rfl, hb, hat⟩
  · exact .inl (by omega)
  · refine .inr ⟨b, o, rfl, hb, fun j s hs => hat j s ?_⟩
    rw [List.getElem?_take] at hs
    split at hs
    · exact hs
    · cases hs
set_option maxHeartbeats 1600000 in
set_option maxRecDepth 100000 in
theorem openIdx1_any (s : VLoan) (sh d : Int) (b1 b2 : Nat) (w : World) (h1 : w.cell? ⟨b1, 0, none⟩ = some (.int .i64 sh)) (h2 : w.cell? ⟨b2, 0, none⟩ = some (.int .i64 d)) :
    Calls Try.prog 139 #[.agg #[.int .i64 s.Sheet, .int .i64 s.Reader, .int .i64 s.Out, .int .i64 s.Due, .int .i64 s.Back], .pointer (some ⟨b1, 0, none⟩), .pointer (some ⟨b2, 0, none⟩)] w fun e w' => e = .returned (.bool (s.Sheet == sh && openOn d s)) ∧ Below w.heap.size w w' := by
  have B0 := Lib.hid (bel_al1 w (.cells #[.int .i64 s.Sheet, .int .i64 s.Reader, .int .i64 s.Out, .int .i64 s.Due, .int .i64 s.Back] 101))
  have l1 := World.lt_of_cell h1
  have l2 := World.lt_of_cell h2
  have n1 : ¬ b1 = w.heap.size := by omega
  have n2 : ¬ b2 = w.heap.size := by omega
  obtain ⟨q, hq⟩ : ∃ q, openOn d s = q := ⟨_, rfl⟩
  have Q := Lib.hid hq
  clear hq
  by_cases e : s.Sheet = sh
  · have s1 : (s.Sheet == sh) = true := by simp [e]
    have S1 := Lib.hid s1
    clear e
    go_enter Try.func139, Try.ntmps139
    go_wp2_with fail
    refine (isOpen_any s d _).mono ?_
    rintro e w2 ⟨rfl, hb⟩
    rw [Q.out]
    have B2 := Lib.hid (Below.then' B0.out hb)
    clear hb h1 h2
    go_wp2
    go_ret
    exact ⟨ret_bool (by rw [S1.out, Q.out]; rfl), B2.out⟩
  · have s1 : (s.Sheet == sh) = false := by simp [e]
    have S1 := Lib.hid s1
    clear e
    go_enter Try.func139, Try.ntmps139
    go_wp2
    go_ret
    exact ⟨ret_bool (by rw [S1.out]; rfl), B0.out⟩
set_option maxHeartbeats 1600000 in
set_option maxRecDepth 100000 in
theorem indexOfOpen_any (a : Option Addr) (len cap : Nat) (xs : List VLoan) (sh d : Int) (w : World) (h : IsLoanS w a len cap xs) :
    Calls Try.prog 96 #[.slice a len cap, .int .i64 sh, .int .i64 d] w fun e w' => e = .returned (.int .i64 (firstOf (fun b : VLoan => b.Sheet == sh && openOn d b) xs)) ∧ Below w.heap.size w w' := by
  have b1 := wh_al1 w (.cells #[.int .i64 sh] 3)
  have b2 := Below.then' b1 (wh_al1 (w.alloc (.cells #[.int .i64 sh] 3)) (.cells #[.int .i64 d] 3))
  have S := Lib.hid (h.below b2)
  have C1 := Lib.hid (cell_stay' (cell_box' w (.int .i64 sh) 3 _ rfl) (wh_al1 (w.alloc (.cells #[.int .i64 sh] 3)) (.cells #[.int .i64 d] 3)))
  have C2 := Lib.hid (cell_box' (w.alloc (.cells #[.int .i64 sh] 3)) (.int .i64 d) 3 (w.heap.size + 1) (by simp))
  have B0 := Lib.hid b2
  clear h b1 b2
  go_enter Try.func96, Try.ntmps96
  go_wp2_with fail
  refine (idxLoan_any 139 #[.pointer (some ⟨w.heap.size, 0, none⟩), .pointer (some ⟨w.heap.size + 1, 0, none⟩)] (fun b => b.Sheet == sh && openOn d b) a len cap xs _ S.out (enters_fn' Try.func139 (by kernel_rfl) (by kernel_rfl)) (fun W s _ hW => by
    have h1 := openIdx1_any s sh d w.heap.size (w.heap.size + 1) W (cell_stay' C1.out hW) (cell_stay' C2.out hW)
    simpa using h1)).mono ?_
  rintro e w1 ⟨rfl, hb⟩
  have B := Lib.hid (Below.then' B0.out hb)
  clear hb
  go_wp2
  go_ret
  exact ⟨rfl, B.out⟩
theorem fits_way2 {xs : List VLoan} {k : Nat} {l : VLoan} {o r : Bool} {z : Int} (h : upTo xs k) (hs : xs[k]? = some l) (hq : l.ok = true) (ho : (k == 0 || decide ((loAt xs (k - 1)).Out ≤ l.Out)) = o) (ho2 : o = true) (hz : firstOf (fun b : VLoan => b.Sheet == l.Sheet && openOn l.Out b) (xs.take k) = z) (hr : decide (0 ≤ z) = r) : fitLo xs k = !r := by
  subst ho2
  rw [fits_is hs, hq, ho, ← hr, ← hz, way_first h hs ?_]
  · rfl
  · intro b hb hk
    have hk0 : (k == 0) = false := by simp; omega
    rw [hk0, loAt_some hb, Bool.false_or] at ho
    exact of_decide_eq_true ho
theorem fits_no1 {xs : List VLoan} {k : Nat} {l : VLoan} (hs : xs[k]? = some l) (hq : l.ok = false) : fitLo xs k = false := by rw [fits_is hs, hq]; rfl
theorem fits_no2 {xs : List VLoan} {k : Nat} {l : VLoan} {o : Bool} (hs : xs[k]? = some l) (ho : (k == 0 || decide ((loAt xs (k - 1)).Out ≤ l.Out)) = o) (h : o = false) : fitLo xs k = false := by rw [fits_is hs, ho, h]; simp
set_option maxHeartbeats 12800000 in
set_option maxRecDepth 100000 in
theorem areLoans_any (a : Option Addr) (len cap : Nat) (xs : List VLoan) (w : World) (h : IsLoanS w a len cap xs) :
    Calls Try.prog 45 #[.slice a len cap] w fun e w' => e = .returned (.bool (areLo xs)) ∧ Below w.heap.size w w' := by
  have hm := h.2.2.1
  have hcl := h.2.1
  unfold maxLen at hm
  obtain rfl := h.1
  have S := Lib.hid h
  clear h
  by_cases h15 : xs.length ≤ 15
  case neg =>
    have N := Lib.hid (areLo_long h15)
    have h15' : (15 : Int) < (xs.length : Int) := by omega
    go_enter Try.func45, Try.ntmps45
    go_wp2
    go_ret
    exact ⟨ret_bool N.out.symm, Below.refl _ _⟩
  have h15' : ¬ (15 : Int) < (xs.length : Int) := by omega
  go_enter Try.func45, Try.ntmps45
  go_wp2
  go_loopw [11] (fun i wr => ∃ k : Nat, k ≤ xs.length ∧ i = .int .i64 k ∧ Below w.heap.size w wr ∧ upTo xs k) (fun i _ => xs.length - (intOf i).toNat)
  case atStart => exact ⟨0, Nat.zero_le _, rfl, Below.refl _ _, upTo_zero xs⟩
  case round =>
    obtain ⟨k, hk, rfl, hbel, hall⟩ := hrel
    have A := Lib.hid hall
    have B := Lib.hid hbel
    clear hall
    by_cases hlt : k < xs.length
    · obtain ⟨s, hs⟩ : ∃ s, xs[k]? = some s := ⟨xs[k]'hlt, List.getElem?_eq_getElem _⟩
      have K := Lib.hid hs
      obtain ⟨q, hq⟩ : ∃ q, s.ok = q := ⟨_, rfl⟩
      obtain ⟨o, ho⟩ : ∃ o, (k == 0 || decide ((loAt xs (k - 1)).Out ≤ s.Out)) = o := ⟨_, rfl⟩
      obtain ⟨z, hz⟩ : ∃ z, firstOf (fun b : VLoan => b.Sheet == s.Sheet && openOn s.Out b) (xs.take k) = z := ⟨_, rfl⟩
      have Q := Lib.hid hq
      have O := Lib.hid ho
      have Z := Lib.hid hz
      have hi0 : (0 : Int) ≤ (k : Int) := by omega
      have hi1 : (k : Int) < (xs.length : Int) := by omega
      obtain ⟨b, p, rfl, hbw, hat⟩ := (S.out.below hbel).at (by omega)
      obtain ⟨c0, c1, c2, c3, c4⟩ := hat k s hs
      have X := Lib.hid (BoxLoan.new wr 101 s _ rfl)
      have BX := Lib.hid (Below.then' B.out (bel_al1 wr (.cells #[.int .i64 s.Sheet, .int .i64 s.Reader, .int .i64 s.Out, .int .i64 s.Due, .int .i64 s.Back] 101)))
      have SZ := Lib.hid (size_al wr (.cells #[.int .i64 s.Sheet, .int .i64 s.Reader, .int .i64 s.Out, .int .i64 s.Due, .int .i64 s.Back] 101))
      clear hbel hs hq ho hz hat
      go_upto_region 7 with (fail)
      refine wp_world (fun W => BoxLoan W wr.heap.size s ∧ Below w.heap.size w W) ⟨X.out, BX.out⟩ ?_
      clear c0 c1 c2 c3 c4
      rintro W ⟨hbx, hbw2⟩
      have XW := Lib.hid hbx
      have BW := Lib.hid hbw2
      clear hbx hbw2
      go_cut [45] (fun c wx => c = .bool (!(fitLo xs k)) ∧ Below w.heap.size w wx)
      case first => as_aux_lemma =>
        have cQ := below_at (W := W) (fun W' _ => Q.out ▸ isLoan_any s W')
        have cZ := below_at (W := W) (fun W' hW => Z.out ▸ indexOfOpen_any (some ⟨b, p, none⟩) k cap (xs.take k) s.Sheet s.Out W' (((S.out.below BW.out).take (by omega)).below hW))
        obtain ⟨e0, e1, e2, e3, e4⟩ := XW.out
        have k0 := cell_regrown e0
        have k1 := cell_regrown e1
        have k2 := cell_regrown e2
        have k3 := cell_regrown e3
        have k4 := cell_regrown e4
        clear e0 e1 e2 e3 e4
        obtain ⟨_, _, eq, _, hat⟩ := (S.out.below BW.out).at (by omega)
        cases eq
        cases q
        · have E := Lib.hid (fits_no1 K.out Q.out)
          clear hat
          refine wp_region_quiet_below (by kernel_rfl) (by kernel_rfl) ?_
          repeat (first | go_big_quiet_step (first | (with_reducible exact cQ _ _) | (with_reducible exact cZ _ _)) | quiet_step (first | (with_reducible exact cQ _ _) | (with_reducible exact cZ _ _)))
          refine wpQuiet_nil ?_
          intro W2 hw2
          have B2 := Lib.hid (Below.then' BW.out (below_of_re hw2))
          clear hw2 k0 k1 k2 k3 k4
          go_wp2
          go_meet
          exact ⟨by rw [E.out]; rfl, B2.out⟩
        · by_cases hk0 : k = 0
          · subst hk0
            obtain ⟨r, hr⟩ : ∃ r, decide (0 ≤ z) = r := ⟨_, rfl⟩
            have E := Lib.hid (fits_way2 A.out K.out Q.out O.out (by rw [← O.out]; rfl) Z.out hr)
            clear hat
            refine wp_region_quiet_below (by kernel_rfl) (by kernel_rfl) ?_
            repeat (first | go_big_quiet_step (first | (with_reducible exact cQ _ _) | (with_reducible exact cZ _ _)) | quiet_step (first | (with_reducible exact cQ _ _) | (with_reducible exact cZ _ _)))
            refine wpQuiet_nil ?_
            intro W2 hw2
            have B2 := Lib.hid (Below.then' BW.out (below_of_re hw2))
            clear hw2 k0 k1 k2 k3 k4
            go_wp2
            go_meet
            exact ⟨by rw [E.out, Bool.not_not], B2.out⟩
          · obtain ⟨j, rfl⟩ : ∃ j, k = j + 1 := ⟨k - 1, by omega⟩
            obtain ⟨t, ht⟩ : ∃ t, xs[j]? = some t := ⟨xs[j]'(by omega), List.getElem?_eq_getElem _⟩
            have PO := Lib.hid (show decide (t.Out ≤ s.Out) = o from by rw [← O.out, Nat.add_sub_cancel, loAt_some ht]; simp)
            have hp0 : (0 : Int) ≤ (j : Int) := by omega
            have hp1 : (j : Int) < (xs.length : Int) := by omega
            obtain ⟨_, _, p2, _⟩ := hat j t ht
            have q2 := cell_regrown p2
            clear hat p2 ht hk0
            cases o
            · have dl : s.Out < t.Out := by have := of_decide_eq_false PO.out; omega
              have E := Lib.hid (fits_no2 K.out O.out rfl)
              refine wp_region_quiet_below (by kernel_rfl) (by kernel_rfl) ?_
              repeat (first | go_big_quiet_step (first | (with_reducible exact cQ _ _) | (with_reducible exact cZ _ _)) | quiet_step (first | (with_reducible exact cQ _ _) | (with_reducible exact cZ _ _)))
              refine wpQuiet_nil ?_
              intro W2 hw2
              have B2 := Lib.hid (Below.then' BW.out (below_of_re hw2))
              clear hw2 k0 k1 k2 k3 k4 q2
              go_wp2
              go_meet
              exact ⟨by rw [E.out]; rfl, B2.out⟩
            · have dl : ¬ s.Out < t.Out := by have := of_decide_eq_true PO.out; omega
              obtain ⟨r, hr⟩ : ∃ r, decide (0 ≤ z) = r := ⟨_, rfl⟩
              have E := Lib.hid (fits_way2 A.out K.out Q.out O.out rfl Z.out hr)
              refine wp_region_quiet_below (by kernel_rfl) (by kernel_rfl) ?_
              repeat (first | go_big_quiet_step (first | (with_reducible exact cQ _ _) | (with_reducible exact cZ _ _)) | quiet_step (first | (with_reducible exact cQ _ _) | (with_reducible exact cZ _ _)))
              refine wpQuiet_nil ?_
              intro W2 hw2
              have B2 := Lib.hid (Below.then' BW.out (below_of_re hw2))
              clear hw2 k0 k1 k2 k3 k4 q2
              go_wp2
              go_meet
              exact ⟨by rw [E.out, Bool.not_not], B2.out⟩
      case rest =>
      obtain ⟨rfl, hbel⟩ := hcut
      have BC := Lib.hid hbel
      clear hbel
      obtain ⟨r, hr⟩ : ∃ r, (!(fitLo xs k)) = r := ⟨_, rfl⟩
      have R := Lib.hid hr
      rw [hr]
      clear hr
      cases r
      · have F := Lib.hid (show fitLo xs k = true from by have := R.out; cases h : fitLo xs k with | true => rfl | false => rw [h] at this; cases this)
        go_wp2
        go_roundw
        case rel => exact ⟨k + 1, by omega, by go_num, BC.out, upTo_snoc A.out F.out⟩
        case measure => simp [intOf]; omega
      · have N := Lib.hid (areLo_no hlt (show fitLo xs k = false from by have := R.out; cases h : fitLo xs k with | false => rfl | true => rw [h] at this; cases this))
        go_wp2
        go_ret
        exact ⟨ret_bool N.out.symm, BC.out⟩
    · obtain rfl : k = xs.length := by omega
      have N := Lib.hid (areLo_all A.out h15)
      clear hbel
      go_wp2
      go_ret
      exact ⟨ret_bool N.out.symm, B.out⟩
end Go.Proofs.Ytffbljbgmgifnaa
namespace Go.Proofs.Ytffbljbgmgifnaa
open Go.RowKit

theorem drawn_then {W w1 : World} (h : Below W.drew.heap.size W.drew w1) : Below W.heap.size W w1 := Below.then' (bel_drawn W 1) h
theorem drawn_al_then {W w1 : World} {o : Obj} (h : Below (W.drew.alloc o).heap.size (W.drew.alloc o) w1) : Below W.heap.size W w1 := Below.then' (Below.then' (bel_drawn W 1) (bel_al1 W.drew o)) h
theorem new_Loan {W w1 : World} {s : VLoan} (hb : Below (W.alloc (.cells #[.int .i64 s.Sheet, .int .i64 s.Reader, .int .i64 s.Out, .int .i64 s.Due, .int .i64 s.Back] 101)).drew.heap.size (W.alloc (.cells #[.int .i64 s.Sheet, .int .i64 s.Reader, .int .i64 s.Out, .int .i64 s.Due, .int .i64 s.Back] 101)).drew w1) : ∀ j u, s.vals[j]? = some u → w1.cell? ((⟨W.heap.size, 0, none⟩ : Addr).add j) = some u := by
  intro j u hj
  rw [add_plain]
  have h1 : (W.alloc (.cells #[.int .i64 s.Sheet, .int .i64 s.Reader, .int .i64 s.Out, .int .i64 s.Due, .int .i64 s.Back] 101)).cell? ⟨W.heap.size, 0 + j, none⟩ = some u := by
    have := cell_Loan W s 101 j u hj
    rwa [add_plain] at this
  have h2 : W.heap.size < (W.alloc (.cells #[.int .i64 s.Sheet, .int .i64 s.Reader, .int .i64 s.Out, .int .i64 s.Due, .int .i64 s.Back] 101)).drew.heap.size := by
    show W.heap.size < (W.alloc _).heap.size
    rw [size_al]; omega
  exact (hb.cell (p := ⟨W.heap.size, 0 + j, none⟩) h2).trans h1
def lentP (xs : List VLoan) (sh rd d D : Int) : List VLoan := xs ++ [⟨sh, rd, d, D, -1⟩]
theorem lentP_ok {xs : List VLoan} {sh rd d D : Int} (h : areLo (lentP xs sh rd d D) = true) : areLo xs = true ∧ dayB d = true := by
  refine ⟨areLo_front h, ?_⟩
  have := loOk_iff.1 (areLo_ok h (show (⟨sh, rd, d, D, -1⟩ : VLoan) ∈ lentP xs sh rd d D from by simp [lentP]))
  unfold dayB; rw [inB_iff]; exact this.2.2.1
theorem lend_is (xs : List VLoan) (sh rd d n : Int) (hn : daysB n = true) : LendSheet_1 xs sh rd d n = areLo (lentP xs sh rd d (IntKind.i64.wrap (d + n))) := by
  have hn' : 1 ≤ n ∧ n ≤ 60 := inB_iff.1 hn
  by_cases hd : dayB d = true
  · have hd' : 0 ≤ d ∧ d ≤ 4000 := inB_iff.1 hd
    rw [show IntKind.i64.wrap (d + n) = d + n from IntWalk.i64_in _ (by omega)]
    unfold LendSheet_1
    rw [hd, hn, Bool.true_and, Bool.true_and]
    show (areLo xs && areLo (lentP xs sh rd d (d + n))) = _
    cases h : areLo (lentP xs sh rd d (d + n)) with
    | false => simp
    | true => rw [(lentP_ok h).1]; rfl
  · have h1 : dayB d = false := by simpa using hd
    unfold LendSheet_1
    rw [h1, Bool.false_and, Bool.and_false]
    cases h : areLo (lentP xs sh rd d (IntKind.i64.wrap (d + n))) with
    | false => rfl
    | true => exact absurd (lentP_ok h).2 hd
theorem lend_list (xs : List VLoan) (sh rd d n : Int) (hn : daysB n = true) (h : areLo (lentP xs sh rd d (IntKind.i64.wrap (d + n))) = true) : LendSheet_0 xs sh rd d n = lentP xs sh rd d (IntKind.i64.wrap (d + n)) := by
  have hn' : 1 ≤ n ∧ n ≤ 60 := inB_iff.1 hn
  have hd' : 0 ≤ d ∧ d ≤ 4000 := inB_iff.1 (lentP_ok h).2
  unfold LendSheet_0
  rw [lend_is xs sh rd d n hn, h, if_pos rfl]
  rw [show IntKind.i64.wrap (d + n) = d + n from IntWalk.i64_in _ (by omega)]; rfl
theorem lend_no {xs : List VLoan} {sh rd d n : Int} (h : LendSheet_1 xs sh rd d n = false) : LendSheet_0 xs sh rd d n = [] := by unfold LendSheet_0; rw [h]; rfl
theorem lend_days {xs : List VLoan} {sh rd d n : Int} (h : daysB n = false) : LendSheet_1 xs sh rd d n = false := by unfold LendSheet_1; rw [h]; simp
set_option maxHeartbeats 12800000 in
set_option maxRecDepth 100000 in
theorem implLendSheet_any (a : Option Addr) (len cap : Nat) (xs : List VLoan) (sh rd d n : Int) (w : World) (h : IsLoanS w a len cap xs) (hx : xs.length ≤ 1048576) :
    Calls Try.prog 33 #[.slice a len cap, .int .i64 sh, .int .i64 rd, .int .i64 d, .int .i64 n] w (LendSheet_Post xs sh rd d n w) := by
  have hm := h.2.2.1
  have hcl := h.2.1
  unfold maxLen at hm
  obtain rfl := h.1
  obtain ⟨i0, hi, hz0, hz1, hz2⟩ := info_parts infoLoan
  have S := Lib.hid h
  clear h
  obtain ⟨q, hq⟩ : ∃ q, inB n 1 60 = q := ⟨_, rfl⟩
  have Q := Lib.hid hq
  have QN := Lib.hid (show daysB n = q from hq)
  clear hq
  go_enter Try.func33, Try.ntmps33
  go_wp2_with fail
  refine (areIn1 _ _ _ _ _ _ (by simp)).mono ?_
  rintro e w' ⟨rfl, rfl⟩
  rw [Q.out]
  have B0 := Lib.hid (bel_al1 w (.cells #[.int .i64 n] 3))
  cases q
  · have E1 := Lib.hid (lend_days (xs := xs) (sh := sh) (rd := rd) (d := d) QN.out)
    go_wp2
    go_ret2
    exact ⟨_, by rw [E1.out]; rfl, by rw [lend_no E1.out]; exact nil_ownLoan _ _, B0.out⟩
  obtain ⟨D, hD⟩ : ∃ D, IntKind.i64.wrap (d + n) = D := ⟨_, rfl⟩
  obtain ⟨R, hR⟩ : ∃ R, lentP xs sh rd d D = R := ⟨_, rfl⟩
  have E1 := Lib.hid (show LendSheet_1 xs sh rd d n = areLo R from by rw [lend_is xs sh rd d n QN.out, hD, hR])
  have E0 := Lib.hid (show areLo R = true → LendSheet_0 xs sh rd d n = R from fun h => by rw [lend_list xs sh rd d n QN.out (by rw [hD, hR]; exact h), hD, hR])
  have HR := Lib.hid hR
  have L2 := Lib.hid (show R.length = xs.length + 1 from by rw [← hR]; simp [lentP])
  have CS := Lib.hid (show cellsLoan R = cellsLoan xs ++ VLoan.vals ⟨sh, rd, d, D, -1⟩ from by rw [← hR]; unfold lentP; exact cellsLoan_snoc _ _)
  have hD2 : IntKind.i64.wrap (d + n) = D := hD
  clear hR
  go_wp2
  refine wp_world (fun W => BoxLoan W (w.heap.size + 1) ⟨sh, rd, d, D, -1⟩ ∧ Below w.heap.size w W) ⟨BoxLoan.new _ _ ⟨sh, rd, d, D, -1⟩ _ (size_al _ _), Below.then' B0.out (bel_al1 _ _)⟩ ?_
  clear hD hD2
  rintro W ⟨hbox, hbw⟩
  have BX := Lib.hid hbox
  have BW := Lib.hid hbw
  have SW := Lib.hid (S.out.below hbw)
  obtain ⟨c0, c1, c2, c3, c4⟩ := hbox
  clear hbw
  go_region_law (first
    | (refine step_append_list (by rfl) (.tmp 26) (.tmp 28) 42 (by rfl) W.heap.size 101 i0 (.agg #[.int .i64 0, .int .i64 0, .int .i64 0, .int .i64 0, .int .i64 0]) 5 40 Try.underlying42 hi hz0 hz1 hz2 (by rfl) (by decide) _ xs.length (cellsLoan xs) (by simp [Act.eval]; rfl) (by first | exact O1.out | exact O1.out.alloc _) _ 1 1 (VLoan.vals ⟨sh, rd, d, D, -1⟩) (by simp [Act.eval]; rfl) ⟨rfl, .inr ⟨_, rfl, by first | exact N1.out | exact cell_Loan w1 ⟨sh, rd, d, D, -1⟩ _⟩⟩ (VLoan.vals_one _) (by unfold maxLen; omega) (by omega) (by first | exact hs1 | (rw [size_al]; exact Nat.le_succ_of_le hs1)) ?_; intro v2 w2 hown2 hgrow2)
    | (go_simp; go_at_call 90; refine (cloneLoan_any _ _ _ xs _ (SW.out.below (by first | exact bel_drawn W 1 | exact Below.then' (bel_drawn W 1) (bel_al1 _ _))) hx).mono ?_; rintro e w1 ⟨v1, rfl, hown, hb⟩; have hbb : Below W.heap.size W w1 := by first | exact drawn_then hb | exact drawn_al_then hb
       have O1 := Lib.hid (ownsRow_base hown (show W.heap.size ≤ _ by first | exact Nat.le_refl _ | exact (bel_al1 W (.cells #[.int .i64 sh, .int .i64 rd, .int .i64 d, .int .i64 D, .int .i64 (-1)] 101)).size))
       have B1 := Lib.hid (Below.then' BW.out hbb)
       have hs1 := hbb.size
       obtain ⟨e0, e1, e2, e3, e4⟩ := BX.out.below hbb
       try have N1 := Lib.hid (new_Loan (s := ⟨sh, rd, d, D, -1⟩) hb)
       clear hown hb hbb))
  all_goals
    have B2 : Hid (Below w.heap.size w w2) := Lib.hid (by
      have hle := BW.out.size
      first
        | exact B1.out.grown hgrow2 B1.out.size (fun k e => Nat.le_trans hle (O1.out.lt k e).1)
        | exact (Below.then' B1.out (bel_al1 _ _)).grown hgrow2 (Nat.le_trans B1.out.size (bel_al1 _ _).size) (fun k e => Nat.le_trans hle (O1.out.lt k e).1))
    have hown3 : w2.ownsRow w.heap.size 101 5 v2 R.length (cellsLoan R) := by rw [CS.out, L2.out]; exact ownsRow_base hown2 BW.out.size
    have O3 := Lib.hid hown3
    obtain ⟨a5, c5, e5, his, _⟩ := isLoanS_own hown3
    cases e5
    have S2 := Lib.hid his
    obtain ⟨q, hq⟩ : ∃ q, areLo R = q := ⟨_, rfl⟩
    have QQ := Lib.hid hq
    clear hown2 hgrow2 hown3 his hq c0 c1 c2 c3 c4 e0 e1 e2 e3 e4 hs1
    go_wp2_with fail
    refine (areLoans_any _ _ _ R _ S2.out).mono ?_
    rintro e w3 ⟨rfl, hb⟩
    rw [QQ.out]
    have B3 := Lib.hid (Below.then' B2.out hb)
    have O4 := Lib.hid (ownsRow_below O3.out hb)
    clear hb
    cases q
    · have E := Lib.hid (E1.out.trans QQ.out)
      go_wp2
      go_ret2
      exact ⟨_, by rw [E.out]; rfl, by rw [lend_no E.out]; exact nil_ownLoan _ _, B3.out⟩
    · have E := Lib.hid (E1.out.trans QQ.out)
      go_wp2
      go_ret2
      refine ⟨_, by rw [E.out]; rfl, ?_, B3.out⟩
      rw [E0.out QQ.out]
      exact O4.out
end Go.Proofs.Ytffbljbgmgifnaa
namespace Go.Proofs.Ytffbljbgmgifnaa
open Go.RowKit

theorem minI_any (x y : Int) : min x y = if x ≤ y then x else y := by omega
set_option maxHeartbeats 1600000 in
theorem endBy_any (s : VLoan) (d : Int) (w : World) (hs : s.ok = true) :
    Calls Try.prog 115 #[.agg #[.int .i64 s.Sheet, .int .i64 s.Reader, .int .i64 s.Out, .int .i64 s.Due, .int .i64 s.Back], .int .i64 d] w fun e w' => e = .returned (.int .i64 (endL s d)) ∧ Below w.heap.size w w' := by
  have k := loOk_iff.1 hs
  by_cases h2 : s.Back = -1
  · have E := Lib.hid (show endL s d = d from by unfold endL; rw [if_pos (by omega)])
    have e1 : (s.Back == -1) = true := by simp [h2]
    clear k hs h2
    go_enter Try.func115, Try.ntmps115
    go_wp2
    go_ret
    exact ⟨ret_int E.out.symm, bel_al1 _ _⟩
  · have E := Lib.hid (show endL s d = min d s.Back from by unfold endL; rw [if_neg (by omega)])
    have e1 : (s.Back == -1) = false := by simp [h2]
    clear k hs h2
    go_enter Try.func115, Try.ntmps115
    go_wp2
    all_goals go_ret
    all_goals exact ⟨ret_int (by rw [E.out]; omega), bel_al1 _ _⟩
set_option maxHeartbeats 3200000 in
set_option maxRecDepth 100000 in
theorem fineBy_any (s : VLoan) (d : Int) (w : World) (hs : s.ok = true) (hd : dayB d = true) :
    Calls Try.prog 102 #[.agg #[.int .i64 s.Sheet, .int .i64 s.Reader, .int .i64 s.Out, .int .i64 s.Due, .int .i64 s.Back], .int .i64 d] w fun e w' => e = .returned (.int .i64 (fineL s d)) ∧ Below w.heap.size w w' := by
  have hk := loOk_iff.1 hs
  have hd' : 0 ≤ d ∧ d ≤ 4000 := inB_iff.1 hd
  have OK := Lib.hid hs
  have eb : 0 ≤ endL s d ∧ endL s d ≤ 4000 := by unfold endL; split <;> omega
  have F0 := Lib.hid (show fineL s d = min 1000 (10 * max 0 (endL s d - s.Due)) from rfl)
  obtain ⟨e, he⟩ : ∃ e, endL s d = e := ⟨_, rfl⟩
  have HE := Lib.hid he
  rw [he] at eb F0
  obtain ⟨m, hm⟩ : ∃ m, max 0 (e - s.Due) = m := ⟨_, rfl⟩
  have hmb : 0 ≤ m ∧ m ≤ 8000 := by omega
  have v1 : IntKind.i64.wrap (e - s.Due) = e - s.Due := IntWalk.i64_in _ (by omega)
  have v2 : IntKind.i64.wrap (10 * (e - s.Due)) = 10 * (e - s.Due) := IntWalk.i64_in _ (by omega)
  have B0 := Lib.hid (bel_al1 w (.cells #[.int .i64 s.Sheet, .int .i64 s.Reader, .int .i64 s.Out, .int .i64 s.Due, .int .i64 s.Back] 101))
  have X0 := Lib.hid (BoxLoan.new w 101 s _ rfl)
  clear hs hd he hd' hk hm hmb eb
  have v3 : IntKind.i64.wrap (10 * 0) = 0 := IntWalk.i64_in _ (by omega)
  by_cases h1 : s.Due < e
  · have h2 : 0 < e - s.Due := by omega
    by_cases h3 : 10 * (e - s.Due) ≤ 1000
    · have h4 : ¬ 1000 < 10 * (e - s.Due) := by omega
      go_enter Try.func102, Try.ntmps102
      go_wp2
      refine wp_world (fun W => BoxLoan W w.heap.size s ∧ Below w.heap.size w W) ⟨X0.out, B0.out⟩ ?_
      rintro W ⟨⟨c0, c1, c2, c3, c4⟩, hbw⟩
      have BW := Lib.hid hbw
      have k0 := cell_regrown c0
      have k1 := cell_regrown c1
      have k2 := cell_regrown c2
      have k3 := cell_regrown c3
      have k4 := cell_regrown c4
      have q1 := below_at (W := W) (fun W' _ => HE.out ▸ endBy_any s d W' OK.out)
      clear hbw c0 c1 c2 c3 c4
      refine wp_region_quiet_below (by kernel_rfl) (by kernel_rfl) ?_
      repeat (any_goals (first | go_big_quiet_step (with_reducible exact q1 _ _) | quiet_step (with_reducible exact q1 _ _)))
      all_goals
        refine wpQuiet_nil ?_
        intro W2 hw2
        have B2 := Lib.hid (Below.then' BW.out (below_of_re hw2))
        clear hw2 k0 k1 k2 k3 k4 q1
        go_wp2
        all_goals go_ret
        all_goals exact ⟨ret_int (by rw [F0.out]; omega), B2.out⟩
    · have h4 : 1000 < 10 * (e - s.Due) := by omega
      go_enter Try.func102, Try.ntmps102
      go_wp2
      refine wp_world (fun W => BoxLoan W w.heap.size s ∧ Below w.heap.size w W) ⟨X0.out, B0.out⟩ ?_
      rintro W ⟨⟨c0, c1, c2, c3, c4⟩, hbw⟩
      have BW := Lib.hid hbw
      have k0 := cell_regrown c0
      have k1 := cell_regrown c1
      have k2 := cell_regrown c2
      have k3 := cell_regrown c3
      have k4 := cell_regrown c4
      have q1 := below_at (W := W) (fun W' _ => HE.out ▸ endBy_any s d W' OK.out)
      clear hbw c0 c1 c2 c3 c4
      refine wp_region_quiet_below (by kernel_rfl) (by kernel_rfl) ?_
      repeat (any_goals (first | go_big_quiet_step (with_reducible exact q1 _ _) | quiet_step (with_reducible exact q1 _ _)))
      all_goals
        refine wpQuiet_nil ?_
        intro W2 hw2
        have B2 := Lib.hid (Below.then' BW.out (below_of_re hw2))
        clear hw2 k0 k1 k2 k3 k4 q1
        go_wp2
        all_goals go_ret
        all_goals exact ⟨ret_int (by rw [F0.out]; omega), B2.out⟩
  · have h2 : ¬ 0 < e - s.Due := by omega
    go_enter Try.func102, Try.ntmps102
    go_wp2
    refine wp_world (fun W => BoxLoan W w.heap.size s ∧ Below w.heap.size w W) ⟨X0.out, B0.out⟩ ?_
    rintro W ⟨⟨c0, c1, c2, c3, c4⟩, hbw⟩
    have BW := Lib.hid hbw
    have k0 := cell_regrown c0
    have k1 := cell_regrown c1
    have k2 := cell_regrown c2
    have k3 := cell_regrown c3
    have k4 := cell_regrown c4
    have q1 := below_at (W := W) (fun W' _ => HE.out ▸ endBy_any s d W' OK.out)
    clear hbw c0 c1 c2 c3 c4
    refine wp_region_quiet_below (by kernel_rfl) (by kernel_rfl) ?_
    repeat (any_goals (first | go_big_quiet_step (with_reducible exact q1 _ _) | quiet_step (with_reducible exact q1 _ _)))
    all_goals
      refine wpQuiet_nil ?_
      intro W2 hw2
      have B2 := Lib.hid (Below.then' BW.out (below_of_re hw2))
      clear hw2 k0 k1 k2 k3 k4 q1
      go_wp2
      all_goals go_ret
      all_goals exact ⟨ret_int (by rw [F0.out]; omega), B2.out⟩
set_option maxHeartbeats 1600000 in
theorem isLate_any (s : VLoan) (d : Int) (w : World) :
    Calls Try.prog 112 #[.agg #[.int .i64 s.Sheet, .int .i64 s.Reader, .int .i64 s.Out, .int .i64 s.Due, .int .i64 s.Back], .int .i64 d] w fun e w' => e = .returned (.bool (lateOn d s)) ∧ Below w.heap.size w w' := by
  obtain ⟨q, hq⟩ : ∃ q, openOn d s = q := ⟨_, rfl⟩
  have Q := Lib.hid hq
  have E := Lib.hid (show lateOn d s = (q && decide (s.Due < d)) from by rw [← hq]; rfl)
  have B0 := Lib.hid (bel_al1 w (.cells #[.int .i64 s.Sheet, .int .i64 s.Reader, .int .i64 s.Out, .int .i64 s.Due, .int .i64 s.Back] 101))
  have X0 := Lib.hid (BoxLoan.new w 101 s _ rfl)
  clear hq
  go_enter Try.func112, Try.ntmps112
  go_wp2_with fail
  refine (isOpen_any s d _).mono ?_
  rintro e w1 ⟨rfl, hb⟩
  rw [Q.out]
  have B1 := Lib.hid (Below.then' B0.out hb)
  obtain ⟨c0, c1, c2, c3, c4⟩ := X0.out.below hb
  clear hb
  cases q
  · go_wp2
    go_ret
    exact ⟨ret_bool (by rw [E.out]; rfl), B1.out⟩
  · go_wp2
    go_ret
    exact ⟨ret_bool (by rw [E.out]; rfl), B1.out⟩
set_option maxHeartbeats 1600000 in
set_option maxRecDepth 100000 in
theorem findLent1_any (s : VLoan) (sh : Int) (b1 : Nat) (w : World) (h1 : w.cell? ⟨b1, 0, none⟩ = some (.int .i64 sh)) :
    Calls Try.prog 143 #[.agg #[.int .i64 s.Sheet, .int .i64 s.Reader, .int .i64 s.Out, .int .i64 s.Due, .int .i64 s.Back], .pointer (some ⟨b1, 0, none⟩)] w fun e w' => e = .returned (.bool (s.Sheet == sh && s.Back == -1)) ∧ Below w.heap.size w w' := by
  have B0 := Lib.hid (bel_al1 w (.cells #[.int .i64 s.Sheet, .int .i64 s.Reader, .int .i64 s.Out, .int .i64 s.Due, .int .i64 s.Back] 101))
  have l1 := World.lt_of_cell h1
  have n1 : ¬ b1 = w.heap.size := by omega
  by_cases e : s.Sheet = sh
  · have s1 : (s.Sheet == sh) = true := by simp [e]
    have S1 := Lib.hid s1
    clear e
    go_enter Try.func143, Try.ntmps143
    go_wp2
    go_ret
    exact ⟨ret_bool (by rw [S1.out]; rfl), B0.out⟩
  · have s1 : (s.Sheet == sh) = false := by simp [e]
    have S1 := Lib.hid s1
    clear e
    go_enter Try.func143, Try.ntmps143
    go_wp2
    go_ret
    exact ⟨ret_bool (by rw [S1.out]; rfl), B0.out⟩
/-- Where the loan of a sheet that is not returned stands, in a valid list. -/
def findOf (xs : List VLoan) (sh : Int) : Int := if areLo xs = true then lentAt xs sh else 0
def foundB (xs : List VLoan) (sh : Int) : Bool := areLo xs && decide (0 ≤ lentAt xs sh)
set_option maxHeartbeats 1600000 in
set_option maxRecDepth 100000 in
theorem findLent_any (a : Option Addr) (len cap : Nat) (xs : List VLoan) (sh : Int) (w : World) (h : IsLoanS w a len cap xs) :
    Calls Try.prog 100 #[.slice a len cap, .int .i64 sh] w fun e w' => e = .returned (.tuple #[.int .i64 (findOf xs sh), .bool (foundB xs sh)]) ∧ Below w.heap.size w w' := by
  have b1 := wh_al1 w (.cells #[.int .i64 sh] 3)
  have S := Lib.hid (h.below b1)
  have C1 := Lib.hid (cell_box' w (.int .i64 sh) 3 _ rfl)
  have B0 := Lib.hid b1
  clear h b1
  obtain ⟨q, hq⟩ : ∃ q, areLo xs = q := ⟨_, rfl⟩
  have Q := Lib.hid hq
  clear hq
  go_enter Try.func100, Try.ntmps100
  go_wp2_with fail
  refine (areLoans_any _ _ _ xs _ S.out).mono ?_
  rintro e w1 ⟨rfl, hb⟩
  rw [Q.out]
  have B1 := Lib.hid (Below.then' B0.out hb)
  have S1 := Lib.hid (S.out.below hb)
  have C2 := Lib.hid (cell_stay' C1.out hb)
  clear hb
  cases q
  · have E0 := Lib.hid (show findOf xs sh = 0 from by unfold findOf; rw [Q.out]; rfl)
    have E1 := Lib.hid (show foundB xs sh = false from by unfold foundB; rw [Q.out]; rfl)
    go_wp2
    go_ret2
    exact ⟨by rw [E0.out, E1.out]; rfl, B1.out⟩
  obtain ⟨z, hz⟩ : ∃ z, lentAt xs sh = z := ⟨_, rfl⟩
  have Z := Lib.hid (show firstOf (fun l : VLoan => l.Sheet == sh && l.Back == -1) xs = z from by rw [lent_is Q.out]; exact hz)
  have E0 := Lib.hid (show findOf xs sh = z from by unfold findOf; rw [Q.out, if_pos rfl]; exact hz)
  have E1 := Lib.hid (show foundB xs sh = decide (0 ≤ z) from by unfold foundB; rw [Q.out, hz]; rfl)
  clear hz
  go_wp2_with fail
  refine (idxLoan_any 143 #[.pointer (some ⟨w.heap.size, 0, none⟩)] (fun l => l.Sheet == sh && l.Back == -1) a len cap xs _ S1.out (enters_fn' Try.func143 (by kernel_rfl) (by kernel_rfl)) (fun W s _ hW => by
    have h1 := findLent1_any s sh w.heap.size W (cell_stay' C2.out hW)
    simpa using h1)).mono ?_
  rintro e w2 ⟨rfl, hb⟩
  rw [Z.out]
  have B := Lib.hid (Below.then' B1.out hb)
  clear hb
  go_wp2
  go_ret2
  exact ⟨by rw [E0.out, E1.out]; rfl, B.out⟩
/-- What withLoan gives back. -/
def WithPost (xs : List VLoan) (i : Nat) (l : VLoan) (w : World) (e : Ending) (w' : World) : Prop :=
  ∃ v, e = .returned (.tuple #[v, .bool (areLo (xs.set i l))]) ∧ w'.ownsRow w.heap.size 101 5 v (if areLo (xs.set i l) = true then xs.set i l else []).length (cellsLoan (if areLo (xs.set i l) = true then xs.set i l else [])) ∧ Below w.heap.size w w'
set_option maxHeartbeats 6400000 in
set_option maxRecDepth 100000 in
theorem withLoan_any (a : Option Addr) (len cap : Nat) (xs : List VLoan) (i : Nat) (l : VLoan) (w : World) (h : IsLoanS w a len cap xs) (hil : i < xs.length) (hx : xs.length ≤ 1048576) :
    Calls Try.prog 101 #[.slice a len cap, .int .i64 (i : Int), .agg #[.int .i64 l.Sheet, .int .i64 l.Reader, .int .i64 l.Out, .int .i64 l.Due, .int .i64 l.Back]] w (WithPost xs i l w) := by
  have B0 := Lib.hid (bel_al1 w (.cells #[.int .i64 l.Sheet, .int .i64 l.Reader, .int .i64 l.Out, .int .i64 l.Due, .int .i64 l.Back] 101))
  have X0 := Lib.hid (BoxLoan.new w 101 l _ rfl)
  have S := Lib.hid (h.below B0.out)
  have hi0 : (0 : Int) ≤ (i : Int) := by omega
  have hi1 : (i : Int) < (xs.length : Int) := by omega
  clear h
  go_enter Try.func101, Try.ntmps101
  go_wp2_with fail
  refine (cloneLoan_any _ _ _ xs _ S.out hx).mono ?_
  rintro e w1 ⟨v1, rfl, hown, hb⟩
  have B1 := Lib.hid (Below.then' B0.out hb)
  obtain ⟨c0, c1, c2, c3, c4⟩ := X0.out.below hb
  have hown1 := ownsRow_base hown (show w.heap.size ≤ _ from (bel_al1 w (.cells #[.int .i64 l.Sheet, .int .i64 l.Reader, .int .i64 l.Out, .int .i64 l.Due, .int .i64 l.Back] 101)).size)
  have hsz := hb.size
  clear hown hb
  obtain ⟨g, cap1, rfl, hg, hn, hcap⟩ := own_some hown1 (by omega)
  obtain ⟨a5, c5, e5, his, _⟩ := isLoanS_own hown1
  cases e5
  have hgl := (hown1.lt g rfl).2
  have SG := his
  have f0 := hown1.frozenAt (i * 5)
  have f1 := hown1.frozenAt (i * 5 + 1)
  have f2 := hown1.frozenAt (i * 5 + 2)
  have f3 := hown1.frozenAt (i * 5 + 3)
  have f4 := hown1.frozenAt (i * 5 + 4)
  obtain ⟨u0, k0⟩ := own_cell hown1 (i * 5) (by rw [cellsLoan_len]; omega)
  obtain ⟨u1, k1⟩ := own_cell hown1 (i * 5 + 1) (by rw [cellsLoan_len]; omega)
  obtain ⟨u2, k2⟩ := own_cell hown1 (i * 5 + 2) (by rw [cellsLoan_len]; omega)
  obtain ⟨u3, k3⟩ := own_cell hown1 (i * 5 + 3) (by rw [cellsLoan_len]; omega)
  obtain ⟨u4, k4⟩ := own_cell hown1 (i * 5 + 4) (by rw [cellsLoan_len]; omega)
  have h5 := own_setLoan hown1 hil l
  have B5 := Lib.hid (B1.out.grown h5.2 B1.out.size (fun k e => by cases e; have := (hown1.lt g rfl).1; omega))
  have hown5 := h5.1
  rw [show xs.length = (xs.set i l).length from List.length_set.symm] at hown5
  have O5 := Lib.hid hown5
  obtain ⟨a6, c6, e6, his6, _⟩ := isLoanS_own hown5
  cases e6
  rw [List.length_set] at his6
  have S6 := Lib.hid his6
  clear h5 his SG hown1 hown5 his6
  go_wp2_with fail
  refine (areLoans_any _ _ _ (xs.set i l) _ S6.out).mono ?_
  rintro e w7 ⟨rfl, hb⟩
  have B7 := Lib.hid (Below.then' B5.out hb)
  have O7 := Lib.hid (ownsRow_below O5.out hb)
  obtain ⟨R, hR⟩ : ∃ R, xs.set i l = R := ⟨_, rfl⟩
  have RL := Lib.hid (show R.length = xs.length from by rw [← hR, List.length_set])
  have GOAL := Lib.hid (show WithPost xs i l w = fun e w' => ∃ v, e = .returned (.tuple #[v, .bool (areLo R)]) ∧ w'.ownsRow w.heap.size 101 5 v (if areLo R = true then R else []).length (cellsLoan (if areLo R = true then R else [])) ∧ Below w.heap.size w w' from by unfold WithPost; rw [hR])
  rw [hR] at O7 ⊢
  obtain ⟨q, hq⟩ : ∃ q, areLo R = q := ⟨_, rfl⟩
  rw [hq] at GOAL ⊢
  clear hb hR hq f0 f1 f2 f3 f4 k0 k1 k2 k3 k4 c0 c1 c2 c3 c4
  cases q
  · go_wp2
    go_ret2
    rw [GOAL.out]
    exact ⟨_, rfl, nil_ownLoan _ _, B7.out⟩
  · go_wp2
    go_ret2
    rw [GOAL.out]
    refine ⟨_, rfl, ?_, B7.out⟩
    have := O7.out
    rw [RL.out] at this
    simp only [if_true, RL.out]
    exact this
end Go.Proofs.Ytffbljbgmgifnaa
