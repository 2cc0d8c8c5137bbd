/- Texts in one: Ri, LoanL, Loi, Ltx, Loi2, Loi4, Loi5, LoanId. -/
import Derived.Test.YtffbljbgmgifnaaGreatDoorM4
import Derived.Test.YtffbljbgmgifnaaGreatDoorM6
import Derived.Test.YtffbljbgmgifnaaGreatDoorM1
import Derived.Lib.SliceRun
import Derived.Test.YtffbljbgmgifnaaGreatDoorM3
import Derived.Deep.DeepCutAuto
import Derived.StillTailTactics
import Derived.Test.YtffbljbgmgifnaaGreatDoorM5
namespace Go.Proofs.YtffbljbgmgifnaaGreatDoor
open Go.RowKit

/-- One number in a range, the list of one just made. -/
theorem areIn1 (lo hi x : Int) (t : TypeId) (w : World) (B : Nat) (hB : w.heap.size = B) :
    Calls Tryz.prog 44 #[.int .i64 lo, .int .i64 hi, .slice (some ⟨B, 0, none⟩) 1 1] (w.alloc (.cells #[.int .i64 x] t)) fun e w' => e = .returned (.bool (inB x lo hi)) ∧ w.alloc (.cells #[.int .i64 x] t) = w' :=
  (areInRange_any B 1 1 [x] lo hi _ rfl (by omega) (lit1 w x t B hB)).mono fun e w' h => ⟨by rw [h.1]; simp, h.2⟩
theorem isDay_any (d : Int) (w : World) :
    Calls Tryz.prog 38 #[.int .i64 d] w fun e w' => e = .returned (.bool (dayB d)) ∧ Below w.heap.size w w' := by
  go_enter Tryz.func38, Tryz.ntmps38
  go_wp2_with fail
  refine (areIn1 _ _ _ _ _ _ (by simp)).mono ?_
  rintro e w' ⟨rfl, rfl⟩
  go_wp2
  go_ret
  exact ⟨rfl, bel_al1 _ _⟩
theorem wordB_no {s : ByteArray} {k : Nat} (hlt : k < s.size) (h : lowB s[k] = false) : wordB s = false := by
  have h : s.data.toList.all lowB = false := by
    rw [List.all_eq_false]
    exact ⟨s[k], List.mem_of_getElem? (i := k) (by simp [hlt]; rfl), by simp [h]⟩
  unfold wordB; rw [h]; rfl
end Go.Proofs.YtffbljbgmgifnaaGreatDoor
namespace Go.Proofs.YtffbljbgmgifnaaGreatDoor
open Go.RowKit
theorem list_atLoan {xs : List VLoan} {len k : Nat} (hl : Hid (len = xs.length)) (hk : k < len) : ∃ s, xs[k]? = some s := ⟨xs[k]'(by have := hl.out; omega), List.getElem?_eq_getElem _⟩
theorem made_ownLoan (w : World) (base : Nat) (h : base ≤ w.heap.size) : (w.alloc (.cells #[] 43)).ownsRow base 43 5 (.slice (some ⟨w.heap.size, 0, none⟩) 0 0) ([] : List VLoan).length (cellsLoan []) :=
  World.ownsRow_made (base := base) (e := 43) (size := 5) w #[] 0 h (Nat.zero_le _) rfl
theorem one_Loan (xs : List VLoan) : ∀ u ∈ cellsLoan xs, u.oneCell' = true := by
  intro u hu
  obtain ⟨s, _, hs⟩ := List.mem_flatMap.1 hu
  exact s.vals_one u hs
set_option maxHeartbeats 1600000 in
set_option maxRecDepth 100000 in
/-- The index of the first element that a function value likes. -/
theorem idxLoan_any (K : FuncId) (caps : Array Value) (f : VLoan → Bool) (a : Option Addr) (len cap : Nat) (xs : List VLoan) (w : World) (h : IsLoanS w a len cap xs)
    (hcall : ∀ args W, (callFunc K args).run Tryz.prog W = .ok (.enter K args) W)
    (hf : ∀ W s, s ∈ xs → Below w.heap.size w W → Calls Tryz.prog K (#[.agg #[.int .i64 s.Sheet, .int .i64 s.Reader, .int .i64 s.Out, .int .i64 s.Due, .int .i64 s.Back]] ++ caps) W fun e w' => e = .returned (.bool (f s)) ∧ Below W.heap.size W w') :
    Calls Tryz.prog 72 #[.slice a len cap, .func (.func K) #[] caps] w fun e w' => e = .returned (.int .i64 (firstOf f xs)) ∧ Below w.heap.size w w' := by
  have hm := h.2.2.1
  have hcl := h.2.1
  unfold maxLen at hm
  have S := Lib.hid h
  have L := Lib.hid h.1
  have F := Lib.hid hf
  clear h hf
  go_enter Tryz.func72, Tryz.ntmps72
  go_wp2
  go_loopw [8, 5] (fun i _ wr => ∃ k : Nat, k ≤ len ∧ i = .int .i64 k ∧ Below w.heap.size w wr ∧ ∀ (j : Nat) t, j < k → xs[j]? = some t → f t = false) (fun i _ _ => len - (intOf i).toNat)
  case atStart => exact ⟨0, Nat.zero_le _, rfl, Below.refl _ _, by omega⟩
  case round =>
    obtain ⟨k, hk, rfl, hbel, hall⟩ := hrel
    have A := Lib.hid hall
    have B := Lib.hid hbel
    clear hall
    by_cases hlt : k < len
    · obtain ⟨s, hs⟩ := list_atLoan L hlt
      obtain ⟨b, o, rfl, hb, hat⟩ := (S.out.below hbel).at (by omega)
      obtain ⟨c0, c1, c2, c3, c4⟩ := hat k s hs
      have X := Lib.hid hs
      clear hs hat hbel
      go_wp2_with fail
      refine (F.out wr s (List.mem_of_getElem? X.out) B.out).mono ?_
      rintro e w1 ⟨rfl, hb1⟩
      have B1 := Lib.hid (Below.then' B.out hb1)
      clear hb1
      by_cases hfs : f s = true
      · have FS := Lib.hid hfs
        rw [hfs]
        clear hfs
        go_wp2
        go_ret
        exact ⟨ret_int (firstOf_at X.out FS.out A.out).symm, B1.out⟩
      · have hfs' : f s = false := by simpa using hfs
        have FS := Lib.hid hfs'
        rw [hfs']
        clear hfs hfs'
        go_wp2
        go_roundw
        case rel => exact ⟨k + 1, by omega, by go_num, B1.out, fun j t hj ht => by
          by_cases e : j = k
          · subst e; rw [X.out] at ht; cases ht; exact FS.out
          · exact A.out j t (by omega) ht⟩
        case measure => simp [intOf]; omega
    · obtain rfl : k = len := by omega
      clear hbel
      go_wp2
      go_ret
      exact ⟨ret_int (firstOf_no fun j t hj ht => A.out j t (by have := L.out; omega) ht).symm, B.out⟩
set_option maxHeartbeats 1600000 in
set_option maxRecDepth 100000 in
/-- A clone: a row of the call's own. -/
theorem cloneLoan_any (a : Option Addr) (len cap : Nat) (xs : List VLoan) (w : World) (h : IsLoanS w a len cap xs) (hx : xs.length ≤ 1048576) :
    Calls Tryz.prog 76 #[.slice a len cap] w (LoanRow xs w) := by
  obtain rfl := h.1
  obtain ⟨i0, hi, hz0, hz1, hz2⟩ := info_parts infoLoan
  cases a with
  | none =>
    have h0 : xs.length = 0 := by
      rcases h.2.2.2 with h0 | ⟨b, o, e, _⟩
      · exact h0
      · cases e
    obtain rfl : xs = [] := List.length_eq_zero_iff.1 h0
    clear h h0
    have hnil := fun w a n c n' c' => Lib.run_eql_slice_nil (P := Tryz.prog) w 24 43 a n c n' c' Tryz.underlying24
    go_enter Tryz.func76, Tryz.ntmps76
    go_wp2
    go_ret
    exact ⟨_, rfl, ⟨by simp [cellsLoan], .inl ⟨rfl, rfl⟩⟩, Below.refl _ _⟩
  | some ad =>
    have B0 := Lib.hid (bel_al1 w (.cells #[] 43))
    have O0 := made_ownLoan w w.heap.size (Nat.le_refl _)
    have SRC := srcLoan (h.below B0.out)
    have SZ := Lib.hid (size_al w (.cells #[] 43))
    clear h
    have hnil := fun w a n c n' c' => Lib.run_eql_slice_nil (P := Tryz.prog) w 24 43 a n c n' c' Tryz.underlying24
    go_enter Tryz.func76, Tryz.ntmps76
    go_wp2_with (at_builtin; refine wpList_append_list rfl _ _ 24 rfl w.heap.size 43 i0 (.agg #[.int .i64 0, .int .i64 0, .int .i64 0, .int .i64 0, .int .i64 0]) 5 40 Tryz.underlying24 hi hz0 hz1 hz2 rfl (by decide) _ _ _ rfl O0 _ xs.length cap (cellsLoan xs) rfl SRC (one_Loan xs) (by simp; unfold maxLen; omega) (by simp; omega) (by rw [SZ.out]; omega) ?_; intro v1 w1 hown1 hgrow1; have B1 := Lib.hid (B0.out.grown hgrow1 (by rw [SZ.out]; omega) (fun k e => by have := own_is e; omega)); have O1 := Lib.hid hown1; clear hown1 hgrow1)
    go_ret
    refine ⟨v1, rfl, ?_, B1.out⟩
    have h := O1.out
    simpa [cellsLoan] using h
/-- A call of a function value enters the function. -/
theorem callf_ofLoan {P : Program} {K : FuncId} {fn : Func} (hf : P.funcs[K]? = some fn) (h1 : (fn.name == "runtime.NumGoroutine") = false) (h2 : fn.body.isNone = false) : ∀ args W, (callFunc K args).run P W = .ok (.enter K args) W := by
  intro args W
  have h1' : ¬ fn.name = "runtime.NumGoroutine" := by simpa using h1
  have h2' : ¬ fn.body = none := by intro h; rw [h] at h2; cases h2
  simp [callFunc, go_sem, hf, h1', h2']
end Go.Proofs.YtffbljbgmgifnaaGreatDoor
namespace Go.Proofs.YtffbljbgmgifnaaGreatDoor
open Go.RowKit

theorem isLoanId_any (d : Int) (w : World) :
    Calls Tryz.prog 37 #[.int .i64 d] w fun e w' => e = .returned (.bool (idB d)) ∧ Below w.heap.size w w' := by
  go_enter Tryz.func37, Tryz.ntmps37
  go_wp2_with fail
  refine (areIn1 _ _ _ _ _ _ (by simp)).mono ?_
  rintro e w' ⟨rfl, rfl⟩
  go_wp2
  go_ret
  exact ⟨rfl, bel_al1 _ _⟩
set_option maxHeartbeats 3200000 in
theorem isLoan_any (s : VLoan) (w : World) :
    Calls Tryz.prog 59 #[.agg #[.int .i64 s.Sheet, .int .i64 s.Reader, .int .i64 s.Out, .int .i64 s.Due, .int .i64 s.Back]] w fun e w' => e = .returned (.bool s.ok) ∧ Below w.heap.size w w' := by
  obtain ⟨q1, h1⟩ : ∃ q, idB s.Sheet = q := ⟨_, rfl⟩
  obtain ⟨q2, h2⟩ : ∃ q, idB s.Reader = q := ⟨_, rfl⟩
  obtain ⟨q3, h3⟩ : ∃ q, dayB s.Out = q := ⟨_, rfl⟩
  obtain ⟨q4, h4⟩ : ∃ q, inB s.Due s.Out 4000 = q := ⟨_, rfl⟩
  obtain ⟨q5, h5⟩ : ∃ q, inB s.Back s.Out 4000 = q := ⟨_, rfl⟩
  have OK := Lib.hid (show s.ok = (q1 && (q2 && (q3 && (q4 && (s.Back == -1 || q5))))) from by rw [← h1, ← h2, ← h3, ← h4, ← h5]; rfl)
  have H1 := Lib.hid h1
  have H2 := Lib.hid h2
  have H3 := Lib.hid h3
  have H4 := Lib.hid h4
  have H5 := Lib.hid h5
  have X0 := Lib.hid (BoxLoan.new w 43 s _ rfl)
  have B0 := Lib.hid (bel_al1 w (.cells #[.int .i64 s.Sheet, .int .i64 s.Reader, .int .i64 s.Out, .int .i64 s.Due, .int .i64 s.Back] 43))
  clear h1 h2 h3 h4 h5
  go_enter Tryz.func59, Tryz.ntmps59
  go_wp2_with fail
  refine (isLoanId_any _ _).mono ?_
  rintro e w2 ⟨rfl, hb⟩
  rw [H1.out]
  have B2 := Lib.hid (Below.then' B0.out hb)
  obtain ⟨c0, c1, c2, c3, c4⟩ := X0.out.below hb
  have X2 := Lib.hid (X0.out.below hb)
  clear hb
  cases q1
  · go_wp2
    go_ret
    exact ⟨ret_bool (by rw [OK.out]; rfl), B2.out⟩
  go_wp2_with fail
  refine (isLoanId_any _ _).mono ?_
  rintro e w3 ⟨rfl, hb⟩
  rw [H2.out]
  have B3 := Lib.hid (Below.then' B2.out hb)
  clear c0 c1 c2 c3 c4
  obtain ⟨c0, c1, c2, c3, c4⟩ := X2.out.below hb
  have X3 := Lib.hid (X2.out.below hb)
  clear hb
  cases q2
  · go_wp2
    go_ret
    exact ⟨ret_bool (by rw [OK.out]; rfl), B3.out⟩
  go_wp2_with fail
  refine (isDay_any _ _).mono ?_
  rintro e w4 ⟨rfl, hb⟩
  rw [H3.out]
  have B4 := Lib.hid (Below.then' B3.out hb)
  clear c0 c1 c2 c3 c4
  obtain ⟨c0, c1, c2, c3, c4⟩ := X3.out.below hb
  have X4 := Lib.hid (X3.out.below hb)
  clear hb
  cases q3
  · go_wp2
    go_ret
    exact ⟨ret_bool (by rw [OK.out]; rfl), B4.out⟩
  go_wp2_with fail
  refine (areIn1 _ _ _ _ _ _ (by simp)).mono ?_
  rintro e w' ⟨rfl, rfl⟩
  rw [H4.out]
  have B5 := Lib.hid (Below.then' B4.out (bel_al1 w4 (.cells #[.int .i64 s.Due] 3)))
  clear c0 c1 c2 c3 c4
  obtain ⟨c0, c1, c2, c3, c4⟩ := X4.out.below (bel_al1 w4 (.cells #[.int .i64 s.Due] 3))
  cases q4
  · go_wp2
    go_ret
    exact ⟨ret_bool (by rw [OK.out]; rfl), B5.out⟩
  by_cases hb : s.Back = -1
  · have E := Lib.hid (show (s.Back == -1) = true by simp [hb])
    have e1 := E.out
    clear hb
    go_wp2
    go_ret
    exact ⟨ret_bool (by rw [OK.out, E.out]; rfl), B5.out⟩
  have E := Lib.hid (show (s.Back == -1) = false by simp [hb])
  have e1 := E.out
  clear hb
  go_wp2_with fail
  refine (areIn1 _ _ _ _ _ _ (by simp)).mono ?_
  rintro e w' ⟨rfl, rfl⟩
  rw [H5.out]
  have B6 := Lib.hid (Below.then' B5.out (bel_al1 _ (.cells #[.int .i64 s.Back] 3)))
  go_wp2
  go_ret
  exact ⟨ret_bool (by rw [OK.out, E.out]; rfl), B6.out⟩
set_option maxHeartbeats 1600000 in
theorem isOpen_any (s : VLoan) (d : Int) (w : World) :
    Calls Tryz.prog 64 #[.agg #[.int .i64 s.Sheet, .int .i64 s.Reader, .int .i64 s.Out, .int .i64 s.Due, .int .i64 s.Back], .int .i64 d] w fun e w' => e = .returned (.bool (openOn d s)) ∧ Below w.heap.size w w' := by
  by_cases h1 : s.Out ≤ d
  · have D1 := Lib.hid (decide_eq_true h1)
    by_cases h2 : s.Back = -1
    · have E := Lib.hid (show (s.Back == -1) = true by simp [h2])
      have e1 := E.out
      clear h2
      go_enter Tryz.func64, Tryz.ntmps64
      go_wp2
      go_ret
      exact ⟨ret_bool (by unfold openOn; rw [D1.out, E.out]; rfl), bel_al1 _ _⟩
    · have E := Lib.hid (show (s.Back == -1) = false by simp [h2])
      have e1 := E.out
      clear h2
      go_enter Tryz.func64, Tryz.ntmps64
      go_wp2
      go_ret
      exact ⟨ret_bool (by unfold openOn; rw [D1.out, E.out]; rfl), bel_al1 _ _⟩
  · have D1 := Lib.hid (decide_eq_false h1)
    have h3 : d < s.Out := by omega
    go_enter Tryz.func64, Tryz.ntmps64
    go_wp2
    go_ret
    exact ⟨ret_bool (by unfold openOn; rw [D1.out]; rfl), bel_al1 _ _⟩
end Go.Proofs.YtffbljbgmgifnaaGreatDoor
namespace Go.Proofs.YtffbljbgmgifnaaGreatDoor
open Go.RowKit

/-- A loan's text but for the day on which it came back. -/
def loBase (s : VLoan) : ByteArray := textOf s.Sheet ++ ⟨#[32, 116, 111, 32]⟩ ++ textOf s.Reader ++ ⟨#[32]⟩ ++ textOf s.Out ++ ⟨#[46, 46]⟩ ++ textOf s.Due
def loText (s : VLoan) : ByteArray := if s.Back = -1 then loBase s else loBase s ++ ⟨#[32, 98, 97, 99, 107, 32]⟩ ++ textOf s.Back
def LoanText_0 (s : VLoan) : ByteArray := if s.ok = true then loText s else ⟨#[]⟩
def LoanText_1 (s : VLoan) : Bool := s.ok
theorem loBase_size {s : VLoan} (h : s.ok = true) : (loBase s).size ≤ 5000000000100 := by
  obtain ⟨a, b, c, d, _⟩ := loOk_iff.1 h
  have z0 := text_bd (n := s.Sheet) (by omega) (by omega)
  have z1 := text_bd (n := s.Reader) (by omega) (by omega)
  have z2 := text_bd (n := s.Out) (by omega) (by omega)
  have z3 := text_bd (n := s.Due) (by omega) (by omega)
  unfold loBase
  simp only [ByteArray.size_append]
  have e1 : (⟨#[32]⟩ : ByteArray).size = 1 := rfl
  have e2 : (⟨#[32, 116, 111, 32]⟩ : ByteArray).size = 4 := rfl
  have e3 : (⟨#[46, 46]⟩ : ByteArray).size = 2 := rfl
  omega
theorem str_assoc' (a b c : ByteArray) : a ++ (b ++ c) = a ++ b ++ c := (ByteArray.append_assoc ..).symm
def LoanText_Post (z0 : VLoan) (w : World) (e : Ending) (w' : World) : Prop :=
  e = .returned (.tuple #[.string (LoanText_0 z0), .bool (LoanText_1 z0)]) ∧ Below w.heap.size w w'
theorem lo_text_yes {s : VLoan} {w : World} {e : Ending} {w' : World} (h : s.ok = true) (hp : e = .returned (.tuple #[.string (loText s), .bool true]) ∧ Below w.heap.size w w') : LoanText_Post s w e w' := by
  unfold LoanText_Post LoanText_0 LoanText_1
  rw [if_pos h, h]; exact hp
theorem lo_text_no {s : VLoan} {w : World} {e : Ending} {w' : World} (h : s.ok = false) (hp : e = .returned (.tuple #[.string ⟨#[]⟩, .bool false]) ∧ Below w.heap.size w w') : LoanText_Post s w e w' := by
  unfold LoanText_Post LoanText_0 LoanText_1
  rw [if_neg (by rw [h]; decide), h]; exact hp
theorem ret_str_v' {s t : ByteArray} {b : Bool} (h : s = t) : Ending.returned (.tuple #[.string s, .bool b]) = Ending.returned (.tuple #[.string t, .bool b]) := by rw [h]
set_option maxHeartbeats 3200000 in
set_option maxRecDepth 100000 in
theorem specLoanText_yes (s : VLoan) (w : World) (hok : s.ok = true) :
    Calls Tryz.prog 23 #[.agg #[.int .i64 s.Sheet, .int .i64 s.Reader, .int .i64 s.Out, .int .i64 s.Due, .int .i64 s.Back]] w fun e w' => e = .returned (.tuple #[.string (loText s), .bool true]) ∧ Below w.heap.size w w' := by
  have zb := loBase_size hok
  obtain ⟨⟨a0, a1⟩, ⟨b0, b1⟩, ⟨c0, c1⟩, ⟨d0, d1⟩, bk⟩ := loOk_iff.1 hok
  have z0 := text_bd (n := s.Sheet) (by omega) (by omega)
  have z1 := text_bd (n := s.Reader) (by omega) (by omega)
  have z2 := text_bd (n := s.Out) (by omega) (by omega)
  have z3 := text_bd (n := s.Due) (by omega) (by omega)
  have k0 : ∀ W, Calls Tryz.prog 62 #[.int .i64 s.Sheet] W fun e w' => e = .returned (.string (textOf s.Sheet)) ∧ Below W.heap.size W w' := fun W => num_any _ (by omega) (by omega) W
  have k1 : ∀ W, Calls Tryz.prog 62 #[.int .i64 s.Reader] W fun e w' => e = .returned (.string (textOf s.Reader)) ∧ Below W.heap.size W w' := fun W => num_any _ (by omega) (by omega) W
  have k2 : ∀ W, Calls Tryz.prog 62 #[.int .i64 s.Out] W fun e w' => e = .returned (.string (textOf s.Out)) ∧ Below W.heap.size W w' := fun W => num_any _ (by omega) (by omega) W
  have k3 : ∀ W, Calls Tryz.prog 62 #[.int .i64 s.Due] W fun e w' => e = .returned (.string (textOf s.Due)) ∧ Below W.heap.size W w' := fun W => num_any _ (by omega) (by omega) W
  have K4 := Lib.hid (show ¬ s.Back = -1 → ∀ W, Calls Tryz.prog 62 #[.int .i64 s.Back] W fun e w' => e = .returned (.string (textOf s.Back)) ∧ Below W.heap.size W w' from fun hne => fun W => num_any _ (by omega) (by omega) W)
  have Z4 := Lib.hid (show ¬ s.Back = -1 → (textOf s.Back).size ≤ 1000000000002 from fun hne => text_bd (by omega) (by omega))
  have BK := Lib.hid (show ¬ s.Back = -1 → 0 ≤ s.Back from fun hne => by omega)
  have T : Hid (loBase s = textOf s.Sheet ++ ⟨#[32, 116, 111, 32]⟩ ++ textOf s.Reader ++ ⟨#[32]⟩ ++ textOf s.Out ++ ⟨#[46, 46]⟩ ++ textOf s.Due) := Lib.hid rfl
  have TO := Lib.hid (fun h : ¬ s.Back = -1 => (show loText s = loBase s ++ ⟨#[32, 98, 97, 99, 107, 32]⟩ ++ textOf s.Back from if_neg h))
  have TP := Lib.hid (fun h : s.Back = -1 => (show loText s = loBase s from if_pos h))
  have OK := Lib.hid hok
  generalize textOf s.Sheet = t0 at *
  generalize textOf s.Reader = t1 at *
  generalize textOf s.Out = t2 at *
  generalize textOf s.Due = t3 at *
  generalize textOf s.Back = t4 at *
  generalize loText s = tt at *
  clear hok a0 a1 b0 b1 c0 c1 d0 d1 bk
  go_enter Tryz.func23, Tryz.ntmps23
  go_wp2_with fail
  refine (l11One_any s _).mono ?_
  rintro e w1 ⟨rfl, hb1⟩
  have BX1 := Lib.hid ((BoxLoan.new w 43 s _ rfl).below hb1)
  have B1 := Lib.hid (Below.then' (bel_al1 _ _) hb1)
  clear hb1
  rw [OK.out]
  go_wp2
  refine wp_world (fun W => BoxLoan W w.heap.size s ∧ Below w.heap.size w W) ⟨BX1.out, B1.out⟩ ?_
  rintro W ⟨hbox, hbw⟩
  have BX := Lib.hid hbox
  obtain ⟨e0, e1, e2, e3, e4⟩ := hbox
  have BW := Lib.hid hbw
  have g0 := cell_regrown e0
  have g1 := cell_regrown e1
  have g2 := cell_regrown e2
  have g3 := cell_regrown e3
  have q0 := below_at (W := W) (fun W' _ => k0 W')
  have q1 := below_at (W := W) (fun W' _ => k1 W')
  have q2 := below_at (W := W) (fun W' _ => k2 W')
  have q3 := below_at (W := W) (fun W' _ => k3 W')
  clear e0 e1 e2 e3 e4 hbw k0 k1 k2 k3
  refine wp_region_quiet_below (by kernel_rfl) (by kernel_rfl) ?_
  repeat (first | go_big_quiet_step (first | (with_reducible exact q0 _ _) | (with_reducible exact q1 _ _) | (with_reducible exact q2 _ _) | (with_reducible exact q3 _ _)) | quiet_step (first | (with_reducible exact q0 _ _) | (with_reducible exact q1 _ _) | (with_reducible exact q2 _ _) | (with_reducible exact q3 _ _)))
  refine wpQuiet_nil ?_
  intro W2 hw2
  have hb2 := below_of_re hw2
  have B2 := Lib.hid (Below.then' BW.out hb2)
  obtain ⟨e0, e1, e2, e3, e4⟩ := BX.out.below hb2
  clear hw2 hb2 q0 q1 q2 q3 g0 g1 g2 g3
  rw [← T.out]
  generalize loBase s = tb at *
  by_cases hf : s.Back = -1
  · have E := Lib.hid (TP.out hf)
    have z : (s.Back == -1) = true := by simp [hf]
    have zz : (s.Back != -1) = false := by simp [hf]
    have z' : ¬ (0 : Int) ≤ s.Back := by omega
    clear hf
    go_wp2
    go_ret2
    exact ⟨ret_str_v' E.out.symm, B2.out⟩
  · have E := Lib.hid (TO.out hf)
    have z : (s.Back == -1) = false := by simp [hf]
    have zz : (s.Back != -1) = true := by simp [hf]
    have z' : (0 : Int) ≤ s.Back := BK.out hf
    have z4 := Z4.out hf
    have K5 := Lib.hid (K4.out hf)
    clear hf
    go_wp2_with fail
    refine (K5.out _).mono ?_
    rintro e w3 ⟨rfl, hb⟩
    have B3 := Lib.hid (Below.then' B2.out hb)
    clear hb
    go_wp2
    go_ret2
    exact ⟨ret_str_v' (by first | exact E.out.symm | rw [E.out, str_assoc']), B3.out⟩
theorem specLoanText_any (s : VLoan) (w : World) :
    Calls Tryz.prog 23 #[.agg #[.int .i64 s.Sheet, .int .i64 s.Reader, .int .i64 s.Out, .int .i64 s.Due, .int .i64 s.Back]] w (LoanText_Post s w) := by
  cases hok : s.ok with
  | true => exact Calls.mono (specLoanText_yes s w hok) (fun _ _ h => lo_text_yes hok h)
  | false =>
    refine Calls.mono ?_ (fun _ _ h => lo_text_no hok h)
    have OK := Lib.hid hok
    clear hok
    go_enter Tryz.func23, Tryz.ntmps23
    go_wp2_with fail
    refine (l11One_any s _).mono ?_
    rintro e w1 ⟨rfl, hb⟩
    have B1 := Lib.hid (Below.then' (bel_al1 _ _) hb)
    clear hb
    rw [OK.out]
    go_wp2
    go_ret2
    exact ⟨rfl, B1.out⟩
set_option maxHeartbeats 3200000 in
set_option maxRecDepth 100000 in
theorem implLoanText_yes (s : VLoan) (w : World) (hok : s.ok = true) (ht : TabPow w) :
    Calls Tryz.prog 22 #[.agg #[.int .i64 s.Sheet, .int .i64 s.Reader, .int .i64 s.Out, .int .i64 s.Due, .int .i64 s.Back]] w fun e w' => e = .returned (.tuple #[.string (loText s), .bool true]) ∧ Below w.heap.size w w' := by
  have zb := loBase_size hok
  obtain ⟨⟨a0, a1⟩, ⟨b0, b1⟩, ⟨c0, c1⟩, ⟨d0, d1⟩, bk⟩ := loOk_iff.1 hok
  have z0 := text_bd (n := s.Sheet) (by omega) (by omega)
  have z1 := text_bd (n := s.Reader) (by omega) (by omega)
  have z2 := text_bd (n := s.Out) (by omega) (by omega)
  have z3 := text_bd (n := s.Due) (by omega) (by omega)
  have k0 : ∀ W, TabPow W → Calls Tryz.prog 60 #[.int .i64 s.Sheet] W fun e w' => e = .returned (.string (textOf s.Sheet)) ∧ Below W.heap.size W w' := fun W hT => itoa_any _ (by omega) (by omega) W hT
  have k1 : ∀ W, TabPow W → Calls Tryz.prog 60 #[.int .i64 s.Reader] W fun e w' => e = .returned (.string (textOf s.Reader)) ∧ Below W.heap.size W w' := fun W hT => itoa_any _ (by omega) (by omega) W hT
  have k2 : ∀ W, TabPow W → Calls Tryz.prog 60 #[.int .i64 s.Out] W fun e w' => e = .returned (.string (textOf s.Out)) ∧ Below W.heap.size W w' := fun W hT => itoa_any _ (by omega) (by omega) W hT
  have k3 : ∀ W, TabPow W → Calls Tryz.prog 60 #[.int .i64 s.Due] W fun e w' => e = .returned (.string (textOf s.Due)) ∧ Below W.heap.size W w' := fun W hT => itoa_any _ (by omega) (by omega) W hT
  have K4 := Lib.hid (show ¬ s.Back = -1 → ∀ W, TabPow W → Calls Tryz.prog 60 #[.int .i64 s.Back] W fun e w' => e = .returned (.string (textOf s.Back)) ∧ Below W.heap.size W w' from fun hne => fun W hT => itoa_any _ (by omega) (by omega) W hT)
  have Z4 := Lib.hid (show ¬ s.Back = -1 → (textOf s.Back).size ≤ 1000000000002 from fun hne => text_bd (by omega) (by omega))
  have BK := Lib.hid (show ¬ s.Back = -1 → 0 ≤ s.Back from fun hne => by omega)
  have T : Hid (loBase s = textOf s.Sheet ++ ⟨#[32, 116, 111, 32]⟩ ++ textOf s.Reader ++ ⟨#[32]⟩ ++ textOf s.Out ++ ⟨#[46, 46]⟩ ++ textOf s.Due) := Lib.hid rfl
  have TO := Lib.hid (fun h : ¬ s.Back = -1 => (show loText s = loBase s ++ ⟨#[32, 98, 97, 99, 107, 32]⟩ ++ textOf s.Back from if_neg h))
  have TP := Lib.hid (fun h : s.Back = -1 => (show loText s = loBase s from if_pos h))
  have OK := Lib.hid hok
  have TT := Lib.hid ht
  generalize textOf s.Sheet = t0 at *
  generalize textOf s.Reader = t1 at *
  generalize textOf s.Out = t2 at *
  generalize textOf s.Due = t3 at *
  generalize textOf s.Back = t4 at *
  generalize loText s = tt at *
  clear hok a0 a1 b0 b1 c0 c1 d0 d1 bk ht
  go_enter Tryz.func22, Tryz.ntmps22
  go_wp2_with fail
  refine (isLoan_any s _).mono ?_
  rintro e w1 ⟨rfl, hb1⟩
  have BX1 := Lib.hid ((BoxLoan.new w 43 s _ rfl).below hb1)
  have B1 := Lib.hid (Below.then' (bel_al1 _ _) hb1)
  clear hb1
  rw [OK.out]
  go_wp2
  refine wp_world (fun W => BoxLoan W w.heap.size s ∧ Below w.heap.size w W) ⟨BX1.out, B1.out⟩ ?_
  rintro W ⟨hbox, hbw⟩
  have BX := Lib.hid hbox
  obtain ⟨e0, e1, e2, e3, e4⟩ := hbox
  have BW := Lib.hid hbw
  have T2 := Lib.hid (tabPow_below TT.out hbw)
  have g0 := cell_regrown e0
  have g1 := cell_regrown e1
  have g2 := cell_regrown e2
  have g3 := cell_regrown e3
  have q0 := below_at (W := W) (fun W' hb => k0 W' (tabPow_below T2.out hb))
  have q1 := below_at (W := W) (fun W' hb => k1 W' (tabPow_below T2.out hb))
  have q2 := below_at (W := W) (fun W' hb => k2 W' (tabPow_below T2.out hb))
  have q3 := below_at (W := W) (fun W' hb => k3 W' (tabPow_below T2.out hb))
  clear e0 e1 e2 e3 e4 hbw k0 k1 k2 k3
  refine wp_region_quiet_below (by kernel_rfl) (by kernel_rfl) ?_
  repeat (first | go_big_quiet_step (first | (with_reducible exact q0 _ _) | (with_reducible exact q1 _ _) | (with_reducible exact q2 _ _) | (with_reducible exact q3 _ _)) | quiet_step (first | (with_reducible exact q0 _ _) | (with_reducible exact q1 _ _) | (with_reducible exact q2 _ _) | (with_reducible exact q3 _ _)))
  refine wpQuiet_nil ?_
  intro W2 hw2
  have hb2 := below_of_re hw2
  have B2 := Lib.hid (Below.then' BW.out hb2)
  have T3 := Lib.hid (tabPow_below T2.out hb2)
  obtain ⟨e0, e1, e2, e3, e4⟩ := BX.out.below hb2
  clear hw2 hb2 q0 q1 q2 q3 g0 g1 g2 g3
  rw [← T.out]
  generalize loBase s = tb at *
  by_cases hf : s.Back = -1
  · have E := Lib.hid (TP.out hf)
    have z : (s.Back == -1) = true := by simp [hf]
    have zz : (s.Back != -1) = false := by simp [hf]
    have z' : ¬ (0 : Int) ≤ s.Back := by omega
    clear hf
    go_wp2
    go_ret2
    exact ⟨ret_str_v' E.out.symm, B2.out⟩
  · have E := Lib.hid (TO.out hf)
    have z : (s.Back == -1) = false := by simp [hf]
    have zz : (s.Back != -1) = true := by simp [hf]
    have z' : (0 : Int) ≤ s.Back := BK.out hf
    have z4 := Z4.out hf
    have K5 := Lib.hid (K4.out hf)
    clear hf
    go_wp2_with fail
    refine (K5.out _ T3.out).mono ?_
    rintro e w3 ⟨rfl, hb⟩
    have B3 := Lib.hid (Below.then' B2.out hb)
    clear hb
    go_wp2
    go_ret2
    exact ⟨ret_str_v' (by first | exact E.out.symm | rw [E.out, str_assoc']), B3.out⟩
theorem implLoanText_any (s : VLoan) (w : World) (ht : TabPow w) :
    Calls Tryz.prog 22 #[.agg #[.int .i64 s.Sheet, .int .i64 s.Reader, .int .i64 s.Out, .int .i64 s.Due, .int .i64 s.Back]] w (LoanText_Post s w) := by
  cases hok : s.ok with
  | true => exact Calls.mono (implLoanText_yes s w hok ht) (fun _ _ h => lo_text_yes hok h)
  | false =>
    refine Calls.mono ?_ (fun _ _ h => lo_text_no hok h)
    have OK := Lib.hid hok
    clear hok
    go_enter Tryz.func22, Tryz.ntmps22
    go_wp2_with fail
    refine (isLoan_any s _).mono ?_
    rintro e w1 ⟨rfl, hb⟩
    have B1 := Lib.hid (Below.then' (bel_al1 _ _) hb)
    clear hb
    rw [OK.out]
    go_wp2
    go_ret2
    exact ⟨rfl, B1.out⟩
end Go.Proofs.YtffbljbgmgifnaaGreatDoor
namespace Go.Proofs.YtffbljbgmgifnaaGreatDoor
open Go.RowKit

theorem IsLoanS.take {w : World} {a : Option Addr} {len cap k : Nat} {xs : List VLoan} (h : IsLoanS w a len cap xs) (hk : k ≤ len) : IsLoanS w a k cap (xs.take k) := by
  refine ⟨by rw [List.length_take, ← h.1, Nat.min_eq_left hk], by have := h.2.1; omega, h.2.2.1, ?_⟩
  rcases h.2.2.2 with h0 | ⟨b, o, rfl, hb, hat⟩
  · exact .inl (by omega)
  · refine .inr ⟨b, o, rfl, hb, fun j s hs => hat j s ?_⟩
    rw [List.getElem?_take] at hs
    split at hs
    · exact hs
    · cases hs
set_option maxHeartbeats 1600000 in
set_option maxRecDepth 100000 in
theorem openIdx1_any (s : VLoan) (sh d : Int) (b1 b2 : Nat) (w : World) (h1 : w.cell? ⟨b1, 0, none⟩ = some (.int .i64 sh)) (h2 : w.cell? ⟨b2, 0, none⟩ = some (.int .i64 d)) :
    Calls Tryz.prog 73 #[.agg #[.int .i64 s.Sheet, .int .i64 s.Reader, .int .i64 s.Out, .int .i64 s.Due, .int .i64 s.Back], .pointer (some ⟨b1, 0, none⟩), .pointer (some ⟨b2, 0, none⟩)] w fun e w' => e = .returned (.bool (s.Sheet == sh && openOn d s)) ∧ Below w.heap.size w w' := by
  have B0 := Lib.hid (bel_al1 w (.cells #[.int .i64 s.Sheet, .int .i64 s.Reader, .int .i64 s.Out, .int .i64 s.Due, .int .i64 s.Back] 43))
  have l1 := World.lt_of_cell h1
  have l2 := World.lt_of_cell h2
  have n1 : ¬ b1 = w.heap.size := by omega
  have n2 : ¬ b2 = w.heap.size := by omega
  obtain ⟨q, hq⟩ : ∃ q, openOn d s = q := ⟨_, rfl⟩
  have Q := Lib.hid hq
  clear hq
  by_cases e : s.Sheet = sh
  · have s1 : (s.Sheet == sh) = true := by simp [e]
    have S1 := Lib.hid s1
    clear e
    go_enter Tryz.func73, Tryz.ntmps73
    go_wp2_with fail
    refine (isOpen_any s d _).mono ?_
    rintro e w2 ⟨rfl, hb⟩
    rw [Q.out]
    have B2 := Lib.hid (Below.then' B0.out hb)
    clear hb h1 h2
    go_wp2
    go_ret
    exact ⟨ret_bool (by rw [S1.out, Q.out]; rfl), B2.out⟩
  · have s1 : (s.Sheet == sh) = false := by simp [e]
    have S1 := Lib.hid s1
    clear e
    go_enter Tryz.func73, Tryz.ntmps73
    go_wp2
    go_ret
    exact ⟨ret_bool (by rw [S1.out]; rfl), B0.out⟩
set_option maxHeartbeats 1600000 in
set_option maxRecDepth 100000 in
theorem indexOfOpen_any (a : Option Addr) (len cap : Nat) (xs : List VLoan) (sh d : Int) (w : World) (h : IsLoanS w a len cap xs) :
    Calls Tryz.prog 39 #[.slice a len cap, .int .i64 sh, .int .i64 d] w fun e w' => e = .returned (.int .i64 (firstOf (fun b : VLoan => b.Sheet == sh && openOn d b) xs)) ∧ Below w.heap.size w w' := by
  have b1 := wh_al1 w (.cells #[.int .i64 sh] 3)
  have b2 := Below.then' b1 (wh_al1 (w.alloc (.cells #[.int .i64 sh] 3)) (.cells #[.int .i64 d] 3))
  have S := Lib.hid (h.below b2)
  have C1 := Lib.hid (cell_stay' (cell_box' w (.int .i64 sh) 3 _ rfl) (wh_al1 (w.alloc (.cells #[.int .i64 sh] 3)) (.cells #[.int .i64 d] 3)))
  have C2 := Lib.hid (cell_box' (w.alloc (.cells #[.int .i64 sh] 3)) (.int .i64 d) 3 (w.heap.size + 1) (by simp))
  have B0 := Lib.hid b2
  clear h b1 b2
  go_enter Tryz.func39, Tryz.ntmps39
  go_wp2_with fail
  refine (idxLoan_any 73 #[.pointer (some ⟨w.heap.size, 0, none⟩), .pointer (some ⟨w.heap.size + 1, 0, none⟩)] (fun b => b.Sheet == sh && openOn d b) a len cap xs _ S.out (enters_fn' Tryz.func73 (by kernel_rfl) (by kernel_rfl)) (fun W s _ hW => by
    have h1 := openIdx1_any s sh d w.heap.size (w.heap.size + 1) W (cell_stay' C1.out hW) (cell_stay' C2.out hW)
    simpa using h1)).mono ?_
  rintro e w1 ⟨rfl, hb⟩
  have B := Lib.hid (Below.then' B0.out hb)
  clear hb
  go_wp2
  go_ret
  exact ⟨rfl, B.out⟩
theorem fits_way2 {xs : List VLoan} {k : Nat} {l : VLoan} {o r : Bool} {z : Int} (h : upTo xs k) (hs : xs[k]? = some l) (hq : l.ok = true) (ho : (k == 0 || decide ((loAt xs (k - 1)).Out ≤ l.Out)) = o) (ho2 : o = true) (hz : firstOf (fun b : VLoan => b.Sheet == l.Sheet && openOn l.Out b) (xs.take k) = z) (hr : decide (0 ≤ z) = r) : fitLo xs k = !r := by
  subst ho2
  rw [fits_is hs, hq, ho, ← hr, ← hz, way_first h hs ?_]
  · rfl
  · intro b hb hk
    have hk0 : (k == 0) = false := by simp; omega
    rw [hk0, loAt_some hb, Bool.false_or] at ho
    exact of_decide_eq_true ho
theorem fits_no1 {xs : List VLoan} {k : Nat} {l : VLoan} (hs : xs[k]? = some l) (hq : l.ok = false) : fitLo xs k = false := by rw [fits_is hs, hq]; rfl
theorem fits_no2 {xs : List VLoan} {k : Nat} {l : VLoan} {o : Bool} (hs : xs[k]? = some l) (ho : (k == 0 || decide ((loAt xs (k - 1)).Out ≤ l.Out)) = o) (h : o = false) : fitLo xs k = false := by rw [fits_is hs, ho, h]; simp
set_option maxHeartbeats 12800000 in
set_option maxRecDepth 100000 in
theorem areLoans_any (a : Option Addr) (len cap : Nat) (xs : List VLoan) (w : World) (h : IsLoanS w a len cap xs) :
    Calls Tryz.prog 36 #[.slice a len cap] w fun e w' => e = .returned (.bool (areLo xs)) ∧ Below w.heap.size w w' := by
  have hm := h.2.2.1
  have hcl := h.2.1
  unfold maxLen at hm
  obtain rfl := h.1
  have S := Lib.hid h
  clear h
  by_cases h15 : xs.length ≤ 15
  case neg =>
    have N := Lib.hid (areLo_long h15)
    have h15' : (15 : Int) < (xs.length : Int) := by omega
    go_enter Tryz.func36, Tryz.ntmps36
    go_wp2
    go_ret
    exact ⟨ret_bool N.out.symm, Below.refl _ _⟩
  have h15' : ¬ (15 : Int) < (xs.length : Int) := by omega
  go_enter Tryz.func36, Tryz.ntmps36
  go_wp2
  go_loopw [11] (fun i wr => ∃ k : Nat, k ≤ xs.length ∧ i = .int .i64 k ∧ Below w.heap.size w wr ∧ upTo xs k) (fun i _ => xs.length - (intOf i).toNat)
  case atStart => exact ⟨0, Nat.zero_le _, rfl, Below.refl _ _, upTo_zero xs⟩
  case round =>
    obtain ⟨k, hk, rfl, hbel, hall⟩ := hrel
    have A := Lib.hid hall
    have B := Lib.hid hbel
    clear hall
    by_cases hlt : k < xs.length
    · obtain ⟨s, hs⟩ : ∃ s, xs[k]? = some s := ⟨xs[k]'hlt, List.getElem?_eq_getElem _⟩
      have K := Lib.hid hs
      obtain ⟨q, hq⟩ : ∃ q, s.ok = q := ⟨_, rfl⟩
      obtain ⟨o, ho⟩ : ∃ o, (k == 0 || decide ((loAt xs (k - 1)).Out ≤ s.Out)) = o := ⟨_, rfl⟩
      obtain ⟨z, hz⟩ : ∃ z, firstOf (fun b : VLoan => b.Sheet == s.Sheet && openOn s.Out b) (xs.take k) = z := ⟨_, rfl⟩
      have Q := Lib.hid hq
      have O := Lib.hid ho
      have Z := Lib.hid hz
      have hi0 : (0 : Int) ≤ (k : Int) := by omega
      have hi1 : (k : Int) < (xs.length : Int) := by omega
      obtain ⟨b, p, rfl, hbw, hat⟩ := (S.out.below hbel).at (by omega)
      obtain ⟨c0, c1, c2, c3, c4⟩ := hat k s hs
      have X := Lib.hid (BoxLoan.new wr 43 s _ rfl)
      have BX := Lib.hid (Below.then' B.out (bel_al1 wr (.cells #[.int .i64 s.Sheet, .int .i64 s.Reader, .int .i64 s.Out, .int .i64 s.Due, .int .i64 s.Back] 43)))
      have SZ := Lib.hid (size_al wr (.cells #[.int .i64 s.Sheet, .int .i64 s.Reader, .int .i64 s.Out, .int .i64 s.Due, .int .i64 s.Back] 43))
      clear hbel hs hq ho hz hat
      go_upto_region 7 with (fail)
      refine wp_world (fun W => BoxLoan W wr.heap.size s ∧ Below w.heap.size w W) ⟨X.out, BX.out⟩ ?_
      clear c0 c1 c2 c3 c4
      rintro W ⟨hbx, hbw2⟩
      have XW := Lib.hid hbx
      have BW := Lib.hid hbw2
      clear hbx hbw2
      go_cut [45] (fun c wx => c = .bool (!(fitLo xs k)) ∧ Below w.heap.size w wx)
      case first => as_aux_lemma =>
        have cQ := below_at (W := W) (fun W' _ => Q.out ▸ isLoan_any s W')
        have cZ := below_at (W := W) (fun W' hW => Z.out ▸ indexOfOpen_any (some ⟨b, p, none⟩) k cap (xs.take k) s.Sheet s.Out W' (((S.out.below BW.out).take (by omega)).below hW))
        obtain ⟨e0, e1, e2, e3, e4⟩ := XW.out
        have k0 := cell_regrown e0
        have k1 := cell_regrown e1
        have k2 := cell_regrown e2
        have k3 := cell_regrown e3
        have k4 := cell_regrown e4
        clear e0 e1 e2 e3 e4
        obtain ⟨_, _, eq, _, hat⟩ := (S.out.below BW.out).at (by omega)
        cases eq
        cases q
        · have E := Lib.hid (fits_no1 K.out Q.out)
          clear hat
          refine wp_region_quiet_below (by kernel_rfl) (by kernel_rfl) ?_
          repeat (first | go_big_quiet_step (first | (with_reducible exact cQ _ _) | (with_reducible exact cZ _ _)) | quiet_step (first | (with_reducible exact cQ _ _) | (with_reducible exact cZ _ _)))
          refine wpQuiet_nil ?_
          intro W2 hw2
          have B2 := Lib.hid (Below.then' BW.out (below_of_re hw2))
          clear hw2 k0 k1 k2 k3 k4
          go_wp2
          go_meet
          exact ⟨by rw [E.out]; rfl, B2.out⟩
        · by_cases hk0 : k = 0
          · subst hk0
            obtain ⟨r, hr⟩ : ∃ r, decide (0 ≤ z) = r := ⟨_, rfl⟩
            have E := Lib.hid (fits_way2 A.out K.out Q.out O.out (by rw [← O.out]; rfl) Z.out hr)
            clear hat
            refine wp_region_quiet_below (by kernel_rfl) (by kernel_rfl) ?_
            repeat (first | go_big_quiet_step (first | (with_reducible exact cQ _ _) | (with_reducible exact cZ _ _)) | quiet_step (first | (with_reducible exact cQ _ _) | (with_reducible exact cZ _ _)))
            refine wpQuiet_nil ?_
            intro W2 hw2
            have B2 := Lib.hid (Below.then' BW.out (below_of_re hw2))
            clear hw2 k0 k1 k2 k3 k4
            go_wp2
            go_meet
            exact ⟨by rw [E.out, Bool.not_not], B2.out⟩
          · obtain ⟨j, rfl⟩ : ∃ j, k = j + 1 := ⟨k - 1, by omega⟩
            obtain ⟨t, ht⟩ : ∃ t, xs[j]? = some t := ⟨xs[j]'(by omega), List.getElem?_eq_getElem _⟩
            have PO := Lib.hid (show decide (t.Out ≤ s.Out) = o from by rw [← O.out, Nat.add_sub_cancel, loAt_some ht]; simp)
            have hp0 : (0 : Int) ≤ (j : Int) := by omega
            have hp1 : (j : Int) < (xs.length : Int) := by omega
            obtain ⟨_, _, p2, _⟩ := hat j t ht
            have q2 := cell_regrown p2
            clear hat p2 ht hk0
            cases o
            · have dl : s.Out < t.Out := by have := of_decide_eq_false PO.out; omega
              have E := Lib.hid (fits_no2 K.out O.out rfl)
              refine wp_region_quiet_below (by kernel_rfl) (by kernel_rfl) ?_
              repeat (first | go_big_quiet_step (first | (with_reducible exact cQ _ _) | (with_reducible exact cZ _ _)) | quiet_step (first | (with_reducible exact cQ _ _) | (with_reducible exact cZ _ _)))
              refine wpQuiet_nil ?_
              intro W2 hw2
              have B2 := Lib.hid (Below.then' BW.out (below_of_re hw2))
              clear hw2 k0 k1 k2 k3 k4 q2
              go_wp2
              go_meet
              exact ⟨by rw [E.out]; rfl, B2.out⟩
            · have dl : ¬ s.Out < t.Out := by have := of_decide_eq_true PO.out; omega
              obtain ⟨r, hr⟩ : ∃ r, decide (0 ≤ z) = r := ⟨_, rfl⟩
              have E := Lib.hid (fits_way2 A.out K.out Q.out O.out rfl Z.out hr)
              refine wp_region_quiet_below (by kernel_rfl) (by kernel_rfl) ?_
              repeat (first | go_big_quiet_step (first | (with_reducible exact cQ _ _) | (with_reducible exact cZ _ _)) | quiet_step (first | (with_reducible exact cQ _ _) | (with_reducible exact cZ _ _)))
              refine wpQuiet_nil ?_
              intro W2 hw2
              have B2 := Lib.hid (Below.then' BW.out (below_of_re hw2))
              clear hw2 k0 k1 k2 k3 k4 q2
              go_wp2
              go_meet
              exact ⟨by rw [E.out, Bool.not_not], B2.out⟩
      case rest =>
      obtain ⟨rfl, hbel⟩ := hcut
      have BC := Lib.hid hbel
      clear hbel
      obtain ⟨r, hr⟩ : ∃ r, (!(fitLo xs k)) = r := ⟨_, rfl⟩
      have R := Lib.hid hr
      rw [hr]
      clear hr
      cases r
      · have F := Lib.hid (show fitLo xs k = true from by have := R.out; cases h : fitLo xs k with | true => rfl | false => rw [h] at this; cases this)
        go_wp2
        go_roundw
        case rel => exact ⟨k + 1, by omega, by go_num, BC.out, upTo_snoc A.out F.out⟩
        case measure => simp [intOf]; omega
      · have N := Lib.hid (areLo_no hlt (show fitLo xs k = false from by have := R.out; cases h : fitLo xs k with | false => rfl | true => rw [h] at this; cases this))
        go_wp2
        go_ret
        exact ⟨ret_bool N.out.symm, BC.out⟩
    · obtain rfl : k = xs.length := by omega
      have N := Lib.hid (areLo_all A.out h15)
      clear hbel
      go_wp2
      go_ret
      exact ⟨ret_bool N.out.symm, B.out⟩
end Go.Proofs.YtffbljbgmgifnaaGreatDoor
namespace Go.Proofs.YtffbljbgmgifnaaGreatDoor
open Go.RowKit

theorem minI_any (x y : Int) : min x y = if x ≤ y then x else y := by omega
set_option maxHeartbeats 1600000 in
theorem endBy_any (s : VLoan) (d : Int) (w : World) (hs : s.ok = true) :
    Calls Tryz.prog 51 #[.agg #[.int .i64 s.Sheet, .int .i64 s.Reader, .int .i64 s.Out, .int .i64 s.Due, .int .i64 s.Back], .int .i64 d] w fun e w' => e = .returned (.int .i64 (endL s d)) ∧ Below w.heap.size w w' := by
  have k := loOk_iff.1 hs
  by_cases h2 : s.Back = -1
  · have E := Lib.hid (show endL s d = d from by unfold endL; rw [if_pos (by omega)])
    have e1 : (s.Back == -1) = true := by simp [h2]
    clear k hs h2
    go_enter Tryz.func51, Tryz.ntmps51
    go_wp2
    go_ret
    exact ⟨ret_int E.out.symm, bel_al1 _ _⟩
  · have E := Lib.hid (show endL s d = min d s.Back from by unfold endL; rw [if_neg (by omega)])
    have e1 : (s.Back == -1) = false := by simp [h2]
    clear k hs h2
    go_enter Tryz.func51, Tryz.ntmps51
    go_wp2
    all_goals go_ret
    all_goals exact ⟨ret_int (by rw [E.out] <;> omega), bel_al1 _ _⟩
set_option maxHeartbeats 3200000 in
set_option maxRecDepth 100000 in
theorem fineBy_any (s : VLoan) (d : Int) (w : World) (hs : s.ok = true) (hd : dayB d = true) :
    Calls Tryz.prog 49 #[.agg #[.int .i64 s.Sheet, .int .i64 s.Reader, .int .i64 s.Out, .int .i64 s.Due, .int .i64 s.Back], .int .i64 d] w fun e w' => e = .returned (.int .i64 (fineL s d)) ∧ Below w.heap.size w w' := by
  have hk := loOk_iff.1 hs
  have hd' : 0 ≤ d ∧ d ≤ 4000 := inB_iff.1 hd
  have OK := Lib.hid hs
  have eb : 0 ≤ endL s d ∧ endL s d ≤ 4000 := by unfold endL; split <;> omega
  have F0 := Lib.hid (show fineL s d = min 1000 (10 * max 0 (endL s d - s.Due)) from rfl)
  obtain ⟨e, he⟩ : ∃ e, endL s d = e := ⟨_, rfl⟩
  have HE := Lib.hid he
  rw [he] at eb F0
  obtain ⟨m, hm⟩ : ∃ m, max 0 (e - s.Due) = m := ⟨_, rfl⟩
  have hmb : 0 ≤ m ∧ m ≤ 8000 := by omega
  have v1 : IntKind.i64.wrap (e - s.Due) = e - s.Due := IntWalk.i64_in _ (by omega)
  have v2 : IntKind.i64.wrap (10 * (e - s.Due)) = 10 * (e - s.Due) := IntWalk.i64_in _ (by omega)
  have B0 := Lib.hid (bel_al1 w (.cells #[.int .i64 s.Sheet, .int .i64 s.Reader, .int .i64 s.Out, .int .i64 s.Due, .int .i64 s.Back] 43))
  have X0 := Lib.hid (BoxLoan.new w 43 s _ rfl)
  have V5 := Lib.hid (show IntKind.i64.wrap (10 * max 0 (e - s.Due)) = 10 * max 0 (e - s.Due) from IntWalk.i64_in _ (by omega))
  clear hs hd he hd' hk hm hmb eb
  have v3 : IntKind.i64.wrap (10 * 0) = 0 := IntWalk.i64_in _ (by omega)
  have v5 : IntKind.i64.wrap (10 * max 0 (e - s.Due)) = 10 * max 0 (e - s.Due) := V5.out
  by_cases h1 : s.Due < e
  · have h2 : 0 < e - s.Due := by omega
    by_cases h3 : 10 * (e - s.Due) ≤ 1000
    · have h4 : ¬ 1000 < 10 * (e - s.Due) := by omega
      go_enter Tryz.func49, Tryz.ntmps49
      go_wp2
      refine wp_world (fun W => BoxLoan W w.heap.size s ∧ Below w.heap.size w W) ⟨X0.out, B0.out⟩ ?_
      rintro W ⟨⟨c0, c1, c2, c3, c4⟩, hbw⟩
      have BW := Lib.hid hbw
      have k0 := cell_regrown c0
      have k1 := cell_regrown c1
      have k2 := cell_regrown c2
      have k3 := cell_regrown c3
      have k4 := cell_regrown c4
      have q1 := below_at (W := W) (fun W' _ => HE.out ▸ endBy_any s d W' OK.out)
      clear hbw c0 c1 c2 c3 c4
      refine wp_region_quiet_below (by kernel_rfl) (by kernel_rfl) ?_
      repeat (any_goals (first | go_big_quiet_step (with_reducible exact q1 _ _) | quiet_step (with_reducible exact q1 _ _)))
      all_goals
        refine wpQuiet_nil ?_
        intro W2 hw2
        have B2 := Lib.hid (Below.then' BW.out (below_of_re hw2))
        clear hw2 k0 k1 k2 k3 k4 q1
        go_wp2
        all_goals go_ret
        all_goals exact ⟨ret_int (by rw [F0.out] <;> omega), B2.out⟩
    · have h4 : 1000 < 10 * (e - s.Due) := by omega
      go_enter Tryz.func49, Tryz.ntmps49
      go_wp2
      refine wp_world (fun W => BoxLoan W w.heap.size s ∧ Below w.heap.size w W) ⟨X0.out, B0.out⟩ ?_
      rintro W ⟨⟨c0, c1, c2, c3, c4⟩, hbw⟩
      have BW := Lib.hid hbw
      have k0 := cell_regrown c0
      have k1 := cell_regrown c1
      have k2 := cell_regrown c2
      have k3 := cell_regrown c3
      have k4 := cell_regrown c4
      have q1 := below_at (W := W) (fun W' _ => HE.out ▸ endBy_any s d W' OK.out)
      clear hbw c0 c1 c2 c3 c4
      refine wp_region_quiet_below (by kernel_rfl) (by kernel_rfl) ?_
      repeat (any_goals (first | go_big_quiet_step (with_reducible exact q1 _ _) | quiet_step (with_reducible exact q1 _ _)))
      all_goals
        refine wpQuiet_nil ?_
        intro W2 hw2
        have B2 := Lib.hid (Below.then' BW.out (below_of_re hw2))
        clear hw2 k0 k1 k2 k3 k4 q1
        go_wp2
        all_goals go_ret
        all_goals exact ⟨ret_int (by rw [F0.out] <;> omega), B2.out⟩
  · have h2 : ¬ 0 < e - s.Due := by omega
    go_enter Tryz.func49, Tryz.ntmps49
    go_wp2
    refine wp_world (fun W => BoxLoan W w.heap.size s ∧ Below w.heap.size w W) ⟨X0.out, B0.out⟩ ?_
    rintro W ⟨⟨c0, c1, c2, c3, c4⟩, hbw⟩
    have BW := Lib.hid hbw
    have k0 := cell_regrown c0
    have k1 := cell_regrown c1
    have k2 := cell_regrown c2
    have k3 := cell_regrown c3
    have k4 := cell_regrown c4
    have q1 := below_at (W := W) (fun W' _ => HE.out ▸ endBy_any s d W' OK.out)
    clear hbw c0 c1 c2 c3 c4
    refine wp_region_quiet_below (by kernel_rfl) (by kernel_rfl) ?_
    repeat (any_goals (first | go_big_quiet_step (with_reducible exact q1 _ _) | quiet_step (with_reducible exact q1 _ _)))
    all_goals
      refine wpQuiet_nil ?_
      intro W2 hw2
      have B2 := Lib.hid (Below.then' BW.out (below_of_re hw2))
      clear hw2 k0 k1 k2 k3 k4 q1
      go_wp2
      all_goals go_ret
      all_goals exact ⟨ret_int (by rw [F0.out] <;> omega), B2.out⟩
set_option maxHeartbeats 1600000 in
theorem isLate_any (s : VLoan) (d : Int) (w : World) :
    Calls Tryz.prog 31 #[.agg #[.int .i64 s.Sheet, .int .i64 s.Reader, .int .i64 s.Out, .int .i64 s.Due, .int .i64 s.Back], .int .i64 d] w fun e w' => e = .returned (.bool (lateOn d s)) ∧ Below w.heap.size w w' := by
  obtain ⟨q, hq⟩ : ∃ q, openOn d s = q := ⟨_, rfl⟩
  have Q := Lib.hid hq
  have E := Lib.hid (show lateOn d s = (q && decide (s.Due < d)) from by rw [← hq]; rfl)
  have B0 := Lib.hid (bel_al1 w (.cells #[.int .i64 s.Sheet, .int .i64 s.Reader, .int .i64 s.Out, .int .i64 s.Due, .int .i64 s.Back] 43))
  have X0 := Lib.hid (BoxLoan.new w 43 s _ rfl)
  clear hq
  go_enter Tryz.func31, Tryz.ntmps31
  go_wp2_with fail
  refine (isOpen_any s d _).mono ?_
  rintro e w1 ⟨rfl, hb⟩
  rw [Q.out]
  have B1 := Lib.hid (Below.then' B0.out hb)
  obtain ⟨c0, c1, c2, c3, c4⟩ := X0.out.below hb
  clear hb
  cases q
  · go_wp2
    go_ret
    exact ⟨ret_bool (by rw [E.out]; rfl), B1.out⟩
  · go_wp2
    go_ret
    exact ⟨ret_bool (by rw [E.out]; rfl), B1.out⟩
set_option maxHeartbeats 1600000 in
set_option maxRecDepth 100000 in
theorem findLent1_any (s : VLoan) (sh : Int) (b1 : Nat) (w : World) (h1 : w.cell? ⟨b1, 0, none⟩ = some (.int .i64 sh)) :
    Calls Tryz.prog 75 #[.agg #[.int .i64 s.Sheet, .int .i64 s.Reader, .int .i64 s.Out, .int .i64 s.Due, .int .i64 s.Back], .pointer (some ⟨b1, 0, none⟩)] w fun e w' => e = .returned (.bool (s.Sheet == sh && s.Back == -1)) ∧ Below w.heap.size w w' := by
  have B0 := Lib.hid (bel_al1 w (.cells #[.int .i64 s.Sheet, .int .i64 s.Reader, .int .i64 s.Out, .int .i64 s.Due, .int .i64 s.Back] 43))
  have l1 := World.lt_of_cell h1
  have n1 : ¬ b1 = w.heap.size := by omega
  by_cases e : s.Sheet = sh
  · have s1 : (s.Sheet == sh) = true := by simp [e]
    have S1 := Lib.hid s1
    clear e
    go_enter Tryz.func75, Tryz.ntmps75
    go_wp2
    go_ret
    exact ⟨ret_bool (by rw [S1.out]; rfl), B0.out⟩
  · have s1 : (s.Sheet == sh) = false := by simp [e]
    have S1 := Lib.hid s1
    clear e
    go_enter Tryz.func75, Tryz.ntmps75
    go_wp2
    go_ret
    exact ⟨ret_bool (by rw [S1.out]; rfl), B0.out⟩
/-- Where the loan of a sheet that is not returned stands, in a valid list. -/
def findOf (xs : List VLoan) (sh : Int) : Int := if areLo xs = true then lentAt xs sh else 0
def foundB (xs : List VLoan) (sh : Int) : Bool := areLo xs && decide (0 ≤ lentAt xs sh)
set_option maxHeartbeats 1600000 in
set_option maxRecDepth 100000 in
theorem findLent_any (a : Option Addr) (len cap : Nat) (xs : List VLoan) (sh : Int) (w : World) (h : IsLoanS w a len cap xs) :
    Calls Tryz.prog 43 #[.slice a len cap, .int .i64 sh] w fun e w' => e = .returned (.tuple #[.int .i64 (findOf xs sh), .bool (foundB xs sh)]) ∧ Below w.heap.size w w' := by
  have b1 := wh_al1 w (.cells #[.int .i64 sh] 3)
  have S := Lib.hid (h.below b1)
  have C1 := Lib.hid (cell_box' w (.int .i64 sh) 3 _ rfl)
  have B0 := Lib.hid b1
  clear h b1
  obtain ⟨q, hq⟩ : ∃ q, areLo xs = q := ⟨_, rfl⟩
  have Q := Lib.hid hq
  clear hq
  go_enter Tryz.func43, Tryz.ntmps43
  go_wp2_with fail
  refine (areLoans_any _ _ _ xs _ S.out).mono ?_
  rintro e w1 ⟨rfl, hb⟩
  rw [Q.out]
  have B1 := Lib.hid (Below.then' B0.out hb)
  have S1 := Lib.hid (S.out.below hb)
  have C2 := Lib.hid (cell_stay' C1.out hb)
  clear hb
  cases q
  · have E0 := Lib.hid (show findOf xs sh = 0 from by unfold findOf; rw [Q.out]; rfl)
    have E1 := Lib.hid (show foundB xs sh = false from by unfold foundB; rw [Q.out]; rfl)
    go_wp2
    go_ret2
    exact ⟨by rw [E0.out, E1.out]; rfl, B1.out⟩
  obtain ⟨z, hz⟩ : ∃ z, lentAt xs sh = z := ⟨_, rfl⟩
  have Z := Lib.hid (show firstOf (fun l : VLoan => l.Sheet == sh && l.Back == -1) xs = z from by rw [lent_is Q.out]; exact hz)
  have E0 := Lib.hid (show findOf xs sh = z from by unfold findOf; rw [Q.out, if_pos rfl]; exact hz)
  have E1 := Lib.hid (show foundB xs sh = decide (0 ≤ z) from by unfold foundB; rw [Q.out, hz]; rfl)
  clear hz
  go_wp2_with fail
  refine (idxLoan_any 75 #[.pointer (some ⟨w.heap.size, 0, none⟩)] (fun l => l.Sheet == sh && l.Back == -1) a len cap xs _ S1.out (enters_fn' Tryz.func75 (by kernel_rfl) (by kernel_rfl)) (fun W s _ hW => by
    have h1 := findLent1_any s sh w.heap.size W (cell_stay' C2.out hW)
    simpa using h1)).mono ?_
  rintro e w2 ⟨rfl, hb⟩
  rw [Z.out]
  have B := Lib.hid (Below.then' B1.out hb)
  clear hb
  go_wp2
  go_ret2
  exact ⟨by rw [E0.out, E1.out]; rfl, B.out⟩
/-- What withLoan gives back. -/
def WithPost (xs : List VLoan) (i : Nat) (l : VLoan) (w : World) (e : Ending) (w' : World) : Prop :=
  ∃ v, e = .returned (.tuple #[v, .bool (areLo (xs.set i l))]) ∧ w'.ownsRow w.heap.size 43 5 v (if areLo (xs.set i l) = true then xs.set i l else []).length (cellsLoan (if areLo (xs.set i l) = true then xs.set i l else [])) ∧ Below w.heap.size w w'
set_option maxHeartbeats 6400000 in
set_option maxRecDepth 100000 in
theorem withLoan_any (a : Option Addr) (len cap : Nat) (xs : List VLoan) (i : Nat) (l : VLoan) (w : World) (h : IsLoanS w a len cap xs) (hil : i < xs.length) (hx : xs.length ≤ 1048576) :
    Calls Tryz.prog 45 #[.slice a len cap, .int .i64 (i : Int), .agg #[.int .i64 l.Sheet, .int .i64 l.Reader, .int .i64 l.Out, .int .i64 l.Due, .int .i64 l.Back]] w (WithPost xs i l w) := by
  have B0 := Lib.hid (bel_al1 w (.cells #[.int .i64 l.Sheet, .int .i64 l.Reader, .int .i64 l.Out, .int .i64 l.Due, .int .i64 l.Back] 43))
  have X0 := Lib.hid (BoxLoan.new w 43 l _ rfl)
  have S := Lib.hid (h.below B0.out)
  have hi0 : (0 : Int) ≤ (i : Int) := by omega
  have hi1 : (i : Int) < (xs.length : Int) := by omega
  clear h
  go_enter Tryz.func45, Tryz.ntmps45
  go_wp2_with fail
  refine (cloneLoan_any _ _ _ xs _ S.out hx).mono ?_
  rintro e w1 ⟨v1, rfl, hown, hb⟩
  have B1 := Lib.hid (Below.then' B0.out hb)
  obtain ⟨c0, c1, c2, c3, c4⟩ := X0.out.below hb
  have hown1 := ownsRow_base hown (show w.heap.size ≤ _ from (bel_al1 w (.cells #[.int .i64 l.Sheet, .int .i64 l.Reader, .int .i64 l.Out, .int .i64 l.Due, .int .i64 l.Back] 43)).size)
  have hsz := hb.size
  clear hown hb
  obtain ⟨g, cap1, rfl, hg, hn, hcap⟩ := own_some hown1 (by omega)
  obtain ⟨a5, c5, e5, his, _⟩ := isLoanS_own hown1
  cases e5
  have hgl := (hown1.lt g rfl).2
  have SG := his
  have f0 := hown1.frozenAt (i * 5)
  have f1 := hown1.frozenAt (i * 5 + 1)
  have f2 := hown1.frozenAt (i * 5 + 2)
  have f3 := hown1.frozenAt (i * 5 + 3)
  have f4 := hown1.frozenAt (i * 5 + 4)
  obtain ⟨u0, k0⟩ := own_cell hown1 (i * 5) (by rw [cellsLoan_len]; omega)
  obtain ⟨u1, k1⟩ := own_cell hown1 (i * 5 + 1) (by rw [cellsLoan_len]; omega)
  obtain ⟨u2, k2⟩ := own_cell hown1 (i * 5 + 2) (by rw [cellsLoan_len]; omega)
  obtain ⟨u3, k3⟩ := own_cell hown1 (i * 5 + 3) (by rw [cellsLoan_len]; omega)
  obtain ⟨u4, k4⟩ := own_cell hown1 (i * 5 + 4) (by rw [cellsLoan_len]; omega)
  have h5 := own_setLoan hown1 hil l
  have B5 := Lib.hid (B1.out.grown h5.2 B1.out.size (fun k e => by cases e; have := (hown1.lt g rfl).1; omega))
  have hown5 := h5.1
  rw [show xs.length = (xs.set i l).length from List.length_set.symm] at hown5
  have O5 := Lib.hid hown5
  obtain ⟨a6, c6, e6, his6, _⟩ := isLoanS_own hown5
  cases e6
  rw [List.length_set] at his6
  have S6 := Lib.hid his6
  clear h5 his SG hown1 hown5 his6
  go_wp2_with fail
  refine (areLoans_any _ _ _ (xs.set i l) _ S6.out).mono ?_
  rintro e w7 ⟨rfl, hb⟩
  have B7 := Lib.hid (Below.then' B5.out hb)
  have O7 := Lib.hid (ownsRow_below O5.out hb)
  obtain ⟨R, hR⟩ : ∃ R, xs.set i l = R := ⟨_, rfl⟩
  have RL := Lib.hid (show R.length = xs.length from by rw [← hR, List.length_set])
  have GOAL := Lib.hid (show WithPost xs i l w = fun e w' => ∃ v, e = .returned (.tuple #[v, .bool (areLo R)]) ∧ w'.ownsRow w.heap.size 43 5 v (if areLo R = true then R else []).length (cellsLoan (if areLo R = true then R else [])) ∧ Below w.heap.size w w' from by unfold WithPost; rw [hR])
  rw [hR] at O7 ⊢
  obtain ⟨q, hq⟩ : ∃ q, areLo R = q := ⟨_, rfl⟩
  rw [hq] at GOAL ⊢
  clear hb hR hq f0 f1 f2 f3 f4 k0 k1 k2 k3 k4 c0 c1 c2 c3 c4
  cases q
  · go_wp2
    go_ret2
    rw [GOAL.out]
    exact ⟨_, rfl, nil_ownLoan _ _, B7.out⟩
  · go_wp2
    go_ret2
    rw [GOAL.out]
    refine ⟨_, rfl, ?_, B7.out⟩
    have := O7.out
    rw [RL.out] at this
    simp only [if_true, RL.out]
    exact this
end Go.Proofs.YtffbljbgmgifnaaGreatDoor
namespace Go.Proofs.YtffbljbgmgifnaaGreatDoor
open Go.RowKit

theorem found_ways (xs : List VLoan) (sh : Int) : foundB xs sh = false ∨ (foundB xs sh = true ∧ areLo xs = true ∧ ∃ (i : Nat) (s : VLoan), findOf xs sh = (i : Int) ∧ lentAt xs sh = (i : Int) ∧ xs[i]? = some s ∧ s.Back < 0) := by
  unfold foundB findOf
  cases h : areLo xs with
  | false => exact .inl rfl
  | true =>
    rcases lent_cases xs sh with hn | ⟨i, s, hn, hs, _, hb⟩
    · exact .inl (by rw [hn]; rfl)
    · exact .inr ⟨by rw [hn, decide_eq_true (by omega : (0 : Int) ≤ (i : Int))]; rfl, rfl, i, s, by rw [if_pos rfl]; exact hn, hn, hs, hb⟩
theorem found_ret {xs : List VLoan} {sh d : Int} (h : foundB xs sh = false) : ReturnSheet_2 xs sh d = false ∧ ReturnSheet_0 xs sh d = [] ∧ ReturnSheet_1 xs sh d = 0 := by
  have e : ReturnSheet_2 xs sh d = false := by unfold ReturnSheet_2; rw [← Bool.and_assoc]; unfold foundB at h; rw [h]; rfl
  unfold ReturnSheet_0 ReturnSheet_1; rw [e]; exact ⟨rfl, rfl, rfl⟩
theorem found_ret2 {xs : List VLoan} {sh d : Int} {i : Nat} {s : VLoan} {q2 q3 : Bool} (ha : areLo xs = true) (h : lentAt xs sh = (i : Int)) (hs : xs[i]? = some s) (h2 : dayB d = q2) (h3 : areLo (xs.set i (cameL s d)) = q3) : ReturnSheet_2 xs sh d = (q2 && q3) ∧ ReturnSheet_0 xs sh d = (if (q2 && q3) = true then xs.set i (cameL s d) else []) ∧ ReturnSheet_1 xs sh d = if (q2 && q3) = true then fineL (cameL s d) d else 0 := by
  have e : ReturnSheet_2 xs sh d = (q2 && q3) := by
    unfold ReturnSheet_2 retL; rw [h, Int.toNat_natCast, loAt_some hs, ha, h2, h3, decide_eq_true (by omega : (0 : Int) ≤ (i : Int))]; rfl
  refine ⟨e, ?_, ?_⟩
  · unfold ReturnSheet_0 retL; rw [e, h, Int.toNat_natCast, loAt_some hs]
  · unfold ReturnSheet_1; rw [e, h, Int.toNat_natCast, loAt_some hs]
theorem found_pro {xs : List VLoan} {sh d n : Int} (h : foundB xs sh = false) : ProlongLoan_1 xs sh d n = false ∧ ProlongLoan_0 xs sh d n = [] := by
  have e : ProlongLoan_1 xs sh d n = false := by unfold ProlongLoan_1; rw [← Bool.and_assoc]; unfold foundB at h; rw [h]; rfl
  unfold ProlongLoan_0; rw [e]; exact ⟨rfl, rfl⟩
theorem found_pro2 {xs : List VLoan} {sh d n : Int} {i : Nat} {s : VLoan} {q2 q3 q4 : Bool} (ha : areLo xs = true) (h : lentAt xs sh = (i : Int)) (hs : xs[i]? = some s) (h2 : daysB n = q2) (h4 : mayPro s d = q4) (h3 : areLo (xs.set i (longL s n)) = q3) : ProlongLoan_1 xs sh d n = (q2 && (q4 && q3)) ∧ ProlongLoan_0 xs sh d n = (if (q2 && (q4 && q3)) = true then xs.set i (longL s n) else []) := by
  have e : ProlongLoan_1 xs sh d n = (q2 && (q4 && q3)) := by
    unfold ProlongLoan_1 proL
    rw [h, Int.toNat_natCast, loAt_some hs, ha, h2, h3, h4, decide_eq_true (by omega : (0 : Int) ≤ (i : Int))]
    cases q4 with
    | false => simp
    | true =>
      have k := loOk_iff.1 (areLo_ok ha (List.mem_of_getElem? hs))
      have m : d ≤ s.Due ∧ s.Out ≤ d := by simpa [mayPro] using h4
      rw [show dayB d = true from by unfold dayB; rw [inB_iff]; omega]; simp
  refine ⟨e, ?_⟩
  unfold ProlongLoan_0 proL; rw [e, h, Int.toNat_natCast, loAt_some hs]
theorem late_pro {s : VLoan} {d : Int} (hs : s.ok = true) (hb : s.Back < 0) : mayPro s d = (!(lateOn d s) && decide (s.Out ≤ d)) := by
  have k := loOk_iff.1 hs
  have e : (s.Back == -1) = true := by simp; omega
  unfold mayPro lateOn openOn
  rw [e]
  rw [Bool.eq_iff_iff]
  simp
  omega
set_option maxHeartbeats 6400000 in
set_option maxRecDepth 100000 in
theorem implProlongLoan_any (a : Option Addr) (len cap : Nat) (xs : List VLoan) (sh d n : Int) (w : World) (h : IsLoanS w a len cap xs) (hx : xs.length ≤ 1048576) :
    Calls Tryz.prog 11 #[.slice a len cap, .int .i64 sh, .int .i64 d, .int .i64 n] w (ProlongLoan_Post xs sh d n w) := by
  obtain rfl := h.1
  have S := Lib.hid h
  clear h
  rcases found_ways xs sh with hf | ⟨hf, ha, i, s, hn, hn2, hs, hbk⟩
  · have F := Lib.hid hf
    have E := Lib.hid (found_pro (d := d) (n := n) hf)
    clear hf
    go_enter Tryz.func11, Tryz.ntmps11
    go_wp2_with fail
    refine (findLent_any _ _ _ xs sh _ S.out).mono ?_
    rintro e w1 ⟨rfl, hb⟩
    rw [F.out]
    have B1 := Lib.hid hb
    clear hb
    go_wp2
    go_ret2
    exact ⟨_, by rw [E.out.1]; rfl, by rw [E.out.2]; exact nil_ownLoan _ _, B1.out⟩
  have hil := (List.getElem?_eq_some_iff.1 hs).1
  obtain ⟨q2, h2⟩ : ∃ q, inB n 1 60 = q := ⟨_, rfl⟩
  obtain ⟨q3, h3⟩ : ∃ q, areLo (xs.set i (longL s n)) = q := ⟨_, rfl⟩
  obtain ⟨ql, hl⟩ : ∃ q, lateOn d s = q := ⟨_, rfl⟩
  have OKS := Lib.hid (areLo_ok ha (List.mem_of_getElem? hs))
  have E := Lib.hid (found_pro2 (d := d) (q2 := q2) ha hn2 hs h2 (late_pro OKS.out hbk) h3)
  rw [hl] at E
  have F := Lib.hid hf
  have FN := Lib.hid hn
  have AL := Lib.hid ha
  have HS := Lib.hid hs
  have H2 := Lib.hid h2
  have H3 := Lib.hid h3
  have HL := Lib.hid hl
  have hi0 : (0 : Int) ≤ (i : Int) := by omega
  have hi1 : (i : Int) < (xs.length : Int) := by omega
  clear hf ha hn hn2 hs hbk h2 h3 hl
  go_enter Tryz.func11, Tryz.ntmps11
  go_wp2_with fail
  refine (findLent_any _ _ _ xs sh _ S.out).mono ?_
  rintro e w1 ⟨rfl, hb⟩
  rw [F.out, FN.out]
  have B1 := Lib.hid hb
  have S1 := Lib.hid (S.out.below hb)
  clear hb
  go_wp2_with fail
  refine (areIn1 _ _ _ _ _ _ (by simp)).mono ?_
  rintro e w' ⟨rfl, rfl⟩
  rw [H2.out]
  have B2 := Lib.hid (Below.then' B1.out (bel_al1 w1 (.cells #[.int .i64 n] 3)))
  have S2 := Lib.hid (S1.out.below (bel_al1 w1 (.cells #[.int .i64 n] 3)))
  cases q2
  · go_wp2
    go_ret2
    exact ⟨_, by rw [E.out.1]; rfl, by rw [E.out.2]; exact nil_ownLoan _ _, B2.out⟩
  have hn1 : 1 ≤ n ∧ n ≤ 60 := inB_iff.1 H2.out
  have hok := loOk_iff.1 OKS.out
  have wr : IntKind.i64.wrap (s.Due + n) = s.Due + n := IntWalk.i64_in _ (by omega)
  clear hn1 hok
  obtain ⟨W, hW⟩ : ∃ W, w1.alloc (.cells #[.int .i64 n] 3) = W := ⟨_, rfl⟩
  rw [hW] at B2 S2
  simp only [hW]
  clear hW
  obtain ⟨b, o, rfl, hbw, hat⟩ := S2.out.at (by omega)
  obtain ⟨c0, c1, c2, c3, c4⟩ := hat i s HS.out
  have B3 := Lib.hid (Below.then' B2.out (bel_al1 W (.cells #[.int .i64 s.Sheet, .int .i64 s.Reader, .int .i64 s.Out, .int .i64 s.Due, .int .i64 s.Back] 43)))
  have X3 := Lib.hid (HBLoan.new W s _ rfl)
  have S3 := Lib.hid (S2.out.below (bel_al1 W (.cells #[.int .i64 s.Sheet, .int .i64 s.Reader, .int .i64 s.Out, .int .i64 s.Due, .int .i64 s.Back] 43)))
  clear hat
  go_wp2_with fail
  refine (isLate_any s d _).mono ?_
  rintro e w4 ⟨rfl, hb⟩
  rw [HL.out]
  have B4 := Lib.hid (Below.then' B3.out hb)
  have X4 := Lib.hid (X3.out.below hb)
  have BW4 := Lib.hid (Below.then' (bel_al1 W (.cells #[.int .i64 s.Sheet, .int .i64 s.Reader, .int .i64 s.Out, .int .i64 s.Due, .int .i64 s.Back] 43)) hb)
  clear hb c0 c1 c2 c3 c4
  cases ql
  case true =>
    go_wp2
    go_ret2
    exact ⟨_, by rw [E.out.1]; rfl, by rw [E.out.2]; exact nil_ownLoan _ _, B4.out⟩
  obtain ⟨c0, c1, c2, c3, c4⟩ := X4.out.cells
  have f3 := X4.out.free 3
  by_cases ho : s.Out ≤ d
  case neg =>
    have ho2 : d < s.Out := by omega
    have D := Lib.hid (decide_eq_false ho)
    go_wp2
    go_ret2
    exact ⟨_, by rw [E.out.1, D.out]; rfl, by rw [E.out.2, D.out]; exact nil_ownLoan _ _, B4.out⟩
  have ho2 : ¬ d < s.Out := by omega
  have D := Lib.hid (decide_eq_true ho)
  have X5 := Lib.hid (X4.out.set3 (s.Due + n))
  have B5 := Lib.hid (B4.out.setCell (p := ⟨W.heap.size, 3, none⟩) (by have := B2.out.size; simp; omega) (.int .i64 (s.Due + n)))
  have S5 := Lib.hid (S2.out.below (BW4.out.setCell (p := ⟨W.heap.size, 3, none⟩) (by simp) (.int .i64 (s.Due + n))))
  have hb5 := B5.out.size
  go_wp2_with fail
  refine (withLoan_any _ _ _ xs i (longL s n) _ S5.out hil hx).mono ?_
  rintro e w6 ⟨v6, rfl, hown, hb⟩
  have B6 := Lib.hid (Below.then' B5.out hb)
  have O6 := Lib.hid (ownsRow_base hown hb5)
  rw [H3.out] at O6 ⊢
  clear hown hb c0 c1 c2 c3 c4 f3
  rw [D.out] at E
  cases q3
  · go_wp2
    go_ret2
    exact ⟨_, by rw [E.out.1]; rfl, by rw [E.out.2]; exact O6.out, B6.out⟩
  · go_wp2
    go_ret2
    exact ⟨_, by rw [E.out.1]; rfl, by rw [E.out.2]; exact O6.out, B6.out⟩
end Go.Proofs.YtffbljbgmgifnaaGreatDoor
namespace Go.Proofs.YtffbljbgmgifnaaGreatDoor
open Go.RowKit

set_option maxHeartbeats 6400000 in
set_option maxRecDepth 100000 in
theorem idsWhereLoan_any (K1 K : FuncId) (idf : VLoan → Int) (caps : Array Value) (f : VLoan → Bool) (a : Option Addr) (len cap : Nat) (xs : List VLoan) (w : World) (h : IsLoanS w a len cap xs) (hl : xs.length ≤ 100000)
    (hcall1 : ∀ args W, (callFunc K1 args).run Tryz.prog W = .ok (.enter K1 args) W) (hcall : ∀ args W, (callFunc K args).run Tryz.prog W = .ok (.enter K args) W)
    (hi1 : ∀ (W : World) (s : VLoan), Calls Tryz.prog K1 #[.agg #[.int .i64 s.Sheet, .int .i64 s.Reader, .int .i64 s.Out, .int .i64 s.Due, .int .i64 s.Back]] W fun e w' => e = .returned (.int .i64 (idf s)) ∧ Below W.heap.size W w')
    (hf : ∀ (W : World) (s : VLoan), s ∈ xs → Below w.heap.size w W → Calls Tryz.prog K (#[.agg #[.int .i64 s.Sheet, .int .i64 s.Reader, .int .i64 s.Out, .int .i64 s.Due, .int .i64 s.Back]] ++ caps) W fun e w' => e = .returned (.bool (f s)) ∧ Below W.heap.size W w') :
    Calls Tryz.prog 68 #[.slice a len cap, .func (.func K1) #[] #[], .func (.func K) #[] caps] w (IdsOwn ((xs.filter f).map idf) w) := by
  obtain rfl := h.1
  obtain ⟨i0, hi, hz0, hz1, hz2⟩ := info_parts infoInt
  have hm := h.2.2.1
  have hcl := h.2.1
  unfold maxLen at hm
  have S := Lib.hid h
  have F := Lib.hid hf
  have F1 := Lib.hid hi1
  clear h hf hi1
  go_enter Tryz.func68, Tryz.ntmps68
  go_wp2
  go_loopw [12, 7] (fun i o wr => ∃ k : Nat, k ≤ xs.length ∧ i = .int .i64 k ∧ wr.ownsRow w.heap.size 3 1 o (((xs.take k).filter f).map idf).length (intCells (((xs.take k).filter f).map idf)) ∧ Below w.heap.size w wr) (fun i _ _ => xs.length - (intOf i).toNat)
  case atStart => exact ⟨0, Nat.zero_le _, rfl, ⟨by simp [intCells], .inl ⟨rfl, rfl⟩⟩, Below.refl _ _⟩
  case round =>
    obtain ⟨k, hk, rfl, hown, hbel⟩ := hrel
    have B := Lib.hid hbel
    by_cases hlt : k < xs.length
    · obtain ⟨s, hs⟩ : ∃ s, xs[k]? = some s := ⟨xs[k]'hlt, List.getElem?_eq_getElem _⟩
      obtain ⟨b, o, rfl, hbw, hat⟩ := (S.out.below hbel).at (by omega)
      obtain ⟨c0, c1, c2, c3, c4⟩ := hat k s hs
      have FS := Lib.hid (where_more f idf hs)
      have hgl := where_len f idf xs k
      obtain ⟨G, hG⟩ : ∃ G, ((xs.take k).filter f).map idf = G := ⟨_, rfl⟩
      rw [hG] at hown FS hgl
      have O := Lib.hid hown
      obtain ⟨r, hr⟩ : ∃ r, f s = r := ⟨_, rfl⟩
      have RR := Lib.hid hr
      obtain ⟨y, hy⟩ : ∃ y, idf s = y := ⟨_, rfl⟩
      have YY := Lib.hid hy
      have bw := wh_al1 wr (.cells #[.int .i64 s.Sheet, .int .i64 s.Reader, .int .i64 s.Out, .int .i64 s.Due, .int .i64 s.Back] 43)
      have BX := Lib.hid (BoxLoan.new wr 43 s _ rfl)
      have BW := Lib.hid bw
      have K1' := Lib.hid hs
      have hi0 : (0 : Int) ≤ (k : Int) := by omega
      have hi1 : (k : Int) < (xs.length : Int) := by omega
      have hsz := B.out.size
      clear hs hat hbel hG hr hy hown bw
      go_wp2_with fail
      refine (F.out _ s (List.mem_of_getElem? K1'.out) (Below.then' B.out BW.out)).mono ?_
      rintro e w2 ⟨rfl, hb⟩
      rw [RR.out]
      have hb' := Below.then' BW.out hb
      have B2 := Lib.hid (Below.then' B.out hb')
      have O2 := Lib.hid (ownsRow_below O.out hb')
      have BX2 := Lib.hid (BX.out.below hb)
      have hs2 := hb'.size
      clear hb hb' c0 c1 c2 c3 c4
      cases r
      · go_wp2
        go_roundw
        case rel => exact ⟨k + 1, by omega, by go_num, by rw [FS.out, RR.out]; simpa using O2.out, B2.out⟩
        case measure => simp [intOf]; omega
      · obtain ⟨e0, e1, e2, e3, e4⟩ := BX2.out
        go_wp2_with fail
        refine (F1.out _ s).mono ?_
        rintro e w3 ⟨rfl, hb⟩
        rw [YY.out]
        have B3 := Lib.hid (Below.then' B2.out hb)
        have hown3 := (ownsRow_below O2.out hb).alloc (.cells #[.int .i64 y] 3)
        have hs3 := hb.size
        clear hb e0 e1 e2 e3 e4
        go_wp2_with (at_builtin; refine wpList_append_own _ rfl _ _ 27 rfl w.heap.size 3 i0 (.int .i64 0) 1 8 Tryz.underlying27 hi hz0 hz1 hz2 rfl (by decide) _ _ _ rfl hown3 ⟨w3.heap.size, 0, none⟩ 1 1 [.int .i64 y] rfl rfl (cell_one _ _ _) (fun x hx => by simp at hx; subst hx; rfl) (by unfold maxLen; omega) (by omega) (by simp; omega) ?_; intro v' w4 hown' hgrow4 hnil4)
        go_roundw
        case rel =>
          refine ⟨k + 1, by omega, by go_num, ?_, (Below.then' B3.out (wh_al1 _ _)).grown hgrow4 (by simp; omega) (fun j e => (hown3.lt j e).1)⟩
          rw [FS.out, RR.out, if_pos rfl, YY.out, intCells_snoc]
          rw [List.length_append]
          exact hown'
        case measure => simp [intOf]; omega
    · obtain rfl : k = xs.length := by omega
      rw [List.take_of_length_le (Nat.le_refl _)] at hown
      have O := Lib.hid hown
      clear hbel hown
      go_wp2
      go_ret
      exact ⟨_, rfl, O.out, B.out⟩
end Go.Proofs.YtffbljbgmgifnaaGreatDoor
