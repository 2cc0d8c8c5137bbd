/- A loan's text, in the model and in the program: the same bytes. -/
import Derived.Test.YtffbljbgmgifnaaDoorItoa
import Derived.Test.YtffbljbgmgifnaaDoorLoi
import Derived.Test.YtffbljbgmgifnaaDoorLos
namespace Go.Proofs.YtffbljbgmgifnaaDoor
open Go.RowKit

/-- A loan's text but for the day on which it came back. -/
def loBase (s : VLoan) : ByteArray := textOf s.Sheet ++ ⟨#[32, 116, 111, 32]⟩ ++ textOf s.Reader ++ ⟨#[32]⟩ ++ textOf s.Out ++ ⟨#[46, 46]⟩ ++ textOf s.Due
def loText (s : VLoan) : ByteArray := if s.Back = -1 then loBase s else loBase s ++ ⟨#[32, 98, 97, 99, 107, 32]⟩ ++ textOf s.Back
def LoanText_0 (s : VLoan) : ByteArray := if s.ok = true then loText s else ⟨#[]⟩
def LoanText_1 (s : VLoan) : Bool := s.ok
theorem loBase_size {s : VLoan} (h : s.ok = true) : (loBase s).size ≤ 5000000000100 := by
  obtain ⟨a, b, c, d, _⟩ := loOk_iff.1 h
  have z0 := text_bd (n := s.Sheet) (by omega) (by omega)
  have z1 := text_bd (n := s.Reader) (by omega) (by omega)
  have z2 := text_bd (n := s.Out) (by omega) (by omega)
  have z3 := text_bd (n := s.Due) (by omega) (by omega)
  unfold loBase
  simp only [ByteArray.size_append]
  have e1 : (⟨#[32]⟩ : ByteArray).size = 1 := rfl
  have e2 : (⟨#[32, 116, 111, 32]⟩ : ByteArray).size = 4 := rfl
  have e3 : (⟨#[46, 46]⟩ : ByteArray).size = 2 := rfl
  omega
theorem str_assoc' (a b c : ByteArray) : a ++ (b ++ c) = a ++ b ++ c := (ByteArray.append_assoc ..).symm
def LoanText_Post (z0 : VLoan) (w : World) (e : Ending) (w' : World) : Prop :=
  e = .returned (.tuple #[.string (LoanText_0 z0), .bool (LoanText_1 z0)]) ∧ Below w.heap.size w w'
theorem lo_text_yes {s : VLoan} {w : World} {e : Ending} {w' : World} (h : s.ok = true) (hp : e = .returned (.tuple #[.string (loText s), .bool true]) ∧ Below w.heap.size w w') : LoanText_Post s w e w' := by
  unfold LoanText_Post LoanText_0 LoanText_1
  rw [if_pos h, h]; exact hp
theorem lo_text_no {s : VLoan} {w : World} {e : Ending} {w' : World} (h : s.ok = false) (hp : e = .returned (.tuple #[.string ⟨#[]⟩, .bool false]) ∧ Below w.heap.size w w') : LoanText_Post s w e w' := by
  unfold LoanText_Post LoanText_0 LoanText_1
  rw [if_neg (by rw [h]; decide), h]; exact hp
theorem ret_str_v' {s t : ByteArray} {b : Bool} (h : s = t) : Ending.returned (.tuple #[.string s, .bool b]) = Ending.returned (.tuple #[.string t, .bool b]) := by rw [h]
set_option maxHeartbeats 3200000 in
set_option maxRecDepth 100000 in
theorem specLoanText_yes (s : VLoan) (w : World) (hok : s.ok = true) :
    Calls Tryd.prog 4 #[.agg #[.int .i64 s.Sheet, .int .i64 s.Reader, .int .i64 s.Out, .int .i64 s.Due, .int .i64 s.Back]] w fun e w' => e = .returned (.tuple #[.string (loText s), .bool true]) ∧ Below w.heap.size w w' := by
  have zb := loBase_size hok
  obtain ⟨⟨a0, a1⟩, ⟨b0, b1⟩, ⟨c0, c1⟩, ⟨d0, d1⟩, bk⟩ := loOk_iff.1 hok
  have z0 := text_bd (n := s.Sheet) (by omega) (by omega)
  have z1 := text_bd (n := s.Reader) (by omega) (by omega)
  have z2 := text_bd (n := s.Out) (by omega) (by omega)
  have z3 := text_bd (n := s.Due) (by omega) (by omega)
  have k0 : ∀ W, Calls Tryd.prog 8 #[.int .i64 s.Sheet] W fun e w' => e = .returned (.string (textOf s.Sheet)) ∧ Below W.heap.size W w' := fun W => num_any _ (by omega) (by omega) W
  have k1 : ∀ W, Calls Tryd.prog 8 #[.int .i64 s.Reader] W fun e w' => e = .returned (.string (textOf s.Reader)) ∧ Below W.heap.size W w' := fun W => num_any _ (by omega) (by omega) W
  have k2 : ∀ W, Calls Tryd.prog 8 #[.int .i64 s.Out] W fun e w' => e = .returned (.string (textOf s.Out)) ∧ Below W.heap.size W w' := fun W => num_any _ (by omega) (by omega) W
  have k3 : ∀ W, Calls Tryd.prog 8 #[.int .i64 s.Due] W fun e w' => e = .returned (.string (textOf s.Due)) ∧ Below W.heap.size W w' := fun W => num_any _ (by omega) (by omega) W
  have K4 := Lib.hid (show ¬ s.Back = -1 → ∀ W, Calls Tryd.prog 8 #[.int .i64 s.Back] W fun e w' => e = .returned (.string (textOf s.Back)) ∧ Below W.heap.size W w' from fun hne => fun W => num_any _ (by omega) (by omega) W)
  have Z4 := Lib.hid (show ¬ s.Back = -1 → (textOf s.Back).size ≤ 1000000000002 from fun hne => text_bd (by omega) (by omega))
  have BK := Lib.hid (show ¬ s.Back = -1 → 0 ≤ s.Back from fun hne => by omega)
  have T : Hid (loBase s = textOf s.Sheet ++ ⟨#[32, 116, 111, 32]⟩ ++ textOf s.Reader ++ ⟨#[32]⟩ ++ textOf s.Out ++ ⟨#[46, 46]⟩ ++ textOf s.Due) := Lib.hid rfl
  have TO := Lib.hid (fun h : ¬ s.Back = -1 => (show loText s = loBase s ++ ⟨#[32, 98, 97, 99, 107, 32]⟩ ++ textOf s.Back from if_neg h))
  have TP := Lib.hid (fun h : s.Back = -1 => (show loText s = loBase s from if_pos h))
  have OK := Lib.hid hok
  generalize textOf s.Sheet = t0 at *
  generalize textOf s.Reader = t1 at *
  generalize textOf s.Out = t2 at *
  generalize textOf s.Due = t3 at *
  generalize textOf s.Back = t4 at *
  generalize loText s = tt at *
  clear hok a0 a1 b0 b1 c0 c1 d0 d1 bk
  go_enter Tryd.func4, Tryd.ntmps4
  go_wp2_with fail
  refine (l11One_any s _).mono ?_
  rintro e w1 ⟨rfl, hb1⟩
  have BX1 := Lib.hid ((BoxLoan.new w 26 s _ rfl).below hb1)
  have B1 := Lib.hid (Below.then' (bel_al1 _ _) hb1)
  clear hb1
  rw [OK.out]
  go_wp2
  refine wp_world (fun W => BoxLoan W w.heap.size s ∧ Below w.heap.size w W) ⟨BX1.out, B1.out⟩ ?_
  rintro W ⟨hbox, hbw⟩
  have BX := Lib.hid hbox
  obtain ⟨e0, e1, e2, e3, e4⟩ := hbox
  have BW := Lib.hid hbw
  have g0 := cell_regrown e0
  have g1 := cell_regrown e1
  have g2 := cell_regrown e2
  have g3 := cell_regrown e3
  have q0 := below_at (W := W) (fun W' _ => k0 W')
  have q1 := below_at (W := W) (fun W' _ => k1 W')
  have q2 := below_at (W := W) (fun W' _ => k2 W')
  have q3 := below_at (W := W) (fun W' _ => k3 W')
  clear e0 e1 e2 e3 e4 hbw k0 k1 k2 k3
  refine wp_region_quiet_below (by kernel_rfl) (by kernel_rfl) ?_
  repeat (first | go_big_quiet_step (first | (with_reducible exact q0 _ _) | (with_reducible exact q1 _ _) | (with_reducible exact q2 _ _) | (with_reducible exact q3 _ _)) | quiet_step (first | (with_reducible exact q0 _ _) | (with_reducible exact q1 _ _) | (with_reducible exact q2 _ _) | (with_reducible exact q3 _ _)))
  refine wpQuiet_nil ?_
  intro W2 hw2
  have hb2 := below_of_re hw2
  have B2 := Lib.hid (Below.then' BW.out hb2)
  obtain ⟨e0, e1, e2, e3, e4⟩ := BX.out.below hb2
  clear hw2 hb2 q0 q1 q2 q3 g0 g1 g2 g3
  rw [← T.out]
  generalize loBase s = tb at *
  by_cases hf : s.Back = -1
  · have E := Lib.hid (TP.out hf)
    have z : (s.Back == -1) = true := by simp [hf]
    have zz : (s.Back != -1) = false := by simp [hf]
    have z' : ¬ (0 : Int) ≤ s.Back := by omega
    clear hf
    go_wp2
    go_ret2
    exact ⟨ret_str_v' E.out.symm, B2.out⟩
  · have E := Lib.hid (TO.out hf)
    have z : (s.Back == -1) = false := by simp [hf]
    have zz : (s.Back != -1) = true := by simp [hf]
    have z' : (0 : Int) ≤ s.Back := BK.out hf
    have z4 := Z4.out hf
    have K5 := Lib.hid (K4.out hf)
    clear hf
    go_wp2_with fail
    refine (K5.out _).mono ?_
    rintro e w3 ⟨rfl, hb⟩
    have B3 := Lib.hid (Below.then' B2.out hb)
    clear hb
    go_wp2
    go_ret2
    exact ⟨ret_str_v' (by first | exact E.out.symm | rw [E.out, str_assoc']), B3.out⟩
theorem specLoanText_any (s : VLoan) (w : World) :
    Calls Tryd.prog 4 #[.agg #[.int .i64 s.Sheet, .int .i64 s.Reader, .int .i64 s.Out, .int .i64 s.Due, .int .i64 s.Back]] w (LoanText_Post s w) := by
  cases hok : s.ok with
  | true => exact Calls.mono (specLoanText_yes s w hok) (fun _ _ h => lo_text_yes hok h)
  | false =>
    refine Calls.mono ?_ (fun _ _ h => lo_text_no hok h)
    have OK := Lib.hid hok
    clear hok
    go_enter Tryd.func4, Tryd.ntmps4
    go_wp2_with fail
    refine (l11One_any s _).mono ?_
    rintro e w1 ⟨rfl, hb⟩
    have B1 := Lib.hid (Below.then' (bel_al1 _ _) hb)
    clear hb
    rw [OK.out]
    go_wp2
    go_ret2
    exact ⟨rfl, B1.out⟩
set_option maxHeartbeats 3200000 in
set_option maxRecDepth 100000 in
theorem implLoanText_yes (s : VLoan) (w : World) (hok : s.ok = true) (ht : TabPow w) :
    Calls Tryd.prog 6 #[.agg #[.int .i64 s.Sheet, .int .i64 s.Reader, .int .i64 s.Out, .int .i64 s.Due, .int .i64 s.Back]] w fun e w' => e = .returned (.tuple #[.string (loText s), .bool true]) ∧ Below w.heap.size w w' := by
  have zb := loBase_size hok
  obtain ⟨⟨a0, a1⟩, ⟨b0, b1⟩, ⟨c0, c1⟩, ⟨d0, d1⟩, bk⟩ := loOk_iff.1 hok
  have z0 := text_bd (n := s.Sheet) (by omega) (by omega)
  have z1 := text_bd (n := s.Reader) (by omega) (by omega)
  have z2 := text_bd (n := s.Out) (by omega) (by omega)
  have z3 := text_bd (n := s.Due) (by omega) (by omega)
  have k0 : ∀ W, TabPow W → Calls Tryd.prog 10 #[.int .i64 s.Sheet] W fun e w' => e = .returned (.string (textOf s.Sheet)) ∧ Below W.heap.size W w' := fun W hT => itoa_any _ (by omega) (by omega) W hT
  have k1 : ∀ W, TabPow W → Calls Tryd.prog 10 #[.int .i64 s.Reader] W fun e w' => e = .returned (.string (textOf s.Reader)) ∧ Below W.heap.size W w' := fun W hT => itoa_any _ (by omega) (by omega) W hT
  have k2 : ∀ W, TabPow W → Calls Tryd.prog 10 #[.int .i64 s.Out] W fun e w' => e = .returned (.string (textOf s.Out)) ∧ Below W.heap.size W w' := fun W hT => itoa_any _ (by omega) (by omega) W hT
  have k3 : ∀ W, TabPow W → Calls Tryd.prog 10 #[.int .i64 s.Due] W fun e w' => e = .returned (.string (textOf s.Due)) ∧ Below W.heap.size W w' := fun W hT => itoa_any _ (by omega) (by omega) W hT
  have K4 := Lib.hid (show ¬ s.Back = -1 → ∀ W, TabPow W → Calls Tryd.prog 10 #[.int .i64 s.Back] W fun e w' => e = .returned (.string (textOf s.Back)) ∧ Below W.heap.size W w' from fun hne => fun W hT => itoa_any _ (by omega) (by omega) W hT)
  have Z4 := Lib.hid (show ¬ s.Back = -1 → (textOf s.Back).size ≤ 1000000000002 from fun hne => text_bd (by omega) (by omega))
  have BK := Lib.hid (show ¬ s.Back = -1 → 0 ≤ s.Back from fun hne => by omega)
  have T : Hid (loBase s = textOf s.Sheet ++ ⟨#[32, 116, 111, 32]⟩ ++ textOf s.Reader ++ ⟨#[32]⟩ ++ textOf s.Out ++ ⟨#[46, 46]⟩ ++ textOf s.Due) := Lib.hid rfl
  have TO := Lib.hid (fun h : ¬ s.Back = -1 => (show loText s = loBase s ++ ⟨#[32, 98, 97, 99, 107, 32]⟩ ++ textOf s.Back from if_neg h))
  have TP := Lib.hid (fun h : s.Back = -1 => (show loText s = loBase s from if_pos h))
  have OK := Lib.hid hok
  have TT := Lib.hid ht
  generalize textOf s.Sheet = t0 at *
  generalize textOf s.Reader = t1 at *
  generalize textOf s.Out = t2 at *
  generalize textOf s.Due = t3 at *
  generalize textOf s.Back = t4 at *
  generalize loText s = tt at *
  clear hok a0 a1 b0 b1 c0 c1 d0 d1 bk ht
  go_enter Tryd.func6, Tryd.ntmps6
  go_wp2_with fail
  refine (isLoan_any s _).mono ?_
  rintro e w1 ⟨rfl, hb1⟩
  have BX1 := Lib.hid ((BoxLoan.new w 26 s _ rfl).below hb1)
  have B1 := Lib.hid (Below.then' (bel_al1 _ _) hb1)
  clear hb1
  rw [OK.out]
  go_wp2
  refine wp_world (fun W => BoxLoan W w.heap.size s ∧ Below w.heap.size w W) ⟨BX1.out, B1.out⟩ ?_
  rintro W ⟨hbox, hbw⟩
  have BX := Lib.hid hbox
  obtain ⟨e0, e1, e2, e3, e4⟩ := hbox
  have BW := Lib.hid hbw
  have T2 := Lib.hid (tabPow_below TT.out hbw)
  have g0 := cell_regrown e0
  have g1 := cell_regrown e1
  have g2 := cell_regrown e2
  have g3 := cell_regrown e3
  have q0 := below_at (W := W) (fun W' hb => k0 W' (tabPow_below T2.out hb))
  have q1 := below_at (W := W) (fun W' hb => k1 W' (tabPow_below T2.out hb))
  have q2 := below_at (W := W) (fun W' hb => k2 W' (tabPow_below T2.out hb))
  have q3 := below_at (W := W) (fun W' hb => k3 W' (tabPow_below T2.out hb))
  clear e0 e1 e2 e3 e4 hbw k0 k1 k2 k3
  refine wp_region_quiet_below (by kernel_rfl) (by kernel_rfl) ?_
  repeat (first | go_big_quiet_step (first | (with_reducible exact q0 _ _) | (with_reducible exact q1 _ _) | (with_reducible exact q2 _ _) | (with_reducible exact q3 _ _)) | quiet_step (first | (with_reducible exact q0 _ _) | (with_reducible exact q1 _ _) | (with_reducible exact q2 _ _) | (with_reducible exact q3 _ _)))
  refine wpQuiet_nil ?_
  intro W2 hw2
  have hb2 := below_of_re hw2
  have B2 := Lib.hid (Below.then' BW.out hb2)
  have T3 := Lib.hid (tabPow_below T2.out hb2)
  obtain ⟨e0, e1, e2, e3, e4⟩ := BX.out.below hb2
  clear hw2 hb2 q0 q1 q2 q3 g0 g1 g2 g3
  rw [← T.out]
  generalize loBase s = tb at *
  by_cases hf : s.Back = -1
  · have E := Lib.hid (TP.out hf)
    have z : (s.Back == -1) = true := by simp [hf]
    have zz : (s.Back != -1) = false := by simp [hf]
    have z' : ¬ (0 : Int) ≤ s.Back := by omega
    clear hf
    go_wp2
    go_ret2
    exact ⟨ret_str_v' E.out.symm, B2.out⟩
  · have E := Lib.hid (TO.out hf)
    have z : (s.Back == -1) = false := by simp [hf]
    have zz : (s.Back != -1) = true := by simp [hf]
    have z' : (0 : Int) ≤ s.Back := BK.out hf
    have z4 := Z4.out hf
    have K5 := Lib.hid (K4.out hf)
    clear hf
    go_wp2_with fail
    refine (K5.out _ T3.out).mono ?_
    rintro e w3 ⟨rfl, hb⟩
    have B3 := Lib.hid (Below.then' B2.out hb)
    clear hb
    go_wp2
    go_ret2
    exact ⟨ret_str_v' (by first | exact E.out.symm | rw [E.out, str_assoc']), B3.out⟩
theorem implLoanText_any (s : VLoan) (w : World) (ht : TabPow w) :
    Calls Tryd.prog 6 #[.agg #[.int .i64 s.Sheet, .int .i64 s.Reader, .int .i64 s.Out, .int .i64 s.Due, .int .i64 s.Back]] w (LoanText_Post s w) := by
  cases hok : s.ok with
  | true => exact Calls.mono (implLoanText_yes s w hok ht) (fun _ _ h => lo_text_yes hok h)
  | false =>
    refine Calls.mono ?_ (fun _ _ h => lo_text_no hok h)
    have OK := Lib.hid hok
    clear hok
    go_enter Tryd.func6, Tryd.ntmps6
    go_wp2_with fail
    refine (isLoan_any s _).mono ?_
    rintro e w1 ⟨rfl, hb⟩
    have B1 := Lib.hid (Below.then' (bel_al1 _ _) hb)
    clear hb
    rw [OK.out]
    go_wp2
    go_ret2
    exact ⟨rfl, B1.out⟩
end Go.Proofs.YtffbljbgmgifnaaDoor
