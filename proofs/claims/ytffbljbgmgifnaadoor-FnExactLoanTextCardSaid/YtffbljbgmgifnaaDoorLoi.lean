/- Loans in the program: one loan, open and late ones. -/
import Derived.Test.YtffbljbgmgifnaaDoorLo
import Derived.Test.YtffbljbgmgifnaaDoorRi
import Derived.Test.YtffbljbgmgifnaaDoorLoanL
import Derived.Test.YtffbljbgmgifnaaDoorLoanR
namespace Go.Proofs.YtffbljbgmgifnaaDoor
open Go.RowKit

theorem isLoanId_any (d : Int) (w : World) :
    Calls Tryd.prog 13 #[.int .i64 d] w fun e w' => e = .returned (.bool (idB d)) ∧ Below w.heap.size w w' := by
  go_enter Tryd.func13, Tryd.ntmps13
  go_wp2_with fail
  refine (areIn1 _ _ _ _ _ _ (by simp)).mono ?_
  rintro e w' ⟨rfl, rfl⟩
  go_wp2
  go_ret
  exact ⟨rfl, bel_al1 _ _⟩
set_option maxHeartbeats 3200000 in
theorem isLoan_any (s : VLoan) (w : World) :
    Calls Tryd.prog 9 #[.agg #[.int .i64 s.Sheet, .int .i64 s.Reader, .int .i64 s.Out, .int .i64 s.Due, .int .i64 s.Back]] w fun e w' => e = .returned (.bool s.ok) ∧ Below w.heap.size w w' := by
  obtain ⟨q1, h1⟩ : ∃ q, idB s.Sheet = q := ⟨_, rfl⟩
  obtain ⟨q2, h2⟩ : ∃ q, idB s.Reader = q := ⟨_, rfl⟩
  obtain ⟨q3, h3⟩ : ∃ q, dayB s.Out = q := ⟨_, rfl⟩
  obtain ⟨q4, h4⟩ : ∃ q, inB s.Due s.Out 4000 = q := ⟨_, rfl⟩
  obtain ⟨q5, h5⟩ : ∃ q, inB s.Back s.Out 4000 = q := ⟨_, rfl⟩
  have OK := Lib.hid (show s.ok = (q1 && (q2 && (q3 && (q4 && (s.Back == -1 || q5))))) from by rw [← h1, ← h2, ← h3, ← h4, ← h5]; rfl)
  have H1 := Lib.hid h1
  have H2 := Lib.hid h2
  have H3 := Lib.hid h3
  have H4 := Lib.hid h4
  have H5 := Lib.hid h5
  have X0 := Lib.hid (BoxLoan.new w 26 s _ rfl)
  have B0 := Lib.hid (bel_al1 w (.cells #[.int .i64 s.Sheet, .int .i64 s.Reader, .int .i64 s.Out, .int .i64 s.Due, .int .i64 s.Back] 26))
  clear h1 h2 h3 h4 h5
  go_enter Tryd.func9, Tryd.ntmps9
  go_wp2_with fail
  refine (isLoanId_any _ _).mono ?_
  rintro e w2 ⟨rfl, hb⟩
  rw [H1.out]
  have B2 := Lib.hid (Below.then' B0.out hb)
  obtain ⟨c0, c1, c2, c3, c4⟩ := X0.out.below hb
  have X2 := Lib.hid (X0.out.below hb)
  clear hb
  cases q1
  · go_wp2
    go_ret
    exact ⟨ret_bool (by rw [OK.out]; rfl), B2.out⟩
  go_wp2_with fail
  refine (isLoanId_any _ _).mono ?_
  rintro e w3 ⟨rfl, hb⟩
  rw [H2.out]
  have B3 := Lib.hid (Below.then' B2.out hb)
  clear c0 c1 c2 c3 c4
  obtain ⟨c0, c1, c2, c3, c4⟩ := X2.out.below hb
  have X3 := Lib.hid (X2.out.below hb)
  clear hb
  cases q2
  · go_wp2
    go_ret
    exact ⟨ret_bool (by rw [OK.out]; rfl), B3.out⟩
  go_wp2_with fail
  refine (isDay_any _ _).mono ?_
  rintro e w4 ⟨rfl, hb⟩
  rw [H3.out]
  have B4 := Lib.hid (Below.then' B3.out hb)
  clear c0 c1 c2 c3 c4
  obtain ⟨c0, c1, c2, c3, c4⟩ := X3.out.below hb
  have X4 := Lib.hid (X3.out.below hb)
  clear hb
  cases q3
  · go_wp2
    go_ret
    exact ⟨ret_bool (by rw [OK.out]; rfl), B4.out⟩
  go_wp2_with fail
  refine (areIn1 _ _ _ _ _ _ (by simp)).mono ?_
  rintro e w' ⟨rfl, rfl⟩
  rw [H4.out]
  have B5 := Lib.hid (Below.then' B4.out (bel_al1 w4 (.cells #[.int .i64 s.Due] 3)))
  clear c0 c1 c2 c3 c4
  obtain ⟨c0, c1, c2, c3, c4⟩ := X4.out.below (bel_al1 w4 (.cells #[.int .i64 s.Due] 3))
  cases q4
  · go_wp2
    go_ret
    exact ⟨ret_bool (by rw [OK.out]; rfl), B5.out⟩
  by_cases hb : s.Back = -1
  · have E := Lib.hid (show (s.Back == -1) = true by simp [hb])
    have e1 := E.out
    clear hb
    go_wp2
    go_ret
    exact ⟨ret_bool (by rw [OK.out, E.out]; rfl), B5.out⟩
  have E := Lib.hid (show (s.Back == -1) = false by simp [hb])
  have e1 := E.out
  clear hb
  go_wp2_with fail
  refine (areIn1 _ _ _ _ _ _ (by simp)).mono ?_
  rintro e w' ⟨rfl, rfl⟩
  rw [H5.out]
  have B6 := Lib.hid (Below.then' B5.out (bel_al1 _ (.cells #[.int .i64 s.Back] 3)))
  go_wp2
  go_ret
  exact ⟨ret_bool (by rw [OK.out, E.out]; rfl), B6.out⟩
end Go.Proofs.YtffbljbgmgifnaaDoor
