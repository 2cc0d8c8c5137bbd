/- Loans in the model: one loan, a list of them. -/
import Derived.Test.YtffbljbgmgifnaaDoorLo
import Derived.Test.YtffbljbgmgifnaaDoorRd2
import Derived.Test.YtffbljbgmgifnaaDoorWh
import Derived.Test.YtffbljbgmgifnaaDoorAreLoansP
namespace Go.Proofs.YtffbljbgmgifnaaDoor
open Go.RowKit

theorem l11Id_any (d : Int) (w : World) :
    Calls Tryd.prog 11 #[.int .i64 d] w fun e w' => e = .returned (.bool (idB d)) ∧ w = w' := by
  go_enter Tryd.func11, Tryd.ntmps11
  go_wp2_with fail
  refine (l1In_any _ _ _ _).mono ?_
  rintro e w' ⟨rfl, rfl⟩
  go_wp2
  go_ret
  exact ⟨rfl, rfl⟩
theorem loOk_spec (l : VLoan) : l.ok = (idB l.Sheet && (idB l.Reader && (dayB l.Out && (dayB l.Due && (!decide (l.Due < l.Out) && (l.Back == -1 || (dayB l.Back && decide (l.Out ≤ l.Back)))))))) := by
  rw [Bool.eq_iff_iff, loOk_iff]
  simp only [idB, dayB, inB, Bool.and_eq_true, Bool.or_eq_true, beq_iff_eq, decide_eq_true_eq, Bool.not_eq_true', decide_eq_false_iff_not]
  omega
set_option maxHeartbeats 3200000 in
theorem l11One_any (s : VLoan) (w : World) :
    Calls Tryd.prog 7 #[.agg #[.int .i64 s.Sheet, .int .i64 s.Reader, .int .i64 s.Out, .int .i64 s.Due, .int .i64 s.Back]] w fun e w' => e = .returned (.bool s.ok) ∧ Below w.heap.size w w' := by
  obtain ⟨q1, h1⟩ : ∃ q, idB s.Sheet = q := ⟨_, rfl⟩
  obtain ⟨q2, h2⟩ : ∃ q, idB s.Reader = q := ⟨_, rfl⟩
  obtain ⟨q3, h3⟩ : ∃ q, dayB s.Out = q := ⟨_, rfl⟩
  obtain ⟨q4, h4⟩ : ∃ q, dayB s.Due = q := ⟨_, rfl⟩
  obtain ⟨q5, h5⟩ : ∃ q, dayB s.Back = q := ⟨_, rfl⟩
  have OK := Lib.hid (loOk_spec s)
  rw [h1, h2, h3, h4, h5] at OK
  have H1 := Lib.hid h1
  have H2 := Lib.hid h2
  have H3 := Lib.hid h3
  have H4 := Lib.hid h4
  have H5 := Lib.hid h5
  clear h1 h2 h3 h4 h5
  go_enter Tryd.func7, Tryd.ntmps7
  go_wp2_with fail
  refine (l11Id_any _ _).mono ?_
  rintro e w' ⟨rfl, rfl⟩
  rw [H1.out]
  cases q1
  · go_wp2
    go_ret
    exact ⟨ret_bool (by rw [OK.out]; rfl), bel_al1 _ _⟩
  go_wp2_with fail
  refine (l11Id_any _ _).mono ?_
  rintro e w' ⟨rfl, rfl⟩
  rw [H2.out]
  cases q2
  · go_wp2
    go_ret
    exact ⟨ret_bool (by rw [OK.out]; rfl), bel_al1 _ _⟩
  go_wp2_with fail
  refine (l2Day_any _ _).mono ?_
  rintro e w' ⟨rfl, rfl⟩
  rw [H3.out]
  cases q3
  · go_wp2
    go_ret
    exact ⟨ret_bool (by rw [OK.out]; rfl), bel_al1 _ _⟩
  go_wp2_with fail
  refine (l2Day_any _ _).mono ?_
  rintro e w' ⟨rfl, rfl⟩
  rw [H4.out]
  cases q4
  · go_wp2
    go_ret
    exact ⟨ret_bool (by rw [OK.out]; rfl), bel_al1 _ _⟩
  by_cases hd : s.Due < s.Out
  · have D := Lib.hid (decide_eq_true hd)
    go_wp2
    go_ret
    exact ⟨ret_bool (by rw [OK.out, D.out]; rfl), bel_al1 _ _⟩
  have D := Lib.hid (decide_eq_false hd)
  have hd2 : s.Out ≤ s.Due := by omega
  by_cases hb : s.Back = -1
  · have E := Lib.hid (show (s.Back == -1) = true by simp [hb])
    have e1 := E.out
    have D2 := Lib.hid hb
    clear hb
    go_wp2
    go_ret
    exact ⟨ret_bool (by rw [OK.out, D.out, E.out]; rfl), bel_al1 _ _⟩
  have E := Lib.hid (show (s.Back == -1) = false by simp [hb])
  have e1 := E.out
  clear hb
  go_wp2_with fail
  refine (l2Day_any _ _).mono ?_
  rintro e w' ⟨rfl, rfl⟩
  rw [H5.out]
  cases q5
  · go_wp2
    go_ret
    exact ⟨ret_bool (by rw [OK.out, D.out, E.out]; rfl), bel_al1 _ _⟩
  go_wp2
  go_ret
  exact ⟨ret_bool (by rw [OK.out, D.out, E.out]; rfl), bel_al1 _ _⟩
end Go.Proofs.YtffbljbgmgifnaaDoor
