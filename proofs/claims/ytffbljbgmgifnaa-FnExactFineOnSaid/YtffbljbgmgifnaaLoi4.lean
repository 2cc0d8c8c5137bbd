/- Loans in the program: fines, the loan that is not returned, a list with one loan replaced. -/
import Derived.Test.YtffbljbgmgifnaaLoi2
import Derived.StillTailTactics
namespace Go.Proofs.Ytffbljbgmgifnaa
open Go.RowKit

theorem minI_any (x y : Int) : min x y = if x ≤ y then x else y := by omega
set_option maxHeartbeats 1600000 in
theorem endBy_any (s : VLoan) (d : Int) (w : World) (hs : s.ok = true) :
    Calls Try.prog 115 #[.agg #[.int .i64 s.Sheet, .int .i64 s.Reader, .int .i64 s.Out, .int .i64 s.Due, .int .i64 s.Back], .int .i64 d] w fun e w' => e = .returned (.int .i64 (endL s d)) ∧ Below w.heap.size w w' := by
  have k := loOk_iff.1 hs
  by_cases h2 : s.Back = -1
  · have E := Lib.hid (show endL s d = d from by unfold endL; rw [if_pos (by omega)])
    have e1 : (s.Back == -1) = true := by simp [h2]
    clear k hs h2
    go_enter Try.func115, Try.ntmps115
    go_wp2
    go_ret
    exact ⟨ret_int E.out.symm, bel_al1 _ _⟩
  · have E := Lib.hid (show endL s d = min d s.Back from by unfold endL; rw [if_neg (by omega)])
    have e1 : (s.Back == -1) = false := by simp [h2]
    clear k hs h2
    go_enter Try.func115, Try.ntmps115
    go_wp2
    all_goals go_ret
    all_goals exact ⟨ret_int (by rw [E.out]; omega), bel_al1 _ _⟩
set_option maxHeartbeats 3200000 in
set_option maxRecDepth 100000 in
theorem fineBy_any (s : VLoan) (d : Int) (w : World) (hs : s.ok = true) (hd : dayB d = true) :
    Calls Try.prog 102 #[.agg #[.int .i64 s.Sheet, .int .i64 s.Reader, .int .i64 s.Out, .int .i64 s.Due, .int .i64 s.Back], .int .i64 d] w fun e w' => e = .returned (.int .i64 (fineL s d)) ∧ Below w.heap.size w w' := by
  have hk := loOk_iff.1 hs
  have hd' : 0 ≤ d ∧ d ≤ 4000 := inB_iff.1 hd
  have OK := Lib.hid hs
  have eb : 0 ≤ endL s d ∧ endL s d ≤ 4000 := by unfold endL; split <;> omega
  have F0 := Lib.hid (show fineL s d = min 1000 (10 * max 0 (endL s d - s.Due)) from rfl)
  obtain ⟨e, he⟩ : ∃ e, endL s d = e := ⟨_, rfl⟩
  have HE := Lib.hid he
  rw [he] at eb F0
  obtain ⟨m, hm⟩ : ∃ m, max 0 (e - s.Due) = m := ⟨_, rfl⟩
  have hmb : 0 ≤ m ∧ m ≤ 8000 := by omega
  have v1 : IntKind.i64.wrap (e - s.Due) = e - s.Due := IntWalk.i64_in _ (by omega)
  have v2 : IntKind.i64.wrap (10 * (e - s.Due)) = 10 * (e - s.Due) := IntWalk.i64_in _ (by omega)
  have B0 := Lib.hid (bel_al1 w (.cells #[.int .i64 s.Sheet, .int .i64 s.Reader, .int .i64 s.Out, .int .i64 s.Due, .int .i64 s.Back] 101))
  have X0 := Lib.hid (BoxLoan.new w 101 s _ rfl)
  clear hs hd he hd' hk hm hmb eb
  have v3 : IntKind.i64.wrap (10 * 0) = 0 := IntWalk.i64_in _ (by omega)
  by_cases h1 : s.Due < e
  · have h2 : 0 < e - s.Due := by omega
    by_cases h3 : 10 * (e - s.Due) ≤ 1000
    · have h4 : ¬ 1000 < 10 * (e - s.Due) := by omega
      go_enter Try.func102, Try.ntmps102
      go_wp2
      refine wp_world (fun W => BoxLoan W w.heap.size s ∧ Below w.heap.size w W) ⟨X0.out, B0.out⟩ ?_
      rintro W ⟨⟨c0, c1, c2, c3, c4⟩, hbw⟩
      have BW := Lib.hid hbw
      have k0 := cell_regrown c0
      have k1 := cell_regrown c1
      have k2 := cell_regrown c2
      have k3 := cell_regrown c3
      have k4 := cell_regrown c4
      have q1 := below_at (W := W) (fun W' _ => HE.out ▸ endBy_any s d W' OK.out)
      clear hbw c0 c1 c2 c3 c4
      refine wp_region_quiet_below (by kernel_rfl) (by kernel_rfl) ?_
      repeat (any_goals (first | go_big_quiet_step (with_reducible exact q1 _ _) | quiet_step (with_reducible exact q1 _ _)))
      all_goals
        refine wpQuiet_nil ?_
        intro W2 hw2
        have B2 := Lib.hid (Below.then' BW.out (below_of_re hw2))
        clear hw2 k0 k1 k2 k3 k4 q1
        go_wp2
        all_goals go_ret
        all_goals exact ⟨ret_int (by rw [F0.out]; omega), B2.out⟩
    · have h4 : 1000 < 10 * (e - s.Due) := by omega
      go_enter Try.func102, Try.ntmps102
      go_wp2
      refine wp_world (fun W => BoxLoan W w.heap.size s ∧ Below w.heap.size w W) ⟨X0.out, B0.out⟩ ?_
      rintro W ⟨⟨c0, c1, c2, c3, c4⟩, hbw⟩
      have BW := Lib.hid hbw
      have k0 := cell_regrown c0
      have k1 := cell_regrown c1
      have k2 := cell_regrown c2
      have k3 := cell_regrown c3
      have k4 := cell_regrown c4
      have q1 := below_at (W := W) (fun W' _ => HE.out ▸ endBy_any s d W' OK.out)
      clear hbw c0 c1 c2 c3 c4
      refine wp_region_quiet_below (by kernel_rfl) (by kernel_rfl) ?_
      repeat (any_goals (first | go_big_quiet_step (with_reducible exact q1 _ _) | quiet_step (with_reducible exact q1 _ _)))
      all_goals
        refine wpQuiet_nil ?_
        intro W2 hw2
        have B2 := Lib.hid (Below.then' BW.out (below_of_re hw2))
        clear hw2 k0 k1 k2 k3 k4 q1
        go_wp2
        all_goals go_ret
        all_goals exact ⟨ret_int (by rw [F0.out]; omega), B2.out⟩
  · have h2 : ¬ 0 < e - s.Due := by omega
    go_enter Try.func102, Try.ntmps102
    go_wp2
    refine wp_world (fun W => BoxLoan W w.heap.size s ∧ Below w.heap.size w W) ⟨X0.out, B0.out⟩ ?_
    rintro W ⟨⟨c0, c1, c2, c3, c4⟩, hbw⟩
    have BW := Lib.hid hbw
    have k0 := cell_regrown c0
    have k1 := cell_regrown c1
    have k2 := cell_regrown c2
    have k3 := cell_regrown c3
    have k4 := cell_regrown c4
    have q1 := below_at (W := W) (fun W' _ => HE.out ▸ endBy_any s d W' OK.out)
    clear hbw c0 c1 c2 c3 c4
    refine wp_region_quiet_below (by kernel_rfl) (by kernel_rfl) ?_
    repeat (any_goals (first | go_big_quiet_step (with_reducible exact q1 _ _) | quiet_step (with_reducible exact q1 _ _)))
    all_goals
      refine wpQuiet_nil ?_
      intro W2 hw2
      have B2 := Lib.hid (Below.then' BW.out (below_of_re hw2))
      clear hw2 k0 k1 k2 k3 k4 q1
      go_wp2
      all_goals go_ret
      all_goals exact ⟨ret_int (by rw [F0.out]; omega), B2.out⟩
set_option maxHeartbeats 1600000 in
theorem isLate_any (s : VLoan) (d : Int) (w : World) :
    Calls Try.prog 112 #[.agg #[.int .i64 s.Sheet, .int .i64 s.Reader, .int .i64 s.Out, .int .i64 s.Due, .int .i64 s.Back], .int .i64 d] w fun e w' => e = .returned (.bool (lateOn d s)) ∧ Below w.heap.size w w' := by
  obtain ⟨q, hq⟩ : ∃ q, openOn d s = q := ⟨_, rfl⟩
  have Q := Lib.hid hq
  have E := Lib.hid (show lateOn d s = (q && decide (s.Due < d)) from by rw [← hq]; rfl)
  have B0 := Lib.hid (bel_al1 w (.cells #[.int .i64 s.Sheet, .int .i64 s.Reader, .int .i64 s.Out, .int .i64 s.Due, .int .i64 s.Back] 101))
  have X0 := Lib.hid (BoxLoan.new w 101 s _ rfl)
  clear hq
  go_enter Try.func112, Try.ntmps112
  go_wp2_with fail
  refine (isOpen_any s d _).mono ?_
  rintro e w1 ⟨rfl, hb⟩
  rw [Q.out]
  have B1 := Lib.hid (Below.then' B0.out hb)
  obtain ⟨c0, c1, c2, c3, c4⟩ := X0.out.below hb
  clear hb
  cases q
  · go_wp2
    go_ret
    exact ⟨ret_bool (by rw [E.out]; rfl), B1.out⟩
  · go_wp2
    go_ret
    exact ⟨ret_bool (by rw [E.out]; rfl), B1.out⟩
set_option maxHeartbeats 1600000 in
set_option maxRecDepth 100000 in
theorem findLent1_any (s : VLoan) (sh : Int) (b1 : Nat) (w : World) (h1 : w.cell? ⟨b1, 0, none⟩ = some (.int .i64 sh)) :
    Calls Try.prog 143 #[.agg #[.int .i64 s.Sheet, .int .i64 s.Reader, .int .i64 s.Out, .int .i64 s.Due, .int .i64 s.Back], .pointer (some ⟨b1, 0, none⟩)] w fun e w' => e = .returned (.bool (s.Sheet == sh && s.Back == -1)) ∧ Below w.heap.size w w' := by
  have B0 := Lib.hid (bel_al1 w (.cells #[.int .i64 s.Sheet, .int .i64 s.Reader, .int .i64 s.Out, .int .i64 s.Due, .int .i64 s.Back] 101))
  have l1 := World.lt_of_cell h1
  have n1 : ¬ b1 = w.heap.size := by omega
  by_cases e : s.Sheet = sh
  · have s1 : (s.Sheet == sh) = true := by simp [e]
    have S1 := Lib.hid s1
    clear e
    go_enter Try.func143, Try.ntmps143
    go_wp2
    go_ret
    exact ⟨ret_bool (by rw [S1.out]; rfl), B0.out⟩
  · have s1 : (s.Sheet == sh) = false := by simp [e]
    have S1 := Lib.hid s1
    clear e
    go_enter Try.func143, Try.ntmps143
    go_wp2
    go_ret
    exact ⟨ret_bool (by rw [S1.out]; rfl), B0.out⟩
/-- Where the loan of a sheet that is not returned stands, in a valid list. -/
def findOf (xs : List VLoan) (sh : Int) : Int := if areLo xs = true then lentAt xs sh else 0
def foundB (xs : List VLoan) (sh : Int) : Bool := areLo xs && decide (0 ≤ lentAt xs sh)
set_option maxHeartbeats 1600000 in
set_option maxRecDepth 100000 in
theorem findLent_any (a : Option Addr) (len cap : Nat) (xs : List VLoan) (sh : Int) (w : World) (h : IsLoanS w a len cap xs) :
    Calls Try.prog 100 #[.slice a len cap, .int .i64 sh] w fun e w' => e = .returned (.tuple #[.int .i64 (findOf xs sh), .bool (foundB xs sh)]) ∧ Below w.heap.size w w' := by
  have b1 := wh_al1 w (.cells #[.int .i64 sh] 3)
  have S := Lib.hid (h.below b1)
  have C1 := Lib.hid (cell_box' w (.int .i64 sh) 3 _ rfl)
  have B0 := Lib.hid b1
  clear h b1
  obtain ⟨q, hq⟩ : ∃ q, areLo xs = q := ⟨_, rfl⟩
  have Q := Lib.hid hq
  clear hq
  go_enter Try.func100, Try.ntmps100
  go_wp2_with fail
  refine (areLoans_any _ _ _ xs _ S.out).mono ?_
  rintro e w1 ⟨rfl, hb⟩
  rw [Q.out]
  have B1 := Lib.hid (Below.then' B0.out hb)
  have S1 := Lib.hid (S.out.below hb)
  have C2 := Lib.hid (cell_stay' C1.out hb)
  clear hb
  cases q
  · have E0 := Lib.hid (show findOf xs sh = 0 from by unfold findOf; rw [Q.out]; rfl)
    have E1 := Lib.hid (show foundB xs sh = false from by unfold foundB; rw [Q.out]; rfl)
    go_wp2
    go_ret2
    exact ⟨by rw [E0.out, E1.out]; rfl, B1.out⟩
  obtain ⟨z, hz⟩ : ∃ z, lentAt xs sh = z := ⟨_, rfl⟩
  have Z := Lib.hid (show firstOf (fun l : VLoan => l.Sheet == sh && l.Back == -1) xs = z from by rw [lent_is Q.out]; exact hz)
  have E0 := Lib.hid (show findOf xs sh = z from by unfold findOf; rw [Q.out, if_pos rfl]; exact hz)
  have E1 := Lib.hid (show foundB xs sh = decide (0 ≤ z) from by unfold foundB; rw [Q.out, hz]; rfl)
  clear hz
  go_wp2_with fail
  refine (idxLoan_any 143 #[.pointer (some ⟨w.heap.size, 0, none⟩)] (fun l => l.Sheet == sh && l.Back == -1) a len cap xs _ S1.out (enters_fn' Try.func143 (by kernel_rfl) (by kernel_rfl)) (fun W s _ hW => by
    have h1 := findLent1_any s sh w.heap.size W (cell_stay' C2.out hW)
    simpa using h1)).mono ?_
  rintro e w2 ⟨rfl, hb⟩
  rw [Z.out]
  have B := Lib.hid (Below.then' B1.out hb)
  clear hb
  go_wp2
  go_ret2
  exact ⟨by rw [E0.out, E1.out]; rfl, B.out⟩
/-- What withLoan gives back. -/
def WithPost (xs : List VLoan) (i : Nat) (l : VLoan) (w : World) (e : Ending) (w' : World) : Prop :=
  ∃ v, e = .returned (.tuple #[v, .bool (areLo (xs.set i l))]) ∧ w'.ownsRow w.heap.size 101 5 v (if areLo (xs.set i l) = true then xs.set i l else []).length (cellsLoan (if areLo (xs.set i l) = true then xs.set i l else [])) ∧ Below w.heap.size w w'
set_option maxHeartbeats 6400000 in
set_option maxRecDepth 100000 in
theorem withLoan_any (a : Option Addr) (len cap : Nat) (xs : List VLoan) (i : Nat) (l : VLoan) (w : World) (h : IsLoanS w a len cap xs) (hil : i < xs.length) (hx : xs.length ≤ 1048576) :
    Calls Try.prog 101 #[.slice a len cap, .int .i64 (i : Int), .agg #[.int .i64 l.Sheet, .int .i64 l.Reader, .int .i64 l.Out, .int .i64 l.Due, .int .i64 l.Back]] w (WithPost xs i l w) := by
  have B0 := Lib.hid (bel_al1 w (.cells #[.int .i64 l.Sheet, .int .i64 l.Reader, .int .i64 l.Out, .int .i64 l.Due, .int .i64 l.Back] 101))
  have X0 := Lib.hid (BoxLoan.new w 101 l _ rfl)
  have S := Lib.hid (h.below B0.out)
  have hi0 : (0 : Int) ≤ (i : Int) := by omega
  have hi1 : (i : Int) < (xs.length : Int) := by omega
  clear h
  go_enter Try.func101, Try.ntmps101
  go_wp2_with fail
  refine (cloneLoan_any _ _ _ xs _ S.out hx).mono ?_
  rintro e w1 ⟨v1, rfl, hown, hb⟩
  have B1 := Lib.hid (Below.then' B0.out hb)
  obtain ⟨c0, c1, c2, c3, c4⟩ := X0.out.below hb
  have hown1 := ownsRow_base hown (show w.heap.size ≤ _ from (bel_al1 w (.cells #[.int .i64 l.Sheet, .int .i64 l.Reader, .int .i64 l.Out, .int .i64 l.Due, .int .i64 l.Back] 101)).size)
  have hsz := hb.size
  clear hown hb
  obtain ⟨g, cap1, rfl, hg, hn, hcap⟩ := own_some hown1 (by omega)
  obtain ⟨a5, c5, e5, his, _⟩ := isLoanS_own hown1
  cases e5
  have hgl := (hown1.lt g rfl).2
  have SG := his
  have f0 := hown1.frozenAt (i * 5)
  have f1 := hown1.frozenAt (i * 5 + 1)
  have f2 := hown1.frozenAt (i * 5 + 2)
  have f3 := hown1.frozenAt (i * 5 + 3)
  have f4 := hown1.frozenAt (i * 5 + 4)
  obtain ⟨u0, k0⟩ := own_cell hown1 (i * 5) (by rw [cellsLoan_len]; omega)
  obtain ⟨u1, k1⟩ := own_cell hown1 (i * 5 + 1) (by rw [cellsLoan_len]; omega)
  obtain ⟨u2, k2⟩ := own_cell hown1 (i * 5 + 2) (by rw [cellsLoan_len]; omega)
  obtain ⟨u3, k3⟩ := own_cell hown1 (i * 5 + 3) (by rw [cellsLoan_len]; omega)
  obtain ⟨u4, k4⟩ := own_cell hown1 (i * 5 + 4) (by rw [cellsLoan_len]; omega)
  have h5 := own_setLoan hown1 hil l
  have B5 := Lib.hid (B1.out.grown h5.2 B1.out.size (fun k e => by cases e; have := (hown1.lt g rfl).1; omega))
  have hown5 := h5.1
  rw [show xs.length = (xs.set i l).length from List.length_set.symm] at hown5
  have O5 := Lib.hid hown5
  obtain ⟨a6, c6, e6, his6, _⟩ := isLoanS_own hown5
  cases e6
  rw [List.length_set] at his6
  have S6 := Lib.hid his6
  clear h5 his SG hown1 hown5 his6
  go_wp2_with fail
  refine (areLoans_any _ _ _ (xs.set i l) _ S6.out).mono ?_
  rintro e w7 ⟨rfl, hb⟩
  have B7 := Lib.hid (Below.then' B5.out hb)
  have O7 := Lib.hid (ownsRow_below O5.out hb)
  obtain ⟨R, hR⟩ : ∃ R, xs.set i l = R := ⟨_, rfl⟩
  have RL := Lib.hid (show R.length = xs.length from by rw [← hR, List.length_set])
  have GOAL := Lib.hid (show WithPost xs i l w = fun e w' => ∃ v, e = .returned (.tuple #[v, .bool (areLo R)]) ∧ w'.ownsRow w.heap.size 101 5 v (if areLo R = true then R else []).length (cellsLoan (if areLo R = true then R else [])) ∧ Below w.heap.size w w' from by unfold WithPost; rw [hR])
  rw [hR] at O7 ⊢
  obtain ⟨q, hq⟩ : ∃ q, areLo R = q := ⟨_, rfl⟩
  rw [hq] at GOAL ⊢
  clear hb hR hq f0 f1 f2 f3 f4 k0 k1 k2 k3 k4 c0 c1 c2 c3 c4
  cases q
  · go_wp2
    go_ret2
    rw [GOAL.out]
    exact ⟨_, rfl, nil_ownLoan _ _, B7.out⟩
  · go_wp2
    go_ret2
    rw [GOAL.out]
    refine ⟨_, rfl, ?_, B7.out⟩
    have := O7.out
    rw [RL.out] at this
    simp only [if_true, RL.out]
    exact this
end Go.Proofs.Ytffbljbgmgifnaa
