/- Loans in the program: the sheets of wanted loans, open and late ones. -/
import Derived.Test.YtffbljbgmgifnaaLoi4
import Derived.Test.YtffbljbgmgifnaaLoanId
import Derived.Test.YtffbljbgmgifnaaSortI
import Derived.Test.YtffbljbgmgifnaaOpenLoansP
import Derived.Test.YtffbljbgmgifnaaLateOnP
namespace Go.Proofs.Ytffbljbgmgifnaa
open Go.RowKit

theorem sheetOf_any (s : VLoan) (w : World) : Calls Try.prog 141 #[.agg #[.int .i64 s.Sheet, .int .i64 s.Reader, .int .i64 s.Out, .int .i64 s.Due, .int .i64 s.Back]] w fun e w' => e = .returned (.int .i64 s.Sheet) ∧ Below w.heap.size w w' := by
  go_enter Try.func141, Try.ntmps141
  go_wp2
  go_ret
  exact ⟨rfl, bel_al1 _ _⟩
def WherePost (xs : List VLoan) (d : Int) (f : VLoan → Bool) (w : World) (e : Ending) (w' : World) : Prop :=
  ∃ v, e = .returned (.tuple #[v, .bool (areLo xs && dayB d)]) ∧ w'.ownsRow w.heap.size 3 1 v (if (areLo xs && dayB d) = true then sheetsOf f xs else []).length (intCells (if (areLo xs && dayB d) = true then sheetsOf f xs else [])) ∧ Below w.heap.size w w'
theorem nil_int (w : World) (base : Nat) : w.ownsRow base 3 1 (.slice none 0 0) ([] : List Int).length (intCells []) := ⟨by simp [intCells], .inl ⟨rfl, rfl⟩⟩
set_option maxHeartbeats 6400000 in
set_option maxRecDepth 100000 in
theorem sheetsWhere_any (K : FuncId) (caps : Array Value) (f : VLoan → Bool) (a : Option Addr) (len cap : Nat) (xs : List VLoan) (d : Int) (w : World) (h : IsLoanS w a len cap xs)
    (hcall : ∀ args W, (callFunc K args).run Try.prog W = .ok (.enter K args) W)
    (hf : ∀ (W : World) (s : VLoan), s ∈ xs → Below w.heap.size w W → Calls Try.prog K (#[.agg #[.int .i64 s.Sheet, .int .i64 s.Reader, .int .i64 s.Out, .int .i64 s.Due, .int .i64 s.Back]] ++ caps) W fun e w' => e = .returned (.bool (f s)) ∧ Below W.heap.size W w')
    (hop : ∀ l ∈ xs, f l = true → openOn d l = true) :
    Calls Try.prog 97 #[.slice a len cap, .int .i64 d, .func (.func K) #[] caps] w (WherePost xs d f w) := by
  obtain rfl := h.1
  have S := Lib.hid h
  have F := Lib.hid hf
  have HC := Lib.hid hcall
  have OP := Lib.hid hop
  clear h hf hcall hop
  obtain ⟨q1, h1⟩ : ∃ q, areLo xs = q := ⟨_, rfl⟩
  obtain ⟨q2, h2⟩ : ∃ q, dayB d = q := ⟨_, rfl⟩
  have PST := Lib.hid (show WherePost xs d f w = fun e w' => ∃ v, e = .returned (.tuple #[v, .bool (q1 && q2)]) ∧ w'.ownsRow w.heap.size 3 1 v (if (q1 && q2) = true then sheetsOf f xs else []).length (intCells (if (q1 && q2) = true then sheetsOf f xs else [])) ∧ Below w.heap.size w w' from by unfold WherePost; rw [h1, h2])
  have H1 := Lib.hid h1
  have H2 := Lib.hid h2
  clear h1 h2
  go_enter Try.func97, Try.ntmps97
  go_wp2_with fail
  refine (areLoans_any _ _ _ xs _ S.out).mono ?_
  rintro e w1 ⟨rfl, hb⟩
  rw [H1.out]
  have B1 := Lib.hid hb
  have S1 := Lib.hid (S.out.below hb)
  clear hb
  cases q1
  · go_wp2
    go_ret2
    rw [PST.out]
    exact ⟨_, rfl, nil_int _ _, B1.out⟩
  go_wp2_with fail
  refine (isDay_any _ _).mono ?_
  rintro e w2 ⟨rfl, hb⟩
  rw [H2.out]
  have B2 := Lib.hid (Below.then' B1.out hb)
  have S2 := Lib.hid (S1.out.below hb)
  clear hb
  cases q2
  · go_wp2
    go_ret2
    rw [PST.out]
    exact ⟨_, rfl, nil_int _ _, B2.out⟩
  have L15 := areLo_len H1.out
  have SO := Lib.hid (sheets_sorted H1.out OP.out)
  have ZL : ((xs.filter f).map VLoan.Sheet).length ≤ 15 := by
    rw [List.length_map]
    have := List.length_filter_le f xs
    omega
  go_wp2_with fail
  refine (idsWhereLoan_any 141 K VLoan.Sheet caps f _ _ _ xs _ S2.out (by omega) (enters_fn' Try.func141 (by kernel_rfl) (by kernel_rfl)) HC.out (fun W s => sheetOf_any s W) (fun W s hs hW => F.out W s hs (Below.then' B2.out hW))).mono ?_
  rintro e w3 ⟨v, rfl, hown, hb⟩
  have B3 := Lib.hid (Below.then' B2.out hb)
  have O3 := Lib.hid (ownsRow_base hown B2.out.size)
  obtain ⟨Z, hZ⟩ : ∃ Z, (xs.filter f).map VLoan.Sheet = Z := ⟨_, rfl⟩
  rw [hZ] at O3 SO ZL
  clear hown hb hZ
  go_wp2_with fail
  refine (sortI_any w.heap.size v Z _ O3.out (by omega)).mono ?_
  rintro e w4 ⟨rfl, hown4, hB4⟩
  have B4 := Lib.hid (hB4 w.heap.size w B3.out (Nat.le_refl _) B3.out.size)
  rw [SO.out] at hown4
  have LE : Z.length = (sheetsOf f xs).length := by rw [← SO.out]; simp
  rw [LE] at hown4
  have O4 := Lib.hid hown4
  clear hown4 hB4 LE
  go_wp2
  go_ret2
  rw [PST.out]
  exact ⟨_, rfl, O4.out, B4.out⟩
set_option maxHeartbeats 1600000 in
set_option maxRecDepth 100000 in
theorem openLoans1_any (s : VLoan) (r d : Int) (b1 b2 : Nat) (w : World) (h1 : w.cell? ⟨b1, 0, none⟩ = some (.int .i64 r)) (h2 : w.cell? ⟨b2, 0, none⟩ = some (.int .i64 d)) :
    Calls Try.prog 98 #[.agg #[.int .i64 s.Sheet, .int .i64 s.Reader, .int .i64 s.Out, .int .i64 s.Due, .int .i64 s.Back], .pointer (some ⟨b1, 0, none⟩), .pointer (some ⟨b2, 0, none⟩)] w fun e w' => e = .returned (.bool (s.Reader == r && openOn d s)) ∧ Below w.heap.size w w' := by
  have B0 := Lib.hid (bel_al1 w (.cells #[.int .i64 s.Sheet, .int .i64 s.Reader, .int .i64 s.Out, .int .i64 s.Due, .int .i64 s.Back] 101))
  have l1 := World.lt_of_cell h1
  have l2 := World.lt_of_cell h2
  have n1 : ¬ b1 = w.heap.size := by omega
  have n2 : ¬ b2 = w.heap.size := by omega
  obtain ⟨q, hq⟩ : ∃ q, openOn d s = q := ⟨_, rfl⟩
  have Q := Lib.hid hq
  clear hq
  by_cases e : s.Reader = r
  · have s1 : (s.Reader == r) = true := by simp [e]
    have S1 := Lib.hid s1
    clear e
    go_enter Try.func98, Try.ntmps98
    go_wp2_with fail
    refine (isOpen_any s d _).mono ?_
    rintro e w2 ⟨rfl, hb⟩
    rw [Q.out]
    have B2 := Lib.hid (Below.then' B0.out hb)
    clear hb h1 h2
    go_wp2
    go_ret
    exact ⟨ret_bool (by rw [S1.out, Q.out]; rfl), B2.out⟩
  · have s1 : (s.Reader == r) = false := by simp [e]
    have S1 := Lib.hid s1
    clear e
    go_enter Try.func98, Try.ntmps98
    go_wp2
    go_ret
    exact ⟨ret_bool (by rw [S1.out]; rfl), B0.out⟩
set_option maxHeartbeats 1600000 in
set_option maxRecDepth 100000 in
theorem lateOn1_any (s : VLoan) (d : Int) (b1 : Nat) (w : World) (h1 : w.cell? ⟨b1, 0, none⟩ = some (.int .i64 d)) :
    Calls Try.prog 114 #[.agg #[.int .i64 s.Sheet, .int .i64 s.Reader, .int .i64 s.Out, .int .i64 s.Due, .int .i64 s.Back], .pointer (some ⟨b1, 0, none⟩)] w fun e w' => e = .returned (.bool (lateOn d s)) ∧ Below w.heap.size w w' := by
  have B0 := Lib.hid (bel_al1 w (.cells #[.int .i64 s.Sheet, .int .i64 s.Reader, .int .i64 s.Out, .int .i64 s.Due, .int .i64 s.Back] 101))
  have l1 := World.lt_of_cell h1
  have n1 : ¬ b1 = w.heap.size := by omega
  go_enter Try.func114, Try.ntmps114
  go_wp2_with fail
  refine (isLate_any s d _).mono ?_
  rintro e w2 ⟨rfl, hb⟩
  have B2 := Lib.hid (Below.then' B0.out hb)
  clear hb h1
  go_wp2
  go_ret
  exact ⟨rfl, B2.out⟩
set_option maxHeartbeats 6400000 in
set_option maxRecDepth 100000 in
theorem implOpenLoans_any (a : Option Addr) (len cap : Nat) (xs : List VLoan) (r d : Int) (w : World) (h : IsLoanS w a len cap xs) (_ : xs.length ≤ 1048576) :
    Calls Try.prog 37 #[.slice a len cap, .int .i64 r, .int .i64 d] w (OpenLoans_Post xs r d w) := by
  have b1 := wh_al1 w (.cells #[.int .i64 r] 3)
  have b2 := Below.then' b1 (wh_al1 (w.alloc (.cells #[.int .i64 r] 3)) (.cells #[.int .i64 d] 3))
  have S := Lib.hid (h.below b2)
  have C1 := Lib.hid (cell_stay' (cell_box' w (.int .i64 r) 3 _ rfl) (wh_al1 (w.alloc (.cells #[.int .i64 r] 3)) (.cells #[.int .i64 d] 3)))
  have C2 := Lib.hid (cell_box' (w.alloc (.cells #[.int .i64 r] 3)) (.int .i64 d) 3 (w.heap.size + 1) (by simp))
  have B0 := Lib.hid b2
  clear h b1 b2
  obtain ⟨q2, h2⟩ : ∃ q, idB r = q := ⟨_, rfl⟩
  have E1 := Lib.hid (show OpenLoans_1 xs r d = (q2 && (areLo xs && dayB d)) from by unfold OpenLoans_1; rw [h2]; cases q2 <;> cases areLo xs <;> simp)
  have E0 := Lib.hid (show OpenLoans_0 xs r d = if (q2 && (areLo xs && dayB d)) = true then sheetsOf (fun l => l.Reader == r && openOn d l) xs else [] from by unfold OpenLoans_0; rw [E1.out])
  have H2 := Lib.hid h2
  clear h2
  go_enter Try.func37, Try.ntmps37
  go_wp2_with fail
  refine (isLoanId_any _ _).mono ?_
  rintro e w2 ⟨rfl, hb⟩
  rw [H2.out]
  have B2 := Lib.hid (Below.then' B0.out hb)
  have S2 := Lib.hid (S.out.below hb)
  have D1 := Lib.hid (cell_stay' C1.out hb)
  have D2 := Lib.hid (cell_stay' C2.out hb)
  have d1 := D1.out
  have d2 := D2.out
  clear hb
  cases q2
  · go_wp2
    go_ret2
    exact ⟨_, by rw [E1.out]; rfl, by rw [E0.out]; exact nil_int _ _, B2.out⟩
  go_wp2_with fail
  refine (sheetsWhere_any 98 #[.pointer (some ⟨w.heap.size, 0, none⟩), .pointer (some ⟨w.heap.size + 1, 0, none⟩)] (fun l => l.Reader == r && openOn d l) _ _ _ xs d _ S2.out (enters_fn' Try.func98 (by kernel_rfl) (by kernel_rfl)) (fun W s _ hW => by
    have h1 := openLoans1_any s r d w.heap.size (w.heap.size + 1) W (cell_stay' D1.out hW) (cell_stay' D2.out hW)
    simpa using h1) (fun l _ hl => by simp only [Bool.and_eq_true] at hl; exact hl.2)).mono ?_
  rintro e w3 ⟨v, rfl, hown, hb⟩
  have B3 := Lib.hid (Below.then' B2.out hb)
  have O3 := Lib.hid (ownsRow_base hown B2.out.size)
  clear hown hb d1 d2
  go_wp2
  go_ret2
  exact ⟨_, by rw [E1.out, Bool.true_and]; rfl, by rw [E0.out, Bool.true_and]; exact O3.out, B3.out⟩
set_option maxHeartbeats 6400000 in
set_option maxRecDepth 100000 in
theorem implLateOn_any (a : Option Addr) (len cap : Nat) (xs : List VLoan) (d : Int) (w : World) (h : IsLoanS w a len cap xs) (_ : xs.length ≤ 1048576) :
    Calls Try.prog 59 #[.slice a len cap, .int .i64 d] w (LateOn_Post xs d w) := by
  have b1 := wh_al1 w (.cells #[.int .i64 d] 3)
  have S := Lib.hid (h.below b1)
  have C1 := Lib.hid (cell_box' w (.int .i64 d) 3 _ rfl)
  have B0 := Lib.hid b1
  clear h b1
  have E1 := Lib.hid (show LateOn_1 xs d = (areLo xs && dayB d) from rfl)
  have E0 := Lib.hid (show LateOn_0 xs d = if (areLo xs && dayB d) = true then sheetsOf (lateOn d) xs else [] from rfl)
  have d1 := C1.out
  go_enter Try.func59, Try.ntmps59
  go_wp2_with fail
  refine (sheetsWhere_any 114 #[.pointer (some ⟨w.heap.size, 0, none⟩)] (lateOn d) _ _ _ xs d _ S.out (enters_fn' Try.func114 (by kernel_rfl) (by kernel_rfl)) (fun W s _ hW => by
    have h1 := lateOn1_any s d w.heap.size W (cell_stay' C1.out hW)
    simpa using h1) (fun l _ hl => by unfold lateOn at hl; simp only [Bool.and_eq_true] at hl; exact hl.1)).mono ?_
  rintro e w3 ⟨v, rfl, hown, hb⟩
  have B3 := Lib.hid (Below.then' B0.out hb)
  have O3 := Lib.hid (ownsRow_base hown B0.out.size)
  clear hown hb d1
  go_wp2
  go_ret2
  exact ⟨_, by rw [E1.out]; rfl, by rw [E0.out]; exact O3.out, B3.out⟩
end Go.Proofs.Ytffbljbgmgifnaa
