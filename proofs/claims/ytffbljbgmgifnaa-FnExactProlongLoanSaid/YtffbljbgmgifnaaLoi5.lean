/- Loans in the program: ReturnSheet, ProlongLoan. -/
import Derived.Test.YtffbljbgmgifnaaLoi4
import Derived.Test.YtffbljbgmgifnaaReturnSheetP
import Derived.Test.YtffbljbgmgifnaaProlongLoanP
namespace Go.Proofs.Ytffbljbgmgifnaa
open Go.RowKit

theorem found_ways (xs : List VLoan) (sh : Int) : foundB xs sh = false ∨ (foundB xs sh = true ∧ areLo xs = true ∧ ∃ (i : Nat) (s : VLoan), findOf xs sh = (i : Int) ∧ lentAt xs sh = (i : Int) ∧ xs[i]? = some s ∧ s.Back < 0) := by
  unfold foundB findOf
  cases h : areLo xs with
  | false => exact .inl rfl
  | true =>
    rcases lent_cases xs sh with hn | ⟨i, s, hn, hs, _, hb⟩
    · exact .inl (by rw [hn]; rfl)
    · exact .inr ⟨by rw [hn, decide_eq_true (by omega : (0 : Int) ≤ (i : Int))]; rfl, rfl, i, s, by rw [if_pos rfl]; exact hn, hn, hs, hb⟩
theorem found_ret {xs : List VLoan} {sh d : Int} (h : foundB xs sh = false) : ReturnSheet_2 xs sh d = false ∧ ReturnSheet_0 xs sh d = [] ∧ ReturnSheet_1 xs sh d = 0 := by
  have e : ReturnSheet_2 xs sh d = false := by unfold ReturnSheet_2; rw [← Bool.and_assoc]; unfold foundB at h; rw [h]; rfl
  unfold ReturnSheet_0 ReturnSheet_1; rw [e]; exact ⟨rfl, rfl, rfl⟩
theorem found_ret2 {xs : List VLoan} {sh d : Int} {i : Nat} {s : VLoan} {q2 q3 : Bool} (ha : areLo xs = true) (h : lentAt xs sh = (i : Int)) (hs : xs[i]? = some s) (h2 : dayB d = q2) (h3 : areLo (xs.set i (cameL s d)) = q3) : ReturnSheet_2 xs sh d = (q2 && q3) ∧ ReturnSheet_0 xs sh d = (if (q2 && q3) = true then xs.set i (cameL s d) else []) ∧ ReturnSheet_1 xs sh d = if (q2 && q3) = true then fineL (cameL s d) d else 0 := by
  have e : ReturnSheet_2 xs sh d = (q2 && q3) := by
    unfold ReturnSheet_2 retL; rw [h, Int.toNat_natCast, loAt_some hs, ha, h2, h3, decide_eq_true (by omega : (0 : Int) ≤ (i : Int))]; rfl
  refine ⟨e, ?_, ?_⟩
  · unfold ReturnSheet_0 retL; rw [e, h, Int.toNat_natCast, loAt_some hs]
  · unfold ReturnSheet_1; rw [e, h, Int.toNat_natCast, loAt_some hs]
set_option maxHeartbeats 6400000 in
set_option maxRecDepth 100000 in
theorem implReturnSheet_any (a : Option Addr) (len cap : Nat) (xs : List VLoan) (sh d : Int) (w : World) (h : IsLoanS w a len cap xs) (hx : xs.length ≤ 1048576) :
    Calls Try.prog 40 #[.slice a len cap, .int .i64 sh, .int .i64 d] w (ReturnSheet_Post xs sh d w) := by
  obtain rfl := h.1
  have S := Lib.hid h
  clear h
  rcases found_ways xs sh with hf | ⟨hf, ha, i, s, hn, hn2, hs, hbk⟩
  · have F := Lib.hid hf
    have E := Lib.hid (found_ret (d := d) hf)
    clear hf
    go_enter Try.func40, Try.ntmps40
    go_wp2_with fail
    refine (findLent_any _ _ _ xs sh _ S.out).mono ?_
    rintro e w1 ⟨rfl, hb⟩
    rw [F.out]
    have B1 := Lib.hid hb
    clear hb
    go_wp2
    go_ret3
    exact ⟨_, by rw [E.out.1, E.out.2.2]; rfl, by rw [E.out.2.1]; exact nil_ownLoan _ _, B1.out⟩
  have hil := (List.getElem?_eq_some_iff.1 hs).1
  obtain ⟨q2, h2⟩ : ∃ q, dayB d = q := ⟨_, rfl⟩
  obtain ⟨q3, h3⟩ : ∃ q, areLo (xs.set i (cameL s d)) = q := ⟨_, rfl⟩
  have E := Lib.hid (found_ret2 ha hn2 hs h2 h3)
  have F := Lib.hid hf
  have FN := Lib.hid hn
  have AL := Lib.hid ha
  have HS := Lib.hid hs
  have H2 := Lib.hid h2
  have H3 := Lib.hid h3
  have hi0 : (0 : Int) ≤ (i : Int) := by omega
  have hi1 : (i : Int) < (xs.length : Int) := by omega
  clear hf ha hn hn2 hs hbk h2 h3
  go_enter Try.func40, Try.ntmps40
  go_wp2_with fail
  refine (findLent_any _ _ _ xs sh _ S.out).mono ?_
  rintro e w1 ⟨rfl, hb⟩
  rw [F.out, FN.out]
  have B1 := Lib.hid hb
  have S1 := Lib.hid (S.out.below hb)
  clear hb
  go_wp2_with fail
  refine (isDay_any _ _).mono ?_
  rintro e w2 ⟨rfl, hb⟩
  rw [H2.out]
  have B2 := Lib.hid (Below.then' B1.out hb)
  have S2 := Lib.hid (S1.out.below hb)
  clear hb
  cases q2
  · go_wp2
    go_ret3
    exact ⟨_, by rw [E.out.1, E.out.2.2]; rfl, by rw [E.out.2.1]; exact nil_ownLoan _ _, B2.out⟩
  obtain ⟨b, o, rfl, hbw, hat⟩ := S2.out.at (by omega)
  obtain ⟨c0, c1, c2, c3, c4⟩ := hat i s HS.out
  have B3 := Lib.hid (Below.then' B2.out (bel_al1 w2 (.cells #[.int .i64 s.Sheet, .int .i64 s.Reader, .int .i64 s.Out, .int .i64 s.Due, .int .i64 d] 101)))
  have X3 := Lib.hid (BoxLoan.new w2 101 (cameL s d) _ rfl)
  have S3 := Lib.hid (S2.out.below (bel_al1 w2 (.cells #[.int .i64 s.Sheet, .int .i64 s.Reader, .int .i64 s.Out, .int .i64 s.Due, .int .i64 d] 101)))
  clear hat
  go_wp2_with fail
  refine (withLoan_any _ _ _ xs i (cameL s d) _ S3.out hil hx).mono ?_
  rintro e w4 ⟨v4, rfl, hown, hb⟩
  have B4 := Lib.hid (Below.then' B3.out hb)
  have X4 := Lib.hid (X3.out.below hb)
  have hb3 := B3.out.size
  have O4 := Lib.hid (ownsRow_base hown hb3)
  rw [H3.out] at O4 ⊢
  clear hown hb c0 c1 c2 c3 c4
  cases q3
  · go_wp2
    go_ret3
    exact ⟨_, by rw [E.out.1, E.out.2.2]; rfl, by rw [E.out.2.1]; exact nil_ownLoan _ _, B4.out⟩
  have OK := Lib.hid (areLo_ok H3.out (show cameL s d ∈ xs.set i (cameL s d) from List.mem_of_getElem? (List.getElem?_set_self hil)))
  obtain ⟨c0, c1, c2, c3, c4⟩ := X4.out
  go_wp2_with fail
  refine (fineBy_any (cameL s d) d _ OK.out H2.out).mono ?_
  rintro e w5 ⟨rfl, hb⟩
  have B5 := Lib.hid (Below.then' B4.out hb)
  have O5 := Lib.hid (ownsRow_below O4.out hb)
  clear hb
  go_wp2
  go_ret3
  exact ⟨_, by rw [E.out.1, E.out.2.2]; rfl, by rw [E.out.2.1]; exact O5.out, B5.out⟩
theorem found_pro {xs : List VLoan} {sh d n : Int} (h : foundB xs sh = false) : ProlongLoan_1 xs sh d n = false ∧ ProlongLoan_0 xs sh d n = [] := by
  have e : ProlongLoan_1 xs sh d n = false := by unfold ProlongLoan_1; rw [← Bool.and_assoc]; unfold foundB at h; rw [h]; rfl
  unfold ProlongLoan_0; rw [e]; exact ⟨rfl, rfl⟩
theorem found_pro2 {xs : List VLoan} {sh d n : Int} {i : Nat} {s : VLoan} {q2 q3 q4 : Bool} (ha : areLo xs = true) (h : lentAt xs sh = (i : Int)) (hs : xs[i]? = some s) (h2 : daysB n = q2) (h4 : mayPro s d = q4) (h3 : areLo (xs.set i (longL s n)) = q3) : ProlongLoan_1 xs sh d n = (q2 && (q4 && q3)) ∧ ProlongLoan_0 xs sh d n = (if (q2 && (q4 && q3)) = true then xs.set i (longL s n) else []) := by
  have e : ProlongLoan_1 xs sh d n = (q2 && (q4 && q3)) := by
    unfold ProlongLoan_1 proL
    rw [h, Int.toNat_natCast, loAt_some hs, ha, h2, h3, h4, decide_eq_true (by omega : (0 : Int) ≤ (i : Int))]
    cases q4 with
    | false => simp
    | true =>
      have k := loOk_iff.1 (areLo_ok ha (List.mem_of_getElem? hs))
      have m : d ≤ s.Due ∧ s.Out ≤ d := by simpa [mayPro] using h4
      rw [show dayB d = true from by unfold dayB; rw [inB_iff]; omega]; simp
  refine ⟨e, ?_⟩
  unfold ProlongLoan_0 proL; rw [e, h, Int.toNat_natCast, loAt_some hs]
theorem late_pro {s : VLoan} {d : Int} (hs : s.ok = true) (hb : s.Back < 0) : mayPro s d = (!(lateOn d s) && decide (s.Out ≤ d)) := by
  have k := loOk_iff.1 hs
  have e : (s.Back == -1) = true := by simp; omega
  unfold mayPro lateOn openOn
  rw [e]
  rw [Bool.eq_iff_iff]
  simp
  omega
set_option maxHeartbeats 6400000 in
set_option maxRecDepth 100000 in
theorem implProlongLoan_any (a : Option Addr) (len cap : Nat) (xs : List VLoan) (sh d n : Int) (w : World) (h : IsLoanS w a len cap xs) (hx : xs.length ≤ 1048576) :
    Calls Try.prog 53 #[.slice a len cap, .int .i64 sh, .int .i64 d, .int .i64 n] w (ProlongLoan_Post xs sh d n w) := by
  obtain rfl := h.1
  have S := Lib.hid h
  clear h
  rcases found_ways xs sh with hf | ⟨hf, ha, i, s, hn, hn2, hs, hbk⟩
  · have F := Lib.hid hf
    have E := Lib.hid (found_pro (d := d) (n := n) hf)
    clear hf
    go_enter Try.func53, Try.ntmps53
    go_wp2_with fail
    refine (findLent_any _ _ _ xs sh _ S.out).mono ?_
    rintro e w1 ⟨rfl, hb⟩
    rw [F.out]
    have B1 := Lib.hid hb
    clear hb
    go_wp2
    go_ret2
    exact ⟨_, by rw [E.out.1]; rfl, by rw [E.out.2]; exact nil_ownLoan _ _, B1.out⟩
  have hil := (List.getElem?_eq_some_iff.1 hs).1
  obtain ⟨q2, h2⟩ : ∃ q, inB n 1 60 = q := ⟨_, rfl⟩
  obtain ⟨q3, h3⟩ : ∃ q, areLo (xs.set i (longL s n)) = q := ⟨_, rfl⟩
  obtain ⟨ql, hl⟩ : ∃ q, lateOn d s = q := ⟨_, rfl⟩
  have OKS := Lib.hid (areLo_ok ha (List.mem_of_getElem? hs))
  have E := Lib.hid (found_pro2 (d := d) (q2 := q2) ha hn2 hs h2 (late_pro OKS.out hbk) h3)
  rw [hl] at E
  have F := Lib.hid hf
  have FN := Lib.hid hn
  have AL := Lib.hid ha
  have HS := Lib.hid hs
  have H2 := Lib.hid h2
  have H3 := Lib.hid h3
  have HL := Lib.hid hl
  have hi0 : (0 : Int) ≤ (i : Int) := by omega
  have hi1 : (i : Int) < (xs.length : Int) := by omega
  clear hf ha hn hn2 hs hbk h2 h3 hl
  go_enter Try.func53, Try.ntmps53
  go_wp2_with fail
  refine (findLent_any _ _ _ xs sh _ S.out).mono ?_
  rintro e w1 ⟨rfl, hb⟩
  rw [F.out, FN.out]
  have B1 := Lib.hid hb
  have S1 := Lib.hid (S.out.below hb)
  clear hb
  go_wp2_with fail
  refine (areIn1 _ _ _ _ _ _ (by simp)).mono ?_
  rintro e w' ⟨rfl, rfl⟩
  rw [H2.out]
  have B2 := Lib.hid (Below.then' B1.out (bel_al1 w1 (.cells #[.int .i64 n] 3)))
  have S2 := Lib.hid (S1.out.below (bel_al1 w1 (.cells #[.int .i64 n] 3)))
  cases q2
  · go_wp2
    go_ret2
    exact ⟨_, by rw [E.out.1]; rfl, by rw [E.out.2]; exact nil_ownLoan _ _, B2.out⟩
  have hn1 : 1 ≤ n ∧ n ≤ 60 := inB_iff.1 H2.out
  have hok := loOk_iff.1 OKS.out
  have wr : IntKind.i64.wrap (s.Due + n) = s.Due + n := IntWalk.i64_in _ (by omega)
  clear hn1 hok
  obtain ⟨W, hW⟩ : ∃ W, w1.alloc (.cells #[.int .i64 n] 3) = W := ⟨_, rfl⟩
  rw [hW] at B2 S2
  simp only [hW]
  clear hW
  obtain ⟨b, o, rfl, hbw, hat⟩ := S2.out.at (by omega)
  obtain ⟨c0, c1, c2, c3, c4⟩ := hat i s HS.out
  have B3 := Lib.hid (Below.then' B2.out (bel_al1 W (.cells #[.int .i64 s.Sheet, .int .i64 s.Reader, .int .i64 s.Out, .int .i64 s.Due, .int .i64 s.Back] 101)))
  have X3 := Lib.hid (HBLoan.new W s _ rfl)
  have S3 := Lib.hid (S2.out.below (bel_al1 W (.cells #[.int .i64 s.Sheet, .int .i64 s.Reader, .int .i64 s.Out, .int .i64 s.Due, .int .i64 s.Back] 101)))
  clear hat
  go_wp2_with fail
  refine (isLate_any s d _).mono ?_
  rintro e w4 ⟨rfl, hb⟩
  rw [HL.out]
  have B4 := Lib.hid (Below.then' B3.out hb)
  have X4 := Lib.hid (X3.out.below hb)
  have BW4 := Lib.hid (Below.then' (bel_al1 W (.cells #[.int .i64 s.Sheet, .int .i64 s.Reader, .int .i64 s.Out, .int .i64 s.Due, .int .i64 s.Back] 101)) hb)
  clear hb c0 c1 c2 c3 c4
  cases ql
  case true =>
    go_wp2
    go_ret2
    exact ⟨_, by rw [E.out.1]; rfl, by rw [E.out.2]; exact nil_ownLoan _ _, B4.out⟩
  obtain ⟨c0, c1, c2, c3, c4⟩ := X4.out.cells
  have f3 := X4.out.free 3
  by_cases ho : s.Out ≤ d
  case neg =>
    have ho2 : d < s.Out := by omega
    have D := Lib.hid (decide_eq_false ho)
    go_wp2
    go_ret2
    exact ⟨_, by rw [E.out.1, D.out]; rfl, by rw [E.out.2, D.out]; exact nil_ownLoan _ _, B4.out⟩
  have ho2 : ¬ d < s.Out := by omega
  have D := Lib.hid (decide_eq_true ho)
  have X5 := Lib.hid (X4.out.set3 (s.Due + n))
  have B5 := Lib.hid (B4.out.setCell (p := ⟨W.heap.size, 3, none⟩) (by have := B2.out.size; simp; omega) (.int .i64 (s.Due + n)))
  have S5 := Lib.hid (S2.out.below (BW4.out.setCell (p := ⟨W.heap.size, 3, none⟩) (by simp) (.int .i64 (s.Due + n))))
  have hb5 := B5.out.size
  go_wp2_with fail
  refine (withLoan_any _ _ _ xs i (longL s n) _ S5.out hil hx).mono ?_
  rintro e w6 ⟨v6, rfl, hown, hb⟩
  have B6 := Lib.hid (Below.then' B5.out hb)
  have O6 := Lib.hid (ownsRow_base hown hb5)
  rw [H3.out] at O6 ⊢
  clear hown hb c0 c1 c2 c3 c4 f3
  rw [D.out] at E
  cases q3
  · go_wp2
    go_ret2
    exact ⟨_, by rw [E.out.1]; rfl, by rw [E.out.2]; exact O6.out, B6.out⟩
  · go_wp2
    go_ret2
    exact ⟨_, by rw [E.out.1]; rfl, by rw [E.out.2]; exact O6.out, B6.out⟩
end Go.Proofs.Ytffbljbgmgifnaa
