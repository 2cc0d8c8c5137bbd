/- Loans in the model: returning and prolonging. -/
import Derived.Test.YtffbljbgmgifnaaLos3
namespace Go.Proofs.Ytffbljbgmgifnaa
open Go.RowKit

theorem IsLoanS.cellsAt {w : World} {b o len cap : Nat} {xs : List VLoan} (h : IsLoanS w (some ⟨b, o, none⟩) len cap xs) {k : Nat} {s : VLoan} (hs : xs[k]? = some s) : LoanAt w b (o + k * 5) s := by
  obtain ⟨_, _, e, _, hat⟩ := h.at (by have := (List.getElem?_eq_some_iff.1 hs).1; have := h.1; omega)
  cases e
  exact hat k s hs
theorem retL_at {xs : List VLoan} {sh d : Int} {i : Nat} {s : VLoan} (h : lentAt xs sh = (i : Int)) (hs : xs[i]? = some s) : retL xs sh d = xs.set i (cameL s d) ∧ cameL (loAt xs (lentAt xs sh).toNat) d = cameL s d := by
  unfold retL; rw [h, Int.toNat_natCast, loAt_some hs]; exact ⟨rfl, rfl⟩
theorem ret_no {xs : List VLoan} {sh d : Int} (h : ReturnSheet_2 xs sh d = false) : ReturnSheet_0 xs sh d = [] ∧ ReturnSheet_1 xs sh d = 0 := by
  unfold ReturnSheet_0 ReturnSheet_1; rw [h]; exact ⟨rfl, rfl⟩
theorem ret_none {xs : List VLoan} {sh d : Int} (h : lentAt xs sh = -1) : ReturnSheet_2 xs sh d = false := by unfold ReturnSheet_2; rw [h]; simp
theorem ret_is {xs : List VLoan} {sh d : Int} {i : Nat} {s : VLoan} (h : lentAt xs sh = (i : Int)) (hs : xs[i]? = some s) : ReturnSheet_2 xs sh d = (areLo xs && (dayB d && areLo (xs.set i (cameL s d)))) := by
  unfold ReturnSheet_2; rw [(retL_at h hs).1, h, decide_eq_true (by omega : (0 : Int) ≤ (i : Int))]; simp
theorem ret_yes {xs : List VLoan} {sh d : Int} {i : Nat} {s : VLoan} (h : lentAt xs sh = (i : Int)) (hs : xs[i]? = some s) (hy : ReturnSheet_2 xs sh d = true) : ReturnSheet_0 xs sh d = xs.set i (cameL s d) ∧ ReturnSheet_1 xs sh d = fineL (cameL s d) d := by
  unfold ReturnSheet_0 ReturnSheet_1; rw [hy, if_pos rfl, if_pos rfl, (retL_at h hs).2]; exact ⟨(retL_at h hs).1, rfl⟩
set_option maxHeartbeats 12800000 in
set_option maxRecDepth 100000 in
theorem specReturnSheet_any (a : Option Addr) (len cap : Nat) (xs : List VLoan) (sh d : Int) (w : World) (h : IsLoanS w a len cap xs) (_ : xs.length ≤ 1048576) :
    Calls Try.prog 41 #[.slice a len cap, .int .i64 sh, .int .i64 d] w (ReturnSheet_Post xs sh d w) := by
  have hm := h.2.2.1
  have hcl := h.2.1
  unfold maxLen at hm
  obtain rfl := h.1
  obtain ⟨i0, hi, hz0, hz1, hz2⟩ := info_parts infoLoan
  have S := Lib.hid h
  clear h
  obtain ⟨q1, h1⟩ : ∃ q, areLo xs = q := ⟨_, rfl⟩
  have H1 := Lib.hid h1
  clear h1
  rcases lent_cases xs sh with hn | ⟨i, s, hn, hs, he1, he2⟩
  · have HN := Lib.hid hn
    have E2 := Lib.hid (ret_none (d := d) hn)
    have E := Lib.hid (ret_no E2.out)
    clear hn
    go_enter Try.func41, Try.ntmps41
    go_wp2_with fail
    refine (l11Open_any _ _ _ xs sh _ S.out).mono ?_
    rintro e w1 ⟨rfl, hb⟩
    rw [HN.out]
    have B1 := Lib.hid hb
    have S1 := Lib.hid (S.out.below hb)
    clear hb
    go_wp2_with fail
    refine (l11Good_any _ _ _ xs _ S1.out).mono ?_
    rintro e w2 ⟨rfl, hb⟩
    rw [H1.out]
    have B2 := Lib.hid (Below.then' B1.out hb)
    have O2 := Lib.hid (made_ownLo w2 w.heap.size B2.out.size)
    clear hb
    cases q1
    · go_wp2
      go_ret3
      exact ⟨_, by rw [E.out.2, E2.out]; rfl, by rw [E.out.1]; exact O2.out, Below.then' B2.out (bel_al1 _ _)⟩
    · go_wp2
      go_ret3
      exact ⟨_, by rw [E.out.2, E2.out]; rfl, by rw [E.out.1]; exact O2.out, Below.then' B2.out (bel_al1 _ _)⟩
  have hil := (List.getElem?_eq_some_iff.1 hs).1
  have HN := Lib.hid hn
  have HS := Lib.hid hs
  obtain ⟨q2, h2⟩ : ∃ q, dayB d = q := ⟨_, rfl⟩
  obtain ⟨R, hR⟩ : ∃ R, xs.set i (cameL s d) = R := ⟨_, rfl⟩
  obtain ⟨q3, h3⟩ : ∃ q, areLo R = q := ⟨_, rfl⟩
  have E2 := Lib.hid (show ReturnSheet_2 xs sh d = (q1 && (q2 && q3)) from by rw [ret_is hn hs, H1.out, h2, hR, h3])
  have H2 := Lib.hid h2
  have H3 := Lib.hid h3
  have HR := Lib.hid hR
  have hi00 : ¬ (i : Int) < 0 := by omega
  have hi0 : (0 : Int) ≤ (i : Int) := by omega
  have hi1 : (i : Int) < (xs.length : Int) := by omega
  clear hn hs h2 hR h3 he1 he2
  go_enter Try.func41, Try.ntmps41
  go_wp2_with fail
  refine (l11Open_any _ _ _ xs sh _ S.out).mono ?_
  rintro e w0 ⟨rfl, hb⟩
  rw [HN.out]
  have B0 := Lib.hid hb
  have S0 := Lib.hid (S.out.below hb)
  clear hb
  go_wp2_with fail
  refine (l11Good_any _ _ _ xs _ S0.out).mono ?_
  rintro e w1 ⟨rfl, hb⟩
  rw [H1.out]
  have B1 := Lib.hid (Below.then' B0.out hb)
  have S1 := Lib.hid (S0.out.below hb)
  have sz1 := B1.out.size
  have O1 := Lib.hid (made_ownLo w1 w.heap.size sz1)
  clear hb
  cases q1
  · have E := Lib.hid (ret_no (E2.out.trans rfl))
    go_wp2
    go_ret3
    exact ⟨_, by rw [E.out.2, E2.out]; rfl, by rw [E.out.1]; exact O1.out, Below.then' B1.out (bel_al1 _ _)⟩
  go_wp2_with fail
  refine (l2Day_any _ _).mono ?_
  rintro e w' ⟨rfl, rfl⟩
  rw [H2.out]
  cases q2
  · have E := Lib.hid (ret_no (E2.out.trans rfl))
    go_wp2
    go_ret3
    exact ⟨_, by rw [E.out.2, E2.out]; rfl, by rw [E.out.1]; exact O1.out, Below.then' B1.out (bel_al1 _ _)⟩
  have O0 := O1.out
  have SRC := srcLoan (S1.out.below (bel_al1 w1 (.cells #[] 101)))
  have BA := Lib.hid (Below.then' B1.out (bel_al1 w1 (.cells #[] 101)))
  go_wp2_with (at_builtin; refine wpList_append_list rfl _ _ 42 rfl w.heap.size 101 i0 (.agg #[.int .i64 0, .int .i64 0, .int .i64 0, .int .i64 0, .int .i64 0]) 5 40 Try.underlying42 hi hz0 hz1 hz2 rfl (by decide) _ _ _ rfl O0 _ xs.length cap (cellsLoan xs) rfl SRC (one_Lo xs) (by simp; unfold maxLen; omega) (by simp; omega) (by simp; omega) ?_; intro v' w3 hown1 hgrow1; have BG := Lib.hid (BA.out.grown hgrow1 BA.out.size (fun k e => (O0.lt k e).1)); rw [List.length_nil, Nat.zero_add, show cellsLoan [] ++ cellsLoan xs = cellsLoan xs from rfl] at hown1; obtain ⟨g, cap1, rfl, hg, hn, hcap⟩ := own_some hown1 (by omega); obtain ⟨a5, c5, e5, his, _⟩ := isLoanS_own hown1; cases e5; obtain ⟨d0, d1, d2, d3, d4⟩ := his.cellsAt HS.out; simp only [Nat.zero_add] at d0 d1 d2 d3 d4; have hgl := (hown1.lt g rfl).2; have f0 := hown1.frozenAt (i * 5); have f1 := hown1.frozenAt (i * 5 + 1); have f2 := hown1.frozenAt (i * 5 + 2); have f3 := hown1.frozenAt (i * 5 + 3); have f4 := hown1.frozenAt (i * 5 + 4); obtain ⟨u0, k0⟩ := own_cell hown1 (i * 5) (by rw [cellsLoan_len]; omega); obtain ⟨u1, k1⟩ := own_cell hown1 (i * 5 + 1) (by rw [cellsLoan_len]; omega); obtain ⟨u2, k2⟩ := own_cell hown1 (i * 5 + 2) (by rw [cellsLoan_len]; omega); obtain ⟨u3, k3⟩ := own_cell hown1 (i * 5 + 3) (by rw [cellsLoan_len]; omega); obtain ⟨u4, k4⟩ := own_cell hown1 (i * 5 + 4) (by rw [cellsLoan_len]; omega); have O3 := Lib.hid hown1; clear hgrow1 hown1 his k0 k1 k2 k3 k4)
  have h5 := own_setLoan O3.out hil (cameL s d)
  have B5 := BG.out.grown h5.2 BG.out.size (fun k e => by cases e; omega)
  have hown5 := h5.1.alloc (.cells #[.int .i64 s.Sheet, .int .i64 s.Reader, .int .i64 s.Out, .int .i64 s.Due, .int .i64 d] 101)
  have B6 := Lib.hid (Below.then' B5 (bel_al1 _ (.cells #[.int .i64 s.Sheet, .int .i64 s.Reader, .int .i64 s.Out, .int .i64 s.Due, .int .i64 d] 101)))
  have X6 := Lib.hid (BoxLoan.new _ 101 (cameL s d) w3.heap.size (show (((((w3.setCell ⟨g, i * 5, none⟩ (.int .i64 (cameL s d).Sheet)).setCell ⟨g, i * 5 + 1, none⟩ (.int .i64 (cameL s d).Reader)).setCell ⟨g, i * 5 + 2, none⟩ (.int .i64 (cameL s d).Out)).setCell ⟨g, i * 5 + 3, none⟩ (.int .i64 (cameL s d).Due)).setCell ⟨g, i * 5 + 4, none⟩ (.int .i64 (cameL s d).Back)).heap.size = w3.heap.size from by simp))
  rw [show xs.length = (xs.set i (cameL s d)).length from List.length_set.symm] at hown5
  obtain ⟨a6, c6, e6, his, _⟩ := isLoanS_own hown5
  cases e6
  rw [List.length_set, HR.out] at his
  have S6 := Lib.hid his
  rw [HR.out] at hown5
  have O6 := Lib.hid hown5
  have RL := Lib.hid (show R.length = xs.length from by rw [← HR.out, List.length_set])
  clear h5 hown5 his B5 f0 f1 f2 f3 f4 d0 d1 d2 d3 d4
  refine (l11Good_any _ _ _ R _ S6.out).mono ?_
  rintro e w7 ⟨rfl, hb⟩
  rw [H3.out]
  have B7 := Lib.hid (Below.then' B6.out hb)
  have O7 := Lib.hid (ownsRow_below O6.out hb)
  have X7 := Lib.hid (X6.out.below hb)
  clear hb
  cases q3
  · have E := Lib.hid (ret_no (E2.out.trans rfl))
    have O8 := Lib.hid (made_ownLo w7 w.heap.size (by have := B7.out.size; omega))
    go_wp2
    go_ret3
    exact ⟨_, by rw [E.out.2, E2.out]; rfl, by rw [E.out.1]; exact O8.out, Below.then' B7.out (bel_al1 _ _)⟩
  have E := Lib.hid (ret_yes HN.out HS.out (E2.out.trans rfl))
  have OK := Lib.hid (areLo_ok H3.out (show cameL s d ∈ R from by rw [← HR.out]; exact List.mem_of_getElem? (List.getElem?_set_self hil)))
  obtain ⟨y0, y1, y2, y3, y4⟩ := X7.out
  go_wp2_with fail
  refine (l11Fine_any (cameL s d) d _ OK.out H2.out).mono ?_
  rintro e w8 ⟨rfl, hb⟩
  have B8 := Lib.hid (Below.then' B7.out hb)
  have O8 := Lib.hid (ownsRow_below O7.out hb)
  clear hb
  go_wp2
  go_ret3
  refine ⟨_, by rw [E.out.2, E2.out]; rfl, ?_, B8.out⟩
  rw [E.out.1, HR.out, RL.out]
  have := O8.out
  rw [RL.out] at this
  exact this
end Go.Proofs.Ytffbljbgmgifnaa
