/- Loans in the model: prolonging. -/
import Derived.Test.YtffbljbgmgifnaaLos4
namespace Go.Proofs.Ytffbljbgmgifnaa
open Go.RowKit

theorem proL_at {xs : List VLoan} {sh n : Int} {i : Nat} {s : VLoan} (h : lentAt xs sh = (i : Int)) (hs : xs[i]? = some s) : proL xs sh n = xs.set i (longL s n) := by
  unfold proL; rw [h, Int.toNat_natCast, loAt_some hs]
theorem pro_no {xs : List VLoan} {sh d n : Int} (h : ProlongLoan_1 xs sh d n = false) : ProlongLoan_0 xs sh d n = [] := by
  unfold ProlongLoan_0; rw [h]; rfl
theorem pro_none {xs : List VLoan} {sh d n : Int} (h : lentAt xs sh = -1) : ProlongLoan_1 xs sh d n = false := by unfold ProlongLoan_1; rw [h]; simp
theorem pro_is {xs : List VLoan} {sh d n : Int} {i : Nat} {s : VLoan} (h : lentAt xs sh = (i : Int)) (hs : xs[i]? = some s) : ProlongLoan_1 xs sh d n = (areLo xs && (dayB d && (daysB n && (mayPro s d && areLo (xs.set i (longL s n)))))) := by
  unfold ProlongLoan_1; rw [proL_at h hs, h, decide_eq_true (by omega : (0 : Int) ≤ (i : Int)), Int.toNat_natCast, loAt_some hs]; simp
theorem pro_yes {xs : List VLoan} {sh d n : Int} {i : Nat} {s : VLoan} (h : lentAt xs sh = (i : Int)) (hs : xs[i]? = some s) (hy : ProlongLoan_1 xs sh d n = true) : ProlongLoan_0 xs sh d n = xs.set i (longL s n) := by
  unfold ProlongLoan_0; rw [hy, if_pos rfl]; exact proL_at h hs
theorem mayPro_yes {s : VLoan} {d : Int} (h : mayPro s d = true) : d ≤ s.Due ∧ s.Out ≤ d := by simpa [mayPro] using h
theorem mayPro_no {s : VLoan} {d : Int} (h : mayPro s d = false) : s.Due < d ∨ d < s.Out := by
  by_cases h1 : d ≤ s.Due
  · by_cases h2 : s.Out ≤ d
    · simp [mayPro, h1, h2] at h
    · exact .inr (by omega)
  · exact .inl (by omega)
set_option maxHeartbeats 12800000 in
set_option maxRecDepth 100000 in
theorem specProlongLoan_any (a : Option Addr) (len cap : Nat) (xs : List VLoan) (sh d n : Int) (w : World) (h : IsLoanS w a len cap xs) (_ : xs.length ≤ 1048576) :
    Calls Try.prog 52 #[.slice a len cap, .int .i64 sh, .int .i64 d, .int .i64 n] w (ProlongLoan_Post xs sh d n w) := by
  have hm := h.2.2.1
  have hcl := h.2.1
  unfold maxLen at hm
  obtain rfl := h.1
  obtain ⟨i0, hi, hz0, hz1, hz2⟩ := info_parts infoLoan
  have S := Lib.hid h
  clear h
  obtain ⟨q1, h1⟩ : ∃ q, areLo xs = q := ⟨_, rfl⟩
  have H1 := Lib.hid h1
  clear h1
  rcases lent_cases xs sh with hn | ⟨i, s, hn, hs, he1, he2⟩
  · have HN := Lib.hid hn
    have E2 := Lib.hid (pro_none (d := d) (n := n) hn)
    have E := Lib.hid (pro_no E2.out)
    clear hn
    go_enter Try.func52, Try.ntmps52
    go_wp2_with fail
    refine (l11Open_any _ _ _ xs sh _ S.out).mono ?_
    rintro e w1 ⟨rfl, hb⟩
    rw [HN.out]
    have B1 := Lib.hid hb
    have S1 := Lib.hid (S.out.below hb)
    clear hb
    go_wp2_with fail
    refine (l11Good_any _ _ _ xs _ S1.out).mono ?_
    rintro e w2 ⟨rfl, hb⟩
    rw [H1.out]
    have B2 := Lib.hid (Below.then' B1.out hb)
    have O2 := Lib.hid (made_ownLo w2 w.heap.size B2.out.size)
    clear hb
    cases q1
    · go_wp2
      go_ret2
      exact ⟨_, by rw [E2.out]; rfl, by rw [E.out]; exact O2.out, Below.then' B2.out (bel_al1 _ _)⟩
    · go_wp2
      go_ret2
      exact ⟨_, by rw [E2.out]; rfl, by rw [E.out]; exact O2.out, Below.then' B2.out (bel_al1 _ _)⟩
  have hil := (List.getElem?_eq_some_iff.1 hs).1
  have HN := Lib.hid hn
  have HS := Lib.hid hs
  obtain ⟨q2, h2⟩ : ∃ q, dayB d = q := ⟨_, rfl⟩
  obtain ⟨R, hR⟩ : ∃ R, xs.set i (longL s n) = R := ⟨_, rfl⟩
  obtain ⟨q3, h3⟩ : ∃ q, areLo R = q := ⟨_, rfl⟩
  obtain ⟨q4, h4⟩ : ∃ q, daysB n = q := ⟨_, rfl⟩
  obtain ⟨q5, h5⟩ : ∃ q, mayPro s d = q := ⟨_, rfl⟩
  have E2 := Lib.hid (show ProlongLoan_1 xs sh d n = (q1 && (q2 && (q4 && (q5 && q3)))) from by rw [pro_is hn hs, H1.out, h2, h4, h5, hR, h3])
  have H4 := Lib.hid h4
  have H5 := Lib.hid h5
  have H2 := Lib.hid h2
  have H3 := Lib.hid h3
  have HR := Lib.hid hR
  have hi00 : ¬ (i : Int) < 0 := by omega
  have hi0 : (0 : Int) ≤ (i : Int) := by omega
  have hi1 : (i : Int) < (xs.length : Int) := by omega
  clear hn hs h2 hR h3 h4 h5 he1 he2
  go_enter Try.func52, Try.ntmps52
  go_wp2_with fail
  refine (l11Open_any _ _ _ xs sh _ S.out).mono ?_
  rintro e w0 ⟨rfl, hb⟩
  rw [HN.out]
  have B0 := Lib.hid hb
  have S0 := Lib.hid (S.out.below hb)
  clear hb
  go_wp2_with fail
  refine (l11Good_any _ _ _ xs _ S0.out).mono ?_
  rintro e w1 ⟨rfl, hb⟩
  rw [H1.out]
  have B1 := Lib.hid (Below.then' B0.out hb)
  have S1 := Lib.hid (S0.out.below hb)
  have sz1 := B1.out.size
  have O1 := Lib.hid (made_ownLo w1 w.heap.size sz1)
  clear hb
  cases q1
  · have E := Lib.hid (pro_no (E2.out.trans rfl))
    go_wp2
    go_ret2
    exact ⟨_, by rw [E2.out]; rfl, by rw [E.out]; exact O1.out, Below.then' B1.out (bel_al1 _ _)⟩
  go_wp2_with fail
  refine (l2Day_any _ _).mono ?_
  rintro e w' ⟨rfl, rfl⟩
  rw [H2.out]
  cases q2
  · have E := Lib.hid (pro_no (E2.out.trans rfl))
    go_wp2
    go_ret2
    exact ⟨_, by rw [E2.out]; rfl, by rw [E.out]; exact O1.out, Below.then' B1.out (bel_al1 _ _)⟩
  go_wp2_with fail
  refine (l11Days_any _ _).mono ?_
  rintro e w' ⟨rfl, rfl⟩
  rw [H4.out]
  cases q4
  · have E := Lib.hid (pro_no (E2.out.trans rfl))
    go_wp2
    go_ret2
    exact ⟨_, by rw [E2.out]; rfl, by rw [E.out]; exact O1.out, Below.then' B1.out (bel_al1 _ _)⟩
  obtain ⟨b9, o9, rfl, _, hat⟩ := S1.out.at (by omega)
  obtain ⟨c0, c1, c2, c3, c4⟩ := hat i s HS.out
  clear hat
  cases q5
  · have E := Lib.hid (pro_no (E2.out.trans rfl))
    have MP := mayPro_no H5.out
    by_cases hdd : s.Due < d
    · go_wp2
      go_ret2
      exact ⟨_, by rw [E2.out]; rfl, by rw [E.out]; exact O1.out, Below.then' B1.out (bel_al1 _ _)⟩
    · have hdo : d < s.Out := by omega
      have hd1 : decide (s.Due < d) = false := decide_eq_false hdd
      clear MP
      go_wp2
      go_ret2
      exact ⟨_, by rw [E2.out]; rfl, by rw [E.out]; exact O1.out, Below.then' B1.out (bel_al1 _ _)⟩
  have MP := mayPro_yes H5.out
  have hd1 : ¬ s.Due < d := by omega
  have hd2 : ¬ d < s.Out := by omega
  have hd3 : decide (s.Due < d) = false := decide_eq_false hd1
  have hd4 : decide (d < s.Out) = false := decide_eq_false hd2
  have hok := loOk_iff.1 (areLo_ok H1.out (List.mem_of_getElem? HS.out))
  have hnn : 1 ≤ n ∧ n ≤ 60 := inB_iff.1 H4.out
  have wr : IntKind.i64.wrap (s.Due + n) = s.Due + n := IntWalk.i64_in _ (by omega)
  clear MP hok hnn
  have O0 := O1.out
  have SRC := srcLoan (S1.out.below (bel_al1 w1 (.cells #[] 101)))
  have BA := Lib.hid (Below.then' B1.out (bel_al1 w1 (.cells #[] 101)))
  go_wp2_with (at_builtin; refine wpList_append_list rfl _ _ 42 rfl w.heap.size 101 i0 (.agg #[.int .i64 0, .int .i64 0, .int .i64 0, .int .i64 0, .int .i64 0]) 5 40 Try.underlying42 hi hz0 hz1 hz2 rfl (by decide) _ _ _ rfl O0 _ xs.length cap (cellsLoan xs) rfl SRC (one_Lo xs) (by simp; unfold maxLen; omega) (by simp; omega) (by simp; omega) ?_; intro v' w3 hown1 hgrow1; have BG := Lib.hid (BA.out.grown hgrow1 BA.out.size (fun k e => (O0.lt k e).1)); rw [List.length_nil, Nat.zero_add, show cellsLoan [] ++ cellsLoan xs = cellsLoan xs from rfl] at hown1; obtain ⟨g, cap1, rfl, hg, hn, hcap⟩ := own_some hown1 (by omega); obtain ⟨a5, c5, e5, his, _⟩ := isLoanS_own hown1; cases e5; obtain ⟨d0, d1, d2, d3, d4⟩ := his.cellsAt HS.out; simp only [Nat.zero_add] at d0 d1 d2 d3 d4; have hgl := (hown1.lt g rfl).2; have f0 := hown1.frozenAt (i * 5); have f1 := hown1.frozenAt (i * 5 + 1); have f2 := hown1.frozenAt (i * 5 + 2); have f3 := hown1.frozenAt (i * 5 + 3); have f4 := hown1.frozenAt (i * 5 + 4); obtain ⟨u0, k0⟩ := own_cell hown1 (i * 5) (by rw [cellsLoan_len]; omega); obtain ⟨u1, k1⟩ := own_cell hown1 (i * 5 + 1) (by rw [cellsLoan_len]; omega); obtain ⟨u2, k2⟩ := own_cell hown1 (i * 5 + 2) (by rw [cellsLoan_len]; omega); obtain ⟨u3, k3⟩ := own_cell hown1 (i * 5 + 3) (by rw [cellsLoan_len]; omega); obtain ⟨u4, k4⟩ := own_cell hown1 (i * 5 + 4) (by rw [cellsLoan_len]; omega); have O3 := Lib.hid hown1; clear hgrow1 hown1 his k0 k1 k2 k3 k4)
  have h5 := own_setLoan O3.out hil (longL s n)
  have B5 := BG.out.grown h5.2 BG.out.size (fun k e => by cases e; omega)
  have hown5 := h5.1.alloc (.cells #[.int .i64 s.Sheet, .int .i64 s.Reader, .int .i64 s.Out, .int .i64 (s.Due + n), .int .i64 s.Back] 101)
  have B6 := Lib.hid (Below.then' B5 (bel_al1 _ (.cells #[.int .i64 s.Sheet, .int .i64 s.Reader, .int .i64 s.Out, .int .i64 (s.Due + n), .int .i64 s.Back] 101)))
  rw [show xs.length = (xs.set i (longL s n)).length from List.length_set.symm] at hown5
  obtain ⟨a6, c6, e6, his, _⟩ := isLoanS_own hown5
  cases e6
  rw [List.length_set, HR.out] at his
  have S6 := Lib.hid his
  rw [HR.out] at hown5
  have O6 := Lib.hid hown5
  have RL := Lib.hid (show R.length = xs.length from by rw [← HR.out, List.length_set])
  clear h5 hown5 his B5 f0 f1 f2 f3 f4 d0 d1 d2 d3 d4 c0 c1 c2 c3 c4
  refine (l11Good_any _ _ _ R _ S6.out).mono ?_
  rintro e w7 ⟨rfl, hb⟩
  rw [H3.out]
  have B7 := Lib.hid (Below.then' B6.out hb)
  have O7 := Lib.hid (ownsRow_below O6.out hb)
  clear hb
  cases q3
  · have E := Lib.hid (pro_no (E2.out.trans rfl))
    have O8 := Lib.hid (made_ownLo w7 w.heap.size (by have := B7.out.size; omega))
    go_wp2
    go_ret2
    exact ⟨_, by rw [E2.out]; rfl, by rw [E.out]; exact O8.out, Below.then' B7.out (bel_al1 _ _)⟩
  have E := Lib.hid (pro_yes HN.out HS.out (E2.out.trans rfl))
  go_wp2
  go_ret2
  refine ⟨_, by rw [E2.out]; rfl, ?_, B7.out⟩
  rw [E.out, HR.out, RL.out]
  have := O7.out
  rw [RL.out] at this
  exact this
end Go.Proofs.Ytffbljbgmgifnaa
