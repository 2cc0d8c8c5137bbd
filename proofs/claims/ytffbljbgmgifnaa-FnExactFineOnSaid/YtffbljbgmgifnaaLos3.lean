/- Loans in the model: lending, returning, prolonging. -/
import Derived.Test.YtffbljbgmgifnaaLos2
import Derived.Test.YtffbljbgmgifnaaMnMx
import Derived.Test.YtffbljbgmgifnaaLoanR
import Derived.Test.YtffbljbgmgifnaaLendSheetP
import Derived.Test.YtffbljbgmgifnaaReturnSheetP
import Derived.Test.YtffbljbgmgifnaaProlongLoanP
namespace Go.Proofs.Ytffbljbgmgifnaa
open Go.RowKit

theorem made_ownLo (w : World) (base : Nat) (h : base ≤ w.heap.size) : (w.alloc (.cells #[] 101)).ownsRow base 101 5 (.slice (some ⟨w.heap.size, 0, none⟩) 0 0) ([] : List VLoan).length (cellsLoan []) :=
  World.ownsRow_made (base := base) (e := 101) (size := 5) w #[] 0 h (Nat.zero_le _) rfl
theorem one_Lo (xs : List VLoan) : ∀ u ∈ cellsLoan xs, u.oneCell' = true := by
  intro u hu
  obtain ⟨s, _, hs⟩ := List.mem_flatMap.1 hu
  exact s.vals_one u hs
theorem l11Open_any (a : Option Addr) (len cap : Nat) (xs : List VLoan) (sh : Int) (w : World) (h : IsLoanS w a len cap xs) :
    Calls Try.prog 103 #[.slice a len cap, .int .i64 sh] w fun e w' => e = .returned (.int .i64 (lentAt xs sh)) ∧ Below w.heap.size w w' := by
  have hm := h.2.2.1
  have hcl := h.2.1
  unfold maxLen at hm
  obtain rfl := h.1
  have S := Lib.hid h
  clear h
  go_enter Try.func103, Try.ntmps103
  go_wp2
  go_loopw [5] (fun i wr => ∃ k : Nat, k ≤ xs.length ∧ i = .int .i64 k ∧ Below w.heap.size w wr ∧ ∀ j t, j < k → xs[j]? = some t → (t.Sheet == sh && decide (t.Back < 0)) = false) (fun i _ => xs.length - (intOf i).toNat)
  case atStart => exact ⟨0, Nat.zero_le _, rfl, Below.refl _ _, fun _ _ h => by omega⟩
  case round =>
    obtain ⟨k, hk, rfl, hbel, hall⟩ := hrel
    have A := Lib.hid hall
    have B := Lib.hid hbel
    clear hall
    by_cases hlt : k < xs.length
    · obtain ⟨s, hs⟩ : ∃ s, xs[k]? = some s := ⟨xs[k]'hlt, List.getElem?_eq_getElem _⟩
      obtain ⟨b, o, rfl, hb, hat⟩ := (S.out.below hbel).at (by omega)
      obtain ⟨c0, c1, c2, c3, c4⟩ := hat k s hs
      have HS := Lib.hid hs
      have hi0 : (0 : Int) ≤ (k : Int) := by omega
      have hi1 : (k : Int) < (xs.length : Int) := by omega
      clear hs hat hbel
      by_cases hsh : s.Sheet = sh
      · have s1 : (s.Sheet == sh) = true := by simp [hsh]
        have S1 := Lib.hid s1
        clear hsh
        by_cases hb0 : s.Back < 0
        · have E := Lib.hid (show lentAt xs sh = (k : Int) from firstOf_at HS.out (by rw [S1.out, decide_eq_true hb0]; rfl) A.out)
          go_wp2
          go_ret
          exact ⟨ret_int E.out.symm, B.out⟩
        · have N := Lib.hid (show (s.Sheet == sh && decide (s.Back < 0)) = false from by rw [decide_eq_false hb0]; simp)
          go_wp2
          go_roundw
          case rel => exact ⟨k + 1, by omega, by go_num, B.out, fun j t hj ht => by
            by_cases e : j = k
            · subst e; rw [HS.out] at ht; cases ht; exact N.out
            · exact A.out j t (by omega) ht⟩
          case measure => simp [intOf]; omega
      · have s1 : (s.Sheet == sh) = false := by simp [hsh]
        have N := Lib.hid (show (s.Sheet == sh && decide (s.Back < 0)) = false from by rw [s1]; rfl)
        clear hsh
        go_wp2
        go_roundw
        case rel => exact ⟨k + 1, by omega, by go_num, B.out, fun j t hj ht => by
          by_cases e : j = k
          · subst e; rw [HS.out] at ht; cases ht; exact N.out
          · exact A.out j t (by omega) ht⟩
        case measure => simp [intOf]; omega
    · obtain rfl : k = xs.length := by omega
      have E := Lib.hid (show lentAt xs sh = -1 from firstOf_no A.out)
      clear hbel
      go_wp2
      go_ret
      exact ⟨ret_int E.out.symm, B.out⟩
theorem l11Cap_any (n : Int) (w : World) :
    Calls Try.prog 144 #[.int .i64 n] w fun e w' => e = .returned (.int .i64 (min 1000 n)) ∧ w = w' := by
  go_enter Try.func144, Try.ntmps144
  go_wp2_with fail
  refine (l1Least_any _ _ _).mono ?_
  rintro e w' ⟨rfl, rfl⟩
  go_wp2
  go_ret
  exact ⟨rfl, rfl⟩
theorem l11Fine_any (s : VLoan) (d : Int) (w : World) (hs : s.ok = true) (hd : dayB d = true) :
    Calls Try.prog 104 #[.agg #[.int .i64 s.Sheet, .int .i64 s.Reader, .int .i64 s.Out, .int .i64 s.Due, .int .i64 s.Back], .int .i64 d] w fun e w' => e = .returned (.int .i64 (fineL s d)) ∧ Below w.heap.size w w' := by
  have hk := loOk_iff.1 hs
  have hd' : 0 ≤ d ∧ d ≤ 4000 := inB_iff.1 hd
  by_cases hb : 0 ≤ s.Back
  · obtain ⟨e, he⟩ : ∃ e, min d s.Back = e := ⟨_, rfl⟩
    have HE := Lib.hid (show endL s d = e from by unfold endL; rw [if_neg (by omega)]; exact he)
    have hb1 : 0 ≤ e ∧ e ≤ 4000 := by omega
    have w1 : IntKind.i64.wrap (e - s.Due) = e - s.Due := IntWalk.i64_in _ (by omega)
    obtain ⟨m, hm⟩ : ∃ m, max 0 (e - s.Due) = m := ⟨_, rfl⟩
    have hm1 : 0 ≤ m ∧ m ≤ 8000 := by omega
    have w2 : IntKind.i64.wrap (10 * m) = 10 * m := IntWalk.i64_in _ (by omega)
    have E := Lib.hid he
    have M := Lib.hid hm
    clear hk hs hd he hm
    go_enter Try.func104, Try.ntmps104
    go_wp2_with fail
    refine (l1Least_any _ _ _).mono ?_
    rintro e w' ⟨rfl, rfl⟩
    rw [E.out]
    go_wp2_with fail
    refine (l1Most_any _ _ _).mono ?_
    rintro e w' ⟨rfl, rfl⟩
    rw [M.out]
    go_wp2_with fail
    refine (l11Cap_any _ _).mono ?_
    rintro e w' ⟨rfl, rfl⟩
    go_wp2
    go_ret
    exact ⟨ret_int (by unfold fineL; rw [HE.out, M.out]), bel_al1 _ _⟩
  · have HE := Lib.hid (show endL s d = d from by unfold endL; rw [if_pos (by omega)])
    have w1 : IntKind.i64.wrap (d - s.Due) = d - s.Due := IntWalk.i64_in _ (by omega)
    obtain ⟨m, hm⟩ : ∃ m, max 0 (d - s.Due) = m := ⟨_, rfl⟩
    have hm1 : 0 ≤ m ∧ m ≤ 8000 := by omega
    have w2 : IntKind.i64.wrap (10 * m) = 10 * m := IntWalk.i64_in _ (by omega)
    have M := Lib.hid hm
    clear hk hs hd hm
    go_enter Try.func104, Try.ntmps104
    go_wp2_with fail
    refine (l1Most_any _ _ _).mono ?_
    rintro e w' ⟨rfl, rfl⟩
    rw [M.out]
    go_wp2_with fail
    refine (l11Cap_any _ _).mono ?_
    rintro e w' ⟨rfl, rfl⟩
    go_wp2
    go_ret
    exact ⟨ret_int (by unfold fineL; rw [HE.out, M.out]), bel_al1 _ _⟩
set_option maxHeartbeats 12800000 in
set_option maxRecDepth 100000 in
theorem specLendSheet_any (a : Option Addr) (len cap : Nat) (xs : List VLoan) (sh rd d n : Int) (w : World) (h : IsLoanS w a len cap xs) (_ : xs.length ≤ 1048576) :
    Calls Try.prog 34 #[.slice a len cap, .int .i64 sh, .int .i64 rd, .int .i64 d, .int .i64 n] w (LendSheet_Post xs sh rd d n w) := by
  have hm := h.2.2.1
  have hcl := h.2.1
  unfold maxLen at hm
  obtain rfl := h.1
  obtain ⟨i0, hi, hz0, hz1, hz2⟩ := info_parts infoLoan
  have S := Lib.hid h
  clear h
  obtain ⟨q1, h1⟩ : ∃ q, areLo xs = q := ⟨_, rfl⟩
  obtain ⟨q2, h2⟩ : ∃ q, dayB d = q := ⟨_, rfl⟩
  obtain ⟨q3, h3⟩ : ∃ q, daysB n = q := ⟨_, rfl⟩
  obtain ⟨R, hR⟩ : ∃ R, xs ++ [lentL sh rd d n] = R := ⟨_, rfl⟩
  obtain ⟨q4, h4⟩ : ∃ q, areLo R = q := ⟨_, rfl⟩
  have E1 := Lib.hid (show LendSheet_1 xs sh rd d n = (q1 && (q2 && (q3 && q4))) from by unfold LendSheet_1; rw [h1, h2, h3, hR, h4])
  have E0 := Lib.hid (show LendSheet_0 xs sh rd d n = if (q1 && (q2 && (q3 && q4))) = true then R else [] from by unfold LendSheet_0; rw [E1.out, hR])
  have H1 := Lib.hid h1
  have H2 := Lib.hid h2
  have H3 := Lib.hid h3
  have H4 := Lib.hid h4
  have HR := Lib.hid hR
  clear h1 h2 h3 h4 hR
  go_enter Try.func34, Try.ntmps34
  go_wp2_with fail
  refine (l11Good_any _ _ _ xs _ S.out).mono ?_
  rintro e w1 ⟨rfl, hb⟩
  rw [H1.out]
  have B1 := Lib.hid hb
  have S1 := Lib.hid (S.out.below hb)
  have sz1 := hb.size
  have O1 := Lib.hid (made_ownLo w1 w.heap.size hb.size)
  clear hb
  cases q1
  · go_wp2
    go_ret2
    exact ⟨_, by rw [E1.out]; rfl, by rw [E0.out]; exact O1.out, Below.then' B1.out (bel_al1 _ _)⟩
  go_wp2_with fail
  refine (l2Day_any _ _).mono ?_
  rintro e w' ⟨rfl, rfl⟩
  rw [H2.out]
  cases q2
  · go_wp2
    go_ret2
    exact ⟨_, by rw [E1.out]; rfl, by rw [E0.out]; exact O1.out, Below.then' B1.out (bel_al1 _ _)⟩
  go_wp2_with fail
  refine (l11Days_any _ _).mono ?_
  rintro e w' ⟨rfl, rfl⟩
  rw [H3.out]
  cases q3
  · go_wp2
    go_ret2
    exact ⟨_, by rw [E1.out]; rfl, by rw [E0.out]; exact O1.out, Below.then' B1.out (bel_al1 _ _)⟩
  have hd' : 0 ≤ d ∧ d ≤ 4000 := inB_iff.1 H2.out
  have hn' : 1 ≤ n ∧ n ≤ 60 := inB_iff.1 H3.out
  have wr : IntKind.i64.wrap (d + n) = d + n := IntWalk.i64_in _ (by omega)
  have B0 := Lib.hid (Below.then' B1.out (bel_al1 w1 (.cells #[] 101)))
  have O0 := O1.out
  have SRC := srcLoan (S1.out.below (bel_al1 w1 (.cells #[] 101)))
  have SZ := Lib.hid (size_al w1 (.cells #[] 101))
  have L2 := Lib.hid (show R.length = xs.length + 1 from by rw [← HR.out]; simp)
  go_wp2_with (first | (at_builtin; refine wpList_append_list rfl (.tmp 27) (.tmp 28) 42 rfl w.heap.size 101 i0 (.agg #[.int .i64 0, .int .i64 0, .int .i64 0, .int .i64 0, .int .i64 0]) 5 40 Try.underlying42 hi hz0 hz1 hz2 rfl (by decide) _ _ _ rfl O0 _ xs.length cap (cellsLoan xs) rfl SRC (one_Lo xs) (by simp; unfold maxLen; omega) (by simp; omega) (by rw [SZ.out]; omega) ?_; intro v1 w2 hown1 hgrow1; have B2 := Lib.hid (B0.out.grown hgrow1 (by rw [SZ.out]; omega) (fun k e => by have := own_is e; omega)); rw [List.length_nil, Nat.zero_add, show cellsLoan [] ++ cellsLoan xs = cellsLoan xs from rfl] at hown1; have hown2 := hown1.alloc (.cells #[.int .i64 sh, .int .i64 rd, .int .i64 d, .int .i64 (d + n), .int .i64 (-1)] 101); clear hgrow1 hown1) | (at_builtin; refine wpList_append_own _ rfl (.tmp 29) (.tmp 37) 42 rfl w.heap.size 101 i0 (.agg #[.int .i64 0, .int .i64 0, .int .i64 0, .int .i64 0, .int .i64 0]) 5 40 Try.underlying42 hi hz0 hz1 hz2 rfl (by decide) _ _ _ rfl hown2 ⟨_, 0, none⟩ 1 1 (VLoan.vals (lentL sh rd d n)) rfl rfl (cell_Loan _ (lentL sh rd d n) _) (VLoan.vals_one _) (by unfold maxLen; omega) (by omega) (by have := B2.out.size; first | omega | (simp; omega)) ?_; intro v2 w3 hown3 hgrow2 hnil2))
  have B3 := Lib.hid ((Below.then' B2.out (bel_al1 w2 _)).grown hgrow2 (by have := B2.out.size; rw [size_al]; omega) (fun k e => (hown2.lt k e).1))
  have hown4 : w3.ownsRow w.heap.size 101 5 v2 R.length (cellsLoan R) := by rw [L2.out, ← HR.out, cellsLoan_snoc]; exact hown3
  have O3 := Lib.hid hown4
  clear hown2 hown3 hown4 hgrow2 hnil2 O0
  obtain ⟨a5, c5, e5, his, _⟩ := isLoanS_own O3.out
  subst e5
  have HIS := Lib.hid his
  clear his
  refine (l11Good_any _ _ _ R _ HIS.out).mono ?_
  rintro e w4 ⟨rfl, hb⟩
  rw [H4.out]
  have B4 := Lib.hid (Below.then' B3.out hb)
  have O4 := Lib.hid (ownsRow_below O3.out hb)
  clear hb
  cases q4
  · have O5 := Lib.hid (made_ownLo w4 w.heap.size B4.out.size)
    go_wp2
    go_ret2
    exact ⟨_, by rw [E1.out]; rfl, by rw [E0.out]; exact O5.out, Below.then' B4.out (bel_al1 _ _)⟩
  go_wp2
  go_ret2
  exact ⟨_, by rw [E1.out]; rfl, by rw [E0.out]; exact O4.out, B4.out⟩
end Go.Proofs.Ytffbljbgmgifnaa
