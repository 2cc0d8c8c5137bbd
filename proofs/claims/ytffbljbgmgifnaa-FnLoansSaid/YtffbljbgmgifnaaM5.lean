/- Texts in one: MnMx, LendSheetP, ReturnSheetP, ProlongLoanP, Los3, LoDr2, LoDr3, LoDr4. -/
import Derived.Test.YtffbljbgmgifnaaM2
import Derived.Test.YtffbljbgmgifnaaM3
import Derived.Test.YtffbljbgmgifnaaM4
namespace Go.Proofs.Ytffbljbgmgifnaa
open Go.RowKit
theorem l1Least_any (x y : Int) (w : World) :
    Calls Try.prog 85 #[.int .i64 x, .int .i64 y] w fun e w' => e = .returned (.int .i64 (min x y)) ∧ w = w' := by
  by_cases h : x < y
  · go_enter Try.func85, Try.ntmps85
    go_wp2
    go_ret
    exact ⟨ret_int (by omega), rfl⟩
  · go_enter Try.func85, Try.ntmps85
    go_wp2
    go_ret
    exact ⟨ret_int (by omega), rfl⟩
theorem l1Most_any (x y : Int) (w : World) :
    Calls Try.prog 131 #[.int .i64 x, .int .i64 y] w fun e w' => e = .returned (.int .i64 (max x y)) ∧ w = w' := by
  by_cases h : y < x
  · go_enter Try.func131, Try.ntmps131
    go_wp2
    go_ret
    exact ⟨ret_int (by omega), rfl⟩
  · go_enter Try.func131, Try.ntmps131
    go_wp2
    go_ret
    exact ⟨ret_int (by omega), rfl⟩
end Go.Proofs.Ytffbljbgmgifnaa
namespace Go.Proofs.Ytffbljbgmgifnaa
open Go.RowKit
def LendSheet_Post (z0 : List VLoan) (z1 : Int) (z2 : Int) (z3 : Int) (z4 : Int) (w : World) (e : Ending) (w' : World) : Prop :=
  ∃ v0 : Value, e = .returned (.tuple #[v0, .bool (LendSheet_1 z0 z1 z2 z3 z4)]) ∧ w'.ownsRow w.heap.size 101 5 v0 (LendSheet_0 z0 z1 z2 z3 z4).length (cellsLoan (LendSheet_0 z0 z1 z2 z3 z4)) ∧ Below w.heap.size w w'
end Go.Proofs.Ytffbljbgmgifnaa
namespace Go.Proofs.Ytffbljbgmgifnaa
open Go.RowKit
def ReturnSheet_Post (z0 : List VLoan) (z1 : Int) (z2 : Int) (w : World) (e : Ending) (w' : World) : Prop :=
  ∃ v0 : Value, e = .returned (.tuple #[v0, .int .i64 (ReturnSheet_1 z0 z1 z2), .bool (ReturnSheet_2 z0 z1 z2)]) ∧ w'.ownsRow w.heap.size 101 5 v0 (ReturnSheet_0 z0 z1 z2).length (cellsLoan (ReturnSheet_0 z0 z1 z2)) ∧ Below w.heap.size w w'
end Go.Proofs.Ytffbljbgmgifnaa
namespace Go.Proofs.Ytffbljbgmgifnaa
open Go.RowKit
def ProlongLoan_Post (z0 : List VLoan) (z1 : Int) (z2 : Int) (z3 : Int) (w : World) (e : Ending) (w' : World) : Prop :=
  ∃ v0 : Value, e = .returned (.tuple #[v0, .bool (ProlongLoan_1 z0 z1 z2 z3)]) ∧ w'.ownsRow w.heap.size 101 5 v0 (ProlongLoan_0 z0 z1 z2 z3).length (cellsLoan (ProlongLoan_0 z0 z1 z2 z3)) ∧ Below w.heap.size w w'
end Go.Proofs.Ytffbljbgmgifnaa
namespace Go.Proofs.Ytffbljbgmgifnaa
open Go.RowKit

theorem made_ownLo (w : World) (base : Nat) (h : base ≤ w.heap.size) : (w.alloc (.cells #[] 101)).ownsRow base 101 5 (.slice (some ⟨w.heap.size, 0, none⟩) 0 0) ([] : List VLoan).length (cellsLoan []) :=
  World.ownsRow_made (base := base) (e := 101) (size := 5) w #[] 0 h (Nat.zero_le _) rfl
theorem one_Lo (xs : List VLoan) : ∀ u ∈ cellsLoan xs, u.oneCell' = true := by
  intro u hu
  obtain ⟨s, _, hs⟩ := List.mem_flatMap.1 hu
  exact s.vals_one u hs
theorem l11Open_any (a : Option Addr) (len cap : Nat) (xs : List VLoan) (sh : Int) (w : World) (h : IsLoanS w a len cap xs) :
    Calls Try.prog 103 #[.slice a len cap, .int .i64 sh] w fun e w' => e = .returned (.int .i64 (lentAt xs sh)) ∧ Below w.heap.size w w' := by
  have hm := h.2.2.1
  have hcl := h.2.1
  unfold maxLen at hm
  obtain rfl := h.1
  have S := Lib.hid h
  clear h
  go_enter Try.func103, Try.ntmps103
  go_wp2
  go_loopw [5] (fun i wr => ∃ k : Nat, k ≤ xs.length ∧ i = .int .i64 k ∧ Below w.heap.size w wr ∧ ∀ j t, j < k → xs[j]? = some t → (t.Sheet == sh && decide (t.Back < 0)) = false) (fun i _ => xs.length - (intOf i).toNat)
  case atStart => exact ⟨0, Nat.zero_le _, rfl, Below.refl _ _, fun _ _ h => by omega⟩
  case round =>
    obtain ⟨k, hk, rfl, hbel, hall⟩ := hrel
    have A := Lib.hid hall
    have B := Lib.hid hbel
    clear hall
    by_cases hlt : k < xs.length
    · obtain ⟨s, hs⟩ : ∃ s, xs[k]? = some s := ⟨xs[k]'hlt, List.getElem?_eq_getElem _⟩
      obtain ⟨b, o, rfl, hb, hat⟩ := (S.out.below hbel).at (by omega)
      obtain ⟨c0, c1, c2, c3, c4⟩ := hat k s hs
      have HS := Lib.hid hs
      have hi0 : (0 : Int) ≤ (k : Int) := by omega
      have hi1 : (k : Int) < (xs.length : Int) := by omega
      clear hs hat hbel
      by_cases hsh : s.Sheet = sh
      · have s1 : (s.Sheet == sh) = true := by simp [hsh]
        have S1 := Lib.hid s1
        clear hsh
        by_cases hb0 : s.Back < 0
        · have E := Lib.hid (show lentAt xs sh = (k : Int) from firstOf_at HS.out (by rw [S1.out, decide_eq_true hb0]; rfl) A.out)
          go_wp2
          go_ret
          exact ⟨ret_int E.out.symm, B.out⟩
        · have N := Lib.hid (show (s.Sheet == sh && decide (s.Back < 0)) = false from by rw [decide_eq_false hb0]; simp)
          go_wp2
          go_roundw
          case rel => exact ⟨k + 1, by omega, by go_num, B.out, fun j t hj ht => by
            by_cases e : j = k
            · subst e; rw [HS.out] at ht; cases ht; exact N.out
            · exact A.out j t (by omega) ht⟩
          case measure => simp [intOf]; omega
      · have s1 : (s.Sheet == sh) = false := by simp [hsh]
        have N := Lib.hid (show (s.Sheet == sh && decide (s.Back < 0)) = false from by rw [s1]; rfl)
        clear hsh
        go_wp2
        go_roundw
        case rel => exact ⟨k + 1, by omega, by go_num, B.out, fun j t hj ht => by
          by_cases e : j = k
          · subst e; rw [HS.out] at ht; cases ht; exact N.out
          · exact A.out j t (by omega) ht⟩
        case measure => simp [intOf]; omega
    · obtain rfl : k = xs.length := by omega
      have E := Lib.hid (show lentAt xs sh = -1 from firstOf_no A.out)
      clear hbel
      go_wp2
      go_ret
      exact ⟨ret_int E.out.symm, B.out⟩
theorem l11Cap_any (n : Int) (w : World) :
    Calls Try.prog 144 #[.int .i64 n] w fun e w' => e = .returned (.int .i64 (min 1000 n)) ∧ w = w' := by
  go_enter Try.func144, Try.ntmps144
  go_wp2_with fail
  refine (l1Least_any _ _ _).mono ?_
  rintro e w' ⟨rfl, rfl⟩
  go_wp2
  go_ret
  exact ⟨rfl, rfl⟩
theorem l11Fine_any (s : VLoan) (d : Int) (w : World) (hs : s.ok = true) (hd : dayB d = true) :
    Calls Try.prog 104 #[.agg #[.int .i64 s.Sheet, .int .i64 s.Reader, .int .i64 s.Out, .int .i64 s.Due, .int .i64 s.Back], .int .i64 d] w fun e w' => e = .returned (.int .i64 (fineL s d)) ∧ Below w.heap.size w w' := by
  have hk := loOk_iff.1 hs
  have hd' : 0 ≤ d ∧ d ≤ 4000 := inB_iff.1 hd
  by_cases hb : 0 ≤ s.Back
  · obtain ⟨e, he⟩ : ∃ e, min d s.Back = e := ⟨_, rfl⟩
    have HE := Lib.hid (show endL s d = e from by unfold endL; rw [if_neg (by omega)]; exact he)
    have hb1 : 0 ≤ e ∧ e ≤ 4000 := by omega
    have w1 : IntKind.i64.wrap (e - s.Due) = e - s.Due := IntWalk.i64_in _ (by omega)
    obtain ⟨m, hm⟩ : ∃ m, max 0 (e - s.Due) = m := ⟨_, rfl⟩
    have hm1 : 0 ≤ m ∧ m ≤ 8000 := by omega
    have w2 : IntKind.i64.wrap (10 * m) = 10 * m := IntWalk.i64_in _ (by omega)
    have E := Lib.hid he
    have M := Lib.hid hm
    clear hk hs hd he hm
    go_enter Try.func104, Try.ntmps104
    go_wp2_with fail
    refine (l1Least_any _ _ _).mono ?_
    rintro e w' ⟨rfl, rfl⟩
    rw [E.out]
    go_wp2_with fail
    refine (l1Most_any _ _ _).mono ?_
    rintro e w' ⟨rfl, rfl⟩
    rw [M.out]
    go_wp2_with fail
    refine (l11Cap_any _ _).mono ?_
    rintro e w' ⟨rfl, rfl⟩
    go_wp2
    go_ret
    exact ⟨ret_int (by unfold fineL; rw [HE.out, M.out]), bel_al1 _ _⟩
  · have HE := Lib.hid (show endL s d = d from by unfold endL; rw [if_pos (by omega)])
    have w1 : IntKind.i64.wrap (d - s.Due) = d - s.Due := IntWalk.i64_in _ (by omega)
    obtain ⟨m, hm⟩ : ∃ m, max 0 (d - s.Due) = m := ⟨_, rfl⟩
    have hm1 : 0 ≤ m ∧ m ≤ 8000 := by omega
    have w2 : IntKind.i64.wrap (10 * m) = 10 * m := IntWalk.i64_in _ (by omega)
    have M := Lib.hid hm
    clear hk hs hd hm
    go_enter Try.func104, Try.ntmps104
    go_wp2_with fail
    refine (l1Most_any _ _ _).mono ?_
    rintro e w' ⟨rfl, rfl⟩
    rw [M.out]
    go_wp2_with fail
    refine (l11Cap_any _ _).mono ?_
    rintro e w' ⟨rfl, rfl⟩
    go_wp2
    go_ret
    exact ⟨ret_int (by unfold fineL; rw [HE.out, M.out]), bel_al1 _ _⟩
set_option maxHeartbeats 12800000 in
set_option maxRecDepth 100000 in
theorem specLendSheet_any (a : Option Addr) (len cap : Nat) (xs : List VLoan) (sh rd d n : Int) (w : World) (h : IsLoanS w a len cap xs) (_ : xs.length ≤ 1048576) :
    Calls Try.prog 34 #[.slice a len cap, .int .i64 sh, .int .i64 rd, .int .i64 d, .int .i64 n] w (LendSheet_Post xs sh rd d n w) := by
  have hm := h.2.2.1
  have hcl := h.2.1
  unfold maxLen at hm
  obtain rfl := h.1
  obtain ⟨i0, hi, hz0, hz1, hz2⟩ := info_parts infoLoan
  have S := Lib.hid h
  clear h
  obtain ⟨q1, h1⟩ : ∃ q, areLo xs = q := ⟨_, rfl⟩
  obtain ⟨q2, h2⟩ : ∃ q, dayB d = q := ⟨_, rfl⟩
  obtain ⟨q3, h3⟩ : ∃ q, daysB n = q := ⟨_, rfl⟩
  obtain ⟨R, hR⟩ : ∃ R, xs ++ [lentL sh rd d n] = R := ⟨_, rfl⟩
  obtain ⟨q4, h4⟩ : ∃ q, areLo R = q := ⟨_, rfl⟩
  have E1 := Lib.hid (show LendSheet_1 xs sh rd d n = (q1 && (q2 && (q3 && q4))) from by unfold LendSheet_1; rw [h1, h2, h3, hR, h4])
  have E0 := Lib.hid (show LendSheet_0 xs sh rd d n = if (q1 && (q2 && (q3 && q4))) = true then R else [] from by unfold LendSheet_0; rw [E1.out, hR])
  have H1 := Lib.hid h1
  have H2 := Lib.hid h2
  have H3 := Lib.hid h3
  have H4 := Lib.hid h4
  have HR := Lib.hid hR
  clear h1 h2 h3 h4 hR
  go_enter Try.func34, Try.ntmps34
  go_wp2_with fail
  refine (l11Good_any _ _ _ xs _ S.out).mono ?_
  rintro e w1 ⟨rfl, hb⟩
  rw [H1.out]
  have B1 := Lib.hid hb
  have S1 := Lib.hid (S.out.below hb)
  have sz1 := hb.size
  have O1 := Lib.hid (made_ownLo w1 w.heap.size hb.size)
  clear hb
  cases q1
  · go_wp2
    go_ret2
    exact ⟨_, by rw [E1.out]; rfl, by rw [E0.out]; exact O1.out, Below.then' B1.out (bel_al1 _ _)⟩
  go_wp2_with fail
  refine (l2Day_any _ _).mono ?_
  rintro e w' ⟨rfl, rfl⟩
  rw [H2.out]
  cases q2
  · go_wp2
    go_ret2
    exact ⟨_, by rw [E1.out]; rfl, by rw [E0.out]; exact O1.out, Below.then' B1.out (bel_al1 _ _)⟩
  go_wp2_with fail
  refine (l11Days_any _ _).mono ?_
  rintro e w' ⟨rfl, rfl⟩
  rw [H3.out]
  cases q3
  · go_wp2
    go_ret2
    exact ⟨_, by rw [E1.out]; rfl, by rw [E0.out]; exact O1.out, Below.then' B1.out (bel_al1 _ _)⟩
  have hd' : 0 ≤ d ∧ d ≤ 4000 := inB_iff.1 H2.out
  have hn' : 1 ≤ n ∧ n ≤ 60 := inB_iff.1 H3.out
  have wr : IntKind.i64.wrap (d + n) = d + n := IntWalk.i64_in _ (by omega)
  have B0 := Lib.hid (Below.then' B1.out (bel_al1 w1 (.cells #[] 101)))
  have O0 := O1.out
  have SRC := srcLoan (S1.out.below (bel_al1 w1 (.cells #[] 101)))
  have SZ := Lib.hid (size_al w1 (.cells #[] 101))
  have L2 := Lib.hid (show R.length = xs.length + 1 from by rw [← HR.out]; simp)
  go_wp2_with (first | (at_builtin; refine wpList_append_list rfl (.tmp 27) (.tmp 28) 42 rfl w.heap.size 101 i0 (.agg #[.int .i64 0, .int .i64 0, .int .i64 0, .int .i64 0, .int .i64 0]) 5 40 Try.underlying42 hi hz0 hz1 hz2 rfl (by decide) _ _ _ rfl O0 _ xs.length cap (cellsLoan xs) rfl SRC (one_Lo xs) (by simp; unfold maxLen; omega) (by simp; omega) (by rw [SZ.out]; omega) ?_; intro v1 w2 hown1 hgrow1; have B2 := Lib.hid (B0.out.grown hgrow1 (by rw [SZ.out]; omega) (fun k e => by have := own_is e; omega)); rw [List.length_nil, Nat.zero_add, show cellsLoan [] ++ cellsLoan xs = cellsLoan xs from rfl] at hown1; have hown2 := hown1.alloc (.cells #[.int .i64 sh, .int .i64 rd, .int .i64 d, .int .i64 (d + n), .int .i64 (-1)] 101); clear hgrow1 hown1) | (at_builtin; refine wpList_append_own _ rfl (.tmp 29) (.tmp 37) 42 rfl w.heap.size 101 i0 (.agg #[.int .i64 0, .int .i64 0, .int .i64 0, .int .i64 0, .int .i64 0]) 5 40 Try.underlying42 hi hz0 hz1 hz2 rfl (by decide) _ _ _ rfl hown2 ⟨_, 0, none⟩ 1 1 (VLoan.vals (lentL sh rd d n)) rfl rfl (cell_Loan _ (lentL sh rd d n) _) (VLoan.vals_one _) (by unfold maxLen; omega) (by omega) (by have := B2.out.size; first | omega | (simp; omega)) ?_; intro v2 w3 hown3 hgrow2 hnil2))
  have B3 := Lib.hid ((Below.then' B2.out (bel_al1 w2 _)).grown hgrow2 (by have := B2.out.size; rw [size_al]; omega) (fun k e => (hown2.lt k e).1))
  have hown4 : w3.ownsRow w.heap.size 101 5 v2 R.length (cellsLoan R) := by rw [L2.out, ← HR.out, cellsLoan_snoc]; exact hown3
  have O3 := Lib.hid hown4
  clear hown2 hown3 hown4 hgrow2 hnil2 O0
  obtain ⟨a5, c5, e5, his, _⟩ := isLoanS_own O3.out
  subst e5
  have HIS := Lib.hid his
  clear his
  refine (l11Good_any _ _ _ R _ HIS.out).mono ?_
  rintro e w4 ⟨rfl, hb⟩
  rw [H4.out]
  have B4 := Lib.hid (Below.then' B3.out hb)
  have O4 := Lib.hid (ownsRow_below O3.out hb)
  clear hb
  cases q4
  · have O5 := Lib.hid (made_ownLo w4 w.heap.size B4.out.size)
    go_wp2
    go_ret2
    exact ⟨_, by rw [E1.out]; rfl, by rw [E0.out]; exact O5.out, Below.then' B4.out (bel_al1 _ _)⟩
  go_wp2
  go_ret2
  exact ⟨_, by rw [E1.out]; rfl, by rw [E0.out]; exact O4.out, B4.out⟩
end Go.Proofs.Ytffbljbgmgifnaa
namespace Go.Proofs.Ytffbljbgmgifnaa
open Go.RowKit Go.Deep

/-- A list of some loans that the draw owns; only the cursor has turned. -/
def RowHere (bc : Nat) (a : Option Addr) (len cap t : Nat) (w : World) (v : Value) (wx : World) : Prop := ∃ xs : List VLoan, xs.length ≤ 20 ∧ (∀ s ∈ xs, LoanBd s) ∧ wx.ownsRow w.heap.size 101 5 v xs.length (cellsLoan xs) ∧ CurAt wx bc a len cap t ∧ w.grownBy wx (some bc)
def LoansDraw (bc : Nat) (a : Option Addr) (len cap t : Nat) (w : World) (e : Ending) (w' : World) : Prop := ∃ v, e = .returned v ∧ RowHere bc a len cap t w v w'
theorem own_keep {w w' : World} {base : Nat} {e : TypeId} {size n : Nat} {v : Value} {xs : List Value} (h : w.ownsRow base e size v n xs) (hk : ∀ b, v.ownBlock = some b → base ≤ b → b < w.heap.size → w'.heap[b]? = w.heap[b]?) : w'.ownsRow base e size v n xs := by
  refine ⟨h.1, ?_⟩
  rcases h.2 with h0 | ⟨g, cap, cur, rfl, hb, hh, r⟩
  · exact .inl h0
  · exact .inr ⟨g, cap, cur, rfl, hb, (hk g rfl hb (Array.getElem?_eq_some_iff.1 hh).1).trans hh, r⟩
theorem own_base {w : World} {base base' : Nat} {e : TypeId} {size n : Nat} {v : Value} {xs : List Value} (h : w.ownsRow base e size v n xs) (hb : base' ≤ base) : w.ownsRow base' e size v n xs := ownsRow_base h hb
theorem IsLoanS.cellsAt0 {w : World} {g len cap : Nat} {xs : List VLoan} (h : IsLoanS w (some ⟨g, 0, none⟩) len cap xs) {s : VLoan} (hs : xs[0]? = some s) : LoanAt w g 0 s := by
  obtain ⟨_, _, e, _, hat⟩ := h.at (by have := (List.getElem?_eq_some_iff.1 hs).1; have := h.1; omega)
  cases e
  simpa using hat 0 s hs
theorem IsLoanS.drop1 {w : World} {g len cap : Nat} {xs : List VLoan} (h : IsLoanS w (some ⟨g, 0, none⟩) len cap xs) (hl : 1 < len) : IsLoanS w (some ⟨g, 5, none⟩) (len - 1) (cap - 1) (xs.drop 1) := by
  refine ⟨by rw [List.length_drop, ← h.1], by have := h.2.1; omega, by have := h.2.2.1; omega, ?_⟩
  obtain ⟨b, o, e, hb, hat⟩ := h.at (by omega)
  cases e
  refine .inr ⟨g, 5, rfl, hb, fun k s hs => ?_⟩
  rw [List.getElem?_drop] at hs
  have := hat (1 + k) s hs
  rwa [show 0 + (1 + k) * 5 = 5 + k * 5 from by omega] at this
theorem lit_LL {w8 w9 : World} {y : VLoan} (h : (((w8.alloc (.cells #[] 101)).alloc (.cells #[.int .i64 y.Sheet, .int .i64 y.Reader, .int .i64 y.Out, .int .i64 y.Due, .int .i64 y.Back] 101)).drew).grownBy w9 (Value.slice (some ⟨w8.heap.size, 0, none⟩) 0 0).ownBlock) : ∀ j u, y.vals[j]? = some u → w9.cell? ((⟨w8.heap.size + 1, 0, none⟩ : Addr).add j) = some u := by
  intro j u hj
  have h1 := cell_Loan (w8.alloc (.cells #[] 101)) y 101 j u hj
  have e : (w8.alloc (.cells #[] 101)).heap.size = w8.heap.size + 1 := size_al _ _
  rw [e] at h1
  rw [add_plain] at h1 ⊢
  refine (World.cell?_of_block (a := ⟨w8.heap.size + 1, 0 + j, none⟩) (h.block _ (by show _ < ((w8.alloc _).alloc _).heap.size; rw [size_al, size_al]; exact Nat.lt_succ_self _) (fun e => by have : w8.heap.size + 1 = w8.heap.size := Option.some.inj e; omega))).trans h1
theorem lit_ML {w8 w9 : World} {y : VLoan} (h : (((w8.alloc (.cells #[.int .i64 y.Sheet, .int .i64 y.Reader, .int .i64 y.Out, .int .i64 y.Due, .int .i64 y.Back] 101)).alloc (.cells #[] 101)).drew).grownBy w9 (Value.slice (some ⟨w8.heap.size + 1, 0, none⟩) 0 0).ownBlock) : ∀ j u, y.vals[j]? = some u → w9.cell? ((⟨w8.heap.size, 0, none⟩ : Addr).add j) = some u := by
  intro j u hj
  have h1 := cell_Loan w8 y 101 j u hj
  rw [add_plain] at h1 ⊢
  have h2 : ((w8.alloc (.cells #[.int .i64 y.Sheet, .int .i64 y.Reader, .int .i64 y.Out, .int .i64 y.Due, .int .i64 y.Back] 101)).alloc (.cells #[] 101)).cell? ⟨w8.heap.size, 0 + j, none⟩ = some u := ((bel_al1 (w8.alloc (.cells #[.int .i64 y.Sheet, .int .i64 y.Reader, .int .i64 y.Out, .int .i64 y.Due, .int .i64 y.Back] 101)) (.cells #[] 101)).cell (p := ⟨w8.heap.size, 0 + j, none⟩) (by rw [size_al]; exact Nat.lt_succ_self _)).trans h1
  refine (World.cell?_of_block (a := ⟨w8.heap.size, 0 + j, none⟩) (h.block _ (by show _ < ((w8.alloc _).alloc _).heap.size; rw [size_al, size_al]; exact Nat.lt_succ_of_lt (Nat.lt_succ_self _)) (fun e => by have : w8.heap.size = w8.heap.size + 1 := Option.some.inj e; omega))).trans h2
def OneB (c : Value) : Prop := ∃ b : Bool, c = .bool b
set_option maxHeartbeats 12800000 in
set_option maxRecDepth 100000 in
theorem loans_any (bc : Nat) (a : Option Addr) (len cap t : Nat) (w : World) (hc : CurAt w bc a len cap t) (hd : CodeAt w a len cap bc) (ht : t ≤ 700000) :
    Calls Try.prog 83 #[.pointer (some ⟨bc, 0, none⟩)] w (LoansDraw bc a len cap (t + 400) w) := by
  obtain ⟨i0, hi, hz0, hz1, hz2⟩ := info_parts infoLoan
  have hlt := hc.lt
  have C := Lib.hid hc
  have D := Lib.hid hd
  have O0 := Lib.hid (made_ownLo w w.heap.size (Nat.le_refl _))
  have G0 := Lib.hid (grow_al (World.grownBy.refl w (some bc)) (.cells #[] 101))
  clear hc hd
  go_enter Try.func83, Try.ntmps83
  go_wp2_with fail
  refine (among_any bc a len cap _ (w.heap.size + 1) 0 4 4 (0) 3980 _ ((C.out.alloc _).alloc _) ((D.out.alloc _).alloc _) (by omega) (by omega) (by omega) (by omega) (by simp) ?_).mono ?_
  · refine ints_at _ _ _ (0) 3980 4 _ (size_al _ _) rfl ?_
    repeat (refine List.forall_mem_cons.2 ⟨⟨_, by omega, by omega, rfl⟩, ?_⟩)
    exact fun _ h => by cases h
  rintro e w1 ⟨d0, rfl, d00, d01, hc, hg⟩
  have C1 := Lib.hid hc
  have G1 := Lib.hid (grown_trans (grow_al G0.out _) hg)
  have O1 := Lib.hid (ownsRow_grown0 (O0.out.alloc _) hg (by intro k e; cases e; exact hlt))
  have D1 := Lib.hid (D.out.grown G1.out)
  clear hc hg
  go_wp2_with fail
  refine (pick_any bc a len cap _ 9 _ C1.out D1.out (by omega) (by omega) (by omega)).mono ?_
  rintro e w2 ⟨n, rfl, n0, n1, hc, hg⟩
  have C2 := Lib.hid hc
  have G2 := Lib.hid (grown_trans G1.out hg)
  have O2 := Lib.hid (ownsRow_grown0 O1.out hg (by intro k e; cases e; exact hlt))
  obtain ⟨n, rfl⟩ : ∃ m : Nat, n = m := ⟨n.toNat, by omega⟩
  have n8 : n ≤ 8 := by omega
  clear hc hg n0 n1
  go_wp2
  go_loopw [5, 3, 4] (fun i v z wr => ∃ (m : Nat) (dd : Int), m ≤ n ∧ i = .int .i64 m ∧ z = .int .i64 dd ∧ -((n : Int) - (m : Int)) ≤ dd ∧ dd ≤ 3980 + 20 * ((n : Int) - (m : Int)) ∧ (∃ xs : List VLoan, xs.length ≤ n - m ∧ (∀ s ∈ xs, LoanBd s) ∧ wr.ownsRow w.heap.size 101 5 v xs.length (cellsLoan xs)) ∧ CurAt wr bc a len cap (t + 6 + 40 * (n - m)) ∧ w.grownBy wr (some bc)) (fun i _ _ _ => (intOf i).toNat)
  case atStart => exact ⟨n, d0, Nat.le_refl _, rfl, rfl, by omega, by omega, ⟨[], by simp, by simp, O2.out⟩, C2.out.more (by omega), G2.out⟩
  case round =>
    obtain ⟨m, dd, hm, rfl, rfl, hd1, hd2, ⟨xs, hxl, hbd, hown⟩, hcur, hgr⟩ := hrel
    obtain ⟨a5, c5, rfl, his, _⟩ := isLoanS_own hown
    have O := Lib.hid hown
    have IS := Lib.hid his
    have BDX := Lib.hid hbd
    have CK := Lib.hid hcur
    have GK := Lib.hid hgr
    have DK := Lib.hid (D.out.grown hgr)
    have hsz := hgr.size
    have hccl := his.2.1
    have hccm := his.2.2.1
    unfold maxLen at hccm
    clear hown hbd hcur hgr his
    by_cases hm0 : m = 0
    · subst hm0
      go_wp2_with fail
      refine (one_any bc a len cap _ 24 _ CK.out DK.out (by omega) (by omega) (by omega)).mono ?_
      rintro e w3 ⟨b1, rfl, hc, hg⟩
      have C3 := Lib.hid hc
      have G3 := Lib.hid (grown_trans GK.out hg)
      have O3 := Lib.hid (ownsRow_grown0 O.out hg (by intro k e; cases e; exact hlt))
      have D3 := Lib.hid (D.out.grown G3.out)
      clear hc hg
      go_upto_if 43 with (fail)
      go_cut [3] (fun v wx => RowHere bc a len cap (t + 370) w v wx)
      case first =>
        cases b1
        · go_wp2
          go_meet
          exact ⟨xs, by omega, BDX.out, O3.out, C3.out.more (by omega), G3.out⟩
        · have M3 := Lib.hid (made_ownLo w3 w.heap.size G3.out.size)
          go_wp2
          go_loopw [7, 3] (fun i v wr => ∃ (j : Nat) (ys : List VLoan), j ≤ 16 ∧ i = .int .i64 j ∧ ys.length = j ∧ (∀ s ∈ ys, LoanBd s) ∧ wr.ownsRow w.heap.size 101 5 v ys.length (cellsLoan ys) ∧ CurAt wr bc a len cap (t + 330 + 2 * j) ∧ w.grownBy wr (some bc)) (fun i _ _ => 17 - (intOf i).toNat)
          case atStart => exact ⟨0, [], by omega, rfl, rfl, by simp, M3.out, (C3.out.alloc _).more (by omega), grow_al G3.out _⟩
          case round =>
            obtain ⟨j, ys, hj, rfl, hyl, hbd, hown, hcur, hgr⟩ := hrel
            have YL := Lib.hid hyl
            have BY := Lib.hid hbd
            have OY := Lib.hid hown
            have GY := Lib.hid hgr
            have CY := Lib.hid hcur
            have DY := Lib.hid (D.out.grown hgr)
            clear hyl hbd hown hgr hcur
            go_wp2_with fail
            refine (pick_any bc a len cap _ 2 _ CY.out DY.out (by omega) (by omega) (by omega)).mono ?_
            rintro e w4 ⟨p, rfl, p0, p1, hc, hg⟩
            have C4 := Lib.hid hc
            have G4 := Lib.hid (grown_trans GY.out hg)
            have O4 := Lib.hid (ownsRow_grown0 OY.out hg (by intro k e; cases e; exact hlt))
            have hs4 := G4.out.size
            clear hc hg
            obtain ⟨lim, hlim⟩ : ∃ m : Int, 15 + p = m := ⟨_, rfl⟩
            have hl1 : 15 ≤ lim ∧ lim ≤ 16 := by omega
            have v1 : IntKind.i64.wrap (15 + p) = lim := (IntWalk.i64_in _ (by omega)).trans hlim
            clear hlim
            by_cases hjl : (j : Int) < lim
            · have v2 : IntKind.i64.wrap ((j : Int) + 1) = (j : Int) + 1 := IntWalk.i64_in _ (by omega)
              have v3 : IntKind.i64.wrap ((j : Int) + 14) = (j : Int) + 14 := IntWalk.i64_in _ (by omega)
              have hown2 := O4.out.alloc (.cells #[.int .i64 ((j : Int) + 1), .int .i64 1, .int .i64 (j : Int), .int .i64 ((j : Int) + 14), .int .i64 (-1)] 101)
              have G5 := Lib.hid (grow_al G4.out (.cells #[.int .i64 ((j : Int) + 1), .int .i64 1, .int .i64 (j : Int), .int .i64 ((j : Int) + 14), .int .i64 (-1)] 101))
              have C5 := Lib.hid (C4.out.alloc (.cells #[.int .i64 ((j : Int) + 1), .int .i64 1, .int .i64 (j : Int), .int .i64 ((j : Int) + 14), .int .i64 (-1)] 101))
              have hs5 := G5.out.size
              have yl : ys.length ≤ 16 := by rw [YL.out]; exact hj
              go_wp2_with (at_builtin; refine wpList_append_own _ rfl _ _ 42 rfl w.heap.size 101 i0 (.agg #[.int .i64 0, .int .i64 0, .int .i64 0, .int .i64 0, .int .i64 0]) 5 40 Try.underlying42 hi hz0 hz1 hz2 rfl (by decide) _ _ _ rfl hown2 ⟨_, 0, none⟩ 1 1 (VLoan.vals ⟨(j : Int) + 1, 1, (j : Int), (j : Int) + 14, -1⟩) rfl rfl (cell_Loan _ ⟨(j : Int) + 1, 1, (j : Int), (j : Int) + 14, -1⟩ _) (VLoan.vals_one _) (by unfold maxLen; omega) (by omega) hs5 ?_; intro v2 w5 hown3 hgrow2 hnil2)
              have G6 := Lib.hid (grown_own0 G5.out hgrow2 (fun k e => (hown2.lt k e).1))
              have C6 := Lib.hid (C5.out.grown hgrow2 (fun e => by have := (hown2.lt _ e.symm).1; omega))
              have O6 := Lib.hid (show w5.ownsRow w.heap.size 101 5 v2 (ys ++ [(⟨(j : Int) + 1, 1, (j : Int), (j : Int) + 14, -1⟩ : VLoan)]).length (cellsLoan (ys ++ [⟨(j : Int) + 1, 1, (j : Int), (j : Int) + 14, -1⟩])) from by
                rw [cellsLoan_snoc, List.length_append, List.length_singleton]; exact hown3)
              clear hown2 hown3 hgrow2 hnil2 hs5 yl
              go_roundw
              case rel => exact ⟨j + 1, _, by omega, by go_num, by rw [List.length_append, YL.out]; rfl, fun x hx => (List.mem_append.1 hx).elim (BY.out x) (fun e => by rw [List.mem_singleton.1 e]; exact loanBd_mk (by omega) (by omega) (by omega) (by omega) (by omega)), O6.out, C6.out.more (by omega), G6.out⟩
              case measure => first | (simp [intOf]; done) | (simp [intOf]; omega)
            · go_wp2
              go_meet
              exact ⟨ys, by rw [YL.out]; omega, BY.out, O4.out, C4.out.more (by omega), G4.out⟩
      case rest =>
      obtain ⟨ys, hyl, hbd, hown, hcur, hgr⟩ := hcut
      rename Value => vo
      rename World => wo
      obtain ⟨a7, c7, rfl, his7, _⟩ := isLoanS_own hown
      have OY := Lib.hid hown
      have BY := Lib.hid hbd
      have CY := Lib.hid hcur
      have GY := Lib.hid hgr
      have DY := Lib.hid (D.out.grown hgr)
      have hm7 := his7.2.2.1
      have hc7 := his7.2.1
      have IY := Lib.hid his7
      unfold maxLen at hm7
      clear hown hbd hcur hgr his7
      go_wp2_with fail
      refine (one_any bc a len cap _ 60 _ CY.out DY.out (by omega) (by omega) (by omega)).mono ?_
      rintro e w8 ⟨b2, rfl, hc, hg⟩
      have C8 := Lib.hid hc
      have G8 := Lib.hid (grown_trans GY.out hg)
      have O8 := Lib.hid (ownsRow_grown0 OY.out hg (by intro k e; cases e; exact hlt))
      clear hc hg
      have FINI := Lib.hid (show ∀ (zs : List VLoan) (v : Value) (W : World), zs.length ≤ 20 → (∀ s ∈ zs, LoanBd s) → W.ownsRow w.heap.size 101 5 v zs.length (cellsLoan zs) → CurAt W bc a len cap (t + 380) → w.grownBy W (some bc) → RowHere bc a len cap (t + 400) w v W from fun zs v W h1 h2 h3 h4 h5 => ⟨zs, h1, h2, h3, h4.more (by omega), h5⟩)
      cases b2
      · go_wp2
        go_ret
        exact ⟨_, rfl, FINI.out ys _ _ hyl BY.out O8.out (C8.out.more (by omega)) G8.out⟩
      by_cases hl1 : 1 < ys.length
      case neg =>
        have hl2 : ¬ (1 : Int) < (ys.length : Int) := by omega
        have hl3 : decide ((1 : Int) < (ys.length : Int)) = false := decide_eq_false hl2
        have hl4 : decide (1 < ys.length) = false := decide_eq_false hl1
        go_wp2
        go_ret
        exact ⟨_, rfl, FINI.out ys _ _ hyl BY.out O8.out (C8.out.more (by omega)) G8.out⟩
      have hl2 : (1 : Int) < (ys.length : Int) := by omega
      obtain ⟨g, cap1, e9, hg9, hn9, hcap9⟩ := own_some O8.out (by omega)
      cases e9
      obtain ⟨a9, c9, e9, his9, _⟩ := isLoanS_own O8.out
      cases e9
      have IS := Lib.hid his9
      obtain ⟨y, hy⟩ : ∃ y, ys[0]? = some y := ⟨ys[0], List.getElem?_eq_getElem _⟩
      obtain ⟨c0, c1, c2, c3, c4⟩ := his9.cellsAt0 hy
      have hgl : g < w8.heap.size := (O8.out.lt g rfl).2
      have hgn : ¬ g = w8.heap.size := by omega
      have HY := Lib.hid hy
      have k1 : (1 : Int) ≤ (ys.length : Int) := by omega
      have k2 : (1 : Int) ≤ (c7 : Int) := by omega
      have k3 : ¬ c7 = 1 := by omega
      clear his9 hy
      go_wp2
      have B0 := Lib.hid (Below.refl w8.heap.size w8)
      have RR := Lib.hid (show (ys.drop 1 ++ [y]).length = ys.length - 1 + 1 from by rw [List.length_append, List.length_drop]; rfl)
      have SRC0 := Lib.hid (show ∀ W : World, Below w8.heap.size w8 W → SrcAt W (some ⟨g, 5, none⟩) (ys.length - 1) 5 (cellsLoan (ys.drop 1)) from fun W hb => srcLoan ((IS.out.below hb).drop1 hl1))
      have W1 := Lib.hid (show Below w8.heap.size w8 ((w8.alloc (.cells #[] 101)).drew) from bel_drew' (bel_al1 w8 (.cells #[] 101)))
      have W2 := Lib.hid (show Below w8.heap.size w8 (((w8.alloc (.cells #[] 101)).alloc (.cells #[.int .i64 y.Sheet, .int .i64 y.Reader, .int .i64 y.Out, .int .i64 y.Due, .int .i64 y.Back] 101)).drew) from bel_drew' (bel_al2 w8 (.cells #[] 101) (.cells #[.int .i64 y.Sheet, .int .i64 y.Reader, .int .i64 y.Out, .int .i64 y.Due, .int .i64 y.Back] 101)))
      have W3 := Lib.hid (show Below w8.heap.size w8 (((w8.alloc (.cells #[.int .i64 y.Sheet, .int .i64 y.Reader, .int .i64 y.Out, .int .i64 y.Due, .int .i64 y.Back] 101)).alloc (.cells #[] 101)).drew) from bel_drew' (bel_al2 w8 (.cells #[.int .i64 y.Sheet, .int .i64 y.Reader, .int .i64 y.Out, .int .i64 y.Due, .int .i64 y.Back] 101) (.cells #[] 101)))
      have M1 := Lib.hid (show ((w8.alloc (.cells #[] 101)).drew).ownsRow w8.heap.size 101 5 (.slice (some ⟨w8.heap.size, 0, none⟩) 0 0) 0 (cellsLoan []) from made_ownLo w8 w8.heap.size (Nat.le_refl _))
      have M2 := Lib.hid (show (((w8.alloc (.cells #[] 101)).alloc (.cells #[.int .i64 y.Sheet, .int .i64 y.Reader, .int .i64 y.Out, .int .i64 y.Due, .int .i64 y.Back] 101)).drew).ownsRow w8.heap.size 101 5 (.slice (some ⟨w8.heap.size, 0, none⟩) 0 0) 0 (cellsLoan []) from (made_ownLo w8 w8.heap.size (Nat.le_refl _)).alloc (.cells #[.int .i64 y.Sheet, .int .i64 y.Reader, .int .i64 y.Out, .int .i64 y.Due, .int .i64 y.Back] 101))
      have M3 := Lib.hid (show (((w8.alloc (.cells #[.int .i64 y.Sheet, .int .i64 y.Reader, .int .i64 y.Out, .int .i64 y.Due, .int .i64 y.Back] 101)).alloc (.cells #[] 101)).drew).ownsRow w8.heap.size 101 5 (.slice (some ⟨w8.heap.size + 1, 0, none⟩) 0 0) 0 (cellsLoan []) from by
        have h := made_ownLo (w8.alloc (.cells #[.int .i64 y.Sheet, .int .i64 y.Reader, .int .i64 y.Out, .int .i64 y.Due, .int .i64 y.Back] 101)) w8.heap.size (by rw [size_al]; exact Nat.le_succ _)
        rw [size_al] at h; exact h)
      have k0 : 0 < ys.length := by omega
      go_region_law (first
        | (refine step_append_list (by rfl) (.tmp 68) (.tmp 70) 42 (by rfl) w8.heap.size 101 i0 (.agg #[.int .i64 0, .int .i64 0, .int .i64 0, .int .i64 0, .int .i64 0]) 5 40 Try.underlying42 hi hz0 hz1 hz2 (by rfl) (by decide) _ 0 (cellsLoan []) (by simp [Act.eval]; rfl) (by first | exact M1.out | exact M2.out | exact M3.out) (some ⟨g, 5, none⟩) (ys.length - 1) (c7 - 1) (cellsLoan (ys.drop 1)) (by simp [Act.eval]) (by first | exact SRC0.out _ W1.out | exact SRC0.out _ W2.out | exact SRC0.out _ W3.out) (one_Lo _) (by unfold maxLen; omega) (by omega) (by first | exact W1.out.size | exact W2.out.size | exact W3.out.size) ?_; intro v5 w9 hown5 hgrow5; rw [Nat.zero_add, show cellsLoan [] ++ cellsLoan (ys.drop 1) = cellsLoan (ys.drop 1) from rfl] at hown5
           have B5 := Lib.hid (show Below w8.heap.size w8 w9 from by first | exact W1.out.grown hgrow5 W1.out.size (fun k e => by have := own_is e; omega) | exact W2.out.grown hgrow5 W2.out.size (fun k e => by have := own_is e; omega) | exact W3.out.grown hgrow5 W3.out.size (fun k e => by have := own_is e; omega))
           have O5 := Lib.hid hown5
           have hs5 := B5.out.size
           obtain ⟨e0, e1, e2, e3, e4⟩ := (IS.out.below B5.out).cellsAt0 HY.out
           try have N5 := Lib.hid (lit_LL hgrow5)
           try have N5 := Lib.hid (lit_ML hgrow5)
           clear hown5 hgrow5)
        | (refine step_append_list (by rfl) (.tmp 71) (.tmp 75) 42 (by rfl) w8.heap.size 101 i0 (.agg #[.int .i64 0, .int .i64 0, .int .i64 0, .int .i64 0, .int .i64 0]) 5 40 Try.underlying42 hi hz0 hz1 hz2 (by rfl) (by decide) _ (ys.length - 1) (cellsLoan (ys.drop 1)) (by simp [Act.eval]; rfl) (by first | exact O5.out | exact O5.out.alloc _) _ 1 1 (VLoan.vals y) (by simp [Act.eval]; rfl) ⟨rfl, .inr ⟨_, rfl, by first | exact N5.out | exact cell_Loan w9 y _⟩⟩ (VLoan.vals_one _) (by unfold maxLen; omega) (by omega) (by first | exact hs5 | (rw [size_al]; exact Nat.le_succ_of_le hs5)) ?_; intro v6 w10 hown6 hgrow6
           have B6 := Lib.hid (show Below w8.heap.size w8 w10 from by first | exact B5.out.grown hgrow6 hs5 (fun k e => (O5.out.lt k e).1) | exact (Below.then' B5.out (bel_al1 _ _)).grown hgrow6 (Below.then' B5.out (bel_al1 _ _)).size (fun k e => (O5.out.lt k e).1))
           have O6 := Lib.hid hown6
           clear hown6 hgrow6))
      all_goals
        have OF := Lib.hid (show w10.ownsRow w.heap.size 101 5 v6 (ys.drop 1 ++ [y]).length (cellsLoan (ys.drop 1 ++ [y])) from by rw [RR.out, cellsLoan_snoc]; exact ownsRow_base O6.out G8.out.size)
        have CF := Lib.hid ((C8.out.heap (B6.out.block bc C8.out.lt)).more (show _ ≤ t + 380 by omega))
        have GF := Lib.hid (grown_trans G8.out (grown_below B6.out _))
        have BF := Lib.hid (show ∀ s ∈ ys.drop 1 ++ [y], LoanBd s from fun s hs => (List.mem_append.1 hs).elim (fun h => BY.out s (List.mem_of_mem_drop h)) (fun e => by rw [List.mem_singleton.1 e]; exact BY.out y (List.mem_of_getElem? HY.out)))
        go_wp2
        go_ret
        exact ⟨_, rfl, FINI.out _ _ _ (by rw [RR.out]; omega) BF.out OF.out CF.out GF.out⟩
    · have m1 : (0 : Int) < (m : Int) := by omega
      have O6 := made_ownLo wr wr.heap.size (Nat.le_refl _)
      have SRC := srcLoan (IS.out.below (bel_al1 wr (.cells #[] 101)))
      have SZ := Lib.hid (size_al wr (.cells #[] 101))
      have C6 := Lib.hid (CK.out.alloc (.cells #[] 101))
      have G6 := Lib.hid (grow_al GK.out (.cells #[] 101))
      have B6 := Lib.hid (bel_al1 wr (.cells #[] 101))
      go_wp2_with (first
        | (at_builtin; refine wpList_append_list rfl (.tmp 18) (.tmp 19) 42 rfl wr.heap.size 101 i0 (.agg #[.int .i64 0, .int .i64 0, .int .i64 0, .int .i64 0, .int .i64 0]) 5 40 Try.underlying42 hi hz0 hz1 hz2 rfl (by decide) _ _ _ rfl O6 _ xs.length c5 (cellsLoan xs) rfl SRC (one_Lo xs) (by simp; unfold maxLen; omega) (by simp; omega) (by rw [SZ.out]; omega) ?_; intro v1 w3 hown1 hgrow1; rw [List.length_nil, Nat.zero_add, show cellsLoan [] ++ cellsLoan xs = cellsLoan xs from rfl] at hown1; have O7 := Lib.hid hown1; have G7 := Lib.hid (grown_own0 G6.out hgrow1 (fun k e => by have := own_is e; omega)); have C7 := Lib.hid (C6.out.grown hgrow1 (fun e => by have := own_is e.symm; omega)); have OO7 := Lib.hid (ownsRow_below O.out (B6.out.grown hgrow1 (by rw [SZ.out]; omega) (fun k e => by have := own_is e; omega))); have h37 : wr.heap.size ≤ w3.heap.size := (by have := hgrow1.size; rw [SZ.out] at this; omega); have D7 := Lib.hid (D.out.grown G7.out); clear hgrow1 hown1)
        | (go_at_call 135; refine (loan_any bc a len cap _ dd _ C7.out D7.out (by omega) (by omega)).mono ?_; rintro e w4 ⟨s, rfl, hbs, hc, hg⟩; have BS := Lib.hid hbs; have C8 := Lib.hid (hc.alloc (.cells #[.int .i64 s.Sheet, .int .i64 s.Reader, .int .i64 s.Out, .int .i64 s.Due, .int .i64 s.Back] 101)); have G8 := Lib.hid (grow_al (grown_trans G7.out hg) (.cells #[.int .i64 s.Sheet, .int .i64 s.Reader, .int .i64 s.Out, .int .i64 s.Due, .int .i64 s.Back] 101)); have O8 := Lib.hid (ownsRow_grown0 O7.out hg (by intro k e; cases e; omega)); have OO8 := Lib.hid (ownsRow_below (ownsRow_grown0 OO7.out hg (by intro k e; cases e; exact hlt)) (bel_al1 _ (.cells #[.int .i64 s.Sheet, .int .i64 s.Reader, .int .i64 s.Out, .int .i64 s.Due, .int .i64 s.Back] 101))); have hs8 := G8.out.size; have hs9 : wr.heap.size ≤ (w4.alloc (.cells #[.int .i64 s.Sheet, .int .i64 s.Reader, .int .i64 s.Out, .int .i64 s.Due, .int .i64 s.Back] 101)).heap.size := (by rw [size_al]; have := hg.size; omega); have hown2 := O8.out.alloc (.cells #[.int .i64 s.Sheet, .int .i64 s.Reader, .int .i64 s.Out, .int .i64 s.Due, .int .i64 s.Back] 101); clear hbs hc hg)
        | (at_builtin; refine wpList_append_own _ rfl (.tmp 20) (.tmp 24) 42 rfl wr.heap.size 101 i0 (.agg #[.int .i64 0, .int .i64 0, .int .i64 0, .int .i64 0, .int .i64 0]) 5 40 Try.underlying42 hi hz0 hz1 hz2 rfl (by decide) _ _ _ rfl hown2 ⟨_, 0, none⟩ 1 1 (VLoan.vals s) rfl rfl (cell_Loan _ s _) (VLoan.vals_one _) (by unfold maxLen; omega) (by omega) hs9 ?_; intro v2 w5 hown3 hgrow2 hnil2))
      have G9 := Lib.hid (grown_own0 G8.out hgrow2 (fun k e => by have := (hown2.lt k e).1; omega))
      have C9 := Lib.hid (C8.out.grown hgrow2 (fun e => by have := (hown2.lt _ e.symm).1; omega))
      have OO9 := Lib.hid (own_keep OO8.out (fun b e _ h2 => hgrow2.block b h2 (fun e2 => by have q1 := (hown2.lt b e2.symm).1; have q2 := (O.out.lt b e).2; omega)))
      have hown4 : w5.ownsRow w.heap.size 101 5 v2 (xs ++ [s]).length (cellsLoan (xs ++ [s])) := by
        rw [cellsLoan_snoc, List.length_append, List.length_singleton]; exact ownsRow_base hown3 hsz
      have O9 := Lib.hid hown4
      obtain ⟨a6, c6, rfl, his, _⟩ := isLoanS_own hown4
      have IS9 := Lib.hid his
      have BDR := Lib.hid (show ∀ x ∈ xs ++ [s], LoanBd x from fun x hx => (List.mem_append.1 hx).elim (BDX.out x) (fun e => by rw [List.mem_singleton.1 e]; exact BS.out))
      obtain ⟨R, hR⟩ : ∃ R, xs ++ [s] = R := ⟨_, rfl⟩
      have RL : R.length = xs.length + 1 := by rw [← hR]; simp
      rw [hR] at O9 IS9 BDR
      rw [hR]
      obtain ⟨k, rfl⟩ : ∃ k, m = k + 1 := ⟨m - 1, by omega⟩
      obtain ⟨q, hq⟩ : ∃ q, areLo R = q := ⟨_, rfl⟩
      have Q := Lib.hid hq
      have RLH := Lib.hid RL
      clear hgrow2 hnil2 hown2 hown3 hown4 his hR hq RL hs8 hs9 h37
      refine (l11Good_any _ _ _ R _ IS9.out).mono ?_
      rintro e w6 ⟨rfl, hb⟩
      rw [Q.out]
      have G10 := Lib.hid (grown_trans G9.out (grown_below hb _))
      have C10a := Lib.hid (C9.out.heap (hb.block bc C9.out.lt))
      have OA := Lib.hid (ownsRow_below O9.out hb)
      have OB := Lib.hid (ownsRow_below OO9.out hb)
      have D10a := Lib.hid (D.out.grown G10.out)
      clear hb
      cases q
      · go_wp2_with fail
        refine (one_any bc a len cap _ 40 _ C10a.out D10a.out (by omega) (by omega) (by omega)).mono ?_
        rintro e w7 ⟨b, rfl, hc, hg⟩
        have C13 := Lib.hid hc
        have G13 := Lib.hid (grown_trans G10.out hg)
        have OA13 := Lib.hid (ownsRow_grown0 OA.out hg (by intro k e; cases e; exact hlt))
        have OB13 := Lib.hid (ownsRow_grown0 OB.out hg (by intro k e; cases e; exact hlt))
        clear hc hg
        cases b
        · have := trivial
          have D10 := Lib.hid (D.out.grown G13.out)
          have C10 := Lib.hid (C13.out.alloc (.cells #[.int .i64 0, .int .i64 1, .int .i64 5, .int .i64 14, .int .i64 20] 3))
          have hc10 := C13.out.lt
          go_wp2_with fail
          refine (among_any bc a len cap _ w7.heap.size 0 5 5 (0) 20 _ C10.out (D10.out.alloc _) (by omega) (by omega) (by omega) (by have := G13.out.size; omega) (by simp) ?_).mono ?_
          · refine ints_at _ _ _ (0) 20 5 _ rfl rfl ?_
            repeat (refine List.forall_mem_cons.2 ⟨⟨_, by omega, by omega, rfl⟩, ?_⟩)
            exact fun _ h => by cases h
          rintro e w8 ⟨y, rfl, y0, y1, hc, hg⟩
          have C11 := Lib.hid hc
          have G11 := Lib.hid (grown_trans (grow_al G13.out _) hg)
          have O11 := Lib.hid (ownsRow_grown0 (ownsRow_below OB13.out (bel_al1 _ (.cells #[.int .i64 0, .int .i64 1, .int .i64 5, .int .i64 14, .int .i64 20] 3))) hg (by intro k e; cases e; exact hlt))
          have D11 := Lib.hid (D.out.grown G11.out)
          clear hc hg hc10
          go_wp2_with fail
          refine (pick_any bc a len cap _ 150 _ C11.out D11.out (by omega) (by omega) (by omega)).mono ?_
          rintro e w9 ⟨p, rfl, p0, p1, hc, hg⟩
          have C12 := Lib.hid hc
          have G12 := Lib.hid (grown_trans G11.out hg)
          have O12 := Lib.hid (ownsRow_grown0 O11.out hg (by intro k e; cases e; exact hlt))
          clear hc hg
          obtain ⟨z, hz⟩ : ∃ z, p / 149 = z := ⟨_, rfl⟩
          have hz1 : 0 ≤ z ∧ z ≤ 1 := by omega
          have t1 : p.tdiv 149 = z := by rw [Int.tdiv_eq_ediv_of_nonneg (by omega)]; exact hz
          have t2 : IntKind.i64.wrap z = z := IntWalk.i64_in _ (by omega)
          have t3 : IntKind.i64.wrap (dd + y) = dd + y := IntWalk.i64_in _ (by omega)
          have t4 : IntKind.i64.wrap (dd + y - z) = dd + y - z := IntWalk.i64_in _ (by omega)
          go_wp2
          go_roundw
          case rel => exact ⟨k, dd + y - z, by omega, by first | rfl | go_num | (congr 1; omega), by first | rfl | (congr 1; omega), by omega, by omega, ⟨xs, (by omega), BDX.out, O12.out⟩, C12.out.more (by omega), G12.out⟩
          case measure => first | (simp [intOf]; done) | (simp [intOf]; omega)
        · have := trivial
          have D10 := Lib.hid (D.out.grown G13.out)
          have C10 := Lib.hid (C13.out.alloc (.cells #[.int .i64 0, .int .i64 1, .int .i64 5, .int .i64 14, .int .i64 20] 3))
          have hc10 := C13.out.lt
          go_wp2_with fail
          refine (among_any bc a len cap _ w7.heap.size 0 5 5 (0) 20 _ C10.out (D10.out.alloc _) (by omega) (by omega) (by omega) (by have := G13.out.size; omega) (by simp) ?_).mono ?_
          · refine ints_at _ _ _ (0) 20 5 _ rfl rfl ?_
            repeat (refine List.forall_mem_cons.2 ⟨⟨_, by omega, by omega, rfl⟩, ?_⟩)
            exact fun _ h => by cases h
          rintro e w8 ⟨y, rfl, y0, y1, hc, hg⟩
          have C11 := Lib.hid hc
          have G11 := Lib.hid (grown_trans (grow_al G13.out _) hg)
          have O11 := Lib.hid (ownsRow_grown0 (ownsRow_below OA13.out (bel_al1 _ (.cells #[.int .i64 0, .int .i64 1, .int .i64 5, .int .i64 14, .int .i64 20] 3))) hg (by intro k e; cases e; exact hlt))
          have D11 := Lib.hid (D.out.grown G11.out)
          clear hc hg hc10
          go_wp2_with fail
          refine (pick_any bc a len cap _ 150 _ C11.out D11.out (by omega) (by omega) (by omega)).mono ?_
          rintro e w9 ⟨p, rfl, p0, p1, hc, hg⟩
          have C12 := Lib.hid hc
          have G12 := Lib.hid (grown_trans G11.out hg)
          have O12 := Lib.hid (ownsRow_grown0 O11.out hg (by intro k e; cases e; exact hlt))
          clear hc hg
          obtain ⟨z, hz⟩ : ∃ z, p / 149 = z := ⟨_, rfl⟩
          have hz1 : 0 ≤ z ∧ z ≤ 1 := by omega
          have t1 : p.tdiv 149 = z := by rw [Int.tdiv_eq_ediv_of_nonneg (by omega)]; exact hz
          have t2 : IntKind.i64.wrap z = z := IntWalk.i64_in _ (by omega)
          have t3 : IntKind.i64.wrap (dd + y) = dd + y := IntWalk.i64_in _ (by omega)
          have t4 : IntKind.i64.wrap (dd + y - z) = dd + y - z := IntWalk.i64_in _ (by omega)
          go_wp2
          go_roundw
          case rel => exact ⟨k, dd + y - z, by omega, by first | rfl | go_num | (congr 1; omega), by first | rfl | (congr 1; omega), by omega, by omega, ⟨R, (by rw [RLH.out]; omega), BDR.out, O12.out⟩, C12.out.more (by omega), G12.out⟩
          case measure => first | (simp [intOf]; done) | (simp [intOf]; omega)
      · have := trivial
        have D10 := Lib.hid (D.out.grown G10.out)
        have C10 := Lib.hid (C10a.out.alloc (.cells #[.int .i64 0, .int .i64 1, .int .i64 5, .int .i64 14, .int .i64 20] 3))
        have hc10 := C10a.out.lt
        go_wp2_with fail
        refine (among_any bc a len cap _ w6.heap.size 0 5 5 (0) 20 _ C10.out (D10.out.alloc _) (by omega) (by omega) (by omega) (by have := G10.out.size; omega) (by simp) ?_).mono ?_
        · refine ints_at _ _ _ (0) 20 5 _ rfl rfl ?_
          repeat (refine List.forall_mem_cons.2 ⟨⟨_, by omega, by omega, rfl⟩, ?_⟩)
          exact fun _ h => by cases h
        rintro e w8 ⟨y, rfl, y0, y1, hc, hg⟩
        have C11 := Lib.hid hc
        have G11 := Lib.hid (grown_trans (grow_al G10.out _) hg)
        have O11 := Lib.hid (ownsRow_grown0 (ownsRow_below OA.out (bel_al1 _ (.cells #[.int .i64 0, .int .i64 1, .int .i64 5, .int .i64 14, .int .i64 20] 3))) hg (by intro k e; cases e; exact hlt))
        have D11 := Lib.hid (D.out.grown G11.out)
        clear hc hg hc10
        go_wp2_with fail
        refine (pick_any bc a len cap _ 150 _ C11.out D11.out (by omega) (by omega) (by omega)).mono ?_
        rintro e w9 ⟨p, rfl, p0, p1, hc, hg⟩
        have C12 := Lib.hid hc
        have G12 := Lib.hid (grown_trans G11.out hg)
        have O12 := Lib.hid (ownsRow_grown0 O11.out hg (by intro k e; cases e; exact hlt))
        clear hc hg
        obtain ⟨z, hz⟩ : ∃ z, p / 149 = z := ⟨_, rfl⟩
        have hz1 : 0 ≤ z ∧ z ≤ 1 := by omega
        have t1 : p.tdiv 149 = z := by rw [Int.tdiv_eq_ediv_of_nonneg (by omega)]; exact hz
        have t2 : IntKind.i64.wrap z = z := IntWalk.i64_in _ (by omega)
        have t3 : IntKind.i64.wrap (dd + y) = dd + y := IntWalk.i64_in _ (by omega)
        have t4 : IntKind.i64.wrap (dd + y - z) = dd + y - z := IntWalk.i64_in _ (by omega)
        go_wp2
        go_roundw
        case rel => exact ⟨k, dd + y - z, by omega, by first | rfl | go_num | (congr 1; omega), by first | rfl | (congr 1; omega), by omega, by omega, ⟨R, (by rw [RLH.out]; omega), BDR.out, O12.out⟩, C12.out.more (by omega), G12.out⟩
        case measure => first | (simp [intOf]; done) | (simp [intOf]; omega)
end Go.Proofs.Ytffbljbgmgifnaa
namespace Go.Proofs.Ytffbljbgmgifnaa
open Go.RowKit Go.Deep

/-- A part of a literal list of numbers: among finds one of them. -/
theorem among_part (bc : Nat) (a : Option Addr) (len cap t n m b : Nat) (lo hi : Int) (W w : World) (C : Array Value) (T : TypeId) (hW : W.heap.size = b) (hCn : C.size = n) (hC : ∀ v ∈ C.toList, ∃ x : Int, lo ≤ x ∧ x ≤ hi ∧ v = .int .i64 x) (hg : (W.alloc (.cells C T)).grownBy w (some bc)) (hbc : bc < b)
    (hc : CurAt w bc a len cap t) (hd : CodeAt w a len cap bc) (ht : t ≤ 900000) (hm0 : 1 ≤ m) (hm : m ≤ n) (hn : n ≤ 1000) :
    Calls Try.prog 86 #[.pointer (some ⟨bc, 0, none⟩), .slice (some ⟨b, 0, none⟩) m n] w (AmongPost bc a len cap (t + 2) lo hi w) := by
  refine among_any bc a len cap t b 0 m n lo hi w hc hd ht hm0 (by omega) (by omega) (by have := hg.size; rw [size_al] at this; omega) (fun i hi' => ?_)
  obtain ⟨x, h1, h2, h3⟩ := ints_at W C T lo hi n b hW hCn hC i (by omega)
  exact ⟨x, h1, h2, hg.cell h3 (by simp; omega)⟩
set_option maxHeartbeats 3200000 in
set_option maxRecDepth 100000 in
theorem loanSheet_any (bc : Nat) (a : Option Addr) (len cap t : Nat) (w : World) (hc : CurAt w bc a len cap t) (hd : CodeAt w a len cap bc) (ht : t ≤ 800000) :
    Calls Try.prog 87 #[.pointer (some ⟨bc, 0, none⟩)] w (AmongPost bc a len cap (t + 10) 0 1000 w) := by
  have hlt := hc.lt
  have C := Lib.hid hc
  have D := Lib.hid hd
  clear hc hd
  go_enter Try.func87, Try.ntmps87
  go_wp2_with fail
  refine (pick_any bc a len cap _ 24 _ (C.out.alloc _) (D.out.alloc _) (by omega) (by omega) (by omega)).mono ?_
  rintro e w1 ⟨p, rfl, p0, p1, hc, hg⟩
  have C1 := Lib.hid hc
  have HG := Lib.hid hg
  have G1 := Lib.hid (grown_trans (grow_al (World.grownBy.refl w (some bc)) _) hg)
  have D1 := Lib.hid (D.out.grown G1.out)
  have hs1 : w.heap.size + 1 ≤ w1.heap.size := by have := hg.size; rw [size_al] at this; exact this
  clear hc hg
  obtain ⟨z, hz⟩ : ∃ z, p / 12 = z := ⟨_, rfl⟩
  have hz1 : 0 ≤ z ∧ z ≤ 1 := by omega
  have t1 : p.tdiv 12 = z := by rw [Int.tdiv_eq_ediv_of_nonneg (by omega)]; exact hz
  have t2 : IntKind.i64.wrap z = z := IntWalk.i64_in _ (by omega)
  have t3 : IntKind.i64.wrap (7 + z) = 7 + z := IntWalk.i64_in _ (by omega)
  have k0 : (0 : Int) ≤ 7 + z := by omega
  have k1 : 7 + z ≤ 8 := by omega
  obtain ⟨m, hm⟩ : ∃ m : Nat, (7 + z).toNat = m := ⟨_, rfl⟩
  have hm1 : 1 ≤ m ∧ m ≤ 8 := by omega
  clear hz
  go_wp2_with fail
  refine (among_part bc a len cap _ 8 m w.heap.size 0 1000 w w1 _ 3 rfl rfl ?_ HG.out hlt C1.out D1.out (by omega) hm1.1 hm1.2 (by omega)).mono ?_
  · repeat (refine List.forall_mem_cons.2 ⟨⟨_, by omega, by omega, rfl⟩, ?_⟩)
    exact fun _ h => by cases h
  rintro e w2 ⟨x, rfl, x0, x1, hc, hg⟩
  have C2 := Lib.hid hc
  have G2 := Lib.hid (grown_trans G1.out hg)
  clear hc hg
  go_wp2
  go_ret
  exact ⟨x, rfl, x0, x1, C2.out.more (by omega), G2.out⟩
set_option maxHeartbeats 6400000 in
set_option maxRecDepth 100000 in
theorem loanDay_any (bc : Nat) (a : Option Addr) (len cap t : Nat) (a' : Option Addr) (len' cap' : Nat) (ys : List VLoan) (w : World) (hc : CurAt w bc a len cap t) (hd : CodeAt w a len cap bc) (ht : t ≤ 800000) (hI : IsLoanS w a' len' cap' ys) (hl : ys.length ≤ 20) (hbd : ∀ s ∈ ys, LoanBd s) (hne : ∀ b o, a' = some ⟨b, o, none⟩ → b ≠ bc) :
    Calls Try.prog 84 #[.pointer (some ⟨bc, 0, none⟩), .slice a' len' cap'] w (AmongPost bc a len cap (t + 10) (-1) 4001 w) := by
  obtain rfl := hI.1
  have hlt := hc.lt
  have C := Lib.hid hc
  have D := Lib.hid hd
  have II := Lib.hid hI
  have BD := Lib.hid hbd
  have hcl := hI.2.1
  have hm' := hI.2.2.1
  unfold maxLen at hm'
  have NE := Lib.hid hne
  clear hc hd hI hbd hne
  by_cases h0 : ys.length = 0
  · have e0 : ((ys.length : Int) == 0) = true := by simp; exact List.length_eq_zero_iff.1 h0
    have G0 := Lib.hid (World.grownBy.refl w (some bc))
    clear h0
    go_enter Try.func84, Try.ntmps84
    go_wp2_with fail
    refine (pick_any bc a len cap _ 24 _ (C.out.alloc _) (D.out.alloc _) (by omega) (by omega) (by omega)).mono ?_
    rintro e w7 ⟨p, rfl, p0, p1, hc, hg⟩
    have C7 := Lib.hid hc
    have HG7 := Lib.hid hg
    have G7 := Lib.hid (grown_trans (grow_al G0.out _) hg)
    have D7 := Lib.hid (D.out.grown G7.out)
    have hs7 : w.heap.size + 1 ≤ w7.heap.size := by have := hg.size; rw [size_al] at this; exact this
    clear hc hg
    obtain ⟨z, hz⟩ : ∃ z, p / 12 = z := ⟨_, rfl⟩
    have hz1 : 0 ≤ z ∧ z ≤ 1 := by omega
    have t1 : p.tdiv 12 = z := by rw [Int.tdiv_eq_ediv_of_nonneg (by omega)]; exact hz
    have t2 : IntKind.i64.wrap z = z := IntWalk.i64_in _ (by omega)
    have t3 : IntKind.i64.wrap (6 + z) = 6 + z := IntWalk.i64_in _ (by omega)
    have k0 : (0 : Int) ≤ 6 + z := by omega
    have k1 : 6 + z ≤ 7 := by omega
    obtain ⟨m, hm⟩ : ∃ m : Nat, (6 + z).toNat = m := ⟨_, rfl⟩
    have hm1 : 1 ≤ m ∧ m ≤ 7 := by omega
    have hbc7 : bc < w.heap.size := by have := G0.out.size; omega
    clear hz
    go_wp2_with fail
    refine (among_part bc a len cap _ 7 m w.heap.size (-1) 4001 w w7 _ 3 rfl rfl ?_ HG7.out hbc7 C7.out D7.out (by omega) hm1.1 hm1.2 (by omega)).mono ?_
    · repeat (refine List.forall_mem_cons.2 ⟨⟨_, by omega, by omega, rfl⟩, ?_⟩)
      exact fun _ h => by cases h
    rintro e w8 ⟨x, rfl, x0, x1, hc, hg⟩
    have C8 := Lib.hid hc
    have G8 := Lib.hid (grown_trans G7.out hg)
    clear hc hg
    go_wp2
    go_ret
    exact ⟨x, rfl, x0, x1, C8.out.more (by omega), G8.out⟩
  · have e0 : ((ys.length : Int) == 0) = false := by simp; exact fun h => h0 (by rw [h]; rfl)
    have hp : 1 ≤ ys.length := by omega
    clear h0
    go_enter Try.func84, Try.ntmps84
    go_wp2_with fail
    refine (one_any bc a len cap _ 5 _ C.out D.out (by omega) (by omega) (by omega)).mono ?_
    rintro e w1 ⟨q, rfl, hc, hg⟩
    have C1 := Lib.hid hc
    have G1 := Lib.hid hg
    have D1 := Lib.hid (D.out.grown hg)
    clear hc hg
    cases q
    case true =>
      go_wp2_with fail
      refine (pick_any bc a len cap _ 24 _ (C1.out.alloc _) (D1.out.alloc _) (by omega) (by omega) (by omega)).mono ?_
      rintro e w7 ⟨p, rfl, p0, p1, hc, hg⟩
      have C7 := Lib.hid hc
      have HG7 := Lib.hid hg
      have G7 := Lib.hid (grown_trans (grow_al G1.out _) hg)
      have D7 := Lib.hid (D.out.grown G7.out)
      have hs7 : w1.heap.size + 1 ≤ w7.heap.size := by have := hg.size; rw [size_al] at this; exact this
      clear hc hg
      obtain ⟨z, hz⟩ : ∃ z, p / 12 = z := ⟨_, rfl⟩
      have hz1 : 0 ≤ z ∧ z ≤ 1 := by omega
      have t1 : p.tdiv 12 = z := by rw [Int.tdiv_eq_ediv_of_nonneg (by omega)]; exact hz
      have t2 : IntKind.i64.wrap z = z := IntWalk.i64_in _ (by omega)
      have t3 : IntKind.i64.wrap (6 + z) = 6 + z := IntWalk.i64_in _ (by omega)
      have k0 : (0 : Int) ≤ 6 + z := by omega
      have k1 : 6 + z ≤ 7 := by omega
      obtain ⟨m, hm⟩ : ∃ m : Nat, (6 + z).toNat = m := ⟨_, rfl⟩
      have hm1 : 1 ≤ m ∧ m ≤ 7 := by omega
      have hbc7 : bc < w1.heap.size := by have := G1.out.size; omega
      clear hz
      go_wp2_with fail
      refine (among_part bc a len cap _ 7 m w1.heap.size (-1) 4001 w1 w7 _ 3 rfl rfl ?_ HG7.out hbc7 C7.out D7.out (by omega) hm1.1 hm1.2 (by omega)).mono ?_
      · repeat (refine List.forall_mem_cons.2 ⟨⟨_, by omega, by omega, rfl⟩, ?_⟩)
        exact fun _ h => by cases h
      rintro e w8 ⟨x, rfl, x0, x1, hc, hg⟩
      have C8 := Lib.hid hc
      have G8 := Lib.hid (grown_trans G7.out hg)
      clear hc hg
      go_wp2
      go_ret
      exact ⟨x, rfl, x0, x1, C8.out.more (by omega), G8.out⟩
    go_wp2_with fail
    refine (pick_any bc a len cap _ ys.length _ C1.out D1.out (by omega) (by omega) (by omega)).mono ?_
    rintro e w2 ⟨p, rfl, p0, p1, hc, hg⟩
    have C2 := Lib.hid hc
    have G2 := Lib.hid (grown_trans G1.out hg)
    have D2 := Lib.hid (D.out.grown G2.out)
    clear hc hg
    obtain ⟨p, rfl⟩ : ∃ m : Nat, p = m := ⟨p.toNat, by omega⟩
    have hpl : p < ys.length := by omega
    obtain ⟨s, hs⟩ : ∃ s, ys[p]? = some s := ⟨ys[p], List.getElem?_eq_getElem _⟩
    have I2 := Lib.hid (II.out.grown G2.out (fun b o e e2 => NE.out b o e (Option.some.inj e2)))
    obtain ⟨b, o, rfl, _, hat⟩ := I2.out.at (by omega)
    obtain ⟨c0, c1, c2, c3, c4⟩ := hat p s hs
    have bs := BD.out s (List.mem_of_getElem? hs)
    obtain ⟨_, _, ⟨b30, b31⟩, ⟨b40, b41⟩, ⟨b50, b51⟩⟩ := bs
    have hi0 : (0 : Int) ≤ (p : Int) := by omega
    have hi1 : (p : Int) < (ys.length : Int) := by omega
    have v1 : IntKind.i64.wrap (s.Due + 1) = s.Due + 1 := IntWalk.i64_in _ (by omega)
    have v2 : IntKind.i64.wrap (s.Due + 100) = s.Due + 100 := IntWalk.i64_in _ (by omega)
    have v3 : IntKind.i64.wrap (s.Due + 101) = s.Due + 101 := IntWalk.i64_in _ (by omega)
    have v4 : IntKind.i64.wrap (s.Out - 1) = s.Out - 1 := IntWalk.i64_in _ (by omega)
    have hs2 := G2.out.size
    clear hat hs
    go_wp2_with fail
    refine (among_any bc a len cap _ (w2.heap.size + 1) 0 7 7 (-4000) 30000 _ ((C2.out.alloc _).alloc _) ((D2.out.alloc _).alloc _) (by omega) (by omega) (by omega) (by omega) (by simp) ?_).mono ?_
    · refine ints_at _ _ _ (-4000) 30000 7 _ (size_al _ _) rfl ?_
      repeat (refine List.forall_mem_cons.2 ⟨⟨_, by omega, by omega, rfl⟩, ?_⟩)
      exact fun _ h => by cases h
    rintro e w3 ⟨x, rfl, x0, x1, hc, hg⟩
    have C3 := Lib.hid hc
    have G3 := Lib.hid (grown_trans (grow_al (grow_al G2.out _) _) hg)
    clear hc hg
    go_wp2_with fail
    refine (l1Most_any _ _ _).mono ?_
    rintro e w4 ⟨rfl, rfl⟩
    go_wp2_with fail
    refine (l1Least_any _ _ _).mono ?_
    rintro e w5 ⟨rfl, rfl⟩
    go_wp2
    go_ret
    exact ⟨_, rfl, by omega, by omega, C3.out.more (by omega), G3.out⟩
end Go.Proofs.Ytffbljbgmgifnaa
namespace Go.Proofs.Ytffbljbgmgifnaa
open Go.RowKit Go.Deep

theorem results_five {fn : Func} {t u v x y : Tmp} (h : fn.results = #[.tmp t, .tmp u, .tmp v, .tmp x, .tmp y]) (tmps : Array Value) (P : Program) (w : World) :
    (results fn tmps).run P w = .ok (.tuple #[tmps.getD t undef, tmps.getD u undef, tmps.getD v undef, tmps.getD x undef, tmps.getD y undef]) w := by
  simp [results, h]
/-- A list of some loans, and numbers. -/
def LoansAt2 (w : World) (e : Ending) (w' : World) : Prop := ∃ (la : Option Addr) (lc : Nat) (xs : List VLoan) (x y : Int), e = .returned (.tuple #[.slice la xs.length lc, .int .i64 x, .int .i64 y]) ∧ xs.length ≤ 20 ∧ IsLoanS w' la xs.length lc xs ∧ Below w.heap.size w w'
def LoansAt4 (w : World) (e : Ending) (w' : World) : Prop := ∃ (la : Option Addr) (lc : Nat) (xs : List VLoan) (x y z u : Int), e = .returned (.tuple #[.slice la xs.length lc, .int .i64 x, .int .i64 y, .int .i64 z, .int .i64 u]) ∧ xs.length ≤ 20 ∧ IsLoanS w' la xs.length lc xs ∧ Below w.heap.size w w'
set_option maxHeartbeats 6400000 in
set_option maxRecDepth 100000 in
theorem drawReturnSheet_any (a : Option Addr) (len cap : Nat) (w : World) (h : CodeIn w a len cap) :
    Calls Try.prog 39 #[.slice a len cap] w (LoansAt2 w) := by
  have C0 := Lib.hid (cur_new w a len cap)
  have D0 := Lib.hid (h.at (bel_alloc w (.cells #[.slice a len cap, .int .i64 0, .int .u64 0] 75)))
  have G0 := Lib.hid (bel_alloc w (.cells #[.slice a len cap, .int .i64 0, .int .u64 0] 75))
  clear h
  go_enter Try.func39, Try.ntmps39
  go_wp2_with fail
  refine (loans_any w.heap.size a len cap _ _ C0.out D0.out (by omega)).mono ?_
  rintro e w1 ⟨v1, rfl, xs, hxl, hbd, hown, hc, hg⟩
  have C1 := Lib.hid hc
  have D1 := Lib.hid (D0.out.grown hg)
  have B1 := Lib.hid (below_cur G0.out rfl hg)
  obtain ⟨la, lc, rfl, his, _⟩ := isLoanS_own hown
  have NE := Lib.hid (show ∀ b o, la = some ⟨b, o, none⟩ → b ≠ w.heap.size from fun b o e => by
    have := (hown.lt b (by rw [e]; rfl)).1
    rw [size_al] at this; omega)
  have S1 := Lib.hid his
  have BD := Lib.hid hbd
  have XL := Lib.hid hxl
  have KEEP := Lib.hid (show ∀ W : World, w1.grownBy W (some w.heap.size) → IsLoanS W la xs.length lc xs from fun W hG => his.grown hG (fun b o e e2 => NE.out b o e (Option.some.inj e2)))
  clear hc hg hown his hbd hxl
  go_wp2_with fail
  refine (loanSheet_any w.heap.size a len cap _ _ C1.out D1.out (by omega)).mono ?_
  rintro e w2 ⟨x, rfl, x0, x1, hc, hg⟩
  have C2 := Lib.hid hc
  have H2 := Lib.hid hg
  have D2 := Lib.hid (D1.out.grown hg)
  clear hc hg
  go_wp2_with fail
  refine (loanDay_any w.heap.size a len cap _ la xs.length lc xs _ C2.out D2.out (by omega) (KEEP.out _ H2.out) XL.out BD.out NE.out).mono ?_
  rintro e w3 ⟨y, rfl, y0, y1, hc, hg⟩
  have H3 := Lib.hid (grown_trans H2.out hg)
  clear hc hg
  have B3 := Lib.hid (below_cur B1.out rfl H3.out)
  have S3 := Lib.hid (KEEP.out _ H3.out)
  go_wp2
  go_ret3
  exact ⟨la, lc, xs, x, y, rfl, XL.out, S3.out, B3.out⟩
set_option maxHeartbeats 6400000 in
set_option maxRecDepth 100000 in
theorem drawLendSheet_any (a : Option Addr) (len cap : Nat) (w : World) (h : CodeIn w a len cap) :
    Calls Try.prog 32 #[.slice a len cap] w (LoansAt4 w) := by
  have C0 := Lib.hid (cur_new w a len cap)
  have D0 := Lib.hid (h.at (bel_alloc w (.cells #[.slice a len cap, .int .i64 0, .int .u64 0] 75)))
  have G0 := Lib.hid (bel_alloc w (.cells #[.slice a len cap, .int .i64 0, .int .u64 0] 75))
  clear h
  go_enter Try.func32, Try.ntmps32
  go_wp2_with fail
  refine (loans_any w.heap.size a len cap _ _ C0.out D0.out (by omega)).mono ?_
  rintro e w1 ⟨v1, rfl, xs, hxl, hbd, hown, hc, hg⟩
  have C1 := Lib.hid hc
  have D1 := Lib.hid (D0.out.grown hg)
  have B1 := Lib.hid (below_cur G0.out rfl hg)
  obtain ⟨la, lc, rfl, his, _⟩ := isLoanS_own hown
  have NE := Lib.hid (show ∀ b o, la = some ⟨b, o, none⟩ → b ≠ w.heap.size from fun b o e => by
    have := (hown.lt b (by rw [e]; rfl)).1
    rw [size_al] at this; omega)
  have S1 := Lib.hid his
  have BD := Lib.hid hbd
  have XL := Lib.hid hxl
  have KEEP := Lib.hid (show ∀ W : World, w1.grownBy W (some w.heap.size) → IsLoanS W la xs.length lc xs from fun W hG => his.grown hG (fun b o e e2 => NE.out b o e (Option.some.inj e2)))
  clear hc hg hown his hbd hxl
  go_wp2_with fail
  refine (loanDay_any w.heap.size a len cap _ la xs.length lc xs _ C1.out D1.out (by omega) (KEEP.out _ (World.grownBy.refl w1 _)) XL.out BD.out NE.out).mono ?_
  rintro e w2 ⟨y, rfl, y0, y1, hc, hg⟩
  have C2 := Lib.hid hc
  have H2 := Lib.hid hg
  have D2 := Lib.hid (D1.out.grown hg)
  clear hc hg
  go_upto_region 5 with (fail)
  go_cut [26] (fun c wx => ∃ b : Bool, c = .bool b ∧ (b = true → 0 < xs.length) ∧ CurAt wx w.heap.size a len cap (0 + 420) ∧ w1.grownBy wx (some w.heap.size))
  case first =>
    by_cases h0 : 0 < xs.length
    · have h1 : (0 : Int) < (xs.length : Int) := by omega
      have HP := Lib.hid h0
      clear h0
      go_wp2_with fail
      refine (one_any w.heap.size a len cap _ 2 _ C2.out D2.out (by omega) (by omega) (by omega)).mono ?_
      rintro e w3 ⟨b, rfl, hc, hg⟩
      have C3 := Lib.hid hc
      have H3 := Lib.hid (grown_trans H2.out hg)
      clear hc hg
      go_wp2
      go_meet
      exact ⟨b, rfl, fun _ => HP.out, C3.out.more (by omega), H3.out⟩
    · have h1 : ¬ (0 : Int) < (xs.length : Int) := by omega
      have h2 : decide ((0 : Int) < (xs.length : Int)) = false := decide_eq_false h1
      have h3 : decide (0 < xs.length) = false := decide_eq_false h0
      go_wp2
      go_meet
      exact ⟨false, rfl, (fun e => by cases e), C2.out.more (by omega), H2.out⟩
  case rest =>
  obtain ⟨b, rfl, hb, hc, hg⟩ := hcut
  rename World => w3
  have C3 := Lib.hid hc
  have H3 := Lib.hid hg
  have D3 := Lib.hid (D1.out.grown hg)
  have HBT := Lib.hid hb
  clear hc hg hb
  go_upto_if 26 with (fail)
  go_cut [9] (fun v wx => ∃ z : Int, v = .int .i64 z ∧ CurAt wx w.heap.size a len cap (0 + 430) ∧ w1.grownBy wx (some w.heap.size))
  case first =>
    cases b
    · go_wp2
      go_meet
      exact ⟨y, rfl, C3.out.more (by omega), H3.out⟩
    have hp := HBT.out rfl
    obtain ⟨s, hs⟩ : ∃ s, xs[xs.length - 1]? = some s := ⟨xs[xs.length - 1], List.getElem?_eq_getElem _⟩
    have S3 := Lib.hid (KEEP.out _ H3.out)
    obtain ⟨bb, o, rfl, hbw, hat⟩ := S3.out.at hp
    obtain ⟨c0, c1, c2, c3, c4⟩ := hat (xs.length - 1) s hs
    have hbn : bb ≠ w.heap.size := NE.out bb o rfl
    have bs := BD.out s (List.mem_of_getElem? hs)
    obtain ⟨_, _, ⟨b30, b31⟩, _, _⟩ := bs
    have k1 : (0 : Int) ≤ (xs.length : Int) - 1 := by omega
    have k2 : (xs.length : Int) - 1 < (xs.length : Int) := by omega
    have k3 : ((xs.length : Int) - 1).toNat = xs.length - 1 := by omega
    have k4 : (1 : Int) ≤ (xs.length : Int) := by omega
    have xl20 := XL.out
    have k5 : IntKind.i64.wrap ((xs.length : Int) - 1) = (xs.length : Int) - 1 := IntWalk.i64_in _ (by omega)
    have hsz3 : w.heap.size < w3.heap.size := by have := C3.out.lt; exact this
    have CD := Lib.hid (show CurAt w3.drew w.heap.size a len cap _ from C3.out.heap rfl)
    have HD := Lib.hid (show w3.grownBy w3.drew (some w.heap.size) from grown_below (bel_drew' (Below.refl _ _)) _)
    have DD := Lib.hid (D3.out.grown HD.out)
    have AM := Lib.hid (among_any w.heap.size a len cap _ w3.heap.size 0 3 3 (0) 300 (w3.drew.alloc (.cells #[.int .i64 0, .int .i64 1, .int .i64 200] 3)) (CD.out.alloc _) (DD.out.alloc _) (by omega) (by omega) (by omega) (by omega) (by rw [size_al]; exact Nat.lt_succ_self _) (by
      refine ints_at _ _ _ (0) 300 3 _ rfl rfl ?_
      repeat (refine List.forall_mem_cons.2 ⟨⟨_, by omega, by omega, rfl⟩, ?_⟩)
      exact fun _ h => by cases h))
    have e2 : w3.drew.cell? ⟨bb, o + (xs.length - 1) * 5 + 2, none⟩ = some (.int .i64 s.Out) := c2
    have HA := Lib.hid (show w3.grownBy (w3.drew.alloc (.cells #[.int .i64 0, .int .i64 1, .int .i64 200] 3)) (some w.heap.size) from grow_al HD.out _)
    have TR := Lib.hid (show ∀ W : World, w3.grownBy W (some w.heap.size) → W.cell? ⟨bb, o + (xs.length - 1) * 5 + 2, none⟩ = some (.int .i64 s.Out) from fun W hG => hG.cell c2 (by simp; omega))
    clear hat hs
    go_wp2
    go_region_held3 (fun u => u.cell? ⟨bb, o + (xs.length - 1) * 5 + 2, none⟩ = some (.int .i64 s.Out))
      (first | exact e2 | exact TR.out _ HA.out | exact TR.out _ H9.out)
      (first
        | (go_at_call 85; refine (l1Least_any _ _ _).mono ?_; rintro e w' ⟨rfl, rfl⟩)
        | (go_at_call 86; refine (AM.out).mono ?_; rintro e w9 ⟨z, rfl, z0, z1, hc, hg⟩; have H9 := Lib.hid (show w3.grownBy w9 (some w.heap.size) from grown_trans HA.out hg); have C9 := Lib.hid hc; have v9 : IntKind.i64.wrap (s.Out + z) = s.Out + z := IntWalk.i64_in _ (by omega); clear hc hg))
    go_wp2
    go_meet
    exact ⟨_, rfl, C9.out.more (by omega), grown_trans H3.out H9.out⟩
  case rest =>
  obtain ⟨z, rfl, hc, hg⟩ := hcut
  rename World => w4
  have C4 := Lib.hid hc
  have H4 := Lib.hid hg
  have D4 := Lib.hid (D1.out.grown hg)
  clear hc hg
  go_wp2_with fail
  refine (loanSheet_any w.heap.size a len cap _ _ C4.out D4.out (by omega)).mono ?_
  rintro e w5 ⟨x, rfl, x0, x1, hc, hg⟩
  have C5 := Lib.hid hc
  have H5 := Lib.hid (grown_trans H4.out hg)
  have D5 := Lib.hid (D1.out.grown H5.out)
  have hs5 := H5.out.size
  have hb5 : w.heap.size < w1.heap.size := C1.out.lt
  clear hc hg
  go_wp2_with fail
  refine (among_any w.heap.size a len cap _ w5.heap.size 0 4 4 (0) 1000 _ (C5.out.alloc _) (D5.out.alloc _) (by omega) (by omega) (by omega) (by omega) (by simp) ?_).mono ?_
  · refine ints_at _ _ _ (0) 1000 4 _ rfl rfl ?_
    repeat (refine List.forall_mem_cons.2 ⟨⟨_, by omega, by omega, rfl⟩, ?_⟩)
    exact fun _ h => by cases h
  rintro e w6 ⟨r, rfl, r0, r1, hc, hg⟩
  have C6 := Lib.hid hc
  have H6 := Lib.hid (grown_trans (grow_al H5.out _) hg)
  have D6 := Lib.hid (D1.out.grown H6.out)
  have hs6 := H6.out.size
  clear hc hg
  go_wp2_with fail
  refine (pick_any w.heap.size a len cap _ 24 _ (C6.out.alloc _) (D6.out.alloc _) (by omega) (by omega) (by omega)).mono ?_
  rintro e w7 ⟨p, rfl, p0, p1, hc, hg⟩
  have C7 := Lib.hid hc
  have HG7 := Lib.hid hg
  have H7 := Lib.hid (grown_trans (grow_al H6.out _) hg)
  have D7 := Lib.hid (D1.out.grown H7.out)
  clear hc hg
  obtain ⟨q, hz⟩ : ∃ z, p / 12 = z := ⟨_, rfl⟩
  have hz1 : 0 ≤ q ∧ q ≤ 1 := by omega
  have t1 : p.tdiv 12 = q := by rw [Int.tdiv_eq_ediv_of_nonneg (by omega)]; exact hz
  have t2 : IntKind.i64.wrap q = q := IntWalk.i64_in _ (by omega)
  have t3 : IntKind.i64.wrap (4 + q) = 4 + q := IntWalk.i64_in _ (by omega)
  have k0 : (0 : Int) ≤ 4 + q := by omega
  have k1 : 4 + q ≤ 5 := by omega
  obtain ⟨m, hm⟩ : ∃ m : Nat, (4 + q).toNat = m := ⟨_, rfl⟩
  have hm1 : 1 ≤ m ∧ m ≤ 5 := by omega
  clear hz
  go_wp2_with fail
  refine (among_part w.heap.size a len cap _ 5 m w6.heap.size 0 100 w6 w7 _ 3 rfl rfl ?_ HG7.out (by omega) C7.out D7.out (by omega) hm1.1 hm1.2 (by omega)).mono ?_
  · repeat (refine List.forall_mem_cons.2 ⟨⟨_, by omega, by omega, rfl⟩, ?_⟩)
    exact fun _ h => by cases h
  rintro e w8 ⟨n, rfl, n0, n1, hc, hg⟩
  have H8 := Lib.hid (grown_trans H7.out hg)
  clear hc hg
  have B8 := Lib.hid (below_cur B1.out rfl H8.out)
  have S8 := Lib.hid (KEEP.out _ H8.out)
  go_wp2
  refine bodyPost_ret (results_five rfl _ _ _) rfl ?_
  exact ⟨la, lc, xs, x, r, z, n, rfl, XL.out, S8.out, B8.out⟩
end Go.Proofs.Ytffbljbgmgifnaa
