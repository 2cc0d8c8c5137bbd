/- Loans in the program: the search for an open one, a list of loans. -/
import Derived.Test.YtffbljbgmgifnaaLoi
import Derived.Test.YtffbljbgmgifnaaAreLoansP
import Derived.Deep.DeepCutAuto
namespace Go.Proofs.Ytffbljbgmgifnaa
open Go.RowKit

theorem IsLoanS.take {w : World} {a : Option Addr} {len cap k : Nat} {xs : List VLoan} (h : IsLoanS w a len cap xs) (hk : k ≤ len) : IsLoanS w a k cap (xs.take k) := by
  refine ⟨by rw [List.length_take, ← h.1, Nat.min_eq_left hk], by have := h.2.1; omega, h.2.2.1, ?_⟩
  rcases h.2.2.2 with h0 | ⟨b, o, rfl, hb, hat⟩
  · exact .inl (by omega)
  · refine .inr ⟨b, o, rfl, hb, fun j s hs => hat j s ?_⟩
    rw [List.getElem?_take] at hs
    split at hs
    · exact hs
    · cases hs
set_option maxHeartbeats 1600000 in
set_option maxRecDepth 100000 in
theorem openIdx1_any (s : VLoan) (sh d : Int) (b1 b2 : Nat) (w : World) (h1 : w.cell? ⟨b1, 0, none⟩ = some (.int .i64 sh)) (h2 : w.cell? ⟨b2, 0, none⟩ = some (.int .i64 d)) :
    Calls Try.prog 139 #[.agg #[.int .i64 s.Sheet, .int .i64 s.Reader, .int .i64 s.Out, .int .i64 s.Due, .int .i64 s.Back], .pointer (some ⟨b1, 0, none⟩), .pointer (some ⟨b2, 0, none⟩)] w fun e w' => e = .returned (.bool (s.Sheet == sh && openOn d s)) ∧ Below w.heap.size w w' := by
  have B0 := Lib.hid (bel_al1 w (.cells #[.int .i64 s.Sheet, .int .i64 s.Reader, .int .i64 s.Out, .int .i64 s.Due, .int .i64 s.Back] 101))
  have l1 := World.lt_of_cell h1
  have l2 := World.lt_of_cell h2
  have n1 : ¬ b1 = w.heap.size := by omega
  have n2 : ¬ b2 = w.heap.size := by omega
  obtain ⟨q, hq⟩ : ∃ q, openOn d s = q := ⟨_, rfl⟩
  have Q := Lib.hid hq
  clear hq
  by_cases e : s.Sheet = sh
  · have s1 : (s.Sheet == sh) = true := by simp [e]
    have S1 := Lib.hid s1
    clear e
    go_enter Try.func139, Try.ntmps139
    go_wp2_with fail
    refine (isOpen_any s d _).mono ?_
    rintro e w2 ⟨rfl, hb⟩
    rw [Q.out]
    have B2 := Lib.hid (Below.then' B0.out hb)
    clear hb h1 h2
    go_wp2
    go_ret
    exact ⟨ret_bool (by rw [S1.out, Q.out]; rfl), B2.out⟩
  · have s1 : (s.Sheet == sh) = false := by simp [e]
    have S1 := Lib.hid s1
    clear e
    go_enter Try.func139, Try.ntmps139
    go_wp2
    go_ret
    exact ⟨ret_bool (by rw [S1.out]; rfl), B0.out⟩
set_option maxHeartbeats 1600000 in
set_option maxRecDepth 100000 in
theorem indexOfOpen_any (a : Option Addr) (len cap : Nat) (xs : List VLoan) (sh d : Int) (w : World) (h : IsLoanS w a len cap xs) :
    Calls Try.prog 96 #[.slice a len cap, .int .i64 sh, .int .i64 d] w fun e w' => e = .returned (.int .i64 (firstOf (fun b : VLoan => b.Sheet == sh && openOn d b) xs)) ∧ Below w.heap.size w w' := by
  have b1 := wh_al1 w (.cells #[.int .i64 sh] 3)
  have b2 := Below.then' b1 (wh_al1 (w.alloc (.cells #[.int .i64 sh] 3)) (.cells #[.int .i64 d] 3))
  have S := Lib.hid (h.below b2)
  have C1 := Lib.hid (cell_stay' (cell_box' w (.int .i64 sh) 3 _ rfl) (wh_al1 (w.alloc (.cells #[.int .i64 sh] 3)) (.cells #[.int .i64 d] 3)))
  have C2 := Lib.hid (cell_box' (w.alloc (.cells #[.int .i64 sh] 3)) (.int .i64 d) 3 (w.heap.size + 1) (by simp))
  have B0 := Lib.hid b2
  clear h b1 b2
  go_enter Try.func96, Try.ntmps96
  go_wp2_with fail
  refine (idxLoan_any 139 #[.pointer (some ⟨w.heap.size, 0, none⟩), .pointer (some ⟨w.heap.size + 1, 0, none⟩)] (fun b => b.Sheet == sh && openOn d b) a len cap xs _ S.out (enters_fn' Try.func139 (by kernel_rfl) (by kernel_rfl)) (fun W s _ hW => by
    have h1 := openIdx1_any s sh d w.heap.size (w.heap.size + 1) W (cell_stay' C1.out hW) (cell_stay' C2.out hW)
    simpa using h1)).mono ?_
  rintro e w1 ⟨rfl, hb⟩
  have B := Lib.hid (Below.then' B0.out hb)
  clear hb
  go_wp2
  go_ret
  exact ⟨rfl, B.out⟩
theorem fits_way2 {xs : List VLoan} {k : Nat} {l : VLoan} {o r : Bool} {z : Int} (h : upTo xs k) (hs : xs[k]? = some l) (hq : l.ok = true) (ho : (k == 0 || decide ((loAt xs (k - 1)).Out ≤ l.Out)) = o) (ho2 : o = true) (hz : firstOf (fun b : VLoan => b.Sheet == l.Sheet && openOn l.Out b) (xs.take k) = z) (hr : decide (0 ≤ z) = r) : fitLo xs k = !r := by
  subst ho2
  rw [fits_is hs, hq, ho, ← hr, ← hz, way_first h hs ?_]
  · rfl
  · intro b hb hk
    have hk0 : (k == 0) = false := by simp; omega
    rw [hk0, loAt_some hb, Bool.false_or] at ho
    exact of_decide_eq_true ho
theorem fits_no1 {xs : List VLoan} {k : Nat} {l : VLoan} (hs : xs[k]? = some l) (hq : l.ok = false) : fitLo xs k = false := by rw [fits_is hs, hq]; rfl
theorem fits_no2 {xs : List VLoan} {k : Nat} {l : VLoan} {o : Bool} (hs : xs[k]? = some l) (ho : (k == 0 || decide ((loAt xs (k - 1)).Out ≤ l.Out)) = o) (h : o = false) : fitLo xs k = false := by rw [fits_is hs, ho, h]; simp
set_option maxHeartbeats 12800000 in
set_option maxRecDepth 100000 in
theorem areLoans_any (a : Option Addr) (len cap : Nat) (xs : List VLoan) (w : World) (h : IsLoanS w a len cap xs) :
    Calls Try.prog 45 #[.slice a len cap] w fun e w' => e = .returned (.bool (areLo xs)) ∧ Below w.heap.size w w' := by
  have hm := h.2.2.1
  have hcl := h.2.1
  unfold maxLen at hm
  obtain rfl := h.1
  have S := Lib.hid h
  clear h
  by_cases h15 : xs.length ≤ 15
  case neg =>
    have N := Lib.hid (areLo_long h15)
    have h15' : (15 : Int) < (xs.length : Int) := by omega
    go_enter Try.func45, Try.ntmps45
    go_wp2
    go_ret
    exact ⟨ret_bool N.out.symm, Below.refl _ _⟩
  have h15' : ¬ (15 : Int) < (xs.length : Int) := by omega
  go_enter Try.func45, Try.ntmps45
  go_wp2
  go_loopw [11] (fun i wr => ∃ k : Nat, k ≤ xs.length ∧ i = .int .i64 k ∧ Below w.heap.size w wr ∧ upTo xs k) (fun i _ => xs.length - (intOf i).toNat)
  case atStart => exact ⟨0, Nat.zero_le _, rfl, Below.refl _ _, upTo_zero xs⟩
  case round =>
    obtain ⟨k, hk, rfl, hbel, hall⟩ := hrel
    have A := Lib.hid hall
    have B := Lib.hid hbel
    clear hall
    by_cases hlt : k < xs.length
    · obtain ⟨s, hs⟩ : ∃ s, xs[k]? = some s := ⟨xs[k]'hlt, List.getElem?_eq_getElem _⟩
      have K := Lib.hid hs
      obtain ⟨q, hq⟩ : ∃ q, s.ok = q := ⟨_, rfl⟩
      obtain ⟨o, ho⟩ : ∃ o, (k == 0 || decide ((loAt xs (k - 1)).Out ≤ s.Out)) = o := ⟨_, rfl⟩
      obtain ⟨z, hz⟩ : ∃ z, firstOf (fun b : VLoan => b.Sheet == s.Sheet && openOn s.Out b) (xs.take k) = z := ⟨_, rfl⟩
      have Q := Lib.hid hq
      have O := Lib.hid ho
      have Z := Lib.hid hz
      have hi0 : (0 : Int) ≤ (k : Int) := by omega
      have hi1 : (k : Int) < (xs.length : Int) := by omega
      obtain ⟨b, p, rfl, hbw, hat⟩ := (S.out.below hbel).at (by omega)
      obtain ⟨c0, c1, c2, c3, c4⟩ := hat k s hs
      have X := Lib.hid (BoxLoan.new wr 101 s _ rfl)
      have BX := Lib.hid (Below.then' B.out (bel_al1 wr (.cells #[.int .i64 s.Sheet, .int .i64 s.Reader, .int .i64 s.Out, .int .i64 s.Due, .int .i64 s.Back] 101)))
      have SZ := Lib.hid (size_al wr (.cells #[.int .i64 s.Sheet, .int .i64 s.Reader, .int .i64 s.Out, .int .i64 s.Due, .int .i64 s.Back] 101))
      clear hbel hs hq ho hz hat
      go_upto_region 7 with (fail)
      refine wp_world (fun W => BoxLoan W wr.heap.size s ∧ Below w.heap.size w W) ⟨X.out, BX.out⟩ ?_
      clear c0 c1 c2 c3 c4
      rintro W ⟨hbx, hbw2⟩
      have XW := Lib.hid hbx
      have BW := Lib.hid hbw2
      clear hbx hbw2
      go_cut [45] (fun c wx => c = .bool (!(fitLo xs k)) ∧ Below w.heap.size w wx)
      case first => as_aux_lemma =>
        have cQ := below_at (W := W) (fun W' _ => Q.out ▸ isLoan_any s W')
        have cZ := below_at (W := W) (fun W' hW => Z.out ▸ indexOfOpen_any (some ⟨b, p, none⟩) k cap (xs.take k) s.Sheet s.Out W' (((S.out.below BW.out).take (by omega)).below hW))
        obtain ⟨e0, e1, e2, e3, e4⟩ := XW.out
        have k0 := cell_regrown e0
        have k1 := cell_regrown e1
        have k2 := cell_regrown e2
        have k3 := cell_regrown e3
        have k4 := cell_regrown e4
        clear e0 e1 e2 e3 e4
        obtain ⟨_, _, eq, _, hat⟩ := (S.out.below BW.out).at (by omega)
        cases eq
        cases q
        · have E := Lib.hid (fits_no1 K.out Q.out)
          clear hat
          refine wp_region_quiet_below (by kernel_rfl) (by kernel_rfl) ?_
          repeat (first | go_big_quiet_step (first | (with_reducible exact cQ _ _) | (with_reducible exact cZ _ _)) | quiet_step (first | (with_reducible exact cQ _ _) | (with_reducible exact cZ _ _)))
          refine wpQuiet_nil ?_
          intro W2 hw2
          have B2 := Lib.hid (Below.then' BW.out (below_of_re hw2))
          clear hw2 k0 k1 k2 k3 k4
          go_wp2
          go_meet
          exact ⟨by rw [E.out]; rfl, B2.out⟩
        · by_cases hk0 : k = 0
          · subst hk0
            obtain ⟨r, hr⟩ : ∃ r, decide (0 ≤ z) = r := ⟨_, rfl⟩
            have E := Lib.hid (fits_way2 A.out K.out Q.out O.out (by rw [← O.out]; rfl) Z.out hr)
            clear hat
            refine wp_region_quiet_below (by kernel_rfl) (by kernel_rfl) ?_
            repeat (first | go_big_quiet_step (first | (with_reducible exact cQ _ _) | (with_reducible exact cZ _ _)) | quiet_step (first | (with_reducible exact cQ _ _) | (with_reducible exact cZ _ _)))
            refine wpQuiet_nil ?_
            intro W2 hw2
            have B2 := Lib.hid (Below.then' BW.out (below_of_re hw2))
            clear hw2 k0 k1 k2 k3 k4
            go_wp2
            go_meet
            exact ⟨by rw [E.out, Bool.not_not], B2.out⟩
          · obtain ⟨j, rfl⟩ : ∃ j, k = j + 1 := ⟨k - 1, by omega⟩
            obtain ⟨t, ht⟩ : ∃ t, xs[j]? = some t := ⟨xs[j]'(by omega), List.getElem?_eq_getElem _⟩
            have PO := Lib.hid (show decide (t.Out ≤ s.Out) = o from by rw [← O.out, Nat.add_sub_cancel, loAt_some ht]; simp)
            have hp0 : (0 : Int) ≤ (j : Int) := by omega
            have hp1 : (j : Int) < (xs.length : Int) := by omega
            obtain ⟨_, _, p2, _⟩ := hat j t ht
            have q2 := cell_regrown p2
            clear hat p2 ht hk0
            cases o
            · have dl : s.Out < t.Out := by have := of_decide_eq_false PO.out; omega
              have E := Lib.hid (fits_no2 K.out O.out rfl)
              refine wp_region_quiet_below (by kernel_rfl) (by kernel_rfl) ?_
              repeat (first | go_big_quiet_step (first | (with_reducible exact cQ _ _) | (with_reducible exact cZ _ _)) | quiet_step (first | (with_reducible exact cQ _ _) | (with_reducible exact cZ _ _)))
              refine wpQuiet_nil ?_
              intro W2 hw2
              have B2 := Lib.hid (Below.then' BW.out (below_of_re hw2))
              clear hw2 k0 k1 k2 k3 k4 q2
              go_wp2
              go_meet
              exact ⟨by rw [E.out]; rfl, B2.out⟩
            · have dl : ¬ s.Out < t.Out := by have := of_decide_eq_true PO.out; omega
              obtain ⟨r, hr⟩ : ∃ r, decide (0 ≤ z) = r := ⟨_, rfl⟩
              have E := Lib.hid (fits_way2 A.out K.out Q.out O.out rfl Z.out hr)
              refine wp_region_quiet_below (by kernel_rfl) (by kernel_rfl) ?_
              repeat (first | go_big_quiet_step (first | (with_reducible exact cQ _ _) | (with_reducible exact cZ _ _)) | quiet_step (first | (with_reducible exact cQ _ _) | (with_reducible exact cZ _ _)))
              refine wpQuiet_nil ?_
              intro W2 hw2
              have B2 := Lib.hid (Below.then' BW.out (below_of_re hw2))
              clear hw2 k0 k1 k2 k3 k4 q2
              go_wp2
              go_meet
              exact ⟨by rw [E.out, Bool.not_not], B2.out⟩
      case rest =>
      obtain ⟨rfl, hbel⟩ := hcut
      have BC := Lib.hid hbel
      clear hbel
      obtain ⟨r, hr⟩ : ∃ r, (!(fitLo xs k)) = r := ⟨_, rfl⟩
      have R := Lib.hid hr
      rw [hr]
      clear hr
      cases r
      · have F := Lib.hid (show fitLo xs k = true from by have := R.out; cases h : fitLo xs k with | true => rfl | false => rw [h] at this; cases this)
        go_wp2
        go_roundw
        case rel => exact ⟨k + 1, by omega, by go_num, BC.out, upTo_snoc A.out F.out⟩
        case measure => simp [intOf]; omega
      · have N := Lib.hid (areLo_no hlt (show fitLo xs k = false from by have := R.out; cases h : fitLo xs k with | false => rfl | true => rw [h] at this; cases this))
        go_wp2
        go_ret
        exact ⟨ret_bool N.out.symm, BC.out⟩
    · obtain rfl : k = xs.length := by omega
      have N := Lib.hid (areLo_all A.out h15)
      clear hbel
      go_wp2
      go_ret
      exact ⟨ret_bool N.out.symm, B.out⟩
end Go.Proofs.Ytffbljbgmgifnaa
