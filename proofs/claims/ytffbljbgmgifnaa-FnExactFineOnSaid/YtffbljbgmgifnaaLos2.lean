/- Loans in the model: a list of loans. -/
import Derived.Test.YtffbljbgmgifnaaLos
import Derived.Deep.DeepCutAuto
namespace Go.Proofs.Ytffbljbgmgifnaa
open Go.RowKit

theorem fit_cond {xs : List VLoan} {k : Nat} {l : VLoan} {q o : Bool} (hs : xs[k]? = some l) (hq : l.ok = q) (ho : (k == 0 || decide ((loAt xs (k - 1)).Out ≤ l.Out)) = o) (h : (q && o) = false) : fitLo xs k = false := by
  rw [fits_is hs, hq, ho, ← Bool.and_assoc, h]; rfl
theorem fit_way {xs : List VLoan} {k j : Nat} {l b : VLoan} (hs : xs[k]? = some l) (hb : xs[j]? = some b) (hj : j < k) (hw : wayB l b = true) : fitLo xs k = false := by
  rw [fits_is hs]
  have : (xs.take k).any (wayB l) = true := List.any_eq_true.2 ⟨b, List.mem_of_getElem? (by rw [List.getElem?_take, if_pos hj]; exact hb), hw⟩
  rw [this]; simp
theorem fit_all {xs : List VLoan} {k : Nat} {l : VLoan} {q o : Bool} (hs : xs[k]? = some l) (hq : l.ok = q) (ho : (k == 0 || decide ((loAt xs (k - 1)).Out ≤ l.Out)) = o) (h : (q && o) = true) (hw : ∀ (j : Nat) b, j < k → xs[j]? = some b → wayB l b = false) : fitLo xs k = true := by
  have hn : (xs.take k).any (wayB l) = false := by
    rw [List.any_eq_false]
    intro b hb
    obtain ⟨j, hj⟩ := List.getElem?_of_mem hb
    rw [List.getElem?_take] at hj
    split at hj
    · rename_i hjk; rw [hw j b hjk hj]; simp
    · cases hj
  rw [fits_is hs, hq, ho, hn, ← Bool.and_assoc, h]; rfl
set_option maxHeartbeats 12800000 in
set_option maxRecDepth 100000 in
theorem l11Good_any (a : Option Addr) (len cap : Nat) (xs : List VLoan) (w : World) (h : IsLoanS w a len cap xs) :
    Calls Try.prog 91 #[.slice a len cap] w fun e w' => e = .returned (.bool (areLo xs)) ∧ Below w.heap.size w w' := by
  have hm := h.2.2.1
  have hcl := h.2.1
  unfold maxLen at hm
  obtain rfl := h.1
  have S := Lib.hid h
  clear h
  go_enter Try.func91, Try.ntmps91
  go_wp2
  go_loopw [3] (fun i wr => ∃ k : Nat, k ≤ xs.length ∧ k ≤ 16 ∧ i = .int .i64 k ∧ Below w.heap.size w wr ∧ upTo xs k) (fun i _ => xs.length - (intOf i).toNat)
  case atStart => exact ⟨0, Nat.zero_le _, by omega, rfl, Below.refl _ _, upTo_zero xs⟩
  case round =>
    obtain ⟨k, hk, hk16, rfl, hbel, hall⟩ := hrel
    have A := Lib.hid hall
    have B := Lib.hid hbel
    clear hall
    by_cases hlt : k < xs.length
    · by_cases h15 : k ≤ 15
      · obtain ⟨s, hs⟩ : ∃ s, xs[k]? = some s := ⟨xs[k]'hlt, List.getElem?_eq_getElem _⟩
        have K := Lib.hid hs
        obtain ⟨q, hq⟩ : ∃ q, s.ok = q := ⟨_, rfl⟩
        obtain ⟨o, ho⟩ : ∃ o, (k == 0 || decide ((loAt xs (k - 1)).Out ≤ s.Out)) = o := ⟨_, rfl⟩
        have Q := Lib.hid hq
        have O := Lib.hid ho
        have hi0 : (0 : Int) ≤ (k : Int) := by omega
        have hi1 : (k : Int) < (xs.length : Int) := by omega
        have h15' : (k : Int) ≤ 15 := by omega
        clear hbel hs hq ho
        go_upto_region 4 with (fail)
        go_cut [38] (fun c wx => c = .bool (!(q && o)) ∧ Below w.heap.size w wx)
        case first => as_aux_lemma =>
          have cQ := below_at (W := wr) (fun W' _ => Q.out ▸ l11One_any s W')
          obtain ⟨b, p, rfl, _, hat⟩ := (S.out.below B.out).at (by omega)
          obtain ⟨e0, e1, e2, e3, e4⟩ := hat k s K.out
          cases q
          · have k0 := cell_regrown e0
            have k1 := cell_regrown e1
            have k2 := cell_regrown e2
            have k3 := cell_regrown e3
            have k4 := cell_regrown e4
            clear e0 e1 e2 e3 e4 hat
            refine wp_region_quiet_below (by kernel_rfl) (by kernel_rfl) ?_
            repeat (first | go_big_quiet_step (exact cQ _ _) | quiet_step (exact cQ _ _))
            refine wpQuiet_nil ?_
            intro W2 hw2
            have B2 := Lib.hid (Below.then' B.out (below_of_re hw2))
            clear hw2
            go_wp2
            go_meet
            exact ⟨rfl, B2.out⟩
          · by_cases hk0 : k = 0
            · subst hk0
              obtain rfl : o = true := by rw [← O.out]; rfl
              simp only [Nat.zero_mul, Nat.add_zero] at e0 e1 e2 e3 e4
              have k0 := cell_regrown e0
              have k1 := cell_regrown e1
              have k2 := cell_regrown e2
              have k3 := cell_regrown e3
              have k4 := cell_regrown e4
              clear e0 e1 e2 e3 e4 hat
              refine wp_region_quiet_below (by kernel_rfl) (by kernel_rfl) ?_
              repeat (first | go_big_quiet_step (exact cQ _ _) | quiet_step (exact cQ _ _))
              refine wpQuiet_nil ?_
              intro W2 hw2
              have B2 := Lib.hid (Below.then' B.out (below_of_re hw2))
              clear hw2
              go_wp2
              go_meet
              exact ⟨rfl, B2.out⟩
            · obtain ⟨j, rfl⟩ : ∃ j, k = j + 1 := ⟨k - 1, by omega⟩
              obtain ⟨p, hp⟩ : ∃ p, xs[j]? = some p := ⟨xs[j]'(by omega), List.getElem?_eq_getElem _⟩
              have PO := Lib.hid (show decide (p.Out ≤ s.Out) = o from by rw [← O.out, Nat.add_sub_cancel, loAt_some hp]; simp)
              have hp0 : (0 : Int) ≤ (j : Int) := by omega
              have hp1 : (j : Int) < (xs.length : Int) := by omega
              obtain ⟨_, _, p2, _⟩ := hat j p hp
              have q2 := cell_regrown p2
              have k0 := cell_regrown e0
              have k1 := cell_regrown e1
              have k2 := cell_regrown e2
              have k3 := cell_regrown e3
              have k4 := cell_regrown e4
              clear e0 e1 e2 e3 e4 hat p2 hp hk0
              cases o
              · have dl : s.Out < p.Out := by have := of_decide_eq_false PO.out; omega
                refine wp_region_quiet_below (by kernel_rfl) (by kernel_rfl) ?_
                repeat (first | go_big_quiet_step (exact cQ _ _) | quiet_step (exact cQ _ _))
                refine wpQuiet_nil ?_
                intro W2 hw2
                have B2 := Lib.hid (Below.then' B.out (below_of_re hw2))
                clear hw2
                go_wp2
                go_meet
                exact ⟨rfl, B2.out⟩
              · have dl : ¬ s.Out < p.Out := by have := of_decide_eq_true PO.out; omega
                refine wp_region_quiet_below (by kernel_rfl) (by kernel_rfl) ?_
                repeat (first | go_big_quiet_step (exact cQ _ _) | quiet_step (exact cQ _ _))
                refine wpQuiet_nil ?_
                intro W2 hw2
                have B2 := Lib.hid (Below.then' B.out (below_of_re hw2))
                clear hw2
                go_wp2
                go_meet
                exact ⟨rfl, B2.out⟩
        case rest =>
        obtain ⟨rfl, hbel⟩ := hcut
        rename World => wc
        have BC := Lib.hid hbel
        clear hbel
        obtain ⟨r, hr⟩ : ∃ r, (!(q && o)) = r := ⟨_, rfl⟩
        have R := Lib.hid hr
        rw [hr]
        clear hr
        cases r
        case true =>
          have N := Lib.hid (areLo_no hlt (fit_cond K.out Q.out O.out (by have := R.out; cases h : (q && o) with | false => rfl | true => rw [h] at this; cases this)))
          go_wp2
          go_ret
          exact ⟨ret_bool N.out.symm, BC.out⟩
        go_wp2
        go_loopw [4] (fun i wr => ∃ j : Nat, j ≤ k ∧ i = .int .i64 j ∧ Below w.heap.size w wr ∧ ∀ (t : Nat) b, t < j → xs[t]? = some b → wayB s b = false) (fun i _ => k - (intOf i).toNat)
        case atStart => exact ⟨0, Nat.zero_le _, rfl, BC.out, fun _ _ h => by omega⟩
        case round =>
          obtain ⟨j, hj, rfl, hbel, hway⟩ := hrel
          have BJ := Lib.hid hbel
          have WJ := Lib.hid hway
          clear hway
          by_cases hjk : j < k
          · obtain ⟨c, hc⟩ : ∃ c, xs[j]? = some c := ⟨xs[j]'(by omega), List.getElem?_eq_getElem _⟩
            have C := Lib.hid hc
            obtain ⟨b, p, rfl, _, hat⟩ := (S.out.below hbel).at (by omega)
            obtain ⟨e0, e1, e2, e3, e4⟩ := hat k s K.out
            obtain ⟨f0, f1, f2, f3, f4⟩ := hat j c hc
            have hj0 : (0 : Int) ≤ (j : Int) := by omega
            have hj1 : (j : Int) < (xs.length : Int) := by omega
            clear hbel hat hc
            by_cases hsh : c.Sheet = s.Sheet
            · have s1 : (c.Sheet == s.Sheet) = true := by simp [hsh]
              have S1 := Lib.hid s1
              clear hsh
              by_cases hb0 : c.Back < 0
              · have NO := Lib.hid (areLo_no hlt (fit_way K.out C.out hjk (by unfold wayB; rw [S1.out, decide_eq_true hb0]; rfl)))
                go_wp2
                go_quiet (fail)
                have B3 := Lib.hid (Below.then' BJ.out (bel_drawn _ nq))
                go_wp2
                go_ret
                exact ⟨ret_bool NO.out.symm, B3.out⟩
              · by_cases hbo : s.Out < c.Back
                · have NO := Lib.hid (areLo_no hlt (fit_way K.out C.out hjk (by unfold wayB; rw [S1.out, decide_eq_true hbo, Bool.or_true]; rfl)))
                  have hb1 : decide (c.Back < 0) = false := decide_eq_false hb0
                  go_wp2
                  go_quiet (fail)
                  have B3 := Lib.hid (Below.then' BJ.out (bel_drawn _ nq))
                  go_wp2
                  go_ret
                  exact ⟨ret_bool NO.out.symm, B3.out⟩
                · have WN := Lib.hid (show wayB s c = false from by unfold wayB; rw [decide_eq_false hb0, decide_eq_false hbo]; simp)
                  have hb2 : decide (s.Out < c.Back) = false := decide_eq_false hbo
                  have hb1 : decide (c.Back < 0) = false := decide_eq_false hb0
                  go_wp2
                  go_quiet (fail)
                  have B3 := Lib.hid (Below.then' BJ.out (bel_drawn _ nq))
                  go_wp2
                  go_roundw
                  case rel => exact ⟨j + 1, by omega, by go_num, B3.out, fun t b ht hb => by
                    by_cases e : t = j
                    · subst e; rw [C.out] at hb; cases hb; exact WN.out
                    · exact WJ.out t b (by omega) hb⟩
                  case measure => simp [intOf]; omega
            · have s1 : (c.Sheet == s.Sheet) = false := by simp [hsh]
              have S1 := Lib.hid s1
              have WN := Lib.hid (show wayB s c = false from by unfold wayB; rw [S1.out]; rfl)
              clear hsh
              go_wp2
              go_quiet (fail)
              have B3 := Lib.hid (Below.then' BJ.out (bel_drawn _ nq))
              go_wp2
              go_roundw
              case rel => exact ⟨j + 1, by omega, by go_num, B3.out, fun t b ht hb => by
                by_cases e : t = j
                · subst e; rw [C.out] at hb; cases hb; exact WN.out
                · exact WJ.out t b (by omega) hb⟩
              case measure => simp [intOf]; omega
          · obtain rfl : j = k := by omega
            have F := Lib.hid (fit_all K.out Q.out O.out (by have := R.out; cases h : (q && o) with | true => rfl | false => rw [h] at this; cases this) WJ.out)
            clear hbel
            go_wp2
            go_roundw
            case rel => exact ⟨j + 1, by omega, by omega, by go_num, BJ.out, upTo_snoc A.out F.out⟩
            case measure => simp [intOf]; omega
      · have N := Lib.hid (areLo_long (xs := xs) (by omega))
        have hn : ¬ xs.length ≤ 15 := by omega
        have hn2 : ¬ (xs.length : Int) ≤ 15 := by omega
        have hk2 : ¬ (k : Int) ≤ 15 := by omega
        clear hbel
        go_wp2
        go_ret
        exact ⟨ret_bool N.out.symm, B.out⟩
    · obtain rfl : k = xs.length := by omega
      have D : decide (xs.length ≤ 15) = areLo xs := by
        by_cases h15 : xs.length ≤ 15
        · rw [areLo_all A.out h15, decide_eq_true h15]
        · rw [areLo_long h15, decide_eq_false h15]
      have DD := Lib.hid D
      clear hbel D
      go_wp2
      go_ret
      exact ⟨ret_bool (by rw [← DD.out, decide_eq_decide]; omega), B.out⟩
theorem specAreLoans_any (a : Option Addr) (len cap : Nat) (xs : List VLoan) (w : World) (h : IsLoanS w a len cap xs) (_ : xs.length ≤ 1048576) :
    Calls Try.prog 46 #[.slice a len cap] w (AreLoans_Post xs w) := by
  have S := Lib.hid h
  clear h
  go_enter Try.func46, Try.ntmps46
  go_wp2_with fail
  refine (l11Good_any _ _ _ xs _ S.out).mono ?_
  rintro e w1 ⟨rfl, hb⟩
  have B := Lib.hid hb
  clear hb
  go_wp2
  go_ret
  exact ⟨rfl, B.out⟩
end Go.Proofs.Ytffbljbgmgifnaa
