/- Texts in one: Los2, MnMx, LendSheetP, ReturnSheetP, ProlongLoanP, Los3, LoDr2, LoDr3. -/
import Derived.Test.YtffbljbgmgifnaaGreatDoorM4
import Derived.Deep.DeepCutAuto
import Derived.Test.YtffbljbgmgifnaaGreatDoorM2
import Derived.Test.YtffbljbgmgifnaaGreatDoorM3
namespace Go.Proofs.YtffbljbgmgifnaaGreatDoor
open Go.RowKit

theorem fit_cond {xs : List VLoan} {k : Nat} {l : VLoan} {q o : Bool} (hs : xs[k]? = some l) (hq : l.ok = q) (ho : (k == 0 || decide ((loAt xs (k - 1)).Out ≤ l.Out)) = o) (h : (q && o) = false) : fitLo xs k = false := by
  rw [fits_is hs, hq, ho, ← Bool.and_assoc, h]; rfl
theorem fit_way {xs : List VLoan} {k j : Nat} {l b : VLoan} (hs : xs[k]? = some l) (hb : xs[j]? = some b) (hj : j < k) (hw : wayB l b = true) : fitLo xs k = false := by
  rw [fits_is hs]
  have : (xs.take k).any (wayB l) = true := List.any_eq_true.2 ⟨b, List.mem_of_getElem? (by rw [List.getElem?_take, if_pos hj]; exact hb), hw⟩
  rw [this]; simp
theorem fit_all {xs : List VLoan} {k : Nat} {l : VLoan} {q o : Bool} (hs : xs[k]? = some l) (hq : l.ok = q) (ho : (k == 0 || decide ((loAt xs (k - 1)).Out ≤ l.Out)) = o) (h : (q && o) = true) (hw : ∀ (j : Nat) b, j < k → xs[j]? = some b → wayB l b = false) : fitLo xs k = true := by
  have hn : (xs.take k).any (wayB l) = false := by
    rw [List.any_eq_false]
    intro b hb
    obtain ⟨j, hj⟩ := List.getElem?_of_mem hb
    rw [List.getElem?_take] at hj
    split at hj
    · rename_i hjk; rw [hw j b hjk hj]; simp
    · cases hj
  rw [fits_is hs, hq, ho, hn, ← Bool.and_assoc, h]; rfl
set_option maxHeartbeats 12800000 in
set_option maxRecDepth 100000 in
theorem l11Good_any (a : Option Addr) (len cap : Nat) (xs : List VLoan) (w : World) (h : IsLoanS w a len cap xs) :
    Calls Tryz.prog 32 #[.slice a len cap] w fun e w' => e = .returned (.bool (areLo xs)) ∧ Below w.heap.size w w' := by
  have hm := h.2.2.1
  have hcl := h.2.1
  unfold maxLen at hm
  obtain rfl := h.1
  have S := Lib.hid h
  clear h
  go_enter Tryz.func32, Tryz.ntmps32
  go_wp2
  go_loopw [3] (fun i wr => ∃ k : Nat, k ≤ xs.length ∧ k ≤ 16 ∧ i = .int .i64 k ∧ Below w.heap.size w wr ∧ upTo xs k) (fun i _ => xs.length - (intOf i).toNat)
  case atStart => exact ⟨0, Nat.zero_le _, by omega, rfl, Below.refl _ _, upTo_zero xs⟩
  case round =>
    obtain ⟨k, hk, hk16, rfl, hbel, hall⟩ := hrel
    have A := Lib.hid hall
    have B := Lib.hid hbel
    clear hall
    by_cases hlt : k < xs.length
    · by_cases h15 : k ≤ 15
      · obtain ⟨s, hs⟩ : ∃ s, xs[k]? = some s := ⟨xs[k]'hlt, List.getElem?_eq_getElem _⟩
        have K := Lib.hid hs
        obtain ⟨q, hq⟩ : ∃ q, s.ok = q := ⟨_, rfl⟩
        obtain ⟨o, ho⟩ : ∃ o, (k == 0 || decide ((loAt xs (k - 1)).Out ≤ s.Out)) = o := ⟨_, rfl⟩
        have Q := Lib.hid hq
        have O := Lib.hid ho
        have hi0 : (0 : Int) ≤ (k : Int) := by omega
        have hi1 : (k : Int) < (xs.length : Int) := by omega
        have h15' : (k : Int) ≤ 15 := by omega
        clear hbel hs hq ho
        go_upto_region 4 with (fail)
        go_cut [38] (fun c wx => c = .bool (!(q && o)) ∧ Below w.heap.size w wx)
        case first => as_aux_lemma =>
          have cQ := below_at (W := wr) (fun W' _ => Q.out ▸ l11One_any s W')
          obtain ⟨b, p, rfl, _, hat⟩ := (S.out.below B.out).at (by omega)
          obtain ⟨e0, e1, e2, e3, e4⟩ := hat k s K.out
          cases q
          · have k0 := cell_regrown e0
            have k1 := cell_regrown e1
            have k2 := cell_regrown e2
            have k3 := cell_regrown e3
            have k4 := cell_regrown e4
            clear e0 e1 e2 e3 e4 hat
            refine wp_region_quiet_below (by kernel_rfl) (by kernel_rfl) ?_
            repeat (first | go_big_quiet_step (exact cQ _ _) | quiet_step (exact cQ _ _))
            refine wpQuiet_nil ?_
            intro W2 hw2
            have B2 := Lib.hid (Below.then' B.out (below_of_re hw2))
            clear hw2
            go_wp2
            go_meet
            exact ⟨rfl, B2.out⟩
          · by_cases hk0 : k = 0
            · subst hk0
              obtain rfl : o = true := by rw [← O.out]; rfl
              simp only [Nat.zero_mul, Nat.add_zero] at e0 e1 e2 e3 e4
              have k0 := cell_regrown e0
              have k1 := cell_regrown e1
              have k2 := cell_regrown e2
              have k3 := cell_regrown e3
              have k4 := cell_regrown e4
              clear e0 e1 e2 e3 e4 hat
              refine wp_region_quiet_below (by kernel_rfl) (by kernel_rfl) ?_
              repeat (first | go_big_quiet_step (exact cQ _ _) | quiet_step (exact cQ _ _))
              refine wpQuiet_nil ?_
              intro W2 hw2
              have B2 := Lib.hid (Below.then' B.out (below_of_re hw2))
              clear hw2
              go_wp2
              go_meet
              exact ⟨rfl, B2.out⟩
            · obtain ⟨j, rfl⟩ : ∃ j, k = j + 1 := ⟨k - 1, by omega⟩
              obtain ⟨p, hp⟩ : ∃ p, xs[j]? = some p := ⟨xs[j]'(by omega), List.getElem?_eq_getElem _⟩
              have PO := Lib.hid (show decide (p.Out ≤ s.Out) = o from by rw [← O.out, Nat.add_sub_cancel, loAt_some hp]; simp)
              have hp0 : (0 : Int) ≤ (j : Int) := by omega
              have hp1 : (j : Int) < (xs.length : Int) := by omega
              obtain ⟨_, _, p2, _⟩ := hat j p hp
              have q2 := cell_regrown p2
              have k0 := cell_regrown e0
              have k1 := cell_regrown e1
              have k2 := cell_regrown e2
              have k3 := cell_regrown e3
              have k4 := cell_regrown e4
              clear e0 e1 e2 e3 e4 hat p2 hp hk0
              cases o
              · have dl : s.Out < p.Out := by have := of_decide_eq_false PO.out; omega
                refine wp_region_quiet_below (by kernel_rfl) (by kernel_rfl) ?_
                repeat (first | go_big_quiet_step (exact cQ _ _) | quiet_step (exact cQ _ _))
                refine wpQuiet_nil ?_
                intro W2 hw2
                have B2 := Lib.hid (Below.then' B.out (below_of_re hw2))
                clear hw2
                go_wp2
                go_meet
                exact ⟨rfl, B2.out⟩
              · have dl : ¬ s.Out < p.Out := by have := of_decide_eq_true PO.out; omega
                refine wp_region_quiet_below (by kernel_rfl) (by kernel_rfl) ?_
                repeat (first | go_big_quiet_step (exact cQ _ _) | quiet_step (exact cQ _ _))
                refine wpQuiet_nil ?_
                intro W2 hw2
                have B2 := Lib.hid (Below.then' B.out (below_of_re hw2))
                clear hw2
                go_wp2
                go_meet
                exact ⟨rfl, B2.out⟩
        case rest =>
        obtain ⟨rfl, hbel⟩ := hcut
        rename World => wc
        have BC := Lib.hid hbel
        clear hbel
        obtain ⟨r, hr⟩ : ∃ r, (!(q && o)) = r := ⟨_, rfl⟩
        have R := Lib.hid hr
        rw [hr]
        clear hr
        cases r
        case true =>
          have N := Lib.hid (areLo_no hlt (fit_cond K.out Q.out O.out (by have := R.out; cases h : (q && o) with | false => rfl | true => rw [h] at this; cases this)))
          go_wp2
          go_ret
          exact ⟨ret_bool N.out.symm, BC.out⟩
        go_wp2
        go_loopw [4] (fun i wr => ∃ j : Nat, j ≤ k ∧ i = .int .i64 j ∧ Below w.heap.size w wr ∧ ∀ (t : Nat) b, t < j → xs[t]? = some b → wayB s b = false) (fun i _ => k - (intOf i).toNat)
        case atStart => exact ⟨0, Nat.zero_le _, rfl, BC.out, fun _ _ h => by omega⟩
        case round =>
          obtain ⟨j, hj, rfl, hbel, hway⟩ := hrel
          have BJ := Lib.hid hbel
          have WJ := Lib.hid hway
          clear hway
          by_cases hjk : j < k
          · obtain ⟨c, hc⟩ : ∃ c, xs[j]? = some c := ⟨xs[j]'(by omega), List.getElem?_eq_getElem _⟩
            have C := Lib.hid hc
            obtain ⟨b, p, rfl, _, hat⟩ := (S.out.below hbel).at (by omega)
            obtain ⟨e0, e1, e2, e3, e4⟩ := hat k s K.out
            obtain ⟨f0, f1, f2, f3, f4⟩ := hat j c hc
            have hj0 : (0 : Int) ≤ (j : Int) := by omega
            have hj1 : (j : Int) < (xs.length : Int) := by omega
            clear hbel hat hc
            by_cases hsh : c.Sheet = s.Sheet
            · have s1 : (c.Sheet == s.Sheet) = true := by simp [hsh]
              have S1 := Lib.hid s1
              clear hsh
              by_cases hb0 : c.Back < 0
              · have NO := Lib.hid (areLo_no hlt (fit_way K.out C.out hjk (by unfold wayB; rw [S1.out, decide_eq_true hb0]; rfl)))
                go_wp2
                go_quiet (fail)
                have B3 := Lib.hid (Below.then' BJ.out (bel_drawn _ nq))
                go_wp2
                go_ret
                exact ⟨ret_bool NO.out.symm, B3.out⟩
              · by_cases hbo : s.Out < c.Back
                · have NO := Lib.hid (areLo_no hlt (fit_way K.out C.out hjk (by unfold wayB; rw [S1.out, decide_eq_true hbo, Bool.or_true]; rfl)))
                  have hb1 : decide (c.Back < 0) = false := decide_eq_false hb0
                  go_wp2
                  go_quiet (fail)
                  have B3 := Lib.hid (Below.then' BJ.out (bel_drawn _ nq))
                  go_wp2
                  go_ret
                  exact ⟨ret_bool NO.out.symm, B3.out⟩
                · have WN := Lib.hid (show wayB s c = false from by unfold wayB; rw [decide_eq_false hb0, decide_eq_false hbo]; simp)
                  have hb2 : decide (s.Out < c.Back) = false := decide_eq_false hbo
                  have hb1 : decide (c.Back < 0) = false := decide_eq_false hb0
                  go_wp2
                  go_quiet (fail)
                  have B3 := Lib.hid (Below.then' BJ.out (bel_drawn _ nq))
                  go_wp2
                  go_roundw
                  case rel => exact ⟨j + 1, by omega, by go_num, B3.out, fun t b ht hb => by
                    by_cases e : t = j
                    · subst e; rw [C.out] at hb; cases hb; exact WN.out
                    · exact WJ.out t b (by omega) hb⟩
                  case measure => simp [intOf]; omega
            · have s1 : (c.Sheet == s.Sheet) = false := by simp [hsh]
              have S1 := Lib.hid s1
              have WN := Lib.hid (show wayB s c = false from by unfold wayB; rw [S1.out]; rfl)
              clear hsh
              go_wp2
              go_quiet (fail)
              have B3 := Lib.hid (Below.then' BJ.out (bel_drawn _ nq))
              go_wp2
              go_roundw
              case rel => exact ⟨j + 1, by omega, by go_num, B3.out, fun t b ht hb => by
                by_cases e : t = j
                · subst e; rw [C.out] at hb; cases hb; exact WN.out
                · exact WJ.out t b (by omega) hb⟩
              case measure => simp [intOf]; omega
          · obtain rfl : j = k := by omega
            have F := Lib.hid (fit_all K.out Q.out O.out (by have := R.out; cases h : (q && o) with | true => rfl | false => rw [h] at this; cases this) WJ.out)
            clear hbel
            go_wp2
            go_roundw
            case rel => exact ⟨j + 1, by omega, by omega, by go_num, BJ.out, upTo_snoc A.out F.out⟩
            case measure => simp [intOf]; omega
      · have N := Lib.hid (areLo_long (xs := xs) (by omega))
        have hn : ¬ xs.length ≤ 15 := by omega
        have hn2 : ¬ (xs.length : Int) ≤ 15 := by omega
        have hk2 : ¬ (k : Int) ≤ 15 := by omega
        clear hbel
        go_wp2
        go_ret
        exact ⟨ret_bool N.out.symm, B.out⟩
    · obtain rfl : k = xs.length := by omega
      have D : decide (xs.length ≤ 15) = areLo xs := by
        by_cases h15 : xs.length ≤ 15
        · rw [areLo_all A.out h15, decide_eq_true h15]
        · rw [areLo_long h15, decide_eq_false h15]
      have DD := Lib.hid D
      clear hbel D
      go_wp2
      go_ret
      exact ⟨ret_bool (by rw [← DD.out, decide_eq_decide]; omega), B.out⟩
end Go.Proofs.YtffbljbgmgifnaaGreatDoor
namespace Go.Proofs.YtffbljbgmgifnaaGreatDoor
open Go.RowKit
theorem l1Least_any (x y : Int) (w : World) :
    Calls Tryz.prog 66 #[.int .i64 x, .int .i64 y] w fun e w' => e = .returned (.int .i64 (min x y)) ∧ w = w' := by
  by_cases h : x < y
  · go_enter Tryz.func66, Tryz.ntmps66
    go_wp2
    go_ret
    exact ⟨ret_int (by omega), rfl⟩
  · go_enter Tryz.func66, Tryz.ntmps66
    go_wp2
    go_ret
    exact ⟨ret_int (by omega), rfl⟩
theorem l1Most_any (x y : Int) (w : World) :
    Calls Tryz.prog 67 #[.int .i64 x, .int .i64 y] w fun e w' => e = .returned (.int .i64 (max x y)) ∧ w = w' := by
  by_cases h : y < x
  · go_enter Tryz.func67, Tryz.ntmps67
    go_wp2
    go_ret
    exact ⟨ret_int (by omega), rfl⟩
  · go_enter Tryz.func67, Tryz.ntmps67
    go_wp2
    go_ret
    exact ⟨ret_int (by omega), rfl⟩
end Go.Proofs.YtffbljbgmgifnaaGreatDoor
namespace Go.Proofs.YtffbljbgmgifnaaGreatDoor
open Go.RowKit
def LendSheet_Post (z0 : List VLoan) (z1 : Int) (z2 : Int) (z3 : Int) (z4 : Int) (w : World) (e : Ending) (w' : World) : Prop :=
  ∃ v0 : Value, e = .returned (.tuple #[v0, .bool (LendSheet_1 z0 z1 z2 z3 z4)]) ∧ w'.ownsRow w.heap.size 43 5 v0 (LendSheet_0 z0 z1 z2 z3 z4).length (cellsLoan (LendSheet_0 z0 z1 z2 z3 z4)) ∧ Below w.heap.size w w'
end Go.Proofs.YtffbljbgmgifnaaGreatDoor
namespace Go.Proofs.YtffbljbgmgifnaaGreatDoor
open Go.RowKit
def ReturnSheet_Post (z0 : List VLoan) (z1 : Int) (z2 : Int) (w : World) (e : Ending) (w' : World) : Prop :=
  ∃ v0 : Value, e = .returned (.tuple #[v0, .int .i64 (ReturnSheet_1 z0 z1 z2), .bool (ReturnSheet_2 z0 z1 z2)]) ∧ w'.ownsRow w.heap.size 43 5 v0 (ReturnSheet_0 z0 z1 z2).length (cellsLoan (ReturnSheet_0 z0 z1 z2)) ∧ Below w.heap.size w w'
end Go.Proofs.YtffbljbgmgifnaaGreatDoor
namespace Go.Proofs.YtffbljbgmgifnaaGreatDoor
open Go.RowKit
def ProlongLoan_Post (z0 : List VLoan) (z1 : Int) (z2 : Int) (z3 : Int) (w : World) (e : Ending) (w' : World) : Prop :=
  ∃ v0 : Value, e = .returned (.tuple #[v0, .bool (ProlongLoan_1 z0 z1 z2 z3)]) ∧ w'.ownsRow w.heap.size 43 5 v0 (ProlongLoan_0 z0 z1 z2 z3).length (cellsLoan (ProlongLoan_0 z0 z1 z2 z3)) ∧ Below w.heap.size w w'
end Go.Proofs.YtffbljbgmgifnaaGreatDoor
namespace Go.Proofs.YtffbljbgmgifnaaGreatDoor
open Go.RowKit

theorem made_ownLo (w : World) (base : Nat) (h : base ≤ w.heap.size) : (w.alloc (.cells #[] 43)).ownsRow base 43 5 (.slice (some ⟨w.heap.size, 0, none⟩) 0 0) ([] : List VLoan).length (cellsLoan []) :=
  World.ownsRow_made (base := base) (e := 43) (size := 5) w #[] 0 h (Nat.zero_le _) rfl
theorem one_Lo (xs : List VLoan) : ∀ u ∈ cellsLoan xs, u.oneCell' = true := by
  intro u hu
  obtain ⟨s, _, hs⟩ := List.mem_flatMap.1 hu
  exact s.vals_one u hs
theorem l11Open_any (a : Option Addr) (len cap : Nat) (xs : List VLoan) (sh : Int) (w : World) (h : IsLoanS w a len cap xs) :
    Calls Tryz.prog 46 #[.slice a len cap, .int .i64 sh] w fun e w' => e = .returned (.int .i64 (lentAt xs sh)) ∧ Below w.heap.size w w' := by
  have hm := h.2.2.1
  have hcl := h.2.1
  unfold maxLen at hm
  obtain rfl := h.1
  have S := Lib.hid h
  clear h
  go_enter Tryz.func46, Tryz.ntmps46
  go_wp2
  go_loopw [5] (fun i wr => ∃ k : Nat, k ≤ xs.length ∧ i = .int .i64 k ∧ Below w.heap.size w wr ∧ ∀ j t, j < k → xs[j]? = some t → (t.Sheet == sh && decide (t.Back < 0)) = false) (fun i _ => xs.length - (intOf i).toNat)
  case atStart => exact ⟨0, Nat.zero_le _, rfl, Below.refl _ _, fun _ _ h => by omega⟩
  case round =>
    obtain ⟨k, hk, rfl, hbel, hall⟩ := hrel
    have A := Lib.hid hall
    have B := Lib.hid hbel
    clear hall
    by_cases hlt : k < xs.length
    · obtain ⟨s, hs⟩ : ∃ s, xs[k]? = some s := ⟨xs[k]'hlt, List.getElem?_eq_getElem _⟩
      obtain ⟨b, o, rfl, hb, hat⟩ := (S.out.below hbel).at (by omega)
      obtain ⟨c0, c1, c2, c3, c4⟩ := hat k s hs
      have HS := Lib.hid hs
      have hi0 : (0 : Int) ≤ (k : Int) := by omega
      have hi1 : (k : Int) < (xs.length : Int) := by omega
      clear hs hat hbel
      by_cases hsh : s.Sheet = sh
      · have s1 : (s.Sheet == sh) = true := by simp [hsh]
        have S1 := Lib.hid s1
        clear hsh
        by_cases hb0 : s.Back < 0
        · have E := Lib.hid (show lentAt xs sh = (k : Int) from firstOf_at HS.out (by rw [S1.out, decide_eq_true hb0]; rfl) A.out)
          go_wp2
          go_ret
          exact ⟨ret_int E.out.symm, B.out⟩
        · have N := Lib.hid (show (s.Sheet == sh && decide (s.Back < 0)) = false from by rw [decide_eq_false hb0]; simp)
          go_wp2
          go_roundw
          case rel => exact ⟨k + 1, by omega, by go_num, B.out, fun j t hj ht => by
            by_cases e : j = k
            · subst e; rw [HS.out] at ht; cases ht; exact N.out
            · exact A.out j t (by omega) ht⟩
          case measure => simp [intOf]; omega
      · have s1 : (s.Sheet == sh) = false := by simp [hsh]
        have N := Lib.hid (show (s.Sheet == sh && decide (s.Back < 0)) = false from by rw [s1]; rfl)
        clear hsh
        go_wp2
        go_roundw
        case rel => exact ⟨k + 1, by omega, by go_num, B.out, fun j t hj ht => by
          by_cases e : j = k
          · subst e; rw [HS.out] at ht; cases ht; exact N.out
          · exact A.out j t (by omega) ht⟩
        case measure => simp [intOf]; omega
    · obtain rfl : k = xs.length := by omega
      have E := Lib.hid (show lentAt xs sh = -1 from firstOf_no A.out)
      clear hbel
      go_wp2
      go_ret
      exact ⟨ret_int E.out.symm, B.out⟩
end Go.Proofs.YtffbljbgmgifnaaGreatDoor
namespace Go.Proofs.YtffbljbgmgifnaaGreatDoor
open Go.RowKit Go.Deep

/-- A list of some loans that the draw owns; only the cursor has turned. -/
def RowHere (bc : Nat) (a : Option Addr) (len cap t : Nat) (w : World) (v : Value) (wx : World) : Prop := ∃ xs : List VLoan, xs.length ≤ 20 ∧ (∀ s ∈ xs, LoanBd s) ∧ wx.ownsRow w.heap.size 43 5 v xs.length (cellsLoan xs) ∧ CurAt wx bc a len cap t ∧ w.grownBy wx (some bc)
def LoansDraw (bc : Nat) (a : Option Addr) (len cap t : Nat) (w : World) (e : Ending) (w' : World) : Prop := ∃ v, e = .returned v ∧ RowHere bc a len cap t w v w'
theorem own_keep {w w' : World} {base : Nat} {e : TypeId} {size n : Nat} {v : Value} {xs : List Value} (h : w.ownsRow base e size v n xs) (hk : ∀ b, v.ownBlock = some b → base ≤ b → b < w.heap.size → w'.heap[b]? = w.heap[b]?) : w'.ownsRow base e size v n xs := by
  refine ⟨h.1, ?_⟩
  rcases h.2 with h0 | ⟨g, cap, cur, rfl, hb, hh, r⟩
  · exact .inl h0
  · exact .inr ⟨g, cap, cur, rfl, hb, (hk g rfl hb (Array.getElem?_eq_some_iff.1 hh).1).trans hh, r⟩
theorem own_base {w : World} {base base' : Nat} {e : TypeId} {size n : Nat} {v : Value} {xs : List Value} (h : w.ownsRow base e size v n xs) (hb : base' ≤ base) : w.ownsRow base' e size v n xs := ownsRow_base h hb
theorem IsLoanS.cellsAt0 {w : World} {g len cap : Nat} {xs : List VLoan} (h : IsLoanS w (some ⟨g, 0, none⟩) len cap xs) {s : VLoan} (hs : xs[0]? = some s) : LoanAt w g 0 s := by
  obtain ⟨_, _, e, _, hat⟩ := h.at (by have := (List.getElem?_eq_some_iff.1 hs).1; have := h.1; omega)
  cases e
  simpa using hat 0 s hs
theorem IsLoanS.drop1 {w : World} {g len cap : Nat} {xs : List VLoan} (h : IsLoanS w (some ⟨g, 0, none⟩) len cap xs) (hl : 1 < len) : IsLoanS w (some ⟨g, 5, none⟩) (len - 1) (cap - 1) (xs.drop 1) := by
  refine ⟨by rw [List.length_drop, ← h.1], by have := h.2.1; omega, by have := h.2.2.1; omega, ?_⟩
  obtain ⟨b, o, e, hb, hat⟩ := h.at (by omega)
  cases e
  refine .inr ⟨g, 5, rfl, hb, fun k s hs => ?_⟩
  rw [List.getElem?_drop] at hs
  have := hat (1 + k) s hs
  rwa [show 0 + (1 + k) * 5 = 5 + k * 5 from by omega] at this
theorem lit_LL {w8 w9 : World} {y : VLoan} (h : (((w8.alloc (.cells #[] 43)).alloc (.cells #[.int .i64 y.Sheet, .int .i64 y.Reader, .int .i64 y.Out, .int .i64 y.Due, .int .i64 y.Back] 43)).drew).grownBy w9 (Value.slice (some ⟨w8.heap.size, 0, none⟩) 0 0).ownBlock) : ∀ j u, y.vals[j]? = some u → w9.cell? ((⟨w8.heap.size + 1, 0, none⟩ : Addr).add j) = some u := by
  intro j u hj
  have h1 := cell_Loan (w8.alloc (.cells #[] 43)) y 43 j u hj
  have e : (w8.alloc (.cells #[] 43)).heap.size = w8.heap.size + 1 := size_al _ _
  rw [e] at h1
  rw [add_plain] at h1 ⊢
  refine (World.cell?_of_block (a := ⟨w8.heap.size + 1, 0 + j, none⟩) (h.block _ (by show _ < ((w8.alloc _).alloc _).heap.size; rw [size_al, size_al]; exact Nat.lt_succ_self _) (fun e => by have : w8.heap.size + 1 = w8.heap.size := Option.some.inj e; omega))).trans h1
theorem lit_ML {w8 w9 : World} {y : VLoan} (h : (((w8.alloc (.cells #[.int .i64 y.Sheet, .int .i64 y.Reader, .int .i64 y.Out, .int .i64 y.Due, .int .i64 y.Back] 43)).alloc (.cells #[] 43)).drew).grownBy w9 (Value.slice (some ⟨w8.heap.size + 1, 0, none⟩) 0 0).ownBlock) : ∀ j u, y.vals[j]? = some u → w9.cell? ((⟨w8.heap.size, 0, none⟩ : Addr).add j) = some u := by
  intro j u hj
  have h1 := cell_Loan w8 y 43 j u hj
  rw [add_plain] at h1 ⊢
  have h2 : ((w8.alloc (.cells #[.int .i64 y.Sheet, .int .i64 y.Reader, .int .i64 y.Out, .int .i64 y.Due, .int .i64 y.Back] 43)).alloc (.cells #[] 43)).cell? ⟨w8.heap.size, 0 + j, none⟩ = some u := ((bel_al1 (w8.alloc (.cells #[.int .i64 y.Sheet, .int .i64 y.Reader, .int .i64 y.Out, .int .i64 y.Due, .int .i64 y.Back] 43)) (.cells #[] 43)).cell (p := ⟨w8.heap.size, 0 + j, none⟩) (by rw [size_al]; exact Nat.lt_succ_self _)).trans h1
  refine (World.cell?_of_block (a := ⟨w8.heap.size, 0 + j, none⟩) (h.block _ (by show _ < ((w8.alloc _).alloc _).heap.size; rw [size_al, size_al]; exact Nat.lt_succ_of_lt (Nat.lt_succ_self _)) (fun e => by have : w8.heap.size = w8.heap.size + 1 := Option.some.inj e; omega))).trans h2
def OneB (c : Value) : Prop := ∃ b : Bool, c = .bool b
set_option maxHeartbeats 12800000 in
set_option maxRecDepth 100000 in
theorem loans_any (bc : Nat) (a : Option Addr) (len cap t : Nat) (w : World) (hc : CurAt w bc a len cap t) (hd : CodeAt w a len cap bc) (ht : t ≤ 700000) :
    Calls Tryz.prog 27 #[.pointer (some ⟨bc, 0, none⟩)] w (LoansDraw bc a len cap (t + 400) w) := by
  obtain ⟨i0, hi, hz0, hz1, hz2⟩ := info_parts infoLoan
  have hlt := hc.lt
  have C := Lib.hid hc
  have D := Lib.hid hd
  have O0 := Lib.hid (made_ownLo w w.heap.size (Nat.le_refl _))
  have G0 := Lib.hid (grow_al (World.grownBy.refl w (some bc)) (.cells #[] 43))
  clear hc hd
  go_enter Tryz.func27, Tryz.ntmps27
  go_wp2_with fail
  refine (among_any bc a len cap _ (w.heap.size + 1) 0 4 4 (0) 3980 _ ((C.out.alloc _).alloc _) ((D.out.alloc _).alloc _) (by omega) (by omega) (by omega) (by omega) (by simp) ?_).mono ?_
  · refine ints_at _ _ _ (0) 3980 4 _ (size_al _ _) rfl ?_
    repeat (refine List.forall_mem_cons.2 ⟨⟨_, by omega, by omega, rfl⟩, ?_⟩)
    exact fun _ h => by cases h
  rintro e w1 ⟨d0, rfl, d00, d01, hc, hg⟩
  have C1 := Lib.hid hc
  have G1 := Lib.hid (grown_trans (grow_al G0.out _) hg)
  have O1 := Lib.hid (ownsRow_grown0 (O0.out.alloc _) hg (by intro k e; cases e; exact hlt))
  have D1 := Lib.hid (D.out.grown G1.out)
  clear hc hg
  go_wp2_with fail
  refine (pick_any bc a len cap _ 9 _ C1.out D1.out (by omega) (by omega) (by omega)).mono ?_
  rintro e w2 ⟨n, rfl, n0, n1, hc, hg⟩
  have C2 := Lib.hid hc
  have G2 := Lib.hid (grown_trans G1.out hg)
  have O2 := Lib.hid (ownsRow_grown0 O1.out hg (by intro k e; cases e; exact hlt))
  obtain ⟨n, rfl⟩ : ∃ m : Nat, n = m := ⟨n.toNat, by omega⟩
  have n8 : n ≤ 8 := by omega
  clear hc hg n0 n1
  go_wp2
  go_loopw [5, 3, 4] (fun i v z wr => ∃ (m : Nat) (dd : Int), m ≤ n ∧ i = .int .i64 m ∧ z = .int .i64 dd ∧ -((n : Int) - (m : Int)) ≤ dd ∧ dd ≤ 3980 + 20 * ((n : Int) - (m : Int)) ∧ (∃ xs : List VLoan, xs.length ≤ n - m ∧ (∀ s ∈ xs, LoanBd s) ∧ wr.ownsRow w.heap.size 43 5 v xs.length (cellsLoan xs)) ∧ CurAt wr bc a len cap (t + 6 + 40 * (n - m)) ∧ w.grownBy wr (some bc)) (fun i _ _ _ => (intOf i).toNat)
  case atStart => exact ⟨n, d0, Nat.le_refl _, rfl, rfl, by omega, by omega, ⟨[], by simp, by simp, O2.out⟩, C2.out.more (by omega), G2.out⟩
  case round =>
    obtain ⟨m, dd, hm, rfl, rfl, hd1, hd2, ⟨xs, hxl, hbd, hown⟩, hcur, hgr⟩ := hrel
    obtain ⟨a5, c5, rfl, his, _⟩ := isLoanS_own hown
    have O := Lib.hid hown
    have IS := Lib.hid his
    have BDX := Lib.hid hbd
    have CK := Lib.hid hcur
    have GK := Lib.hid hgr
    have DK := Lib.hid (D.out.grown hgr)
    have hsz := hgr.size
    have hccl := his.2.1
    have hccm := his.2.2.1
    unfold maxLen at hccm
    clear hown hbd hcur hgr his
    by_cases hm0 : m = 0
    · subst hm0
      go_wp2_with fail
      refine (one_any bc a len cap _ 24 _ CK.out DK.out (by omega) (by omega) (by omega)).mono ?_
      rintro e w3 ⟨b1, rfl, hc, hg⟩
      have C3 := Lib.hid hc
      have G3 := Lib.hid (grown_trans GK.out hg)
      have O3 := Lib.hid (ownsRow_grown0 O.out hg (by intro k e; cases e; exact hlt))
      have D3 := Lib.hid (D.out.grown G3.out)
      clear hc hg
      go_upto_if 43 with (fail)
      go_cut [3] (fun v wx => RowHere bc a len cap (t + 370) w v wx)
      case first =>
        cases b1
        · go_wp2
          go_meet
          exact ⟨xs, by omega, BDX.out, O3.out, C3.out.more (by omega), G3.out⟩
        · have M3 := Lib.hid (made_ownLo w3 w.heap.size G3.out.size)
          go_wp2
          go_loopw [7, 3] (fun i v wr => ∃ (j : Nat) (ys : List VLoan), j ≤ 16 ∧ i = .int .i64 j ∧ ys.length = j ∧ (∀ s ∈ ys, LoanBd s) ∧ wr.ownsRow w.heap.size 43 5 v ys.length (cellsLoan ys) ∧ CurAt wr bc a len cap (t + 330 + 2 * j) ∧ w.grownBy wr (some bc)) (fun i _ _ => 17 - (intOf i).toNat)
          case atStart => exact ⟨0, [], by omega, rfl, rfl, by simp, M3.out, (C3.out.alloc _).more (by omega), grow_al G3.out _⟩
          case round =>
            obtain ⟨j, ys, hj, rfl, hyl, hbd, hown, hcur, hgr⟩ := hrel
            have YL := Lib.hid hyl
            have BY := Lib.hid hbd
            have OY := Lib.hid hown
            have GY := Lib.hid hgr
            have CY := Lib.hid hcur
            have DY := Lib.hid (D.out.grown hgr)
            clear hyl hbd hown hgr hcur
            go_wp2_with fail
            refine (pick_any bc a len cap _ 2 _ CY.out DY.out (by omega) (by omega) (by omega)).mono ?_
            rintro e w4 ⟨p, rfl, p0, p1, hc, hg⟩
            have C4 := Lib.hid hc
            have G4 := Lib.hid (grown_trans GY.out hg)
            have O4 := Lib.hid (ownsRow_grown0 OY.out hg (by intro k e; cases e; exact hlt))
            have hs4 := G4.out.size
            clear hc hg
            obtain ⟨lim, hlim⟩ : ∃ m : Int, 15 + p = m := ⟨_, rfl⟩
            have hl1 : 15 ≤ lim ∧ lim ≤ 16 := by omega
            have v1 : IntKind.i64.wrap (15 + p) = lim := (IntWalk.i64_in _ (by omega)).trans hlim
            clear hlim
            by_cases hjl : (j : Int) < lim
            · have v2 : IntKind.i64.wrap ((j : Int) + 1) = (j : Int) + 1 := IntWalk.i64_in _ (by omega)
              have v3 : IntKind.i64.wrap ((j : Int) + 14) = (j : Int) + 14 := IntWalk.i64_in _ (by omega)
              have hown2 := O4.out.alloc (.cells #[.int .i64 ((j : Int) + 1), .int .i64 1, .int .i64 (j : Int), .int .i64 ((j : Int) + 14), .int .i64 (-1)] 43)
              have G5 := Lib.hid (grow_al G4.out (.cells #[.int .i64 ((j : Int) + 1), .int .i64 1, .int .i64 (j : Int), .int .i64 ((j : Int) + 14), .int .i64 (-1)] 43))
              have C5 := Lib.hid (C4.out.alloc (.cells #[.int .i64 ((j : Int) + 1), .int .i64 1, .int .i64 (j : Int), .int .i64 ((j : Int) + 14), .int .i64 (-1)] 43))
              have hs5 := G5.out.size
              have yl : ys.length ≤ 16 := by rw [YL.out]; exact hj
              go_wp2_with (at_builtin; refine wpList_append_own _ rfl _ _ 24 rfl w.heap.size 43 i0 (.agg #[.int .i64 0, .int .i64 0, .int .i64 0, .int .i64 0, .int .i64 0]) 5 40 Tryz.underlying24 hi hz0 hz1 hz2 rfl (by decide) _ _ _ rfl hown2 ⟨_, 0, none⟩ 1 1 (VLoan.vals ⟨(j : Int) + 1, 1, (j : Int), (j : Int) + 14, -1⟩) rfl rfl (cell_Loan _ ⟨(j : Int) + 1, 1, (j : Int), (j : Int) + 14, -1⟩ _) (VLoan.vals_one _) (by unfold maxLen; omega) (by omega) hs5 ?_; intro v2 w5 hown3 hgrow2 hnil2)
              have G6 := Lib.hid (grown_own0 G5.out hgrow2 (fun k e => (hown2.lt k e).1))
              have C6 := Lib.hid (C5.out.grown hgrow2 (fun e => by have := (hown2.lt _ e.symm).1; omega))
              have O6 := Lib.hid (show w5.ownsRow w.heap.size 43 5 v2 (ys ++ [(⟨(j : Int) + 1, 1, (j : Int), (j : Int) + 14, -1⟩ : VLoan)]).length (cellsLoan (ys ++ [⟨(j : Int) + 1, 1, (j : Int), (j : Int) + 14, -1⟩])) from by
                rw [cellsLoan_snoc, List.length_append, List.length_singleton]; exact hown3)
              clear hown2 hown3 hgrow2 hnil2 hs5 yl
              go_roundw
              case rel => exact ⟨j + 1, _, by omega, by go_num, by rw [List.length_append, YL.out]; rfl, fun x hx => (List.mem_append.1 hx).elim (BY.out x) (fun e => by rw [List.mem_singleton.1 e]; exact loanBd_mk (by omega) (by omega) (by omega) (by omega) (by omega)), O6.out, C6.out.more (by omega), G6.out⟩
              case measure => first | (simp [intOf]; done) | (simp [intOf]; omega)
            · go_wp2
              go_meet
              exact ⟨ys, by rw [YL.out]; omega, BY.out, O4.out, C4.out.more (by omega), G4.out⟩
      case rest =>
      obtain ⟨ys, hyl, hbd, hown, hcur, hgr⟩ := hcut
      rename Value => vo
      rename World => wo
      obtain ⟨a7, c7, rfl, his7, _⟩ := isLoanS_own hown
      have OY := Lib.hid hown
      have BY := Lib.hid hbd
      have CY := Lib.hid hcur
      have GY := Lib.hid hgr
      have DY := Lib.hid (D.out.grown hgr)
      have hm7 := his7.2.2.1
      have hc7 := his7.2.1
      have IY := Lib.hid his7
      unfold maxLen at hm7
      clear hown hbd hcur hgr his7
      go_wp2_with fail
      refine (one_any bc a len cap _ 60 _ CY.out DY.out (by omega) (by omega) (by omega)).mono ?_
      rintro e w8 ⟨b2, rfl, hc, hg⟩
      have C8 := Lib.hid hc
      have G8 := Lib.hid (grown_trans GY.out hg)
      have O8 := Lib.hid (ownsRow_grown0 OY.out hg (by intro k e; cases e; exact hlt))
      clear hc hg
      have FINI := Lib.hid (show ∀ (zs : List VLoan) (v : Value) (W : World), zs.length ≤ 20 → (∀ s ∈ zs, LoanBd s) → W.ownsRow w.heap.size 43 5 v zs.length (cellsLoan zs) → CurAt W bc a len cap (t + 380) → w.grownBy W (some bc) → RowHere bc a len cap (t + 400) w v W from fun zs v W h1 h2 h3 h4 h5 => ⟨zs, h1, h2, h3, h4.more (by omega), h5⟩)
      cases b2
      · go_wp2
        go_ret
        exact ⟨_, rfl, FINI.out ys _ _ hyl BY.out O8.out (C8.out.more (by omega)) G8.out⟩
      by_cases hl1 : 1 < ys.length
      case neg =>
        have hl2 : ¬ (1 : Int) < (ys.length : Int) := by omega
        have hl3 : decide ((1 : Int) < (ys.length : Int)) = false := decide_eq_false hl2
        have hl4 : decide (1 < ys.length) = false := decide_eq_false hl1
        go_wp2
        go_ret
        exact ⟨_, rfl, FINI.out ys _ _ hyl BY.out O8.out (C8.out.more (by omega)) G8.out⟩
      have hl2 : (1 : Int) < (ys.length : Int) := by omega
      obtain ⟨g, cap1, e9, hg9, hn9, hcap9⟩ := own_some O8.out (by omega)
      cases e9
      obtain ⟨a9, c9, e9, his9, _⟩ := isLoanS_own O8.out
      cases e9
      have IS := Lib.hid his9
      obtain ⟨y, hy⟩ : ∃ y, ys[0]? = some y := ⟨ys[0], List.getElem?_eq_getElem _⟩
      obtain ⟨c0, c1, c2, c3, c4⟩ := his9.cellsAt0 hy
      have hgl : g < w8.heap.size := (O8.out.lt g rfl).2
      have hgn : ¬ g = w8.heap.size := by omega
      have HY := Lib.hid hy
      have k1 : (1 : Int) ≤ (ys.length : Int) := by omega
      have k2 : (1 : Int) ≤ (c7 : Int) := by omega
      have k3 : ¬ c7 = 1 := by omega
      clear his9 hy
      go_wp2
      have B0 := Lib.hid (Below.refl w8.heap.size w8)
      have RR := Lib.hid (show (ys.drop 1 ++ [y]).length = ys.length - 1 + 1 from by rw [List.length_append, List.length_drop]; rfl)
      have SRC0 := Lib.hid (show ∀ W : World, Below w8.heap.size w8 W → SrcAt W (some ⟨g, 5, none⟩) (ys.length - 1) 5 (cellsLoan (ys.drop 1)) from fun W hb => srcLoan ((IS.out.below hb).drop1 hl1))
      have W1 := Lib.hid (show Below w8.heap.size w8 ((w8.alloc (.cells #[] 43)).drew) from bel_drew' (bel_al1 w8 (.cells #[] 43)))
      have W2 := Lib.hid (show Below w8.heap.size w8 (((w8.alloc (.cells #[] 43)).alloc (.cells #[.int .i64 y.Sheet, .int .i64 y.Reader, .int .i64 y.Out, .int .i64 y.Due, .int .i64 y.Back] 43)).drew) from bel_drew' (bel_al2 w8 (.cells #[] 43) (.cells #[.int .i64 y.Sheet, .int .i64 y.Reader, .int .i64 y.Out, .int .i64 y.Due, .int .i64 y.Back] 43)))
      have W3 := Lib.hid (show Below w8.heap.size w8 (((w8.alloc (.cells #[.int .i64 y.Sheet, .int .i64 y.Reader, .int .i64 y.Out, .int .i64 y.Due, .int .i64 y.Back] 43)).alloc (.cells #[] 43)).drew) from bel_drew' (bel_al2 w8 (.cells #[.int .i64 y.Sheet, .int .i64 y.Reader, .int .i64 y.Out, .int .i64 y.Due, .int .i64 y.Back] 43) (.cells #[] 43)))
      have M1 := Lib.hid (show ((w8.alloc (.cells #[] 43)).drew).ownsRow w8.heap.size 43 5 (.slice (some ⟨w8.heap.size, 0, none⟩) 0 0) 0 (cellsLoan []) from made_ownLo w8 w8.heap.size (Nat.le_refl _))
      have M2 := Lib.hid (show (((w8.alloc (.cells #[] 43)).alloc (.cells #[.int .i64 y.Sheet, .int .i64 y.Reader, .int .i64 y.Out, .int .i64 y.Due, .int .i64 y.Back] 43)).drew).ownsRow w8.heap.size 43 5 (.slice (some ⟨w8.heap.size, 0, none⟩) 0 0) 0 (cellsLoan []) from (made_ownLo w8 w8.heap.size (Nat.le_refl _)).alloc (.cells #[.int .i64 y.Sheet, .int .i64 y.Reader, .int .i64 y.Out, .int .i64 y.Due, .int .i64 y.Back] 43))
      have M3 := Lib.hid (show (((w8.alloc (.cells #[.int .i64 y.Sheet, .int .i64 y.Reader, .int .i64 y.Out, .int .i64 y.Due, .int .i64 y.Back] 43)).alloc (.cells #[] 43)).drew).ownsRow w8.heap.size 43 5 (.slice (some ⟨w8.heap.size + 1, 0, none⟩) 0 0) 0 (cellsLoan []) from by
        have h := made_ownLo (w8.alloc (.cells #[.int .i64 y.Sheet, .int .i64 y.Reader, .int .i64 y.Out, .int .i64 y.Due, .int .i64 y.Back] 43)) w8.heap.size (by rw [size_al]; exact Nat.le_succ _)
        rw [size_al] at h; exact h)
      have k0 : 0 < ys.length := by omega
      go_region_law (first
        | (refine step_append_list (by rfl) (.tmp 68) (.tmp 70) 24 (by rfl) w8.heap.size 43 i0 (.agg #[.int .i64 0, .int .i64 0, .int .i64 0, .int .i64 0, .int .i64 0]) 5 40 Tryz.underlying24 hi hz0 hz1 hz2 (by rfl) (by decide) _ 0 (cellsLoan []) (by simp [Act.eval]; rfl) (by first | exact M1.out | exact M2.out | exact M3.out) (some ⟨g, 5, none⟩) (ys.length - 1) (c7 - 1) (cellsLoan (ys.drop 1)) (by simp [Act.eval]) (by first | exact SRC0.out _ W1.out | exact SRC0.out _ W2.out | exact SRC0.out _ W3.out) (one_Lo _) (by unfold maxLen; omega) (by omega) (by first | exact W1.out.size | exact W2.out.size | exact W3.out.size) ?_; intro v5 w9 hown5 hgrow5; rw [Nat.zero_add, show cellsLoan [] ++ cellsLoan (ys.drop 1) = cellsLoan (ys.drop 1) from rfl] at hown5
           have B5 := Lib.hid (show Below w8.heap.size w8 w9 from by first | exact W1.out.grown hgrow5 W1.out.size (fun k e => by have := own_is e; omega) | exact W2.out.grown hgrow5 W2.out.size (fun k e => by have := own_is e; omega) | exact W3.out.grown hgrow5 W3.out.size (fun k e => by have := own_is e; omega))
           have O5 := Lib.hid hown5
           have hs5 := B5.out.size
           obtain ⟨e0, e1, e2, e3, e4⟩ := (IS.out.below B5.out).cellsAt0 HY.out
           try have N5 := Lib.hid (lit_LL hgrow5)
           try have N5 := Lib.hid (lit_ML hgrow5)
           clear hown5 hgrow5)
        | (refine step_append_list (by rfl) (.tmp 71) (.tmp 75) 24 (by rfl) w8.heap.size 43 i0 (.agg #[.int .i64 0, .int .i64 0, .int .i64 0, .int .i64 0, .int .i64 0]) 5 40 Tryz.underlying24 hi hz0 hz1 hz2 (by rfl) (by decide) _ (ys.length - 1) (cellsLoan (ys.drop 1)) (by simp [Act.eval]; rfl) (by first | exact O5.out | exact O5.out.alloc _) _ 1 1 (VLoan.vals y) (by simp [Act.eval]; rfl) ⟨rfl, .inr ⟨_, rfl, by first | exact N5.out | exact cell_Loan w9 y _⟩⟩ (VLoan.vals_one _) (by unfold maxLen; omega) (by omega) (by first | exact hs5 | (rw [size_al]; exact Nat.le_succ_of_le hs5)) ?_; intro v6 w10 hown6 hgrow6
           have B6 := Lib.hid (show Below w8.heap.size w8 w10 from by first | exact B5.out.grown hgrow6 hs5 (fun k e => (O5.out.lt k e).1) | exact (Below.then' B5.out (bel_al1 _ _)).grown hgrow6 (Below.then' B5.out (bel_al1 _ _)).size (fun k e => (O5.out.lt k e).1))
           have O6 := Lib.hid hown6
           clear hown6 hgrow6))
      all_goals
        have OF := Lib.hid (show w10.ownsRow w.heap.size 43 5 v6 (ys.drop 1 ++ [y]).length (cellsLoan (ys.drop 1 ++ [y])) from by rw [RR.out, cellsLoan_snoc]; exact ownsRow_base O6.out G8.out.size)
        have CF := Lib.hid ((C8.out.heap (B6.out.block bc C8.out.lt)).more (show _ ≤ t + 380 by omega))
        have GF := Lib.hid (grown_trans G8.out (grown_below B6.out _))
        have BF := Lib.hid (show ∀ s ∈ ys.drop 1 ++ [y], LoanBd s from fun s hs => (List.mem_append.1 hs).elim (fun h => BY.out s (List.mem_of_mem_drop h)) (fun e => by rw [List.mem_singleton.1 e]; exact BY.out y (List.mem_of_getElem? HY.out)))
        go_wp2
        go_ret
        exact ⟨_, rfl, FINI.out _ _ _ (by rw [RR.out]; omega) BF.out OF.out CF.out GF.out⟩
    · have m1 : (0 : Int) < (m : Int) := by omega
      have O6 := made_ownLo wr wr.heap.size (Nat.le_refl _)
      have SRC := srcLoan (IS.out.below (bel_al1 wr (.cells #[] 43)))
      have SZ := Lib.hid (size_al wr (.cells #[] 43))
      have C6 := Lib.hid (CK.out.alloc (.cells #[] 43))
      have G6 := Lib.hid (grow_al GK.out (.cells #[] 43))
      have B6 := Lib.hid (bel_al1 wr (.cells #[] 43))
      go_wp2_with (first
        | (at_builtin; refine wpList_append_list rfl (.tmp 18) (.tmp 19) 24 rfl wr.heap.size 43 i0 (.agg #[.int .i64 0, .int .i64 0, .int .i64 0, .int .i64 0, .int .i64 0]) 5 40 Tryz.underlying24 hi hz0 hz1 hz2 rfl (by decide) _ _ _ rfl O6 _ xs.length c5 (cellsLoan xs) rfl SRC (one_Lo xs) (by simp; unfold maxLen; omega) (by simp; omega) (by rw [SZ.out]; omega) ?_; intro v1 w3 hown1 hgrow1; rw [List.length_nil, Nat.zero_add, show cellsLoan [] ++ cellsLoan xs = cellsLoan xs from rfl] at hown1; have O7 := Lib.hid hown1; have G7 := Lib.hid (grown_own0 G6.out hgrow1 (fun k e => by have := own_is e; omega)); have C7 := Lib.hid (C6.out.grown hgrow1 (fun e => by have := own_is e.symm; omega)); have OO7 := Lib.hid (ownsRow_below O.out (B6.out.grown hgrow1 (by rw [SZ.out]; omega) (fun k e => by have := own_is e; omega))); have h37 : wr.heap.size ≤ w3.heap.size := (by have := hgrow1.size; rw [SZ.out] at this; omega); have D7 := Lib.hid (D.out.grown G7.out); clear hgrow1 hown1)
        | (go_at_call 58; refine (loan_any bc a len cap _ dd _ C7.out D7.out (by omega) (by omega)).mono ?_; rintro e w4 ⟨s, rfl, hbs, hc, hg⟩; have BS := Lib.hid hbs; have C8 := Lib.hid (hc.alloc (.cells #[.int .i64 s.Sheet, .int .i64 s.Reader, .int .i64 s.Out, .int .i64 s.Due, .int .i64 s.Back] 43)); have G8 := Lib.hid (grow_al (grown_trans G7.out hg) (.cells #[.int .i64 s.Sheet, .int .i64 s.Reader, .int .i64 s.Out, .int .i64 s.Due, .int .i64 s.Back] 43)); have O8 := Lib.hid (ownsRow_grown0 O7.out hg (by intro k e; cases e; omega)); have OO8 := Lib.hid (ownsRow_below (ownsRow_grown0 OO7.out hg (by intro k e; cases e; exact hlt)) (bel_al1 _ (.cells #[.int .i64 s.Sheet, .int .i64 s.Reader, .int .i64 s.Out, .int .i64 s.Due, .int .i64 s.Back] 43))); have hs8 := G8.out.size; have hs9 : wr.heap.size ≤ (w4.alloc (.cells #[.int .i64 s.Sheet, .int .i64 s.Reader, .int .i64 s.Out, .int .i64 s.Due, .int .i64 s.Back] 43)).heap.size := (by rw [size_al]; have := hg.size; omega); have hown2 := O8.out.alloc (.cells #[.int .i64 s.Sheet, .int .i64 s.Reader, .int .i64 s.Out, .int .i64 s.Due, .int .i64 s.Back] 43); clear hbs hc hg)
        | (at_builtin; refine wpList_append_own _ rfl (.tmp 20) (.tmp 24) 24 rfl wr.heap.size 43 i0 (.agg #[.int .i64 0, .int .i64 0, .int .i64 0, .int .i64 0, .int .i64 0]) 5 40 Tryz.underlying24 hi hz0 hz1 hz2 rfl (by decide) _ _ _ rfl hown2 ⟨_, 0, none⟩ 1 1 (VLoan.vals s) rfl rfl (cell_Loan _ s _) (VLoan.vals_one _) (by unfold maxLen; omega) (by omega) hs9 ?_; intro v2 w5 hown3 hgrow2 hnil2))
      have G9 := Lib.hid (grown_own0 G8.out hgrow2 (fun k e => by have := (hown2.lt k e).1; omega))
      have C9 := Lib.hid (C8.out.grown hgrow2 (fun e => by have := (hown2.lt _ e.symm).1; omega))
      have OO9 := Lib.hid (own_keep OO8.out (fun b e _ h2 => hgrow2.block b h2 (fun e2 => by have q1 := (hown2.lt b e2.symm).1; have q2 := (O.out.lt b e).2; omega)))
      have hown4 : w5.ownsRow w.heap.size 43 5 v2 (xs ++ [s]).length (cellsLoan (xs ++ [s])) := by
        rw [cellsLoan_snoc, List.length_append, List.length_singleton]; exact ownsRow_base hown3 hsz
      have O9 := Lib.hid hown4
      obtain ⟨a6, c6, rfl, his, _⟩ := isLoanS_own hown4
      have IS9 := Lib.hid his
      have BDR := Lib.hid (show ∀ x ∈ xs ++ [s], LoanBd x from fun x hx => (List.mem_append.1 hx).elim (BDX.out x) (fun e => by rw [List.mem_singleton.1 e]; exact BS.out))
      obtain ⟨R, hR⟩ : ∃ R, xs ++ [s] = R := ⟨_, rfl⟩
      have RL : R.length = xs.length + 1 := by rw [← hR]; simp
      rw [hR] at O9 IS9 BDR
      rw [hR]
      obtain ⟨k, rfl⟩ : ∃ k, m = k + 1 := ⟨m - 1, by omega⟩
      obtain ⟨q, hq⟩ : ∃ q, areLo R = q := ⟨_, rfl⟩
      have Q := Lib.hid hq
      have RLH := Lib.hid RL
      clear hgrow2 hnil2 hown2 hown3 hown4 his hR hq RL hs8 hs9 h37
      refine (l11Good_any _ _ _ R _ IS9.out).mono ?_
      rintro e w6 ⟨rfl, hb⟩
      rw [Q.out]
      have G10 := Lib.hid (grown_trans G9.out (grown_below hb _))
      have C10a := Lib.hid (C9.out.heap (hb.block bc C9.out.lt))
      have OA := Lib.hid (ownsRow_below O9.out hb)
      have OB := Lib.hid (ownsRow_below OO9.out hb)
      have D10a := Lib.hid (D.out.grown G10.out)
      clear hb
      cases q
      · go_wp2_with fail
        refine (one_any bc a len cap _ 40 _ C10a.out D10a.out (by omega) (by omega) (by omega)).mono ?_
        rintro e w7 ⟨b, rfl, hc, hg⟩
        have C13 := Lib.hid hc
        have G13 := Lib.hid (grown_trans G10.out hg)
        have OA13 := Lib.hid (ownsRow_grown0 OA.out hg (by intro k e; cases e; exact hlt))
        have OB13 := Lib.hid (ownsRow_grown0 OB.out hg (by intro k e; cases e; exact hlt))
        clear hc hg
        cases b
        · have := trivial
          have D10 := Lib.hid (D.out.grown G13.out)
          have C10 := Lib.hid (C13.out.alloc (.cells #[.int .i64 0, .int .i64 1, .int .i64 5, .int .i64 14, .int .i64 20] 3))
          have hc10 := C13.out.lt
          go_wp2_with fail
          refine (among_any bc a len cap _ w7.heap.size 0 5 5 (0) 20 _ C10.out (D10.out.alloc _) (by omega) (by omega) (by omega) (by have := G13.out.size; omega) (by simp) ?_).mono ?_
          · refine ints_at _ _ _ (0) 20 5 _ rfl rfl ?_
            repeat (refine List.forall_mem_cons.2 ⟨⟨_, by omega, by omega, rfl⟩, ?_⟩)
            exact fun _ h => by cases h
          rintro e w8 ⟨y, rfl, y0, y1, hc, hg⟩
          have C11 := Lib.hid hc
          have G11 := Lib.hid (grown_trans (grow_al G13.out _) hg)
          have O11 := Lib.hid (ownsRow_grown0 (ownsRow_below OB13.out (bel_al1 _ (.cells #[.int .i64 0, .int .i64 1, .int .i64 5, .int .i64 14, .int .i64 20] 3))) hg (by intro k e; cases e; exact hlt))
          have D11 := Lib.hid (D.out.grown G11.out)
          clear hc hg hc10
          go_wp2_with fail
          refine (pick_any bc a len cap _ 150 _ C11.out D11.out (by omega) (by omega) (by omega)).mono ?_
          rintro e w9 ⟨p, rfl, p0, p1, hc, hg⟩
          have C12 := Lib.hid hc
          have G12 := Lib.hid (grown_trans G11.out hg)
          have O12 := Lib.hid (ownsRow_grown0 O11.out hg (by intro k e; cases e; exact hlt))
          clear hc hg
          obtain ⟨z, hz⟩ : ∃ z, p / 149 = z := ⟨_, rfl⟩
          have hz1 : 0 ≤ z ∧ z ≤ 1 := by omega
          have t1 : p.tdiv 149 = z := by rw [Int.tdiv_eq_ediv_of_nonneg (by omega)]; exact hz
          have t2 : IntKind.i64.wrap z = z := IntWalk.i64_in _ (by omega)
          have t3 : IntKind.i64.wrap (dd + y) = dd + y := IntWalk.i64_in _ (by omega)
          have t4 : IntKind.i64.wrap (dd + y - z) = dd + y - z := IntWalk.i64_in _ (by omega)
          go_wp2
          go_roundw
          case rel => exact ⟨k, dd + y - z, by omega, by first | rfl | go_num | (congr 1; omega), by first | rfl | (congr 1; omega), by omega, by omega, ⟨xs, (by omega), BDX.out, O12.out⟩, C12.out.more (by omega), G12.out⟩
          case measure => first | (simp [intOf]; done) | (simp [intOf]; omega)
        · have := trivial
          have D10 := Lib.hid (D.out.grown G13.out)
          have C10 := Lib.hid (C13.out.alloc (.cells #[.int .i64 0, .int .i64 1, .int .i64 5, .int .i64 14, .int .i64 20] 3))
          have hc10 := C13.out.lt
          go_wp2_with fail
          refine (among_any bc a len cap _ w7.heap.size 0 5 5 (0) 20 _ C10.out (D10.out.alloc _) (by omega) (by omega) (by omega) (by have := G13.out.size; omega) (by simp) ?_).mono ?_
          · refine ints_at _ _ _ (0) 20 5 _ rfl rfl ?_
            repeat (refine List.forall_mem_cons.2 ⟨⟨_, by omega, by omega, rfl⟩, ?_⟩)
            exact fun _ h => by cases h
          rintro e w8 ⟨y, rfl, y0, y1, hc, hg⟩
          have C11 := Lib.hid hc
          have G11 := Lib.hid (grown_trans (grow_al G13.out _) hg)
          have O11 := Lib.hid (ownsRow_grown0 (ownsRow_below OA13.out (bel_al1 _ (.cells #[.int .i64 0, .int .i64 1, .int .i64 5, .int .i64 14, .int .i64 20] 3))) hg (by intro k e; cases e; exact hlt))
          have D11 := Lib.hid (D.out.grown G11.out)
          clear hc hg hc10
          go_wp2_with fail
          refine (pick_any bc a len cap _ 150 _ C11.out D11.out (by omega) (by omega) (by omega)).mono ?_
          rintro e w9 ⟨p, rfl, p0, p1, hc, hg⟩
          have C12 := Lib.hid hc
          have G12 := Lib.hid (grown_trans G11.out hg)
          have O12 := Lib.hid (ownsRow_grown0 O11.out hg (by intro k e; cases e; exact hlt))
          clear hc hg
          obtain ⟨z, hz⟩ : ∃ z, p / 149 = z := ⟨_, rfl⟩
          have hz1 : 0 ≤ z ∧ z ≤ 1 := by omega
          have t1 : p.tdiv 149 = z := by rw [Int.tdiv_eq_ediv_of_nonneg (by omega)]; exact hz
          have t2 : IntKind.i64.wrap z = z := IntWalk.i64_in _ (by omega)
          have t3 : IntKind.i64.wrap (dd + y) = dd + y := IntWalk.i64_in _ (by omega)
          have t4 : IntKind.i64.wrap (dd + y - z) = dd + y - z := IntWalk.i64_in _ (by omega)
          go_wp2
          go_roundw
          case rel => exact ⟨k, dd + y - z, by omega, by first | rfl | go_num | (congr 1; omega), by first | rfl | (congr 1; omega), by omega, by omega, ⟨R, (by rw [RLH.out]; omega), BDR.out, O12.out⟩, C12.out.more (by omega), G12.out⟩
          case measure => first | (simp [intOf]; done) | (simp [intOf]; omega)
      · have := trivial
        have D10 := Lib.hid (D.out.grown G10.out)
        have C10 := Lib.hid (C10a.out.alloc (.cells #[.int .i64 0, .int .i64 1, .int .i64 5, .int .i64 14, .int .i64 20] 3))
        have hc10 := C10a.out.lt
        go_wp2_with fail
        refine (among_any bc a len cap _ w6.heap.size 0 5 5 (0) 20 _ C10.out (D10.out.alloc _) (by omega) (by omega) (by omega) (by have := G10.out.size; omega) (by simp) ?_).mono ?_
        · refine ints_at _ _ _ (0) 20 5 _ rfl rfl ?_
          repeat (refine List.forall_mem_cons.2 ⟨⟨_, by omega, by omega, rfl⟩, ?_⟩)
          exact fun _ h => by cases h
        rintro e w8 ⟨y, rfl, y0, y1, hc, hg⟩
        have C11 := Lib.hid hc
        have G11 := Lib.hid (grown_trans (grow_al G10.out _) hg)
        have O11 := Lib.hid (ownsRow_grown0 (ownsRow_below OA.out (bel_al1 _ (.cells #[.int .i64 0, .int .i64 1, .int .i64 5, .int .i64 14, .int .i64 20] 3))) hg (by intro k e; cases e; exact hlt))
        have D11 := Lib.hid (D.out.grown G11.out)
        clear hc hg hc10
        go_wp2_with fail
        refine (pick_any bc a len cap _ 150 _ C11.out D11.out (by omega) (by omega) (by omega)).mono ?_
        rintro e w9 ⟨p, rfl, p0, p1, hc, hg⟩
        have C12 := Lib.hid hc
        have G12 := Lib.hid (grown_trans G11.out hg)
        have O12 := Lib.hid (ownsRow_grown0 O11.out hg (by intro k e; cases e; exact hlt))
        clear hc hg
        obtain ⟨z, hz⟩ : ∃ z, p / 149 = z := ⟨_, rfl⟩
        have hz1 : 0 ≤ z ∧ z ≤ 1 := by omega
        have t1 : p.tdiv 149 = z := by rw [Int.tdiv_eq_ediv_of_nonneg (by omega)]; exact hz
        have t2 : IntKind.i64.wrap z = z := IntWalk.i64_in _ (by omega)
        have t3 : IntKind.i64.wrap (dd + y) = dd + y := IntWalk.i64_in _ (by omega)
        have t4 : IntKind.i64.wrap (dd + y - z) = dd + y - z := IntWalk.i64_in _ (by omega)
        go_wp2
        go_roundw
        case rel => exact ⟨k, dd + y - z, by omega, by first | rfl | go_num | (congr 1; omega), by first | rfl | (congr 1; omega), by omega, by omega, ⟨R, (by rw [RLH.out]; omega), BDR.out, O12.out⟩, C12.out.more (by omega), G12.out⟩
        case measure => first | (simp [intOf]; done) | (simp [intOf]; omega)
end Go.Proofs.YtffbljbgmgifnaaGreatDoor
namespace Go.Proofs.YtffbljbgmgifnaaGreatDoor
open Go.RowKit Go.Deep

/-- A part of a literal list of numbers: among finds one of them. -/
theorem among_part (bc : Nat) (a : Option Addr) (len cap t n m b : Nat) (lo hi : Int) (W w : World) (C : Array Value) (T : TypeId) (hW : W.heap.size = b) (hCn : C.size = n) (hC : ∀ v ∈ C.toList, ∃ x : Int, lo ≤ x ∧ x ≤ hi ∧ v = .int .i64 x) (hg : (W.alloc (.cells C T)).grownBy w (some bc)) (hbc : bc < b)
    (hc : CurAt w bc a len cap t) (hd : CodeAt w a len cap bc) (ht : t ≤ 900000) (hm0 : 1 ≤ m) (hm : m ≤ n) (hn : n ≤ 1000) :
    Calls Tryz.prog 41 #[.pointer (some ⟨bc, 0, none⟩), .slice (some ⟨b, 0, none⟩) m n] w (AmongPost bc a len cap (t + 2) lo hi w) := by
  refine among_any bc a len cap t b 0 m n lo hi w hc hd ht hm0 (by omega) (by omega) (by have := hg.size; rw [size_al] at this; omega) (fun i hi' => ?_)
  obtain ⟨x, h1, h2, h3⟩ := ints_at W C T lo hi n b hW hCn hC i (by omega)
  exact ⟨x, h1, h2, hg.cell h3 (by simp; omega)⟩
set_option maxHeartbeats 3200000 in
set_option maxRecDepth 100000 in
theorem loanSheet_any (bc : Nat) (a : Option Addr) (len cap t : Nat) (w : World) (hc : CurAt w bc a len cap t) (hd : CodeAt w a len cap bc) (ht : t ≤ 800000) :
    Calls Tryz.prog 40 #[.pointer (some ⟨bc, 0, none⟩)] w (AmongPost bc a len cap (t + 10) 0 1000 w) := by
  have hlt := hc.lt
  have C := Lib.hid hc
  have D := Lib.hid hd
  clear hc hd
  go_enter Tryz.func40, Tryz.ntmps40
  go_wp2_with fail
  refine (pick_any bc a len cap _ 24 _ (C.out.alloc _) (D.out.alloc _) (by omega) (by omega) (by omega)).mono ?_
  rintro e w1 ⟨p, rfl, p0, p1, hc, hg⟩
  have C1 := Lib.hid hc
  have HG := Lib.hid hg
  have G1 := Lib.hid (grown_trans (grow_al (World.grownBy.refl w (some bc)) _) hg)
  have D1 := Lib.hid (D.out.grown G1.out)
  have hs1 : w.heap.size + 1 ≤ w1.heap.size := by have := hg.size; rw [size_al] at this; exact this
  clear hc hg
  obtain ⟨z, hz⟩ : ∃ z, p / 12 = z := ⟨_, rfl⟩
  have hz1 : 0 ≤ z ∧ z ≤ 1 := by omega
  have t1 : p.tdiv 12 = z := by rw [Int.tdiv_eq_ediv_of_nonneg (by omega)]; exact hz
  have t2 : IntKind.i64.wrap z = z := IntWalk.i64_in _ (by omega)
  have t3 : IntKind.i64.wrap (7 + z) = 7 + z := IntWalk.i64_in _ (by omega)
  have k0 : (0 : Int) ≤ 7 + z := by omega
  have k1 : 7 + z ≤ 8 := by omega
  obtain ⟨m, hm⟩ : ∃ m : Nat, (7 + z).toNat = m := ⟨_, rfl⟩
  have hm1 : 1 ≤ m ∧ m ≤ 8 := by omega
  clear hz
  go_wp2_with fail
  refine (among_part bc a len cap _ 8 m w.heap.size 0 1000 w w1 _ 3 rfl rfl ?_ HG.out hlt C1.out D1.out (by omega) hm1.1 hm1.2 (by omega)).mono ?_
  · repeat (refine List.forall_mem_cons.2 ⟨⟨_, by omega, by omega, rfl⟩, ?_⟩)
    exact fun _ h => by cases h
  rintro e w2 ⟨x, rfl, x0, x1, hc, hg⟩
  have C2 := Lib.hid hc
  have G2 := Lib.hid (grown_trans G1.out hg)
  clear hc hg
  go_wp2
  go_ret
  exact ⟨x, rfl, x0, x1, C2.out.more (by omega), G2.out⟩
set_option maxHeartbeats 6400000 in
set_option maxRecDepth 100000 in
theorem loanDay_any (bc : Nat) (a : Option Addr) (len cap t : Nat) (a' : Option Addr) (len' cap' : Nat) (ys : List VLoan) (w : World) (hc : CurAt w bc a len cap t) (hd : CodeAt w a len cap bc) (ht : t ≤ 800000) (hI : IsLoanS w a' len' cap' ys) (hl : ys.length ≤ 20) (hbd : ∀ s ∈ ys, LoanBd s) (hne : ∀ b o, a' = some ⟨b, o, none⟩ → b ≠ bc) :
    Calls Tryz.prog 28 #[.pointer (some ⟨bc, 0, none⟩), .slice a' len' cap'] w (AmongPost bc a len cap (t + 10) (-1) 4001 w) := by
  obtain rfl := hI.1
  have hlt := hc.lt
  have C := Lib.hid hc
  have D := Lib.hid hd
  have II := Lib.hid hI
  have BD := Lib.hid hbd
  have hcl := hI.2.1
  have hm' := hI.2.2.1
  unfold maxLen at hm'
  have NE := Lib.hid hne
  clear hc hd hI hbd hne
  by_cases h0 : ys.length = 0
  · have e0 : ((ys.length : Int) == 0) = true := by simp; exact List.length_eq_zero_iff.1 h0
    have G0 := Lib.hid (World.grownBy.refl w (some bc))
    clear h0
    go_enter Tryz.func28, Tryz.ntmps28
    go_wp2_with fail
    refine (pick_any bc a len cap _ 24 _ (C.out.alloc _) (D.out.alloc _) (by omega) (by omega) (by omega)).mono ?_
    rintro e w7 ⟨p, rfl, p0, p1, hc, hg⟩
    have C7 := Lib.hid hc
    have HG7 := Lib.hid hg
    have G7 := Lib.hid (grown_trans (grow_al G0.out _) hg)
    have D7 := Lib.hid (D.out.grown G7.out)
    have hs7 : w.heap.size + 1 ≤ w7.heap.size := by have := hg.size; rw [size_al] at this; exact this
    clear hc hg
    obtain ⟨z, hz⟩ : ∃ z, p / 12 = z := ⟨_, rfl⟩
    have hz1 : 0 ≤ z ∧ z ≤ 1 := by omega
    have t1 : p.tdiv 12 = z := by rw [Int.tdiv_eq_ediv_of_nonneg (by omega)]; exact hz
    have t2 : IntKind.i64.wrap z = z := IntWalk.i64_in _ (by omega)
    have t3 : IntKind.i64.wrap (6 + z) = 6 + z := IntWalk.i64_in _ (by omega)
    have k0 : (0 : Int) ≤ 6 + z := by omega
    have k1 : 6 + z ≤ 7 := by omega
    obtain ⟨m, hm⟩ : ∃ m : Nat, (6 + z).toNat = m := ⟨_, rfl⟩
    have hm1 : 1 ≤ m ∧ m ≤ 7 := by omega
    have hbc7 : bc < w.heap.size := by have := G0.out.size; omega
    clear hz
    go_wp2_with fail
    refine (among_part bc a len cap _ 7 m w.heap.size (-1) 4001 w w7 _ 3 rfl rfl ?_ HG7.out hbc7 C7.out D7.out (by omega) hm1.1 hm1.2 (by omega)).mono ?_
    · repeat (refine List.forall_mem_cons.2 ⟨⟨_, by omega, by omega, rfl⟩, ?_⟩)
      exact fun _ h => by cases h
    rintro e w8 ⟨x, rfl, x0, x1, hc, hg⟩
    have C8 := Lib.hid hc
    have G8 := Lib.hid (grown_trans G7.out hg)
    clear hc hg
    go_wp2
    go_ret
    exact ⟨x, rfl, x0, x1, C8.out.more (by omega), G8.out⟩
  · have e0 : ((ys.length : Int) == 0) = false := by simp; exact fun h => h0 (by rw [h]; rfl)
    have hp : 1 ≤ ys.length := by omega
    clear h0
    go_enter Tryz.func28, Tryz.ntmps28
    go_wp2_with fail
    refine (one_any bc a len cap _ 5 _ C.out D.out (by omega) (by omega) (by omega)).mono ?_
    rintro e w1 ⟨q, rfl, hc, hg⟩
    have C1 := Lib.hid hc
    have G1 := Lib.hid hg
    have D1 := Lib.hid (D.out.grown hg)
    clear hc hg
    cases q
    case true =>
      go_wp2_with fail
      refine (pick_any bc a len cap _ 24 _ (C1.out.alloc _) (D1.out.alloc _) (by omega) (by omega) (by omega)).mono ?_
      rintro e w7 ⟨p, rfl, p0, p1, hc, hg⟩
      have C7 := Lib.hid hc
      have HG7 := Lib.hid hg
      have G7 := Lib.hid (grown_trans (grow_al G1.out _) hg)
      have D7 := Lib.hid (D.out.grown G7.out)
      have hs7 : w1.heap.size + 1 ≤ w7.heap.size := by have := hg.size; rw [size_al] at this; exact this
      clear hc hg
      obtain ⟨z, hz⟩ : ∃ z, p / 12 = z := ⟨_, rfl⟩
      have hz1 : 0 ≤ z ∧ z ≤ 1 := by omega
      have t1 : p.tdiv 12 = z := by rw [Int.tdiv_eq_ediv_of_nonneg (by omega)]; exact hz
      have t2 : IntKind.i64.wrap z = z := IntWalk.i64_in _ (by omega)
      have t3 : IntKind.i64.wrap (6 + z) = 6 + z := IntWalk.i64_in _ (by omega)
      have k0 : (0 : Int) ≤ 6 + z := by omega
      have k1 : 6 + z ≤ 7 := by omega
      obtain ⟨m, hm⟩ : ∃ m : Nat, (6 + z).toNat = m := ⟨_, rfl⟩
      have hm1 : 1 ≤ m ∧ m ≤ 7 := by omega
      have hbc7 : bc < w1.heap.size := by have := G1.out.size; omega
      clear hz
      go_wp2_with fail
      refine (among_part bc a len cap _ 7 m w1.heap.size (-1) 4001 w1 w7 _ 3 rfl rfl ?_ HG7.out hbc7 C7.out D7.out (by omega) hm1.1 hm1.2 (by omega)).mono ?_
      · repeat (refine List.forall_mem_cons.2 ⟨⟨_, by omega, by omega, rfl⟩, ?_⟩)
        exact fun _ h => by cases h
      rintro e w8 ⟨x, rfl, x0, x1, hc, hg⟩
      have C8 := Lib.hid hc
      have G8 := Lib.hid (grown_trans G7.out hg)
      clear hc hg
      go_wp2
      go_ret
      exact ⟨x, rfl, x0, x1, C8.out.more (by omega), G8.out⟩
    go_wp2_with fail
    refine (pick_any bc a len cap _ ys.length _ C1.out D1.out (by omega) (by omega) (by omega)).mono ?_
    rintro e w2 ⟨p, rfl, p0, p1, hc, hg⟩
    have C2 := Lib.hid hc
    have G2 := Lib.hid (grown_trans G1.out hg)
    have D2 := Lib.hid (D.out.grown G2.out)
    clear hc hg
    obtain ⟨p, rfl⟩ : ∃ m : Nat, p = m := ⟨p.toNat, by omega⟩
    have hpl : p < ys.length := by omega
    obtain ⟨s, hs⟩ : ∃ s, ys[p]? = some s := ⟨ys[p], List.getElem?_eq_getElem _⟩
    have I2 := Lib.hid (II.out.grown G2.out (fun b o e e2 => NE.out b o e (Option.some.inj e2)))
    obtain ⟨b, o, rfl, _, hat⟩ := I2.out.at (by omega)
    obtain ⟨c0, c1, c2, c3, c4⟩ := hat p s hs
    have bs := BD.out s (List.mem_of_getElem? hs)
    obtain ⟨_, _, ⟨b30, b31⟩, ⟨b40, b41⟩, ⟨b50, b51⟩⟩ := bs
    have hi0 : (0 : Int) ≤ (p : Int) := by omega
    have hi1 : (p : Int) < (ys.length : Int) := by omega
    have v1 : IntKind.i64.wrap (s.Due + 1) = s.Due + 1 := IntWalk.i64_in _ (by omega)
    have v2 : IntKind.i64.wrap (s.Due + 100) = s.Due + 100 := IntWalk.i64_in _ (by omega)
    have v3 : IntKind.i64.wrap (s.Due + 101) = s.Due + 101 := IntWalk.i64_in _ (by omega)
    have v4 : IntKind.i64.wrap (s.Out - 1) = s.Out - 1 := IntWalk.i64_in _ (by omega)
    have hs2 := G2.out.size
    clear hat hs
    go_wp2_with fail
    refine (among_any bc a len cap _ (w2.heap.size + 1) 0 7 7 (-4000) 30000 _ ((C2.out.alloc _).alloc _) ((D2.out.alloc _).alloc _) (by omega) (by omega) (by omega) (by omega) (by simp) ?_).mono ?_
    · refine ints_at _ _ _ (-4000) 30000 7 _ (size_al _ _) rfl ?_
      repeat (refine List.forall_mem_cons.2 ⟨⟨_, by omega, by omega, rfl⟩, ?_⟩)
      exact fun _ h => by cases h
    rintro e w3 ⟨x, rfl, x0, x1, hc, hg⟩
    have C3 := Lib.hid hc
    have G3 := Lib.hid (grown_trans (grow_al (grow_al G2.out _) _) hg)
    clear hc hg
    go_wp2_with fail
    refine (l1Most_any _ _ _).mono ?_
    rintro e w4 ⟨rfl, rfl⟩
    go_wp2_with fail
    refine (l1Least_any _ _ _).mono ?_
    rintro e w5 ⟨rfl, rfl⟩
    go_wp2
    go_ret
    exact ⟨_, rfl, by omega, by omega, C3.out.more (by omega), G3.out⟩
end Go.Proofs.YtffbljbgmgifnaaGreatDoor
