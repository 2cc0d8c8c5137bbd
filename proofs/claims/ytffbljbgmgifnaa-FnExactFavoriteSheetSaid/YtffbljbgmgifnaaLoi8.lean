/- Loans in the program: who has a sheet, days lent. -/
import Derived.Test.YtffbljbgmgifnaaLoi4
import Derived.Test.YtffbljbgmgifnaaWhoHasP
import Derived.Test.YtffbljbgmgifnaaDaysLentP
namespace Go.Proofs.Ytffbljbgmgifnaa
open Go.RowKit

set_option maxHeartbeats 6400000 in
set_option maxRecDepth 100000 in
theorem implWhoHas_any (a : Option Addr) (len cap : Nat) (xs : List VLoan) (sh d : Int) (w : World) (h : IsLoanS w a len cap xs) (_ : xs.length ≤ 1048576) :
    Calls Try.prog 36 #[.slice a len cap, .int .i64 sh, .int .i64 d] w (WhoHas_Post xs sh d w) := by
  obtain rfl := h.1
  have S := Lib.hid h
  clear h
  obtain ⟨q1, h1⟩ : ∃ q, areLo xs = q := ⟨_, rfl⟩
  obtain ⟨q2, h2⟩ : ∃ q, idB sh = q := ⟨_, rfl⟩
  obtain ⟨q3, h3⟩ : ∃ q, dayB d = q := ⟨_, rfl⟩
  have E1 := Lib.hid (show WhoHas_1 xs sh d = (q1 && (q2 && q3)) from by unfold WhoHas_1; rw [h1, h2, h3])
  have E0 := Lib.hid (show WhoHas_0 xs sh d = if (q1 && (q2 && q3)) = true then whoL sh d xs else 0 from by unfold WhoHas_0; rw [E1.out])
  have H1 := Lib.hid h1
  have H2 := Lib.hid h2
  have H3 := Lib.hid h3
  clear h1 h2 h3
  go_enter Try.func36, Try.ntmps36
  go_wp2_with fail
  refine (areLoans_any _ _ _ xs _ S.out).mono ?_
  rintro e w1 ⟨rfl, hb⟩
  rw [H1.out]
  have B1 := Lib.hid hb
  have S1 := Lib.hid (S.out.below hb)
  clear hb
  cases q1
  · go_wp2
    go_ret2
    exact ⟨by rw [E0.out, E1.out]; rfl, B1.out⟩
  go_wp2_with fail
  refine (isLoanId_any _ _).mono ?_
  rintro e w2 ⟨rfl, hb⟩
  rw [H2.out]
  have B2 := Lib.hid (Below.then' B1.out hb)
  have S2 := Lib.hid (S1.out.below hb)
  clear hb
  cases q2
  · go_wp2
    go_ret2
    exact ⟨by rw [E0.out, E1.out]; rfl, B2.out⟩
  go_wp2_with fail
  refine (isDay_any _ _).mono ?_
  rintro e w3 ⟨rfl, hb⟩
  rw [H3.out]
  have B3 := Lib.hid (Below.then' B2.out hb)
  have S3 := Lib.hid (S2.out.below hb)
  clear hb
  cases q3
  · go_wp2
    go_ret2
    exact ⟨by rw [E0.out, E1.out]; rfl, B3.out⟩
  rcases firstOf_cases (fun b : VLoan => b.Sheet == sh && openOn d b) xs with ⟨hz, hno⟩ | ⟨i, s, hz, hs, hy, _⟩
  · have Z := Lib.hid hz
    have W0 := Lib.hid (whoL_none hno)
    clear hz hno
    go_wp2_with fail
    refine (indexOfOpen_any _ _ _ xs sh d _ S3.out).mono ?_
    rintro e w4 ⟨rfl, hb⟩
    rw [Z.out]
    have B4 := Lib.hid (Below.then' B3.out hb)
    clear hb
    go_wp2
    go_ret2
    exact ⟨by rw [E0.out, E1.out, W0.out]; rfl, B4.out⟩
  · have Z := Lib.hid hz
    have W0 := Lib.hid (whoL_some H1.out hs hy)
    have HS := Lib.hid hs
    have hil := (List.getElem?_eq_some_iff.1 hs).1
    have hi0 : (0 : Int) ≤ (i : Int) := by omega
    have hi00 : ¬ (i : Int) < 0 := by omega
    have hi1 : (i : Int) < (xs.length : Int) := by omega
    clear hz hs hy
    go_wp2_with fail
    refine (indexOfOpen_any _ _ _ xs sh d _ S3.out).mono ?_
    rintro e w4 ⟨rfl, hb⟩
    rw [Z.out]
    have B4 := Lib.hid (Below.then' B3.out hb)
    obtain ⟨b, o, rfl, _, hat⟩ := (S3.out.below hb).at (by omega)
    obtain ⟨c0, c1, c2, c3, c4⟩ := hat i s HS.out
    clear hb hat
    go_wp2
    go_ret2
    exact ⟨by rw [E0.out, E1.out, W0.out]; rfl, B4.out⟩
theorem days_moreP {xs : List VLoan} {sh d : Int} {k : Nat} {s : VLoan} (hs : xs[k]? = some s) : daysL sh d (xs.take (k + 1)) = daysL sh d (xs.take k) + lentD sh d s := by
  unfold daysL; rw [take_one hs, List.foldl_append]; rfl
theorem lentD_bdP {l : VLoan} (h : l.ok = true) {sh d : Int} (h0 : 0 ≤ d) (h1 : d ≤ 4000) : 0 ≤ lentD sh d l ∧ lentD sh d l ≤ 4000 := by
  have k := loOk_iff.1 h
  unfold lentD endL
  split
  · split <;> omega
  · omega
theorem days_bdP {xs : List VLoan} {sh d : Int} (h : areLo xs = true) (h0 : 0 ≤ d) (h1 : d ≤ 4000) : ∀ k, k ≤ xs.length → 0 ≤ daysL sh d (xs.take k) ∧ daysL sh d (xs.take k) ≤ 60000 := by
  have key : ∀ k, k ≤ xs.length → 0 ≤ daysL sh d (xs.take k) ∧ daysL sh d (xs.take k) ≤ 4000 * (k : Int) := by
    intro k
    induction k with
    | zero => intro _; simp [daysL]
    | succ k ih =>
      intro hk
      have hs : xs[k]? = some (xs[k]'(by omega)) := List.getElem?_eq_getElem _
      have b := lentD_bdP (areLo_ok h (List.mem_of_getElem? hs)) (sh := sh) h0 h1
      have c := ih (by omega)
      rw [days_moreP hs]
      omega
  intro k hk
  have hl := areLo_len h
  have := key k hk; omega
set_option maxHeartbeats 6400000 in
set_option maxRecDepth 100000 in
theorem implDaysLent_any (a : Option Addr) (len cap : Nat) (xs : List VLoan) (sh d : Int) (w : World) (h : IsLoanS w a len cap xs) (_ : xs.length ≤ 1048576) :
    Calls Try.prog 61 #[.slice a len cap, .int .i64 sh, .int .i64 d] w (DaysLent_Post xs sh d w) := by
  have hm := h.2.2.1
  have hcl := h.2.1
  unfold maxLen at hm
  obtain rfl := h.1
  have S := Lib.hid h
  clear h
  obtain ⟨q1, h1⟩ : ∃ q, areLo xs = q := ⟨_, rfl⟩
  obtain ⟨q2, h2⟩ : ∃ q, idB sh = q := ⟨_, rfl⟩
  obtain ⟨q3, h3⟩ : ∃ q, dayB d = q := ⟨_, rfl⟩
  have E1 := Lib.hid (show DaysLent_1 xs sh d = (q1 && (q2 && q3)) from by unfold DaysLent_1; rw [h1, h2, h3])
  have E0 := Lib.hid (show DaysLent_0 xs sh d = if (q1 && (q2 && q3)) = true then daysL sh d xs else 0 from by unfold DaysLent_0; rw [E1.out])
  have H1 := Lib.hid h1
  have H2 := Lib.hid h2
  have H3 := Lib.hid h3
  clear h1 h2 h3
  go_enter Try.func61, Try.ntmps61
  go_wp2_with fail
  refine (areLoans_any _ _ _ xs _ S.out).mono ?_
  rintro e w1 ⟨rfl, hb⟩
  rw [H1.out]
  have B1 := Lib.hid hb
  clear hb
  cases q1
  · go_wp2
    go_ret2
    exact ⟨by rw [E0.out, E1.out]; rfl, B1.out⟩
  go_wp2_with fail
  refine (isLoanId_any _ _).mono ?_
  rintro e w2 ⟨rfl, hb⟩
  rw [H2.out]
  have B2 := Lib.hid (Below.then' B1.out hb)
  clear hb
  cases q2
  · go_wp2
    go_ret2
    exact ⟨by rw [E0.out, E1.out]; rfl, B2.out⟩
  go_wp2_with fail
  refine (isDay_any _ _).mono ?_
  rintro e w3 ⟨rfl, hb⟩
  rw [H3.out]
  have B3 := Lib.hid (Below.then' B2.out hb)
  clear hb
  cases q3
  · go_wp2
    go_ret2
    exact ⟨by rw [E0.out, E1.out]; rfl, B3.out⟩
  have L15 := areLo_len H1.out
  have hd' : 0 ≤ d ∧ d ≤ 4000 := inB_iff.1 H3.out
  go_wp2
  go_loopw [26, 8] (fun i v wr => ∃ k : Nat, k ≤ xs.length ∧ i = .int .i64 k ∧ v = .int .i64 (daysL sh d (xs.take k)) ∧ Below w.heap.size w wr) (fun i _ _ => xs.length - (intOf i).toNat)
  case atStart => exact ⟨0, Nat.zero_le _, rfl, rfl, B3.out⟩
  case round =>
    obtain ⟨k, hk, rfl, rfl, hbel⟩ := hrel
    have B := Lib.hid hbel
    by_cases hlt : k < xs.length
    · obtain ⟨s, hs⟩ : ∃ s, xs[k]? = some s := ⟨xs[k]'hlt, List.getElem?_eq_getElem _⟩
      obtain ⟨b, o, rfl, hbw, hat⟩ := (S.out.below hbel).at (by omega)
      obtain ⟨c0, c1, c2, c3, c4⟩ := hat k s hs
      have OK := Lib.hid (areLo_ok H1.out (List.mem_of_getElem? hs))
      have ok := loOk_iff.1 OK.out
      have hi0 : (0 : Int) ≤ (k : Int) := by omega
      have hi1 : (k : Int) < (xs.length : Int) := by omega
      have NX := Lib.hid (days_moreP (sh := sh) (d := d) hs)
      have bd := days_bdP (sh := sh) (xs := xs) (d := d) H1.out hd'.1 hd'.2 k hk
      have X := Lib.hid (BoxLoan.new wr 101 s _ rfl)
      have BX := Lib.hid (Below.then' B.out (bel_al1 wr (.cells #[.int .i64 s.Sheet, .int .i64 s.Reader, .int .i64 s.Out, .int .i64 s.Due, .int .i64 s.Back] 101)))
      obtain ⟨z, hz⟩ : ∃ z, daysL sh d (xs.take k) = z := ⟨_, rfl⟩
      rw [hz] at NX bd ⊢
      clear hs hat hbel hz
      by_cases hr : s.Sheet = sh
      · have r1 : (s.Sheet == sh) = true := by simp [hr]
        have R1 := Lib.hid hr
        clear hr
        by_cases hod : s.Out ≤ d
        · have LD := Lib.hid (show lentD sh d s = endL s d - s.Out from by unfold lentD; rw [if_pos ⟨R1.out, hod⟩])
          have eb : 0 ≤ endL s d ∧ endL s d ≤ 4000 := by unfold endL; split <;> omega
          obtain ⟨e, he⟩ : ∃ e, endL s d = e := ⟨_, rfl⟩
          have HE := Lib.hid he
          rw [he] at LD eb
          have v1 : IntKind.i64.wrap (e - s.Out) = e - s.Out := IntWalk.i64_in _ (by omega)
          have v2 : IntKind.i64.wrap (z + (e - s.Out)) = z + (e - s.Out) := IntWalk.i64_in _ (by omega)
          have V1 := Lib.hid v1
          have V2 := Lib.hid v2
          have OD := Lib.hid (decide_eq_true hod)
          clear he v1 v2 ok bd eb
          go_wp2
          refine wp_world (fun W => BoxLoan W wr.heap.size s ∧ Below w.heap.size w W) ⟨X.out, BX.out⟩ ?_
          clear c0 c1 c2 c3 c4
          rintro W ⟨⟨e0, e1, e2, e3, e4⟩, hbw2⟩
          have BW := Lib.hid hbw2
          have k0 := cell_regrown e0
          have k1 := cell_regrown e1
          have k2 := cell_regrown e2
          have k3 := cell_regrown e3
          have k4 := cell_regrown e4
          have v1 := V1.out
          have v2 := V2.out
          have cQ := below_at (W := W) (fun W' _ => HE.out ▸ endBy_any s d W' OK.out)
          clear hbw2 e0 e1 e2 e3 e4
          refine wp_region_quiet_below (by kernel_rfl) (by kernel_rfl) ?_
          repeat (first | go_big_quiet_step (with_reducible exact cQ _ _) | quiet_step (with_reducible exact cQ _ _))
          refine wpQuiet_nil ?_
          intro W2 hw2
          have B4 := Lib.hid (Below.then' BW.out (below_of_re hw2))
          clear hw2 k0 k1 k2 k3 k4 cQ
          go_wp2
          go_roundw
          case rel => exact ⟨k + 1, by omega, by go_num, by rw [NX.out, LD.out], B4.out⟩
          case measure => simp [intOf]; omega
        · have LD := Lib.hid (show lentD sh d s = 0 from by unfold lentD; rw [if_neg (fun h => hod h.2)])
          have od : decide (s.Out ≤ d) = false := decide_eq_false hod
          go_wp2
          go_roundw
          case rel => exact ⟨k + 1, by omega, by go_num, by rw [NX.out, LD.out, Int.add_zero], BX.out⟩
          case measure => simp [intOf]; omega
      · have r1 : (s.Sheet == sh) = false := by simp [hr]
        have LD := Lib.hid (show lentD sh d s = 0 from by unfold lentD; rw [if_neg (fun h => hr h.1)])
        clear hr
        go_wp2
        go_roundw
        case rel => exact ⟨k + 1, by omega, by go_num, by rw [NX.out, LD.out, Int.add_zero], BX.out⟩
        case measure => simp [intOf]; omega
    · obtain rfl : k = xs.length := by omega
      have T := Lib.hid (show xs.take xs.length = xs from List.take_of_length_le (Nat.le_refl _))
      rw [T.out]
      obtain ⟨z, hz⟩ : ∃ z, daysL sh d xs = z := ⟨_, rfl⟩
      rw [hz] at E0 ⊢
      clear hbel hz
      go_wp2
      go_ret2
      exact ⟨by rw [E0.out, E1.out]; rfl, B.out⟩
end Go.Proofs.Ytffbljbgmgifnaa
