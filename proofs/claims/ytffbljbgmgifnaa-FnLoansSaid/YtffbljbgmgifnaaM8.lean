/- Texts in one: WhoHasP, DaysLentP, Loi8, Los4, Los5, PutL2, Los6, Los7. -/
import Derived.Test.YtffbljbgmgifnaaM3
import Derived.Test.YtffbljbgmgifnaaM6
import Derived.Test.YtffbljbgmgifnaaM5
import Derived.Test.YtffbljbgmgifnaaM7
namespace Go.Proofs.Ytffbljbgmgifnaa
open Go.RowKit
def WhoHas_Post (z0 : List VLoan) (z1 : Int) (z2 : Int) (w : World) (e : Ending) (w' : World) : Prop :=
  e = .returned (.tuple #[.int .i64 (WhoHas_0 z0 z1 z2), .bool (WhoHas_1 z0 z1 z2)]) ∧ Below w.heap.size w w'
end Go.Proofs.Ytffbljbgmgifnaa
namespace Go.Proofs.Ytffbljbgmgifnaa
open Go.RowKit
def DaysLent_Post (z0 : List VLoan) (z1 : Int) (z2 : Int) (w : World) (e : Ending) (w' : World) : Prop :=
  e = .returned (.tuple #[.int .i64 (DaysLent_0 z0 z1 z2), .bool (DaysLent_1 z0 z1 z2)]) ∧ Below w.heap.size w w'
end Go.Proofs.Ytffbljbgmgifnaa
namespace Go.Proofs.Ytffbljbgmgifnaa
open Go.RowKit

set_option maxHeartbeats 6400000 in
set_option maxRecDepth 100000 in
theorem implWhoHas_any (a : Option Addr) (len cap : Nat) (xs : List VLoan) (sh d : Int) (w : World) (h : IsLoanS w a len cap xs) (_ : xs.length ≤ 1048576) :
    Calls Try.prog 36 #[.slice a len cap, .int .i64 sh, .int .i64 d] w (WhoHas_Post xs sh d w) := by
  obtain rfl := h.1
  have S := Lib.hid h
  clear h
  obtain ⟨q1, h1⟩ : ∃ q, areLo xs = q := ⟨_, rfl⟩
  obtain ⟨q2, h2⟩ : ∃ q, idB sh = q := ⟨_, rfl⟩
  obtain ⟨q3, h3⟩ : ∃ q, dayB d = q := ⟨_, rfl⟩
  have E1 := Lib.hid (show WhoHas_1 xs sh d = (q1 && (q2 && q3)) from by unfold WhoHas_1; rw [h1, h2, h3])
  have E0 := Lib.hid (show WhoHas_0 xs sh d = if (q1 && (q2 && q3)) = true then whoL sh d xs else 0 from by unfold WhoHas_0; rw [E1.out])
  have H1 := Lib.hid h1
  have H2 := Lib.hid h2
  have H3 := Lib.hid h3
  clear h1 h2 h3
  go_enter Try.func36, Try.ntmps36
  go_wp2_with fail
  refine (areLoans_any _ _ _ xs _ S.out).mono ?_
  rintro e w1 ⟨rfl, hb⟩
  rw [H1.out]
  have B1 := Lib.hid hb
  have S1 := Lib.hid (S.out.below hb)
  clear hb
  cases q1
  · go_wp2
    go_ret2
    exact ⟨by rw [E0.out, E1.out]; rfl, B1.out⟩
  go_wp2_with fail
  refine (isLoanId_any _ _).mono ?_
  rintro e w2 ⟨rfl, hb⟩
  rw [H2.out]
  have B2 := Lib.hid (Below.then' B1.out hb)
  have S2 := Lib.hid (S1.out.below hb)
  clear hb
  cases q2
  · go_wp2
    go_ret2
    exact ⟨by rw [E0.out, E1.out]; rfl, B2.out⟩
  go_wp2_with fail
  refine (isDay_any _ _).mono ?_
  rintro e w3 ⟨rfl, hb⟩
  rw [H3.out]
  have B3 := Lib.hid (Below.then' B2.out hb)
  have S3 := Lib.hid (S2.out.below hb)
  clear hb
  cases q3
  · go_wp2
    go_ret2
    exact ⟨by rw [E0.out, E1.out]; rfl, B3.out⟩
  rcases firstOf_cases (fun b : VLoan => b.Sheet == sh && openOn d b) xs with ⟨hz, hno⟩ | ⟨i, s, hz, hs, hy, _⟩
  · have Z := Lib.hid hz
    have W0 := Lib.hid (whoL_none hno)
    clear hz hno
    go_wp2_with fail
    refine (indexOfOpen_any _ _ _ xs sh d _ S3.out).mono ?_
    rintro e w4 ⟨rfl, hb⟩
    rw [Z.out]
    have B4 := Lib.hid (Below.then' B3.out hb)
    clear hb
    go_wp2
    go_ret2
    exact ⟨by rw [E0.out, E1.out, W0.out]; rfl, B4.out⟩
  · have Z := Lib.hid hz
    have W0 := Lib.hid (whoL_some H1.out hs hy)
    have HS := Lib.hid hs
    have hil := (List.getElem?_eq_some_iff.1 hs).1
    have hi0 : (0 : Int) ≤ (i : Int) := by omega
    have hi00 : ¬ (i : Int) < 0 := by omega
    have hi1 : (i : Int) < (xs.length : Int) := by omega
    clear hz hs hy
    go_wp2_with fail
    refine (indexOfOpen_any _ _ _ xs sh d _ S3.out).mono ?_
    rintro e w4 ⟨rfl, hb⟩
    rw [Z.out]
    have B4 := Lib.hid (Below.then' B3.out hb)
    obtain ⟨b, o, rfl, _, hat⟩ := (S3.out.below hb).at (by omega)
    obtain ⟨c0, c1, c2, c3, c4⟩ := hat i s HS.out
    clear hb hat
    go_wp2
    go_ret2
    exact ⟨by rw [E0.out, E1.out, W0.out]; rfl, B4.out⟩
theorem days_moreP {xs : List VLoan} {sh d : Int} {k : Nat} {s : VLoan} (hs : xs[k]? = some s) : daysL sh d (xs.take (k + 1)) = daysL sh d (xs.take k) + lentD sh d s := by
  unfold daysL; rw [take_one hs, List.foldl_append]; rfl
theorem lentD_bdP {l : VLoan} (h : l.ok = true) {sh d : Int} (h0 : 0 ≤ d) (h1 : d ≤ 4000) : 0 ≤ lentD sh d l ∧ lentD sh d l ≤ 4000 := by
  have k := loOk_iff.1 h
  unfold lentD endL
  split
  · split <;> omega
  · omega
theorem days_bdP {xs : List VLoan} {sh d : Int} (h : areLo xs = true) (h0 : 0 ≤ d) (h1 : d ≤ 4000) : ∀ k, k ≤ xs.length → 0 ≤ daysL sh d (xs.take k) ∧ daysL sh d (xs.take k) ≤ 60000 := by
  have key : ∀ k, k ≤ xs.length → 0 ≤ daysL sh d (xs.take k) ∧ daysL sh d (xs.take k) ≤ 4000 * (k : Int) := by
    intro k
    induction k with
    | zero => intro _; simp [daysL]
    | succ k ih =>
      intro hk
      have hs : xs[k]? = some (xs[k]'(by omega)) := List.getElem?_eq_getElem _
      have b := lentD_bdP (areLo_ok h (List.mem_of_getElem? hs)) (sh := sh) h0 h1
      have c := ih (by omega)
      rw [days_moreP hs]
      omega
  intro k hk
  have hl := areLo_len h
  have := key k hk; omega
set_option maxHeartbeats 6400000 in
set_option maxRecDepth 100000 in
theorem implDaysLent_any (a : Option Addr) (len cap : Nat) (xs : List VLoan) (sh d : Int) (w : World) (h : IsLoanS w a len cap xs) (_ : xs.length ≤ 1048576) :
    Calls Try.prog 61 #[.slice a len cap, .int .i64 sh, .int .i64 d] w (DaysLent_Post xs sh d w) := by
  have hm := h.2.2.1
  have hcl := h.2.1
  unfold maxLen at hm
  obtain rfl := h.1
  have S := Lib.hid h
  clear h
  obtain ⟨q1, h1⟩ : ∃ q, areLo xs = q := ⟨_, rfl⟩
  obtain ⟨q2, h2⟩ : ∃ q, idB sh = q := ⟨_, rfl⟩
  obtain ⟨q3, h3⟩ : ∃ q, dayB d = q := ⟨_, rfl⟩
  have E1 := Lib.hid (show DaysLent_1 xs sh d = (q1 && (q2 && q3)) from by unfold DaysLent_1; rw [h1, h2, h3])
  have E0 := Lib.hid (show DaysLent_0 xs sh d = if (q1 && (q2 && q3)) = true then daysL sh d xs else 0 from by unfold DaysLent_0; rw [E1.out])
  have H1 := Lib.hid h1
  have H2 := Lib.hid h2
  have H3 := Lib.hid h3
  clear h1 h2 h3
  go_enter Try.func61, Try.ntmps61
  go_wp2_with fail
  refine (areLoans_any _ _ _ xs _ S.out).mono ?_
  rintro e w1 ⟨rfl, hb⟩
  rw [H1.out]
  have B1 := Lib.hid hb
  clear hb
  cases q1
  · go_wp2
    go_ret2
    exact ⟨by rw [E0.out, E1.out]; rfl, B1.out⟩
  go_wp2_with fail
  refine (isLoanId_any _ _).mono ?_
  rintro e w2 ⟨rfl, hb⟩
  rw [H2.out]
  have B2 := Lib.hid (Below.then' B1.out hb)
  clear hb
  cases q2
  · go_wp2
    go_ret2
    exact ⟨by rw [E0.out, E1.out]; rfl, B2.out⟩
  go_wp2_with fail
  refine (isDay_any _ _).mono ?_
  rintro e w3 ⟨rfl, hb⟩
  rw [H3.out]
  have B3 := Lib.hid (Below.then' B2.out hb)
  clear hb
  cases q3
  · go_wp2
    go_ret2
    exact ⟨by rw [E0.out, E1.out]; rfl, B3.out⟩
  have L15 := areLo_len H1.out
  have hd' : 0 ≤ d ∧ d ≤ 4000 := inB_iff.1 H3.out
  go_wp2
  go_loopw [26, 8] (fun i v wr => ∃ k : Nat, k ≤ xs.length ∧ i = .int .i64 k ∧ v = .int .i64 (daysL sh d (xs.take k)) ∧ Below w.heap.size w wr) (fun i _ _ => xs.length - (intOf i).toNat)
  case atStart => exact ⟨0, Nat.zero_le _, rfl, rfl, B3.out⟩
  case round =>
    obtain ⟨k, hk, rfl, rfl, hbel⟩ := hrel
    have B := Lib.hid hbel
    by_cases hlt : k < xs.length
    · obtain ⟨s, hs⟩ : ∃ s, xs[k]? = some s := ⟨xs[k]'hlt, List.getElem?_eq_getElem _⟩
      obtain ⟨b, o, rfl, hbw, hat⟩ := (S.out.below hbel).at (by omega)
      obtain ⟨c0, c1, c2, c3, c4⟩ := hat k s hs
      have OK := Lib.hid (areLo_ok H1.out (List.mem_of_getElem? hs))
      have ok := loOk_iff.1 OK.out
      have hi0 : (0 : Int) ≤ (k : Int) := by omega
      have hi1 : (k : Int) < (xs.length : Int) := by omega
      have NX := Lib.hid (days_moreP (sh := sh) (d := d) hs)
      have bd := days_bdP (sh := sh) (xs := xs) (d := d) H1.out hd'.1 hd'.2 k hk
      have X := Lib.hid (BoxLoan.new wr 101 s _ rfl)
      have BX := Lib.hid (Below.then' B.out (bel_al1 wr (.cells #[.int .i64 s.Sheet, .int .i64 s.Reader, .int .i64 s.Out, .int .i64 s.Due, .int .i64 s.Back] 101)))
      obtain ⟨z, hz⟩ : ∃ z, daysL sh d (xs.take k) = z := ⟨_, rfl⟩
      rw [hz] at NX bd ⊢
      clear hs hat hbel hz
      by_cases hr : s.Sheet = sh
      · have r1 : (s.Sheet == sh) = true := by simp [hr]
        have R1 := Lib.hid hr
        clear hr
        by_cases hod : s.Out ≤ d
        · have LD := Lib.hid (show lentD sh d s = endL s d - s.Out from by unfold lentD; rw [if_pos ⟨R1.out, hod⟩])
          have eb : 0 ≤ endL s d ∧ endL s d ≤ 4000 := by unfold endL; split <;> omega
          obtain ⟨e, he⟩ : ∃ e, endL s d = e := ⟨_, rfl⟩
          have HE := Lib.hid he
          rw [he] at LD eb
          have v1 : IntKind.i64.wrap (e - s.Out) = e - s.Out := IntWalk.i64_in _ (by omega)
          have v2 : IntKind.i64.wrap (z + (e - s.Out)) = z + (e - s.Out) := IntWalk.i64_in _ (by omega)
          have V1 := Lib.hid v1
          have V2 := Lib.hid v2
          have OD := Lib.hid (decide_eq_true hod)
          clear he v1 v2 ok bd eb
          go_wp2
          refine wp_world (fun W => BoxLoan W wr.heap.size s ∧ Below w.heap.size w W) ⟨X.out, BX.out⟩ ?_
          clear c0 c1 c2 c3 c4
          rintro W ⟨⟨e0, e1, e2, e3, e4⟩, hbw2⟩
          have BW := Lib.hid hbw2
          have k0 := cell_regrown e0
          have k1 := cell_regrown e1
          have k2 := cell_regrown e2
          have k3 := cell_regrown e3
          have k4 := cell_regrown e4
          have v1 := V1.out
          have v2 := V2.out
          have cQ := below_at (W := W) (fun W' _ => HE.out ▸ endBy_any s d W' OK.out)
          clear hbw2 e0 e1 e2 e3 e4
          refine wp_region_quiet_below (by kernel_rfl) (by kernel_rfl) ?_
          repeat (first | go_big_quiet_step (with_reducible exact cQ _ _) | quiet_step (with_reducible exact cQ _ _))
          refine wpQuiet_nil ?_
          intro W2 hw2
          have B4 := Lib.hid (Below.then' BW.out (below_of_re hw2))
          clear hw2 k0 k1 k2 k3 k4 cQ
          go_wp2
          go_roundw
          case rel => exact ⟨k + 1, by omega, by go_num, by rw [NX.out, LD.out], B4.out⟩
          case measure => simp [intOf]; omega
        · have LD := Lib.hid (show lentD sh d s = 0 from by unfold lentD; rw [if_neg (fun h => hod h.2)])
          have od : decide (s.Out ≤ d) = false := decide_eq_false hod
          go_wp2
          go_roundw
          case rel => exact ⟨k + 1, by omega, by go_num, by rw [NX.out, LD.out, Int.add_zero], BX.out⟩
          case measure => simp [intOf]; omega
      · have r1 : (s.Sheet == sh) = false := by simp [hr]
        have LD := Lib.hid (show lentD sh d s = 0 from by unfold lentD; rw [if_neg (fun h => hr h.1)])
        clear hr
        go_wp2
        go_roundw
        case rel => exact ⟨k + 1, by omega, by go_num, by rw [NX.out, LD.out, Int.add_zero], BX.out⟩
        case measure => simp [intOf]; omega
    · obtain rfl : k = xs.length := by omega
      have T := Lib.hid (show xs.take xs.length = xs from List.take_of_length_le (Nat.le_refl _))
      rw [T.out]
      obtain ⟨z, hz⟩ : ∃ z, daysL sh d xs = z := ⟨_, rfl⟩
      rw [hz] at E0 ⊢
      clear hbel hz
      go_wp2
      go_ret2
      exact ⟨by rw [E0.out, E1.out]; rfl, B.out⟩
end Go.Proofs.Ytffbljbgmgifnaa
namespace Go.Proofs.Ytffbljbgmgifnaa
open Go.RowKit

theorem IsLoanS.cellsAt {w : World} {b o len cap : Nat} {xs : List VLoan} (h : IsLoanS w (some ⟨b, o, none⟩) len cap xs) {k : Nat} {s : VLoan} (hs : xs[k]? = some s) : LoanAt w b (o + k * 5) s := by
  obtain ⟨_, _, e, _, hat⟩ := h.at (by have := (List.getElem?_eq_some_iff.1 hs).1; have := h.1; omega)
  cases e
  exact hat k s hs
theorem retL_at {xs : List VLoan} {sh d : Int} {i : Nat} {s : VLoan} (h : lentAt xs sh = (i : Int)) (hs : xs[i]? = some s) : retL xs sh d = xs.set i (cameL s d) ∧ cameL (loAt xs (lentAt xs sh).toNat) d = cameL s d := by
  unfold retL; rw [h, Int.toNat_natCast, loAt_some hs]; exact ⟨rfl, rfl⟩
theorem ret_no {xs : List VLoan} {sh d : Int} (h : ReturnSheet_2 xs sh d = false) : ReturnSheet_0 xs sh d = [] ∧ ReturnSheet_1 xs sh d = 0 := by
  unfold ReturnSheet_0 ReturnSheet_1; rw [h]; exact ⟨rfl, rfl⟩
theorem ret_none {xs : List VLoan} {sh d : Int} (h : lentAt xs sh = -1) : ReturnSheet_2 xs sh d = false := by unfold ReturnSheet_2; rw [h]; simp
theorem ret_is {xs : List VLoan} {sh d : Int} {i : Nat} {s : VLoan} (h : lentAt xs sh = (i : Int)) (hs : xs[i]? = some s) : ReturnSheet_2 xs sh d = (areLo xs && (dayB d && areLo (xs.set i (cameL s d)))) := by
  unfold ReturnSheet_2; rw [(retL_at h hs).1, h, decide_eq_true (by omega : (0 : Int) ≤ (i : Int))]; simp
theorem ret_yes {xs : List VLoan} {sh d : Int} {i : Nat} {s : VLoan} (h : lentAt xs sh = (i : Int)) (hs : xs[i]? = some s) (hy : ReturnSheet_2 xs sh d = true) : ReturnSheet_0 xs sh d = xs.set i (cameL s d) ∧ ReturnSheet_1 xs sh d = fineL (cameL s d) d := by
  unfold ReturnSheet_0 ReturnSheet_1; rw [hy, if_pos rfl, if_pos rfl, (retL_at h hs).2]; exact ⟨(retL_at h hs).1, rfl⟩
set_option maxHeartbeats 12800000 in
set_option maxRecDepth 100000 in
theorem specReturnSheet_any (a : Option Addr) (len cap : Nat) (xs : List VLoan) (sh d : Int) (w : World) (h : IsLoanS w a len cap xs) (_ : xs.length ≤ 1048576) :
    Calls Try.prog 41 #[.slice a len cap, .int .i64 sh, .int .i64 d] w (ReturnSheet_Post xs sh d w) := by
  have hm := h.2.2.1
  have hcl := h.2.1
  unfold maxLen at hm
  obtain rfl := h.1
  obtain ⟨i0, hi, hz0, hz1, hz2⟩ := info_parts infoLoan
  have S := Lib.hid h
  clear h
  obtain ⟨q1, h1⟩ : ∃ q, areLo xs = q := ⟨_, rfl⟩
  have H1 := Lib.hid h1
  clear h1
  rcases lent_cases xs sh with hn | ⟨i, s, hn, hs, he1, he2⟩
  · have HN := Lib.hid hn
    have E2 := Lib.hid (ret_none (d := d) hn)
    have E := Lib.hid (ret_no E2.out)
    clear hn
    go_enter Try.func41, Try.ntmps41
    go_wp2_with fail
    refine (l11Open_any _ _ _ xs sh _ S.out).mono ?_
    rintro e w1 ⟨rfl, hb⟩
    rw [HN.out]
    have B1 := Lib.hid hb
    have S1 := Lib.hid (S.out.below hb)
    clear hb
    go_wp2_with fail
    refine (l11Good_any _ _ _ xs _ S1.out).mono ?_
    rintro e w2 ⟨rfl, hb⟩
    rw [H1.out]
    have B2 := Lib.hid (Below.then' B1.out hb)
    have O2 := Lib.hid (made_ownLo w2 w.heap.size B2.out.size)
    clear hb
    cases q1
    · go_wp2
      go_ret3
      exact ⟨_, by rw [E.out.2, E2.out]; rfl, by rw [E.out.1]; exact O2.out, Below.then' B2.out (bel_al1 _ _)⟩
    · go_wp2
      go_ret3
      exact ⟨_, by rw [E.out.2, E2.out]; rfl, by rw [E.out.1]; exact O2.out, Below.then' B2.out (bel_al1 _ _)⟩
  have hil := (List.getElem?_eq_some_iff.1 hs).1
  have HN := Lib.hid hn
  have HS := Lib.hid hs
  obtain ⟨q2, h2⟩ : ∃ q, dayB d = q := ⟨_, rfl⟩
  obtain ⟨R, hR⟩ : ∃ R, xs.set i (cameL s d) = R := ⟨_, rfl⟩
  obtain ⟨q3, h3⟩ : ∃ q, areLo R = q := ⟨_, rfl⟩
  have E2 := Lib.hid (show ReturnSheet_2 xs sh d = (q1 && (q2 && q3)) from by rw [ret_is hn hs, H1.out, h2, hR, h3])
  have H2 := Lib.hid h2
  have H3 := Lib.hid h3
  have HR := Lib.hid hR
  have hi00 : ¬ (i : Int) < 0 := by omega
  have hi0 : (0 : Int) ≤ (i : Int) := by omega
  have hi1 : (i : Int) < (xs.length : Int) := by omega
  clear hn hs h2 hR h3 he1 he2
  go_enter Try.func41, Try.ntmps41
  go_wp2_with fail
  refine (l11Open_any _ _ _ xs sh _ S.out).mono ?_
  rintro e w0 ⟨rfl, hb⟩
  rw [HN.out]
  have B0 := Lib.hid hb
  have S0 := Lib.hid (S.out.below hb)
  clear hb
  go_wp2_with fail
  refine (l11Good_any _ _ _ xs _ S0.out).mono ?_
  rintro e w1 ⟨rfl, hb⟩
  rw [H1.out]
  have B1 := Lib.hid (Below.then' B0.out hb)
  have S1 := Lib.hid (S0.out.below hb)
  have sz1 := B1.out.size
  have O1 := Lib.hid (made_ownLo w1 w.heap.size sz1)
  clear hb
  cases q1
  · have E := Lib.hid (ret_no (E2.out.trans rfl))
    go_wp2
    go_ret3
    exact ⟨_, by rw [E.out.2, E2.out]; rfl, by rw [E.out.1]; exact O1.out, Below.then' B1.out (bel_al1 _ _)⟩
  go_wp2_with fail
  refine (l2Day_any _ _).mono ?_
  rintro e w' ⟨rfl, rfl⟩
  rw [H2.out]
  cases q2
  · have E := Lib.hid (ret_no (E2.out.trans rfl))
    go_wp2
    go_ret3
    exact ⟨_, by rw [E.out.2, E2.out]; rfl, by rw [E.out.1]; exact O1.out, Below.then' B1.out (bel_al1 _ _)⟩
  have O0 := O1.out
  have SRC := srcLoan (S1.out.below (bel_al1 w1 (.cells #[] 101)))
  have BA := Lib.hid (Below.then' B1.out (bel_al1 w1 (.cells #[] 101)))
  go_wp2_with (at_builtin; refine wpList_append_list rfl _ _ 42 rfl w.heap.size 101 i0 (.agg #[.int .i64 0, .int .i64 0, .int .i64 0, .int .i64 0, .int .i64 0]) 5 40 Try.underlying42 hi hz0 hz1 hz2 rfl (by decide) _ _ _ rfl O0 _ xs.length cap (cellsLoan xs) rfl SRC (one_Lo xs) (by simp; unfold maxLen; omega) (by simp; omega) (by simp; omega) ?_; intro v' w3 hown1 hgrow1; have BG := Lib.hid (BA.out.grown hgrow1 BA.out.size (fun k e => (O0.lt k e).1)); rw [List.length_nil, Nat.zero_add, show cellsLoan [] ++ cellsLoan xs = cellsLoan xs from rfl] at hown1; obtain ⟨g, cap1, rfl, hg, hn, hcap⟩ := own_some hown1 (by omega); obtain ⟨a5, c5, e5, his, _⟩ := isLoanS_own hown1; cases e5; obtain ⟨d0, d1, d2, d3, d4⟩ := his.cellsAt HS.out; simp only [Nat.zero_add] at d0 d1 d2 d3 d4; have hgl := (hown1.lt g rfl).2; have f0 := hown1.frozenAt (i * 5); have f1 := hown1.frozenAt (i * 5 + 1); have f2 := hown1.frozenAt (i * 5 + 2); have f3 := hown1.frozenAt (i * 5 + 3); have f4 := hown1.frozenAt (i * 5 + 4); obtain ⟨u0, k0⟩ := own_cell hown1 (i * 5) (by rw [cellsLoan_len]; omega); obtain ⟨u1, k1⟩ := own_cell hown1 (i * 5 + 1) (by rw [cellsLoan_len]; omega); obtain ⟨u2, k2⟩ := own_cell hown1 (i * 5 + 2) (by rw [cellsLoan_len]; omega); obtain ⟨u3, k3⟩ := own_cell hown1 (i * 5 + 3) (by rw [cellsLoan_len]; omega); obtain ⟨u4, k4⟩ := own_cell hown1 (i * 5 + 4) (by rw [cellsLoan_len]; omega); have O3 := Lib.hid hown1; clear hgrow1 hown1 his k0 k1 k2 k3 k4)
  have h5 := own_setLoan O3.out hil (cameL s d)
  have B5 := BG.out.grown h5.2 BG.out.size (fun k e => by cases e; omega)
  have hown5 := h5.1.alloc (.cells #[.int .i64 s.Sheet, .int .i64 s.Reader, .int .i64 s.Out, .int .i64 s.Due, .int .i64 d] 101)
  have B6 := Lib.hid (Below.then' B5 (bel_al1 _ (.cells #[.int .i64 s.Sheet, .int .i64 s.Reader, .int .i64 s.Out, .int .i64 s.Due, .int .i64 d] 101)))
  have X6 := Lib.hid (BoxLoan.new _ 101 (cameL s d) w3.heap.size (show (((((w3.setCell ⟨g, i * 5, none⟩ (.int .i64 (cameL s d).Sheet)).setCell ⟨g, i * 5 + 1, none⟩ (.int .i64 (cameL s d).Reader)).setCell ⟨g, i * 5 + 2, none⟩ (.int .i64 (cameL s d).Out)).setCell ⟨g, i * 5 + 3, none⟩ (.int .i64 (cameL s d).Due)).setCell ⟨g, i * 5 + 4, none⟩ (.int .i64 (cameL s d).Back)).heap.size = w3.heap.size from by simp))
  rw [show xs.length = (xs.set i (cameL s d)).length from List.length_set.symm] at hown5
  obtain ⟨a6, c6, e6, his, _⟩ := isLoanS_own hown5
  cases e6
  rw [List.length_set, HR.out] at his
  have S6 := Lib.hid his
  rw [HR.out] at hown5
  have O6 := Lib.hid hown5
  have RL := Lib.hid (show R.length = xs.length from by rw [← HR.out, List.length_set])
  clear h5 hown5 his B5 f0 f1 f2 f3 f4 d0 d1 d2 d3 d4
  refine (l11Good_any _ _ _ R _ S6.out).mono ?_
  rintro e w7 ⟨rfl, hb⟩
  rw [H3.out]
  have B7 := Lib.hid (Below.then' B6.out hb)
  have O7 := Lib.hid (ownsRow_below O6.out hb)
  have X7 := Lib.hid (X6.out.below hb)
  clear hb
  cases q3
  · have E := Lib.hid (ret_no (E2.out.trans rfl))
    have O8 := Lib.hid (made_ownLo w7 w.heap.size (by have := B7.out.size; omega))
    go_wp2
    go_ret3
    exact ⟨_, by rw [E.out.2, E2.out]; rfl, by rw [E.out.1]; exact O8.out, Below.then' B7.out (bel_al1 _ _)⟩
  have E := Lib.hid (ret_yes HN.out HS.out (E2.out.trans rfl))
  have OK := Lib.hid (areLo_ok H3.out (show cameL s d ∈ R from by rw [← HR.out]; exact List.mem_of_getElem? (List.getElem?_set_self hil)))
  obtain ⟨y0, y1, y2, y3, y4⟩ := X7.out
  go_wp2_with fail
  refine (l11Fine_any (cameL s d) d _ OK.out H2.out).mono ?_
  rintro e w8 ⟨rfl, hb⟩
  have B8 := Lib.hid (Below.then' B7.out hb)
  have O8 := Lib.hid (ownsRow_below O7.out hb)
  clear hb
  go_wp2
  go_ret3
  refine ⟨_, by rw [E.out.2, E2.out]; rfl, ?_, B8.out⟩
  rw [E.out.1, HR.out, RL.out]
  have := O8.out
  rw [RL.out] at this
  exact this
end Go.Proofs.Ytffbljbgmgifnaa
namespace Go.Proofs.Ytffbljbgmgifnaa
open Go.RowKit

theorem proL_at {xs : List VLoan} {sh n : Int} {i : Nat} {s : VLoan} (h : lentAt xs sh = (i : Int)) (hs : xs[i]? = some s) : proL xs sh n = xs.set i (longL s n) := by
  unfold proL; rw [h, Int.toNat_natCast, loAt_some hs]
theorem pro_no {xs : List VLoan} {sh d n : Int} (h : ProlongLoan_1 xs sh d n = false) : ProlongLoan_0 xs sh d n = [] := by
  unfold ProlongLoan_0; rw [h]; rfl
theorem pro_none {xs : List VLoan} {sh d n : Int} (h : lentAt xs sh = -1) : ProlongLoan_1 xs sh d n = false := by unfold ProlongLoan_1; rw [h]; simp
theorem pro_is {xs : List VLoan} {sh d n : Int} {i : Nat} {s : VLoan} (h : lentAt xs sh = (i : Int)) (hs : xs[i]? = some s) : ProlongLoan_1 xs sh d n = (areLo xs && (dayB d && (daysB n && (mayPro s d && areLo (xs.set i (longL s n)))))) := by
  unfold ProlongLoan_1; rw [proL_at h hs, h, decide_eq_true (by omega : (0 : Int) ≤ (i : Int)), Int.toNat_natCast, loAt_some hs]; simp
theorem pro_yes {xs : List VLoan} {sh d n : Int} {i : Nat} {s : VLoan} (h : lentAt xs sh = (i : Int)) (hs : xs[i]? = some s) (hy : ProlongLoan_1 xs sh d n = true) : ProlongLoan_0 xs sh d n = xs.set i (longL s n) := by
  unfold ProlongLoan_0; rw [hy, if_pos rfl]; exact proL_at h hs
theorem mayPro_yes {s : VLoan} {d : Int} (h : mayPro s d = true) : d ≤ s.Due ∧ s.Out ≤ d := by simpa [mayPro] using h
theorem mayPro_no {s : VLoan} {d : Int} (h : mayPro s d = false) : s.Due < d ∨ d < s.Out := by
  by_cases h1 : d ≤ s.Due
  · by_cases h2 : s.Out ≤ d
    · simp [mayPro, h1, h2] at h
    · exact .inr (by omega)
  · exact .inl (by omega)
set_option maxHeartbeats 12800000 in
set_option maxRecDepth 100000 in
theorem specProlongLoan_any (a : Option Addr) (len cap : Nat) (xs : List VLoan) (sh d n : Int) (w : World) (h : IsLoanS w a len cap xs) (_ : xs.length ≤ 1048576) :
    Calls Try.prog 52 #[.slice a len cap, .int .i64 sh, .int .i64 d, .int .i64 n] w (ProlongLoan_Post xs sh d n w) := by
  have hm := h.2.2.1
  have hcl := h.2.1
  unfold maxLen at hm
  obtain rfl := h.1
  obtain ⟨i0, hi, hz0, hz1, hz2⟩ := info_parts infoLoan
  have S := Lib.hid h
  clear h
  obtain ⟨q1, h1⟩ : ∃ q, areLo xs = q := ⟨_, rfl⟩
  have H1 := Lib.hid h1
  clear h1
  rcases lent_cases xs sh with hn | ⟨i, s, hn, hs, he1, he2⟩
  · have HN := Lib.hid hn
    have E2 := Lib.hid (pro_none (d := d) (n := n) hn)
    have E := Lib.hid (pro_no E2.out)
    clear hn
    go_enter Try.func52, Try.ntmps52
    go_wp2_with fail
    refine (l11Open_any _ _ _ xs sh _ S.out).mono ?_
    rintro e w1 ⟨rfl, hb⟩
    rw [HN.out]
    have B1 := Lib.hid hb
    have S1 := Lib.hid (S.out.below hb)
    clear hb
    go_wp2_with fail
    refine (l11Good_any _ _ _ xs _ S1.out).mono ?_
    rintro e w2 ⟨rfl, hb⟩
    rw [H1.out]
    have B2 := Lib.hid (Below.then' B1.out hb)
    have O2 := Lib.hid (made_ownLo w2 w.heap.size B2.out.size)
    clear hb
    cases q1
    · go_wp2
      go_ret2
      exact ⟨_, by rw [E2.out]; rfl, by rw [E.out]; exact O2.out, Below.then' B2.out (bel_al1 _ _)⟩
    · go_wp2
      go_ret2
      exact ⟨_, by rw [E2.out]; rfl, by rw [E.out]; exact O2.out, Below.then' B2.out (bel_al1 _ _)⟩
  have hil := (List.getElem?_eq_some_iff.1 hs).1
  have HN := Lib.hid hn
  have HS := Lib.hid hs
  obtain ⟨q2, h2⟩ : ∃ q, dayB d = q := ⟨_, rfl⟩
  obtain ⟨R, hR⟩ : ∃ R, xs.set i (longL s n) = R := ⟨_, rfl⟩
  obtain ⟨q3, h3⟩ : ∃ q, areLo R = q := ⟨_, rfl⟩
  obtain ⟨q4, h4⟩ : ∃ q, daysB n = q := ⟨_, rfl⟩
  obtain ⟨q5, h5⟩ : ∃ q, mayPro s d = q := ⟨_, rfl⟩
  have E2 := Lib.hid (show ProlongLoan_1 xs sh d n = (q1 && (q2 && (q4 && (q5 && q3)))) from by rw [pro_is hn hs, H1.out, h2, h4, h5, hR, h3])
  have H4 := Lib.hid h4
  have H5 := Lib.hid h5
  have H2 := Lib.hid h2
  have H3 := Lib.hid h3
  have HR := Lib.hid hR
  have hi00 : ¬ (i : Int) < 0 := by omega
  have hi0 : (0 : Int) ≤ (i : Int) := by omega
  have hi1 : (i : Int) < (xs.length : Int) := by omega
  clear hn hs h2 hR h3 h4 h5 he1 he2
  go_enter Try.func52, Try.ntmps52
  go_wp2_with fail
  refine (l11Open_any _ _ _ xs sh _ S.out).mono ?_
  rintro e w0 ⟨rfl, hb⟩
  rw [HN.out]
  have B0 := Lib.hid hb
  have S0 := Lib.hid (S.out.below hb)
  clear hb
  go_wp2_with fail
  refine (l11Good_any _ _ _ xs _ S0.out).mono ?_
  rintro e w1 ⟨rfl, hb⟩
  rw [H1.out]
  have B1 := Lib.hid (Below.then' B0.out hb)
  have S1 := Lib.hid (S0.out.below hb)
  have sz1 := B1.out.size
  have O1 := Lib.hid (made_ownLo w1 w.heap.size sz1)
  clear hb
  cases q1
  · have E := Lib.hid (pro_no (E2.out.trans rfl))
    go_wp2
    go_ret2
    exact ⟨_, by rw [E2.out]; rfl, by rw [E.out]; exact O1.out, Below.then' B1.out (bel_al1 _ _)⟩
  go_wp2_with fail
  refine (l2Day_any _ _).mono ?_
  rintro e w' ⟨rfl, rfl⟩
  rw [H2.out]
  cases q2
  · have E := Lib.hid (pro_no (E2.out.trans rfl))
    go_wp2
    go_ret2
    exact ⟨_, by rw [E2.out]; rfl, by rw [E.out]; exact O1.out, Below.then' B1.out (bel_al1 _ _)⟩
  go_wp2_with fail
  refine (l11Days_any _ _).mono ?_
  rintro e w' ⟨rfl, rfl⟩
  rw [H4.out]
  cases q4
  · have E := Lib.hid (pro_no (E2.out.trans rfl))
    go_wp2
    go_ret2
    exact ⟨_, by rw [E2.out]; rfl, by rw [E.out]; exact O1.out, Below.then' B1.out (bel_al1 _ _)⟩
  obtain ⟨b9, o9, rfl, _, hat⟩ := S1.out.at (by omega)
  obtain ⟨c0, c1, c2, c3, c4⟩ := hat i s HS.out
  clear hat
  cases q5
  · have E := Lib.hid (pro_no (E2.out.trans rfl))
    have MP := mayPro_no H5.out
    by_cases hdd : s.Due < d
    · go_wp2
      go_ret2
      exact ⟨_, by rw [E2.out]; rfl, by rw [E.out]; exact O1.out, Below.then' B1.out (bel_al1 _ _)⟩
    · have hdo : d < s.Out := by omega
      have hd1 : decide (s.Due < d) = false := decide_eq_false hdd
      clear MP
      go_wp2
      go_ret2
      exact ⟨_, by rw [E2.out]; rfl, by rw [E.out]; exact O1.out, Below.then' B1.out (bel_al1 _ _)⟩
  have MP := mayPro_yes H5.out
  have hd1 : ¬ s.Due < d := by omega
  have hd2 : ¬ d < s.Out := by omega
  have hd3 : decide (s.Due < d) = false := decide_eq_false hd1
  have hd4 : decide (d < s.Out) = false := decide_eq_false hd2
  have hok := loOk_iff.1 (areLo_ok H1.out (List.mem_of_getElem? HS.out))
  have hnn : 1 ≤ n ∧ n ≤ 60 := inB_iff.1 H4.out
  have wr : IntKind.i64.wrap (s.Due + n) = s.Due + n := IntWalk.i64_in _ (by omega)
  clear MP hok hnn
  have O0 := O1.out
  have SRC := srcLoan (S1.out.below (bel_al1 w1 (.cells #[] 101)))
  have BA := Lib.hid (Below.then' B1.out (bel_al1 w1 (.cells #[] 101)))
  go_wp2_with (at_builtin; refine wpList_append_list rfl _ _ 42 rfl w.heap.size 101 i0 (.agg #[.int .i64 0, .int .i64 0, .int .i64 0, .int .i64 0, .int .i64 0]) 5 40 Try.underlying42 hi hz0 hz1 hz2 rfl (by decide) _ _ _ rfl O0 _ xs.length cap (cellsLoan xs) rfl SRC (one_Lo xs) (by simp; unfold maxLen; omega) (by simp; omega) (by simp; omega) ?_; intro v' w3 hown1 hgrow1; have BG := Lib.hid (BA.out.grown hgrow1 BA.out.size (fun k e => (O0.lt k e).1)); rw [List.length_nil, Nat.zero_add, show cellsLoan [] ++ cellsLoan xs = cellsLoan xs from rfl] at hown1; obtain ⟨g, cap1, rfl, hg, hn, hcap⟩ := own_some hown1 (by omega); obtain ⟨a5, c5, e5, his, _⟩ := isLoanS_own hown1; cases e5; obtain ⟨d0, d1, d2, d3, d4⟩ := his.cellsAt HS.out; simp only [Nat.zero_add] at d0 d1 d2 d3 d4; have hgl := (hown1.lt g rfl).2; have f0 := hown1.frozenAt (i * 5); have f1 := hown1.frozenAt (i * 5 + 1); have f2 := hown1.frozenAt (i * 5 + 2); have f3 := hown1.frozenAt (i * 5 + 3); have f4 := hown1.frozenAt (i * 5 + 4); obtain ⟨u0, k0⟩ := own_cell hown1 (i * 5) (by rw [cellsLoan_len]; omega); obtain ⟨u1, k1⟩ := own_cell hown1 (i * 5 + 1) (by rw [cellsLoan_len]; omega); obtain ⟨u2, k2⟩ := own_cell hown1 (i * 5 + 2) (by rw [cellsLoan_len]; omega); obtain ⟨u3, k3⟩ := own_cell hown1 (i * 5 + 3) (by rw [cellsLoan_len]; omega); obtain ⟨u4, k4⟩ := own_cell hown1 (i * 5 + 4) (by rw [cellsLoan_len]; omega); have O3 := Lib.hid hown1; clear hgrow1 hown1 his k0 k1 k2 k3 k4)
  have h5 := own_setLoan O3.out hil (longL s n)
  have B5 := BG.out.grown h5.2 BG.out.size (fun k e => by cases e; omega)
  have hown5 := h5.1.alloc (.cells #[.int .i64 s.Sheet, .int .i64 s.Reader, .int .i64 s.Out, .int .i64 (s.Due + n), .int .i64 s.Back] 101)
  have B6 := Lib.hid (Below.then' B5 (bel_al1 _ (.cells #[.int .i64 s.Sheet, .int .i64 s.Reader, .int .i64 s.Out, .int .i64 (s.Due + n), .int .i64 s.Back] 101)))
  rw [show xs.length = (xs.set i (longL s n)).length from List.length_set.symm] at hown5
  obtain ⟨a6, c6, e6, his, _⟩ := isLoanS_own hown5
  cases e6
  rw [List.length_set, HR.out] at his
  have S6 := Lib.hid his
  rw [HR.out] at hown5
  have O6 := Lib.hid hown5
  have RL := Lib.hid (show R.length = xs.length from by rw [← HR.out, List.length_set])
  clear h5 hown5 his B5 f0 f1 f2 f3 f4 d0 d1 d2 d3 d4 c0 c1 c2 c3 c4
  refine (l11Good_any _ _ _ R _ S6.out).mono ?_
  rintro e w7 ⟨rfl, hb⟩
  rw [H3.out]
  have B7 := Lib.hid (Below.then' B6.out hb)
  have O7 := Lib.hid (ownsRow_below O6.out hb)
  clear hb
  cases q3
  · have E := Lib.hid (pro_no (E2.out.trans rfl))
    have O8 := Lib.hid (made_ownLo w7 w.heap.size (by have := B7.out.size; omega))
    go_wp2
    go_ret2
    exact ⟨_, by rw [E2.out]; rfl, by rw [E.out]; exact O8.out, Below.then' B7.out (bel_al1 _ _)⟩
  have E := Lib.hid (pro_yes HN.out HS.out (E2.out.trans rfl))
  go_wp2
  go_ret2
  refine ⟨_, by rw [E2.out]; rfl, ?_, B7.out⟩
  rw [E.out, HR.out, RL.out]
  have := O7.out
  rw [RL.out] at this
  exact this
end Go.Proofs.Ytffbljbgmgifnaa
namespace Go.Proofs.Ytffbljbgmgifnaa
open Go.RowKit

/-- The list comes out, in the slice that was handed in or in a row of the call's own. -/
def ReadsPut (a : Option Addr) (len cap : Nat) (zs : List Int) (w : World) (e : Ending) (w' : World) : Prop := ∃ h : Hd, e = .returned (.slice h.a h.n h.c) ∧ IsInts w' h.a h.n h.c zs ∧ Below w.heap.size w w' ∧ ((h.a = a ∧ h.n = len ∧ h.c = cap) ∨ w'.ownsRow w.heap.size 3 1 (.slice h.a h.n h.c) zs.length (intCells zs))
set_option maxHeartbeats 25600000 in
set_option maxRecDepth 100000 in
theorem l1PutO_any (a : Option Addr) (len cap : Nat) (zs : List Int) (n : Int) (w : World) (h : IsInts w a len cap zs) (hx : zs.length ≤ 1000) :
    Calls Try.prog 113 #[.slice a len cap, .int .i64 n] w (ReadsPut a len cap (putN n zs) w) := by
  obtain ⟨i1, hi1, hy0, hy1, hy2⟩ := info_parts infoInt
  have hm := h.2.2.1
  have hcl := h.2.1
  unfold maxLen at hm
  have S := Lib.hid h
  have L := Lib.hid h.1
  have hl10 : len ≤ 1000 := by have := h.1; omega
  clear h
  go_enter Try.func113, Try.ntmps113
  go_wp2
  go_loop [5] (fun i => ∃ k : Nat, k ≤ len ∧ i = .int .i64 k ∧ ∀ (j : Nat) z, j < k → zs[j]? = some z → z < n) (fun i => len - (intOf i).toNat)
  case atStart => exact ⟨0, Nat.zero_le _, rfl, fun _ _ h => by omega⟩
  case round =>
    obtain ⟨k, hk, rfl, hall⟩ := hrel
    have A := Lib.hid hall
    clear hall
    have k0 : (0 : Int) ≤ (k : Int) := by omega
    have kl : (k : Int) ≤ (len : Int) := by omega
    have kc : k ≤ cap := by omega
    have kc2 : (k : Int) ≤ (cap : Int) := by omega
    by_cases hlt : k < len
    · obtain ⟨z, hz⟩ := el_at L hlt
      obtain ⟨b, o, rfl, hb, hat⟩ := S.out.at (by omega)
      have c0 := hat k z hz
      have AT := Lib.hid hat
      have Z := Lib.hid hz
      have hi1' : (k : Int) < (len : Int) := by omega
      clear hz hat
      by_cases hzn : z < n
      · go_wp2
        go_round
        case rel => exact ⟨k + 1, by omega, by go_num, fun j y hj hy => by
          by_cases e : j = k
          · subst e; rw [Z.out] at hy; cases hy; exact hzn
          · exact A.out j y (by omega) hy⟩
        case measure => simp [intOf]; omega
      · have PA := Lib.hid (putN_at A.out (fun y hy => by rw [Z.out] at hy; cases hy; exact hzn) (by have := L.out; omega) : putN n zs = if zs[k]? = some n then zs else zs.take k ++ n :: zs.drop k)
        by_cases hze : z = n
        · have E := Lib.hid (show putN n zs = zs from by rw [PA.out, Z.out, if_pos (by rw [hze])])
          have hb1 : (z == n) = true := by simpa using hze
          subst hze
          go_wp2
          go_ret
          exact ⟨⟨_, len, cap⟩, rfl, by rw [E.out]; exact S.out, Below.refl _ _, .inl ⟨rfl, rfl, rfl⟩⟩
        · have E := Lib.hid (show putN n zs = zs.take k ++ n :: zs.drop k from by rw [PA.out, Z.out, if_neg (fun e => hze (Option.some.inj e))])
          have hb1 : (z == n) = false := by simpa using hze
          have hcj : ¬ cap = k := by omega
          clear PA
          go_wp2_with fail
          refine wp_world (fun W => Below w.heap.size w W) (by first | exact Below.refl _ _ | exact bel_drawn _ _) ?_
          intro W hbw
          have BW := Lib.hid hbw
          have hW0 := hbw.size
          clear hbw c0
          have hj' : k ≤ len := hk
          go_region_law (first
            | (refine step_append_some (by rfl) (.tmp 33) (.tmp 36) 49 (by rfl) W.heap.size 3 i1 (.int .i64 0) 1 8 Try.underlying49 hi1 hy0 hy1 hy2 (by rfl) (by decide) _ (by simp [Act.eval]; rfl) _ _ 0 [] (by rfl) (by first | exact made_intsN W.drew W.heap.size (Nat.le_refl _) | exact (made_intsN W.drew W.heap.size (Nat.le_refl _)).alloc (.cells #[.int .i64 n] 3) | exact madeLaterN W (.cells #[.int .i64 n] 3)) _ (by simp [Act.eval]; rfl) _ k _ (intCells (zs.take k)) (by rfl) (by first | exact srcInts_takeN (S.out.below (belDAN BW.out _)) hj' | exact srcInts_takeN (S.out.below (belDAAN BW.out _ _)) hj') (one_intsN _) (by unfold maxLen; omega) (by omega) (by first | exact (belDAN (Below.refl W.heap.size W) _).size | exact (belDAAN (Below.refl W.heap.size W) _ _).size) ?_; intro g5 c5 w5 hown5 hgrow5 hn5 hc5 hg5 hl5; rw [Nat.zero_add, List.nil_append] at hown5; have O5 := Lib.hid hown5; have hs5 : W.heap.size ≤ w5.heap.size := by omega
               have B5 := Lib.hid (show Below w.heap.size w w5 from by first | exact (belDAN BW.out _).grown hgrow5 (belDAN BW.out _).size (fun j e => by cases e; omega) | exact (belDAAN BW.out _ _).grown hgrow5 (belDAAN BW.out _ _).size (fun j e => by cases e; omega))
               try have N5 := Lib.hid (lit_LN hgrow5)
               try have N5 := Lib.hid (lit_MN hgrow5)
               clear hown5 hgrow5)
            | (refine step_append_some (by rfl) (.tmp 37) (.tmp 39) 49 (by rfl) W.heap.size 3 i1 (.int .i64 0) 1 8 Try.underlying49 hi1 hy0 hy1 hy2 (by rfl) (by decide) _ (by simp [Act.eval]; rfl) g5 c5 k (intCells (zs.take k)) (by rfl) (by first | exact O5.out | exact O5.out.alloc _) _ (by simp [Act.eval]; rfl) _ 1 1 [.int .i64 n] (by rfl) (by first | exact src_oneN N5.out | exact src_oneN (cell_box w5 (.int .i64 n) 3 _ rfl)) (one_intN n) (by unfold maxLen; omega) (by omega) (by first | exact hs5 | exact Nat.le_trans hs5 (bel_al1 w5 _).size) ?_; intro g6 c6 w6 hown6 hgrow6 hn6 hc6 hg6 hl6; have O6 := Lib.hid hown6; have hs6 : W.heap.size ≤ w6.heap.size := by omega
               have B6 := Lib.hid (show Below w.heap.size w w6 from by first | exact B5.out.grown hgrow6 B5.out.size (fun j e => by cases e; omega) | exact (Below.then' B5.out (bel_al1 _ _)).grown hgrow6 (Below.then' B5.out (bel_al1 _ _)).size (fun j e => by cases e; omega))
               clear hown6 hgrow6)
            | (refine step_append_some (by rfl) (.tmp 40) (.tmp 43) 49 (by rfl) W.heap.size 3 i1 (.int .i64 0) 1 8 Try.underlying49 hi1 hy0 hy1 hy2 (by rfl) (by decide) _ (by simp [Act.eval]; rfl) g6 c6 (k + 1) (intCells (zs.take k) ++ [.int .i64 n]) (by rfl) O6.out _ (by simp [Act.eval]; rfl) _ (len - k) _ (intCells (zs.drop k)) (by rfl) (srcInts_dropN (S.out.below B6.out) hj') (one_intsN _) (by unfold maxLen; omega) (by omega) hs6 ?_; intro g7 c7 w7 hown7 hgrow7 hn7 hc7 hg7 hl7
               have O7 := Lib.hid hown7
               have B7 := Lib.hid (show Below w.heap.size w w7 from B6.out.grown hgrow7 B6.out.size (fun j e => by cases e; omega))
               clear hown7 hgrow7))
          all_goals go_wp2
          all_goals go_ret
          all_goals
            have h := O7.out
            have hln : k + 1 + (len - k) = (zs.take k ++ n :: zs.drop k).length := by have := L.out; rw [List.length_append, List.length_take, List.length_cons, List.length_drop]; omega
            rw [show intCells (zs.take k) ++ [Value.int .i64 n] ++ intCells (zs.drop k) = intCells (zs.take k ++ n :: zs.drop k) from by simp [intCells]] at h
            refine ⟨⟨_, _, _⟩, rfl, by rw [E.out]; exact ints_putN h hln, B7.out, .inr ?_⟩
            rw [E.out]
            exact hln ▸ ownsRow_base h hW0
    · obtain rfl : k = len := by omega
      have E := Lib.hid (show putN n zs = zs ++ [n] from by
        have hz : zs.length ≤ k := by have := L.out; omega
        have h := putN_at (zs := zs) (k := k) A.out (fun y hy => by rw [List.getElem?_eq_none hz] at hy; cases hy) (by have := L.out; omega)
        rw [h, if_neg (by rw [List.getElem?_eq_none hz]; simp), List.take_of_length_le hz, List.drop_of_length_le hz])
      have TK := Lib.hid (show zs.take k = zs from List.take_of_length_le (by have := L.out; omega))
      have hj' : k ≤ k := Nat.le_refl _
      go_wp2_with fail
      refine wp_world (fun W => Below w.heap.size w W) (by first | exact Below.refl _ _ | exact bel_drawn _ _) ?_
      intro W hbw
      have BW := Lib.hid hbw
      have hW0 := hbw.size
      clear hbw
      by_cases hcj : cap = k
      all_goals rcases a with _ | p
      all_goals
          go_region_law (first
            | (refine step_append_optN (by rfl) (.tmp 33) (.tmp 36) 49 (by rfl) W.heap.size 3 i1 (.int .i64 0) 1 8 Try.underlying49 hi1 hy0 hy1 hy2 (by rfl) (by decide) _ (by simp [Act.eval] <;> rfl) 0 [] (by first | exact made_intsN W.drew W.heap.size (Nat.le_refl _) | exact (made_intsN W.drew W.heap.size (Nat.le_refl _)).alloc (.cells #[.int .i64 n] 3) | exact madeLaterN W (.cells #[.int .i64 n] 3)) _ (by simp [Act.eval] <;> rfl) _ k _ (intCells (zs.take k)) (by rfl) (by first | exact srcInts_takeN (S.out.below (belDAN BW.out _)) hj' | exact srcInts_takeN (S.out.below (belDAAN BW.out _ _)) hj') (one_intsN _) (by unfold maxLen; omega) (by omega) (by first | exact (belDAN (Below.refl W.heap.size W) _).size | exact (belDAAN (Below.refl W.heap.size W) _ _).size) ?_; intro v5 w5 hown5 hgrow5; rw [Nat.zero_add, List.nil_append] at hown5; have O5 := Lib.hid hown5
               have B5W := Lib.hid (show Below W.heap.size W w5 from by first | exact (belDAN (Below.refl _ W) _).grown hgrow5 (belDAN (Below.refl _ W) _).size (fun j e => by have := own_is e; omega) | exact (belDAAN (Below.refl _ W) _ _).grown hgrow5 (belDAAN (Below.refl _ W) _ _).size (fun j e => by have := own_is e; omega))
               have hs5 : W.heap.size ≤ w5.heap.size := B5W.out.size
               have B5 := Lib.hid (Below.then' BW.out B5W.out)
               try have N5 := Lib.hid (lit_LN hgrow5)
               try have N5 := Lib.hid (lit_MN hgrow5)
               clear hown5 hgrow5)
            | (refine step_append_optN (by rfl) (.tmp 37) (.tmp 39) 49 (by rfl) W.heap.size 3 i1 (.int .i64 0) 1 8 Try.underlying49 hi1 hy0 hy1 hy2 (by rfl) (by decide) _ (by simp [Act.eval] <;> rfl) k (intCells (zs.take k)) (by first | exact O5.out | exact O5.out.alloc _) _ (by simp [Act.eval] <;> rfl) _ 1 1 [.int .i64 n] (by rfl) (by first | exact src_oneN N5.out | exact src_oneN (cell_box w5 (.int .i64 n) 3 _ rfl)) (one_intN n) (by unfold maxLen; omega) (by omega) (by first | exact hs5 | exact Nat.le_trans hs5 (bel_al1 w5 _).size) ?_; intro v6 w6 hown6 hgrow6; have O6 := Lib.hid hown6
               have B6 := Lib.hid (show Below w.heap.size w w6 from by first | exact B5.out.grown hgrow6 B5.out.size (fun j e => Nat.le_trans hW0 (O5.out.lt j e).1) | exact (Below.then' B5.out (bel_al1 _ _)).grown hgrow6 (Below.then' B5.out (bel_al1 _ _)).size (fun j e => Nat.le_trans hW0 (O5.out.lt j e).1))
               have hs6 : W.heap.size ≤ w6.heap.size := by first | exact (B5W.out.grown hgrow6 B5W.out.size (fun j e => (O5.out.lt j e).1)).size | exact ((Below.then' B5W.out (bel_al1 _ _)).grown hgrow6 (Below.then' B5W.out (bel_al1 _ _)).size (fun j e => (O5.out.lt j e).1)).size
               clear hown6 hgrow6)
            | (refine step_append_optN (by rfl) (.tmp 40) (.tmp 43) 49 (by rfl) W.heap.size 3 i1 (.int .i64 0) 1 8 Try.underlying49 hi1 hy0 hy1 hy2 (by rfl) (by decide) _ (by simp [Act.eval] <;> rfl) (k + 1) (intCells (zs.take k) ++ [.int .i64 n]) O6.out _ (by simp [Act.eval] <;> rfl) _ 0 _ [] (by rfl) ⟨rfl, .inl rfl⟩ (by simp) (by unfold maxLen; omega) (by omega) hs6 ?_; intro v7 w7 hown7 hgrow7
               have O7 := Lib.hid hown7
               have B7 := Lib.hid (show Below w.heap.size w w7 from B6.out.grown hgrow7 B6.out.size (fun j e => Nat.le_trans hW0 (O6.out.lt j e).1))
               clear hown7 hgrow7))
          all_goals go_wp2
          all_goals go_ret
          all_goals
            have h := O7.out
            rw [TK.out, show intCells zs ++ [Value.int .i64 n] ++ [] = intCells (zs ++ [n]) from by simp [intCells], show k + 1 + 0 = (zs ++ [n]).length from by have := L.out; rw [List.length_append, List.length_singleton]; omega] at h
            obtain ⟨a', c', e', h', _⟩ := isInts_own h
            rw [e']
            exact ⟨⟨a', (zs ++ [n]).length, c'⟩, rfl, by rw [E.out]; exact h', B7.out, .inr (by rw [E.out]; exact e' ▸ ownsRow_base h hW0)⟩
end Go.Proofs.Ytffbljbgmgifnaa
namespace Go.Proofs.Ytffbljbgmgifnaa
open Go.RowKit

theorem isInts_sameL {w : World} {a : Option Addr} {n c : Nat} {xs ys : List Int} (h : IsInts w a n c xs) (h' : IsInts w a n c ys) : xs = ys := by
  have e1 := h.1
  have e2 := h'.1
  apply List.ext_getElem?
  intro j
  by_cases hj : j < xs.length
  · obtain ⟨b, o, rfl, _, hat⟩ := h.at (by omega)
    obtain ⟨b', o', e, _, hat'⟩ := h'.at (by omega)
    cases e
    have h1 : xs[j]? = some xs[j] := List.getElem?_eq_getElem hj
    have h2 : ys[j]? = some (ys[j]'(by omega)) := List.getElem?_eq_getElem (by omega)
    have c1 := hat j _ h1
    have c2 := hat' j _ h2
    rw [c1] at c2
    rw [h1, h2]
    injection c2 with c2
    injection c2 with _ c2
    rw [c2]
  · rw [List.getElem?_eq_none (by omega), List.getElem?_eq_none (by omega)]
theorem put_ownL {lo : Nat} {W W' : World} {a : Option Addr} {n c : Nat} {L L' : List Int} {h : Hd} (O : W.ownsRow lo 3 1 (.slice a n c) L.length (intCells L)) (hlo : lo ≤ W.heap.size) (hb : Below W.heap.size W W') (hi : IsInts W' h.a h.n h.c L') (hd : (h.a = a ∧ h.n = n ∧ h.c = c) ∨ W'.ownsRow W.heap.size 3 1 (.slice h.a h.n h.c) L'.length (intCells L')) : W'.ownsRow lo 3 1 (.slice h.a h.n h.c) L'.length (intCells L') := by
  rcases hd with ⟨h1, h2, h3⟩ | hd
  · obtain ⟨a', c', e, hi', _⟩ := isInts_own O
    injection e with e1 e2 e3
    subst e1 e2 e3
    rw [h1, h2, h3] at hi ⊢
    have := isInts_sameL hi (hi'.below hb)
    subst this
    exact ownsRow_below O hb
  · exact ownsRow_base hd hlo

theorem open_spec {s : VLoan} (hs : s.ok = true) (d : Int) : openOn d s = (decide (s.Out ≤ d) && (decide (s.Back < 0) || decide (d < s.Back))) := by
  have k := loOk_iff.1 hs
  unfold openOn
  have e : (s.Back == -1) = decide (s.Back < 0) := by rw [Bool.eq_iff_iff]; simp; omega
  rw [e]
set_option maxHeartbeats 1600000 in
theorem l11IsOpen_any (s : VLoan) (d : Int) (w : World) (hs : s.ok = true) :
    Calls Try.prog 107 #[.agg #[.int .i64 s.Sheet, .int .i64 s.Reader, .int .i64 s.Out, .int .i64 s.Due, .int .i64 s.Back], .int .i64 d] w fun e w' => e = .returned (.bool (openOn d s)) ∧ Below w.heap.size w w' := by
  have E := Lib.hid (open_spec hs d)
  clear hs
  by_cases h1 : s.Out ≤ d
  · have D1 := Lib.hid (decide_eq_true h1)
    by_cases h2 : s.Back < 0
    · have D2 := Lib.hid (decide_eq_true h2)
      go_enter Try.func107, Try.ntmps107
      go_wp2
      go_ret
      exact ⟨ret_bool (by rw [E.out, D1.out, D2.out]; rfl), bel_al1 _ _⟩
    · have D2 := Lib.hid (decide_eq_false h2)
      go_enter Try.func107, Try.ntmps107
      go_wp2
      go_ret
      exact ⟨ret_bool (by rw [E.out, D1.out, D2.out]; rfl), bel_al1 _ _⟩
  · have D1 := Lib.hid (decide_eq_false h1)
    go_enter Try.func107, Try.ntmps107
    go_wp2
    go_ret
    exact ⟨ret_bool (by rw [E.out, D1.out]; rfl), bel_al1 _ _⟩
theorem sheets_more {f : VLoan → Bool} {xs : List VLoan} {k : Nat} {s : VLoan} (hs : xs[k]? = some s) : sheetsOf f (xs.take (k + 1)) = if f s = true then putN s.Sheet (sheetsOf f (xs.take k)) else sheetsOf f (xs.take k) := by
  unfold sheetsOf
  rw [where_more f VLoan.Sheet hs, List.foldl_append]
  by_cases h : f s = true
  · rw [if_pos h, if_pos h]; rfl
  · rw [if_neg h, if_neg h]; rfl
set_option maxHeartbeats 12800000 in
set_option maxRecDepth 100000 in
theorem specOpenLoans_any (a : Option Addr) (len cap : Nat) (xs : List VLoan) (r d : Int) (w : World) (h : IsLoanS w a len cap xs) (_ : xs.length ≤ 1048576) :
    Calls Try.prog 54 #[.slice a len cap, .int .i64 r, .int .i64 d] w (OpenLoans_Post xs r d w) := by
  have hm := h.2.2.1
  have hcl := h.2.1
  unfold maxLen at hm
  obtain rfl := h.1
  have S := Lib.hid h
  clear h
  obtain ⟨q1, h1⟩ : ∃ q, areLo xs = q := ⟨_, rfl⟩
  have H1 := Lib.hid h1
  obtain ⟨q2, h2⟩ : ∃ q, idB r = q := ⟨_, rfl⟩
  have H2 := Lib.hid h2
  obtain ⟨q3, h3⟩ : ∃ q, dayB d = q := ⟨_, rfl⟩
  have H3 := Lib.hid h3
  have E1 := Lib.hid (show OpenLoans_1 xs r d = (q1 && (q2 && q3)) from by unfold OpenLoans_1; rw [h1, h2, h3])
  have E0 := Lib.hid (show OpenLoans_0 xs r d = if (q1 && (q2 && q3)) = true then sheetsOf (fun l => l.Reader == r && openOn d l) xs else [] from by unfold OpenLoans_0; rw [E1.out])
  clear h1 h2 h3
  have O0 := Lib.hid (made_ids w)
  have B0 := Lib.hid (wh_al1 w (.cells #[] 3))
  have S0 := Lib.hid (S.out.below B0.out)
  go_enter Try.func54, Try.ntmps54
  go_wp2_with fail
  refine (l11Good_any _ _ _ xs _ S0.out).mono ?_
  rintro e w1 ⟨rfl, hb⟩
  rw [H1.out]
  have B1 := Lib.hid (Below.then' B0.out hb)
  have S1 := Lib.hid (S0.out.below hb)
  have O1 := Lib.hid (ownsRow_below O0.out hb)
  clear hb
  cases q1
  · go_wp2
    go_ret2
    exact ⟨_, by rw [E1.out]; rfl, by rw [E0.out]; exact O1.out, B1.out⟩
  go_wp2_with fail
  refine (l11Id_any _ _).mono ?_
  rintro e w' ⟨rfl, rfl⟩
  rw [H2.out]
  cases q2
  · go_wp2
    go_ret2
    exact ⟨_, by rw [E1.out]; rfl, by rw [E0.out]; exact O1.out, B1.out⟩
  go_wp2_with fail
  refine (l2Day_any _ _).mono ?_
  rintro e w' ⟨rfl, rfl⟩
  rw [H3.out]
  cases q3
  · go_wp2
    go_ret2
    exact ⟨_, by rw [E1.out]; rfl, by rw [E0.out]; exact O1.out, B1.out⟩
  have L15 := areLo_len H1.out
  obtain ⟨f, hf⟩ : ∃ f : VLoan → Bool, (fun l => l.Reader == r && openOn d l) = f := ⟨_, rfl⟩
  have FF := Lib.hid (show ∀ s : VLoan, f s = (s.Reader == r && openOn d s) from fun s => by subst hf; rfl)
  rw [hf] at E0
  clear hf
  go_wp2
  go_loopw [9, 8] (fun i o wr => ∃ k : Nat, k ≤ xs.length ∧ i = .int .i64 k ∧ wr.ownsRow w.heap.size 3 1 o (sheetsOf f (xs.take k)).length (intCells (sheetsOf f (xs.take k))) ∧ Below w.heap.size w wr) (fun i _ _ => xs.length - (intOf i).toNat)
  case atStart => exact ⟨0, Nat.zero_le _, rfl, O1.out, B1.out⟩
  case round =>
    obtain ⟨k, hk, rfl, hown, hbel⟩ := hrel
    have B := Lib.hid hbel
    by_cases hlt : k < xs.length
    · obtain ⟨s, hs⟩ : ∃ s, xs[k]? = some s := ⟨xs[k]'hlt, List.getElem?_eq_getElem _⟩
      obtain ⟨b, o, rfl, hbw, hat⟩ := (S.out.below hbel).at (by omega)
      obtain ⟨c0, c1, c2, c3, c4⟩ := hat k s hs
      have OK := Lib.hid (areLo_ok H1.out (List.mem_of_getElem? hs))
      have hi0 : (0 : Int) ≤ (k : Int) := by omega
      have hi1 : (k : Int) < (xs.length : Int) := by omega
      have NX := Lib.hid (sheets_more (f := f) hs)
      have LL := sheetsOf_len f (xs.take k)
      have LT : (xs.take k).length ≤ 15 := by rw [List.length_take]; omega
      have hsz := hbel.size
      obtain ⟨L, hL⟩ : ∃ L, sheetsOf f (xs.take k) = L := ⟨_, rfl⟩
      rw [hL] at hown NX LL
      have O := Lib.hid hown
      obtain ⟨q, hq⟩ : ∃ q, openOn d s = q := ⟨_, rfl⟩
      have Q := Lib.hid hq
      have FS := Lib.hid (FF.out s)
      have KS := Lib.hid hs
      clear hs hat hbel hown hL hq

      by_cases hr : s.Reader = r
      · have r1 : (s.Reader == r) = true := by simp [hr]
        have R1 := Lib.hid r1
        clear hr
        go_wp2_with fail
        refine (l11IsOpen_any s d _ OK.out).mono ?_
        rintro e w2 ⟨rfl, hb⟩
        rw [Q.out]
        have B2 := Lib.hid (Below.then' B.out hb)
        have O2 := Lib.hid (ownsRow_below O.out hb)
        have s2 := hb.size
        clear c0 c1 c2 c3 c4
        obtain ⟨_, _, eb, _, hat⟩ := (S.out.below B2.out).at (by omega)
        cases eb
        obtain ⟨c0, c1, c2, c3, c4⟩ := hat k s KS.out
        clear hb hat
        cases q
        · have := trivial
          go_wp2
          go_roundw
          case rel => exact ⟨k + 1, by omega, by go_num, by rw [NX.out, if_neg (by rw [FS.out, Q.out, Bool.and_false]; simp)]; exact O2.out, B2.out⟩
          case measure => simp [intOf]; omega
        · have := trivial
          obtain ⟨va, vc, ev, isI, _⟩ := isInts_own O2.out
          subst ev
          have II := Lib.hid isI
          have LL2 : L.length ≤ 1000 := by omega
          clear isI
          go_wp2_with fail
          refine (l1PutO_any va L.length vc L s.Sheet _ II.out LL2).mono ?_
          rintro e w3 ⟨h3, rfl, hi3, hb3, hd3⟩
          have O3 := Lib.hid (put_ownL O2.out (by omega) hb3 hi3 hd3)
          have B3 := Lib.hid (Below.then' B2.out hb3)
          clear hi3 hb3 hd3 c0 c1 c2 c3 c4
          go_wp2
          go_roundw
          case rel => exact ⟨k + 1, by omega, by go_num, by rw [NX.out, if_pos (by rw [FS.out, R1.out, Q.out]; rfl)]; exact O3.out, B3.out⟩
          case measure => simp [intOf]; omega
      · have r1 : (s.Reader == r) = false := by simp [hr]
        have R1 := Lib.hid r1
        clear hr
        go_wp2
        go_roundw
        case rel => exact ⟨k + 1, by omega, by go_num, by rw [NX.out, if_neg (by rw [FS.out, R1.out]; simp)]; exact O.out, B.out⟩
        case measure => simp [intOf]; omega
    · obtain rfl : k = xs.length := by omega
      have HO := Lib.hid (show (wr.ownsRow w.heap.size 3 1 _ (sheetsOf f xs).length (intCells (sheetsOf f xs))) from by have := hown; rw [List.take_of_length_le (Nat.le_refl _)] at this; exact this)
      clear hbel hown
      go_wp2
      go_ret2
      exact ⟨_, by rw [E1.out]; rfl, by rw [E0.out]; exact HO.out, B.out⟩
set_option maxHeartbeats 12800000 in
set_option maxRecDepth 100000 in
theorem specLateOn_any (a : Option Addr) (len cap : Nat) (xs : List VLoan) (d : Int) (w : World) (h : IsLoanS w a len cap xs) (_ : xs.length ≤ 1048576) :
    Calls Try.prog 58 #[.slice a len cap, .int .i64 d] w (LateOn_Post xs d w) := by
  have hm := h.2.2.1
  have hcl := h.2.1
  unfold maxLen at hm
  obtain rfl := h.1
  have S := Lib.hid h
  clear h
  obtain ⟨q1, h1⟩ : ∃ q, areLo xs = q := ⟨_, rfl⟩
  have H1 := Lib.hid h1
  obtain ⟨q2, h2⟩ : ∃ q, dayB d = q := ⟨_, rfl⟩
  have H2 := Lib.hid h2
  have E1 := Lib.hid (show LateOn_1 xs d = (q1 && q2) from by unfold LateOn_1; rw [h1, h2])
  have E0 := Lib.hid (show LateOn_0 xs d = if (q1 && q2) = true then sheetsOf (lateOn d) xs else [] from by unfold LateOn_0; rw [E1.out])
  clear h1 h2
  have O0 := Lib.hid (made_ids w)
  have B0 := Lib.hid (wh_al1 w (.cells #[] 3))
  have S0 := Lib.hid (S.out.below B0.out)
  go_enter Try.func58, Try.ntmps58
  go_wp2_with fail
  refine (l11Good_any _ _ _ xs _ S0.out).mono ?_
  rintro e w1 ⟨rfl, hb⟩
  rw [H1.out]
  have B1 := Lib.hid (Below.then' B0.out hb)
  have S1 := Lib.hid (S0.out.below hb)
  have O1 := Lib.hid (ownsRow_below O0.out hb)
  clear hb
  cases q1
  · go_wp2
    go_ret2
    exact ⟨_, by rw [E1.out]; rfl, by rw [E0.out]; exact O1.out, B1.out⟩
  go_wp2_with fail
  refine (l2Day_any _ _).mono ?_
  rintro e w' ⟨rfl, rfl⟩
  rw [H2.out]
  cases q2
  · go_wp2
    go_ret2
    exact ⟨_, by rw [E1.out]; rfl, by rw [E0.out]; exact O1.out, B1.out⟩
  have L15 := areLo_len H1.out
  obtain ⟨f, hf⟩ : ∃ f : VLoan → Bool, (lateOn d) = f := ⟨_, rfl⟩
  have FF := Lib.hid (show ∀ s : VLoan, f s = (openOn d s && decide (s.Due < d)) from fun s => by subst hf; rfl)
  rw [hf] at E0
  clear hf
  go_wp2
  go_loopw [7, 6] (fun i o wr => ∃ k : Nat, k ≤ xs.length ∧ i = .int .i64 k ∧ wr.ownsRow w.heap.size 3 1 o (sheetsOf f (xs.take k)).length (intCells (sheetsOf f (xs.take k))) ∧ Below w.heap.size w wr) (fun i _ _ => xs.length - (intOf i).toNat)
  case atStart => exact ⟨0, Nat.zero_le _, rfl, O1.out, B1.out⟩
  case round =>
    obtain ⟨k, hk, rfl, hown, hbel⟩ := hrel
    have B := Lib.hid hbel
    by_cases hlt : k < xs.length
    · obtain ⟨s, hs⟩ : ∃ s, xs[k]? = some s := ⟨xs[k]'hlt, List.getElem?_eq_getElem _⟩
      obtain ⟨b, o, rfl, hbw, hat⟩ := (S.out.below hbel).at (by omega)
      obtain ⟨c0, c1, c2, c3, c4⟩ := hat k s hs
      have OK := Lib.hid (areLo_ok H1.out (List.mem_of_getElem? hs))
      have hi0 : (0 : Int) ≤ (k : Int) := by omega
      have hi1 : (k : Int) < (xs.length : Int) := by omega
      have NX := Lib.hid (sheets_more (f := f) hs)
      have LL := sheetsOf_len f (xs.take k)
      have LT : (xs.take k).length ≤ 15 := by rw [List.length_take]; omega
      have hsz := hbel.size
      obtain ⟨L, hL⟩ : ∃ L, sheetsOf f (xs.take k) = L := ⟨_, rfl⟩
      rw [hL] at hown NX LL
      have O := Lib.hid hown
      obtain ⟨q, hq⟩ : ∃ q, openOn d s = q := ⟨_, rfl⟩
      have Q := Lib.hid hq
      have FS := Lib.hid (FF.out s)
      have KS := Lib.hid hs
      clear hs hat hbel hown hL hq

      go_wp2_with fail
      refine (l11IsOpen_any s d _ OK.out).mono ?_
      rintro e w2 ⟨rfl, hb⟩
      rw [Q.out]
      have B2 := Lib.hid (Below.then' B.out hb)
      have O2 := Lib.hid (ownsRow_below O.out hb)
      have s2 := hb.size
      clear c0 c1 c2 c3 c4
      obtain ⟨_, _, eb, _, hat⟩ := (S.out.below B2.out).at (by omega)
      cases eb
      obtain ⟨c0, c1, c2, c3, c4⟩ := hat k s KS.out
      clear hb hat
      cases q
      · have := trivial
        go_wp2
        go_roundw
        case rel => exact ⟨k + 1, by omega, by go_num, by rw [NX.out, if_neg (by rw [FS.out, Q.out]; simp)]; exact O2.out, B2.out⟩
        case measure => simp [intOf]; omega
      by_cases hd : s.Due < d
      · have D1 := Lib.hid (decide_eq_true hd)
        obtain ⟨va, vc, ev, isI, _⟩ := isInts_own O2.out
        subst ev
        have II := Lib.hid isI
        have LL2 : L.length ≤ 1000 := by omega
        clear isI
        go_wp2_with fail
        refine (l1PutO_any va L.length vc L s.Sheet _ II.out LL2).mono ?_
        rintro e w3 ⟨h3, rfl, hi3, hb3, hd3⟩
        have O3 := Lib.hid (put_ownL O2.out (by omega) hb3 hi3 hd3)
        have B3 := Lib.hid (Below.then' B2.out hb3)
        clear hi3 hb3 hd3 c0 c1 c2 c3 c4
        go_wp2
        go_roundw
        case rel => exact ⟨k + 1, by omega, by go_num, by rw [NX.out, if_pos (by rw [FS.out, Q.out, D1.out]; rfl)]; exact O3.out, B3.out⟩
        case measure => simp [intOf]; omega
      · have D1 := Lib.hid (decide_eq_false hd)
        have d1 := D1.out
        go_wp2
        go_roundw
        case rel => exact ⟨k + 1, by omega, by go_num, by rw [NX.out, if_neg (by rw [FS.out, Q.out, D1.out]; simp)]; exact O2.out, B2.out⟩
        case measure => simp [intOf]; omega
    · obtain rfl : k = xs.length := by omega
      have HO := Lib.hid (show (wr.ownsRow w.heap.size 3 1 _ (sheetsOf f xs).length (intCells (sheetsOf f xs))) from by have := hown; rw [List.take_of_length_le (Nat.le_refl _)] at this; exact this)
      clear hbel hown
      go_wp2
      go_ret2
      exact ⟨_, by rw [E1.out]; rfl, by rw [E0.out]; exact HO.out, B.out⟩
end Go.Proofs.Ytffbljbgmgifnaa
namespace Go.Proofs.Ytffbljbgmgifnaa
open Go.RowKit

theorem last_more {xs : List VLoan} {sh : Int} {k : Nat} {s : VLoan} (hs : xs[k]? = some s) : lastL sh (xs.take (k + 1)) = if s.Sheet = sh then (k : Int) else lastL sh (xs.take k) := by
  rw [take_one hs, lastL_snoc, List.length_take, Nat.min_eq_left (by have := (List.getElem?_eq_some_iff.1 hs).1; omega)]
theorem l11Last_any (a : Option Addr) (len cap : Nat) (xs : List VLoan) (sh : Int) (w : World) (h : IsLoanS w a len cap xs) :
    Calls Try.prog 108 #[.slice a len cap, .int .i64 sh] w fun e w' => e = .returned (.int .i64 (lastL sh xs)) ∧ Below w.heap.size w w' := by
  have hm := h.2.2.1
  have hcl := h.2.1
  unfold maxLen at hm
  obtain rfl := h.1
  have S := Lib.hid h
  clear h
  go_enter Try.func108, Try.ntmps108
  go_wp2
  go_loopw [6, 5] (fun i v wr => ∃ k : Nat, k ≤ xs.length ∧ i = .int .i64 k ∧ v = .int .i64 (lastL sh (xs.take k)) ∧ Below w.heap.size w wr) (fun i _ _ => xs.length - (intOf i).toNat)
  case atStart => exact ⟨0, Nat.zero_le _, rfl, rfl, Below.refl _ _⟩
  case round =>
    obtain ⟨k, hk, rfl, rfl, hbel⟩ := hrel
    have B := Lib.hid hbel
    by_cases hlt : k < xs.length
    · obtain ⟨s, hs⟩ : ∃ s, xs[k]? = some s := ⟨xs[k]'hlt, List.getElem?_eq_getElem _⟩
      obtain ⟨b, o, rfl, hb, hat⟩ := (S.out.below hbel).at (by omega)
      obtain ⟨c0, c1, c2, c3, c4⟩ := hat k s hs
      have NX := Lib.hid (last_more (sh := sh) hs)
      have hi0 : (0 : Int) ≤ (k : Int) := by omega
      have hi1 : (k : Int) < (xs.length : Int) := by omega
      obtain ⟨z, hz⟩ : ∃ z, lastL sh (xs.take k) = z := ⟨_, rfl⟩
      rw [hz] at NX ⊢
      clear hs hat hbel hz
      by_cases hsh : s.Sheet = sh
      · have s1 : (s.Sheet == sh) = true := by simp [hsh]
        have S1 := Lib.hid hsh
        clear hsh
        go_wp2
        go_roundw
        case rel => exact ⟨k + 1, by omega, by go_num, by rw [NX.out, if_pos S1.out], B.out⟩
        case measure => simp [intOf]; omega
      · have s1 : (s.Sheet == sh) = false := by simp [hsh]
        have S1 := Lib.hid hsh
        clear hsh
        go_wp2
        go_roundw
        case rel => exact ⟨k + 1, by omega, by go_num, by rw [NX.out, if_neg S1.out], B.out⟩
        case measure => simp [intOf]; omega
    · obtain rfl : k = xs.length := by omega
      have T := Lib.hid (show xs.take xs.length = xs from List.take_of_length_le (Nat.le_refl _))
      rw [T.out]
      clear hbel
      go_wp2
      go_ret
      exact ⟨rfl, B.out⟩
set_option maxHeartbeats 12800000 in
set_option maxRecDepth 100000 in
theorem specFineOn_any (a : Option Addr) (len cap : Nat) (xs : List VLoan) (sh d : Int) (w : World) (h : IsLoanS w a len cap xs) (_ : xs.length ≤ 1048576) :
    Calls Try.prog 44 #[.slice a len cap, .int .i64 sh, .int .i64 d] w (FineOn_Post xs sh d w) := by
  have hm := h.2.2.1
  have hcl := h.2.1
  unfold maxLen at hm
  obtain rfl := h.1
  have S := Lib.hid h
  clear h
  obtain ⟨q1, h1⟩ : ∃ q, areLo xs = q := ⟨_, rfl⟩
  obtain ⟨q2, h2⟩ : ∃ q, dayB d = q := ⟨_, rfl⟩
  obtain ⟨z, hz⟩ : ∃ z, lastL sh xs = z := ⟨_, rfl⟩
  have bd := lastL_bd sh xs
  rw [hz] at bd
  have E1 := Lib.hid (show FineOn_1 xs sh d = (q1 && (q2 && decide (0 ≤ z))) from by unfold FineOn_1; rw [h1, h2, hz])
  have E0 := Lib.hid (show FineOn_0 xs sh d = if (q1 && (q2 && decide (0 ≤ z))) = true then fineL (loAt xs z.toNat) d else 0 from by unfold FineOn_0; rw [E1.out, hz])
  have H1 := Lib.hid h1
  have H2 := Lib.hid h2
  have Z := Lib.hid hz
  clear h1 h2 hz
  by_cases hz0 : z < 0
  · have DN := Lib.hid (show decide (0 ≤ z) = false from decide_eq_false (by omega))
    go_enter Try.func44, Try.ntmps44
    go_wp2_with fail
    refine (l11Last_any _ _ _ xs sh _ S.out).mono ?_
    rintro e w1 ⟨rfl, hb⟩
    rw [Z.out]
    have B1 := Lib.hid hb
    have S1 := Lib.hid (S.out.below hb)
    clear hb
    go_wp2_with fail
    refine (l11Good_any _ _ _ xs _ S1.out).mono ?_
    rintro e w2 ⟨rfl, hb⟩
    rw [H1.out]
    have B2 := Lib.hid (Below.then' B1.out hb)
    clear hb
    cases q1
    · go_wp2
      go_ret2
      exact ⟨by rw [E0.out, E1.out]; rfl, B2.out⟩
    · go_wp2
      go_ret2
      exact ⟨by rw [E0.out, E1.out, DN.out]; simp, B2.out⟩
  obtain ⟨i, rfl⟩ : ∃ i : Nat, z = (i : Int) := ⟨z.toNat, by omega⟩
  have DY := Lib.hid (show decide (0 ≤ (i : Int)) = true from decide_eq_true (by omega))
  have hil : i < xs.length := by omega
  obtain ⟨s, hs⟩ : ∃ s, xs[i]? = some s := ⟨xs[i]'hil, List.getElem?_eq_getElem _⟩
  have LA := Lib.hid (show loAt xs (i : Int).toNat = s from by rw [Int.toNat_natCast]; exact loAt_some hs)
  have HS := Lib.hid hs
  have hi0 : (0 : Int) ≤ (i : Int) := by omega
  have hi1 : (i : Int) < (xs.length : Int) := by omega
  have hd0 : decide ((i : Int) < 0) = false := decide_eq_false hz0
  clear hs bd
  go_enter Try.func44, Try.ntmps44
  go_wp2_with fail
  refine (l11Last_any _ _ _ xs sh _ S.out).mono ?_
  rintro e w1 ⟨rfl, hb⟩
  rw [Z.out]
  have B1 := Lib.hid hb
  have S1 := Lib.hid (S.out.below hb)
  clear hb
  go_wp2_with fail
  refine (l11Good_any _ _ _ xs _ S1.out).mono ?_
  rintro e w2 ⟨rfl, hb⟩
  rw [H1.out]
  have B2 := Lib.hid (Below.then' B1.out hb)
  have S2 := Lib.hid (S1.out.below hb)
  clear hb
  cases q1
  · go_wp2
    go_ret2
    exact ⟨by rw [E0.out, E1.out]; rfl, B2.out⟩
  go_wp2_with fail
  refine (l2Day_any _ _).mono ?_
  rintro e w' ⟨rfl, rfl⟩
  rw [H2.out]
  cases q2
  · go_wp2
    go_ret2
    exact ⟨by rw [E0.out, E1.out]; rfl, B2.out⟩
  obtain ⟨b9, o9, rfl, _, hat⟩ := S2.out.at (by omega)
  obtain ⟨c0, c1, c2, c3, c4⟩ := hat i s HS.out
  have OK := Lib.hid (areLo_ok H1.out (List.mem_of_getElem? HS.out))
  clear hat
  go_wp2_with fail
  refine (l11Fine_any s d _ OK.out H2.out).mono ?_
  rintro e w3 ⟨rfl, hb⟩
  have B3 := Lib.hid (Below.then' B2.out hb)
  clear hb
  go_wp2
  go_ret2
  exact ⟨by rw [E0.out, E1.out, DY.out, LA.out]; rfl, B3.out⟩
theorem who_more {xs : List VLoan} {sh d : Int} {k : Nat} {s : VLoan} (hs : xs[k]? = some s) : whoL sh d (xs.take (k + 1)) = if s.Sheet = sh ∧ openOn d s = true then s.Reader else whoL sh d (xs.take k) := by
  unfold whoL; rw [take_one hs, List.foldl_append]; rfl
theorem days_more {xs : List VLoan} {sh d : Int} {k : Nat} {s : VLoan} (hs : xs[k]? = some s) : daysL sh d (xs.take (k + 1)) = daysL sh d (xs.take k) + lentD sh d s := by
  unfold daysL; rw [take_one hs, List.foldl_append]; rfl
theorem lentD_bd {l : VLoan} (h : l.ok = true) {sh d : Int} (h0 : 0 ≤ d) (h1 : d ≤ 4000) : 0 ≤ lentD sh d l ∧ lentD sh d l ≤ 4000 := by
  have k := loOk_iff.1 h
  unfold lentD endL
  split
  · split <;> omega
  · omega
theorem days_bd {xs : List VLoan} {sh d : Int} (h : areLo xs = true) (h0 : 0 ≤ d) (h1 : d ≤ 4000) : ∀ k, 0 ≤ daysL sh d (xs.take k) ∧ daysL sh d (xs.take k) ≤ 60000 := by
  have key : ∀ k, k ≤ xs.length → 0 ≤ daysL sh d (xs.take k) ∧ daysL sh d (xs.take k) ≤ 4000 * (k : Int) := by
    intro k
    induction k with
    | zero => intro _; simp [daysL]
    | succ k ih =>
      intro hk
      have hs : xs[k]? = some (xs[k]'(by omega)) := List.getElem?_eq_getElem _
      have b := lentD_bd (areLo_ok h (List.mem_of_getElem? hs)) (sh := sh) h0 h1
      have c := ih (by omega)
      rw [days_more hs]
      omega
  intro k
  have hl := areLo_len h
  by_cases hk : k ≤ xs.length
  · have := key k hk; omega
  · have := key xs.length (Nat.le_refl _)
    rw [List.take_of_length_le (Nat.le_refl _)] at this
    rw [List.take_of_length_le (by omega)]
    omega
theorem open_iff {l : VLoan} {d : Int} : openOn d l = true ↔ l.Out ≤ d ∧ (l.Back = -1 ∨ d < l.Back) := by simp [openOn]
theorem open_no_back {l : VLoan} (h : l.ok = true) {d : Int} (ho : l.Out ≤ d) (hn : openOn d l = false) : 0 ≤ l.Back ∧ l.Back ≤ 4000 := by
  have k := loOk_iff.1 h
  simp [openOn] at hn
  omega
theorem lentD_shut {l : VLoan} (h : l.ok = true) {sh d : Int} (e : l.Sheet = sh) (ho : l.Out ≤ d) (hn : openOn d l = false) : lentD sh d l = l.Back - l.Out := by
  have k := loOk_iff.1 h
  simp [openOn] at hn
  unfold lentD endL
  rw [if_pos ⟨e, ho⟩, if_neg (by omega)]
  omega
theorem lentD_open {l : VLoan} (h : l.ok = true) {sh d : Int} (e : l.Sheet = sh) (ho : l.Out ≤ d) (hn : openOn d l = true) : lentD sh d l = d - l.Out := by
  have k := loOk_iff.1 h
  simp [openOn] at hn
  unfold lentD endL
  rw [if_pos ⟨e, ho⟩]
  split <;> omega
set_option maxHeartbeats 12800000 in
set_option maxRecDepth 100000 in
theorem specWhoHas_any (a : Option Addr) (len cap : Nat) (xs : List VLoan) (sh d : Int) (w : World) (h : IsLoanS w a len cap xs) (_ : xs.length ≤ 1048576) :
    Calls Try.prog 43 #[.slice a len cap, .int .i64 sh, .int .i64 d] w (WhoHas_Post xs sh d w) := by
  have hm := h.2.2.1
  have hcl := h.2.1
  unfold maxLen at hm
  obtain rfl := h.1
  have S := Lib.hid h
  clear h
  obtain ⟨q1, h1⟩ : ∃ q, areLo xs = q := ⟨_, rfl⟩
  have H1 := Lib.hid h1
  obtain ⟨q2, h2⟩ : ∃ q, idB sh = q := ⟨_, rfl⟩
  have H2 := Lib.hid h2
  obtain ⟨q3, h3⟩ : ∃ q, dayB d = q := ⟨_, rfl⟩
  have H3 := Lib.hid h3
  have E1 := Lib.hid (show WhoHas_1 xs sh d = (q1 && (q2 && q3)) from by unfold WhoHas_1; rw [h1, h2, h3])
  have E0 := Lib.hid (show WhoHas_0 xs sh d = if (q1 && (q2 && q3)) = true then whoL sh d xs else 0 from by unfold WhoHas_0; rw [E1.out])
  clear h1 h2 h3
  go_enter Try.func43, Try.ntmps43
  go_wp2_with fail
  refine (l11Good_any _ _ _ xs _ S.out).mono ?_
  rintro e w1 ⟨rfl, hb⟩
  rw [H1.out]
  have B1 := Lib.hid hb
  clear hb
  cases q1
  · go_wp2
    go_ret2
    exact ⟨by rw [E0.out, E1.out]; rfl, B1.out⟩
  go_wp2_with fail
  refine (l11Id_any _ _).mono ?_
  rintro e w' ⟨rfl, rfl⟩
  rw [H2.out]
  cases q2
  · go_wp2
    go_ret2
    exact ⟨by rw [E0.out, E1.out]; rfl, B1.out⟩
  go_wp2_with fail
  refine (l2Day_any _ _).mono ?_
  rintro e w' ⟨rfl, rfl⟩
  rw [H3.out]
  cases q3
  · go_wp2
    go_ret2
    exact ⟨by rw [E0.out, E1.out]; rfl, B1.out⟩
  have L15 := areLo_len H1.out
  go_wp2
  go_loopw [9, 8] (fun i v wr => ∃ k : Nat, k ≤ xs.length ∧ i = .int .i64 k ∧ v = .int .i64 (whoL sh d (xs.take k)) ∧ Below w.heap.size w wr) (fun i _ _ => xs.length - (intOf i).toNat)
  case atStart => exact ⟨0, Nat.zero_le _, rfl, rfl, B1.out⟩
  case round =>
    obtain ⟨k, hk, rfl, rfl, hbel⟩ := hrel
    have B := Lib.hid hbel
    by_cases hlt : k < xs.length
    · obtain ⟨s, hs⟩ : ∃ s, xs[k]? = some s := ⟨xs[k]'hlt, List.getElem?_eq_getElem _⟩
      obtain ⟨b, o, rfl, hbw, hat⟩ := (S.out.below hbel).at (by omega)
      obtain ⟨c0, c1, c2, c3, c4⟩ := hat k s hs
      have OK := Lib.hid (areLo_ok H1.out (List.mem_of_getElem? hs))
      have hi0 : (0 : Int) ≤ (k : Int) := by omega
      have hi1 : (k : Int) < (xs.length : Int) := by omega
      have NX := Lib.hid (who_more (sh := sh) (d := d) hs)
      have KS := Lib.hid hs
      obtain ⟨z, hz⟩ : ∃ z, whoL sh d (xs.take k) = z := ⟨_, rfl⟩
      rw [hz] at NX ⊢
      obtain ⟨q, hq⟩ : ∃ q, openOn d s = q := ⟨_, rfl⟩
      have Q := Lib.hid hq
      clear hs hat hbel hz hq
      by_cases hr : s.Sheet = sh
      · have r1 : (s.Sheet == sh) = true := by simp [hr]
        have R1 := Lib.hid hr
        clear hr
        go_wp2_with fail
        refine (l11IsOpen_any s d _ OK.out).mono ?_
        rintro e w2 ⟨rfl, hb⟩
        rw [Q.out]
        have B2 := Lib.hid (Below.then' B.out hb)
        clear c0 c1 c2 c3 c4
        obtain ⟨_, _, eb, _, hat⟩ := (S.out.below B2.out).at (by omega)
        cases eb
        obtain ⟨c0, c1, c2, c3, c4⟩ := hat k s KS.out
        clear hb hat
        cases q
        · go_wp2
          go_roundw
          case rel => exact ⟨k + 1, by omega, by go_num, by rw [NX.out, if_neg (by rw [Q.out]; simp)], B2.out⟩
          case measure => simp [intOf]; omega
        · go_wp2
          go_roundw
          case rel => exact ⟨k + 1, by omega, by go_num, by rw [NX.out, if_pos ⟨R1.out, Q.out⟩], B2.out⟩
          case measure => simp [intOf]; omega
      · have r1 : (s.Sheet == sh) = false := by simp [hr]
        have R1 := Lib.hid hr
        clear hr
        go_wp2
        go_roundw
        case rel => exact ⟨k + 1, by omega, by go_num, by rw [NX.out, if_neg (fun h => R1.out h.1)], B.out⟩
        case measure => simp [intOf]; omega
    · obtain rfl : k = xs.length := by omega
      have T := Lib.hid (show xs.take xs.length = xs from List.take_of_length_le (Nat.le_refl _))
      rw [T.out]
      obtain ⟨z, hz⟩ : ∃ z, whoL sh d xs = z := ⟨_, rfl⟩
      rw [hz] at E0 ⊢
      clear hbel hz
      go_wp2
      go_ret2
      exact ⟨by rw [E0.out, E1.out]; rfl, B.out⟩
set_option maxHeartbeats 12800000 in
set_option maxRecDepth 100000 in
theorem specDaysLent_any (a : Option Addr) (len cap : Nat) (xs : List VLoan) (sh d : Int) (w : World) (h : IsLoanS w a len cap xs) (_ : xs.length ≤ 1048576) :
    Calls Try.prog 60 #[.slice a len cap, .int .i64 sh, .int .i64 d] w (DaysLent_Post xs sh d w) := by
  have hm := h.2.2.1
  have hcl := h.2.1
  unfold maxLen at hm
  obtain rfl := h.1
  have S := Lib.hid h
  clear h
  obtain ⟨q1, h1⟩ : ∃ q, areLo xs = q := ⟨_, rfl⟩
  have H1 := Lib.hid h1
  obtain ⟨q2, h2⟩ : ∃ q, idB sh = q := ⟨_, rfl⟩
  have H2 := Lib.hid h2
  obtain ⟨q3, h3⟩ : ∃ q, dayB d = q := ⟨_, rfl⟩
  have H3 := Lib.hid h3
  have E1 := Lib.hid (show DaysLent_1 xs sh d = (q1 && (q2 && q3)) from by unfold DaysLent_1; rw [h1, h2, h3])
  have E0 := Lib.hid (show DaysLent_0 xs sh d = if (q1 && (q2 && q3)) = true then daysL sh d xs else 0 from by unfold DaysLent_0; rw [E1.out])
  clear h1 h2 h3
  go_enter Try.func60, Try.ntmps60
  go_wp2_with fail
  refine (l11Good_any _ _ _ xs _ S.out).mono ?_
  rintro e w1 ⟨rfl, hb⟩
  rw [H1.out]
  have B1 := Lib.hid hb
  clear hb
  cases q1
  · go_wp2
    go_ret2
    exact ⟨by rw [E0.out, E1.out]; rfl, B1.out⟩
  go_wp2_with fail
  refine (l11Id_any _ _).mono ?_
  rintro e w' ⟨rfl, rfl⟩
  rw [H2.out]
  cases q2
  · go_wp2
    go_ret2
    exact ⟨by rw [E0.out, E1.out]; rfl, B1.out⟩
  go_wp2_with fail
  refine (l2Day_any _ _).mono ?_
  rintro e w' ⟨rfl, rfl⟩
  rw [H3.out]
  cases q3
  · go_wp2
    go_ret2
    exact ⟨by rw [E0.out, E1.out]; rfl, B1.out⟩
  have L15 := areLo_len H1.out
  have hd' : 0 ≤ d ∧ d ≤ 4000 := inB_iff.1 H3.out
  go_wp2
  go_loopw [9, 8] (fun i v wr => ∃ k : Nat, k ≤ xs.length ∧ i = .int .i64 k ∧ v = .int .i64 (daysL sh d (xs.take k)) ∧ Below w.heap.size w wr) (fun i _ _ => xs.length - (intOf i).toNat)
  case atStart => exact ⟨0, Nat.zero_le _, rfl, rfl, B1.out⟩
  case round =>
    obtain ⟨k, hk, rfl, rfl, hbel⟩ := hrel
    have B := Lib.hid hbel
    by_cases hlt : k < xs.length
    · obtain ⟨s, hs⟩ : ∃ s, xs[k]? = some s := ⟨xs[k]'hlt, List.getElem?_eq_getElem _⟩
      obtain ⟨b, o, rfl, hbw, hat⟩ := (S.out.below hbel).at (by omega)
      obtain ⟨c0, c1, c2, c3, c4⟩ := hat k s hs
      have OK := Lib.hid (areLo_ok H1.out (List.mem_of_getElem? hs))
      have ok := loOk_iff.1 OK.out
      have hi0 : (0 : Int) ≤ (k : Int) := by omega
      have hi1 : (k : Int) < (xs.length : Int) := by omega
      have NX := Lib.hid (days_more (sh := sh) (d := d) hs)
      have bd := days_bd (sh := sh) (xs := xs) (d := d) H1.out hd'.1 hd'.2 k
      have KS := Lib.hid hs
      have X := Lib.hid (BoxLoan.new wr 101 s _ rfl)
      have BX := Lib.hid (Below.then' B.out (bel_al1 wr (.cells #[.int .i64 s.Sheet, .int .i64 s.Reader, .int .i64 s.Out, .int .i64 s.Due, .int .i64 s.Back] 101)))
      obtain ⟨z, hz⟩ : ∃ z, daysL sh d (xs.take k) = z := ⟨_, rfl⟩
      rw [hz] at NX bd ⊢
      obtain ⟨q, hq⟩ : ∃ q, openOn d s = q := ⟨_, rfl⟩
      have Q := Lib.hid hq
      clear hs hat hbel hz hq
      by_cases hr : s.Sheet = sh
      · have r1 : (s.Sheet == sh) = true := by simp [hr]
        have r2 : (s.Sheet != sh) = false := by simp [hr]
        have R1 := Lib.hid hr
        clear hr
        by_cases hod : s.Out ≤ d
        · have hod2 : ¬ d < s.Out := by omega
          have hod3 : decide (d < s.Out) = false := decide_eq_false hod2
          go_wp2_with fail
          refine (l11IsOpen_any s d _ OK.out).mono ?_
          rintro e w2 ⟨rfl, hb⟩
          rw [Q.out]
          have B2 := Lib.hid (Below.then' BX.out hb)
          clear c0 c1 c2 c3 c4
          obtain ⟨c0, c1, c2, c3, c4⟩ := X.out.below hb
          clear hb
          cases q
          · have LD := Lib.hid (show lentD sh d s = s.Back - s.Out from lentD_shut OK.out R1.out hod Q.out)
            have wb : 0 ≤ s.Back ∧ s.Back ≤ 4000 := open_no_back OK.out hod Q.out
            have v1 : IntKind.i64.wrap (z + s.Back) = z + s.Back := IntWalk.i64_in _ (by omega)
            have v2 : IntKind.i64.wrap (z + s.Back - s.Out) = z + s.Back - s.Out := IntWalk.i64_in _ (by omega)
            go_wp2
            go_roundw
            case rel => exact ⟨k + 1, by omega, by go_num, by rw [NX.out, LD.out]; go_num, B2.out⟩
            case measure => simp [intOf]; omega
          · have LD := Lib.hid (show lentD sh d s = d - s.Out from lentD_open OK.out R1.out hod Q.out)
            have v1 : IntKind.i64.wrap (z + d) = z + d := IntWalk.i64_in _ (by omega)
            have v2 : IntKind.i64.wrap (z + d - s.Out) = z + d - s.Out := IntWalk.i64_in _ (by omega)
            go_wp2
            go_roundw
            case rel => exact ⟨k + 1, by omega, by go_num, by rw [NX.out, LD.out]; go_num, B2.out⟩
            case measure => simp [intOf]; omega
        · have hod2 : d < s.Out := by omega
          have LD := Lib.hid (show lentD sh d s = 0 from by unfold lentD; rw [if_neg (fun h => hod h.2)])
          go_wp2
          go_roundw
          case rel => exact ⟨k + 1, by omega, by go_num, by rw [NX.out, LD.out, Int.add_zero], BX.out⟩
          case measure => simp [intOf]; omega
      · have r1 : (s.Sheet == sh) = false := by simp [hr]
        have r2 : (s.Sheet != sh) = true := by simp [hr]
        have LD := Lib.hid (show lentD sh d s = 0 from by unfold lentD; rw [if_neg (fun h => hr h.1)])
        clear hr
        go_wp2
        go_roundw
        case rel => exact ⟨k + 1, by omega, by go_num, by rw [NX.out, LD.out, Int.add_zero], BX.out⟩
        case measure => simp [intOf]; omega
    · obtain rfl : k = xs.length := by omega
      have T := Lib.hid (show xs.take xs.length = xs from List.take_of_length_le (Nat.le_refl _))
      rw [T.out]
      obtain ⟨z, hz⟩ : ∃ z, daysL sh d xs = z := ⟨_, rfl⟩
      rw [hz] at E0 ⊢
      clear hbel hz
      go_wp2
      go_ret2
      exact ⟨by rw [E0.out, E1.out]; rfl, B.out⟩
end Go.Proofs.Ytffbljbgmgifnaa
