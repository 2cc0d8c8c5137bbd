/- Loans in the model: the fine on a day, who has a sheet, days lent. -/
import Derived.Test.YtffbljbgmgifnaaLos6
import Derived.Test.YtffbljbgmgifnaaFineOnP
import Derived.Test.YtffbljbgmgifnaaWhoHasP
import Derived.Test.YtffbljbgmgifnaaDaysLentP
namespace Go.Proofs.Ytffbljbgmgifnaa
open Go.RowKit

theorem last_more {xs : List VLoan} {sh : Int} {k : Nat} {s : VLoan} (hs : xs[k]? = some s) : lastL sh (xs.take (k + 1)) = if s.Sheet = sh then (k : Int) else lastL sh (xs.take k) := by
  rw [take_one hs, lastL_snoc, List.length_take, Nat.min_eq_left (by have := (List.getElem?_eq_some_iff.1 hs).1; omega)]
theorem l11Last_any (a : Option Addr) (len cap : Nat) (xs : List VLoan) (sh : Int) (w : World) (h : IsLoanS w a len cap xs) :
    Calls Try.prog 108 #[.slice a len cap, .int .i64 sh] w fun e w' => e = .returned (.int .i64 (lastL sh xs)) ∧ Below w.heap.size w w' := by
  have hm := h.2.2.1
  have hcl := h.2.1
  unfold maxLen at hm
  obtain rfl := h.1
  have S := Lib.hid h
  clear h
  go_enter Try.func108, Try.ntmps108
  go_wp2
  go_loopw [6, 5] (fun i v wr => ∃ k : Nat, k ≤ xs.length ∧ i = .int .i64 k ∧ v = .int .i64 (lastL sh (xs.take k)) ∧ Below w.heap.size w wr) (fun i _ _ => xs.length - (intOf i).toNat)
  case atStart => exact ⟨0, Nat.zero_le _, rfl, rfl, Below.refl _ _⟩
  case round =>
    obtain ⟨k, hk, rfl, rfl, hbel⟩ := hrel
    have B := Lib.hid hbel
    by_cases hlt : k < xs.length
    · obtain ⟨s, hs⟩ : ∃ s, xs[k]? = some s := ⟨xs[k]'hlt, List.getElem?_eq_getElem _⟩
      obtain ⟨b, o, rfl, hb, hat⟩ := (S.out.below hbel).at (by omega)
      obtain ⟨c0, c1, c2, c3, c4⟩ := hat k s hs
      have NX := Lib.hid (last_more (sh := sh) hs)
      have hi0 : (0 : Int) ≤ (k : Int) := by omega
      have hi1 : (k : Int) < (xs.length : Int) := by omega
      obtain ⟨z, hz⟩ : ∃ z, lastL sh (xs.take k) = z := ⟨_, rfl⟩
      rw [hz] at NX ⊢
      clear hs hat hbel hz
      by_cases hsh : s.Sheet = sh
      · have s1 : (s.Sheet == sh) = true := by simp [hsh]
        have S1 := Lib.hid hsh
        clear hsh
        go_wp2
        go_roundw
        case rel => exact ⟨k + 1, by omega, by go_num, by rw [NX.out, if_pos S1.out], B.out⟩
        case measure => simp [intOf]; omega
      · have s1 : (s.Sheet == sh) = false := by simp [hsh]
        have S1 := Lib.hid hsh
        clear hsh
        go_wp2
        go_roundw
        case rel => exact ⟨k + 1, by omega, by go_num, by rw [NX.out, if_neg S1.out], B.out⟩
        case measure => simp [intOf]; omega
    · obtain rfl : k = xs.length := by omega
      have T := Lib.hid (show xs.take xs.length = xs from List.take_of_length_le (Nat.le_refl _))
      rw [T.out]
      clear hbel
      go_wp2
      go_ret
      exact ⟨rfl, B.out⟩
set_option maxHeartbeats 12800000 in
set_option maxRecDepth 100000 in
theorem specFineOn_any (a : Option Addr) (len cap : Nat) (xs : List VLoan) (sh d : Int) (w : World) (h : IsLoanS w a len cap xs) (_ : xs.length ≤ 1048576) :
    Calls Try.prog 44 #[.slice a len cap, .int .i64 sh, .int .i64 d] w (FineOn_Post xs sh d w) := by
  have hm := h.2.2.1
  have hcl := h.2.1
  unfold maxLen at hm
  obtain rfl := h.1
  have S := Lib.hid h
  clear h
  obtain ⟨q1, h1⟩ : ∃ q, areLo xs = q := ⟨_, rfl⟩
  obtain ⟨q2, h2⟩ : ∃ q, dayB d = q := ⟨_, rfl⟩
  obtain ⟨z, hz⟩ : ∃ z, lastL sh xs = z := ⟨_, rfl⟩
  have bd := lastL_bd sh xs
  rw [hz] at bd
  have E1 := Lib.hid (show FineOn_1 xs sh d = (q1 && (q2 && decide (0 ≤ z))) from by unfold FineOn_1; rw [h1, h2, hz])
  have E0 := Lib.hid (show FineOn_0 xs sh d = if (q1 && (q2 && decide (0 ≤ z))) = true then fineL (loAt xs z.toNat) d else 0 from by unfold FineOn_0; rw [E1.out, hz])
  have H1 := Lib.hid h1
  have H2 := Lib.hid h2
  have Z := Lib.hid hz
  clear h1 h2 hz
  by_cases hz0 : z < 0
  · have DN := Lib.hid (show decide (0 ≤ z) = false from decide_eq_false (by omega))
    go_enter Try.func44, Try.ntmps44
    go_wp2_with fail
    refine (l11Last_any _ _ _ xs sh _ S.out).mono ?_
    rintro e w1 ⟨rfl, hb⟩
    rw [Z.out]
    have B1 := Lib.hid hb
    have S1 := Lib.hid (S.out.below hb)
    clear hb
    go_wp2_with fail
    refine (l11Good_any _ _ _ xs _ S1.out).mono ?_
    rintro e w2 ⟨rfl, hb⟩
    rw [H1.out]
    have B2 := Lib.hid (Below.then' B1.out hb)
    clear hb
    cases q1
    · go_wp2
      go_ret2
      exact ⟨by rw [E0.out, E1.out]; rfl, B2.out⟩
    · go_wp2
      go_ret2
      exact ⟨by rw [E0.out, E1.out, DN.out]; simp, B2.out⟩
  obtain ⟨i, rfl⟩ : ∃ i : Nat, z = (i : Int) := ⟨z.toNat, by omega⟩
  have DY := Lib.hid (show decide (0 ≤ (i : Int)) = true from decide_eq_true (by omega))
  have hil : i < xs.length := by omega
  obtain ⟨s, hs⟩ : ∃ s, xs[i]? = some s := ⟨xs[i]'hil, List.getElem?_eq_getElem _⟩
  have LA := Lib.hid (show loAt xs (i : Int).toNat = s from by rw [Int.toNat_natCast]; exact loAt_some hs)
  have HS := Lib.hid hs
  have hi0 : (0 : Int) ≤ (i : Int) := by omega
  have hi1 : (i : Int) < (xs.length : Int) := by omega
  have hd0 : decide ((i : Int) < 0) = false := decide_eq_false hz0
  clear hs bd
  go_enter Try.func44, Try.ntmps44
  go_wp2_with fail
  refine (l11Last_any _ _ _ xs sh _ S.out).mono ?_
  rintro e w1 ⟨rfl, hb⟩
  rw [Z.out]
  have B1 := Lib.hid hb
  have S1 := Lib.hid (S.out.below hb)
  clear hb
  go_wp2_with fail
  refine (l11Good_any _ _ _ xs _ S1.out).mono ?_
  rintro e w2 ⟨rfl, hb⟩
  rw [H1.out]
  have B2 := Lib.hid (Below.then' B1.out hb)
  have S2 := Lib.hid (S1.out.below hb)
  clear hb
  cases q1
  · go_wp2
    go_ret2
    exact ⟨by rw [E0.out, E1.out]; rfl, B2.out⟩
  go_wp2_with fail
  refine (l2Day_any _ _).mono ?_
  rintro e w' ⟨rfl, rfl⟩
  rw [H2.out]
  cases q2
  · go_wp2
    go_ret2
    exact ⟨by rw [E0.out, E1.out]; rfl, B2.out⟩
  obtain ⟨b9, o9, rfl, _, hat⟩ := S2.out.at (by omega)
  obtain ⟨c0, c1, c2, c3, c4⟩ := hat i s HS.out
  have OK := Lib.hid (areLo_ok H1.out (List.mem_of_getElem? HS.out))
  clear hat
  go_wp2_with fail
  refine (l11Fine_any s d _ OK.out H2.out).mono ?_
  rintro e w3 ⟨rfl, hb⟩
  have B3 := Lib.hid (Below.then' B2.out hb)
  clear hb
  go_wp2
  go_ret2
  exact ⟨by rw [E0.out, E1.out, DY.out, LA.out]; rfl, B3.out⟩
theorem who_more {xs : List VLoan} {sh d : Int} {k : Nat} {s : VLoan} (hs : xs[k]? = some s) : whoL sh d (xs.take (k + 1)) = if s.Sheet = sh ∧ openOn d s = true then s.Reader else whoL sh d (xs.take k) := by
  unfold whoL; rw [take_one hs, List.foldl_append]; rfl
theorem days_more {xs : List VLoan} {sh d : Int} {k : Nat} {s : VLoan} (hs : xs[k]? = some s) : daysL sh d (xs.take (k + 1)) = daysL sh d (xs.take k) + lentD sh d s := by
  unfold daysL; rw [take_one hs, List.foldl_append]; rfl
theorem lentD_bd {l : VLoan} (h : l.ok = true) {sh d : Int} (h0 : 0 ≤ d) (h1 : d ≤ 4000) : 0 ≤ lentD sh d l ∧ lentD sh d l ≤ 4000 := by
  have k := loOk_iff.1 h
  unfold lentD endL
  split
  · split <;> omega
  · omega
theorem days_bd {xs : List VLoan} {sh d : Int} (h : areLo xs = true) (h0 : 0 ≤ d) (h1 : d ≤ 4000) : ∀ k, 0 ≤ daysL sh d (xs.take k) ∧ daysL sh d (xs.take k) ≤ 60000 := by
  have key : ∀ k, k ≤ xs.length → 0 ≤ daysL sh d (xs.take k) ∧ daysL sh d (xs.take k) ≤ 4000 * (k : Int) := by
    intro k
    induction k with
    | zero => intro _; simp [daysL]
    | succ k ih =>
      intro hk
      have hs : xs[k]? = some (xs[k]'(by omega)) := List.getElem?_eq_getElem _
      have b := lentD_bd (areLo_ok h (List.mem_of_getElem? hs)) (sh := sh) h0 h1
      have c := ih (by omega)
      rw [days_more hs]
      omega
  intro k
  have hl := areLo_len h
  by_cases hk : k ≤ xs.length
  · have := key k hk; omega
  · have := key xs.length (Nat.le_refl _)
    rw [List.take_of_length_le (Nat.le_refl _)] at this
    rw [List.take_of_length_le (by omega)]
    omega
theorem open_iff {l : VLoan} {d : Int} : openOn d l = true ↔ l.Out ≤ d ∧ (l.Back = -1 ∨ d < l.Back) := by simp [openOn]
theorem open_no_back {l : VLoan} (h : l.ok = true) {d : Int} (ho : l.Out ≤ d) (hn : openOn d l = false) : 0 ≤ l.Back ∧ l.Back ≤ 4000 := by
  have k := loOk_iff.1 h
  simp [openOn] at hn
  omega
theorem lentD_shut {l : VLoan} (h : l.ok = true) {sh d : Int} (e : l.Sheet = sh) (ho : l.Out ≤ d) (hn : openOn d l = false) : lentD sh d l = l.Back - l.Out := by
  have k := loOk_iff.1 h
  simp [openOn] at hn
  unfold lentD endL
  rw [if_pos ⟨e, ho⟩, if_neg (by omega)]
  omega
theorem lentD_open {l : VLoan} (h : l.ok = true) {sh d : Int} (e : l.Sheet = sh) (ho : l.Out ≤ d) (hn : openOn d l = true) : lentD sh d l = d - l.Out := by
  have k := loOk_iff.1 h
  simp [openOn] at hn
  unfold lentD endL
  rw [if_pos ⟨e, ho⟩]
  split <;> omega
set_option maxHeartbeats 12800000 in
set_option maxRecDepth 100000 in
theorem specWhoHas_any (a : Option Addr) (len cap : Nat) (xs : List VLoan) (sh d : Int) (w : World) (h : IsLoanS w a len cap xs) (_ : xs.length ≤ 1048576) :
    Calls Try.prog 43 #[.slice a len cap, .int .i64 sh, .int .i64 d] w (WhoHas_Post xs sh d w) := by
  have hm := h.2.2.1
  have hcl := h.2.1
  unfold maxLen at hm
  obtain rfl := h.1
  have S := Lib.hid h
  clear h
  obtain ⟨q1, h1⟩ : ∃ q, areLo xs = q := ⟨_, rfl⟩
  have H1 := Lib.hid h1
  obtain ⟨q2, h2⟩ : ∃ q, idB sh = q := ⟨_, rfl⟩
  have H2 := Lib.hid h2
  obtain ⟨q3, h3⟩ : ∃ q, dayB d = q := ⟨_, rfl⟩
  have H3 := Lib.hid h3
  have E1 := Lib.hid (show WhoHas_1 xs sh d = (q1 && (q2 && q3)) from by unfold WhoHas_1; rw [h1, h2, h3])
  have E0 := Lib.hid (show WhoHas_0 xs sh d = if (q1 && (q2 && q3)) = true then whoL sh d xs else 0 from by unfold WhoHas_0; rw [E1.out])
  clear h1 h2 h3
  go_enter Try.func43, Try.ntmps43
  go_wp2_with fail
  refine (l11Good_any _ _ _ xs _ S.out).mono ?_
  rintro e w1 ⟨rfl, hb⟩
  rw [H1.out]
  have B1 := Lib.hid hb
  clear hb
  cases q1
  · go_wp2
    go_ret2
    exact ⟨by rw [E0.out, E1.out]; rfl, B1.out⟩
  go_wp2_with fail
  refine (l11Id_any _ _).mono ?_
  rintro e w' ⟨rfl, rfl⟩
  rw [H2.out]
  cases q2
  · go_wp2
    go_ret2
    exact ⟨by rw [E0.out, E1.out]; rfl, B1.out⟩
  go_wp2_with fail
  refine (l2Day_any _ _).mono ?_
  rintro e w' ⟨rfl, rfl⟩
  rw [H3.out]
  cases q3
  · go_wp2
    go_ret2
    exact ⟨by rw [E0.out, E1.out]; rfl, B1.out⟩
  have L15 := areLo_len H1.out
  go_wp2
  go_loopw [9, 8] (fun i v wr => ∃ k : Nat, k ≤ xs.length ∧ i = .int .i64 k ∧ v = .int .i64 (whoL sh d (xs.take k)) ∧ Below w.heap.size w wr) (fun i _ _ => xs.length - (intOf i).toNat)
  case atStart => exact ⟨0, Nat.zero_le _, rfl, rfl, B1.out⟩
  case round =>
    obtain ⟨k, hk, rfl, rfl, hbel⟩ := hrel
    have B := Lib.hid hbel
    by_cases hlt : k < xs.length
    · obtain ⟨s, hs⟩ : ∃ s, xs[k]? = some s := ⟨xs[k]'hlt, List.getElem?_eq_getElem _⟩
      obtain ⟨b, o, rfl, hbw, hat⟩ := (S.out.below hbel).at (by omega)
      obtain ⟨c0, c1, c2, c3, c4⟩ := hat k s hs
      have OK := Lib.hid (areLo_ok H1.out (List.mem_of_getElem? hs))
      have hi0 : (0 : Int) ≤ (k : Int) := by omega
      have hi1 : (k : Int) < (xs.length : Int) := by omega
      have NX := Lib.hid (who_more (sh := sh) (d := d) hs)
      have KS := Lib.hid hs
      obtain ⟨z, hz⟩ : ∃ z, whoL sh d (xs.take k) = z := ⟨_, rfl⟩
      rw [hz] at NX ⊢
      obtain ⟨q, hq⟩ : ∃ q, openOn d s = q := ⟨_, rfl⟩
      have Q := Lib.hid hq
      clear hs hat hbel hz hq
      by_cases hr : s.Sheet = sh
      · have r1 : (s.Sheet == sh) = true := by simp [hr]
        have R1 := Lib.hid hr
        clear hr
        go_wp2_with fail
        refine (l11IsOpen_any s d _ OK.out).mono ?_
        rintro e w2 ⟨rfl, hb⟩
        rw [Q.out]
        have B2 := Lib.hid (Below.then' B.out hb)
        clear c0 c1 c2 c3 c4
        obtain ⟨_, _, eb, _, hat⟩ := (S.out.below B2.out).at (by omega)
        cases eb
        obtain ⟨c0, c1, c2, c3, c4⟩ := hat k s KS.out
        clear hb hat
        cases q
        · go_wp2
          go_roundw
          case rel => exact ⟨k + 1, by omega, by go_num, by rw [NX.out, if_neg (by rw [Q.out]; simp)], B2.out⟩
          case measure => simp [intOf]; omega
        · go_wp2
          go_roundw
          case rel => exact ⟨k + 1, by omega, by go_num, by rw [NX.out, if_pos ⟨R1.out, Q.out⟩], B2.out⟩
          case measure => simp [intOf]; omega
      · have r1 : (s.Sheet == sh) = false := by simp [hr]
        have R1 := Lib.hid hr
        clear hr
        go_wp2
        go_roundw
        case rel => exact ⟨k + 1, by omega, by go_num, by rw [NX.out, if_neg (fun h => R1.out h.1)], B.out⟩
        case measure => simp [intOf]; omega
    · obtain rfl : k = xs.length := by omega
      have T := Lib.hid (show xs.take xs.length = xs from List.take_of_length_le (Nat.le_refl _))
      rw [T.out]
      obtain ⟨z, hz⟩ : ∃ z, whoL sh d xs = z := ⟨_, rfl⟩
      rw [hz] at E0 ⊢
      clear hbel hz
      go_wp2
      go_ret2
      exact ⟨by rw [E0.out, E1.out]; rfl, B.out⟩
set_option maxHeartbeats 12800000 in
set_option maxRecDepth 100000 in
theorem specDaysLent_any (a : Option Addr) (len cap : Nat) (xs : List VLoan) (sh d : Int) (w : World) (h : IsLoanS w a len cap xs) (_ : xs.length ≤ 1048576) :
    Calls Try.prog 60 #[.slice a len cap, .int .i64 sh, .int .i64 d] w (DaysLent_Post xs sh d w) := by
  have hm := h.2.2.1
  have hcl := h.2.1
  unfold maxLen at hm
  obtain rfl := h.1
  have S := Lib.hid h
  clear h
  obtain ⟨q1, h1⟩ : ∃ q, areLo xs = q := ⟨_, rfl⟩
  have H1 := Lib.hid h1
  obtain ⟨q2, h2⟩ : ∃ q, idB sh = q := ⟨_, rfl⟩
  have H2 := Lib.hid h2
  obtain ⟨q3, h3⟩ : ∃ q, dayB d = q := ⟨_, rfl⟩
  have H3 := Lib.hid h3
  have E1 := Lib.hid (show DaysLent_1 xs sh d = (q1 && (q2 && q3)) from by unfold DaysLent_1; rw [h1, h2, h3])
  have E0 := Lib.hid (show DaysLent_0 xs sh d = if (q1 && (q2 && q3)) = true then daysL sh d xs else 0 from by unfold DaysLent_0; rw [E1.out])
  clear h1 h2 h3
  go_enter Try.func60, Try.ntmps60
  go_wp2_with fail
  refine (l11Good_any _ _ _ xs _ S.out).mono ?_
  rintro e w1 ⟨rfl, hb⟩
  rw [H1.out]
  have B1 := Lib.hid hb
  clear hb
  cases q1
  · go_wp2
    go_ret2
    exact ⟨by rw [E0.out, E1.out]; rfl, B1.out⟩
  go_wp2_with fail
  refine (l11Id_any _ _).mono ?_
  rintro e w' ⟨rfl, rfl⟩
  rw [H2.out]
  cases q2
  · go_wp2
    go_ret2
    exact ⟨by rw [E0.out, E1.out]; rfl, B1.out⟩
  go_wp2_with fail
  refine (l2Day_any _ _).mono ?_
  rintro e w' ⟨rfl, rfl⟩
  rw [H3.out]
  cases q3
  · go_wp2
    go_ret2
    exact ⟨by rw [E0.out, E1.out]; rfl, B1.out⟩
  have L15 := areLo_len H1.out
  have hd' : 0 ≤ d ∧ d ≤ 4000 := inB_iff.1 H3.out
  go_wp2
  go_loopw [9, 8] (fun i v wr => ∃ k : Nat, k ≤ xs.length ∧ i = .int .i64 k ∧ v = .int .i64 (daysL sh d (xs.take k)) ∧ Below w.heap.size w wr) (fun i _ _ => xs.length - (intOf i).toNat)
  case atStart => exact ⟨0, Nat.zero_le _, rfl, rfl, B1.out⟩
  case round =>
    obtain ⟨k, hk, rfl, rfl, hbel⟩ := hrel
    have B := Lib.hid hbel
    by_cases hlt : k < xs.length
    · obtain ⟨s, hs⟩ : ∃ s, xs[k]? = some s := ⟨xs[k]'hlt, List.getElem?_eq_getElem _⟩
      obtain ⟨b, o, rfl, hbw, hat⟩ := (S.out.below hbel).at (by omega)
      obtain ⟨c0, c1, c2, c3, c4⟩ := hat k s hs
      have OK := Lib.hid (areLo_ok H1.out (List.mem_of_getElem? hs))
      have ok := loOk_iff.1 OK.out
      have hi0 : (0 : Int) ≤ (k : Int) := by omega
      have hi1 : (k : Int) < (xs.length : Int) := by omega
      have NX := Lib.hid (days_more (sh := sh) (d := d) hs)
      have bd := days_bd (sh := sh) (xs := xs) (d := d) H1.out hd'.1 hd'.2 k
      have KS := Lib.hid hs
      have X := Lib.hid (BoxLoan.new wr 101 s _ rfl)
      have BX := Lib.hid (Below.then' B.out (bel_al1 wr (.cells #[.int .i64 s.Sheet, .int .i64 s.Reader, .int .i64 s.Out, .int .i64 s.Due, .int .i64 s.Back] 101)))
      obtain ⟨z, hz⟩ : ∃ z, daysL sh d (xs.take k) = z := ⟨_, rfl⟩
      rw [hz] at NX bd ⊢
      obtain ⟨q, hq⟩ : ∃ q, openOn d s = q := ⟨_, rfl⟩
      have Q := Lib.hid hq
      clear hs hat hbel hz hq
      by_cases hr : s.Sheet = sh
      · have r1 : (s.Sheet == sh) = true := by simp [hr]
        have r2 : (s.Sheet != sh) = false := by simp [hr]
        have R1 := Lib.hid hr
        clear hr
        by_cases hod : s.Out ≤ d
        · have hod2 : ¬ d < s.Out := by omega
          have hod3 : decide (d < s.Out) = false := decide_eq_false hod2
          go_wp2_with fail
          refine (l11IsOpen_any s d _ OK.out).mono ?_
          rintro e w2 ⟨rfl, hb⟩
          rw [Q.out]
          have B2 := Lib.hid (Below.then' BX.out hb)
          clear c0 c1 c2 c3 c4
          obtain ⟨c0, c1, c2, c3, c4⟩ := X.out.below hb
          clear hb
          cases q
          · have LD := Lib.hid (show lentD sh d s = s.Back - s.Out from lentD_shut OK.out R1.out hod Q.out)
            have wb : 0 ≤ s.Back ∧ s.Back ≤ 4000 := open_no_back OK.out hod Q.out
            have v1 : IntKind.i64.wrap (z + s.Back) = z + s.Back := IntWalk.i64_in _ (by omega)
            have v2 : IntKind.i64.wrap (z + s.Back - s.Out) = z + s.Back - s.Out := IntWalk.i64_in _ (by omega)
            go_wp2
            go_roundw
            case rel => exact ⟨k + 1, by omega, by go_num, by rw [NX.out, LD.out]; go_num, B2.out⟩
            case measure => simp [intOf]; omega
          · have LD := Lib.hid (show lentD sh d s = d - s.Out from lentD_open OK.out R1.out hod Q.out)
            have v1 : IntKind.i64.wrap (z + d) = z + d := IntWalk.i64_in _ (by omega)
            have v2 : IntKind.i64.wrap (z + d - s.Out) = z + d - s.Out := IntWalk.i64_in _ (by omega)
            go_wp2
            go_roundw
            case rel => exact ⟨k + 1, by omega, by go_num, by rw [NX.out, LD.out]; go_num, B2.out⟩
            case measure => simp [intOf]; omega
        · have hod2 : d < s.Out := by omega
          have LD := Lib.hid (show lentD sh d s = 0 from by unfold lentD; rw [if_neg (fun h => hod h.2)])
          go_wp2
          go_roundw
          case rel => exact ⟨k + 1, by omega, by go_num, by rw [NX.out, LD.out, Int.add_zero], BX.out⟩
          case measure => simp [intOf]; omega
      · have r1 : (s.Sheet == sh) = false := by simp [hr]
        have r2 : (s.Sheet != sh) = true := by simp [hr]
        have LD := Lib.hid (show lentD sh d s = 0 from by unfold lentD; rw [if_neg (fun h => hr h.1)])
        clear hr
        go_wp2
        go_roundw
        case rel => exact ⟨k + 1, by omega, by go_num, by rw [NX.out, LD.out, Int.add_zero], BX.out⟩
        case measure => simp [intOf]; omega
    · obtain rfl : k = xs.length := by omega
      have T := Lib.hid (show xs.take xs.length = xs from List.take_of_length_le (Nat.le_refl _))
      rw [T.out]
      obtain ⟨z, hz⟩ : ∃ z, daysL sh d xs = z := ⟨_, rfl⟩
      rw [hz] at E0 ⊢
      clear hbel hz
      go_wp2
      go_ret2
      exact ⟨by rw [E0.out, E1.out]; rfl, B.out⟩
end Go.Proofs.Ytffbljbgmgifnaa
