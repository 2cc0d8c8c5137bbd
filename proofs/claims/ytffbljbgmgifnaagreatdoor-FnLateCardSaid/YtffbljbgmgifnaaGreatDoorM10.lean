/- Texts in one: Los6, Los7, Los8. -/
import Derived.Test.YtffbljbgmgifnaaGreatDoorM5
import Derived.Test.YtffbljbgmgifnaaGreatDoorM9
import Derived.Test.YtffbljbgmgifnaaGreatDoorM8
namespace Go.Proofs.YtffbljbgmgifnaaGreatDoor
open Go.RowKit

theorem isInts_sameL {w : World} {a : Option Addr} {n c : Nat} {xs ys : List Int} (h : IsInts w a n c xs) (h' : IsInts w a n c ys) : xs = ys := by
  have e1 := h.1
  have e2 := h'.1
  apply List.ext_getElem?
  intro j
  by_cases hj : j < xs.length
  · obtain ⟨b, o, rfl, _, hat⟩ := h.at (by omega)
    obtain ⟨b', o', e, _, hat'⟩ := h'.at (by omega)
    cases e
    have h1 : xs[j]? = some xs[j] := List.getElem?_eq_getElem hj
    have h2 : ys[j]? = some (ys[j]'(by omega)) := List.getElem?_eq_getElem (by omega)
    have c1 := hat j _ h1
    have c2 := hat' j _ h2
    rw [c1] at c2
    rw [h1, h2]
    injection c2 with c2
    injection c2 with _ c2
    rw [c2]
  · rw [List.getElem?_eq_none (by omega), List.getElem?_eq_none (by omega)]
theorem put_ownL {lo : Nat} {W W' : World} {a : Option Addr} {n c : Nat} {L L' : List Int} {h : Hd} (O : W.ownsRow lo 3 1 (.slice a n c) L.length (intCells L)) (hlo : lo ≤ W.heap.size) (hb : Below W.heap.size W W') (hi : IsInts W' h.a h.n h.c L') (hd : (h.a = a ∧ h.n = n ∧ h.c = c) ∨ W'.ownsRow W.heap.size 3 1 (.slice h.a h.n h.c) L'.length (intCells L')) : W'.ownsRow lo 3 1 (.slice h.a h.n h.c) L'.length (intCells L') := by
  rcases hd with ⟨h1, h2, h3⟩ | hd
  · obtain ⟨a', c', e, hi', _⟩ := isInts_own O
    injection e with e1 e2 e3
    subst e1 e2 e3
    rw [h1, h2, h3] at hi ⊢
    have := isInts_sameL hi (hi'.below hb)
    subst this
    exact ownsRow_below O hb
  · exact ownsRow_base hd hlo

theorem open_spec {s : VLoan} (hs : s.ok = true) (d : Int) : openOn d s = (decide (s.Out ≤ d) && (decide (s.Back < 0) || decide (d < s.Back))) := by
  have k := loOk_iff.1 hs
  unfold openOn
  have e : (s.Back == -1) = decide (s.Back < 0) := by rw [Bool.eq_iff_iff]; simp; omega
  rw [e]
set_option maxHeartbeats 1600000 in
theorem l11IsOpen_any (s : VLoan) (d : Int) (w : World) (hs : s.ok = true) :
    Calls Tryz.prog 34 #[.agg #[.int .i64 s.Sheet, .int .i64 s.Reader, .int .i64 s.Out, .int .i64 s.Due, .int .i64 s.Back], .int .i64 d] w fun e w' => e = .returned (.bool (openOn d s)) ∧ Below w.heap.size w w' := by
  have E := Lib.hid (open_spec hs d)
  clear hs
  by_cases h1 : s.Out ≤ d
  · have D1 := Lib.hid (decide_eq_true h1)
    by_cases h2 : s.Back < 0
    · have D2 := Lib.hid (decide_eq_true h2)
      go_enter Tryz.func34, Tryz.ntmps34
      go_wp2
      go_ret
      exact ⟨ret_bool (by rw [E.out, D1.out, D2.out]; rfl), bel_al1 _ _⟩
    · have D2 := Lib.hid (decide_eq_false h2)
      go_enter Tryz.func34, Tryz.ntmps34
      go_wp2
      go_ret
      exact ⟨ret_bool (by rw [E.out, D1.out, D2.out]; rfl), bel_al1 _ _⟩
  · have D1 := Lib.hid (decide_eq_false h1)
    go_enter Tryz.func34, Tryz.ntmps34
    go_wp2
    go_ret
    exact ⟨ret_bool (by rw [E.out, D1.out]; rfl), bel_al1 _ _⟩
theorem sheets_more {f : VLoan → Bool} {xs : List VLoan} {k : Nat} {s : VLoan} (hs : xs[k]? = some s) : sheetsOf f (xs.take (k + 1)) = if f s = true then putN s.Sheet (sheetsOf f (xs.take k)) else sheetsOf f (xs.take k) := by
  unfold sheetsOf
  rw [where_more f VLoan.Sheet hs, List.foldl_append]
  by_cases h : f s = true
  · rw [if_pos h, if_pos h]; rfl
  · rw [if_neg h, if_neg h]; rfl
set_option maxHeartbeats 12800000 in
set_option maxRecDepth 100000 in
theorem specOpenLoans_any (a : Option Addr) (len cap : Nat) (xs : List VLoan) (r d : Int) (w : World) (h : IsLoanS w a len cap xs) (_ : xs.length ≤ 1048576) :
    Calls Tryz.prog 26 #[.slice a len cap, .int .i64 r, .int .i64 d] w (OpenLoans_Post xs r d w) := by
  have hm := h.2.2.1
  have hcl := h.2.1
  unfold maxLen at hm
  obtain rfl := h.1
  have S := Lib.hid h
  clear h
  obtain ⟨q1, h1⟩ : ∃ q, areLo xs = q := ⟨_, rfl⟩
  have H1 := Lib.hid h1
  obtain ⟨q2, h2⟩ : ∃ q, idB r = q := ⟨_, rfl⟩
  have H2 := Lib.hid h2
  obtain ⟨q3, h3⟩ : ∃ q, dayB d = q := ⟨_, rfl⟩
  have H3 := Lib.hid h3
  have E1 := Lib.hid (show OpenLoans_1 xs r d = (q1 && (q2 && q3)) from by unfold OpenLoans_1; rw [h1, h2, h3])
  have E0 := Lib.hid (show OpenLoans_0 xs r d = if (q1 && (q2 && q3)) = true then sheetsOf (fun l => l.Reader == r && openOn d l) xs else [] from by unfold OpenLoans_0; rw [E1.out])
  clear h1 h2 h3
  have O0 := Lib.hid (made_ids w)
  have B0 := Lib.hid (wh_al1 w (.cells #[] 3))
  have S0 := Lib.hid (S.out.below B0.out)
  go_enter Tryz.func26, Tryz.ntmps26
  go_wp2_with fail
  refine (l11Good_any _ _ _ xs _ S0.out).mono ?_
  rintro e w1 ⟨rfl, hb⟩
  rw [H1.out]
  have B1 := Lib.hid (Below.then' B0.out hb)
  have S1 := Lib.hid (S0.out.below hb)
  have O1 := Lib.hid (ownsRow_below O0.out hb)
  clear hb
  cases q1
  · go_wp2
    go_ret2
    exact ⟨_, by rw [E1.out]; rfl, by rw [E0.out]; exact O1.out, B1.out⟩
  go_wp2_with fail
  refine (l11Id_any _ _).mono ?_
  rintro e w' ⟨rfl, rfl⟩
  rw [H2.out]
  cases q2
  · go_wp2
    go_ret2
    exact ⟨_, by rw [E1.out]; rfl, by rw [E0.out]; exact O1.out, B1.out⟩
  go_wp2_with fail
  refine (l2Day_any _ _).mono ?_
  rintro e w' ⟨rfl, rfl⟩
  rw [H3.out]
  cases q3
  · go_wp2
    go_ret2
    exact ⟨_, by rw [E1.out]; rfl, by rw [E0.out]; exact O1.out, B1.out⟩
  have L15 := areLo_len H1.out
  obtain ⟨f, hf⟩ : ∃ f : VLoan → Bool, (fun l => l.Reader == r && openOn d l) = f := ⟨_, rfl⟩
  have FF := Lib.hid (show ∀ s : VLoan, f s = (s.Reader == r && openOn d s) from fun s => by subst hf; rfl)
  rw [hf] at E0
  clear hf
  go_wp2
  go_loopw [9, 8] (fun i o wr => ∃ k : Nat, k ≤ xs.length ∧ i = .int .i64 k ∧ wr.ownsRow w.heap.size 3 1 o (sheetsOf f (xs.take k)).length (intCells (sheetsOf f (xs.take k))) ∧ Below w.heap.size w wr) (fun i _ _ => xs.length - (intOf i).toNat)
  case atStart => exact ⟨0, Nat.zero_le _, rfl, O1.out, B1.out⟩
  case round =>
    obtain ⟨k, hk, rfl, hown, hbel⟩ := hrel
    have B := Lib.hid hbel
    by_cases hlt : k < xs.length
    · obtain ⟨s, hs⟩ : ∃ s, xs[k]? = some s := ⟨xs[k]'hlt, List.getElem?_eq_getElem _⟩
      obtain ⟨b, o, rfl, hbw, hat⟩ := (S.out.below hbel).at (by omega)
      obtain ⟨c0, c1, c2, c3, c4⟩ := hat k s hs
      have OK := Lib.hid (areLo_ok H1.out (List.mem_of_getElem? hs))
      have hi0 : (0 : Int) ≤ (k : Int) := by omega
      have hi1 : (k : Int) < (xs.length : Int) := by omega
      have NX := Lib.hid (sheets_more (f := f) hs)
      have LL := sheetsOf_len f (xs.take k)
      have LT : (xs.take k).length ≤ 15 := by rw [List.length_take]; omega
      have hsz := hbel.size
      obtain ⟨L, hL⟩ : ∃ L, sheetsOf f (xs.take k) = L := ⟨_, rfl⟩
      rw [hL] at hown NX LL
      have O := Lib.hid hown
      obtain ⟨q, hq⟩ : ∃ q, openOn d s = q := ⟨_, rfl⟩
      have Q := Lib.hid hq
      have FS := Lib.hid (FF.out s)
      have KS := Lib.hid hs
      clear hs hat hbel hown hL hq

      by_cases hr : s.Reader = r
      · have r1 : (s.Reader == r) = true := by simp [hr]
        have R1 := Lib.hid r1
        clear hr
        go_wp2_with fail
        refine (l11IsOpen_any s d _ OK.out).mono ?_
        rintro e w2 ⟨rfl, hb⟩
        rw [Q.out]
        have B2 := Lib.hid (Below.then' B.out hb)
        have O2 := Lib.hid (ownsRow_below O.out hb)
        have s2 := hb.size
        clear c0 c1 c2 c3 c4
        obtain ⟨_, _, eb, _, hat⟩ := (S.out.below B2.out).at (by omega)
        cases eb
        obtain ⟨c0, c1, c2, c3, c4⟩ := hat k s KS.out
        clear hb hat
        cases q
        · have := trivial
          go_wp2
          go_roundw
          case rel => exact ⟨k + 1, by omega, by go_num, by rw [NX.out, if_neg (by rw [FS.out, Q.out, Bool.and_false]; simp)]; exact O2.out, B2.out⟩
          case measure => simp [intOf]; omega
        · have := trivial
          obtain ⟨va, vc, ev, isI, _⟩ := isInts_own O2.out
          subst ev
          have II := Lib.hid isI
          have LL2 : L.length ≤ 1000 := by omega
          clear isI
          go_wp2_with fail
          refine (l1PutO_any va L.length vc L s.Sheet _ II.out LL2).mono ?_
          rintro e w3 ⟨h3, rfl, hi3, hb3, hd3⟩
          have O3 := Lib.hid (put_ownL O2.out (by omega) hb3 hi3 hd3)
          have B3 := Lib.hid (Below.then' B2.out hb3)
          clear hi3 hb3 hd3 c0 c1 c2 c3 c4
          go_wp2
          go_roundw
          case rel => exact ⟨k + 1, by omega, by go_num, by rw [NX.out, if_pos (by rw [FS.out, R1.out, Q.out]; rfl)]; exact O3.out, B3.out⟩
          case measure => simp [intOf]; omega
      · have r1 : (s.Reader == r) = false := by simp [hr]
        have R1 := Lib.hid r1
        clear hr
        go_wp2
        go_roundw
        case rel => exact ⟨k + 1, by omega, by go_num, by rw [NX.out, if_neg (by rw [FS.out, R1.out]; simp)]; exact O.out, B.out⟩
        case measure => simp [intOf]; omega
    · obtain rfl : k = xs.length := by omega
      have HO := Lib.hid (show (wr.ownsRow w.heap.size 3 1 _ (sheetsOf f xs).length (intCells (sheetsOf f xs))) from by have := hown; rw [List.take_of_length_le (Nat.le_refl _)] at this; exact this)
      clear hbel hown
      go_wp2
      go_ret2
      exact ⟨_, by rw [E1.out]; rfl, by rw [E0.out]; exact HO.out, B.out⟩
set_option maxHeartbeats 12800000 in
set_option maxRecDepth 100000 in
theorem specLateOn_any (a : Option Addr) (len cap : Nat) (xs : List VLoan) (d : Int) (w : World) (h : IsLoanS w a len cap xs) (_ : xs.length ≤ 1048576) :
    Calls Tryz.prog 7 #[.slice a len cap, .int .i64 d] w (LateOn_Post xs d w) := by
  have hm := h.2.2.1
  have hcl := h.2.1
  unfold maxLen at hm
  obtain rfl := h.1
  have S := Lib.hid h
  clear h
  obtain ⟨q1, h1⟩ : ∃ q, areLo xs = q := ⟨_, rfl⟩
  have H1 := Lib.hid h1
  obtain ⟨q2, h2⟩ : ∃ q, dayB d = q := ⟨_, rfl⟩
  have H2 := Lib.hid h2
  have E1 := Lib.hid (show LateOn_1 xs d = (q1 && q2) from by unfold LateOn_1; rw [h1, h2])
  have E0 := Lib.hid (show LateOn_0 xs d = if (q1 && q2) = true then sheetsOf (lateOn d) xs else [] from by unfold LateOn_0; rw [E1.out])
  clear h1 h2
  have O0 := Lib.hid (made_ids w)
  have B0 := Lib.hid (wh_al1 w (.cells #[] 3))
  have S0 := Lib.hid (S.out.below B0.out)
  go_enter Tryz.func7, Tryz.ntmps7
  go_wp2_with fail
  refine (l11Good_any _ _ _ xs _ S0.out).mono ?_
  rintro e w1 ⟨rfl, hb⟩
  rw [H1.out]
  have B1 := Lib.hid (Below.then' B0.out hb)
  have S1 := Lib.hid (S0.out.below hb)
  have O1 := Lib.hid (ownsRow_below O0.out hb)
  clear hb
  cases q1
  · go_wp2
    go_ret2
    exact ⟨_, by rw [E1.out]; rfl, by rw [E0.out]; exact O1.out, B1.out⟩
  go_wp2_with fail
  refine (l2Day_any _ _).mono ?_
  rintro e w' ⟨rfl, rfl⟩
  rw [H2.out]
  cases q2
  · go_wp2
    go_ret2
    exact ⟨_, by rw [E1.out]; rfl, by rw [E0.out]; exact O1.out, B1.out⟩
  have L15 := areLo_len H1.out
  obtain ⟨f, hf⟩ : ∃ f : VLoan → Bool, (lateOn d) = f := ⟨_, rfl⟩
  have FF := Lib.hid (show ∀ s : VLoan, f s = (openOn d s && decide (s.Due < d)) from fun s => by subst hf; rfl)
  rw [hf] at E0
  clear hf
  go_wp2
  go_loopw [7, 6] (fun i o wr => ∃ k : Nat, k ≤ xs.length ∧ i = .int .i64 k ∧ wr.ownsRow w.heap.size 3 1 o (sheetsOf f (xs.take k)).length (intCells (sheetsOf f (xs.take k))) ∧ Below w.heap.size w wr) (fun i _ _ => xs.length - (intOf i).toNat)
  case atStart => exact ⟨0, Nat.zero_le _, rfl, O1.out, B1.out⟩
  case round =>
    obtain ⟨k, hk, rfl, hown, hbel⟩ := hrel
    have B := Lib.hid hbel
    by_cases hlt : k < xs.length
    · obtain ⟨s, hs⟩ : ∃ s, xs[k]? = some s := ⟨xs[k]'hlt, List.getElem?_eq_getElem _⟩
      obtain ⟨b, o, rfl, hbw, hat⟩ := (S.out.below hbel).at (by omega)
      obtain ⟨c0, c1, c2, c3, c4⟩ := hat k s hs
      have OK := Lib.hid (areLo_ok H1.out (List.mem_of_getElem? hs))
      have hi0 : (0 : Int) ≤ (k : Int) := by omega
      have hi1 : (k : Int) < (xs.length : Int) := by omega
      have NX := Lib.hid (sheets_more (f := f) hs)
      have LL := sheetsOf_len f (xs.take k)
      have LT : (xs.take k).length ≤ 15 := by rw [List.length_take]; omega
      have hsz := hbel.size
      obtain ⟨L, hL⟩ : ∃ L, sheetsOf f (xs.take k) = L := ⟨_, rfl⟩
      rw [hL] at hown NX LL
      have O := Lib.hid hown
      obtain ⟨q, hq⟩ : ∃ q, openOn d s = q := ⟨_, rfl⟩
      have Q := Lib.hid hq
      have FS := Lib.hid (FF.out s)
      have KS := Lib.hid hs
      clear hs hat hbel hown hL hq

      go_wp2_with fail
      refine (l11IsOpen_any s d _ OK.out).mono ?_
      rintro e w2 ⟨rfl, hb⟩
      rw [Q.out]
      have B2 := Lib.hid (Below.then' B.out hb)
      have O2 := Lib.hid (ownsRow_below O.out hb)
      have s2 := hb.size
      clear c0 c1 c2 c3 c4
      obtain ⟨_, _, eb, _, hat⟩ := (S.out.below B2.out).at (by omega)
      cases eb
      obtain ⟨c0, c1, c2, c3, c4⟩ := hat k s KS.out
      clear hb hat
      cases q
      · have := trivial
        go_wp2
        go_roundw
        case rel => exact ⟨k + 1, by omega, by go_num, by rw [NX.out, if_neg (by rw [FS.out, Q.out]; simp)]; exact O2.out, B2.out⟩
        case measure => simp [intOf]; omega
      by_cases hd : s.Due < d
      · have D1 := Lib.hid (decide_eq_true hd)
        obtain ⟨va, vc, ev, isI, _⟩ := isInts_own O2.out
        subst ev
        have II := Lib.hid isI
        have LL2 : L.length ≤ 1000 := by omega
        clear isI
        go_wp2_with fail
        refine (l1PutO_any va L.length vc L s.Sheet _ II.out LL2).mono ?_
        rintro e w3 ⟨h3, rfl, hi3, hb3, hd3⟩
        have O3 := Lib.hid (put_ownL O2.out (by omega) hb3 hi3 hd3)
        have B3 := Lib.hid (Below.then' B2.out hb3)
        clear hi3 hb3 hd3 c0 c1 c2 c3 c4
        go_wp2
        go_roundw
        case rel => exact ⟨k + 1, by omega, by go_num, by rw [NX.out, if_pos (by rw [FS.out, Q.out, D1.out]; rfl)]; exact O3.out, B3.out⟩
        case measure => simp [intOf]; omega
      · have D1 := Lib.hid (decide_eq_false hd)
        have d1 := D1.out
        go_wp2
        go_roundw
        case rel => exact ⟨k + 1, by omega, by go_num, by rw [NX.out, if_neg (by rw [FS.out, Q.out, D1.out]; simp)]; exact O2.out, B2.out⟩
        case measure => simp [intOf]; omega
    · obtain rfl : k = xs.length := by omega
      have HO := Lib.hid (show (wr.ownsRow w.heap.size 3 1 _ (sheetsOf f xs).length (intCells (sheetsOf f xs))) from by have := hown; rw [List.take_of_length_le (Nat.le_refl _)] at this; exact this)
      clear hbel hown
      go_wp2
      go_ret2
      exact ⟨_, by rw [E1.out]; rfl, by rw [E0.out]; exact HO.out, B.out⟩
end Go.Proofs.YtffbljbgmgifnaaGreatDoor
namespace Go.Proofs.YtffbljbgmgifnaaGreatDoor
open Go.RowKit

theorem last_more {xs : List VLoan} {sh : Int} {k : Nat} {s : VLoan} (hs : xs[k]? = some s) : lastL sh (xs.take (k + 1)) = if s.Sheet = sh then (k : Int) else lastL sh (xs.take k) := by
  rw [take_one hs, lastL_snoc, List.length_take, Nat.min_eq_left (by have := (List.getElem?_eq_some_iff.1 hs).1; omega)]
theorem who_more {xs : List VLoan} {sh d : Int} {k : Nat} {s : VLoan} (hs : xs[k]? = some s) : whoL sh d (xs.take (k + 1)) = if s.Sheet = sh ∧ openOn d s = true then s.Reader else whoL sh d (xs.take k) := by
  unfold whoL; rw [take_one hs, List.foldl_append]; rfl
theorem days_more {xs : List VLoan} {sh d : Int} {k : Nat} {s : VLoan} (hs : xs[k]? = some s) : daysL sh d (xs.take (k + 1)) = daysL sh d (xs.take k) + lentD sh d s := by
  unfold daysL; rw [take_one hs, List.foldl_append]; rfl
theorem lentD_bd {l : VLoan} (h : l.ok = true) {sh d : Int} (h0 : 0 ≤ d) (h1 : d ≤ 4000) : 0 ≤ lentD sh d l ∧ lentD sh d l ≤ 4000 := by
  have k := loOk_iff.1 h
  unfold lentD endL
  split
  · split <;> omega
  · omega
theorem days_bd {xs : List VLoan} {sh d : Int} (h : areLo xs = true) (h0 : 0 ≤ d) (h1 : d ≤ 4000) : ∀ k, 0 ≤ daysL sh d (xs.take k) ∧ daysL sh d (xs.take k) ≤ 60000 := by
  have key : ∀ k, k ≤ xs.length → 0 ≤ daysL sh d (xs.take k) ∧ daysL sh d (xs.take k) ≤ 4000 * (k : Int) := by
    intro k
    induction k with
    | zero => intro _; simp [daysL]
    | succ k ih =>
      intro hk
      have hs : xs[k]? = some (xs[k]'(by omega)) := List.getElem?_eq_getElem _
      have b := lentD_bd (areLo_ok h (List.mem_of_getElem? hs)) (sh := sh) h0 h1
      have c := ih (by omega)
      rw [days_more hs]
      omega
  intro k
  have hl := areLo_len h
  by_cases hk : k ≤ xs.length
  · have := key k hk; omega
  · have := key xs.length (Nat.le_refl _)
    rw [List.take_of_length_le (Nat.le_refl _)] at this
    rw [List.take_of_length_le (by omega)]
    omega
theorem open_iff {l : VLoan} {d : Int} : openOn d l = true ↔ l.Out ≤ d ∧ (l.Back = -1 ∨ d < l.Back) := by simp [openOn]
theorem open_no_back {l : VLoan} (h : l.ok = true) {d : Int} (ho : l.Out ≤ d) (hn : openOn d l = false) : 0 ≤ l.Back ∧ l.Back ≤ 4000 := by
  have k := loOk_iff.1 h
  simp [openOn] at hn
  omega
theorem lentD_shut {l : VLoan} (h : l.ok = true) {sh d : Int} (e : l.Sheet = sh) (ho : l.Out ≤ d) (hn : openOn d l = false) : lentD sh d l = l.Back - l.Out := by
  have k := loOk_iff.1 h
  simp [openOn] at hn
  unfold lentD endL
  rw [if_pos ⟨e, ho⟩, if_neg (by omega)]
  omega
theorem lentD_open {l : VLoan} (h : l.ok = true) {sh d : Int} (e : l.Sheet = sh) (ho : l.Out ≤ d) (hn : openOn d l = true) : lentD sh d l = d - l.Out := by
  have k := loOk_iff.1 h
  simp [openOn] at hn
  unfold lentD endL
  rw [if_pos ⟨e, ho⟩]
  split <;> omega
set_option maxHeartbeats 12800000 in
set_option maxRecDepth 100000 in
theorem specDaysLent_any (a : Option Addr) (len cap : Nat) (xs : List VLoan) (sh d : Int) (w : World) (h : IsLoanS w a len cap xs) (_ : xs.length ≤ 1048576) :
    Calls Tryz.prog 18 #[.slice a len cap, .int .i64 sh, .int .i64 d] w (DaysLent_Post xs sh d w) := by
  have hm := h.2.2.1
  have hcl := h.2.1
  unfold maxLen at hm
  obtain rfl := h.1
  have S := Lib.hid h
  clear h
  obtain ⟨q1, h1⟩ : ∃ q, areLo xs = q := ⟨_, rfl⟩
  have H1 := Lib.hid h1
  obtain ⟨q2, h2⟩ : ∃ q, idB sh = q := ⟨_, rfl⟩
  have H2 := Lib.hid h2
  obtain ⟨q3, h3⟩ : ∃ q, dayB d = q := ⟨_, rfl⟩
  have H3 := Lib.hid h3
  have E1 := Lib.hid (show DaysLent_1 xs sh d = (q1 && (q2 && q3)) from by unfold DaysLent_1; rw [h1, h2, h3])
  have E0 := Lib.hid (show DaysLent_0 xs sh d = if (q1 && (q2 && q3)) = true then daysL sh d xs else 0 from by unfold DaysLent_0; rw [E1.out])
  clear h1 h2 h3
  go_enter Tryz.func18, Tryz.ntmps18
  go_wp2_with fail
  refine (l11Good_any _ _ _ xs _ S.out).mono ?_
  rintro e w1 ⟨rfl, hb⟩
  rw [H1.out]
  have B1 := Lib.hid hb
  clear hb
  cases q1
  · go_wp2
    go_ret2
    exact ⟨by rw [E0.out, E1.out]; rfl, B1.out⟩
  go_wp2_with fail
  refine (l11Id_any _ _).mono ?_
  rintro e w' ⟨rfl, rfl⟩
  rw [H2.out]
  cases q2
  · go_wp2
    go_ret2
    exact ⟨by rw [E0.out, E1.out]; rfl, B1.out⟩
  go_wp2_with fail
  refine (l2Day_any _ _).mono ?_
  rintro e w' ⟨rfl, rfl⟩
  rw [H3.out]
  cases q3
  · go_wp2
    go_ret2
    exact ⟨by rw [E0.out, E1.out]; rfl, B1.out⟩
  have L15 := areLo_len H1.out
  have hd' : 0 ≤ d ∧ d ≤ 4000 := inB_iff.1 H3.out
  go_wp2
  go_loopw [9, 8] (fun i v wr => ∃ k : Nat, k ≤ xs.length ∧ i = .int .i64 k ∧ v = .int .i64 (daysL sh d (xs.take k)) ∧ Below w.heap.size w wr) (fun i _ _ => xs.length - (intOf i).toNat)
  case atStart => exact ⟨0, Nat.zero_le _, rfl, rfl, B1.out⟩
  case round =>
    obtain ⟨k, hk, rfl, rfl, hbel⟩ := hrel
    have B := Lib.hid hbel
    by_cases hlt : k < xs.length
    · obtain ⟨s, hs⟩ : ∃ s, xs[k]? = some s := ⟨xs[k]'hlt, List.getElem?_eq_getElem _⟩
      obtain ⟨b, o, rfl, hbw, hat⟩ := (S.out.below hbel).at (by omega)
      obtain ⟨c0, c1, c2, c3, c4⟩ := hat k s hs
      have OK := Lib.hid (areLo_ok H1.out (List.mem_of_getElem? hs))
      have ok := loOk_iff.1 OK.out
      have hi0 : (0 : Int) ≤ (k : Int) := by omega
      have hi1 : (k : Int) < (xs.length : Int) := by omega
      have NX := Lib.hid (days_more (sh := sh) (d := d) hs)
      have bd := days_bd (sh := sh) (xs := xs) (d := d) H1.out hd'.1 hd'.2 k
      have KS := Lib.hid hs
      have X := Lib.hid (BoxLoan.new wr 43 s _ rfl)
      have BX := Lib.hid (Below.then' B.out (bel_al1 wr (.cells #[.int .i64 s.Sheet, .int .i64 s.Reader, .int .i64 s.Out, .int .i64 s.Due, .int .i64 s.Back] 43)))
      obtain ⟨z, hz⟩ : ∃ z, daysL sh d (xs.take k) = z := ⟨_, rfl⟩
      rw [hz] at NX bd ⊢
      obtain ⟨q, hq⟩ : ∃ q, openOn d s = q := ⟨_, rfl⟩
      have Q := Lib.hid hq
      clear hs hat hbel hz hq
      by_cases hr : s.Sheet = sh
      · have r1 : (s.Sheet == sh) = true := by simp [hr]
        have r2 : (s.Sheet != sh) = false := by simp [hr]
        have R1 := Lib.hid hr
        clear hr
        by_cases hod : s.Out ≤ d
        · have hod2 : ¬ d < s.Out := by omega
          have hod3 : decide (d < s.Out) = false := decide_eq_false hod2
          go_wp2_with fail
          refine (l11IsOpen_any s d _ OK.out).mono ?_
          rintro e w2 ⟨rfl, hb⟩
          rw [Q.out]
          have B2 := Lib.hid (Below.then' BX.out hb)
          clear c0 c1 c2 c3 c4
          obtain ⟨c0, c1, c2, c3, c4⟩ := X.out.below hb
          clear hb
          cases q
          · have LD := Lib.hid (show lentD sh d s = s.Back - s.Out from lentD_shut OK.out R1.out hod Q.out)
            have wb : 0 ≤ s.Back ∧ s.Back ≤ 4000 := open_no_back OK.out hod Q.out
            have v1 : IntKind.i64.wrap (z + s.Back) = z + s.Back := IntWalk.i64_in _ (by omega)
            have v2 : IntKind.i64.wrap (z + s.Back - s.Out) = z + s.Back - s.Out := IntWalk.i64_in _ (by omega)
            go_wp2
            go_roundw
            case rel => exact ⟨k + 1, by omega, by go_num, by rw [NX.out, LD.out]; go_num, B2.out⟩
            case measure => simp [intOf]; omega
          · have LD := Lib.hid (show lentD sh d s = d - s.Out from lentD_open OK.out R1.out hod Q.out)
            have v1 : IntKind.i64.wrap (z + d) = z + d := IntWalk.i64_in _ (by omega)
            have v2 : IntKind.i64.wrap (z + d - s.Out) = z + d - s.Out := IntWalk.i64_in _ (by omega)
            go_wp2
            go_roundw
            case rel => exact ⟨k + 1, by omega, by go_num, by rw [NX.out, LD.out]; go_num, B2.out⟩
            case measure => simp [intOf]; omega
        · have hod2 : d < s.Out := by omega
          have LD := Lib.hid (show lentD sh d s = 0 from by unfold lentD; rw [if_neg (fun h => hod h.2)])
          go_wp2
          go_roundw
          case rel => exact ⟨k + 1, by omega, by go_num, by rw [NX.out, LD.out, Int.add_zero], BX.out⟩
          case measure => simp [intOf]; omega
      · have r1 : (s.Sheet == sh) = false := by simp [hr]
        have r2 : (s.Sheet != sh) = true := by simp [hr]
        have LD := Lib.hid (show lentD sh d s = 0 from by unfold lentD; rw [if_neg (fun h => hr h.1)])
        clear hr
        go_wp2
        go_roundw
        case rel => exact ⟨k + 1, by omega, by go_num, by rw [NX.out, LD.out, Int.add_zero], BX.out⟩
        case measure => simp [intOf]; omega
    · obtain rfl : k = xs.length := by omega
      have T := Lib.hid (show xs.take xs.length = xs from List.take_of_length_le (Nat.le_refl _))
      rw [T.out]
      obtain ⟨z, hz⟩ : ∃ z, daysL sh d xs = z := ⟨_, rfl⟩
      rw [hz] at E0 ⊢
      clear hbel hz
      go_wp2
      go_ret2
      exact ⟨by rw [E0.out, E1.out]; rfl, B.out⟩
end Go.Proofs.YtffbljbgmgifnaaGreatDoor
namespace Go.Proofs.YtffbljbgmgifnaaGreatDoor
open Go.RowKit

theorem times_more {xs : List VLoan} {sh : Int} {k : Nat} {s : VLoan} (hs : xs[k]? = some s) : timesL (xs.take (k + 1)) sh = timesL (xs.take k) sh + if s.Sheet = sh then 1 else 0 := by
  unfold timesL
  rw [take_one hs, List.filter_append, List.length_append]
  by_cases e : s.Sheet = sh
  · simp [e]
  · simp [e]
theorem times_bd (ys : List VLoan) (sh : Int) : 0 ≤ timesL ys sh ∧ timesL ys sh ≤ (ys.length : Int) := by
  unfold timesL
  have := List.length_filter_le (fun l : VLoan => l.Sheet == sh) ys
  omega
theorem times_pos {xs : List VLoan} {s : VLoan} (h : s ∈ xs) : 1 ≤ timesL xs s.Sheet := by
  unfold timesL
  have : 0 < (xs.filter fun l => l.Sheet == s.Sheet).length := List.length_pos_of_mem (List.mem_filter.2 ⟨h, by simp⟩)
  omega
def FavTo (xs : List VLoan) (k : Nat) (bv mv : Int) : Prop := (k = 0 ∧ bv = 0 ∧ mv = 0) ∨ (0 < k ∧ bv = (pickB (favB xs) ⟨0, 0, 0, 0, 0⟩ (xs.take k)).Sheet ∧ mv = timesL xs (pickB (favB xs) ⟨0, 0, 0, 0, 0⟩ (xs.take k)).Sheet)
theorem favB_iff (xs : List VLoan) (x m : VLoan) : favB xs x m = true ↔ timesL xs m.Sheet < timesL xs x.Sheet ∨ (timesL xs m.Sheet = timesL xs x.Sheet ∧ x.Sheet < m.Sheet) := by simp [favB]
theorem fav_yes {xs : List VLoan} {k : Nat} {s : VLoan} {bv mv : Int} (hs : xs[k]? = some s) (h : FavTo xs k bv mv) (hy : mv < timesL xs s.Sheet ∨ (mv = timesL xs s.Sheet ∧ s.Sheet < bv)) : FavTo xs (k + 1) s.Sheet (timesL xs s.Sheet) := by
  refine .inr ⟨by omega, ?_⟩
  rcases h with ⟨rfl, _, _⟩ | ⟨h0, rfl, rfl⟩
  · rw [show (0 : Nat) + 1 = 0 + 1 from rfl, take_one hs]; exact ⟨rfl, rfl⟩
  · rw [pickB_take _ _ h0 hs, if_pos ((favB_iff _ _ _).2 hy)]; exact ⟨rfl, rfl⟩
theorem fav_no {xs : List VLoan} {k : Nat} {s : VLoan} {bv mv : Int} (hs : xs[k]? = some s) (h : FavTo xs k bv mv) (h1 : ¬ mv < timesL xs s.Sheet) (h2 : ¬ (mv = timesL xs s.Sheet ∧ s.Sheet < bv)) : FavTo xs (k + 1) bv mv := by
  rcases h with ⟨rfl, _, rfl⟩ | ⟨h0, rfl, rfl⟩
  · have := times_pos (List.mem_of_getElem? hs); omega
  · refine .inr ⟨by omega, ?_⟩
    rw [pickB_take _ _ h0 hs, if_neg (fun e => ((favB_iff _ _ _).1 e).elim h1 h2)]; exact ⟨rfl, rfl⟩
set_option maxHeartbeats 12800000 in
set_option maxRecDepth 100000 in
theorem specFavoriteSheet_any (a : Option Addr) (len cap : Nat) (xs : List VLoan) (w : World) (h : IsLoanS w a len cap xs) (_ : xs.length ≤ 1048576) :
    Calls Tryz.prog 20 #[.slice a len cap] w (FavoriteSheet_Post xs w) := by
  have hm := h.2.2.1
  have hcl := h.2.1
  unfold maxLen at hm
  obtain rfl := h.1
  have S := Lib.hid h
  clear h
  obtain ⟨q, hq⟩ : ∃ q, areLo xs = q := ⟨_, rfl⟩
  have Q := Lib.hid hq
  clear hq
  by_cases h0 : xs = []
  · subst h0
    have E := Lib.hid (show FavoriteSheet_1 ([] : List VLoan) = false from by unfold FavoriteSheet_1; simp)
    go_enter Tryz.func20, Tryz.ntmps20
    go_wp2_with fail
    refine (l11Good_any _ _ _ [] _ S.out).mono ?_
    rintro e w1 ⟨rfl, hb⟩
    rw [Q.out]
    have B1 := Lib.hid hb
    clear hb
    cases q
    · go_wp2
      go_ret2
      exact ⟨by unfold FavoriteSheet_0; rw [E.out]; rfl, B1.out⟩
    · go_wp2
      go_ret2
      exact ⟨by unfold FavoriteSheet_0; rw [E.out]; rfl, B1.out⟩
  have hp : 0 < xs.length := by cases xs with | nil => exact absurd rfl h0 | cons => simp
  have HP := Lib.hid hp
  have hp2 : ¬ xs.length = 0 := by omega
  have hp3 : ((xs.length : Int) == 0) = false := by simp; exact h0
  go_enter Tryz.func20, Tryz.ntmps20
  go_wp2_with fail
  refine (l11Good_any _ _ _ xs _ S.out).mono ?_
  rintro e w1 ⟨rfl, hb⟩
  rw [Q.out]
  have B1 := Lib.hid hb
  clear hb
  cases q
  · have E := Lib.hid (show FavoriteSheet_1 xs = false from by unfold FavoriteSheet_1; rw [Q.out]; rfl)
    go_wp2
    go_ret2
    exact ⟨by unfold FavoriteSheet_0; rw [E.out]; rfl, B1.out⟩
  have E := Lib.hid (show FavoriteSheet_1 xs = true from by unfold FavoriteSheet_1; rw [Q.out, decide_eq_true hp]; rfl)
  have L15 := areLo_len Q.out
  go_wp2
  clear hp2 hp3 hp h0
  go_loopw [6, 4, 5] (fun i b m wr => ∃ (k : Nat) (bv mv : Int), k ≤ xs.length ∧ i = .int .i64 k ∧ b = .int .i64 bv ∧ m = .int .i64 mv ∧ FavTo xs k bv mv ∧ Below w.heap.size w wr) (fun i _ _ _ => xs.length - (intOf i).toNat)
  case atStart => exact ⟨0, 0, 0, Nat.zero_le _, rfl, rfl, rfl, .inl ⟨rfl, rfl, rfl⟩, B1.out⟩
  case round =>
    obtain ⟨k, bv, mv, hk, rfl, rfl, rfl, hr, hbel⟩ := hrel
    have B := Lib.hid hbel
    have R := Lib.hid hr
    clear hr
    by_cases hlt : k < xs.length
    · obtain ⟨s, hs⟩ : ∃ s, xs[k]? = some s := ⟨xs[k]'hlt, List.getElem?_eq_getElem _⟩
      have HS := Lib.hid hs
      have hi0 : (0 : Int) ≤ (k : Int) := by omega
      have hi1 : (k : Int) < (xs.length : Int) := by omega
      rename World => wo
      clear hbel hs
      go_wp2
      go_loopw [8, 7] (fun i v wr => ∃ j : Nat, j ≤ xs.length ∧ i = .int .i64 j ∧ v = .int .i64 (timesL (xs.take j) s.Sheet) ∧ Below w.heap.size w wr) (fun i _ _ => xs.length - (intOf i).toNat)
      case atStart => exact ⟨0, Nat.zero_le _, rfl, rfl, B.out⟩
      case round =>
        obtain ⟨j, hj, rfl, rfl, hbel⟩ := hrel
        have BJ := Lib.hid hbel
        by_cases hjl : j < xs.length
        · obtain ⟨c, hc⟩ : ∃ c, xs[j]? = some c := ⟨xs[j]'hjl, List.getElem?_eq_getElem _⟩
          obtain ⟨b, o, rfl, _, hat⟩ := (S.out.below hbel).at (by omega)
          obtain ⟨c0, _⟩ := hat k s HS.out
          obtain ⟨d0, _⟩ := hat j c hc
          have hj0 : (0 : Int) ≤ (j : Int) := by omega
          have hj1 : (j : Int) < (xs.length : Int) := by omega
          have NX := Lib.hid (times_more (sh := s.Sheet) hc)
          have bd := times_bd (xs.take j) s.Sheet
          have lt : (xs.take j).length ≤ 15 := by rw [List.length_take]; omega
          obtain ⟨z, hz⟩ : ∃ z, timesL (xs.take j) s.Sheet = z := ⟨_, rfl⟩
          rw [hz] at NX bd ⊢
          have v1 : IntKind.i64.wrap (z + 1) = z + 1 := IntWalk.i64_in _ (by omega)
          clear hbel hat hc hz
          by_cases hsh : c.Sheet = s.Sheet
          · have s1 : (c.Sheet == s.Sheet) = true := by simp [hsh]
            have S1 := Lib.hid hsh
            clear hsh
            go_wp2
            go_quiet (fail)
            have B3 := Lib.hid (Below.then' BJ.out (bel_drawn _ nq))
            go_wp2
            go_roundw
            case rel => exact ⟨j + 1, by omega, by go_num, by rw [NX.out, if_pos S1.out], B3.out⟩
            case measure => simp [intOf]; omega
          · have s1 : (c.Sheet == s.Sheet) = false := by simp [hsh]
            have S1 := Lib.hid hsh
            clear hsh
            go_wp2
            go_quiet (fail)
            have B3 := Lib.hid (Below.then' BJ.out (bel_drawn _ nq))
            go_wp2
            go_roundw
            case rel => exact ⟨j + 1, by omega, by go_num, by rw [NX.out, if_neg S1.out, Int.add_zero], B3.out⟩
            case measure => simp [intOf]; omega
        · obtain rfl : j = xs.length := by omega
          have T := Lib.hid (show xs.take xs.length = xs from List.take_of_length_le (Nat.le_refl _))
          rw [T.out]
          obtain ⟨b, o, rfl, _, hat⟩ := (S.out.below hbel).at (by omega)
          obtain ⟨c0, _⟩ := hat k s HS.out
          have YES := Lib.hid (fun hy => fav_yes (bv := bv) (mv := mv) HS.out R.out hy)
          have NO := Lib.hid (fun h1 h2 => fav_no (bv := bv) (mv := mv) HS.out R.out h1 h2)
          obtain ⟨n, hn⟩ : ∃ n, timesL xs s.Sheet = n := ⟨_, rfl⟩
          rw [hn] at YES NO ⊢
          clear hbel hat hn
          by_cases h1 : mv < n
          · have Y := Lib.hid (YES.out (.inl h1))
            go_wp2
            go_roundw
            case rel => exact ⟨k + 1, _, _, by omega, by go_num, rfl, rfl, Y.out, BJ.out⟩
            case measure => simp [intOf]; omega
          · have h1' : decide (mv < n) = false := decide_eq_false h1
            by_cases h2 : n = mv
            · have h2' : (n == mv) = true := by simp [h2]
              by_cases h3 : s.Sheet < bv
              · have Y := Lib.hid (YES.out (.inr ⟨h2.symm, h3⟩))
                clear h2
                go_wp2
                go_roundw
                case rel => exact ⟨k + 1, _, _, by omega, by go_num, rfl, rfl, Y.out, BJ.out⟩
                case measure => simp [intOf]; omega
              · have h3' : decide (s.Sheet < bv) = false := decide_eq_false h3
                have Y := Lib.hid (NO.out h1 (fun h => h3 h.2))
                clear h2
                go_wp2
                go_roundw
                case rel => exact ⟨k + 1, _, _, by omega, by go_num, rfl, rfl, Y.out, BJ.out⟩
                case measure => simp [intOf]; omega
            · have h2' : (n == mv) = false := by simp [h2]
              have Y := Lib.hid (NO.out h1 (fun h => h2 h.1.symm))
              clear h2
              go_wp2
              go_roundw
              case rel => exact ⟨k + 1, _, _, by omega, by go_num, rfl, rfl, Y.out, BJ.out⟩
              case measure => simp [intOf]; omega
    · obtain rfl : k = xs.length := by omega
      have RR := Lib.hid (show bv = FavoriteSheet_0 xs from by
        rcases R.out with ⟨h, _, _⟩ | ⟨_, h1, _⟩
        · have := HP.out; omega
        · rw [List.take_of_length_le (Nat.le_refl _)] at h1
          unfold FavoriteSheet_0
          rw [E.out]; exact h1)
      clear hbel
      go_wp2
      go_ret2
      exact ⟨by rw [← RR.out, E.out]; rfl, B.out⟩
end Go.Proofs.YtffbljbgmgifnaaGreatDoor
