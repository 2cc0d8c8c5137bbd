/- Loans in the model: open and late ones. -/
import Derived.Test.YtffbljbgmgifnaaLos3
import Derived.Test.YtffbljbgmgifnaaPutL2
import Derived.Test.YtffbljbgmgifnaaOpenLoansP
import Derived.Test.YtffbljbgmgifnaaLateOnP
namespace Go.Proofs.Ytffbljbgmgifnaa
open Go.RowKit

theorem isInts_sameL {w : World} {a : Option Addr} {n c : Nat} {xs ys : List Int} (h : IsInts w a n c xs) (h' : IsInts w a n c ys) : xs = ys := by
  have e1 := h.1
  have e2 := h'.1
  apply List.ext_getElem?
  intro j
  by_cases hj : j < xs.length
  · obtain ⟨b, o, rfl, _, hat⟩ := h.at (by omega)
    obtain ⟨b', o', e, _, hat'⟩ := h'.at (by omega)
    cases e
    have h1 : xs[j]? = some xs[j] := List.getElem?_eq_getElem hj
    have h2 : ys[j]? = some (ys[j]'(by omega)) := List.getElem?_eq_getElem (by omega)
    have c1 := hat j _ h1
    have c2 := hat' j _ h2
    rw [c1] at c2
    rw [h1, h2]
    injection c2 with c2
    injection c2 with _ c2
    rw [c2]
  · rw [List.getElem?_eq_none (by omega), List.getElem?_eq_none (by omega)]
theorem put_ownL {lo : Nat} {W W' : World} {a : Option Addr} {n c : Nat} {L L' : List Int} {h : Hd} (O : W.ownsRow lo 3 1 (.slice a n c) L.length (intCells L)) (hlo : lo ≤ W.heap.size) (hb : Below W.heap.size W W') (hi : IsInts W' h.a h.n h.c L') (hd : (h.a = a ∧ h.n = n ∧ h.c = c) ∨ W'.ownsRow W.heap.size 3 1 (.slice h.a h.n h.c) L'.length (intCells L')) : W'.ownsRow lo 3 1 (.slice h.a h.n h.c) L'.length (intCells L') := by
  rcases hd with ⟨h1, h2, h3⟩ | hd
  · obtain ⟨a', c', e, hi', _⟩ := isInts_own O
    injection e with e1 e2 e3
    subst e1 e2 e3
    rw [h1, h2, h3] at hi ⊢
    have := isInts_sameL hi (hi'.below hb)
    subst this
    exact ownsRow_below O hb
  · exact ownsRow_base hd hlo

theorem open_spec {s : VLoan} (hs : s.ok = true) (d : Int) : openOn d s = (decide (s.Out ≤ d) && (decide (s.Back < 0) || decide (d < s.Back))) := by
  have k := loOk_iff.1 hs
  unfold openOn
  have e : (s.Back == -1) = decide (s.Back < 0) := by rw [Bool.eq_iff_iff]; simp; omega
  rw [e]
set_option maxHeartbeats 1600000 in
theorem l11IsOpen_any (s : VLoan) (d : Int) (w : World) (hs : s.ok = true) :
    Calls Try.prog 107 #[.agg #[.int .i64 s.Sheet, .int .i64 s.Reader, .int .i64 s.Out, .int .i64 s.Due, .int .i64 s.Back], .int .i64 d] w fun e w' => e = .returned (.bool (openOn d s)) ∧ Below w.heap.size w w' := by
  have E := Lib.hid (open_spec hs d)
  clear hs
  by_cases h1 : s.Out ≤ d
  · have D1 := Lib.hid (decide_eq_true h1)
    by_cases h2 : s.Back < 0
    · have D2 := Lib.hid (decide_eq_true h2)
      go_enter Try.func107, Try.ntmps107
      go_wp2
      go_ret
      exact ⟨ret_bool (by rw [E.out, D1.out, D2.out]; rfl), bel_al1 _ _⟩
    · have D2 := Lib.hid (decide_eq_false h2)
      go_enter Try.func107, Try.ntmps107
      go_wp2
      go_ret
      exact ⟨ret_bool (by rw [E.out, D1.out, D2.out]; rfl), bel_al1 _ _⟩
  · have D1 := Lib.hid (decide_eq_false h1)
    go_enter Try.func107, Try.ntmps107
    go_wp2
    go_ret
    exact ⟨ret_bool (by rw [E.out, D1.out]; rfl), bel_al1 _ _⟩
theorem sheets_more {f : VLoan → Bool} {xs : List VLoan} {k : Nat} {s : VLoan} (hs : xs[k]? = some s) : sheetsOf f (xs.take (k + 1)) = if f s = true then putN s.Sheet (sheetsOf f (xs.take k)) else sheetsOf f (xs.take k) := by
  unfold sheetsOf
  rw [where_more f VLoan.Sheet hs, List.foldl_append]
  by_cases h : f s = true
  · rw [if_pos h, if_pos h]; rfl
  · rw [if_neg h, if_neg h]; rfl
set_option maxHeartbeats 12800000 in
set_option maxRecDepth 100000 in
theorem specOpenLoans_any (a : Option Addr) (len cap : Nat) (xs : List VLoan) (r d : Int) (w : World) (h : IsLoanS w a len cap xs) (_ : xs.length ≤ 1048576) :
    Calls Try.prog 54 #[.slice a len cap, .int .i64 r, .int .i64 d] w (OpenLoans_Post xs r d w) := by
  have hm := h.2.2.1
  have hcl := h.2.1
  unfold maxLen at hm
  obtain rfl := h.1
  have S := Lib.hid h
  clear h
  obtain ⟨q1, h1⟩ : ∃ q, areLo xs = q := ⟨_, rfl⟩
  have H1 := Lib.hid h1
  obtain ⟨q2, h2⟩ : ∃ q, idB r = q := ⟨_, rfl⟩
  have H2 := Lib.hid h2
  obtain ⟨q3, h3⟩ : ∃ q, dayB d = q := ⟨_, rfl⟩
  have H3 := Lib.hid h3
  have E1 := Lib.hid (show OpenLoans_1 xs r d = (q1 && (q2 && q3)) from by unfold OpenLoans_1; rw [h1, h2, h3])
  have E0 := Lib.hid (show OpenLoans_0 xs r d = if (q1 && (q2 && q3)) = true then sheetsOf (fun l => l.Reader == r && openOn d l) xs else [] from by unfold OpenLoans_0; rw [E1.out])
  clear h1 h2 h3
  have O0 := Lib.hid (made_ids w)
  have B0 := Lib.hid (wh_al1 w (.cells #[] 3))
  have S0 := Lib.hid (S.out.below B0.out)
  go_enter Try.func54, Try.ntmps54
  go_wp2_with fail
  refine (l11Good_any _ _ _ xs _ S0.out).mono ?_
  rintro e w1 ⟨rfl, hb⟩
  rw [H1.out]
  have B1 := Lib.hid (Below.then' B0.out hb)
  have S1 := Lib.hid (S0.out.below hb)
  have O1 := Lib.hid (ownsRow_below O0.out hb)
  clear hb
  cases q1
  · go_wp2
    go_ret2
    exact ⟨_, by rw [E1.out]; rfl, by rw [E0.out]; exact O1.out, B1.out⟩
  go_wp2_with fail
  refine (l11Id_any _ _).mono ?_
  rintro e w' ⟨rfl, rfl⟩
  rw [H2.out]
  cases q2
  · go_wp2
    go_ret2
    exact ⟨_, by rw [E1.out]; rfl, by rw [E0.out]; exact O1.out, B1.out⟩
  go_wp2_with fail
  refine (l2Day_any _ _).mono ?_
  rintro e w' ⟨rfl, rfl⟩
  rw [H3.out]
  cases q3
  · go_wp2
    go_ret2
    exact ⟨_, by rw [E1.out]; rfl, by rw [E0.out]; exact O1.out, B1.out⟩
  have L15 := areLo_len H1.out
  obtain ⟨f, hf⟩ : ∃ f : VLoan → Bool, (fun l => l.Reader == r && openOn d l) = f := ⟨_, rfl⟩
  have FF := Lib.hid (show ∀ s : VLoan, f s = (s.Reader == r && openOn d s) from fun s => by subst hf; rfl)
  rw [hf] at E0
  clear hf
  go_wp2
  go_loopw [9, 8] (fun i o wr => ∃ k : Nat, k ≤ xs.length ∧ i = .int .i64 k ∧ wr.ownsRow w.heap.size 3 1 o (sheetsOf f (xs.take k)).length (intCells (sheetsOf f (xs.take k))) ∧ Below w.heap.size w wr) (fun i _ _ => xs.length - (intOf i).toNat)
  case atStart => exact ⟨0, Nat.zero_le _, rfl, O1.out, B1.out⟩
  case round =>
    obtain ⟨k, hk, rfl, hown, hbel⟩ := hrel
    have B := Lib.hid hbel
    by_cases hlt : k < xs.length
    · obtain ⟨s, hs⟩ : ∃ s, xs[k]? = some s := ⟨xs[k]'hlt, List.getElem?_eq_getElem _⟩
      obtain ⟨b, o, rfl, hbw, hat⟩ := (S.out.below hbel).at (by omega)
      obtain ⟨c0, c1, c2, c3, c4⟩ := hat k s hs
      have OK := Lib.hid (areLo_ok H1.out (List.mem_of_getElem? hs))
      have hi0 : (0 : Int) ≤ (k : Int) := by omega
      have hi1 : (k : Int) < (xs.length : Int) := by omega
      have NX := Lib.hid (sheets_more (f := f) hs)
      have LL := sheetsOf_len f (xs.take k)
      have LT : (xs.take k).length ≤ 15 := by rw [List.length_take]; omega
      have hsz := hbel.size
      obtain ⟨L, hL⟩ : ∃ L, sheetsOf f (xs.take k) = L := ⟨_, rfl⟩
      rw [hL] at hown NX LL
      have O := Lib.hid hown
      obtain ⟨q, hq⟩ : ∃ q, openOn d s = q := ⟨_, rfl⟩
      have Q := Lib.hid hq
      have FS := Lib.hid (FF.out s)
      have KS := Lib.hid hs
      clear hs hat hbel hown hL hq

      by_cases hr : s.Reader = r
      · have r1 : (s.Reader == r) = true := by simp [hr]
        have R1 := Lib.hid r1
        clear hr
        go_wp2_with fail
        refine (l11IsOpen_any s d _ OK.out).mono ?_
        rintro e w2 ⟨rfl, hb⟩
        rw [Q.out]
        have B2 := Lib.hid (Below.then' B.out hb)
        have O2 := Lib.hid (ownsRow_below O.out hb)
        have s2 := hb.size
        clear c0 c1 c2 c3 c4
        obtain ⟨_, _, eb, _, hat⟩ := (S.out.below B2.out).at (by omega)
        cases eb
        obtain ⟨c0, c1, c2, c3, c4⟩ := hat k s KS.out
        clear hb hat
        cases q
        · have := trivial
          go_wp2
          go_roundw
          case rel => exact ⟨k + 1, by omega, by go_num, by rw [NX.out, if_neg (by rw [FS.out, Q.out, Bool.and_false]; simp)]; exact O2.out, B2.out⟩
          case measure => simp [intOf]; omega
        · have := trivial
          obtain ⟨va, vc, ev, isI, _⟩ := isInts_own O2.out
          subst ev
          have II := Lib.hid isI
          have LL2 : L.length ≤ 1000 := by omega
          clear isI
          go_wp2_with fail
          refine (l1PutO_any va L.length vc L s.Sheet _ II.out LL2).mono ?_
          rintro e w3 ⟨h3, rfl, hi3, hb3, hd3⟩
          have O3 := Lib.hid (put_ownL O2.out (by omega) hb3 hi3 hd3)
          have B3 := Lib.hid (Below.then' B2.out hb3)
          clear hi3 hb3 hd3 c0 c1 c2 c3 c4
          go_wp2
          go_roundw
          case rel => exact ⟨k + 1, by omega, by go_num, by rw [NX.out, if_pos (by rw [FS.out, R1.out, Q.out]; rfl)]; exact O3.out, B3.out⟩
          case measure => simp [intOf]; omega
      · have r1 : (s.Reader == r) = false := by simp [hr]
        have R1 := Lib.hid r1
        clear hr
        go_wp2
        go_roundw
        case rel => exact ⟨k + 1, by omega, by go_num, by rw [NX.out, if_neg (by rw [FS.out, R1.out]; simp)]; exact O.out, B.out⟩
        case measure => simp [intOf]; omega
    · obtain rfl : k = xs.length := by omega
      have HO := Lib.hid (show (wr.ownsRow w.heap.size 3 1 _ (sheetsOf f xs).length (intCells (sheetsOf f xs))) from by have := hown; rw [List.take_of_length_le (Nat.le_refl _)] at this; exact this)
      clear hbel hown
      go_wp2
      go_ret2
      exact ⟨_, by rw [E1.out]; rfl, by rw [E0.out]; exact HO.out, B.out⟩
set_option maxHeartbeats 12800000 in
set_option maxRecDepth 100000 in
theorem specLateOn_any (a : Option Addr) (len cap : Nat) (xs : List VLoan) (d : Int) (w : World) (h : IsLoanS w a len cap xs) (_ : xs.length ≤ 1048576) :
    Calls Try.prog 58 #[.slice a len cap, .int .i64 d] w (LateOn_Post xs d w) := by
  have hm := h.2.2.1
  have hcl := h.2.1
  unfold maxLen at hm
  obtain rfl := h.1
  have S := Lib.hid h
  clear h
  obtain ⟨q1, h1⟩ : ∃ q, areLo xs = q := ⟨_, rfl⟩
  have H1 := Lib.hid h1
  obtain ⟨q2, h2⟩ : ∃ q, dayB d = q := ⟨_, rfl⟩
  have H2 := Lib.hid h2
  have E1 := Lib.hid (show LateOn_1 xs d = (q1 && q2) from by unfold LateOn_1; rw [h1, h2])
  have E0 := Lib.hid (show LateOn_0 xs d = if (q1 && q2) = true then sheetsOf (lateOn d) xs else [] from by unfold LateOn_0; rw [E1.out])
  clear h1 h2
  have O0 := Lib.hid (made_ids w)
  have B0 := Lib.hid (wh_al1 w (.cells #[] 3))
  have S0 := Lib.hid (S.out.below B0.out)
  go_enter Try.func58, Try.ntmps58
  go_wp2_with fail
  refine (l11Good_any _ _ _ xs _ S0.out).mono ?_
  rintro e w1 ⟨rfl, hb⟩
  rw [H1.out]
  have B1 := Lib.hid (Below.then' B0.out hb)
  have S1 := Lib.hid (S0.out.below hb)
  have O1 := Lib.hid (ownsRow_below O0.out hb)
  clear hb
  cases q1
  · go_wp2
    go_ret2
    exact ⟨_, by rw [E1.out]; rfl, by rw [E0.out]; exact O1.out, B1.out⟩
  go_wp2_with fail
  refine (l2Day_any _ _).mono ?_
  rintro e w' ⟨rfl, rfl⟩
  rw [H2.out]
  cases q2
  · go_wp2
    go_ret2
    exact ⟨_, by rw [E1.out]; rfl, by rw [E0.out]; exact O1.out, B1.out⟩
  have L15 := areLo_len H1.out
  obtain ⟨f, hf⟩ : ∃ f : VLoan → Bool, (lateOn d) = f := ⟨_, rfl⟩
  have FF := Lib.hid (show ∀ s : VLoan, f s = (openOn d s && decide (s.Due < d)) from fun s => by subst hf; rfl)
  rw [hf] at E0
  clear hf
  go_wp2
  go_loopw [7, 6] (fun i o wr => ∃ k : Nat, k ≤ xs.length ∧ i = .int .i64 k ∧ wr.ownsRow w.heap.size 3 1 o (sheetsOf f (xs.take k)).length (intCells (sheetsOf f (xs.take k))) ∧ Below w.heap.size w wr) (fun i _ _ => xs.length - (intOf i).toNat)
  case atStart => exact ⟨0, Nat.zero_le _, rfl, O1.out, B1.out⟩
  case round =>
    obtain ⟨k, hk, rfl, hown, hbel⟩ := hrel
    have B := Lib.hid hbel
    by_cases hlt : k < xs.length
    · obtain ⟨s, hs⟩ : ∃ s, xs[k]? = some s := ⟨xs[k]'hlt, List.getElem?_eq_getElem _⟩
      obtain ⟨b, o, rfl, hbw, hat⟩ := (S.out.below hbel).at (by omega)
      obtain ⟨c0, c1, c2, c3, c4⟩ := hat k s hs
      have OK := Lib.hid (areLo_ok H1.out (List.mem_of_getElem? hs))
      have hi0 : (0 : Int) ≤ (k : Int) := by omega
      have hi1 : (k : Int) < (xs.length : Int) := by omega
      have NX := Lib.hid (sheets_more (f := f) hs)
      have LL := sheetsOf_len f (xs.take k)
      have LT : (xs.take k).length ≤ 15 := by rw [List.length_take]; omega
      have hsz := hbel.size
      obtain ⟨L, hL⟩ : ∃ L, sheetsOf f (xs.take k) = L := ⟨_, rfl⟩
      rw [hL] at hown NX LL
      have O := Lib.hid hown
      obtain ⟨q, hq⟩ : ∃ q, openOn d s = q := ⟨_, rfl⟩
      have Q := Lib.hid hq
      have FS := Lib.hid (FF.out s)
      have KS := Lib.hid hs
      clear hs hat hbel hown hL hq

      go_wp2_with fail
      refine (l11IsOpen_any s d _ OK.out).mono ?_
      rintro e w2 ⟨rfl, hb⟩
      rw [Q.out]
      have B2 := Lib.hid (Below.then' B.out hb)
      have O2 := Lib.hid (ownsRow_below O.out hb)
      have s2 := hb.size
      clear c0 c1 c2 c3 c4
      obtain ⟨_, _, eb, _, hat⟩ := (S.out.below B2.out).at (by omega)
      cases eb
      obtain ⟨c0, c1, c2, c3, c4⟩ := hat k s KS.out
      clear hb hat
      cases q
      · have := trivial
        go_wp2
        go_roundw
        case rel => exact ⟨k + 1, by omega, by go_num, by rw [NX.out, if_neg (by rw [FS.out, Q.out]; simp)]; exact O2.out, B2.out⟩
        case measure => simp [intOf]; omega
      by_cases hd : s.Due < d
      · have D1 := Lib.hid (decide_eq_true hd)
        obtain ⟨va, vc, ev, isI, _⟩ := isInts_own O2.out
        subst ev
        have II := Lib.hid isI
        have LL2 : L.length ≤ 1000 := by omega
        clear isI
        go_wp2_with fail
        refine (l1PutO_any va L.length vc L s.Sheet _ II.out LL2).mono ?_
        rintro e w3 ⟨h3, rfl, hi3, hb3, hd3⟩
        have O3 := Lib.hid (put_ownL O2.out (by omega) hb3 hi3 hd3)
        have B3 := Lib.hid (Below.then' B2.out hb3)
        clear hi3 hb3 hd3 c0 c1 c2 c3 c4
        go_wp2
        go_roundw
        case rel => exact ⟨k + 1, by omega, by go_num, by rw [NX.out, if_pos (by rw [FS.out, Q.out, D1.out]; rfl)]; exact O3.out, B3.out⟩
        case measure => simp [intOf]; omega
      · have D1 := Lib.hid (decide_eq_false hd)
        have d1 := D1.out
        go_wp2
        go_roundw
        case rel => exact ⟨k + 1, by omega, by go_num, by rw [NX.out, if_neg (by rw [FS.out, Q.out, D1.out]; simp)]; exact O2.out, B2.out⟩
        case measure => simp [intOf]; omega
    · obtain rfl : k = xs.length := by omega
      have HO := Lib.hid (show (wr.ownsRow w.heap.size 3 1 _ (sheetsOf f xs).length (intCells (sheetsOf f xs))) from by have := hown; rw [List.take_of_length_le (Nat.le_refl _)] at this; exact this)
      clear hbel hown
      go_wp2
      go_ret2
      exact ⟨_, by rw [E1.out]; rfl, by rw [E0.out]; exact HO.out, B.out⟩
end Go.Proofs.Ytffbljbgmgifnaa
