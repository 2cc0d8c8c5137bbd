/- Turns and chains in the program and in the model: what is valid. -/
import Derived.Test.YtghgipadogdfiaaPt2
import Derived.Test.YtghgipadogdfiaaGcd
import Derived.Test.YtghgipadogdfiaaSheet2
import Derived.Test.YtghgipadogdfiaaShs
namespace Go.Proofs.Ytghgipadogdfiaa
open Go.RowKit

theorem areIn1 (lo hi x : Int) (t : TypeId) (w : World) (B : Nat) (hB : w.heap.size = B) :
    Calls Try.prog 66 #[.int .i64 lo, .int .i64 hi, .slice (some ⟨B, 0, none⟩) 1 1] (w.alloc (.cells #[.int .i64 x] t)) fun e w' => e = .returned (.bool (inB x lo hi)) ∧ w.alloc (.cells #[.int .i64 x] t) = w' :=
  (areInRange_any B 1 1 [x] lo hi _ rfl (by omega) (lit1 w x t B hB)).mono fun e w' h => ⟨by rw [h.1]; simp, h.2⟩
theorem areIn2 (lo hi x y : Int) (t : TypeId) (w : World) (B : Nat) (hB : w.heap.size = B) :
    Calls Try.prog 66 #[.int .i64 lo, .int .i64 hi, .slice (some ⟨B, 0, none⟩) 2 2] (w.alloc (.cells #[.int .i64 x, .int .i64 y] t)) fun e w' => e = .returned (.bool (inB x lo hi && inB y lo hi)) ∧ w.alloc (.cells #[.int .i64 x, .int .i64 y] t) = w' :=
  (areInRange_any B 2 2 [x, y] lo hi _ rfl (by omega) (lit2 w x y t B hB)).mono fun e w' h => ⟨by rw [h.1]; simp, h.2⟩
def BoolPost (q : Bool) (w : World) (e : Ending) (w' : World) : Prop := e = .returned (.bool q) ∧ Below w.heap.size w w'

set_option maxHeartbeats 1600000 in
theorem l4Turn_any (t : VGridTurn) (w : World) :
    Calls Try.prog 65 #[.agg #[.int .i64 t.Quarters, .int .i64 t.Num, .int .i64 t.Den, .int .i64 t.East, .int .i64 t.North]] w (BoolPost t.ok w) := by
  go_enter Try.func65, Try.ntmps65
  go_wp2_with (go_at_call 62; refine (l1In_any _ _ _ _).mono ?_; rintro e w' ⟨rfl, rfl⟩)
  all_goals go_ret
  all_goals exact ⟨ret_bool (by simp [VGridTurn.ok, *]), bel_al1 _ _⟩
theorem specIsGridTurn_any (t : VGridTurn) (w : World) :
    Calls Try.prog 24 #[.agg #[.int .i64 t.Quarters, .int .i64 t.Num, .int .i64 t.Den, .int .i64 t.East, .int .i64 t.North]] w (BoolPost t.ok w) := by
  go_enter Try.func24, Try.ntmps24
  go_wp2_with fail
  refine (l4Turn_any t _).mono ?_
  rintro e w1 ⟨rfl, hb⟩
  have B := Lib.hid (Below.then' (bel_al1 _ _) hb)
  clear hb
  go_wp2
  go_ret
  exact ⟨rfl, B.out⟩
set_option maxHeartbeats 3200000 in
theorem implIsGridTurn_any (t : VGridTurn) (w : World) :
    Calls Try.prog 26 #[.agg #[.int .i64 t.Quarters, .int .i64 t.Num, .int .i64 t.Den, .int .i64 t.East, .int .i64 t.North]] w (BoolPost t.ok w) := by
  obtain ⟨q1, h1⟩ : ∃ q, inB t.Quarters 0 3 = q := ⟨_, rfl⟩
  obtain ⟨q2, h2⟩ : ∃ q, (inB t.Num 1 20 && inB t.Den 1 20) = q := ⟨_, rfl⟩
  obtain ⟨q3, h3⟩ : ∃ q, (inB t.East (-99999) 99999 && inB t.North (-99999) 99999) = q := ⟨_, rfl⟩
  have H := Lib.hid (show t.ok = (q1 && q2 && q3) by unfold VGridTurn.ok; rw [h1, h2, h3])
  have H1 := Lib.hid h1
  have H2 := Lib.hid h2
  have H3 := Lib.hid h3
  clear h1 h2 h3
  have X0 := Lib.hid (BoxGridTurn.new w 40 t _ rfl)
  have B0 := Lib.hid (bel_al1 w (.cells #[.int .i64 t.Quarters, .int .i64 t.Num, .int .i64 t.Den, .int .i64 t.East, .int .i64 t.North] 40))
  have X1 := Lib.hid (X0.out.below (bel_al1 _ (.cells #[.int .i64 t.Quarters] 3)))
  have B1 := Lib.hid (Below.then' B0.out (bel_al1 _ (.cells #[.int .i64 t.Quarters] 3)))
  have X2 := Lib.hid (X1.out.below (bel_al1 _ (.cells #[.int .i64 t.Num, .int .i64 t.Den] 3)))
  have B2 := Lib.hid (Below.then' B1.out (bel_al1 _ (.cells #[.int .i64 t.Num, .int .i64 t.Den] 3)))
  obtain ⟨c0, c1, c2, c3, c4⟩ := X0.out
  go_enter Try.func26, Try.ntmps26
  go_wp2_with fail
  refine (areIn1 _ _ _ _ _ _ (by simp)).mono ?_
  rintro e w' ⟨rfl, rfl⟩
  rw [H1.out]
  clear c0 c1 c2 c3 c4
  obtain ⟨c0, c1, c2, c3, c4⟩ := X1.out
  cases q1
  · go_wp2
    go_ret
    exact ⟨ret_bool H.out.symm, B1.out⟩
  go_wp2_with fail
  refine (areIn2 _ _ _ _ _ _ _ (by simp)).mono ?_
  rintro e w' ⟨rfl, rfl⟩
  rw [H2.out]
  clear c0 c1 c2 c3 c4
  obtain ⟨c0, c1, c2, c3, c4⟩ := X2.out
  cases q2
  · go_wp2
    go_ret
    exact ⟨ret_bool H.out.symm, B2.out⟩
  go_wp2_with fail
  refine (areIn2 _ _ _ _ _ _ _ (by simp)).mono ?_
  rintro e w' ⟨rfl, rfl⟩
  rw [H3.out]
  go_wp2
  go_ret
  exact ⟨ret_bool (by rw [H.out]; rfl), Below.then' B2.out (bel_al1 _ _)⟩

set_option maxHeartbeats 400000 in
theorem l4Place_any (x y : Int) (w : World) :
    Calls Try.prog 56 #[.int .i64 x, .int .i64 y] w fun e w' => e = .returned (.bool (placeB x y)) ∧ w = w' := by
  go_enter Try.func56, Try.ntmps56
  go_wp2_with (go_at_call 62; refine (l1In_any _ _ _ _).mono ?_; rintro e w' ⟨rfl, rfl⟩)
  all_goals go_ret
  all_goals exact ⟨ret_bool (by simp [placeB, *]), rfl⟩
theorem isPlace_any (x y : Int) (w : World) :
    Calls Try.prog 53 #[.int .i64 x, .int .i64 y] w (BoolPost (placeB x y) w) := by
  go_enter Try.func53, Try.ntmps53
  go_wp2_with fail
  refine (areIn2 _ _ _ _ _ _ _ rfl).mono ?_
  rintro e w' ⟨rfl, rfl⟩
  go_wp2
  go_ret
  exact ⟨rfl, bel_al1 _ _⟩

theorem all_ok_snoc (xs : List VGridTurn) (k : Nat) (t : VGridTurn) (h : xs[k]? = some t) : (xs.take (k + 1)).all VGridTurn.ok = ((xs.take k).all VGridTurn.ok && t.ok) := by
  rw [List.take_add_one, h]; simp
theorem chOk_no {xs : List VGridTurn} {k : Nat} {t : VGridTurn} (h : xs[k]? = some t) (ht : t.ok = false) : chOk xs = false := by
  have : xs.all VGridTurn.ok = false := by rw [List.all_eq_false]; exact ⟨t, List.mem_of_getElem? h, by simp [ht]⟩
  unfold chOk; rw [this]; rfl
theorem turn_at {xs : List VGridTurn} {len k : Nat} (hl : Hid (len = xs.length)) (hk : k < len) : ∃ s, xs[k]? = some s := ⟨xs[k]'(by have := hl.out; omega), List.getElem?_eq_getElem _⟩
set_option maxHeartbeats 3200000 in
theorem l4Chain_any (a : Option Addr) (len cap : Nat) (xs : List VGridTurn) (w : World) (h : IsGridTurnS w a len cap xs) :
    Calls Try.prog 55 #[.slice a len cap] w (BoolPost (chOk xs) w) := by
  have hm := h.2.2.1
  have hcl := h.2.1
  unfold maxLen at hm
  have S := Lib.hid h
  have L := Lib.hid h.1
  clear h
  go_enter Try.func55, Try.ntmps55
  go_wp2
  go_loopw [3] (fun i wr => ∃ k : Nat, k ≤ len ∧ i = .int .i64 k ∧ (xs.take k).all VGridTurn.ok = true ∧ Below w.heap.size w wr) (fun i _ => len - (intOf i).toNat)
  case atStart => exact ⟨0, Nat.zero_le _, rfl, rfl, Below.refl _ _⟩
  case round =>
    obtain ⟨k, hk, rfl, hall, hbel⟩ := hrel
    have HA := Lib.hid hall
    have B := Lib.hid hbel
    by_cases hlt : k < len
    · obtain ⟨s, hs⟩ := turn_at L hlt
      obtain ⟨b, o, rfl, hb, hat⟩ := (S.out.below hbel).at (by omega)
      obtain ⟨c0, c1, c2, c3, c4⟩ := hat k s hs
      have hi1 : (k : Int) < (len : Int) := by omega
      have SN := Lib.hid (all_ok_snoc xs k s hs)
      have NO := Lib.hid (fun hf => chOk_no hs (t := s) hf)
      clear hall hbel hat hs
      go_wp2_with fail
      refine (l4Turn_any s _).mono ?_
      rintro e w1 ⟨rfl, hb1⟩
      have B1 := Lib.hid (Below.then' B.out hb1)
      clear hb1
      obtain ⟨q, hq⟩ : ∃ q, s.ok = q := ⟨_, rfl⟩
      have Q := Lib.hid hq
      rw [hq]
      clear hq
      cases q
      · go_wp2
        go_ret
        exact ⟨ret_bool (NO.out Q.out).symm, B1.out⟩
      · go_wp2
        go_roundw
        case rel => exact ⟨k + 1, by omega, by go_num, by rw [SN.out, HA.out, Q.out]; rfl, B1.out⟩
        case measure => simp [intOf]; omega
    · obtain rfl : k = len := by omega
      have E := Lib.hid (show chOk xs = decide ((k : Int) ≤ 4) by
        have h1 := HA.out
        have h2 := L.out
        rw [h2, List.take_length] at h1
        unfold chOk; rw [h1, h2]; simp; omega)
      clear hall hbel
      go_wp2
      go_ret
      exact ⟨ret_bool E.out.symm, B.out⟩
set_option maxHeartbeats 3200000 in
theorem isChain_any (a : Option Addr) (len cap : Nat) (xs : List VGridTurn) (w : World) (h : IsGridTurnS w a len cap xs) :
    Calls Try.prog 52 #[.slice a len cap] w (BoolPost (chOk xs) w) := by
  have hm := h.2.2.1
  have hcl := h.2.1
  unfold maxLen at hm
  have S := Lib.hid h
  have L := Lib.hid h.1
  clear h
  by_cases h4 : 4 < len
  · have h4' : (4 : Int) < (len : Int) := by omega
    have E := Lib.hid (show chOk xs = false by
      have := L.out
      have e : decide (xs.length ≤ 4) = false := by simp; omega
      unfold chOk; rw [e]; simp)
    go_enter Try.func52, Try.ntmps52
    go_wp2
    go_ret
    exact ⟨ret_bool E.out.symm, Below.refl _ _⟩
  have h4' : ¬ (4 : Int) < (len : Int) := by omega
  go_enter Try.func52, Try.ntmps52
  go_wp2
  go_loopw [4, 10] (fun _ i wr => ∃ k : Nat, k ≤ len ∧ i = .int .i64 k ∧ (xs.take k).all VGridTurn.ok = true ∧ Below w.heap.size w wr) (fun _ i _ => len - (intOf i).toNat)
  case atStart => exact ⟨0, Nat.zero_le _, rfl, rfl, Below.refl _ _⟩
  case round =>
    obtain ⟨k, hk, rfl, hall, hbel⟩ := hrel
    have HA := Lib.hid hall
    have B := Lib.hid hbel
    by_cases hlt : k < len
    · obtain ⟨s, hs⟩ := turn_at L hlt
      obtain ⟨b, o, rfl, hb, hat⟩ := (S.out.below hbel).at (by omega)
      obtain ⟨c0, c1, c2, c3, c4⟩ := hat k s hs
      have hi1 : (k : Int) < (len : Int) := by omega
      have SN := Lib.hid (all_ok_snoc xs k s hs)
      have NO := Lib.hid (fun hf => chOk_no hs (t := s) hf)
      clear hall hat hs
      go_wp2_with fail
      refine (implIsGridTurn_any s _).mono ?_
      rintro e w1 ⟨rfl, hb1⟩
      have B1 := Lib.hid (Below.then' (Below.then' B.out (bel_al1 _ _)) hb1)
      clear hb1 hbel
      obtain ⟨q, hq⟩ : ∃ q, s.ok = q := ⟨_, rfl⟩
      have Q := Lib.hid hq
      rw [hq]
      clear hq
      cases q
      · go_wp2
        go_ret
        exact ⟨ret_bool (NO.out Q.out).symm, B1.out⟩
      · go_wp2
        go_roundw
        case rel => exact ⟨k + 1, by omega, by go_num, by rw [SN.out, HA.out, Q.out]; rfl, B1.out⟩
        case measure => simp [intOf]; omega
    · obtain rfl : k = len := by omega
      have E := Lib.hid (show chOk xs = true by
        have h1 := HA.out
        have h2 := L.out
        rw [h2, List.take_length] at h1
        unfold chOk; rw [h1]; simp; omega)
      clear hall hbel
      go_wp2
      go_ret
      exact ⟨ret_bool E.out.symm, B.out⟩
end Go.Proofs.Ytghgipadogdfiaa
