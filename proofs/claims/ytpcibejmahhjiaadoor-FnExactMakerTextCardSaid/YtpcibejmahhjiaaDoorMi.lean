/- Makers in the program: years, IsMaker, beginsAfter, AreMakers. -/
import Derived.Test.YtpcibejmahhjiaaDoorMk
import Derived.Test.YtpcibejmahhjiaaDoorRi
import Derived.Test.YtpcibejmahhjiaaDoorMakerBy
import Derived.Test.YtpcibejmahhjiaaDoorMakerId
namespace Go.Proofs.YtpcibejmahhjiaaDoor
open Go.RowKit

theorem isYear_any (d : Int) (w : World) :
    Calls Tryd.prog 53 #[.int .i64 d] w fun e w' => e = .returned (.bool (yearB d)) ∧ Below w.heap.size w w' := by
  go_enter Tryd.func53, Tryd.ntmps53
  go_wp2_with fail
  refine (areIn1 _ _ _ _ _ _ (by simp)).mono ?_
  rintro e w' ⟨rfl, rfl⟩
  go_wp2
  go_ret
  exact ⟨rfl, bel_al1 _ _⟩
set_option maxHeartbeats 3200000 in
theorem isMk_any (s : VMaker) (w : World) (hs : s.small) :
    Calls Tryd.prog 26 #[.agg #[.int .i64 s.Id, .string s.Name, .int .i64 s.From, .int .i64 s.Until, .int .i64 s.Heir]] w fun e w' => e = .returned (.bool s.ok) ∧ Below w.heap.size w w' := by
  obtain ⟨q1, h1⟩ : ∃ q, wordB s.Name = q := ⟨_, rfl⟩
  obtain ⟨q2, h2⟩ : ∃ q, yearB s.From = q := ⟨_, rfl⟩
  obtain ⟨q3, h3⟩ : ∃ q, inB s.Id 1 99 = q := ⟨_, rfl⟩
  obtain ⟨q4, h4⟩ : ∃ q, yearB s.Until = q := ⟨_, rfl⟩
  obtain ⟨q5, h5⟩ : ∃ q, inB s.Heir 0 99 = q := ⟨_, rfl⟩
  have H1 := Lib.hid h1
  have H2 := Lib.hid h2
  have H3 := Lib.hid h3
  have H4 := Lib.hid h4
  have H5 := Lib.hid h5
  have SM := Lib.hid hs
  have X0 := Lib.hid (BoxMaker.new w 37 s _ rfl)
  have B0 := Lib.hid (bel_al1 w (.cells #[.int .i64 s.Id, .string s.Name, .int .i64 s.From, .int .i64 s.Until, .int .i64 s.Heir] 37))
  clear h1 h2 h3 h4 h5 hs
  go_enter Tryd.func26, Tryd.ntmps26
  go_wp2_with fail
  refine (areIn1 _ _ _ _ _ _ (by simp)).mono ?_
  rintro e w' ⟨rfl, rfl⟩
  rw [H3.out]
  cases q3
  · go_wp2
    go_ret
    exact ⟨ret_bool (by unfold VMaker.ok; rw [H3.out]; rfl), bel_al2 _ _ _⟩
  go_wp2_with fail
  refine (isWord_any _ _ SM.out).mono ?_
  rintro e w2 ⟨rfl, hb⟩
  rw [H1.out]
  have hb2 := Below.then' (bel_al1 _ _) hb
  have B2 := Lib.hid (Below.then' B0.out hb2)
  obtain ⟨c0, c1, c2, c3, c4⟩ := X0.out.below hb2
  have X2 := Lib.hid (X0.out.below hb2)
  clear hb hb2
  cases q1
  · go_wp2
    go_ret
    exact ⟨ret_bool (by unfold VMaker.ok; rw [H3.out, H1.out]; rfl), B2.out⟩
  go_wp2_with fail
  refine (isYear_any _ _).mono ?_
  rintro e w3 ⟨rfl, hb⟩
  rw [H2.out]
  have B3 := Lib.hid (Below.then' B2.out hb)
  clear c0 c1 c2 c3 c4
  obtain ⟨c0, c1, c2, c3, c4⟩ := X2.out.below hb
  have X3 := Lib.hid (X2.out.below hb)
  clear hb
  cases q2
  · go_wp2
    go_ret
    exact ⟨ret_bool (by unfold VMaker.ok; rw [H3.out, H1.out, H2.out]; rfl), B3.out⟩
  go_wp2_with fail
  refine (isYear_any _ _).mono ?_
  rintro e w4 ⟨rfl, hb⟩
  rw [H4.out]
  have B4 := Lib.hid (Below.then' B3.out hb)
  clear c0 c1 c2 c3 c4
  obtain ⟨c0, c1, c2, c3, c4⟩ := X3.out.below hb
  have X4 := Lib.hid (X3.out.below hb)
  clear hb
  cases q4
  · go_wp2
    go_ret
    exact ⟨ret_bool (by unfold VMaker.ok; rw [H3.out, H1.out, H2.out, H4.out]; rfl), B4.out⟩
  by_cases hle : s.From ≤ s.Until
  · have D := Lib.hid (decide_eq_true hle)
    go_wp2_with fail
    refine (areIn1 _ _ _ _ _ _ (by simp)).mono ?_
    rintro e w' ⟨rfl, rfl⟩
    rw [H5.out]
    have B5 := Lib.hid (Below.then' B4.out (bel_al1 w4 (.cells #[.int .i64 s.Heir] 3)))
    clear c0 c1 c2 c3 c4
    obtain ⟨c0, c1, c2, c3, c4⟩ := X4.out.below (bel_al1 w4 (.cells #[.int .i64 s.Heir] 3))
    cases q5
    · go_wp2
      go_ret
      exact ⟨ret_bool (by unfold VMaker.ok; rw [H3.out, H1.out, H2.out, H4.out, H5.out, D.out]; rfl), B5.out⟩
    go_wp2
    go_ret
    exact ⟨ret_bool (by unfold VMaker.ok; rw [H3.out, H1.out, H2.out, H4.out, H5.out, D.out]; rfl), B5.out⟩
  · have D := Lib.hid (decide_eq_false hle)
    have hle2 : s.Until < s.From := by omega
    go_wp2
    go_ret
    exact ⟨ret_bool (by unfold VMaker.ok; rw [H3.out, H1.out, H2.out, H4.out, D.out]; rfl), B4.out⟩
theorem makerId_any (s : VMaker) (w : World) : Calls Tryd.prog 36 #[.agg #[.int .i64 s.Id, .string s.Name, .int .i64 s.From, .int .i64 s.Until, .int .i64 s.Heir]] w fun e w' => e = .returned (.int .i64 s.Id) ∧ Below w.heap.size w w' := by
  go_enter Tryd.func36, Tryd.ntmps36
  go_wp2
  go_ret
  exact ⟨rfl, bel_al1 _ _⟩
theorem idxMk_any (a : Option Addr) (len cap : Nat) (xs : List VMaker) (id : Int) (w : World) (h : IsMakerS w a len cap xs) :
    Calls Tryd.prog 65 #[.slice a len cap, .int .i64 id, .func (.func 36) #[] #[]] w fun e w' => e = .returned (.int .i64 (mkIdx xs id)) ∧ Below w.heap.size w w' :=
  indexByMaker_any 36 VMaker.Id a len cap xs id w h (enters_fn Tryd.func36 (by kernel_rfl) (by kernel_rfl)) (fun W s => makerId_any s W)
theorem aftB_none {xs : List VMaker} {id y : Int} (h : mkIdx xs id = -1) : aftB xs id y = false := by
  unfold aftB; rw [h]
  cases xs[(-1 : Int).toNat]? <;> simp
theorem aftB_some {xs : List VMaker} {id y : Int} {i : Nat} {s : VMaker} (h : mkIdx xs id = (i : Int)) (hs : xs[i]? = some s) : aftB xs id y = decide (y < s.From) := by
  unfold aftB; rw [h]; simp [hs]
set_option maxHeartbeats 1600000 in
theorem beginsAfter_any (a : Option Addr) (len cap : Nat) (xs : List VMaker) (id y : Int) (w : World) (h : IsMakerS w a len cap xs) :
    Calls Tryd.prog 67 #[.slice a len cap, .int .i64 id, .int .i64 y] w fun e w' => e = .returned (.bool (aftB xs id y)) ∧ Below w.heap.size w w' := by
  have S := Lib.hid h
  have hm := h.2.2.1
  have hcl := h.2.1
  unfold maxLen at hm
  obtain rfl := h.1
  clear h
  rcases mkIdx_cases xs id with ⟨h1, _⟩ | ⟨i, s, h1, hs, _⟩
  · have E := Lib.hid (aftB_none (y := y) h1)
    have H1 := Lib.hid h1
    clear h1
    go_enter Tryd.func67, Tryd.ntmps67
    go_wp2_with fail
    refine (idxMk_any _ _ _ xs id _ S.out).mono ?_
    rintro e w2 ⟨rfl, hb⟩
    rw [H1.out]
    have B := Lib.hid hb
    clear hb
    go_wp2
    go_ret
    exact ⟨ret_bool E.out.symm, B.out⟩
  · have E := Lib.hid (aftB_some (y := y) h1 hs)
    have H1 := Lib.hid h1
    have HS := Lib.hid hs
    have hi1 : (i : Int) < (xs.length : Int) := by have := (List.getElem?_eq_some_iff.1 hs).1; omega
    have hi0 : (0 : Int) ≤ (i : Int) := by omega
    clear h1 hs
    go_enter Tryd.func67, Tryd.ntmps67
    go_wp2_with fail
    refine (idxMk_any _ _ _ xs id _ S.out).mono ?_
    rintro e w2 ⟨rfl, hb⟩
    rw [H1.out]
    have B := Lib.hid hb
    obtain ⟨b, o, rfl, _, hat⟩ := (S.out.below hb).at (by omega)
    obtain ⟨c0, c1, c2, c3, c4, _⟩ := hat i s HS.out
    clear hb hat
    go_wp2
    go_ret
    exact ⟨ret_bool E.out.symm, B.out⟩
theorem take_alls {α : Type} {P : α → Prop} {xs : List α} {k : Nat} {s : α} (h : ∀ m ∈ xs.take k, P m) (hs : xs[k]? = some s) (hp : P s) : ∀ m ∈ xs.take (k + 1), P m := by
  intro m hm
  rw [List.take_add_one, hs, List.mem_append] at hm
  rcases hm with hm | hm
  · exact h m hm
  · simp at hm; subst hm; exact hp
theorem len_leM {n : Nat} {k : Nat} : decide ((n : Int) ≤ (k : Int)) = decide (n ≤ k) := by rw [decide_eq_decide]; omega
set_option maxHeartbeats 3200000 in
set_option maxRecDepth 100000 in
theorem areMk_any (a : Option Addr) (len cap : Nat) (xs : List VMaker) (w : World) (h : IsMakerS w a len cap xs) :
    Calls Tryd.prog 35 #[.slice a len cap] w fun e w' => e = .returned (.bool (areMk xs)) ∧ Below w.heap.size w w' := by
  have hm := h.2.2.1
  have hcl := h.2.1
  unfold maxLen at hm
  obtain rfl := h.1
  have S := Lib.hid h
  clear h
  obtain ⟨q, hq⟩ : ∃ q, mkUp xs = q := ⟨_, rfl⟩
  have Q := Lib.hid hq
  have BY := Lib.hid (show (upB VMaker.ok VMaker.Id xs && decide ((xs.length : Int) ≤ 10)) = q from by rw [← hq]; unfold mkUp; rw [← len_leM]; rfl)
  clear hq
  go_enter Tryd.func35, Tryd.ntmps35
  go_wp2_with fail
  refine (byMaker_any 26 36 VMaker.ok VMaker.Id 10 _ _ _ xs _ S.out (enters_fn Tryd.func26 (by kernel_rfl) (by kernel_rfl)) (enters_fn Tryd.func36 (by kernel_rfl) (by kernel_rfl)) (fun W s _ hs => isMk_any s W hs) (fun W s => makerId_any s W)).mono ?_
  rintro e w2 ⟨rfl, hb⟩
  rw [BY.out]
  have B := Lib.hid hb
  clear hb
  cases q
  · go_wp2
    go_ret
    exact ⟨ret_bool (by unfold areMk; rw [Q.out]; rfl), B.out⟩
  go_wp2
  go_loopw [10] (fun i wr => ∃ k : Nat, k ≤ xs.length ∧ i = .int .i64 k ∧ Below w.heap.size w wr ∧ ∀ m ∈ xs.take k, heirB xs m = true) (fun i _ => xs.length - (intOf i).toNat)
  case atStart => exact ⟨0, Nat.zero_le _, rfl, B.out, by simp⟩
  case round =>
    obtain ⟨k, hk, rfl, hbel, hall⟩ := hrel
    have A := Lib.hid hall
    have BB := Lib.hid hbel
    clear hall
    by_cases hlt : k < xs.length
    · obtain ⟨s, hs⟩ : ∃ s, xs[k]? = some s := ⟨xs[k]'hlt, List.getElem?_eq_getElem _⟩
      obtain ⟨b, o, rfl, hbw, hat⟩ := (S.out.below hbel).at (by omega)
      obtain ⟨c0, c1, c2, c3, c4, _⟩ := hat k s hs
      have K := Lib.hid hs
      have hi0 : (0 : Int) ≤ (k : Int) := by omega
      have hi1 : (k : Int) < (xs.length : Int) := by omega
      have BX := Lib.hid (Below.then' BB.out (bel_al1 wr (.cells #[.int .i64 s.Id, .string s.Name, .int .i64 s.From, .int .i64 s.Until, .int .i64 s.Heir] 37)))
      clear hbel hs hat
      by_cases h0 : s.Heir = 0
      · have Z := Lib.hid (show heirB xs s = true from by unfold heirB; rw [h0]; rfl)
        have h0' : (s.Heir == 0) = true := by simp [h0]
        have h0'' : (s.Heir != 0) = false := by simp [h0]
        clear h0
        go_wp2
        go_roundw
        case rel => exact ⟨k + 1, by omega, by go_num, BX.out, take_alls A.out K.out Z.out⟩
        case measure => simp [intOf]; omega
      · have Z := Lib.hid (show heirB xs s = aftB xs s.Heir s.Until from by unfold heirB; simp [h0])
        have h0' : (s.Heir == 0) = false := by simp [h0]
        have h0'' : (s.Heir != 0) = true := by simp [h0]
        clear h0
        obtain ⟨r, hr⟩ : ∃ r, aftB xs s.Heir s.Until = r := ⟨_, rfl⟩
        have R := Lib.hid hr
        clear hr
        go_wp2_with fail
        refine (beginsAfter_any _ _ _ xs s.Heir s.Until _ (S.out.below BX.out)).mono ?_
        rintro e w3 ⟨rfl, hb⟩
        rw [R.out]
        have B3 := Lib.hid (Below.then' BX.out hb)
        clear hb
        cases r
        · have N := Lib.hid (show areMk xs = false from by
            have h : xs.all (heirB xs) = false := by
              rw [List.all_eq_false]
              exact ⟨s, List.mem_of_getElem? K.out, by rw [Z.out, R.out]; simp⟩
            unfold areMk; rw [h]; simp)
          go_wp2
          go_ret
          exact ⟨ret_bool N.out.symm, B3.out⟩
        · go_wp2
          go_roundw
          case rel => exact ⟨k + 1, by omega, by go_num, B3.out, take_alls A.out K.out (Z.out.trans R.out)⟩
          case measure => simp [intOf]; omega
    · obtain rfl : k = xs.length := by omega
      have N := Lib.hid (show areMk xs = true from by
        have h := A.out
        rw [List.take_of_length_le (Nat.le_refl _)] at h
        unfold areMk; rw [Q.out, List.all_eq_true.2 h]; rfl)
      clear hbel
      go_wp2
      go_ret
      exact ⟨ret_bool N.out.symm, BB.out⟩
end Go.Proofs.YtpcibejmahhjiaaDoor
