/- Flats and drawers in the model, each by itself and all together. -/
import Derived.Test.YtlmedhidkhphbaaFd
import Derived.Test.YtlmedhidkhphbaaSw
namespace Go.Proofs.Ytlmedhidkhphbaa
open Go.RowKit

set_option maxHeartbeats 1600000 in
theorem l5Flat_any (s : VFlat) (w : World) : Calls Try.prog 87 #[.agg #[.int .i64 s.Id, .int .i64 s.Wide, .int .i64 s.High, .int .i64 s.Grams]] w fun e w' => e = .returned (.bool s.ok) ∧ Below w.heap.size w w' := by
  go_enter Try.func87, Try.ntmps87
  go_wp2_with (go_at_call 119; refine (l1In_any _ _ _ _).mono ?_; rintro e w' ⟨rfl, rfl⟩)
  all_goals go_ret
  all_goals exact ⟨ret_bool (by simp [VFlat.ok, *]), bel_al1 _ _⟩
set_option maxHeartbeats 6400000 in
set_option maxRecDepth 100000 in
theorem l5Flats_any (a : Option Addr) (len cap : Nat) (xs : List VFlat) (w : World) (h : IsFlatS w a len cap xs) :
    Calls Try.prog 91 #[.slice a len cap] w fun e w' => e = .returned (.bool (flatsB xs)) ∧ Below w.heap.size w w' := by
  have hm := h.2.2.1
  have hcl := h.2.1
  unfold maxLen at hm
  have S := Lib.hid h
  have L := Lib.hid h.1
  clear h
  go_enter Try.func91, Try.ntmps91
  go_wp2
  go_loopw [3] (fun i wr => ∃ k : Nat, k ≤ len ∧ i = .int .i64 k ∧ Below w.heap.size w wr ∧ ∀ j, j < k → upStep VFlat.ok VFlat.Id xs j = true) (fun i _ => len - (intOf i).toNat)
  case atStart => exact ⟨0, Nat.zero_le _, rfl, Below.refl _ _, by omega⟩
  case round =>
    obtain ⟨k, hk, rfl, hbel, hall⟩ := hrel
    have A := Lib.hid hall
    have B := Lib.hid hbel
    clear hall
    by_cases hlt : k < len
    · obtain ⟨s, hs⟩ := el_at L hlt
      obtain ⟨b, o, rfl, hb, hat⟩ := (S.out.below hbel).at (by omega)
      obtain ⟨c0, c1, c2, c3⟩ := hat k s hs
      have k0 := cell_regrown c0
      have k1 := cell_regrown c1
      have k2 := cell_regrown c2
      have k3 := cell_regrown c3
      clear c0 c1 c2 c3 hbel
      have hi0 : (0 : Int) ≤ (k : Int) := by omega
      have hi1 : (k : Int) < (len : Int) := by omega
      rcases up_ways (ok := VFlat.ok) (id := VFlat.Id) hs with ⟨h1, h2⟩ | ⟨h1, rfl, h2⟩ | ⟨h1, j, p, rfl, hp, h2⟩
      · have cQ := below_at (W := wr) (fun W' _ => h1 ▸ l5Flat_any s W')
        have Z := Lib.hid h2
        clear h1 h2 hs hat
        go_wp2
        refine wp_region_quiet_below (by kernel_rfl) (by kernel_rfl) ?_
        repeat (first | go_big_quiet_step (with_reducible exact cQ _ _) | quiet_step (with_reducible exact cQ _ _))
        refine wpQuiet_nil ?_
        intro W2 hw2
        have B2 := Lib.hid (Below.then' B.out (below_of_re hw2))
        clear hw2 cQ k0 k1 k2 k3
        go_wp2
        go_ret
        exact ⟨ret_bool (by unfold flatsB; rw [upB_bad Z.out (by have := L.out; omega)]; rfl), B2.out⟩
      · have cQ := below_at (W := wr) (fun W' _ => h1 ▸ l5Flat_any s W')
        have Z := Lib.hid h2
        simp only [Nat.zero_mul, Nat.add_zero] at k0 k1 k2 k3
        clear h1 h2 hs hat
        go_wp2
        refine wp_region_quiet_below (by kernel_rfl) (by kernel_rfl) ?_
        repeat (first | go_big_quiet_step (with_reducible exact cQ _ _) | quiet_step (with_reducible exact cQ _ _))
        refine wpQuiet_nil ?_
        intro W2 hw2
        have B2 := Lib.hid (Below.then' B.out (below_of_re hw2))
        clear hw2 cQ k0 k1 k2 k3
        go_wp2
        go_roundw
        case rel => exact ⟨1, by omega, by go_num, B2.out, all_more A.out Z.out⟩
        case measure => simp [intOf]; omega
      · have cQ := below_at (W := wr) (fun W' _ => h1 ▸ l5Flat_any s W')
        obtain ⟨p0, _⟩ := hat j p hp
        have q0 := cell_regrown p0
        have hp0 : (0 : Int) ≤ (j : Int) := by omega
        have hp1 : (j : Int) < (len : Int) := by omega
        clear h1 hs hp p0 hat
        rcases h2 with ⟨h2, h3⟩ | ⟨h2, h3⟩
        · have Z := Lib.hid h3
          clear h3
          go_wp2
          refine wp_region_quiet_below (by kernel_rfl) (by kernel_rfl) ?_
          repeat (first | go_big_quiet_step (with_reducible exact cQ _ _) | quiet_step (with_reducible exact cQ _ _))
          refine wpQuiet_nil ?_
          intro W2 hw2
          have B2 := Lib.hid (Below.then' B.out (below_of_re hw2))
          clear hw2 cQ k0 k1 k2 k3 q0
          go_wp2
          go_roundw
          case rel => exact ⟨j + 1 + 1, by omega, by go_num, B2.out, all_more A.out Z.out⟩
          case measure => simp [intOf]; omega
        · have Z := Lib.hid h3
          clear h3
          go_wp2
          refine wp_region_quiet_below (by kernel_rfl) (by kernel_rfl) ?_
          repeat (first | go_big_quiet_step (with_reducible exact cQ _ _) | quiet_step (with_reducible exact cQ _ _))
          refine wpQuiet_nil ?_
          intro W2 hw2
          have B2 := Lib.hid (Below.then' B.out (below_of_re hw2))
          clear hw2 cQ k0 k1 k2 k3 q0
          go_wp2
          go_ret
          exact ⟨ret_bool (by unfold flatsB; rw [upB_bad Z.out (by have := L.out; omega)]; rfl), B2.out⟩
    · obtain rfl : k = len := by omega
      have U := Lib.hid (show upB VFlat.ok VFlat.Id xs = true from upB_iff.2 (fun i hi => A.out i (by have := L.out; omega)))
      clear hbel
      go_wp2
      go_ret
      exact ⟨ret_bool (by unfold flatsB; rw [U.out]; simp only [Bool.true_and]; rw [decide_eq_decide]; have := L.out; omega), B.out⟩
set_option maxHeartbeats 3200000 in
set_option maxRecDepth 100000 in
theorem l1Has_any (a : Option Addr) (len cap : Nat) (xs : List Int) (x : Int) (w : World) (h : IsInts w a len cap xs) :
    Calls Try.prog 120 #[.slice a len cap, .int .i64 x] w fun e w' => e = .returned (.bool (hasB x xs)) ∧ w = w' := by
  obtain rfl := h.1
  have hm := h.2.2.1
  have hcl := h.2.1
  unfold maxLen at hm
  have S := Lib.hid h
  clear h
  go_enter Try.func120, Try.ntmps120
  go_wp2
  go_loop [5] (fun i => ∃ k : Nat, k ≤ xs.length ∧ i = .int .i64 k ∧ ∀ j y, j < k → xs[j]? = some y → ¬ y = x) (fun i => xs.length - (intOf i).toNat)
  case atStart => exact ⟨0, Nat.zero_le _, rfl, fun _ _ h => by omega⟩
  case round =>
    obtain ⟨k, hk, rfl, hno⟩ := hrel
    have NO := Lib.hid hno
    clear hno
    by_cases hlt : k < xs.length
    · obtain ⟨s, hs⟩ : ∃ s, xs[k]? = some s := ⟨xs[k]'hlt, List.getElem?_eq_getElem _⟩
      obtain ⟨b, o, rfl, hb, hat⟩ := S.out.at (by omega)
      have c0 := hat k s hs
      have hi0 : (0 : Int) ≤ (k : Int) := by omega
      have hi1 : (k : Int) < (xs.length : Int) := by omega
      have HS := Lib.hid hs
      clear hs hat
      by_cases he : s = x
      · have Y := Lib.hid (show hasB x xs = true from hasB_iff.2 (he ▸ List.mem_of_getElem? HS.out))
        have hb1 : (s == x) = true := by simpa using he
        subst he
        go_wp2
        go_ret
        exact ⟨ret_bool Y.out.symm, rfl⟩
      · have hb1 : (s == x) = false := by simpa using he
        have HE := Lib.hid he
        clear he
        go_wp2
        go_round
        case rel => exact ⟨k + 1, by omega, by go_num, fun j y hj hy => by
          by_cases e : j = k
          · subst e; rw [HS.out] at hy; cases hy; exact HE.out
          · exact NO.out j y (by omega) hy⟩
        case measure => simp [intOf]; omega
    · obtain rfl : k = xs.length := by omega
      have Y := Lib.hid (show hasB x xs = false from by
        rw [← Bool.not_eq_true, hasB_iff]
        intro h
        obtain ⟨j, hj⟩ := List.getElem?_of_mem h
        exact NO.out j x (List.getElem?_eq_some_iff.1 hj).1 hj rfl)
      go_wp2
      go_ret
      exact ⟨ret_bool Y.out.symm, rfl⟩
set_option maxHeartbeats 6400000 in
set_option maxRecDepth 100000 in
theorem l1Rising_any (a : Option Addr) (len cap : Nat) (xs : List Int) (lo hi : Int) (w : World) (h : IsInts w a len cap xs) :
    Calls Try.prog 129 #[.slice a len cap, .int .i64 lo, .int .i64 hi] w fun e w' => e = .returned (.bool (upB (fun z => inB z lo hi) (fun z => z) xs)) ∧ Below w.heap.size w w' := by
  have hm := h.2.2.1
  have hcl := h.2.1
  unfold maxLen at hm
  have S := Lib.hid h
  have L := Lib.hid h.1
  clear h
  obtain ⟨f, hf⟩ : ∃ f : Int → Bool, (fun z => inB z lo hi) = f := ⟨_, rfl⟩
  rw [hf]
  have HF := Lib.hid (show ∀ z, inB z lo hi = f z from fun z => by rw [← hf])
  clear hf
  go_enter Try.func129, Try.ntmps129
  go_wp2
  go_loopw [7] (fun i wr => ∃ k : Nat, k ≤ len ∧ i = .int .i64 k ∧ Below w.heap.size w wr ∧ ∀ j, j < k → upStep f (fun z => z) xs j = true) (fun i _ => len - (intOf i).toNat)
  case atStart => exact ⟨0, Nat.zero_le _, rfl, Below.refl _ _, by omega⟩
  case round =>
    obtain ⟨k, hk, rfl, hbel, hall⟩ := hrel
    have A := Lib.hid hall
    have B := Lib.hid hbel
    clear hall
    by_cases hlt : k < len
    · obtain ⟨s, hs⟩ := el_at L hlt
      obtain ⟨b, o, rfl, hb, hat⟩ := (S.out.below hbel).at (by omega)
      have k0 := cell_regrown (hat k s hs)
      have hi0 : (0 : Int) ≤ (k : Int) := by omega
      have hi1 : (k : Int) < (len : Int) := by omega
      clear hbel
      rcases up_ways (ok := f) (id := fun z => z) hs with ⟨h1, h2⟩ | ⟨h1, rfl, h2⟩ | ⟨h1, j, p, rfl, hp, h2⟩
      · have cQ := below_at (W := wr) (fun W' _ => same_below (h1 ▸ HF.out s ▸ l1In_any s lo hi W'))
        have Z := Lib.hid h2
        clear h1 h2 hs hat
        go_wp2
        refine wp_region_quiet_below (by kernel_rfl) (by kernel_rfl) ?_
        repeat (first | go_big_quiet_step (with_reducible exact cQ _ _) | quiet_step (with_reducible exact cQ _ _))
        refine wpQuiet_nil ?_
        intro W2 hw2
        have B2 := Lib.hid (Below.then' B.out (below_of_re hw2))
        clear hw2 cQ k0
        go_wp2
        go_ret
        exact ⟨ret_bool (by rw [upB_bad Z.out (by have := L.out; omega)]), B2.out⟩
      · have cQ := below_at (W := wr) (fun W' _ => same_below (h1 ▸ HF.out s ▸ l1In_any s lo hi W'))
        have Z := Lib.hid h2
        rw [Nat.add_zero] at k0
        clear h1 h2 hs hat
        go_wp2
        refine wp_region_quiet_below (by kernel_rfl) (by kernel_rfl) ?_
        repeat (first | go_big_quiet_step (with_reducible exact cQ _ _) | quiet_step (with_reducible exact cQ _ _))
        refine wpQuiet_nil ?_
        intro W2 hw2
        have B2 := Lib.hid (Below.then' B.out (below_of_re hw2))
        clear hw2 cQ k0
        go_wp2
        go_roundw
        case rel => exact ⟨1, by omega, by go_num, B2.out, all_more A.out Z.out⟩
        case measure => simp [intOf]; omega
      · have cQ := below_at (W := wr) (fun W' _ => same_below (h1 ▸ HF.out s ▸ l1In_any s lo hi W'))
        have q0 := cell_regrown (hat j p hp)
        have hp0 : (0 : Int) ≤ (j : Int) := by omega
        have hp1 : (j : Int) < (len : Int) := by omega
        clear h1 hs hp hat
        rcases h2 with ⟨h2, h3⟩ | ⟨h2, h3⟩
        · have Z := Lib.hid h3
          clear h3
          go_wp2
          refine wp_region_quiet_below (by kernel_rfl) (by kernel_rfl) ?_
          repeat (first | go_big_quiet_step (with_reducible exact cQ _ _) | quiet_step (with_reducible exact cQ _ _))
          refine wpQuiet_nil ?_
          intro W2 hw2
          have B2 := Lib.hid (Below.then' B.out (below_of_re hw2))
          clear hw2 cQ k0 q0
          go_wp2
          go_roundw
          case rel => exact ⟨j + 1 + 1, by omega, by go_num, B2.out, all_more A.out Z.out⟩
          case measure => simp [intOf]; omega
        · have Z := Lib.hid h3
          clear h3
          go_wp2
          refine wp_region_quiet_below (by kernel_rfl) (by kernel_rfl) ?_
          repeat (first | go_big_quiet_step (with_reducible exact cQ _ _) | quiet_step (with_reducible exact cQ _ _))
          refine wpQuiet_nil ?_
          intro W2 hw2
          have B2 := Lib.hid (Below.then' B.out (below_of_re hw2))
          clear hw2 cQ k0 q0
          go_wp2
          go_ret
          exact ⟨ret_bool (by rw [upB_bad Z.out (by have := L.out; omega)]), B2.out⟩
    · obtain rfl : k = len := by omega
      have U := Lib.hid (show upB f (fun z => z) xs = true from upB_iff.2 (fun i hi => A.out i (by have := L.out; omega)))
      clear hbel
      go_wp2
      go_ret
      exact ⟨ret_bool U.out.symm, B.out⟩
set_option maxHeartbeats 3200000 in
theorem l5Drawer_any (x : VDrawer) (h : Hd) (w : World) (hi : IsInts w h.a h.n h.c x.Flats) :
    Calls Try.prog 88 #[.agg #[.int .i64 x.Id, .int .i64 x.Wide, .int .i64 x.High, .int .i64 x.Holds, .slice h.a h.n h.c]] w fun e w' => e = .returned (.bool x.ok) ∧ Below w.heap.size w w' := by
  have b1 := bel_al1 w (.cells #[.int .i64 x.Id, .int .i64 x.Wide, .int .i64 x.High, .int .i64 x.Holds, .slice h.a h.n h.c] 42)
  have HI := Lib.hid (hi.below b1)
  have B1 := Lib.hid b1
  have hm := hi.2.2.1
  have hcl := hi.2.1
  unfold maxLen at hm
  have HL := Lib.hid hi.1
  obtain ⟨q1, h1⟩ : ∃ q, inB x.Id 1 99 = q := ⟨_, rfl⟩
  obtain ⟨q2, h2⟩ : ∃ q, inB x.Wide 100 2000 = q := ⟨_, rfl⟩
  obtain ⟨q3, h3⟩ : ∃ q, inB x.High 100 2000 = q := ⟨_, rfl⟩
  obtain ⟨q4, h4⟩ : ∃ q, inB x.Holds 100 50000 = q := ⟨_, rfl⟩
  have OK := Lib.hid (show x.ok = (q1 && (q2 && (q3 && (q4 && idsB x.Flats)))) from by unfold VDrawer.ok; rw [← h1, ← h2, ← h3, ← h4])
  have H1 := Lib.hid h1
  have H2 := Lib.hid h2
  have H3 := Lib.hid h3
  have H4 := Lib.hid h4
  clear h1 h2 h3 h4 hi b1
  by_cases h12 : (12 : Int) < (h.n : Int)
  · have NO := Lib.hid (show x.ok = false from by
      rw [OK.out]
      unfold idsB
      rw [decide_eq_false (by have := HL.out; omega)]
      simp)
    go_enter Try.func88, Try.ntmps88
    go_wp2_with fail
    refine (l1In_any _ _ _ _).mono ?_
    rintro e w' ⟨rfl, rfl⟩
    rw [H1.out]
    cases q1
    · go_wp2
      go_ret
      exact ⟨ret_bool NO.out.symm, B1.out⟩
    go_wp2_with fail
    refine (l1In_any _ _ _ _).mono ?_
    rintro e w' ⟨rfl, rfl⟩
    rw [H2.out]
    cases q2
    · go_wp2
      go_ret
      exact ⟨ret_bool NO.out.symm, B1.out⟩
    go_wp2_with fail
    refine (l1In_any _ _ _ _).mono ?_
    rintro e w' ⟨rfl, rfl⟩
    rw [H3.out]
    cases q3
    · go_wp2
      go_ret
      exact ⟨ret_bool NO.out.symm, B1.out⟩
    go_wp2_with fail
    refine (l1In_any _ _ _ _).mono ?_
    rintro e w' ⟨rfl, rfl⟩
    rw [H4.out]
    cases q4
    · go_wp2
      go_ret
      exact ⟨ret_bool NO.out.symm, B1.out⟩
    go_wp2
    go_ret
    exact ⟨ret_bool NO.out.symm, B1.out⟩
  · go_enter Try.func88, Try.ntmps88
    go_wp2_with fail
    refine (l1In_any _ _ _ _).mono ?_
    rintro e w' ⟨rfl, rfl⟩
    rw [H1.out]
    cases q1
    · go_wp2
      go_ret
      exact ⟨ret_bool (by rw [OK.out]; rfl), B1.out⟩
    go_wp2_with fail
    refine (l1In_any _ _ _ _).mono ?_
    rintro e w' ⟨rfl, rfl⟩
    rw [H2.out]
    cases q2
    · go_wp2
      go_ret
      exact ⟨ret_bool (by rw [OK.out]; rfl), B1.out⟩
    go_wp2_with fail
    refine (l1In_any _ _ _ _).mono ?_
    rintro e w' ⟨rfl, rfl⟩
    rw [H3.out]
    cases q3
    · go_wp2
      go_ret
      exact ⟨ret_bool (by rw [OK.out]; rfl), B1.out⟩
    go_wp2_with fail
    refine (l1In_any _ _ _ _).mono ?_
    rintro e w' ⟨rfl, rfl⟩
    rw [H4.out]
    cases q4
    · go_wp2
      go_ret
      exact ⟨ret_bool (by rw [OK.out]; rfl), B1.out⟩
    go_wp2_with fail
    refine (l1Rising_any _ _ _ x.Flats 1 999 _ HI.out).mono ?_
    rintro e w2 ⟨rfl, hb⟩
    have B2 := Lib.hid (Below.then' B1.out hb)
    clear hb
    go_wp2
    go_ret
    refine ⟨ret_bool ?_, B2.out⟩
    rw [OK.out]
    unfold idsB
    rw [decide_eq_true (show x.Flats.length ≤ 12 by have := HL.out; omega), Bool.and_true]
    rfl
set_option maxHeartbeats 3200000 in
theorem l5Fits_any (f : VFlat) (x : VDrawer) (h : Hd) (w : World) :
    Calls Try.prog 89 #[.agg #[.int .i64 f.Id, .int .i64 f.Wide, .int .i64 f.High, .int .i64 f.Grams], .agg #[.int .i64 x.Id, .int .i64 x.Wide, .int .i64 x.High, .int .i64 x.Holds, .slice h.a h.n h.c]] w fun e w' => e = .returned (.bool (fitsB f x)) ∧ Below w.heap.size w w' := by
  obtain ⟨q, hq⟩ : ∃ q, fitsB f x = q := ⟨_, rfl⟩
  rw [hq]
  unfold fitsB at hq
  by_cases h1 : f.Wide ≤ x.Wide <;> by_cases h2 : f.High ≤ x.High <;> by_cases h3 : f.High ≤ x.Wide <;> by_cases h4 : f.Wide ≤ x.High
  all_goals try (exfalso; omega)
  all_goals
    simp only [h1, h2, h3, h4, decide_true, decide_false, Bool.and_true, Bool.and_false, Bool.or_true, Bool.or_false] at hq
    subst hq
    go_enter Try.func89, Try.ntmps89
    go_wp2
    go_ret
    exact ⟨rfl, bel_al2 _ _ _⟩
end Go.Proofs.Ytlmedhidkhphbaa
