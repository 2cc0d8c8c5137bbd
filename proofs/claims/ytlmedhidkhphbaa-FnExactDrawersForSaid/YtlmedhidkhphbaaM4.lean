/- Texts in one: Ds, Ds2, Ds3, AreFlatsP, AreDrawersP, GramsInP, DrawerOfP, LooseFlatsP. -/
import Derived.Test.YtlmedhidkhphbaaM3
namespace Go.Proofs.Ytlmedhidkhphbaa
open Go.RowKit

set_option maxHeartbeats 1600000 in
theorem l5Flat_any (s : VFlat) (w : World) : Calls Try.prog 87 #[.agg #[.int .i64 s.Id, .int .i64 s.Wide, .int .i64 s.High, .int .i64 s.Grams]] w fun e w' => e = .returned (.bool s.ok) ∧ Below w.heap.size w w' := by
  go_enter Try.func87, Try.ntmps87
  go_wp2_with (go_at_call 119; refine (l1In_any _ _ _ _).mono ?_; rintro e w' ⟨rfl, rfl⟩)
  all_goals go_ret
  all_goals exact ⟨ret_bool (by simp [VFlat.ok, *]), bel_al1 _ _⟩
set_option maxHeartbeats 6400000 in
set_option maxRecDepth 100000 in
theorem l5Flats_any (a : Option Addr) (len cap : Nat) (xs : List VFlat) (w : World) (h : IsFlatS w a len cap xs) :
    Calls Try.prog 91 #[.slice a len cap] w fun e w' => e = .returned (.bool (flatsB xs)) ∧ Below w.heap.size w w' := by
  have hm := h.2.2.1
  have hcl := h.2.1
  unfold maxLen at hm
  have S := Lib.hid h
  have L := Lib.hid h.1
  clear h
  go_enter Try.func91, Try.ntmps91
  go_wp2
  go_loopw [3] (fun i wr => ∃ k : Nat, k ≤ len ∧ i = .int .i64 k ∧ Below w.heap.size w wr ∧ ∀ j, j < k → upStep VFlat.ok VFlat.Id xs j = true) (fun i _ => len - (intOf i).toNat)
  case atStart => exact ⟨0, Nat.zero_le _, rfl, Below.refl _ _, by omega⟩
  case round =>
    obtain ⟨k, hk, rfl, hbel, hall⟩ := hrel
    have A := Lib.hid hall
    have B := Lib.hid hbel
    clear hall
    by_cases hlt : k < len
    · obtain ⟨s, hs⟩ := el_at L hlt
      obtain ⟨b, o, rfl, hb, hat⟩ := (S.out.below hbel).at (by omega)
      obtain ⟨c0, c1, c2, c3⟩ := hat k s hs
      have k0 := cell_regrown c0
      have k1 := cell_regrown c1
      have k2 := cell_regrown c2
      have k3 := cell_regrown c3
      clear c0 c1 c2 c3 hbel
      have hi0 : (0 : Int) ≤ (k : Int) := by omega
      have hi1 : (k : Int) < (len : Int) := by omega
      rcases up_ways (ok := VFlat.ok) (id := VFlat.Id) hs with ⟨h1, h2⟩ | ⟨h1, rfl, h2⟩ | ⟨h1, j, p, rfl, hp, h2⟩
      · have cQ := below_at (W := wr) (fun W' _ => h1 ▸ l5Flat_any s W')
        have Z := Lib.hid h2
        clear h1 h2 hs hat
        go_wp2
        refine wp_region_quiet_below (by kernel_rfl) (by kernel_rfl) ?_
        repeat (first | go_big_quiet_step (with_reducible exact cQ _ _) | quiet_step (with_reducible exact cQ _ _))
        refine wpQuiet_nil ?_
        intro W2 hw2
        have B2 := Lib.hid (Below.then' B.out (below_of_re hw2))
        clear hw2 cQ k0 k1 k2 k3
        go_wp2
        go_ret
        exact ⟨ret_bool (by unfold flatsB; rw [upB_bad Z.out (by have := L.out; omega)]; rfl), B2.out⟩
      · have cQ := below_at (W := wr) (fun W' _ => h1 ▸ l5Flat_any s W')
        have Z := Lib.hid h2
        simp only [Nat.zero_mul, Nat.add_zero] at k0 k1 k2 k3
        clear h1 h2 hs hat
        go_wp2
        refine wp_region_quiet_below (by kernel_rfl) (by kernel_rfl) ?_
        repeat (first | go_big_quiet_step (with_reducible exact cQ _ _) | quiet_step (with_reducible exact cQ _ _))
        refine wpQuiet_nil ?_
        intro W2 hw2
        have B2 := Lib.hid (Below.then' B.out (below_of_re hw2))
        clear hw2 cQ k0 k1 k2 k3
        go_wp2
        go_roundw
        case rel => exact ⟨1, by omega, by go_num, B2.out, all_more A.out Z.out⟩
        case measure => simp [intOf]; omega
      · have cQ := below_at (W := wr) (fun W' _ => h1 ▸ l5Flat_any s W')
        obtain ⟨p0, _⟩ := hat j p hp
        have q0 := cell_regrown p0
        have hp0 : (0 : Int) ≤ (j : Int) := by omega
        have hp1 : (j : Int) < (len : Int) := by omega
        clear h1 hs hp p0 hat
        rcases h2 with ⟨h2, h3⟩ | ⟨h2, h3⟩
        · have Z := Lib.hid h3
          clear h3
          go_wp2
          refine wp_region_quiet_below (by kernel_rfl) (by kernel_rfl) ?_
          repeat (first | go_big_quiet_step (with_reducible exact cQ _ _) | quiet_step (with_reducible exact cQ _ _))
          refine wpQuiet_nil ?_
          intro W2 hw2
          have B2 := Lib.hid (Below.then' B.out (below_of_re hw2))
          clear hw2 cQ k0 k1 k2 k3 q0
          go_wp2
          go_roundw
          case rel => exact ⟨j + 1 + 1, by omega, by go_num, B2.out, all_more A.out Z.out⟩
          case measure => simp [intOf]; omega
        · have Z := Lib.hid h3
          clear h3
          go_wp2
          refine wp_region_quiet_below (by kernel_rfl) (by kernel_rfl) ?_
          repeat (first | go_big_quiet_step (with_reducible exact cQ _ _) | quiet_step (with_reducible exact cQ _ _))
          refine wpQuiet_nil ?_
          intro W2 hw2
          have B2 := Lib.hid (Below.then' B.out (below_of_re hw2))
          clear hw2 cQ k0 k1 k2 k3 q0
          go_wp2
          go_ret
          exact ⟨ret_bool (by unfold flatsB; rw [upB_bad Z.out (by have := L.out; omega)]; rfl), B2.out⟩
    · obtain rfl : k = len := by omega
      have U := Lib.hid (show upB VFlat.ok VFlat.Id xs = true from upB_iff.2 (fun i hi => A.out i (by have := L.out; omega)))
      clear hbel
      go_wp2
      go_ret
      exact ⟨ret_bool (by unfold flatsB; rw [U.out]; simp only [Bool.true_and]; rw [decide_eq_decide]; have := L.out; omega), B.out⟩
set_option maxHeartbeats 3200000 in
set_option maxRecDepth 100000 in
theorem l1Has_any (a : Option Addr) (len cap : Nat) (xs : List Int) (x : Int) (w : World) (h : IsInts w a len cap xs) :
    Calls Try.prog 120 #[.slice a len cap, .int .i64 x] w fun e w' => e = .returned (.bool (hasB x xs)) ∧ w = w' := by
  obtain rfl := h.1
  have hm := h.2.2.1
  have hcl := h.2.1
  unfold maxLen at hm
  have S := Lib.hid h
  clear h
  go_enter Try.func120, Try.ntmps120
  go_wp2
  go_loop [5] (fun i => ∃ k : Nat, k ≤ xs.length ∧ i = .int .i64 k ∧ ∀ j y, j < k → xs[j]? = some y → ¬ y = x) (fun i => xs.length - (intOf i).toNat)
  case atStart => exact ⟨0, Nat.zero_le _, rfl, fun _ _ h => by omega⟩
  case round =>
    obtain ⟨k, hk, rfl, hno⟩ := hrel
    have NO := Lib.hid hno
    clear hno
    by_cases hlt : k < xs.length
    · obtain ⟨s, hs⟩ : ∃ s, xs[k]? = some s := ⟨xs[k]'hlt, List.getElem?_eq_getElem _⟩
      obtain ⟨b, o, rfl, hb, hat⟩ := S.out.at (by omega)
      have c0 := hat k s hs
      have hi0 : (0 : Int) ≤ (k : Int) := by omega
      have hi1 : (k : Int) < (xs.length : Int) := by omega
      have HS := Lib.hid hs
      clear hs hat
      by_cases he : s = x
      · have Y := Lib.hid (show hasB x xs = true from hasB_iff.2 (he ▸ List.mem_of_getElem? HS.out))
        have hb1 : (s == x) = true := by simpa using he
        subst he
        go_wp2
        go_ret
        exact ⟨ret_bool Y.out.symm, rfl⟩
      · have hb1 : (s == x) = false := by simpa using he
        have HE := Lib.hid he
        clear he
        go_wp2
        go_round
        case rel => exact ⟨k + 1, by omega, by go_num, fun j y hj hy => by
          by_cases e : j = k
          · subst e; rw [HS.out] at hy; cases hy; exact HE.out
          · exact NO.out j y (by omega) hy⟩
        case measure => simp [intOf]; omega
    · obtain rfl : k = xs.length := by omega
      have Y := Lib.hid (show hasB x xs = false from by
        rw [← Bool.not_eq_true, hasB_iff]
        intro h
        obtain ⟨j, hj⟩ := List.getElem?_of_mem h
        exact NO.out j x (List.getElem?_eq_some_iff.1 hj).1 hj rfl)
      go_wp2
      go_ret
      exact ⟨ret_bool Y.out.symm, rfl⟩
set_option maxHeartbeats 6400000 in
set_option maxRecDepth 100000 in
theorem l1Rising_any (a : Option Addr) (len cap : Nat) (xs : List Int) (lo hi : Int) (w : World) (h : IsInts w a len cap xs) :
    Calls Try.prog 129 #[.slice a len cap, .int .i64 lo, .int .i64 hi] w fun e w' => e = .returned (.bool (upB (fun z => inB z lo hi) (fun z => z) xs)) ∧ Below w.heap.size w w' := by
  have hm := h.2.2.1
  have hcl := h.2.1
  unfold maxLen at hm
  have S := Lib.hid h
  have L := Lib.hid h.1
  clear h
  obtain ⟨f, hf⟩ : ∃ f : Int → Bool, (fun z => inB z lo hi) = f := ⟨_, rfl⟩
  rw [hf]
  have HF := Lib.hid (show ∀ z, inB z lo hi = f z from fun z => by rw [← hf])
  clear hf
  go_enter Try.func129, Try.ntmps129
  go_wp2
  go_loopw [7] (fun i wr => ∃ k : Nat, k ≤ len ∧ i = .int .i64 k ∧ Below w.heap.size w wr ∧ ∀ j, j < k → upStep f (fun z => z) xs j = true) (fun i _ => len - (intOf i).toNat)
  case atStart => exact ⟨0, Nat.zero_le _, rfl, Below.refl _ _, by omega⟩
  case round =>
    obtain ⟨k, hk, rfl, hbel, hall⟩ := hrel
    have A := Lib.hid hall
    have B := Lib.hid hbel
    clear hall
    by_cases hlt : k < len
    · obtain ⟨s, hs⟩ := el_at L hlt
      obtain ⟨b, o, rfl, hb, hat⟩ := (S.out.below hbel).at (by omega)
      have k0 := cell_regrown (hat k s hs)
      have hi0 : (0 : Int) ≤ (k : Int) := by omega
      have hi1 : (k : Int) < (len : Int) := by omega
      clear hbel
      rcases up_ways (ok := f) (id := fun z => z) hs with ⟨h1, h2⟩ | ⟨h1, rfl, h2⟩ | ⟨h1, j, p, rfl, hp, h2⟩
      · have cQ := below_at (W := wr) (fun W' _ => same_below (h1 ▸ HF.out s ▸ l1In_any s lo hi W'))
        have Z := Lib.hid h2
        clear h1 h2 hs hat
        go_wp2
        refine wp_region_quiet_below (by kernel_rfl) (by kernel_rfl) ?_
        repeat (first | go_big_quiet_step (with_reducible exact cQ _ _) | quiet_step (with_reducible exact cQ _ _))
        refine wpQuiet_nil ?_
        intro W2 hw2
        have B2 := Lib.hid (Below.then' B.out (below_of_re hw2))
        clear hw2 cQ k0
        go_wp2
        go_ret
        exact ⟨ret_bool (by rw [upB_bad Z.out (by have := L.out; omega)]), B2.out⟩
      · have cQ := below_at (W := wr) (fun W' _ => same_below (h1 ▸ HF.out s ▸ l1In_any s lo hi W'))
        have Z := Lib.hid h2
        rw [Nat.add_zero] at k0
        clear h1 h2 hs hat
        go_wp2
        refine wp_region_quiet_below (by kernel_rfl) (by kernel_rfl) ?_
        repeat (first | go_big_quiet_step (with_reducible exact cQ _ _) | quiet_step (with_reducible exact cQ _ _))
        refine wpQuiet_nil ?_
        intro W2 hw2
        have B2 := Lib.hid (Below.then' B.out (below_of_re hw2))
        clear hw2 cQ k0
        go_wp2
        go_roundw
        case rel => exact ⟨1, by omega, by go_num, B2.out, all_more A.out Z.out⟩
        case measure => simp [intOf]; omega
      · have cQ := below_at (W := wr) (fun W' _ => same_below (h1 ▸ HF.out s ▸ l1In_any s lo hi W'))
        have q0 := cell_regrown (hat j p hp)
        have hp0 : (0 : Int) ≤ (j : Int) := by omega
        have hp1 : (j : Int) < (len : Int) := by omega
        clear h1 hs hp hat
        rcases h2 with ⟨h2, h3⟩ | ⟨h2, h3⟩
        · have Z := Lib.hid h3
          clear h3
          go_wp2
          refine wp_region_quiet_below (by kernel_rfl) (by kernel_rfl) ?_
          repeat (first | go_big_quiet_step (with_reducible exact cQ _ _) | quiet_step (with_reducible exact cQ _ _))
          refine wpQuiet_nil ?_
          intro W2 hw2
          have B2 := Lib.hid (Below.then' B.out (below_of_re hw2))
          clear hw2 cQ k0 q0
          go_wp2
          go_roundw
          case rel => exact ⟨j + 1 + 1, by omega, by go_num, B2.out, all_more A.out Z.out⟩
          case measure => simp [intOf]; omega
        · have Z := Lib.hid h3
          clear h3
          go_wp2
          refine wp_region_quiet_below (by kernel_rfl) (by kernel_rfl) ?_
          repeat (first | go_big_quiet_step (with_reducible exact cQ _ _) | quiet_step (with_reducible exact cQ _ _))
          refine wpQuiet_nil ?_
          intro W2 hw2
          have B2 := Lib.hid (Below.then' B.out (below_of_re hw2))
          clear hw2 cQ k0 q0
          go_wp2
          go_ret
          exact ⟨ret_bool (by rw [upB_bad Z.out (by have := L.out; omega)]), B2.out⟩
    · obtain rfl : k = len := by omega
      have U := Lib.hid (show upB f (fun z => z) xs = true from upB_iff.2 (fun i hi => A.out i (by have := L.out; omega)))
      clear hbel
      go_wp2
      go_ret
      exact ⟨ret_bool U.out.symm, B.out⟩
set_option maxHeartbeats 3200000 in
theorem l5Drawer_any (x : VDrawer) (h : Hd) (w : World) (hi : IsInts w h.a h.n h.c x.Flats) :
    Calls Try.prog 88 #[.agg #[.int .i64 x.Id, .int .i64 x.Wide, .int .i64 x.High, .int .i64 x.Holds, .slice h.a h.n h.c]] w fun e w' => e = .returned (.bool x.ok) ∧ Below w.heap.size w w' := by
  have b1 := bel_al1 w (.cells #[.int .i64 x.Id, .int .i64 x.Wide, .int .i64 x.High, .int .i64 x.Holds, .slice h.a h.n h.c] 42)
  have HI := Lib.hid (hi.below b1)
  have B1 := Lib.hid b1
  have hm := hi.2.2.1
  have hcl := hi.2.1
  unfold maxLen at hm
  have HL := Lib.hid hi.1
  obtain ⟨q1, h1⟩ : ∃ q, inB x.Id 1 99 = q := ⟨_, rfl⟩
  obtain ⟨q2, h2⟩ : ∃ q, inB x.Wide 100 2000 = q := ⟨_, rfl⟩
  obtain ⟨q3, h3⟩ : ∃ q, inB x.High 100 2000 = q := ⟨_, rfl⟩
  obtain ⟨q4, h4⟩ : ∃ q, inB x.Holds 100 50000 = q := ⟨_, rfl⟩
  have OK := Lib.hid (show x.ok = (q1 && (q2 && (q3 && (q4 && idsB x.Flats)))) from by unfold VDrawer.ok; rw [← h1, ← h2, ← h3, ← h4])
  have H1 := Lib.hid h1
  have H2 := Lib.hid h2
  have H3 := Lib.hid h3
  have H4 := Lib.hid h4
  clear h1 h2 h3 h4 hi b1
  by_cases h12 : (12 : Int) < (h.n : Int)
  · have NO := Lib.hid (show x.ok = false from by
      rw [OK.out]
      unfold idsB
      rw [decide_eq_false (by have := HL.out; omega)]
      simp)
    go_enter Try.func88, Try.ntmps88
    go_wp2_with fail
    refine (l1In_any _ _ _ _).mono ?_
    rintro e w' ⟨rfl, rfl⟩
    rw [H1.out]
    cases q1
    · go_wp2
      go_ret
      exact ⟨ret_bool NO.out.symm, B1.out⟩
    go_wp2_with fail
    refine (l1In_any _ _ _ _).mono ?_
    rintro e w' ⟨rfl, rfl⟩
    rw [H2.out]
    cases q2
    · go_wp2
      go_ret
      exact ⟨ret_bool NO.out.symm, B1.out⟩
    go_wp2_with fail
    refine (l1In_any _ _ _ _).mono ?_
    rintro e w' ⟨rfl, rfl⟩
    rw [H3.out]
    cases q3
    · go_wp2
      go_ret
      exact ⟨ret_bool NO.out.symm, B1.out⟩
    go_wp2_with fail
    refine (l1In_any _ _ _ _).mono ?_
    rintro e w' ⟨rfl, rfl⟩
    rw [H4.out]
    cases q4
    · go_wp2
      go_ret
      exact ⟨ret_bool NO.out.symm, B1.out⟩
    go_wp2
    go_ret
    exact ⟨ret_bool NO.out.symm, B1.out⟩
  · go_enter Try.func88, Try.ntmps88
    go_wp2_with fail
    refine (l1In_any _ _ _ _).mono ?_
    rintro e w' ⟨rfl, rfl⟩
    rw [H1.out]
    cases q1
    · go_wp2
      go_ret
      exact ⟨ret_bool (by rw [OK.out]; rfl), B1.out⟩
    go_wp2_with fail
    refine (l1In_any _ _ _ _).mono ?_
    rintro e w' ⟨rfl, rfl⟩
    rw [H2.out]
    cases q2
    · go_wp2
      go_ret
      exact ⟨ret_bool (by rw [OK.out]; rfl), B1.out⟩
    go_wp2_with fail
    refine (l1In_any _ _ _ _).mono ?_
    rintro e w' ⟨rfl, rfl⟩
    rw [H3.out]
    cases q3
    · go_wp2
      go_ret
      exact ⟨ret_bool (by rw [OK.out]; rfl), B1.out⟩
    go_wp2_with fail
    refine (l1In_any _ _ _ _).mono ?_
    rintro e w' ⟨rfl, rfl⟩
    rw [H4.out]
    cases q4
    · go_wp2
      go_ret
      exact ⟨ret_bool (by rw [OK.out]; rfl), B1.out⟩
    go_wp2_with fail
    refine (l1Rising_any _ _ _ x.Flats 1 999 _ HI.out).mono ?_
    rintro e w2 ⟨rfl, hb⟩
    have B2 := Lib.hid (Below.then' B1.out hb)
    clear hb
    go_wp2
    go_ret
    refine ⟨ret_bool ?_, B2.out⟩
    rw [OK.out]
    unfold idsB
    rw [decide_eq_true (show x.Flats.length ≤ 12 by have := HL.out; omega), Bool.and_true]
    rfl
set_option maxHeartbeats 3200000 in
theorem l5Fits_any (f : VFlat) (x : VDrawer) (h : Hd) (w : World) :
    Calls Try.prog 89 #[.agg #[.int .i64 f.Id, .int .i64 f.Wide, .int .i64 f.High, .int .i64 f.Grams], .agg #[.int .i64 x.Id, .int .i64 x.Wide, .int .i64 x.High, .int .i64 x.Holds, .slice h.a h.n h.c]] w fun e w' => e = .returned (.bool (fitsB f x)) ∧ Below w.heap.size w w' := by
  obtain ⟨q, hq⟩ : ∃ q, fitsB f x = q := ⟨_, rfl⟩
  rw [hq]
  unfold fitsB at hq
  by_cases h1 : f.Wide ≤ x.Wide <;> by_cases h2 : f.High ≤ x.High <;> by_cases h3 : f.High ≤ x.Wide <;> by_cases h4 : f.Wide ≤ x.High
  all_goals try (exfalso; omega)
  all_goals
    simp only [h1, h2, h3, h4, decide_true, decide_false, Bool.and_true, Bool.and_false, Bool.or_true, Bool.or_false] at hq
    subst hq
    go_enter Try.func89, Try.ntmps89
    go_wp2
    go_ret
    exact ⟨rfl, bel_al2 _ _ _⟩
end Go.Proofs.Ytlmedhidkhphbaa
namespace Go.Proofs.Ytlmedhidkhphbaa
open Go.RowKit

set_option maxHeartbeats 3200000 in
set_option maxRecDepth 100000 in
theorem l5Find_any (a : Option Addr) (len cap : Nat) (xs : List VFlat) (id : Int) (w : World) (h : IsFlatS w a len cap xs) :
    Calls Try.prog 70 #[.slice a len cap, .int .i64 id] w fun e w' => e = .returned (.int .i64 (flatI xs id)) ∧ w = w' := by
  have hm := h.2.2.1
  have hcl := h.2.1
  unfold maxLen at hm
  have S := Lib.hid h
  have L := Lib.hid h.1
  clear h
  go_enter Try.func70, Try.ntmps70
  go_wp2
  go_loop [5] (fun i => ∃ k : Nat, k ≤ len ∧ i = .int .i64 k ∧ ∀ (j : Nat) t, j < k → xs[j]? = some t → (t.Id == id) = false) (fun i => len - (intOf i).toNat)
  case atStart => exact ⟨0, Nat.zero_le _, rfl, fun _ _ h => by omega⟩
  case round =>
    obtain ⟨k, hk, rfl, hall⟩ := hrel
    have A := Lib.hid hall
    clear hall
    by_cases hlt : k < len
    · obtain ⟨s, hs⟩ := el_at L hlt
      obtain ⟨b, o, rfl, hb, hat⟩ := S.out.at (by omega)
      obtain ⟨c0, _⟩ := hat k s hs
      have X := Lib.hid hs
      have hi0 : (0 : Int) ≤ (k : Int) := by omega
      have hi1 : (k : Int) < (len : Int) := by omega
      clear hs hat
      cases hq : (s.Id == id) with
      | true =>
        have FS := Lib.hid hq
        go_wp2
        go_ret
        exact ⟨ret_int (firstOf_at (f := fun f : VFlat => f.Id == id) X.out FS.out A.out).symm, rfl⟩
      | false =>
        have FS := Lib.hid hq
        go_wp2
        go_round
        case rel => exact ⟨k + 1, by omega, by go_num, fun j t hj ht => by
          by_cases e : j = k
          · subst e; rw [X.out] at ht; cases ht; exact FS.out
          · exact A.out j t (by omega) ht⟩
        case measure => simp [intOf]; omega
    · obtain rfl : k = len := by omega
      go_wp2
      go_ret
      exact ⟨ret_int (firstOf_no (f := fun f : VFlat => f.Id == id) fun j t hj ht => A.out j t (by have := L.out; omega) ht).symm, rfl⟩
set_option maxHeartbeats 3200000 in
set_option maxRecDepth 100000 in
theorem l5Index_any (a : Option Addr) (len cap : Nat) (xs : List VDrawer) (id : Int) (w : World) (h : IsDrawerS w a len cap xs) :
    Calls Try.prog 68 #[.slice a len cap, .int .i64 id] w fun e w' => e = .returned (.int .i64 (drawI xs id)) ∧ w = w' := by
  have hm := h.2.2.1
  have hcl := h.2.1
  unfold maxLen at hm
  have S := Lib.hid h
  have L := Lib.hid h.1
  clear h
  go_enter Try.func68, Try.ntmps68
  go_wp2
  go_loop [5] (fun i => ∃ k : Nat, k ≤ len ∧ i = .int .i64 k ∧ ∀ (j : Nat) t, j < k → xs[j]? = some t → (t.Id == id) = false) (fun i => len - (intOf i).toNat)
  case atStart => exact ⟨0, Nat.zero_le _, rfl, fun _ _ h => by omega⟩
  case round =>
    obtain ⟨k, hk, rfl, hall⟩ := hrel
    have A := Lib.hid hall
    clear hall
    by_cases hlt : k < len
    · obtain ⟨s, hs⟩ := el_at L hlt
      obtain ⟨b, o, rfl, hb, hat⟩ := S.out.at (by omega)
      obtain ⟨hd, c0, _⟩ := hat k s hs
      have X := Lib.hid hs
      have hi0 : (0 : Int) ≤ (k : Int) := by omega
      have hi1 : (k : Int) < (len : Int) := by omega
      clear hs hat
      cases hq : (s.Id == id) with
      | true =>
        have FS := Lib.hid hq
        go_wp2
        go_ret
        exact ⟨ret_int (firstOf_at (f := fun f : VDrawer => f.Id == id) X.out FS.out A.out).symm, rfl⟩
      | false =>
        have FS := Lib.hid hq
        go_wp2
        go_round
        case rel => exact ⟨k + 1, by omega, by go_num, fun j t hj ht => by
          by_cases e : j = k
          · subst e; rw [X.out] at ht; cases ht; exact FS.out
          · exact A.out j t (by omega) ht⟩
        case measure => simp [intOf]; omega
    · obtain rfl : k = len := by omega
      go_wp2
      go_ret
      exact ⟨ret_int (firstOf_no (f := fun f : VDrawer => f.Id == id) fun j t hj ht => A.out j t (by have := L.out; omega) ht).symm, rfl⟩
set_option maxHeartbeats 3200000 in
set_option maxRecDepth 100000 in
theorem l5Where_any (a : Option Addr) (len cap : Nat) (xs : List VDrawer) (id : Int) (w : World) (h : IsDrawerS w a len cap xs) :
    Calls Try.prog 71 #[.slice a len cap, .int .i64 id] w fun e w' => e = .returned (.int .i64 (holdI xs id)) ∧ w = w' := by
  have hm := h.2.2.1
  have hcl := h.2.1
  unfold maxLen at hm
  have S := Lib.hid h
  have L := Lib.hid h.1
  clear h
  go_enter Try.func71, Try.ntmps71
  go_wp2
  go_loop [5] (fun i => ∃ k : Nat, k ≤ len ∧ i = .int .i64 k ∧ ∀ (j : Nat) t, j < k → xs[j]? = some t → hasB id t.Flats = false) (fun i => len - (intOf i).toNat)
  case atStart => exact ⟨0, Nat.zero_le _, rfl, fun _ _ h => by omega⟩
  case round =>
    obtain ⟨k, hk, rfl, hall⟩ := hrel
    have A := Lib.hid hall
    clear hall
    by_cases hlt : k < len
    · obtain ⟨s, hs⟩ := el_at L hlt
      obtain ⟨b, o, rfl, hb, hat⟩ := S.out.at (by omega)
      obtain ⟨hd, c0, c1, c2, c3, c4, hin⟩ := hat k s hs
      have X := Lib.hid hs
      have HI := Lib.hid hin
      have hi0 : (0 : Int) ≤ (k : Int) := by omega
      have hi1 : (k : Int) < (len : Int) := by omega
      clear hs hat hin
      go_wp2_with fail
      refine (l1Has_any _ _ _ s.Flats id _ HI.out).mono ?_
      rintro e w1 ⟨rfl, rfl⟩
      cases hq : hasB id s.Flats with
      | true =>
        have FS := Lib.hid hq
        clear hq
        go_wp2
        go_ret
        exact ⟨ret_int (firstOf_at (f := fun f : VDrawer => hasB id f.Flats) X.out FS.out A.out).symm, rfl⟩
      | false =>
        have FS := Lib.hid hq
        clear hq
        go_wp2
        go_round
        case rel => exact ⟨k + 1, by omega, by go_num, fun j t hj ht => by
          by_cases e : j = k
          · subst e; rw [X.out] at ht; cases ht; exact FS.out
          · exact A.out j t (by omega) ht⟩
        case measure => simp [intOf]; omega
    · obtain rfl : k = len := by omega
      go_wp2
      go_ret
      exact ⟨ret_int (firstOf_no (f := fun f : VDrawer => hasB id f.Flats) fun j t hj ht => A.out j t (by have := L.out; omega) ht).symm, rfl⟩
/-! The grams, as the model sums them, whatever the flats. -/
def gramsGo (fs : List VFlat) (d : VDrawer) : List Int → Int → Int
  | [], s => s
  | id :: l, s => match flatOf fs id with
    | none => -1
    | some f => if fitsB f d = true then gramsGo fs d l (wrap64 (s + f.Grams)) else -1
def gramsW (fs : List VFlat) (d : VDrawer) : Int := gramsGo fs d d.Flats 0
theorem gramsGo_bad {fs : List VFlat} {d : VDrawer} : ∀ {l : List Int} {s : Int}, l.all (fitsId fs d) = false → gramsGo fs d l s = -1 := by
  intro l
  induction l with
  | nil => intro s h; simp at h
  | cons id l ih =>
    intro s h
    unfold gramsGo
    cases e : flatOf fs id with
    | none => rfl
    | some f =>
      simp only
      by_cases hf : fitsB f d = true
      · rw [if_pos hf]
        refine ih ?_
        rw [List.all_cons] at h
        have : fitsId fs d id = true := by unfold fitsId; rw [e]; exact hf
        rw [this] at h
        exact h
      · rw [if_neg hf]
theorem gramsGo_ok {fs : List VFlat} {d : VDrawer} (hok : ∀ f ∈ fs, VFlat.ok f = true) : ∀ {l : List Int} {s : Int}, l.all (fitsId fs d) = true → 0 ≤ s → s + 5000 * (l.length : Int) ≤ 1000000000 → gramsGo fs d l s = s + gramsS fs l := by
  intro l
  induction l with
  | nil => intro s _ _ _; simp [gramsGo, gramsS, sumI]
  | cons id l ih =>
    intro s h h0 h1
    rw [List.all_cons, Bool.and_eq_true] at h
    obtain ⟨f, h2, h3⟩ := fitsId_some h.1
    have hg := grams_bd hok id
    have hgi : gramsId fs id = f.Grams := by unfold gramsId; rw [h2]
    simp only [List.length_cons] at h1
    unfold gramsGo
    rw [h2]
    simp only
    rw [if_pos h3, IntWalk.wrap64_in _ (by omega), ih h.2 (by omega) (by omega), gramsS_cons, hgi]
    omega
theorem gramsW_ok {fs : List VFlat} {d : VDrawer} (hok : ∀ f ∈ fs, VFlat.ok f = true) (hl : d.Flats.length ≤ 12) : gramsW fs d = gramsM fs d := by
  unfold gramsW gramsM
  by_cases h : d.Flats.all (fitsId fs d) = true
  · rw [if_pos h, gramsGo_ok hok h (Int.le_refl _) (by omega)]
    omega
  · rw [if_neg h, gramsGo_bad (by simpa using h)]
theorem gramsGo_drop {fs : List VFlat} {d : VDrawer} {l : List Int} {k : Nat} {id : Int} (h : l[k]? = some id) (s : Int) : gramsGo fs d (l.drop k) s = match flatOf fs id with
    | none => -1
    | some f => if fitsB f d = true then gramsGo fs d (l.drop (k + 1)) (wrap64 (s + f.Grams)) else -1 := by
  obtain ⟨hk, e⟩ := List.getElem?_eq_some_iff.1 h
  rw [List.drop_eq_getElem_cons hk, e]
  rfl
set_option maxHeartbeats 12800000 in
set_option maxRecDepth 100000 in
theorem l5Grams_any (a : Option Addr) (len cap : Nat) (xs : List VFlat) (x : VDrawer) (hd : Hd) (w : World) (h : IsFlatS w a len cap xs) (hi : IsInts w hd.a hd.n hd.c x.Flats) :
    Calls Try.prog 99 #[.slice a len cap, .agg #[.int .i64 x.Id, .int .i64 x.Wide, .int .i64 x.High, .int .i64 x.Holds, .slice hd.a hd.n hd.c]] w fun e w' => e = .returned (.int .i64 (gramsW xs x)) ∧ Below w.heap.size w w' := by
  obtain rfl := h.1
  have hm := h.2.2.1
  have hcl := h.2.1
  unfold maxLen at hm
  have hm2 := hi.2.2.1
  have hcl2 := hi.2.1
  unfold maxLen at hm2
  have S := Lib.hid h
  have HI := Lib.hid hi
  have B1 := Lib.hid (bel_al1 w (.cells #[.int .i64 x.Id, .int .i64 x.Wide, .int .i64 x.High, .int .i64 x.Holds, .slice hd.a hd.n hd.c] 42))
  have X := Lib.hid (BoxDrawer.new w 42 ⟨x, hd⟩ _ rfl)
  have HL := Lib.hid hi.1
  clear h hi
  go_enter Try.func99, Try.ntmps99
  go_wp2
  go_loopw [5, 6] (fun q i wr => ∃ (k : Nat) (s : Int), k ≤ hd.n ∧ i = .int .i64 k ∧ q = .int .i64 s ∧ gramsGo xs x (x.Flats.drop k) s = gramsW xs x ∧ Below w.heap.size w wr ∧ BoxDrawer wr w.heap.size ⟨x, hd⟩) (fun _ i _ => hd.n - (intOf i).toNat)
  case atStart => exact ⟨0, 0, Nat.zero_le _, rfl, rfl, rfl, B1.out, X.out⟩
  case round =>
    obtain ⟨k, s, hk, rfl, rfl, hgo, hbel, hbox⟩ := hrel
    have GO := Lib.hid hgo
    have B := Lib.hid hbel
    have BX := Lib.hid hbox
    clear hgo
    by_cases hlt : k < hd.n
    · obtain ⟨id, hid⟩ := el_at HL hlt
      obtain ⟨b, o, eh, hb, hat⟩ := (HI.out.below hbel).at (by omega)
      have c0 := hat k id hid
      have ED := Lib.hid (gramsGo_drop (fs := xs) (d := x) hid s)
      obtain ⟨d0, d1, d2, d3, d4⟩ := hbox
      rw [eh] at d4
      have EH := Lib.hid eh
      have SB := Lib.hid (S.out.below hbel)
      have hi0 : (0 : Int) ≤ (k : Int) := by omega
      have hi1 : (k : Int) < (hd.n : Int) := by omega
      clear hid hat hbel eh
      go_wp2_with fail
      refine (l5Find_any _ _ _ xs id _ SB.out).mono ?_
      rintro e w2 ⟨rfl, rfl⟩
      by_cases hneg : flatI xs id < 0
      · have NO := Lib.hid (show gramsW xs x = -1 from by rw [← GO.out, ED.out, (flat_no hneg).2])
        obtain ⟨y, hy⟩ : ∃ y, flatI xs id = y := ⟨_, rfl⟩
        rw [hy] at hneg ⊢
        have hdec : decide (y < 0) = true := by simpa using hneg
        clear hy c0 d0 d1 d2 d3 d4
        go_wp2
        refine wp_region_quiet_below (by kernel_rfl) (by kernel_rfl) ?_
        repeat (first | go_big_quiet_step (fail) | quiet_step (fail))
        refine wpQuiet_nil ?_
        intro W2 hw2
        have B3 := Lib.hid (Below.then' B.out (below_of_re hw2))
        clear hw2
        go_wp2
        go_ret
        exact ⟨ret_int NO.out.symm, B3.out⟩
      · obtain ⟨i, f, hfi, hf, hof, hfid⟩ := flat_at (show 0 ≤ flatI xs id by omega)
        obtain ⟨bf, of, ea, hbf, hatf⟩ := SB.out.at (by have := (List.getElem?_eq_some_iff.1 hf).1; omega)
        obtain ⟨e0, e1, e2, e3⟩ := hatf i f hf
        have AT := Lib.hid (hatf i f hf)
        have hil := (List.getElem?_eq_some_iff.1 hf).1
        have k0 := cell_regrown e0
        have k1 := cell_regrown e1
        have k2 := cell_regrown e2
        have k3 := cell_regrown e3
        have l0 := cell_regrown d0
        have l1 := cell_regrown d1
        have l2 := cell_regrown d2
        have l3 := cell_regrown d3
        have l4 := cell_regrown d4
        rw [hfi]
        subst ea
        have hdec : decide ((i : Int) < 0) = false := by simp
        have i0 : (0 : Int) ≤ (i : Int) := by omega
        have i1 : (i : Int) < (xs.length : Int) := by omega
        obtain ⟨q, hq⟩ : ∃ q, fitsB f x = q := ⟨_, rfl⟩
        have cQ0 := below_at (W := wr) (fun W' _ => hq ▸ l5Fits_any f x hd W')
        rw [EH.out] at cQ0
        have cQ := cQ0
        have FI := Lib.hid (show gramsGo xs x (x.Flats.drop k) s = if q = true then gramsGo xs x (x.Flats.drop (k + 1)) (wrap64 (s + f.Grams)) else -1 from by rw [ED.out, hof]; simp only; rw [hq])
        clear c0 d0 d1 d2 d3 d4 e0 e1 e2 e3 hf hatf hfi hneg hof hq hfid cQ0
        go_wp2
        refine wp_region_quiet_below (by kernel_rfl) (by kernel_rfl) ?_
        repeat (first | go_big_quiet_step (first | (with_reducible exact cQ _ _)) | quiet_step (first | (with_reducible exact cQ _ _)))
        refine wpQuiet_nil ?_
        intro W2 hw2
        have B3 := Lib.hid (Below.then' B.out (below_of_re hw2))
        have BX3 := Lib.hid (BX.out.below (below_of_re hw2))
        obtain ⟨_, _, _, m3⟩ := AT.out.below (below_of_re hw2) hbf
        clear hw2 cQ k0 k1 k2 k3 l0 l1 l2 l3 l4
        cases q with
        | true =>
          go_wp2
          go_roundw
          case rel => exact ⟨k + 1, _, by omega, by go_num, rfl, by rw [← GO.out, FI.out, if_pos rfl], B3.out, BX3.out⟩
          case measure => simp [intOf]; omega
        | false =>
          have NO := Lib.hid (show gramsW xs x = -1 from by rw [← GO.out, FI.out]; rfl)
          go_wp2
          go_ret
          exact ⟨ret_int NO.out.symm, B3.out⟩
    · obtain rfl : k = hd.n := by omega
      obtain ⟨d0, d1, d2, d3, d4⟩ := hbox
      have R := Lib.hid (show gramsW xs x = s from by
        rw [← GO.out, List.drop_of_length_le (by have := HL.out; omega)]; rfl)
      clear hbel
      go_wp2
      go_ret
      exact ⟨ret_int R.out.symm, B.out⟩
end Go.Proofs.Ytlmedhidkhphbaa
namespace Go.Proofs.Ytlmedhidkhphbaa
open Go.RowKit

/-- What the model asks of one drawer. -/
def stepM (xs : List VFlat) (ds : List VDrawer) (j : Nat) : Bool := upStep VDrawer.ok VDrawer.Id ds j && (match ds[j]? with | none => true | some d => inB (gramsW xs d) 0 d.Holds && apartB ds j d)
theorem stepM_bad {xs : List VFlat} {ds : List VDrawer} {j : Nat} (h : stepM xs ds j = false) (hj : j < ds.length) : goodB xs ds = false := by
  by_cases hf : flatsB xs = true
  · have hf2 : upB VFlat.ok VFlat.Id xs = true := by unfold flatsB at hf; rw [Bool.and_eq_true] at hf; exact hf.1
    by_cases hu : upStep VDrawer.ok VDrawer.Id ds j = true
    · obtain ⟨d, hd⟩ : ∃ d, ds[j]? = some d := ⟨ds[j], List.getElem?_eq_getElem hj⟩
      have hok : VDrawer.ok d = true := by
        unfold upStep at hu
        rw [hd] at hu
        simp at hu
        exact hu.1
      have hl : d.Flats.length ≤ 12 := by
        have h2 := hok
        unfold VDrawer.ok idsB at h2
        simp at h2
        exact h2.2.2.2.2.2
      have h4 : stepM xs ds j = (rightB xs d && apartB ds j d) := by
        unfold stepM
        rw [hu, hd]
        show (inB (gramsW xs d) 0 d.Holds && apartB ds j d) = _
        rw [gramsW_ok (fun f hm => upB_ok hf2 hm) hl, right_model hf2 hok]
      rw [h4] at h
      unfold goodB
      rw [Bool.and_eq_false_iff, Bool.and_eq_false_iff]
      refine .inr (.inr (List.all_eq_false.2 ⟨j, List.mem_range.2 hj, ?_⟩))
      unfold rightAt
      rw [hd]
      show ¬ (rightB xs d && apartB ds j d) = true
      rw [h]; simp
    · unfold goodB listB
      rw [upB_bad (by simpa using hu) hj]
      simp
  · unfold goodB
    have : flatsB xs = false := by simpa using hf
    rw [this]; rfl
theorem stepM_all {xs : List VFlat} {ds : List VDrawer} (h : ∀ j, j < ds.length → stepM xs ds j = true) (hl : ds.length ≤ 8) : goodB xs ds = flatsB xs := by
  by_cases hf : flatsB xs = true
  · have hf2 : upB VFlat.ok VFlat.Id xs = true := by unfold flatsB at hf; rw [Bool.and_eq_true] at hf; exact hf.1
    have hu : upB VDrawer.ok VDrawer.Id ds = true := upB_iff.2 fun j hj => by
      have := h j hj
      unfold stepM at this
      rw [Bool.and_eq_true] at this
      exact this.1
    unfold goodB listB
    rw [hf, hu, decide_eq_true hl, List.all_eq_true.2 fun j hj => ?_]
    · rfl
    · have hj' := List.mem_range.1 hj
      obtain ⟨d, hd⟩ : ∃ d, ds[j]? = some d := ⟨ds[j], List.getElem?_eq_getElem hj'⟩
      have h1 := h j hj'
      have hok := upB_ok hu (List.mem_of_getElem? hd)
      have hl : d.Flats.length ≤ 12 := by
        have h2 := hok
        unfold VDrawer.ok idsB at h2
        simp at h2
        exact h2.2.2.2.2.2
      have h4 : stepM xs ds j = (rightB xs d && apartB ds j d) := by
        unfold stepM
        rw [upB_iff.1 hu j hj', hd]
        show (inB (gramsW xs d) 0 d.Holds && apartB ds j d) = _
        rw [gramsW_ok (fun f hm => upB_ok hf2 hm) hl, right_model hf2 hok]
      rw [h4] at h1
      unfold rightAt
      rw [hd]
      exact h1
  · unfold goodB
    have : flatsB xs = false := by simpa using hf
    rw [this]; rfl
theorem stepM_mk {xs : List VFlat} {ds : List VDrawer} {j : Nat} {d : VDrawer} (hd : ds[j]? = some d) (hu : upStep VDrawer.ok VDrawer.Id ds j = true) (q : Bool) (hq : inB (gramsW xs d) 0 d.Holds = q) : stepM xs ds j = (q && apartB ds j d) := by
  unfold stepM
  rw [hu, hd, ← hq]; rfl
theorem good_many {xs : List VFlat} {ds : List VDrawer} (h : ¬ ds.length ≤ 8) : goodB xs ds = false := by
  unfold goodB listB
  rw [decide_eq_false h]
  simp
set_option maxHeartbeats 25600000 in
set_option maxRecDepth 100000 in
theorem l5Good_any (a : Option Addr) (len cap : Nat) (xs : List VFlat) (a1 : Option Addr) (len1 cap1 : Nat) (ds : List VDrawer) (w : World) (h : IsFlatS w a len cap xs) (h' : IsDrawerS w a1 len1 cap1 ds) :
    Calls Try.prog 69 #[.slice a len cap, .slice a1 len1 cap1] w fun e w' => e = .returned (.bool (goodB xs ds)) ∧ Below w.heap.size w w' := by
  have hm := h'.2.2.1
  have hcl := h'.2.1
  unfold maxLen at hm
  have S := Lib.hid h
  have D := Lib.hid h'
  have DL := Lib.hid h'.1
  clear h h'
  go_enter Try.func69, Try.ntmps69
  go_wp2
  go_loopw [5] (fun i wr => ∃ k : Nat, k ≤ len1 ∧ k ≤ 9 ∧ i = .int .i64 k ∧ (∀ j, j < k → stepM xs ds j = true) ∧ Below w.heap.size w wr) (fun i _ => len1 - (intOf i).toNat)
  case atStart => exact ⟨0, Nat.zero_le _, by omega, rfl, fun _ h => by omega, Below.refl _ _⟩
  case round =>
    obtain ⟨k, hk, hk9, rfl, hall, hbel⟩ := hrel
    rename World => w0
    have A := Lib.hid hall
    have B := Lib.hid hbel
    clear hall
    by_cases hlt : k < len1
    · by_cases h8 : k ≤ 8
      · obtain ⟨x, hx⟩ := el_at DL hlt
        obtain ⟨b, o, rfl, hb, hat⟩ := (D.out.below hbel).at (by omega)
        obtain ⟨hd, c0, c1, c2, c3, c4, hin⟩ := hat k x hx
        have hm2 := hin.2.2.1
        have hcl2 := hin.2.1
        unfold maxLen at hm2
        have HL := Lib.hid hin.1
        have HI0 := Lib.hid hin
        have AT := Lib.hid hat
        have K := Lib.hid hx
        have hi0 : (0 : Int) ≤ (k : Int) := by omega
        have hi1 : (k : Int) < (len1 : Int) := by omega
        have h8d : decide ((k : Int) ≤ 8) = true := by simp; omega
        clear hx hat hbel hin
        go_wp2
        refine wp_world (fun W => BoxDrawer W w0.heap.size ⟨x, hd⟩ ∧ Below w0.heap.size w0 W) ⟨BoxDrawer.new _ _ ⟨x, hd⟩ _ rfl, bel_al1 _ _⟩ ?_
        rintro W ⟨hbox, hbw⟩
        have BW := Lib.hid hbw
        have BX := Lib.hid hbox
        have B1 := Lib.hid (Below.then' B.out hbw)
        have S1 := Lib.hid (S.out.below B1.out)
        have HI := Lib.hid (HI0.out.below hbw)
        obtain ⟨e0, e1, e2, e3, e4⟩ := hbox
        clear c0 c1 c2 c3 c4 hbw
        have k0 := cell_regrown e0
        have k1 := cell_regrown e1
        have k2 := cell_regrown e2
        have k3 := cell_regrown e3
        have k4 := cell_regrown e4
        clear e0 e1 e2 e3 e4
        obtain ⟨g, hg⟩ : ∃ g, gramsW xs x = g := ⟨_, rfl⟩
        obtain ⟨q, hq⟩ : ∃ q, inB g 0 x.Holds = q := ⟨_, rfl⟩
        have cG := below_at (W := W) (fun W' hbW => hg ▸ l5Grams_any a len cap xs x hd W' (S1.out.below hbW) (HI.out.below hbW))
        have cI := below_at (W := W) (fun W' _ => same_below (hq ▸ l1In_any g 0 x.Holds W'))
        have Q := Lib.hid (show inB (gramsW xs x) 0 x.Holds = q from by rw [hg]; exact hq)
        clear hg hq
        rcases up_ways (ok := VDrawer.ok) (id := VDrawer.Id) K.out with ⟨h1, h2⟩ | ⟨h1, hk0, h2⟩ | ⟨h1, j, p, rfl, hp, h2⟩
        · have cQ := below_at (W := W) (fun W' hbW => h1 ▸ l5Drawer_any x hd W' (HI.out.below hbW))
          have Z := Lib.hid h2
          clear h1 h2
          refine wp_region_quiet_below (by kernel_rfl) (by kernel_rfl) ?_
          repeat (first | go_big_quiet_step (first | (with_reducible exact cQ _ _) | (with_reducible exact cG _ _) | (with_reducible exact cI _ _)) | quiet_step (first | (with_reducible exact cQ _ _) | (with_reducible exact cG _ _) | (with_reducible exact cI _ _)))
          refine wpQuiet_nil ?_
          intro W2 hw2
          have B2 := Lib.hid (Below.then' B1.out (below_of_re hw2))
          clear hw2 cQ cG cI k0 k1 k2 k3 k4
          have NO := Lib.hid (show goodB xs ds = false from stepM_bad (j := k) (by unfold stepM; rw [Z.out]; rfl) (by have := DL.out; omega))
          go_wp2
          go_ret
          exact ⟨ret_bool NO.out.symm, B2.out⟩
        · have cQ := below_at (W := W) (fun W' hbW => h1 ▸ l5Drawer_any x hd W' (HI.out.below hbW))
          have Z := Lib.hid h2
          have g1 : decide ((0 : Int) < (k : Int)) = false := by simp [hk0]
          have g2 : decide (0 < k) = false := by simp [hk0]
          clear h1 h2 hk0
          refine wp_region_quiet_below (by kernel_rfl) (by kernel_rfl) ?_
          repeat (first | go_big_quiet_step (first | (with_reducible exact cQ _ _) | (with_reducible exact cG _ _) | (with_reducible exact cI _ _)) | quiet_step (first | (with_reducible exact cQ _ _) | (with_reducible exact cG _ _) | (with_reducible exact cI _ _)))
          refine wpQuiet_nil ?_
          intro W2 hw2
          have B2 := Lib.hid (Below.then' B1.out (below_of_re hw2))
          have BW2 := Lib.hid (Below.then' BW.out (below_of_re hw2))
          have BX2 := Lib.hid (BX.out.below (below_of_re hw2))
          clear hw2 cQ cG cI k0 k1 k2 k3 k4 
          have SM := Lib.hid (stepM_mk K.out Z.out q Q.out)
          cases q with
          | false =>
            have NO := Lib.hid (show goodB xs ds = false from stepM_bad (j := k) (by rw [SM.out]; rfl) (by have := DL.out; omega))
            go_wp2
            go_ret
            exact ⟨ret_bool NO.out.symm, B2.out⟩
          | true =>
            simp only [Bool.not_true]
            go_wp2
            go_loopw [7] (fun i wQ => ∃ m : Nat, m ≤ hd.n ∧ i = .int .i64 m ∧ (∀ (t : Nat) z, t < m → x.Flats[t]? = some z → holdI (ds.take k) z < 0) ∧ Below w.heap.size w wQ ∧ Below w0.heap.size w0 wQ ∧ BoxDrawer wQ w0.heap.size ⟨x, hd⟩) (fun i _ => hd.n - (intOf i).toNat)
            case atStart => exact ⟨0, Nat.zero_le _, rfl, fun _ _ h => by omega, B2.out, BW2.out, BX2.out⟩
            case round =>
              obtain ⟨m, hmn, rfl, hno, hbt, hbt2, hbx⟩ := hrel
              have NOS := Lib.hid hno
              have BT := Lib.hid hbt
              have BT2 := Lib.hid hbt2
              have BXT := Lib.hid hbx
              clear hno
              obtain ⟨f0, f1, f2, f3, f4⟩ := hbx
              by_cases hml : m < hd.n
              · obtain ⟨z, hz⟩ := el_at HL hml
                obtain ⟨bz, oz, ez, hbz, hatz⟩ := (HI0.out.below hbt2).at (by omega)
                have d0 := hatz m z hz
                rw [ez] at f4
                have r0 := cell_regrown d0
                have r4 := cell_regrown f4
                have ZZ := Lib.hid hz
                have m0 : (0 : Int) ≤ (m : Int) := by omega
                have m1 : (m : Int) < (hd.n : Int) := by omega
                obtain ⟨y, hy⟩ : ∃ y, holdI (ds.take k) z = y := ⟨_, rfl⟩
                have Y := Lib.hid hy
                have cW := below_at (W := wr) (fun W' hbW => hy ▸ same_below (l5Where_any (some ⟨b, o, none⟩) k cap1 (ds.take k) z W' (((D.out.below BT.out).below hbW).take (by omega))))
                have EZ := Lib.hid ez
                clear hbt hbt2 hz hatz d0 hy ez
                go_wp2
                refine wp_region_quiet_below (by kernel_rfl) (by kernel_rfl) ?_
                repeat (first | go_big_quiet_step (first | (with_reducible exact cW _ _)) | quiet_step (first | (with_reducible exact cW _ _)))
                refine wpQuiet_nil ?_
                intro W3 hw2
                have B3 := Lib.hid (Below.then' BT.out (below_of_re hw2))
                have B32 := Lib.hid (Below.then' BT2.out (below_of_re hw2))
                have BX3 := Lib.hid (BXT.out.below (below_of_re hw2))
                clear hw2 cW r0 r4 f0 f1 f2 f3 f4
                by_cases hneg : y < 0
                · go_wp2
                  go_roundw
                  case rel => exact ⟨m + 1, by omega, by go_num, fun t z' ht hz' => by
                    by_cases e : t = m
                    · subst e; rw [ZZ.out] at hz'; cases hz'; rw [Y.out]; exact hneg
                    · exact NOS.out t z' (by omega) hz', B3.out, B32.out, BX3.out⟩
                  case measure => simp [intOf]; omega
                · have NO := Lib.hid (show goodB xs ds = false from stepM_bad (j := k) (by
                    rw [SM.out, Bool.true_and]
                    unfold apartB
                    exact List.all_eq_false.2 ⟨z, List.mem_of_getElem? ZZ.out, by rw [Y.out]; simpa using hneg⟩) (by have := DL.out; omega))
                  go_wp2
                  go_ret
                  exact ⟨ret_bool NO.out.symm, B3.out⟩
              · obtain rfl : m = hd.n := by omega
                have YES := Lib.hid (show stepM xs ds k = true from by
                  rw [SM.out, Bool.true_and]
                  unfold apartB
                  refine List.all_eq_true.2 fun z hz => ?_
                  obtain ⟨t, ht⟩ := List.getElem?_of_mem hz
                  simpa using NOS.out t z (by have := HL.out; have := (List.getElem?_eq_some_iff.1 ht).1; omega) ht)
                clear hbt hbt2
                go_wp2
                go_roundw
                case rel => exact ⟨k + 1, by omega, by omega, by go_num, all_more A.out YES.out, BT.out⟩
                case measure => simp [intOf]; omega
        · have cQ := below_at (W := W) (fun W' hbW => h1 ▸ l5Drawer_any x hd W' (HI.out.below hbW))
          obtain ⟨hd2, hat2⟩ := AT.out j p hp
          obtain ⟨p0, _⟩ := hat2.below BW.out hb
          have q0 := cell_regrown p0
          have hp0 : (0 : Int) ≤ (j : Int) := by omega
          have hp1 : (j : Int) < (len1 : Int) := by omega
          clear h1 hp p0 hat2
          rcases h2 with ⟨h2, h3⟩ | ⟨h2, h3⟩
          · have Z := Lib.hid h3
            clear h3
            refine wp_region_quiet_below (by kernel_rfl) (by kernel_rfl) ?_
            repeat (first | go_big_quiet_step (first | (with_reducible exact cQ _ _) | (with_reducible exact cG _ _) | (with_reducible exact cI _ _)) | quiet_step (first | (with_reducible exact cQ _ _) | (with_reducible exact cG _ _) | (with_reducible exact cI _ _)))
            refine wpQuiet_nil ?_
            intro W2 hw2
            have B2 := Lib.hid (Below.then' B1.out (below_of_re hw2))
            have BW2 := Lib.hid (Below.then' BW.out (below_of_re hw2))
            have BX2 := Lib.hid (BX.out.below (below_of_re hw2))
            clear hw2 cQ cG cI k0 k1 k2 k3 k4 q0
            have SM := Lib.hid (stepM_mk K.out Z.out q Q.out)
            cases q with
            | false =>
              have NO := Lib.hid (show goodB xs ds = false from stepM_bad (j := (j + 1)) (by rw [SM.out]; rfl) (by have := DL.out; omega))
              go_wp2
              go_ret
              exact ⟨ret_bool NO.out.symm, B2.out⟩
            | true =>
              simp only [Bool.not_true]
              go_wp2
              go_loopw [7] (fun i wQ => ∃ m : Nat, m ≤ hd.n ∧ i = .int .i64 m ∧ (∀ (t : Nat) z, t < m → x.Flats[t]? = some z → holdI (ds.take (j + 1)) z < 0) ∧ Below w.heap.size w wQ ∧ Below w0.heap.size w0 wQ ∧ BoxDrawer wQ w0.heap.size ⟨x, hd⟩) (fun i _ => hd.n - (intOf i).toNat)
              case atStart => exact ⟨0, Nat.zero_le _, rfl, fun _ _ h => by omega, B2.out, BW2.out, BX2.out⟩
              case round =>
                obtain ⟨m, hmn, rfl, hno, hbt, hbt2, hbx⟩ := hrel
                have NOS := Lib.hid hno
                have BT := Lib.hid hbt
                have BT2 := Lib.hid hbt2
                have BXT := Lib.hid hbx
                clear hno
                obtain ⟨f0, f1, f2, f3, f4⟩ := hbx
                by_cases hml : m < hd.n
                · obtain ⟨z, hz⟩ := el_at HL hml
                  obtain ⟨bz, oz, ez, hbz, hatz⟩ := (HI0.out.below hbt2).at (by omega)
                  have d0 := hatz m z hz
                  rw [ez] at f4
                  have r0 := cell_regrown d0
                  have r4 := cell_regrown f4
                  have ZZ := Lib.hid hz
                  have m0 : (0 : Int) ≤ (m : Int) := by omega
                  have m1 : (m : Int) < (hd.n : Int) := by omega
                  obtain ⟨y, hy⟩ : ∃ y, holdI (ds.take (j + 1)) z = y := ⟨_, rfl⟩
                  have Y := Lib.hid hy
                  have cW := below_at (W := wr) (fun W' hbW => hy ▸ same_below (l5Where_any (some ⟨b, o, none⟩) (j + 1) cap1 (ds.take (j + 1)) z W' (((D.out.below BT.out).below hbW).take (by omega))))
                  have EZ := Lib.hid ez
                  clear hbt hbt2 hz hatz d0 hy ez
                  go_wp2
                  refine wp_region_quiet_below (by kernel_rfl) (by kernel_rfl) ?_
                  repeat (first | go_big_quiet_step (first | (with_reducible exact cW _ _)) | quiet_step (first | (with_reducible exact cW _ _)))
                  refine wpQuiet_nil ?_
                  intro W3 hw2
                  have B3 := Lib.hid (Below.then' BT.out (below_of_re hw2))
                  have B32 := Lib.hid (Below.then' BT2.out (below_of_re hw2))
                  have BX3 := Lib.hid (BXT.out.below (below_of_re hw2))
                  clear hw2 cW r0 r4 f0 f1 f2 f3 f4
                  by_cases hneg : y < 0
                  · go_wp2
                    go_roundw
                    case rel => exact ⟨m + 1, by omega, by go_num, fun t z' ht hz' => by
                      by_cases e : t = m
                      · subst e; rw [ZZ.out] at hz'; cases hz'; rw [Y.out]; exact hneg
                      · exact NOS.out t z' (by omega) hz', B3.out, B32.out, BX3.out⟩
                    case measure => simp [intOf]; omega
                  · have NO := Lib.hid (show goodB xs ds = false from stepM_bad (j := (j + 1)) (by
                      rw [SM.out, Bool.true_and]
                      unfold apartB
                      exact List.all_eq_false.2 ⟨z, List.mem_of_getElem? ZZ.out, by rw [Y.out]; simpa using hneg⟩) (by have := DL.out; omega))
                    go_wp2
                    go_ret
                    exact ⟨ret_bool NO.out.symm, B3.out⟩
                · obtain rfl : m = hd.n := by omega
                  have YES := Lib.hid (show stepM xs ds (j + 1) = true from by
                    rw [SM.out, Bool.true_and]
                    unfold apartB
                    refine List.all_eq_true.2 fun z hz => ?_
                    obtain ⟨t, ht⟩ := List.getElem?_of_mem hz
                    simpa using NOS.out t z (by have := HL.out; have := (List.getElem?_eq_some_iff.1 ht).1; omega) ht)
                  clear hbt hbt2
                  go_wp2
                  go_roundw
                  case rel => exact ⟨(j + 1) + 1, by omega, by omega, by go_num, all_more A.out YES.out, BT.out⟩
                  case measure => simp [intOf]; omega
          · have Z := Lib.hid h3
            clear h3
            refine wp_region_quiet_below (by kernel_rfl) (by kernel_rfl) ?_
            repeat (first | go_big_quiet_step (first | (with_reducible exact cQ _ _) | (with_reducible exact cG _ _) | (with_reducible exact cI _ _)) | quiet_step (first | (with_reducible exact cQ _ _) | (with_reducible exact cG _ _) | (with_reducible exact cI _ _)))
            refine wpQuiet_nil ?_
            intro W2 hw2
            have B2 := Lib.hid (Below.then' B1.out (below_of_re hw2))
            clear hw2 cQ cG cI k0 k1 k2 k3 k4 q0
            have NO := Lib.hid (show goodB xs ds = false from stepM_bad (j := j + 1) (by unfold stepM; rw [Z.out]; rfl) (by have := DL.out; omega))
            go_wp2
            go_ret
            exact ⟨ret_bool NO.out.symm, B2.out⟩
      · obtain rfl : k = 9 := by omega
        have NO := Lib.hid (show goodB xs ds = false from good_many (by have := DL.out; omega))
        have S1 := Lib.hid (S.out.below hbel)
        have hl8 : ¬ len1 ≤ 8 := by omega
        clear hbel
        go_wp2_with fail
        refine (l5Flats_any _ _ _ xs _ S1.out).mono ?_
        rintro e w2 ⟨rfl, hb2⟩
        have B2 := Lib.hid (Below.then' B.out hb2)
        clear hb2
        cases hf : flatsB xs with
        | false =>
          clear hf
          go_wp2
          go_ret
          exact ⟨ret_bool NO.out.symm, B2.out⟩
        | true =>
          clear hf
          go_wp2
          go_ret
          exact ⟨ret_bool (by rw [NO.out]; simp; omega), B2.out⟩
    · obtain rfl : k = len1 := by omega
      have S1 := Lib.hid (S.out.below hbel)
      clear hbel
      go_wp2_with fail
      refine (l5Flats_any _ _ _ xs _ S1.out).mono ?_
      rintro e w2 ⟨rfl, hb2⟩
      have B2 := Lib.hid (Below.then' B.out hb2)
      clear hb2
      by_cases hl8 : k ≤ 8
      · have E := Lib.hid (show goodB xs ds = flatsB xs from stepM_all (fun j hj => A.out j (by have := DL.out; omega)) (by have := DL.out; omega))
        cases hf : flatsB xs with
        | false =>
          have E2 := Lib.hid (show goodB xs ds = false from by rw [E.out, hf])
          clear hf
          go_wp2
          go_ret
          exact ⟨ret_bool E2.out.symm, B2.out⟩
        | true =>
          have E2 := Lib.hid (show goodB xs ds = true from by rw [E.out, hf])
          clear hf
          go_wp2
          go_ret
          exact ⟨ret_bool (by rw [E2.out]; simp; omega), B2.out⟩
      · have NO := Lib.hid (show goodB xs ds = false from good_many (by have := DL.out; omega))
        cases hf : flatsB xs with
        | false =>
          clear hf
          go_wp2
          go_ret
          exact ⟨ret_bool NO.out.symm, B2.out⟩
        | true =>
          clear hf
          go_wp2
          go_ret
          exact ⟨ret_bool (by rw [NO.out]; simp; omega), B2.out⟩
end Go.Proofs.Ytlmedhidkhphbaa
namespace Go.Proofs.Ytlmedhidkhphbaa
open Go.RowKit
def AreFlats_Post (z0 : List VFlat) (w : World) (e : Ending) (w' : World) : Prop :=
  e = .returned (.bool (AreFlats_0 z0)) ∧ Below w.heap.size w w'
end Go.Proofs.Ytlmedhidkhphbaa
namespace Go.Proofs.Ytlmedhidkhphbaa
open Go.RowKit
def AreDrawers_Post (z0 : List VFlat) (z1 : List VDrawer) (w : World) (e : Ending) (w' : World) : Prop :=
  e = .returned (.bool (AreDrawers_0 z0 z1)) ∧ Below w.heap.size w w'
end Go.Proofs.Ytlmedhidkhphbaa
namespace Go.Proofs.Ytlmedhidkhphbaa
open Go.RowKit
def GramsIn_Post (z0 : List VFlat) (z1 : List VDrawer) (z2 : Int) (w : World) (e : Ending) (w' : World) : Prop :=
  e = .returned (.tuple #[.int .i64 (GramsIn_0 z0 z1 z2), .bool (GramsIn_1 z0 z1 z2)]) ∧ Below w.heap.size w w'
end Go.Proofs.Ytlmedhidkhphbaa
namespace Go.Proofs.Ytlmedhidkhphbaa
open Go.RowKit
def DrawerOf_Post (z0 : List VFlat) (z1 : List VDrawer) (z2 : Int) (w : World) (e : Ending) (w' : World) : Prop :=
  e = .returned (.tuple #[.int .i64 (DrawerOf_0 z0 z1 z2), .bool (DrawerOf_1 z0 z1 z2)]) ∧ Below w.heap.size w w'
end Go.Proofs.Ytlmedhidkhphbaa
namespace Go.Proofs.Ytlmedhidkhphbaa
open Go.RowKit
def LooseFlats_Post (z0 : List VFlat) (z1 : List VDrawer) (w : World) (e : Ending) (w' : World) : Prop :=
  ∃ v0 : Value, e = .returned (.tuple #[v0, .bool (LooseFlats_1 z0 z1)]) ∧ OwnIntS w.heap.size w'.heap.size w' v0 (LooseFlats_0 z0 z1) ∧ Below w.heap.size w w'
end Go.Proofs.Ytlmedhidkhphbaa
