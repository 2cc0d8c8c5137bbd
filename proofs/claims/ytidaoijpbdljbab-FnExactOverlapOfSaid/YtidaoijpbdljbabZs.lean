/- Zones in the model: IsZone, AreZones, ZonesAt, OverlapOf. -/
import Derived.Test.YtidaoijpbdljbabZd
import Derived.Test.YtidaoijpbdljbabSw
import Derived.Test.YtidaoijpbdljbabWh
import Derived.Test.YtidaoijpbdljbabPaper
import Derived.Test.YtidaoijpbdljbabIsZoneP
import Derived.Test.YtidaoijpbdljbabAreZonesP
import Derived.Test.YtidaoijpbdljbabZonesAtP
import Derived.Test.YtidaoijpbdljbabOverlapOfP
namespace Go.Proofs.Ytidaoijpbdljbab
open Go.RowKit

set_option maxHeartbeats 3200000 in
theorem l6Zone_any (s : VZone) (w : World) : Calls Try.prog 93 #[.agg #[.int .i64 s.Id, .int .i64 s.West, .int .i64 s.South, .int .i64 s.East, .int .i64 s.North]] w fun e w' => e = .returned (.bool s.ok) ∧ Below w.heap.size w w' := by
  obtain ⟨q, hq⟩ : ∃ q, inB s.Id 1 99 = q := ⟨_, rfl⟩
  have Q := Lib.hid hq
  clear hq
  go_enter Try.func93, Try.ntmps93
  go_wp2_with fail
  refine (l1In_any _ _ _ _).mono ?_
  rintro e w' ⟨rfl, rfl⟩
  rw [Q.out]
  cases q
  · go_wp2
    go_ret
    exact ⟨ret_bool (by unfold VZone.ok; rw [Q.out]; rfl), bel_al1 _ _⟩
  have HQ := inB_iff.1 Q.out
  by_cases h1 : 0 ≤ s.West
  rotate_left
  · have U := Lib.hid (show s.ok = false from by rw [← Bool.not_eq_true, VZone.ok_iff]; omega)
    go_wp2
    go_ret
    exact ⟨ret_bool (by rw [U.out]; first | done | (simp; omega)), bel_al1 _ _⟩
  by_cases h2 : s.West < s.East
  rotate_left
  · have U := Lib.hid (show s.ok = false from by rw [← Bool.not_eq_true, VZone.ok_iff]; omega)
    go_wp2
    go_ret
    exact ⟨ret_bool (by rw [U.out]; first | done | (simp; omega)), bel_al1 _ _⟩
  by_cases h3 : s.East ≤ 9999
  rotate_left
  · have U := Lib.hid (show s.ok = false from by rw [← Bool.not_eq_true, VZone.ok_iff]; omega)
    go_wp2
    go_ret
    exact ⟨ret_bool (by rw [U.out]; first | done | (simp; omega)), bel_al1 _ _⟩
  by_cases h4 : 0 ≤ s.South
  rotate_left
  · have U := Lib.hid (show s.ok = false from by rw [← Bool.not_eq_true, VZone.ok_iff]; omega)
    go_wp2
    go_ret
    exact ⟨ret_bool (by rw [U.out]; first | done | (simp; omega)), bel_al1 _ _⟩
  by_cases h5 : s.South < s.North
  rotate_left
  · have U := Lib.hid (show s.ok = false from by rw [← Bool.not_eq_true, VZone.ok_iff]; omega)
    go_wp2
    go_ret
    exact ⟨ret_bool (by rw [U.out]; first | done | (simp; omega)), bel_al1 _ _⟩
  by_cases h6 : s.North ≤ 9999
  rotate_left
  · have U := Lib.hid (show s.ok = false from by rw [← Bool.not_eq_true, VZone.ok_iff]; omega)
    go_wp2
    go_ret
    exact ⟨ret_bool (by rw [U.out]; first | done | (simp; omega)), bel_al1 _ _⟩
  have U := Lib.hid (show s.ok = true from VZone.ok_iff.2 (by omega))
  go_wp2
  go_ret
  exact ⟨ret_bool (by rw [U.out]; first | done | (simp; omega)), bel_al1 _ _⟩
set_option maxHeartbeats 6400000 in
set_option maxRecDepth 100000 in
theorem l6Zones_any (a : Option Addr) (len cap : Nat) (xs : List VZone) (w : World) (h : IsZoneS w a len cap xs) :
    Calls Try.prog 83 #[.slice a len cap] w fun e w' => e = .returned (.bool (zonesB xs)) ∧ Below w.heap.size w w' := by
  have hm := h.2.2.1
  have hcl := h.2.1
  unfold maxLen at hm
  have S := Lib.hid h
  have L := Lib.hid h.1
  clear h
  go_enter Try.func83, Try.ntmps83
  go_wp2
  go_loopw [3] (fun i wr => ∃ k : Nat, k ≤ len ∧ i = .int .i64 k ∧ Below w.heap.size w wr ∧ ∀ j, j < k → upStep VZone.ok VZone.Id xs j = true) (fun i _ => len - (intOf i).toNat)
  case atStart => exact ⟨0, Nat.zero_le _, rfl, Below.refl _ _, by omega⟩
  case round =>
    obtain ⟨k, hk, rfl, hbel, hall⟩ := hrel
    have A := Lib.hid hall
    have B := Lib.hid hbel
    clear hall
    by_cases hlt : k < len
    · obtain ⟨s, hs⟩ := el_at L hlt
      obtain ⟨b, o, rfl, hb, hat⟩ := (S.out.below hbel).at (by omega)
      obtain ⟨c0, c1, c2, c3, c4⟩ := hat k s hs
      have k0 := cell_regrown c0
      have k1 := cell_regrown c1
      have k2 := cell_regrown c2
      have k3 := cell_regrown c3
      have k4 := cell_regrown c4
      clear c0 c1 c2 c3 c4 hbel
      have hi0 : (0 : Int) ≤ (k : Int) := by omega
      have hi1 : (k : Int) < (len : Int) := by omega
      rcases up_ways (ok := VZone.ok) (id := VZone.Id) hs with ⟨h1, h2⟩ | ⟨h1, rfl, h2⟩ | ⟨h1, j, p, rfl, hp, h2⟩
      · have cQ := below_at (W := wr) (fun W' _ => h1 ▸ l6Zone_any s W')
        have Z := Lib.hid h2
        clear h1 h2 hs hat
        go_wp2
        refine wp_region_quiet_below (by kernel_rfl) (by kernel_rfl) ?_
        repeat (first | go_big_quiet_step (with_reducible exact cQ _ _) | quiet_step (with_reducible exact cQ _ _))
        refine wpQuiet_nil ?_
        intro W2 hw2
        have B2 := Lib.hid (Below.then' B.out (below_of_re hw2))
        clear hw2 cQ k0 k1 k2 k3 k4
        go_wp2
        go_ret
        exact ⟨ret_bool (by unfold zonesB; rw [upB_bad Z.out (by have := L.out; omega)]; rfl), B2.out⟩
      · have cQ := below_at (W := wr) (fun W' _ => h1 ▸ l6Zone_any s W')
        have Z := Lib.hid h2
        simp only [Nat.zero_mul, Nat.add_zero] at k0 k1 k2 k3 k4
        clear h1 h2 hs hat
        go_wp2
        refine wp_region_quiet_below (by kernel_rfl) (by kernel_rfl) ?_
        repeat (first | go_big_quiet_step (with_reducible exact cQ _ _) | quiet_step (with_reducible exact cQ _ _))
        refine wpQuiet_nil ?_
        intro W2 hw2
        have B2 := Lib.hid (Below.then' B.out (below_of_re hw2))
        clear hw2 cQ k0 k1 k2 k3 k4
        go_wp2
        go_roundw
        case rel => exact ⟨1, by omega, by go_num, B2.out, all_more A.out Z.out⟩
        case measure => simp [intOf]; omega
      · have cQ := below_at (W := wr) (fun W' _ => h1 ▸ l6Zone_any s W')
        obtain ⟨p0, _⟩ := hat j p hp
        have q0 := cell_regrown p0
        have hp0 : (0 : Int) ≤ (j : Int) := by omega
        have hp1 : (j : Int) < (len : Int) := by omega
        clear h1 hs hp p0 hat
        rcases h2 with ⟨h2, h3⟩ | ⟨h2, h3⟩
        · have Z := Lib.hid h3
          clear h3
          go_wp2
          refine wp_region_quiet_below (by kernel_rfl) (by kernel_rfl) ?_
          repeat (first | go_big_quiet_step (with_reducible exact cQ _ _) | quiet_step (with_reducible exact cQ _ _))
          refine wpQuiet_nil ?_
          intro W2 hw2
          have B2 := Lib.hid (Below.then' B.out (below_of_re hw2))
          clear hw2 cQ k0 k1 k2 k3 k4 q0
          go_wp2
          go_roundw
          case rel => exact ⟨j + 1 + 1, by omega, by go_num, B2.out, all_more A.out Z.out⟩
          case measure => simp [intOf]; omega
        · have Z := Lib.hid h3
          clear h3
          go_wp2
          refine wp_region_quiet_below (by kernel_rfl) (by kernel_rfl) ?_
          repeat (first | go_big_quiet_step (with_reducible exact cQ _ _) | quiet_step (with_reducible exact cQ _ _))
          refine wpQuiet_nil ?_
          intro W2 hw2
          have B2 := Lib.hid (Below.then' B.out (below_of_re hw2))
          clear hw2 cQ k0 k1 k2 k3 k4 q0
          go_wp2
          go_ret
          exact ⟨ret_bool (by unfold zonesB; rw [upB_bad Z.out (by have := L.out; omega)]; rfl), B2.out⟩
    · obtain rfl : k = len := by omega
      have U := Lib.hid (show upB VZone.ok VZone.Id xs = true from upB_iff.2 (fun i hi => A.out i (by have := L.out; omega)))
      clear hbel
      go_wp2
      go_ret
      exact ⟨ret_bool (by unfold zonesB; rw [U.out]; simp only [Bool.true_and]; rw [decide_eq_decide]; have := L.out; omega), B.out⟩
theorem specIsZone_any (s : VZone) (w : World) : Calls Try.prog 40 #[.agg #[.int .i64 s.Id, .int .i64 s.West, .int .i64 s.South, .int .i64 s.East, .int .i64 s.North]] w (IsZone_Post s w) := by
  go_enter Try.func40, Try.ntmps40
  go_wp2_with fail
  refine (l6Zone_any s _).mono ?_
  rintro e w' ⟨rfl, hb⟩
  have B := Lib.hid (Below.then' (bel_al1 w (.cells #[.int .i64 s.Id, .int .i64 s.West, .int .i64 s.South, .int .i64 s.East, .int .i64 s.North] 50)) hb)
  clear hb
  go_wp2
  go_ret
  exact ⟨rfl, B.out⟩
set_option maxHeartbeats 1600000 in
theorem l6Has_any (z : VZone) (x y : Int) (w : World) :
    Calls Try.prog 135 #[.agg #[.int .i64 z.Id, .int .i64 z.West, .int .i64 z.South, .int .i64 z.East, .int .i64 z.North], .int .i64 x, .int .i64 y] w fun e w' => e = .returned (.bool (z.has x y)) ∧ Below w.heap.size w w' := by
  by_cases h1 : z.West ≤ x
  rotate_left
  · have U := Lib.hid (show z.has x y = false from by unfold VZone.has; simp [*])
    go_enter Try.func135, Try.ntmps135
    go_wp2
    go_ret
    exact ⟨ret_bool (by rw [U.out]; first | done | (simp; omega)), bel_al1 _ _⟩
  by_cases h2 : x < z.East
  rotate_left
  · have U := Lib.hid (show z.has x y = false from by unfold VZone.has; simp [*])
    go_enter Try.func135, Try.ntmps135
    go_wp2
    go_ret
    exact ⟨ret_bool (by rw [U.out]; first | done | (simp; omega)), bel_al1 _ _⟩
  by_cases h3 : z.South ≤ y
  rotate_left
  · have U := Lib.hid (show z.has x y = false from by unfold VZone.has; simp [*])
    go_enter Try.func135, Try.ntmps135
    go_wp2
    go_ret
    exact ⟨ret_bool (by rw [U.out]; first | done | (simp; omega)), bel_al1 _ _⟩
  by_cases h4 : y < z.North
  rotate_left
  · have U := Lib.hid (show z.has x y = false from by unfold VZone.has; simp [*])
    go_enter Try.func135, Try.ntmps135
    go_wp2
    go_ret
    exact ⟨ret_bool (by rw [U.out]; first | done | (simp; omega)), bel_al1 _ _⟩
  have U := Lib.hid (show z.has x y = true from by unfold VZone.has; simp [*])
  go_enter Try.func135, Try.ntmps135
  go_wp2
  go_ret
  exact ⟨ret_bool (by rw [U.out]; first | done | (simp; omega)), bel_al1 _ _⟩
set_option maxHeartbeats 3200000 in
theorem l6Find_any (a : Option Addr) (len cap : Nat) (xs : List VZone) (id : Int) (w : World) (h : IsZoneS w a len cap xs) :
    Calls Try.prog 82 #[.slice a len cap, .int .i64 id] w fun e w' => e = .returned (.int .i64 (zoneI xs id)) ∧ w = w' := by
  have hm := h.2.2.1
  have hcl := h.2.1
  unfold maxLen at hm
  have S := Lib.hid h
  have L := Lib.hid h.1
  clear h
  go_enter Try.func82, Try.ntmps82
  go_wp2
  go_loop [5] (fun i => ∃ k : Nat, k ≤ len ∧ i = .int .i64 k ∧ ∀ (j : Nat) t, j < k → xs[j]? = some t → (t.Id == id) = false) (fun i => len - (intOf i).toNat)
  case atStart => exact ⟨0, Nat.zero_le _, rfl, fun _ _ h => by omega⟩
  case round =>
    obtain ⟨k, hk, rfl, hall⟩ := hrel
    have A := Lib.hid hall
    clear hall
    by_cases hlt : k < len
    · obtain ⟨s, hs⟩ := el_at L hlt
      obtain ⟨b, o, rfl, hb, hat⟩ := S.out.at (by omega)
      obtain ⟨c0, _⟩ := hat k s hs
      have X := Lib.hid hs
      have hi0 : (0 : Int) ≤ (k : Int) := by omega
      have hi1 : (k : Int) < (len : Int) := by omega
      clear hs hat
      cases hq : (s.Id == id) with
      | true =>
        have FS := Lib.hid hq
        go_wp2
        go_ret
        exact ⟨ret_int (firstOf_at (f := fun f : VZone => f.Id == id) X.out FS.out A.out).symm, rfl⟩
      | false =>
        have FS := Lib.hid hq
        go_wp2
        go_round
        case rel => exact ⟨k + 1, by omega, by go_num, fun j t hj ht => by
          by_cases e : j = k
          · subst e; rw [X.out] at ht; cases ht; exact FS.out
          · exact A.out j t (by omega) ht⟩
        case measure => simp [intOf]; omega
    · obtain rfl : k = len := by omega
      go_wp2
      go_ret
      exact ⟨ret_int (firstOf_no (f := fun f : VZone => f.Id == id) fun j t hj ht => A.out j t (by have := L.out; omega) ht).symm, rfl⟩
/-! What two have in common. -/
set_option maxHeartbeats 6400000 in
set_option maxRecDepth 100000 in
theorem l6Both_any (a b : VZone) (w : World) (ha : a.ok = true) (hb : b.ok = true) :
    Calls Try.prog 84 #[.agg #[.int .i64 a.Id, .int .i64 a.West, .int .i64 a.South, .int .i64 a.East, .int .i64 a.North], .agg #[.int .i64 b.Id, .int .i64 b.West, .int .i64 b.South, .int .i64 b.East, .int .i64 b.North]] w fun e w' => e = .returned (.int .i64 (bothOf a b)) ∧ Below w.heap.size w w' := by
  obtain ⟨⟨p1, p2⟩, p3, p4⟩ := bothOf_bd ha hb
  obtain ⟨m0, m1⟩ := mul_bd (x := max 0 (wideOf a b)) (y := max 0 (highOf a b)) (by omega) (by omega) (by omega) (by omega)
  have v1 : IntKind.i64.wrap (min a.East b.East - max a.West b.West) = wideOf a b := IntWalk.i64_in _ (by unfold wideOf at p1 p2; omega)
  have v2 : IntKind.i64.wrap (min a.North b.North - max a.South b.South) = highOf a b := IntWalk.i64_in _ (by unfold highOf at p3 p4; omega)
  have U := Lib.hid (show bothOf a b = max 0 (wideOf a b) * max 0 (highOf a b) from rfl)
  obtain ⟨x, hx⟩ : ∃ x, wideOf a b = x := ⟨_, rfl⟩
  obtain ⟨y, hy⟩ : ∃ y, highOf a b = y := ⟨_, rfl⟩
  rw [hx] at v1 p1 p2 m0 m1 U
  rw [hy] at v2 p3 p4 m0 m1 U
  clear hx hy ha hb
  go_enter Try.func84, Try.ntmps84
  go_wp2
  refine wp_world (fun W => BoxZone W w.heap.size a ∧ BoxZone W (w.heap.size + 1) b ∧ Below w.heap.size w W) ⟨(BoxZone.new w 50 a _ rfl).below (bel_al1 _ _), BoxZone.new _ 50 b _ (by simp), bel_al2 _ _ _⟩ ?_
  rintro W ⟨hb1, hb2, hbw⟩
  have BW := Lib.hid hbw
  have X1 := Lib.hid hb1
  have X2 := Lib.hid hb2
  clear hbw hb1 hb2
  obtain ⟨d0, d1, d2, d3, d4⟩ := X1.out
  obtain ⟨f0, f1, f2, f3, f4⟩ := X2.out
  have k1 := cell_regrown d1
  have k3 := cell_regrown d3
  have j1 := cell_regrown f1
  have j3 := cell_regrown f3
  clear d0 d1 d2 d3 d4 f0 f1 f2 f3 f4
  have c1 := fun p q => below_at (W := W) (fun W' _ => same_below (l1Least_any p q W'))
  have c2 := fun p q => below_at (W := W) (fun W' _ => same_below (l1Most_any p q W'))
  refine wp_region_quiet_below (by kernel_rfl) (by kernel_rfl) ?_
  repeat (first | go_big_quiet_step (first | (with_reducible exact c1 _ _ _ _) | (with_reducible exact c2 _ _ _ _)) | quiet_step (first | (with_reducible exact c1 _ _ _ _) | (with_reducible exact c2 _ _ _ _)))
  refine wpQuiet_nil ?_
  intro W2 hw2
  have hb2 := below_of_re hw2
  have B2 := Lib.hid (Below.then' BW.out hb2)
  obtain ⟨d0, d1, d2, d3, d4⟩ := X1.out.below hb2
  obtain ⟨f0, f1, f2, f3, f4⟩ := X2.out.below hb2
  have k2 := cell_regrown d2
  have k4 := cell_regrown d4
  have j2 := cell_regrown f2
  have j4 := cell_regrown f4
  have c1' := fun p q => below_at (W := W2) (fun W' _ => same_below (l1Least_any p q W'))
  have c2' := fun p q => below_at (W := W2) (fun W' _ => same_below (l1Most_any p q W'))
  clear hw2 hb2 k1 k3 j1 j3 c1 c2 d0 d1 d2 d3 d4 f0 f1 f2 f3 f4 v1
  go_wp2
  refine wp_region_quiet_below (by kernel_rfl) (by kernel_rfl) ?_
  repeat (first | go_big_quiet_step (first | (with_reducible exact c1' _ _ _ _) | (with_reducible exact c2' _ _ _ _)) | quiet_step (first | (with_reducible exact c1' _ _ _ _) | (with_reducible exact c2' _ _ _ _)))
  refine wpQuiet_nil ?_
  intro W3 hw3
  have B3 := Lib.hid (Below.then' B2.out (below_of_re hw3))
  clear hw3 k2 k4 j2 j4 c1' c2' v2
  go_wp2_with (go_at_call 94; refine (l1Most_any _ _ _).mono ?_; rintro e w' ⟨rfl, rfl⟩)
  go_ret
  exact ⟨ret_int (by rw [U.out]), B3.out⟩
set_option maxHeartbeats 6400000 in
set_option maxRecDepth 100000 in
theorem specOverlapOf_any (a : Option Addr) (len cap : Nat) (xs : List VZone) (p q : Int) (w : World) (h : IsZoneS w a len cap xs) (_ : xs.length ≤ 1048576) :
    Calls Try.prog 30 #[.slice a len cap, .int .i64 p, .int .i64 q] w (OverlapOf_Post xs p q w) := by
  have S := Lib.hid h
  clear h
  obtain ⟨y1, hy1⟩ : ∃ y, zoneI xs p = y := ⟨_, rfl⟩
  obtain ⟨y2, hy2⟩ : ∃ y, zoneI xs q = y := ⟨_, rfl⟩
  have Y1 := Lib.hid hy1
  have Y2 := Lib.hid hy2
  clear hy1 hy2
  go_enter Try.func30, Try.ntmps30
  go_wp2_with fail
  refine (l6Find_any _ _ _ xs p _ S.out).mono ?_
  rintro e w1 ⟨rfl, rfl⟩
  rw [Y1.out]
  go_wp2_with fail
  refine (l6Find_any _ _ _ xs q _ S.out).mono ?_
  rintro e w1 ⟨rfl, rfl⟩
  rw [Y2.out]
  go_wp2_with fail
  refine (l6Zones_any _ _ _ xs _ S.out).mono ?_
  rintro e w1 ⟨rfl, hb⟩
  have B1 := Lib.hid hb
  have S1 := Lib.hid (S.out.below hb)
  clear hb
  cases hg : zonesB xs with
  | false =>
    have E1 := Lib.hid (show OverlapOf_1 xs p q = false from by unfold OverlapOf_1; rw [hg]; rfl)
    have E0 := Lib.hid (show OverlapOf_0 xs p q = 0 from by unfold OverlapOf_0; rw [E1.out]; rfl)
    clear hg
    go_wp2
    go_ret2
    exact ⟨by rw [E1.out, E0.out]; rfl, B1.out⟩
  | true =>
  have HG := Lib.hid hg
  clear hg
  by_cases h1 : y1 < 0
  · have E1 := Lib.hid (show OverlapOf_1 xs p q = false from by unfold OverlapOf_1; rw [HG.out, Y1.out, decide_eq_false (by omega)]; rfl)
    have E0 := Lib.hid (show OverlapOf_0 xs p q = 0 from by unfold OverlapOf_0; rw [E1.out]; rfl)
    go_wp2
    go_ret2
    exact ⟨by rw [E1.out, E0.out]; rfl, B1.out⟩
  by_cases h2 : y2 < 0
  · have E1 := Lib.hid (show OverlapOf_1 xs p q = false from by unfold OverlapOf_1; rw [HG.out, Y1.out, Y2.out, decide_eq_false (show ¬ 0 ≤ y2 by omega)]; simp)
    have E0 := Lib.hid (show OverlapOf_0 xs p q = 0 from by unfold OverlapOf_0; rw [E1.out]; rfl)
    go_wp2
    go_ret2
    exact ⟨by rw [E1.out, E0.out]; rfl, B1.out⟩
  obtain ⟨i, z1, hi, hz1⟩ := zone_at (zs := xs) (id := p) (by rw [Y1.out]; omega)
  obtain ⟨j, z2, hj, hz2⟩ := zone_at (zs := xs) (id := q) (by rw [Y2.out]; omega)
  obtain rfl : y1 = (i : Int) := by rw [← Y1.out, hi]
  obtain rfl : y2 = (j : Int) := by rw [← Y2.out, hj]
  have E1 := Lib.hid (show OverlapOf_1 xs p q = true from by unfold OverlapOf_1; rw [HG.out, Y1.out, Y2.out, decide_eq_true (by omega), decide_eq_true (by omega)]; rfl)
  have E0 := Lib.hid (show OverlapOf_0 xs p q = bothOf z1 z2 from by unfold OverlapOf_0; rw [E1.out, if_pos rfl, Y1.out, Y2.out, Int.toNat_natCast, Int.toNat_natCast, hz1, hz2])
  have hil := (List.getElem?_eq_some_iff.1 hz1).1
  have hjl := (List.getElem?_eq_some_iff.1 hz2).1
  have OK1 := Lib.hid (zonesB_ok HG.out (List.mem_of_getElem? hz1))
  have OK2 := Lib.hid (zonesB_ok HG.out (List.mem_of_getElem? hz2))
  have hdl := S1.out.1
  obtain ⟨b, o, rfl, hb, hat⟩ := S1.out.at (by omega)
  obtain ⟨c0, c1, c2, c3, c4⟩ := hat i z1 hz1
  obtain ⟨d0, d1, d2, d3, d4⟩ := hat j z2 hz2
  have i0 : (0 : Int) ≤ (i : Int) := by omega
  have i1 : (i : Int) < (len : Int) := by omega
  have j0 : (0 : Int) ≤ (j : Int) := by omega
  have j1 : (j : Int) < (len : Int) := by omega
  have k0 := cell_regrown c0
  have k1 := cell_regrown c1
  have k2 := cell_regrown c2
  have k3 := cell_regrown c3
  have k4 := cell_regrown c4
  have m0 := cell_regrown d0
  have m1 := cell_regrown d1
  have m2 := cell_regrown d2
  have m3 := cell_regrown d3
  have m4 := cell_regrown d4
  have cQ := below_at (W := w1) (fun W' _ => l6Both_any z1 z2 W' OK1.out OK2.out)
  clear hi hj hz1 hz2 hil hjl hdl hat c0 c1 c2 c3 c4 d0 d1 d2 d3 d4 h1 h2
  go_wp2
  refine wp_region_quiet_below (by kernel_rfl) (by kernel_rfl) ?_
  repeat (first | go_big_quiet_step (with_reducible exact cQ _ _) | quiet_step (with_reducible exact cQ _ _))
  refine wpQuiet_nil ?_
  intro W2 hw2
  have B2 := Lib.hid (Below.then' B1.out (below_of_re hw2))
  clear hw2 cQ k0 k1 k2 k3 k4 m0 m1 m2 m3 m4
  go_wp2
  go_ret2
  exact ⟨by rw [E1.out, E0.out]; rfl, B2.out⟩
end Go.Proofs.Ytidaoijpbdljbab
