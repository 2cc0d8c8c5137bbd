/- Roads in the model: plain roads, roads turned around. -/
import Derived.Test.YtpnaciamnigbnaaRos4
namespace Go.Proofs.Ytpnaciamnigbnaa
open Go.RowKit

theorem made_ownCornerM (w : World) (base : Nat) (h : base ≤ w.heap.size) : (w.alloc (.cells #[] 103)).ownsRow base 103 2 (.slice (some ⟨w.heap.size, 0, none⟩) 0 0) ([] : List VCorner).length (cellsCorner []) :=
  World.ownsRow_made (base := base) (e := 103) (size := 2) w #[] 0 h (Nat.zero_le _) rfl
theorem strOf_toList (l : List UInt8) : (strOf l).toList = l := by rw [ByteArray.toList_eq]; simp [strOf]
set_option maxHeartbeats 6400000 in
set_option maxRecDepth 100000 in
theorem specPlainRoad_any (a : Option Addr) (len cap : Nat) (xs : List VCorner) (w : World) (h : IsCornerS w a len cap xs) (_ : condCorner xs) :
    Calls Try.prog 69 #[.slice a len cap] w (PlainRoad_Post xs w) := by
  obtain ⟨ri, hi, hz0, hz1, hz2⟩ := info_parts infoCorner
  have hm := h.2.2.1
  have hcl := h.2.1
  unfold maxLen at hm
  obtain rfl := h.1
  have S := Lib.hid h
  clear h
  obtain ⟨q, hq⟩ : ∃ q, roadB xs = q := ⟨_, rfl⟩
  have Q := Lib.hid hq
  have B0 := Lib.hid (bel_al1 w (.cells #[] 103))
  have M0 := Lib.hid (made_ownCornerM w w.heap.size (Nat.le_refl _))
  clear hq
  go_enter Try.func69, Try.ntmps69
  go_wp2_with fail
  refine (l10Good_any _ _ _ xs _ (S.out.below B0.out)).mono ?_
  rintro e w1 ⟨rfl, hb⟩
  rw [Q.out]
  have B1 := Lib.hid (Below.then' B0.out hb)
  have M1 := Lib.hid (ownsRow_below M0.out hb)
  clear hb
  cases q
  · have F0 := Lib.hid (show PlainRoad_0 xs = [] from by unfold PlainRoad_0; rw [Q.out]; rfl)
    have F1 := Lib.hid (show PlainRoad_1 xs = false from Q.out)
    have OO := Lib.hid (OwnIn.of_row (lo := w.heap.size) (hi := w1.heap.size) M1.out (Nat.le_refl _) (Nat.le_refl _))
    go_wp2
    go_ret2
    exact ⟨_, by rw [F1.out]; rfl, by rw [F0.out]; exact OO.out, B1.out⟩
  have R := Lib.hid (road_iff.1 Q.out)
  have l2 := R.out.l2
  have l12 := R.out.l12
  have F0 := Lib.hid (show PlainRoad_0 xs = plainTo xs xs.length from by unfold PlainRoad_0; rw [Q.out]; rfl)
  have F1 := Lib.hid (show PlainRoad_1 xs = true from Q.out)
  go_wp2
  go_loopw [5, 4] (fun i o wr => ∃ k : Nat, k ≤ xs.length ∧ i = .int .i64 k ∧ wr.ownsRow w.heap.size 103 2 o (plainTo xs k).length (cellsCorner (plainTo xs k)) ∧ Below w.heap.size w wr) (fun i _ _ => xs.length - (intOf i).toNat)
  case atStart => exact ⟨0, by omega, rfl, M1.out, B1.out⟩
  case round =>
    obtain ⟨k, hk, rfl, hown, hbel⟩ := hrel
    have O0 := Lib.hid hown
    have B := Lib.hid hbel
    by_cases hlt : k < xs.length
    · obtain ⟨b, o, rfl, hb, hat⟩ := (S.out.below hbel).at (by omega)
      obtain ⟨c0, c1⟩ := hat k _ (at_ptC hlt)
      have PS := Lib.hid (plainTo_succ xs k)
      have hle : (plainTo xs k).length + 1 ≤ 20 := by have := plainTo_len xs k; omega
      have cP0 := fun (i : Nat) (hi : i + 2 < xs.length) => Lib.hid (below_at (W := wr) (fun W' _ => bendS_at xs i ▸ l10Bend_any (ptC xs i) (ptC xs (i + 1)) (ptC xs (i + 2)) W' (R.out.ok (by omega)) (R.out.ok (by omega)) (R.out.ok hi)))
      have N0 := fun (i : Nat) (hi : i + 2 < xs.length) => Lib.hid (show CornerAt wr b (o + i * 2) (ptC xs i) ∧ CornerAt wr b (o + (i + 2) * 2) (ptC xs (i + 2)) from ⟨hat i _ (at_ptC (by omega)), hat (i + 2) _ (at_ptC hi)⟩)
      have j0 : (0 : Int) ≤ (k : Int) := by omega
      have j1 : (k : Int) < (xs.length : Int) := by omega
      have O := O0
      obtain ⟨G, hG⟩ : ∃ G, plainTo xs k = G := ⟨_, rfl⟩
      rw [hG] at O hle PS
      clear hown hbel hat O0 hG
      have g0 := cell_regrown c0
      have g1 := cell_regrown c1
      by_cases h0 : k = 0
      · have e1 : ((k : Int) == 0) = true := by simp [h0]
        have KC := Lib.hid (show keepC xs k = true from by unfold keepC; simp [h0])
        have cP := trivial
        clear h0 cP0 N0
        obtain ⟨p, hp⟩ : ∃ p, ptC xs k = p := ⟨_, rfl⟩
        rw [hp] at c0 c1 g0 g1 PS
        clear hp
        go_wp2
        refine wp_region_quiet_below (by kernel_rfl) (by kernel_rfl) ?_
        repeat (first | go_big_quiet_step (fail) | quiet_step (fail))
        refine wpQuiet_nil ?_
        intro W2 hw2
        have B2 := Lib.hid (Below.then' B.out (below_of_re hw2))
        have O2 := Lib.hid (ownsRow_below O.out (below_of_re hw2))
        have s2 := B2.out.size
        obtain ⟨p0, p1⟩ := CornerAt.below ⟨c0, c1⟩ (below_of_re hw2) hb
        clear hw2 c0 c1 g0 g1 cP
        have hown3 := World.ownsRow.alloc O2.out (.cells #[.int .i64 p.X, .int .i64 p.Y] 103)
        have CELL := Lib.hid (cell_Corner W2 p 103)
        go_wp2_with (at_builtin; refine wpList_append_own _ rfl _ _ 47 rfl w.heap.size 103 ri (.agg #[.int .i64 0, .int .i64 0]) 2 16 Try.underlying47 hi hz0 hz1 hz2 rfl (by decide) _ _ _ rfl hown3 ⟨W2.heap.size, 0, none⟩ 1 1 (VCorner.vals p) rfl rfl CELL.out (VCorner.vals_one _) (by unfold maxLen; omega) (by omega) (by simp; omega) ?_; intro v' w4 hown' hgrow4 _)
        go_roundw
        case rel =>
          refine ⟨k + 1, by omega, by go_num, ?_, (Below.then' B2.out (bel_al1 _ _)).grown hgrow4 (by simp; omega) (fun q e => (hown3.lt q e).1)⟩
          rw [PS.out, KC.out, if_pos rfl, cellsCorner_snoc, List.length_append]
          exact hown'
        case measure => simp [intOf]; omega
      by_cases hl : k + 1 = xs.length
      · have e1 : ((k : Int) == 0) = false := by simp [h0]
        have e2 : ((k : Int) + 1 == (xs.length : Int)) = true := by simp; omega
        have KC := Lib.hid (show keepC xs k = true from by unfold keepC; simp [hl])
        have cP := trivial
        clear h0 hl cP0 N0
        obtain ⟨p, hp⟩ : ∃ p, ptC xs k = p := ⟨_, rfl⟩
        rw [hp] at c0 c1 g0 g1 PS
        clear hp
        go_wp2
        refine wp_region_quiet_below (by kernel_rfl) (by kernel_rfl) ?_
        repeat (first | go_big_quiet_step (fail) | quiet_step (fail))
        refine wpQuiet_nil ?_
        intro W2 hw2
        have B2 := Lib.hid (Below.then' B.out (below_of_re hw2))
        have O2 := Lib.hid (ownsRow_below O.out (below_of_re hw2))
        have s2 := B2.out.size
        obtain ⟨p0, p1⟩ := CornerAt.below ⟨c0, c1⟩ (below_of_re hw2) hb
        clear hw2 c0 c1 g0 g1 cP
        have hown3 := World.ownsRow.alloc O2.out (.cells #[.int .i64 p.X, .int .i64 p.Y] 103)
        have CELL := Lib.hid (cell_Corner W2 p 103)
        go_wp2_with (at_builtin; refine wpList_append_own _ rfl _ _ 47 rfl w.heap.size 103 ri (.agg #[.int .i64 0, .int .i64 0]) 2 16 Try.underlying47 hi hz0 hz1 hz2 rfl (by decide) _ _ _ rfl hown3 ⟨W2.heap.size, 0, none⟩ 1 1 (VCorner.vals p) rfl rfl CELL.out (VCorner.vals_one _) (by unfold maxLen; omega) (by omega) (by simp; omega) ?_; intro v' w4 hown' hgrow4 _)
        go_roundw
        case rel =>
          refine ⟨k + 1, by omega, by go_num, ?_, (Below.then' B2.out (bel_al1 _ _)).grown hgrow4 (by simp; omega) (fun q e => (hown3.lt q e).1)⟩
          rw [PS.out, KC.out, if_pos rfl, cellsCorner_snoc, List.length_append]
          exact hown'
        case measure => simp [intOf]; omega
      obtain ⟨i, rfl⟩ : ∃ i, k = i + 1 := ⟨k - 1, by omega⟩
      have hi2 : i + 2 < xs.length := by omega
      have cP := (cP0 i hi2).out
      obtain ⟨⟨n0, n1⟩, n2, n3⟩ := (N0 i hi2).out
      have e1 : (((i + 1 : Nat) : Int) == 0) = false := by simp; omega
      have e1' : ((i : Int) + 1 == 0) = false := by simp; omega
      have e2 : (((i + 1 : Nat) : Int) + 1 == (xs.length : Int)) = false := by simp; omega
      have e2' : ((i : Int) + 1 + 1 == (xs.length : Int)) = false := by simp; omega
      have v1 : IntKind.i64.wrap (((i + 1 : Nat) : Int) - 1) = (i : Int) := by rw [IntWalk.i64_in _ (by omega)]; omega
      have v2 : IntKind.i64.wrap (((i + 1 : Nat) : Int) + 1) = ((i + 2 : Nat) : Int) := by rw [IntWalk.i64_in _ (by omega)]; omega
      have v3 : IntKind.i64.wrap (i : Int) = (i : Int) := IntWalk.i64_in _ (by omega)
      have e2'' : (((i + 2 : Nat) : Int) == (xs.length : Int)) = false := by simp; omega
      have i0 : (0 : Int) ≤ (i : Int) := by omega
      have i1 : (i : Int) < (xs.length : Int) := by omega
      have i2 : (0 : Int) ≤ ((i + 2 : Nat) : Int) := by omega
      have i3 : ((i + 2 : Nat) : Int) < (xs.length : Int) := by omega
      obtain ⟨u, hu⟩ : ∃ u, bendAtU xs (i + 1) = u := ⟨_, rfl⟩
      have KU := Lib.hid (show keepC xs (i + 1) = !(u == 115) from by unfold keepC; rw [hu, decide_eq_false h0, decide_eq_false hl]; rfl)
      rw [hu] at cP
      have TL := strOf_toList [u]
      obtain ⟨U, hU⟩ : ∃ U, strOf [u] = U := ⟨_, rfl⟩
      rw [hU] at cP TL
      clear cP0 N0 hi2 h0 hl hu hU
      generalize ptC xs i = r at *
      generalize ptC xs (i + 2) = s at *
      obtain ⟨p, hp⟩ : ∃ p, ptC xs (i + 1) = p := ⟨_, rfl⟩
      rw [hp] at c0 c1 g0 g1 PS cP
      clear hp
      have g2 := cell_regrown n0
      have g3 := cell_regrown n1
      have g4 := cell_regrown n2
      have g5 := cell_regrown n3
      clear n0 n1 n2 n3
      by_cases hu : u = 115
      · have KC := Lib.hid (show keepC xs (i + 1) = false from by rw [KU.out, hu]; rfl)
        have e3 : (U.toList == [115]) = true := by rw [TL, hu]; rfl
        have e4 : (U.toList != [115]) = false := by rw [TL, hu]; rfl
        clear hu TL
        go_wp2
        refine wp_region_quiet_below (by kernel_rfl) (by kernel_rfl) ?_
        repeat (first | go_big_quiet_step (exact cP _ _) | quiet_step (exact cP _ _))
        refine wpQuiet_nil ?_
        intro W2 hw2
        have B2 := Lib.hid (Below.then' B.out (below_of_re hw2))
        have O2 := Lib.hid (ownsRow_below O.out (below_of_re hw2))
        have s2 := B2.out.size
        obtain ⟨p0, p1⟩ := CornerAt.below ⟨c0, c1⟩ (below_of_re hw2) hb
        clear hw2 c0 c1 g0 g1 g2 g3 g4 g5 cP
        go_wp2
        go_roundw
        case rel =>
          refine ⟨i + 1 + 1, by omega, by go_num, ?_, B2.out⟩
          rw [PS.out, KC.out, if_neg (by decide), List.append_nil]
          exact O2.out
        case measure => simp [intOf]; omega
      · have KC := Lib.hid (show keepC xs (i + 1) = true from by rw [KU.out]; simp [hu])
        have e3 : (U.toList == [115]) = false := by rw [TL]; simp [hu]
        have e4 : (U.toList != [115]) = true := by rw [TL]; simp [hu]
        clear hu TL
        go_wp2
        refine wp_region_quiet_below (by kernel_rfl) (by kernel_rfl) ?_
        repeat (first | go_big_quiet_step (exact cP _ _) | quiet_step (exact cP _ _))
        refine wpQuiet_nil ?_
        intro W2 hw2
        have B2 := Lib.hid (Below.then' B.out (below_of_re hw2))
        have O2 := Lib.hid (ownsRow_below O.out (below_of_re hw2))
        have s2 := B2.out.size
        obtain ⟨p0, p1⟩ := CornerAt.below ⟨c0, c1⟩ (below_of_re hw2) hb
        clear hw2 c0 c1 g0 g1 g2 g3 g4 g5 cP
        have hown3 := World.ownsRow.alloc O2.out (.cells #[.int .i64 p.X, .int .i64 p.Y] 103)
        have CELL := Lib.hid (cell_Corner W2 p 103)
        go_wp2_with (at_builtin; refine wpList_append_own _ rfl _ _ 47 rfl w.heap.size 103 ri (.agg #[.int .i64 0, .int .i64 0]) 2 16 Try.underlying47 hi hz0 hz1 hz2 rfl (by decide) _ _ _ rfl hown3 ⟨W2.heap.size, 0, none⟩ 1 1 (VCorner.vals p) rfl rfl CELL.out (VCorner.vals_one _) (by unfold maxLen; omega) (by omega) (by simp; omega) ?_; intro v' w4 hown' hgrow4 _)
        go_roundw
        case rel =>
          refine ⟨i + 1 + 1, by omega, by go_num, ?_, (Below.then' B2.out (bel_al1 _ _)).grown hgrow4 (by simp; omega) (fun q e => (hown3.lt q e).1)⟩
          rw [PS.out, KC.out, if_pos rfl, cellsCorner_snoc, List.length_append]
          exact hown'
        case measure => simp [intOf]; omega
    · obtain rfl : k = xs.length := by omega
      have OO := Lib.hid (OwnIn.of_row (lo := w.heap.size) (hi := wr.heap.size) hown (Nat.le_refl _) (Nat.le_refl _))
      clear hown hbel
      go_wp2
      go_ret2
      exact ⟨_, by rw [F1.out]; rfl, by rw [F0.out]; exact OO.out, B.out⟩
end Go.Proofs.Ytpnaciamnigbnaa
