/- A sheet's text, in the model and in the program: the same bytes. -/
import Derived.Test.YtidaoijpbdljbaaDoorSheet2
import Derived.Test.YtidaoijpbdljbaaDoorReg
import Derived.Test.YtidaoijpbdljbaaDoorFmt
import Derived.Test.YtidaoijpbdljbaaDoorLaid
namespace Go.Proofs.YtidaoijpbdljbaaDoor
open Go.RowKit

/-- A sheet's text. -/
def shText (s : Sh) : ByteArray := textOf s.id ++ ⟨#[58, 32, 114]⟩ ++ textOf s.row ++ ⟨#[32, 99]⟩ ++ textOf s.col ++ ⟨#[32, 49, 58]⟩ ++ textOf s.scale ++ ⟨#[48, 48, 48, 32]⟩ ++ textOf s.year
theorem Sh.ok_bd {s : Sh} (h : s.ok = true) : (1 ≤ s.id ∧ s.id ≤ 999) ∧ (0 ≤ s.row ∧ s.row ≤ 99) ∧ (0 ≤ s.col ∧ s.col ≤ 99) ∧ (10 ≤ s.scale ∧ s.scale ≤ 500) ∧ (1500 ≤ s.year ∧ s.year ≤ 2100) := by
  unfold Sh.ok at h; simpa only [Bool.and_eq_true, inB_iff] using h
theorem drawn_below {P : Program} {f : FuncId} {args : Array Value} {v : Value} {W : World} (h : Calls P f args W fun e w' => e = .returned v ∧ ∃ m, w' = W.drewN m) : Calls P f args W fun e w' => e = .returned v ∧ Below W.heap.size W w' :=
  h.mono fun _ _ ⟨he, _, hw⟩ => ⟨he, hw ▸ bel_drawn _ _⟩
theorem itoa_any (n : Int) (h0 : -999999 ≤ n) (h1 : n ≤ 999999) (w : World) (ht : TabPow w) :
    Calls Tryd.prog 14 #[.int .i64 n] w fun e w' => e = .returned (.string (textOf n)) ∧ Below w.heap.size w w' :=
  (Tryd.strconv_Itoa n (by omega) (by omega) w ht).mono fun _ _ ⟨he, _, _, hw⟩ => ⟨he, hw ▸ Lib.below_grow _ _ (Nat.le_refl _) _ _⟩
theorem text_bd {n : Int} (h0 : 0 ≤ n) (h1 : n ≤ 999999) : (textOf n).size ≤ 1000000000002 := textOf_size n (by omega) (by omega)

set_option maxHeartbeats 1600000 in
set_option maxRecDepth 100000 in
theorem l2Text_any (s : Sh) (w : World) (hok : s.ok = true) :
    Calls Tryd.prog 12 #[.agg #[.int .i64 s.id, .int .i64 s.row, .int .i64 s.col, .int .i64 s.scale, .int .i64 s.year]] w fun e w' => e = .returned (.string (shText s)) ∧ Below w.heap.size w w' := by
  obtain ⟨⟨a0, a1⟩, ⟨b0, b1⟩, ⟨c0, c1⟩, ⟨d0, d1⟩, ⟨e0, e1⟩⟩ := Sh.ok_bd hok
  have z0 := text_bd (n := s.id) (by omega) (by omega)
  have z1 := text_bd (n := s.row) (by omega) (by omega)
  have z2 := text_bd (n := s.col) (by omega) (by omega)
  have z3 := text_bd (n := s.scale) (by omega) (by omega)
  have z4 := text_bd (n := s.year) (by omega) (by omega)
  have k0 : ∀ W, Calls Tryd.prog 20 #[.int .i64 s.id] W fun e w' => e = .returned (.string (textOf s.id)) ∧ Below W.heap.size W w' := fun W => drawn_below (l1Num_any _ W (by omega) (by omega))
  have k1 : ∀ W, Calls Tryd.prog 20 #[.int .i64 s.row] W fun e w' => e = .returned (.string (textOf s.row)) ∧ Below W.heap.size W w' := fun W => drawn_below (l1Num_any _ W (by omega) (by omega))
  have k2 : ∀ W, Calls Tryd.prog 20 #[.int .i64 s.col] W fun e w' => e = .returned (.string (textOf s.col)) ∧ Below W.heap.size W w' := fun W => drawn_below (l1Num_any _ W (by omega) (by omega))
  have k3 : ∀ W, Calls Tryd.prog 20 #[.int .i64 s.scale] W fun e w' => e = .returned (.string (textOf s.scale)) ∧ Below W.heap.size W w' := fun W => drawn_below (l1Num_any _ W (by omega) (by omega))
  have k4 : ∀ W, Calls Tryd.prog 20 #[.int .i64 s.year] W fun e w' => e = .returned (.string (textOf s.year)) ∧ Below W.heap.size W w' := fun W => drawn_below (l1Num_any _ W (by omega) (by omega))
  have T : Hid (shText s = textOf s.id ++ ⟨#[58, 32, 114]⟩ ++ textOf s.row ++ ⟨#[32, 99]⟩ ++ textOf s.col ++ ⟨#[32, 49, 58]⟩ ++ textOf s.scale ++ ⟨#[48, 48, 48, 32]⟩ ++ textOf s.year) := Lib.hid rfl
  generalize textOf s.id = t0 at *
  generalize textOf s.row = t1 at *
  generalize textOf s.col = t2 at *
  generalize textOf s.scale = t3 at *
  generalize textOf s.year = t4 at *
  clear hok a0 a1 b0 b1 c0 c1 d0 d1 e0 e1
  go_enter Tryd.func12, Tryd.ntmps12
  go_wp2
  refine wp_world (fun W => BoxAt W w.heap.size s ∧ Below w.heap.size w W) ⟨boxAt_new _ _ _ _ rfl, bel_alloc1 _ _⟩ ?_
  rintro W ⟨hbox, hbw⟩
  obtain ⟨e0, e1, e2, e3, e4⟩ := hbox
  have BW := Lib.hid hbw
  have g0 := cell_regrown e0
  have g1 := cell_regrown e1
  have g2 := cell_regrown e2
  have g3 := cell_regrown e3
  have g4 := cell_regrown e4
  have q0 := below_at (W := W) (fun W' _ => k0 W')
  have q1 := below_at (W := W) (fun W' _ => k1 W')
  have q2 := below_at (W := W) (fun W' _ => k2 W')
  have q3 := below_at (W := W) (fun W' _ => k3 W')
  have q4 := below_at (W := W) (fun W' _ => k4 W')
  clear e0 e1 e2 e3 e4 hbw k0 k1 k2 k3 k4
  refine wp_region_quiet_below (by kernel_rfl) (by kernel_rfl) ?_
  repeat (first | go_big_quiet_step (first | (with_reducible exact q0 _ _) | (with_reducible exact q1 _ _) | (with_reducible exact q2 _ _) | (with_reducible exact q3 _ _) | (with_reducible exact q4 _ _)) | quiet_step (first | (with_reducible exact q0 _ _) | (with_reducible exact q1 _ _) | (with_reducible exact q2 _ _) | (with_reducible exact q3 _ _) | (with_reducible exact q4 _ _)))
  refine wpQuiet_nil ?_
  intro W2 hw2
  have B2 := Lib.hid (Below.then' BW.out (below_of_re hw2))
  clear hw2 q0 q1 q2 q3 q4 g0 g1 g2 g3 g4
  go_wp2
  go_ret
  exact ⟨ret_str (by rw [T.out]), B2.out⟩

set_option maxHeartbeats 1600000 in
set_option maxRecDepth 100000 in
theorem implSheetText_yes (s : Sh) (w : World) (hok : s.ok = true) (ht : TabPow w) :
    Calls Tryd.prog 7 #[.agg #[.int .i64 s.id, .int .i64 s.row, .int .i64 s.col, .int .i64 s.scale, .int .i64 s.year]] w fun e w' => e = .returned (.tuple #[.string (shText s), .bool true]) ∧ Below w.heap.size w w' := by
  obtain ⟨⟨a0, a1⟩, ⟨b0, b1⟩, ⟨c0, c1⟩, ⟨d0, d1⟩, ⟨e0, e1⟩⟩ := Sh.ok_bd hok
  have z0 := text_bd (n := s.id) (by omega) (by omega)
  have z1 := text_bd (n := s.row) (by omega) (by omega)
  have z2 := text_bd (n := s.col) (by omega) (by omega)
  have z3 := text_bd (n := s.scale) (by omega) (by omega)
  have z4 := text_bd (n := s.year) (by omega) (by omega)
  have k0 : ∀ W, TabPow W → Calls Tryd.prog 14 #[.int .i64 s.id] W fun e w' => e = .returned (.string (textOf s.id)) ∧ Below W.heap.size W w' := fun W hT => itoa_any _ (by omega) (by omega) W hT
  have k1 : ∀ W, TabPow W → Calls Tryd.prog 14 #[.int .i64 s.row] W fun e w' => e = .returned (.string (textOf s.row)) ∧ Below W.heap.size W w' := fun W hT => itoa_any _ (by omega) (by omega) W hT
  have k2 : ∀ W, TabPow W → Calls Tryd.prog 14 #[.int .i64 s.col] W fun e w' => e = .returned (.string (textOf s.col)) ∧ Below W.heap.size W w' := fun W hT => itoa_any _ (by omega) (by omega) W hT
  have k3 : ∀ W, TabPow W → Calls Tryd.prog 14 #[.int .i64 s.scale] W fun e w' => e = .returned (.string (textOf s.scale)) ∧ Below W.heap.size W w' := fun W hT => itoa_any _ (by omega) (by omega) W hT
  have k4 : ∀ W, TabPow W → Calls Tryd.prog 14 #[.int .i64 s.year] W fun e w' => e = .returned (.string (textOf s.year)) ∧ Below W.heap.size W w' := fun W hT => itoa_any _ (by omega) (by omega) W hT
  have T : Hid (shText s = textOf s.id ++ ⟨#[58, 32, 114]⟩ ++ textOf s.row ++ ⟨#[32, 99]⟩ ++ textOf s.col ++ ⟨#[32, 49, 58]⟩ ++ textOf s.scale ++ ⟨#[48, 48, 48, 32]⟩ ++ textOf s.year) := Lib.hid rfl
  generalize textOf s.id = t0 at *
  generalize textOf s.row = t1 at *
  generalize textOf s.col = t2 at *
  generalize textOf s.scale = t3 at *
  generalize textOf s.year = t4 at *
  have TT := Lib.hid ht
  have OK := Lib.hid hok
  clear ht hok a0 a1 b0 b1 c0 c1 d0 d1 e0 e1
  go_enter Tryd.func7, Tryd.ntmps7
  go_wp2_with fail
  refine (implIsSheet_any s _).mono ?_
  rintro e w1 ⟨rfl, hb1⟩
  have BX := Lib.hid ((boxAt_new w 26 s _ rfl).below hb1)
  have B1 := Lib.hid (Below.then' (bel_alloc1 _ _) hb1)
  clear hb1
  rw [OK.out]
  go_wp2
  refine wp_world (fun W => Below w.heap.size w W ∧ BoxAt W w.heap.size s) ⟨B1.out, BX.out⟩ ?_
  rintro W2 ⟨hbw, hbox⟩
  obtain ⟨e0, e1, e2, e3, e4⟩ := hbox
  have BW := Lib.hid hbw
  have T2 := Lib.hid (tabPow_below TT.out hbw)
  have g0 := cell_regrown e0
  have g1 := cell_regrown e1
  have g2 := cell_regrown e2
  have g3 := cell_regrown e3
  have g4 := cell_regrown e4
  have q0 := below_at (W := W2) (fun W' hb => k0 W' (tabPow_below T2.out hb))
  have q1 := below_at (W := W2) (fun W' hb => k1 W' (tabPow_below T2.out hb))
  have q2 := below_at (W := W2) (fun W' hb => k2 W' (tabPow_below T2.out hb))
  have q3 := below_at (W := W2) (fun W' hb => k3 W' (tabPow_below T2.out hb))
  have q4 := below_at (W := W2) (fun W' hb => k4 W' (tabPow_below T2.out hb))
  clear e0 e1 e2 e3 e4 hbw k0 k1 k2 k3 k4
  refine wp_region_quiet_below (by kernel_rfl) (by kernel_rfl) ?_
  repeat (first | go_big_quiet_step (first | (with_reducible exact q0 _ _) | (with_reducible exact q1 _ _) | (with_reducible exact q2 _ _) | (with_reducible exact q3 _ _) | (with_reducible exact q4 _ _)) | quiet_step (first | (with_reducible exact q0 _ _) | (with_reducible exact q1 _ _) | (with_reducible exact q2 _ _) | (with_reducible exact q3 _ _) | (with_reducible exact q4 _ _)))
  refine wpQuiet_nil ?_
  intro W3 hw2
  have B2 := Lib.hid (Below.then' BW.out (below_of_re hw2))
  clear hw2 q0 q1 q2 q3 q4 g0 g1 g2 g3 g4
  go_wp2
  go_ret2
  exact ⟨ret_str_v (by rw [T.out]), B2.out⟩

set_option maxHeartbeats 1600000 in
theorem implSheetText_no (s : Sh) (w : World) (hok : s.ok = false) :
    Calls Tryd.prog 7 #[.agg #[.int .i64 s.id, .int .i64 s.row, .int .i64 s.col, .int .i64 s.scale, .int .i64 s.year]] w fun e w' => e = .returned (.tuple #[.string ⟨#[]⟩, .bool false]) ∧ Below w.heap.size w w' := by
  have OK := Lib.hid hok
  clear hok
  go_enter Tryd.func7, Tryd.ntmps7
  go_wp2_with fail
  refine (implIsSheet_any s _).mono ?_
  rintro e w1 ⟨rfl, hb1⟩
  have B1 := Lib.hid (Below.then' (bel_alloc1 _ _) hb1)
  clear hb1
  rw [OK.out]
  go_wp2
  go_ret2
  exact ⟨rfl, B1.out⟩

set_option maxHeartbeats 1600000 in
theorem specSheetText_any (s : Sh) (w : World) :
    Calls Tryd.prog 5 #[.agg #[.int .i64 s.id, .int .i64 s.row, .int .i64 s.col, .int .i64 s.scale, .int .i64 s.year]] w fun e w' => e = .returned (.tuple #[.string (if s.ok = true then shText s else ⟨#[]⟩), .bool s.ok]) ∧ Below w.heap.size w w' := by
  by_cases hok : s.ok = true
  · have OK := Lib.hid hok
    rw [if_pos hok, hok]
    clear hok
    go_enter Tryd.func5, Tryd.ntmps5
    go_wp2_with fail
    refine (l2Sheet_any s _).mono ?_
    rintro e w1 ⟨rfl, hb1⟩
    have B1 := Lib.hid (Below.then' (bel_alloc1 _ _) hb1)
    obtain ⟨e0, e1, e2, e3, e4⟩ := (boxAt_new w 26 s _ rfl).below hb1
    clear hb1
    rw [OK.out]
    go_wp2_with fail
    refine (l2Text_any s _ OK.out).mono ?_
    rintro e w2 ⟨rfl, hb2⟩
    have B2 := Lib.hid (Below.then' B1.out hb2)
    clear hb2 e0 e1 e2 e3 e4
    go_wp2
    go_ret2
    exact ⟨rfl, B2.out⟩
  · have hok' : s.ok = false := by simpa using hok
    have OK := Lib.hid hok'
    rw [if_neg hok, hok']
    clear hok hok'
    go_enter Tryd.func5, Tryd.ntmps5
    go_wp2_with fail
    refine (l2Sheet_any s _).mono ?_
    rintro e w1 ⟨rfl, hb1⟩
    have B1 := Lib.hid (Below.then' (bel_alloc1 _ _) hb1)
    clear hb1
    rw [OK.out]
    go_wp2
    go_ret2
    exact ⟨rfl, B1.out⟩
theorem implSheetText_any (s : Sh) (w : World) (ht : TabPow w) :
    Calls Tryd.prog 7 #[.agg #[.int .i64 s.id, .int .i64 s.row, .int .i64 s.col, .int .i64 s.scale, .int .i64 s.year]] w fun e w' => e = .returned (.tuple #[.string (if s.ok = true then shText s else ⟨#[]⟩), .bool s.ok]) ∧ Below w.heap.size w w' := by
  by_cases hok : s.ok = true
  · rw [if_pos hok, hok]; exact implSheetText_yes s w hok ht
  · have hok' : s.ok = false := by simpa using hok
    rw [if_neg hok, hok']; exact implSheetText_no s w hok'
end Go.Proofs.YtidaoijpbdljbaaDoor
