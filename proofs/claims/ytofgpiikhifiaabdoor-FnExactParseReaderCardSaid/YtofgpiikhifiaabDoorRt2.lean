/- A reader's text: both sides of the law. -/
import Derived.Test.YtofgpiikhifiaabDoorRt
namespace Go.Proofs.YtofgpiikhifiaabDoor
open Go.RowKit

def ReaderText_Post (z0 : VReader) (w : World) (e : Ending) (w' : World) : Prop :=
  e = .returned (.tuple #[.string (ReaderText_0 z0), .bool (ReaderText_1 z0)]) ∧ Below w.heap.size w w'
theorem rdText_yes {s : VReader} (h : s.ok = true) : ReaderText_0 s = rdText s ∧ ReaderText_1 s = true := ⟨if_pos h, h⟩
theorem rdText_no {s : VReader} (h : s.ok = false) : ReaderText_0 s = ⟨#[]⟩ ∧ ReaderText_1 s = false := ⟨if_neg (by rw [h]; decide), h⟩
theorem post_text {s : VReader} {w : World} {e : Ending} {w' : World} (h : s.ok = true) (hp : e = .returned (.tuple #[.string (rdText s), .bool true]) ∧ Below w.heap.size w w') : ReaderText_Post s w e w' := by
  obtain ⟨e1, e2⟩ := rdText_yes h
  unfold ReaderText_Post
  rw [e1, e2]; exact hp
theorem post_none {s : VReader} {w : World} {e : Ending} {w' : World} (h : s.ok = false) (hp : e = .returned (.tuple #[.string ⟨#[]⟩, .bool false]) ∧ Below w.heap.size w w') : ReaderText_Post s w e w' := by
  obtain ⟨e1, e2⟩ := rdText_no h
  unfold ReaderText_Post
  rw [e1, e2]; exact hp
set_option maxHeartbeats 3200000 in
set_option maxRecDepth 100000 in
theorem specReaderText_any (s : VReader) (w : World) (hz : s.sized) :
    Calls Tryd.prog 6 #[.agg #[.int .i64 s.Id, .string s.Name, .int .i64 s.Joined, .int .i64 s.Class, .int .i64 s.Fines]] w (ReaderText_Post s w) := by
  cases hok : s.ok with
  | true =>
    refine Calls.mono ?_ (fun _ _ h => post_text hok h)
    have OK := Lib.hid hok
    have HZ := Lib.hid hz
    clear hok hz
    go_enter Tryd.func6, Tryd.ntmps6
    go_wp2_with fail
    refine (l3One_any s _ (sized_smallReader s HZ.out)).mono ?_
    rintro e w1 ⟨rfl, hb⟩
    have B1 := Lib.hid (Below.then' (bel_al1 _ _) hb)
    obtain ⟨e0, e1, e2, e3, e4⟩ := (BoxReader.new w 27 s _ rfl).below hb
    clear hb
    rw [OK.out]
    go_wp2_with fail
    refine (l3Text_any s _ OK.out).mono ?_
    rintro e w2 ⟨rfl, hb⟩
    have B2 := Lib.hid (Below.then' B1.out hb)
    clear hb e0 e1 e2 e3 e4
    go_wp2
    go_ret2
    exact ⟨rfl, B2.out⟩
  | false =>
    refine Calls.mono ?_ (fun _ _ h => post_none hok h)
    have OK := Lib.hid hok
    have HZ := Lib.hid hz
    clear hok hz
    go_enter Tryd.func6, Tryd.ntmps6
    go_wp2_with fail
    refine (l3One_any s _ (sized_smallReader s HZ.out)).mono ?_
    rintro e w1 ⟨rfl, hb⟩
    have B1 := Lib.hid (Below.then' (bel_al1 _ _) hb)
    clear hb
    rw [OK.out]
    go_wp2
    go_ret2
    exact ⟨rfl, B1.out⟩
set_option maxHeartbeats 3200000 in
set_option maxRecDepth 100000 in
theorem implReaderText_yes (s : VReader) (w : World) (hok : s.ok = true) (ht : TabPow w) :
    Calls Tryd.prog 8 #[.agg #[.int .i64 s.Id, .string s.Name, .int .i64 s.Joined, .int .i64 s.Class, .int .i64 s.Fines]] w fun e w' => e = .returned (.tuple #[.string (rdText s), .bool true]) ∧ Below w.heap.size w w' := by
  have zb := rdBase_size hok
  obtain ⟨⟨a0, a1⟩, hw, ⟨b0, b1⟩, ⟨c0, c1⟩, ⟨d0, d1⟩⟩ := rdOk_iff.1 hok
  have zn := (word_size hw).2
  have z0 := text_bd (n := s.Id) (by omega) (by omega)
  have z1 := text_bd (n := s.Class) (by omega) (by omega)
  have z2 := text_bd (n := s.Joined) (by omega) (by omega)
  have z3 := text_bd (n := s.Fines) (by omega) (by omega)
  have k0 : ∀ W, TabPow W → Calls Tryd.prog 15 #[.int .i64 s.Id] W fun e w' => e = .returned (.string (textOf s.Id)) ∧ Below W.heap.size W w' := fun W hT => itoa_any _ (by omega) (by omega) W hT
  have k1 : ∀ W, TabPow W → Calls Tryd.prog 15 #[.int .i64 s.Class] W fun e w' => e = .returned (.string (textOf s.Class)) ∧ Below W.heap.size W w' := fun W hT => itoa_any _ (by omega) (by omega) W hT
  have k2 : ∀ W, TabPow W → Calls Tryd.prog 15 #[.int .i64 s.Joined] W fun e w' => e = .returned (.string (textOf s.Joined)) ∧ Below W.heap.size W w' := fun W hT => itoa_any _ (by omega) (by omega) W hT
  have K3 := Lib.hid (show ∀ W, TabPow W → Calls Tryd.prog 15 #[.int .i64 s.Fines] W fun e w' => e = .returned (.string (textOf s.Fines)) ∧ Below W.heap.size W w' from fun W hT => itoa_any _ (by omega) (by omega) W hT)
  have T : Hid (rdBase s = textOf s.Id ++ ⟨#[32]⟩ ++ s.Name ++ ⟨#[32, 99]⟩ ++ textOf s.Class ++ ⟨#[32, 115, 105, 110, 99, 101, 32]⟩ ++ textOf s.Joined) := Lib.hid rfl
  have TO := Lib.hid (rdText_owes s)
  have TP := Lib.hid (rdText_plain s)
  have TT := Lib.hid ht
  have OK := Lib.hid hok
  have HS := Lib.hid (rdOk_small hok)
  generalize textOf s.Id = t0 at *
  generalize textOf s.Class = t1 at *
  generalize textOf s.Joined = t2 at *
  generalize textOf s.Fines = t3 at *
  generalize rdText s = tt at *
  clear hok hw ht a0 a1 b0 b1 c0 c1
  go_enter Tryd.func8, Tryd.ntmps8
  go_wp2_with fail
  refine (isRd_any s _ HS.out).mono ?_
  rintro e w1 ⟨rfl, hb1⟩
  have BX1 := Lib.hid ((BoxReader.new w 27 s _ rfl).below hb1)
  have B1 := Lib.hid (Below.then' (bel_al1 _ _) hb1)
  clear hb1
  rw [OK.out]
  go_wp2
  refine wp_world (fun W => BoxReader W w.heap.size s ∧ Below w.heap.size w W) ⟨BX1.out, B1.out⟩ ?_
  rintro W ⟨hbox, hbw⟩
  have BX := Lib.hid hbox
  obtain ⟨e0, e1, e2, e3, e4⟩ := hbox
  have BW := Lib.hid hbw
  have T2 := Lib.hid (tabPow_below TT.out hbw)
  have g0 := cell_regrown e0
  have g1 := cell_regrown e1
  have g2 := cell_regrown e2
  have g3 := cell_regrown e3
  have q0 := below_at (W := W) (fun W' hb => k0 W' (tabPow_below T2.out hb))
  have q1 := below_at (W := W) (fun W' hb => k1 W' (tabPow_below T2.out hb))
  have q2 := below_at (W := W) (fun W' hb => k2 W' (tabPow_below T2.out hb))
  clear e0 e1 e2 e3 e4 hbw k0 k1 k2
  refine wp_region_quiet_below (by kernel_rfl) (by kernel_rfl) ?_
  repeat (first | go_big_quiet_step (first | (with_reducible exact q0 _ _) | (with_reducible exact q1 _ _) | (with_reducible exact q2 _ _)) | quiet_step (first | (with_reducible exact q0 _ _) | (with_reducible exact q1 _ _) | (with_reducible exact q2 _ _)))
  refine wpQuiet_nil ?_
  intro W2 hw2
  have hb2 := below_of_re hw2
  have B2 := Lib.hid (Below.then' BW.out hb2)
  have T3 := Lib.hid (tabPow_below T2.out hb2)
  obtain ⟨e0, e1, e2, e3, e4⟩ := BX.out.below hb2
  clear hw2 hb2 q0 q1 q2 g0 g1 g2 g3
  rw [← T.out]
  generalize rdBase s = tb at *
  by_cases hf : 0 < s.Fines
  · have E := Lib.hid (TO.out hf)
    go_wp2_with fail
    refine (K3.out _ T3.out).mono ?_
    rintro e w3 ⟨rfl, hb⟩
    have B3 := Lib.hid (Below.then' B2.out hb)
    clear hb
    go_wp2
    go_ret2
    exact ⟨ret_str_v (by rw [E.out, str_assoc]), B3.out⟩
  · have E := Lib.hid (TP.out (by omega))
    go_wp2
    go_ret2
    exact ⟨ret_str_v E.out.symm, B2.out⟩
set_option maxHeartbeats 1600000 in
theorem implReaderText_any (s : VReader) (w : World) (hz : s.sized) (ht : TabPow w) :
    Calls Tryd.prog 8 #[.agg #[.int .i64 s.Id, .string s.Name, .int .i64 s.Joined, .int .i64 s.Class, .int .i64 s.Fines]] w (ReaderText_Post s w) := by
  cases hok : s.ok with
  | true => exact Calls.mono (implReaderText_yes s w hok ht) (fun _ _ h => post_text hok h)
  | false =>
    refine Calls.mono ?_ (fun _ _ h => post_none hok h)
    have OK := Lib.hid hok
    have HZ := Lib.hid hz
    clear hok hz ht
    go_enter Tryd.func8, Tryd.ntmps8
    go_wp2_with fail
    refine (isRd_any s _ (sized_smallReader s HZ.out)).mono ?_
    rintro e w1 ⟨rfl, hb⟩
    have B1 := Lib.hid (Below.then' (bel_al1 _ _) hb)
    clear hb
    rw [OK.out]
    go_wp2
    go_ret2
    exact ⟨rfl, B1.out⟩
end Go.Proofs.YtofgpiikhifiaabDoor
