/- A reader's text, in the model and in the program: the same bytes. -/
import Derived.Test.YtofgpiikhifiaabDoorItoa
import Derived.Test.YtofgpiikhifiaabDoorRi
namespace Go.Proofs.YtofgpiikhifiaabDoor
open Go.RowKit

/-- A reader's text but for what is owed. -/
def rdBase (s : VReader) : ByteArray := textOf s.Id ++ ⟨#[32]⟩ ++ s.Name ++ ⟨#[32, 99]⟩ ++ textOf s.Class ++ ⟨#[32, 115, 105, 110, 99, 101, 32]⟩ ++ textOf s.Joined
def rdText (s : VReader) : ByteArray := if 0 < s.Fines then rdBase s ++ ⟨#[32, 111, 119, 101, 115, 32]⟩ ++ textOf s.Fines else rdBase s
def ReaderText_0 (s : VReader) : ByteArray := if s.ok = true then rdText s else ⟨#[]⟩
def ReaderText_1 (s : VReader) : Bool := s.ok
theorem rdBase_size {s : VReader} (h : s.ok = true) : (rdBase s).size ≤ 4000000000100 := by
  obtain ⟨a, b, c, d, e⟩ := rdOk_iff.1 h
  have := (word_size b).2
  have z0 := text_bd (n := s.Id) (by omega) (by omega)
  have z1 := text_bd (n := s.Class) (by omega) (by omega)
  have z2 := text_bd (n := s.Joined) (by omega) (by omega)
  unfold rdBase
  simp only [ByteArray.size_append]
  have e1 : (⟨#[32]⟩ : ByteArray).size = 1 := rfl
  have e2 : (⟨#[32, 99]⟩ : ByteArray).size = 2 := rfl
  have e3 : (⟨#[32, 115, 105, 110, 99, 101, 32]⟩ : ByteArray).size = 7 := rfl
  omega
theorem rdText_owes (s : VReader) (h : 0 < s.Fines) : rdText s = rdBase s ++ ⟨#[32, 111, 119, 101, 115, 32]⟩ ++ textOf s.Fines := if_pos h
theorem rdText_plain (s : VReader) (h : ¬ 0 < s.Fines) : rdText s = rdBase s := if_neg h
theorem str_assoc (a b c : ByteArray) : a ++ (b ++ c) = a ++ b ++ c := (ByteArray.append_assoc ..).symm

set_option maxHeartbeats 3200000 in
set_option maxRecDepth 100000 in
theorem l3Text_any (s : VReader) (w : World) (hok : s.ok = true) :
    Calls Tryd.prog 13 #[.agg #[.int .i64 s.Id, .string s.Name, .int .i64 s.Joined, .int .i64 s.Class, .int .i64 s.Fines]] w fun e w' => e = .returned (.string (rdText s)) ∧ Below w.heap.size w w' := by
  have zb := rdBase_size hok
  obtain ⟨⟨a0, a1⟩, hw, ⟨b0, b1⟩, ⟨c0, c1⟩, ⟨d0, d1⟩⟩ := rdOk_iff.1 hok
  have zn := (word_size hw).2
  have z0 := text_bd (n := s.Id) (by omega) (by omega)
  have z1 := text_bd (n := s.Class) (by omega) (by omega)
  have z2 := text_bd (n := s.Joined) (by omega) (by omega)
  have z3 := text_bd (n := s.Fines) (by omega) (by omega)
  have k0 : ∀ W, Calls Tryd.prog 23 #[.int .i64 s.Id] W fun e w' => e = .returned (.string (textOf s.Id)) ∧ Below W.heap.size W w' := fun W => num_any _ (by omega) (by omega) W
  have k1 : ∀ W, Calls Tryd.prog 23 #[.int .i64 s.Class] W fun e w' => e = .returned (.string (textOf s.Class)) ∧ Below W.heap.size W w' := fun W => num_any _ (by omega) (by omega) W
  have k2 : ∀ W, Calls Tryd.prog 23 #[.int .i64 s.Joined] W fun e w' => e = .returned (.string (textOf s.Joined)) ∧ Below W.heap.size W w' := fun W => num_any _ (by omega) (by omega) W
  have K3 := Lib.hid (show ∀ W, Calls Tryd.prog 23 #[.int .i64 s.Fines] W fun e w' => e = .returned (.string (textOf s.Fines)) ∧ Below W.heap.size W w' from fun W => num_any _ (by omega) (by omega) W)
  have T : Hid (rdBase s = textOf s.Id ++ ⟨#[32]⟩ ++ s.Name ++ ⟨#[32, 99]⟩ ++ textOf s.Class ++ ⟨#[32, 115, 105, 110, 99, 101, 32]⟩ ++ textOf s.Joined) := Lib.hid rfl
  have TO := Lib.hid (rdText_owes s)
  have TP := Lib.hid (rdText_plain s)
  generalize textOf s.Id = t0 at *
  generalize textOf s.Class = t1 at *
  generalize textOf s.Joined = t2 at *
  generalize textOf s.Fines = t3 at *
  generalize rdText s = tt at *
  clear hok hw a0 a1 b0 b1 c0 c1
  go_enter Tryd.func13, Tryd.ntmps13
  go_wp2
  refine wp_world (fun W => BoxReader W w.heap.size s ∧ Below w.heap.size w W) ⟨BoxReader.new _ _ _ _ rfl, bel_al1 _ _⟩ ?_
  rintro W ⟨hbox, hbw⟩
  have BX := Lib.hid hbox
  obtain ⟨e0, e1, e2, e3, e4⟩ := hbox
  have BW := Lib.hid hbw
  have g0 := cell_regrown e0
  have g1 := cell_regrown e1
  have g2 := cell_regrown e2
  have g3 := cell_regrown e3
  have q0 := below_at (W := W) (fun W' _ => k0 W')
  have q1 := below_at (W := W) (fun W' _ => k1 W')
  have q2 := below_at (W := W) (fun W' _ => k2 W')
  clear e0 e1 e2 e3 e4 hbw k0 k1 k2
  refine wp_region_quiet_below (by kernel_rfl) (by kernel_rfl) ?_
  repeat (first | go_big_quiet_step (first | (with_reducible exact q0 _ _) | (with_reducible exact q1 _ _) | (with_reducible exact q2 _ _)) | quiet_step (first | (with_reducible exact q0 _ _) | (with_reducible exact q1 _ _) | (with_reducible exact q2 _ _)))
  refine wpQuiet_nil ?_
  intro W2 hw2
  have hb2 := below_of_re hw2
  have B2 := Lib.hid (Below.then' BW.out hb2)
  obtain ⟨e0, e1, e2, e3, e4⟩ := BX.out.below hb2
  clear hw2 hb2 q0 q1 q2 g0 g1 g2 g3
  rw [← T.out]
  generalize rdBase s = tb at *
  by_cases hf : 0 < s.Fines
  · have E := Lib.hid (TO.out hf)
    go_wp2_with fail
    refine (K3.out _).mono ?_
    rintro e w3 ⟨rfl, hb⟩
    have B3 := Lib.hid (Below.then' B2.out hb)
    clear hb
    go_wp2
    go_ret
    exact ⟨ret_str E.out.symm, B3.out⟩
  · have E := Lib.hid (TP.out (by omega))
    go_wp2
    go_ret
    exact ⟨ret_str E.out.symm, B2.out⟩
end Go.Proofs.YtofgpiikhifiaabDoor
