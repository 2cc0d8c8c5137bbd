/- A maker's text, in the model and in the program: the same bytes. -/
import Derived.Test.YtpcibejmahhjiaaDoorItoa
import Derived.Test.YtpcibejmahhjiaaDoorMi
import Derived.Test.YtpcibejmahhjiaaDoorMs
namespace Go.Proofs.YtpcibejmahhjiaaDoor
open Go.RowKit

/-- A maker's text but for the heir. -/
def mkBase (s : VMaker) : ByteArray := textOf s.Id ++ ⟨#[32]⟩ ++ s.Name ++ ⟨#[32]⟩ ++ textOf s.From ++ ⟨#[45]⟩ ++ textOf s.Until
def mkText (s : VMaker) : ByteArray := if s.Heir = 0 then mkBase s else mkBase s ++ ⟨#[32, 62]⟩ ++ textOf s.Heir
def MakerText_0 (s : VMaker) : ByteArray := if s.ok = true then mkText s else ⟨#[]⟩
def MakerText_1 (s : VMaker) : Bool := s.ok
theorem mkOk_small {s : VMaker} (h : s.ok = true) : s.small := by
  have := (word_size (mkOk_iff.1 h).2.1).2
  unfold VMaker.small maxLen; omega
theorem mkBase_size {s : VMaker} (h : s.ok = true) : (mkBase s).size ≤ 4000000000100 := by
  obtain ⟨a, b, c, d, _⟩ := mkOk_iff.1 h
  have := (word_size b).2
  have z0 := text_bd (n := s.Id) (by omega) (by omega)
  have z1 := text_bd (n := s.From) (by omega) (by omega)
  have z2 := text_bd (n := s.Until) (by omega) (by omega)
  unfold mkBase
  simp only [ByteArray.size_append]
  have e1 : (⟨#[32]⟩ : ByteArray).size = 1 := rfl
  have e2 : (⟨#[45]⟩ : ByteArray).size = 1 := rfl
  omega
theorem str_assoc' (a b c : ByteArray) : a ++ (b ++ c) = a ++ b ++ c := (ByteArray.append_assoc ..).symm
def MakerText_Post (z0 : VMaker) (w : World) (e : Ending) (w' : World) : Prop :=
  e = .returned (.tuple #[.string (MakerText_0 z0), .bool (MakerText_1 z0)]) ∧ Below w.heap.size w w'
theorem mk_text_yes {s : VMaker} {w : World} {e : Ending} {w' : World} (h : s.ok = true) (hp : e = .returned (.tuple #[.string (mkText s), .bool true]) ∧ Below w.heap.size w w') : MakerText_Post s w e w' := by
  unfold MakerText_Post MakerText_0 MakerText_1
  rw [if_pos h, h]; exact hp
theorem mk_text_no {s : VMaker} {w : World} {e : Ending} {w' : World} (h : s.ok = false) (hp : e = .returned (.tuple #[.string ⟨#[]⟩, .bool false]) ∧ Below w.heap.size w w') : MakerText_Post s w e w' := by
  unfold MakerText_Post MakerText_0 MakerText_1
  rw [if_neg (by rw [h]; decide), h]; exact hp
theorem ret_str_v' {s t : ByteArray} {b : Bool} (h : s = t) : Ending.returned (.tuple #[.string s, .bool b]) = Ending.returned (.tuple #[.string t, .bool b]) := by rw [h]
set_option maxHeartbeats 3200000 in
set_option maxRecDepth 100000 in
theorem specMakerText_yes (s : VMaker) (w : World) (hok : s.ok = true) :
    Calls Tryd.prog 25 #[.agg #[.int .i64 s.Id, .string s.Name, .int .i64 s.From, .int .i64 s.Until, .int .i64 s.Heir]] w fun e w' => e = .returned (.tuple #[.string (mkText s), .bool true]) ∧ Below w.heap.size w w' := by
  have zb := mkBase_size hok
  obtain ⟨⟨a0, a1⟩, hw, ⟨b0, b1⟩, ⟨c0, c1⟩, _, ⟨d0, d1⟩, _⟩ := mkOk_iff.1 hok
  have zn := (word_size hw).2
  have z0 := text_bd (n := s.Id) (by omega) (by omega)
  have z1 := text_bd (n := s.From) (by omega) (by omega)
  have z2 := text_bd (n := s.Until) (by omega) (by omega)
  have z3 := text_bd (n := s.Heir) (by omega) (by omega)
  have k0 : ∀ W, Calls Tryd.prog 60 #[.int .i64 s.Id] W fun e w' => e = .returned (.string (textOf s.Id)) ∧ Below W.heap.size W w' := fun W => num_any _ (by omega) (by omega) W
  have k1 : ∀ W, Calls Tryd.prog 60 #[.int .i64 s.From] W fun e w' => e = .returned (.string (textOf s.From)) ∧ Below W.heap.size W w' := fun W => num_any _ (by omega) (by omega) W
  have k2 : ∀ W, Calls Tryd.prog 60 #[.int .i64 s.Until] W fun e w' => e = .returned (.string (textOf s.Until)) ∧ Below W.heap.size W w' := fun W => num_any _ (by omega) (by omega) W
  have K3 := Lib.hid (show ∀ W, Calls Tryd.prog 60 #[.int .i64 s.Heir] W fun e w' => e = .returned (.string (textOf s.Heir)) ∧ Below W.heap.size W w' from fun W => num_any _ (by omega) (by omega) W)
  have T : Hid (mkBase s = textOf s.Id ++ ⟨#[32]⟩ ++ s.Name ++ ⟨#[32]⟩ ++ textOf s.From ++ ⟨#[45]⟩ ++ textOf s.Until) := Lib.hid rfl
  have TO := Lib.hid (fun h : ¬ s.Heir = 0 => (show mkText s = mkBase s ++ ⟨#[32, 62]⟩ ++ textOf s.Heir from if_neg h))
  have TP := Lib.hid (fun h : s.Heir = 0 => (show mkText s = mkBase s from if_pos h))
  have OK := Lib.hid hok
  have HS := Lib.hid (mkOk_small hok)
  generalize textOf s.Id = t0 at *
  generalize textOf s.From = t1 at *
  generalize textOf s.Until = t2 at *
  generalize textOf s.Heir = t3 at *
  generalize mkText s = tt at *
  clear hok hw a0 a1 b0 b1 c0 c1
  go_enter Tryd.func25, Tryd.ntmps25
  go_wp2_with fail
  refine (l7One_any s _ HS.out).mono ?_
  rintro e w1 ⟨rfl, hb1⟩
  have BX1 := Lib.hid ((BoxMaker.new w 37 s _ rfl).below hb1)
  have B1 := Lib.hid (Below.then' (bel_al1 _ _) hb1)
  clear hb1
  rw [OK.out]
  go_wp2
  refine wp_world (fun W => BoxMaker W w.heap.size s ∧ Below w.heap.size w W) ⟨BX1.out, B1.out⟩ ?_
  rintro W ⟨hbox, hbw⟩
  have BX := Lib.hid hbox
  obtain ⟨e0, e1, e2, e3, e4⟩ := hbox
  have BW := Lib.hid hbw
  have g0 := cell_regrown e0
  have g1 := cell_regrown e1
  have g2 := cell_regrown e2
  have g3 := cell_regrown e3
  have q0 := below_at (W := W) (fun W' _ => k0 W')
  have q1 := below_at (W := W) (fun W' _ => k1 W')
  have q2 := below_at (W := W) (fun W' _ => k2 W')
  clear e0 e1 e2 e3 e4 hbw k0 k1 k2
  refine wp_region_quiet_below (by kernel_rfl) (by kernel_rfl) ?_
  repeat (first | go_big_quiet_step (first | (with_reducible exact q0 _ _) | (with_reducible exact q1 _ _) | (with_reducible exact q2 _ _)) | quiet_step (first | (with_reducible exact q0 _ _) | (with_reducible exact q1 _ _) | (with_reducible exact q2 _ _)))
  refine wpQuiet_nil ?_
  intro W2 hw2
  have hb2 := below_of_re hw2
  have B2 := Lib.hid (Below.then' BW.out hb2)
  obtain ⟨e0, e1, e2, e3, e4⟩ := BX.out.below hb2
  clear hw2 hb2 q0 q1 q2 g0 g1 g2 g3
  rw [← T.out]
  generalize mkBase s = tb at *
  by_cases hf : s.Heir = 0
  · have E := Lib.hid (TP.out hf)
    have z : (s.Heir == 0) = true := by simp [hf]
    have z' : ¬ (0 : Int) < s.Heir := by omega
    clear hf
    go_wp2
    go_ret2
    exact ⟨ret_str_v' E.out.symm, B2.out⟩
  · have E := Lib.hid (TO.out hf)
    have z : (s.Heir == 0) = false := by simp [hf]
    have z' : (0 : Int) < s.Heir := by omega
    clear hf
    go_wp2_with fail
    refine (K3.out _).mono ?_
    rintro e w3 ⟨rfl, hb⟩
    have B3 := Lib.hid (Below.then' B2.out hb)
    clear hb
    go_wp2
    go_ret2
    exact ⟨ret_str_v' (by first | exact E.out.symm | rw [E.out, str_assoc']), B3.out⟩
theorem specMakerText_any (s : VMaker) (w : World) (hz : s.sized) :
    Calls Tryd.prog 25 #[.agg #[.int .i64 s.Id, .string s.Name, .int .i64 s.From, .int .i64 s.Until, .int .i64 s.Heir]] w (MakerText_Post s w) := by
  cases hok : s.ok with
  | true => exact Calls.mono (specMakerText_yes s w hok) (fun _ _ h => mk_text_yes hok h)
  | false =>
    refine Calls.mono ?_ (fun _ _ h => mk_text_no hok h)
    have OK := Lib.hid hok
    have HZ := Lib.hid hz
    clear hok hz
    go_enter Tryd.func25, Tryd.ntmps25
    go_wp2_with fail
    refine (l7One_any s _ (sized_smallMaker s HZ.out)).mono ?_
    rintro e w1 ⟨rfl, hb⟩
    have B1 := Lib.hid (Below.then' (bel_al1 _ _) hb)
    clear hb
    rw [OK.out]
    go_wp2
    go_ret2
    exact ⟨rfl, B1.out⟩
set_option maxHeartbeats 3200000 in
set_option maxRecDepth 100000 in
theorem implMakerText_yes (s : VMaker) (w : World) (hok : s.ok = true) (ht : TabPow w) :
    Calls Tryd.prog 24 #[.agg #[.int .i64 s.Id, .string s.Name, .int .i64 s.From, .int .i64 s.Until, .int .i64 s.Heir]] w fun e w' => e = .returned (.tuple #[.string (mkText s), .bool true]) ∧ Below w.heap.size w w' := by
  have zb := mkBase_size hok
  obtain ⟨⟨a0, a1⟩, hw, ⟨b0, b1⟩, ⟨c0, c1⟩, _, ⟨d0, d1⟩, _⟩ := mkOk_iff.1 hok
  have zn := (word_size hw).2
  have z0 := text_bd (n := s.Id) (by omega) (by omega)
  have z1 := text_bd (n := s.From) (by omega) (by omega)
  have z2 := text_bd (n := s.Until) (by omega) (by omega)
  have z3 := text_bd (n := s.Heir) (by omega) (by omega)
  have k0 : ∀ W, TabPow W → Calls Tryd.prog 58 #[.int .i64 s.Id] W fun e w' => e = .returned (.string (textOf s.Id)) ∧ Below W.heap.size W w' := fun W hT => itoa_any _ (by omega) (by omega) W hT
  have k1 : ∀ W, TabPow W → Calls Tryd.prog 58 #[.int .i64 s.From] W fun e w' => e = .returned (.string (textOf s.From)) ∧ Below W.heap.size W w' := fun W hT => itoa_any _ (by omega) (by omega) W hT
  have k2 : ∀ W, TabPow W → Calls Tryd.prog 58 #[.int .i64 s.Until] W fun e w' => e = .returned (.string (textOf s.Until)) ∧ Below W.heap.size W w' := fun W hT => itoa_any _ (by omega) (by omega) W hT
  have K3 := Lib.hid (show ∀ W, TabPow W → Calls Tryd.prog 58 #[.int .i64 s.Heir] W fun e w' => e = .returned (.string (textOf s.Heir)) ∧ Below W.heap.size W w' from fun W hT => itoa_any _ (by omega) (by omega) W hT)
  have T : Hid (mkBase s = textOf s.Id ++ ⟨#[32]⟩ ++ s.Name ++ ⟨#[32]⟩ ++ textOf s.From ++ ⟨#[45]⟩ ++ textOf s.Until) := Lib.hid rfl
  have TO := Lib.hid (fun h : ¬ s.Heir = 0 => (show mkText s = mkBase s ++ ⟨#[32, 62]⟩ ++ textOf s.Heir from if_neg h))
  have TP := Lib.hid (fun h : s.Heir = 0 => (show mkText s = mkBase s from if_pos h))
  have TT := Lib.hid ht
  have OK := Lib.hid hok
  have HS := Lib.hid (mkOk_small hok)
  generalize textOf s.Id = t0 at *
  generalize textOf s.From = t1 at *
  generalize textOf s.Until = t2 at *
  generalize textOf s.Heir = t3 at *
  generalize mkText s = tt at *
  clear hok hw a0 a1 b0 b1 c0 c1 ht
  go_enter Tryd.func24, Tryd.ntmps24
  go_wp2_with fail
  refine (isMk_any s _ HS.out).mono ?_
  rintro e w1 ⟨rfl, hb1⟩
  have BX1 := Lib.hid ((BoxMaker.new w 37 s _ rfl).below hb1)
  have B1 := Lib.hid (Below.then' (bel_al1 _ _) hb1)
  clear hb1
  rw [OK.out]
  go_wp2
  refine wp_world (fun W => BoxMaker W w.heap.size s ∧ Below w.heap.size w W) ⟨BX1.out, B1.out⟩ ?_
  rintro W ⟨hbox, hbw⟩
  have BX := Lib.hid hbox
  obtain ⟨e0, e1, e2, e3, e4⟩ := hbox
  have BW := Lib.hid hbw
  have T2 := Lib.hid (tabPow_below TT.out hbw)
  have g0 := cell_regrown e0
  have g1 := cell_regrown e1
  have g2 := cell_regrown e2
  have g3 := cell_regrown e3
  have q0 := below_at (W := W) (fun W' hb => k0 W' (tabPow_below T2.out hb))
  have q1 := below_at (W := W) (fun W' hb => k1 W' (tabPow_below T2.out hb))
  have q2 := below_at (W := W) (fun W' hb => k2 W' (tabPow_below T2.out hb))
  clear e0 e1 e2 e3 e4 hbw k0 k1 k2
  refine wp_region_quiet_below (by kernel_rfl) (by kernel_rfl) ?_
  repeat (first | go_big_quiet_step (first | (with_reducible exact q0 _ _) | (with_reducible exact q1 _ _) | (with_reducible exact q2 _ _)) | quiet_step (first | (with_reducible exact q0 _ _) | (with_reducible exact q1 _ _) | (with_reducible exact q2 _ _)))
  refine wpQuiet_nil ?_
  intro W2 hw2
  have hb2 := below_of_re hw2
  have B2 := Lib.hid (Below.then' BW.out hb2)
  have T3 := Lib.hid (tabPow_below T2.out hb2)
  obtain ⟨e0, e1, e2, e3, e4⟩ := BX.out.below hb2
  clear hw2 hb2 q0 q1 q2 g0 g1 g2 g3
  rw [← T.out]
  generalize mkBase s = tb at *
  by_cases hf : s.Heir = 0
  · have E := Lib.hid (TP.out hf)
    have z : (s.Heir == 0) = true := by simp [hf]
    have z' : ¬ (0 : Int) < s.Heir := by omega
    clear hf
    go_wp2
    go_ret2
    exact ⟨ret_str_v' E.out.symm, B2.out⟩
  · have E := Lib.hid (TO.out hf)
    have z : (s.Heir == 0) = false := by simp [hf]
    have z' : (0 : Int) < s.Heir := by omega
    clear hf
    go_wp2_with fail
    refine (K3.out _ T3.out).mono ?_
    rintro e w3 ⟨rfl, hb⟩
    have B3 := Lib.hid (Below.then' B2.out hb)
    clear hb
    go_wp2
    go_ret2
    exact ⟨ret_str_v' (by first | exact E.out.symm | rw [E.out, str_assoc']), B3.out⟩
theorem implMakerText_any (s : VMaker) (w : World) (hz : s.sized) (ht : TabPow w) :
    Calls Tryd.prog 24 #[.agg #[.int .i64 s.Id, .string s.Name, .int .i64 s.From, .int .i64 s.Until, .int .i64 s.Heir]] w (MakerText_Post s w) := by
  cases hok : s.ok with
  | true => exact Calls.mono (implMakerText_yes s w hok ht) (fun _ _ h => mk_text_yes hok h)
  | false =>
    refine Calls.mono ?_ (fun _ _ h => mk_text_no hok h)
    have OK := Lib.hid hok
    have HZ := Lib.hid hz
    clear hok hz ht
    go_enter Tryd.func24, Tryd.ntmps24
    go_wp2_with fail
    refine (isMk_any s _ (sized_smallMaker s HZ.out)).mono ?_
    rintro e w1 ⟨rfl, hb⟩
    have B1 := Lib.hid (Below.then' (bel_al1 _ _) hb)
    clear hb
    rw [OK.out]
    go_wp2
    go_ret2
    exact ⟨rfl, B1.out⟩
end Go.Proofs.YtpcibejmahhjiaaDoor
