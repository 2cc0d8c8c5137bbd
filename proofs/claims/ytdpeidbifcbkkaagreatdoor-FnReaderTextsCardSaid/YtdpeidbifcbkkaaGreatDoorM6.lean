/- Texts in one: Num, Fmt, Laid, Itoa, Rt, Rt2, Read, Dec. -/
import Derived.Test.YtdpeidbifcbkkaaGreatDoorM1
import Derived.WalkKit
import Derived.WalkSpells
import Derived.Deep.QuietTactic
import Derived.BigQuiet
import Derived.Lib.Hide
import Derived.Lib.ItoaNum
import Derived.Below
import Derived.IntWalk
import Derived.Test.YtdpeidbifcbkkaaGreatDoorShelf
import Derived.Lib.AppendIntMem
import Derived.Test.YtdpeidbifcbkkaaGreatDoorRows
import Derived.Lib.LaidTab
import Derived.Lib.SmallJoins
import Derived.Stop.LaidErr
import Derived.Test.YtdpeidbifcbkkaaGreatDoorM2
import Derived.Deep.LoopGhost
import Derived.Scope
import Derived.Lib.IndexBytes
namespace Go.Proofs.YtdpeidbifcbkkaaGreatDoor
open Go.RowKit

theorem l1In_yes (x a b : Int) (w : World) (h1 : a ≤ x) (h2 : x ≤ b) :
    Calls Tryz.prog 54 #[.int .i64 x, .int .i64 a, .int .i64 b] w fun e w' => e = .returned (.bool true) ∧ w = w' := by
  go_enter Tryz.func54, Tryz.ntmps54
  go_wp2
  go_ret
  exact ⟨rfl, rfl⟩
theorem l1In_low (x a b : Int) (w : World) (h1 : x < a) :
    Calls Tryz.prog 54 #[.int .i64 x, .int .i64 a, .int .i64 b] w fun e w' => e = .returned (.bool false) ∧ w = w' := by
  go_enter Tryz.func54, Tryz.ntmps54
  go_wp2
  go_ret
  exact ⟨rfl, rfl⟩
theorem l1In_high (x a b : Int) (w : World) (h1 : b < x) :
    Calls Tryz.prog 54 #[.int .i64 x, .int .i64 a, .int .i64 b] w fun e w' => e = .returned (.bool false) ∧ w = w' := by
  by_cases h : x < a
  · exact l1In_low x a b w h
  have h' : a ≤ x := by omega
  have h2 : decide (x ≤ b) = false := by simp; omega
  go_enter Tryz.func54, Tryz.ntmps54
  go_wp2
  go_ret
  exact ⟨rfl, rfl⟩

theorem l1In_out (x a b : Int) (w : World) (h : x < a ∨ b < x) :
    Calls Tryz.prog 54 #[.int .i64 x, .int .i64 a, .int .i64 b] w fun e w' => e = .returned (.bool false) ∧ w = w' := by
  rcases h with h | h
  · exact l1In_low x a b w h
  · exact l1In_high x a b w h

def digits10 : ByteArray := ⟨#[48, 49, 50, 51, 52, 53, 54, 55, 56, 57]⟩
/-- The decimal numeral of n, as the library has it. -/
def numOf (n : Nat) : ByteArray := strOf (Lib.decDigits n)
def digOf (n : Nat) : ByteArray := strOf [UInt8.ofNat (48 + n)]
theorem digit_at (n : Nat) (h : n < 10) : digits10.extract n (n + 1) = digOf n := by
  match n, h with
  | 0, _ | 1, _ | 2, _ | 3, _ | 4, _ | 5, _ | 6, _ | 7, _ | 8, _ | 9, _ => rfl
theorem decDigits_len (n : Nat) : (Lib.decDigits n).length ≤ n + 1 := by
  induction n using Nat.strongRecOn with
  | _ n ih =>
    by_cases h : n < 10
    · rw [Lib.decDigits, dif_pos h]; simp
    · rw [Lib.decDigits, dif_neg h]
      have := ih (n / 10) (by omega)
      simp; omega
theorem numOf_size (n : Nat) : (numOf n).size ≤ n + 1 := by rw [numOf, strOf_size]; exact decDigits_len n
theorem digOf_size (n : Nat) : (digOf n).size = 1 := rfl
theorem numOf_small (n : Nat) (h : n < 10) : numOf n = digOf n := by unfold numOf; rw [Lib.decDigits, dif_pos h]; rfl
theorem numOf_big (n : Nat) (h : ¬ n < 10) : numOf n = numOf (n / 10) ++ digOf (n % 10) := by
  unfold numOf digOf; rw [Lib.decDigits, dif_neg h, strOf_append]

theorem l1Num_small (n : Nat) (w : World) (h : n < 10) :
    Calls Tryz.prog 59 #[.int .i64 n] w fun e w' => e = .returned (.string (numOf n)) ∧ ∃ m, w' = w.drewN m := by
  have hd := digit_at n h
  rw [numOf_small n h]
  have H := Lib.hid hd
  clear hd
  go_enter Tryz.func59, Tryz.ntmps59
  go_wp2
  go_ret
  exact ⟨congrArg (fun s => Ending.returned (Value.string s)) H.out, 0, rfl⟩

/-- The numeral of a natural number: the world draws, and nothing else. -/
theorem l1Num_nat : ∀ (n : Nat) (w : World), n ≤ 1000000000000 →
    Calls Tryz.prog 59 #[.int .i64 n] w fun e w' => e = .returned (.string (numOf n)) ∧ ∃ m, w' = w.drewN m := by
  intro n
  induction n using Nat.strongRecOn with
  | _ n ih =>
    intro w hn
    by_cases h : n < 10
    · exact l1Num_small n w h
    rw [numOf_big n h]
    have ih1 : ∀ w, Calls Tryz.prog 59 #[.int .i64 ((n : Int) / 10)] w fun e w' => e = .returned (.string (numOf (n / 10))) ∧ ∃ m, w' = w.drewN m := fun w => by
      rw [show ((n : Int) / 10) = ((n / 10 : Nat) : Int) from by omega]
      exact ih (n / 10) (by omega) w (by omega)
    have hd := digit_at (n % 10) (by omega)
    have q : ∀ k, Calls Tryz.prog 59 #[.int .i64 ((n : Int) / 10)] (w.drewN k) fun e w'' => e = .returned (.string (numOf (n / 10))) ∧ ∃ m, w'' = w.drewN m := fun k => Calls.quiet_of (ih1 _)
    have I := Lib.hid q
    have hz : (numOf (n / 10)).size + (digOf (n % 10)).size ≤ 9223372036854775807 := by have := numOf_size (n / 10); have := digOf_size (n % 10); omega
    have e1 : IntKind.i64.wrap ((n : Int) / 10) = (n : Int) / 10 := IntWalk.i64_in _ (by omega)
    have e2 : IntKind.i64.wrap ((n : Int) % 10 + 1) = (n : Int) % 10 + 1 := IntWalk.i64_in _ (by omega)
    have e3 : ((n : Int) % 10).toNat = n % 10 := by omega
    have e4 : ((n : Int) % 10 + 1).toNat = n % 10 + 1 := by omega
    have hs : ∀ w : World, (Instr.slice 9 (.string ⟨#[48, 49, 50, 51, 52, 53, 54, 55, 56, 57]⟩) (some (.int .i64 ((n : Int) % 10))) (some (.int .i64 ((n : Int) % 10 + 1))) none).run Tryz.prog w = .ok (.string (digOf (n % 10))) w := fun w => by
      rw [run_slice_string_if _ _ _ _ _ _ _ Tryz.underlying9, if_pos ⟨by omega, by show (n : Int) % 10 + 1 ≤ 10; omega⟩, if_pos ⟨by omega, by omega⟩, e3, e4]
      exact congrArg (fun s => Result.ok (Value.string s) w) hd
    clear e3 e4 ih ih1 hd q
    go_enter Tryz.func59, Tryz.ntmps59
    go_wp2
    go_quiet ((go_at_call 59; exact I.out _))
    go_wp2
    go_ret
    exact ⟨rfl, _, rfl⟩
end Go.Proofs.YtdpeidbifcbkkaaGreatDoor
namespace Go.Proofs.YtdpeidbifcbkkaaGreatDoor
open Go.RowKit

def TabPow (w : World) : Prop := Lib.TabIs Tryz.prog w "internal/strconv.uint64pow10" .u64 Lib.pow10Tab
/-- The decimal text of a number, as strconv.Itoa has it. -/
def textOf (n : Int) : ByteArray := strOf (Lib.itoa n)
theorem textOf_nat (n : Nat) : textOf n = numOf n := by
  unfold textOf numOf Lib.itoa; rw [if_neg (by omega)]; simp
theorem textOf_pos (n : Int) (h : 0 ≤ n) : textOf n = numOf n.toNat := by
  obtain ⟨k, rfl⟩ := Int.eq_ofNat_of_zero_le h; exact textOf_nat k
def minus : ByteArray := ⟨#[45]⟩
theorem textOf_neg (n : Int) (h : n < 0) : textOf n = minus ++ numOf (-n).toNat := by
  unfold textOf numOf minus Lib.itoa; rw [if_pos h, show n.natAbs = (-n).toNat from by omega]
  exact (strOf_append [45] _).symm
theorem textOf_size (n : Int) (h1 : -1000000000000 ≤ n) (h2 : n ≤ 1000000000000) : (textOf n).size ≤ 1000000000002 := by
  by_cases h : 0 ≤ n
  · rw [textOf_pos n h]; have := numOf_size n.toNat; omega
  · rw [textOf_neg n (by omega)]; have := numOf_size (-n).toNat; have h1 : minus.size = 1 := rfl; rw [ByteArray.size_append]; omega

theorem l1Num_pos (n : Int) (w : World) (h0 : 0 ≤ n) (h1 : n ≤ 1000000000000) :
    Calls Tryz.prog 59 #[.int .i64 n] w fun e w' => e = .returned (.string (numOf n.toNat)) ∧ ∃ m, w' = w.drewN m := by
  obtain ⟨k, rfl⟩ := Int.eq_ofNat_of_zero_le h0; exact l1Num_nat k w (by omega)

/-- The numeral of any number of at most thirteen digits. -/
theorem l1Num_any (n : Int) (w : World) (h0 : -1000000000000 ≤ n) (h1 : n ≤ 1000000000000) :
    Calls Tryz.prog 59 #[.int .i64 n] w fun e w' => e = .returned (.string (textOf n)) ∧ ∃ m, w' = w.drewN m := by
  by_cases h : 0 ≤ n
  · rw [textOf_pos n h]; exact l1Num_pos n w h h1
  rw [textOf_neg n (by omega)]
  have hz : (ByteArray.mk #[45]).size + (numOf (-n).toNat).size ≤ 9223372036854775807 := by have := numOf_size (-n).toNat; have : (ByteArray.mk #[45]).size = 1 := rfl; omega
  have hlt : n < 0 := by omega
  unfold minus
  clear h
  go_enter Tryz.func59, Tryz.ntmps59
  go_wp2_with (go_at_call 59; refine (l1Num_pos _ _ (by omega) (by omega)).mono ?_; rintro e w' ⟨rfl, m, rfl⟩)
  go_ret
  exact ⟨rfl, _, rfl⟩

theorem implFormatInt_out (n : Int) (w : World) (h : n < -999999 ∨ 999999 < n) :
    Calls Tryz.prog 75 #[.int .i64 n] w fun e w' => e = .returned (.tuple #[.string ⟨#[]⟩, .bool false]) ∧ w = w' := by
  by_cases h1 : n < -999999
  · go_enter Tryz.func75, Tryz.ntmps75
    go_wp2
    go_ret2
    exact ⟨rfl, rfl⟩
  have h2 : 999999 < n := by omega
  have h3 : -999999 ≤ n := by omega
  go_enter Tryz.func75, Tryz.ntmps75
  go_wp2
  go_ret2
  exact ⟨rfl, rfl⟩
theorem implFormatInt_in (n : Int) (w : World) (h0 : -999999 ≤ n) (h1 : n ≤ 999999) (ht : TabPow w) :
    Calls Tryz.prog 75 #[.int .i64 n] w fun e w' => e = .returned (.tuple #[.string (textOf n), .bool true]) ∧ Below w.heap.size w w' := by
  have T := Lib.hid ht
  clear ht
  have h1' : decide (999999 < n) = false := by simp; omega
  go_enter Tryz.func75, Tryz.ntmps75
  go_wp2_with (go_at_call 25; refine (Tryz.strconv_Itoa _ (by omega) (by omega) _ T.out).mono ?_; rintro e w' ⟨rfl, k, os, rfl⟩)
  go_ret2
  exact ⟨rfl, Lib.below_grow _ _ (Nat.le_refl _) _ _⟩
end Go.Proofs.YtdpeidbifcbkkaaGreatDoor
namespace Go.Proofs.YtdpeidbifcbkkaaGreatDoor
open Go.RowKit
theorem gPow : Tryz.prog.globalNamed "internal/strconv.uint64pow10" = some 0 := by kernel_rfl
theorem gPowType : (Tryz.prog.globals[0]?).map (·.type) = some 117 := by kernel_rfl
theorem cellsPow : Tryz.prog.cellsOf 117 = 20 := by kernel_rfl
theorem cellsU64 : Tryz.prog.cellsOf 57 = 1 := by kernel_rfl
theorem tabPow_of {W : World} (h : laidMetH Tryz.prog [("math/bits.deBruijn32tab", Rows.laid_math_bits_deBruijn32tab), ("math/bits.deBruijn64tab", Rows.laid_math_bits_deBruijn64tab), ("internal/strconv.uint64pow10", Rows.laid_internal_strconv_uint64pow10)] W) : TabPow W :=
  Lib.tabIs_of_head (rest := []) gPow gPowType Tryz.underlying117 Tryz.underlying57 cellsU64 cellsPow (laidMet.tail (laidMet.tail h))
theorem tabPow_below {w w' : World} (h : TabPow w) (hb : Below w.heap.size w w') : TabPow w' := Go.Joins.tab_stays gPow h hb (Nat.le_refl _)
end Go.Proofs.YtdpeidbifcbkkaaGreatDoor
namespace Go.Proofs.YtdpeidbifcbkkaaGreatDoor
open Go.RowKit

theorem drawn_below {P : Program} {f : FuncId} {args : Array Value} {v : Value} {W : World} (h : Calls P f args W fun e w' => e = .returned v ∧ ∃ m, w' = W.drewN m) : Calls P f args W fun e w' => e = .returned v ∧ Below W.heap.size W w' :=
  h.mono fun _ _ ⟨he, _, hw⟩ => ⟨he, hw ▸ bel_drawn _ _⟩
theorem itoa_any (n : Int) (h0 : -999999 ≤ n) (h1 : n ≤ 999999) (w : World) (ht : TabPow w) :
    Calls Tryz.prog 25 #[.int .i64 n] w fun e w' => e = .returned (.string (textOf n)) ∧ Below w.heap.size w w' :=
  (Tryz.strconv_Itoa n (by omega) (by omega) w ht).mono fun _ _ ⟨he, _, _, hw⟩ => ⟨he, hw ▸ Lib.below_grow _ _ (Nat.le_refl _) _ _⟩
theorem num_any (n : Int) (h0 : -999999 ≤ n) (h1 : n ≤ 999999) (w : World) : Calls Tryz.prog 59 #[.int .i64 n] w fun e w' => e = .returned (.string (textOf n)) ∧ Below w.heap.size w w' := drawn_below (l1Num_any _ w (by omega) (by omega))
theorem text_bd {n : Int} (h0 : 0 ≤ n) (h1 : n ≤ 999999) : (textOf n).size ≤ 1000000000002 := textOf_size n (by omega) (by omega)
end Go.Proofs.YtdpeidbifcbkkaaGreatDoor
namespace Go.Proofs.YtdpeidbifcbkkaaGreatDoor
open Go.RowKit

/-- A reader's text but for what is owed. -/
def rdBase (s : VReader) : ByteArray := textOf s.Id ++ ⟨#[32]⟩ ++ s.Name ++ ⟨#[32, 99]⟩ ++ textOf s.Class ++ ⟨#[32, 115, 105, 110, 99, 101, 32]⟩ ++ textOf s.Joined
def rdText (s : VReader) : ByteArray := if 0 < s.Fines then rdBase s ++ ⟨#[32, 111, 119, 101, 115, 32]⟩ ++ textOf s.Fines else rdBase s
def ReaderText_0 (s : VReader) : ByteArray := if s.ok = true then rdText s else ⟨#[]⟩
def ReaderText_1 (s : VReader) : Bool := s.ok
theorem rdBase_size {s : VReader} (h : s.ok = true) : (rdBase s).size ≤ 4000000000100 := by
  obtain ⟨a, b, c, d, e⟩ := rdOk_iff.1 h
  have := (word_size b).2
  have z0 := text_bd (n := s.Id) (by omega) (by omega)
  have z1 := text_bd (n := s.Class) (by omega) (by omega)
  have z2 := text_bd (n := s.Joined) (by omega) (by omega)
  unfold rdBase
  simp only [ByteArray.size_append]
  have e1 : (⟨#[32]⟩ : ByteArray).size = 1 := rfl
  have e2 : (⟨#[32, 99]⟩ : ByteArray).size = 2 := rfl
  have e3 : (⟨#[32, 115, 105, 110, 99, 101, 32]⟩ : ByteArray).size = 7 := rfl
  omega
theorem rdText_owes (s : VReader) (h : 0 < s.Fines) : rdText s = rdBase s ++ ⟨#[32, 111, 119, 101, 115, 32]⟩ ++ textOf s.Fines := if_pos h
theorem rdText_plain (s : VReader) (h : ¬ 0 < s.Fines) : rdText s = rdBase s := if_neg h
theorem str_assoc (a b c : ByteArray) : a ++ (b ++ c) = a ++ b ++ c := (ByteArray.append_assoc ..).symm

set_option maxHeartbeats 3200000 in
set_option maxRecDepth 100000 in
theorem l3Text_any (s : VReader) (w : World) (hok : s.ok = true) :
    Calls Tryz.prog 27 #[.agg #[.int .i64 s.Id, .string s.Name, .int .i64 s.Joined, .int .i64 s.Class, .int .i64 s.Fines]] w fun e w' => e = .returned (.string (rdText s)) ∧ Below w.heap.size w w' := by
  have zb := rdBase_size hok
  obtain ⟨⟨a0, a1⟩, hw, ⟨b0, b1⟩, ⟨c0, c1⟩, ⟨d0, d1⟩⟩ := rdOk_iff.1 hok
  have zn := (word_size hw).2
  have z0 := text_bd (n := s.Id) (by omega) (by omega)
  have z1 := text_bd (n := s.Class) (by omega) (by omega)
  have z2 := text_bd (n := s.Joined) (by omega) (by omega)
  have z3 := text_bd (n := s.Fines) (by omega) (by omega)
  have k0 : ∀ W, Calls Tryz.prog 59 #[.int .i64 s.Id] W fun e w' => e = .returned (.string (textOf s.Id)) ∧ Below W.heap.size W w' := fun W => num_any _ (by omega) (by omega) W
  have k1 : ∀ W, Calls Tryz.prog 59 #[.int .i64 s.Class] W fun e w' => e = .returned (.string (textOf s.Class)) ∧ Below W.heap.size W w' := fun W => num_any _ (by omega) (by omega) W
  have k2 : ∀ W, Calls Tryz.prog 59 #[.int .i64 s.Joined] W fun e w' => e = .returned (.string (textOf s.Joined)) ∧ Below W.heap.size W w' := fun W => num_any _ (by omega) (by omega) W
  have K3 := Lib.hid (show ∀ W, Calls Tryz.prog 59 #[.int .i64 s.Fines] W fun e w' => e = .returned (.string (textOf s.Fines)) ∧ Below W.heap.size W w' from fun W => num_any _ (by omega) (by omega) W)
  have T : Hid (rdBase s = textOf s.Id ++ ⟨#[32]⟩ ++ s.Name ++ ⟨#[32, 99]⟩ ++ textOf s.Class ++ ⟨#[32, 115, 105, 110, 99, 101, 32]⟩ ++ textOf s.Joined) := Lib.hid rfl
  have TO := Lib.hid (rdText_owes s)
  have TP := Lib.hid (rdText_plain s)
  generalize textOf s.Id = t0 at *
  generalize textOf s.Class = t1 at *
  generalize textOf s.Joined = t2 at *
  generalize textOf s.Fines = t3 at *
  generalize rdText s = tt at *
  clear hok hw a0 a1 b0 b1 c0 c1
  go_enter Tryz.func27, Tryz.ntmps27
  go_wp2
  refine wp_world (fun W => BoxReader W w.heap.size s ∧ Below w.heap.size w W) ⟨BoxReader.new _ _ _ _ rfl, bel_al1 _ _⟩ ?_
  rintro W ⟨hbox, hbw⟩
  have BX := Lib.hid hbox
  obtain ⟨e0, e1, e2, e3, e4⟩ := hbox
  have BW := Lib.hid hbw
  have g0 := cell_regrown e0
  have g1 := cell_regrown e1
  have g2 := cell_regrown e2
  have g3 := cell_regrown e3
  have q0 := below_at (W := W) (fun W' _ => k0 W')
  have q1 := below_at (W := W) (fun W' _ => k1 W')
  have q2 := below_at (W := W) (fun W' _ => k2 W')
  clear e0 e1 e2 e3 e4 hbw k0 k1 k2
  refine wp_region_quiet_below (by kernel_rfl) (by kernel_rfl) ?_
  repeat (first | go_big_quiet_step (first | (with_reducible exact q0 _ _) | (with_reducible exact q1 _ _) | (with_reducible exact q2 _ _)) | quiet_step (first | (with_reducible exact q0 _ _) | (with_reducible exact q1 _ _) | (with_reducible exact q2 _ _)))
  refine wpQuiet_nil ?_
  intro W2 hw2
  have hb2 := below_of_re hw2
  have B2 := Lib.hid (Below.then' BW.out hb2)
  obtain ⟨e0, e1, e2, e3, e4⟩ := BX.out.below hb2
  clear hw2 hb2 q0 q1 q2 g0 g1 g2 g3
  rw [← T.out]
  generalize rdBase s = tb at *
  by_cases hf : 0 < s.Fines
  · have E := Lib.hid (TO.out hf)
    go_wp2_with fail
    refine (K3.out _).mono ?_
    rintro e w3 ⟨rfl, hb⟩
    have B3 := Lib.hid (Below.then' B2.out hb)
    clear hb
    go_wp2
    go_ret
    exact ⟨ret_str E.out.symm, B3.out⟩
  · have E := Lib.hid (TP.out (by omega))
    go_wp2
    go_ret
    exact ⟨ret_str E.out.symm, B2.out⟩
end Go.Proofs.YtdpeidbifcbkkaaGreatDoor
namespace Go.Proofs.YtdpeidbifcbkkaaGreatDoor
open Go.RowKit

def ReaderText_Post (z0 : VReader) (w : World) (e : Ending) (w' : World) : Prop :=
  e = .returned (.tuple #[.string (ReaderText_0 z0), .bool (ReaderText_1 z0)]) ∧ Below w.heap.size w w'
theorem rdText_yes {s : VReader} (h : s.ok = true) : ReaderText_0 s = rdText s ∧ ReaderText_1 s = true := ⟨if_pos h, h⟩
theorem rdText_no {s : VReader} (h : s.ok = false) : ReaderText_0 s = ⟨#[]⟩ ∧ ReaderText_1 s = false := ⟨if_neg (by rw [h]; decide), h⟩
theorem post_text {s : VReader} {w : World} {e : Ending} {w' : World} (h : s.ok = true) (hp : e = .returned (.tuple #[.string (rdText s), .bool true]) ∧ Below w.heap.size w w') : ReaderText_Post s w e w' := by
  obtain ⟨e1, e2⟩ := rdText_yes h
  unfold ReaderText_Post
  rw [e1, e2]; exact hp
theorem post_none {s : VReader} {w : World} {e : Ending} {w' : World} (h : s.ok = false) (hp : e = .returned (.tuple #[.string ⟨#[]⟩, .bool false]) ∧ Below w.heap.size w w') : ReaderText_Post s w e w' := by
  obtain ⟨e1, e2⟩ := rdText_no h
  unfold ReaderText_Post
  rw [e1, e2]; exact hp
set_option maxHeartbeats 3200000 in
set_option maxRecDepth 100000 in
theorem specReaderText_any (s : VReader) (w : World) (hz : s.sized) :
    Calls Tryz.prog 7 #[.agg #[.int .i64 s.Id, .string s.Name, .int .i64 s.Joined, .int .i64 s.Class, .int .i64 s.Fines]] w (ReaderText_Post s w) := by
  cases hok : s.ok with
  | true =>
    refine Calls.mono ?_ (fun _ _ h => post_text hok h)
    have OK := Lib.hid hok
    have HZ := Lib.hid hz
    clear hok hz
    go_enter Tryz.func7, Tryz.ntmps7
    go_wp2_with fail
    refine (l3One_any s _ (sized_smallReader s HZ.out)).mono ?_
    rintro e w1 ⟨rfl, hb⟩
    have B1 := Lib.hid (Below.then' (bel_al1 _ _) hb)
    obtain ⟨e0, e1, e2, e3, e4⟩ := (BoxReader.new w 25 s _ rfl).below hb
    clear hb
    rw [OK.out]
    go_wp2_with fail
    refine (l3Text_any s _ OK.out).mono ?_
    rintro e w2 ⟨rfl, hb⟩
    have B2 := Lib.hid (Below.then' B1.out hb)
    clear hb e0 e1 e2 e3 e4
    go_wp2
    go_ret2
    exact ⟨rfl, B2.out⟩
  | false =>
    refine Calls.mono ?_ (fun _ _ h => post_none hok h)
    have OK := Lib.hid hok
    have HZ := Lib.hid hz
    clear hok hz
    go_enter Tryz.func7, Tryz.ntmps7
    go_wp2_with fail
    refine (l3One_any s _ (sized_smallReader s HZ.out)).mono ?_
    rintro e w1 ⟨rfl, hb⟩
    have B1 := Lib.hid (Below.then' (bel_al1 _ _) hb)
    clear hb
    rw [OK.out]
    go_wp2
    go_ret2
    exact ⟨rfl, B1.out⟩
set_option maxHeartbeats 3200000 in
set_option maxRecDepth 100000 in
theorem implReaderText_yes (s : VReader) (w : World) (hok : s.ok = true) (ht : TabPow w) :
    Calls Tryz.prog 6 #[.agg #[.int .i64 s.Id, .string s.Name, .int .i64 s.Joined, .int .i64 s.Class, .int .i64 s.Fines]] w fun e w' => e = .returned (.tuple #[.string (rdText s), .bool true]) ∧ Below w.heap.size w w' := by
  have zb := rdBase_size hok
  obtain ⟨⟨a0, a1⟩, hw, ⟨b0, b1⟩, ⟨c0, c1⟩, ⟨d0, d1⟩⟩ := rdOk_iff.1 hok
  have zn := (word_size hw).2
  have z0 := text_bd (n := s.Id) (by omega) (by omega)
  have z1 := text_bd (n := s.Class) (by omega) (by omega)
  have z2 := text_bd (n := s.Joined) (by omega) (by omega)
  have z3 := text_bd (n := s.Fines) (by omega) (by omega)
  have k0 : ∀ W, TabPow W → Calls Tryz.prog 25 #[.int .i64 s.Id] W fun e w' => e = .returned (.string (textOf s.Id)) ∧ Below W.heap.size W w' := fun W hT => itoa_any _ (by omega) (by omega) W hT
  have k1 : ∀ W, TabPow W → Calls Tryz.prog 25 #[.int .i64 s.Class] W fun e w' => e = .returned (.string (textOf s.Class)) ∧ Below W.heap.size W w' := fun W hT => itoa_any _ (by omega) (by omega) W hT
  have k2 : ∀ W, TabPow W → Calls Tryz.prog 25 #[.int .i64 s.Joined] W fun e w' => e = .returned (.string (textOf s.Joined)) ∧ Below W.heap.size W w' := fun W hT => itoa_any _ (by omega) (by omega) W hT
  have K3 := Lib.hid (show ∀ W, TabPow W → Calls Tryz.prog 25 #[.int .i64 s.Fines] W fun e w' => e = .returned (.string (textOf s.Fines)) ∧ Below W.heap.size W w' from fun W hT => itoa_any _ (by omega) (by omega) W hT)
  have T : Hid (rdBase s = textOf s.Id ++ ⟨#[32]⟩ ++ s.Name ++ ⟨#[32, 99]⟩ ++ textOf s.Class ++ ⟨#[32, 115, 105, 110, 99, 101, 32]⟩ ++ textOf s.Joined) := Lib.hid rfl
  have TO := Lib.hid (rdText_owes s)
  have TP := Lib.hid (rdText_plain s)
  have TT := Lib.hid ht
  have OK := Lib.hid hok
  have HS := Lib.hid (rdOk_small hok)
  generalize textOf s.Id = t0 at *
  generalize textOf s.Class = t1 at *
  generalize textOf s.Joined = t2 at *
  generalize textOf s.Fines = t3 at *
  generalize rdText s = tt at *
  clear hok hw ht a0 a1 b0 b1 c0 c1
  go_enter Tryz.func6, Tryz.ntmps6
  go_wp2_with fail
  refine (isRd_any s _ HS.out).mono ?_
  rintro e w1 ⟨rfl, hb1⟩
  have BX1 := Lib.hid ((BoxReader.new w 25 s _ rfl).below hb1)
  have B1 := Lib.hid (Below.then' (bel_al1 _ _) hb1)
  clear hb1
  rw [OK.out]
  go_wp2
  refine wp_world (fun W => BoxReader W w.heap.size s ∧ Below w.heap.size w W) ⟨BX1.out, B1.out⟩ ?_
  rintro W ⟨hbox, hbw⟩
  have BX := Lib.hid hbox
  obtain ⟨e0, e1, e2, e3, e4⟩ := hbox
  have BW := Lib.hid hbw
  have T2 := Lib.hid (tabPow_below TT.out hbw)
  have g0 := cell_regrown e0
  have g1 := cell_regrown e1
  have g2 := cell_regrown e2
  have g3 := cell_regrown e3
  have q0 := below_at (W := W) (fun W' hb => k0 W' (tabPow_below T2.out hb))
  have q1 := below_at (W := W) (fun W' hb => k1 W' (tabPow_below T2.out hb))
  have q2 := below_at (W := W) (fun W' hb => k2 W' (tabPow_below T2.out hb))
  clear e0 e1 e2 e3 e4 hbw k0 k1 k2
  refine wp_region_quiet_below (by kernel_rfl) (by kernel_rfl) ?_
  repeat (first | go_big_quiet_step (first | (with_reducible exact q0 _ _) | (with_reducible exact q1 _ _) | (with_reducible exact q2 _ _)) | quiet_step (first | (with_reducible exact q0 _ _) | (with_reducible exact q1 _ _) | (with_reducible exact q2 _ _)))
  refine wpQuiet_nil ?_
  intro W2 hw2
  have hb2 := below_of_re hw2
  have B2 := Lib.hid (Below.then' BW.out hb2)
  have T3 := Lib.hid (tabPow_below T2.out hb2)
  obtain ⟨e0, e1, e2, e3, e4⟩ := BX.out.below hb2
  clear hw2 hb2 q0 q1 q2 g0 g1 g2 g3
  rw [← T.out]
  generalize rdBase s = tb at *
  by_cases hf : 0 < s.Fines
  · have E := Lib.hid (TO.out hf)
    go_wp2_with fail
    refine (K3.out _ T3.out).mono ?_
    rintro e w3 ⟨rfl, hb⟩
    have B3 := Lib.hid (Below.then' B2.out hb)
    clear hb
    go_wp2
    go_ret2
    exact ⟨ret_str_v (by rw [E.out, str_assoc]), B3.out⟩
  · have E := Lib.hid (TP.out (by omega))
    go_wp2
    go_ret2
    exact ⟨ret_str_v E.out.symm, B2.out⟩
set_option maxHeartbeats 1600000 in
theorem implReaderText_any (s : VReader) (w : World) (hz : s.sized) (ht : TabPow w) :
    Calls Tryz.prog 6 #[.agg #[.int .i64 s.Id, .string s.Name, .int .i64 s.Joined, .int .i64 s.Class, .int .i64 s.Fines]] w (ReaderText_Post s w) := by
  cases hok : s.ok with
  | true => exact Calls.mono (implReaderText_yes s w hok ht) (fun _ _ h => post_text hok h)
  | false =>
    refine Calls.mono ?_ (fun _ _ h => post_none hok h)
    have OK := Lib.hid hok
    have HZ := Lib.hid hz
    clear hok hz ht
    go_enter Tryz.func6, Tryz.ntmps6
    go_wp2_with fail
    refine (isRd_any s _ (sized_smallReader s HZ.out)).mono ?_
    rintro e w1 ⟨rfl, hb⟩
    have B1 := Lib.hid (Below.then' (bel_al1 _ _) hb)
    clear hb
    rw [OK.out]
    go_wp2
    go_ret2
    exact ⟨rfl, B1.out⟩
end Go.Proofs.YtdpeidbifcbkkaaGreatDoor
namespace Go.Proofs.YtdpeidbifcbkkaaGreatDoor
open Go.RowKit

/-- What leadingInt computes of the bytes that are left, at place k, with n read so far and its sign. -/
def leadG : List UInt8 → Nat → Int → Int → Int
  | [], _, n, sg => sg * n
  | c :: r, k, n, sg => if (c.toNat : Int) = 45 ∧ k = 0 then leadG r (k + 1) n (-1) else if 48 ≤ (c.toNat : Int) ∧ (c.toNat : Int) ≤ 57 ∧ n ≤ 999999 then leadG r (k + 1) (10 * n + ((c.toNat : Int) - 48)) sg else sg * n
set_option maxHeartbeats 800000 in
theorem leading_any (s : ByteArray) (w : World) (hs : s.size ≤ 9223372036854775807) :
    Calls Tryz.prog 74 #[.string s] w fun e w' => e = .returned (.int .i64 (leadG s.data.toList 0 0 1)) ∧ w = w' := by
  go_enter Tryz.func74, Tryz.ntmps74
  go_wp2
  go_step3
  go_wp2
  go_step3
  go_wp2
  go_loop [3, 4, 5, 6, 9] (fun n sg _ _ i => ∃ (k : Nat) (x y : Int), k ≤ s.size ∧ i = .int .i64 k ∧ n = .int .i64 x ∧ sg = .int .i64 y ∧ 0 ≤ x ∧ x ≤ 9999999 ∧ -1 ≤ y ∧ y ≤ 1 ∧ (y = 1 ∨ y = -1) ∧ leadG (s.data.toList.drop k) k x y = leadG s.data.toList 0 0 1) (fun _ _ _ _ i => s.size - (intOf i).toNat)
  case atStart => exact ⟨0, 0, 1, Nat.zero_le _, rfl, rfl, rfl, by omega, by omega, by omega, by omega, .inl rfl, rfl⟩
  case round =>
    obtain ⟨k, x, y, hk, rfl, rfl, rfl, hx0, hx1, hy0, hy1, hy, hg⟩ := hrel
    have Y := Lib.hid hy
    have fin : leadG (s.data.toList.drop k) k x y = y * x → wrap64 (y * x) = leadG s.data.toList 0 0 1 := fun h => by
      rw [← hg, h]; rcases hy with rfl | rfl <;> simp [wrap64] <;> omega
    have F := Lib.hid fin
    have G := Lib.hid hg
    clear hg hy fin
    by_cases hlt : k < s.size
    · have hu : (s[k].toNat : Int) ≤ 255 := by have := s[k].toNat_lt; omega
      have D := Lib.hid (drop_cons s k hlt)
      by_cases hm : (s[k].toNat : Int) = 45
      · have hm' : ((s[k].toNat : Int) == 45) = true := by simpa using hm
        have M := Lib.hid hm
        clear hm
        by_cases hk0 : k = 0
        · subst hk0
          go_wp2
          go_round
          case rel => exact ⟨1, x, -1, by omega, rfl, rfl, rfl, by omega, by omega, by omega, by omega, .inr rfl, by rw [← G.out, D.out, leadG, if_pos ⟨M.out, rfl⟩]⟩
          case measure => simp [intOf]; omega
        · have hk1 : ((k : Int) == 0) = false := by simp; omega
          have K := Lib.hid hk0
          have h48 : decide (48 ≤ (s[k].toNat : Int)) = false := by simp; have := M.out; omega
          clear hk0
          go_wp2
          go_ret
          exact ⟨ret_int (F.out (by rw [D.out, leadG, if_neg (fun h => K.out h.2), if_neg (fun h => by have := M.out; omega)])), rfl⟩
      · have hm' : ((s[k].toNat : Int) == 45) = false := by simpa using hm
        have M := Lib.hid hm
        clear hm
        by_cases hd0 : 48 ≤ (s[k].toNat : Int)
        · by_cases hd1 : (s[k].toNat : Int) ≤ 57
          · by_cases hx : x ≤ 999999
            · go_wp2
              go_round
              case rel => exact ⟨k + 1, 10 * x + ((s[k].toNat : Int) - 48), y, by omega, by go_num, by go_num, rfl, by omega, by omega, hy0, hy1, Y.out, by rw [← G.out, D.out, leadG, if_neg (fun h => M.out h.1), if_pos ⟨hd0, hd1, hx⟩]⟩
              case measure => simp [intOf]; omega
            · have hx' : decide (x ≤ 999999) = false := by simpa using hx
              go_wp2
              go_ret
              exact ⟨ret_int (F.out (by rw [D.out, leadG, if_neg (fun h => M.out h.1), if_neg (fun h => by omega)])), rfl⟩
          · have hd' : decide ((s[k].toNat : Int) ≤ 57) = false := by simpa using hd1
            go_wp2
            go_ret
            exact ⟨ret_int (F.out (by rw [D.out, leadG, if_neg (fun h => M.out h.1), if_neg (fun h => by omega)])), rfl⟩
        · have hd' : decide (48 ≤ (s[k].toNat : Int)) = false := by simpa using hd0
          go_wp2
          go_ret
          exact ⟨ret_int (F.out (by rw [D.out, leadG, if_neg (fun h => M.out h.1), if_neg (fun h => by omega)])), rfl⟩
    · go_wp2
      go_ret
      exact ⟨ret_int (F.out (by rw [show k = s.size from by omega, drop_none, leadG])), rfl⟩
end Go.Proofs.YtdpeidbifcbkkaaGreatDoor
namespace Go.Proofs.YtdpeidbifcbkkaaGreatDoor
open Go.RowKit

def IsDig (c : UInt8) : Prop := 48 ≤ (c.toNat : Int) ∧ (c.toNat : Int) ≤ 57
/-- The number of digits that are left, x read so far. -/
def val : Int → List UInt8 → Int
  | x, [] => x
  | x, c :: r => val (10 * x + ((c.toNat : Int) - 48)) r
theorem val_snoc (l : List UInt8) (c : UInt8) : ∀ x, val x (l ++ [c]) = 10 * val x l + ((c.toNat : Int) - 48) := by
  induction l with
  | nil => intro x; rfl
  | cons d r ih => intro x; exact ih _
theorem val_mono (l : List UInt8) : ∀ x, 0 ≤ x → (∀ c ∈ l, IsDig c) → x ≤ val x l := by
  induction l with
  | nil => intro x _ _; exact Int.le_refl _
  | cons d r ih =>
    intro x h0 h
    have hd := h d (by simp)
    have := ih (10 * x + ((d.toNat : Int) - 48)) (by have := hd.1; omega) (fun c hc => h c (by simp [hc]))
    have := hd.1
    simp only [val]; omega
theorem val_bd (l : List UInt8) : ∀ x, 0 ≤ x → (∀ c ∈ l, IsDig c) → 0 ≤ val x l ∧ val x l ≤ (x + 1) * 10 ^ l.length - 1 := by
  induction l with
  | nil => intro x h _; simp [val, h]
  | cons d r ih =>
    intro x h0 h
    have hd := h d (by simp)
    have hd1 := hd.1
    have hd2 := hd.2
    obtain ⟨a, b⟩ := ih (10 * x + ((d.toNat : Int) - 48)) (by omega) (fun c hc => h c (by simp [hc]))
    refine ⟨a, Int.le_trans b ?_⟩
    rw [List.length_cons, Int.pow_succ, show (x + 1) * (10 ^ r.length * 10) = ((x + 1) * 10) * (10 : Int) ^ r.length from by rw [Int.mul_comm ((10 : Int) ^ r.length), Int.mul_assoc]]
    have hp : (0 : Int) ≤ 10 ^ r.length := Int.pow_nonneg (by omega)
    have := Int.mul_le_mul_of_nonneg_right (show (10 * x + ((d.toNat : Int) - 48) + 1) ≤ (x + 1) * 10 by omega) hp
    omega
theorem val_six (l : List UInt8) (hl : l.length ≤ 6) (h : ∀ c ∈ l, IsDig c) : 0 ≤ val 0 l ∧ val 0 l ≤ 999999 := by
  obtain ⟨a, b⟩ := val_bd l 0 (by omega) h
  refine ⟨a, Int.le_trans b ?_⟩
  have : (10 : Int) ^ l.length ≤ 10 ^ 6 := by
    have := Nat.pow_le_pow_right (n := 10) (by omega) hl
    exact_mod_cast this
  simp at this ⊢; omega
theorem dig_ofNat (n : Nat) (h : n < 10) : (UInt8.ofNat (48 + n)).toNat = 48 + n := by
  rw [UInt8.toNat_ofNat']; omega
theorem dec_dig (n : Nat) : ∀ c ∈ Lib.decDigits n, IsDig c := by
  induction n using Nat.strongRecOn with
  | _ n ih =>
    intro c hc
    by_cases h : n < 10
    · rw [Lib.decDigits, dif_pos h] at hc
      obtain rfl := List.mem_singleton.1 hc
      unfold IsDig; rw [dig_ofNat n h]; omega
    · rw [Lib.decDigits, dif_neg h, List.mem_append] at hc
      rcases hc with hc | hc
      · exact ih (n / 10) (by omega) c hc
      · obtain rfl := List.mem_singleton.1 hc
        unfold IsDig; rw [dig_ofNat (n % 10) (by omega)]; omega
theorem dec_val (n : Nat) : val 0 (Lib.decDigits n) = n := by
  induction n using Nat.strongRecOn with
  | _ n ih =>
    by_cases h : n < 10
    · rw [Lib.decDigits, dif_pos h]; simp only [val]; rw [dig_ofNat n h]; omega
    · rw [Lib.decDigits, dif_neg h, val_snoc, ih (n / 10) (by omega), dig_ofNat (n % 10) (by omega)]; omega
theorem dec_len (k n : Nat) (h : n < 10 ^ (k + 1)) : 1 ≤ (Lib.decDigits n).length ∧ (Lib.decDigits n).length ≤ k + 1 := by
  induction k generalizing n with
  | zero => rw [Lib.decDigits, dif_pos (by simpa using h)]; simp
  | succ k ih =>
    by_cases h9 : n < 10
    · rw [Lib.decDigits, dif_pos h9]; simp
    · rw [Lib.decDigits, dif_neg h9]
      have := ih (n / 10) (by rw [Nat.pow_succ] at h; omega)
      simp; omega
theorem leadG_val (l : List UInt8) : ∀ k x sg, 0 ≤ x → (∀ c ∈ l, IsDig c) → val x l ≤ 999999 → leadG l k x sg = sg * val x l := by
  induction l with
  | nil => intro k x sg _ _ _; rfl
  | cons d r ih =>
    intro k x sg h0 h hv
    have hd := h d (by simp)
    have hm := val_mono (d :: r) x h0 h
    unfold IsDig at hd
    simp only [leadG]
    rw [if_neg (by omega), if_pos ⟨hd.1, hd.2, by omega⟩]
    exact ih _ _ _ (by omega) (fun c hc => h c (by simp [hc])) hv
theorem numOf_list (n : Nat) : (numOf n).data.toList = Lib.decDigits n := by simp [numOf, strOf]
theorem textOf_list_pos (n : Int) (h : 0 ≤ n) : (textOf n).data.toList = Lib.decDigits n.toNat := by rw [textOf_pos n h, numOf_list]
theorem textOf_list_neg (n : Int) (h : n < 0) : (textOf n).data.toList = 45 :: Lib.decDigits (-n).toNat := by
  unfold textOf Lib.itoa; rw [if_pos h, show n.natAbs = (-n).toNat from by omega]; simp [strOf]
theorem lead_text (n : Int) (h0 : -999999 ≤ n) (h1 : n ≤ 999999) : leadG (textOf n).data.toList 0 0 1 = n := by
  by_cases h : 0 ≤ n
  · rw [textOf_list_pos n h, leadG_val _ _ _ _ (by omega) (dec_dig _) (by rw [dec_val]; omega), dec_val]; omega
  · rw [textOf_list_neg n (by omega)]
    simp only [leadG]
    rw [if_pos (by simp), leadG_val _ _ _ _ (by omega) (dec_dig _) (by rw [dec_val]; omega), dec_val]; omega

/-- What ParseInt is to answer at s. -/
def IsParse (s : ByteArray) (r : Int) (b : Bool) : Prop :=
  (b = true ∧ -999999 ≤ r ∧ r ≤ 999999 ∧ s = textOf r) ∨ (b = false ∧ r = 0 ∧ ∀ n, -999999 ≤ n → n ≤ 999999 → s ≠ textOf n)
theorem IsParse.one {s : ByteArray} {r r' : Int} {b b' : Bool} (h : IsParse s r b) (h' : IsParse s r' b') : r = r' ∧ b = b' := by
  rcases h with ⟨rfl, a0, a1, rfl⟩ | ⟨rfl, rfl, a⟩ <;> rcases h' with ⟨rfl, c0, c1, e⟩ | ⟨rfl, rfl, c⟩
  · refine ⟨?_, rfl⟩
    rw [← lead_text r a0 a1, e, lead_text r' c0 c1]
  · exact absurd rfl (c r a0 a1)
  · exact absurd e (a r' c0 c1)
  · exact ⟨rfl, rfl⟩
theorem IsParse.no {s : ByteArray} (h : ∀ n, -999999 ≤ n → n ≤ 999999 → s ≠ textOf n) : IsParse s 0 false := .inr ⟨rfl, rfl, h⟩
theorem IsParse.yes {s : ByteArray} {r : Int} (h0 : -999999 ≤ r) (h1 : r ≤ 999999) (h : s = textOf r) : IsParse s r true := .inl ⟨rfl, h0, h1, h⟩

/-- A decimal text without a sign in front is a natural number's. -/
theorem body_pos {s : ByteArray} {n : Int} (hs : s.size ≤ 1 ∨ ∃ h : 0 < s.size, (s[0].toNat : Int) ≠ 45) (h0 : -999999 ≤ n) (h1 : n ≤ 999999) (e : s = textOf n) :
    1 ≤ s.size ∧ s.size ≤ 6 ∧ (∀ c ∈ s.data.toList, IsDig c) ∧ val 0 s.data.toList = n := by
  have hn : 0 ≤ n := by
    by_cases h : 0 ≤ n
    · exact h
    · exfalso
      have hl := textOf_list_neg n (by omega)
      have hd := dec_len 5 (-n).toNat (by omega)
      rw [← e] at hl
      have hz : s.size = (Lib.decDigits (-n).toNat).length + 1 := by rw [size_list, hl]; simp
      rcases hs with hs | ⟨h, hs⟩
      · omega
      · apply hs
        have : s.data.toList[0]'(by rw [hl]; simp) = 45 := by simp [hl]
        show ((s.data[0]'h).toNat : Int) = 45
        rw [← Array.getElem_toList h, this]; rfl
  have hl := textOf_list_pos n hn
  have hd := dec_len 5 n.toNat (by omega)
  rw [← e] at hl
  have hz : s.size = (Lib.decDigits n.toNat).length := by rw [size_list, hl]
  exact ⟨by omega, by omega, by rw [hl]; exact dec_dig _, by rw [hl, dec_val]; omega⟩
theorem extract_one_list (s : ByteArray) : (s.extract 1 s.size).data.toList = s.data.toList.drop 1 := by
  exact Lib.extract_to_end s 1
theorem extract_one_size (s : ByteArray) : (s.extract 1 s.size).size = s.size - 1 := by simp
/-- One with a sign in front is a negative number's. -/
theorem body_neg {s : ByteArray} {n : Int} (h : 1 < s.size) (hs : (s[0].toNat : Int) = 45) (h0 : -999999 ≤ n) (h1 : n ≤ 999999) (e : s = textOf n) :
    1 ≤ (s.extract 1 s.size).size ∧ (s.extract 1 s.size).size ≤ 6 ∧ (∀ c ∈ (s.extract 1 s.size).data.toList, IsDig c) ∧ val 0 (s.extract 1 s.size).data.toList = -n := by
  have hn : n < 0 := by
    by_cases h' : n < 0
    · exact h'
    · exfalso
      have hl := textOf_list_pos n (by omega)
      rw [← e] at hl
      have hm : s[0] ∈ s.data.toList := by show s.data[0]'(by show 0 < s.size; omega) ∈ s.data.toList; simp
      rw [hl] at hm
      have := (dec_dig _ _ hm).1
      omega
  have hl := textOf_list_neg n hn
  have hd := dec_len 5 (-n).toNat (by omega)
  rw [← e] at hl
  rw [extract_one_size, extract_one_list, hl]
  have hz : s.size = (Lib.decDigits (-n).toNat).length + 1 := by rw [size_list, hl]; simp
  refine ⟨by omega, by omega, by simpa using dec_dig _, ?_⟩
  rw [List.drop_one, List.tail_cons, dec_val]; omega
end Go.Proofs.YtdpeidbifcbkkaaGreatDoor
