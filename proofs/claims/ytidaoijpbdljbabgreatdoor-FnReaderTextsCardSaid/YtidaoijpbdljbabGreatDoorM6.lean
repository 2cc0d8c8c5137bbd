/- Texts in one: Mt, LawsR, Rl, Num, Fmt, Laid, Itoa, Rt. -/
import Derived.Test.YtidaoijpbdljbabGreatDoorRows
import Derived.Test.YtidaoijpbdljbabGreatDoorM4
import Derived.Test.YtidaoijpbdljbabGreatDoorM5
import Derived.Lib.LaidTab
import Derived.Lib.SmallJoins
import Derived.Stop.LaidErr
import Derived.Test.YtidaoijpbdljbabGreatDoorM2
import Derived.Test.YtidaoijpbdljbabGreatDoorM1
import Derived.WalkKit
import Derived.WalkSpells
import Derived.Deep.QuietTactic
import Derived.BigQuiet
import Derived.Lib.Hide
import Derived.Lib.ItoaNum
import Derived.Below
import Derived.IntWalk
import Derived.Test.YtidaoijpbdljbabGreatDoorShelf
import Derived.Lib.AppendIntMem
namespace Go.Proofs.YtidaoijpbdljbabGreatDoor
open Go.RowKit

theorem cellsIntOf : Tryz.prog.cellsOf 3 = 1 := by kernel_rfl
/-- The table of the most sheets at home lies as the program's text has it. -/
def TabHome (w : World) : Prop := Lib.TabIs Tryz.prog w "loop.example/g01060/impl.homeByClass" .i64 [2, 5, 10]
end Go.Proofs.YtidaoijpbdljbabGreatDoor
namespace Go.Proofs.YtidaoijpbdljbabGreatDoor
open Go.RowKit

set_option maxHeartbeats 800000 in
theorem rBig_any (a : Option Addr) (len cap : Nat) (w : World) :
    Calls Tryz.prog 4 #[.slice a len cap] w fun e w' => e = .returned (.bool (decide (65536 < len))) ∧ w = w' := by
  by_cases h : 65536 < len
  · go_enter Tryz.func4, Tryz.ntmps4
    go_wp2
    go_ret
    exact ⟨ret_bool (by simp; omega), rfl⟩
  · go_enter Tryz.func4, Tryz.ntmps4
    go_wp2
    go_ret
    exact ⟨ret_bool (by simp; omega), rfl⟩
theorem bnn (q : Bool) : (q != q) = false := by cases q <;> rfl
set_option maxHeartbeats 1600000 in
set_option maxRecDepth 100000 in
theorem rInts_yes (a : Option Addr) (len cap : Nat) (a' : Option Addr) (len' cap' : Nat) (xs : List Int) (w : World) (h : IsInts w a len cap xs) (h' : IsInts w a' len' cap' xs) :
    Calls Tryz.prog 20 #[.slice a len cap, .slice a' len' cap'] w fun e w' => e = .returned (.bool true) ∧ Below w.heap.size w w' := by
  obtain rfl := h.1
  obtain rfl := h'.1
  have hm := h.2.2.1
  have hcl := h.2.1
  unfold maxLen at hm
  have S := Lib.hid h
  have S' := Lib.hid h'
  clear h h'
  go_enter Tryz.func20, Tryz.ntmps20
  go_wp2
  go_loopw [5] (fun i wr => ∃ k : Nat, k ≤ xs.length ∧ i = .int .i64 k ∧ Below w.heap.size w wr) (fun i _ => xs.length - (intOf i).toNat)
  case atStart => exact ⟨0, Nat.zero_le _, rfl, Below.refl _ _⟩
  case round =>
    obtain ⟨k, hk, rfl, hbel⟩ := hrel
    have B := Lib.hid hbel
    by_cases hlt : k < xs.length
    · obtain ⟨s, hs⟩ : ∃ s, xs[k]? = some s := ⟨xs[k]'hlt, List.getElem?_eq_getElem _⟩
      obtain ⟨b, o, rfl, hb, hat⟩ := (S.out.below hbel).at (by omega)
      obtain ⟨b', o', rfl, hb', hat'⟩ := (S'.out.below hbel).at (by omega)
      have c0 := hat k s hs
      have d0 := hat' k s hs
      have hi0 : (0 : Int) ≤ (k : Int) := by omega
      have hi1 : (k : Int) < (xs.length : Int) := by omega
      clear hbel hs hat hat'
      go_wp2
      go_quiet (fail)
      have B1 := Lib.hid (Below.then' B.out (bel_drawn wr nq))
      go_wp2
      go_roundw
      case rel => exact ⟨k + 1, by omega, by go_num, B1.out⟩
      case measure => simp [intOf]; omega
    · obtain rfl : k = xs.length := by omega
      clear hbel
      go_wp2
      go_ret
      exact ⟨rfl, B.out⟩
def hasB (x : Int) (xs : List Int) : Bool := xs.any fun y => y == x
theorem hasB_iff {x : Int} {xs : List Int} : hasB x xs = true ↔ x ∈ xs := by
  unfold hasB; rw [List.any_eq_true]
  constructor
  · rintro ⟨y, h1, h2⟩; rw [← (by simpa using h2 : y = x)]; exact h1
  · intro h; exact ⟨x, h, by simp⟩
end Go.Proofs.YtidaoijpbdljbabGreatDoor
namespace Go.Proofs.YtidaoijpbdljbabGreatDoor
open Go.RowKit

theorem areRd_up {xs : List VReader} (h : areRd xs = true) : upB VReader.ok VReader.Id xs = true := by unfold areRd rdUp at h; simp only [Bool.and_eq_true] at h; exact h.1
theorem rdFind_at {xs : List VReader} {i : Nat} {s : VReader} (h : areRd xs = true) (hs : xs[i]? = some s) : rdFind xs s.Id = (i : Int) := by
  unfold rdFind
  rw [if_pos h]
  exact upB_first (areRd_up h) hs
theorem rdSel_at {xs : List VReader} {i : Nat} {s : VReader} (h : areRd xs = true) (hs : xs[i]? = some s) : rdSel xs s.Id = some (i, s) := by
  unfold rdSel
  rw [rdFind_at h hs, if_pos (by omega), Int.toNat_natCast, hs]; rfl
theorem rd_same {xs : List VReader} (h : areRd xs = true) {i j : Nat} {s t : VReader} (hs : xs[i]? = some s) (ht : xs[j]? = some t) (e : s.Id = t.Id) : i = j := by
  have h1 := rdFind_at h hs
  have h2 := rdFind_at h ht
  rw [e, h2] at h1; omega
theorem join_may {xs : List VReader} {nm : ByteArray} {d : Int} (h : JoinReader_2 xs nm d = true) : MayTake_0 (JoinReader_0 xs nm d) (JoinReader_1 xs nm d) 0 = 2 ∧ MayTake_1 (JoinReader_0 xs nm d) (JoinReader_1 xs nm d) 0 = true := by
  unfold JoinReader_2 rdJoin at h
  unfold MayTake_0 MayTake_1 JoinReader_0 JoinReader_1 rdJoin
  split at h
  · rename_i hc
    rw [if_pos hc]
    simp only [Bool.and_eq_true] at hc
    have hs := rdSel_at (i := xs.length) (s := ⟨rdLast xs, nm, d, 1, 0⟩) hc.2 (by simp)
    unfold rdMay
    simp only at hs ⊢
    rw [hs]
    exact ⟨rfl, rfl⟩
  · cases h
theorem pay_all {l : List VReader} {x c : Int} (h : PayFines_2 l x c = true) : areRd l = true ∧ (1 ≤ c ∧ c ≤ 10000) ∧ (PayFines_0 l x c).length = l.length ∧ areRd (PayFines_0 l x c) = true ∧ (0 ≤ PayFines_1 l x c ∧ PayFines_1 l x c ≤ 10000) ∧
    ∀ (i : Nat) s p, l[i]? = some s → (PayFines_0 l x c)[i]? = some p → s.Id = x → s.Fines - p.Fines + PayFines_1 l x c = c := by
  unfold PayFines_2 rdPay at h
  unfold PayFines_0 PayFines_1 rdPay
  rcases rdSel_ways l x with ⟨_, h2⟩ | ⟨i0, s0, ha, _, hs0, hi0, hid0, h2⟩
  · rw [h2] at h; cases h
  · rw [h2] at h ⊢
    simp only at h ⊢
    cases hq : centsB c with
    | false => rw [hq] at h; simp at h
    | true =>
      rw [hq] at h
      simp only [if_true] at h ⊢
      have hc := inB_iff.1 hq
      obtain ⟨_, _, _, _, f0, f1⟩ := rdOk_iff.1 (areRd_ok ha (List.mem_of_getElem? hs0))
      unfold rdWith at h ⊢
      cases hw : areRd (l.set i0 ⟨s0.Id, s0.Name, s0.Joined, s0.Class, s0.Fines - min c s0.Fines⟩) with
      | false => rw [hw] at h; simp at h
      | true =>
        simp only [if_true]
        refine ⟨ha, hc, List.length_set, hw, by omega, fun i s p hs hp hx => ?_⟩
        obtain rfl := rd_same ha hs hs0 (by rw [hx, hid0])
        have e0 : s = s0 := Option.some.inj (hs.symm.trans hs0)
        subst e0
        rw [List.getElem?_set_self (by simpa using hi0)] at hp
        cases hp
        show s.Fines - (s.Fines - min c s.Fines) + (c - min c s.Fines) = c
        omega
theorem raise_iff (m : List VReader) (y d : Int) : RaiseClass_1 m y d = (RipeReaders_1 m d && hasB y (RipeReaders_0 m d)) := by
  unfold RaiseClass_1 RipeReaders_1 RipeReaders_0 rdRaise
  cases ha : areRd m with
  | false =>
    have h2 : rdSel m y = none := by
      rcases rdSel_ways m y with ⟨_, h2⟩ | ⟨_, _, h1, _⟩
      · exact h2
      · rw [ha] at h1; cases h1
    rw [h2]; rfl
  | true =>
    cases hd : dayB d with
    | false =>
      rcases rdSel_ways m y with ⟨_, h2⟩ | ⟨i, s, _, _, _, _, _, h2⟩
      · rw [h2]; rfl
      · rw [h2]; rfl
    | true =>
      simp only [Bool.and_self, Bool.true_and, if_true]
      rcases rdSel_ways m y with ⟨h1, h2⟩ | ⟨i, s, _, h1, hs, hi, hid, h2⟩
      · rw [h2]
        simp only
        symm
        rw [← Bool.not_eq_true, hasB_iff]
        intro hm
        obtain ⟨t, ht, e⟩ := List.mem_map.1 hm
        obtain ⟨j, hj⟩ := List.getElem?_of_mem (List.mem_filter.1 ht).1
        have := rdFind_at ha hj
        rw [e, h1] at this; omega
      · rw [h2]
        simp only
        cases hr : ripeB s d with
        | false =>
          simp only [Bool.false_eq_true, if_false]
          symm
          rw [← Bool.not_eq_true, hasB_iff]
          intro hm
          obtain ⟨t, ht, e⟩ := List.mem_map.1 hm
          obtain ⟨t1, t2⟩ := List.mem_filter.1 ht
          obtain ⟨j, hj⟩ := List.getElem?_of_mem t1
          obtain rfl := rd_same ha hj hs (by rw [e, hid])
          rw [hj] at hs; cases hs
          rw [hr] at t2; cases t2
        | true =>
          simp only [if_true]
          have hcl3 : s.Class < 3 := by have h := hr; unfold ripeB at h; simp at h; exact h.1
          obtain ⟨a1, a2, a3, ⟨g0, g1⟩, a5⟩ := rdOk_iff.1 (areRd_ok ha (List.mem_of_getElem? hs))
          have OK2 : (⟨s.Id, s.Name, s.Joined, s.Class + 1, s.Fines⟩ : VReader).ok = true := rdOk_iff.2 ⟨a1, a2, a3, by show 1 ≤ s.Class + 1 ∧ s.Class + 1 ≤ 3; omega, a5⟩
          have h3 : (areRd (m.set i ⟨s.Id, s.Name, s.Joined, s.Class + 1, s.Fines⟩)) = true := by
            unfold areRd rdUp
            rw [upB_set (r := ⟨s.Id, s.Name, s.Joined, s.Class + 1, s.Fines⟩) (areRd_up ha) hs rfl, OK2, List.length_set, decide_eq_true (areRd_len ha)]; rfl
          unfold rdWith
          rw [if_pos h3]
          symm
          show hasB y _ = true
          rw [hasB_iff]
          exact List.mem_map.2 ⟨s, List.mem_filter.2 ⟨List.mem_of_getElem? hs, hr⟩, hid⟩
end Go.Proofs.YtidaoijpbdljbabGreatDoor
namespace Go.Proofs.YtidaoijpbdljbabGreatDoor
open Go.RowKit

theorem l1In_yes (x a b : Int) (w : World) (h1 : a ≤ x) (h2 : x ≤ b) :
    Calls Tryz.prog 56 #[.int .i64 x, .int .i64 a, .int .i64 b] w fun e w' => e = .returned (.bool true) ∧ w = w' := by
  go_enter Tryz.func56, Tryz.ntmps56
  go_wp2
  go_ret
  exact ⟨rfl, rfl⟩
theorem l1In_low (x a b : Int) (w : World) (h1 : x < a) :
    Calls Tryz.prog 56 #[.int .i64 x, .int .i64 a, .int .i64 b] w fun e w' => e = .returned (.bool false) ∧ w = w' := by
  go_enter Tryz.func56, Tryz.ntmps56
  go_wp2
  go_ret
  exact ⟨rfl, rfl⟩
theorem l1In_high (x a b : Int) (w : World) (h1 : b < x) :
    Calls Tryz.prog 56 #[.int .i64 x, .int .i64 a, .int .i64 b] w fun e w' => e = .returned (.bool false) ∧ w = w' := by
  by_cases h : x < a
  · exact l1In_low x a b w h
  have h' : a ≤ x := by omega
  have h2 : decide (x ≤ b) = false := by simp; omega
  go_enter Tryz.func56, Tryz.ntmps56
  go_wp2
  go_ret
  exact ⟨rfl, rfl⟩

theorem l1In_out (x a b : Int) (w : World) (h : x < a ∨ b < x) :
    Calls Tryz.prog 56 #[.int .i64 x, .int .i64 a, .int .i64 b] w fun e w' => e = .returned (.bool false) ∧ w = w' := by
  rcases h with h | h
  · exact l1In_low x a b w h
  · exact l1In_high x a b w h

def digits10 : ByteArray := ⟨#[48, 49, 50, 51, 52, 53, 54, 55, 56, 57]⟩
/-- The decimal numeral of n, as the library has it. -/
def numOf (n : Nat) : ByteArray := strOf (Lib.decDigits n)
def digOf (n : Nat) : ByteArray := strOf [UInt8.ofNat (48 + n)]
theorem digit_at (n : Nat) (h : n < 10) : digits10.extract n (n + 1) = digOf n := by
  match n, h with
  | 0, _ | 1, _ | 2, _ | 3, _ | 4, _ | 5, _ | 6, _ | 7, _ | 8, _ | 9, _ => rfl
theorem decDigits_len (n : Nat) : (Lib.decDigits n).length ≤ n + 1 := by
  induction n using Nat.strongRecOn with
  | _ n ih =>
    by_cases h : n < 10
    · rw [Lib.decDigits, dif_pos h]; simp
    · rw [Lib.decDigits, dif_neg h]
      have := ih (n / 10) (by omega)
      simp; omega
theorem numOf_size (n : Nat) : (numOf n).size ≤ n + 1 := by rw [numOf, strOf_size]; exact decDigits_len n
theorem digOf_size (n : Nat) : (digOf n).size = 1 := rfl
theorem numOf_small (n : Nat) (h : n < 10) : numOf n = digOf n := by unfold numOf; rw [Lib.decDigits, dif_pos h]; rfl
theorem numOf_big (n : Nat) (h : ¬ n < 10) : numOf n = numOf (n / 10) ++ digOf (n % 10) := by
  unfold numOf digOf; rw [Lib.decDigits, dif_neg h, strOf_append]

theorem l1Num_small (n : Nat) (w : World) (h : n < 10) :
    Calls Tryz.prog 61 #[.int .i64 n] w fun e w' => e = .returned (.string (numOf n)) ∧ ∃ m, w' = w.drewN m := by
  have hd := digit_at n h
  rw [numOf_small n h]
  have H := Lib.hid hd
  clear hd
  go_enter Tryz.func61, Tryz.ntmps61
  go_wp2
  go_ret
  exact ⟨congrArg (fun s => Ending.returned (Value.string s)) H.out, 0, rfl⟩

/-- The numeral of a natural number: the world draws, and nothing else. -/
theorem l1Num_nat : ∀ (n : Nat) (w : World), n ≤ 1000000000000 →
    Calls Tryz.prog 61 #[.int .i64 n] w fun e w' => e = .returned (.string (numOf n)) ∧ ∃ m, w' = w.drewN m := by
  intro n
  induction n using Nat.strongRecOn with
  | _ n ih =>
    intro w hn
    by_cases h : n < 10
    · exact l1Num_small n w h
    rw [numOf_big n h]
    have ih1 : ∀ w, Calls Tryz.prog 61 #[.int .i64 ((n : Int) / 10)] w fun e w' => e = .returned (.string (numOf (n / 10))) ∧ ∃ m, w' = w.drewN m := fun w => by
      rw [show ((n : Int) / 10) = ((n / 10 : Nat) : Int) from by omega]
      exact ih (n / 10) (by omega) w (by omega)
    have hd := digit_at (n % 10) (by omega)
    have q : ∀ k, Calls Tryz.prog 61 #[.int .i64 ((n : Int) / 10)] (w.drewN k) fun e w'' => e = .returned (.string (numOf (n / 10))) ∧ ∃ m, w'' = w.drewN m := fun k => Calls.quiet_of (ih1 _)
    have I := Lib.hid q
    have hz : (numOf (n / 10)).size + (digOf (n % 10)).size ≤ 9223372036854775807 := by have := numOf_size (n / 10); have := digOf_size (n % 10); omega
    have e1 : IntKind.i64.wrap ((n : Int) / 10) = (n : Int) / 10 := IntWalk.i64_in _ (by omega)
    have e2 : IntKind.i64.wrap ((n : Int) % 10 + 1) = (n : Int) % 10 + 1 := IntWalk.i64_in _ (by omega)
    have e3 : ((n : Int) % 10).toNat = n % 10 := by omega
    have e4 : ((n : Int) % 10 + 1).toNat = n % 10 + 1 := by omega
    have hs : ∀ w : World, (Instr.slice 9 (.string ⟨#[48, 49, 50, 51, 52, 53, 54, 55, 56, 57]⟩) (some (.int .i64 ((n : Int) % 10))) (some (.int .i64 ((n : Int) % 10 + 1))) none).run Tryz.prog w = .ok (.string (digOf (n % 10))) w := fun w => by
      rw [run_slice_string_if _ _ _ _ _ _ _ Tryz.underlying9, if_pos ⟨by omega, by show (n : Int) % 10 + 1 ≤ 10; omega⟩, if_pos ⟨by omega, by omega⟩, e3, e4]
      exact congrArg (fun s => Result.ok (Value.string s) w) hd
    clear e3 e4 ih ih1 hd q
    go_enter Tryz.func61, Tryz.ntmps61
    go_wp2
    go_quiet ((go_at_call 61; exact I.out _))
    go_wp2
    go_ret
    exact ⟨rfl, _, rfl⟩
end Go.Proofs.YtidaoijpbdljbabGreatDoor
namespace Go.Proofs.YtidaoijpbdljbabGreatDoor
open Go.RowKit

def TabPow (w : World) : Prop := Lib.TabIs Tryz.prog w "internal/strconv.uint64pow10" .u64 Lib.pow10Tab
/-- The decimal text of a number, as strconv.Itoa has it. -/
def textOf (n : Int) : ByteArray := strOf (Lib.itoa n)
theorem textOf_nat (n : Nat) : textOf n = numOf n := by
  unfold textOf numOf Lib.itoa; rw [if_neg (by omega)]; simp
theorem textOf_pos (n : Int) (h : 0 ≤ n) : textOf n = numOf n.toNat := by
  obtain ⟨k, rfl⟩ := Int.eq_ofNat_of_zero_le h; exact textOf_nat k
def minus : ByteArray := ⟨#[45]⟩
theorem textOf_neg (n : Int) (h : n < 0) : textOf n = minus ++ numOf (-n).toNat := by
  unfold textOf numOf minus Lib.itoa; rw [if_pos h, show n.natAbs = (-n).toNat from by omega]
  exact (strOf_append [45] _).symm
theorem textOf_size (n : Int) (h1 : -1000000000000 ≤ n) (h2 : n ≤ 1000000000000) : (textOf n).size ≤ 1000000000002 := by
  by_cases h : 0 ≤ n
  · rw [textOf_pos n h]; have := numOf_size n.toNat; omega
  · rw [textOf_neg n (by omega)]; have := numOf_size (-n).toNat; have h1 : minus.size = 1 := rfl; rw [ByteArray.size_append]; omega

theorem l1Num_pos (n : Int) (w : World) (h0 : 0 ≤ n) (h1 : n ≤ 1000000000000) :
    Calls Tryz.prog 61 #[.int .i64 n] w fun e w' => e = .returned (.string (numOf n.toNat)) ∧ ∃ m, w' = w.drewN m := by
  obtain ⟨k, rfl⟩ := Int.eq_ofNat_of_zero_le h0; exact l1Num_nat k w (by omega)

/-- The numeral of any number of at most thirteen digits. -/
theorem l1Num_any (n : Int) (w : World) (h0 : -1000000000000 ≤ n) (h1 : n ≤ 1000000000000) :
    Calls Tryz.prog 61 #[.int .i64 n] w fun e w' => e = .returned (.string (textOf n)) ∧ ∃ m, w' = w.drewN m := by
  by_cases h : 0 ≤ n
  · rw [textOf_pos n h]; exact l1Num_pos n w h h1
  rw [textOf_neg n (by omega)]
  have hz : (ByteArray.mk #[45]).size + (numOf (-n).toNat).size ≤ 9223372036854775807 := by have := numOf_size (-n).toNat; have : (ByteArray.mk #[45]).size = 1 := rfl; omega
  have hlt : n < 0 := by omega
  unfold minus
  clear h
  go_enter Tryz.func61, Tryz.ntmps61
  go_wp2_with (go_at_call 61; refine (l1Num_pos _ _ (by omega) (by omega)).mono ?_; rintro e w' ⟨rfl, m, rfl⟩)
  go_ret
  exact ⟨rfl, _, rfl⟩

theorem implFormatInt_out (n : Int) (w : World) (h : n < -999999 ∨ 999999 < n) :
    Calls Tryz.prog 78 #[.int .i64 n] w fun e w' => e = .returned (.tuple #[.string ⟨#[]⟩, .bool false]) ∧ w = w' := by
  by_cases h1 : n < -999999
  · go_enter Tryz.func78, Tryz.ntmps78
    go_wp2
    go_ret2
    exact ⟨rfl, rfl⟩
  have h2 : 999999 < n := by omega
  have h3 : -999999 ≤ n := by omega
  go_enter Tryz.func78, Tryz.ntmps78
  go_wp2
  go_ret2
  exact ⟨rfl, rfl⟩
theorem implFormatInt_in (n : Int) (w : World) (h0 : -999999 ≤ n) (h1 : n ≤ 999999) (ht : TabPow w) :
    Calls Tryz.prog 78 #[.int .i64 n] w fun e w' => e = .returned (.tuple #[.string (textOf n), .bool true]) ∧ Below w.heap.size w w' := by
  have T := Lib.hid ht
  clear ht
  have h1' : decide (999999 < n) = false := by simp; omega
  go_enter Tryz.func78, Tryz.ntmps78
  go_wp2_with (go_at_call 25; refine (Tryz.strconv_Itoa _ (by omega) (by omega) _ T.out).mono ?_; rintro e w' ⟨rfl, k, os, rfl⟩)
  go_ret2
  exact ⟨rfl, Lib.below_grow _ _ (Nat.le_refl _) _ _⟩
end Go.Proofs.YtidaoijpbdljbabGreatDoor
namespace Go.Proofs.YtidaoijpbdljbabGreatDoor
open Go.RowKit
theorem gPow : Tryz.prog.globalNamed "internal/strconv.uint64pow10" = some 0 := by kernel_rfl
theorem gPowType : (Tryz.prog.globals[0]?).map (·.type) = some 120 := by kernel_rfl
theorem cellsPow : Tryz.prog.cellsOf 120 = 20 := by kernel_rfl
theorem cellsU64 : Tryz.prog.cellsOf 57 = 1 := by kernel_rfl
theorem tabPow_of {W : World} (h : laidMetH Tryz.prog [("math/bits.deBruijn32tab", Rows.laid_math_bits_deBruijn32tab), ("math/bits.deBruijn64tab", Rows.laid_math_bits_deBruijn64tab), ("internal/strconv.uint64pow10", Rows.laid_internal_strconv_uint64pow10)] W) : TabPow W :=
  Lib.tabIs_of_head (rest := []) gPow gPowType Tryz.underlying120 Tryz.underlying57 cellsU64 cellsPow (laidMet.tail (laidMet.tail h))
theorem tabPow_below {w w' : World} (h : TabPow w) (hb : Below w.heap.size w w') : TabPow w' := Go.Joins.tab_stays gPow h hb (Nat.le_refl _)
end Go.Proofs.YtidaoijpbdljbabGreatDoor
namespace Go.Proofs.YtidaoijpbdljbabGreatDoor
open Go.RowKit

theorem drawn_below {P : Program} {f : FuncId} {args : Array Value} {v : Value} {W : World} (h : Calls P f args W fun e w' => e = .returned v ∧ ∃ m, w' = W.drewN m) : Calls P f args W fun e w' => e = .returned v ∧ Below W.heap.size W w' :=
  h.mono fun _ _ ⟨he, _, hw⟩ => ⟨he, hw ▸ bel_drawn _ _⟩
theorem itoa_any (n : Int) (h0 : -999999 ≤ n) (h1 : n ≤ 999999) (w : World) (ht : TabPow w) :
    Calls Tryz.prog 25 #[.int .i64 n] w fun e w' => e = .returned (.string (textOf n)) ∧ Below w.heap.size w w' :=
  (Tryz.strconv_Itoa n (by omega) (by omega) w ht).mono fun _ _ ⟨he, _, _, hw⟩ => ⟨he, hw ▸ Lib.below_grow _ _ (Nat.le_refl _) _ _⟩
theorem num_any (n : Int) (h0 : -999999 ≤ n) (h1 : n ≤ 999999) (w : World) : Calls Tryz.prog 61 #[.int .i64 n] w fun e w' => e = .returned (.string (textOf n)) ∧ Below w.heap.size w w' := drawn_below (l1Num_any _ w (by omega) (by omega))
theorem text_bd {n : Int} (h0 : 0 ≤ n) (h1 : n ≤ 999999) : (textOf n).size ≤ 1000000000002 := textOf_size n (by omega) (by omega)
end Go.Proofs.YtidaoijpbdljbabGreatDoor
namespace Go.Proofs.YtidaoijpbdljbabGreatDoor
open Go.RowKit

/-- A reader's text but for what is owed. -/
def rdBase (s : VReader) : ByteArray := textOf s.Id ++ ⟨#[32]⟩ ++ s.Name ++ ⟨#[32, 99]⟩ ++ textOf s.Class ++ ⟨#[32, 115, 105, 110, 99, 101, 32]⟩ ++ textOf s.Joined
def rdText (s : VReader) : ByteArray := if 0 < s.Fines then rdBase s ++ ⟨#[32, 111, 119, 101, 115, 32]⟩ ++ textOf s.Fines else rdBase s
def ReaderText_0 (s : VReader) : ByteArray := if s.ok = true then rdText s else ⟨#[]⟩
def ReaderText_1 (s : VReader) : Bool := s.ok
theorem rdBase_size {s : VReader} (h : s.ok = true) : (rdBase s).size ≤ 4000000000100 := by
  obtain ⟨a, b, c, d, e⟩ := rdOk_iff.1 h
  have := (word_size b).2
  have z0 := text_bd (n := s.Id) (by omega) (by omega)
  have z1 := text_bd (n := s.Class) (by omega) (by omega)
  have z2 := text_bd (n := s.Joined) (by omega) (by omega)
  unfold rdBase
  simp only [ByteArray.size_append]
  have e1 : (⟨#[32]⟩ : ByteArray).size = 1 := rfl
  have e2 : (⟨#[32, 99]⟩ : ByteArray).size = 2 := rfl
  have e3 : (⟨#[32, 115, 105, 110, 99, 101, 32]⟩ : ByteArray).size = 7 := rfl
  omega
theorem rdText_owes (s : VReader) (h : 0 < s.Fines) : rdText s = rdBase s ++ ⟨#[32, 111, 119, 101, 115, 32]⟩ ++ textOf s.Fines := if_pos h
theorem rdText_plain (s : VReader) (h : ¬ 0 < s.Fines) : rdText s = rdBase s := if_neg h
theorem str_assoc (a b c : ByteArray) : a ++ (b ++ c) = a ++ b ++ c := (ByteArray.append_assoc ..).symm

set_option maxHeartbeats 3200000 in
set_option maxRecDepth 100000 in
theorem l3Text_any (s : VReader) (w : World) (hok : s.ok = true) :
    Calls Tryz.prog 27 #[.agg #[.int .i64 s.Id, .string s.Name, .int .i64 s.Joined, .int .i64 s.Class, .int .i64 s.Fines]] w fun e w' => e = .returned (.string (rdText s)) ∧ Below w.heap.size w w' := by
  have zb := rdBase_size hok
  obtain ⟨⟨a0, a1⟩, hw, ⟨b0, b1⟩, ⟨c0, c1⟩, ⟨d0, d1⟩⟩ := rdOk_iff.1 hok
  have zn := (word_size hw).2
  have z0 := text_bd (n := s.Id) (by omega) (by omega)
  have z1 := text_bd (n := s.Class) (by omega) (by omega)
  have z2 := text_bd (n := s.Joined) (by omega) (by omega)
  have z3 := text_bd (n := s.Fines) (by omega) (by omega)
  have k0 : ∀ W, Calls Tryz.prog 61 #[.int .i64 s.Id] W fun e w' => e = .returned (.string (textOf s.Id)) ∧ Below W.heap.size W w' := fun W => num_any _ (by omega) (by omega) W
  have k1 : ∀ W, Calls Tryz.prog 61 #[.int .i64 s.Class] W fun e w' => e = .returned (.string (textOf s.Class)) ∧ Below W.heap.size W w' := fun W => num_any _ (by omega) (by omega) W
  have k2 : ∀ W, Calls Tryz.prog 61 #[.int .i64 s.Joined] W fun e w' => e = .returned (.string (textOf s.Joined)) ∧ Below W.heap.size W w' := fun W => num_any _ (by omega) (by omega) W
  have K3 := Lib.hid (show ∀ W, Calls Tryz.prog 61 #[.int .i64 s.Fines] W fun e w' => e = .returned (.string (textOf s.Fines)) ∧ Below W.heap.size W w' from fun W => num_any _ (by omega) (by omega) W)
  have T : Hid (rdBase s = textOf s.Id ++ ⟨#[32]⟩ ++ s.Name ++ ⟨#[32, 99]⟩ ++ textOf s.Class ++ ⟨#[32, 115, 105, 110, 99, 101, 32]⟩ ++ textOf s.Joined) := Lib.hid rfl
  have TO := Lib.hid (rdText_owes s)
  have TP := Lib.hid (rdText_plain s)
  generalize textOf s.Id = t0 at *
  generalize textOf s.Class = t1 at *
  generalize textOf s.Joined = t2 at *
  generalize textOf s.Fines = t3 at *
  generalize rdText s = tt at *
  clear hok hw a0 a1 b0 b1 c0 c1
  go_enter Tryz.func27, Tryz.ntmps27
  go_wp2
  refine wp_world (fun W => BoxReader W w.heap.size s ∧ Below w.heap.size w W) ⟨BoxReader.new _ _ _ _ rfl, bel_al1 _ _⟩ ?_
  rintro W ⟨hbox, hbw⟩
  have BX := Lib.hid hbox
  obtain ⟨e0, e1, e2, e3, e4⟩ := hbox
  have BW := Lib.hid hbw
  have g0 := cell_regrown e0
  have g1 := cell_regrown e1
  have g2 := cell_regrown e2
  have g3 := cell_regrown e3
  have q0 := below_at (W := W) (fun W' _ => k0 W')
  have q1 := below_at (W := W) (fun W' _ => k1 W')
  have q2 := below_at (W := W) (fun W' _ => k2 W')
  clear e0 e1 e2 e3 e4 hbw k0 k1 k2
  refine wp_region_quiet_below (by kernel_rfl) (by kernel_rfl) ?_
  repeat (first | go_big_quiet_step (first | (with_reducible exact q0 _ _) | (with_reducible exact q1 _ _) | (with_reducible exact q2 _ _)) | quiet_step (first | (with_reducible exact q0 _ _) | (with_reducible exact q1 _ _) | (with_reducible exact q2 _ _)))
  refine wpQuiet_nil ?_
  intro W2 hw2
  have hb2 := below_of_re hw2
  have B2 := Lib.hid (Below.then' BW.out hb2)
  obtain ⟨e0, e1, e2, e3, e4⟩ := BX.out.below hb2
  clear hw2 hb2 q0 q1 q2 g0 g1 g2 g3
  rw [← T.out]
  generalize rdBase s = tb at *
  by_cases hf : 0 < s.Fines
  · have E := Lib.hid (TO.out hf)
    go_wp2_with fail
    refine (K3.out _).mono ?_
    rintro e w3 ⟨rfl, hb⟩
    have B3 := Lib.hid (Below.then' B2.out hb)
    clear hb
    go_wp2
    go_ret
    exact ⟨ret_str E.out.symm, B3.out⟩
  · have E := Lib.hid (TP.out (by omega))
    go_wp2
    go_ret
    exact ⟨ret_str E.out.symm, B2.out⟩
end Go.Proofs.YtidaoijpbdljbabGreatDoor
