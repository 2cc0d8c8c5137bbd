/- The small helpers of the laws that draw: rBig, rInts, rHas. -/
import Derived.Test.YtidaoijpbdljbabDoorInts
namespace Go.Proofs.YtidaoijpbdljbabDoor
open Go.RowKit

set_option maxHeartbeats 800000 in
theorem rBig_any (a : Option Addr) (len cap : Nat) (w : World) :
    Calls Tryd.prog 5 #[.slice a len cap] w fun e w' => e = .returned (.bool (decide (65536 < len))) ∧ w = w' := by
  by_cases h : 65536 < len
  · go_enter Tryd.func5, Tryd.ntmps5
    go_wp2
    go_ret
    exact ⟨ret_bool (by simp; omega), rfl⟩
  · go_enter Tryd.func5, Tryd.ntmps5
    go_wp2
    go_ret
    exact ⟨ret_bool (by simp; omega), rfl⟩
theorem bnn (q : Bool) : (q != q) = false := by cases q <;> rfl
set_option maxHeartbeats 1600000 in
set_option maxRecDepth 100000 in
theorem rInts_yes (a : Option Addr) (len cap : Nat) (a' : Option Addr) (len' cap' : Nat) (xs : List Int) (w : World) (h : IsInts w a len cap xs) (h' : IsInts w a' len' cap' xs) :
    Calls Tryd.prog 19 #[.slice a len cap, .slice a' len' cap'] w fun e w' => e = .returned (.bool true) ∧ Below w.heap.size w w' := by
  obtain rfl := h.1
  obtain rfl := h'.1
  have hm := h.2.2.1
  have hcl := h.2.1
  unfold maxLen at hm
  have S := Lib.hid h
  have S' := Lib.hid h'
  clear h h'
  go_enter Tryd.func19, Tryd.ntmps19
  go_wp2
  go_loopw [5] (fun i wr => ∃ k : Nat, k ≤ xs.length ∧ i = .int .i64 k ∧ Below w.heap.size w wr) (fun i _ => xs.length - (intOf i).toNat)
  case atStart => exact ⟨0, Nat.zero_le _, rfl, Below.refl _ _⟩
  case round =>
    obtain ⟨k, hk, rfl, hbel⟩ := hrel
    have B := Lib.hid hbel
    by_cases hlt : k < xs.length
    · obtain ⟨s, hs⟩ : ∃ s, xs[k]? = some s := ⟨xs[k]'hlt, List.getElem?_eq_getElem _⟩
      obtain ⟨b, o, rfl, hb, hat⟩ := (S.out.below hbel).at (by omega)
      obtain ⟨b', o', rfl, hb', hat'⟩ := (S'.out.below hbel).at (by omega)
      have c0 := hat k s hs
      have d0 := hat' k s hs
      have hi0 : (0 : Int) ≤ (k : Int) := by omega
      have hi1 : (k : Int) < (xs.length : Int) := by omega
      clear hbel hs hat hat'
      go_wp2
      go_quiet (fail)
      have B1 := Lib.hid (Below.then' B.out (bel_drawn wr nq))
      go_wp2
      go_roundw
      case rel => exact ⟨k + 1, by omega, by go_num, B1.out⟩
      case measure => simp [intOf]; omega
    · obtain rfl : k = xs.length := by omega
      clear hbel
      go_wp2
      go_ret
      exact ⟨rfl, B.out⟩
def hasB (x : Int) (xs : List Int) : Bool := xs.any fun y => y == x
theorem hasB_iff {x : Int} {xs : List Int} : hasB x xs = true ↔ x ∈ xs := by
  unfold hasB; rw [List.any_eq_true]
  constructor
  · rintro ⟨y, h1, h2⟩; rw [← (by simpa using h2 : y = x)]; exact h1
  · intro h; exact ⟨x, h, by simp⟩
set_option maxHeartbeats 1600000 in
set_option maxRecDepth 100000 in
theorem rHas_any (a : Option Addr) (len cap : Nat) (xs : List Int) (x : Int) (w : World) (h : IsInts w a len cap xs) :
    Calls Tryd.prog 20 #[.slice a len cap, .int .i64 x] w fun e w' => e = .returned (.bool (hasB x xs)) ∧ w = w' := by
  obtain rfl := h.1
  have hm := h.2.2.1
  have hcl := h.2.1
  unfold maxLen at hm
  have S := Lib.hid h
  clear h
  go_enter Tryd.func20, Tryd.ntmps20
  go_wp2
  go_loop [5] (fun i => ∃ k : Nat, k ≤ xs.length ∧ i = .int .i64 k ∧ ∀ j y, j < k → xs[j]? = some y → ¬ y = x) (fun i => xs.length - (intOf i).toNat)
  case atStart => exact ⟨0, Nat.zero_le _, rfl, fun _ _ h => by omega⟩
  case round =>
    obtain ⟨k, hk, rfl, hno⟩ := hrel
    have NO := Lib.hid hno
    clear hno
    by_cases hlt : k < xs.length
    · obtain ⟨s, hs⟩ : ∃ s, xs[k]? = some s := ⟨xs[k]'hlt, List.getElem?_eq_getElem _⟩
      obtain ⟨b, o, rfl, hb, hat⟩ := S.out.at (by omega)
      have c0 := hat k s hs
      have hi0 : (0 : Int) ≤ (k : Int) := by omega
      have hi1 : (k : Int) < (xs.length : Int) := by omega
      have HS := Lib.hid hs
      clear hs hat
      by_cases he : s = x
      · have Y := Lib.hid (show hasB x xs = true from hasB_iff.2 (he ▸ List.mem_of_getElem? HS.out))
        have hb1 : (s == x) = true := by simpa using he
        subst he
        go_wp2
        go_ret
        exact ⟨ret_bool Y.out.symm, rfl⟩
      · have hb1 : (s == x) = false := by simpa using he
        have HE := Lib.hid he
        clear he
        go_wp2
        go_round
        case rel => exact ⟨k + 1, by omega, by go_num, fun j y hj hy => by
          by_cases e : j = k
          · subst e; rw [HS.out] at hy; cases hy; exact HE.out
          · exact NO.out j y (by omega) hy⟩
        case measure => simp [intOf]; omega
    · obtain rfl : k = xs.length := by omega
      have Y := Lib.hid (show hasB x xs = false from by
        rw [← Bool.not_eq_true, hasB_iff]
        intro h
        obtain ⟨j, hj⟩ := List.getElem?_of_mem h
        exact NO.out j x (List.getElem?_eq_some_iff.1 hj).1 hj rfl)
      go_wp2
      go_ret
      exact ⟨ret_bool Y.out.symm, rfl⟩
end Go.Proofs.YtidaoijpbdljbabDoor
