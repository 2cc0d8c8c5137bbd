/- ParseInt: the program's guess (leadingInt) and the model's reader. -/
import Derived.Test.YtidaoijpbdljbaaDoorFmt
import Derived.IntWalk
import Derived.Deep.LoopGhost
import Derived.Scope
namespace Go.Proofs.YtidaoijpbdljbaaDoor
open Go.RowKit

/-- What leadingInt computes of the bytes that are left, at place k, with n read so far and its sign. -/
def leadG : List UInt8 → Nat → Int → Int → Int
  | [], _, n, sg => sg * n
  | c :: r, k, n, sg => if (c.toNat : Int) = 45 ∧ k = 0 then leadG r (k + 1) n (-1) else if 48 ≤ (c.toNat : Int) ∧ (c.toNat : Int) ≤ 57 ∧ n ≤ 999999 then leadG r (k + 1) (10 * n + ((c.toNat : Int) - 48)) sg else sg * n
set_option maxHeartbeats 800000 in
theorem leading_any (s : ByteArray) (w : World) (hs : s.size ≤ 9223372036854775807) :
    Calls Tryd.prog 29 #[.string s] w fun e w' => e = .returned (.int .i64 (leadG s.data.toList 0 0 1)) ∧ w = w' := by
  go_enter Tryd.func29, Tryd.ntmps29
  go_wp2
  go_step3
  go_wp2
  go_step3
  go_wp2
  go_loop [3, 4, 5, 6, 9] (fun n sg _ _ i => ∃ (k : Nat) (x y : Int), k ≤ s.size ∧ i = .int .i64 k ∧ n = .int .i64 x ∧ sg = .int .i64 y ∧ 0 ≤ x ∧ x ≤ 9999999 ∧ -1 ≤ y ∧ y ≤ 1 ∧ (y = 1 ∨ y = -1) ∧ leadG (s.data.toList.drop k) k x y = leadG s.data.toList 0 0 1) (fun _ _ _ _ i => s.size - (intOf i).toNat)
  case atStart => exact ⟨0, 0, 1, Nat.zero_le _, rfl, rfl, rfl, by omega, by omega, by omega, by omega, .inl rfl, rfl⟩
  case round =>
    obtain ⟨k, x, y, hk, rfl, rfl, rfl, hx0, hx1, hy0, hy1, hy, hg⟩ := hrel
    have Y := Lib.hid hy
    have fin : leadG (s.data.toList.drop k) k x y = y * x → wrap64 (y * x) = leadG s.data.toList 0 0 1 := fun h => by
      rw [← hg, h]; rcases hy with rfl | rfl <;> simp [wrap64] <;> omega
    have F := Lib.hid fin
    have G := Lib.hid hg
    clear hg hy fin
    by_cases hlt : k < s.size
    · have hu : (s[k].toNat : Int) ≤ 255 := by have := s[k].toNat_lt; omega
      have D := Lib.hid (drop_cons s k hlt)
      by_cases hm : (s[k].toNat : Int) = 45
      · have hm' : ((s[k].toNat : Int) == 45) = true := by simpa using hm
        have M := Lib.hid hm
        clear hm
        by_cases hk0 : k = 0
        · subst hk0
          go_wp2
          go_round
          case rel => exact ⟨1, x, -1, by omega, rfl, rfl, rfl, by omega, by omega, by omega, by omega, .inr rfl, by rw [← G.out, D.out, leadG, if_pos ⟨M.out, rfl⟩]⟩
          case measure => simp [intOf]; omega
        · have hk1 : ((k : Int) == 0) = false := by simp; omega
          have K := Lib.hid hk0
          have h48 : decide (48 ≤ (s[k].toNat : Int)) = false := by simp; have := M.out; omega
          clear hk0
          go_wp2
          go_ret
          exact ⟨ret_int (F.out (by rw [D.out, leadG, if_neg (fun h => K.out h.2), if_neg (fun h => by have := M.out; omega)])), rfl⟩
      · have hm' : ((s[k].toNat : Int) == 45) = false := by simpa using hm
        have M := Lib.hid hm
        clear hm
        by_cases hd0 : 48 ≤ (s[k].toNat : Int)
        · by_cases hd1 : (s[k].toNat : Int) ≤ 57
          · by_cases hx : x ≤ 999999
            · go_wp2
              go_round
              case rel => exact ⟨k + 1, 10 * x + ((s[k].toNat : Int) - 48), y, by omega, by go_num, by go_num, rfl, by omega, by omega, hy0, hy1, Y.out, by rw [← G.out, D.out, leadG, if_neg (fun h => M.out h.1), if_pos ⟨hd0, hd1, hx⟩]⟩
              case measure => simp [intOf]; omega
            · have hx' : decide (x ≤ 999999) = false := by simpa using hx
              go_wp2
              go_ret
              exact ⟨ret_int (F.out (by rw [D.out, leadG, if_neg (fun h => M.out h.1), if_neg (fun h => by omega)])), rfl⟩
          · have hd' : decide ((s[k].toNat : Int) ≤ 57) = false := by simpa using hd1
            go_wp2
            go_ret
            exact ⟨ret_int (F.out (by rw [D.out, leadG, if_neg (fun h => M.out h.1), if_neg (fun h => by omega)])), rfl⟩
        · have hd' : decide (48 ≤ (s[k].toNat : Int)) = false := by simpa using hd0
          go_wp2
          go_ret
          exact ⟨ret_int (F.out (by rw [D.out, leadG, if_neg (fun h => M.out h.1), if_neg (fun h => by omega)])), rfl⟩
    · go_wp2
      go_ret
      exact ⟨ret_int (F.out (by rw [show k = s.size from by omega, drop_none, leadG])), rfl⟩
end Go.Proofs.YtidaoijpbdljbaaDoor
