/- The greatest common divisor in the program, of a list of numbers, and in the model, of two. -/
import Derived.Test.YtpnaciamnigbnaaPaper
import Derived.Test.YtpnaciamnigbnaaBox0
namespace Go.Proofs.Ytpnaciamnigbnaa
open Go.RowKit

def gcdL (zs : List Int) : Nat := zs.foldl (fun d z => Int.gcd d z) 0
theorem gcdL_snoc (zs : List Int) (k : Nat) (z : Int) (h : zs[k]? = some z) : gcdL (zs.take (k + 1)) = Int.gcd (gcdL (zs.take k)) z := by
  rw [List.take_add_one, h]; simp [gcdL]
theorem gcd_tmod (x y : Int) : Int.gcd y (x.tmod y) = Int.gcd x y := by
  have e : x.tmod y = x - y * (x.tdiv y) := by have := Int.mul_tdiv_add_tmod x y; omega
  rw [e, Int.gcd_comm x y]
  exact Int.gcd_sub_mul_left_right ..
theorem tmod_lt {x y : Int} (h : y ≠ 0) : (x.tmod y).natAbs < y.natAbs := by
  have := Int.natAbs_tmod x y
  rw [this]
  exact Nat.mod_lt _ (by omega)
theorem keep_cell {w w' : World} {b o : Nat} {v : Value} (h : w.cell? ⟨b, o, none⟩ = some v) (hb : Below w.heap.size w w') : w'.cell? ⟨b, o, none⟩ = some v := (hb.cell (p := ⟨b, o, none⟩) (block_lt_of_cell h)).trans h
theorem max_neg (x : Int) : max x (-x) = (x.natAbs : Int) := by omega
theorem ret_int' {a b : Int} (h : a = b) : Ending.returned (.int .i64 a) = .returned (.int .i64 b) := by rw [h]

set_option maxHeartbeats 1600000 in
theorem commonDivisor_any (b n c : Nat) (zs : List Int) (w : World) (hn : n = zs.length) (hm : n ≤ 1000000) (hz : ∀ z ∈ zs, z.natAbs ≤ 4000000000000000000) (hc : ∀ (j : Nat) z, zs[j]? = some z → w.cell? ⟨b, j, none⟩ = some (.int .i64 z)) :
    Calls Try.prog 150 #[.slice (some ⟨b, 0, none⟩) n c] w fun e w' => e = .returned (.int .i64 (gcdL zs)) ∧ Below w.heap.size w w' := by
  have C := Lib.hid hc
  have L := Lib.hid hn
  have Z := Lib.hid hz
  clear hc hn hz
  go_enter Try.func150, Try.ntmps150
  go_wp2
  go_loopw [3, 5, 8] (fun d _ i wr => ∃ (k : Nat) (x : Int), k ≤ n ∧ i = .int .i64 k ∧ d = .int .i64 x ∧ x.natAbs = gcdL (zs.take k) ∧ x.natAbs ≤ 4000000000000000000 ∧ Below w.heap.size w wr) (fun _ _ i _ => n - (intOf i).toNat)
  case atStart => exact ⟨0, 0, Nat.zero_le _, rfl, rfl, rfl, by omega, Below.refl _ _⟩
  case round =>
    obtain ⟨k, x, hk, rfl, rfl, hx, hxb, hb⟩ := hrel
    have X := Lib.hid hx
    have B := Lib.hid hb
    by_cases hlt : k < n
    · obtain ⟨z, hz⟩ : ∃ z, zs[k]? = some z := ⟨zs[k]'(by have := L.out; omega), List.getElem?_eq_getElem _⟩
      have hcell := keep_cell (C.out k z hz) hb
      have S := Lib.hid (gcdL_snoc zs k z hz)
      have ZB := Z.out z (List.mem_of_getElem? hz)
      clear hx hb hz
      go_wp2
      go_loopw [3, 5] (fun d m wq => ∃ x1 y1 : Int, d = .int .i64 x1 ∧ m = .int .i64 y1 ∧ Int.gcd x1 y1 = Int.gcd x z ∧ x1.natAbs ≤ 4000000000000000000 ∧ y1.natAbs ≤ 4000000000000000000 ∧ Below w.heap.size w wq) (fun _ m _ => (intOf m).natAbs)
      case atStart => exact ⟨x, z, rfl, rfl, rfl, hxb, ZB, B.out⟩
      case round =>
        obtain ⟨x1, y1, rfl, rfl, hg, hx1, hy1, hb⟩ := hrel
        have G := Lib.hid hg
        have BQ := Lib.hid hb
        clear hg hb
        by_cases h0 : y1 = 0
        · subst h0
          have E := Lib.hid (show x1.natAbs = Int.gcd x z by rw [← G.out, Int.gcd_zero_right])
          go_wp2
          go_roundw
          case rel => exact ⟨k + 1, x1, by omega, by go_num, rfl, by rw [S.out, E.out, ← X.out]; simp [Int.gcd], hx1, BQ.out⟩
          case measure => simp [intOf]; omega
        · have hlt2 := tmod_lt (x := x1) h0
          have hw : IntKind.i64.wrap (x1.tmod y1) = x1.tmod y1 := IntWalk.i64_in _ (by omega)
          go_wp2_with fail
          go_quiet (fail)
          go_wp2
          go_roundw
          case rel => exact ⟨y1, x1.tmod y1, rfl, by first | rfl | rw [hw], by rw [gcd_tmod]; exact G.out, hy1, by omega, Below.then' BQ.out (bel_drawn _ _)⟩
          case measure => first | exact hlt2 | (simp only [intOf]; omega)
    · obtain rfl : k = n := by omega
      have hw : IntKind.i64.wrap (-x) = -x := IntWalk.i64_in _ (by omega)
      have E := Lib.hid (show x.natAbs = gcdL zs by rw [X.out, List.take_of_length_le (by have := L.out; omega)])
      clear hx hb
      go_wp2
      all_goals go_ret
      all_goals exact ⟨ret_int' (by rw [← E.out]; omega), B.out⟩
end Go.Proofs.Ytpnaciamnigbnaa
