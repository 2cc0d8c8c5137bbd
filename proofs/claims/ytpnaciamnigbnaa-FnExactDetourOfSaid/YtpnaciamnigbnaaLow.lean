/- The program's fractions in lowest terms, by its commonDivisor. -/
import Derived.Test.YtpnaciamnigbnaaGcd
namespace Go.Proofs.Ytpnaciamnigbnaa
open Go.RowKit

theorem gcdL_two (n d : Nat) : gcdL [(n : Int), (d : Int)] = Nat.gcd n d := by simp [gcdL, Int.gcd]
set_option maxHeartbeats 1600000 in
theorem lowestTerms_any (n d : Nat) (w : World) (hd : 0 < d) (hn : n ≤ 1000000000000000000) (hd1 : d ≤ 1000000000000000000) :
    Calls Try.prog 115 #[.int .i64 (n : Int), .int .i64 (d : Int)] w (LowPost n d w) := by
  obtain ⟨g, hg⟩ : ∃ g, Nat.gcd n d = g := ⟨_, rfl⟩
  have g0 : 0 < g := by rw [← hg]; exact Nat.gcd_pos_of_pos_right _ hd
  have q1 := wrap_div n g hn
  have q2 := wrap_div d g hd1
  have g1 : (g : Int) ≠ 0 := by omega
  have G := Lib.hid hg
  clear hg
  go_enter Try.func115, Try.ntmps115
  go_wp2_with fail
  refine (commonDivisor_any _ 2 2 [(n : Int), (d : Int)] _ rfl (by omega) (by intro z hz; simp at hz; omega) (lit2 _ _ _ _ _ (by simp))).mono ?_
  rintro e w1 ⟨rfl, hb⟩
  rw [gcdL_two, G.out]
  have B := Lib.hid (Below.then' (bel_al1 _ _) hb)
  clear hb
  go_wp2_with fail
  go_quiet (fail)
  go_wp2
  go_ret2
  exact ⟨ret_two (by rw [G.out]; omega) (by rw [G.out]; omega), Below.then' B.out (bel_drawn _ _)⟩
end Go.Proofs.Ytpnaciamnigbnaa
