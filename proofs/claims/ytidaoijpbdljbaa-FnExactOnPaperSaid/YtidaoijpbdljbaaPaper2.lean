/- OnPaper, in the model and in the program: the same fraction. -/
import Derived.Test.YtidaoijpbdljbaaPaper
import Derived.Test.YtidaoijpbdljbaaLow
import Derived.Test.YtidaoijpbdljbaaSheet2
namespace Go.Proofs.Ytidaoijpbdljbaa
open Go.RowKit

theorem bel_allocs {w w1 : World} (h : Below w.heap.size w w1) (o : Obj) : Below w.heap.size w (w1.alloc o) := h.alloc h.size o
def PaperNo (w : World) (e : Ending) (w' : World) : Prop := e = .returned (.tuple #[.int .i64 0, .int .i64 0, .bool false]) ∧ Below w.heap.size w w'
def PaperYes (n d : Nat) (w : World) (e : Ending) (w' : World) : Prop := e = .returned (.tuple #[.int .i64 ((n / Nat.gcd n d : Nat) : Int), .int .i64 ((d / Nat.gcd n d : Nat) : Int), .bool true]) ∧ Below w.heap.size w w'

set_option maxHeartbeats 1600000 in
theorem specOnPaper_no (s : Sh) (m : Int) (w : World) (h : (s.ok && inB m 1 1000000) = false) :
    Calls Try.prog 45 #[.agg #[.int .i64 s.id, .int .i64 s.row, .int .i64 s.col, .int .i64 s.scale, .int .i64 s.year], .int .i64 m] w (PaperNo w) := by
  have H := Lib.hid h
  clear h
  go_enter Try.func45, Try.ntmps45
  go_wp2_with fail
  refine (l2Sheet_any s _).mono ?_
  rintro e w1 ⟨rfl, hb1⟩
  have B1 := Lib.hid (Below.then' (bel_alloc1 _ _) hb1)
  clear hb1
  by_cases hk : s.ok = true
  · have hi : inB m 1 1000000 = false := by have := H.out; rw [hk] at this; simpa using this
    rw [hk]
    clear hk
    go_wp2_with (go_at_call 64; refine (l1In_any _ _ _ _).mono ?_; rintro e w' ⟨rfl, rfl⟩)
    go_ret3
    exact ⟨rfl, B1.out⟩
  · have hk' : s.ok = false := by simpa using hk
    rw [hk']
    clear hk hk'
    go_wp2
    go_ret3
    exact ⟨rfl, B1.out⟩

set_option maxHeartbeats 1600000 in
theorem specOnPaper_yes (s : Sh) (n d : Nat) (w : World) (hk : s.ok = true) (hi : inB (n : Int) 1 1000000 = true) (hd : s.scale = (d : Int)) (h0 : 0 < d) (h1 : d ≤ 500) (h2 : n ≤ 1000000) :
    Calls Try.prog 45 #[.agg #[.int .i64 s.id, .int .i64 s.row, .int .i64 s.col, .int .i64 s.scale, .int .i64 s.year], .int .i64 (n : Int)] w (PaperYes n d w) := by
  have K := Lib.hid hk
  have D := Lib.hid hd
  clear hk hd
  go_enter Try.func45, Try.ntmps45
  go_wp2_with fail
  refine (l2Sheet_any s _).mono ?_
  rintro e w1 ⟨rfl, hb1⟩
  have B1 := Lib.hid (Below.then' (bel_alloc1 _ _) hb1)
  obtain ⟨c0, c1, c2, c3, c4⟩ := (boxAt_new w 35 s _ rfl).below hb1
  rw [D.out] at c3
  clear hb1
  rw [K.out]
  go_wp2_with (first | (go_at_call 64; refine (l1In_any _ _ _ _).mono ?_; rintro e w' ⟨rfl, rfl⟩) | (go_at_call 76; refine (l2Reduce_any n d _ h0 (by omega) (by omega)).mono ?_; rintro e w2 ⟨rfl, hb2⟩))
  go_ret3
  exact ⟨rfl, Below.then' B1.out hb2⟩

set_option maxHeartbeats 1600000 in
theorem implOnPaper_no (s : Sh) (m : Int) (w : World) (h : (s.ok && inB m 1 1000000) = false) :
    Calls Try.prog 46 #[.agg #[.int .i64 s.id, .int .i64 s.row, .int .i64 s.col, .int .i64 s.scale, .int .i64 s.year], .int .i64 m] w (PaperNo w) := by
  have H := Lib.hid h
  clear h
  go_enter Try.func46, Try.ntmps46
  go_wp2_with fail
  refine (implIsSheet_any s _).mono ?_
  rintro e w1 ⟨rfl, hb1⟩
  have B1 := Lib.hid (Below.then' (bel_alloc1 _ _) hb1)
  clear hb1
  by_cases hk : s.ok = true
  · have hi : inB m 1 1000000 = false := by have := H.out; rw [hk] at this; simpa using this
    have I := Lib.hid hi
    rw [hk]
    clear hk hi
    go_wp2_with (go_at_call 66; refine (areInRange_any _ 1 1 [m] _ _ _ rfl (by omega) (lit1 _ _ _ _ (by simp))).mono ?_; rintro e w' ⟨rfl, rfl⟩; rw [show ([m].all fun z => inB z 1 1000000) = false from by simp [I.out]])
    go_ret3
    exact ⟨rfl, bel_allocs B1.out _⟩
  · have hk' : s.ok = false := by simpa using hk
    rw [hk']
    clear hk hk'
    go_wp2
    go_ret3
    exact ⟨rfl, B1.out⟩

set_option maxHeartbeats 1600000 in
theorem implOnPaper_yes (s : Sh) (n d : Nat) (w : World) (hk : s.ok = true) (hi : inB (n : Int) 1 1000000 = true) (hd : s.scale = (d : Int)) (h0 : 0 < d) (h1 : d ≤ 500) (h2 : n ≤ 1000000) :
    Calls Try.prog 46 #[.agg #[.int .i64 s.id, .int .i64 s.row, .int .i64 s.col, .int .i64 s.scale, .int .i64 s.year], .int .i64 (n : Int)] w (PaperYes n d w) := by
  have K := Lib.hid hk
  have D := Lib.hid hd
  have I := Lib.hid hi
  clear hk hd hi
  go_enter Try.func46, Try.ntmps46
  go_wp2_with fail
  refine (implIsSheet_any s _).mono ?_
  rintro e w1 ⟨rfl, hb1⟩
  have B1 := Lib.hid (Below.then' (bel_alloc1 _ _) hb1)
  obtain ⟨c0, c1, c2, c3, c4⟩ := ((boxAt_new w 35 s _ rfl).below hb1).below (bel_alloc1 _ (.cells #[.int .i64 (n : Int)] 3))
  rw [D.out] at c3
  clear hb1
  rw [K.out]
  go_wp2_with fail
  refine (areInRange_any _ 1 1 [(n : Int)] _ _ _ rfl (by omega) (lit1 _ _ _ _ (by simp))).mono ?_
  rintro e w' ⟨rfl, rfl⟩
  rw [show ([(n : Int)].all fun z => inB z 1 1000000) = true from by simp [I.out]]
  go_wp2_with fail
  refine (lowestTerms_any n d _ h0 (by omega) (by omega)).mono ?_
  rintro e w2 ⟨rfl, hb2⟩
  go_wp2
  go_ret3
  exact ⟨rfl, Below.then' (bel_allocs B1.out _) hb2⟩
end Go.Proofs.Ytidaoijpbdljbaa
