/- What FnTurns turns on, as plain mathematics. -/
import Derived.Test.YtghgipadogdfiaaPt3
namespace Go.Proofs.Ytghgipadogdfiaa
open Go.RowKit

/-- A spot that is a place. -/
def isPl (s : VSpot) : Bool := decide (s.Den = 1) && (decide (0 ≤ s.X) && (decide (s.X ≤ 99999) && (decide (0 ≤ s.Y) && decide (s.Y ≤ 99999))))
theorem isPl_iff {s : VSpot} : isPl s = true ↔ s.Den = 1 ∧ placeB s.X s.Y = true := by
  unfold isPl
  rw [place_iff]
  simp
  omega
theorem spot_is {s : VSpot} (h : s.Den = 1) : (⟨s.X, s.Y, 1⟩ : VSpot) = s := by cases s; simp at h; subst h; rfl
theorem turn_there {xs : List VGridTurn} {x y : Int} (h : TurnPlace_1 xs x y = true) (hp : isPl (TurnPlace_0 xs x y) = true) :
    TurnBack_0 xs (TurnPlace_0 xs x y).X (TurnPlace_0 xs x y).Y = ⟨x, y, 1⟩ ∧ TurnBack_1 xs (TurnPlace_0 xs x y).X (TurnPlace_0 xs x y).Y = true := by
  obtain ⟨hd, hpl⟩ := isPl_iff.1 hp
  have hc : chOk xs = true := by unfold TurnPlace_1 at h; rw [Bool.and_eq_true] at h; exact h.1
  have e1 : TurnBack_1 xs (TurnPlace_0 xs x y).X (TurnPlace_0 xs x y).Y = true := by unfold TurnBack_1; rw [hc, hpl]; rfl
  refine ⟨?_, e1⟩
  unfold TurnBack_0
  rw [if_pos e1, spot_is hd]
  unfold TurnPlace_0
  rw [if_pos h]
  exact backL_goL (chOk_iff.1 hc).1 (low_whole x y)
theorem turn_from {xs : List VGridTurn} {x y : Int} (h : TurnBack_1 xs x y = true) (hp : isPl (TurnBack_0 xs x y) = true) :
    TurnPlace_0 xs (TurnBack_0 xs x y).X (TurnBack_0 xs x y).Y = ⟨x, y, 1⟩ ∧ TurnPlace_1 xs (TurnBack_0 xs x y).X (TurnBack_0 xs x y).Y = true := by
  obtain ⟨hd, hpl⟩ := isPl_iff.1 hp
  have hc : chOk xs = true := by unfold TurnBack_1 at h; rw [Bool.and_eq_true] at h; exact h.1
  have e1 : TurnPlace_1 xs (TurnBack_0 xs x y).X (TurnBack_0 xs x y).Y = true := by unfold TurnPlace_1; rw [hc, hpl]; rfl
  refine ⟨?_, e1⟩
  unfold TurnPlace_0
  rw [if_pos e1, spot_is hd]
  unfold TurnBack_0
  rw [if_pos h]
  exact goL_backL (chOk_iff.1 hc).1 (low_whole x y)
theorem same_all {xs ys : List VGridTurn} (h : SameChains_0 xs ys = true) :
    TurnPlace_0 xs 7 11 = TurnPlace_0 ys 7 11 ∧ TurnPlace_1 xs 7 11 = true ∧ TurnPlace_1 ys 7 11 = true ∧ StretchOf_0 xs = StretchOf_0 ys ∧ StretchOf_1 xs = StretchOf_1 ys ∧ StretchOf_2 xs = StretchOf_2 ys ∧ StretchOf_3 xs = true ∧ StretchOf_3 ys = true := by
  unfold SameChains_0 SameChains_1 at h
  simp only [Bool.and_eq_true] at h
  obtain ⟨⟨hx, hy⟩, h0, h1⟩ := h
  have e0 := spotB_iff.1 h0
  have e1 := spotB_iff.1 h1
  have px : TurnPlace_1 xs 7 11 = true := by unfold TurnPlace_1; rw [hx]; decide
  have py : TurnPlace_1 ys 7 11 = true := by unfold TurnPlace_1; rw [hy]; decide
  have hs := same_chains (chOk_iff.1 hx).1 (chOk_iff.1 hy).1 e0 e1
  obtain ⟨s0, s1, s2⟩ := same_stretch hx hy e0 e1
  refine ⟨?_, px, py, s0, s1, s2, hx, hy⟩
  unfold TurnPlace_0
  rw [if_pos px, if_pos py]
  exact hs.1 7 11
end Go.Proofs.Ytghgipadogdfiaa
