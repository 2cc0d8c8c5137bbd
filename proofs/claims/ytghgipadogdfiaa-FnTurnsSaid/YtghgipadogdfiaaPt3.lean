/- What the functions of points tell, as plain mathematics. -/
import Derived.Test.YtghgipadogdfiaaPt2
namespace Go.Proofs.Ytghgipadogdfiaa
open Go.RowKit

def IsGridTurn_0 (t : VGridTurn) : Bool := t.ok
def TurnPlace_1 (xs : List VGridTurn) (x y : Int) : Bool := chOk xs && placeB x y
def TurnPlace_0 (xs : List VGridTurn) (x y : Int) : VSpot := if TurnPlace_1 xs x y then goL xs ⟨x, y, 1⟩ else ⟨0, 0, 0⟩
def TurnBack_1 (xs : List VGridTurn) (x y : Int) : Bool := chOk xs && placeB x y
def TurnBack_0 (xs : List VGridTurn) (x y : Int) : VSpot := if TurnBack_1 xs x y then backL xs ⟨x, y, 1⟩ else ⟨0, 0, 0⟩
def spotB (p q : VSpot) : Bool := p.X == q.X && (p.Y == q.Y && p.Den == q.Den)
theorem spotB_iff {p q : VSpot} : spotB p q = true ↔ p = q := by
  obtain ⟨a, b, c⟩ := p
  obtain ⟨d, e, f⟩ := q
  simp [spotB]
def SameChains_1 (xs ys : List VGridTurn) : Bool := chOk xs && chOk ys
def SameChains_0 (xs ys : List VGridTurn) : Bool := SameChains_1 xs ys && (spotB (goL xs ⟨0, 0, 1⟩) (goL ys ⟨0, 0, 1⟩) && spotB (goL xs ⟨1, 0, 1⟩) (goL ys ⟨1, 0, 1⟩))
end Go.Proofs.Ytghgipadogdfiaa
