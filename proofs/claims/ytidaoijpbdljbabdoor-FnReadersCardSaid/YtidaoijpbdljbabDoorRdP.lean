/- What the functions on readers leave, by their results. -/
import Derived.Test.YtidaoijpbdljbabDoorRdD
import Derived.Test.YtidaoijpbdljbabDoorInts
namespace Go.Proofs.YtidaoijpbdljbabDoor
open Go.RowKit
def IsReader_Post (z0 : VReader) (w : World) (e : Ending) (w' : World) : Prop :=
  e = .returned (.bool (IsReader_0 z0)) ∧ Below w.heap.size w w'
def AreReaders_Post (z0 : List VReader) (w : World) (e : Ending) (w' : World) : Prop :=
  e = .returned (.bool (AreReaders_0 z0)) ∧ Below w.heap.size w w'
def JoinReader_Post (z0 : List VReader) (z1 : ByteArray) (z2 : Int) (w : World) (e : Ending) (w' : World) : Prop :=
  ∃ v0 : Value, e = .returned (.tuple #[v0, .int .i64 (JoinReader_1 z0 z1 z2), .bool (JoinReader_2 z0 z1 z2)]) ∧ w'.ownsRow w.heap.size 36 5 v0 (JoinReader_0 z0 z1 z2).length (cellsReader (JoinReader_0 z0 z1 z2)) ∧ Below w.heap.size w w'
def MayTake_Post (z0 : List VReader) (z1 : Int) (z2 : Int) (w : World) (e : Ending) (w' : World) : Prop :=
  e = .returned (.tuple #[.int .i64 (MayTake_0 z0 z1 z2), .bool (MayTake_1 z0 z1 z2)]) ∧ Below w.heap.size w w'
def FineReader_Post (z0 : List VReader) (z1 : Int) (z2 : Int) (w : World) (e : Ending) (w' : World) : Prop :=
  ∃ v0 : Value, e = .returned (.tuple #[v0, .bool (FineReader_1 z0 z1 z2)]) ∧ w'.ownsRow w.heap.size 36 5 v0 (FineReader_0 z0 z1 z2).length (cellsReader (FineReader_0 z0 z1 z2)) ∧ Below w.heap.size w w'
def PayFines_Post (z0 : List VReader) (z1 : Int) (z2 : Int) (w : World) (e : Ending) (w' : World) : Prop :=
  ∃ v0 : Value, e = .returned (.tuple #[v0, .int .i64 (PayFines_1 z0 z1 z2), .bool (PayFines_2 z0 z1 z2)]) ∧ w'.ownsRow w.heap.size 36 5 v0 (PayFines_0 z0 z1 z2).length (cellsReader (PayFines_0 z0 z1 z2)) ∧ Below w.heap.size w w'
def RaiseClass_Post (z0 : List VReader) (z1 : Int) (z2 : Int) (w : World) (e : Ending) (w' : World) : Prop :=
  ∃ v0 : Value, e = .returned (.tuple #[v0, .bool (RaiseClass_1 z0 z1 z2)]) ∧ w'.ownsRow w.heap.size 36 5 v0 (RaiseClass_0 z0 z1 z2).length (cellsReader (RaiseClass_0 z0 z1 z2)) ∧ Below w.heap.size w w'
def RipeReaders_Post (z0 : List VReader) (z1 : Int) (w : World) (e : Ending) (w' : World) : Prop :=
  ∃ v0 : Value, e = .returned (.tuple #[v0, .bool (RipeReaders_1 z0 z1)]) ∧ w'.ownsRow w.heap.size 3 1 v0 (RipeReaders_0 z0 z1).length (intCells (RipeReaders_0 z0 z1)) ∧ Below w.heap.size w w'
end Go.Proofs.YtidaoijpbdljbabDoor
