/- Readers in the program: AreReaders. -/
import Derived.Test.YtidaoijpbdljbabDoorRi
import Derived.Test.YtidaoijpbdljbabDoorRd3
import Derived.Test.YtidaoijpbdljbabDoorReaderBy
import Derived.Test.YtidaoijpbdljbabDoorReaderId
namespace Go.Proofs.YtidaoijpbdljbabDoor
open Go.RowKit

theorem readerId_any (s : VReader) (w : World) : Calls Tryd.prog 47 #[.agg #[.int .i64 s.Id, .string s.Name, .int .i64 s.Joined, .int .i64 s.Class, .int .i64 s.Fines]] w fun e w' => e = .returned (.int .i64 s.Id) ∧ Below w.heap.size w w' := by
  go_enter Tryd.func47, Tryd.ntmps47
  go_wp2
  go_ret
  exact ⟨rfl, bel_al1 _ _⟩
theorem len_leR {n : Nat} {k : Nat} : decide ((n : Int) ≤ (k : Int)) = decide (n ≤ k) := by rw [decide_eq_decide]; omega
set_option maxHeartbeats 1600000 in
theorem areRd_any (a : Option Addr) (len cap : Nat) (xs : List VReader) (w : World) (h : IsReaderS w a len cap xs) :
    Calls Tryd.prog 29 #[.slice a len cap] w fun e w' => e = .returned (.bool (areRd xs)) ∧ Below w.heap.size w w' := by
  have S := Lib.hid h
  clear h
  go_enter Tryd.func29, Tryd.ntmps29
  go_wp2_with fail
  refine (byReader_any 59 47 VReader.ok VReader.Id 10 a len cap xs _ S.out (enters_fn Tryd.func59 (by kernel_rfl) (by kernel_rfl)) (enters_fn Tryd.func47 (by kernel_rfl) (by kernel_rfl)) (fun W s _ hs => isRd_any s W hs) (fun W s => readerId_any s W)).mono ?_
  rintro e w2 ⟨rfl, hb⟩
  have B := Lib.hid hb
  clear hb
  go_wp2
  go_ret
  exact ⟨ret_bool (by unfold areRd rdUp; rw [← len_leR]; rfl), B.out⟩
end Go.Proofs.YtidaoijpbdljbabDoor
