/- Readers in the program: AreReaders. -/
import Derived.Test.YtidaoijpbdljbabRi
import Derived.Test.YtidaoijpbdljbabRd3
import Derived.Test.YtidaoijpbdljbabReaderBy
import Derived.Test.YtidaoijpbdljbabReaderId
namespace Go.Proofs.Ytidaoijpbdljbab
open Go.RowKit

theorem readerId_any (s : VReader) (w : World) : Calls Try.prog 81 #[.agg #[.int .i64 s.Id, .string s.Name, .int .i64 s.Joined, .int .i64 s.Class, .int .i64 s.Fines]] w fun e w' => e = .returned (.int .i64 s.Id) ∧ Below w.heap.size w w' := by
  go_enter Try.func81, Try.ntmps81
  go_wp2
  go_ret
  exact ⟨rfl, bel_al1 _ _⟩
theorem len_leR {n : Nat} {k : Nat} : decide ((n : Int) ≤ (k : Int)) = decide (n ≤ k) := by rw [decide_eq_decide]; omega
set_option maxHeartbeats 1600000 in
theorem areRd_any (a : Option Addr) (len cap : Nat) (xs : List VReader) (w : World) (h : IsReaderS w a len cap xs) :
    Calls Try.prog 74 #[.slice a len cap] w fun e w' => e = .returned (.bool (areRd xs)) ∧ Below w.heap.size w w' := by
  have S := Lib.hid h
  clear h
  go_enter Try.func74, Try.ntmps74
  go_wp2_with fail
  refine (byReader_any 63 81 VReader.ok VReader.Id 10 a len cap xs _ S.out (enters_fn Try.func63 (by kernel_rfl) (by kernel_rfl)) (enters_fn Try.func81 (by kernel_rfl) (by kernel_rfl)) (fun W s _ hs => isRd_any s W hs) (fun W s => readerId_any s W)).mono ?_
  rintro e w2 ⟨rfl, hb⟩
  have B := Lib.hid hb
  clear hb
  go_wp2
  go_ret
  exact ⟨ret_bool (by unfold areRd rdUp; rw [← len_leR]; rfl), B.out⟩
end Go.Proofs.Ytidaoijpbdljbab
