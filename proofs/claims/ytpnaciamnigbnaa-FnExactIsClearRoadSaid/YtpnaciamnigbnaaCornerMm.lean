/- The library's MinFunc, MaxFunc, Index and Contains at Corner. (made by genmm.py) -/
import Derived.Test.YtpnaciamnigbnaaCornerR
import Derived.Test.YtpnaciamnigbnaaCornerL
import Derived.Test.YtpnaciamnigbnaaSw
import Derived.Test.YtpnaciamnigbnaaPick
import Derived.Laws.StructEq
import Derived.StillTailTactics
namespace Go.Proofs.Ytpnaciamnigbnaa
open Go.RowKit
def zeroCorner : VCorner := ⟨0, 0⟩
def eqvCorner (s t : VCorner) : Bool := s.X == t.X && (s.Y == t.Y)
theorem bytes_beqCorner (a b : ByteArray) : (a == b) = true ↔ a = b := by
  rw [beq_toListBytes, ByteArray.toList_eq, ByteArray.toList_eq]
  obtain ⟨⟨x⟩⟩ := a
  obtain ⟨⟨y⟩⟩ := b
  simp
theorem eqvCorner_iff (s t : VCorner) : eqvCorner s t = true ↔ s = t := by
  obtain ⟨x0, x1⟩ := s
  obtain ⟨y0, y1⟩ := t
  simp [eqvCorner]
theorem eqlCorner (w : World) (s t : VCorner) : (binOp .eql 103 (.agg #[.int .i64 s.X, .int .i64 s.Y]) (.agg #[.int .i64 t.X, .int .i64 t.Y])).run Try.prog w = .ok (.bool (eqvCorner s t)) w := by
  rw [run_eql_struct, run_equalIn_agg _ _ _ _ _ (by kernel_rfl) (by kernel_rfl)]
  have hu : Try.prog.underlying 103 = _ := Try.underlying103
  unfold Program.fieldsOf
  rw [hu]
  have e1 := Try.underlying3
  cases h0 : (s.X == t.X)
  · simp [eqvCorner, Op.eqFields, go_sem, e1, h0]
  cases h1 : (s.Y == t.Y)
  · simp [eqvCorner, Op.eqFields, go_sem, e1, h0, h1]
  simp [eqvCorner, Op.eqFields, go_sem, e1, h0, h1]
end Go.Proofs.Ytpnaciamnigbnaa
