/- Corners by Go's '!='. -/
import Derived.Test.YtpnaciamnigbnaaRo
namespace Go.Proofs.Ytpnaciamnigbnaa
open Go.RowKit
theorem neqCorner (w : World) (s t : VCorner) : (binOp .neq 103 (.agg #[.int .i64 s.X, .int .i64 s.Y]) (.agg #[.int .i64 t.X, .int .i64 t.Y])).run Try.prog w = .ok (.bool (!(eqvCorner s t))) w := by
  rw [run_neq_struct, run_equalIn_agg _ _ _ _ _ (by kernel_rfl) (by kernel_rfl)]
  have hu : Try.prog.underlying 103 = _ := Try.underlying103
  unfold Program.fieldsOf
  rw [hu]
  have e1 := Try.underlying3
  cases h0 : (s.X == t.X)
  · simp [eqvCorner, Op.eqFields, go_sem, e1, h0]
  cases h1 : (s.Y == t.Y)
  · simp [eqvCorner, Op.eqFields, go_sem, e1, h0, h1]
  simp [eqvCorner, Op.eqFields, go_sem, e1, h0, h1]
end Go.Proofs.Ytpnaciamnigbnaa
