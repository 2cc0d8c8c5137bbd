/- string(make([]byte, n)): n bytes of nothing. -/
import Derived.Test.YtmbmcnmippplaaaDoorDraw
import Derived.Laws.BytesArg
import Derived.Laws.MakeOwn
namespace Go.Proofs.YtmbmcnmippplaaaDoor
open Go.RowKit

theorem infoU8 : (Tryd.prog.info? 5).map (fun i => (i.zero, i.size, i.bytes)) = some (some (.int .u8 0), 1, 1) := by kernel_rfl
theorem run_bytes_made (n : Nat) (hn : n ≤ 100000) (W : World) : (Instr.makeSlice 22 (.int .i64 (n : Int)) (.int .i64 (n : Int))).run Tryd.prog W = .ok (.slice (some ⟨W.heap.size, 0, none⟩) n n) (W.alloc (.cells (madeCells #[.int .u8 0] n) 5)) := by
  obtain ⟨i0, hi, hz0, hz1, hz2⟩ := info_parts infoU8
  have h := run_make (P := Tryd.prog) W 22 5 i0 (.int .u8 0) Tryd.underlying22 hi hz0 .i64 .i64 (n : Int) (n : Int) (by omega) (by omega) (by rw [hz2]; omega) (by omega)
  rw [h, hz1]
  simp [Value.cells]
theorem run_bytes_text (n : Nat) (W : World) : (convert 22 9 (.slice (some ⟨W.heap.size, 0, none⟩) n n)).run Tryd.prog (W.alloc (.cells (madeCells #[.int .u8 0] n) 5)) = .ok (.string (strOfNums (List.replicate n (0 : Int)))) (W.alloc (.cells (madeCells #[.int .u8 0] n) 5)) :=
  run_convert_bytes_arg (P := Tryd.prog) _ 22 5 Tryd.underlying22 Tryd.underlying5 _ 0 n n (List.replicate n 0) (by simp) (fun i hi => by
    rw [World.cell?_alloc_new]
    simp [madeCells, hi, List.getD, Nat.mod_one]) 9 Tryd.underlying9
theorem strOfNums_zeros (n : Nat) : (strOfNums (List.replicate n (0 : Int))).size = n := by
  simp [strOfNums, ByteArray.size]
end Go.Proofs.YtmbmcnmippplaaaDoor
