/- What a function gives back whose result lies in a cell: IntA2. (made by genres.py) -/
import Derived.Test.YtodjgeffkfbpiaaIntA2T
namespace Go.Proofs.Ytodjgeffkfbpiaa
open Go.RowKit
theorem resultsIntA21 {fn : Func} {tm : Array Value} {a b : Nat} {w : World} {s : VIntA2} (hf : fn.results = #[.cell a 34]) (ha : tm.getD a undef = .pointer (some ⟨b, 0, none⟩)) (h : HBIntA2 w b s) :
    (results fn tm).run Try.prog w = .ok (.agg #[.int .i64 s.E0, .int .i64 s.E1]) w := by
  obtain ⟨h0, h1⟩ := h.cells
  simp only [Array.getD_eq_getD_getElem?] at ha
  simp [results, hf, ha, go_sem, h0, h1]
theorem resultsIntA22 {fn : Func} {tm : Array Value} {a b c : Nat} {w : World} {s : VIntA2} {v : Value} (hf : fn.results = #[.cell a 34, .tmp c]) (ha : tm.getD a undef = .pointer (some ⟨b, 0, none⟩)) (hc : tm.getD c undef = v) (h : HBIntA2 w b s) :
    (results fn tm).run Try.prog w = .ok (.tuple #[.agg #[.int .i64 s.E0, .int .i64 s.E1], v]) w := by
  obtain ⟨h0, h1⟩ := h.cells
  simp only [Array.getD_eq_getD_getElem?] at ha hc
  simp [results, hf, ha, hc, go_sem, h0, h1]
end Go.Proofs.Ytodjgeffkfbpiaa
