/- What a function gives back whose result lies in a cell: Corner. (made by genres.py) -/
import Derived.Test.YtpnaciamnigbnaaCornerT
namespace Go.Proofs.Ytpnaciamnigbnaa
open Go.RowKit
theorem resultsCorner1 {fn : Func} {tm : Array Value} {a b : Nat} {w : World} {s : VCorner} (hf : fn.results = #[.cell a 103]) (ha : tm.getD a undef = .pointer (some ⟨b, 0, none⟩)) (h : HBCorner w b s) :
    (results fn tm).run Try.prog w = .ok (.agg #[.int .i64 s.X, .int .i64 s.Y]) w := by
  obtain ⟨h0, h1⟩ := h.cells
  simp only [Array.getD_eq_getD_getElem?] at ha
  simp [results, hf, ha, go_sem, h0, h1]
theorem resultsCorner2 {fn : Func} {tm : Array Value} {a b c : Nat} {w : World} {s : VCorner} {v : Value} (hf : fn.results = #[.cell a 103, .tmp c]) (ha : tm.getD a undef = .pointer (some ⟨b, 0, none⟩)) (hc : tm.getD c undef = v) (h : HBCorner w b s) :
    (results fn tm).run Try.prog w = .ok (.tuple #[.agg #[.int .i64 s.X, .int .i64 s.Y], v]) w := by
  obtain ⟨h0, h1⟩ := h.cells
  simp only [Array.getD_eq_getD_getElem?] at ha hc
  simp [results, hf, ha, hc, go_sem, h0, h1]
end Go.Proofs.Ytpnaciamnigbnaa
