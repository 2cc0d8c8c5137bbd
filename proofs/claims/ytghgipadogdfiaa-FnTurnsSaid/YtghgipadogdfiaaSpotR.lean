/- What a function gives back whose result lies in a cell: Spot. (made by genres.py) -/
import Derived.Test.YtghgipadogdfiaaSpotT
namespace Go.Proofs.Ytghgipadogdfiaa
open Go.RowKit
theorem resultsSpot1 {fn : Func} {tm : Array Value} {a b : Nat} {w : World} {s : VSpot} (hf : fn.results = #[.cell a 28]) (ha : tm.getD a undef = .pointer (some ⟨b, 0, none⟩)) (h : HBSpot w b s) :
    (results fn tm).run Try.prog w = .ok (.agg #[.int .i64 s.X, .int .i64 s.Y, .int .i64 s.Den]) w := by
  obtain ⟨h0, h1, h2⟩ := h.cells
  simp only [Array.getD_eq_getD_getElem?] at ha
  simp [results, hf, ha, go_sem, h0, h1, h2]
theorem resultsSpot2 {fn : Func} {tm : Array Value} {a b c : Nat} {w : World} {s : VSpot} {v : Value} (hf : fn.results = #[.cell a 28, .tmp c]) (ha : tm.getD a undef = .pointer (some ⟨b, 0, none⟩)) (hc : tm.getD c undef = v) (h : HBSpot w b s) :
    (results fn tm).run Try.prog w = .ok (.tuple #[.agg #[.int .i64 s.X, .int .i64 s.Y, .int .i64 s.Den], v]) w := by
  obtain ⟨h0, h1, h2⟩ := h.cells
  simp only [Array.getD_eq_getD_getElem?] at ha hc
  simp [results, hf, ha, hc, go_sem, h0, h1, h2]
end Go.Proofs.Ytghgipadogdfiaa
