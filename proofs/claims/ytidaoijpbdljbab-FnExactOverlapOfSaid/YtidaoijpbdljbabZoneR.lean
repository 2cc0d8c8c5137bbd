/- What a function gives back whose result lies in a cell: Zone. (made by genres.py) -/
import Derived.Test.YtidaoijpbdljbabZoneT
namespace Go.Proofs.Ytidaoijpbdljbab
open Go.RowKit
theorem resultsZone1 {fn : Func} {tm : Array Value} {a b : Nat} {w : World} {s : VZone} (hf : fn.results = #[.cell a 50]) (ha : tm.getD a undef = .pointer (some ⟨b, 0, none⟩)) (h : HBZone w b s) :
    (results fn tm).run Try.prog w = .ok (.agg #[.int .i64 s.Id, .int .i64 s.West, .int .i64 s.South, .int .i64 s.East, .int .i64 s.North]) w := by
  obtain ⟨h0, h1, h2, h3, h4⟩ := h.cells
  simp only [Array.getD_eq_getD_getElem?] at ha
  simp [results, hf, ha, go_sem, h0, h1, h2, h3, h4]
theorem resultsZone2 {fn : Func} {tm : Array Value} {a b c : Nat} {w : World} {s : VZone} {v : Value} (hf : fn.results = #[.cell a 50, .tmp c]) (ha : tm.getD a undef = .pointer (some ⟨b, 0, none⟩)) (hc : tm.getD c undef = v) (h : HBZone w b s) :
    (results fn tm).run Try.prog w = .ok (.tuple #[.agg #[.int .i64 s.Id, .int .i64 s.West, .int .i64 s.South, .int .i64 s.East, .int .i64 s.North], v]) w := by
  obtain ⟨h0, h1, h2, h3, h4⟩ := h.cells
  simp only [Array.getD_eq_getD_getElem?] at ha hc
  simp [results, hf, ha, hc, go_sem, h0, h1, h2, h3, h4]
end Go.Proofs.Ytidaoijpbdljbab
