/- What a function gives back whose result lies in a cell: Loan. (made by genres.py) -/
import Derived.Test.YtffbljbgmgifnaaDoorLoanT
namespace Go.Proofs.YtffbljbgmgifnaaDoor
open Go.RowKit
theorem resultsLoan1 {fn : Func} {tm : Array Value} {a b : Nat} {w : World} {s : VLoan} (hf : fn.results = #[.cell a 26]) (ha : tm.getD a undef = .pointer (some ⟨b, 0, none⟩)) (h : HBLoan w b s) :
    (results fn tm).run Tryd.prog w = .ok (.agg #[.int .i64 s.Sheet, .int .i64 s.Reader, .int .i64 s.Out, .int .i64 s.Due, .int .i64 s.Back]) w := by
  obtain ⟨h0, h1, h2, h3, h4⟩ := h.cells
  simp only [Array.getD_eq_getD_getElem?] at ha
  simp [results, hf, ha, go_sem, h0, h1, h2, h3, h4]
theorem resultsLoan2 {fn : Func} {tm : Array Value} {a b c : Nat} {w : World} {s : VLoan} {v : Value} (hf : fn.results = #[.cell a 26, .tmp c]) (ha : tm.getD a undef = .pointer (some ⟨b, 0, none⟩)) (hc : tm.getD c undef = v) (h : HBLoan w b s) :
    (results fn tm).run Tryd.prog w = .ok (.tuple #[.agg #[.int .i64 s.Sheet, .int .i64 s.Reader, .int .i64 s.Out, .int .i64 s.Due, .int .i64 s.Back], v]) w := by
  obtain ⟨h0, h1, h2, h3, h4⟩ := h.cells
  simp only [Array.getD_eq_getD_getElem?] at ha hc
  simp [results, hf, ha, hc, go_sem, h0, h1, h2, h3, h4]
end Go.Proofs.YtffbljbgmgifnaaDoor
