/- What a function gives back whose result lies in a cell: Reader. (made by genres.py) -/
import Derived.Test.YtofgpiikhifiaabDoorReaderT
namespace Go.Proofs.YtofgpiikhifiaabDoor
open Go.RowKit
theorem resultsReader1 {fn : Func} {tm : Array Value} {a b : Nat} {w : World} {s : VReader} (hf : fn.results = #[.cell a 27]) (ha : tm.getD a undef = .pointer (some ⟨b, 0, none⟩)) (h : HBReader w b s) :
    (results fn tm).run Tryd.prog w = .ok (.agg #[.int .i64 s.Id, .string s.Name, .int .i64 s.Joined, .int .i64 s.Class, .int .i64 s.Fines]) w := by
  obtain ⟨h0, h1, h2, h3, h4⟩ := h.cells
  simp only [Array.getD_eq_getD_getElem?] at ha
  simp [results, hf, ha, go_sem, h0, h1, h2, h3, h4]
theorem resultsReader2 {fn : Func} {tm : Array Value} {a b c : Nat} {w : World} {s : VReader} {v : Value} (hf : fn.results = #[.cell a 27, .tmp c]) (ha : tm.getD a undef = .pointer (some ⟨b, 0, none⟩)) (hc : tm.getD c undef = v) (h : HBReader w b s) :
    (results fn tm).run Tryd.prog w = .ok (.tuple #[.agg #[.int .i64 s.Id, .string s.Name, .int .i64 s.Joined, .int .i64 s.Class, .int .i64 s.Fines], v]) w := by
  obtain ⟨h0, h1, h2, h3, h4⟩ := h.cells
  simp only [Array.getD_eq_getD_getElem?] at ha hc
  simp [results, hf, ha, hc, go_sem, h0, h1, h2, h3, h4]
end Go.Proofs.YtofgpiikhifiaabDoor
