/- The library's functions at slices of Reader: IndexFunc, Clone. (made by genlib.py) -/
import Derived.Test.YtdpeidbifcbkkaaReaderT
import Derived.Test.YtdpeidbifcbkkaaUp
import Derived.Lib.SliceRun
namespace Go.Proofs.Ytdpeidbifcbkkaa
open Go.RowKit
theorem list_atReader {xs : List VReader} {len k : Nat} (hl : Hid (len = xs.length)) (hk : k < len) : ∃ s, xs[k]? = some s := ⟨xs[k]'(by have := hl.out; omega), List.getElem?_eq_getElem _⟩
theorem made_ownReader (w : World) (base : Nat) (h : base ≤ w.heap.size) : (w.alloc (.cells #[] 89)).ownsRow base 89 5 (.slice (some ⟨w.heap.size, 0, none⟩) 0 0) ([] : List VReader).length (cellsReader []) :=
  World.ownsRow_made (base := base) (e := 89) (size := 5) w #[] 0 h (Nat.zero_le _) rfl
theorem one_Reader (xs : List VReader) : ∀ u ∈ cellsReader xs, u.oneCell' = true := by
  intro u hu
  obtain ⟨s, _, hs⟩ := List.mem_flatMap.1 hu
  exact s.vals_one u hs
set_option maxHeartbeats 1600000 in
set_option maxRecDepth 100000 in
/-- A clone: a row of the call's own. -/
theorem cloneReader_any (a : Option Addr) (len cap : Nat) (xs : List VReader) (w : World) (h : IsReaderS w a len cap xs) (hx : xs.length ≤ 1048576) :
    Calls Try.prog 80 #[.slice a len cap] w (ReaderRow xs w) := by
  obtain rfl := h.1
  obtain ⟨i0, hi, hz0, hz1, hz2⟩ := info_parts infoReader
  cases a with
  | none =>
    have h0 : xs.length = 0 := by
      rcases h.2.2.2 with h0 | ⟨b, o, e, _⟩
      · exact h0
      · cases e
    obtain rfl : xs = [] := List.length_eq_zero_iff.1 h0
    clear h h0
    have hnil := fun w a n c n' c' => Lib.run_eql_slice_nil (P := Try.prog) w 52 89 a n c n' c' Try.underlying52
    go_enter Try.func80, Try.ntmps80
    go_wp2
    go_ret
    exact ⟨_, rfl, ⟨by simp [cellsReader], .inl ⟨rfl, rfl⟩⟩, Below.refl _ _⟩
  | some ad =>
    have B0 := Lib.hid (bel_al1 w (.cells #[] 89))
    have O0 := made_ownReader w w.heap.size (Nat.le_refl _)
    have SRC := srcReader (h.below B0.out)
    have SZ := Lib.hid (size_al w (.cells #[] 89))
    clear h
    have hnil := fun w a n c n' c' => Lib.run_eql_slice_nil (P := Try.prog) w 52 89 a n c n' c' Try.underlying52
    go_enter Try.func80, Try.ntmps80
    go_wp2_with (at_builtin; refine wpList_append_list rfl _ _ 52 rfl w.heap.size 89 i0 (.agg #[.int .i64 0, .string ByteArray.empty, .int .i64 0, .int .i64 0, .int .i64 0]) 5 48 Try.underlying52 hi hz0 hz1 hz2 rfl (by decide) _ _ _ rfl O0 _ xs.length cap (cellsReader xs) rfl SRC (one_Reader xs) (by simp; unfold maxLen; omega) (by simp; omega) (by rw [SZ.out]; omega) ?_; intro v1 w1 hown1 hgrow1; have B1 := Lib.hid (B0.out.grown hgrow1 (by rw [SZ.out]; omega) (fun k e => by have := own_is e; omega)); have O1 := Lib.hid hown1; clear hown1 hgrow1)
    go_ret
    refine ⟨v1, rfl, ?_, B1.out⟩
    have h := O1.out
    simpa [cellsReader] using h
/-- A call of a function value enters the function. -/
theorem callf_ofReader {P : Program} {K : FuncId} {fn : Func} (hf : P.funcs[K]? = some fn) (h1 : (fn.name == "runtime.NumGoroutine") = false) (h2 : fn.body.isNone = false) : ∀ args W, (callFunc K args).run P W = .ok (.enter K args) W := by
  intro args W
  have h1' : ¬ fn.name = "runtime.NumGoroutine" := by simpa using h1
  have h2' : ¬ fn.body = none := by intro h; rw [h] at h2; cases h2
  simp [callFunc, go_sem, hf, h1', h2']
end Go.Proofs.Ytdpeidbifcbkkaa
