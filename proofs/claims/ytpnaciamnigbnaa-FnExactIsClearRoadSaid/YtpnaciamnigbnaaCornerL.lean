/- The library's functions at slices of Corner: IndexFunc, Clone. (made by genlib.py) -/
import Derived.Test.YtpnaciamnigbnaaCornerT
import Derived.Test.YtpnaciamnigbnaaUp
import Derived.Lib.SliceRun
namespace Go.Proofs.Ytpnaciamnigbnaa
open Go.RowKit
theorem list_atCorner {xs : List VCorner} {len k : Nat} (hl : Hid (len = xs.length)) (hk : k < len) : ∃ s, xs[k]? = some s := ⟨xs[k]'(by have := hl.out; omega), List.getElem?_eq_getElem _⟩
theorem made_ownCorner (w : World) (base : Nat) (h : base ≤ w.heap.size) : (w.alloc (.cells #[] 103)).ownsRow base 103 2 (.slice (some ⟨w.heap.size, 0, none⟩) 0 0) ([] : List VCorner).length (cellsCorner []) :=
  World.ownsRow_made (base := base) (e := 103) (size := 2) w #[] 0 h (Nat.zero_le _) rfl
theorem one_Corner (xs : List VCorner) : ∀ u ∈ cellsCorner xs, u.oneCell' = true := by
  intro u hu
  obtain ⟨s, _, hs⟩ := List.mem_flatMap.1 hu
  exact s.vals_one u hs
set_option maxHeartbeats 1600000 in
set_option maxRecDepth 100000 in
/-- A clone: a row of the call's own. -/
theorem cloneCorner_any (a : Option Addr) (len cap : Nat) (xs : List VCorner) (w : World) (h : IsCornerS w a len cap xs) (hx : xs.length ≤ 1048576) :
    Calls Try.prog 125 #[.slice a len cap] w (CornerRow xs w) := by
  obtain rfl := h.1
  obtain ⟨i0, hi, hz0, hz1, hz2⟩ := info_parts infoCorner
  cases a with
  | none =>
    have h0 : xs.length = 0 := by
      rcases h.2.2.2 with h0 | ⟨b, o, e, _⟩
      · exact h0
      · cases e
    obtain rfl : xs = [] := List.length_eq_zero_iff.1 h0
    clear h h0
    have hnil := fun w a n c n' c' => Lib.run_eql_slice_nil (P := Try.prog) w 47 103 a n c n' c' Try.underlying47
    go_enter Try.func125, Try.ntmps125
    go_wp2
    go_ret
    exact ⟨_, rfl, ⟨by simp [cellsCorner], .inl ⟨rfl, rfl⟩⟩, Below.refl _ _⟩
  | some ad =>
    have B0 := Lib.hid (bel_al1 w (.cells #[] 103))
    have O0 := made_ownCorner w w.heap.size (Nat.le_refl _)
    have SRC := srcCorner (h.below B0.out)
    have SZ := Lib.hid (size_al w (.cells #[] 103))
    clear h
    have hnil := fun w a n c n' c' => Lib.run_eql_slice_nil (P := Try.prog) w 47 103 a n c n' c' Try.underlying47
    go_enter Try.func125, Try.ntmps125
    go_wp2_with (at_builtin; refine wpList_append_list rfl _ _ 47 rfl w.heap.size 103 i0 (.agg #[.int .i64 0, .int .i64 0]) 2 16 Try.underlying47 hi hz0 hz1 hz2 rfl (by decide) _ _ _ rfl O0 _ xs.length cap (cellsCorner xs) rfl SRC (one_Corner xs) (by simp; unfold maxLen; omega) (by simp; omega) (by rw [SZ.out]; omega) ?_; intro v1 w1 hown1 hgrow1; have B1 := Lib.hid (B0.out.grown hgrow1 (by rw [SZ.out]; omega) (fun k e => by have := own_is e; omega)); have O1 := Lib.hid hown1; clear hown1 hgrow1)
    go_ret
    refine ⟨v1, rfl, ?_, B1.out⟩
    have h := O1.out
    simpa [cellsCorner] using h
/-- A call of a function value enters the function. -/
theorem callf_ofCorner {P : Program} {K : FuncId} {fn : Func} (hf : P.funcs[K]? = some fn) (h1 : (fn.name == "runtime.NumGoroutine") = false) (h2 : fn.body.isNone = false) : ∀ args W, (callFunc K args).run P W = .ok (.enter K args) W := by
  intro args W
  have h1' : ¬ fn.name = "runtime.NumGoroutine" := by simpa using h1
  have h2' : ¬ fn.body = none := by intro h; rw [h] at h2; cases h2
  simp [callFunc, go_sem, hf, h1', h2']
end Go.Proofs.Ytpnaciamnigbnaa
