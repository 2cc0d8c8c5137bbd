/- Reliefs in the program: heightOf, isInRelief, reliefSquares. -/
import Derived.Test.YtodjgeffkfbpiaaWd
import Derived.Test.YtodjgeffkfbpiaaAro
import Derived.Test.YtodjgeffkfbpiaaIntA2R
namespace Go.Proofs.Ytodjgeffkfbpiaa
open Go.RowKit

/-- A row of a relief as it lies. -/
theorem relief_row {w : World} {a : Option Addr} {len cap : Nat} {D : List VIntS} (h : IsIntSS w a len cap D) (hD : RL D) {r : Nat} (hr : r < D.length) :
    ∃ b o b' o' c', a = some ⟨b, o, none⟩ ∧ b < w.heap.size ∧ b' < w.heap.size ∧ w.cell? ⟨b, o + r, none⟩ = some (.slice (some ⟨b', o', none⟩) (colsN D) c') ∧ colsN D ≤ c' ∧ c' ≤ 9223372036854775807 ∧ ∀ c, c < colsN D → w.cell? ⟨b', o' + c, none⟩ = some (.int .i64 (hA D (r, c))) := by
  obtain ⟨b, o, e, hb, hat⟩ := h.at (by have := h.1; omega)
  obtain ⟨row, e1, hl, _⟩ := hD.at (p := (r, 0)) ⟨hr, hD.n1⟩
  obtain ⟨hd, hc, hi⟩ := hat r row e1
  have hn1 := hD.n1
  obtain ⟨b', o', e2, hb', hz⟩ := hi.at (by rw [hi.1, hl]; omega)
  refine ⟨b, o, b', o', hd.c, e, hb, hb', ?_, ?_, ?_, fun c hlt => ?_⟩
  · rw [hc, e2, hi.1, hl]
  · rw [← hl, ← hi.1]; exact hi.2.1
  · have := hi.2.2.1; unfold maxLen at this; exact this
  · obtain ⟨row2, e3, _, e4, _⟩ := hD.at (p := (r, c)) ⟨hr, hlt⟩
    have : row2 = row := by
      have := e3.symm.trans e1
      simpa using this
    subst this
    exact hz c _ e4
theorem relief_row0 {w : World} {a : Option Addr} {len cap : Nat} {D : List VIntS} (h : IsIntSS w a len cap D) (hD : RL D) :
    ∃ b o b' o' c', a = some ⟨b, o, none⟩ ∧ b < w.heap.size ∧ w.cell? ⟨b, o, none⟩ = some (.slice (some ⟨b', o', none⟩) (colsN D) c') := by
  obtain ⟨b, o, b', o', c', e, h1, _, h3, _⟩ := relief_row h hD (r := 0) (by have := hD.m1; omega)
  exact ⟨b, o, b', o', c', e, h1, h3⟩
set_option maxHeartbeats 3200000 in
theorem heightOf_any (a : Option Addr) (len cap : Nat) (D : List VIntS) (r c : Nat) (w : World) (h : IsIntSS w a len cap D) (hD : RL D) (hr : r < D.length) (hc : c < colsN D) :
    Calls Try.prog 76 #[.slice a len cap, .agg #[.int .i64 (r : Int), .int .i64 (c : Int)]] w fun e w' => e = .returned (.int .i64 (hA D (r, c))) ∧ Below w.heap.size w w' := by
  have hm := h.2.2.1
  have hcl := h.2.1
  unfold maxLen at hm
  have B0 := Lib.hid (bel_al1 w (.cells #[.int .i64 (r : Int), .int .i64 (c : Int)] 34))
  have L := Lib.hid h.1
  obtain ⟨b, o, b', o', c', rfl, hb, hb', g0, hc1, hc2, g1⟩ := relief_row (h.below B0.out) hD hr
  have g2 := g1 c hc
  obtain ⟨c0, c1⟩ := BoxIntA2.new w 34 ⟨(r : Int), (c : Int)⟩ _ rfl
  simp only [] at c0 c1
  have i0 : (0 : Int) ≤ (r : Int) := by omega
  have i1 : (r : Int) < (len : Int) := by have := L.out; omega
  have i2 : (0 : Int) ≤ (c : Int) := by omega
  have i3 : (c : Int) < (colsN D : Int) := by omega
  clear h g1 hD hr hc
  go_enter Try.func76, Try.ntmps76
  go_wp2
  go_quiet (fail)
  go_wp2
  go_ret
  exact ⟨rfl, Below.then' B0.out (bel_drawn _ _)⟩
set_option maxHeartbeats 3200000 in
theorem isInRelief_any (a : Option Addr) (len cap : Nat) (D : List VIntS) (r c : Int) (w : World) (h : IsIntSS w a len cap D) (hD : RL D) :
    Calls Try.prog 85 #[.slice a len cap, .int .i64 r, .int .i64 c] w fun e w' => e = .returned (.bool (inB r 0 ((D.length : Int) - 1) && inB c 0 ((colsN D : Int) - 1))) ∧ Below w.heap.size w w' := by
  have hm := h.2.2.1
  have hcl := h.2.1
  unfold maxLen at hm
  obtain rfl := h.1
  have hm8 := hD.m8
  have hm1 := hD.m1
  have hn8 := hD.n8
  have hn1 := hD.n1
  have w1 : IntKind.i64.wrap ((D.length : Int) - 1) = (D.length : Int) - 1 := IntWalk.i64_in _ (by omega)
  have w2 : IntKind.i64.wrap ((colsN D : Int) - 1) = (colsN D : Int) - 1 := IntWalk.i64_in _ (by omega)
  obtain ⟨q1, e1⟩ : ∃ q, inB r 0 ((D.length : Int) - 1) = q := ⟨_, rfl⟩
  obtain ⟨q2, e2⟩ : ∃ q, inB c 0 ((colsN D : Int) - 1) = q := ⟨_, rfl⟩
  rw [e1, e2]
  have E1 := Lib.hid e1
  have E2 := Lib.hid e2
  have HD := Lib.hid hD
  have B0 := Lib.hid (bel_al1 w (.cells #[.int .i64 r] 3))
  have S := Lib.hid (h.below B0.out)
  clear h e1 e2 hD
  go_enter Try.func85, Try.ntmps85
  go_wp2_with fail
  refine (areOne 0 _ r _ _ _ (by simp)).mono ?_
  rintro e w' ⟨rfl, rfl⟩
  rw [E1.out]
  obtain ⟨b, o, b', o', c', rfl, hb, g0⟩ := relief_row0 S.out HD.out
  cases q1
  · go_wp2
    go_ret
    exact ⟨rfl, B0.out⟩
  · have B1 := Lib.hid (Below.then' B0.out (bel_al1 (w.alloc (.cells #[.int .i64 r] 3)) (.cells #[.int .i64 c] 3)))
    go_wp2_with fail
    refine (areOne 0 _ c _ _ _ (by simp)).mono ?_
    rintro e w' ⟨rfl, rfl⟩
    rw [E2.out]
    go_wp2
    go_ret
    exact ⟨rfl, B1.out⟩
end Go.Proofs.Ytodjgeffkfbpiaa
