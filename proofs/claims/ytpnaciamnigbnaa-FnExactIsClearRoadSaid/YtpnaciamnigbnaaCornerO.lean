/- Rows of Corners of the call's own, told by an interval: what the laws do with them. (made by gen3.py) -/
import Derived.Test.YtpnaciamnigbnaaCornerT
import Derived.Test.YtpnaciamnigbnaaOwn
namespace Go.Proofs.Ytpnaciamnigbnaa
open Go.RowKit
def OwnCornerS (lo hi : Nat) (w : World) (v : Value) (xs : List VCorner) : Prop := OwnIn lo hi w 103 2 v xs.length (cellsCorner xs)
section
variable {lo hi lo' hi' : Nat} {w w' : World} {v : Value} {xs : List VCorner}
theorem OwnCornerS.form (h : OwnCornerS lo hi w v xs) : ∃ a c, v = .slice a xs.length c := by
  obtain ⟨a, c, e, _⟩ := isCornerS_own h.1
  exact ⟨a, c, e⟩
theorem OwnCornerS.is {a : Option Addr} {n c : Nat} (h : OwnCornerS lo hi w (.slice a n c) xs) : IsCornerS w a n c xs := by
  obtain ⟨a', c', e, hi, _⟩ := isCornerS_own h.1
  simp only [Value.slice.injEq] at e
  obtain ⟨rfl, rfl, rfl⟩ := e
  exact hi
theorem OwnCornerS.below (h : OwnCornerS lo hi w v xs) (hb : Below w.heap.size w w') : OwnCornerS lo hi w' v xs := OwnIn.below h hb
theorem OwnCornerS.turned (h : OwnCornerS lo hi w v xs) (t : Turned lo' hi' w w') (hd : hi ≤ lo' ∨ hi' ≤ lo) : OwnCornerS lo hi w' v xs := OwnIn.turned h t hd
theorem OwnCornerS.mono (h : OwnCornerS lo hi w v xs) (h1 : lo' ≤ lo) (h2 : hi ≤ hi') : OwnCornerS lo' hi' w v xs := OwnIn.mono h h1 h2
theorem nil_OwnCornerS (lo hi : Nat) (w : World) : OwnCornerS lo hi w (.slice none 0 0) [] := ⟨⟨by simp [cellsCorner], .inl ⟨rfl, rfl⟩⟩, fun b h => by cases h⟩
end
def condCorner (xs : List VCorner) : Prop := xs.length ≤ 1048576
def cntCorner (xs : List VCorner) : Nat := xs.length * 2
def mkCorner (k : Nat) (xs : List VCorner) : List VCorner := marksCorner k xs.length
theorem cntCorner_cond {xs : List VCorner} (h : condCorner xs) : cntCorner xs ≤ 2097152 := by unfold condCorner at h; unfold cntCorner; omega
def CornerOPost (xs : List VCorner) (w : World) (e : Ending) (w' : World) : Prop := ∃ v, e = .returned v ∧ OwnCornerS w.heap.size w'.heap.size w' v xs ∧ Below w.heap.size w w'
theorem szCornerS_o (a : Option Addr) (len cap : Nat) (xs : List VCorner) (left : Int) (w : World) (h : IsCornerS w a len cap xs) (h0 : 0 ≤ left) (h1 : left ≤ 1048576) :
    Calls Try.prog 61 #[.slice a len cap, .int .i64 left] w fun e w' => ∃ z : Int, e = .returned (.int .i64 z) ∧ z ≤ left ∧ (0 ≤ z → condCorner xs) ∧ Below w.heap.size w w' :=
  (szCornerS_any a len cap xs left w h h0 h1).mono fun e w' ⟨z, h2, h3, h4, h5⟩ => ⟨z, h2, h3, fun hz => by have := h4 hz; have := h.1; unfold condCorner; omega, h5⟩
theorem toCornerS_o (a : Option Addr) (len cap : Nat) (xs : List VCorner) (w : World) (h : IsCornerS w a len cap xs) (hsz : condCorner xs) :
    Calls Try.prog 63 #[.slice a len cap] w (CornerOPost xs w) :=
  (toCornerS_any a len cap xs w h (by have := h.1; unfold condCorner at hsz; omega)).mono fun e w' ⟨v, h1, h2, h3⟩ => ⟨v, h1, OwnIn.of_row h2 (Nat.le_refl _) (Nat.le_refl _), h3⟩
def CornerSMarked (lo hi : Nat) (v : Value) (xs : List VCorner) (k : Nat) (w : World) (e : Ending) (w' : World) : Prop := e = .returned (.int .i64 ((k + cntCorner xs : Nat) : Int)) ∧ OwnCornerS lo hi w' v (mkCorner k xs) ∧ Turned lo hi w w'
theorem markCornerS_o (lo hi : Nat) (v : Value) (xs : List VCorner) (k : Nat) (w : World) (h : OwnCornerS lo hi w v xs) (hk : 1 ≤ k ∧ k ≤ 4000000 ∧ cntCorner xs ≤ 2097152) :
    Calls Try.prog 71 #[v, .int .i64 (k : Int)] w (CornerSMarked lo hi v xs k w) :=
  (markCornerS_any lo v xs.length k (cellsCorner xs) w h.1 (by omega) (by omega) (by unfold cntCorner at hk; omega)).mono fun e w' ⟨h1, h2, h3⟩ =>
    ⟨h1, ⟨by unfold mkCorner; rw [marksCorner_len]; exact h2, h.2⟩, Turned.of_grown h3 fun b hb => ⟨(h.lt hb).1, (h.lt hb).2.1⟩⟩
theorem heldCornerS_o (a : Option Addr) (n c : Nat) (xs : List VCorner) (k : Nat) (w : World) (h : IsCornerS w a n c (mkCorner k xs)) (hk : 1 ≤ k ∧ k ≤ 4000000 ∧ cntCorner xs ≤ 2097152) :
    Calls Try.prog 72 #[.slice a n c, .int .i64 (k : Int)] w fun e w' => e = .returned (.int .i64 ((k + cntCorner xs : Nat) : Int)) ∧ Below w.heap.size w w' := by
  have e : n = xs.length := by rw [h.1]; unfold mkCorner; rw [marksCorner_len]
  subst e
  exact heldCornerS_any a xs.length c k w h (by omega) (by omega) (by unfold cntCorner at hk; omega)
end Go.Proofs.Ytpnaciamnigbnaa
