/- Rows of Flats of the call's own, told by an interval: what the laws do with them. (made by gen3.py) -/
import Derived.Test.YtlmedhidkhphbaaFlatT
import Derived.Test.YtlmedhidkhphbaaOwn
namespace Go.Proofs.Ytlmedhidkhphbaa
open Go.RowKit
def OwnFlatS (lo hi : Nat) (w : World) (v : Value) (xs : List VFlat) : Prop := OwnIn lo hi w 40 4 v xs.length (cellsFlat xs)
section
variable {lo hi lo' hi' : Nat} {w w' : World} {v : Value} {xs : List VFlat}
theorem OwnFlatS.form (h : OwnFlatS lo hi w v xs) : ∃ a c, v = .slice a xs.length c := by
  obtain ⟨a, c, e, _⟩ := isFlatS_own h.1
  exact ⟨a, c, e⟩
theorem OwnFlatS.is {a : Option Addr} {n c : Nat} (h : OwnFlatS lo hi w (.slice a n c) xs) : IsFlatS w a n c xs := by
  obtain ⟨a', c', e, hi, _⟩ := isFlatS_own h.1
  simp only [Value.slice.injEq] at e
  obtain ⟨rfl, rfl, rfl⟩ := e
  exact hi
theorem OwnFlatS.below (h : OwnFlatS lo hi w v xs) (hb : Below w.heap.size w w') : OwnFlatS lo hi w' v xs := OwnIn.below h hb
theorem OwnFlatS.turned (h : OwnFlatS lo hi w v xs) (t : Turned lo' hi' w w') (hd : hi ≤ lo' ∨ hi' ≤ lo) : OwnFlatS lo hi w' v xs := OwnIn.turned h t hd
theorem OwnFlatS.mono (h : OwnFlatS lo hi w v xs) (h1 : lo' ≤ lo) (h2 : hi ≤ hi') : OwnFlatS lo' hi' w v xs := OwnIn.mono h h1 h2
theorem nil_OwnFlatS (lo hi : Nat) (w : World) : OwnFlatS lo hi w (.slice none 0 0) [] := ⟨⟨by simp [cellsFlat], .inl ⟨rfl, rfl⟩⟩, fun b h => by cases h⟩
end
def condFlat (xs : List VFlat) : Prop := xs.length ≤ 1048576
def cntFlat (xs : List VFlat) : Nat := xs.length * 4
def mkFlat (k : Nat) (xs : List VFlat) : List VFlat := marksFlat k xs.length
theorem cntFlat_cond {xs : List VFlat} (h : condFlat xs) : cntFlat xs ≤ 4194304 := by unfold condFlat at h; unfold cntFlat; omega
def FlatOPost (xs : List VFlat) (w : World) (e : Ending) (w' : World) : Prop := ∃ v, e = .returned v ∧ OwnFlatS w.heap.size w'.heap.size w' v xs ∧ Below w.heap.size w w'
theorem szFlatS_o (a : Option Addr) (len cap : Nat) (xs : List VFlat) (left : Int) (w : World) (h : IsFlatS w a len cap xs) (h0 : 0 ≤ left) (h1 : left ≤ 1048576) :
    Calls Try.prog 34 #[.slice a len cap, .int .i64 left] w fun e w' => ∃ z : Int, e = .returned (.int .i64 z) ∧ z ≤ left ∧ (0 ≤ z → condFlat xs) ∧ Below w.heap.size w w' :=
  (szFlatS_any a len cap xs left w h h0 h1).mono fun e w' ⟨z, h2, h3, h4, h5⟩ => ⟨z, h2, h3, fun hz => by have := h4 hz; have := h.1; unfold condFlat; omega, h5⟩
theorem toFlatS_o (a : Option Addr) (len cap : Nat) (xs : List VFlat) (w : World) (h : IsFlatS w a len cap xs) (hsz : condFlat xs) :
    Calls Try.prog 35 #[.slice a len cap] w (FlatOPost xs w) :=
  (toFlatS_any a len cap xs w h (by have := h.1; unfold condFlat at hsz; omega)).mono fun e w' ⟨v, h1, h2, h3⟩ => ⟨v, h1, OwnIn.of_row h2 (Nat.le_refl _) (Nat.le_refl _), h3⟩
def FlatSMarked (lo hi : Nat) (v : Value) (xs : List VFlat) (k : Nat) (w : World) (e : Ending) (w' : World) : Prop := e = .returned (.int .i64 ((k + cntFlat xs : Nat) : Int)) ∧ OwnFlatS lo hi w' v (mkFlat k xs) ∧ Turned lo hi w w'
theorem markFlatS_o (lo hi : Nat) (v : Value) (xs : List VFlat) (k : Nat) (w : World) (h : OwnFlatS lo hi w v xs) (hk : 1 ≤ k ∧ k ≤ 1000000 ∧ cntFlat xs ≤ 4194304) :
    Calls Try.prog 46 #[v, .int .i64 (k : Int)] w (FlatSMarked lo hi v xs k w) :=
  (markFlatS_any lo v xs.length k (cellsFlat xs) w h.1 (by omega) (by omega) (by unfold cntFlat at hk; omega)).mono fun e w' ⟨h1, h2, h3⟩ =>
    ⟨h1, ⟨by unfold mkFlat; rw [marksFlat_len]; exact h2, h.2⟩, Turned.of_grown h3 fun b hb => ⟨(h.lt hb).1, (h.lt hb).2.1⟩⟩
end Go.Proofs.Ytlmedhidkhphbaa
