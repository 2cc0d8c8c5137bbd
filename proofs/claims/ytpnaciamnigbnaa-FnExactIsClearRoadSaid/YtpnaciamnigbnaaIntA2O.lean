/- Rows of IntA2s of the call's own, told by an interval: what the laws do with them. (made by gen3.py) -/
import Derived.Test.YtpnaciamnigbnaaIntA2T
import Derived.Test.YtpnaciamnigbnaaOwn
namespace Go.Proofs.Ytpnaciamnigbnaa
open Go.RowKit
def OwnIntA2S (lo hi : Nat) (w : World) (v : Value) (xs : List VIntA2) : Prop := OwnIn lo hi w 34 2 v xs.length (cellsIntA2 xs)
section
variable {lo hi lo' hi' : Nat} {w w' : World} {v : Value} {xs : List VIntA2}
theorem OwnIntA2S.form (h : OwnIntA2S lo hi w v xs) : ∃ a c, v = .slice a xs.length c := by
  obtain ⟨a, c, e, _⟩ := isIntA2S_own h.1
  exact ⟨a, c, e⟩
theorem OwnIntA2S.is {a : Option Addr} {n c : Nat} (h : OwnIntA2S lo hi w (.slice a n c) xs) : IsIntA2S w a n c xs := by
  obtain ⟨a', c', e, hi, _⟩ := isIntA2S_own h.1
  simp only [Value.slice.injEq] at e
  obtain ⟨rfl, rfl, rfl⟩ := e
  exact hi
theorem OwnIntA2S.below (h : OwnIntA2S lo hi w v xs) (hb : Below w.heap.size w w') : OwnIntA2S lo hi w' v xs := OwnIn.below h hb
theorem OwnIntA2S.turned (h : OwnIntA2S lo hi w v xs) (t : Turned lo' hi' w w') (hd : hi ≤ lo' ∨ hi' ≤ lo) : OwnIntA2S lo hi w' v xs := OwnIn.turned h t hd
theorem OwnIntA2S.mono (h : OwnIntA2S lo hi w v xs) (h1 : lo' ≤ lo) (h2 : hi ≤ hi') : OwnIntA2S lo' hi' w v xs := OwnIn.mono h h1 h2
theorem nil_OwnIntA2S (lo hi : Nat) (w : World) : OwnIntA2S lo hi w (.slice none 0 0) [] := ⟨⟨by simp [cellsIntA2], .inl ⟨rfl, rfl⟩⟩, fun b h => by cases h⟩
end
def condIntA2 (xs : List VIntA2) : Prop := xs.length ≤ 1048576
def cntIntA2 (xs : List VIntA2) : Nat := xs.length * 2
def mkIntA2 (k : Nat) (xs : List VIntA2) : List VIntA2 := marksIntA2 k xs.length
theorem cntIntA2_cond {xs : List VIntA2} (h : condIntA2 xs) : cntIntA2 xs ≤ 2097152 := by unfold condIntA2 at h; unfold cntIntA2; omega
def IntA2OPost (xs : List VIntA2) (w : World) (e : Ending) (w' : World) : Prop := ∃ v, e = .returned v ∧ OwnIntA2S w.heap.size w'.heap.size w' v xs ∧ Below w.heap.size w w'
def IntA2SMarked (lo hi : Nat) (v : Value) (xs : List VIntA2) (k : Nat) (w : World) (e : Ending) (w' : World) : Prop := e = .returned (.int .i64 ((k + cntIntA2 xs : Nat) : Int)) ∧ OwnIntA2S lo hi w' v (mkIntA2 k xs) ∧ Turned lo hi w w'
theorem markIntA2S_o (lo hi : Nat) (v : Value) (xs : List VIntA2) (k : Nat) (w : World) (h : OwnIntA2S lo hi w v xs) (hk : 1 ≤ k ∧ k ≤ 1000000 ∧ cntIntA2 xs ≤ 2097152) :
    Calls Try.prog 78 #[v, .int .i64 (k : Int)] w (IntA2SMarked lo hi v xs k w) :=
  (markIntA2S_any lo v xs.length k (cellsIntA2 xs) w h.1 (by omega) (by omega) (by unfold cntIntA2 at hk; omega)).mono fun e w' ⟨h1, h2, h3⟩ =>
    ⟨h1, ⟨by unfold mkIntA2; rw [marksIntA2_len]; exact h2, h.2⟩, Turned.of_grown h3 fun b hb => ⟨(h.lt hb).1, (h.lt hb).2.1⟩⟩
theorem heldIntA2S_o (a : Option Addr) (n c : Nat) (xs : List VIntA2) (k : Nat) (w : World) (h : IsIntA2S w a n c (mkIntA2 k xs)) (hk : 1 ≤ k ∧ k ≤ 1000000 ∧ cntIntA2 xs ≤ 2097152) :
    Calls Try.prog 79 #[.slice a n c, .int .i64 (k : Int)] w fun e w' => e = .returned (.int .i64 ((k + cntIntA2 xs : Nat) : Int)) ∧ Below w.heap.size w w' := by
  have e : n = xs.length := by rw [h.1]; unfold mkIntA2; rw [marksIntA2_len]
  subst e
  exact heldIntA2S_any a xs.length c k w h (by omega) (by omega) (by unfold cntIntA2 at hk; omega)
end Go.Proofs.Ytpnaciamnigbnaa
