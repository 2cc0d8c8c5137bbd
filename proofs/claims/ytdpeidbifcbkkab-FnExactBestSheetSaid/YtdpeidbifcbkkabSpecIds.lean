/- NeighborsOf and ShowsOverview in the model: the ids that the program gives. -/
import Derived.Test.YtdpeidbifcbkkabIds
import Derived.Laws.MakeOwn
namespace Go.Proofs.Ytdpeidbifcbkkab
open Go.RowKit

theorem areSh_lt {xs : List Sh} (h : areSh xs = true) : ∀ (j i : Nat) (s t : Sh), i < j → xs[i]? = some s → xs[j]? = some t → s.id < t.id := by
  intro j
  induction j with
  | zero => intro i s t hi; omega
  | succ j ih =>
    intro i s t hij hs ht
    have hl := (List.getElem?_eq_some_iff.1 ht).1
    obtain ⟨p, hp⟩ : ∃ p, xs[j]? = some p := ⟨xs[j]'(by omega), List.getElem?_eq_getElem _⟩
    have hpt : p.id < t.id := by
      have h1 := (areSh_iff.1 h).2 (j + 1) hl
      rw [okAt_some ht, show j + 1 - 1 = j from rfl, hp] at h1
      simp at h1
      exact h1.2.1
    by_cases e : i = j
    · subst e; rw [hs] at hp; cases hp; exact hpt
    · exact Int.lt_trans (ih i s p (by omega) hs hp) hpt
theorem areSh_ne {xs : List Sh} (h : areSh xs = true) {i j : Nat} {s t : Sh} (hne : i ≠ j) (hs : xs[i]? = some s) (ht : xs[j]? = some t) : s.id ≠ t.id := by
  rcases Nat.lt_or_gt_of_ne hne with h1 | h1
  · have := areSh_lt h j i s t h1 hs ht; omega
  · have := areSh_lt h i j t s h1 ht hs; omega
theorem inB_neg (x : Int) : inB (-x) (-1) 1 = inB x (-1) 1 := by
  rw [Bool.eq_iff_iff, inB_iff, inB_iff]; omega
theorem nearB_comm (a b : Sh) : nearB a b = nearB b a := by
  unfold nearB
  rw [show a.row - b.row = -(b.row - a.row) from by omega, show a.col - b.col = -(b.col - a.col) from by omega, inB_neg, inB_neg]
  congr 1
  rw [Bool.eq_iff_iff]; simp; omega
theorem nbB_self (a : Sh) : nbB a a = false := by simp [nbB]
theorem nbB_of {a b : Sh} (h : a.id ≠ b.id) : nbB a b = nearB b a := by unfold nbB; rw [nearB_comm b a]; simp [h]

end Go.Proofs.Ytdpeidbifcbkkab
