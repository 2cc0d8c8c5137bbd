/- The library's Reverse at a row of Corners of the call's own. -/
import Derived.Test.YtpnaciamnigbnaaRo
import Derived.Test.YtpnaciamnigbnaaUp2
import Derived.Laws.OwnMore
import Derived.RegionTactic
import Derived.ChangeAlike
import Derived.BigRegion
namespace Go.Proofs.Ytpnaciamnigbnaa
open Go.RowKit

/-- The first i and the last i elements are exchanged. -/
def revTo (xs : List VCorner) : Nat → List VCorner
  | 0 => xs
  | i + 1 => ((revTo xs i).set i ((revTo xs i).getD (xs.length - 1 - i) zeroCorner)).set (xs.length - 1 - i) ((revTo xs i).getD i zeroCorner)
theorem revTo_len (xs : List VCorner) (i : Nat) : (revTo xs i).length = xs.length := by
  induction i with
  | zero => rfl
  | succ i ih => simp [revTo, ih]
theorem revTo_at (xs : List VCorner) : ∀ (i : Nat), 2 * i ≤ xs.length → ∀ k, k < xs.length → (revTo xs i)[k]? = if k < i ∨ xs.length - i ≤ k then xs[xs.length - 1 - k]? else xs[k]? := by
  intro i
  induction i with
  | zero => intro _ k hk; rw [if_neg (by omega)]; rfl
  | succ i ih =>
    intro h k hk
    have h0 := ih (by omega)
    have hl := revTo_len xs i
    have a1 := h0 i (by omega)
    rw [if_neg (by omega)] at a1
    have a2 := h0 (xs.length - 1 - i) (by omega)
    rw [if_neg (by omega)] at a2
    have e1 : (revTo xs i).getD i zeroCorner = xs[i]'(by omega) := by rw [List.getD_eq_getElem?_getD, a1, List.getElem?_eq_getElem (by omega)]; rfl
    have e2 : (revTo xs i).getD (xs.length - 1 - i) zeroCorner = xs[xs.length - 1 - i]'(by omega) := by rw [List.getD_eq_getElem?_getD, a2, List.getElem?_eq_getElem (by omega)]; rfl
    show (((revTo xs i).set i ((revTo xs i).getD (xs.length - 1 - i) zeroCorner)).set (xs.length - 1 - i) ((revTo xs i).getD i zeroCorner))[k]? = _
    rw [e1, e2]
    by_cases c1 : k = xs.length - 1 - i
    · subst c1
      rw [List.getElem?_set_self (by simp [hl]; omega), if_pos (by omega), List.getElem?_eq_getElem (by omega)]
      congr 1
      congr 1
      omega
    · rw [List.getElem?_set_ne (by omega)]
      by_cases c2 : k = i
      · subst c2
        rw [List.getElem?_set_self (by omega), if_pos (by omega), List.getElem?_eq_getElem (by omega)]
      · rw [List.getElem?_set_ne (by omega), h0 k hk]
        by_cases c3 : k < i ∨ xs.length - i ≤ k
        · rw [if_pos c3, if_pos (by omega)]
        · rw [if_neg c3, if_neg (by omega)]
theorem revTo_all {xs : List VCorner} {i : Nat} (h : 2 * i ≤ xs.length) (h2 : xs.length ≤ 2 * i + 1) : revTo xs i = xs.reverse := by
  apply List.ext_getElem?
  intro k
  by_cases hk : k < xs.length
  · rw [revTo_at xs i h k hk, List.getElem?_reverse hk]
    by_cases c : k < i ∨ xs.length - i ≤ k
    · rw [if_pos c]
    · rw [if_neg c, show xs.length - 1 - k = k by omega]
  · rw [List.getElem?_eq_none (by rw [revTo_len]; omega), List.getElem?_eq_none (by rw [List.length_reverse]; omega)]
def RevPost (base g c : Nat) (xs : List VCorner) (w : World) (e : Ending) (w' : World) : Prop := e = .returned (.tuple #[]) ∧ w'.ownsRow base 103 2 (.slice (some ⟨g, 0, none⟩) xs.length c) xs.length (cellsCorner xs.reverse) ∧ w.grownBy w' (some g)
set_option maxHeartbeats 6400000 in
set_option maxRecDepth 100000 in
theorem revCorner_any (base g c : Nat) (xs : List VCorner) (w : World) (h : w.ownsRow base 103 2 (.slice (some ⟨g, 0, none⟩) xs.length c) xs.length (cellsCorner xs)) (hl : xs.length ≤ 1000) :
    Calls Try.prog 126 #[.slice (some ⟨g, 0, none⟩) xs.length c] w (RevPost base g c xs w) := by
  have O0 := Lib.hid h
  clear h
  go_enter Try.func126, Try.ntmps126
  go_wp2
  go_loopw [2, 3] (fun a b wr => ∃ i : Nat, 2 * i ≤ xs.length ∧ a = .int .i64 (i : Int) ∧ b = .int .i64 ((xs.length : Int) - 1 - (i : Int)) ∧ wr.ownsRow base 103 2 (.slice (some ⟨g, 0, none⟩) xs.length c) xs.length (cellsCorner (revTo xs i)) ∧ w.grownBy wr (some g)) (fun a _ _ => xs.length - (intOf a).toNat)
  case atStart => exact ⟨0, by omega, rfl, by simp, O0.out, World.grownBy.refl w _⟩
  case round =>
    obtain ⟨i, hi, rfl, rfl, hown, hg⟩ := hrel
    have O := Lib.hid hown
    have G := Lib.hid hg
    clear hown hg
    by_cases hlt : 2 * i + 1 < xs.length
    · obtain ⟨j, hj⟩ : ∃ j, xs.length - 1 - i = j := ⟨_, rfl⟩
      have ej : (xs.length : Int) - 1 - (i : Int) = (j : Int) := by omega
      rw [ej]
      have hlen := revTo_len xs i
      have RS := Lib.hid (show revTo xs (i + 1) = ((revTo xs i).set i ((revTo xs i).getD j zeroCorner)).set j ((revTo xs i).getD i zeroCorner) from by rw [← hj]; rfl)
      generalize revTo xs i = L at *
      have hp : L[i]? = some (L.getD i zeroCorner) := by rw [List.getD_eq_getElem?_getD, List.getElem?_eq_getElem (by omega)]; rfl
      have hq : L[j]? = some (L.getD j zeroCorner) := by rw [List.getD_eq_getElem?_getD, List.getElem?_eq_getElem (by omega)]; rfl
      generalize L.getD i zeroCorner = p at *
      generalize L.getD j zeroCorner = q at *
      have LL := Lib.hid hlen
      have c0 := O.out.cells (g := g) rfl (i * 2) _ (by rw [show i * 2 = i * 2 + 0 from rfl]; exact cellsCorner_at hp 0 (by omega))
      have c1 := O.out.cells (g := g) rfl (i * 2 + 1) _ (cellsCorner_at hp 1 (by omega))
      have d0 := O.out.cells (g := g) rfl (j * 2) _ (by rw [show j * 2 = j * 2 + 0 from rfl]; exact cellsCorner_at hq 0 (by omega))
      have d1 := O.out.cells (g := g) rfl (j * 2 + 1) _ (cellsCorner_at hq 1 (by omega))
      rw [add_plain, Nat.zero_add] at c0 c1 d0 d1
      have f0 := O.out.frozenAt (i * 2)
      have f1 := O.out.frozenAt (i * 2 + 1)
      have f2 := O.out.frozenAt (j * 2)
      have f3 := O.out.frozenAt (j * 2 + 1)
      have i0 : (0 : Int) ≤ (i : Int) := by omega
      have i1 : (i : Int) < (xs.length : Int) := by omega
      have i2 : (0 : Int) ≤ (j : Int) := by omega
      have i3 : (j : Int) < (xs.length : Int) := by omega
      have i4 : (i : Int) < (j : Int) := by omega
      have v1 : IntKind.i64.wrap ((i : Int) + 1) = (i : Int) + 1 := IntWalk.i64_in _ (by omega)
      have v2 : IntKind.i64.wrap ((j : Int) - 1) = (j : Int) - 1 := IntWalk.i64_in _ (by omega)
      clear hp hq hlen
      go_wp2
      go_region
      go_wp2
      have S1 := own_setCorner O.out (show i < L.length by have := LL.out; omega) q
      have S2 := own_setCorner S1.1 (show j < (L.set i q).length by rw [List.length_set]; have := LL.out; omega) p
      refine ⟨⟨i + 1, by omega, by go_num, ?_, ?_, ?_⟩, by simp [intOf]; omega⟩
      · congr 1; omega
      · rw [RS.out]; exact S2.1
      · have g3 := grown_trans (grown_trans G.out S1.2) S2.2
        exact ⟨g3.os, g3.tape, g3.output, g3.size, g3.block⟩
    · have E := Lib.hid (revTo_all hi (by omega))
      have cc : ¬ ((i : Int) < (xs.length : Int) - 1 - (i : Int)) := by omega
      go_wp2
      go_end0
      exact ⟨rfl, by rw [← E.out]; exact O.out, G.out⟩
end Go.Proofs.Ytpnaciamnigbnaa
