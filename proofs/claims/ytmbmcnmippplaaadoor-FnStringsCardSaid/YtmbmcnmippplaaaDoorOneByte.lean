/- One changed byte of a sealed text: no text whose seal it is. -/
import Derived.Test.YtmbmcnmippplaaaDoorVerify
import Derived.Test.YtmbmcnmippplaaaDoorDec
namespace Go.Proofs.YtmbmcnmippplaaaDoor
open Go.RowKit

theorem ckStep_bd (h : Int) (c : UInt8) : 0 ≤ ckStep h c ∧ ckStep h c ≤ 999978 := by unfold ckStep; omega
theorem ckStep_inj (h k : Int) (c : UInt8) (h0 : 0 ≤ h) (h1 : h ≤ 999978) (k0 : 0 ≤ k) (k1 : k ≤ 999978) (e : ckStep h c = ckStep k c) : h = k := by
  unfold ckStep at e
  omega
theorem ckStep_byte (h : Int) (a c : UInt8) (e : ckStep h a = ckStep h c) : a = c := by
  have h1 := u8_bd a
  have h2 := u8_bd c
  have h3 : (0 : Int) ≤ (a.toNat : Int) := by omega
  have h4 : (0 : Int) ≤ (c.toNat : Int) := by omega
  unfold ckStep at e
  have : (a.toNat : Int) = (c.toNat : Int) := by omega
  exact UInt8.toNat_inj.1 (by omega)
theorem fold_inj (l : List UInt8) : ∀ h k : Int, 0 ≤ h → h ≤ 999978 → 0 ≤ k → k ≤ 999978 → l.foldl ckStep h = l.foldl ckStep k → h = k := by
  induction l with
  | nil => intro h k _ _ _ _ e; exact e
  | cons c l ih =>
    intro h k h0 h1 k0 k1 e
    exact ckStep_inj h k c h0 h1 k0 k1 (ih _ _ (ckStep_bd h c).1 (ckStep_bd h c).2 (ckStep_bd k c).1 (ckStep_bd k c).2 e)
theorem ck_one (A R : List UInt8) (a c : UInt8) (e : ck (A ++ a :: R) = ck (A ++ c :: R)) : a = c := by
  unfold ck at e
  rw [List.foldl_append, List.foldl_append, List.foldl_cons, List.foldl_cons] at e
  exact ckStep_byte _ _ _ (fold_inj R _ _ (ckStep_bd _ _).1 (ckStep_bd _ _).2 (ckStep_bd _ _).1 (ckStep_bd _ _).2 e)
theorem ck_set (X : List UInt8) (k : Nat) (c : UInt8) (hk : k < X.length) (e : ck (X.set k c) = ck X) : X.set k c = X := by
  have h1 : X = X.take k ++ X[k] :: X.drop (k + 1) := by simp
  have h2 : X.set k c = X.take k ++ c :: X.drop (k + 1) := List.set_eq_take_append_cons_drop .. |>.trans (by rw [if_pos hk])
  rw [h2] at e ⊢
  conv at e => rhs; rw [h1]
  rw [ck_one _ _ _ _ e]
  exact h1.symm

/-- Where the mark stands in a sealed text. -/
theorem mark_at (X D : List UInt8) (hX : ∀ x ∈ X, x ≠ 35) (hD : ∀ x ∈ D, x ≠ 35) (i : Nat) : (X ++ 35 :: D)[i]? = some 35 ↔ i = X.length := by
  constructor
  · intro h
    by_cases h1 : i < X.length
    · rw [List.getElem?_append_left h1] at h
      exact absurd rfl (hX 35 (List.mem_of_getElem? h))
    · rw [List.getElem?_append_right (by omega)] at h
      by_cases h2 : i - X.length = 0
      · omega
      · obtain ⟨j, hj⟩ : ∃ j, i - X.length = j + 1 := ⟨i - X.length - 1, by omega⟩
        rw [hj, List.getElem?_cons_succ] at h
        exact absurd rfl (hD 35 (List.mem_of_getElem? h))
  · rintro rfl; simp
theorem one_byte (X P D E : List UInt8) (k : Nat) (c : UInt8) (hX : ∀ x ∈ X, x ≠ 35) (hD : ∀ x ∈ D, x ≠ 35) (hP : ∀ x ∈ P, x ≠ 35) (hE : ∀ x ∈ E, x ≠ 35)
    (hDE : D = E → ck X = ck P) (hB : P ++ 35 :: E = (X ++ 35 :: D).set k c) (hne : (X ++ 35 :: D).set k c ≠ X ++ 35 :: D) (hXP : X = P → D = E) : False := by
  have hoff : ∀ i, i ≠ k → (P ++ 35 :: E)[i]? = (X ++ 35 :: D)[i]? := fun i hi => by rw [hB, List.getElem?_set_ne (Ne.symm hi)]
  have hlen : P.length = X.length := by
    by_cases hk : k = X.length
    · by_cases hp : P.length = k
      · omega
      · have := (mark_at P E hP hE P.length).2 rfl
        rw [hoff _ hp] at this
        exact (mark_at X D hX hD _).1 this
    · have := (mark_at X D hX hD X.length).2 rfl
      rw [← hoff _ (Ne.symm hk)] at this
      exact ((mark_at P E hP hE _).1 this).symm
  by_cases hk : k < X.length
  · rw [List.set_append_left _ _ hk] at hB
    obtain ⟨h1, h2⟩ := List.append_inj hB (by simp [hlen])
    have h3 : D = E := by simpa using (List.cons.inj h2).2.symm
    have := hDE h3
    rw [h1] at this
    have h4 := ck_set X k c hk this.symm
    rw [List.set_append_left _ _ hk, h4] at hne
    exact hne rfl
  · rw [List.set_append_right _ _ (by omega)] at hB
    obtain ⟨h1, h2⟩ := List.append_inj hB hlen
    have h3 := hXP h1.symm
    rw [List.set_append_right _ _ (by omega), ← h2, h3] at hne
    exact hne rfl
end Go.Proofs.YtmbmcnmippplaaaDoor
