/- What SplitString tells at a text with a mark of one byte, JoinStrings puts together again. -/
import Derived.Test.YtmbmcnmippplaaaSplits
import Derived.Test.YtmbmcnmippplaaaJoin
namespace Go.Proofs.Ytmbmcnmippplaaa
open Go.RowKit

theorem extract_list (s : ByteArray) (f k : Nat) : (s.extract f k).data.toList = (s.data.toList.drop f).take (k - f) := by
  simp [List.extract]
theorem join_cons (x : List UInt8) (l : List (List UInt8)) (sep : List UInt8) (h : l ≠ []) : Lib.join (x :: l) sep = x ++ sep ++ Lib.join l sep := by
  obtain ⟨y, r, rfl⟩ := List.exists_cons_of_ne_nil h
  rw [Lib.join_cons, Lib.join_cons]
  simp [Lib.joinTail]
theorem part_snoc (s : ByteArray) (f k : Nat) (hf : f ≤ k) (hk : k < s.size) : (s.data.toList.drop f).take (k + 1 - f) = (s.data.toList.drop f).take (k - f) ++ [s[k]] := by
  rw [show k + 1 - f = (k - f) + 1 by omega, List.take_add_one, List.getElem?_drop, show f + (k - f) = k by omega]
  have h : s.data.toList[k]? = some s[k] := by
    rw [List.getElem?_eq_getElem (by rw [← size_list]; exact hk)]
    rfl
  rw [h]; rfl
theorem part_cons (s : ByteArray) (f k : Nat) (hf : f ≤ k) (hk : k < s.size) : s.data.toList.drop f = (s.data.toList.drop f).take (k - f) ++ [s[k]] ++ s.data.toList.drop (k + 1) := by
  have h := (List.take_append_drop (k - f) (s.data.toList.drop f)).symm
  rw [List.drop_drop, show f + (k - f) = k by omega, drop_cons s k hk] at h
  simpa using h
theorem split_back (s : ByteArray) (c : UInt8) : ∀ (d f k : Nat), s.size - k = d → k ≤ s.size → f ≤ k → stands ((s.data.toList.drop f).take (k - f)) (c.toNat : Int) = false →
    (splitR s (c.toNat : Int) f k ≠ [] ∧ Lib.join ((splitR s (c.toNat : Int) f k).map (·.data.toList)) [c] = s.data.toList.drop f ∧ ∀ x ∈ splitR s (c.toNat : Int) f k, stands x.data.toList (c.toNat : Int) = false) := by
  intro d
  induction d with
  | zero =>
    intro f k hd hk hf hst
    obtain rfl : k = s.size := by omega
    rw [splitR_end]
    refine ⟨by simp, ?_, fun x hx => ?_⟩
    · simp only [List.map_cons, List.map_nil, extract_list]
      have : Lib.join [(s.data.toList.drop f).take (s.size - f)] [c] = (s.data.toList.drop f).take (s.size - f) := Lib.join_one _ _
      rw [this]
      exact List.take_of_length_le (by rw [List.length_drop, ← size_list]; exact Nat.le_refl _)
    · obtain rfl := List.mem_singleton.1 hx
      rw [extract_list]; exact hst
  | succ d ih =>
    intro f k hd hk hf hst
    by_cases hc : (s[k].toNat : Int) = (c.toNat : Int)
    · obtain ⟨i0, i1, i2⟩ := ih (k + 1) (k + 1) (by omega) (by omega) (Nat.le_refl _) (by simp [stands])
      rw [splitR_hit (by omega) hc]
      refine ⟨by simp, ?_, fun x hx => ?_⟩
      · rw [List.map_cons, join_cons _ _ _ (by simpa using i0), i1, extract_list]
        have e : s[k] = c := UInt8.toNat_inj.1 (by omega)
        rw [← e]
        exact (part_cons s f k hf (by omega)).symm
      · rcases List.mem_cons.1 hx with rfl | hx
        · rw [extract_list]; exact hst
        · exact i2 x hx
    · rw [splitR_miss (by omega) hc]
      refine ih f (k + 1) (by omega) (by omega) (by omega) ?_
      rw [part_snoc s f k hf (by omega), stands_snoc, hst]
      simpa using hc
/-- What SplitString tells, JoinStrings takes, and gives the text back. -/
theorem splits_join (s sep : ByteArray) (h : okSplit s sep = true) : OkJoin (splitXs s sep) sep ∧ joinB (splitXs s sep) sep = s := by
  obtain ⟨h0, h1⟩ := (okSplit_iff _ _).1 h
  obtain ⟨c, hc⟩ : ∃ c, sep.data.toList = [c] := by
    have : sep.data.toList.length = 1 := by rw [← size_list]; exact h1
    exact List.length_eq_one_iff.1 this
  have hcv : cvOf sep = (c.toNat : Int) := by unfold cvOf; rw [hc]; rfl
  obtain ⟨i0, i1, i2⟩ := split_back s c _ 0 0 rfl (by omega) (Nat.le_refl _) (by simp [stands])
  have hx : splitXs s sep = splitR s (c.toNat : Int) 0 0 := by unfold splitXs; rw [if_pos h, hcv]
  have hj : joinB (splitXs s sep) sep = s := by
    apply bytes_ext
    unfold joinB
    rw [strOf_list, hx, hc, i1]
    simp
  refine ⟨⟨h1, by rw [hx]; exact i0, by rw [hx, hcv]; exact i2, ?_⟩, hj⟩
  have := joinB_size (splitXs s sep) sep (by rw [hx]; exact i0) h1
  rw [hj] at this
  omega
end Go.Proofs.Ytmbmcnmippplaaa
