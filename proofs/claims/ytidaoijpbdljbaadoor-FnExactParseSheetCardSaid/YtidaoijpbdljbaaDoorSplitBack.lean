/- The parts that the model's split gives, joined again, are the text; and parts without the byte are told by their join. -/
import Derived.Test.YtidaoijpbdljbaaDoorSplit
import Derived.Test.YtidaoijpbdljbaaDoorStands
import Derived.Lib.Join
import Derived.Lib.JoinLaws
namespace Go.Proofs.YtidaoijpbdljbaaDoor
open Go.RowKit

theorem extract_list' (s : ByteArray) (f k : Nat) : (s.extract f k).data.toList = (s.data.toList.drop f).take (k - f) := by
  simp [List.extract]
theorem join_cons' (x : List UInt8) (l : List (List UInt8)) (sep : List UInt8) (h : l ≠ []) : Lib.join (x :: l) sep = x ++ sep ++ Lib.join l sep := by
  obtain ⟨y, r, rfl⟩ := List.exists_cons_of_ne_nil h
  rw [Lib.join_cons, Lib.join_cons]
  simp [Lib.joinTail]
theorem part_snoc' (s : ByteArray) (f k : Nat) (hf : f ≤ k) (hk : k < s.size) : (s.data.toList.drop f).take (k + 1 - f) = (s.data.toList.drop f).take (k - f) ++ [s[k]] := by
  rw [show k + 1 - f = (k - f) + 1 by omega, List.take_add_one, List.getElem?_drop, show f + (k - f) = k by omega]
  have h : s.data.toList[k]? = some s[k] := by
    rw [List.getElem?_eq_getElem (by rw [← size_list]; exact hk)]
    rfl
  rw [h]; rfl
theorem part_cons' (s : ByteArray) (f k : Nat) (hf : f ≤ k) (hk : k < s.size) : s.data.toList.drop f = (s.data.toList.drop f).take (k - f) ++ [s[k]] ++ s.data.toList.drop (k + 1) := by
  have h := (List.take_append_drop (k - f) (s.data.toList.drop f)).symm
  rw [List.drop_drop, show f + (k - f) = k by omega, drop_cons s k hk] at h
  simpa using h
theorem split_back' (s : ByteArray) (c : UInt8) : ∀ (d f k : Nat), s.size - k = d → k ≤ s.size → f ≤ k → stands ((s.data.toList.drop f).take (k - f)) (c.toNat : Int) = false →
    (splitR s (c.toNat : Int) f k ≠ [] ∧ Lib.join ((splitR s (c.toNat : Int) f k).map (·.data.toList)) [c] = s.data.toList.drop f ∧ ∀ x ∈ splitR s (c.toNat : Int) f k, stands x.data.toList (c.toNat : Int) = false) := by
  intro d
  induction d with
  | zero =>
    intro f k hd hk hf hst
    obtain rfl : k = s.size := by omega
    rw [splitR_end]
    refine ⟨by simp, ?_, fun x hx => ?_⟩
    · simp only [List.map_cons, List.map_nil, extract_list']
      have : Lib.join [(s.data.toList.drop f).take (s.size - f)] [c] = (s.data.toList.drop f).take (s.size - f) := Lib.join_one _ _
      rw [this]
      exact List.take_of_length_le (by rw [List.length_drop, ← size_list]; exact Nat.le_refl _)
    · obtain rfl := List.mem_singleton.1 hx
      rw [extract_list']; exact hst
  | succ d ih =>
    intro f k hd hk hf hst
    by_cases hc : (s[k].toNat : Int) = (c.toNat : Int)
    · obtain ⟨i0, i1, i2⟩ := ih (k + 1) (k + 1) (by omega) (by omega) (Nat.le_refl _) (by simp [stands])
      rw [splitR_hit (by omega) hc]
      refine ⟨by simp, ?_, fun x hx => ?_⟩
      · rw [List.map_cons, join_cons' _ _ _ (by simpa using i0), i1, extract_list']
        have e : s[k] = c := UInt8.toNat_inj.1 (by omega)
        rw [← e]
        exact (part_cons' s f k hf (by omega)).symm
      · rcases List.mem_cons.1 hx with rfl | hx
        · rw [extract_list']; exact hst
        · exact i2 x hx
    · rw [splitR_miss (by omega) hc]
      refine ih f (k + 1) (by omega) (by omega) (by omega) ?_
      rw [part_snoc' s f k hf (by omega), stands_snoc, hst]
      simpa using hc

theorem sep_inj {c : UInt8} : ∀ {x y A B : List UInt8}, c ∉ x → c ∉ y → x ++ c :: A = y ++ c :: B → x = y ∧ A = B
  | [], [], _, _, _, _, h => ⟨rfl, by simpa using h⟩
  | [], b :: y, _, _, _, hy, h => by simp at h; exact absurd (by rw [h.1]; simp) hy
  | a :: x, [], _, _, hx, _, h => by simp at h; exact absurd (by rw [h.1]; simp) hx
  | a :: x, b :: y, A, B, hx, hy, h => by
    simp at h hx hy
    obtain ⟨h1, h2⟩ := sep_inj (x := x) (y := y) (A := A) (B := B) hx.2 hy.2 h.2
    exact ⟨by rw [h.1, h1], h2⟩
theorem join_inj {c : UInt8} : ∀ (xs ys : List (List UInt8)), (∀ x ∈ xs, c ∉ x) → (∀ y ∈ ys, c ∉ y) → xs ≠ [] → ys ≠ [] → Lib.join xs [c] = Lib.join ys [c] → xs = ys
  | [], _, _, _, h, _, _ => absurd rfl h
  | _, [], _, _, _, h, _ => absurd rfl h
  | [x], [y], _, _, _, _, h => by rw [Lib.join_one, Lib.join_one] at h; rw [h]
  | [x], y :: z :: r, hx, _, _, _, h => by
    rw [Lib.join_one, join_cons' y (z :: r) [c] (by simp)] at h
    exact absurd (by rw [h]; simp) (hx x (by simp))
  | x :: z :: r, [y], _, hy, _, _, h => by
    rw [Lib.join_one, join_cons' x (z :: r) [c] (by simp)] at h
    exact absurd (by rw [← h]; simp) (hy y (by simp))
  | x :: z :: r, y :: z' :: r', hx, hy, _, _, h => by
    rw [join_cons' x (z :: r) [c] (by simp), join_cons' y (z' :: r') [c] (by simp)] at h
    obtain ⟨h1, h2⟩ := sep_inj (A := Lib.join (z :: r) [c]) (B := Lib.join (z' :: r') [c]) (hx x (by simp)) (hy y (by simp)) (by simpa using h)
    rw [h1, join_inj (z :: r) (z' :: r') (fun u hu => hx u (List.mem_cons_of_mem _ hu)) (fun u hu => hy u (List.mem_cons_of_mem _ hu)) (by simp) (by simp) h2]
theorem stands_mem {l : List UInt8} {c : UInt8} (h : stands l (c.toNat : Int) = false) : c ∉ l := by
  intro hc
  unfold stands at h
  rw [List.any_eq_false] at h
  exact h c hc (by simp)
/-- The parts of a text that is put together of parts without the byte. -/
theorem splitR_of (s : ByteArray) (c : UInt8) (ws : List ByteArray) (hne : ws ≠ []) (hc : ∀ x ∈ ws, c ∉ x.data.toList) (h : s.data.toList = Lib.join (ws.map (·.data.toList)) [c]) : splitR s (c.toNat : Int) 0 0 = ws := by
  obtain ⟨i0, i1, i2⟩ := split_back' s c _ 0 0 rfl (by omega) (Nat.le_refl _) (by simp [stands])
  rw [List.drop_zero, h] at i1
  have e := join_inj _ _ (fun x hx => by
    obtain ⟨y, hy, rfl⟩ := List.mem_map.1 hx
    exact stands_mem (i2 y hy)) (fun x hx => by
    obtain ⟨y, hy, rfl⟩ := List.mem_map.1 hx
    exact hc y hy) (by simpa using i0) (by simpa using hne) i1
  have hinj : ∀ (a b : List ByteArray), a.map (·.data.toList) = b.map (·.data.toList) → a = b := by
    intro a
    induction a with
    | nil => intro b hb; cases b <;> simp at hb; rfl
    | cons x a ih =>
      intro b hb
      cases b with
      | nil => simp at hb
      | cons y b =>
        simp only [List.map_cons, List.cons.injEq] at hb
        rw [bytes_ext hb.1, ih b hb.2]
  exact hinj _ _ e
end Go.Proofs.YtidaoijpbdljbaaDoor
