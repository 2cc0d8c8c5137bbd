/- Plain mathematics of decimal texts: what they look like, and that they are read back. -/
import Derived.Test.YtidaoijpbdljbaaDoorRead
import Derived.Lib.IndexBytes
namespace Go.Proofs.YtidaoijpbdljbaaDoor
open Go.RowKit

def IsDig (c : UInt8) : Prop := 48 ≤ (c.toNat : Int) ∧ (c.toNat : Int) ≤ 57
/-- The number of digits that are left, x read so far. -/
def val : Int → List UInt8 → Int
  | x, [] => x
  | x, c :: r => val (10 * x + ((c.toNat : Int) - 48)) r
theorem val_snoc (l : List UInt8) (c : UInt8) : ∀ x, val x (l ++ [c]) = 10 * val x l + ((c.toNat : Int) - 48) := by
  induction l with
  | nil => intro x; rfl
  | cons d r ih => intro x; exact ih _
theorem val_mono (l : List UInt8) : ∀ x, 0 ≤ x → (∀ c ∈ l, IsDig c) → x ≤ val x l := by
  induction l with
  | nil => intro x _ _; exact Int.le_refl _
  | cons d r ih =>
    intro x h0 h
    have hd := h d (by simp)
    have := ih (10 * x + ((d.toNat : Int) - 48)) (by have := hd.1; omega) (fun c hc => h c (by simp [hc]))
    have := hd.1
    simp only [val]; omega
theorem val_bd (l : List UInt8) : ∀ x, 0 ≤ x → (∀ c ∈ l, IsDig c) → 0 ≤ val x l ∧ val x l ≤ (x + 1) * 10 ^ l.length - 1 := by
  induction l with
  | nil => intro x h _; simp [val, h]
  | cons d r ih =>
    intro x h0 h
    have hd := h d (by simp)
    have hd1 := hd.1
    have hd2 := hd.2
    obtain ⟨a, b⟩ := ih (10 * x + ((d.toNat : Int) - 48)) (by omega) (fun c hc => h c (by simp [hc]))
    refine ⟨a, Int.le_trans b ?_⟩
    rw [List.length_cons, Int.pow_succ, show (x + 1) * (10 ^ r.length * 10) = ((x + 1) * 10) * (10 : Int) ^ r.length from by rw [Int.mul_comm ((10 : Int) ^ r.length), Int.mul_assoc]]
    have hp : (0 : Int) ≤ 10 ^ r.length := Int.pow_nonneg (by omega)
    have := Int.mul_le_mul_of_nonneg_right (show (10 * x + ((d.toNat : Int) - 48) + 1) ≤ (x + 1) * 10 by omega) hp
    omega
theorem val_six (l : List UInt8) (hl : l.length ≤ 6) (h : ∀ c ∈ l, IsDig c) : 0 ≤ val 0 l ∧ val 0 l ≤ 999999 := by
  obtain ⟨a, b⟩ := val_bd l 0 (by omega) h
  refine ⟨a, Int.le_trans b ?_⟩
  have : (10 : Int) ^ l.length ≤ 10 ^ 6 := by
    have := Nat.pow_le_pow_right (n := 10) (by omega) hl
    exact_mod_cast this
  simp at this ⊢; omega
theorem dig_ofNat (n : Nat) (h : n < 10) : (UInt8.ofNat (48 + n)).toNat = 48 + n := by
  rw [UInt8.toNat_ofNat']; omega
theorem dec_dig (n : Nat) : ∀ c ∈ Lib.decDigits n, IsDig c := by
  induction n using Nat.strongRecOn with
  | _ n ih =>
    intro c hc
    by_cases h : n < 10
    · rw [Lib.decDigits, dif_pos h] at hc
      obtain rfl := List.mem_singleton.1 hc
      unfold IsDig; rw [dig_ofNat n h]; omega
    · rw [Lib.decDigits, dif_neg h, List.mem_append] at hc
      rcases hc with hc | hc
      · exact ih (n / 10) (by omega) c hc
      · obtain rfl := List.mem_singleton.1 hc
        unfold IsDig; rw [dig_ofNat (n % 10) (by omega)]; omega
theorem dec_val (n : Nat) : val 0 (Lib.decDigits n) = n := by
  induction n using Nat.strongRecOn with
  | _ n ih =>
    by_cases h : n < 10
    · rw [Lib.decDigits, dif_pos h]; simp only [val]; rw [dig_ofNat n h]; omega
    · rw [Lib.decDigits, dif_neg h, val_snoc, ih (n / 10) (by omega), dig_ofNat (n % 10) (by omega)]; omega
theorem dec_len (k n : Nat) (h : n < 10 ^ (k + 1)) : 1 ≤ (Lib.decDigits n).length ∧ (Lib.decDigits n).length ≤ k + 1 := by
  induction k generalizing n with
  | zero => rw [Lib.decDigits, dif_pos (by simpa using h)]; simp
  | succ k ih =>
    by_cases h9 : n < 10
    · rw [Lib.decDigits, dif_pos h9]; simp
    · rw [Lib.decDigits, dif_neg h9]
      have := ih (n / 10) (by rw [Nat.pow_succ] at h; omega)
      simp; omega
theorem leadG_val (l : List UInt8) : ∀ k x sg, 0 ≤ x → (∀ c ∈ l, IsDig c) → val x l ≤ 999999 → leadG l k x sg = sg * val x l := by
  induction l with
  | nil => intro k x sg _ _ _; rfl
  | cons d r ih =>
    intro k x sg h0 h hv
    have hd := h d (by simp)
    have hm := val_mono (d :: r) x h0 h
    unfold IsDig at hd
    simp only [leadG]
    rw [if_neg (by omega), if_pos ⟨hd.1, hd.2, by omega⟩]
    exact ih _ _ _ (by omega) (fun c hc => h c (by simp [hc])) hv
theorem numOf_list (n : Nat) : (numOf n).data.toList = Lib.decDigits n := by simp [numOf, strOf]
theorem textOf_list_pos (n : Int) (h : 0 ≤ n) : (textOf n).data.toList = Lib.decDigits n.toNat := by rw [textOf_pos n h, numOf_list]
theorem textOf_list_neg (n : Int) (h : n < 0) : (textOf n).data.toList = 45 :: Lib.decDigits (-n).toNat := by
  unfold textOf Lib.itoa; rw [if_pos h, show n.natAbs = (-n).toNat from by omega]; simp [strOf]
theorem lead_text (n : Int) (h0 : -999999 ≤ n) (h1 : n ≤ 999999) : leadG (textOf n).data.toList 0 0 1 = n := by
  by_cases h : 0 ≤ n
  · rw [textOf_list_pos n h, leadG_val _ _ _ _ (by omega) (dec_dig _) (by rw [dec_val]; omega), dec_val]; omega
  · rw [textOf_list_neg n (by omega)]
    simp only [leadG]
    rw [if_pos (by simp), leadG_val _ _ _ _ (by omega) (dec_dig _) (by rw [dec_val]; omega), dec_val]; omega

/-- What ParseInt is to answer at s. -/
def IsParse (s : ByteArray) (r : Int) (b : Bool) : Prop :=
  (b = true ∧ -999999 ≤ r ∧ r ≤ 999999 ∧ s = textOf r) ∨ (b = false ∧ r = 0 ∧ ∀ n, -999999 ≤ n → n ≤ 999999 → s ≠ textOf n)
theorem IsParse.one {s : ByteArray} {r r' : Int} {b b' : Bool} (h : IsParse s r b) (h' : IsParse s r' b') : r = r' ∧ b = b' := by
  rcases h with ⟨rfl, a0, a1, rfl⟩ | ⟨rfl, rfl, a⟩ <;> rcases h' with ⟨rfl, c0, c1, e⟩ | ⟨rfl, rfl, c⟩
  · refine ⟨?_, rfl⟩
    rw [← lead_text r a0 a1, e, lead_text r' c0 c1]
  · exact absurd rfl (c r a0 a1)
  · exact absurd e (a r' c0 c1)
  · exact ⟨rfl, rfl⟩
theorem IsParse.no {s : ByteArray} (h : ∀ n, -999999 ≤ n → n ≤ 999999 → s ≠ textOf n) : IsParse s 0 false := .inr ⟨rfl, rfl, h⟩
theorem IsParse.yes {s : ByteArray} {r : Int} (h0 : -999999 ≤ r) (h1 : r ≤ 999999) (h : s = textOf r) : IsParse s r true := .inl ⟨rfl, h0, h1, h⟩

/-- A decimal text without a sign in front is a natural number's. -/
theorem body_pos {s : ByteArray} {n : Int} (hs : s.size ≤ 1 ∨ ∃ h : 0 < s.size, (s[0].toNat : Int) ≠ 45) (h0 : -999999 ≤ n) (h1 : n ≤ 999999) (e : s = textOf n) :
    1 ≤ s.size ∧ s.size ≤ 6 ∧ (∀ c ∈ s.data.toList, IsDig c) ∧ val 0 s.data.toList = n := by
  have hn : 0 ≤ n := by
    by_cases h : 0 ≤ n
    · exact h
    · exfalso
      have hl := textOf_list_neg n (by omega)
      have hd := dec_len 5 (-n).toNat (by omega)
      rw [← e] at hl
      have hz : s.size = (Lib.decDigits (-n).toNat).length + 1 := by rw [size_list, hl]; simp
      rcases hs with hs | ⟨h, hs⟩
      · omega
      · apply hs
        have : s.data.toList[0]'(by rw [hl]; simp) = 45 := by simp [hl]
        show ((s.data[0]'h).toNat : Int) = 45
        rw [← Array.getElem_toList h, this]; rfl
  have hl := textOf_list_pos n hn
  have hd := dec_len 5 n.toNat (by omega)
  rw [← e] at hl
  have hz : s.size = (Lib.decDigits n.toNat).length := by rw [size_list, hl]
  exact ⟨by omega, by omega, by rw [hl]; exact dec_dig _, by rw [hl, dec_val]; omega⟩
theorem extract_one_list (s : ByteArray) : (s.extract 1 s.size).data.toList = s.data.toList.drop 1 := by
  exact Lib.extract_to_end s 1
theorem extract_one_size (s : ByteArray) : (s.extract 1 s.size).size = s.size - 1 := by simp
/-- One with a sign in front is a negative number's. -/
theorem body_neg {s : ByteArray} {n : Int} (h : 1 < s.size) (hs : (s[0].toNat : Int) = 45) (h0 : -999999 ≤ n) (h1 : n ≤ 999999) (e : s = textOf n) :
    1 ≤ (s.extract 1 s.size).size ∧ (s.extract 1 s.size).size ≤ 6 ∧ (∀ c ∈ (s.extract 1 s.size).data.toList, IsDig c) ∧ val 0 (s.extract 1 s.size).data.toList = -n := by
  have hn : n < 0 := by
    by_cases h' : n < 0
    · exact h'
    · exfalso
      have hl := textOf_list_pos n (by omega)
      rw [← e] at hl
      have hm : s[0] ∈ s.data.toList := by show s.data[0]'(by show 0 < s.size; omega) ∈ s.data.toList; simp
      rw [hl] at hm
      have := (dec_dig _ _ hm).1
      omega
  have hl := textOf_list_neg n hn
  have hd := dec_len 5 (-n).toNat (by omega)
  rw [← e] at hl
  rw [extract_one_size, extract_one_list, hl]
  have hz : s.size = (Lib.decDigits (-n).toNat).length + 1 := by rw [size_list, hl]; simp
  refine ⟨by omega, by omega, by simpa using dec_dig _, ?_⟩
  rw [List.drop_one, List.tail_cons, dec_val]; omega
end Go.Proofs.YtidaoijpbdljbaaDoor
