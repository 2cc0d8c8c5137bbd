/- Round trips of the law FnStrings, told of texts: a sealed text verifies; with one byte changed it does not. -/
import Derived.Test.YtmbmcnmippplaaaDoorOneByte
import Derived.Laws.BytesArg
namespace Go.Proofs.YtmbmcnmippplaaaDoor
open Go.RowKit

theorem clear_of {l : List UInt8} (h : stands l 35 = false) : ∀ x ∈ l, x ≠ 35 := by
  intro x hx e
  subst e
  unfold stands at h
  rw [List.any_eq_false] at h
  exact h _ hx (by decide)
theorem dig_clear {l : List UInt8} (h : ∀ c ∈ l, IsDig c) : ∀ x ∈ l, x ≠ 35 := by
  intro x hx e
  subst e
  have := h _ hx
  revert this
  unfold IsDig
  decide
theorem text_clear (l : List UInt8) : ∀ x ∈ (textOf (ck l)).data.toList, x ≠ 35 := by
  rw [textOf_list_pos _ (ck_bd l).1]
  exact dig_clear (dec_dig _)
theorem sealOf_list (x : ByteArray) : (sealOf x).data.toList = x.data.toList ++ 35 :: (textOf (ck x.data.toList)).data.toList := by
  unfold sealOf
  rw [bytes_append, bytes_append]
  simp
theorem ck_text_inj (l k : List UInt8) (h : (textOf (ck l)).data.toList = (textOf (ck k)).data.toList) : ck l = ck k := by
  rw [textOf_list_pos _ (ck_bd l).1, textOf_list_pos _ (ck_bd k).1] at h
  have e1 := dec_val (ck l).toNat
  have e2 := dec_val (ck k).toNat
  rw [h] at e1
  have := (ck_bd l).1
  have := (ck_bd k).1
  omega
theorem pre_seal (x : ByteArray) (h : okSeal x = true) : preOf (sealOf x) = x := by
  have hc := clear_of ((okSeal_iff x).1 h).2.1
  apply bytes_ext
  rw [preOf_list, sealOf_list, List.takeWhile_append_of_pos (fun y hy => by
    have := hc y hy
    simp
    intro e
    exact this (UInt8.toNat_inj.1 (by have : (35 : UInt8).toNat = 35 := rfl; omega)))]
  simp
theorem ver_seal (x : ByteArray) (h : okSeal x = true) : okVer (sealOf x) = true :=
  okVer_of (by rw [pre_seal x h]; exact h) (by rw [pre_seal x h])
theorem ver_changed (x b : ByteArray) (k : Nat) (c : UInt8) (h : okSeal x = true) (hb : b.data.toList = (sealOf x).data.toList.set k c) (hk : ∃ hk : k < (sealOf x).size, (sealOf x)[k] ≠ c) : okVer b = false := by
  by_cases hv : okVer b = true
  · exfalso
    obtain ⟨_, hv⟩ := (okVer_iff b).1 hv
    have hl : (sealOf (preOf b)).data.toList = (sealOf x).data.toList.set k c := by rw [hv]; exact hb
    rw [sealOf_list, sealOf_list] at hl
    refine one_byte x.data.toList (preOf b).data.toList _ _ k c (clear_of ((okSeal_iff x).1 h).2.1) (text_clear _) (clear_of (preOf_clear b)) (text_clear _) (fun e => ck_text_inj _ _ e) hl (fun e => ?_) (fun e => by rw [e])
    obtain ⟨hk, hne⟩ := hk
    rw [← sealOf_list] at e
    have h1 : ((sealOf x).data.toList.set k c)[k]? = some c := List.getElem?_set_self (by rw [← size_list]; exact hk)
    rw [e, List.getElem?_eq_getElem (by rw [← size_list]; exact hk)] at h1
    exact hne (Option.some.inj h1)
  · simpa using hv
theorem bits_xor_u8_nat (a b : Nat) (ha : a < 256) (hb : b < 256) : bits .xor .u8 (a : Int) (b : Int) = ((a ^^^ b : Nat) : Int) := by
  have hx : a ^^^ b < 2 ^ 8 := Nat.xor_lt_two_pow (by omega) (by omega)
  have h1 : (BitVec.ofInt 8 (a : Int)).toNat = a := by
    rw [BitVec.ofInt_natCast, BitVec.toNat_ofNat]; exact Nat.mod_eq_of_lt (by omega)
  have h2 : (BitVec.ofInt 8 (b : Int)).toNat = b := by
    rw [BitVec.ofInt_natCast, BitVec.toNat_ofNat]; exact Nat.mod_eq_of_lt (by omega)
  show IntKind.u8.wrap ((BitVec.ofInt 8 (a : Int) ^^^ BitVec.ofInt 8 (b : Int)).toNat : Int) = _
  rw [BitVec.toNat_xor, h1, h2, IntKind.wrap_u8]
  omega
/-- A byte xored with one that is not nothing is another. -/
theorem xor_other (a : UInt8) (v : Nat) (h1 : 1 ≤ v) (h2 : v ≤ 255) : ∃ c : UInt8, bits .xor .u8 (a.toNat : Int) (v : Int) = (c.toNat : Int) ∧ a ≠ c := by
  have ha := a.toNat_lt
  have hx : a.toNat ^^^ v < 2 ^ 8 := Nat.xor_lt_two_pow (by omega) (by omega)
  have hc : (UInt8.ofNat (a.toNat ^^^ v)).toNat = a.toNat ^^^ v := by
    rw [UInt8.toNat_ofNat']; exact Nat.mod_eq_of_lt (by omega)
  refine ⟨UInt8.ofNat (a.toNat ^^^ v), by rw [bits_xor_u8_nat _ _ (by omega) (by omega), hc], fun e => ?_⟩
  have e' : a.toNat = a.toNat ^^^ v := by rw [← hc, ← e]
  have h3 : a.toNat ^^^ a.toNat = a.toNat ^^^ (a.toNat ^^^ v) := by rw [← e']
  rw [Nat.xor_self, ← Nat.xor_assoc, Nat.xor_self, Nat.zero_xor] at h3
  omega
end Go.Proofs.YtmbmcnmippplaaaDoor
