/- A reader's text read again: by the marks (the program's way) and by the spaces (the model's way): the same reader. The mathematics. -/
import Derived.Test.YtofgpiikhifiaabDoorRt2
import Derived.Test.YtofgpiikhifiaabDoorPm
namespace Go.Proofs.YtofgpiikhifiaabDoor
open Go.RowKit

def mSp : ByteArray := ⟨#[32]⟩
def mCl : ByteArray := ⟨#[32, 99]⟩
def mSi : ByteArray := ⟨#[32, 115, 105, 110, 99, 101, 32]⟩
def mOw : ByteArray := ⟨#[32, 111, 119, 101, 115, 32]⟩
/-- What the program guesses. -/
def candI (s : ByteArray) : VReader :=
  ⟨(parseV (cutB s mSp).1).1, (cutB (cutB s mSp).2.1 mCl).1, (parseV (cutB (cutB (cutB (cutB s mSp).2.1 mCl).2.1 mSi).2.1 mOw).1).1, (parseV (cutB (cutB (cutB s mSp).2.1 mCl).2.1 mSi).1).1, (parseV (cutB (cutB (cutB (cutB s mSp).2.1 mCl).2.1 mSi).2.1 mOw).2.1).1⟩
def owesL (r : VReader) : List UInt8 := if 0 < r.Fines then [32, 111, 119, 101, 115, 32] ++ (textOf r.Fines).data.toList else []
theorem rdText_list (r : VReader) : (rdText r).data.toList = (textOf r.Id).data.toList ++ ([32] ++ (r.Name.data.toList ++ ([32, 99] ++ ((textOf r.Class).data.toList ++ ([32, 115, 105, 110, 99, 101, 32] ++ ((textOf r.Joined).data.toList ++ owesL r)))))) := by
  unfold rdText rdBase owesL
  split <;> simp
theorem word_no {s : ByteArray} (h : wordB s = true) {c : UInt8} (hc : c.toNat < 97 ∨ 122 < c.toNat) : c ∉ s.data.toList := by
  unfold wordB at h
  simp only [Bool.and_eq_true, List.all_eq_true] at h
  intro hm
  have := h.1 c hm
  simp [lowB] at this
  omega
theorem cutB_at {s t m r : ByteArray} (c : UInt8) (p : Nat) (hm : m.data.toList[p]? = some c) (hp : ∀ j, j < p → m.data.toList[j]? ≠ some c) (ht : c ∉ t.data.toList) (hs : s.data.toList = t.data.toList ++ (m.data.toList ++ r.data.toList)) : cutB s m = (t, r, true) := by
  unfold cutB
  rw [hs, cut_at _ _ _ c p hm hp ht]
theorem cutB_none {s m : ByteArray} (c : UInt8) (p : Nat) (hm : m.data.toList[p]? = some c) (ht : c ∉ s.data.toList) : cutB s m = (s, ByteArray.empty, false) := by
  have hi : Lib.index s.data.toList m.data.toList = -1 := Lib.index_none fun j _ => by
    rw [Bool.eq_false_iff]
    intro h
    obtain ⟨r, hr⟩ := occ_of h
    apply ht
    have : c ∈ s.data.toList.drop j := by
      rw [hr]; exact List.mem_append_left _ (List.mem_of_getElem? hm)
    exact List.mem_of_mem_drop this
  unfold cutB Lib.cut
  rw [if_neg (by omega)]
  rfl
def owesB (r : VReader) : ByteArray := strOf (owesL r)
theorem candI_of {s : ByteArray} {r : VReader} (hok : r.ok = true) (h : rdText r = s) : candI s = r := by
  obtain ⟨⟨a0, a1⟩, hw, ⟨b0, b1⟩, ⟨c0, c1⟩, ⟨d0, d1⟩⟩ := rdOk_iff.1 hok
  have hl : s.data.toList = _ := (congrArg (·.data.toList) h).symm.trans (rdText_list r)
  have e1 : cutB s mSp = (textOf r.Id, strOf (r.Name.data.toList ++ ([32, 99] ++ ((textOf r.Class).data.toList ++ ([32, 115, 105, 110, 99, 101, 32] ++ ((textOf r.Joined).data.toList ++ owesL r))))), true) :=
    cutB_at 32 0 rfl (by omega) (text_digs (by omega) (by decide)) (by rw [hl, strOf_list]; rfl)
  have e2 : cutB (strOf (r.Name.data.toList ++ ([32, 99] ++ ((textOf r.Class).data.toList ++ ([32, 115, 105, 110, 99, 101, 32] ++ ((textOf r.Joined).data.toList ++ owesL r)))))) mCl = (r.Name, strOf ((textOf r.Class).data.toList ++ ([32, 115, 105, 110, 99, 101, 32] ++ ((textOf r.Joined).data.toList ++ owesL r))), true) :=
    cutB_at 32 0 rfl (by omega) (word_no hw (by decide)) (by rw [strOf_list, strOf_list]; rfl)
  have e3 : cutB (strOf ((textOf r.Class).data.toList ++ ([32, 115, 105, 110, 99, 101, 32] ++ ((textOf r.Joined).data.toList ++ owesL r)))) mSi = (textOf r.Class, strOf ((textOf r.Joined).data.toList ++ owesL r), true) :=
    cutB_at 32 0 rfl (by omega) (text_digs (by omega) (by decide)) (by rw [strOf_list, strOf_list]; rfl)
  have e4 : cutB (strOf ((textOf r.Joined).data.toList ++ owesL r)) mOw = (textOf r.Joined, if 0 < r.Fines then textOf r.Fines else ByteArray.empty, decide (0 < r.Fines)) := by
    by_cases hf : 0 < r.Fines
    · rw [if_pos hf, decide_eq_true hf]
      exact cutB_at 32 0 rfl (by omega) (text_digs b0 (by decide)) (by rw [strOf_list]; unfold owesL; rw [if_pos hf]; rfl)
    · rw [if_neg hf, decide_eq_false hf]
      have : strOf ((textOf r.Joined).data.toList ++ owesL r) = textOf r.Joined := bytes_ext (by rw [strOf_list]; unfold owesL; rw [if_neg hf, List.append_nil])
      rw [this]
      exact cutB_none 32 0 rfl (text_digs b0 (by decide))
  have p1 := parseV_text (n := r.Id) (by omega) (by omega)
  have p2 := parseV_text (n := r.Class) (by omega) (by omega)
  have p3 := parseV_text (n := r.Joined) (by omega) (by omega)
  have p4 : (parseV (if 0 < r.Fines then textOf r.Fines else ByteArray.empty)).1 = r.Fines := by
    by_cases hf : 0 < r.Fines
    · rw [if_pos hf, parseV_text (by omega) (by omega)]
    · rw [if_neg hf, show r.Fines = 0 by omega]
      rcases parseV_is ByteArray.empty with ⟨_, h0, h1, h2⟩ | ⟨h0, _, _⟩
      · exfalso
        have := congrArg ByteArray.size h2
        rw [size_list, size_list] at this
        by_cases hn : 0 ≤ (parseV ByteArray.empty).1
        · rw [textOf_list_pos _ hn] at this
          have hd := (dec_len 5 (parseV ByteArray.empty).1.toNat (by omega)).1
          simp at this; omega
        · rw [textOf_list_neg _ (by omega)] at this; simp at this
      · first | exact h0 | omega
  unfold candI
  rw [e1]; simp only
  rw [e2]; simp only
  rw [e3]; simp only
  rw [e4]; simp only
  rw [p1, p2, p3, p4]
/-- The reader whose text it is. -/
def rdRead (s : ByteArray) : Option VReader := if (candI s).ok = true ∧ (rdText (candI s)).data.toList = s.data.toList then some (candI s) else none
theorem rdRead_of {s : ByteArray} {r : VReader} (hok : r.ok = true) (h : rdText r = s) : rdRead s = some r := by
  have e := candI_of hok h
  unfold rdRead
  rw [e, if_pos ⟨hok, by rw [h]⟩]
theorem rdRead_sound {s : ByteArray} {r : VReader} (h : rdRead s = some r) : r.ok = true ∧ rdText r = s := by
  unfold rdRead at h
  split at h
  · rename_i hc
    cases h
    exact ⟨hc.1, bytes_ext hc.2⟩
  · cases h
theorem rdRead_no {s : ByteArray} (h : rdRead s = none) (r : VReader) (hok : r.ok = true) : rdText r ≠ s := fun e => by rw [rdRead_of hok e] at h; cases h
end Go.Proofs.YtofgpiikhifiaabDoor
