/- Texts read again: what ParseInt answers, a text cut at a mark, words. Whatever the struct. -/
import Derived.Test.YtofgpiikhifiaabDoorItoa
import Derived.Test.YtofgpiikhifiaabDoorDec
import Derived.Test.YtofgpiikhifiaabDoorSplitBack
import Derived.Test.YtofgpiikhifiaabDoorParse
import Derived.Lib.IndexLaws
import Derived.Lib.IndexMore
namespace Go.Proofs.YtofgpiikhifiaabDoor
open Go.RowKit

/-- What ParseInt answers. -/
def parseV (s : ByteArray) : Int × Bool :=
  if -999999 ≤ leadG s.data.toList 0 0 1 ∧ leadG s.data.toList 0 0 1 ≤ 999999 ∧ (textOf (leadG s.data.toList 0 0 1)).data.toList = s.data.toList then (leadG s.data.toList 0 0 1, true) else (0, false)
theorem parseV_is (s : ByteArray) : IsParse s (parseV s).1 (parseV s).2 := by
  unfold parseV
  split
  · rename_i h
    exact IsParse.yes h.1 h.2.1 (bytes_ext h.2.2).symm
  · rename_i h
    refine IsParse.no fun n a b e => h ?_
    have := lead_text n a b
    rw [← e] at this
    rw [this]
    exact ⟨a, b, by rw [e]⟩
theorem parseV_text {n : Int} (h0 : -999999 ≤ n) (h1 : n ≤ 999999) : parseV (textOf n) = (n, true) := by
  obtain ⟨h2, h3⟩ := (parseV_is (textOf n)).one (IsParse.yes h0 h1 rfl)
  exact Prod.ext h2 h3
theorem parseV_sound {s : ByteArray} (h : (parseV s).2 = true) : -999999 ≤ (parseV s).1 ∧ (parseV s).1 ≤ 999999 ∧ s = textOf (parseV s).1 := by
  rcases parseV_is s with ⟨_, a, b, e⟩ | ⟨h2, _⟩
  · exact ⟨a, b, e⟩
  · rw [h] at h2; cases h2

/-- A text cut at a mark. -/
def cutB (s m : ByteArray) : ByteArray × ByteArray × Bool := (⟨(Lib.cut s.data.toList m.data.toList).1.toArray⟩, ⟨(Lib.cut s.data.toList m.data.toList).2.1.toArray⟩, (Lib.cut s.data.toList m.data.toList).2.2)
theorem cut_size (s m : ByteArray) : (cutB s m).1.size ≤ s.size ∧ (cutB s m).2.1.size ≤ s.size := by
  unfold cutB Lib.cut
  split
  · constructor
    · show (List.toArray _).size ≤ _
      rw [size_list]; simp; omega
    · show (List.toArray _).size ≤ _
      rw [size_list]; simp
  · constructor
    · show (List.toArray _).size ≤ _
      rw [size_list]; simp
    · exact Nat.zero_le _
theorem occ_of {s m : List UInt8} {i : Nat} (h : Lib.occAt s m i = true) : ∃ r, s.drop i = m ++ r := by
  unfold Lib.occAt at h
  obtain ⟨r, hr⟩ := List.isPrefixOf_iff_prefix.1 h
  exact ⟨r, hr.symm⟩
theorem cut_sound {s m : ByteArray} (h : (cutB s m).2.2 = true) : s.data.toList = (cutB s m).1.data.toList ++ (m.data.toList ++ (cutB s m).2.1.data.toList) := by
  unfold cutB Lib.cut at *
  split at h
  · rename_i h0
    rw [if_pos h0]
    rcases Lib.index_spec s.data.toList m.data.toList with ⟨h1, _⟩ | ⟨i, h1, h2, h3, _⟩
    · omega
    · obtain ⟨r, hr⟩ := occ_of h3
      simp only [h1, Int.toNat_natCast]
      conv => lhs; rw [← List.take_append_drop i s.data.toList]
      congr 1
      rw [← List.drop_drop, hr]
      simp
  · cases h
/-- Where a mark stands behind bytes that it cannot begin in, it is cut there. -/
theorem cut_at (t m r : List UInt8) (c : UInt8) (p : Nat) (hm : m[p]? = some c) (hp : ∀ j, j < p → m[j]? ≠ some c) (ht : c ∉ t) : Lib.cut (t ++ (m ++ r)) m = (t, r, true) := by
  have hi : Lib.index (t ++ (m ++ r)) m = (t.length : Int) := by
    refine Lib.index_first (by simp) ?_ ?_
    · unfold Lib.occAt
      rw [List.isPrefixOf_iff_prefix]
      exact ⟨r, by simp⟩
    · intro j hj
      rw [Bool.eq_false_iff]
      intro h
      obtain ⟨r', hr'⟩ := occ_of h
      have h1 : (t ++ (m ++ r))[j + p]? = some c := by
        rw [← List.getElem?_drop, hr', List.getElem?_append_left (List.getElem?_eq_some_iff.1 hm).1]; exact hm
      by_cases hlt : j + p < t.length
      · rw [List.getElem?_append_left hlt] at h1
        exact ht (List.mem_of_getElem? h1)
      · rw [List.getElem?_append_right (by omega)] at h1
        have hpm := (List.getElem?_eq_some_iff.1 hm).1
        rw [List.getElem?_append_left (by omega)] at h1
        exact hp _ (by omega) h1
  unfold Lib.cut
  rw [if_pos (by rw [hi]; omega), hi]
  simp
theorem text_digs {n : Int} (h : 0 ≤ n) {c : UInt8} (hc : c.toNat < 48 ∨ 57 < c.toNat) : c ∉ (textOf n).data.toList := by
  rw [textOf_list_pos n h]
  intro hm
  have := dec_dig _ c hm
  unfold IsDig at this
  omega
theorem keepCell {w w' : World} {b o : Nat} {v : Value} (h : w.cell? ⟨b, o, none⟩ = some v) (hb : Below w.heap.size w w') : w'.cell? ⟨b, o, none⟩ = some v := (hb.cell (p := ⟨b, o, none⟩) (World.lt_of_cell h)).trans h
theorem implParseV (s : ByteArray) (w : World) (hs : s.size ≤ 1048576) (ht : TabPow w) :
    Calls Tryd.prog 29 #[.string s] w fun e w' => e = .returned (.tuple #[.int .i64 (parseV s).1, .bool (parseV s).2]) ∧ Below w.heap.size w w' :=
  (implParse s w hs ht).mono fun _ _ ⟨r, b, he, hp, hb⟩ => by
    obtain ⟨rfl, rfl⟩ := hp.one (parseV_is s)
    exact ⟨he, hb⟩
theorem cut_any (s m : ByteArray) (x : Int) (w : World) (hs : s.size ≤ 1048576) (hm : w.cell? ⟨1, 0, none⟩ = some (.int .i64 x)) :
    Calls Tryd.prog 28 #[.string s, .string m] w fun e w' => e = .returned (.tuple #[.string (cutB s m).1, .string (cutB s m).2.1, .bool (cutB s m).2.2]) ∧ Below w.heap.size w w' :=
  (Tryd.strings_Cut s m x w (by omega) hm).mono fun _ _ ⟨he, n, hw⟩ => ⟨he, hw ▸ bel_drawn _ _⟩

/-- What numbersBetween gives. -/
theorem readV (s : ByteArray) (w : World) (hs : s.size ≤ 1048576) :
    Calls Tryd.prog 17 #[.string s] w fun e w' => e = .returned (.tuple #[.int .i64 (parseV s).1, .bool (parseV s).2]) ∧ ∃ m, w' = w.drewN m :=
  (read_any s w hs).mono fun _ _ ⟨r, b, he, hp, hb⟩ => by
    obtain ⟨rfl, rfl⟩ := hp.one (parseV_is s)
    exact ⟨he, hb⟩
set_option maxHeartbeats 800000 in
theorem splitR_small (s : ByteArray) (cv : Int) : ∀ (d f k : Nat), s.size - k = d → k ≤ s.size → ∀ x ∈ splitR s cv f k, x.size ≤ s.size := by
  intro d
  induction d with
  | zero =>
    intro f k hd hk x hx
    obtain rfl : k = s.size := by omega
    rw [splitR_end] at hx
    obtain rfl := List.mem_singleton.1 hx
    rw [ByteArray.size_extract]; omega
  | succ d ih =>
    intro f k hd hk x hx
    by_cases hc : (s[k].toNat : Int) = cv
    · rw [splitR_hit (by omega) hc] at hx
      rcases List.mem_cons.1 hx with rfl | hx
      · rw [ByteArray.size_extract]; omega
      · exact ih (k + 1) (k + 1) (by omega) (by omega) x hx
    · rw [splitR_miss (by omega) hc] at hx
      exact ih f (k + 1) (by omega) (by omega) x hx

end Go.Proofs.YtofgpiikhifiaabDoor
