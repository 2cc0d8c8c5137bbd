/- A sheet's text read again: by the marks (the program's way) and by the spaces (the model's way): the same sheet. -/
import Derived.Test.YtidaoijpbdljbaaDoorText
import Derived.Test.YtidaoijpbdljbaaDoorDec
import Derived.Test.YtidaoijpbdljbaaDoorSplitBack
import Derived.Lib.IndexLaws
import Derived.Lib.IndexMore
namespace Go.Proofs.YtidaoijpbdljbaaDoor
open Go.RowKit

/-- What ParseInt answers. -/
def parseV (s : ByteArray) : Int × Bool :=
  if -999999 ≤ leadG s.data.toList 0 0 1 ∧ leadG s.data.toList 0 0 1 ≤ 999999 ∧ (textOf (leadG s.data.toList 0 0 1)).data.toList = s.data.toList then (leadG s.data.toList 0 0 1, true) else (0, false)
theorem parseV_is (s : ByteArray) : IsParse s (parseV s).1 (parseV s).2 := by
  unfold parseV
  split
  · rename_i h
    exact IsParse.yes h.1 h.2.1 (bytes_ext h.2.2).symm
  · rename_i h
    refine IsParse.no fun n a b e => h ?_
    have := lead_text n a b
    rw [← e] at this
    rw [this]
    exact ⟨a, b, by rw [e]⟩
theorem parseV_text {n : Int} (h0 : -999999 ≤ n) (h1 : n ≤ 999999) : parseV (textOf n) = (n, true) := by
  obtain ⟨h2, h3⟩ := (parseV_is (textOf n)).one (IsParse.yes h0 h1 rfl)
  exact Prod.ext h2 h3
theorem parseV_sound {s : ByteArray} (h : (parseV s).2 = true) : -999999 ≤ (parseV s).1 ∧ (parseV s).1 ≤ 999999 ∧ s = textOf (parseV s).1 := by
  rcases parseV_is s with ⟨_, a, b, e⟩ | ⟨h2, _⟩
  · exact ⟨a, b, e⟩
  · rw [h] at h2; cases h2

/-- A text cut at a mark. -/
def cutB (s m : ByteArray) : ByteArray × ByteArray × Bool := (⟨(Lib.cut s.data.toList m.data.toList).1.toArray⟩, ⟨(Lib.cut s.data.toList m.data.toList).2.1.toArray⟩, (Lib.cut s.data.toList m.data.toList).2.2)
theorem cut_size (s m : ByteArray) : (cutB s m).1.size ≤ s.size ∧ (cutB s m).2.1.size ≤ s.size := by
  unfold cutB Lib.cut
  split
  · constructor
    · show (List.toArray _).size ≤ _
      rw [size_list]; simp; omega
    · show (List.toArray _).size ≤ _
      rw [size_list]; simp
  · constructor
    · show (List.toArray _).size ≤ _
      rw [size_list]; simp
    · exact Nat.zero_le _
theorem occ_of {s m : List UInt8} {i : Nat} (h : Lib.occAt s m i = true) : ∃ r, s.drop i = m ++ r := by
  unfold Lib.occAt at h
  obtain ⟨r, hr⟩ := List.isPrefixOf_iff_prefix.1 h
  exact ⟨r, hr.symm⟩
theorem cut_sound {s m : ByteArray} (h : (cutB s m).2.2 = true) : s.data.toList = (cutB s m).1.data.toList ++ (m.data.toList ++ (cutB s m).2.1.data.toList) := by
  unfold cutB Lib.cut at *
  split at h
  · rename_i h0
    rw [if_pos h0]
    rcases Lib.index_spec s.data.toList m.data.toList with ⟨h1, _⟩ | ⟨i, h1, h2, h3, _⟩
    · omega
    · obtain ⟨r, hr⟩ := occ_of h3
      simp only [h1, Int.toNat_natCast]
      conv => lhs; rw [← List.take_append_drop i s.data.toList]
      congr 1
      rw [← List.drop_drop, hr]
      simp
  · cases h
/-- Where a mark stands behind bytes that it cannot begin in, it is cut there. -/
theorem cut_at (t m r : List UInt8) (c : UInt8) (p : Nat) (hm : m[p]? = some c) (hp : ∀ j, j < p → m[j]? ≠ some c) (ht : c ∉ t) : Lib.cut (t ++ (m ++ r)) m = (t, r, true) := by
  have hi : Lib.index (t ++ (m ++ r)) m = (t.length : Int) := by
    refine Lib.index_first (by simp) ?_ ?_
    · unfold Lib.occAt
      rw [List.isPrefixOf_iff_prefix]
      exact ⟨r, by simp⟩
    · intro j hj
      rw [Bool.eq_false_iff]
      intro h
      obtain ⟨r', hr'⟩ := occ_of h
      have h1 : (t ++ (m ++ r))[j + p]? = some c := by
        rw [← List.getElem?_drop, hr', List.getElem?_append_left (List.getElem?_eq_some_iff.1 hm).1]; exact hm
      by_cases hlt : j + p < t.length
      · rw [List.getElem?_append_left hlt] at h1
        exact ht (List.mem_of_getElem? h1)
      · rw [List.getElem?_append_right (by omega)] at h1
        have hpm := (List.getElem?_eq_some_iff.1 hm).1
        rw [List.getElem?_append_left (by omega)] at h1
        exact hp _ (by omega) h1
  unfold Lib.cut
  rw [if_pos (by rw [hi]; omega), hi]
  simp
def numsB : ByteArray → List ByteArray → Option (List Int)
  | s, [] => if (parseV s).2 = true then some [(parseV s).1] else none
  | s, m :: ms => if (cutB s m).2.2 = true ∧ (parseV (cutB s m).1).2 = true then (numsB (cutB s m).2.1 ms).map ((parseV (cutB s m).1).1 :: ·) else none
def theMarks : List ByteArray := [⟨#[58, 32, 114]⟩, ⟨#[32, 99]⟩, ⟨#[32, 49, 58]⟩, ⟨#[48, 48, 48, 32]⟩]
def shOf : List Int → Option Sh
  | [a, b, c, d, e] => some ⟨a, b, c, d, e⟩
  | _ => none
/-- What the program reads. -/
def implP (s : ByteArray) : Option Sh := (numsB s theMarks).bind fun ns => (shOf ns).bind fun x => if x.ok = true then some x else none
theorem shText_list (x : Sh) : (shText x).data.toList = (textOf x.id).data.toList ++ ([58, 32, 114] ++ ((textOf x.row).data.toList ++ ([32, 99] ++ ((textOf x.col).data.toList ++ ([32, 49, 58] ++ ((textOf x.scale).data.toList ++ ([48, 48, 48, 32] ++ (textOf x.year).data.toList))))))) := by
  unfold shText; simp
theorem text_digs {n : Int} (h : 0 ≤ n) {c : UInt8} (hc : c.toNat < 48 ∨ 57 < c.toNat) : c ∉ (textOf n).data.toList := by
  rw [textOf_list_pos n h]
  intro hm
  have := dec_dig _ c hm
  unfold IsDig at this
  omega
theorem numsB_step (m r s : ByteArray) (n : Int) (ms : List ByteArray) (h0 : 0 ≤ n) (h1 : n ≤ 999999) (c : UInt8) (p : Nat) (hm : m.data.toList[p]? = some c) (hp : ∀ j, j < p → m.data.toList[j]? ≠ some c) (hc : c.toNat < 48 ∨ 57 < c.toNat)
    (hs : s.data.toList = (textOf n).data.toList ++ (m.data.toList ++ r.data.toList)) : numsB s (m :: ms) = (numsB r ms).map (n :: ·) := by
  have hcut := cut_at (textOf n).data.toList m.data.toList r.data.toList c p hm hp (text_digs h0 hc)
  have e : cutB s m = (textOf n, r, true) := by
    unfold cutB; rw [hs, hcut]
  rw [numsB, e]
  simp [parseV_text (show -999999 ≤ n by omega) h1]
theorem mark3 : ∀ j, j < 3 → ([48, 48, 48, 32] : List UInt8)[j]? ≠ some 32 := by
  intro j hj
  have : j = 0 ∨ j = 1 ∨ j = 2 := by omega
  rcases this with rfl | rfl | rfl <;> simp
theorem implP_of {s : ByteArray} {x : Sh} (hok : x.ok = true) (h : shText x = s) : implP s = some x := by
  obtain ⟨⟨a0, a1⟩, ⟨b0, b1⟩, ⟨c0, c1⟩, ⟨d0, d1⟩, ⟨e0, e1⟩⟩ := Sh.ok_bd hok
  have hl := shText_list x
  rw [h] at hl
  have hn : numsB s theMarks = some [x.id, x.row, x.col, x.scale, x.year] := by
    unfold theMarks
    rw [numsB_step _ (strOf ((textOf x.row).data.toList ++ ([32, 99] ++ ((textOf x.col).data.toList ++ ([32, 49, 58] ++ ((textOf x.scale).data.toList ++ ([48, 48, 48, 32] ++ (textOf x.year).data.toList))))))) s x.id _ (by omega) (by omega) 58 0 rfl (by omega) (by decide) (by rw [strOf_list]; exact hl),
      numsB_step _ (strOf ((textOf x.col).data.toList ++ ([32, 49, 58] ++ ((textOf x.scale).data.toList ++ ([48, 48, 48, 32] ++ (textOf x.year).data.toList))))) _ x.row _ (by omega) (by omega) 32 0 rfl (by omega) (by decide) (by rw [strOf_list, strOf_list]),
      numsB_step _ (strOf ((textOf x.scale).data.toList ++ ([48, 48, 48, 32] ++ (textOf x.year).data.toList))) _ x.col _ (by omega) (by omega) 32 0 rfl (by omega) (by decide) (by rw [strOf_list, strOf_list]),
      numsB_step _ (textOf x.year) _ x.scale _ (by omega) (by omega) 32 3 rfl mark3 (by decide) (by rw [strOf_list])]
    rw [numsB, parseV_text (by omega) (by omega)]
    rfl
  unfold implP
  rw [hn]
  show (if x.ok = true then some x else none) = some x
  rw [if_pos hok]
theorem numsB_sound : ∀ (ms : List ByteArray) (s : ByteArray) (ns : List Int), numsB s ms = some ns → ns.length = ms.length + 1 := by
  intro ms
  induction ms with
  | nil => intro s ns h; unfold numsB at h; split at h <;> simp at h; rw [← h]; rfl
  | cons m ms ih =>
    intro s ns h
    unfold numsB at h
    split at h
    · obtain ⟨ns', h1, rfl⟩ := Option.map_eq_some_iff.1 h
      simp [ih _ _ h1]
    · cases h
theorem numsB_one {s : ByteArray} {ns : List Int} (h : numsB s [] = some ns) : ∃ n, ns = [n] ∧ s = textOf n := by
  unfold numsB at h
  split at h
  · rename_i hp
    simp at h
    exact ⟨_, h.symm, (parseV_sound hp).2.2⟩
  · cases h
theorem numsB_cons {s m : ByteArray} {ms : List ByteArray} {ns : List Int} (h : numsB s (m :: ms) = some ns) : ∃ n ns' r, ns = n :: ns' ∧ numsB r ms = some ns' ∧ s.data.toList = (textOf n).data.toList ++ (m.data.toList ++ r.data.toList) := by
  rw [numsB] at h
  split at h
  · rename_i hp
    obtain ⟨ns', h1, rfl⟩ := Option.map_eq_some_iff.1 h
    refine ⟨_, ns', _, rfl, h1, ?_⟩
    rw [← (parseV_sound hp.2).2.2]
    exact cut_sound hp.1
  · cases h
theorem implP_sound {s : ByteArray} {x : Sh} (h : implP s = some x) : x.ok = true ∧ shText x = s := by
  unfold implP at h
  obtain ⟨ns, h1, h2⟩ := Option.bind_eq_some_iff.1 h
  unfold theMarks at h1
  obtain ⟨n0, ns0, r0, rfl, g0, e0⟩ := numsB_cons h1
  obtain ⟨n1, ns1, r1, rfl, g1, e1⟩ := numsB_cons g0
  obtain ⟨n2, ns2, r2, rfl, g2, e2⟩ := numsB_cons g1
  obtain ⟨n3, ns3, r3, rfl, g3, e3⟩ := numsB_cons g2
  obtain ⟨n4, rfl, e4⟩ := numsB_one g3
  obtain ⟨y, hy, h3⟩ := Option.bind_eq_some_iff.1 h2
  simp only [shOf, Option.some.injEq] at hy
  subst hy
  split at h3
  · rename_i hok
    cases h3
    refine ⟨hok, bytes_ext ?_⟩
    rw [shText_list, e0, e1, e2, e3, e4]
  · cases h3

/-- A word's number between some first and some last bytes. -/
def cutV (word : ByteArray) (f l : Nat) : Int := if word.size ≤ f + l then -1 else if (parseV (word.extract f (word.size - l))).2 = true then (parseV (word.extract f (word.size - l))).1 else -1
def wordsSh (ws : List ByteArray) : Sh := ⟨cutV (ws.getD 0 ByteArray.empty) 0 1, cutV (ws.getD 1 ByteArray.empty) 1 0, cutV (ws.getD 2 ByteArray.empty) 1 0, cutV (ws.getD 3 ByteArray.empty) 2 3, cutV (ws.getD 4 ByteArray.empty) 0 0⟩
theorem cutV_of {word : ByteArray} {n : Int} {a b : List UInt8} (h0 : 0 ≤ n) (h1 : n ≤ 999999) (h : word.data.toList = a ++ ((textOf n).data.toList ++ b)) : cutV word a.length b.length = n := by
  have hl : 1 ≤ (textOf n).data.toList.length := by
    rw [textOf_list_pos n h0]
    exact (dec_len 5 n.toNat (by omega)).1
  have hz : word.size = a.length + ((textOf n).data.toList.length + b.length) := by rw [size_list, h]; simp
  have e : word.extract a.length (word.size - b.length) = textOf n := by
    apply bytes_ext
    rw [extract_list', h, List.drop_left]
    rw [show word.size - b.length - a.length = (textOf n).data.toList.length from by omega, List.take_left]
  unfold cutV
  rw [if_neg (by omega), e, parseV_text (by omega) h1]
  simp
theorem sh_ext {a b c d e : Int} {x : Sh} (h0 : a = x.id) (h1 : b = x.row) (h2 : c = x.col) (h3 : d = x.scale) (h4 : e = x.year) : (⟨a, b, c, d, e⟩ : Sh) = x := by subst h0 h1 h2 h3 h4; rfl
theorem words_of {s : ByteArray} {x : Sh} (hok : x.ok = true) (h : shText x = s) : (splitR s 32 0 0).length = 5 ∧ wordsSh (splitR s 32 0 0) = x := by
  obtain ⟨⟨a0, a1⟩, ⟨b0, b1⟩, ⟨c0, c1⟩, ⟨d0, d1⟩, ⟨e0, e1⟩⟩ := Sh.ok_bd hok
  have hl := shText_list x
  rw [h] at hl
  have hs : splitR s 32 0 0 = [strOf ((textOf x.id).data.toList ++ [58]), strOf ([114] ++ (textOf x.row).data.toList), strOf ([99] ++ (textOf x.col).data.toList), strOf ([49, 58] ++ ((textOf x.scale).data.toList ++ [48, 48, 48])), textOf x.year] := by
    refine splitR_of s 32 _ (by simp) ?_ ?_
    · have q0 := text_digs (n := x.id) (by omega) (c := 32) (by decide)
      have q1 := text_digs (n := x.row) (by omega) (c := 32) (by decide)
      have q2 := text_digs (n := x.col) (by omega) (c := 32) (by decide)
      have q3 := text_digs (n := x.scale) (by omega) (c := 32) (by decide)
      have q4 := text_digs (n := x.year) (by omega) (c := 32) (by decide)
      intro y hy
      simp only [List.mem_cons, List.not_mem_nil, or_false] at hy
      rcases hy with rfl | rfl | rfl | rfl | rfl
      · rw [strOf_list]; simp [q0]
      · rw [strOf_list]; simp [q1]
      · rw [strOf_list]; simp [q2]
      · rw [strOf_list]; simp [q3]
      · exact q4
    · rw [hl]
      simp [strOf_list, Lib.join_cons, Lib.joinTail]
  refine ⟨by rw [hs]; rfl, ?_⟩
  rw [hs]
  unfold wordsSh
  have w0 := cutV_of (word := strOf ((textOf x.id).data.toList ++ [58])) (n := x.id) (a := []) (b := [58]) (by omega) (by omega) (by rw [strOf_list]; simp)
  have w1 := cutV_of (word := strOf ([114] ++ (textOf x.row).data.toList)) (n := x.row) (a := [114]) (b := []) (by omega) (by omega) (by rw [strOf_list]; simp)
  have w2 := cutV_of (word := strOf ([99] ++ (textOf x.col).data.toList)) (n := x.col) (a := [99]) (b := []) (by omega) (by omega) (by rw [strOf_list]; simp)
  have w3 := cutV_of (word := strOf ([49, 58] ++ ((textOf x.scale).data.toList ++ [48, 48, 48]))) (n := x.scale) (a := [49, 58]) (b := [48, 48, 48]) (by omega) (by omega) (by rw [strOf_list])
  have w4 := cutV_of (word := textOf x.year) (n := x.year) (a := []) (b := []) (by omega) (by omega) (by simp)
  simp only [List.getD_cons_zero, List.getD_cons_succ]
  exact sh_ext w0 w1 w2 w3 w4
/-- What the model reads. -/
def specP (s : ByteArray) : Option Sh := if (splitR s 32 0 0).length = 5 ∧ (wordsSh (splitR s 32 0 0)).ok = true ∧ (shText (wordsSh (splitR s 32 0 0))).data.toList = s.data.toList then some (wordsSh (splitR s 32 0 0)) else none
theorem specP_eq (s : ByteArray) : specP s = implP s := by
  unfold specP
  split
  · rename_i h
    exact (implP_of h.2.1 (bytes_ext h.2.2)).symm
  · rename_i h
    cases hi : implP s with
    | none => rfl
    | some x =>
      exfalso
      obtain ⟨hok, ht⟩ := implP_sound hi
      obtain ⟨h1, h2⟩ := words_of hok ht
      exact h ⟨h1, by rw [h2]; exact hok, by rw [h2, ht]⟩
end Go.Proofs.YtidaoijpbdljbaaDoor
