/- Rows of integers of the call's own, told by an interval: what the laws do with them. -/
import Derived.Test.YtodjgeffkfbpiaaOwn
import Derived.Laws.MakeOwn
import Derived.Deep.RegionWith
namespace Go.Proofs.Ytodjgeffkfbpiaa
open Go.RowKit

def OwnIntS (lo hi : Nat) (w : World) (v : Value) (xs : List Int) : Prop := OwnIn lo hi w 3 1 v xs.length (intCells xs)
section
variable {lo hi lo' hi' : Nat} {w w' : World} {v : Value} {xs : List Int}
theorem OwnIntS.form (h : OwnIntS lo hi w v xs) : ∃ a c, v = .slice a xs.length c := by
  obtain ⟨a, c, e, _⟩ := isInts_ownIn h
  exact ⟨a, c, e⟩
theorem OwnIntS.is {a : Option Addr} {n c : Nat} (h : OwnIntS lo hi w (.slice a n c) xs) : IsInts w a n c xs := by
  obtain ⟨a', c', e, hi⟩ := isInts_ownIn h
  simp only [Value.slice.injEq] at e
  obtain ⟨rfl, rfl, rfl⟩ := e
  exact hi
theorem OwnIntS.below (h : OwnIntS lo hi w v xs) (hb : Below w.heap.size w w') : OwnIntS lo hi w' v xs := OwnIn.below h hb
theorem OwnIntS.turned (h : OwnIntS lo hi w v xs) (t : Turned lo' hi' w w') (hd : hi ≤ lo' ∨ hi' ≤ lo) : OwnIntS lo hi w' v xs := OwnIn.turned h t hd
theorem OwnIntS.mono (h : OwnIntS lo hi w v xs) (h1 : lo' ≤ lo) (h2 : hi ≤ hi') : OwnIntS lo' hi' w v xs := OwnIn.mono h h1 h2
theorem nil_OwnIntS (lo hi : Nat) (w : World) : OwnIntS lo hi w (.slice none 0 0) [] := ⟨⟨by simp [intCells], .inl ⟨rfl, rfl⟩⟩, fun b h => by cases h⟩
end
def condInt (xs : List Int) : Prop := xs.length ≤ 1048576
def cntInt (xs : List Int) : Nat := xs.length
def mkInt (k : Nat) (xs : List Int) : List Int := marksI k xs.length
theorem cntInt_cond {xs : List Int} (h : condInt xs) : cntInt xs ≤ 10000000 := Nat.le_trans h (by decide)
/-- A row of the call's own, by its parts, and the world below as it was. -/
def HPost (xs : List Int) (w : World) (e : Ending) (w' : World) : Prop := ∃ h : Hd, e = .returned (.slice h.a h.n h.c) ∧ HInts w.heap.size w'.heap.size w' h xs ∧ Below w.heap.size w w'
set_option maxHeartbeats 3200000 in
set_option maxRecDepth 100000 in
theorem toIntS_h (a : Option Addr) (len cap : Nat) (xs : List Int) (w : World) (h : IsInts w a len cap xs) (hsz : xs.length ≤ 1048576) :
    Calls Try.prog 80 #[.slice a len cap] w (HPost xs w) := by
  obtain rfl := h.1
  obtain ⟨i0, hi, hz0, hz1, hz2⟩ := info_parts infoInt
  have S := Lib.hid h
  clear h
  go_enter Try.func80, Try.ntmps80
  go_wp2_with (refine wpList_make_full _ rfl _ _ 38 rfl w.heap.size 3 i0 (.int .i64 0) 1 Try.underlying38 hi hz0 hz1 .i64 .i64 _ _ xs.length rfl rfl rfl rfl (by rw [hz2]; omega) (by unfold maxLen; omega) (Nat.le_refl _) ?_; intro w1 hown hgrow)
  have hb1 : Below w.heap.size w w1 := (Below.refl _ _).grown hgrow (Nat.le_refl _) (fun k e => by cases e)
  have hg1 := (hown.lt w.heap.size rfl).2
  have H1 := Lib.hid hown
  clear hown hgrow
  go_loopw [4] (fun i wr => ∃ (k : Nat) (D : List Value), k ≤ xs.length ∧ D.length = xs.length - k ∧ i = .int .i64 k ∧ Below w.heap.size w wr ∧ wr.ownsRow w.heap.size 3 1 (.slice (some ⟨w.heap.size, 0, none⟩) xs.length xs.length) xs.length (intCells (xs.take k) ++ D)) (fun i _ => xs.length - (intOf i).toNat)
  case atStart => exact ⟨0, (madeCells (Value.int .i64 0).cells (xs.length * 1)).toList, Nat.zero_le _, by have := H1.out.1; omega, rfl, hb1, by simpa [intCells] using H1.out⟩
  case round =>
    obtain ⟨k, D, hk, hD, rfl, hbel, hown⟩ := hrel
    have O := Lib.hid hown
    have B := Lib.hid hbel
    by_cases hlt : k < xs.length
    · obtain ⟨z, hz⟩ : ∃ z, xs[k]? = some z := ⟨xs[k]'hlt, List.getElem?_eq_getElem _⟩
      obtain ⟨b, o, rfl, hb, hat⟩ := (S.out.below hbel).at (by omega)
      have c0 := hat k z hz
      have Z := Lib.hid hz
      have HD := Lib.hid hD
      have hm := S.out.2.2.1
      unfold maxLen at hm
      have f0 := O.out.frozenAt k
      obtain ⟨u0, d0⟩ := own_cell O.out k (by rw [List.length_append, intCells_len, List.length_take]; omega)
      clear hbel hown hz hat hD
      go_wp2
      go_roundw
      case rel =>
        have h5 := O.out.stored k (.int .i64 z)
        refine ⟨k + 1, D.tail, by omega, by rw [List.length_tail, HD.out]; omega, by go_num, B.out.grown h5.2 B.out.size (fun j e => by cases e; exact Nat.le_refl _), ?_⟩
        have hl : (intCells (xs.take k)).length = k := by rw [intCells_len, List.length_take]; omega
        have h6 := h5.1
        obtain ⟨d, D', rfl⟩ : ∃ d D', D = d :: D' := by
          cases D with
          | nil => have := HD.out; simp at this; omega
          | cons d D' => exact ⟨d, D', rfl⟩
        rw [List.set_append_right _ _ (by omega), hl, Nat.sub_self, List.set_cons_zero] at h6
        rw [List.take_add_one, Z.out, show (some z).toList = [z] from rfl, intCells_snoc, List.append_assoc]
        exact h6
      case measure => simp [intOf]; omega
    · obtain rfl : k = xs.length := by omega
      have hD0 : D = [] := List.length_eq_zero_iff.1 (by omega)
      subst hD0
      clear hown hbel hD
      have hm := S.out.2.2.1
      unfold maxLen at hm
      go_wp2
      go_ret
      refine ⟨⟨some ⟨w.heap.size, 0, none⟩, xs.length, xs.length⟩, rfl, ?_, B.out⟩
      have h := O.out
      rw [List.append_nil, List.take_of_length_le (Nat.le_refl _)] at h
      exact OwnIn.of_row h (Nat.le_refl _) (Nat.le_refl _)
/-- What one row's marks leave. -/
def IntSMarked (lo hi : Nat) (v : Value) (xs : List Int) (k : Nat) (w : World) (e : Ending) (w' : World) : Prop := e = .returned (.int .i64 ((k + cntInt xs : Nat) : Int)) ∧ OwnIntS lo hi w' v (mkInt k xs) ∧ Turned lo hi w w'
theorem markIntS_o (lo hi : Nat) (v : Value) (xs : List Int) (k : Nat) (w : World) (h : OwnIntS lo hi w v xs) (hk : k + cntInt xs ≤ 100000000) :
    Calls Try.prog 83 #[v, .int .i64 (k : Int)] w (IntSMarked lo hi v xs k w) :=
  (markIntS_any lo v xs.length k (intCells xs) w h.1 (by unfold cntInt at hk; omega) (by unfold cntInt at hk; omega)).mono fun e w' ⟨h1, h2, h3⟩ =>
    ⟨h1, ⟨by unfold mkInt; rw [marksI_len]; exact h2, h.2⟩, Turned.of_grown h3 fun b hb => ⟨(h.lt hb).1, (h.lt hb).2.1⟩⟩
theorem heldIntS_o (a : Option Addr) (n c : Nat) (xs : List Int) (k : Nat) (w : World) (h : IsInts w a n c (mkInt k xs)) (hk : k + cntInt xs ≤ 100000000) :
    Calls Try.prog 84 #[.slice a n c, .int .i64 (k : Int)] w fun e w' => e = .returned (.int .i64 ((k + cntInt xs : Nat) : Int)) ∧ Below w.heap.size w w' := by
  have e : n = xs.length := by rw [h.1]; unfold mkInt; rw [marksI_len]
  subst e
  exact (heldIntS_any a xs.length c k w h (by unfold cntInt at hk; omega) (by unfold cntInt at hk; omega)).mono fun e w' ⟨h1, h2⟩ => ⟨h1, h2 ▸ Below.refl _ _⟩
set_option maxHeartbeats 400000 in
theorem szIntS_left (a : Option Addr) (len cap : Nat) (xs : List Int) (left : Int) (w : World) (h : IsInts w a len cap xs) (h0 : 0 ≤ left) (h1 : left ≤ 1048576) :
    Calls Try.prog 79 #[.slice a len cap, .int .i64 left] w fun e w' => (∃ z : Int, e = .returned (.int .i64 z) ∧ (z < 0 ∨ (z = left - (xs.length : Int) ∧ 0 ≤ z))) ∧ w = w' := by
  obtain rfl := h.1
  have hl : xs.length ≤ maxLen := Nat.le_trans h.2.1 h.2.2.1
  unfold maxLen at hl
  clear h
  by_cases hlt : left < (xs.length : Int)
  · have hn : left - (xs.length : Int) < 0 := by omega
    go_enter Try.func79, Try.ntmps79
    go_wp2
    go_ret
    exact ⟨⟨-1, rfl, .inl (by omega)⟩, rfl⟩
  · have hn : 0 ≤ left - (xs.length : Int) := by omega
    go_enter Try.func79, Try.ntmps79
    go_wp2
    go_ret
    exact ⟨⟨_, rfl, .inr ⟨rfl, hn⟩⟩, rfl⟩
end Go.Proofs.Ytodjgeffkfbpiaa
