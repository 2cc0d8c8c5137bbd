/- Slices of texts: what is known of one, and the laws' own helpers over them: the size that is left, a copy, whether two are equal. -/
import Derived.Test.YtmbmcnmippplaaaBase
import Derived.SliceStrings
import Derived.Handy
import Derived.Laws.OwnMore
namespace Go.Proofs.Ytmbmcnmippplaaa
open Go.RowKit Go.WideElems Go.ChangeShapes

/-- The slice 'a len cap' holds the texts xs: nothing, or a row of them. -/
def IsStrs (w : World) (a : Option Addr) (len cap : Nat) (xs : List ByteArray) : Prop :=
  (∀ x ∈ xs, x.size ≤ maxLen) ∧ len ≤ maxLen ∧ ((len = 0 ∧ xs = []) ∨ ∃ b o, a = some ⟨b, o, none⟩ ∧ 0 < len ∧ len = xs.length ∧ len ≤ cap ∧ cap ≤ maxLen ∧ b < w.heap.size ∧ ∀ j x, xs[j]? = some x → w.cell? ⟨b, o + j, none⟩ = some (.string x))
theorem IsStrs.below {w w' : World} {a : Option Addr} {len cap : Nat} {xs : List ByteArray} (h : IsStrs w a len cap xs) (hb : Below w.heap.size w w') : IsStrs w' a len cap xs := by
  refine ⟨h.1, h.2.1, ?_⟩
  rcases h.2.2 with h0 | ⟨b, o, rfl, h1, h2, h3, h4, h5, h6⟩
  · exact .inl h0
  · exact .inr ⟨b, o, rfl, h1, h2, h3, h4, Nat.lt_of_lt_of_le h5 hb.size, fun j x hx => (hb.cell (p := ⟨b, o + j, none⟩) h5).trans (h6 j x hx)⟩
theorem IsStrs.len {w : World} {a : Option Addr} {len cap : Nat} {xs : List ByteArray} (h : IsStrs w a len cap xs) : len = xs.length := by
  rcases h.2.2 with ⟨h0, rfl⟩ | ⟨b, o, rfl, h1, h2, _⟩
  · simpa using h0
  · exact h2
theorem isStrs_own {w : World} {base : Nat} {v : Value} {xs : List ByteArray} (h : w.ownsRow base 9 1 v xs.length (xs.map Value.string)) (hx : ∀ x ∈ xs, x.size ≤ maxLen) :
    ∃ a cap, v = .slice a xs.length cap ∧ IsStrs w a xs.length cap xs := by
  have hlt := h.lt
  rcases h.2 with ⟨rfl, h0⟩ | ⟨g, cap, cur, rfl, hg, hh, hn, hcap, hsz, htake⟩
  · have : xs = [] := List.length_eq_zero_iff.1 h0
    subst this
    exact ⟨none, 0, rfl, by simp, by simp, .inl ⟨rfl, rfl⟩⟩
  · refine ⟨some ⟨g, 0, none⟩, cap, rfl, hx, by omega, ?_⟩
    by_cases hz : xs.length = 0
    · exact .inl ⟨hz, List.length_eq_zero_iff.1 hz⟩
    · refine .inr ⟨g, 0, rfl, by omega, rfl, hn, hcap, (hlt g rfl).2, ?_⟩
      intro j x hj
      have hc := h.cells (g := g) rfl j (.string x) (by simp [hj])
      rw [add_plain] at hc; exact hc
theorem isStrs_of {H : Type} {enc : TypeId × Value → H} {W : World} {base : Nat} {held : Bool} {fuel : Nat} {a : Option Addr} {len cap : Nat} {x : DataW H × List MemPlace} {t e : TypeId} {p : Program} (ht : p.underlying t = some (.slice e)) (he : p.underlying e = some .string) (hc : p.cellsOf e = 1)
    (h : DataW.trod enc p W base (fun _ => true) held fuel t (Value.slice a len cap).cells.toList = some x) : ∃ zs, IsStrs W a len cap zs := by
  rcases open_strings ht he hc h with ⟨hcs, _⟩ | ⟨y, l, c, ss, hcs, _, hl, hm, hz, _, hcell, hwz⟩
  · simp [Value.cells] at hcs
    obtain ⟨rfl, rfl, rfl⟩ := hcs
    exact ⟨[], by simp, by simp, .inl ⟨rfl, rfl⟩⟩
  · simp [Value.cells] at hcs
    obtain ⟨rfl, rfl, rfl⟩ := hcs
    simp at hz
    refine ⟨ss.take len, fun s hs => hwz s (List.mem_of_mem_take hs), by omega, ?_⟩
    by_cases h0 : len = 0
    · exact .inl ⟨h0, by simp [h0]⟩
    · obtain ⟨b, o, spot⟩ := y
      have h1 := hcell 0 (by omega)
      have hspot : spot = none := by simpa [Addr.add] using World.cell?_spot h1
      subst hspot
      refine .inr ⟨b, o, rfl, by omega, by simp; omega, hl, hm, ?_, ?_⟩
      · have : W.cell? ⟨b, o, none⟩ ≠ none := by
          have := h1
          simp [Addr.add] at this
          rw [this]; simp
        by_cases hb : b < W.heap.size
        · exact hb
        · exfalso; apply this; simp [World.cell?, Array.getElem?_eq_none (Nat.le_of_not_lt hb)]
      · intro j x hx
        have hj : j < len := by
          have := (List.getElem?_eq_some_iff.1 hx).1
          simp at this; omega
        rw [List.getElem?_take_of_lt hj] at hx
        have := hcell j (by omega)
        rw [add_plain] at this
        rw [this]; simp [List.getD, hx]

def total (xs : List ByteArray) : Nat := (xs.map (·.size)).sum
theorem total_snoc (xs : List ByteArray) (x : ByteArray) : total (xs ++ [x]) = total xs + x.size := by simp [total]
theorem list_snoc {α : Type} (xs : List α) (k : Nat) (x : α) (h : xs[k]? = some x) : xs.take (k + 1) = xs.take k ++ [x] := by
  rw [List.take_add_one, h]; rfl
theorem list_all {α : Type} (xs : List α) : xs.take xs.length = xs := List.take_of_length_le (Nat.le_refl _)
theorem total_take_le (xs : List ByteArray) (k : Nat) : total (xs.take k) ≤ total xs := by
  have h : total xs = total (xs.take k) + total (xs.drop k) := by
    conv => lhs; rw [← List.take_append_drop k xs]
    unfold total; rw [List.map_append, List.sum_append]
  omega

/-- What is left of a size: a negative number, or no less than there is. -/
def SzPost (xs : List ByteArray) (left : Int) (w : World) (e : Ending) (w' : World) : Prop := ∃ r : Int, e = .returned (.int .i64 r) ∧ -1 ≤ r ∧ r ≤ left ∧ (0 ≤ r → (xs.length : Int) + total xs ≤ left) ∧ w = w'
set_option maxHeartbeats 800000 in
theorem szStringS_any (a : Option Addr) (len cap : Nat) (xs : List ByteArray) (left : Int) (w : World) (h : IsStrs w a len cap xs) (h0 : 0 ≤ left) (h1 : left ≤ 1048576) :
    Calls Try.prog 21 #[.slice a len cap, .int .i64 left] w (SzPost xs left w) := by
  obtain ⟨hx, hm, hs⟩ := h
  have X := Lib.hid hx
  unfold maxLen at hm
  clear hx
  by_cases hl : left - (len : Int) < 0
  · clear hs
    go_enter Try.func21, Try.ntmps21
    go_wp2
    go_ret
    exact ⟨-1, rfl, by omega, by omega, by omega, rfl⟩
  rcases hs with ⟨rfl, rfl⟩ | ⟨b, o, rfl, hpos, hlen, hcl, hcm, hb, hc⟩
  · go_enter Try.func21, Try.ntmps21
    go_wp2
    refine wp_loop_rounds 1 ?_
    rw [rounds_succ]
    go_wp2
    go_ret
    exact ⟨left, rfl, by omega, by omega, by intro _; simp [total]; omega, rfl⟩
  have C := Lib.hid hc
  have L := Lib.hid hlen
  have hl' : 0 ≤ left - (len : Int) := by omega
  unfold maxLen at hcm
  clear hc hlen hl
  go_enter Try.func21, Try.ntmps21
  go_wp2
  go_loop [1, 5] (fun l i => ∃ (k : Nat) (r : Int), k ≤ len ∧ i = .int .i64 k ∧ l = .int .i64 r ∧ 0 ≤ r ∧ r ≤ left ∧ r = left - len - total (xs.take k)) (fun _ i => len - (intOf i).toNat)
  case atStart => exact ⟨0, left - len, Nat.zero_le _, rfl, rfl, by omega, by omega, by simp [total]⟩
  case round =>
    obtain ⟨k, r, hk, rfl, rfl, hr0, hr1, hr⟩ := hrel
    have R := Lib.hid hr
    clear hr
    by_cases hlt : k < len
    · obtain ⟨x, hx⟩ : ∃ x, xs[k]? = some x := ⟨xs[k]'(by have := L.out; omega), List.getElem?_eq_getElem _⟩
      have hcell := C.out k x hx
      have hxm := X.out x (List.mem_of_getElem? hx)
      unfold maxLen at hxm
      have T := Lib.hid (show total (xs.take (k + 1)) = total (xs.take k) + x.size from by rw [list_snoc xs k x hx, total_snoc])
      clear hx
      by_cases hneg : r - (x.size : Int) < 0
      · go_wp2
        go_ret
        exact ⟨-1, rfl, by omega, by omega, by omega, rfl⟩
      · have hneg' : 0 ≤ r - (x.size : Int) := by omega
        clear hneg
        go_wp2
        go_round
        case rel => exact ⟨k + 1, r - x.size, by omega, by go_num, rfl, by omega, by omega, by have := R.out; have := T.out; omega⟩
        case measure => simp [intOf]; omega
    · obtain rfl : k = len := by omega
      go_wp2
      go_ret
      exact ⟨r, rfl, by omega, by omega, by intro _; have := R.out; have l := L.out; rw [l, list_all] at this; omega, rfl⟩

theorem set_part {xs : List Value} {k n : Nat} {x z : Value} (hx : xs[k]? = some x) (hn : n = xs.length) : (xs.take k ++ List.replicate (n - k) z).set k x = xs.take (k + 1) ++ List.replicate (n - (k + 1)) z := by
  have hk : k < xs.length := (List.getElem?_eq_some_iff.1 hx).1
  have hl : (xs.take k).length = k := by simp; omega
  rw [List.set_append_right _ _ (by omega), hl, Nat.sub_self, show n - k = (n - (k + 1)) + 1 from by omega, List.replicate_succ, List.set_cons_zero, list_snoc xs k x hx]
  simp

set_option maxHeartbeats 1600000 in
set_option maxRecDepth 100000 in
/-- A copy of a slice of texts: a row of the call's own. -/
theorem toStringS_any (a : Option Addr) (len cap : Nat) (xs : List ByteArray) (w : World) (h : IsStrs w a len cap xs) (hsz : len ≤ 1048576) :
    Calls Try.prog 22 #[.slice a len cap] w (RowPost xs w) := by
  obtain rfl := h.len
  obtain ⟨hx, hm, hs⟩ := h
  obtain ⟨i0, hi, hz0, hz1, hz2⟩ := info_parts infoStr
  clear hx hm
  rcases hs with ⟨_, rfl⟩ | ⟨b, o, rfl, hpos, _, hcl, hcm, hb, hc⟩
  · go_enter Try.func22, Try.ntmps22
    go_wp2_with (refine wpList_make_full _ rfl _ _ 26 rfl w.heap.size 9 i0 (.string ByteArray.empty) 1 Try.underlying26 hi hz0 hz1 .i64 .i64 _ _ 0 rfl rfl rfl rfl (by omega) (by unfold maxLen; omega) (Nat.le_refl _) ?_; intro w1 hown hgrow)
    refine wp_loop_rounds 1 ?_
    rw [rounds_succ]
    go_wp2
    go_ret
    exact ⟨_, rfl, by have h := hown; rw [show (Value.string ByteArray.empty).cells = #[.string ByteArray.empty] from rfl, toList_madeCells_one] at h; exact h, (Below.refl _ _).grown hgrow (Nat.le_refl _) (fun k e => by cases e)⟩
  have C := Lib.hid hc
  unfold maxLen at hcm
  clear hc
  go_enter Try.func22, Try.ntmps22
  go_wp2_with (refine wpList_make_full _ rfl _ _ 26 rfl w.heap.size 9 i0 (.string ByteArray.empty) 1 Try.underlying26 hi hz0 hz1 .i64 .i64 _ _ xs.length rfl rfl rfl rfl (by rw [hz2]; omega) (by unfold maxLen; omega) (Nat.le_refl _) ?_; intro w1 hown hgrow)
  have hb1 : Below w.heap.size w w1 := (Below.refl _ _).grown hgrow (Nat.le_refl _) (fun k e => by cases e)
  have H1 := Lib.hid hown
  have hg1 := (hown.lt w.heap.size rfl).2
  clear hown hgrow
  go_loopw [4] (fun i wr => ∃ k : Nat, k ≤ xs.length ∧ i = .int .i64 k ∧ Below w.heap.size w wr ∧ wr.ownsRow w.heap.size 9 1 (.slice (some ⟨w.heap.size, 0, none⟩) xs.length xs.length) xs.length ((xs.map Value.string).take k ++ List.replicate (xs.length - k) (.string ByteArray.empty))) (fun i _ => xs.length - (intOf i).toNat)
  case atStart => exact ⟨0, Nat.zero_le _, rfl, hb1, by have h := H1.out; rw [show (Value.string ByteArray.empty).cells = #[.string ByteArray.empty] from rfl, toList_madeCells_one, Nat.mul_one] at h; simpa using h⟩
  case round =>
    obtain ⟨k, hk, rfl, hbel, hown⟩ := hrel
    have hglt := (hown.lt w.heap.size rfl).2
    have O := Lib.hid hown
    have B := Lib.hid hbel
    have hfr := hown.frozenAt k
    by_cases hlt : k < xs.length
    · obtain ⟨x, hx⟩ : ∃ x, xs[k]? = some x := ⟨xs[k]'hlt, List.getElem?_eq_getElem _⟩
      have hcell : wr.cell? ⟨b, o + k, none⟩ = some (.string x) := (hbel.cell (p := ⟨b, o + k, none⟩) hb).trans (C.out k x hx)
      have XX := Lib.hid hx
      have hold : ∃ u, wr.cell? ⟨w.heap.size, k, none⟩ = some u := by
        have h := hown.cells (g := w.heap.size) rfl k (.string ByteArray.empty) (by
          have hl : ((xs.map Value.string).take k).length = k := by simp; omega
          rw [List.getElem?_append_right (by omega), hl, Nat.sub_self, List.getElem?_replicate, if_pos (by omega)])
        rw [add_plain, Nat.zero_add] at h
        exact ⟨_, h⟩
      obtain ⟨u, hu⟩ := hold
      clear hbel hown hx
      go_wp2
      go_roundw
      case rel => exact ⟨k + 1, by omega, by go_num, B.out.setCell (Nat.le_refl _) _, by
        have h := (O.out.stored k (.string x)).1
        rw [set_part (by rw [List.getElem?_map, XX.out]; rfl) (by simp)] at h
        exact h⟩
      case measure => simp [intOf]; omega
    · obtain rfl : k = xs.length := by omega
      clear hown hbel
      go_wp2
      go_ret
      refine ⟨_, rfl, ?_, B.out⟩
      have h := O.out
      rw [Nat.sub_self, List.replicate_zero, List.append_nil, List.take_of_length_le (by simp)] at h
      exact h

set_option maxHeartbeats 1600000 in
/-- Two slices of texts: equal, or not. -/
theorem eqStringS_any (a : Option Addr) (len cap : Nat) (xs : List ByteArray) (a' : Option Addr) (len' cap' : Nat) (ys : List ByteArray) (w : World) (h : IsStrs w a len cap xs) (h' : IsStrs w a' len' cap' ys) (he : xs = ys) :
    Calls Try.prog 18 #[.slice a len cap, .slice a' len' cap'] w fun e w' => e = .returned (.bool true) ∧ ∃ m, w' = w.drewN m := by
  subst he
  obtain rfl := h.len
  obtain rfl := h'.len
  obtain ⟨hx, hm, hs⟩ := h
  obtain ⟨_, _, hs'⟩ := h'
  unfold maxLen at hm
  rcases hs with ⟨_, rfl⟩ | ⟨b, o, rfl, hpos, _, hcl, hcm, hb, hc⟩
  · clear hs' hx
    go_enter Try.func18, Try.ntmps18
    go_wp2
    refine wp_loop_rounds 1 ?_
    rw [rounds_succ]
    go_wp2
    go_ret
    exact ⟨rfl, 0, rfl⟩
  rcases hs' with ⟨h0, _⟩ | ⟨b', o', rfl, _, _, hcl', hcm', hb', hc'⟩
  · omega
  have C := Lib.hid hc
  have C' := Lib.hid hc'
  unfold maxLen at hcm hcm'
  clear hc hc' hx
  go_enter Try.func18, Try.ntmps18
  go_wp2
  go_loopw [5] (fun i wr => ∃ k m : Nat, k ≤ xs.length ∧ i = .int .i64 k ∧ wr = w.drewN m) (fun i _ => xs.length - (intOf i).toNat)
  case atStart => exact ⟨0, 0, Nat.zero_le _, rfl, rfl⟩
  case round =>
    obtain ⟨k, m, hk, rfl, rfl⟩ := hrel
    by_cases hlt : k < xs.length
    · obtain ⟨x, hx⟩ : ∃ x, xs[k]? = some x := ⟨xs[k]'hlt, List.getElem?_eq_getElem _⟩
      have c1 := C.out k x hx
      have c2 := C'.out k x hx
      clear hx
      go_wp2
      have hi0 : (0 : Int) ≤ (k : Int) := by omega
      have hi1 : (k : Int) < (xs.length : Int) := by omega
      go_quiet (fail)
      go_wp2
      go_roundw
      case rel => exact ⟨k + 1, _, by omega, by go_num, rfl⟩
      case measure => simp [intOf]; omega
    · go_wp2
      go_ret
      exact ⟨rfl, _, rfl⟩
end Go.Proofs.Ytmbmcnmippplaaa
