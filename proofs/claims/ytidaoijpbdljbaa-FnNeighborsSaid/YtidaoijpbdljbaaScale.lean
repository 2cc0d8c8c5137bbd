/- The sheets of a scale, by row and then by col, in the program: sheetsOfScale. -/
import Derived.Test.YtidaoijpbdljbaaSorted
import Derived.Test.YtidaoijpbdljbaaIds
namespace Go.Proofs.Ytidaoijpbdljbaa
open Go.RowKit

def ofScale (sc : Int) (xs : List Sh) : List Sh := xs.filter fun s => s.scale == sc
theorem cell_five (w : World) (s : Sh) (t : TypeId) : ∀ j u, s.cells[j]? = some u → (w.alloc (.cells #[.int .i64 s.id, .int .i64 s.row, .int .i64 s.col, .int .i64 s.scale, .int .i64 s.year] t)).cell? ((⟨w.heap.size, 0, none⟩ : Addr).add j) = some u := by
  intro j u hj
  rw [add_plain, Nat.zero_add, World.cell?_alloc_new]
  simpa [Sh.cells] using hj
theorem cell_five2 (w : World) (o : Obj) (s : Sh) (t : TypeId) : ∀ j u, s.cells[j]? = some u → ((w.alloc o).alloc (.cells #[.int .i64 s.id, .int .i64 s.row, .int .i64 s.col, .int .i64 s.scale, .int .i64 s.year] t)).cell? ((⟨w.heap.size + 1, 0, none⟩ : Addr).add j) = some u := by
  have h := cell_five (w.alloc o) s t
  rw [size_alloc] at h
  exact h
theorem cells_one (s : Sh) : ∀ u ∈ s.cells, u.oneCell' = true := by
  intro u hu
  simp [Sh.cells] at hu
  rcases hu with rfl | rfl | rfl | rfl | rfl <;> rfl
theorem nil_sheets (w : World) (base : Nat) : w.ownsRow base 35 5 (.slice none 0 0) ([] : List Sh).length (shCells []) := ⟨by simp [shCells], .inl ⟨rfl, rfl⟩⟩
theorem nil_isSheetS (w : World) : IsSheetS w none 0 0 [] := ⟨rfl, Nat.le_refl _, by simp [maxLen], .inl rfl⟩

/-- What sheetsOfScale gives. -/
def ScalePost (sc : Int) (xs : List Sh) (w : World) (e : Ending) (w' : World) : Prop :=
  ∃ (a : Option Addr) (cap : Nat) (ys : List Sh), e = .returned (.tuple #[.slice a ys.length cap, .bool (decide (0 < ys.length))]) ∧ ((areSh xs = true ∧ ys.Perm (ofScale sc xs)) ∨ (areSh xs = false ∧ ys = [])) ∧ SortedRC ys ∧ IsSheetS w' a ys.length cap ys ∧ Below w.heap.size w w'
theorem ret_vbd {v : Value} {p q : Bool} (k : p = q) : Ending.returned (.tuple #[v, .bool p]) = .returned (.tuple #[v, .bool q]) := by rw [k]

set_option maxHeartbeats 3200000 in
set_option maxRecDepth 100000 in
theorem sheetsOfScale_any (a : Option Addr) (len cap : Nat) (xs : List Sh) (sc : Int) (w : World) (h : IsSheetS w a len cap xs) :
    Calls Try.prog 59 #[.slice a len cap, .int .i64 sc] w (ScalePost sc xs w) := by
  have hm := h.2.2.1
  have hcl := h.2.1
  unfold maxLen at hm
  have S := Lib.hid h
  have L := Lib.hid h.1
  clear h
  by_cases har : areSh xs = true
  · obtain ⟨i0, hi, hz0, hz1, hz2⟩ := info_parts infoSheet
    have H1 := Lib.hid har
    have l12 : len ≤ 12 := by have := (areSh_iff.1 har).1; have := L.out; omega
    clear har
    go_enter Try.func59, Try.ntmps59
    go_wp2_with fail
    refine (implAreSheets_any _ _ _ xs _ S.out).mono ?_
    rintro e w1 ⟨rfl, hb⟩
    have B1 := Lib.hid hb
    clear hb
    rw [H1.out]
    go_wp2
    go_loopw [14, 6] (fun j o wr => ∃ k : Nat, k ≤ len ∧ j = .int .i64 k ∧ wr.ownsRow w.heap.size 35 5 o (ofScale sc (xs.take k)).length (shCells (ofScale sc (xs.take k))) ∧ Below w.heap.size w wr) (fun j _ _ => len - (intOf j).toNat)
    case atStart => exact ⟨0, Nat.zero_le _, rfl, nil_sheets _ _, B1.out⟩
    case round =>
      obtain ⟨k, hk, rfl, hown, hbel⟩ := hrel
      have O := Lib.hid hown
      have BR := Lib.hid hbel
      clear hown
      by_cases hlt : k < len
      · obtain ⟨s, hs⟩ := list_at L hlt
        obtain ⟨b, o, rfl, hb, hat⟩ := (S.out.below hbel).at (by omega)
        obtain ⟨c0, c1, c2, c3, c4⟩ := hat k s hs
        have FS := Lib.hid (show ofScale sc (xs.take (k + 1)) = ofScale sc (xs.take k) ++ (if (s.scale == sc) = true then [s] else []) from filter_snoc _ hs)
        have hfl : (ofScale sc (xs.take k)).length ≤ k := filter_len _ xs k
        clear hs hat hbel
        by_cases hsc : s.scale = sc
        · have SC := Lib.hid hsc
          subst hsc
          have hsz := BR.out.size
          have hown2 := (O.out.alloc (.cells #[.int .i64 s.id, .int .i64 s.row, .int .i64 s.col, .int .i64 s.scale, .int .i64 s.year] 35)).alloc (.cells #[.int .i64 s.id, .int .i64 s.row, .int .i64 s.col, .int .i64 s.scale, .int .i64 s.year] 35)
          have hz3 : (wr.alloc (.cells #[.int .i64 s.id, .int .i64 s.row, .int .i64 s.col, .int .i64 s.scale, .int .i64 s.year] 35)).heap.size = wr.heap.size + 1 := size_alloc _ _
          have HZ := Lib.hid hz3
          clear hz3
          go_wp2_with (at_builtin; refine wpList_append_own _ rfl _ _ 24 rfl w.heap.size 35 i0 (.agg #[.int .i64 0, .int .i64 0, .int .i64 0, .int .i64 0, .int .i64 0]) 5 40 Try.underlying24 hi hz0 hz1 hz2 rfl (by decide) _ _ _ rfl hown2 ⟨wr.heap.size + 1, 0, none⟩ 1 1 s.cells rfl rfl (cell_five2 _ _ _ _) (cells_one s) (by unfold maxLen; omega) (by omega) (by simp; omega) ?_; intro v' w4 hown' hgrow4 hnil4)
          go_roundw
          case rel =>
            refine ⟨k + 1, by omega, by go_num, ?_, (Below.then' BR.out (bel_alloc2 _ _ _)).grown hgrow4 (by simp; omega) (fun j e => (hown2.lt j e).1)⟩
            rw [FS.out, if_pos (by simp), shCells_snoc]
            simpa using hown'
          case measure => simp [intOf]; omega
        · have SC := Lib.hid (show (s.scale == sc) = false by simpa using hsc)
          go_wp2
          go_roundw
          case rel => exact ⟨k + 1, by omega, by go_num, by rw [FS.out, SC.out]; simpa using ownsRow_below O.out (bel_alloc1 _ _), Below.then' BR.out (bel_alloc1 _ _)⟩
          case measure => simp [intOf]; omega
      · obtain rfl : k = len := by omega
        clear hbel
        have hfl : (ofScale sc xs).length ≤ 12 := Nat.le_trans (List.length_filter_le _ _) (by have := L.out; omega)
        have O3 := O.out
        rw [List.take_of_length_le (show xs.length ≤ k by have := L.out; omega)] at O3
        have O2 := Lib.hid O3
        rcases O3.2 with ⟨rfl, h0⟩ | ⟨g, cap2, cur, rfl, hg, hh, hn, hcap, _⟩
        · have hnil : ofScale sc xs = [] := List.length_eq_zero_iff.1 h0
          have HN := Lib.hid hnil
          clear O3 h0 hnil hfl
          go_wp2_with fail
          refine (sort_none _ _).mono ?_
          rintro e w' ⟨rfl, rfl⟩
          go_wp2
          go_ret2
          exact ⟨none, 0, [], rfl, .inl ⟨H1.out, by rw [HN.out]⟩, fun i j s t _ hs => by simp at hs, nil_isSheetS _, BR.out⟩
        · clear O3 hh
          unfold maxLen at hcap
          go_wp2_with fail
          refine (sort_any w.heap.size cap2 g (ofScale sc xs) _ O2.out hfl).mono ?_
          rintro e w' ⟨rfl, ys, hperm, hsort, hys, hgr⟩
          have hyl := hperm.length_eq
          have P := Lib.hid hperm
          have SO := Lib.hid hsort
          have YS := Lib.hid hys
          have BG := Lib.hid (BR.out.grown hgr BR.out.size (fun k e => by cases e; exact hg))
          have HL := Lib.hid hyl
          clear hperm hsort hys hgr hyl
          go_wp2
          go_ret2
          exact ⟨some ⟨g, 0, none⟩, cap2, ys, by rw [HL.out]; first | rfl | simp, .inl ⟨H1.out, P.out⟩, SO.out, by rw [HL.out]; exact YS.out, BG.out⟩
  · have h' : areSh xs = false := by simpa using har
    have H1 := Lib.hid h'
    clear har h'
    go_enter Try.func59, Try.ntmps59
    go_wp2_with fail
    refine (implAreSheets_any _ _ _ xs _ S.out).mono ?_
    rintro e w1 ⟨rfl, hb⟩
    have B := Lib.hid hb
    clear hb
    rw [H1.out]
    go_wp2
    go_ret2
    exact ⟨none, 0, [], rfl, .inr ⟨H1.out, rfl⟩, fun i j s t _ hs => by simp at hs, nil_isSheetS _, B.out⟩
end Go.Proofs.Ytidaoijpbdljbaa
