/- Which sheets show a place, in the program. -/
import Derived.Test.YtidaoijpbdljbaaPi
import Derived.Test.YtidaoijpbdljbaaIds
namespace Go.Proofs.Ytidaoijpbdljbaa
open Go.RowKit

/-- Does the sheet show the place? -/
def showsB (x y : Int) (s : Sh) : Bool := inB (x - s.col * (10 * s.scale)) 0 (10 * s.scale - 1) && inB (y - s.row * (10 * s.scale)) 0 (10 * s.scale - 1)
def shownOk (xs : List Sh) (x y : Int) : Bool := areSh xs && placeB x y
def shownXs (xs : List Sh) (x y : Int) : List Sh := if shownOk xs x y then xs.filter (showsB x y) else []
theorem shown_len (xs : List Sh) (x y : Int) : (shownXs xs x y).length ≤ 12 := by
  unfold shownXs
  split
  · rename_i h
    unfold shownOk at h
    rw [Bool.and_eq_true] at h
    have := (areSh_iff.1 h.1).1
    exact Nat.le_trans (List.length_filter_le _ _) this
  · simp
/-- The numbers that the test runs through. -/
structure ShowNum (x y : Int) (s : Sh) : Prop where
  a1 : 100 ≤ 10 * s.scale ∧ 10 * s.scale ≤ 5000
  a2 : 0 ≤ s.col * (10 * s.scale) ∧ s.col * (10 * s.scale) ≤ 495000
  a3 : 0 ≤ s.row * (10 * s.scale) ∧ s.row * (10 * s.scale) ≤ 495000
theorem show_num {x y : Int} {s : Sh} (h : s.ok = true) : ShowNum x y s := by
  obtain ⟨_, ⟨a1, a2⟩, ⟨a3, a4⟩, ⟨a5, a6⟩, _⟩ := Sh.ok_iff.1 h
  refine ⟨⟨by omega, by omega⟩, ⟨Int.mul_nonneg a3 (by omega), ?_⟩, ⟨Int.mul_nonneg a1 (by omega), ?_⟩⟩
  · exact Int.le_trans (Int.mul_le_mul a4 (show 10 * s.scale ≤ 5000 by omega) (by omega) (by omega)) (by omega)
  · exact Int.le_trans (Int.mul_le_mul a2 (show 10 * s.scale ≤ 5000 by omega) (by omega) (by omega)) (by omega)
theorem Sh.cells_one (s : Sh) : ∀ u ∈ s.cells, u.oneCell' = true := by
  intro u hu
  simp [Sh.cells] at hu
  rcases hu with rfl | rfl | rfl | rfl | rfl <;> rfl
theorem cell_Sh (w : World) (s : Sh) (t : TypeId) : ∀ j u, s.cells[j]? = some u → (w.alloc (.cells #[.int .i64 s.id, .int .i64 s.row, .int .i64 s.col, .int .i64 s.scale, .int .i64 s.year] t)).cell? ((⟨w.heap.size, 0, none⟩ : Addr).add j) = some u := by
  intro j u hj
  rw [add_plain, Nat.zero_add, World.cell?_alloc_new]
  simpa [Sh.cells] using hj
theorem nil_shs (w : World) (base : Nat) : w.ownsRow base 35 5 (.slice none 0 0) ([] : List Sh).length (shCells []) := ⟨by simp [shCells], .inl ⟨rfl, rfl⟩⟩
/-- A row of sheets and a yes or no. -/
def ShsOk (xs : List Sh) (ok : Bool) (w : World) (e : Ending) (w' : World) : Prop := ∃ v, e = .returned (.tuple #[v, .bool ok]) ∧ w'.ownsRow w.heap.size 35 5 v xs.length (shCells xs) ∧ Below w.heap.size w w'

set_option maxHeartbeats 6400000 in
set_option maxRecDepth 100000 in
theorem sheetsShowing_any (a : Option Addr) (len cap : Nat) (xs : List Sh) (x y : Int) (w : World) (h : IsSheetS w a len cap xs) :
    Calls Try.prog 80 #[.slice a len cap, .int .i64 x, .int .i64 y] w (ShsOk (shownXs xs x y) (shownOk xs x y) w) := by
  have hm := h.2.2.1
  have hcl := h.2.1
  unfold maxLen at hm
  have S := Lib.hid h
  have L := Lib.hid h.1
  clear h
  obtain ⟨i0, hi, hz0, hz1, hz2⟩ := info_parts infoSheet
  obtain ⟨c, hc⟩ : ∃ c, areSh xs = c := ⟨_, rfl⟩
  obtain ⟨p, hp⟩ : ∃ p, placeB x y = p := ⟨_, rfl⟩
  have V1 := Lib.hid (show shownOk xs x y = (c && p) by unfold shownOk; rw [hc, hp])
  have C := Lib.hid hc
  have P := Lib.hid hp
  clear hc hp
  go_enter Try.func80, Try.ntmps80
  go_wp2_with fail
  refine (implAreSheets_any _ _ _ xs _ S.out).mono ?_
  rintro e w1 ⟨rfl, hb⟩
  rw [C.out]
  have B1 := Lib.hid hb
  clear hb
  cases c
  · have V0 := Lib.hid (show shownXs xs x y = [] by unfold shownXs; rw [V1.out]; rfl)
    go_wp2
    go_ret2
    exact ⟨_, ret_vb V1.out.symm, by rw [V0.out]; exact nil_shs _ _, B1.out⟩
  go_wp2_with fail
  refine (isPlace_any x y _).mono ?_
  rintro e w2 ⟨rfl, hb⟩
  rw [P.out]
  have B2 := Lib.hid (Below.then' B1.out hb)
  clear hb
  cases p
  · have V0 := Lib.hid (show shownXs xs x y = [] by unfold shownXs; rw [V1.out]; rfl)
    go_wp2
    go_ret2
    exact ⟨_, ret_vb V1.out.symm, by rw [V0.out]; exact nil_shs _ _, B2.out⟩
  have l12 : len ≤ 12 := by have := (areSh_iff.1 C.out).1; have := L.out; omega
  have pl := place_iff.1 P.out
  have V0 := Lib.hid (show shownXs xs x y = xs.filter (showsB x y) by unfold shownXs; rw [V1.out]; rfl)
  go_wp2
  go_loopw [8, 10, 11, 23] (fun o _ _ j wr => ∃ k : Nat, k ≤ len ∧ j = .int .i64 k ∧ wr.ownsRow w.heap.size 35 5 o ((xs.take k).filter (showsB x y)).length (shCells ((xs.take k).filter (showsB x y))) ∧ Below w.heap.size w wr) (fun _ _ _ j _ => len - (intOf j).toNat)
  case atStart => exact ⟨0, Nat.zero_le _, rfl, nil_shs _ _, B2.out⟩
  case round =>
    obtain ⟨k, hk, rfl, hown, hbel⟩ := hrel
    have O := Lib.hid hown
    have BR := Lib.hid hbel
    clear hown
    by_cases hlt : k < len
    · obtain ⟨s, hs⟩ := list_at L hlt
      obtain ⟨b, o, rfl, hb, hat⟩ := (S.out.below hbel).at (by omega)
      obtain ⟨c0, c1, c2, c3, c4⟩ := hat k s hs
      have hi0 : (0 : Int) ≤ (k : Int) := by omega
      have hi1 : (k : Int) < (len : Int) := by omega
      have FS := Lib.hid (filter_snoc (showsB x y) hs)
      obtain ⟨⟨n1, n2⟩, ⟨n3, n4⟩, ⟨n5, n6⟩⟩ := show_num (x := x) (y := y) (areSh_ok C.out (List.mem_of_getElem? hs))
      have hfl := filter_len (showsB x y) xs k
      obtain ⟨sd, hsd⟩ : ∃ sd, 10 * s.scale = sd := ⟨_, rfl⟩
      rw [hsd] at n1 n2 n3 n4 n5 n6
      have SHB : showsB x y s = (inB (x - s.col * sd) 0 (sd - 1) && inB (y - s.row * sd) 0 (sd - 1)) := by unfold showsB; rw [hsd]
      have v1 : IntKind.i64.wrap (10 * s.scale) = sd := (IntWalk.i64_in _ (by omega)).trans hsd
      have v2 : IntKind.i64.wrap (sd - 1) = sd - 1 := IntWalk.i64_in _ (by omega)
      have v3 : IntKind.i64.wrap (s.col * sd) = s.col * sd := IntWalk.i64_in _ (by omega)
      have v4 : IntKind.i64.wrap (s.row * sd) = s.row * sd := IntWalk.i64_in _ (by omega)
      have v5 : IntKind.i64.wrap (x - s.col * sd) = x - s.col * sd := IntWalk.i64_in _ (by omega)
      have v6 : IntKind.i64.wrap (y - s.row * sd) = y - s.row * sd := IntWalk.i64_in _ (by omega)
      obtain ⟨q, hq⟩ : ∃ q, showsB x y s = q := ⟨_, rfl⟩
      rw [hq] at SHB
      have SB := Lib.hid SHB
      have QQ := Lib.hid hq
      have BX := Lib.hid (boxAt_new wr 35 s _ rfl)
      obtain ⟨e0, e1, e2, e3, e4⟩ := BX.out
      clear hs hat hbel SHB hq hsd n1 n2 n3 n4 n5 n6
      go_wp2_with fail
      refine (areIn2 _ _ _ _ _ _ _ (by simp)).mono ?_
      rintro e w' ⟨rfl, rfl⟩
      rw [← SB.out]
      have hb2 := bel_alloc1 (wr.alloc (.cells #[.int .i64 s.id, .int .i64 s.row, .int .i64 s.col, .int .i64 s.scale, .int .i64 s.year] 35)) (.cells #[.int .i64 (x - s.col * sd), .int .i64 (y - s.row * sd)] 3)
      have hb3 := Below.then' (bel_alloc1 wr (.cells #[.int .i64 s.id, .int .i64 s.row, .int .i64 s.col, .int .i64 s.scale, .int .i64 s.year] 35)) hb2
      have B3 := Lib.hid (Below.then' BR.out hb3)
      have O3 := Lib.hid (ownsRow_below O.out hb3)
      have BX2 := Lib.hid (BX.out.below hb2)
      clear c0 c1 c2 c3 c4 hb2 hb3 e0 e1 e2 e3 e4
      cases q
      · go_wp2
        go_roundw
        case rel => exact ⟨k + 1, by omega, by go_num, by rw [FS.out, QQ.out]; simpa using O3.out, B3.out⟩
        case measure => simp [intOf]; omega
      · obtain ⟨W, hW⟩ : ∃ W, (wr.alloc (.cells #[.int .i64 s.id, .int .i64 s.row, .int .i64 s.col, .int .i64 s.scale, .int .i64 s.year] 35)).alloc (.cells #[.int .i64 (x - s.col * sd), .int .i64 (y - s.row * sd)] 3) = W := ⟨_, rfl⟩
        rw [hW] at B3 O3 BX2 ⊢
        clear hW
        obtain ⟨e0, e1, e2, e3, e4⟩ := BX2.out
        have hown3 := O3.out
        have hsz := B3.out.size
        go_wp2_with (at_builtin; refine wpList_append_own _ rfl _ _ 24 rfl w.heap.size 35 i0 (.agg #[.int .i64 0, .int .i64 0, .int .i64 0, .int .i64 0, .int .i64 0]) 5 40 Try.underlying24 hi hz0 hz1 hz2 rfl (by decide) _ _ _ rfl (hown3.alloc _) ⟨W.heap.size, 0, none⟩ 1 1 s.cells rfl rfl (cell_Sh _ _ _) s.cells_one (by unfold maxLen; omega) (by omega) (by simp; omega) ?_; intro v' w4 hown' hgrow4 hnil4)
        go_roundw
        case rel =>
          refine ⟨k + 1, by omega, by go_num, ?_, (Below.then' B3.out (bel_alloc1 _ _)).grown hgrow4 (by simp; omega) (fun j e => (O3.out.lt j e).1)⟩
          rw [FS.out, if_pos QQ.out, shCells_snoc]
          simpa using hown'
        case measure => simp [intOf]; omega
    · obtain rfl : k = len := by omega
      have E : xs.take k = xs := List.take_of_length_le (by have := L.out; omega)
      rw [E, ← V0.out] at O
      clear hbel E
      go_wp2
      go_ret2
      exact ⟨_, ret_vb V1.out.symm, O.out, BR.out⟩
end Go.Proofs.Ytidaoijpbdljbaa
