/- ShownOn, in the program and in the model. -/
import Derived.Test.YtidaoijpbdljbaaPs
import Derived.Test.YtidaoijpbdljbaaSpecIds
namespace Go.Proofs.Ytidaoijpbdljbaa
open Go.RowKit

def showIds (xs : List Sh) (x y : Int) : List Int := (shownXs xs x y).map Sh.id
theorem showIds_len (xs : List Sh) (x y : Int) : (showIds xs x y).length ≤ 12 := by unfold showIds; rw [List.length_map]; exact shown_len xs x y
theorem cell_one' (w : World) (x : Value) (t : TypeId) (B : Nat) (hB : w.heap.size = B) : ∀ j u, [x][j]? = some u → (w.alloc (.cells #[x] t)).cell? ((⟨B, 0, none⟩ : Addr).add j) = some u := hB ▸ cell_one w x t
theorem own_base {w : World} {b b' n size : Nat} {e : TypeId} {v : Value} {xs : List Value} (h : w.ownsRow b' e size v n xs) (hb : b ≤ b') : w.ownsRow b e size v n xs := by
  refine ⟨h.1, ?_⟩
  rcases h.2 with h0 | ⟨g, cap, cur, e', h1, h2⟩
  · exact .inl h0
  · exact .inr ⟨g, cap, cur, e', Nat.le_trans hb h1, h2⟩
theorem map_snoc_id {ys : List Sh} {k : Nat} {s : Sh} (h : ys[k]? = some s) : (ys.take (k + 1)).map Sh.id = (ys.take k).map Sh.id ++ [s.id] := by
  rw [List.take_add_one, h]; simp
set_option maxHeartbeats 3200000 in
set_option maxRecDepth 100000 in
theorem implShownOn_any (a : Option Addr) (len cap : Nat) (xs : List Sh) (x y : Int) (w : World) (h : IsSheetS w a len cap xs) :
    Calls Try.prog 48 #[.slice a len cap, .int .i64 x, .int .i64 y] w (IntsOk (showIds xs x y) (shownOk xs x y) w) := by
  have S := Lib.hid h
  clear h
  obtain ⟨i0, hi, hz0, hz1, hz2⟩ := info_parts infoInt
  obtain ⟨ys, hys⟩ : ∃ ys, shownXs xs x y = ys := ⟨_, rfl⟩
  obtain ⟨q, hq⟩ : ∃ q, shownOk xs x y = q := ⟨_, rfl⟩
  have hyl : ys.length ≤ 12 := by rw [← hys]; exact shown_len xs x y
  have NO := Lib.hid (show q = false → ys = [] by intro h; rw [← hys]; unfold shownXs; rw [hq, h]; rfl)
  have Y := Lib.hid hys
  have Q := Lib.hid hq
  have V := Lib.hid (show showIds xs x y = ys.map Sh.id by unfold showIds; rw [hys])
  clear hys hq
  go_enter Try.func48, Try.ntmps48
  go_wp2_with fail
  refine (sheetsShowing_any _ _ _ xs x y _ S.out).mono ?_
  rintro e w1 ⟨v, rfl, hown, hb⟩
  rw [Y.out] at hown
  rw [Q.out]
  obtain ⟨a1, c1, rfl, hi1⟩ := isSheetS_own hown
  have B1 := Lib.hid hb
  have T := Lib.hid hi1
  have LT := Lib.hid hi1.1
  have tm := hi1.2.2.1
  have tcl := hi1.2.1
  unfold maxLen at tm
  clear hown hb hi1
  cases q
  · obtain rfl := NO.out rfl
    go_wp2
    go_ret2
    exact ⟨_, ret_vb Q.out.symm, by rw [V.out]; exact nil_row _ _ _, B1.out⟩
  go_wp2
  go_loopw [10, 12, 24] (fun o _ j wr => ∃ k : Nat, k ≤ ys.length ∧ j = .int .i64 k ∧ wr.ownsRow w1.heap.size 3 1 o ((ys.take k).map Sh.id).length (intCells ((ys.take k).map Sh.id)) ∧ Below w1.heap.size w1 wr) (fun _ _ j _ => ys.length - (intOf j).toNat)
  case atStart => exact ⟨0, Nat.zero_le _, rfl, nil_row _ _ _, Below.refl _ _⟩
  case round =>
    obtain ⟨k, hk, rfl, hown, hbel⟩ := hrel
    have O := Lib.hid hown
    have BR := Lib.hid hbel
    by_cases hlt : k < ys.length
    · obtain ⟨s, hs⟩ : ∃ s, ys[k]? = some s := ⟨ys[k]'hlt, List.getElem?_eq_getElem _⟩
      obtain ⟨b, o, rfl, hb, hat⟩ := (T.out.below hbel).at (by omega)
      obtain ⟨c0, c1, c2, c3, c4⟩ := hat k s hs
      have hi0 : (0 : Int) ≤ (k : Int) := by omega
      have hi1 : (k : Int) < (ys.length : Int) := by omega
      have MS := Lib.hid (map_snoc_id hs)
      have hsz := hbel.size
      have hs1 := B1.out.size
      have hown2 := ownsRow_below hown (bel_alloc1 wr (.cells #[.int .i64 s.id, .int .i64 s.row, .int .i64 s.col, .int .i64 s.scale, .int .i64 s.year] 35))
      have BX := boxAt_new wr 35 s _ rfl
      obtain ⟨e0, e1, e2, e3, e4⟩ := BX
      have hml : ((ys.take k).map Sh.id).length ≤ 12 := by simp; omega
      have B2 := Lib.hid (Below.then' BR.out (bel_alloc2 wr (.cells #[.int .i64 s.id, .int .i64 s.row, .int .i64 s.col, .int .i64 s.scale, .int .i64 s.year] 35) (.cells #[.int .i64 s.id] 3)))
      have OL := Lib.hid (hown2.alloc (.cells #[.int .i64 s.id] 3))
      clear hs hat hbel hown
      go_wp2_with (at_builtin; refine wpList_append_own _ rfl _ _ 27 rfl w1.heap.size 3 i0 (.int .i64 0) 1 8 Try.underlying27 hi hz0 hz1 hz2 rfl (by decide) _ _ _ rfl OL.out ⟨wr.heap.size + 1, 0, none⟩ 1 1 [.int .i64 s.id] rfl rfl (cell_one' _ _ _ _ (by simp)) (fun x hx => by simp at hx; subst hx; rfl) (by unfold maxLen; omega) (by omega) (by simp; omega) ?_; intro v' w4 hown' hgrow4 hnil4)
      go_roundw
      case rel =>
        refine ⟨k + 1, by omega, by go_num, ?_, ?_⟩
        · rw [MS.out, intCells_snoc]
          simpa using hown'
        · exact B2.out.grown hgrow4 (by simp; omega) (fun j e => (OL.out.lt j e).1)
      case measure => simp [intOf]; omega
    · obtain rfl : k = ys.length := by omega
      have E : ys.take ys.length = ys := List.take_length
      rw [E, ← V.out] at O
      clear hbel hown E
      go_wp2
      go_ret2
      exact ⟨_, ret_vb Q.out.symm, own_base O.out B1.out.size, Below.then' B1.out BR.out⟩

set_option maxHeartbeats 3200000 in
theorem l4Shows_any (s : Sh) (x y : Int) (w : World) (hs : s.ok = true) (hp : placeB x y = true) :
    Calls Try.prog 79 #[.agg #[.int .i64 s.id, .int .i64 s.row, .int .i64 s.col, .int .i64 s.scale, .int .i64 s.year], .int .i64 x, .int .i64 y] w (BoolPost (showsB x y s) w) := by
  obtain ⟨⟨n1, n2⟩, ⟨n3, n4⟩, ⟨n5, n6⟩⟩ := show_num (x := x) (y := y) hs
  have pl := place_iff.1 hp
  obtain ⟨sd, hsd⟩ : ∃ sd, 10 * s.scale = sd := ⟨_, rfl⟩
  rw [hsd] at n1 n2 n3 n4 n5 n6
  obtain ⟨p, hpp⟩ : ∃ p, inB (x - s.col * sd) 0 (sd - 1) = p := ⟨_, rfl⟩
  obtain ⟨q, hqq⟩ : ∃ p, inB (y - s.row * sd) 0 (sd - 1) = p := ⟨_, rfl⟩
  have SB := Lib.hid (show showsB x y s = (p && q) by unfold showsB; rw [hsd, hpp, hqq])
  have P := Lib.hid hpp
  have Q := Lib.hid hqq
  have v1 : IntKind.i64.wrap (10 * s.scale) = sd := (IntWalk.i64_in _ (by omega)).trans hsd
  have v2 : IntKind.i64.wrap (sd - 1) = sd - 1 := IntWalk.i64_in _ (by omega)
  have v3 : IntKind.i64.wrap (s.col * sd) = s.col * sd := IntWalk.i64_in _ (by omega)
  have v4 : IntKind.i64.wrap (s.row * sd) = s.row * sd := IntWalk.i64_in _ (by omega)
  have v5 : IntKind.i64.wrap (x - s.col * sd) = x - s.col * sd := IntWalk.i64_in _ (by omega)
  have v6 : IntKind.i64.wrap (y - s.row * sd) = y - s.row * sd := IntWalk.i64_in _ (by omega)
  obtain ⟨e0, e1, e2, e3, e4⟩ := boxAt_new w 35 s _ rfl
  clear hpp hqq hsd n1 n2 n3 n4 n5 n6 hs hp
  go_enter Try.func79, Try.ntmps79
  go_wp2_with fail
  refine (l1In_any _ _ _ _).mono ?_
  rintro e w' ⟨rfl, rfl⟩
  rw [P.out]
  cases p
  · go_wp2
    go_ret
    exact ⟨ret_bool SB.out.symm, bel_alloc1 _ _⟩
  · go_wp2_with fail
    refine (l1In_any _ _ _ _).mono ?_
    rintro e w' ⟨rfl, rfl⟩
    rw [Q.out]
    go_wp2
    go_ret
    exact ⟨ret_bool SB.out.symm, bel_alloc1 _ _⟩

set_option maxHeartbeats 6400000 in
set_option maxRecDepth 100000 in
theorem specShownOn_any (a : Option Addr) (len cap : Nat) (xs : List Sh) (x y : Int) (w : World) (h : IsSheetS w a len cap xs) :
    Calls Try.prog 47 #[.slice a len cap, .int .i64 x, .int .i64 y] w (IntsOk (showIds xs x y) (shownOk xs x y) w) := by
  have hm := h.2.2.1
  have hcl := h.2.1
  unfold maxLen at hm
  have S := Lib.hid h
  have L := Lib.hid h.1
  have B0 := Lib.hid (bel_alloc1 w (.cells #[] 3))
  have S1 := Lib.hid (h.below B0.out)
  have O0 := Lib.hid (World.ownsRow_made (base := w.heap.size) (e := 3) (size := 1) w #[] 0 (by simp) (Nat.zero_le _) rfl)
  clear h
  obtain ⟨i0, hi, hz0, hz1, hz2⟩ := info_parts infoInt
  obtain ⟨c, hc⟩ : ∃ c, areSh xs = c := ⟨_, rfl⟩
  obtain ⟨p, hp⟩ : ∃ p, placeB x y = p := ⟨_, rfl⟩
  have V1 := Lib.hid (show shownOk xs x y = (c && p) by unfold shownOk; rw [hc, hp])
  have C := Lib.hid hc
  have P := Lib.hid hp
  clear hc hp
  go_enter Try.func47, Try.ntmps47
  go_wp2_with fail
  refine (l2Sheets_any _ _ _ xs _ S1.out).mono ?_
  rintro e w1 ⟨rfl, hb⟩
  rw [C.out]
  have B1 := Lib.hid (Below.then' B0.out hb)
  have O1 := Lib.hid (ownsRow_below O0.out hb)
  clear hb
  cases c
  · have V0 := Lib.hid (show showIds xs x y = [] by unfold showIds shownXs; rw [V1.out]; rfl)
    go_wp2
    go_ret2
    exact ⟨_, ret_vb V1.out.symm, by rw [V0.out]; exact O1.out, B1.out⟩
  go_wp2_with fail
  refine (l4Place_any x y _).mono ?_
  rintro e w2 ⟨rfl, rfl⟩
  rw [P.out]
  cases p
  · have V0 := Lib.hid (show showIds xs x y = [] by unfold showIds shownXs; rw [V1.out]; rfl)
    go_wp2
    go_ret2
    exact ⟨_, ret_vb V1.out.symm, by rw [V0.out]; exact O1.out, B1.out⟩
  have l12 : len ≤ 12 := by have := (areSh_iff.1 C.out).1; have := L.out; omega
  have V0 := Lib.hid (show showIds xs x y = (xs.filter (showsB x y)).map Sh.id by unfold showIds shownXs; rw [V1.out]; rfl)
  go_wp2
  go_loopw [8, 9] (fun o j wr => ∃ k : Nat, k ≤ len ∧ j = .int .i64 k ∧ wr.ownsRow w.heap.size 3 1 o (((xs.take k).filter (showsB x y)).map Sh.id).length (intCells (((xs.take k).filter (showsB x y)).map Sh.id)) ∧ Below w.heap.size w wr) (fun _ j _ => len - (intOf j).toNat)
  case atStart => exact ⟨0, Nat.zero_le _, rfl, O1.out, B1.out⟩
  case round =>
    obtain ⟨k, hk, rfl, hown, hbel⟩ := hrel
    have O := Lib.hid hown
    have BR := Lib.hid hbel
    by_cases hlt : k < len
    · obtain ⟨s, hs⟩ := list_at L hlt
      obtain ⟨b, o, rfl, hb, hat⟩ := (S.out.below hbel).at (by omega)
      obtain ⟨c0, c1, c2, c3, c4⟩ := hat k s hs
      have hi0 : (0 : Int) ≤ (k : Int) := by omega
      have hi1 : (k : Int) < (len : Int) := by omega
      have FS := Lib.hid (filter_snoc (showsB x y) hs)
      have OKS := Lib.hid (areSh_ok C.out (List.mem_of_getElem? hs))
      have hfl := filter_len (showsB x y) xs k
      have AT := Lib.hid (hat k s hs)
      obtain ⟨q, hq⟩ : ∃ q, showsB x y s = q := ⟨_, rfl⟩
      have QQ := Lib.hid hq
      clear hs hat hbel hown hq
      go_wp2_with fail
      refine (l4Shows_any s x y _ OKS.out P.out).mono ?_
      rintro e w3 ⟨rfl, hb3⟩
      rw [QQ.out]
      have B3 := Lib.hid (Below.then' BR.out hb3)
      have O3 := Lib.hid (ownsRow_below O.out hb3)
      have A3 := Lib.hid (AT.out.below hb3 hb)
      clear c0 c1 c2 c3 c4 hb3
      cases q
      · go_wp2
        go_roundw
        case rel => exact ⟨k + 1, by omega, by go_num, by rw [FS.out, QQ.out]; simpa using O3.out, B3.out⟩
        case measure => simp [intOf]; omega
      · obtain ⟨e0, e1, e2, e3, e4⟩ := A3.out
        have hown3 := O3.out
        have hsz := B3.out.size
        have hrl : (((xs.take k).filter (showsB x y)).map Sh.id).length ≤ k := by simpa using hfl
        go_wp2_with (at_builtin; refine wpList_append_own _ rfl _ _ 27 rfl w.heap.size 3 i0 (.int .i64 0) 1 8 Try.underlying27 hi hz0 hz1 hz2 rfl (by decide) _ _ _ rfl (hown3.alloc _) ⟨w3.heap.size, 0, none⟩ 1 1 [.int .i64 s.id] rfl rfl (cell_one _ _ _) (fun x hx => by simp at hx; subst hx; rfl) (by unfold maxLen; omega) (by omega) (by simp; omega) ?_; intro v' w4 hown' hgrow4 hnil4)
        go_roundw
        case rel =>
          refine ⟨k + 1, by omega, by go_num, ?_, (Below.then' B3.out (bel_alloc1 _ _)).grown hgrow4 (by simp; omega) (fun j e => (O3.out.lt j e).1)⟩
          rw [FS.out, if_pos QQ.out, List.map_append, show [s].map Sh.id = [s.id] from rfl, intCells_snoc]
          simpa using hown'
        case measure => simp [intOf]; omega
    · obtain rfl : k = len := by omega
      have E : xs.take k = xs := List.take_of_length_le (by have := L.out; omega)
      rw [E, ← V0.out] at O
      clear hbel hown E
      go_wp2
      go_ret2
      exact ⟨_, ret_vb V1.out.symm, O.out, BR.out⟩
end Go.Proofs.Ytidaoijpbdljbaa
