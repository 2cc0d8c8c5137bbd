/- BestSheet in the model. -/
import Derived.Test.YtidaoijpbdljbaaPs4
namespace Go.Proofs.Ytidaoijpbdljbaa
open Go.RowKit

theorem filter_take (f : Sh → Bool) {xs : List Sh} {k : Nat} {s : Sh} (h : xs[k]? = some s) : (xs.take (k + 1)).filter f = if f s then (xs.take k).filter f ++ [s] else (xs.take k).filter f := by
  rw [filter_snoc f h]
  split <;> simp
theorem pickL_in (b : Sh → Sh → Bool) {ys : List Sh} (h : ys ≠ []) : pickL b ys ∈ ys := by
  have hl : 0 < ys.length := List.length_pos_iff.2 h
  have := pickL_mem b (ys := ys) ys.length hl (Nat.le_refl _)
  rwa [List.take_length] at this
set_option maxHeartbeats 6400000 in
set_option maxRecDepth 100000 in
theorem specBestSheet_any (a : Option Addr) (len cap : Nat) (xs : List Sh) (x y : Int) (w : World) (h : IsSheetS w a len cap xs) :
    Calls Try.prog 49 #[.slice a len cap, .int .i64 x, .int .i64 y] w fun e w' => e = .returned (.tuple #[.int .i64 (BestSheet_0 xs x y), .bool (BestSheet_1 xs x y)]) ∧ Below w.heap.size w w' := by
  have hm := h.2.2.1
  have hcl := h.2.1
  unfold maxLen at hm
  have S := Lib.hid h
  have L := Lib.hid h.1
  clear h
  obtain ⟨c, hc⟩ : ∃ c, areSh xs = c := ⟨_, rfl⟩
  obtain ⟨p, hp⟩ : ∃ p, placeB x y = p := ⟨_, rfl⟩
  have V1 := Lib.hid (show shownOk xs x y = (c && p) by unfold shownOk; rw [hc, hp])
  have C := Lib.hid hc
  have P := Lib.hid hp
  clear hc hp
  go_enter Try.func49, Try.ntmps49
  go_wp2_with fail
  refine (l2Sheets_any _ _ _ xs _ S.out).mono ?_
  rintro e w1 ⟨rfl, hb⟩
  rw [C.out]
  have B1 := Lib.hid hb
  clear hb
  cases c
  · have V0 := Lib.hid (show BestSheet_0 xs x y = 0 ∧ BestSheet_1 xs x y = false by unfold BestSheet_0 BestSheet_1 bestOf shownXs; rw [V1.out]; exact ⟨rfl, rfl⟩)
    go_wp2
    go_ret2
    exact ⟨ret_ib V0.out.1.symm V0.out.2.symm, B1.out⟩
  go_wp2_with fail
  refine (l4Place_any x y _).mono ?_
  rintro e w2 ⟨rfl, rfl⟩
  rw [P.out]
  cases p
  · have V0 := Lib.hid (show BestSheet_0 xs x y = 0 ∧ BestSheet_1 xs x y = false by unfold BestSheet_0 BestSheet_1 bestOf shownXs; rw [V1.out]; exact ⟨rfl, rfl⟩)
    go_wp2
    go_ret2
    exact ⟨ret_ib V0.out.1.symm V0.out.2.symm, B1.out⟩
  have VX := Lib.hid (show shownXs xs x y = xs.filter (showsB x y) by unfold shownXs; rw [V1.out]; rfl)
  have Z1 := Lib.hid (HBSh.new w1 sh0 _ rfl)
  have B2 := Lib.hid (Below.then' B1.out (bel_alloc1 w1 (.cells #[.int .i64 sh0.id, .int .i64 sh0.row, .int .i64 sh0.col, .int .i64 sh0.scale, .int .i64 sh0.year] 35)))
  have hs1 := B1.out.size
  go_wp2
  go_loopw [9, 10] (fun j _ wr => ∃ k : Nat, k ≤ len ∧ j = .int .i64 k ∧ HBSh wr w1.heap.size (pickL betterB ((xs.take k).filter (showsB x y))) ∧ Below w.heap.size w wr) (fun j _ _ => len - (intOf j).toNat)
  case atStart => exact ⟨0, Nat.zero_le _, rfl, Z1.out, B2.out⟩
  case round =>
    obtain ⟨k, hk, rfl, hz, hbel⟩ := hrel
    have H := Lib.hid hz
    have BR := Lib.hid hbel
    by_cases hlt : k < len
    · obtain ⟨s, hs⟩ := list_at L hlt
      obtain ⟨b, o, rfl, hb, hat⟩ := (S.out.below hbel).at (by omega)
      obtain ⟨c0, c1, c2, c3, c4⟩ := hat k s hs
      have hi0 : (0 : Int) ≤ (k : Int) := by omega
      have hi1 : (k : Int) < (len : Int) := by omega
      have FT := filter_take (showsB x y) hs
      have OKS := Lib.hid (areSh_ok C.out (List.mem_of_getElem? hs))
      obtain ⟨q, hq⟩ : ∃ q, showsB x y s = q := ⟨_, rfl⟩
      rw [hq] at FT
      have QQ := Lib.hid hq
      have BX := Lib.hid (boxAt_new wr 35 s _ rfl)
      obtain ⟨e0, e1, e2, e3, e4⟩ := BX.out
      obtain ⟨ys, hys⟩ : ∃ ys, (xs.take k).filter (showsB x y) = ys := ⟨_, rfl⟩
      rw [hys] at H FT
      have IDS := Lib.hid (show ys ≠ [] → 1 ≤ (pickL betterB ys).id by
        intro hne
        have hin := pickL_in betterB hne
        rw [← hys] at hin
        have hin2 := List.mem_of_mem_take (List.mem_filter.1 hin).1
        rw [hys] at hin2
        exact (Sh.ok_iff.1 (areSh_ok C.out hin2)).1.1)
      obtain ⟨m, hm⟩ : ∃ m, pickL betterB ys = m := ⟨_, rfl⟩
      have M := Lib.hid hm
      have SN := Lib.hid (fun hne => pickL_snoc betterB (ys := ys) hne s)
      have NIL := Lib.hid (show ys = [] → m = sh0 by intro e; rw [← hm, e]; rfl)
      rw [hm] at H IDS SN
      have FTH := Lib.hid FT
      clear hs hat hbel hz hq hys hm FT
      go_wp2_with fail
      refine (l4Shows_any s x y _ OKS.out P.out).mono ?_
      rintro e w3 ⟨rfl, hb3⟩
      rw [QQ.out]
      have hb4 := Below.then' (bel_alloc1 wr (.cells #[.int .i64 s.id, .int .i64 s.row, .int .i64 s.col, .int .i64 s.scale, .int .i64 s.year] 35)) hb3
      have B3 := Lib.hid (Below.then' BR.out hb4)
      have H3 := H.out.below hb4
      have X3 := Lib.hid (BX.out.below hb3)
      have HH := Lib.hid H3
      clear c0 c1 c2 c3 c4 e0 e1 e2 e3 e4 hb3 hb4
      cases q
      · have FE := Lib.hid (show (xs.take (k + 1)).filter (showsB x y) = ys by rw [FTH.out]; rfl)
        clear H3
        go_wp2
        go_roundw
        case rel => exact ⟨k + 1, by omega, by go_num, by rw [FE.out, M.out]; exact HH.out, B3.out⟩
        case measure => simp [intOf]; omega
      · have FE := Lib.hid (show (xs.take (k + 1)).filter (showsB x y) = ys ++ [s] by rw [FTH.out]; rfl)
        obtain ⟨e0, e1, e2, e3, e4⟩ := X3.out
        have f0 := H3.free 0
        have f1 := H3.free 1
        have f2 := H3.free 2
        have f3 := H3.free 3
        have f4 := H3.free 4
        obtain ⟨d0, d1, d2, d3, d4⟩ := H3.cells
        clear H3
        by_cases hne : ys = []
        · have PE := Lib.hid (show pickL betterB (ys ++ [s]) = s by rw [hne]; rfl)
          have m0 : m.id = 0 := by rw [NIL.out hne]; rfl
          rw [m0] at d0
          clear hne m0
          go_wp2
          go_roundw
          case rel => exact ⟨k + 1, by omega, by go_num, by rw [FE.out, PE.out]; exact HH.out.setAll s, ((((B3.out.setCell (by simp; omega) _).setCell (by simp; omega) _).setCell (by simp; omega) _).setCell (by simp; omega) _).setCell (by simp; omega) _⟩
          case measure => simp [intOf]; omega
        · have i1 := IDS.out hne
          have SNE := SN.out hne
          have m0 : ¬ m.id = 0 := by omega
          have m0' : (m.id == 0) = false := by simpa using m0
          have SNH := Lib.hid SNE
          clear SNE hne i1
          by_cases h1 : s.scale < m.scale
          · have PE := Lib.hid (show pickL betterB (ys ++ [s]) = s by rw [SNH.out, if_pos (show betterB s m = true by unfold betterB; rw [decide_eq_true h1]; rfl)])
            go_wp2
            go_roundw
            case rel => exact ⟨k + 1, by omega, by go_num, by rw [FE.out, PE.out]; exact HH.out.setAll s, ((((B3.out.setCell (by simp; omega) _).setCell (by simp; omega) _).setCell (by simp; omega) _).setCell (by simp; omega) _).setCell (by simp; omega) _⟩
            case measure => simp [intOf]; omega
          · have h1' : decide (s.scale < m.scale) = false := decide_eq_false h1
            by_cases h2 : s.scale = m.scale
            · have h2' : (s.scale == m.scale) = true := by simpa using h2
              by_cases h3 : m.year < s.year
              · have PE := Lib.hid (show pickL betterB (ys ++ [s]) = s by rw [SNH.out, if_pos (show betterB s m = true by unfold betterB; rw [h1', decide_eq_true h2, decide_eq_true h3]; rfl)])
                have H2 := Lib.hid h2
                clear h2
                go_wp2
                go_roundw
                case rel => exact ⟨k + 1, by omega, by go_num, by rw [FE.out, PE.out]; exact HH.out.setAll s, ((((B3.out.setCell (by simp; omega) _).setCell (by simp; omega) _).setCell (by simp; omega) _).setCell (by simp; omega) _).setCell (by simp; omega) _⟩
                case measure => simp [intOf]; omega
              · have h3' : decide (m.year < s.year) = false := decide_eq_false h3
                have PE := Lib.hid (show pickL betterB (ys ++ [s]) = m by rw [SNH.out, if_neg (show ¬ betterB s m = true by unfold betterB; rw [h1', decide_eq_true h2, h3']; simp)])
                have H2 := Lib.hid h2
                clear h2
                go_wp2
                go_roundw
                case rel => exact ⟨k + 1, by omega, by go_num, by rw [FE.out, PE.out]; exact HH.out, B3.out⟩
                case measure => simp [intOf]; omega
            · have h2' : (s.scale == m.scale) = false := by simpa using h2
              have PE := Lib.hid (show pickL betterB (ys ++ [s]) = m by rw [SNH.out, if_neg (show ¬ betterB s m = true by unfold betterB; rw [h1', decide_eq_false h2]; simp)])
              go_wp2
              go_roundw
              case rel => exact ⟨k + 1, by omega, by go_num, by rw [FE.out, PE.out]; exact HH.out, B3.out⟩
              case measure => simp [intOf]; omega
    · obtain rfl : k = len := by omega
      have E : xs.take k = xs := List.take_of_length_le (by have := L.out; omega)
      rw [E, ← VX.out] at H
      obtain ⟨ys, hys⟩ : ∃ ys, shownXs xs x y = ys := ⟨_, rfl⟩
      have V0 := Lib.hid (show BestSheet_0 xs x y = (pickL betterB ys).id by unfold BestSheet_0 bestOf; rw [hys])
      have V2 := Lib.hid (show BestSheet_1 xs x y = decide (0 < (pickL betterB ys).id) by
        unfold BestSheet_1
        rw [hys]
        by_cases hne : ys = []
        · rw [hne]; rfl
        · have hin := pickL_in betterB hne
          rw [← hys, VX.out] at hin
          have h1 := (Sh.ok_iff.1 (areSh_ok C.out (List.mem_filter.1 hin).1)).1.1
          rw [← VX.out, hys] at h1
          have hl := List.length_pos_iff.2 hne
          rw [decide_eq_true hl, decide_eq_true (by omega)])
      rw [hys] at H
      obtain ⟨m, hm⟩ : ∃ m, pickL betterB ys = m := ⟨_, rfl⟩
      rw [hm] at H V0 V2
      obtain ⟨d0, d1, d2, d3, d4⟩ := H.out.cells
      clear hbel hz E hys hm
      go_wp2
      go_quiet (fail)
      have B4 := Lib.hid (Below.then' BR.out (bel_drawn wr nq))
      go_wp2
      go_ret2
      exact ⟨ret_ib V0.out.symm V2.out.symm, B4.out⟩
end Go.Proofs.Ytidaoijpbdljbaa
