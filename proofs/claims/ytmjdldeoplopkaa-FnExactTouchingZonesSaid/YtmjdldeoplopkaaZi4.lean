/- TouchingZones in the program. -/
import Derived.Test.YtmjdldeoplopkaaZi3
import Derived.Test.YtmjdldeoplopkaaTouchingZonesP
import Derived.Maps.AppendAt
namespace Go.Proofs.Ytmjdldeoplopkaa
open Go.RowKit

set_option maxHeartbeats 12800000 in
set_option maxRecDepth 100000 in
theorem implTouchingZones_any (a : Option Addr) (len cap : Nat) (xs : List VZone) (w : World) (h : IsZoneS w a len cap xs) (_ : xs.length ≤ 1048576) :
    Calls Try.prog 23 #[.slice a len cap] w (TouchingZones_Post xs w) := by
  obtain rfl := h.1
  obtain ⟨i0, hi, hz0, hz1, hz2⟩ := info_parts infoIntA2
  have hm := h.2.2.1
  have hcl := h.2.1
  unfold maxLen at hm
  have S := Lib.hid h
  clear h
  go_enter Try.func23, Try.ntmps23
  go_wp2_with fail
  refine (areZones_any _ _ _ xs _ S.out).mono ?_
  rintro e w1 ⟨rfl, hb⟩
  have B1 := Lib.hid hb
  have S1 := Lib.hid (S.out.below hb)
  clear hb
  cases hg : zonesB xs with
  | false =>
    have E1 := Lib.hid (show TouchingZones_1 xs = false from hg)
    have E0 := Lib.hid (show TouchingZones_0 xs = [] from by unfold TouchingZones_0; rw [hg]; rfl)
    clear hg
    go_wp2
    go_ret2
    exact ⟨_, by rw [E1.out]; rfl, by rw [E0.out]; exact nil_ownIntA2 _ _, B1.out⟩
  | true =>
  have HG := Lib.hid hg
  have E1 := Lib.hid (show TouchingZones_1 xs = true from hg)
  have E0 := Lib.hid (show TouchingZones_0 xs = touchUp xs xs.length from by unfold TouchingZones_0; rw [hg, touchUp_all]; rfl)
  have hl10 := zonesB_len hg
  clear hg
  go_wp2
  go_loopw [14, 4] (fun i o wr => ∃ k : Nat, k ≤ xs.length ∧ i = .int .i64 k ∧ wr.ownsRow w.heap.size 42 2 o (touchUp xs k).length (cellsIntA2 (touchUp xs k)) ∧ Below w.heap.size w wr) (fun i _ _ => xs.length - (intOf i).toNat)
  case atStart => exact ⟨0, Nat.zero_le _, rfl, nil_ownIntA2 _ _, B1.out⟩
  case round =>
    obtain ⟨k, hk, rfl, hown, hbel⟩ := hrel
    have B := Lib.hid hbel
    by_cases hlt : k < xs.length
    · obtain ⟨z, hz⟩ : ∃ z, xs[k]? = some z := ⟨xs[k]'hlt, List.getElem?_eq_getElem _⟩
      obtain ⟨b, o, rfl, hbw, hat⟩ := (S.out.below hbel).at (by omega)
      obtain ⟨c0, c1, c2, c3, c4⟩ := hat k z hz
      have Z := Lib.hid hz
      have O := Lib.hid hown
      have bw := bel_al1 wr (.cells #[.int .i64 z.Id, .int .i64 z.West, .int .i64 z.South, .int .i64 z.East, .int .i64 z.North] 25)
      have BX := Lib.hid (BoxZone.new wr 25 z _ rfl)
      have B2 := Lib.hid (Below.then' hbel bw)
      have O2 := Lib.hid (ownsRow_below hown bw)
      have US := Lib.hid (touchUp_succ hz)
      have HOB := Lib.hid (fun (q : Nat) e => Nat.ne_of_lt (hown.lt q e).2)
      have hi0 : (0 : Int) ≤ (k : Int) := by omega
      have hi1 : (k : Int) < (xs.length : Int) := by omega
      have hi2 : (k : Int) + 1 ≤ (xs.length : Int) := by omega
      have hlc : (xs.length : Int) ≤ (cap : Int) := by omega
      obtain ⟨wo, rfl⟩ : ∃ wo : World, wo = wr := ⟨_, rfl⟩
      clear hz hat hbel hown bw
      by_cases hck : cap = k + 1
      all_goals
        go_wp2
        go_loopw [24, 4] (fun jv ov wr => ∃ j : Nat, j ≤ xs.length - (k + 1) ∧ jv = .int .i64 j ∧ wr.ownsRow w.heap.size 42 2 ov (touchUp xs k ++ touchRow z ((xs.drop (k + 1)).take j)).length (cellsIntA2 (touchUp xs k ++ touchRow z ((xs.drop (k + 1)).take j))) ∧ Below w.heap.size w wr ∧ BoxZone wr wo.heap.size z ∧ ∀ q, ov.ownBlock = some q → q ≠ wo.heap.size) (fun jv _ _ => xs.length - (intOf jv).toNat)
        case atStart => exact ⟨0, Nat.zero_le _, rfl, by simpa [touchRow] using O2.out, B2.out, BX.out, HOB.out⟩
        case round =>
          obtain ⟨j, hj, rfl, hown, hbel, hbox, hnb⟩ := hrel
          have NB := Lib.hid hnb
          clear hnb
          have BI := Lib.hid hbel
          have XI := Lib.hid hbox
          have hsm := touch_small (k := k) (j := j) (a := z) hl10 (by omega)
          by_cases hjl : j < xs.length - (k + 1)
          · first
              | (exfalso; omega)
              | (obtain ⟨y, hy⟩ : ∃ y, xs[k + 1 + j]? = some y := ⟨xs[k + 1 + j]'(by omega), List.getElem?_eq_getElem _⟩
                 obtain ⟨b2, o2, e2, hb2, hat⟩ := (S.out.below hbel).at (by omega)
                 cases e2
                 obtain ⟨d0, d1, d2, d3, d4⟩ := hat (k + 1 + j) y hy
                 rw [show o + (k + 1 + j) * 5 = o + (k + 1) * 5 + j * 5 by omega] at d0 d1 d2 d3 d4
                 have Y := Lib.hid hy
                 have RS := Lib.hid (touchRow_snoc (a := z) (show (xs.drop (k + 1))[j]? = some y by rw [List.getElem?_drop]; exact hy))
                 have OKZ := Lib.hid (zonesB_ok HG.out (List.mem_of_getElem? Z.out))
                 have OKY := Lib.hid (zonesB_ok HG.out (List.mem_of_getElem? hy))
                 obtain ⟨G, hG⟩ : ∃ G, touchUp xs k ++ touchRow z ((xs.drop (k + 1)).take j) = G := ⟨_, rfl⟩
                 rw [hG] at hown hsm
                 have GG := Lib.hid hG
                 have OI := Lib.hid hown
                 obtain ⟨t, ht⟩ : ∃ t, touchB z y = t := ⟨_, rfl⟩
                 have TT := Lib.hid ht
                 have bw := bel_al1 wr (.cells #[.int .i64 y.Id, .int .i64 y.West, .int .i64 y.South, .int .i64 y.East, .int .i64 y.North] 25)
                 have BY := Lib.hid (BoxZone.new wr 25 y _ rfl)
                 have BZ := Lib.hid (hbox.below bw)
                 have BW := Lib.hid (Below.then' hbel bw)
                 have OW := Lib.hid (ownsRow_below hown bw)
                 obtain ⟨f0, f1, f2, f3, f4⟩ := BZ.out
                 have hj0 : (0 : Int) ≤ (j : Int) := by omega
                 have hj1 : (j : Int) < ((xs.length - (k + 1) : Nat) : Int) := by omega
                 clear hy hat hG hown ht hbel hbox bw
                 go_wp2_with fail
                 refine (areTouching_any z y _ OKZ.out OKY.out).mono ?_
                 rintro e w3 ⟨rfl, hb⟩
                 rw [TT.out]
                 have B3 := Lib.hid (Below.then' BW.out hb)
                 have O3 := Lib.hid (ownsRow_below OW.out hb)
                 have BZ3 := Lib.hid (BZ.out.below hb)
                 have BY3 := Lib.hid (BY.out.below hb)
                 have hs3 := B3.out.size
                 clear hb d0 d1 d2 d3 d4 f0 f1 f2 f3 f4
                 cases t
                 · go_wp2
                   go_roundw
                   case rel => exact ⟨j + 1, by omega, by go_num, by rw [RS.out, TT.out, ← List.append_assoc, GG.out]; simpa using O3.out, B3.out, BZ3.out, NB.out⟩
                   case measure => simp [intOf]; omega
                 · obtain ⟨f0, _⟩ := BZ3.out
                   obtain ⟨d0, _⟩ := BY3.out
                   have hown3 := O3.out.alloc (.cells #[.int .i64 z.Id, .int .i64 y.Id] 42)
                   go_wp2_with (at_builtin; refine wpList_append_own_at _ rfl _ _ 38 rfl w.heap.size 42 i0 (.agg #[.int .i64 0, .int .i64 0]) 2 16 Try.underlying38 hi hz0 hz1 hz2 rfl (by decide) _ _ _ rfl hown3 ⟨w3.heap.size, 0, none⟩ 1 1 (VIntA2.vals ⟨z.Id, y.Id⟩) rfl rfl (cell_IntA2 _ ⟨z.Id, y.Id⟩ _) (VIntA2.vals_one _) (by unfold maxLen; omega) (by omega) (by simp; omega) ?_; intro v' w4 hown' hgrow4 hnil4 hloc4)
                   go_roundw
                   case rel =>
                     refine ⟨j + 1, by omega, by go_num, ?_, (Below.then' B3.out (bel_al1 _ _)).grown hgrow4 (by simp; omega) (fun q e => (hown3.lt q e).1), (BZ3.out.below (bel_al1 _ _)).grown hgrow4 (fun e => NB.out _ e.symm rfl), fun q e => by
                       rcases hloc4 with h | h
                       · exact NB.out q (h ▸ e)
                       · rw [h] at e
                         have hz := BZ3.out.lt
                         simp at e
                         omega⟩
                     rw [RS.out, TT.out, if_pos rfl, ← List.append_assoc, GG.out, cellsIntA2_snoc, List.length_append]
                     exact hown'
                   case measure => simp [intOf]; omega)
          · obtain rfl : j = xs.length - (k + 1) := by omega
            have hOI := hown
            rw [List.take_of_length_le (by rw [List.length_drop]; exact Nat.le_refl _), ← US.out] at hOI
            have OI := Lib.hid hOI
            clear hOI
            clear hbel hown hbox hsm
            go_wp2
            go_roundw
            case rel => exact ⟨k + 1, by omega, by go_num, OI.out, BI.out⟩
            case measure => simp [intOf]; omega
    · obtain rfl : k = xs.length := by omega
      have O := Lib.hid hown
      clear hbel hown
      go_wp2
      go_ret2
      exact ⟨_, by rw [E1.out]; rfl, by rw [E0.out]; exact O.out, B.out⟩
end Go.Proofs.Ytmjdldeoplopkaa
