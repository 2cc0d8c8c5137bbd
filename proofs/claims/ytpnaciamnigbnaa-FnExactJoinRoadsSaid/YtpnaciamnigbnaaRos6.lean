/- Roads in the model: turned around. -/
import Derived.Test.YtpnaciamnigbnaaRos5
namespace Go.Proofs.Ytpnaciamnigbnaa
open Go.RowKit

theorem revTake_succ {xs : List VCorner} {m : Nat} (h : m < xs.length) : xs.reverse.take (m + 1) = xs.reverse.take m ++ [ptC xs (xs.length - 1 - m)] := by
  rw [List.take_add_one, List.getElem?_reverse h, at_ptC (show xs.length - 1 - m < xs.length by omega)]
  rfl
set_option maxHeartbeats 3200000 in
set_option maxRecDepth 100000 in
theorem specReverseRoad_any (a : Option Addr) (len cap : Nat) (xs : List VCorner) (w : World) (h : IsCornerS w a len cap xs) (_ : condCorner xs) :
    Calls Try.prog 73 #[.slice a len cap] w (ReverseRoad_Post xs w) := by
  obtain ⟨ri, hi, hz0, hz1, hz2⟩ := info_parts infoCorner
  have hm := h.2.2.1
  have hcl := h.2.1
  unfold maxLen at hm
  obtain rfl := h.1
  have S := Lib.hid h
  clear h
  obtain ⟨q, hq⟩ : ∃ q, roadB xs = q := ⟨_, rfl⟩
  have Q := Lib.hid hq
  have B0 := Lib.hid (bel_al1 w (.cells #[] 103))
  have M0 := Lib.hid (made_ownCornerM w w.heap.size (Nat.le_refl _))
  clear hq
  go_enter Try.func73, Try.ntmps73
  go_wp2_with fail
  refine (l10Good_any _ _ _ xs _ (S.out.below B0.out)).mono ?_
  rintro e w1 ⟨rfl, hb⟩
  rw [Q.out]
  have B1 := Lib.hid (Below.then' B0.out hb)
  have M1 := Lib.hid (ownsRow_below M0.out hb)
  clear hb
  cases q
  · have F0 := Lib.hid (show ReverseRoad_0 xs = [] from by unfold ReverseRoad_0; rw [Q.out]; rfl)
    have F1 := Lib.hid (show ReverseRoad_1 xs = false from Q.out)
    have OO := Lib.hid (OwnIn.of_row (lo := w.heap.size) (hi := w1.heap.size) M1.out (Nat.le_refl _) (Nat.le_refl _))
    go_wp2
    go_ret2
    exact ⟨_, by rw [F1.out]; rfl, by rw [F0.out]; exact OO.out, B1.out⟩
  have R := Lib.hid (road_iff.1 Q.out)
  have l2 := R.out.l2
  have l12 := R.out.l12
  have F0 := Lib.hid (show ReverseRoad_0 xs = xs.reverse from by unfold ReverseRoad_0; rw [Q.out]; rfl)
  have F1 := Lib.hid (show ReverseRoad_1 xs = true from Q.out)
  go_wp2
  go_loopw [5, 4] (fun i o wr => ∃ m : Nat, m ≤ xs.length ∧ i = .int .i64 ((xs.length : Int) - 1 - (m : Int)) ∧ wr.ownsRow w.heap.size 103 2 o m (cellsCorner (xs.reverse.take m)) ∧ Below w.heap.size w wr) (fun i _ _ => (intOf i + 1).toNat)
  case atStart => exact ⟨0, by omega, by simp, M1.out, B1.out⟩
  case round =>
    obtain ⟨m, hmx, rfl, hown, hbel⟩ := hrel
    have O := Lib.hid hown
    have B := Lib.hid hbel
    by_cases hlt : m < xs.length
    · obtain ⟨b, o, rfl, hb, hat⟩ := (S.out.below hbel).at (by omega)
      obtain ⟨c0, c1⟩ := hat (xs.length - 1 - m) _ (at_ptC (by omega))
      have RS := Lib.hid (revTake_succ hlt)
      have s1 := hbel.size
      obtain ⟨j, hj⟩ : ∃ j, xs.length - 1 - m = j := ⟨_, rfl⟩
      have ej : (xs.length : Int) - 1 - (m : Int) = (j : Int) := by omega
      rw [hj] at c0 c1 RS
      rw [ej]
      generalize ptC xs j = p at *
      have hown3 := World.ownsRow.alloc O.out (.cells #[.int .i64 p.X, .int .i64 p.Y] 103)
      have CELL := Lib.hid (cell_Corner wr p 103)
      have j0 : (0 : Int) ≤ (j : Int) := by omega
      have j1 : (j : Int) < (xs.length : Int) := by omega
      have v1 : IntKind.i64.wrap ((j : Int) - 1) = (j : Int) - 1 := IntWalk.i64_in _ (by omega)
      have EJ := Lib.hid ej
      clear hat hown hbel hj ej
      go_wp2_with (at_builtin; refine wpList_append_own _ rfl _ _ 47 rfl w.heap.size 103 ri (.agg #[.int .i64 0, .int .i64 0]) 2 16 Try.underlying47 hi hz0 hz1 hz2 rfl (by decide) _ _ _ rfl hown3 ⟨wr.heap.size, 0, none⟩ 1 1 (VCorner.vals p) rfl rfl CELL.out (VCorner.vals_one _) (by unfold maxLen; omega) (by omega) (by simp; omega) ?_; intro v' w4 hown' hgrow4 _)
      go_roundw
      case rel =>
        refine ⟨m + 1, by omega, ?_, ?_, (Below.then' B.out (bel_al1 _ _)).grown hgrow4 (by simp; omega) (fun q e => (hown3.lt q e).1)⟩
        · first | (congr 1; done) | (congr 1; have := EJ.out; omega)
        · rw [RS.out, cellsCorner_snoc]
          exact hown'
      case measure => first | (simp [intOf]; done) | (simp [intOf]; omega)
    · obtain rfl : m = xs.length := by omega
      have OO := Lib.hid (show OwnCornerS w.heap.size wr.heap.size wr _ xs.reverse from by
        have h := OwnIn.of_row (lo := w.heap.size) (hi := wr.heap.size) hown (Nat.le_refl _) (Nat.le_refl _)
        unfold OwnCornerS
        rw [List.take_of_length_le (by simp)] at h
        rw [List.length_reverse]
        exact h)
      have cc : ¬ (0 ≤ (xs.length : Int) - 1 - (xs.length : Int)) := by omega
      clear hown hbel
      go_wp2
      go_ret2
      exact ⟨_, by rw [F1.out]; rfl, by rw [F0.out]; exact OO.out, B.out⟩
end Go.Proofs.Ytpnaciamnigbnaa
