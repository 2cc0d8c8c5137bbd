/- The library's Grow of nothing and Concat of two, at slices of Corner. -/
import Derived.Test.YtpnaciamnigbnaaRo
import Derived.Test.YtpnaciamnigbnaaCornerL
import Derived.Test.YtpnaciamnigbnaaAppL
import Derived.Test.YtpnaciamnigbnaaAppL2
import Derived.Test.YtpnaciamnigbnaaWh
import Derived.Lib.AppendZerosOnto
import Derived.Lib.AppendZeros
import Derived.OwnWalk
import Derived.Deep.RegionHeld3
namespace Go.Proofs.Ytpnaciamnigbnaa
open Go.RowKit

/-- Memory for so many claims, none of them there yet. -/
def GrowPostR (w : World) (e : Ending) (w' : World) : Prop := ∃ v, e = .returned v ∧ w'.ownsRow w.heap.size 103 2 v 0 [] ∧ Below w.heap.size w w'
set_option maxHeartbeats 3200000 in
set_option maxRecDepth 100000 in
theorem growR_any (k : Nat) (hk : k ≤ 1000) (w : World) :
    Calls Try.prog 147 #[.slice none 0 0, .int .i64 (k : Int)] w (GrowPostR w) := by
  obtain ⟨i0, hi, hz0, hz1, hz2⟩ := info_parts infoCorner
  by_cases h0 : k = 0
  · subst h0
    go_enter Try.func147, Try.ntmps147
    go_wp2
    go_ret
    exact ⟨_, rfl, ⟨rfl, .inl ⟨rfl, rfl⟩⟩, Below.refl _ _⟩
  · obtain ⟨G, hG⟩ : ∃ G, grownCap w (0 + k) 0 103 = G := ⟨_, rfl⟩
    have hge : 0 + k ≤ G := hG ▸ grownCap_ge w (0 + k) 0 103
    have hml : G ≤ maxLen := hG ▸ grownCap_le_maxLen w (0 + k) 0 103 (by unfold maxLen; omega)
    obtain ⟨ROW, hROW⟩ : ∃ ROW : Array Value, ([] : List Value).toArray ++ Builtin.zeroCells (Value.agg #[.int .i64 0, .int .i64 0]).cells k ++ Builtin.zeroCells (Value.agg #[.int .i64 0, .int .i64 0]).cells (G - (0 + k)) = ROW := ⟨_, rfl⟩
    have hsz : ROW.size = G * 2 := by
      rw [← hROW]
      simp [size_zeroCells, Value.cells]
      omega
    have hrz : ∀ ty, (Builtin.append_ #[47, 3] ty #[.slice none 0 0, .int .i64 (k : Int)]).run Try.prog w = .ok (.slice (some ⟨w.heap.size, 0, none⟩) k G) (w.drew.alloc (.cells ROW 103)) := fun ty => by
      have h := Lib.run_append_grow_zeros w 47 3 ty 103 i0 _ .i64 .i64 Try.underlying47 Try.underlying3 hi hz0 none 0 0 [] (run_firstCells_none _ _ _ _ _) k (by omega) (by rw [hz1]; decide) (by omega) (by omega) (by rw [hz2]; omega) (growslice_fits (by omega) (by rw [hz2]; omega))
      rw [hG] at h
      rw [hROW, Nat.zero_add] at h
      exact h
    have OW := Lib.hid (show (w.alloc (.cells ROW 103)).drew.ownsRow w.heap.size 103 2 (.slice (some ⟨w.heap.size, 0, none⟩) 0 G) 0 [] from ⟨rfl, .inr ⟨w.heap.size, G, ROW, rfl, Nat.le_refl _, heap_alloc_new w _, Nat.zero_le _, hml, hsz, rfl⟩⟩)
    have BW := Lib.hid (show Below w.heap.size w (w.alloc (.cells ROW 103)).drew from bel_drew' (bel_al1 _ _))
    have hk1 : (0 : Int) < (k : Int) := by omega
    have hk2 : ¬ (k : Int) < 0 := by omega
    have hgk : ¬ (G : Int) < 0 := by omega
    have hge2 : k ≤ G := by omega
    clear hG hROW hsz hge h0
    unfold maxLen at hml
    go_enter Try.func147, Try.ntmps147
    go_wp2_with (at_builtin; refine Lib.wpList_append_run _ rfl _ _ _ _ rfl _ _ rfl rfl _ _ (hrz _) ?_)
    go_ret
    exact ⟨_, rfl, OW.out, BW.out⟩
/-- How far the two lists are taken in. -/
def TakenR (xs1 xs2 : List VCorner) (k : Nat) (L : List VCorner) : Prop := (k = 0 ∧ L = []) ∨ (k = 1 ∧ L = xs1) ∨ (k = 2 ∧ L = xs1 ++ xs2)
set_option maxHeartbeats 6400000 in
set_option maxRecDepth 100000 in
theorem concatR_any (bl : Nat) (a1 : Option Addr) (n1 c1 : Nat) (xs1 : List VCorner) (a2 : Option Addr) (n2 c2 : Nat) (xs2 : List VCorner) (w : World) (h0 : w.cell? ⟨bl, 0, none⟩ = some (.slice a1 n1 c1)) (h1 : w.cell? ⟨bl, 1, none⟩ = some (.slice a2 n2 c2)) (hs1 : IsCornerS w a1 n1 c1 xs1) (hs2 : IsCornerS w a2 n2 c2 xs2) (hb : xs1.length + xs2.length ≤ 1000) :
    Calls Try.prog 113 #[.slice (some ⟨bl, 0, none⟩) 2 2] w (CornerRow (xs1 ++ xs2) w) := by
  obtain ⟨i0, hi, hz0, hz1, hz2⟩ := info_parts infoCorner
  have e1 := hs1.1
  have e2 := hs2.1
  subst e1 e2
  have C0 := Lib.hid h0
  have C1 := Lib.hid h1
  have S1 := Lib.hid hs1
  have S2 := Lib.hid hs2
  have HB := Lib.hid hb
  have v1 : IntKind.i64.wrap ((0 : Int) + (xs1.length : Int)) = (xs1.length : Int) := by rw [Int.zero_add]; exact IntWalk.i64_in _ (by omega)
  have v2 : IntKind.i64.wrap ((xs1.length : Int) + (xs2.length : Int)) = ((xs1.length + xs2.length : Nat) : Int) := by rw [IntWalk.i64_in _ (by omega)]; omega
  have v3 : IntKind.i64.wrap (xs1.length : Int) = (xs1.length : Int) := IntWalk.i64_in _ (by omega)
  clear hs1 hs2
  go_enter Try.func113, Try.ntmps113
  go_wp2
  go_loop [11, 3] (fun i s => ∃ k : Nat, k ≤ 2 ∧ i = .int .i64 k ∧ ((k = 0 ∧ s = .int .i64 0) ∨ (k = 1 ∧ s = .int .i64 (xs1.length : Int)) ∨ (k = 2 ∧ s = .int .i64 ((xs1.length + xs2.length : Nat) : Int)))) (fun i _ => 2 - (intOf i).toNat)
  case atStart => exact ⟨0, by omega, rfl, .inl ⟨rfl, rfl⟩⟩
  case round =>
    obtain ⟨k, hk, rfl, hs⟩ := hrel
    rcases hs with ⟨rfl, rfl⟩ | ⟨rfl, rfl⟩ | ⟨rfl, rfl⟩
    · have d1 : ¬ (xs1.length : Int) < 0 := by omega
      go_wp2
      go_round
      case rel => exact ⟨1, by omega, rfl, .inr (.inl ⟨rfl, rfl⟩)⟩
      case measure => simp [intOf]
    · have d1 : ¬ ((xs1.length + xs2.length : Nat) : Int) < 0 := by omega
      go_wp2
      go_round
      case rel => exact ⟨2, by omega, rfl, .inr (.inr ⟨rfl, by first | rfl | simp⟩)⟩
      case measure => simp [intOf]
    · obtain ⟨m, hm⟩ : ∃ m, xs1.length + xs2.length = m := ⟨_, rfl⟩
      have HM := Lib.hid hm
      have hm2 : m ≤ 1000 := by omega
      rw [hm]
      clear v1 v2 v3 hm hb
      go_wp2_with fail
      refine (growR_any m hm2 _).mono ?_
      rintro e w1 ⟨v, rfl, hown, hbl⟩
      have O1 := Lib.hid hown
      have B1 := Lib.hid hbl
      clear hown hbl
      go_wp2
      go_loopw [27, 6] (fun i o wr => ∃ (k : Nat) (L : List VCorner), k ≤ 2 ∧ i = .int .i64 k ∧ TakenR xs1 xs2 k L ∧ wr.ownsRow w.heap.size 103 2 o L.length (cellsCorner L) ∧ Below w.heap.size w wr) (fun i _ _ => 2 - (intOf i).toNat)
      case atStart => exact ⟨0, [], by omega, rfl, .inl ⟨rfl, rfl⟩, O1.out, B1.out⟩
      case round =>
        obtain ⟨k, L, hk, rfl, ht, hown, hbel⟩ := hrel
        have O := Lib.hid hown
        have B := Lib.hid hbel
        have hsz := hbel.size
        rcases ht with ⟨rfl, rfl⟩ | ⟨rfl, rfl⟩ | ⟨rfl, rfl⟩
        · have SRC := srcCorner (S1.out.below hbel)
          have g0 := cell_stay' C0.out hbel
          have hb1 : xs1.length ≤ 1000 := by have := HB.out; omega
          clear hbel
          go_wp2_with (at_builtin; refine wpList_append_list rfl _ _ 47 rfl w.heap.size 103 i0 (.agg #[.int .i64 0, .int .i64 0]) 2 16 Try.underlying47 hi hz0 hz1 hz2 rfl (by decide) _ _ _ rfl hown _ xs1.length c1 (cellsCorner xs1) rfl SRC (one_Corner xs1) (by simp; unfold maxLen; omega) (by simp; omega) hsz ?_; intro v1 w2 hown1 hgrow1)
          go_roundw
          case rel => exact ⟨1, xs1, by omega, rfl, .inr (.inl ⟨rfl, rfl⟩), by have h := hown1; rw [show cellsCorner [] = [] from rfl, List.nil_append] at h; simpa using h, B.out.grown hgrow1 hsz (fun k e => (O.out.lt k e).1)⟩
          case measure => simp [intOf]
        · have SRC := srcCorner (S2.out.below hbel)
          have g0 := cell_stay' C1.out hbel
          have hb1 : L.length + xs2.length ≤ 1000 := by have := HB.out; omega
          clear hbel
          go_wp2_with (at_builtin; refine wpList_append_list rfl _ _ 47 rfl w.heap.size 103 i0 (.agg #[.int .i64 0, .int .i64 0]) 2 16 Try.underlying47 hi hz0 hz1 hz2 rfl (by decide) _ _ _ rfl hown _ xs2.length c2 (cellsCorner xs2) rfl SRC (one_Corner xs2) (by unfold maxLen; omega) (by omega) hsz ?_; intro v1 w2 hown1 hgrow1)
          go_roundw
          case rel => exact ⟨2, L ++ xs2, by omega, rfl, .inr (.inr ⟨rfl, rfl⟩), by rw [List.length_append, cellsCorner_append]; exact hown1, B.out.grown hgrow1 hsz (fun k e => (O.out.lt k e).1)⟩
          case measure => simp [intOf]
        · clear hown hbel
          go_wp2
          go_ret
          exact ⟨_, rfl, O.out, B.out⟩
theorem takeR {w : World} {a : Option Addr} {len cap : Nat} {xs : List VCorner} (h : IsCornerS w a len cap xs) {k : Nat} (hk : k ≤ len) : IsCornerS w a k cap (xs.take k) := by
  refine ⟨by rw [List.length_take, ← h.1]; omega, Nat.le_trans hk h.2.1, h.2.2.1, ?_⟩
  by_cases h0 : k = 0
  · exact .inl h0
  · obtain ⟨b, o, e, h1, h2⟩ := h.at (by omega)
    refine .inr ⟨b, o, e, h1, fun j x hj => h2 j x ?_⟩
    rw [List.getElem?_take] at hj
    split at hj
    · exact hj
    · cases hj
theorem dropR {w : World} {b o : Nat} {len cap : Nat} {xs : List VCorner} (h : IsCornerS w (some ⟨b, o, none⟩) len cap xs) {k : Nat} (hk : k ≤ len) : IsCornerS w (some ⟨b, o + k * 2, none⟩) (len - k) (cap - k) (xs.drop k) := by
  refine ⟨by rw [List.length_drop, ← h.1], by have := h.2.1; omega, by have := h.2.2.1; omega, ?_⟩
  by_cases h0 : len - k = 0
  · exact .inl h0
  · obtain ⟨b', o', e, h1, h2⟩ := h.at (by omega)
    cases e
    refine .inr ⟨b, _, rfl, h1, fun j x hj => ?_⟩
    rw [List.getElem?_drop] at hj
    have := h2 (k + j) x hj
    rwa [show o + k * 2 + j * 2 = o + (k + j) * 2 from by omega]
theorem emptyR (w : World) (a : Option Addr) (c : Nat) (hc : c ≤ maxLen) : IsCornerS w a 0 c [] := ⟨rfl, Nat.zero_le _, hc, .inl rfl⟩
end Go.Proofs.Ytpnaciamnigbnaa
