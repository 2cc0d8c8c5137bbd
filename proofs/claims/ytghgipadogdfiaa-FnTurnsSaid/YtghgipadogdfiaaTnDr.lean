/- The laws' draws of places and chains. -/
import Derived.Test.YtghgipadogdfiaaGridTurnDr
import Derived.Test.YtghgipadogdfiaaDrawB
import Derived.Test.YtghgipadogdfiaaDraw0
namespace Go.Proofs.Ytghgipadogdfiaa
open Go.RowKit

def lenT : Value → Nat
  | .slice _ n _ => n
  | _ => 0
theorem lenT_own {w : World} {base n size : Nat} {e : TypeId} {v : Value} {xs : List Value} (h : w.ownsRow base e size v n xs) : lenT v = n := by
  rcases h.2 with ⟨rfl, h0⟩ | ⟨g, c, _, rfl, _⟩
  · rw [h0]; rfl
  · rfl
/-- Two numbers. -/
def PlaceDrawn (bc : Nat) (a : Option Addr) (len cap t : Nat) (w : World) (e : Ending) (w' : World) : Prop := ∃ x y : Int, e = .returned (.tuple #[.int .i64 x, .int .i64 y]) ∧ CurAt w' bc a len cap t ∧ w.grownBy w' (some bc)
set_option maxHeartbeats 1600000 in
set_option maxRecDepth 100000 in
theorem place4_any (bc : Nat) (a : Option Addr) (len cap t : Nat) (w : World) (hc : CurAt w bc a len cap t) (hd : CodeAt w a len cap bc) (ht : t ≤ 800000) :
    Calls Try.prog 50 #[.pointer (some ⟨bc, 0, none⟩)] w (PlaceDrawn bc a len cap (t + 6) w) := by
  have C := Lib.hid hc
  have D := Lib.hid hd
  have hbc := hc.lt
  clear hc hd
  go_enter Try.func50, Try.ntmps50
  go_wp2_with fail
  refine (one_any bc a len cap _ 40 _ C.out D.out (by omega) (by omega) (by omega)).mono ?_
  rintro e w1 ⟨b, rfl, hc1, hg1⟩
  have G1 := Lib.hid hg1
  have C1 := Lib.hid hc1
  have D1 := Lib.hid (D.out.grown hg1)
  have hs1 := hg1.size
  clear hc1 hg1
  cases b
  · go_wp2_with fail
    refine (among_any bc a len cap _ w1.heap.size 0 7 7 0 99999 _ (C1.out.alloc _) (D1.out.alloc _) (by omega) (by omega) (by omega) (by omega) (by simp) ?_).mono ?_
    · refine ints_at _ _ _ 0 99999 7 _ rfl rfl ?_
      repeat (refine List.forall_mem_cons.2 ⟨⟨_, by omega, by omega, rfl⟩, ?_⟩)
      exact fun _ h => by cases h
    rintro e w2 ⟨x, rfl, _, _, hc, hg⟩
    have G2 := Lib.hid (grown_trans (grow_al G1.out _) hg)
    have C2 := Lib.hid hc
    have D2 := Lib.hid (D.out.grown G2.out)
    have hs2 := G2.out.size
    clear hc hg
    go_wp2_with fail
    refine (among_any bc a len cap _ w2.heap.size 0 7 7 0 99999 _ (C2.out.alloc _) (D2.out.alloc _) (by omega) (by omega) (by omega) (by omega) (by simp) ?_).mono ?_
    · refine ints_at _ _ _ 0 99999 7 _ rfl rfl ?_
      repeat (refine List.forall_mem_cons.2 ⟨⟨_, by omega, by omega, rfl⟩, ?_⟩)
      exact fun _ h => by cases h
    rintro e w3 ⟨y, rfl, _, _, hc, hg⟩
    have G3 := Lib.hid (grown_trans (grow_al G2.out _) hg)
    have C3 := Lib.hid hc
    clear hc hg
    go_wp2
    go_ret2
    exact ⟨x, y, rfl, C3.out.more (by omega), G3.out⟩
  · go_wp2_with fail
    refine (among_any bc a len cap _ w1.heap.size 0 2 2 (-1) 100000 _ (C1.out.alloc _) (D1.out.alloc _) (by omega) (by omega) (by omega) (by omega) (by simp) ?_).mono ?_
    · refine ints_at _ _ _ (-1) 100000 2 _ rfl rfl ?_
      repeat (refine List.forall_mem_cons.2 ⟨⟨_, by omega, by omega, rfl⟩, ?_⟩)
      exact fun _ h => by cases h
    rintro e w2 ⟨x, rfl, _, _, hc, hg⟩
    have G2 := Lib.hid (grown_trans (grow_al G1.out _) hg)
    have C2 := Lib.hid hc
    clear hc hg
    go_wp2
    go_ret2
    exact ⟨x, 5, rfl, C2.out.more (by omega), G2.out⟩

/-- A chain of some turns. -/
def ChainDraw (bc : Nat) (a : Option Addr) (len cap t : Nat) (w : World) (e : Ending) (w' : World) : Prop := ∃ (v : Value) (xs : List VGridTurn), e = .returned v ∧ xs.length ≤ 8 ∧ w'.ownsRow w.heap.size 40 5 v xs.length (cellsGridTurn xs) ∧ CurAt w' bc a len cap t ∧ w.grownBy w' (some bc)
set_option maxHeartbeats 6400000 in
set_option maxRecDepth 100000 in
theorem chain_any (bc : Nat) (a : Option Addr) (len cap t : Nat) (w : World) (hc : CurAt w bc a len cap t) (hd : CodeAt w a len cap bc) (ht : t ≤ 700000) :
    Calls Try.prog 51 #[.pointer (some ⟨bc, 0, none⟩)] w (ChainDraw bc a len cap (t + 100) w) := by
  have hbc := hc.lt
  obtain ⟨i0, hi, hz0, hz1, hz2⟩ := info_parts infoGridTurn
  have C := Lib.hid hc
  have D := Lib.hid hd
  have O0 := Lib.hid (World.ownsRow_made (base := w.heap.size) (e := 40) (size := 5) w #[] 0 (Nat.le_refl _) (Nat.zero_le _) rfl)
  have G0 := Lib.hid (grow_al (World.grownBy.refl w (some bc)) (.cells #[] 40))
  clear hc hd
  go_enter Try.func51, Try.ntmps51
  go_wp2_with fail
  refine (pick_any bc a len cap _ 4 _ (C.out.alloc _) (D.out.alloc _) (by omega) (by omega) (by omega)).mono ?_
  rintro e w1 ⟨p, rfl, p0, p1, hc, hg⟩
  obtain ⟨n, rfl⟩ := Int.eq_ofNat_of_zero_le p0
  have n8 : n < 4 := by have : (n : Int) < 4 := p1; omega
  have G1 := Lib.hid (grown_trans G0.out hg)
  have C1 := Lib.hid hc
  have O1 := Lib.hid (ownsRow_grown0 O0.out hg (by intro k e; cases e; exact hbc))
  clear hc hg p0 p1
  go_wp2
  go_loopw [3, 4] (fun o i wr => ∃ (m : Nat) (xs : List VGridTurn), m ≤ n ∧ i = .int .i64 m ∧ xs.length + m ≤ n ∧ wr.ownsRow w.heap.size 40 5 o xs.length (cellsGridTurn xs) ∧ CurAt wr bc a len cap (t + 2 + 16 * xs.length) ∧ w.grownBy wr (some bc)) (fun _ i _ => (intOf i).toNat)
  case atStart => exact ⟨n, [], Nat.le_refl _, rfl, by simp, O1.out, C1.out, G1.out⟩
  case round =>
    obtain ⟨m, xs, hm, rfl, hxl, hown, hcur, hgr⟩ := hrel
    have O := Lib.hid hown
    have CU := Lib.hid hcur
    have G := Lib.hid hgr
    have hle := hgr.size
    clear hown hcur hgr
    by_cases hlt : 0 < m
    · have g0 : (0 : Int) < (m : Int) := by omega
      go_wp2_with fail
      refine (gridTurn_any bc a len cap _ _ CU.out (D.out.grown G.out) (by omega)).mono ?_
      rintro e w5 ⟨s, rfl, hc, hg⟩
      have l5 := hg.size
      have G5 := Lib.hid (grown_trans G.out hg)
      have C5 := Lib.hid hc
      have hown2 := (ownsRow_grown0 O.out hg (by intro k e; cases e; exact hbc)).alloc (.cells #[.int .i64 s.Quarters, .int .i64 s.Num, .int .i64 s.Den, .int .i64 s.East, .int .i64 s.North] 40)
      clear hc hg
      go_wp2_with (at_builtin; refine wpList_append_own _ rfl _ _ 24 rfl w.heap.size 40 i0 (.agg #[.int .i64 0, .int .i64 0, .int .i64 0, .int .i64 0, .int .i64 0]) 5 40 Try.underlying24 hi hz0 hz1 hz2 rfl (by decide) _ _ _ rfl hown2 ⟨w5.heap.size, 0, none⟩ 1 1 s.vals rfl rfl (cell_GridTurn _ s _) (VGridTurn.vals_one _) (by unfold maxLen; omega) (by omega) (by first | omega | (simp; done) | (simp; omega)) ?_; intro v' w7 hown' hgrow7 hnil7)
      go_roundw
      case rel =>
        have hlt7 := hown2.lt
        exact ⟨m - 1, xs ++ [s], by omega, by go_num, by simp; omega, by rw [cellsGridTurn_snoc]; simpa using hown', ((C5.out.alloc _).grown hgrow7 (fun e => by have := (hlt7 _ e.symm).1; omega)).more (by simp; omega), grown_own0 (grow_al G5.out _) hgrow7 (fun j e => (hlt7 j e).1)⟩
      case measure => simp [intOf]; omega
    · obtain rfl : m = 0 := by omega
      go_wp2_with fail
      refine (one_any bc a len cap _ 32 _ CU.out (D.out.grown G.out) (by omega) (by omega) (by omega)).mono ?_
      rintro e w3 ⟨b, rfl, hc, hg⟩
      have l3 := hg.size
      have G3 := Lib.hid (grown_trans G.out hg)
      have C3 := Lib.hid hc
      have O3 := Lib.hid (ownsRow_grown0 O.out hg (by intro k e; cases e; exact hbc))
      clear hc hg
      cases b
      · go_wp2
        go_ret
        exact ⟨_, xs, rfl, by omega, O3.out, C3.out.more (by omega), G3.out⟩
      · go_wp2
        go_loopw [3] (fun o wr => ∃ (ys : List VGridTurn), xs.length ≤ ys.length ∧ ys.length ≤ 5 ∧ wr.ownsRow w.heap.size 40 5 o ys.length (cellsGridTurn ys) ∧ CurAt wr bc a len cap (t + 60 + 2 * ys.length) ∧ w.grownBy wr (some bc)) (fun o _ => 5 - lenT o)
        case atStart => exact ⟨xs, Nat.le_refl _, by omega, O3.out, C3.out.more (by omega), G3.out⟩
        case round =>
          obtain ⟨ys, hxy, hyl, hown, hcur, hgr⟩ := hrel
          have O := Lib.hid hown
          have CU := Lib.hid hcur
          have G := Lib.hid hgr
          have hle := hgr.size
          obtain ⟨ya, yc, rfl, hys, _⟩ := isGridTurnS_own hown
          clear hown hcur hgr hys
          go_wp2_with fail
          refine (pick_any bc a len cap _ 2 _ CU.out (D.out.grown G.out) (by omega) (by omega) (by omega)).mono ?_
          rintro e w5 ⟨x, rfl, x0, x1, hc, hg⟩
          have x1 : x < 2 := x1
          have l5 := hg.size
          have G5 := Lib.hid (grown_trans G.out hg)
          have C5 := Lib.hid hc
          have O5 := Lib.hid (ownsRow_grown0 O.out hg (by intro k e; cases e; exact hbc))
          have v1 : IntKind.i64.wrap (4 + x) = 4 + x := IntWalk.i64_in _ (by omega)
          clear hc hg
          by_cases hlz : (ys.length : Int) < 4 + x
          · have hown2 := O5.out.alloc (.cells #[.int .i64 1, .int .i64 2, .int .i64 3, .int .i64 0, .int .i64 0] 40)
            go_wp2_with (at_builtin; refine wpList_append_own _ rfl _ _ 24 rfl w.heap.size 40 i0 (.agg #[.int .i64 0, .int .i64 0, .int .i64 0, .int .i64 0, .int .i64 0]) 5 40 Try.underlying24 hi hz0 hz1 hz2 rfl (by decide) _ _ _ rfl hown2 ⟨w5.heap.size, 0, none⟩ 1 1 (VGridTurn.vals ⟨1, 2, 3, 0, 0⟩) rfl rfl (cell_GridTurn _ ⟨1, 2, 3, 0, 0⟩ _) (VGridTurn.vals_one _) (by unfold maxLen; omega) (by omega) (by first | omega | (simp; done) | (simp; omega)) ?_; intro v' w7 hown' hgrow7 hnil7)
            go_roundw
            case rel =>
              have hlt7 := hown2.lt
              exact ⟨ys ++ [⟨1, 2, 3, 0, 0⟩], by simp; omega, by simp; omega, by rw [cellsGridTurn_snoc]; simpa using hown', ((C5.out.alloc _).grown hgrow7 (fun e => by have := (hlt7 _ e.symm).1; omega)).more (by simp; omega), grown_own0 (grow_al G5.out _) hgrow7 (fun j e => (hlt7 j e).1)⟩
            case measure =>
              have hq := lenT_own hown'
              simp [lenT] at hq ⊢
              omega
          · go_wp2
            go_ret
            exact ⟨_, ys, rfl, by omega, O5.out, C5.out.more (by omega), G5.out⟩
end Go.Proofs.Ytghgipadogdfiaa
