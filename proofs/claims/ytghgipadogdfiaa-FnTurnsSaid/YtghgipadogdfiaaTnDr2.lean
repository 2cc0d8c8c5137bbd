/- The laws' draws of a chain with a place, and of two chains. -/
import Derived.Test.YtghgipadogdfiaaTnDr
import Derived.Test.YtghgipadogdfiaaSheet
namespace Go.Proofs.Ytghgipadogdfiaa
open Go.RowKit

theorem turns_one (xs : List VGridTurn) : ∀ u ∈ cellsGridTurn xs, u.oneCell' = true := by
  intro u hu
  obtain ⟨s, _, hs⟩ := List.mem_flatMap.1 hu
  exact s.vals_one u hs
theorem made_turns (w : World) (base : Nat) (hb : base ≤ w.heap.size) : (w.alloc (.cells #[] 40)).ownsRow base 40 5 (.slice (some ⟨w.heap.size, 0, none⟩) 0 0) ([] : List VGridTurn).length (cellsGridTurn []) := World.ownsRow_made (base := base) (e := 40) (size := 5) w #[] 0 hb (Nat.zero_le _) rfl
def ChainAt (w : World) (e : Ending) (w' : World) : Prop := ∃ (a : Option Addr) (c : Nat) (xs : List VGridTurn) (x y : Int), e = .returned (.tuple #[.slice a xs.length c, .int .i64 x, .int .i64 y]) ∧ xs.length ≤ 8 ∧ IsGridTurnS w' a xs.length c xs ∧ Below w.heap.size w w'
set_option maxHeartbeats 1600000 in
set_option maxRecDepth 100000 in
theorem drawTurnPlace_any (a : Option Addr) (len cap : Nat) (w : World) (h : CodeIn w a len cap) :
    Calls Try.prog 15 #[.slice a len cap] w (ChainAt w) := by
  have C := Lib.hid (cur_new w a len cap)
  have D := Lib.hid (h.at (bel_alloc w (.cells #[.slice a len cap, .int .i64 0, .int .u64 0] 78)))
  clear h
  go_enter Try.func15, Try.ntmps15
  go_wp2_with fail
  refine (place4_any _ a len cap _ _ C.out D.out (by omega)).mono ?_
  rintro e w1 ⟨x, y, rfl, hc, hg⟩
  have C1 := Lib.hid hc
  have D1 := Lib.hid (D.out.grown hg)
  have G1 := Lib.hid (below_cur (bel_alloc w _) rfl hg)
  clear hc hg
  go_wp2_with fail
  refine (chain_any _ a len cap _ _ C1.out D1.out (by omega)).mono ?_
  rintro e w2 ⟨v, xs, rfl, hx, hown, hc, hg⟩
  obtain ⟨la, lc, rfl, hs, _⟩ := isGridTurnS_own hown
  have G2 := Lib.hid (below_cur G1.out rfl hg)
  have S2 := Lib.hid hs
  clear hc hg hown hs
  go_wp2
  go_ret3
  exact ⟨la, lc, xs, x, y, rfl, hx, S2.out, G2.out⟩

def TwoChains (w : World) (e : Ending) (w' : World) : Prop := ∃ (a : Option Addr) (c : Nat) (a' : Option Addr) (c' : Nat) (xs ys : List VGridTurn), e = .returned (.tuple #[.slice a xs.length c, .slice a' ys.length c']) ∧ xs.length ≤ 9 ∧ ys.length ≤ 9 ∧ IsGridTurnS w' a xs.length c xs ∧ IsGridTurnS w' a' ys.length c' ys ∧ Below w.heap.size w w'
set_option maxHeartbeats 6400000 in
set_option maxRecDepth 100000 in
theorem drawSameChains_any (a : Option Addr) (len cap : Nat) (w : World) (h : CodeIn w a len cap) :
    Calls Try.prog 20 #[.slice a len cap] w (TwoChains w) := by
  obtain ⟨i0, hi, hz0, hz1, hz2⟩ := info_parts infoGridTurn
  have C := Lib.hid (cur_new w a len cap)
  have D := Lib.hid (h.at (bel_alloc w (.cells #[.slice a len cap, .int .i64 0, .int .u64 0] 78)))
  have SZ := Lib.hid (show w.heap.size < (w.alloc (.cells #[.slice a len cap, .int .i64 0, .int .u64 0] 78)).heap.size by rw [size_al]; omega)
  clear h
  go_enter Try.func20, Try.ntmps20
  go_wp2_with fail
  refine (chain_any _ a len cap _ _ C.out D.out (by omega)).mono ?_
  rintro e w1 ⟨v, xs, rfl, hx, hown, hc, hg⟩
  obtain ⟨la, lc, rfl, _, _⟩ := isGridTurnS_own hown
  have O1 := Lib.hid hown
  have C1 := Lib.hid hc
  have D1 := Lib.hid (D.out.grown hg)
  have G1 := Lib.hid (below_cur (bel_alloc w _) rfl hg)
  have s1 := hg.size
  rw [size_al] at s1
  clear hc hg hown
  go_wp2_with fail
  refine (pick_any _ a len cap _ 4 _ C1.out D1.out (by omega) (by omega) (by omega)).mono ?_
  rintro e w2 ⟨p, rfl, p0, p1, hc, hg⟩
  have C2 := Lib.hid hc
  have D2 := Lib.hid (D1.out.grown hg)
  have G2 := Lib.hid (below_cur G1.out rfl hg)
  have O2 := Lib.hid (ownsRow_grown0 O1.out hg (by intro k e; cases e; exact SZ.out))
  have s2 := hg.size
  clear hc hg O1
  by_cases h0 : p = 0
  · subst h0
    go_wp2_with fail
    refine (chain_any _ a len cap _ _ C2.out D2.out (by omega)).mono ?_
    rintro e w3 ⟨v, ys, rfl, hy, hown, hc, hg⟩
    obtain ⟨lb, ld, rfl, hs2, _⟩ := isGridTurnS_own hown
    have O3 := ownsRow_grown0 O2.out hg (by intro k e; cases e; exact SZ.out)
    obtain ⟨_, _, e', hs1, _⟩ := isGridTurnS_own O3
    cases e'
    have G3 := Lib.hid (below_cur G2.out rfl hg)
    have S1 := Lib.hid hs1
    have S2 := Lib.hid hs2
    clear hc hg hown hs1 hs2 O3
    go_wp2
    go_ret2
    exact ⟨la, lc, lb, ld, xs, ys, rfl, by omega, by omega, S1.out, S2.out, G3.out⟩
  by_cases h1 : p = 1
  · subst h1
    have B0 := Lib.hid (bel_al1 w2 (.cells #[] 40))
    have O0 := made_turns w2 w2.heap.size (Nat.le_refl _)
    have O2b := ownsRow_below O2.out B0.out
    obtain ⟨_, _, e', hs1, hk1⟩ := isGridTurnS_own O2.out
    cases e'
    have SRC := srcGridTurn (hs1.below B0.out)
    have AL := Lib.hid (show ∀ b o, la = some ⟨b, o, none⟩ → b < w2.heap.size from fun b o e => (O2.out.lt b (hk1 b o e)).2)
    have S0 := Lib.hid hs1
    have SZ2 := Lib.hid (size_al w2 (.cells #[] 40))
    have L2 := Lib.hid (show (xs ++ [(⟨0, 7, 7, 0, 0⟩ : VGridTurn)]).length = xs.length + 1 from by simp)
    clear hs1 hk1 O2b
    go_wp2_with (first | (at_builtin; refine wpList_append_list rfl (.tmp 24) (.tmp 25) 24 rfl w2.heap.size 40 i0 (.agg #[.int .i64 0, .int .i64 0, .int .i64 0, .int .i64 0, .int .i64 0]) 5 40 Try.underlying24 hi hz0 hz1 hz2 rfl (by decide) _ _ _ rfl O0 _ xs.length lc (cellsGridTurn xs) rfl SRC (turns_one xs) (by simp; unfold maxLen; omega) (by simp; omega) (by rw [SZ2.out]; omega) ?_; intro v1 w3 hown1 hgrow1; have B1 := Lib.hid (B0.out.grown hgrow1 (by rw [SZ2.out]; omega) (fun k e => by have := own_is e; omega)); rw [List.length_nil, Nat.zero_add, show cellsGridTurn [] ++ cellsGridTurn xs = cellsGridTurn xs from rfl] at hown1; have hown2 := hown1.alloc (.cells #[.int .i64 0, .int .i64 7, .int .i64 7, .int .i64 0, .int .i64 0] 40); clear hgrow1 hown1) | (at_builtin; refine wpList_append_own _ rfl (.tmp 26) (.tmp 28) 24 rfl w2.heap.size 40 i0 (.agg #[.int .i64 0, .int .i64 0, .int .i64 0, .int .i64 0, .int .i64 0]) 5 40 Try.underlying24 hi hz0 hz1 hz2 rfl (by decide) _ _ _ rfl hown2 ⟨_, 0, none⟩ 1 1 (VGridTurn.vals ⟨0, 7, 7, 0, 0⟩) rfl rfl (cell_GridTurn _ ⟨0, 7, 7, 0, 0⟩ _) (VGridTurn.vals_one _) (by unfold maxLen; omega) (by omega) (by have := B1.out.size; first | omega | (simp; omega)) ?_; intro v2 w4 hown3 hgrow2 hnil2))
    have B2 := Lib.hid ((Below.then' B1.out (bel_al1 w3 _)).grown hgrow2 (by have := B1.out.size; rw [size_al]; omega) (fun k e => (hown2.lt k e).1))
    have hown4 : w4.ownsRow w2.heap.size 40 5 v2 (xs ++ [(⟨0, 7, 7, 0, 0⟩ : VGridTurn)]).length (cellsGridTurn (xs ++ [(⟨0, 7, 7, 0, 0⟩ : VGridTurn)])) := by rw [cellsGridTurn_snoc, L2.out]; exact hown3
    obtain ⟨lb, ld, rfl, hs2, _⟩ := isGridTurnS_own hown4
    have S2 := Lib.hid hs2
    have S1 := Lib.hid (S0.out.below B2.out)
    have G4 := Lib.hid (Below.then' G2.out B2.out)
    rw [L2.out] at S2
    clear hown2 hown3 hown4 hgrow2 hnil2 hs2
    go_wp2
    go_ret2
    exact ⟨la, lc, lb, ld, xs, xs ++ [⟨0, 7, 7, 0, 0⟩], by rw [L2.out]; rfl, by omega, by rw [L2.out]; omega, S1.out, by rw [L2.out]; exact S2.out, G4.out⟩
  · have hp0 : (p == 0) = false := by simpa using h0
    have hp1 : (p == 1) = false := by simpa using h1
    have O0 := Lib.hid (made_turns w2 w2.heap.size (Nat.le_refl _))
    have C3 := Lib.hid (C2.out.alloc (.cells #[] 40))
    have O3 := Lib.hid (O2.out.alloc (.cells #[] 40))
    have G3 := Lib.hid (grow_al (World.grownBy.refl w2 (some w.heap.size)) (.cells #[] 40))
    have s3 : w.heap.size + 1 ≤ w2.heap.size := by omega
    have AL := Lib.hid (fun j e => (O2.out.lt j e).2)
    go_wp2
    go_loopw [6, 7, 8] (fun o i _ wr => ∃ (k : Nat) (ys : List VGridTurn), k ≤ xs.length ∧ i = .int .i64 k ∧ ys.length = k ∧ wr.ownsRow w2.heap.size 40 5 o ys.length (cellsGridTurn ys) ∧ wr.ownsRow (w.heap.size + 1) 40 5 (.slice la xs.length lc) xs.length (cellsGridTurn xs) ∧ CurAt wr w.heap.size a len cap (102 + 2 * k) ∧ w2.grownBy wr (some w.heap.size)) (fun _ i _ _ => xs.length - (intOf i).toNat)
    case atStart => exact ⟨0, [], by omega, rfl, rfl, O0.out, by have := O3.out; rw [size_al] at this; exact this, C3.out.more (by omega), G3.out⟩
    case round =>
      obtain ⟨k, ys, hk, rfl, hyl, hown, howa, hcur, hgr⟩ := hrel
      have O := Lib.hid hown
      have OA := Lib.hid howa
      have CU := Lib.hid hcur
      have G := Lib.hid hgr
      have YL := Lib.hid hyl
      have hle := hgr.size
      obtain ⟨_, _, e', hs, _⟩ := isGridTurnS_own howa
      cases e'
      have SA := Lib.hid hs
      have hyl9 : ys.length ≤ 8 := by omega
      clear hown howa hcur hgr hyl hs
      by_cases hlt : k < xs.length
      · obtain ⟨s, hsx⟩ : ∃ s, xs[k]? = some s := ⟨xs[k], List.getElem?_eq_getElem _⟩
        obtain ⟨b, o, rfl, hb, hat⟩ := SA.out.at (by omega)
        obtain ⟨c0, c1, c2, c3, c4⟩ := hat k s hsx
        have hi0 : (0 : Int) ≤ (k : Int) := by omega
        have hi1 : (k : Int) < (xs.length : Int) := by omega
        have BX := Lib.hid (BoxGridTurn.new wr 40 s _ rfl)
        have HX := Lib.hid (HBGridTurn.new wr s _ rfl)
        have GW := Lib.hid (grow_al (World.grownBy.refl wr (some w.heap.size)) (.cells #[.int .i64 s.Quarters, .int .i64 s.Num, .int .i64 s.Den, .int .i64 s.East, .int .i64 s.North] 40))
        have CW := Lib.hid (CU.out.alloc (.cells #[.int .i64 s.Quarters, .int .i64 s.Num, .int .i64 s.Den, .int .i64 s.East, .int .i64 s.North] 40))
        obtain ⟨e0, e1, e2, e3, e4⟩ := BX.out
        obtain ⟨q1, hq1⟩ : ∃ q, inB s.Num 1 10 = q := ⟨_, rfl⟩
        obtain ⟨q2, hq2⟩ : ∃ q, inB s.Den 1 10 = q := ⟨_, rfl⟩
        have Q1 := Lib.hid hq1
        have Q2 := Lib.hid hq2
        have DW := Lib.hid (D2.out.grown (grown_trans G.out GW.out))
        clear hat hsx hq1 hq2
        have MID := Lib.hid (show (q1 && q2) = true → IntKind.i64.wrap (2 * s.Num) = 2 * s.Num ∧ IntKind.i64.wrap (2 * s.Den) = 2 * s.Den by
          intro h
          rw [← Q1.out, ← Q2.out, Bool.and_eq_true] at h
          have h1 := inB_iff.1 h.1
          have h2 := inB_iff.1 h.2
          exact ⟨IntWalk.i64_in _ (by omega), IntWalk.i64_in _ (by omega)⟩)
        go_wp2_with fail
        refine (l1In_any _ _ _ _).mono ?_
        rintro e w' ⟨rfl, rfl⟩
        rw [Q1.out]
        cases q1
        · clear c0 c1 c2 c3 c4
          obtain ⟨f0, f1, f2, f3, f4⟩ := HX.out.cells
          have sW := GW.out.size
          have hown2 := (ownsRow_grown0 O.out GW.out (by intro k e; cases e; omega)).alloc (.cells #[.int .i64 s.Quarters, .int .i64 s.Num, .int .i64 s.Den, .int .i64 s.East, .int .i64 s.North] 40)
          have OA4 := Lib.hid ((ownsRow_grown0 OA.out GW.out (by intro k e; cases e; omega)).alloc (.cells #[.int .i64 s.Quarters, .int .i64 s.Num, .int .i64 s.Den, .int .i64 s.East, .int .i64 s.North] 40))
          go_wp2_with (at_builtin; refine wpList_append_own _ rfl _ _ 24 rfl w2.heap.size 40 i0 (.agg #[.int .i64 0, .int .i64 0, .int .i64 0, .int .i64 0, .int .i64 0]) 5 40 Try.underlying24 hi hz0 hz1 hz2 rfl (by decide) _ _ _ rfl hown2 ⟨wr.heap.size + 1, 0, none⟩ 1 1 (VGridTurn.vals ⟨s.Quarters, s.Num, s.Den, s.East, s.North⟩) rfl rfl (cell_GridTurn2 _ _ ⟨s.Quarters, s.Num, s.Den, s.East, s.North⟩ _) (VGridTurn.vals_one _) (by unfold maxLen; omega) (by omega) (by first | omega | (simp; done) | (simp; omega) | (simp at sW ⊢; omega)) ?_; intro v' w7 hown' hgrow7 hnil7)
          go_roundw
          case rel =>
            have hlt7 := hown2.lt
            have AL7 := AL.out b rfl
            exact ⟨k + 1, ys ++ [⟨s.Quarters, s.Num, s.Den, s.East, s.North⟩], by omega, by go_num, by have := YL.out; simp; omega, by rw [cellsGridTurn_snoc]; simpa using hown', OA4.out.kept hgrow7 (.inr fun e => by have := (hlt7 b e.symm).1; omega), ((CW.out.alloc _).grown hgrow7 (fun e => by have := (hlt7 _ e.symm).1; omega)).more (by omega), grown_own0 (grow_al (grown_trans G.out GW.out) _) hgrow7 (fun j e => (hlt7 j e).1)⟩
          case measure => simp [intOf]; omega
        go_wp2_with fail
        refine (l1In_any _ _ _ _).mono ?_
        rintro e w' ⟨rfl, rfl⟩
        rw [Q2.out]
        cases q2
        · clear c0 c1 c2 c3 c4
          obtain ⟨f0, f1, f2, f3, f4⟩ := HX.out.cells
          have sW := GW.out.size
          have hown2 := (ownsRow_grown0 O.out GW.out (by intro k e; cases e; omega)).alloc (.cells #[.int .i64 s.Quarters, .int .i64 s.Num, .int .i64 s.Den, .int .i64 s.East, .int .i64 s.North] 40)
          have OA4 := Lib.hid ((ownsRow_grown0 OA.out GW.out (by intro k e; cases e; omega)).alloc (.cells #[.int .i64 s.Quarters, .int .i64 s.Num, .int .i64 s.Den, .int .i64 s.East, .int .i64 s.North] 40))
          go_wp2_with (at_builtin; refine wpList_append_own _ rfl _ _ 24 rfl w2.heap.size 40 i0 (.agg #[.int .i64 0, .int .i64 0, .int .i64 0, .int .i64 0, .int .i64 0]) 5 40 Try.underlying24 hi hz0 hz1 hz2 rfl (by decide) _ _ _ rfl hown2 ⟨wr.heap.size + 1, 0, none⟩ 1 1 (VGridTurn.vals ⟨s.Quarters, s.Num, s.Den, s.East, s.North⟩) rfl rfl (cell_GridTurn2 _ _ ⟨s.Quarters, s.Num, s.Den, s.East, s.North⟩ _) (VGridTurn.vals_one _) (by unfold maxLen; omega) (by omega) (by first | omega | (simp; done) | (simp; omega) | (simp at sW ⊢; omega)) ?_; intro v' w7 hown' hgrow7 hnil7)
          go_roundw
          case rel =>
            have hlt7 := hown2.lt
            have AL7 := AL.out b rfl
            exact ⟨k + 1, ys ++ [⟨s.Quarters, s.Num, s.Den, s.East, s.North⟩], by omega, by go_num, by have := YL.out; simp; omega, by rw [cellsGridTurn_snoc]; simpa using hown', OA4.out.kept hgrow7 (.inr fun e => by have := (hlt7 b e.symm).1; omega), ((CW.out.alloc _).grown hgrow7 (fun e => by have := (hlt7 _ e.symm).1; omega)).more (by omega), grown_own0 (grow_al (grown_trans G.out GW.out) _) hgrow7 (fun j e => (hlt7 j e).1)⟩
          case measure => simp [intOf]; omega
        go_wp2_with fail
        refine (one_any _ a len cap _ 2 _ CW.out DW.out (by omega) (by omega) (by omega)).mono ?_
        rintro e w4 ⟨bq, rfl, hc, hg⟩
        have HX4 := Lib.hid (HX.out.grown hg (by simp only [ne_eq, Option.some.injEq]; omega))
        have GW4 := Lib.hid (grown_trans GW.out hg)
        have CW4 := Lib.hid hc
        clear hc hg c0 c1 c2 c3 c4 e0 e1 e2 e3 e4
        cases bq
        · skip
          obtain ⟨f0, f1, f2, f3, f4⟩ := HX4.out.cells
          have sW := GW4.out.size
          have hown2 := (ownsRow_grown0 O.out GW4.out (by intro k e; cases e; omega)).alloc (.cells #[.int .i64 s.Quarters, .int .i64 s.Num, .int .i64 s.Den, .int .i64 s.East, .int .i64 s.North] 40)
          have OA4 := Lib.hid ((ownsRow_grown0 OA.out GW4.out (by intro k e; cases e; omega)).alloc (.cells #[.int .i64 s.Quarters, .int .i64 s.Num, .int .i64 s.Den, .int .i64 s.East, .int .i64 s.North] 40))
          go_wp2_with (at_builtin; refine wpList_append_own _ rfl _ _ 24 rfl w2.heap.size 40 i0 (.agg #[.int .i64 0, .int .i64 0, .int .i64 0, .int .i64 0, .int .i64 0]) 5 40 Try.underlying24 hi hz0 hz1 hz2 rfl (by decide) _ _ _ rfl hown2 ⟨w4.heap.size, 0, none⟩ 1 1 (VGridTurn.vals ⟨s.Quarters, s.Num, s.Den, s.East, s.North⟩) rfl rfl (cell_GridTurn _ ⟨s.Quarters, s.Num, s.Den, s.East, s.North⟩ _) (VGridTurn.vals_one _) (by unfold maxLen; omega) (by omega) (by first | omega | (simp; done) | (simp; omega) | (simp at sW ⊢; omega)) ?_; intro v' w7 hown' hgrow7 hnil7)
          go_roundw
          case rel =>
            have hlt7 := hown2.lt
            have AL7 := AL.out b rfl
            exact ⟨k + 1, ys ++ [⟨s.Quarters, s.Num, s.Den, s.East, s.North⟩], by omega, by go_num, by have := YL.out; simp; omega, by rw [cellsGridTurn_snoc]; simpa using hown', OA4.out.kept hgrow7 (.inr fun e => by have := (hlt7 b e.symm).1; omega), ((CW4.out.alloc _).grown hgrow7 (fun e => by have := (hlt7 _ e.symm).1; omega)).more (by omega), grown_own0 (grow_al (grown_trans G.out GW4.out) _) hgrow7 (fun j e => (hlt7 j e).1)⟩
          case measure => simp [intOf]; omega
        · obtain ⟨m1, m2⟩ := MID.out rfl
          obtain ⟨e0, e1, e2, e3, e4⟩ := HX4.out.cells
          have g1 := HX4.out.free 1
          have g2 := HX4.out.free 2
          have HX5 := Lib.hid ((HX4.out.set1 (2 * s.Num)).set2 (2 * s.Den))
          have GW5 := Lib.hid (grow_st (p := ⟨wr.heap.size, 2, none⟩) (grow_st (p := ⟨wr.heap.size, 1, none⟩) GW4.out (by simp) (Value.int .i64 (2 * s.Num))) (by simp) (Value.int .i64 (2 * s.Den)))
          have CW5 := Lib.hid (CW4.out.heap ((heap_setCell_other _ ⟨wr.heap.size, 2, none⟩ w.heap.size (Value.int .i64 (2 * s.Den)) (by simp; omega)).trans (heap_setCell_other w4 ⟨wr.heap.size, 1, none⟩ w.heap.size (Value.int .i64 (2 * s.Num)) (by simp; omega))))
          have CE := cell_GridTurn ((w4.setCell ⟨wr.heap.size, 1, none⟩ (Value.int .i64 (2 * s.Num))).setCell ⟨wr.heap.size, 2, none⟩ (Value.int .i64 (2 * s.Den))) ⟨s.Quarters, 2 * s.Num, 2 * s.Den, s.East, s.North⟩ 40
          rw [show ((w4.setCell ⟨wr.heap.size, 1, none⟩ (Value.int .i64 (2 * s.Num))).setCell ⟨wr.heap.size, 2, none⟩ (Value.int .i64 (2 * s.Den))).heap.size = w4.heap.size from by simp] at CE
          obtain ⟨f0, f1, f2, f3, f4⟩ := HX5.out.cells
          have sW := GW5.out.size
          have hown2 := (ownsRow_grown0 O.out GW5.out (by intro k e; cases e; omega)).alloc (.cells #[.int .i64 s.Quarters, .int .i64 (2 * s.Num), .int .i64 (2 * s.Den), .int .i64 s.East, .int .i64 s.North] 40)
          have OA4 := Lib.hid ((ownsRow_grown0 OA.out GW5.out (by intro k e; cases e; omega)).alloc (.cells #[.int .i64 s.Quarters, .int .i64 (2 * s.Num), .int .i64 (2 * s.Den), .int .i64 s.East, .int .i64 s.North] 40))
          go_wp2_with (at_builtin; refine wpList_append_own _ rfl _ _ 24 rfl w2.heap.size 40 i0 (.agg #[.int .i64 0, .int .i64 0, .int .i64 0, .int .i64 0, .int .i64 0]) 5 40 Try.underlying24 hi hz0 hz1 hz2 rfl (by decide) _ _ _ rfl hown2 ⟨w4.heap.size, 0, none⟩ 1 1 (VGridTurn.vals ⟨s.Quarters, 2 * s.Num, 2 * s.Den, s.East, s.North⟩) rfl rfl CE (VGridTurn.vals_one _) (by unfold maxLen; omega) (by omega) (by first | omega | (simp; done) | (simp; omega) | (simp at sW ⊢; omega)) ?_; intro v' w7 hown' hgrow7 hnil7)
          go_roundw
          case rel =>
            have hlt7 := hown2.lt
            have AL7 := AL.out b rfl
            exact ⟨k + 1, ys ++ [⟨s.Quarters, 2 * s.Num, 2 * s.Den, s.East, s.North⟩], by omega, by go_num, by have := YL.out; simp; omega, by rw [cellsGridTurn_snoc]; simpa using hown', OA4.out.kept hgrow7 (.inr fun e => by have := (hlt7 b e.symm).1; omega), ((CW5.out.alloc _).grown hgrow7 (fun e => by have := (hlt7 _ e.symm).1; omega)).more (by omega), grown_own0 (grow_al (grown_trans G.out GW5.out) _) hgrow7 (fun j e => (hlt7 j e).1)⟩
          case measure => simp [intOf]; omega
      · obtain rfl : k = xs.length := by omega
        obtain ⟨lb, ld, rfl, hs2, _⟩ := isGridTurnS_own O.out
        have S2 := Lib.hid hs2
        have GB := Lib.hid (below_cur G2.out rfl G.out)
        clear hs2
        go_wp2
        go_ret2
        exact ⟨la, lc, lb, ld, xs, ys, rfl, by omega, by omega, SA.out, S2.out, GB.out⟩
end Go.Proofs.Ytghgipadogdfiaa
