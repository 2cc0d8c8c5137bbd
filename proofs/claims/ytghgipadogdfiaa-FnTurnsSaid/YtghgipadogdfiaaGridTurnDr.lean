/- The laws' draw of a GridTurn: some GridTurn; nothing but the cursor's own block turns. (made by gendraw.py) -/
import Derived.Test.YtghgipadogdfiaaDrawB
import Derived.Test.YtghgipadogdfiaaGridTurnT
namespace Go.Proofs.Ytghgipadogdfiaa
open Go.RowKit
theorem grow_alGridTurn {w w' : World} {row : Option Nat} (h : w.grownBy w' row) {b : Nat} (hb : w.heap.size ≤ b) (x0 x1 x2 x3 x4 : Value) : w.grownBy (((((w'.setCell ⟨b, 0, none⟩ x0).setCell ⟨b, 1, none⟩ x1).setCell ⟨b, 2, none⟩ x2).setCell ⟨b, 3, none⟩ x3).setCell ⟨b, 4, none⟩ x4) row :=
  (grow_st (p := ⟨b, 4, none⟩) (grow_st (p := ⟨b, 3, none⟩) (grow_st (p := ⟨b, 2, none⟩) (grow_st (p := ⟨b, 1, none⟩) (grow_st (p := ⟨b, 0, none⟩) h hb x0) hb x1) hb x2) hb x3) hb x4)
theorem block_alGridTurn (w : World) {b k : Nat} (hne : k ≠ b) (x0 x1 x2 x3 x4 : Value) : (((((w.setCell ⟨b, 0, none⟩ x0).setCell ⟨b, 1, none⟩ x1).setCell ⟨b, 2, none⟩ x2).setCell ⟨b, 3, none⟩ x3).setCell ⟨b, 4, none⟩ x4).heap[k]? = w.heap[k]? :=
  ((heap_setCell_other _ ⟨b, 4, none⟩ k _ hne).trans ((heap_setCell_other _ ⟨b, 3, none⟩ k _ hne).trans ((heap_setCell_other _ ⟨b, 2, none⟩ k _ hne).trans ((heap_setCell_other _ ⟨b, 1, none⟩ k _ hne).trans (heap_setCell_other _ ⟨b, 0, none⟩ k _ hne)))))
def GridTurnDraw (bc : Nat) (a : Option Addr) (len cap t : Nat) (w : World) (e : Ending) (w' : World) : Prop := ∃ s : VGridTurn, e = .returned (.agg #[.int .i64 s.Quarters, .int .i64 s.Num, .int .i64 s.Den, .int .i64 s.East, .int .i64 s.North]) ∧ CurAt w' bc a len cap t ∧ w.grownBy w' (some bc)
set_option maxHeartbeats 6400000 in
set_option maxRecDepth 100000 in
theorem gridTurn_any (bc : Nat) (a : Option Addr) (len cap t : Nat)  (w : World) (hc : CurAt w bc a len cap t) (hd : CodeAt w a len cap bc) (ht : t ≤ 800000) :
    Calls Try.prog 86 #[.pointer (some ⟨bc, 0, none⟩)] w (GridTurnDraw bc a len cap (t + 16) w) := by
  have hlt := hc.lt
  have C := Lib.hid hc
  have D := Lib.hid hd
  have Z := Lib.hid (HBGridTurn.new w ⟨0, 0, 0, 0, 0⟩ _ rfl)
  have G := Lib.hid (grow_al (World.grownBy.refl w (some bc)) (.cells #[.int .i64 0, .int .i64 0, .int .i64 0, .int .i64 0, .int .i64 0] 40))
  clear hc hd
  go_enter Try.func86, Try.ntmps86
  go_wp2_with fail
  refine (pick_any bc a len cap _ 4 _ (C.out.alloc _) (D.out.alloc _) (by omega) (by omega) (by omega)).mono ?_
  rintro e w1 ⟨x1, rfl, h0x1, h1x1, hc, hg⟩
  have h1x1 : x1 < 4 := h1x1
  have hs1 : w.heap.size + 1 ≤ w1.heap.size := by have := hg.size; rw [size_al] at this; exact this
  have C1 := Lib.hid hc
  have G1 := Lib.hid (grown_trans G.out hg)
  have Z1 := Lib.hid ((Z.out).grown hg (by simp only [ne_eq, Option.some.injEq]; omega))
  have D1 := Lib.hid (D.out.grown G1.out)
  clear hc hg
  go_wp2_with fail
  refine (among_any bc a len cap _ w1.heap.size 0 5 5 (1) 20 _ (C1.out.alloc _) (D1.out.alloc _) (by omega) (by omega) (by omega) (by omega) (by simp) ?_).mono ?_
  · refine ints_at _ _ _ (1) 20 5 _ rfl rfl ?_
    repeat (refine List.forall_mem_cons.2 ⟨⟨_, by omega, by omega, rfl⟩, ?_⟩)
    exact fun _ h => by cases h
  rintro e w2 ⟨x2, rfl, _, _, hc, hg⟩
  have hs2 : w1.heap.size + 1 ≤ w2.heap.size := by have := hg.size; rw [size_al] at this; exact this
  have C2 := Lib.hid hc
  have G2 := Lib.hid (grown_trans (grow_al G1.out _) hg)
  have Z2 := Lib.hid ((Z1.out.alloc _).grown hg (by simp only [ne_eq, Option.some.injEq]; omega))
  have D2 := Lib.hid (D.out.grown G2.out)
  clear hc hg
  go_wp2_with fail
  refine (among_any bc a len cap _ w2.heap.size 0 5 5 (1) 20 _ (C2.out.alloc _) (D2.out.alloc _) (by omega) (by omega) (by omega) (by omega) (by simp) ?_).mono ?_
  · refine ints_at _ _ _ (1) 20 5 _ rfl rfl ?_
    repeat (refine List.forall_mem_cons.2 ⟨⟨_, by omega, by omega, rfl⟩, ?_⟩)
    exact fun _ h => by cases h
  rintro e w3 ⟨x3, rfl, _, _, hc, hg⟩
  have hs3 : w2.heap.size + 1 ≤ w3.heap.size := by have := hg.size; rw [size_al] at this; exact this
  have C3 := Lib.hid hc
  have G3 := Lib.hid (grown_trans (grow_al G2.out _) hg)
  have Z3 := Lib.hid ((Z2.out.alloc _).grown hg (by simp only [ne_eq, Option.some.injEq]; omega))
  have D3 := Lib.hid (D.out.grown G3.out)
  clear hc hg
  go_wp2_with fail
  refine (among_any bc a len cap _ w3.heap.size 0 6 6 (-99999) 99999 _ (C3.out.alloc _) (D3.out.alloc _) (by omega) (by omega) (by omega) (by omega) (by simp) ?_).mono ?_
  · refine ints_at _ _ _ (-99999) 99999 6 _ rfl rfl ?_
    repeat (refine List.forall_mem_cons.2 ⟨⟨_, by omega, by omega, rfl⟩, ?_⟩)
    exact fun _ h => by cases h
  rintro e w4 ⟨x4, rfl, _, _, hc, hg⟩
  have hs4 : w3.heap.size + 1 ≤ w4.heap.size := by have := hg.size; rw [size_al] at this; exact this
  have C4 := Lib.hid hc
  have G4 := Lib.hid (grown_trans (grow_al G3.out _) hg)
  have Z4 := Lib.hid ((Z3.out.alloc _).grown hg (by simp only [ne_eq, Option.some.injEq]; omega))
  have D4 := Lib.hid (D.out.grown G4.out)
  clear hc hg
  go_wp2_with fail
  refine (among_any bc a len cap _ w4.heap.size 0 6 6 (-99999) 99999 _ (C4.out.alloc _) (D4.out.alloc _) (by omega) (by omega) (by omega) (by omega) (by simp) ?_).mono ?_
  · refine ints_at _ _ _ (-99999) 99999 6 _ rfl rfl ?_
    repeat (refine List.forall_mem_cons.2 ⟨⟨_, by omega, by omega, rfl⟩, ?_⟩)
    exact fun _ h => by cases h
  rintro e w5 ⟨x5, rfl, _, _, hc, hg⟩
  have hs5 : w4.heap.size + 1 ≤ w5.heap.size := by have := hg.size; rw [size_al] at this; exact this
  have C5 := Lib.hid hc
  have G5 := Lib.hid (grown_trans (grow_al G4.out _) hg)
  have Z5 := Lib.hid ((Z4.out.alloc _).grown hg (by simp only [ne_eq, Option.some.injEq]; omega))
  have D5 := Lib.hid (D.out.grown G5.out)
  clear hc hg
  have X5 := Lib.hid (HBGridTurn.new w5 ⟨x1, x2, x3, x4, x5⟩ _ rfl)
  go_wp2_with fail
  refine (pick_any bc a len cap _ 64 _ (C5.out.alloc _) (D5.out.alloc _) (by omega) (by omega) (by omega)).mono ?_
  rintro e w6 ⟨p, rfl, pp0, _, hc, hg⟩
  have hs6 : w5.heap.size + 1 ≤ w6.heap.size := by have := hg.size; rw [size_al] at this; exact this
  have C6 := Lib.hid hc
  have Z6 := Lib.hid ((Z5.out.alloc _).grown hg (by simp only [ne_eq, Option.some.injEq]; omega))
  have X6 := Lib.hid (X5.out.grown hg (by simp only [ne_eq, Option.some.injEq]; omega))
  have G6 := Lib.hid (grown_trans (grow_al G5.out _) hg)
  have D6 := Lib.hid (D.out.grown G6.out)
  obtain ⟨n5, hn5⟩ : ∃ n, w5.heap.size = n := ⟨_, rfl⟩
  have l5 : w.heap.size < n5 := by omega
  have l6 : n5 < w6.heap.size := by omega
  have l7 : ¬ n5 = w.heap.size := by omega
  have l8 : ¬ w.heap.size = n5 := by omega
  rw [hn5] at X6 ⊢
  clear hc hg hn5 hs1 hs2 hs3 hs4 hs5 hs6
  rcases (show p = 0 ∨ p = 1 ∨ p = 2 ∨ (¬ p = 0 ∧ ¬ p = 1 ∧ ¬ p = 2) by omega) with e | e | e | ⟨e0, e1, e2⟩
  · subst e
    go_wp2_with fail
    refine (among_any bc a len cap _ w6.heap.size 0 2 2 (-1) 4 _ (C6.out.alloc _) (D6.out.alloc _) (by omega) (by omega) (by omega) (by omega) (by simp) ?_).mono ?_
    · refine ints_at _ _ _ (-1) 4 2 _ rfl rfl ?_
      repeat (refine List.forall_mem_cons.2 ⟨⟨_, by omega, by omega, rfl⟩, ?_⟩)
      exact fun _ h => by cases h
    rintro e w7 ⟨y, rfl, _, _, hc, hg⟩
    have hs7 : w6.heap.size + 1 ≤ w7.heap.size := by have := hg.size; rw [size_al] at this; exact this
    have C7 := Lib.hid hc
    have G7 := Lib.hid (grown_trans (grow_al G6.out _) hg)
    have Z7 := Lib.hid ((Z6.out.alloc _).grown hg (by simp only [ne_eq, Option.some.injEq]; omega))
    have X7 := Lib.hid ((X6.out.alloc _).grown hg (by simp only [ne_eq, Option.some.injEq]; omega))
    have D7 := Lib.hid (D.out.grown G7.out)
    clear hc hg
    obtain ⟨q0, q1, q2, q3, q4⟩ := Z7.out.cells
    obtain ⟨p0, p1, p2, p3, p4⟩ := X7.out.cells
    have f0 := Z7.out.free 0
    have f1 := Z7.out.free 1
    have f2 := Z7.out.free 2
    have f3 := Z7.out.free 3
    have f4 := Z7.out.free 4
    have g1 := X7.out.free 0
    simp only at q0 q1 q2 q3 q4 p0 p1 p2 p3 p4
    go_wp2
    exact bodyPost_ret (v := .agg #[.int .i64 y, .int .i64 x2, .int .i64 x3, .int .i64 x4, .int .i64 x5]) (by simp [results, Try.results86, go_sem, *]) rfl ⟨⟨y, x2, x3, x4, x5⟩, rfl, (C7.out.heap ((block_alGridTurn _ (by omega) _ _ _ _ _ ).trans (heap_setCell_other _ ⟨n5, 0, none⟩ bc _ (show bc ≠ n5 by omega)))).more (by omega), grow_alGridTurn (grow_st (p := ⟨n5, 0, none⟩) G7.out (show w.heap.size ≤ n5 by omega) _) (Nat.le_refl _) _ _ _ _ _ ⟩
  · subst e
    go_wp2_with fail
    refine (among_any bc a len cap _ w6.heap.size 0 2 2 (0) 21 _ (C6.out.alloc _) (D6.out.alloc _) (by omega) (by omega) (by omega) (by omega) (by simp) ?_).mono ?_
    · refine ints_at _ _ _ (0) 21 2 _ rfl rfl ?_
      repeat (refine List.forall_mem_cons.2 ⟨⟨_, by omega, by omega, rfl⟩, ?_⟩)
      exact fun _ h => by cases h
    rintro e w7 ⟨y, rfl, _, _, hc, hg⟩
    have hs7 : w6.heap.size + 1 ≤ w7.heap.size := by have := hg.size; rw [size_al] at this; exact this
    have C7 := Lib.hid hc
    have G7 := Lib.hid (grown_trans (grow_al G6.out _) hg)
    have Z7 := Lib.hid ((Z6.out.alloc _).grown hg (by simp only [ne_eq, Option.some.injEq]; omega))
    have X7 := Lib.hid ((X6.out.alloc _).grown hg (by simp only [ne_eq, Option.some.injEq]; omega))
    have D7 := Lib.hid (D.out.grown G7.out)
    clear hc hg
    obtain ⟨q0, q1, q2, q3, q4⟩ := Z7.out.cells
    obtain ⟨p0, p1, p2, p3, p4⟩ := X7.out.cells
    have f0 := Z7.out.free 0
    have f1 := Z7.out.free 1
    have f2 := Z7.out.free 2
    have f3 := Z7.out.free 3
    have f4 := Z7.out.free 4
    have g1 := X7.out.free 2
    simp only at q0 q1 q2 q3 q4 p0 p1 p2 p3 p4
    go_wp2
    exact bodyPost_ret (v := .agg #[.int .i64 x1, .int .i64 x2, .int .i64 y, .int .i64 x4, .int .i64 x5]) (by simp [results, Try.results86, go_sem, *]) rfl ⟨⟨x1, x2, y, x4, x5⟩, rfl, (C7.out.heap ((block_alGridTurn _ (by omega) _ _ _ _ _ ).trans (heap_setCell_other _ ⟨n5, 2, none⟩ bc _ (show bc ≠ n5 by omega)))).more (by omega), grow_alGridTurn (grow_st (p := ⟨n5, 2, none⟩) G7.out (show w.heap.size ≤ n5 by omega) _) (Nat.le_refl _) _ _ _ _ _ ⟩
  · subst e
    go_wp2_with fail
    refine (among_any bc a len cap _ w6.heap.size 0 2 2 (-100000) 100000 _ (C6.out.alloc _) (D6.out.alloc _) (by omega) (by omega) (by omega) (by omega) (by simp) ?_).mono ?_
    · refine ints_at _ _ _ (-100000) 100000 2 _ rfl rfl ?_
      repeat (refine List.forall_mem_cons.2 ⟨⟨_, by omega, by omega, rfl⟩, ?_⟩)
      exact fun _ h => by cases h
    rintro e w7 ⟨y, rfl, _, _, hc, hg⟩
    have hs7 : w6.heap.size + 1 ≤ w7.heap.size := by have := hg.size; rw [size_al] at this; exact this
    have C7 := Lib.hid hc
    have G7 := Lib.hid (grown_trans (grow_al G6.out _) hg)
    have Z7 := Lib.hid ((Z6.out.alloc _).grown hg (by simp only [ne_eq, Option.some.injEq]; omega))
    have X7 := Lib.hid ((X6.out.alloc _).grown hg (by simp only [ne_eq, Option.some.injEq]; omega))
    have D7 := Lib.hid (D.out.grown G7.out)
    clear hc hg
    obtain ⟨q0, q1, q2, q3, q4⟩ := Z7.out.cells
    obtain ⟨p0, p1, p2, p3, p4⟩ := X7.out.cells
    have f0 := Z7.out.free 0
    have f1 := Z7.out.free 1
    have f2 := Z7.out.free 2
    have f3 := Z7.out.free 3
    have f4 := Z7.out.free 4
    have g1 := X7.out.free 3
    simp only at q0 q1 q2 q3 q4 p0 p1 p2 p3 p4
    go_wp2
    exact bodyPost_ret (v := .agg #[.int .i64 x1, .int .i64 x2, .int .i64 x3, .int .i64 y, .int .i64 x5]) (by simp [results, Try.results86, go_sem, *]) rfl ⟨⟨x1, x2, x3, y, x5⟩, rfl, (C7.out.heap ((block_alGridTurn _ (by omega) _ _ _ _ _ ).trans (heap_setCell_other _ ⟨n5, 3, none⟩ bc _ (show bc ≠ n5 by omega)))).more (by omega), grow_alGridTurn (grow_st (p := ⟨n5, 3, none⟩) G7.out (show w.heap.size ≤ n5 by omega) _) (Nat.le_refl _) _ _ _ _ _ ⟩
  · have b0 : (p == 0) = false := by simpa using e0
    have b1 : (p == 1) = false := by simpa using e1
    have b2 : (p == 2) = false := by simpa using e2
    obtain ⟨q0, q1, q2, q3, q4⟩ := Z6.out.cells
    obtain ⟨p0, p1, p2, p3, p4⟩ := X6.out.cells
    have f0 := Z6.out.free 0
    have f1 := Z6.out.free 1
    have f2 := Z6.out.free 2
    have f3 := Z6.out.free 3
    have f4 := Z6.out.free 4
    simp only at q0 q1 q2 q3 q4 p0 p1 p2 p3 p4
    go_wp2
    exact bodyPost_ret (v := .agg #[.int .i64 x1, .int .i64 x2, .int .i64 x3, .int .i64 x4, .int .i64 x5]) (by simp [results, Try.results86, go_sem, *]) rfl ⟨⟨x1, x2, x3, x4, x5⟩, rfl, (C6.out.heap (block_alGridTurn _ (by omega) _ _ _ _ _ )).more (by omega), grow_alGridTurn G6.out (Nat.le_refl _) _ _ _ _ _ ⟩
end Go.Proofs.Ytghgipadogdfiaa
