/- The laws' draws of sheets: some sheet, some sheets; nothing but the cursor's own block turns. -/
import Derived.Test.YtidaoijpbdljbaaDraw
import Derived.Test.YtidaoijpbdljbaaBox
import Derived.Test.YtidaoijpbdljbaaAre
import Derived.Test.YtidaoijpbdljbaaScale
namespace Go.Proofs.Ytidaoijpbdljbaa
open Go.RowKit

theorem ints_at (w : World) (C : Array Value) (T : TypeId) (lo hi : Int) (n B : Nat) (hB : w.heap.size = B) (hn : C.size = n) (hC : ∀ v ∈ C.toList, ∃ x : Int, lo ≤ x ∧ x ≤ hi ∧ v = .int .i64 x) : ∀ i, i < n → ∃ x : Int, lo ≤ x ∧ x ≤ hi ∧ (w.alloc (.cells C T)).cell? ⟨B, 0 + i, none⟩ = some (.int .i64 x) := by
  subst hn hB
  intro i hi'
  obtain ⟨x, h1, h2, e⟩ := hC C[i] (by simp)
  refine ⟨x, h1, h2, ?_⟩
  rw [World.cell?_alloc_new, Nat.zero_add, Array.getElem?_eq_getElem hi', e]
theorem CurAt.grown {w w' : World} {bc : Nat} {a : Option Addr} {len cap t : Nat} {row : Option Nat} (h : CurAt w bc a len cap t) (hg : w.grownBy w' row) (hne : some bc ≠ row) : CurAt w' bc a len cap t := h.heap (hg.block bc h.lt hne)
/-- Some sheet. -/
def ShDraw (bc : Nat) (a : Option Addr) (len cap t : Nat) (w : World) (e : Ending) (w' : World) : Prop := ∃ s : Sh, e = .returned (.agg #[.int .i64 s.id, .int .i64 s.row, .int .i64 s.col, .int .i64 s.scale, .int .i64 s.year]) ∧ CurAt w' bc a len cap t ∧ w.grownBy w' (some bc)

set_option maxHeartbeats 3200000 in
set_option maxRecDepth 100000 in
theorem sheet_any (bc : Nat) (a : Option Addr) (len cap t : Nat) (id : Int) (w : World) (hc : CurAt w bc a len cap t) (hd : CodeAt w a len cap bc) (ht : t ≤ 800000) :
    Calls Try.prog 85 #[.pointer (some ⟨bc, 0, none⟩), .int .i64 id] w (ShDraw bc a len cap (t + 12) w) := by
  have hlt := hc.lt
  have C := Lib.hid hc
  have D := Lib.hid hd
  have Z := Lib.hid (HB.new w ⟨0, 0, 0, 0, 0⟩)
  have G := Lib.hid (grow_alloc (World.grownBy.refl w (some bc)) (.cells #[.int .i64 0, .int .i64 0, .int .i64 0, .int .i64 0, .int .i64 0] 35))
  clear hc hd
  go_enter Try.func85, Try.ntmps85
  go_wp2_with fail
  refine (among_any bc a len cap t (w.heap.size + 1) 0 6 6 0 99 _ ((C.out.alloc _).alloc _) ((D.out.alloc _).alloc _) (by omega) (by omega) (by omega) (by omega) (by simp) ?_).mono ?_
  · refine ints_at _ _ _ 0 99 6 _ (size_alloc _ _) rfl ?_
    repeat (refine List.forall_mem_cons.2 ⟨⟨_, by omega, by omega, rfl⟩, ?_⟩)
    exact fun _ h => by cases h
  rintro e w1 ⟨x1, rfl, _, _, hc1, hg1⟩
  have hs1 : w.heap.size + 2 ≤ w1.heap.size := by have := hg1.size; rw [size_alloc, size_alloc] at this; exact this
  have C1 := Lib.hid hc1
  have Z1 := Lib.hid ((Z.out.alloc _).grown hg1 (by simpa using (by omega : w.heap.size ≠ bc)))
  have G1 := Lib.hid (grown_trans (grow_alloc G.out _) hg1)
  have D1 := Lib.hid (D.out.grown G1.out)
  clear hc1 hg1
  go_wp2_with fail
  refine (among_any bc a len cap _ w1.heap.size 0 6 6 0 99 _ (C1.out.alloc _) (D1.out.alloc _) (by omega) (by omega) (by omega) (by omega) (by simp) ?_).mono ?_
  · refine ints_at _ _ _ 0 99 6 _ rfl rfl ?_
    repeat (refine List.forall_mem_cons.2 ⟨⟨_, by omega, by omega, rfl⟩, ?_⟩)
    exact fun _ h => by cases h
  rintro e w2 ⟨x2, rfl, _, _, hc2, hg2⟩
  have hs2 : w1.heap.size + 1 ≤ w2.heap.size := by have := hg2.size; rw [size_alloc] at this; exact this
  have C2 := Lib.hid hc2
  have Z2 := Lib.hid ((Z1.out.alloc _).grown hg2 (by simpa using (by omega : w.heap.size ≠ bc)))
  have G2 := Lib.hid (grown_trans (grow_alloc G1.out _) hg2)
  have D2 := Lib.hid (D.out.grown G2.out)
  clear hc2 hg2
  go_wp2_with fail
  refine (among_any bc a len cap _ w2.heap.size 0 6 6 25 500 _ (C2.out.alloc _) (D2.out.alloc _) (by omega) (by omega) (by omega) (by omega) (by simp) ?_).mono ?_
  · refine ints_at _ _ _ 25 500 6 _ rfl rfl ?_
    repeat (refine List.forall_mem_cons.2 ⟨⟨_, by omega, by omega, rfl⟩, ?_⟩)
    exact fun _ h => by cases h
  rintro e w3 ⟨x3, rfl, _, _, hc3, hg3⟩
  have hs3 : w2.heap.size + 1 ≤ w3.heap.size := by have := hg3.size; rw [size_alloc] at this; exact this
  have C3 := Lib.hid hc3
  have Z3 := Lib.hid ((Z2.out.alloc _).grown hg3 (by simpa using (by omega : w.heap.size ≠ bc)))
  have G3 := Lib.hid (grown_trans (grow_alloc G2.out _) hg3)
  have D3 := Lib.hid (D.out.grown G3.out)
  clear hc3 hg3
  go_wp2_with fail
  refine (among_any bc a len cap _ w3.heap.size 0 6 6 1500 2100 _ (C3.out.alloc _) (D3.out.alloc _) (by omega) (by omega) (by omega) (by omega) (by simp) ?_).mono ?_
  · refine ints_at _ _ _ 1500 2100 6 _ rfl rfl ?_
    repeat (refine List.forall_mem_cons.2 ⟨⟨_, by omega, by omega, rfl⟩, ?_⟩)
    exact fun _ h => by cases h
  rintro e w4 ⟨x4, rfl, _, _, hc4, hg4⟩
  have hs4 : w3.heap.size + 1 ≤ w4.heap.size := by have := hg4.size; rw [size_alloc] at this; exact this
  have C4 := Lib.hid hc4
  have Z4 := Lib.hid ((Z3.out.alloc _).grown hg4 (by simpa using (by omega : w.heap.size ≠ bc)))
  have G4 := Lib.hid (grown_trans (grow_alloc G3.out _) hg4)
  have D4 := Lib.hid (D.out.grown G4.out)
  clear hc4 hg4
  have X4 := Lib.hid (HB.new w4 ⟨id, x1, x2, x3, x4⟩)
  go_wp2_with fail
  refine (pick_any bc a len cap _ 64 _ (C4.out.alloc _) (D4.out.alloc _) (by omega) (by omega) (by omega)).mono ?_
  rintro e w5 ⟨p, rfl, pp0, _, hc5, hg5⟩
  have hs5 : w4.heap.size + 1 ≤ w5.heap.size := by have := hg5.size; rw [size_alloc] at this; exact this
  have C5 := Lib.hid hc5
  have Z5 := Lib.hid ((Z4.out.alloc _).grown hg5 (by simpa using (by omega : w.heap.size ≠ bc)))
  have X5 := Lib.hid (X4.out.grown hg5 (by simpa using (by omega : w4.heap.size ≠ bc)))
  have G5 := Lib.hid (grown_trans (grow_alloc G4.out _) hg5)
  have D5 := Lib.hid (D.out.grown G5.out)
  obtain ⟨n5, hn5⟩ : ∃ n, w4.heap.size = n := ⟨_, rfl⟩
  have l5 : w.heap.size < n5 := by omega
  have l6 : n5 < w5.heap.size := by omega
  have l7 : ¬ n5 = w.heap.size := by omega
  have l8 : ¬ w.heap.size = n5 := by omega
  rw [hn5] at X5 ⊢
  clear hc5 hg5 hn5 hs1 hs2 hs3 hs4 hs5
  rcases (show p = 0 ∨ p = 1 ∨ p = 2 ∨ p = 3 ∨ (¬ p = 0 ∧ ¬ p = 1 ∧ ¬ p = 2 ∧ ¬ p = 3) by omega) with e | e | e | e | ⟨e0, e1, e2, e3⟩
  · subst e
    go_wp2_with fail
    refine (among_any bc a len cap _ w5.heap.size 0 2 2 (-1) 100 _ (C5.out.alloc _) (D5.out.alloc _) (by omega) (by omega) (by omega) (by omega) (by simp) ?_).mono ?_
    · refine ints_at w5 _ _ (-1) 100 2 _ rfl rfl ?_
      repeat (refine List.forall_mem_cons.2 ⟨⟨_, by omega, by omega, rfl⟩, ?_⟩)
      exact fun _ h => by cases h
    rintro e w6 ⟨y, rfl, y0, y1, hc6, hg6⟩
    have Z6 := (Z5.out.alloc _).grown hg6 (by simpa using (by omega : w.heap.size ≠ bc))
    have X6 := (X5.out.alloc _).grown hg6 (by simpa using (by omega : n5 ≠ bc))
    have G6 := Lib.hid (grown_trans (grow_alloc G5.out _) hg6)
    have C6 := Lib.hid hc6
    obtain ⟨z0, z1, z2, z3, z4⟩ := Z6.cells
    obtain ⟨p0, p1, p2, p3, p4⟩ := X6.cells
    have f0 := Z6.free 0
    have f1 := Z6.free 1
    have f2 := Z6.free 2
    have f3 := Z6.free 3
    have f4 := Z6.free 4
    have g1 := X6.free 1
    simp only at z0 z1 z2 z3 z4 p0 p1 p2 p3 p4
    clear Z6 X6 hg6 hc6
    go_wp2
    refine bodyPost_ret (v := .agg #[.int .i64 id, .int .i64 y, .int .i64 x2, .int .i64 x3, .int .i64 x4]) (by simp [results, Try.results85, go_sem, *]) rfl ⟨⟨id, y, x2, x3, x4⟩, rfl, (C6.out.heap ((block_set5 _ (by omega) _ _ _ _ _).trans (heap_setCell_other _ ⟨n5, 1, none⟩ bc _ (show bc ≠ n5 by omega)))).more (by omega), grow_set5 (grow_set (p := ⟨n5, 1, none⟩) G6.out (show w.heap.size ≤ n5 by omega) _) (Nat.le_refl _) _ _ _ _ _⟩
  · subst e
    go_wp2_with fail
    refine (among_any bc a len cap _ w5.heap.size 0 2 2 (-1) 100 _ (C5.out.alloc _) (D5.out.alloc _) (by omega) (by omega) (by omega) (by omega) (by simp) ?_).mono ?_
    · refine ints_at w5 _ _ (-1) 100 2 _ rfl rfl ?_
      repeat (refine List.forall_mem_cons.2 ⟨⟨_, by omega, by omega, rfl⟩, ?_⟩)
      exact fun _ h => by cases h
    rintro e w6 ⟨y, rfl, y0, y1, hc6, hg6⟩
    have Z6 := (Z5.out.alloc _).grown hg6 (by simpa using (by omega : w.heap.size ≠ bc))
    have X6 := (X5.out.alloc _).grown hg6 (by simpa using (by omega : n5 ≠ bc))
    have G6 := Lib.hid (grown_trans (grow_alloc G5.out _) hg6)
    have C6 := Lib.hid hc6
    obtain ⟨z0, z1, z2, z3, z4⟩ := Z6.cells
    obtain ⟨p0, p1, p2, p3, p4⟩ := X6.cells
    have f0 := Z6.free 0
    have f1 := Z6.free 1
    have f2 := Z6.free 2
    have f3 := Z6.free 3
    have f4 := Z6.free 4
    have g1 := X6.free 2
    simp only at z0 z1 z2 z3 z4 p0 p1 p2 p3 p4
    clear Z6 X6 hg6 hc6
    go_wp2
    refine bodyPost_ret (v := .agg #[.int .i64 id, .int .i64 x1, .int .i64 y, .int .i64 x3, .int .i64 x4]) (by simp [results, Try.results85, go_sem, *]) rfl ⟨⟨id, x1, y, x3, x4⟩, rfl, (C6.out.heap ((block_set5 _ (by omega) _ _ _ _ _).trans (heap_setCell_other _ ⟨n5, 2, none⟩ bc _ (show bc ≠ n5 by omega)))).more (by omega), grow_set5 (grow_set (p := ⟨n5, 2, none⟩) G6.out (show w.heap.size ≤ n5 by omega) _) (Nat.le_refl _) _ _ _ _ _⟩
  · subst e
    go_wp2_with fail
    refine (among_any bc a len cap _ w5.heap.size 0 3 3 (9) 501 _ (C5.out.alloc _) (D5.out.alloc _) (by omega) (by omega) (by omega) (by omega) (by simp) ?_).mono ?_
    · refine ints_at w5 _ _ (9) 501 3 _ rfl rfl ?_
      repeat (refine List.forall_mem_cons.2 ⟨⟨_, by omega, by omega, rfl⟩, ?_⟩)
      exact fun _ h => by cases h
    rintro e w6 ⟨y, rfl, y0, y1, hc6, hg6⟩
    have Z6 := (Z5.out.alloc _).grown hg6 (by simpa using (by omega : w.heap.size ≠ bc))
    have X6 := (X5.out.alloc _).grown hg6 (by simpa using (by omega : n5 ≠ bc))
    have G6 := Lib.hid (grown_trans (grow_alloc G5.out _) hg6)
    have C6 := Lib.hid hc6
    obtain ⟨z0, z1, z2, z3, z4⟩ := Z6.cells
    obtain ⟨p0, p1, p2, p3, p4⟩ := X6.cells
    have f0 := Z6.free 0
    have f1 := Z6.free 1
    have f2 := Z6.free 2
    have f3 := Z6.free 3
    have f4 := Z6.free 4
    have g1 := X6.free 3
    simp only at z0 z1 z2 z3 z4 p0 p1 p2 p3 p4
    clear Z6 X6 hg6 hc6
    go_wp2
    refine bodyPost_ret (v := .agg #[.int .i64 id, .int .i64 x1, .int .i64 x2, .int .i64 y, .int .i64 x4]) (by simp [results, Try.results85, go_sem, *]) rfl ⟨⟨id, x1, x2, y, x4⟩, rfl, (C6.out.heap ((block_set5 _ (by omega) _ _ _ _ _).trans (heap_setCell_other _ ⟨n5, 3, none⟩ bc _ (show bc ≠ n5 by omega)))).more (by omega), grow_set5 (grow_set (p := ⟨n5, 3, none⟩) G6.out (show w.heap.size ≤ n5 by omega) _) (Nat.le_refl _) _ _ _ _ _⟩
  · subst e
    go_wp2_with fail
    refine (among_any bc a len cap _ w5.heap.size 0 2 2 (1499) 2101 _ (C5.out.alloc _) (D5.out.alloc _) (by omega) (by omega) (by omega) (by omega) (by simp) ?_).mono ?_
    · refine ints_at w5 _ _ (1499) 2101 2 _ rfl rfl ?_
      repeat (refine List.forall_mem_cons.2 ⟨⟨_, by omega, by omega, rfl⟩, ?_⟩)
      exact fun _ h => by cases h
    rintro e w6 ⟨y, rfl, y0, y1, hc6, hg6⟩
    have Z6 := (Z5.out.alloc _).grown hg6 (by simpa using (by omega : w.heap.size ≠ bc))
    have X6 := (X5.out.alloc _).grown hg6 (by simpa using (by omega : n5 ≠ bc))
    have G6 := Lib.hid (grown_trans (grow_alloc G5.out _) hg6)
    have C6 := Lib.hid hc6
    obtain ⟨z0, z1, z2, z3, z4⟩ := Z6.cells
    obtain ⟨p0, p1, p2, p3, p4⟩ := X6.cells
    have f0 := Z6.free 0
    have f1 := Z6.free 1
    have f2 := Z6.free 2
    have f3 := Z6.free 3
    have f4 := Z6.free 4
    have g1 := X6.free 4
    simp only at z0 z1 z2 z3 z4 p0 p1 p2 p3 p4
    clear Z6 X6 hg6 hc6
    go_wp2
    refine bodyPost_ret (v := .agg #[.int .i64 id, .int .i64 x1, .int .i64 x2, .int .i64 x3, .int .i64 y]) (by simp [results, Try.results85, go_sem, *]) rfl ⟨⟨id, x1, x2, x3, y⟩, rfl, (C6.out.heap ((block_set5 _ (by omega) _ _ _ _ _).trans (heap_setCell_other _ ⟨n5, 4, none⟩ bc _ (show bc ≠ n5 by omega)))).more (by omega), grow_set5 (grow_set (p := ⟨n5, 4, none⟩) G6.out (show w.heap.size ≤ n5 by omega) _) (Nat.le_refl _) _ _ _ _ _⟩
  · obtain ⟨z0, z1, z2, z3, z4⟩ := Z5.out.cells
    obtain ⟨p0, p1, p2, p3, p4⟩ := X5.out.cells
    have f0 := Z5.out.free 0
    have f1 := Z5.out.free 1
    have f2 := Z5.out.free 2
    have f3 := Z5.out.free 3
    have f4 := Z5.out.free 4
    have b0 : (p == 0) = false := by simpa using e0
    have b1 : (p == 1) = false := by simpa using e1
    have b2 : (p == 2) = false := by simpa using e2
    have b3 : (p == 3) = false := by simpa using e3
    simp only at z0 z1 z2 z3 z4 p0 p1 p2 p3 p4
    go_wp2
    refine bodyPost_ret (v := .agg #[.int .i64 id, .int .i64 x1, .int .i64 x2, .int .i64 x3, .int .i64 x4]) (by simp [results, Try.results85, go_sem, *]) rfl ⟨⟨id, x1, x2, x3, x4⟩, rfl, (C5.out.heap (block_set5 _ (by omega) _ _ _ _ _)).more (by omega), grow_set5 G5.out (Nat.le_refl _) _ _ _ _ _⟩
end Go.Proofs.Ytidaoijpbdljbaa
