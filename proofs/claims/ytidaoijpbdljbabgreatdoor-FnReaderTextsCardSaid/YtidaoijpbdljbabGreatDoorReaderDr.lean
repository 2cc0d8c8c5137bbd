/- The laws' draw of a Reader: some Reader; nothing but the cursor's own block turns. (made by gendraw.py) -/
import Derived.Test.YtidaoijpbdljbabGreatDoorM10
import Derived.Test.YtidaoijpbdljbabGreatDoorM1
namespace Go.Proofs.YtidaoijpbdljbabGreatDoor
open Go.RowKit
theorem grow_alReader {w w' : World} {row : Option Nat} (h : w.grownBy w' row) {b : Nat} (hb : w.heap.size ≤ b) (x0 x1 x2 x3 x4 : Value) : w.grownBy (((((w'.setCell ⟨b, 0, none⟩ x0).setCell ⟨b, 1, none⟩ x1).setCell ⟨b, 2, none⟩ x2).setCell ⟨b, 3, none⟩ x3).setCell ⟨b, 4, none⟩ x4) row :=
  (grow_st (p := ⟨b, 4, none⟩) (grow_st (p := ⟨b, 3, none⟩) (grow_st (p := ⟨b, 2, none⟩) (grow_st (p := ⟨b, 1, none⟩) (grow_st (p := ⟨b, 0, none⟩) h hb x0) hb x1) hb x2) hb x3) hb x4)
theorem block_alReader (w : World) {b k : Nat} (hne : k ≠ b) (x0 x1 x2 x3 x4 : Value) : (((((w.setCell ⟨b, 0, none⟩ x0).setCell ⟨b, 1, none⟩ x1).setCell ⟨b, 2, none⟩ x2).setCell ⟨b, 3, none⟩ x3).setCell ⟨b, 4, none⟩ x4).heap[k]? = w.heap[k]? :=
  ((heap_setCell_other _ ⟨b, 4, none⟩ k _ hne).trans ((heap_setCell_other _ ⟨b, 3, none⟩ k _ hne).trans ((heap_setCell_other _ ⟨b, 2, none⟩ k _ hne).trans ((heap_setCell_other _ ⟨b, 1, none⟩ k _ hne).trans (heap_setCell_other _ ⟨b, 0, none⟩ k _ hne)))))
def ReaderDraw (bc : Nat) (a : Option Addr) (len cap t : Nat) (w : World) (e : Ending) (w' : World) : Prop := ∃ s : VReader, e = .returned (.agg #[.int .i64 s.Id, .string s.Name, .int .i64 s.Joined, .int .i64 s.Class, .int .i64 s.Fines]) ∧ s.sized ∧ CurAt w' bc a len cap t ∧ w.grownBy w' (some bc)
set_option maxHeartbeats 6400000 in
set_option maxRecDepth 100000 in
theorem reader_any (bc : Nat) (a : Option Addr) (len cap t : Nat) (id : Int) (w : World) (hc : CurAt w bc a len cap t) (hd : CodeAt w a len cap bc) (ht : t ≤ 800000) :
    Calls Tryz.prog 57 #[.pointer (some ⟨bc, 0, none⟩), .int .i64 id] w (ReaderDraw bc a len cap (t + 16) w) := by
  have hlt := hc.lt
  have C := Lib.hid hc
  have D := Lib.hid hd
  have Z := Lib.hid (HBReader.new w ⟨0, ByteArray.empty, 0, 0, 0⟩ _ rfl)
  have G := Lib.hid (grow_al (World.grownBy.refl w (some bc)) (.cells #[.int .i64 0, .string ByteArray.empty, .int .i64 0, .int .i64 0, .int .i64 0] 25))
  clear hc hd
  go_enter Tryz.func57, Tryz.ntmps57
  go_wp2_with fail
  refine (of_any bc a len cap _ 4 (w.heap.size + 1) 0 4 4 _ ((C.out.alloc _).alloc _) ((D.out.alloc _).alloc _) (by omega) (by omega) (by omega) (by omega) (by simp) ?_).mono ?_
  · refine strs_at _ _ _ 4 4 _ (size_al _ _) rfl ?_
    repeat (refine List.forall_mem_cons.2 ⟨⟨_, by decide, rfl⟩, ?_⟩)
    exact fun _ h => by cases h
  rintro e w1 ⟨x1, rfl, hzx1, hc, hg⟩
  have hs1 : w.heap.size + 2 ≤ w1.heap.size := by have := hg.size; rw [size_al, size_al] at this; exact this
  have C1 := Lib.hid hc
  have G1 := Lib.hid (grown_trans (grow_al G.out _) hg)
  have Z1 := Lib.hid ((Z.out.alloc _).grown hg (by simp only [ne_eq, Option.some.injEq]; omega))
  have D1 := Lib.hid (D.out.grown G1.out)
  clear hc hg
  go_wp2_with fail
  refine (among_any bc a len cap _ w1.heap.size 0 4 4 (0) 4000 _ (C1.out.alloc _) (D1.out.alloc _) (by omega) (by omega) (by omega) (by omega) (by simp) ?_).mono ?_
  · refine ints_at _ _ _ (0) 4000 4 _ rfl rfl ?_
    repeat (refine List.forall_mem_cons.2 ⟨⟨_, by omega, by omega, rfl⟩, ?_⟩)
    exact fun _ h => by cases h
  rintro e w2 ⟨x2, rfl, _, _, hc, hg⟩
  have hs2 : w1.heap.size + 1 ≤ w2.heap.size := by have := hg.size; rw [size_al] at this; exact this
  have C2 := Lib.hid hc
  have G2 := Lib.hid (grown_trans (grow_al G1.out _) hg)
  have Z2 := Lib.hid ((Z1.out.alloc _).grown hg (by simp only [ne_eq, Option.some.injEq]; omega))
  have D2 := Lib.hid (D.out.grown G2.out)
  clear hc hg
  go_wp2_with fail
  refine (pick_any bc a len cap _ 3 _ C2.out D2.out (by omega) (by omega) (by omega)).mono ?_
  rintro e w3 ⟨x3, rfl, h0x3, h1x3, hc, hg⟩
  have h1x3 : x3 < 3 := h1x3
  have hwx3 : IntKind.i64.wrap (1 + x3) = 1 + x3 := IntWalk.i64_in _ (by omega)
  have hs3 : w2.heap.size ≤ w3.heap.size := by have := hg.size; exact this
  have C3 := Lib.hid hc
  have G3 := Lib.hid (grown_trans G2.out hg)
  have Z3 := Lib.hid ((Z2.out).grown hg (by simp only [ne_eq, Option.some.injEq]; omega))
  have D3 := Lib.hid (D.out.grown G3.out)
  clear hc hg
  go_wp2_with fail
  refine (among_any bc a len cap _ w3.heap.size 0 6 6 (0) 10000 _ (C3.out.alloc _) (D3.out.alloc _) (by omega) (by omega) (by omega) (by omega) (by simp) ?_).mono ?_
  · refine ints_at _ _ _ (0) 10000 6 _ rfl rfl ?_
    repeat (refine List.forall_mem_cons.2 ⟨⟨_, by omega, by omega, rfl⟩, ?_⟩)
    exact fun _ h => by cases h
  rintro e w4 ⟨x4, rfl, _, _, hc, hg⟩
  have hs4 : w3.heap.size + 1 ≤ w4.heap.size := by have := hg.size; rw [size_al] at this; exact this
  have C4 := Lib.hid hc
  have G4 := Lib.hid (grown_trans (grow_al G3.out _) hg)
  have Z4 := Lib.hid ((Z3.out.alloc _).grown hg (by simp only [ne_eq, Option.some.injEq]; omega))
  have D4 := Lib.hid (D.out.grown G4.out)
  clear hc hg
  have X4 := Lib.hid (HBReader.new w4 ⟨id, x1, x2, 1 + x3, x4⟩ _ rfl)
  go_wp2_with fail
  refine (pick_any bc a len cap _ 80 _ (C4.out.alloc _) (D4.out.alloc _) (by omega) (by omega) (by omega)).mono ?_
  rintro e w5 ⟨p, rfl, pp0, _, hc, hg⟩
  have hs5 : w4.heap.size + 1 ≤ w5.heap.size := by have := hg.size; rw [size_al] at this; exact this
  have C5 := Lib.hid hc
  have Z5 := Lib.hid ((Z4.out.alloc _).grown hg (by simp only [ne_eq, Option.some.injEq]; omega))
  have X5 := Lib.hid (X4.out.grown hg (by simp only [ne_eq, Option.some.injEq]; omega))
  have G5 := Lib.hid (grown_trans (grow_al G4.out _) hg)
  have D5 := Lib.hid (D.out.grown G5.out)
  obtain ⟨n5, hn5⟩ : ∃ n, w4.heap.size = n := ⟨_, rfl⟩
  have l5 : w.heap.size < n5 := by omega
  have l6 : n5 < w5.heap.size := by omega
  have l7 : ¬ n5 = w.heap.size := by omega
  have l8 : ¬ w.heap.size = n5 := by omega
  rw [hn5] at X5 ⊢
  clear hc hg hn5 hs1 hs2 hs3 hs4 hs5
  rcases (show p = 0 ∨ p = 1 ∨ p = 2 ∨ p = 3 ∨ p = 4 ∨ (¬ p = 0 ∧ ¬ p = 1 ∧ ¬ p = 2 ∧ ¬ p = 3 ∧ ¬ p = 4) by omega) with e | e | e | e | e | ⟨e0, e1, e2, e3, e4⟩
  · subst e
    go_wp2_with fail
    refine (among_any bc a len cap _ w5.heap.size 0 3 3 (0) 1000 _ (C5.out.alloc _) (D5.out.alloc _) (by omega) (by omega) (by omega) (by omega) (by simp) ?_).mono ?_
    · refine ints_at _ _ _ (0) 1000 3 _ rfl rfl ?_
      repeat (refine List.forall_mem_cons.2 ⟨⟨_, by omega, by omega, rfl⟩, ?_⟩)
      exact fun _ h => by cases h
    rintro e w6 ⟨y, rfl, _, _, hc, hg⟩
    have hs6 : w5.heap.size + 1 ≤ w6.heap.size := by have := hg.size; rw [size_al] at this; exact this
    have C6 := Lib.hid hc
    have G6 := Lib.hid (grown_trans (grow_al G5.out _) hg)
    have Z6 := Lib.hid ((Z5.out.alloc _).grown hg (by simp only [ne_eq, Option.some.injEq]; omega))
    have X6 := Lib.hid ((X5.out.alloc _).grown hg (by simp only [ne_eq, Option.some.injEq]; omega))
    have D6 := Lib.hid (D.out.grown G6.out)
    clear hc hg
    obtain ⟨q0, q1, q2, q3, q4⟩ := Z6.out.cells
    obtain ⟨p0, p1, p2, p3, p4⟩ := X6.out.cells
    have f0 := Z6.out.free 0
    have f1 := Z6.out.free 1
    have f2 := Z6.out.free 2
    have f3 := Z6.out.free 3
    have f4 := Z6.out.free 4
    have g1 := X6.out.free 0
    simp only at q0 q1 q2 q3 q4 p0 p1 p2 p3 p4
    go_wp2
    exact bodyPost_ret (v := .agg #[.int .i64 y, .string x1, .int .i64 x2, .int .i64 (1 + x3), .int .i64 x4]) (by simp [results, Tryz.results57, go_sem, *]) rfl ⟨⟨y, x1, x2, 1 + x3, x4⟩, rfl, (Nat.le_trans hzx1 (by omega)), (C6.out.heap ((block_alReader _ (by omega) _ _ _ _ _ ).trans (heap_setCell_other _ ⟨n5, 0, none⟩ bc _ (show bc ≠ n5 by omega)))).more (by omega), grow_alReader (grow_st (p := ⟨n5, 0, none⟩) G6.out (show w.heap.size ≤ n5 by omega) _) (Nat.le_refl _) _ _ _ _ _ ⟩
  · subst e
    go_wp2_with fail
    refine (of_any bc a len cap _ 11 w5.heap.size 0 3 3 _ (C5.out.alloc _) (D5.out.alloc _) (by omega) (by omega) (by omega) (by omega) (by simp) ?_).mono ?_
    · refine strs_at _ _ _ 11 3 _ rfl rfl ?_
      repeat (refine List.forall_mem_cons.2 ⟨⟨_, by decide, rfl⟩, ?_⟩)
      exact fun _ h => by cases h
    rintro e w6 ⟨y, rfl, hzy, hc, hg⟩
    have hs6 : w5.heap.size + 1 ≤ w6.heap.size := by have := hg.size; rw [size_al] at this; exact this
    have C6 := Lib.hid hc
    have G6 := Lib.hid (grown_trans (grow_al G5.out _) hg)
    have Z6 := Lib.hid ((Z5.out.alloc _).grown hg (by simp only [ne_eq, Option.some.injEq]; omega))
    have X6 := Lib.hid ((X5.out.alloc _).grown hg (by simp only [ne_eq, Option.some.injEq]; omega))
    have D6 := Lib.hid (D.out.grown G6.out)
    clear hc hg
    obtain ⟨q0, q1, q2, q3, q4⟩ := Z6.out.cells
    obtain ⟨p0, p1, p2, p3, p4⟩ := X6.out.cells
    have f0 := Z6.out.free 0
    have f1 := Z6.out.free 1
    have f2 := Z6.out.free 2
    have f3 := Z6.out.free 3
    have f4 := Z6.out.free 4
    have g1 := X6.out.free 1
    simp only at q0 q1 q2 q3 q4 p0 p1 p2 p3 p4
    go_wp2
    exact bodyPost_ret (v := .agg #[.int .i64 id, .string y, .int .i64 x2, .int .i64 (1 + x3), .int .i64 x4]) (by simp [results, Tryz.results57, go_sem, *]) rfl ⟨⟨id, y, x2, 1 + x3, x4⟩, rfl, (Nat.le_trans hzy (by omega)), (C6.out.heap ((block_alReader _ (by omega) _ _ _ _ _ ).trans (heap_setCell_other _ ⟨n5, 1, none⟩ bc _ (show bc ≠ n5 by omega)))).more (by omega), grow_alReader (grow_st (p := ⟨n5, 1, none⟩) G6.out (show w.heap.size ≤ n5 by omega) _) (Nat.le_refl _) _ _ _ _ _ ⟩
  · subst e
    go_wp2_with fail
    refine (among_any bc a len cap _ w5.heap.size 0 2 2 (-1) 4001 _ (C5.out.alloc _) (D5.out.alloc _) (by omega) (by omega) (by omega) (by omega) (by simp) ?_).mono ?_
    · refine ints_at _ _ _ (-1) 4001 2 _ rfl rfl ?_
      repeat (refine List.forall_mem_cons.2 ⟨⟨_, by omega, by omega, rfl⟩, ?_⟩)
      exact fun _ h => by cases h
    rintro e w6 ⟨y, rfl, _, _, hc, hg⟩
    have hs6 : w5.heap.size + 1 ≤ w6.heap.size := by have := hg.size; rw [size_al] at this; exact this
    have C6 := Lib.hid hc
    have G6 := Lib.hid (grown_trans (grow_al G5.out _) hg)
    have Z6 := Lib.hid ((Z5.out.alloc _).grown hg (by simp only [ne_eq, Option.some.injEq]; omega))
    have X6 := Lib.hid ((X5.out.alloc _).grown hg (by simp only [ne_eq, Option.some.injEq]; omega))
    have D6 := Lib.hid (D.out.grown G6.out)
    clear hc hg
    obtain ⟨q0, q1, q2, q3, q4⟩ := Z6.out.cells
    obtain ⟨p0, p1, p2, p3, p4⟩ := X6.out.cells
    have f0 := Z6.out.free 0
    have f1 := Z6.out.free 1
    have f2 := Z6.out.free 2
    have f3 := Z6.out.free 3
    have f4 := Z6.out.free 4
    have g1 := X6.out.free 2
    simp only at q0 q1 q2 q3 q4 p0 p1 p2 p3 p4
    go_wp2
    exact bodyPost_ret (v := .agg #[.int .i64 id, .string x1, .int .i64 y, .int .i64 (1 + x3), .int .i64 x4]) (by simp [results, Tryz.results57, go_sem, *]) rfl ⟨⟨id, x1, y, 1 + x3, x4⟩, rfl, (Nat.le_trans hzx1 (by omega)), (C6.out.heap ((block_alReader _ (by omega) _ _ _ _ _ ).trans (heap_setCell_other _ ⟨n5, 2, none⟩ bc _ (show bc ≠ n5 by omega)))).more (by omega), grow_alReader (grow_st (p := ⟨n5, 2, none⟩) G6.out (show w.heap.size ≤ n5 by omega) _) (Nat.le_refl _) _ _ _ _ _ ⟩
  · subst e
    go_wp2_with fail
    refine (among_any bc a len cap _ w5.heap.size 0 2 2 (0) 4 _ (C5.out.alloc _) (D5.out.alloc _) (by omega) (by omega) (by omega) (by omega) (by simp) ?_).mono ?_
    · refine ints_at _ _ _ (0) 4 2 _ rfl rfl ?_
      repeat (refine List.forall_mem_cons.2 ⟨⟨_, by omega, by omega, rfl⟩, ?_⟩)
      exact fun _ h => by cases h
    rintro e w6 ⟨y, rfl, _, _, hc, hg⟩
    have hs6 : w5.heap.size + 1 ≤ w6.heap.size := by have := hg.size; rw [size_al] at this; exact this
    have C6 := Lib.hid hc
    have G6 := Lib.hid (grown_trans (grow_al G5.out _) hg)
    have Z6 := Lib.hid ((Z5.out.alloc _).grown hg (by simp only [ne_eq, Option.some.injEq]; omega))
    have X6 := Lib.hid ((X5.out.alloc _).grown hg (by simp only [ne_eq, Option.some.injEq]; omega))
    have D6 := Lib.hid (D.out.grown G6.out)
    clear hc hg
    obtain ⟨q0, q1, q2, q3, q4⟩ := Z6.out.cells
    obtain ⟨p0, p1, p2, p3, p4⟩ := X6.out.cells
    have f0 := Z6.out.free 0
    have f1 := Z6.out.free 1
    have f2 := Z6.out.free 2
    have f3 := Z6.out.free 3
    have f4 := Z6.out.free 4
    have g1 := X6.out.free 3
    simp only at q0 q1 q2 q3 q4 p0 p1 p2 p3 p4
    go_wp2
    exact bodyPost_ret (v := .agg #[.int .i64 id, .string x1, .int .i64 x2, .int .i64 y, .int .i64 x4]) (by simp [results, Tryz.results57, go_sem, *]) rfl ⟨⟨id, x1, x2, y, x4⟩, rfl, (Nat.le_trans hzx1 (by omega)), (C6.out.heap ((block_alReader _ (by omega) _ _ _ _ _ ).trans (heap_setCell_other _ ⟨n5, 3, none⟩ bc _ (show bc ≠ n5 by omega)))).more (by omega), grow_alReader (grow_st (p := ⟨n5, 3, none⟩) G6.out (show w.heap.size ≤ n5 by omega) _) (Nat.le_refl _) _ _ _ _ _ ⟩
  · subst e
    go_wp2_with fail
    refine (among_any bc a len cap _ w5.heap.size 0 2 2 (-1) 10001 _ (C5.out.alloc _) (D5.out.alloc _) (by omega) (by omega) (by omega) (by omega) (by simp) ?_).mono ?_
    · refine ints_at _ _ _ (-1) 10001 2 _ rfl rfl ?_
      repeat (refine List.forall_mem_cons.2 ⟨⟨_, by omega, by omega, rfl⟩, ?_⟩)
      exact fun _ h => by cases h
    rintro e w6 ⟨y, rfl, _, _, hc, hg⟩
    have hs6 : w5.heap.size + 1 ≤ w6.heap.size := by have := hg.size; rw [size_al] at this; exact this
    have C6 := Lib.hid hc
    have G6 := Lib.hid (grown_trans (grow_al G5.out _) hg)
    have Z6 := Lib.hid ((Z5.out.alloc _).grown hg (by simp only [ne_eq, Option.some.injEq]; omega))
    have X6 := Lib.hid ((X5.out.alloc _).grown hg (by simp only [ne_eq, Option.some.injEq]; omega))
    have D6 := Lib.hid (D.out.grown G6.out)
    clear hc hg
    obtain ⟨q0, q1, q2, q3, q4⟩ := Z6.out.cells
    obtain ⟨p0, p1, p2, p3, p4⟩ := X6.out.cells
    have f0 := Z6.out.free 0
    have f1 := Z6.out.free 1
    have f2 := Z6.out.free 2
    have f3 := Z6.out.free 3
    have f4 := Z6.out.free 4
    have g1 := X6.out.free 4
    simp only at q0 q1 q2 q3 q4 p0 p1 p2 p3 p4
    go_wp2
    exact bodyPost_ret (v := .agg #[.int .i64 id, .string x1, .int .i64 x2, .int .i64 (1 + x3), .int .i64 y]) (by simp [results, Tryz.results57, go_sem, *]) rfl ⟨⟨id, x1, x2, 1 + x3, y⟩, rfl, (Nat.le_trans hzx1 (by omega)), (C6.out.heap ((block_alReader _ (by omega) _ _ _ _ _ ).trans (heap_setCell_other _ ⟨n5, 4, none⟩ bc _ (show bc ≠ n5 by omega)))).more (by omega), grow_alReader (grow_st (p := ⟨n5, 4, none⟩) G6.out (show w.heap.size ≤ n5 by omega) _) (Nat.le_refl _) _ _ _ _ _ ⟩
  · have b0 : (p == 0) = false := by simpa using e0
    have b1 : (p == 1) = false := by simpa using e1
    have b2 : (p == 2) = false := by simpa using e2
    have b3 : (p == 3) = false := by simpa using e3
    have b4 : (p == 4) = false := by simpa using e4
    obtain ⟨q0, q1, q2, q3, q4⟩ := Z5.out.cells
    obtain ⟨p0, p1, p2, p3, p4⟩ := X5.out.cells
    have f0 := Z5.out.free 0
    have f1 := Z5.out.free 1
    have f2 := Z5.out.free 2
    have f3 := Z5.out.free 3
    have f4 := Z5.out.free 4
    simp only at q0 q1 q2 q3 q4 p0 p1 p2 p3 p4
    go_wp2
    exact bodyPost_ret (v := .agg #[.int .i64 id, .string x1, .int .i64 x2, .int .i64 (1 + x3), .int .i64 x4]) (by simp [results, Tryz.results57, go_sem, *]) rfl ⟨⟨id, x1, x2, 1 + x3, x4⟩, rfl, (Nat.le_trans hzx1 (by omega)), (C5.out.heap (block_alReader _ (by omega) _ _ _ _ _ )).more (by omega), grow_alReader G5.out (Nat.le_refl _) _ _ _ _ _ ⟩
end Go.Proofs.YtidaoijpbdljbabGreatDoor
