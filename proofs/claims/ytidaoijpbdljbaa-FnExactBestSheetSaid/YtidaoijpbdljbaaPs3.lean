/- The best one of some sheets: mathematics, and slices.MinFunc over the program's comparison. -/
import Derived.Test.YtidaoijpbdljbaaPs2
import Derived.Test.YtidaoijpbdljbaaOrd
import Derived.Test.YtidaoijpbdljbaaPi2
namespace Go.Proofs.Ytidaoijpbdljbaa
open Go.RowKit

/-! The first one that none is better than. -/
def sh0 : Sh := ⟨0, 0, 0, 0, 0⟩
def pickL (b : Sh → Sh → Bool) : List Sh → Sh
  | [] => sh0
  | s :: l => l.foldl (fun m x => if b x m then x else m) s
theorem pickL_snoc (b : Sh → Sh → Bool) {ys : List Sh} (h : ys ≠ []) (x : Sh) : pickL b (ys ++ [x]) = if b x (pickL b ys) then x else pickL b ys := by
  cases ys with
  | nil => exact absurd rfl h
  | cons s l => show List.foldl _ s (l ++ [x]) = _; rw [List.foldl_append]; rfl
theorem pickL_one (b : Sh → Sh → Bool) (x : Sh) : pickL b [x] = x := rfl
theorem take_ne {ys : List Sh} {k : Nat} (h0 : 0 < k) (h : k ≤ ys.length) : ys.take k ≠ [] := fun e => by
  have := congrArg List.length e
  rw [List.length_take, List.length_nil] at this
  omega
theorem take_sh {ys : List Sh} {k : Nat} {x : Sh} (h : ys[k]? = some x) : ys.take (k + 1) = ys.take k ++ [x] := by rw [List.take_add_one, h]; rfl
theorem pickL_take (b : Sh → Sh → Bool) {ys : List Sh} {k : Nat} {x : Sh} (h0 : 0 < k) (h : ys[k]? = some x) : pickL b (ys.take (k + 1)) = if b x (pickL b (ys.take k)) then x else pickL b (ys.take k) := by
  have hk : k < ys.length := (List.getElem?_eq_some_iff.1 h).1
  rw [take_sh h, pickL_snoc b (take_ne h0 (by omega))]
theorem pickL_mem (b : Sh → Sh → Bool) {ys : List Sh} : ∀ k, 0 < k → k ≤ ys.length → pickL b (ys.take k) ∈ ys.take k := by
  intro k
  induction k with
  | zero => intro h; omega
  | succ k ih =>
    intro _ hk
    have hx : ys[k]? = some (ys[k]'(by omega)) := List.getElem?_eq_getElem _
    by_cases h0 : k = 0
    · subst h0
      rw [take_sh hx]
      simp [pickL]
    · rw [pickL_take b (by omega) hx, take_sh hx]
      split
      · exact List.mem_append_right _ (List.mem_singleton.2 rfl)
      · exact List.mem_append_left _ (ih (by omega) (by omega))
theorem pickL_same {b b' : Sh → Sh → Bool} {ys : List Sh} (hp : ys.Pairwise fun m x => m.id < x.id) (hb : ∀ x m, m.id < x.id → b x m = b' x m) : ∀ k, k ≤ ys.length → pickL b (ys.take k) = pickL b' (ys.take k) := by
  intro k
  induction k with
  | zero => intro _; rfl
  | succ k ih =>
    intro hk
    have hx : ys[k]? = some (ys[k]'(by omega)) := List.getElem?_eq_getElem _
    by_cases h0 : k = 0
    · subst h0
      rw [take_sh hx]
      rfl
    · rw [pickL_take b (by omega) hx, pickL_take b' (by omega) hx, ih (by omega)]
      have hm := pickL_mem b' (ys := ys) k (by omega) (by omega)
      obtain ⟨i, hi⟩ := List.getElem?_of_mem hm
      have hik : i < k := by have := (List.getElem?_eq_some_iff.1 hi).1; rw [List.length_take] at this; omega
      rw [List.getElem?_take_of_lt hik] at hi
      obtain ⟨hl, he⟩ := List.getElem?_eq_some_iff.1 hi
      have := List.pairwise_iff_getElem.1 hp i k hl (by omega) hik
      rw [he] at this
      rw [hb _ _ this]
def betterB (x m : Sh) : Bool := decide (x.scale < m.scale) || (decide (x.scale = m.scale) && decide (m.year < x.year))
/-- The number that the program's comparison gives. -/
def cmpSh (a b : Sh) : Int := if Lib.compareInt a.scale b.scale = 0 then (if Lib.compareInt b.year a.year = 0 then Lib.compareInt a.id b.id else Lib.compareInt b.year a.year) else Lib.compareInt a.scale b.scale
theorem cmpSh_later {x m : Sh} (h : m.id < x.id) : decide (cmpSh x m < 0) = betterB x m := by
  unfold cmpSh betterB Lib.compareInt
  by_cases h1 : x.scale < m.scale
  · have : ¬ x.scale = m.scale := by omega
    simp [h1, this]
  · by_cases h2 : m.scale < x.scale
    · have : ¬ x.scale = m.scale := by omega
      simp [h1, h2, this]
    · have h3 : x.scale = m.scale := by omega
      by_cases h4 : m.year < x.year
      · simp [h3, h4]
      · by_cases h5 : x.year < m.year
        · simp [h3, h4, h5]
        · have : ¬ x.id < m.id := by omega
          simp [h3, h4, h5, this, h]
theorem areSh_up {xs : List Sh} (h : areSh xs = true) : xs.Pairwise fun m x => m.id < x.id := by
  have hall := (areSh_iff.1 h).2
  rw [List.pairwise_iff_getElem]
  intro i j hi hj hij
  induction j with
  | zero => omega
  | succ j ih =>
    have hx : xs[j + 1]? = some xs[j + 1] := List.getElem?_eq_getElem hj
    have hp : xs[j]? = some (xs[j]'(by omega)) := List.getElem?_eq_getElem _
    have hs : (xs[j]'(by omega)).id < (xs[j + 1]).id := by
      refine Classical.byContradiction fun hn => ?_
      have := okAt_bad2 hx hp hn
      rw [hall (j + 1) hj] at this
      cases this
    by_cases hij' : i = j
    · subst hij'; exact hs
    · exact Int.lt_trans (ih (by omega) (by omega)) hs
def bestOf (xs : List Sh) (x y : Int) : Sh := pickL betterB (shownXs xs x y)
def BestSheet_0 (xs : List Sh) (x y : Int) : Int := (bestOf xs x y).id
def BestSheet_1 (xs : List Sh) (x y : Int) : Bool := decide (0 < (shownXs xs x y).length)
theorem shown_up (xs : List Sh) (x y : Int) : (shownXs xs x y).Pairwise fun m x => m.id < x.id := by
  unfold shownXs
  split
  · rename_i h
    unfold shownOk at h
    rw [Bool.and_eq_true] at h
    exact (areSh_up h.1).filter _
  · exact List.Pairwise.nil
theorem best_program (xs : List Sh) (x y : Int) : pickL (fun a b => decide (cmpSh a b < 0)) (shownXs xs x y) = bestOf xs x y := by
  have := pickL_same (b := fun a b => decide (cmpSh a b < 0)) (b' := betterB) (shown_up xs x y) (fun a b h => cmpSh_later h) _ (Nat.le_refl _)
  rw [List.take_length] at this
  exact this

/-! A sheet in a block of its own. -/
def HBSh (w : World) (b : Nat) (s : Sh) : Prop := w.heap[b]? = some (.cells #[.int .i64 s.id, .int .i64 s.row, .int .i64 s.col, .int .i64 s.scale, .int .i64 s.year] 35 (0, 0))
theorem HBSh.lt {w : World} {b : Nat} {s : Sh} (h : HBSh w b s) : b < w.heap.size := (Array.getElem?_eq_some_iff.1 h).1
theorem HBSh.new (w : World) (s : Sh) (B : Nat) (hB : w.heap.size = B) : HBSh (w.alloc (.cells #[.int .i64 s.id, .int .i64 s.row, .int .i64 s.col, .int .i64 s.scale, .int .i64 s.year] 35)) B s := hB ▸ heap_alloc_new w _
theorem HBSh.below {w w' : World} {b : Nat} {s : Sh} (h : HBSh w b s) (hb : Below w.heap.size w w') : HBSh w' b s := (hb.block b h.lt).trans h
theorem HBSh.grown {w w' : World} {b : Nat} {s : Sh} {row : Option Nat} (h : HBSh w b s) (hg : w.grownBy w' row) (hne : some b ≠ row) : HBSh w' b s := (hg.block b h.lt hne).trans h
theorem HBSh.drew {w : World} {b : Nat} {s : Sh} (h : HBSh w b s) : HBSh w.drew b s := h
theorem HBSh.alloc {w : World} {b : Nat} {s : Sh} (h : HBSh w b s) (o : Obj) : HBSh (w.alloc o) b s := (Below.heap_alloc w o b h.lt).trans h
theorem HBSh.other {w : World} {b b' j : Nat} {s : Sh} (h : HBSh w b s) (hne : b ≠ b') (u : Value) : HBSh (w.setCell ⟨b', j, none⟩ u) b s := (heap_setCell_other w ⟨b', j, none⟩ b u hne).trans h
theorem HBSh.cells {w : World} {b : Nat} {s : Sh} (h : HBSh w b s) : w.cell? ⟨b, 0, none⟩ = some (.int .i64 s.id) ∧ w.cell? ⟨b, 1, none⟩ = some (.int .i64 s.row) ∧ w.cell? ⟨b, 2, none⟩ = some (.int .i64 s.col) ∧ w.cell? ⟨b, 3, none⟩ = some (.int .i64 s.scale) ∧ w.cell? ⟨b, 4, none⟩ = some (.int .i64 s.year) := by
  unfold HBSh at h
  refine ⟨?_, ?_, ?_, ?_, ?_⟩ <;> simp [World.cell?, h]
theorem HBSh.free {w : World} {b : Nat} {s : Sh} (h : HBSh w b s) (j : Nat) : w.frozen? ⟨b, j, none⟩ = false := by
  unfold HBSh at h
  simp [World.frozen?, h]
theorem HBSh.set0 {w : World} {b : Nat} {s : Sh} (h : HBSh w b s) (v : Int) : HBSh (w.setCell ⟨b, 0, none⟩ (.int .i64 v)) b ⟨v, s.row, s.col, s.scale, s.year⟩ := heap_setCell_same w b 0 _ _ _ h
theorem HBSh.set1 {w : World} {b : Nat} {s : Sh} (h : HBSh w b s) (v : Int) : HBSh (w.setCell ⟨b, 1, none⟩ (.int .i64 v)) b ⟨s.id, v, s.col, s.scale, s.year⟩ := heap_setCell_same w b 1 _ _ _ h
theorem HBSh.set2 {w : World} {b : Nat} {s : Sh} (h : HBSh w b s) (v : Int) : HBSh (w.setCell ⟨b, 2, none⟩ (.int .i64 v)) b ⟨s.id, s.row, v, s.scale, s.year⟩ := heap_setCell_same w b 2 _ _ _ h
theorem HBSh.set3 {w : World} {b : Nat} {s : Sh} (h : HBSh w b s) (v : Int) : HBSh (w.setCell ⟨b, 3, none⟩ (.int .i64 v)) b ⟨s.id, s.row, s.col, v, s.year⟩ := heap_setCell_same w b 3 _ _ _ h
theorem HBSh.set4 {w : World} {b : Nat} {s : Sh} (h : HBSh w b s) (v : Int) : HBSh (w.setCell ⟨b, 4, none⟩ (.int .i64 v)) b ⟨s.id, s.row, s.col, s.scale, v⟩ := heap_setCell_same w b 4 _ _ _ h
theorem HBSh.setAll {w : World} {b : Nat} {s : Sh} (h : HBSh w b s) (t : Sh) : HBSh (((((w.setCell ⟨b, 0, none⟩ (.int .i64 t.id)).setCell ⟨b, 1, none⟩ (.int .i64 t.row)).setCell ⟨b, 2, none⟩ (.int .i64 t.col)).setCell ⟨b, 3, none⟩ (.int .i64 t.scale)).setCell ⟨b, 4, none⟩ (.int .i64 t.year)) b t :=
  (heap_setCell_same _ b 4 _ _ _ (heap_setCell_same _ b 3 _ _ _ (heap_setCell_same _ b 2 _ _ _ (heap_setCell_same _ b 1 _ _ _ (heap_setCell_same _ b 0 _ _ _ h)))))
theorem HBSh.otherAll {w : World} {b b' : Nat} {s : Sh} (h : HBSh w b s) (hne : b ≠ b') (x0 x1 x2 x3 x4 : Value) : HBSh (((((w.setCell ⟨b', 0, none⟩ x0).setCell ⟨b', 1, none⟩ x1).setCell ⟨b', 2, none⟩ x2).setCell ⟨b', 3, none⟩ x3).setCell ⟨b', 4, none⟩ x4) b s :=
  (((((h.other hne x0).other hne x1).other hne x2).other hne x3).other hne x4)
theorem resultsSh1 {fn : Func} {tm : Array Value} {a b : Nat} {w : World} {s : Sh} (hf : fn.results = #[.cell a 35]) (ha : tm.getD a undef = .pointer (some ⟨b, 0, none⟩)) (h : HBSh w b s) :
    (results fn tm).run Try.prog w = .ok (.agg #[.int .i64 s.id, .int .i64 s.row, .int .i64 s.col, .int .i64 s.scale, .int .i64 s.year]) w := by
  obtain ⟨h0, h1, h2, h3, h4⟩ := h.cells
  simp only [Array.getD_eq_getD_getElem?] at ha
  simp [results, hf, ha, go_sem, h0, h1, h2, h3, h4]

set_option maxHeartbeats 800000 in
theorem or3_any (b c : Nat) (x y z : Int) (w : World) (h0 : w.cell? ⟨b, 0, none⟩ = some (.int .i64 x)) (h1 : w.cell? ⟨b, 1, none⟩ = some (.int .i64 y)) (h2 : w.cell? ⟨b, 2, none⟩ = some (.int .i64 z)) :
    Calls Try.prog 83 #[.slice (some ⟨b, 0, none⟩) 3 c] w fun e w' => e = .returned (.int .i64 (if x = 0 then (if y = 0 then z else y) else x)) ∧ w = w' := by
  have CC := Lib.hid (show ∀ (j : Nat) u, [x, y, z][j]? = some u → w.cell? ⟨b, j, none⟩ = some (.int .i64 u) from fun j u hj => by
    match j, hj with
    | 0, hj => simp at hj; subst hj; exact h0
    | 1, hj => simp at hj; subst hj; exact h1
    | 2, hj => simp at hj; subst hj; exact h2
    | j + 3, hj => simp at hj)
  clear h0 h1 h2
  obtain ⟨r, hr⟩ : ∃ r, (if x = 0 then (if y = 0 then z else y) else x) = r := ⟨_, rfl⟩
  rw [hr]
  have R := Lib.hid hr
  clear hr
  go_enter Try.func83, Try.ntmps83
  go_wp2
  go_loop [8, 5] (fun i _ => ∃ k : Nat, k ≤ 3 ∧ i = .int .i64 k ∧ ∀ (j : Nat) u, j < k → [x, y, z][j]? = some u → u = 0) (fun i _ => 3 - (intOf i).toNat)
  case atStart => exact ⟨0, by omega, rfl, fun j u h => by omega⟩
  case round =>
    obtain ⟨k, hk, rfl, hz⟩ := hrel
    have HZ := Lib.hid hz
    clear hz
    by_cases hlt : k < 3
    · obtain ⟨u, hu⟩ : ∃ u, [x, y, z][k]? = some u := ⟨[x, y, z][k]'(by simp; omega), List.getElem?_eq_getElem _⟩
      have c0 := CC.out k u hu
      have U := Lib.hid hu
      have hi0 : (0 : Int) ≤ (k : Int) := by omega
      have hi1 : (k : Int) < 3 := by omega
      clear hu
      by_cases hu0 : u = 0
      · subst hu0
        go_wp2
        go_round
        case rel =>
          refine ⟨k + 1, by omega, by go_num, fun j v hj hv => ?_⟩
          by_cases e : j = k
          · subst e; have := U.out; rw [this] at hv; exact (Option.some.inj hv).symm
          · exact HZ.out j v (by omega) hv
        case measure => simp [intOf]; omega
      · have hx1 : (u != 0) = true := by simpa using hu0
        have UN := Lib.hid hu0
        clear hu0
        go_wp2
        go_ret
        refine ⟨ret_int ?_, rfl⟩
        rw [← R.out]
        have h := U.out
        have hz := HZ.out
        have hn := UN.out
        match k, h, hlt with
        | 0, h, _ => simp at h; subst h; rw [if_neg hn]
        | 1, h, _ => simp at h; subst h; rw [if_pos (hz 0 x (by omega) rfl), if_neg hn]
        | 2, h, _ => simp at h; subst h; rw [if_pos (hz 0 x (by omega) rfl), if_pos (hz 1 y (by omega) rfl)]
    · obtain rfl : k = 3 := by omega
      have e1 := HZ.out 0 x (by omega) rfl
      have e2 := HZ.out 1 y (by omega) rfl
      have e3 := HZ.out 2 z (by omega) rfl
      have E := Lib.hid (show (0 : Int) = r by rw [← R.out, if_pos e1, if_pos e2, e3])
      clear e1 e2 e3
      go_wp2
      go_ret
      exact ⟨ret_int E.out, rfl⟩

set_option maxHeartbeats 6400000 in
set_option maxRecDepth 100000 in
/-- The program's comparison of two sheets. -/
theorem bestCmp_any (a b : Sh) (w : World) :
    Calls Try.prog 82 #[.agg #[.int .i64 a.id, .int .i64 a.row, .int .i64 a.col, .int .i64 a.scale, .int .i64 a.year], .agg #[.int .i64 b.id, .int .i64 b.row, .int .i64 b.col, .int .i64 b.scale, .int .i64 b.year]] w fun e w' => e = .returned (.int .i64 (cmpSh a b)) ∧ Below w.heap.size w w' := by
  have X1 := Lib.hid ((boxAt_new w 35 a _ rfl).below (bel_alloc1 _ (.cells #[.int .i64 b.id, .int .i64 b.row, .int .i64 b.col, .int .i64 b.scale, .int .i64 b.year] 35)))
  have X2 := Lib.hid (boxAt_new (w.alloc (.cells #[.int .i64 a.id, .int .i64 a.row, .int .i64 a.col, .int .i64 a.scale, .int .i64 a.year] 35)) 35 b _ (size_al _ _))
  have B0 := Lib.hid (bel_alloc2 w (.cells #[.int .i64 a.id, .int .i64 a.row, .int .i64 a.col, .int .i64 a.scale, .int .i64 a.year] 35) (.cells #[.int .i64 b.id, .int .i64 b.row, .int .i64 b.col, .int .i64 b.scale, .int .i64 b.year] 35))
  obtain ⟨x, hx⟩ : ∃ x, Lib.compareInt a.scale b.scale = x := ⟨_, rfl⟩
  obtain ⟨y, hy⟩ : ∃ y, Lib.compareInt b.year a.year = y := ⟨_, rfl⟩
  obtain ⟨z, hz⟩ : ∃ z, Lib.compareInt a.id b.id = z := ⟨_, rfl⟩
  have E := Lib.hid (show cmpSh a b = if x = 0 then (if y = 0 then z else y) else x by unfold cmpSh; rw [hx, hy, hz])
  have K1 := Lib.hid (fun W => (compare_any a.scale b.scale W).mono (fun e w' h => (⟨by rw [h.1, hx], h.2.symm⟩ : e = .returned (.int .i64 x) ∧ w' = W)))
  have K2 := Lib.hid (fun W => (compare_any b.year a.year W).mono (fun e w' h => (⟨by rw [h.1, hy], h.2.symm⟩ : e = .returned (.int .i64 y) ∧ w' = W)))
  have K3 := Lib.hid (fun W => (compare_any a.id b.id W).mono (fun e w' h => (⟨by rw [h.1, hz], h.2.symm⟩ : e = .returned (.int .i64 z) ∧ w' = W)))
  clear hx hy hz
  go_enter Try.func82, Try.ntmps82
  go_wp2
  refine wp_world (fun W => Below w.heap.size w W ∧ BoxAt W w.heap.size a ∧ BoxAt W (w.heap.size + 1) b) ⟨B0.out, X1.out, X2.out⟩ ?_
  rintro W ⟨hw, ⟨c0, _, _, c3, c4⟩, ⟨d0, _, _, d3, d4⟩⟩
  have HW := Lib.hid hw
  clear hw
  have c0' : ({ W with drawn := W.drawn + 1 } : World).cell? ⟨w.heap.size, 0, none⟩ = some (.int .i64 a.id) := c0
  have c3' : ({ W with drawn := W.drawn + 1 } : World).cell? ⟨w.heap.size, 3, none⟩ = some (.int .i64 a.scale) := c3
  have c4' : ({ W with drawn := W.drawn + 1 } : World).cell? ⟨w.heap.size, 4, none⟩ = some (.int .i64 a.year) := c4
  have d0' : ({ W with drawn := W.drawn + 1 } : World).cell? ⟨w.heap.size + 1, 0, none⟩ = some (.int .i64 b.id) := d0
  have d3' : ({ W with drawn := W.drawn + 1 } : World).cell? ⟨w.heap.size + 1, 3, none⟩ = some (.int .i64 b.scale) := d3
  have d4' : ({ W with drawn := W.drawn + 1 } : World).cell? ⟨w.heap.size + 1, 4, none⟩ = some (.int .i64 b.year) := d4
  refine wp_region_still_tail 15 (by kernel_rfl) (by kernel_rfl) ?_
  simp only [List.take_succ_cons, List.take_zero, List.drop_succ_cons, List.drop_zero]
  repeat still_step
  still_call (K1.out _)
  repeat still_step
  still_call (K2.out _)
  repeat still_step
  still_call (K3.out _)
  refine wpStill_nil ?_
  change wpList _ _ _ _ _ W.drew
  go_wp2_with fail
  refine (or3_any W.heap.size 3 x y z ((W.alloc (.cells #[.int .i64 x, .int .i64 y, .int .i64 z] 3)).drew) (lit3 W x y z 3 _ rfl 0 x rfl) (lit3 W x y z 3 _ rfl 1 y rfl) (lit3 W x y z 3 _ rfl 2 z rfl)).mono ?_
  rintro e w' ⟨rfl, rfl⟩
  rw [← E.out]
  go_wp2
  go_ret
  exact ⟨rfl, Below.then' HW.out (Below.then' (bel_alloc1 W _) (bel_drew' (Below.refl _ _)))⟩
end Go.Proofs.Ytidaoijpbdljbaa
