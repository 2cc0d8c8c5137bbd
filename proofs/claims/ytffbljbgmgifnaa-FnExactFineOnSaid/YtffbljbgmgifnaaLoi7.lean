/- FineOn in the program: a range over slices.Backward that is left early. -/
import Derived.Test.YtffbljbgmgifnaaLoi4
import Derived.Test.YtffbljbgmgifnaaFineOnP
import Derived.RangeFuncNested
import Derived.RangeFuncBound
import Derived.RangeFuncCalls
import Derived.RangeFuncLeaves
import Derived.RangeFuncBox
import Derived.Shelf.Abstract
import Derived.Shelf.RegionOpen
import Derived.WalkKit
import Derived.OwnWalkIn
import Derived.TacticsInMore
import Derived.LoopNIn
import Derived.LoopIn
namespace Go.Proofs.Ytffbljbgmgifnaa
open Go.RowKit Go.Shelf
attribute [local go_sem] Oper.semAt_some

/-- What a round keeps: all below a block, and the block that the iterator has captured. -/
def KeepsL (n b : Nat) (W W' : World) : Prop := Below n W W' ∧ W'.heap[b]? = W.heap[b]?
theorem KeepsL.trans {n b : Nat} {A B C : World} (h : KeepsL n b A B) (k : KeepsL n b B C) : KeepsL n b A C := ⟨h.1.trans k.1, k.2.trans h.2⟩
theorem KeepsL.put {n b : Nat} {w : World} (h1 : b < w.heap.size) (h2 : n ≤ w.heap.size) (W : World) (l : Nat) (o o' : Obj) (hl : w.heap.size ≤ l) (hW : W.heap[l]? = some o) (hc : o.isCells = false) (hk : o.isWalk = false) : KeepsL n b W (W.putObj l o') :=
  ⟨belowK_b h2 W l o o' hl hW hc hk, World.putObj_heap_other (by omega)⟩
/-- A round's values: a place in the list and the loan there, a valid one. -/
abbrev LentX := { x : Int × VLoan // x.2.ok = true }
def encL (x : LentX) : Array Value := #[.int .i64 x.1.1, .agg #[.int .i64 x.1.2.Sheet, .int .i64 x.1.2.Reader, .int .i64 x.1.2.Out, .int .i64 x.1.2.Due, .int .i64 x.1.2.Back]]
set_option maxRecDepth 100000 in
set_option maxHeartbeats 2000000 in
/-- The iterator's contract: for every loop body that keeps what it reads, the turns come from the last to the first. -/
theorem backL_stops (n : Nat) (hn : 1 ≤ n) (bc : Nat) (a : Option Addr) (len cap : Nat) (xs : List VLoan) (w2 w : World) (hS : IsLoanS w2 a len cap xs) (hok : ∀ t ∈ xs, t.ok = true)
    (hw : Below w2.heap.size w2 w) (hc : w.cell? ⟨bc, 0, none⟩ = some (.slice a len cap)) (hbc : bc < w.heap.size) :
    SeqStopsK Fence.wide n Try.prog 145 #[.pointer (some ⟨bc, 0, none⟩)] encL (KeepsL w2.heap.size bc) (fun ys => ys.map (·.1.2) = xs.reverse) (fun ys => ∃ k, ys.map (·.1.2) = (xs.drop k).reverse) xs.length w := fun l J Jx W hW hJ hJx hY h0 => by
  have hc' : W.cell? ⟨bc, 0, none⟩ = some (.slice a len cap) := (hW.cell (p := ⟨bc, 0, none⟩) hbc).trans hc
  have hbel : Below w2.heap.size w2 W := hw.trans (hW.mono hw.size)
  have hm := hS.2.2.1
  have hcl := hS.2.1
  have L := Lib.hid hS.1
  unfold maxLen at hm
  clear hc
  have v0 : IntKind.i64.wrap ((len : Int) - 1) = (len : Int) - 1 := IntWalk.i64_in _ (by omega)
  refine callsIn_of_wp Try.func145 rfl trivial ?_ rfl
  simp only [Try.ntmps145, List.size_toArray, List.length_cons, List.length_nil, Nat.reduceAdd, Nat.reduceSub, Array.replicate_succ, Array.replicate_zero, List.push_toArray, List.append_toArray, List.nil_append, List.cons_append]
  gi_wp2
  gi_loopw [3] (fun i wr => ∃ (k : Nat) (pre : List LentX), k ≤ len ∧ i = .int .i64 ((k : Int) - 1) ∧ pre.map (·.1.2) = (xs.drop k).reverse ∧ J pre wr ∧ Below w2.heap.size w2 wr ∧ wr.cell? ⟨bc, 0, none⟩ = some (.slice a len cap)) (fun i _ => (intOf i + 1).toNat)
  case atStart => exact ⟨len, [], Nat.le_refl _, rfl, by rw [List.drop_of_length_le (by have := L.out; omega)]; rfl, h0, hbel, hc'⟩
  case round =>
    obtain ⟨k, pre, hk, rfl, hpre, hJs, hbw, d1⟩ := hrel
    have S := Lib.hid hpre
    have JS := Lib.hid hJs
    have BW := Lib.hid hbw
    clear hJs hpre hbel hc' v0
    by_cases hk0 : k = 0
    · subst hk0
      gi_wp2
      go_end0
      exact ⟨⟨_, rfl⟩, .inl ⟨_, by have := S.out; simpa using this, JS.out⟩⟩
    · obtain ⟨j, rfl⟩ : ∃ j, k = j + 1 := ⟨k - 1, by omega⟩
      have e1 : ((j + 1 : Nat) : Int) - 1 = (j : Int) := by omega
      rw [e1]
      have hjx : j < xs.length := by have := L.out; omega
      obtain ⟨t, ht⟩ : ∃ t, xs[j]? = some t := ⟨xs[j], List.getElem?_eq_getElem _⟩
      obtain ⟨b, o, rfl, hb, hat⟩ := (hS.below hbw).at (by omega)
      obtain ⟨c0, c1, c2, c3, c4⟩ := hat j t ht
      have hi0 : (0 : Int) ≤ (j : Int) := by omega
      have hi1 : (j : Int) < (len : Int) := by omega
      have hok1 := hok t (List.mem_of_getElem? ht)
      have hlen : pre.length < xs.length := by
        have := congrArg List.length S.out
        rw [List.length_map, List.length_reverse, List.length_drop] at this
        omega
      have NX := Lib.hid (show (pre ++ [(⟨((j : Int), t), hok1⟩ : LentX)]).map (·.1.2) = (xs.drop j).reverse by
        rw [List.map_append, S.out, List.drop_eq_getElem_cons hjx, List.reverse_cons]
        have : xs[j] = t := by rw [List.getElem?_eq_getElem hjx] at ht; exact Option.some.inj ht
        rw [this]; rfl)
      obtain ⟨fn, tmps, assign, body, hy, hR⟩ := hY pre ⟨((j : Int), t), hok1⟩ wr JS.out hlen
      unfold encL at hy
      dsimp only at hy
      clear hat ht hbw
      gi_wp2
      refine hR.mono ?_
      rintro e W3 (⟨rfl, hJ3, hk3⟩ | ⟨rfl, hJx3⟩)
      · have d3 : W3.cell? ⟨bc, 0, none⟩ = some (.slice (some ⟨b, o, none⟩) len cap) := by rw [World.cell?_of_block (w := wr) (a := ⟨bc, 0, none⟩) hk3.2]; exact d1
        have B3 := Lib.hid (BW.out.trans hk3.1)
        have v1 : IntKind.i64.wrap ((j : Int) - 1) = (j : Int) - 1 := IntWalk.i64_in _ (by omega)
        clear hk3
        gi_wp2
        go_roundw
        case rel => exact ⟨j, pre ++ [⟨((j : Int), t), hok1⟩], by omega, by first | rfl | go_num, NX.out, hJ3, B3.out, d3⟩
        case measure => first | (simp [intOf]; done) | (simp [intOf]; omega)
      · gi_wp2
        refine bodyPost_ret (results_none rfl _ _ _) rfl ?_
        exact ⟨⟨_, rfl⟩, .inr ⟨_, ⟨j, NX.out⟩, hJx3⟩⟩

theorem backwardL_in (n : Nat) (a : Option Addr) (len cap : Nat) (w : World) :
    CallsIn Fence.wide n Try.prog 105 #[.slice a len cap] w fun e w' => e = .returned (.func (.func 145) #[] #[.pointer (some ⟨w.heap.size, 0, none⟩)]) ∧ w' = w.alloc (.cells #[.slice a len cap] 42) := by
  refine callsIn_wide.2 ?_
  go_enter Try.func105, Try.ntmps105
  go_wp2
  go_ret
  exact ⟨rfl, rfl⟩


theorem HBLoan.own {b : Nat} {s : VLoan} {A B : World} {row : Option Nat} (h : HBLoan A b s) (hg : A.grownBy B row) (hr : ∀ r, row = some r → ∃ o : Obj, A.heap[r]? = some o ∧ o.isCells = false) : HBLoan B b s :=
  h.grown hg (fun e => by obtain ⟨o, ho, hc⟩ := hr b e.symm; rw [show A.heap[b]? = _ from h] at ho; cases ho; cases hc)
/-- A block of one cell. -/
def OneIn (w : World) (b : Nat) (v : Value) (t : TypeId) : Prop := w.heap[b]? = some (.cells #[v] t (0, 0))
theorem OneIn.cell {w : World} {b : Nat} {v : Value} {t : TypeId} (h : OneIn w b v t) : w.cell? ⟨b, 0, none⟩ = some v := by simp [World.cell?, show w.heap[b]? = _ from h]
theorem OneIn.free {w : World} {b : Nat} {v : Value} {t : TypeId} (h : OneIn w b v t) : w.frozen? ⟨b, 0, none⟩ = false := by simp [World.frozen?, show w.heap[b]? = _ from h]
theorem OneIn.lt {w : World} {b : Nat} {v : Value} {t : TypeId} (h : OneIn w b v t) : b < w.heap.size := (Array.getElem?_eq_some_iff.1 h).1
theorem OneIn.below {w w' : World} {b : Nat} {v : Value} {t : TypeId} (h : OneIn w b v t) (hb : Below w.heap.size w w') : OneIn w' b v t := (hb.block b h.lt).trans h
theorem OneIn.own {b : Nat} {v : Value} {t : TypeId} {A B : World} {row : Option Nat} (h : OneIn A b v t) (hg : A.grownBy B row) (hr : ∀ r, row = some r → ∃ o : Obj, A.heap[r]? = some o ∧ o.isCells = false) : OneIn B b v t :=
  (hg.block b h.lt (fun e => by obtain ⟨o, ho, hc⟩ := hr b e.symm; rw [show A.heap[b]? = _ from h] at ho; cases ho; cases hc)).trans h
theorem OneIn.new (w : World) (v : Value) (t : TypeId) (B : Nat) (hB : w.heap.size = B) : OneIn (w.alloc (.cells #[v] t)) B v t := hB ▸ heap_alloc_new w _
theorem OneIn.alloc {w : World} {b : Nat} {v : Value} {t : TypeId} (h : OneIn w b v t) (o : Obj) : OneIn (w.alloc o) b v t := (Below.heap_alloc w o b h.lt).trans h
theorem OneIn.set {w : World} {b : Nat} {v : Value} {t : TypeId} (h : OneIn w b v t) (u : Value) : OneIn (w.setCell ⟨b, 0, none⟩ u) b u t := heap_setCell_same w b 0 _ _ _ h
theorem OneIn.other {w : World} {b b' j : Nat} {v : Value} {t : TypeId} (h : OneIn w b v t) (hne : b ≠ b') (u : Value) : OneIn (w.setCell ⟨b', j, none⟩ u) b v t := (heap_setCell_other w ⟨b', j, none⟩ b u hne).trans h
theorem OneIn.put {w : World} {b D : Nat} {v : Value} {t : TypeId} {o : Obj} (h : OneIn w b v t) (hne : b ≠ D) : OneIn (w.putObj D o) b v t := (World.putObj_heap_other hne).trans h
theorem keeps_below {W w1 : World} (h : Below W.heap.size W w1) : KeepsOthers W w1 := ⟨h.size, fun k _ hk _ => (h.block k (Array.getElem?_eq_some_iff.1 hk).1).trans hk⟩
theorem results_ib {fn : Func} {tm : Array Value} {a a' b b' : Nat} {w : World} {n : Int} {q : Bool} (hf : fn.results = #[.cell a 3, .cell a' 4]) (ha : tm.getD a undef = .pointer (some ⟨b, 0, none⟩)) (ha' : tm.getD a' undef = .pointer (some ⟨b', 0, none⟩)) (h : OneIn w b (.int .i64 n) 3) (h' : OneIn w b' (.bool q) 4) :
    (results fn tm).run Try.prog w = .ok (.tuple #[.int .i64 n, .bool q]) w := by
  have h0 := h.cell
  have h1 := h'.cell
  simp only [Array.getD_eq_getD_getElem?] at ha ha'
  simp [results, hf, ha, ha', go_sem, h0, h1]
/-- The last loan of the sheet, out of what the rounds have shown. -/
theorem last_none {xs : List VLoan} {sh : Int} (h : ∀ l ∈ xs, ¬ l.Sheet = sh) : lastL sh xs = -1 := by
  induction xs with
  | nil => rfl
  | cons y t ih =>
    unfold lastL
    rw [ih fun l hl => h l (List.mem_cons_of_mem _ hl), if_pos (by omega), if_neg (h y (by simp))]
theorem last_drop {xs ys : List VLoan} {sh : Int} {z : VLoan} {k : Nat} (hd : xs.drop k = z :: ys) (hz : z.Sheet = sh) (hn : ∀ l ∈ ys, ¬ l.Sheet = sh) : lastL sh xs = (k : Int) ∧ loAt xs k = z := by
  have hk : k < xs.length := by
    have := congrArg List.length hd
    rw [List.length_drop, List.length_cons] at this; omega
  refine ⟨?_, loAt_some (by have := congrArg (·[0]?) hd; simpa using this)⟩
  have key : ∀ (a : List VLoan), lastL sh (a ++ z :: ys) = (a.length : Int) := by
    intro a
    induction a with
    | nil =>
      show lastL sh (z :: ys) = 0
      unfold lastL
      rw [last_none hn, if_pos (by omega), if_pos hz]
    | cons y t ih =>
      rw [List.cons_append]
      unfold lastL
      rw [ih, if_neg (by omega), List.length_cons]; omega
  have := key (xs.take k)
  rw [← hd, List.take_append_drop, List.length_take, Nat.min_eq_left (by omega)] at this
  exact this
def StopX (n : Nat) (sh d : Int) (w : World) (c : Code) (pre : List LentX) (W : World) : Prop :=
  c = .ret ∧ ∃ (p : List LentX) (z : LentX), pre = p ++ [z] ∧ (∀ y ∈ p, ¬ y.1.2.Sheet = sh) ∧ z.1.2.Sheet = sh ∧ OneIn W (n + 2) (.int .i64 (fineL z.1.2 d)) 3 ∧ OneIn W (n + 3) (.bool true) 4 ∧ Below n w W
theorem fine_stop {xs : List VLoan} {sh d : Int} {pre : List LentX} {p : List LentX} {z : LentX} (ha : areLo xs = true) (hd : dayB d = true) (hs : ∃ k, pre.map (·.1.2) = (xs.drop k).reverse) (hp : pre = p ++ [z]) (hn : ∀ y ∈ p, ¬ y.1.2.Sheet = sh) (hz : z.1.2.Sheet = sh) : FineOn_1 xs sh d = true ∧ FineOn_0 xs sh d = fineL z.1.2 d := by
  obtain ⟨k, hk⟩ := hs
  rw [hp, List.map_append] at hk
  have hk2 := congrArg List.reverse hk
  rw [List.reverse_reverse, List.reverse_append] at hk2
  have hk3 : xs.drop k = z.1.2 :: (p.map (·.1.2)).reverse := by simpa using hk2.symm
  have hl := last_drop (xs := xs) (k := k) (z := z.1.2) (ys := (p.map (·.1.2)).reverse) (sh := sh) hk3 hz (fun l hl => by
    rw [List.mem_reverse, List.mem_map] at hl
    obtain ⟨y, hy, rfl⟩ := hl
    exact hn y hy)
  have e1 : FineOn_1 xs sh d = true := by unfold FineOn_1; rw [ha, hd, hl.1, decide_eq_true (by omega : (0 : Int) ≤ (k : Int))]; rfl
  refine ⟨e1, ?_⟩
  unfold FineOn_0
  rw [e1, if_pos rfl, hl.1, Int.toNat_natCast, hl.2]
theorem fine_done {xs : List VLoan} {sh d : Int} {pre : List LentX} (hs : pre.map (·.1.2) = xs.reverse) (hn : ∀ y ∈ pre, ¬ y.1.2.Sheet = sh) : FineOn_1 xs sh d = false ∧ FineOn_0 xs sh d = 0 := by
  have hl : lastL sh xs = -1 := last_none fun l hl => by
    have : l ∈ xs.reverse := List.mem_reverse.2 hl
    rw [← hs, List.mem_map] at this
    obtain ⟨y, hy, rfl⟩ := this
    exact hn y hy
  have e1 : FineOn_1 xs sh d = false := by unfold FineOn_1; rw [hl]; simp
  refine ⟨e1, ?_⟩
  unfold FineOn_0; rw [e1]; rfl
set_option maxRecDepth 100000 in
set_option maxHeartbeats 4000000 in
theorem implFineOn_yes (a : Option Addr) (len cap : Nat) (xs : List VLoan) (sh d : Int) (w : World) (h : IsLoanS w a len cap xs) (hc : areLo xs = true) (hp : dayB d = true) :
    CallsIn Fence.wide 3 Try.prog 42 #[.slice a len cap, .int .i64 sh, .int .i64 d] w (FineOn_Post xs sh d w) := by
  have S := Lib.hid h
  clear h
  have C := Lib.hid hc
  have P := Lib.hid hp
  clear hc hp
  refine callsIn_of_wp_marks Try.func42 rfl trivial ?_ rfl
  simp only [Try.ntmps42, List.size_toArray, List.length_cons, List.length_nil, Nat.reduceAdd, Nat.reduceSub, Array.replicate_succ, Array.replicate_zero, List.push_toArray, List.append_toArray, List.nil_append, List.cons_append]
  obtain ⟨w0, hw0⟩ : ∃ w0, (((w.alloc (.cells #[.int .i64 sh] 3)).alloc (.cells #[.int .i64 d] 3)).alloc (.cells #[.int .i64 0] 3)).alloc (.cells #[.bool false] 4) = w0 := ⟨_, rfl⟩
  have A0 := Lib.hid (show OneIn w0 w.heap.size (.int .i64 sh) 3 from by rw [← hw0]; exact (((OneIn.new w _ _ _ rfl).alloc _).alloc _).alloc _)
  have A1 := Lib.hid (show OneIn w0 (w.heap.size + 1) (.int .i64 d) 3 from by rw [← hw0]; exact ((OneIn.new (w.alloc _) _ _ _ (by simp)).alloc _).alloc _)
  have A2 := Lib.hid (show OneIn w0 (w.heap.size + 1 + 1) (.int .i64 0) 3 from by rw [← hw0]; exact (OneIn.new ((w.alloc _).alloc _) _ _ _ (by simp)).alloc _)
  have A3 := Lib.hid (show OneIn w0 (w.heap.size + 1 + 1 + 1) (.bool false) 4 from by rw [← hw0]; exact OneIn.new (((w.alloc _).alloc _).alloc _) _ _ _ (by simp))
  have B0 := Lib.hid (show Below w.heap.size w w0 from by rw [← hw0]; exact Below.then' (bel_al2 w _ _) (bel_al2 _ _ _))
  gi_wp2_with (refine ⟨trivial, ?_⟩; first
    | (gi_at_call 45; refine (callsIn_wide.2 (areLoans_any _ _ _ xs _ (S.out.below B0.out))).mono ?_; rintro e w1 ⟨rfl, hb1⟩; rw [C.out]; have D0 := Lib.hid (A0.out.below hb1); have D1 := Lib.hid (A1.out.below hb1); have D2 := Lib.hid (A2.out.below hb1); have D3 := Lib.hid (A3.out.below hb1); have B1 := Lib.hid (Below.then' B0.out hb1); have dc := D1.out.cell; clear hb1)
    | (gi_at_call 95; refine (callsIn_wide.2 (isDay_any d _)).mono ?_; rintro e w2 ⟨rfl, hb2⟩; rw [P.out]; have E0 := Lib.hid (D0.out.below hb2); have E1 := Lib.hid (D1.out.below hb2); have E2 := Lib.hid (D2.out.below hb2); have E3 := Lib.hid (D3.out.below hb2); have B2 := Lib.hid (Below.then' B1.out hb2); clear hb2 dc)
    | (gi_at_call 105; refine (backwardL_in _ _ _ _ _).mono ?_; rintro e w3 ⟨rfl, rfl⟩))
  obtain ⟨W0, hW0⟩ : ∃ W0, w2.alloc (.cells #[.slice a len cap] 42) = W0 := ⟨_, rfl⟩
  have q0 : W0.heap.size = w2.heap.size + 1 := by rw [← hW0]; simp
  have q2 : W0.cell? ⟨w2.heap.size, 0, none⟩ = some (.slice a len cap) := by rw [← hW0]; simp
  have q4 : Below w2.heap.size w2 W0 := by rw [← hW0]; exact bel_al1 _ _
  have F0 := Lib.hid (E0.out.below q4)
  have F1 := Lib.hid (E1.out.below q4)
  have F2 := Lib.hid (E2.out.below q4)
  have F3 := Lib.hid (E3.out.below q4)
  have BW := Lib.hid (Below.then' B2.out q4)
  have q5 := B2.out.size
  have g3 := F3.out.lt
  rw [hW0]
  clear hW0 hw0
  refine wpIn_rangeFunc_ownH rfl (by omega) (gf := 145) (lb := #[.pointer (some ⟨w2.heap.size, 0, none⟩)]) rfl trivial (enters_of Try.func145 (by kernel_rfl) rfl)
    (backL_stops 2 (by omega) w2.heap.size a len cap xs w2 W0 (S.out.below B2.out) (fun t ht => areLo_ok C.out ht) q4 q2 (by omega)) KeepsL.trans (KeepsL.put (by omega) (by omega)) (Below.refl _ _) (fun _ => rfl)
    (fun pre W => (∀ y ∈ pre, ¬ y.1.2.Sheet = sh) ∧ Below W0.heap.size W0 W)
    (StopX w.heap.size sh d w)
    (OwnFrom.and (fun _ _ _ _ hs _ _ => hs) (ownFrom_below (Nat.le_refl _) (Nat.le_refl _)))
    (fun c s A B row hs hg hr => by
      obtain ⟨h1, p, z, h2, h3, h4, h5, h6, h7⟩ := hs
      exact ⟨h1, p, z, h2, h3, h4, h5.own hg (fun r e => (hr r e).2), h6.own hg (fun r e => (hr r e).2), h7.grown hg h7.size (fun k e => by have := (hr k e).1; omega)⟩)
    ⟨fun y hy => by simp at hy, Below.refl _ _⟩
    (fun z a' W => ∃ Bx, W0.heap.size ≤ Bx ∧ HBLoan W Bx z.1.2 ∧ a' = { tmps := #[.slice a len cap, .int .i64 sh, .int .i64 d, undef, .pointer (some ⟨w.heap.size, 0, none⟩), .pointer (some ⟨w.heap.size + 1, 0, none⟩), .pointer (some ⟨w.heap.size + 1 + 1, 0, none⟩), .pointer (some ⟨w.heap.size + 1 + 1 + 1, 0, none⟩), undef, .pointer (some ⟨Bx, 0, none⟩), .slice a len cap, .bool true, .bool false, .bool false, .int .i64 d, .bool true, .bool false, .bool false, .slice a len cap, .func (.func 145) #[] #[.pointer (some ⟨w2.heap.size, 0, none⟩)], .int .i64 z.1.1, .agg #[.int .i64 z.1.2.Sheet, .int .i64 z.1.2.Reader, .int .i64 z.1.2.Out, .int .i64 z.1.2.Due, .int .i64 z.1.2.Back], undef, undef, undef, undef, undef, undef, undef], defers := [] })
    (fun z a' _ X Y row hs hg hr => by obtain ⟨Bx, h1, h2, h3⟩ := hs; exact ⟨Bx, h1, HBLoan.own h2 hg (fun r e => (hr r e).2), h3⟩)
    ?assign ?body ?done ?stop
  case assign =>
    rintro l pre z W K ⟨hn, hB⟩ hK
    have hsz := hB.size
    unfold encL
    gi_wp2
    exact hK _ _ ((KeepsOthers.alloc _ _).from _) ⟨(Below.refl _ W).alloc (by omega) _, Below.heap_alloc _ _ _ (by omega)⟩ ⟨hn, hB.alloc hsz _⟩ ⟨W.heap.size, hsz, HBLoan.new W z.1.2 _ rfl, rfl⟩
  case body =>
    rintro l pre z a' W hl ⟨r, hr⟩ ⟨hn, hB⟩ ⟨Bx, hBx, bX, rfl⟩ hlt
    clear hr
    obtain ⟨c0, c1, c2, c3, c4⟩ := bX.cells
    have G0 := (F0.out.below hB).cell
    have G1 := Lib.hid (F1.out.below hB)
    have G2 := Lib.hid (F2.out.below hB)
    have G3 := Lib.hid (F3.out.below hB)
    have NN := Lib.hid hn
    have HB := Lib.hid hB
    have hsz := hB.size
    clear hn hB
    by_cases hz : z.1.2.Sheet = sh
    · have z1 : (z.1.2.Sheet == sh) = true := by simp [hz]
      have HZ := Lib.hid hz
      have g1 := G1.out.cell
      have OKZ := Lib.hid z.2
      clear hz
      gi_wp2_with (refine ⟨trivial, ?_⟩; gi_at_call 102; refine (CallsIn.inRound l (callsIn_wide.2 (fineBy_any z.1.2 d _ OKZ.out P.out))).mono ?_; rintro e w4 ⟨rfl, hb4⟩; have H2 := Lib.hid (G2.out.below hb4); have H3 := Lib.hid (G3.out.below hb4); have h2 := H2.out.free; have h3 := H3.out.free; have i2 := H2.out.cell; have i3 := H3.out.cell; have H4 := Lib.hid hb4; clear hb4)
      have hs4 := H4.out.size
      have W6 := (H2.out.set (.int .i64 (fineL z.1.2 d))).other (b' := w.heap.size + 1 + 1 + 1) (j := 0) (by omega) (.bool true)
      have W7 := (H3.out.other (b' := w.heap.size + 1 + 1) (j := 0) (by omega) (.int .i64 (fineL z.1.2 d))).set (.bool true)
      refine ⟨?_, rfl, pre, z, rfl, NN.out, HZ.out, W6, W7, ?_⟩
      · exact (((keeps_below H4.out).trans (KeepsOthers.setCell _ _ _)).trans (KeepsOthers.setCell _ _ _)).from _
      · exact ((((BW.out.trans (HB.out.mono (by omega))).trans (H4.out.mono (by omega))).setCell (p := ⟨w.heap.size + 1 + 1, 0, none⟩) (by simp; omega) _).setCell (p := ⟨w.heap.size + 1 + 1 + 1, 0, none⟩) (by simp; omega) _)
    · have z1 : (z.1.2.Sheet == sh) = false := by simp [hz]
      have HZ := Lib.hid hz
      clear hz
      gi_wp2
      exact ⟨KeepsFrom.refl _ _, ⟨Below.refl _ _, rfl⟩, fun y hy => (List.mem_append.1 hy).elim (NN.out y) (fun e => by rw [List.mem_singleton.1 e]; exact HZ.out), HB.out⟩
  case done =>
    rintro D ys W hD hys ⟨hn, hB⟩ hK
    have E := Lib.hid (fine_done (d := d) hys hn)
    have G2 := Lib.hid (F2.out.below hB)
    have G3 := Lib.hid (F3.out.below hB)
    have f2 := G2.out.free
    have f3 := G3.out.free
    have i2 := G2.out.cell
    have i3 := G3.out.cell
    have HB := Lib.hid hB
    have HK := Lib.hid hK
    clear hn hB hK hys
    gi_wp2
    have W6 := (G2.out.set (.int .i64 0)).other (b' := w.heap.size + 1 + 1 + 1) (j := 0) (by omega) (.bool false)
    have W7 := (G3.out.other (b' := w.heap.size + 1 + 1) (j := 0) (by omega) (.int .i64 0)).set (.bool false)
    obtain ⟨W5, hW5⟩ : ∃ W5, (W.setCell ⟨w.heap.size + 1 + 1, 0, none⟩ (.int .i64 0)).setCell ⟨w.heap.size + 1 + 1 + 1, 0, none⟩ (.bool false) = W5 := ⟨_, rfl⟩
    have hK5 : W5.heap[D]? = some (.deferred (some [])) := by
      rw [← hW5, heap_setCell_other _ ⟨w.heap.size + 1 + 1 + 1, 0, none⟩ D _ (by simp; omega), heap_setCell_other _ ⟨w.heap.size + 1 + 1, 0, none⟩ D _ (by simp; omega)]
      exact HK.out
    have hB5 : Below w.heap.size w W5 := by
      rw [← hW5]
      exact ((BW.out.trans (HB.out.mono (by omega))).setCell (p := ⟨w.heap.size + 1 + 1, 0, none⟩) (by simp; omega) _).setCell (p := ⟨w.heap.size + 1 + 1 + 1, 0, none⟩) (by simp; omega) _
    rw [hW5] at W6 W7 ⊢
    clear hW5
    refine ⟨by simp, .inl ⟨_, _, rfl, run_takeDeferred hK5, ?_⟩⟩
    exact ⟨_, results_ib rfl rfl rfl (W6.put (by omega)) (W7.put (by omega)), by rw [E.out.1, E.out.2], hB5.trans (belowK_b (w := w) (Nat.le_refl _) W5 D _ _ (by omega) hK5 rfl rfl)⟩
  case stop =>
    rintro D c pre W hD hsp ⟨rfl, p, z, hp, hn, hz, h6, h7, hB⟩ hK
    have E := Lib.hid (fine_stop C.out P.out hsp hp hn hz)
    have H6 := Lib.hid h6
    have H7 := Lib.hid h7
    have HB := Lib.hid hB
    have HK := Lib.hid hK
    clear hsp hp hn hz h6 h7 hB hK
    gi_wp2
    refine ⟨by simp, .inl ⟨_, _, rfl, run_takeDeferred HK.out, ?_⟩⟩
    exact ⟨_, results_ib rfl rfl rfl (H6.out.put (by omega)) (H7.out.put (by omega)), by rw [E.out.1, E.out.2], HB.out.trans (belowK_b (w := w) (Nat.le_refl _) W D _ _ (by omega) HK.out rfl rfl)⟩
set_option maxHeartbeats 3200000 in
set_option maxRecDepth 100000 in
theorem implFineOn_any (a : Option Addr) (len cap : Nat) (xs : List VLoan) (sh d : Int) (w : World) (h : IsLoanS w a len cap xs) (_ : xs.length ≤ 1048576) :
    Calls Try.prog 42 #[.slice a len cap, .int .i64 sh, .int .i64 d] w (FineOn_Post xs sh d w) := by
  obtain ⟨c, hc⟩ : ∃ c, areLo xs = c := ⟨_, rfl⟩
  obtain ⟨p, hp⟩ : ∃ p, dayB d = p := ⟨_, rfl⟩
  by_cases hy : (c && p) = true
  · have hyy : c = true ∧ p = true := by simpa using hy
    obtain ⟨rfl, rfl⟩ := hyy
    exact callsIn_wide.1 (implFineOn_yes a len cap xs sh d w h hc hp)
  have E1 := Lib.hid (show FineOn_1 xs sh d = false from by
    unfold FineOn_1; rw [hc, hp, ← Bool.and_assoc]
    cases c <;> cases p <;> first | rfl | exact absurd rfl hy)
  have E0 := Lib.hid (show FineOn_0 xs sh d = 0 from by unfold FineOn_0; rw [E1.out]; rfl)
  have S := Lib.hid h
  have C := Lib.hid hc
  have P := Lib.hid hp
  have NY := Lib.hid hy
  clear h hc hp hy
  obtain ⟨w0, hw0⟩ : ∃ w0, (((w.alloc (.cells #[.int .i64 sh] 3)).alloc (.cells #[.int .i64 d] 3)).alloc (.cells #[.int .i64 0] 3)).alloc (.cells #[.bool false] 4) = w0 := ⟨_, rfl⟩
  have A1 := Lib.hid (show OneIn w0 (w.heap.size + 1) (.int .i64 d) 3 from by rw [← hw0]; exact ((OneIn.new (w.alloc _) _ _ _ (by simp)).alloc _).alloc _)
  have A2 := Lib.hid (show OneIn w0 (w.heap.size + 1 + 1) (.int .i64 0) 3 from by rw [← hw0]; exact (OneIn.new ((w.alloc _).alloc _) _ _ _ (by simp)).alloc _)
  have A3 := Lib.hid (show OneIn w0 (w.heap.size + 1 + 1 + 1) (.bool false) 4 from by rw [← hw0]; exact OneIn.new (((w.alloc _).alloc _).alloc _) _ _ _ (by simp))
  have B0 := Lib.hid (show Below w.heap.size w w0 from by rw [← hw0]; exact Below.then' (bel_al2 w _ _) (bel_al2 _ _ _))
  go_enter Try.func42, Try.ntmps42
  go_wp2_with fail
  refine (areLoans_any _ _ _ xs _ (S.out.below B0.out)).mono ?_
  rintro e w1 ⟨rfl, hb⟩
  rw [C.out]
  have B1 := Lib.hid (Below.then' B0.out hb)
  have D1 := Lib.hid (A1.out.below hb)
  have D2 := Lib.hid (A2.out.below hb)
  have D3 := Lib.hid (A3.out.below hb)
  clear hb hw0
  cases c
  · have f2 := D2.out.free
    have f3 := D3.out.free
    have i2 := D2.out.cell
    have i3 := D3.out.cell
    go_wp2
    have W6 := (D2.out.set (.int .i64 0)).other (b' := w.heap.size + 1 + 1 + 1) (j := 0) (by omega) (.bool false)
    have W7 := (D3.out.other (b' := w.heap.size + 1 + 1) (j := 0) (by omega) (.int .i64 0)).set (.bool false)
    refine bodyPost_ret (results_ib rfl rfl rfl W6 W7) rfl ⟨by rw [E0.out, E1.out], ?_⟩
    exact (B1.out.setCell (p := ⟨w.heap.size + 1 + 1, 0, none⟩) (by simp; omega) _).setCell (p := ⟨w.heap.size + 1 + 1 + 1, 0, none⟩) (by simp; omega) _
  have dc := D1.out.cell
  go_wp2_with fail
  refine (isDay_any d _).mono ?_
  rintro e w2 ⟨rfl, hb⟩
  rw [P.out]
  have B2 := Lib.hid (Below.then' B1.out hb)
  have E2 := Lib.hid (D2.out.below hb)
  have E3 := Lib.hid (D3.out.below hb)
  clear hb dc
  cases p
  · have f2 := E2.out.free
    have f3 := E3.out.free
    have i2 := E2.out.cell
    have i3 := E3.out.cell
    go_wp2
    have W6 := (E2.out.set (.int .i64 0)).other (b' := w.heap.size + 1 + 1 + 1) (j := 0) (by omega) (.bool false)
    have W7 := (E3.out.other (b' := w.heap.size + 1 + 1) (j := 0) (by omega) (.int .i64 0)).set (.bool false)
    refine bodyPost_ret (results_ib rfl rfl rfl W6 W7) rfl ⟨by rw [E0.out, E1.out], ?_⟩
    exact (B2.out.setCell (p := ⟨w.heap.size + 1 + 1, 0, none⟩) (by simp; omega) _).setCell (p := ⟨w.heap.size + 1 + 1 + 1, 0, none⟩) (by simp; omega) _
  exact absurd rfl NY.out
end Go.Proofs.Ytffbljbgmgifnaa
