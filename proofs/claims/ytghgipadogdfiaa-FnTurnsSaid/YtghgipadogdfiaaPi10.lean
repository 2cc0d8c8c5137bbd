/- TurnBack in the program: a range over slices.Backward. -/
import Derived.Test.YtghgipadogdfiaaPi5
import Derived.Test.YtghgipadogdfiaaTurnBackP
import Derived.RangeFuncNested
import Derived.RangeFuncBound
import Derived.RangeFuncCalls
import Derived.RangeFuncLeaves
import Derived.RangeFuncBox
import Derived.Shelf.Abstract
import Derived.Shelf.RegionOpen
import Derived.WalkKit
import Derived.OwnWalkIn
import Derived.TacticsInMore
import Derived.LoopNIn
import Derived.LoopIn
namespace Go.Proofs.Ytghgipadogdfiaa
open Go.RowKit Go.Shelf
attribute [local go_sem] Oper.semAt_some

/-- What a round keeps: all below a block, and the block that the iterator has captured. -/
def KeepsB (n b : Nat) (W W' : World) : Prop := Below n W W' ∧ W'.heap[b]? = W.heap[b]?
theorem KeepsB.trans {n b : Nat} {A B C : World} (h : KeepsB n b A B) (k : KeepsB n b B C) : KeepsB n b A C := ⟨h.1.trans k.1, k.2.trans h.2⟩
theorem KeepsB.put {n b : Nat} {w : World} (h1 : b < w.heap.size) (h2 : n ≤ w.heap.size) (W : World) (l : Nat) (o o' : Obj) (hl : w.heap.size ≤ l) (hW : W.heap[l]? = some o) (hc : o.isCells = false) (hk : o.isWalk = false) : KeepsB n b W (W.putObj l o') :=
  ⟨belowK_b h2 W l o o' hl hW hc hk, World.putObj_heap_other (by omega)⟩
/-- A round's values: a place in the chain and the turn there, a valid one. -/
abbrev Turned := { x : Int × VGridTurn // x.2.ok = true }
def encT (x : Turned) : Array Value := #[.int .i64 x.1.1, .agg #[.int .i64 x.1.2.Quarters, .int .i64 x.1.2.Num, .int .i64 x.1.2.Den, .int .i64 x.1.2.East, .int .i64 x.1.2.North]]
def foldT (pre : List Turned) (s : VSpot) : VSpot := pre.foldl (fun s x => spotBack x.1.2 s) s
theorem foldT_snoc (pre : List Turned) (x : Turned) (s : VSpot) : foldT (pre ++ [x]) s = spotBack x.1.2 (foldT pre s) := by simp [foldT]
theorem foldT_back (pre : List Turned) (s : VSpot) : foldT pre s = backL ((pre.map (·.1.2)).reverse) s := by
  unfold foldT backL
  rw [List.foldr_reverse, List.foldl_map]
theorem foldT_mid {pre : List Turned} {x y : Int} (hl : pre.length ≤ 4) (hp : placeB x y = true) : (foldT pre ⟨x, y, 1⟩).mid := by
  rw [foldT_back]
  refine spotBd_mid (i := ((pre.map (·.1.2)).reverse).length) (by simpa using hl) (backL_bd ?_ (place_bd hp))
  intro t ht
  simp only [List.mem_reverse, List.mem_map] at ht
  obtain ⟨u, _, rfl⟩ := ht
  exact u.2

set_option maxRecDepth 100000 in
set_option maxHeartbeats 2000000 in
/-- The iterator's contract: for every loop body that keeps what it reads, the turns come from the last to the first. -/
theorem back_stops (n : Nat) (hn : 1 ≤ n) (bc : Nat) (a : Option Addr) (len cap : Nat) (xs : List VGridTurn) (w2 w : World) (hS : IsGridTurnS w2 a len cap xs) (hok : ∀ t ∈ xs, t.ok = true)
    (hw : Below w2.heap.size w2 w) (hc : w.cell? ⟨bc, 0, none⟩ = some (.slice a len cap)) (hbc : bc < w.heap.size) :
    SeqStopsK Fence.wide n Try.prog 89 #[.pointer (some ⟨bc, 0, none⟩)] encT (KeepsB w2.heap.size bc) (fun ys => ys.map (·.1.2) = xs.reverse) (fun _ => True) xs.length w := fun l J Jx W hW hJ hJx hY h0 => by
  have hc' : W.cell? ⟨bc, 0, none⟩ = some (.slice a len cap) := (hW.cell (p := ⟨bc, 0, none⟩) hbc).trans hc
  have hbel : Below w2.heap.size w2 W := hw.trans (hW.mono hw.size)
  have hm := hS.2.2.1
  have hcl := hS.2.1
  have L := Lib.hid hS.1
  unfold maxLen at hm
  clear hc
  have v0 : IntKind.i64.wrap ((len : Int) - 1) = (len : Int) - 1 := IntWalk.i64_in _ (by omega)
  refine callsIn_of_wp Try.func89 rfl trivial ?_ rfl
  simp only [Try.ntmps89, List.size_toArray, List.length_cons, List.length_nil, Nat.reduceAdd, Nat.reduceSub, Array.replicate_succ, Array.replicate_zero, List.push_toArray, List.append_toArray, List.nil_append, List.cons_append]
  gi_wp2
  gi_loopw [3] (fun i wr => ∃ (k : Nat) (pre : List Turned), k ≤ len ∧ i = .int .i64 ((k : Int) - 1) ∧ pre.map (·.1.2) = (xs.drop k).reverse ∧ J pre wr ∧ Below w2.heap.size w2 wr ∧ wr.cell? ⟨bc, 0, none⟩ = some (.slice a len cap)) (fun i _ => (intOf i + 1).toNat)
  case atStart => exact ⟨len, [], Nat.le_refl _, rfl, by rw [List.drop_of_length_le (by have := L.out; omega)]; rfl, h0, hbel, hc'⟩
  case round =>
    obtain ⟨k, pre, hk, rfl, hpre, hJs, hbw, d1⟩ := hrel
    have S := Lib.hid hpre
    have JS := Lib.hid hJs
    have BW := Lib.hid hbw
    clear hJs hpre hbel hc' v0
    by_cases hk0 : k = 0
    · subst hk0
      gi_wp2
      go_end0
      exact ⟨⟨_, rfl⟩, .inl ⟨_, by have := S.out; simpa using this, JS.out⟩⟩
    · obtain ⟨j, rfl⟩ : ∃ j, k = j + 1 := ⟨k - 1, by omega⟩
      have e1 : ((j + 1 : Nat) : Int) - 1 = (j : Int) := by omega
      rw [e1]
      have hjx : j < xs.length := by have := L.out; omega
      obtain ⟨t, ht⟩ : ∃ t, xs[j]? = some t := ⟨xs[j], List.getElem?_eq_getElem _⟩
      obtain ⟨b, o, rfl, hb, hat⟩ := (hS.below hbw).at (by omega)
      obtain ⟨c0, c1, c2, c3, c4⟩ := hat j t ht
      have hi0 : (0 : Int) ≤ (j : Int) := by omega
      have hi1 : (j : Int) < (len : Int) := by omega
      have hok1 := hok t (List.mem_of_getElem? ht)
      have hlen : pre.length < xs.length := by
        have := congrArg List.length S.out
        rw [List.length_map, List.length_reverse, List.length_drop] at this
        omega
      have NX := Lib.hid (show (pre ++ [(⟨((j : Int), t), hok1⟩ : Turned)]).map (·.1.2) = (xs.drop j).reverse by
        rw [List.map_append, S.out, List.drop_eq_getElem_cons hjx, List.reverse_cons]
        have : xs[j] = t := by rw [List.getElem?_eq_getElem hjx] at ht; exact Option.some.inj ht
        rw [this]; rfl)
      obtain ⟨fn, tmps, assign, body, hy, hR⟩ := hY pre ⟨((j : Int), t), hok1⟩ wr JS.out hlen
      unfold encT at hy
      dsimp only at hy
      clear hat ht hbw
      gi_wp2
      refine hR.mono ?_
      rintro e W3 (⟨rfl, hJ3, hk3⟩ | ⟨rfl, hJx3⟩)
      · have d3 : W3.cell? ⟨bc, 0, none⟩ = some (.slice (some ⟨b, o, none⟩) len cap) := by rw [World.cell?_of_block (w := wr) (a := ⟨bc, 0, none⟩) hk3.2]; exact d1
        have B3 := Lib.hid (BW.out.trans hk3.1)
        have v1 : IntKind.i64.wrap ((j : Int) - 1) = (j : Int) - 1 := IntWalk.i64_in _ (by omega)
        clear hk3
        gi_wp2
        go_roundw
        case rel => exact ⟨j, pre ++ [⟨((j : Int), t), hok1⟩], by omega, by first | rfl | go_num, NX.out, hJ3, B3.out, d3⟩
        case measure => first | (simp [intOf]; done) | (simp [intOf]; omega)
      · gi_wp2
        refine bodyPost_ret (results_none rfl _ _ _) rfl ?_
        exact ⟨⟨_, rfl⟩, .inr ⟨_, trivial, hJx3⟩⟩

theorem backward_in (n : Nat) (a : Option Addr) (len cap : Nat) (w : World) :
    CallsIn Fence.wide n Try.prog 58 #[.slice a len cap] w fun e w' => e = .returned (.func (.func 89) #[] #[.pointer (some ⟨w.heap.size, 0, none⟩)]) ∧ w' = w.alloc (.cells #[.slice a len cap] 24) := by
  refine callsIn_wide.2 ?_
  go_enter Try.func58, Try.ntmps58
  go_wp2
  go_ret
  exact ⟨rfl, rfl⟩

theorem HBSpot.own {b : Nat} {s : VSpot} {A B : World} {row : Option Nat} (h : HBSpot A b s) (hg : A.grownBy B row) (hr : ∀ r, row = some r → ∃ o : Obj, A.heap[r]? = some o ∧ o.isCells = false) : HBSpot B b s :=
  h.grown hg (fun e => by obtain ⟨o, ho, hc⟩ := hr b e.symm; rw [show A.heap[b]? = _ from h] at ho; cases ho; cases hc)
theorem HBGridTurn.own {b : Nat} {s : VGridTurn} {A B : World} {row : Option Nat} (h : HBGridTurn A b s) (hg : A.grownBy B row) (hr : ∀ r, row = some r → ∃ o : Obj, A.heap[r]? = some o ∧ o.isCells = false) : HBGridTurn B b s :=
  h.grown hg (fun e => by obtain ⟨o, ho, hc⟩ := hr b e.symm; rw [show A.heap[b]? = _ from h] at ho; cases ho; cases hc)
theorem keeps_all {W w1 : World} (h : Below W.heap.size W w1) : KeepsOthers W w1 := ⟨h.size, fun k _ hk _ => (h.block k (Array.getElem?_eq_some_iff.1 hk).1).trans hk⟩
set_option maxRecDepth 100000 in
set_option maxHeartbeats 4000000 in
theorem implTurnBack_yes (a : Option Addr) (len cap : Nat) (xs : List VGridTurn) (x y : Int) (w : World) (h : IsGridTurnS w a len cap xs) (hc : chOk xs = true) (hp : placeB x y = true) :
    CallsIn Fence.wide 3 Try.prog 18 #[.slice a len cap, .int .i64 x, .int .i64 y] w fun e w' => e = .returned (.tuple #[.agg #[.int .i64 (backL xs ⟨x, y, 1⟩).X, .int .i64 (backL xs ⟨x, y, 1⟩).Y, .int .i64 (backL xs ⟨x, y, 1⟩).Den], .bool true]) ∧ Below w.heap.size w w' := by
  have S := Lib.hid h
  clear h
  have C := Lib.hid hc
  have P := Lib.hid hp
  have L4 := Lib.hid (chOk_iff.1 hc).2
  clear hc hp
  have Z := Lib.hid (HBSpot.new w spot0 _ rfl)
  have B0 := Lib.hid (bel_al1 w (.cells #[.int .i64 spot0.X, .int .i64 spot0.Y, .int .i64 spot0.Den] 28))
  refine callsIn_of_wp_marks Try.func18 rfl trivial ?_ rfl
  simp only [Try.ntmps18, List.size_toArray, List.length_cons, List.length_nil, Nat.reduceAdd, Nat.reduceSub, Array.replicate_succ, Array.replicate_zero, List.push_toArray, List.append_toArray, List.nil_append, List.cons_append]
  gi_wp2_with (refine ⟨trivial, ?_⟩; first
    | (gi_at_call 52; refine (callsIn_wide.2 (isChain_any _ _ _ xs _ (S.out.below B0.out))).mono ?_; rintro e w1 ⟨rfl, hb1⟩; rw [C.out]; have HB1 := Lib.hid (Nat.lt_of_lt_of_le Z.out.lt hb1.size); have ZA := Lib.hid hb1; have B1 := Lib.hid (Below.then' B0.out hb1); clear hb1)
    | (gi_at_call 53; refine (callsIn_wide.2 (isPlace_any x y _)).mono ?_; rintro e w2 ⟨rfl, hb2⟩; rw [P.out]; have HB2 := Lib.hid (Nat.lt_of_lt_of_le HB1.out hb2.size); have ZB := Lib.hid (Below.then' ZA.out hb2); have B2 := Lib.hid (Below.then' B1.out hb2); clear hb2)
    | (gi_at_call 58; refine (backward_in _ _ _ _ _).mono ?_; rintro e w3 ⟨rfl, rfl⟩))
  obtain ⟨W0, hW0⟩ : ∃ W0, (w2.alloc (.cells #[.int .i64 x, .int .i64 y, .int .i64 1] 28)).alloc (.cells #[.slice a len cap] 24) = W0 := ⟨_, rfl⟩
  have q0 : W0.heap.size = w2.heap.size + 2 := by rw [← hW0]; simp
  have q1 : HBSpot W0 w2.heap.size ⟨x, y, 1⟩ := by rw [← hW0]; exact (HBSpot.new w2 ⟨x, y, 1⟩ _ rfl).alloc _
  have q2 : W0.cell? ⟨w2.heap.size + 1, 0, none⟩ = some (.slice a len cap) := by
    rw [← hW0]
    simp
  have q4 : Below w2.heap.size w2 W0 := by rw [← hW0]; exact bel_al2 _ _ _
  have q5 := B2.out.size
  have q7 := HB2.out
  rw [hW0]
  clear hW0
  refine wpIn_rangeFunc_ownH rfl (by omega) (gf := 89) (lb := #[.pointer (some ⟨w2.heap.size + 1, 0, none⟩)]) rfl trivial (enters_of Try.func89 (by kernel_rfl) rfl)
    (back_stops 2 (by omega) (w2.heap.size + 1) a len cap xs w2 W0 (S.out.below B2.out) (chOk_iff.1 C.out).1 q4 q2 (by omega)) KeepsB.trans (KeepsB.put (by omega) (by omega)) (Below.refl _ _) (fun _ => rfl)
    (fun pre W => HBSpot W w2.heap.size (foldT pre ⟨x, y, 1⟩) ∧ Below w2.heap.size w2 W ∧ w2.heap.size + 2 ≤ W.heap.size)
    (fun _ _ _ => False)
    (OwnFrom.and (Own.from (show Own (fun (pre : List Turned) W => HBSpot W w2.heap.size (foldT pre ⟨x, y, 1⟩)) from fun s A B row hs hg hr => HBSpot.own hs hg hr) _) (OwnFrom.and (ownFrom_below (Nat.le_refl _) (by omega)) (fun _ _ _ _ hs hg _ => Nat.le_trans hs hg.size)))
    (fun _ _ _ _ _ hs _ _ => hs)
    ⟨q1, q4, by omega⟩
    (fun z a' W => ∃ Bx, w2.heap.size + 1 < Bx ∧ HBGridTurn W Bx z.1.2 ∧ a' = { tmps := #[.slice a len cap, .int .i64 x, .int .i64 y, undef, undef, undef, .pointer (some ⟨w.heap.size, 0, none⟩), .bool false, .pointer (some ⟨w2.heap.size, 0, none⟩), undef, .pointer (some ⟨Bx, 0, none⟩), .slice a len cap, .bool true, .bool false, .bool false, .int .i64 x, .int .i64 y, .bool true, .bool false, .bool false, undef, .int .i64 x, .int .i64 y, .agg #[.int .i64 x, .int .i64 y, .int .i64 1], .slice a len cap, .func (.func 89) #[] #[.pointer (some ⟨w2.heap.size + 1, 0, none⟩)], .int .i64 z.1.1, .agg #[.int .i64 z.1.2.Quarters, .int .i64 z.1.2.Num, .int .i64 z.1.2.Den, .int .i64 z.1.2.East, .int .i64 z.1.2.North], undef, undef, undef, undef], defers := [] })
    (fun z a' _ X Y row hs hg hr => by obtain ⟨Bx, h1, h2, h3⟩ := hs; exact ⟨Bx, h1, HBGridTurn.own h2 hg (fun r e => (hr r e).2), h3⟩)
    ?assign ?body ?done ?stop
  case assign =>
    rintro l pre z W K ⟨bS1, hB1, hB2⟩ hK
    have hsz := hB1.size
    unfold encT
    gi_wp2
    exact hK _ _ ((KeepsOthers.alloc _ _).from _) ⟨(Below.refl _ W).alloc hsz _, Below.heap_alloc _ _ _ (by omega)⟩ ⟨bS1.alloc _, hB1.alloc hsz _, by simp; omega⟩ ⟨W.heap.size, by omega, HBGridTurn.new W z.1.2 _ rfl, rfl⟩
  case body =>
    rintro l pre z a' W hl ⟨r, hr⟩ ⟨bS1, hB1, hB2⟩ ⟨Bx, hBx, bX, rfl⟩ hlt
    have MID := Lib.hid (foldT_mid (pre := pre) (by have := L4.out; omega) P.out)
    have FS := Lib.hid (foldT_snoc pre z ⟨x, y, 1⟩)
    obtain ⟨s, hs⟩ : ∃ s, foldT pre ⟨x, y, 1⟩ = s := ⟨_, rfl⟩
    rw [hs] at bS1 MID FS
    clear hs hr
    obtain ⟨c0, c1, c2, c3, c4⟩ := bX.cells
    obtain ⟨d0, d1, d2⟩ := bS1.cells
    have hsz := hB1.size
    have hls := bS1.lt
    have H1 := Lib.hid bS1
    have HB := Lib.hid hB1
    obtain ⟨r, hr⟩ : ∃ r, spotBack z.1.2 s = r := ⟨_, rfl⟩
    have R := Lib.hid hr
    clear bS1 hB1 bX hr
    gi_wp2_with (refine ⟨trivial, ?_⟩; gi_at_call 59; refine (CallsIn.inRound l (callsIn_wide.2 (beforeTurn_any z.1.2 s _ z.2 MID.out))).mono ?_; rintro e w4 ⟨rfl, hb4⟩; rw [R.out]; have Y1 := H1.out.below hb4; have e0 := Y1.free 0; have e1 := Y1.free 1; have e2 := Y1.free 2; obtain ⟨f0, f1, f2⟩ := Y1.cells; have Y2 := Lib.hid Y1; have HB4 := Lib.hid hb4; clear hb4 Y1 c0 c1 c2 c3 c4 d0 d1 d2)
    have hs4 := HB4.out.size
    refine ⟨((keeps_all HB4.out).trans (((KeepsOthers.setCell _ _ _).trans (KeepsOthers.setCell _ _ _)).trans (KeepsOthers.setCell _ _ _))).from _, ⟨?_, ?_⟩, ?_, ?_, ?_⟩
    · exact (((HB4.out.mono hsz).setCell (p := ⟨w2.heap.size, 0, none⟩) (by simp) _).setCell (p := ⟨w2.heap.size, 1, none⟩) (by simp) _).setCell (p := ⟨w2.heap.size, 2, none⟩) (by simp) _
    · rw [heap_setCell_other _ ⟨w2.heap.size, 2, none⟩ (w2.heap.size + 1) _ (by simp), heap_setCell_other _ ⟨w2.heap.size, 1, none⟩ (w2.heap.size + 1) _ (by simp), heap_setCell_other _ ⟨w2.heap.size, 0, none⟩ (w2.heap.size + 1) _ (by simp)]
      exact HB4.out.block _ (by omega)
    · rw [FS.out, R.out]; exact Y2.out.setAll r
    · exact (((HB.out.trans (HB4.out.mono hsz)).setCell (p := ⟨w2.heap.size, 0, none⟩) (by simp) _).setCell (p := ⟨w2.heap.size, 1, none⟩) (by simp) _).setCell (p := ⟨w2.heap.size, 2, none⟩) (by simp) _
    · simp; omega
  case done =>
    rintro D ys W hD hys ⟨bS1, hB1, hB2⟩ hK
    have hf : foldT ys ⟨x, y, 1⟩ = backL xs ⟨x, y, 1⟩ := by rw [foldT_back, hys, List.reverse_reverse]
    rw [hf] at bS1
    have ZF := (Z.out.below ZB.out).below hB1
    obtain ⟨r, hr⟩ : ∃ r, backL xs ⟨x, y, 1⟩ = r := ⟨_, rfl⟩
    rw [hr] at bS1
    have R := Lib.hid hr
    clear hf hr hys
    obtain ⟨d0, d1, d2⟩ := bS1.cells
    have e0 := ZF.free 0
    have e1 := ZF.free 1
    have e2 := ZF.free 2
    obtain ⟨f0, f1, f2⟩ := ZF.cells
    have Z2 := Lib.hid ZF
    have H1 := Lib.hid bS1
    have HB := Lib.hid hB1
    have HK := Lib.hid hK
    clear bS1 hB1 hK ZF
    have ZW := Lib.hid (Z2.out.setAll r)
    gi_wp2
    obtain ⟨W5, hW5⟩ : ∃ W5, ((W.setCell ⟨w.heap.size, 0, none⟩ (.int .i64 r.X)).setCell ⟨w.heap.size, 1, none⟩ (.int .i64 r.Y)).setCell ⟨w.heap.size, 2, none⟩ (.int .i64 r.Den) = W5 := ⟨_, rfl⟩
    have hK5 : W5.heap[D]? = some (.deferred (some [])) := by
      rw [← hW5, heap_setCell_other _ ⟨w.heap.size, 2, none⟩ D _ (by simp; omega), heap_setCell_other _ ⟨w.heap.size, 1, none⟩ D _ (by simp; omega), heap_setCell_other _ ⟨w.heap.size, 0, none⟩ D _ (by simp; omega)]
      exact HK.out
    have hB5 : Below w.heap.size w W5 := by
      rw [← hW5]
      exact (((B2.out.trans (HB.out.mono B2.out.size)).setCell (p := ⟨w.heap.size, 0, none⟩) (by simp) _).setCell (p := ⟨w.heap.size, 1, none⟩) (by simp) _).setCell (p := ⟨w.heap.size, 2, none⟩) (by simp) _
    have hZ5 : HBSpot W5 w.heap.size r := by rw [← hW5]; exact ZW.out
    rw [hW5]
    clear hW5
    refine ⟨by simp, .inl ⟨_, _, rfl, run_takeDeferred hK5, ?_⟩⟩
    exact ⟨_, resultsSpot2 rfl rfl rfl (hZ5.grown (grownBy_putObj' W5 D (.deferred none)) (by simp; omega)), ret_sb R.out.symm rfl, hB5.trans (belowK_b (w := w) (Nat.le_refl _) W5 D _ _ (by omega) hK5 rfl rfl)⟩
  case stop =>
    rintro D c pre W _ _ h _
    exact h.elim

set_option maxHeartbeats 3200000 in
set_option maxRecDepth 100000 in
theorem implTurnBack_any (a : Option Addr) (len cap : Nat) (xs : List VGridTurn) (x y : Int) (w : World) (h : IsGridTurnS w a len cap xs) (_ : xs.length ≤ 1048576) :
    Calls Try.prog 18 #[.slice a len cap, .int .i64 x, .int .i64 y] w (TurnBack_Post xs x y w) := by
  have S := Lib.hid h
  clear h
  have Z := Lib.hid (HBSpot.new w spot0 _ rfl)
  have B0 := Lib.hid (bel_al1 w (.cells #[.int .i64 spot0.X, .int .i64 spot0.Y, .int .i64 spot0.Den] 28))
  obtain ⟨c, hc⟩ : ∃ c, chOk xs = c := ⟨_, rfl⟩
  obtain ⟨p, hp⟩ : ∃ p, placeB x y = p := ⟨_, rfl⟩
  have V1 := Lib.hid (show TurnBack_1 xs x y = (c && p) by unfold TurnBack_1; rw [hc, hp])
  have C := Lib.hid hc
  have P := Lib.hid hp
  clear hc hp
  by_cases hy : (c && p) = true
  · have hyy : c = true ∧ p = true := by simpa using hy
    obtain ⟨rfl, rfl⟩ := hyy
    have V0 : TurnBack_0 xs x y = backL xs ⟨x, y, 1⟩ := by unfold TurnBack_0; rw [V1.out]; rfl
    refine (callsIn_wide.1 (implTurnBack_yes a len cap xs x y w S.out C.out P.out)).mono ?_
    rintro e w' ⟨rfl, hb⟩
    exact ⟨ret_sb V0.symm V1.out.symm, hb⟩
  have NY := Lib.hid (show (c && p) ≠ true from hy)
  clear hy
  go_enter Try.func18, Try.ntmps18
  go_wp2_with fail
  refine (isChain_any _ _ _ xs _ (S.out.below B0.out)).mono ?_
  rintro e w1 ⟨rfl, hb⟩
  rw [C.out]
  have B1 := Lib.hid (Below.then' B0.out hb)
  have Z1 := Z.out.below hb
  cases c
  · have V0 := Lib.hid (show TurnBack_0 xs x y = spot0 by unfold TurnBack_0; rw [V1.out]; rfl)
    obtain ⟨z0, z1, z2⟩ := Z1.cells
    have f0 := Z1.free 0
    have f1 := Z1.free 1
    have f2 := Z1.free 2
    have ZW := Lib.hid (Z1.setAll spot0)
    clear hb Z1
    go_wp2
    refine bodyPost_ret (resultsSpot2 rfl rfl rfl ZW.out) rfl ⟨ret_sb V0.out.symm V1.out.symm, ?_⟩
    exact (((B1.out).setCell (by simp) _).setCell (by simp) _).setCell (by simp) _
  have ZH := Lib.hid Z1
  clear hb Z1
  go_wp2_with fail
  refine (isPlace_any x y _).mono ?_
  rintro e w2 ⟨rfl, hb⟩
  rw [P.out]
  have B2 := Lib.hid (Below.then' B1.out hb)
  have Z2 := ZH.out.below hb
  cases p
  · have V0 := Lib.hid (show TurnBack_0 xs x y = spot0 by unfold TurnBack_0; rw [V1.out]; rfl)
    obtain ⟨z0, z1, z2⟩ := Z2.cells
    have f0 := Z2.free 0
    have f1 := Z2.free 1
    have f2 := Z2.free 2
    have ZW := Lib.hid (Z2.setAll spot0)
    clear hb Z2
    go_wp2
    refine bodyPost_ret (resultsSpot2 rfl rfl rfl ZW.out) rfl ⟨ret_sb V0.out.symm V1.out.symm, ?_⟩
    exact (((B2.out).setCell (by simp) _).setCell (by simp) _).setCell (by simp) _
  exact absurd rfl NY.out
end Go.Proofs.Ytghgipadogdfiaa
