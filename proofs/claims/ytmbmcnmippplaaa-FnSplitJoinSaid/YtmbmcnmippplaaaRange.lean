/- SplitString of the program: its iterator partsOf gives the parts of a text in order; the loop over it collects a copy of each. -/
import Derived.Test.YtmbmcnmippplaaaSplit
import Derived.Test.YtmbmcnmippplaaaJoin
import Derived.RangeFuncNested
import Derived.RangeFuncBound
import Derived.RangeFuncCalls
import Derived.RangeFuncLeaves
import Derived.RangeFuncBox
import Derived.Shelf.Abstract
import Derived.Shelf.RegionOpen
import Derived.WalkKit
import Derived.OwnWalkIn
import Derived.TacticsInMore
import Derived.LoopNIn
import Derived.LoopIn
import Derived.Sort.QuietIn
import Derived.Stop.RegionWithIn
import Derived.Maps.AppendAt
namespace Go.Proofs.Ytmbmcnmippplaaa
open Go.RowKit Go.Shelf
attribute [local go_sem] Oper.semAt_some

/-- What a round keeps: the two boxes that the iterator has captured. -/
def KeepsTwo (b1 b2 : Nat) (W W' : World) : Prop := W'.heap[b1]? = W.heap[b1]? ∧ W'.heap[b2]? = W.heap[b2]?
theorem KeepsTwo.trans {b1 b2 : Nat} {A B C : World} (h : KeepsTwo b1 b2 A B) (k : KeepsTwo b1 b2 B C) : KeepsTwo b1 b2 A C := ⟨k.1.trans h.1, k.2.trans h.2⟩
theorem KeepsTwo.put {b1 b2 : Nat} {w : World} (h1 : b1 < w.heap.size) (h2 : b2 < w.heap.size) (W : World) (l : Nat) (o o' : Obj) (hl : w.heap.size ≤ l) (_ : W.heap[l]? = some o) (_ : o.isCells = false) (_ : o.isWalk = false) : KeepsTwo b1 b2 W (W.putObj l o') :=
  ⟨World.putObj_heap_other (by omega), World.putObj_heap_other (by omega)⟩

/-- A part: a text no longer than what may be split. -/
abbrev Part := { x : ByteArray // x.size ≤ 4000 }
theorem part_size (s : ByteArray) (a b : Nat) (h : s.size ≤ 4000) : (s.extract a b).size ≤ 4000 := by rw [ByteArray.size_extract]; omega

set_option maxRecDepth 100000 in
set_option maxHeartbeats 2000000 in
/-- The iterator's contract: for every loop body that keeps its two boxes, the parts come in order. -/
theorem parts_stops (n : Nat) (hn : 1 ≤ n) (b1 b2 : Nat) (s : ByteArray) (cv : Int) (w : World) (hs : s.size ≤ 4000)
    (h1 : w.cell? ⟨b1, 0, none⟩ = some (.string s)) (h2 : w.cell? ⟨b2, 0, none⟩ = some (.int .u8 cv)) (hb1 : b1 < w.heap.size) (hb2 : b2 < w.heap.size) :
    SeqStopsK Fence.wide n Try.prog 37 #[.pointer (some ⟨b1, 0, none⟩), .pointer (some ⟨b2, 0, none⟩)] (fun x : Part => #[.string x.1]) (KeepsTwo b1 b2) (fun xs => xs.map (·.1) = splitR s cv 0 0) (fun _ => True) (splitR s cv 0 0).length w := fun l J Jx W hW hJ hJx hY h0 => by
  have c1 : W.cell? ⟨b1, 0, none⟩ = some (.string s) := (hW.cell (p := ⟨b1, 0, none⟩) hb1).trans h1
  have c2 : W.cell? ⟨b2, 0, none⟩ = some (.int .u8 cv) := (hW.cell (p := ⟨b2, 0, none⟩) hb2).trans h2
  clear h1 h2
  refine callsIn_of_wp Try.func37 rfl trivial ?_ rfl
  simp only [Try.ntmps37, List.size_toArray, List.length_cons, List.length_nil, Nat.reduceAdd, Nat.reduceSub, Array.replicate_succ, Array.replicate_zero, List.push_toArray, List.append_toArray, List.nil_append, List.cons_append]
  gi_wp2
  gi_loopw [4, 5, 8] (fun f _ i wr => ∃ (k fr : Nat) (pre : List Part), k ≤ s.size ∧ fr ≤ k ∧ i = .int .i64 k ∧ f = .int .i64 fr ∧ pre.map (·.1) ++ splitR s cv fr k = splitR s cv 0 0 ∧ J pre wr ∧ wr.cell? ⟨b1, 0, none⟩ = some (.string s) ∧ wr.cell? ⟨b2, 0, none⟩ = some (.int .u8 cv)) (fun _ _ i _ => s.size - (intOf i).toNat)
  case atStart => exact ⟨0, 0, [], Nat.zero_le _, Nat.zero_le _, rfl, rfl, rfl, h0, c1, c2⟩
  case round =>
    obtain ⟨k, fr, pre, hk, hf', rfl, rfl, hsp, hJs, d1, d2⟩ := hrel
    have S := Lib.hid hsp
    have JS := Lib.hid hJs
    clear hsp hJs
    have hi0 : (0 : Int) ≤ (k : Int) := by omega
    have hlen : pre.length < (splitR s cv 0 0).length := by
      have h1 := (splitR_len s cv _ fr k rfl hk).1
      have h2 := congrArg List.length S.out
      rw [List.length_append, List.length_map] at h2
      omega
    by_cases hlt : k < s.size
    · have hi1 : (k : Int) < (s.size : Int) := by omega
      by_cases hc : (s[k].toNat : Int) = cv
      · have hc' : ((s[k].toNat : Int) == cv) = true := by simpa using hc
        have C := Lib.hid hc
        clear hc
        gi_wp2
        gi_quiet (fail)
        have hJ2 : J pre (wr.drewN nq) := hJ _ _ _ none JS.out ⟨rfl, rfl, rfl, Nat.le_refl _, fun _ _ _ => rfl⟩ (fun r e => by cases e)
        obtain ⟨fn, tmps, assign, body, hy, hR⟩ := hY pre ⟨s.extract fr k, part_size s fr k hs⟩ (wr.drewN nq) hJ2 hlen
        gi_wp2
        refine hR.mono ?_
        rintro e W3 (⟨rfl, hJ3, hk3⟩ | ⟨rfl, hJx3⟩)
        · have e1 : W3.cell? ⟨b1, 0, none⟩ = some (.string s) := by rw [World.cell?_of_block (w := wr) (a := ⟨b1, 0, none⟩) hk3.1]; exact d1
          have e2 : W3.cell? ⟨b2, 0, none⟩ = some (.int .u8 cv) := by rw [World.cell?_of_block (w := wr) (a := ⟨b2, 0, none⟩) hk3.2]; exact d2
          gi_wp2
          go_roundw
          case rel => exact ⟨k + 1, k + 1, pre ++ [⟨s.extract fr k, part_size s fr k hs⟩], by omega, by omega, by go_num, by go_num, by rw [← S.out, splitR_hit hlt C.out]; simp, hJ3, e1, e2⟩
          case measure => simp [intOf]; omega
        · gi_wp2
          refine bodyPost_ret (results_none rfl _ _ _) rfl ?_
          exact ⟨⟨_, rfl⟩, .inr ⟨_, trivial, hJx3⟩⟩
      · have hc' : ((s[k].toNat : Int) == cv) = false := by simpa using hc
        have C := Lib.hid hc
        clear hc
        gi_wp2
        gi_quiet (fail)
        have hJ2 : J pre (wr.drewN nq) := hJ _ _ _ none JS.out ⟨rfl, rfl, rfl, Nat.le_refl _, fun _ _ _ => rfl⟩ (fun r e => by cases e)
        have J2 := Lib.hid hJ2
        clear hJ2
        gi_wp2
        go_roundw
        case rel => exact ⟨k + 1, fr, pre, by omega, by omega, by go_num, rfl, by rw [← S.out, splitR_miss hlt C.out], J2.out, d1, d2⟩
        case measure => simp [intOf]; omega
    · obtain rfl : k = s.size := by omega
      obtain ⟨fn, tmps, assign, body, hy, hR⟩ := hY pre ⟨s.extract fr s.size, part_size s fr s.size hs⟩ wr JS.out hlen
      have E := S.out
      rw [splitR_end] at E
      have EE := Lib.hid E
      clear E
      gi_wp2
      refine hR.mono ?_
      rintro e W3 (⟨rfl, hJ3, hk3⟩ | ⟨rfl, hJx3⟩)
      · gi_wp2
        go_end0
        exact ⟨⟨_, rfl⟩, .inl ⟨_, by rw [List.map_append]; exact EE.out, hJ3⟩⟩
      · gi_wp2
        go_end0
        exact ⟨⟨_, rfl⟩, .inr ⟨_, trivial, hJx3⟩⟩

theorem partsOf_in (n : Nat) (s : ByteArray) (cv : Int) (w : World) :
    CallsIn Fence.wide n Try.prog 27 #[.string s, .int .u8 cv] w fun e w' => e = .returned (.func (.func 37) #[] #[.pointer (some ⟨w.heap.size, 0, none⟩), .pointer (some ⟨w.heap.size + 1, 0, none⟩)]) ∧ w' = (w.alloc (.cells #[.string s] 9)).alloc (.cells #[.int .u8 cv] 5) := by
  refine callsIn_wide.2 ?_
  go_enter Try.func27, Try.ntmps27
  go_wp2
  go_ret
  exact ⟨rfl, rfl⟩

theorem keeps_below {W w1 : World} (h : Below W.heap.size W w1) : KeepsOthers W w1 := ⟨h.size, fun k _ hk _ => (h.block k (Array.getElem?_eq_some_iff.1 hk).1).trans hk⟩

/-- What stands behind 'parts = append(parts, x)': the box holds the longer row; nothing else below the row's base has turned but the box. -/
structure AppDone (W W' : World) (bp m n₀ : Nat) (v' : Value) (pre : List ByteArray) (x : ByteArray) : Prop where
  box : Boxed W' bp 26 v'
  row : W'.ownsRow n₀ 9 1 v' (pre ++ [x]).length ((pre ++ [x]).map Value.string)
  keeps : KeepsOthers W W'
  below : Below m W W'
  others : ∀ j, j < n₀ → j ≠ bp → W'.heap[j]? = W.heap[j]?
theorem append_ready {W w1 : World} {n₀ m bp : Nat} {v : Value} {pre : List ByteArray} {x : ByteArray} (hbox : Boxed W bp 26 v) (hrow : W.ownsRow n₀ 9 1 v pre.length (pre.map Value.string))
    (hn₀ : n₀ ≤ W.heap.size) (hm : m ≤ n₀) (hmb : m ≤ bp) (hlen : pre.length ≤ 5000) (hb : Below W.heap.size W w1) :
    ∃ g cap w2, (Builtin.append_ #[26, 26] 26 #[v, .slice (some ⟨w1.heap.size, 0, none⟩) 1 1]).run Try.prog (w1.alloc (.cells #[.string x] 9)) = .ok (.slice (some ⟨g, 0, none⟩) (pre.length + 1) cap) w2 ∧
      w1.cell? ⟨bp, 0, none⟩ = some v ∧ (w1.alloc (.cells #[.string x] 9)).cell? ⟨bp, 0, none⟩ = some v ∧ w2.cell? ⟨bp, 0, none⟩ = some v ∧ w2.frozen? ⟨bp, 0, none⟩ = false ∧ AppDone W (w2.setCell ⟨bp, 0, none⟩ (.slice (some ⟨g, 0, none⟩) (pre.length + 1) cap)) bp m n₀ (.slice (some ⟨g, 0, none⟩) (pre.length + 1) cap) pre x := by
  obtain ⟨i0, hi, hz0, hz1, hz2⟩ := info_parts infoStr
  have hbox1 : Boxed w1 bp 26 v := (hb.block bp hbox.lt).trans hbox
  have hrow1 := ownsRow_below hrow hb
  have hsz := hb.size
  obtain ⟨v', w2, hrun, hown, hgrow, _⟩ := run_append_own (P := Try.prog) (w1.alloc (.cells #[.string x] 9)) n₀ 26 26 9 i0 (.string ByteArray.empty) 1 16 Try.underlying26 hi hz0 hz1 hz2 rfl (by decide) v pre.length (pre.map Value.string) (hrow1.alloc _) ⟨w1.heap.size, 0, none⟩ 1 1 [.string x] rfl (cell_one _ _ _) (fun u hu => by simp at hu; subst hu; rfl) (by unfold maxLen; omega) (by omega) (by simp; omega)
  obtain ⟨g, cap, rfl⟩ := ownsRow_succ hown
  have hte : (26 : TypeId) ≠ 9 := by decide
  have hv2 : Boxed w2 bp 26 v := (hbox1.alloc (.cells #[.string x] 9)).kept hgrow (Boxed.not_row (hbox1.alloc (.cells #[.string x] 9)) hte (hrow1.alloc (.cells #[.string x] 9)))
  refine ⟨g, cap, w2, hrun, hbox1.cell, (hbox1.alloc (.cells #[.string x] 9)).cell, hv2.cell, hv2.frozen, ?_⟩
  have hlt := hrow1.lt
  have hv3 := hv2.set (.slice (some ⟨g, 0, none⟩) (pre.length + 1) cap)
  refine ⟨hv3, ?_, ?_, ?_, ?_⟩
  · have := hown.kept (grownBy_setCell' w2 bp (.slice (some ⟨g, 0, none⟩) (pre.length + 1) cap)) (.inr (hv2.not_row hte hown).symm)
    simpa using this
  · refine (keeps_below hb).trans (((KeepsOthers.alloc w1 _).trans (KeepsOthers.of_grownBy hgrow fun j o ej hj => ?_)).trans (KeepsOthers.setCell _ _ _))
    rcases (hrow1.alloc (.cells #[.string x] 9)).2 with ⟨rfl, _⟩ | ⟨g', cap', cur, rfl, _, hgb, _⟩
    · simp [Value.ownBlock] at ej
    · obtain rfl : g' = j := by simpa [Value.ownBlock] using ej
      rw [hgb] at hj; cases hj; rfl
  · refine (((hb.mono (by omega)).alloc (by omega) _).grown hgrow (by simp; omega) fun j ej => ?_).setCell (p := ⟨bp, 0, none⟩) hmb _
    have := (hlt j ej).1; omega
  · intro j hj hne
    rw [Below.heap_setCell w2 ⟨bp, 0, none⟩ _ j hne, hgrow.block j (by simp; omega) (fun e => by have := (hlt j e.symm).1; omega), Below.heap_alloc w1 _ j (by omega), hb.block j (by omega)]

/-- An append, as one step of a region that draws its order, in a round of the loop. -/
theorem stepIn_run {l n : Nat} {ops : Array Oper} {o : Oper} {a : Act} {w w' : World} {K : Act → World → Prop} {Q : Exit → Act → World → Prop} {E : Prop}
    (hg : o.guard = none) (s x : Operand) (t : TypeId) (hop : o.op = Op.call { callee := Callee.builtin Builtin.append, args := #[s, x], argTypes := #[t, t] }) (v xv v' : Value)
    (hs : a.eval s = v) (hx : a.eval x = xv) (hrun : (Builtin.append_ #[t, t] o.type #[v, xv]).run Try.prog w = .ok v' w') (hK : K (a.put o.dst v') w') :
    if Region.wanted o (yielded ops a.tmps) = true then Oper.wpIn (Fence.wide.inRound l) n Try.prog o a w K Q else E := by
  have hw : Region.wanted o (yielded ops a.tmps) = true := by simp [Region.wanted, hg]
  rw [if_pos hw]
  unfold Oper.wpIn
  refine ⟨fun _ _ => trivial, ?_⟩
  rw [Oper.semAt_eq _ _ _ (fun c h => by rw [hop] at h; cases h)]
  simp [execOp, hop, resolve, invoke, builtin, hs, hx, hrun, Result.andThen]
  exact hK

set_option maxRecDepth 100000 in
set_option maxHeartbeats 4000000 in
theorem implSplit_in (s sep : ByteArray) (w : World) (hs : s.size ≤ 4000) (h1 : sep.size = 1) :
    CallsIn Fence.wide 3 Try.prog 10 #[.string s, .string sep] w fun e w' => ∃ v, e = .returned (.tuple #[v, .bool true]) ∧ w'.ownsRow w.heap.size 9 1 v (splitR s (cvOf sep) 0 0).length ((splitR s (cvOf sep) 0 0).map Value.string) ∧ Below w.heap.size w w' := by
  have CV := Lib.hid (cvOf_at sep (by omega))
  have hlong : decide (4000 < (s.size : Int)) = false := by simp; omega
  have hN := (splitR_len s (cvOf sep) _ 0 0 rfl (by omega)).2
  have hmx : Try.prog.follows .mixedOrders = true := by kernel_rfl
  refine callsIn_of_wp_marks Try.func10 rfl trivial ?_ rfl
  simp only [Try.ntmps10, List.size_toArray, List.length_cons, List.length_nil, Nat.reduceAdd, Nat.reduceSub, Array.replicate_succ, Array.replicate_zero, List.push_toArray, List.append_toArray, List.nil_append, List.cons_append]
  gi_wp2_with (refine ⟨trivial, ?_⟩; gi_at_call 27; refine (partsOf_in _ _ _ _).mono ?_; rw [CV.out]; rintro e w' ⟨rfl, rfl⟩)
  obtain ⟨W0, hW0⟩ : ∃ W0, ((w.alloc (.cells #[.slice none 0 0] 26)).alloc (.cells #[.string s] 9)).alloc (.cells #[.int .u8 (cvOf sep)] 5) = W0 := ⟨_, rfl⟩
  have q0 : W0.heap.size = w.heap.size + 3 := by rw [← hW0]; simp
  have q1 : Boxed W0 w.heap.size 26 (.slice none 0 0) := by rw [← hW0]; exact ((Boxed.new w _ _).alloc _).alloc _
  have q2 : Boxed W0 (w.heap.size + 1) 9 (.string s) := by
    rw [← hW0]
    have := (Boxed.new (w.alloc (.cells #[.slice none 0 0] 26)) 9 (.string s)).alloc (.cells #[.int .u8 (cvOf sep)] 5)
    simpa using this
  have q3 : Boxed W0 (w.heap.size + 1 + 1) 5 (.int .u8 (cvOf sep)) := by
    rw [← hW0]
    have := Boxed.new ((w.alloc (.cells #[.slice none 0 0] 26)).alloc (.cells #[.string s] 9)) 5 (.int .u8 (cvOf sep))
    simpa using this
  have q4 : Below w.heap.size w W0 := by rw [← hW0]; exact (((Below.refl _ w).alloc (Nat.le_refl _) _).alloc (by simp) _).alloc (by simp; omega) _
  rw [hW0]
  clear hW0
  refine wpIn_rangeFunc_ownF rfl (by omega) (gf := 37) (lb := #[.pointer (some ⟨w.heap.size + 1, 0, none⟩), .pointer (some ⟨w.heap.size + 1 + 1, 0, none⟩)]) rfl trivial (enters_of Try.func37 (by kernel_rfl) rfl)
    (parts_stops 2 (by omega) (w.heap.size + 1) (w.heap.size + 1 + 1) s (cvOf sep) W0 hs q2.cell q3.cell q2.lt q3.lt) KeepsTwo.trans (KeepsTwo.put q2.lt q3.lt) (Below.refl _ _) (fun _ => rfl)
    (fun pre W => (∃ v, Boxed W w.heap.size 26 v ∧ W.ownsRow (w.heap.size + 3) 9 1 v (pre.map (·.1)).length ((pre.map (·.1)).map Value.string) ∧ True) ∧ Below w.heap.size w W ∧ w.heap.size + 3 ≤ W.heap.size)
    (fun _ _ _ => False)
    ?hI (fun _ _ _ _ _ hs _ _ => hs) ⟨⟨_, q1, World.ownsRow_nil _ _ _ _, trivial⟩, q4, by omega⟩
    (fun x => { tmps := #[.string s, .string sep, undef, undef, .slice none 0 0, .bool false, .pointer (some ⟨w.heap.size, 0, none⟩), .string x.1, .string s, .int .i64 s.size, .bool false, .bool false, .string sep, .int .i64 1, .bool false, .bool false, .string s, .string sep, .int .u8 (cvOf sep), .func (.func 37) #[] #[.pointer (some ⟨w.heap.size + 1, 0, none⟩),   .pointer (some ⟨w.heap.size + 1 + 1, 0, none⟩)], .string x.1, undef, undef, undef, undef, undef, undef], defers := [] }) ?assign ?body ?done ?stop
  case hI =>
    exact OwnFrom.and (Own.from (holdsRow_own (w.heap.size + 3) w.heap.size 26 9 1 (fun pre : List Part => (pre.map (·.1)).length) (fun pre : List Part => (pre.map (·.1)).map Value.string) (fun _ _ => True)) _)
      (OwnFrom.and (ownFrom_below (Nat.le_refl _) (by omega)) (fun _ _ _ _ hs hg _ => Nat.le_trans hs hg.size))
  case assign =>
    intro l x W K hK
    gi_wp2
    exact hK
  case body =>
    rintro l pre x W ⟨⟨v, hbox, hrow, _⟩, hbel, hsz⟩ hlt
    have hcell := hbox.cell
    obtain ⟨ps, hps⟩ : ∃ ps : List ByteArray, pre.map (·.1) = ps := ⟨_, rfl⟩
    have hpl : ps.length ≤ 5000 := by rw [← hps, List.length_map]; omega
    rw [hps] at hrow
    have PS := Lib.hid hps
    clear hps
    have HB := Lib.hid hbox
    have HR := Lib.hid hrow
    have HL := Lib.hid hbel
    clear hbox hrow hbel
    have hx : x.1.size ≤ 1048576 := by have := x.2; omega
    have hb3 := HB.out.lt
    gi_wp2
    refine wpIn_region_any hmx ?_
    change wpAnyIn _ _ _ _ _ _ _ _ _ (World.drew _)
    refine wpAnyIn_ready (rs := [0, 1]) (by kernel_rfl) (by simp) ?_
    refine AllReadyIn.cons rfl (fun K hK => ?_) (AllReadyIn.cons rfl (fun K hK => ?_) AllReadyIn.nil)
    · go_simp
      refine hK _ _ ?_
      clear hK K
      refine wpAnyIn_ready (rs := [1]) (by kernel_rfl) (by simp) ?_
      refine AllReadyIn.cons rfl (fun K hK => ?_) AllReadyIn.nil
      go_simp
      refine hK _ _ ?_
      clear hK K
      refine wpAnyIn_ready (rs := [2]) (by kernel_rfl) (by simp) ?_
      refine AllReadyIn.cons rfl (fun K hK => ?_) AllReadyIn.nil
      go_simp
      refine ⟨trivial, ?_⟩
      refine (CallsIn.inRound l (callsIn_wide.2 (str_clone x.1 _ hx))).mono ?_
      rintro e w1 ⟨rfl, hb1⟩
      obtain ⟨g, cap, w2, hrun, hc1, hc1a, hc2, hf2, hdone⟩ := append_ready (m := w.heap.size) (x := x.1) HB.out HR.out hsz (by omega) (Nat.le_refl _) hpl ⟨hb1.os, hb1.tape, hb1.output, hb1.size, hb1.block⟩
      have DN := Lib.hid hdone
      have RN := Lib.hid hrun
      clear hdone hb1 hrun
      dsimp only
      refine hK _ _ ?_
      clear hK K
      refine wpAnyIn_ready (rs := [3]) (by kernel_rfl) (by simp) ?_
      refine AllReadyIn.cons rfl (fun K hK => ?_) AllReadyIn.nil
      go_simp
      refine hK _ _ ?_
      clear hK K
      refine wpAnyIn_ready (rs := [4]) (by kernel_rfl) (by simp) ?_
      refine AllReadyIn.cons rfl (fun K hK => ?_) AllReadyIn.nil
      refine stepIn_run rfl (.tmp 21) (.tmp 24) 26 rfl _ _ _ rfl rfl RN.out ?_
      go_simp
      refine hK _ _ ?_
      clear hK K
      refine wpAnyIn_ready (rs := [5]) (by kernel_rfl) (by simp) ?_
      refine AllReadyIn.cons rfl (fun K hK => ?_) AllReadyIn.nil
      go_simp
      refine hK _ _ ?_
      clear hK K
      refine wpAnyIn_done (by kernel_rfl) ?_ _
      gi_wp2
      exact ⟨DN.out.keeps, ⟨DN.out.others (w.heap.size + 1) (by omega) (by omega), DN.out.others (w.heap.size + 1 + 1) (by omega) (by omega)⟩, ⟨_, DN.out.box, by rw [List.map_append, PS.out]; exact DN.out.row, trivial⟩, HL.out.trans DN.out.below, Nat.le_trans hsz DN.out.below.size⟩
    · go_simp
      refine hK _ _ ?_
      clear hK K
      refine wpAnyIn_ready (rs := [0, 2]) (by kernel_rfl) (by simp) ?_
      refine AllReadyIn.cons rfl (fun K hK => ?_) (AllReadyIn.cons rfl (fun K hK => ?_) AllReadyIn.nil)
      · go_simp
        refine hK _ _ ?_
        clear hK K
        refine wpAnyIn_ready (rs := [2]) (by kernel_rfl) (by simp) ?_
        refine AllReadyIn.cons rfl (fun K hK => ?_) AllReadyIn.nil
        go_simp
        refine ⟨trivial, ?_⟩
        refine (CallsIn.inRound l (callsIn_wide.2 (str_clone x.1 _ hx))).mono ?_
        rintro e w1 ⟨rfl, hb1⟩
        obtain ⟨g, cap, w2, hrun, hc1, hc1a, hc2, hf2, hdone⟩ := append_ready (m := w.heap.size) (x := x.1) HB.out HR.out hsz (by omega) (Nat.le_refl _) hpl ⟨hb1.os, hb1.tape, hb1.output, hb1.size, hb1.block⟩
        have DN := Lib.hid hdone
        have RN := Lib.hid hrun
        clear hdone hb1 hrun
        dsimp only
        refine hK _ _ ?_
        clear hK K
        refine wpAnyIn_ready (rs := [3]) (by kernel_rfl) (by simp) ?_
        refine AllReadyIn.cons rfl (fun K hK => ?_) AllReadyIn.nil
        go_simp
        refine hK _ _ ?_
        clear hK K
        refine wpAnyIn_ready (rs := [4]) (by kernel_rfl) (by simp) ?_
        refine AllReadyIn.cons rfl (fun K hK => ?_) AllReadyIn.nil
        refine stepIn_run rfl (.tmp 21) (.tmp 24) 26 rfl _ _ _ rfl rfl RN.out ?_
        go_simp
        refine hK _ _ ?_
        clear hK K
        refine wpAnyIn_ready (rs := [5]) (by kernel_rfl) (by simp) ?_
        refine AllReadyIn.cons rfl (fun K hK => ?_) AllReadyIn.nil
        go_simp
        refine hK _ _ ?_
        clear hK K
        refine wpAnyIn_done (by kernel_rfl) ?_ _
        gi_wp2
        exact ⟨DN.out.keeps, ⟨DN.out.others (w.heap.size + 1) (by omega) (by omega), DN.out.others (w.heap.size + 1 + 1) (by omega) (by omega)⟩, ⟨_, DN.out.box, by rw [List.map_append, PS.out]; exact DN.out.row, trivial⟩, HL.out.trans DN.out.below, Nat.le_trans hsz DN.out.below.size⟩
      · go_simp
        refine ⟨trivial, ?_⟩
        refine (CallsIn.inRound l (callsIn_wide.2 (str_clone x.1 _ hx))).mono ?_
        rintro e w1 ⟨rfl, hb1⟩
        obtain ⟨g, cap, w2, hrun, hc1, hc1a, hc2, hf2, hdone⟩ := append_ready (m := w.heap.size) (x := x.1) HB.out HR.out hsz (by omega) (Nat.le_refl _) hpl ⟨hb1.os, hb1.tape, hb1.output, hb1.size, hb1.block⟩
        have DN := Lib.hid hdone
        have RN := Lib.hid hrun
        clear hdone hb1 hrun
        dsimp only
        refine hK _ _ ?_
        clear hK K
        refine wpAnyIn_ready (rs := [0, 3]) (by kernel_rfl) (by simp) ?_
        refine AllReadyIn.cons rfl (fun K hK => ?_) (AllReadyIn.cons rfl (fun K hK => ?_) AllReadyIn.nil)
        · go_simp
          refine hK _ _ ?_
          clear hK K
          refine wpAnyIn_ready (rs := [3]) (by kernel_rfl) (by simp) ?_
          refine AllReadyIn.cons rfl (fun K hK => ?_) AllReadyIn.nil
          go_simp
          refine hK _ _ ?_
          clear hK K
          refine wpAnyIn_ready (rs := [4]) (by kernel_rfl) (by simp) ?_
          refine AllReadyIn.cons rfl (fun K hK => ?_) AllReadyIn.nil
          refine stepIn_run rfl (.tmp 21) (.tmp 24) 26 rfl _ _ _ rfl rfl RN.out ?_
          go_simp
          refine hK _ _ ?_
          clear hK K
          refine wpAnyIn_ready (rs := [5]) (by kernel_rfl) (by simp) ?_
          refine AllReadyIn.cons rfl (fun K hK => ?_) AllReadyIn.nil
          go_simp
          refine hK _ _ ?_
          clear hK K
          refine wpAnyIn_done (by kernel_rfl) ?_ _
          gi_wp2
          exact ⟨DN.out.keeps, ⟨DN.out.others (w.heap.size + 1) (by omega) (by omega), DN.out.others (w.heap.size + 1 + 1) (by omega) (by omega)⟩, ⟨_, DN.out.box, by rw [List.map_append, PS.out]; exact DN.out.row, trivial⟩, HL.out.trans DN.out.below, Nat.le_trans hsz DN.out.below.size⟩
        · go_simp
          refine hK _ _ ?_
          clear hK K
          refine wpAnyIn_ready (rs := [0]) (by kernel_rfl) (by simp) ?_
          refine AllReadyIn.cons rfl (fun K hK => ?_) AllReadyIn.nil
          go_simp
          refine hK _ _ ?_
          clear hK K
          refine wpAnyIn_ready (rs := [4]) (by kernel_rfl) (by simp) ?_
          refine AllReadyIn.cons rfl (fun K hK => ?_) AllReadyIn.nil
          refine stepIn_run rfl (.tmp 21) (.tmp 24) 26 rfl _ _ _ rfl rfl RN.out ?_
          go_simp
          refine hK _ _ ?_
          clear hK K
          refine wpAnyIn_ready (rs := [5]) (by kernel_rfl) (by simp) ?_
          refine AllReadyIn.cons rfl (fun K hK => ?_) AllReadyIn.nil
          go_simp
          refine hK _ _ ?_
          clear hK K
          refine wpAnyIn_done (by kernel_rfl) ?_ _
          gi_wp2
          exact ⟨DN.out.keeps, ⟨DN.out.others (w.heap.size + 1) (by omega) (by omega), DN.out.others (w.heap.size + 1 + 1) (by omega) (by omega)⟩, ⟨_, DN.out.box, by rw [List.map_append, PS.out]; exact DN.out.row, trivial⟩, HL.out.trans DN.out.below, Nat.le_trans hsz DN.out.below.size⟩
  case done =>
    rintro D ys W hD hys ⟨⟨v, hbox, hrow, _⟩, hbel, hsz⟩ hK
    have hcell := hbox.cell
    rw [hys] at hrow
    have HR := Lib.hid hrow
    have HL := Lib.hid hbel
    clear hbox hrow hbel hys
    gi_wp2
    refine ⟨by simp, .inl ⟨_, _, rfl, run_takeDeferred hK, ?_⟩⟩
    refine ⟨_, results_tmp2 rfl _ _ _, ?_⟩
    exact ⟨v, rfl, ownsRow_base (ownsRow_putObj HR.out _ hK rfl) (by omega), HL.out.trans (belowK_b (w := w) (Nat.le_refl _) W D _ _ (by omega) hK rfl rfl)⟩
  case stop =>
    rintro D c pre W _ _ h _
    exact h.elim
end Go.Proofs.Ytmbmcnmippplaaa
