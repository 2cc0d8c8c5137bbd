/- Texts in one: CatchmentP, GreatestRiverP, Wi10, Qtail, Arr2, Vp, Grd, Cur. -/
import Derived.Test.YtpnaciamnigbnaaM3
import Derived.Test.YtpnaciamnigbnaaM6
import Derived.Test.YtpnaciamnigbnaaM2
import Derived.StillTail
import Derived.Laws.OwnMore
import Derived.Deep.AppendLies
import Derived.Test.YtpnaciamnigbnaaM1
import Derived.WalkLawsBesides
namespace Go.Proofs.Ytpnaciamnigbnaa
open Go.RowKit
def Catchment_Post (z0 : List VIntS) (z1 : Int) (z2 : Int) (w : World) (e : Ending) (w' : World) : Prop :=
  e = .returned (.tuple #[.int .i64 (Catchment_0 z0 z1 z2), .bool (Catchment_1 z0 z1 z2)]) ∧ Below w.heap.size w w'
end Go.Proofs.Ytpnaciamnigbnaa
namespace Go.Proofs.Ytpnaciamnigbnaa
open Go.RowKit
def GreatestRiver_Post (z0 : List VIntS) (w : World) (e : Ending) (w' : World) : Prop :=
  e = .returned (.tuple #[.int .i64 (GreatestRiver_0 z0), .int .i64 (GreatestRiver_1 z0), .bool (GreatestRiver_2 z0)]) ∧ Below w.heap.size w w'
end Go.Proofs.Ytpnaciamnigbnaa
namespace Go.Proofs.Ytpnaciamnigbnaa
open Go.RowKit

def rowC (L : Sq → Int) (r : Nat) : Array Value := (arrC L).extract (r * 8) (r * 8 + 8)
theorem rowC_at (L : Sq → Int) {r c : Nat} (hr : r < 8) (hc : c < 8) : (rowC L r)[c]? = some (.int .i64 (L (r, c))) := by
  unfold rowC
  rw [Array.getElem?_extract]
  rw [arrC_size, if_pos (by omega)]
  simp [arrC, intCells, numsOf_at L hr hc]
theorem rowC_eq (L : Sq → Int) (r : Nat) (hr : r < 8) : rowC L r = (intCells ((List.range 8).map fun c => L (r, c))).toArray := by
  apply Array.ext_getElem?
  intro i
  by_cases hi : i < 8
  · rw [rowC_at L hr hi]
    simp [intCells, hi]
  · rw [Array.getElem?_eq_none (by simp [rowC, arrC_size]; omega), Array.getElem?_eq_none (by simp [intCells]; omega)]
theorem idx_arr (L : Sq → Int) {r : Nat} (hr : r < 8) (w : World) : (Instr.index 82 (.agg (arrC L)) (.int .i64 (r : Int))).run Try.prog w = .ok (.agg (rowC L r)) w := by
  have hu := Try.underlying82
  have hu2 := Try.underlying80
  have hagg : ∀ w, (isAgg 80).run Try.prog w = .ok true w := fun w => by
    unfold isAgg
    rw [Sem.run_bind, run_underlying hu2 w]
    simp
  have h1 : (0 : Int) ≤ (r : Int) ∧ (r : Int) < 8 := by omega
  simp [Instr.index, asIntOf, run_underlying hu, Sem.run_bind, part, hagg, h1, rowC]
  intro h; omega
theorem idx_row (L : Sq → Int) {r c : Nat} (hr : r < 8) (hc : c < 8) (w : World) : (Instr.index 80 (.agg (rowC L r)) (.int .i64 (c : Int))).run Try.prog w = .ok (.int .i64 (L (r, c))) w := by
  have hu := Try.underlying80
  have hu2 := Try.underlying3
  have hagg : ∀ w, (isAgg 3).run Try.prog w = .ok false w := fun w => by
    unfold isAgg
    rw [Sem.run_bind, run_underlying hu2 w]
    simp
  have h1 : (0 : Int) ≤ (c : Int) ∧ (c : Int) < 8 := by omega
  have h2 := rowC_at L hr hc
  simp [Instr.index, asIntOf, run_underlying hu, Sem.run_bind, part, hagg, h1, h2]
  intro h; omega
set_option maxHeartbeats 6400000 in
set_option maxRecDepth 100000 in
theorem implCatchment_any (a : Option Addr) (len cap : Nat) (D : List VIntS) (r c : Int) (w : World) (h : IsIntSS w a len cap D) :
    Calls Try.prog 26 #[.slice a len cap, .int .i64 r, .int .i64 c] w (Catchment_Post D r c w) := by
  have S := Lib.hid h
  clear h
  obtain ⟨q, hq⟩ : ∃ q, hasB D r c = q := ⟨_, rfl⟩
  have Q := Lib.hid hq
  clear hq
  go_enter Try.func26, Try.ntmps26
  go_wp2_with fail
  refine (isReliefWith_any _ _ _ D r c _ S.out).mono ?_
  rintro e w1 ⟨rfl, hb⟩
  rw [Q.out]
  have B1 := Lib.hid hb
  have S1 := Lib.hid (S.out.below hb)
  clear hb
  cases q
  · have P := Lib.hid (show Catchment_0 D r c = 0 ∧ Catchment_1 D r c = false from by unfold Catchment_0 Catchment_1; rw [Q.out]; exact ⟨rfl, rfl⟩)
    go_wp2
    go_ret2
    exact ⟨by rw [P.out.1, P.out.2]; rfl, B1.out⟩
  obtain ⟨hD, p, hp, e1, e2⟩ := hasB_yes Q.out
  subst e1
  subst e2
  have SZ := Lib.hid (sqZ_nat p)
  obtain ⟨x, y⟩ := p
  obtain ⟨hx, hy⟩ := hp
  simp only [] at SZ Q hx hy ⊢
  have P := Lib.hid (show Catchment_0 D (x : Int) (y : Int) = rivI D (x, y) ∧ Catchment_1 D (x : Int) (y : Int) = true from by unfold Catchment_0 Catchment_1; rw [Q.out, SZ.out]; exact ⟨rfl, rfl⟩)
  have hm8 := hD.m8
  have hn8 := hD.n8
  have X := idx_arr (rivI D) (show x < 8 by omega)
  have Y := idx_row (rivI D) (show x < 8 by omega) (show y < 8 by omega)
  go_wp2_with fail
  refine (catchmentsOf_any _ _ _ D _ S1.out hD).mono ?_
  rintro e w2 ⟨rfl, hb⟩
  have B2 := Lib.hid (Below.then' B1.out hb)
  clear hb
  go_wp2
  go_ret2
  exact ⟨by rw [P.out.1, P.out.2]; rfl, B2.out⟩
set_option maxHeartbeats 3200000 in
theorem riverFn_any (L : Sq → Int) (b : Nat) (r c : Nat) (w : World) (h : HBArr w b L) (hr : r < 8) (hc : c < 8) :
    Calls Try.prog 94 #[.agg #[.int .i64 (r : Int), .int .i64 (c : Int)], .pointer (some ⟨b, 0, none⟩)] w fun e w' => e = .returned (.int .i64 (L (r, c))) ∧ Below w.heap.size w w' := by
  have b0 := bel_al1 w (.cells #[.int .i64 (r : Int), .int .i64 (c : Int)] 34)
  have g0 := (h.below b0).cell hr hc
  have B0 := Lib.hid b0
  obtain ⟨c0, c1⟩ := (BoxIntA2.new w 34 ⟨(r : Int), (c : Int)⟩ _ rfl)
  simp only [] at c0 c1
  have i0 : (0 : Int) ≤ (r : Int) := by omega
  have i1 : (r : Int) < 8 := by omega
  have i2 : (0 : Int) ≤ (c : Int) := by omega
  have i3 : (c : Int) < 8 := by omega
  clear b0 h
  go_enter Try.func94, Try.ntmps94
  go_wp2
  go_quiet (fail)
  go_wp2
  go_ret
  exact ⟨rfl, Below.then' B0.out (bel_drawn _ _)⟩
set_option maxHeartbeats 12800000 in
set_option maxRecDepth 100000 in
theorem implGreatestRiver_any (a : Option Addr) (len cap : Nat) (D : List VIntS) (w : World) (h : IsIntSS w a len cap D) :
    Calls Try.prog 28 #[.slice a len cap] w (GreatestRiver_Post D w) := by
  have S := Lib.hid h
  clear h
  obtain ⟨q, hq⟩ : ∃ q, rlB D = q := ⟨_, rfl⟩
  have Q := Lib.hid hq
  clear hq
  go_enter Try.func28, Try.ntmps28
  go_wp2_with fail
  refine (implIsRelief_any _ _ _ D _ S.out).mono ?_
  rintro e w1 ⟨rfl, hb⟩
  rw [show IsRelief_0 D = q from Q.out]
  have B1 := Lib.hid hb
  have S1 := Lib.hid (S.out.below hb)
  clear hb
  cases q
  · have P := Lib.hid (show GreatestRiver_0 D = 0 ∧ GreatestRiver_1 D = 0 ∧ GreatestRiver_2 D = false from by unfold GreatestRiver_0 GreatestRiver_1 GreatestRiver_2; rw [Q.out]; exact ⟨rfl, rfl, rfl⟩)
    go_wp2
    go_ret3
    exact ⟨by rw [P.out.1, P.out.2.1, P.out.2.2]; rfl, B1.out⟩
  have HD := Lib.hid (rlB_iff.1 Q.out)
  have P := Lib.hid (show GreatestRiver_0 D = ((topOf D (rivI D)).1 : Int) ∧ GreatestRiver_1 D = ((topOf D (rivI D)).2 : Int) ∧ GreatestRiver_2 D = true from by unfold GreatestRiver_0 GreatestRiver_1 GreatestRiver_2; rw [Q.out]; exact ⟨rfl, rfl, rfl⟩)
  have hmf : ∀ (fn : Fn) (first cap : Array Value) (w : World), (Instr.makeFunc fn first cap).run Try.prog w = .ok (.func fn first cap) w := fun _ _ _ _ => rfl
  go_wp2_with fail
  refine (catchmentsOf_any _ _ _ D _ S1.out HD.out).mono ?_
  rintro e w2 ⟨rfl, hb⟩
  have B2 := Lib.hid (Below.then' B1.out hb)
  have S2 := Lib.hid (S1.out.below hb)
  have hs2 := B2.out.size
  clear hb
  go_wp2_with (rw [zeros_arr]; refine wpList_storeArr rfl (.tmp 5) (.tmp 11) rfl w2.heap.size rfl _ _ rfl (HBArr.new w2 (fun _ => 0) _ rfl) ?_; intro w4 hw4 hg4)
  have b4 : Below w2.heap.size w2 w4 := (bel_al1 w2 (.cells (arrC fun _ => 0) 82)).grown hg4 (by simp) (fun j e => by cases e; exact Nat.le_refl _)
  have B4 := Lib.hid (Below.then' B2.out b4)
  have S4 := Lib.hid (S2.out.below b4)
  have A4 := Lib.hid hw4
  clear b4 hw4 hg4
  refine (firstGreatest_any 94 #[.pointer (some ⟨w2.heap.size, 0, none⟩)] (rivI D) _ _ _ D _ S4.out HD.out (enters_fn' Try.func94 (by kernel_rfl) (by kernel_rfl)) (fun W p hp hW => by
    obtain ⟨x, y⟩ := p
    obtain ⟨hx, hy⟩ := hp
    simp only [] at hx hy
    have hm8 := HD.out.m8
    have hn8 := HD.out.n8
    have h1 := riverFn_any (rivI D) w2.heap.size x y W (A4.out.below hW) (by omega) (by omega)
    simpa using h1)).mono ?_
  rintro e w5 ⟨rfl, hb⟩
  obtain ⟨t, ht⟩ : ∃ t, topOf D (rivI D) = t := ⟨_, rfl⟩
  rw [ht] at P ⊢
  obtain ⟨x, y⟩ := t
  have ba := bel_al1 w5 (.cells #[.int .i64 (x : Int), .int .i64 (y : Int)] 34)
  have B5 := Lib.hid (Below.then' (Below.then' B4.out hb) ba)
  obtain ⟨e0, e1⟩ := BoxIntA2.new w5 34 ⟨(x : Int), (y : Int)⟩ _ rfl
  simp only [] at e0 e1 P
  clear hb ba ht hmf
  go_wp2
  go_quiet (fail)
  go_wp2
  go_ret3
  exact ⟨by rw [P.out.1, P.out.2.1, P.out.2.2]; rfl, Below.then' B5.out (bel_drawn _ _)⟩
end Go.Proofs.Ytpnaciamnigbnaa
namespace Go.Proofs.Ytpnaciamnigbnaa
open Go.RowKit

section
variable {P : Program} {md : Region.Mode} {C : World → Prop} {l : List Oper} {n : Nat}
/-- The same operation, doing nothing. -/
def idleOp (s : Oper) : Oper := { s with op := .move (.const undef) }
/-- The region with its operations from n on doing nothing. -/
def idleAt (l : List Oper) (n : Nat) : List Oper := l.take n ++ (l.drop n).map idleOp
/-- Each operation waits for earlier ones alone. -/
def backB (md : Region.Mode) (l : List Oper) : Bool := (List.range l.length).all fun j => match l[j]? with | some o => o.after.all fun e => !Region.binds md e || decide (e.on < j) | none => true
theorem idleAt_len : (idleAt l n).length = l.length := by simp [idleAt]; omega
theorem idleAt_lt {j : Nat} (h : j < n) : (idleAt l n)[j]? = l[j]? := by
  unfold idleAt
  by_cases hj : j < (l.take n).length
  · rw [List.getElem?_append_left hj, List.getElem?_take, if_pos h]
  · have h2 : l.length ≤ j := by rw [List.length_take] at hj; omega
    rw [List.getElem?_append_right (by omega), List.getElem?_eq_none h2, List.length_take, List.getElem?_map, List.getElem?_drop, List.getElem?_eq_none (by omega)]; rfl
theorem idleAt_ge {j : Nat} (h : n ≤ j) : (idleAt l n)[j]? = (l[j]?).map idleOp := by
  unfold idleAt
  by_cases h2 : n ≤ l.length
  · rw [List.getElem?_append_right (by rw [List.length_take]; omega), List.length_take, List.getElem?_map, List.getElem?_drop, show n + (j - min n l.length) = j by omega]
  · rw [List.drop_of_length_le (by omega), List.map_nil, List.append_nil, List.getElem?_take, List.getElem?_eq_none (show l.length ≤ j by omega)]
    split <;> rfl
theorem idle_after (j : Nat) : ((idleAt l n)[j]?).map Oper.after = (l[j]?).map Oper.after := by
  by_cases h : j < n
  · rw [idleAt_lt h]
  · rw [idleAt_ge (by omega), Option.map_map]; rfl
theorem idle_dst (j : Nat) : ((idleAt l n)[j]?).bind Oper.dst = (l[j]?).bind Oper.dst := by
  by_cases h : j < n
  · rw [idleAt_lt h]
  · rw [idleAt_ge (by omega)]
    cases l[j]? <;> rfl
theorem idle_ready (listed : Array Bool) : Region.ready md (idleAt l n).toArray listed = Region.ready md l.toArray listed := by
  unfold Region.ready
  rw [List.size_toArray, List.size_toArray, idleAt_len]
  congr 1
  funext i
  have h := idle_after (l := l) (n := n) i
  have e : ∀ (o : Option Oper) (f : Array Edge → Bool), (o.map fun x => f x.after) = (o.map Oper.after).map f := fun o f => by cases o <;> rfl
  simp only [List.getElem?_toArray]
  rw [e _ (fun x => x.all _), e _ (fun x => x.all _), h]
theorem idle_yielded (tmps : Array Value) : yielded (idleAt l n).toArray tmps = yielded l.toArray tmps := by
  funext j
  unfold yielded
  rw [List.getElem?_toArray, List.getElem?_toArray]
  have h := idle_dst (l := l) (n := n) j
  rw [show (fun x : Oper => x.dst) = Oper.dst from rfl, h]
theorem ready_some (hb : backB md l = true) {listed : Array Bool} (hsz : listed.size = l.length) : ∀ k, k < l.length → listed.getD k true = false → Region.ready md l.toArray listed ≠ [] := by
  intro k
  induction k using Nat.strongRecOn with
  | _ k ih =>
    intro hk hu hr
    obtain ⟨o, ho⟩ : ∃ o, l[k]? = some o := ⟨l[k]'hk, List.getElem?_eq_getElem _⟩
    by_cases hall : ∀ e ∈ o.after, Region.binds md e = true → listed.getD e.on false = true
    · have : k ∈ Region.ready md l.toArray listed := mem_ready.2 ⟨hu, o, by simpa using ho, hall⟩
      rw [hr] at this
      cases this
    · refine hall fun e he hbi => Classical.byContradiction fun hne => ?_
      have h1 := List.all_eq_true.1 hb k (List.mem_range.2 hk)
      simp only [ho] at h1
      have h2 := Array.all_eq_true_iff_forall_mem.1 h1 e he
      simp only [hbi, Bool.not_true, Bool.false_or, decide_eq_true_eq] at h2
      exact ih e.on h2 (by omega) (getD_in (by omega) (by simpa using hne)) hr
theorem any_done {Q : Exit → Act → World → Prop} {listed : Array Bool} (h : Region.ready md l.toArray listed = []) {a : Act} {w : World} (hq : Q .normal a w) : ∀ fuel, wpAny P md l.toArray Q fuel listed a w
  | 0 => ⟨h, hq⟩
  | _ + 1 => ⟨fun _ => hq, by rw [h]; intro i hi; cases hi⟩
theorem any_last {Q : Exit → Act → World → Prop} {s : Oper} (hn : l.length = n + 1) (hs : l[n]? = some s) (hg : s.guard = none) (hd : s.dst = none)
    (hsink : Region.sinkB md l.toArray n = true) (hch : Region.chainB md l.toArray n = true) (hb : backB md l = true) :
    ∀ (fuel : Nat) (listed : Array Bool) (a : Act) (w : World), C w → HeadInv md l.toArray n listed →
      wpAnyQ P md (idleAt l n).toArray C (fun a' => ∀ w', C w' → wpList P l.toArray Q (l.drop n) a' w') fuel listed a → wpAny P md l.toArray Q fuel listed a w := by
  have hsz : l.toArray.size = n + 1 := by simpa using hn
  intro fuel
  induction fuel with
  | zero =>
    intro listed a w _ inv h
    have h1 := h.1
    rw [idle_ready] at h1
    exact absurd h1 (ready_some hb (by simpa using inv.size) n (by omega) (inv.tail n (Nat.le_refl _) (by omega)))
  | succ fuel ih =>
    intro listed a w hw inv h
    refine ⟨fun h0 => absurd h0 (ready_some hb (by simpa using inv.size) n (by omega) (inv.tail n (Nat.le_refl _) (by omega))), fun i hi => ?_⟩
    have hq := h.2 i (by rw [idle_ready]; exact hi)
    by_cases hin : i < n
    · have hq2 : qOp P l.toArray C i (wpAnyQ P md (idleAt l n).toArray C (fun a' => ∀ w', C w' → wpList P l.toArray Q (l.drop n) a' w') fuel (listed.setIfInBounds i true)) a := by
        unfold qOp at hq ⊢
        rw [List.getElem?_toArray] at hq ⊢
        rw [idleAt_lt hin, idle_yielded] at hq
        exact hq
      exact wpOp_of_qOp hw (fun a' w' hw' hk => ih _ _ _ hw' (inv.set hi hin) hk) hq2
    · obtain ⟨hun, o, ho, _⟩ := mem_ready.1 hi
      have hile : i < n + 1 := by rw [← hsz]; exact (Array.getElem?_eq_some_iff.1 ho).1
      obtain rfl : i = n := by omega
      have hall : ∀ j, j < i → listed.getD j true = true := fun j hj => by
        cases hl : listed.getD j true with
        | true => rfl
        | false => exact absurd hi (tail_waits hsink hch (by omega) inv _ j rfl hj hl i (Nat.le_refl _))
      have hlsz : listed.size = i + 1 := by rw [inv.size]; exact hsz
      have hempty : Region.ready md l.toArray (listed.setIfInBounds i true) = [] := by
        rw [List.eq_nil_iff_forall_not_mem]
        intro j hj
        obtain ⟨hju, oj, hoj, _⟩ := mem_ready.1 hj
        have hjl : j < i + 1 := by rw [← hsz]; exact (Array.getElem?_eq_some_iff.1 hoj).1
        by_cases e : i = j
        · subst e
          rw [Array.getD_eq_getD_getElem?, Array.getElem?_setIfInBounds_self_of_lt (by omega)] at hju
          simp at hju
        · rw [getD_set_ne true e, hall j (by omega)] at hju
          cases hju
      unfold qOp at hq
      rw [List.getElem?_toArray, idleAt_ge (Nat.le_refl _), hs] at hq
      have hwant : ∀ y, Region.wanted (idleOp s) y = true := fun y => by simp [Region.wanted, idleOp, hg]
      simp only [Option.map_some, hwant, if_true] at hq
      obtain ⟨v, _, hk⟩ := hq
      have hput : a.put (idleOp s).dst v = a := by rw [show (idleOp s).dst = none from hd]; rfl
      rw [hput] at hk
      have hQ : ∀ w', C w' → wpList P l.toArray Q (l.drop i) a w' := by
        cases fuel with
        | zero => exact hk.2
        | succ f => exact hk.1 (by rw [idle_ready]; exact hempty)
      have h1 := hQ w hw
      rw [show l.drop i = [s] from by rw [List.drop_eq_getElem_cons (show i < l.length by omega), List.drop_of_length_le (by omega)]; congr 1; exact (List.getElem?_eq_some_iff.1 hs).2] at h1
      unfold wpList at h1
      unfold wpOp
      rw [List.getElem?_toArray, hs]
      have hw2 : ∀ y, Region.wanted s y = true := fun y => by simp [Region.wanted, hg]
      simp only [hw2, if_true] at h1 ⊢
      exact h1.imp (Oper.wp_mono fun a' w' hq' => any_done hempty hq' fuel) id
theorem quiet_append {ops : Array Oper} {Q : Act → Prop} : ∀ (h t : List Oper) (a : Act), wpQuiet P ops C (wpQuiet P ops C Q t) h a → wpQuiet P ops C Q (h ++ t) a
  | [], _, _, hh => hh
  | o :: h, t, a, hh => by
    unfold wpQuiet at hh
    rw [List.cons_append]
    unfold wpQuiet
    split
    · rename_i hw
      rw [if_pos hw] at hh
      exact Oper.quiet_mono (fun a' h' => quiet_append h t a' h') hh
    · rename_i hw
      rw [if_neg hw] at hh
      exact quiet_append h t _ hh
theorem quiet_mono' {ops : Array Oper} {Q Q' : Act → Prop} (hQ : ∀ a, Q a → Q' a) : ∀ (h : List Oper) (a : Act), wpQuiet P ops C Q h a → wpQuiet P ops C Q' h a
  | [], a, hh => hQ a hh
  | o :: h, a, hh => by
    unfold wpQuiet at hh ⊢
    split
    · rename_i hw
      rw [if_pos hw] at hh
      exact Oper.quiet_mono (fun a' h' => quiet_mono' hQ h a' h') hh
    · rename_i hw
      rw [if_neg hw] at hh
      exact quiet_mono' hQ h _ hh
end
theorem wp_region_quiet_last {P : Program} {id : Nat} {Q : Exit → Act → World → Prop} {a : Act} {w : World} {l : List Oper} (n : Nat) {s : Oper} (hm : P.follows .mixedOrders = true)
    (hn : l.length = n + 1) (hs : l[n]? = some s) (hg : s.guard = none) (hd : s.dst = none) (hB : Region.lexB .any (idleAt l n).toArray = true) (hsink : Region.sinkB .any l.toArray n = true) (hch : Region.chainB .any l.toArray n = true) (hb : backB .any l = true)
    (h : wpQuiet P (idleAt l n).toArray (fun w' => ∃ p : Regrown, w' = Sort.grow (redrawn w p.d) p.os) (fun a' => ∀ w', (∃ p : Regrown, w' = Sort.grow (redrawn w p.d) p.os) → wpList P l.toArray Q (l.drop n) a' w') (l.take n) a) : (Code.region id l.toArray true).wp P Q a w := by
  simp only [Region.lexB, Bool.and_eq_true] at hB
  have hc : ∃ p : Regrown, ({ w with drawn := w.drawn + 1 } : World) = Sort.grow (redrawn w p.d) p.os := ⟨⟨w.drawn + 1, #[]⟩, by rw [Sort.grow_empty]; rfl⟩
  have h2 : wpQuiet P (idleAt l n).toArray (fun w' => ∃ p : Regrown, w' = Sort.grow (redrawn w p.d) p.os) (fun a' => ∀ w', (∃ p : Regrown, w' = Sort.grow (redrawn w p.d) p.os) → wpList P l.toArray Q (l.drop n) a' w') (idleAt l n) a := by
    have he : idleAt l n = l.take n ++ [idleOp s] := by
      unfold idleAt
      congr 1
      rw [List.drop_eq_getElem_cons (show n < l.length by omega), List.drop_of_length_le (by omega), List.map_cons, List.map_nil]
      congr 2
      exact (List.getElem?_eq_some_iff.1 hs).2
    generalize hops : (idleAt l n).toArray = ops at h ⊢
    rw [he]
    refine quiet_append _ _ _ ?_
    refine quiet_mono' (fun a' ha' => ?_) _ _ h
    unfold wpQuiet
    rw [if_pos (show Region.wanted (idleOp s) _ = true from by simp [Region.wanted, idleOp, hg])]
    refine ⟨undef, fun w' _ => ?_, ?_⟩
    · unfold Oper.quietAt
      rw [show (execOp a'.eval (idleOp s)).run P w' = .ok (.value undef) w' from rfl]
      exact ⟨rfl, rfl⟩
    · rw [show (idleOp s).dst = none from hd]
      exact ha'
  have h3 := wpAnyQ_lex (C := fun w' => ∃ p : Regrown, w' = Sort.grow (redrawn w p.d) p.os) (md := .any) hB.1 (idleAt l n) 0 (Array.replicate (idleAt l n).toArray.size false) a (by simp) (by simpa using hB.2) h2
  have inv0 : HeadInv .any l.toArray n (Array.replicate l.toArray.size false) :=
    ⟨by simp, fun j oj _ hl => (by rw [getD_replicate_false] at hl; cases hl), fun t _ ht => getD_in (by simpa using ht) (getD_replicate_false _ _)⟩
  refine wp_region_any hm ?_
  have h4 := any_last (P := P) (C := fun w' => ∃ p : Regrown, w' = Sort.grow (redrawn w p.d) p.os) (Q := Q) hn hs hg hd hsink hch hb l.length (Array.replicate l.toArray.size false) a _ hc inv0 (by
    rw [List.size_toArray, idleAt_len] at h3
    rw [List.size_toArray]
    exact h3)
  simpa using h4
end Go.Proofs.Ytpnaciamnigbnaa
namespace Go.Proofs.Ytpnaciamnigbnaa
open Go.RowKit

theorem quiet_loadArr {ops : Array Oper} {rest : List Oper} {o : Oper} {a : Act} {C : World → Prop} {Q : Act → Prop} (hg : o.guard = none) (x : Operand) (ho : o.op = .load 82 x) (b : Nat) (hx : a.eval x = .pointer (some ⟨b, 0, none⟩)) (L : Sq → Int) (h : ∀ w, C w → HBArr w b L)
    (k : wpQuiet Try.prog ops C Q rest (a.put o.dst (.agg (arrC L)))) : wpQuiet Try.prog ops C Q (o :: rest) a := by
  unfold wpQuiet
  rw [if_pos (show Region.wanted o _ = true from by simp [Region.wanted, hg])]
  refine ⟨_, fun w hw => ?_, k⟩
  have h1 := load_arr (h w hw)
  unfold Oper.quietAt execOp
  simp only [ho, hx, Sem.run_bind, h1, Result.andThen_ok]
  exact ⟨rfl, rfl⟩
def rowL (M : Sq → Int) (r : Nat) : List Int := (List.range 8).map fun c => M (r, c)
/-- Equal in all its numbers. -/
def eqL (M L : Sq → Int) : Bool := (List.range 8).all fun r => rowL M r == rowL L r
theorem eqL_iff {M L : Sq → Int} : eqL M L = true ↔ ∀ r c, r < 8 → c < 8 → M (r, c) = L (r, c) := by
  unfold eqL rowL
  simp only [List.all_eq_true, List.mem_range, beq_iff_eq]
  constructor
  · intro h r c hr hc
    have := congrArg (fun l : List Int => l[c]?) (h r hr)
    simpa [hc] using this
  · intro h r hr
    exact List.map_congr_left fun c hc => h r c hr (List.mem_range.1 hc)
theorem size_row8 (w : World) : (sizeOf 80).run Try.prog w = .ok 8 w := by
  have h : (Try.prog.info? 80).map (·.size) = some 8 := by kernel_rfl
  cases hq : Try.prog.info? 80 with
  | none => simp [hq] at h
  | some i =>
    have hs : i.size = 8 := by simpa [hq] using h
    simp [sizeOf, typeInfo, hq, hs]
theorem part_row (L : Sq → Int) {r : Nat} (hr : r < 8) (w : World) : (part 80 (arrC L) (r * 8)).run Try.prog w = .ok (.agg (intCells (rowL L r)).toArray) w := by
  have hu2 := Try.underlying80
  have hagg : ∀ w, (isAgg 80).run Try.prog w = .ok true w := fun w => by
    unfold isAgg
    rw [Sem.run_bind, run_underlying hu2 w]
    simp
  unfold part
  simp only [Sem.run_bind, hagg, Result.andThen_ok, if_true, size_row8, Sem.run_pure]
  rw [show (arrC L).extract (r * 8) (r * 8 + 8) = rowC L r from rfl, rowC_eq L r hr]; rfl
theorem neqArr (M L : Sq → Int) (w : World) : (binOp .neq 82 (.agg (arrC M)) (.agg (arrC L))).run Try.prog w = .ok (.bool (!(eqL M L))) w := by
  rw [run_neq_struct, run_equalIn_arr 9999 82 80 8 8 _ _ w Try.underlying82 size_row8 (fun r => rowL M r == rowL L r) (fun r hr =>
    ⟨_, _, part_row M hr w, part_row L hr w, run_equalIn_ints 9997 80 3 .i64 8 (rowL M r) (rowL L r) w Try.underlying80 Try.underlying3 size_int (by simp [rowL]) (by simp [rowL])⟩), Result.andThen_ok]
  rfl
/-- Two whole arrays are compared. -/
theorem wpList_neqArr {ops : Array Oper} {rest : List Oper} {op : Oper} {a : Act} {w : World} {Q : Exit → Act → World → Prop} (hgd : op.guard = none) (x y : Operand) (rt : TypeId) (ho : op.op = .binOp .neq 82 x y rt) (M L : Sq → Int) (hx : a.eval x = .agg (arrC M)) (hy : a.eval y = .agg (arrC L)) (q : Bool) (hq : eqL M L = q)
    (k : wpList Try.prog ops Q rest (a.put op.dst (.bool (!q))) w) : wpList Try.prog ops Q (op :: rest) a w :=
  wpList_plain hgd fun _ hK => by
    unfold Oper.wp execOp
    have h1 : (eqGuard .neq 82 x y (.agg (arrC M)) (.agg (arrC L))).run Try.prog w = .ok () w := run_eqGuard_agg w .neq _ x y _ _ (by kernel_rfl)
    simp only [ho, hx, hy, Sem.run_bind, h1, neqArr, hq, Result.andThen_ok]
    exact hK _ _ k
def all64 : List Sq := (List.range 64).map fun i => (i / 8, i % 8)
theorem mem_all64 {p : Sq} : p ∈ all64 ↔ p.1 < 8 ∧ p.2 < 8 := by
  obtain ⟨a, b⟩ := p
  simp only [all64, List.mem_map, List.mem_range, Prod.mk.injEq]
  constructor
  · rintro ⟨i, hi, rfl, rfl⟩; omega
  · rintro ⟨h1, h2⟩; exact ⟨a * 8 + b, by omega, by omega, by omega⟩
def cellN (w : World) (b j : Nat) : Nat := match w.cell? ⟨b, j, none⟩ with
  | some v => (intOf v).toNat
  | none => 0
def arrSum (w : World) (b : Nat) : Nat := ((List.range 64).map (cellN w b)).sum
theorem HBArr.sum {w : World} {b : Nat} {L : Sq → Int} (h : HBArr w b L) : arrSum w b = sumN L all64 := by
  unfold arrSum sumN all64
  rw [List.map_map]
  congr 1
  refine List.map_congr_left fun i hi => ?_
  have hi := List.mem_range.1 hi
  have hc := h.cell (r := i / 8) (c := i % 8) (by omega) (by omega)
  rw [show i / 8 * 8 + i % 8 = i by omega] at hc
  unfold cellN
  rw [hc]
  rfl
theorem pass_out {D : List VIntS} : ∀ (l : List Sq), (∀ p ∈ l, inR D p) → ∀ (L : Sq → Int) (q : Sq), ¬ inR D q → passL D l L q = L q := by
  intro l
  induction l with
  | nil => intro _ L q _; rfl
  | cons x l ih =>
    intro hl L q hq
    have h1 := ih (fun p hp => hl p (List.mem_cons_of_mem _ hp)) (upL L x (newL D L x)) q hq
    unfold passL at *
    rw [List.foldl_cons, h1]
    unfold upL
    rw [if_neg (show ¬ q = x from fun e => hq (by rw [e]; exact hl x (by simp)))]
/-- What a pass does to the sum of all numbers, if there are none outside of the relief. -/
theorem pass_sum {D : List VIntS} (hD : RL D) {L : Sq → Int} (h : Hi D L) (h0 : ∀ p, ¬ inR D p → L p = 0) (hne : eqL (passL D (sqs D) L) L = false) : sumN (passL D (sqs D) L) all64 < sumN L all64 := by
  have hin : ∀ p ∈ sqs D, inR D p := fun p hp => mem_sqs.1 hp
  have hle : ∀ q, passL D (sqs D) L q ≤ L q := fun q => by
    by_cases hq : inR D q
    · exact pass_le _ hin L h q hq
    · rw [pass_out _ hin L q hq]; exact Int.le_refl _
  refine sumN_lt _ (fun q _ => hle q) (fun q _ => ?_) ?_
  · by_cases hq : inR D q
    · exact (pass_hi _ hin L h).nn hD hq
    · rw [pass_out _ hin L q hq, h0 q hq]; exact Int.le_refl _
  · refine Classical.byContradiction fun hno => ?_
    have : eqL (passL D (sqs D) L) L = true := eqL_iff.2 fun r c hr hc => Classical.byContradiction fun he => hno ⟨(r, c), mem_all64.2 ⟨hr, hc⟩, he⟩
    rw [this] at hne
    cases hne
/-- The levels, and 0 outside of the relief. -/
def levA (D : List VIntS) (p : Sq) : Int := if p.1 < D.length ∧ p.2 < colsN D then lev D p else 0
theorem levA_in {D : List VIntS} {p : Sq} (h : inR D p) : levA D p = lev D p := if_pos h
theorem pass_levA {D : List VIntS} (hD : RL D) {L : Sq → Int} (h : Hi D L) (h0 : ∀ p, ¬ inR D p → L p = 0) (he : eqL (passL D (sqs D) L) L = true) : arrC (passL D (sqs D) L) = arrC (levA D) := by
  have hin : ∀ p ∈ sqs D, inR D p := fun p hp => mem_sqs.1 hp
  unfold arrC
  rw [numsOf_congr fun r c hr hc => ?_]
  by_cases hq : inR D (r, c)
  · rw [eqL_iff.1 he r c hr hc, levA_in hq]
    rcases pass_or hD h with ⟨_, h2⟩ | ⟨⟨q, hq1, hq2⟩, _⟩
    · exact lev_eq hD h2 hq
    · exact absurd (eqL_iff.1 he q.1 q.2 (by have := hq1.1; have := hD.m8; omega) (by have := hq1.2; have := hD.n8; omega)) hq2
  · rw [pass_out _ hin L _ hq, h0 _ hq]
    exact (if_neg hq).symm
end Go.Proofs.Ytpnaciamnigbnaa
namespace Go.Proofs.Ytpnaciamnigbnaa
open Go.RowKit

theorem eqlA2V (w : World) (x y u v : Int) : (binOp .eql 34 (.agg #[.int .i64 x, .int .i64 y]) (.agg #[.int .i64 u, .int .i64 v])).run Try.prog w = .ok (.bool ([x, y] == [u, v])) w := by
  rw [run_eql_struct, show (#[.int .i64 x, .int .i64 y] : Array Value) = (intCells [x, y]).toArray from rfl, show (#[.int .i64 u, .int .i64 v] : Array Value) = (intCells [u, v]).toArray from rfl,
    run_equalIn_ints 9998 34 3 .i64 2 [x, y] [u, v] w Try.underlying34 Try.underlying3 size_int rfl rfl, Result.andThen_ok]
theorem neqA2V (w : World) (x y u v : Int) : (binOp .neq 34 (.agg #[.int .i64 x, .int .i64 y]) (.agg #[.int .i64 u, .int .i64 v])).run Try.prog w = .ok (.bool (!([x, y] == [u, v]))) w := by
  rw [run_neq_struct, show (#[.int .i64 x, .int .i64 y] : Array Value) = (intCells [x, y]).toArray from rfl, show (#[.int .i64 u, .int .i64 v] : Array Value) = (intCells [u, v]).toArray from rfl,
    run_equalIn_ints 9998 34 3 .i64 2 [x, y] [u, v] w Try.underlying34 Try.underlying3 size_int rfl rfl, Result.andThen_ok]
set_option maxHeartbeats 1600000 in
set_option maxRecDepth 100000 in
theorem vPairs_yes (a : Option Addr) (len cap : Nat) (a' : Option Addr) (len' cap' : Nat) (xs : List VIntA2) (w : World) (h : IsIntA2S w a len cap xs) (h' : IsIntA2S w a' len' cap' xs) :
    Calls Try.prog 20 #[.slice a len cap, .slice a' len' cap'] w fun e w' => e = .returned (.bool true) ∧ Below w.heap.size w w' := by
  obtain rfl := h.1
  obtain rfl := h'.1
  have hm := h.2.2.1
  have hcl := h.2.1
  unfold maxLen at hm
  have S := Lib.hid h
  have S' := Lib.hid h'
  clear h h'
  go_enter Try.func20, Try.ntmps20
  go_wp2
  go_loopw [5] (fun i wr => ∃ k : Nat, k ≤ xs.length ∧ i = .int .i64 k ∧ Below w.heap.size w wr) (fun i _ => xs.length - (intOf i).toNat)
  case atStart => exact ⟨0, Nat.zero_le _, rfl, Below.refl _ _⟩
  case round =>
    obtain ⟨k, hk, rfl, hbel⟩ := hrel
    have B := Lib.hid hbel
    by_cases hlt : k < xs.length
    · obtain ⟨s, hs⟩ : ∃ s, xs[k]? = some s := ⟨xs[k]'hlt, List.getElem?_eq_getElem _⟩
      obtain ⟨b, o, rfl, hb, hat⟩ := (S.out.below hbel).at (by omega)
      obtain ⟨b', o', rfl, hb', hat'⟩ := (S'.out.below hbel).at (by omega)
      obtain ⟨c0, c1⟩ := hat k s hs
      obtain ⟨d0, d1⟩ := hat' k s hs
      have hne : ∀ W : World, (binOp .neq 34 (.agg #[.int .i64 s.E0, .int .i64 s.E1]) (.agg #[.int .i64 s.E0, .int .i64 s.E1])).run Try.prog W = .ok (.bool false) W := fun W => by rw [neqA2V]; simp
      have hi0 : (0 : Int) ≤ (k : Int) := by omega
      have hi1 : (k : Int) < (xs.length : Int) := by omega
      clear hbel hs hat hat'
      go_wp2
      go_quiet (fail)
      have B1 := Lib.hid (Below.then' B.out (bel_drawn wr nq))
      clear hne c0 c1 d0 d1
      go_wp2
      go_roundw
      case rel => exact ⟨k + 1, by omega, by go_num, B1.out⟩
      case measure => simp [intOf]; omega
    · obtain rfl : k = xs.length := by omega
      clear hbel
      go_wp2
      go_ret
      exact ⟨rfl, B.out⟩
end Go.Proofs.Ytpnaciamnigbnaa
namespace Go.Proofs.Ytpnaciamnigbnaa
open Go.RowKit Go.Deep

/-- The rows' slices in block g, all in lo .. hi. -/
def GridIn (lo hi : Nat) (w : World) (g n c : Nat) (D : List (List Int)) : Prop := ∃ ps : List PIntS, ps.map PIntS.x = D ∧ RawIntS lo hi w (.slice (some ⟨g, 0, none⟩) n c) ps
theorem GridIn.below {lo hi g n c : Nat} {w w' : World} {D : List (List Int)} (h : GridIn lo hi w g n c D) (hb : Below w.heap.size w w') : GridIn lo hi w' g n c D := by
  obtain ⟨ps, e, h⟩ := h
  exact ⟨ps, e, h.keep fun b _ _ hs => hb.block b hs⟩
theorem GridIn.mono {lo hi lo' hi' g n c : Nat} {w : World} {D : List (List Int)} (h : GridIn lo hi w g n c D) (h1 : lo' ≤ lo) (h2 : hi ≤ hi') : GridIn lo' hi' w g n c D := by
  obtain ⟨ps, e, h⟩ := h
  exact ⟨ps, e, h.mono h1 h2⟩
theorem GridIn.same {lo hi g n c : Nat} {w w' : World} {D : List (List Int)} (h : GridIn lo hi w g n c D) (hw : w'.heap = w.heap) : GridIn lo hi w' g n c D := by
  obtain ⟨ps, e, h⟩ := h
  exact ⟨ps, e, h.keep fun b _ _ _ => by rw [hw]⟩
theorem GridIn.head {lo hi g n c : Nat} {w : World} {D : List (List Int)} (h : GridIn lo hi w g n c D) : D.length = n ∧ lo ≤ g ∧ g < hi ∧ g < w.heap.size ∧ n ≤ c ∧ c ≤ maxLen := by
  obtain ⟨ps, rfl, h⟩ := h
  have h1 := h.len
  have h2 := h.1.lt (b := g) rfl
  exact ⟨by rw [List.length_map]; exact h1.1.symm, h2.1, h2.2.1, h2.2.2, h1.2⟩
theorem GridIn.free {lo hi g n c : Nat} {w : World} {D : List (List Int)} (h : GridIn lo hi w g n c D) (j : Nat) : w.frozen? ⟨g, j, none⟩ = false := by
  obtain ⟨ps, rfl, h⟩ := h
  exact h.free j
theorem GridIn.own {lo hi g n c : Nat} {w : World} {D : List (List Int)} (h : GridIn lo hi w g n c D) : OwnIntSS lo hi w (.slice (some ⟨g, 0, none⟩) n c) D := h
theorem mapx_atG {ps : List PIntS} {i : Nat} {r : List Int} (h : (ps.map PIntS.x)[i]? = some r) : ∃ p, ps[i]? = some p ∧ p.x = r := by
  rw [List.getElem?_map] at h
  cases hp : ps[i]? with
  | none => rw [hp] at h; cases h
  | some p => rw [hp] at h; exact ⟨p, rfl, by simpa using h⟩
/-- A row that is not empty: its slice, its cells, and what a store into it leaves. -/
theorem GridIn.row {lo hi g n c : Nat} {w : World} {D : List (List Int)} (h : GridIn lo hi w g n c D) {i : Nat} {r : List Int} (hr : D[i]? = some r) (hpos : 0 < r.length) :
    ∃ b cb, w.cell? ⟨g, i, none⟩ = some (.slice (some ⟨b, 0, none⟩) r.length cb) ∧ b ≠ g ∧ (lo ≤ b ∧ b < hi ∧ b < w.heap.size) ∧ (r.length ≤ cb ∧ cb ≤ maxLen) ∧ (∀ (j : Nat) z, r[j]? = some z → w.cell? ⟨b, j, none⟩ = some (.int .i64 z)) ∧ (∀ j, w.frozen? ⟨b, j, none⟩ = false) ∧
      (∀ (j : Nat) (x : Int), GridIn lo hi (w.setCell ⟨b, j, none⟩ (.int .i64 x)) g n c (D.set i (r.set j x)) ∧ w.grownBy (w.setCell ⟨b, j, none⟩ (.int .i64 x)) (some b)) ∧
      OwnIn lo hi w 3 1 (.slice (some ⟨b, 0, none⟩) r.length cb) r.length (intCells r) := by
  obtain ⟨ps, rfl, h⟩ := h
  obtain ⟨p, hp, rfl⟩ := mapx_atG hr
  obtain ⟨c0, _⟩ := h.elem hp
  have hI := h.2.1 i p hp
  have hne := h.2.2.1 i p
  obtain ⟨px, ⟨pa, pn, pc⟩⟩ := p
  simp only [] at c0 hpos ⊢
  have e2 := hI.is.2
  simp only [] at e2
  subst e2
  rcases hI.1.2 with ⟨e, h0⟩ | ⟨b, cap, cur, e, hb, hh, hn, hcap, _⟩
  · simp only [] at h0
    omega
  · simp only [Value.slice.injEq, true_and] at e
    obtain ⟨rfl, rfl⟩ := e
    have hlt := hI.lt (b := b) rfl
    refine ⟨b, pc, c0, fun e => hne b hp rfl (by rw [e]; rfl), hlt, ⟨hn, hcap⟩, fun j z hz => ?_, fun j => hI.1.frozenAt j, fun j x => ?_, hI⟩
    · have hc := hI.1.cells (g := b) rfl j (.int .i64 z) (by simp [intCells, hz])
      rw [add_plain, Nat.zero_add] at hc; exact hc
    · have s := hI.1.stored j (.int .i64 x)
      rw [show (intCells px).set j (.int .i64 x) = intCells (px.set j x) from by simp [intCells, List.map_set]] at s
      refine ⟨⟨ps.set i ⟨px.set j x, ⟨some ⟨b, 0, none⟩, px.length, pc⟩⟩, ?_, h.inner hp (by rw [List.length_set]) s.1 s.2⟩, s.2⟩
      rw [List.map_set]

theorem InnerIntS.reblock {lo hi : Nat} {w : World} {g0 g1 : Option Nat} {ps : List PIntS} (h : InnerIntS lo hi w g0 ps) (hg : g0 = g1 ∨ ∀ b, g1 = some b → hi ≤ b) : InnerIntS lo hi w g1 ps := by
  rcases hg with rfl | hg
  · exact h
  · refine ⟨h.1, fun k p b hp hb e => ?_, h.2.2⟩
    have h1 := ((h.1 k p hp).lt hb).2.1
    have h2 := hg b e
    omega
theorem cell_IntS (w : World) (p : PIntS) (t : TypeId) (B : Nat) (hB : w.heap.size = B) : ∀ j u, p.vals[j]? = some u → (w.alloc (.cells #[.slice p.h.a p.h.n p.h.c] t)).cell? ((⟨B, 0, none⟩ : Addr).add j) = some u := by
  subst hB
  intro j u hj
  rw [add_plain, Nat.zero_add, World.cell?_alloc_new]
  simpa [PIntS.vals] using hj
/-- One more row appended, its numbers in newer memory. -/
theorem RawIntS.snoc {lo : Nat} {w w2 w4 : World} {g n c g4 cap4 : Nat} {ps : List PIntS} {p : PIntS} (h : RawIntS lo w.heap.size w (.slice (some ⟨g, 0, none⟩) n c) ps) (hlo : lo ≤ w.heap.size) (hb : Below w.heap.size w w2) (hz : HInts w.heap.size w2.heap.size w2 p.h p.x)
    (own : w4.ownsRow lo 38 1 (.slice (some ⟨g4, 0, none⟩) (n + 1) cap4) (n + 1) (cellsIntS ps ++ p.vals)) (hgr : w2.grownBy w4 (some g)) (hg4 : some g = some g4 ∨ g4 = w2.heap.size) : RawIntS lo w4.heap.size w4 (.slice (some ⟨g4, 0, none⟩) (n + 1) cap4) (ps ++ [p]) := by
  have hn := h.len.1
  have hgl := h.1.lt (b := g) rfl
  refine ⟨?_, ?_⟩
  · rw [List.length_append, List.length_singleton, ← hn, cellsIntS_snoc]
    exact OwnIn.of_row own (Nat.le_refl _) (Nat.le_refl _)
  · have N4 := (h.2.below hb).grown hgr
    have H4 := OwnIn.turned hz (Turned.of_grown (lo := lo) (hi := w.heap.size) hgr (fun b e => by cases e; exact ⟨hgl.1, hgl.2.2⟩)) (.inr (Nat.le_refl _))
    have N5 := N4.snoc (p := p) H4 hlo hb.size (fun b e => by cases e; exact hgl.2.2)
    exact (N5.reblock (hg4.imp id (fun e b hb => by cases hb; omega))).mono (Nat.le_refl _) hgr.size
theorem madeZ (n : Nat) : (madeCells (.int .i64 0 : Value).cells (n * 1)).toList = intCells (List.replicate n 0) := by
  apply List.ext_getElem?
  intro j
  rw [Array.getElem?_toList]
  simp only [madeCells, Value.cells, intCells]
  by_cases h : j < n
  · rw [Array.getElem?_eq_getElem (by simpa using h)]
    simp [h, Nat.mod_one]
  · rw [Array.getElem?_eq_none (by simpa using h)]
    simp [h]
theorem made_rows (w : World) : RawIntS w.heap.size (w.alloc (.cells #[] 38)).heap.size (w.alloc (.cells #[] 38)) (.slice (some ⟨w.heap.size, 0, none⟩) 0 0) [] :=
  ⟨OwnIn.of_row (World.ownsRow_made (base := w.heap.size) (e := 38) (size := 1) w #[] 0 (Nat.le_refl _) (Nat.zero_le _) rfl) (Nat.le_refl _) (Nat.le_refl _), nil_InnerIntS _ _ _ _⟩
theorem grid_put (D : List VIntS) (L : Sq → Int) {r c : Nat} (hr : r < D.length) (hc : c < colsN D) (x : Int) : (gridOf D L).set r (((List.range (colsN D)).map fun j => L (r, j)).set c x) = gridOf D (upL L (r, c) x) := by
  apply List.ext_getElem?
  intro i
  by_cases hi : i < D.length
  · rw [gridOf_at D _ hi]
    by_cases e : i = r
    · subst e
      rw [List.getElem?_set_self (by rw [gridOf_len]; exact hi)]
      congr 1
      apply List.ext_getElem?
      intro j
      by_cases hj : j < colsN D
      · by_cases e : j = c
        · subst e
          rw [List.getElem?_set_self (by simpa using hj)]
          simp [hj, upL]
        · rw [List.getElem?_set_ne (Ne.symm e)]
          simp [hj, upL, e]
      · rw [List.getElem?_eq_none (by simp; omega), List.getElem?_eq_none (by simp; omega)]
    · rw [List.getElem?_set_ne (Ne.symm e), gridOf_at D _ hi]
      congr 1
      exact List.map_congr_left fun j _ => by unfold upL; rw [if_neg (fun e2 => e (by simpa using congrArg Prod.fst e2))]
  · rw [List.getElem?_eq_none (by rw [List.length_set, gridOf_len]; omega), List.getElem?_eq_none (by rw [gridOf_len]; omega)]
/-- A square of the grid: read, and another number in its place. -/
theorem GridIn.sq {lo hi g n c : Nat} {w : World} {D : List VIntS} {L : Sq → Int} (h : GridIn lo hi w g n c (gridOf D L)) {r : Nat} (hr : r < D.length) (hpos : 0 < colsN D) :
    ∃ b cb, w.cell? ⟨g, r, none⟩ = some (.slice (some ⟨b, 0, none⟩) (colsN D) cb) ∧ b ≠ g ∧ (lo ≤ b ∧ b < hi ∧ b < w.heap.size) ∧ (∀ j, j < colsN D → w.cell? ⟨b, j, none⟩ = some (.int .i64 (L (r, j)))) ∧ (∀ j, w.frozen? ⟨b, j, none⟩ = false) ∧
      ∀ (j : Nat) (x : Int), j < colsN D → GridIn lo hi (w.setCell ⟨b, j, none⟩ (.int .i64 x)) g n c (gridOf D (upL L (r, j) x)) ∧ w.grownBy (w.setCell ⟨b, j, none⟩ (.int .i64 x)) (some b) := by
  obtain ⟨b, cb, h1, h2, h3, h4, h5, h6, h7, _⟩ := h.row (gridOf_at D L hr) (by simpa using hpos)
  rw [List.length_map, List.length_range] at h1 h4
  refine ⟨b, cb, h1, h2, h3, fun j hj => h5 j _ (by simp [hj]), h6, fun j x hj => ?_⟩
  have h8 := h7 j x
  rw [grid_put D L hr hj] at h8
  exact h8
def GridPost (D : List VIntS) (L : Sq → Int) (w : World) (e : Ending) (w' : World) : Prop := ∃ g c, e = .returned (.slice (some ⟨g, 0, none⟩) D.length c) ∧ GridIn w.heap.size w'.heap.size w' g D.length c (gridOf D L) ∧ Below w.heap.size w w'
end Go.Proofs.Ytpnaciamnigbnaa
namespace Go.Proofs.Ytpnaciamnigbnaa
open Go.RowKit

/-- What a law's walk is told of a slice of integers that came in. -/
def IsRow (k : IntKind) (w : World) (a : Option Addr) (len cap : Nat) (zs : List Int) : Prop :=
  (a = none ∧ len = 0 ∧ cap = 0 ∧ zs = []) ∨
  ∃ x, a = some x ∧ len ≤ cap ∧ cap ≤ maxLen ∧ zs.length = cap ∧ (∀ i, i < zs.length → w.cell? (x.add i) = some (.int k (zs.getD i 0))) ∧ ∀ n ∈ zs, (Lit.int k n).wf = true
/-- The code's bytes, in a block other than bc. -/
def CodeAt (w : World) (a : Option Addr) (len cap bc : Nat) : Prop :=
  len ≤ cap ∧ cap ≤ maxLen ∧ (len = 0 ∨ ∃ b o, a = some ⟨b, o, none⟩ ∧ b < w.heap.size ∧ b ≠ bc ∧ ∀ i, i < len → ∃ c : Int, 0 ≤ c ∧ c ≤ 255 ∧ w.cell? ⟨b, o + i, none⟩ = some (.int .u8 c))
/-- The cursor in block bc. -/
def CurAt (w : World) (bc : Nat) (a : Option Addr) (len cap t : Nat) : Prop :=
  ∃ (i : Nat) (seed : Int), i ≤ t ∧ 0 ≤ seed ∧ seed ≤ 18446744073709551615 ∧ w.heap[bc]? = some (.cells #[.slice a len cap, .int .i64 i, .int .u64 seed] 90 (0, 0))
theorem CodeAt.grown {w w' : World} {a : Option Addr} {len cap bc : Nat} (h : CodeAt w a len cap bc) (hg : w.grownBy w' (some bc)) : CodeAt w' a len cap bc := by
  refine ⟨h.1, h.2.1, ?_⟩
  rcases h.2.2 with h0 | ⟨b, o, rfl, h1, h2, h3⟩
  · exact .inl h0
  · refine .inr ⟨b, o, rfl, Nat.lt_of_lt_of_le h1 hg.size, h2, fun i hi => ?_⟩
    obtain ⟨c, c0, c1, hc⟩ := h3 i hi
    exact ⟨c, c0, c1, (World.cell?_of_block (w := w) (a := ⟨b, o + i, none⟩) (hg.block b h1 (by simpa using h2))).trans hc⟩

theorem and_255 (x : Int) (h0 : 0 ≤ x) (h1 : x ≤ 18446744073709551615) : 0 ≤ bits .and .u64 x 255 ∧ bits .and .u64 x 255 ≤ 255 := by
  obtain ⟨n, rfl⟩ := Int.eq_ofNat_of_zero_le h0
  have h := bits_and_u64_nat n 255 (by omega) (by omega)
  have e : ((255 : Nat) : Int) = 255 := rfl
  rw [e] at h
  rw [h]
  have := Nat.and_le_right (n := n) (m := 255)
  omega
theorem u64_bd (x : Int) : 0 ≤ IntKind.u64.wrap x ∧ IntKind.u64.wrap x ≤ 18446744073709551615 := by
  rw [IntKind.wrap_u64]; omega
theorem cur_step {w : World} {bc : Nat} {S : Value} {i : Nat} {seed : Int} (h : w.heap[bc]? = some (.cells #[S, .int .i64 i, .int .u64 seed] 90 (0, 0))) (m m2 : Nat) (s2 : Int) :
    ((((w.drewN m).setCell ⟨bc, 1, none⟩ (.int .i64 ((i : Int) + 1))).setCell ⟨bc, 2, none⟩ (.int .u64 s2)).drewN m2).heap[bc]? = some (.cells #[S, .int .i64 ((i + 1 : Nat) : Int), .int .u64 s2] 90 (0, 0)) ∧
    w.grownBy ((((w.drewN m).setCell ⟨bc, 1, none⟩ (.int .i64 ((i : Int) + 1))).setCell ⟨bc, 2, none⟩ (.int .u64 s2)).drewN m2) (some bc) := by
  have h1 := heap_setCell_same (w.drewN m) bc 1 #[S, .int .i64 i, .int .u64 seed] 90 (.int .i64 ((i : Int) + 1)) h
  have h2 := heap_setCell_same _ bc 2 _ 90 (.int .u64 s2) h1
  refine ⟨by
    have e : (((w.drewN m).setCell ⟨bc, 1, none⟩ (.int .i64 ((i : Int) + 1))).setCell ⟨bc, 2, none⟩ (.int .u64 s2)).heap[bc]? = some (.cells #[S, .int .i64 ((i + 1 : Nat) : Int), .int .u64 s2] 90 (0, 0)) := by
      rw [h2]; simp
    exact e, ⟨rfl, rfl, rfl, ?_, fun k _ hk => ?_⟩⟩
  · show w.heap.size ≤ (((w.drewN m).setCell ⟨bc, 1, none⟩ (.int .i64 ((i : Int) + 1))).setCell ⟨bc, 2, none⟩ (.int .u64 s2)).heap.size
    simp
  · have hk' : k ≠ bc := fun e => hk (by rw [e])
    show (((w.drewN m).setCell ⟨bc, 1, none⟩ (.int .i64 ((i : Int) + 1))).setCell ⟨bc, 2, none⟩ (.int .u64 s2)).heap[k]? = w.heap[k]?
    rw [heap_setCell_other _ ⟨bc, 2, none⟩ k _ hk', heap_setCell_other _ ⟨bc, 1, none⟩ k _ hk']
    rfl

/-- What a draw of a number below n gives. -/
def PickPost (bc : Nat) (a : Option Addr) (len cap t : Nat) (n : Int) (w : World) (e : Ending) (w' : World) : Prop := ∃ x : Int, e = .returned (.int .i64 x) ∧ 0 ≤ x ∧ x < n ∧ CurAt w' bc a len cap t ∧ w.grownBy w' (some bc)
set_option maxHeartbeats 1600000 in
set_option maxRecDepth 100000 in
theorem next_any (bc : Nat) (a : Option Addr) (len cap t : Nat) (w : World) (hc : CurAt w bc a len cap t) (hd : CodeAt w a len cap bc) (ht : t ≤ 1000000) :
    Calls Try.prog 155 #[.pointer (some ⟨bc, 0, none⟩)] w (PickPost bc a len cap (t + 1) 256 w) := by
  obtain ⟨i, seed, hi, hs0, hs1, hh⟩ := hc
  obtain ⟨hlc, hcm, hcode⟩ := hd
  have c0 : w.cell? ⟨bc, 0, none⟩ = some (.slice a len cap) := by simp [World.cell?, hh]
  have c1 : w.cell? ⟨bc, 1, none⟩ = some (.int .i64 i) := by simp [World.cell?, hh]
  have c2 : w.cell? ⟨bc, 2, none⟩ = some (.int .u64 seed) := by simp [World.cell?, hh]
  have f1 : w.frozen? ⟨bc, 1, none⟩ = false := by simp [World.frozen?, hh]
  have f2 : w.frozen? ⟨bc, 2, none⟩ = false := by simp [World.frozen?, hh]
  have HH := Lib.hid hh
  unfold maxLen at hcm
  clear hh
  have i0 : (0 : Int) ≤ (i : Int) := by omega
  by_cases hlt : i < len
  · rcases hcode with h0 | ⟨b, o, rfl, hb, hne, hcells⟩
    · omega
    obtain ⟨c, k0, k1, hcell⟩ := hcells i hlt
    have i1 : (i : Int) < (len : Int) := by omega
    have i2 : (i : Int) + 1 ≤ (len : Int) := by omega
    clear hcells
    go_enter Try.func155, Try.ntmps155
    go_wp2
    go_quiet (fail)
    go_wp2
    go_quiet (fail)
    go_wp2
    go_quiet (fail)
    go_wp2
    go_ret
    exact ⟨c, rfl, k0, by omega, ⟨i + 1, _, by omega, (u64_bd _).1, (u64_bd _).2, (cur_step HH.out _ _ _).1⟩, (cur_step HH.out _ _ _).2⟩
  · have i1 : decide ((i : Int) < (len : Int)) = false := by simp; omega
    go_enter Try.func155, Try.ntmps155
    go_wp2
    have i2 : decide ((i : Int) + 1 ≤ (len : Int)) = false := by simp; omega
    go_quiet (fail)
    go_wp2
    go_quiet (fail)
    go_wp2
    go_ret
    obtain ⟨s0, s1⟩ := u64_bd (IntKind.u64.wrap (IntKind.u64.wrap (seed * 6364136223846793005)) + 604171)
    obtain ⟨x0, x1⟩ := and_255 (IntKind.u64.wrap (IntKind.u64.wrap (IntKind.u64.wrap (seed * 6364136223846793005)) + 604171) / 1099511627776) (by omega) (by omega)
    exact ⟨_, ret_int (by unfold wrap64; omega), x0, by omega, ⟨i + 1, _, by omega, s0, s1, (cur_step HH.out _ _ _).1⟩, (cur_step HH.out _ _ _).2⟩
theorem CurAt.more {w : World} {bc : Nat} {a : Option Addr} {len cap t t' : Nat} (h : CurAt w bc a len cap t) (ht : t ≤ t') : CurAt w bc a len cap t' := by
  obtain ⟨i, s, h1, r⟩ := h
  exact ⟨i, s, by omega, r⟩
theorem CurAt.heap {w w' : World} {bc : Nat} {a : Option Addr} {len cap t : Nat} (h : CurAt w bc a len cap t) (hh : w'.heap[bc]? = w.heap[bc]?) : CurAt w' bc a len cap t := by
  obtain ⟨i, s, h1, h2, h3, h4⟩ := h
  exact ⟨i, s, h1, h2, h3, hh.trans h4⟩
theorem CurAt.lt {w : World} {bc : Nat} {a : Option Addr} {len cap t : Nat} (h : CurAt w bc a len cap t) : bc < w.heap.size := by
  obtain ⟨i, s, h1, h2, h3, h4⟩ := h
  exact (Array.getElem?_eq_some_iff.1 h4).1

set_option maxHeartbeats 800000 in
theorem pick_any (bc : Nat) (a : Option Addr) (len cap t n : Nat) (w : World) (hc : CurAt w bc a len cap t) (hd : CodeAt w a len cap bc) (ht : t ≤ 900000) (hn0 : 1 ≤ n) (hn : n ≤ 65536) :
    Calls Try.prog 136 #[.pointer (some ⟨bc, 0, none⟩), .int .i64 n] w (PickPost bc a len cap (t + 2) n w) := by
  have C := Lib.hid hc
  have D := Lib.hid hd
  clear hc hd
  by_cases h1 : n = 1
  · subst h1
    go_enter Try.func136, Try.ntmps136
    go_wp2
    go_ret
    exact ⟨0, rfl, by omega, by omega, C.out.more (by omega), World.grownBy.refl _ _⟩
  have h2 : 1 < n := by omega
  by_cases h200 : 200 < n
  · go_enter Try.func136, Try.ntmps136
    go_wp2_with fail
    refine (next_any bc a len cap t _ C.out D.out (by omega)).mono ?_
    rintro e w1 ⟨x, rfl, x0, x1, hc1, hg1⟩
    have C1 := Lib.hid hc1
    have G1 := Lib.hid hg1
    clear hc1 hg1
    go_wp2_with fail
    refine (next_any bc a len cap (t + 1) _ C1.out (D.out.grown G1.out) (by omega)).mono ?_
    rintro e w2 ⟨y, rfl, y0, y1, hc2, hg2⟩
    have C2 := Lib.hid hc2
    have G2 := Lib.hid (grown_trans G1.out hg2)
    clear hc2 hg2
    have hnn : ((n : Int) == 0) = false := by simp; omega
    go_wp2
    go_ret
    exact ⟨_, rfl, Int.emod_nonneg _ (by omega), Int.emod_lt_of_pos _ (by omega), C2.out, G2.out⟩
  · have h200' : n ≤ 200 := by omega
    go_enter Try.func136, Try.ntmps136
    go_wp2_with fail
    refine (next_any bc a len cap t _ C.out D.out (by omega)).mono ?_
    rintro e w1 ⟨x, rfl, x0, x1, hc1, hg1⟩
    have C1 := Lib.hid hc1
    have G1 := Lib.hid hg1
    clear hc1 hg1
    have hnn : ((n : Int) == 0) = false := by simp; omega
    go_wp2
    go_ret
    exact ⟨_, rfl, Int.emod_nonneg _ (by omega), Int.emod_lt_of_pos _ (by omega), C1.out.more (by omega), G1.out⟩

/-- A choice: yes or no. -/
def OnePost (bc : Nat) (a : Option Addr) (len cap t : Nat) (w : World) (e : Ending) (w' : World) : Prop := ∃ b : Bool, e = .returned (.bool b) ∧ CurAt w' bc a len cap t ∧ w.grownBy w' (some bc)
theorem one_any (bc : Nat) (a : Option Addr) (len cap t n : Nat) (w : World) (hc : CurAt w bc a len cap t) (hd : CodeAt w a len cap bc) (ht : t ≤ 900000) (hn0 : 1 ≤ n) (hn : n ≤ 65536) :
    Calls Try.prog 112 #[.pointer (some ⟨bc, 0, none⟩), .int .i64 n] w (OnePost bc a len cap (t + 2) w) := by
  have C := Lib.hid hc
  have D := Lib.hid hd
  clear hc hd
  go_enter Try.func112, Try.ntmps112
  go_wp2_with fail
  refine (pick_any bc a len cap t n _ C.out D.out ht hn0 hn).mono ?_
  rintro e w1 ⟨x, rfl, x0, x1, hc1, hg1⟩
  have C1 := Lib.hid hc1
  have G1 := Lib.hid hg1
  clear hc1 hg1
  go_wp2
  go_ret
  exact ⟨_, rfl, C1.out, G1.out⟩

/-- One of some texts, none longer than m. -/
def OfPost (bc : Nat) (a : Option Addr) (len cap t m : Nat) (w : World) (e : Ending) (w' : World) : Prop := ∃ x : ByteArray, e = .returned (.string x) ∧ x.size ≤ m ∧ CurAt w' bc a len cap t ∧ w.grownBy w' (some bc)
/-- One of some numbers, all between lo and hi. -/
def AmongPost (bc : Nat) (a : Option Addr) (len cap t : Nat) (lo hi : Int) (w : World) (e : Ending) (w' : World) : Prop := ∃ x : Int, e = .returned (.int .i64 x) ∧ lo ≤ x ∧ x ≤ hi ∧ CurAt w' bc a len cap t ∧ w.grownBy w' (some bc)
set_option maxHeartbeats 800000 in
theorem among_any (bc : Nat) (a : Option Addr) (len cap t b o ln lc : Nat) (lo hi : Int) (w : World) (hc : CurAt w bc a len cap t) (hd : CodeAt w a len cap bc) (ht : t ≤ 900000) (hn0 : 1 ≤ ln) (hn : ln ≤ 1000) (hb : b ≠ bc) (hbs : b < w.heap.size)
    (hl : ∀ i, i < ln → ∃ x : Int, lo ≤ x ∧ x ≤ hi ∧ w.cell? ⟨b, o + i, none⟩ = some (.int .i64 x)) :
    Calls Try.prog 137 #[.pointer (some ⟨bc, 0, none⟩), .slice (some ⟨b, o, none⟩) ln lc] w (AmongPost bc a len cap (t + 2) lo hi w) := by
  have C := Lib.hid hc
  have D := Lib.hid hd
  have L := Lib.hid hl
  clear hc hd hl
  go_enter Try.func137, Try.ntmps137
  go_wp2_with fail
  refine (pick_any bc a len cap t ln _ C.out D.out ht hn0 (by omega)).mono ?_
  rintro e w1 ⟨x, rfl, x0, x1, hc1, hg1⟩
  obtain ⟨i, rfl⟩ := Int.eq_ofNat_of_zero_le x0
  obtain ⟨s, hs0, hs1, hcell⟩ := L.out i (by omega)
  have hcell1 : w1.cell? ⟨b, o + i, none⟩ = some (.int .i64 s) := (World.cell?_of_block (w := w) (a := ⟨b, o + i, none⟩) (hg1.block b hbs (by simpa using hb))).trans hcell
  have C1 := Lib.hid hc1
  have G1 := Lib.hid hg1
  clear hc1 hg1 hcell
  go_wp2
  go_ret
  exact ⟨_, rfl, hs0, hs1, C1.out, G1.out⟩
end Go.Proofs.Ytpnaciamnigbnaa
