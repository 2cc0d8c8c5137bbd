/- Texts in one: Wi11, Qtail, Arr2, Wi12, Grd, FilledReliefP, Wi15, Sheet2. -/
import Derived.Test.YtodjgeffkfbpiaaM6
import Derived.Test.YtodjgeffkfbpiaaM2
import Derived.StillTail
import Derived.ScopeJumps
import Derived.WalkMore
import Derived.Deep.DeepCutAuto
import Derived.Test.YtodjgeffkfbpiaaM3
import Derived.Laws.OwnMore
import Derived.Deep.AppendLies
import Derived.Deep.RegionWith
import Derived.Deep.RegionHeld3
import Derived.Test.YtodjgeffkfbpiaaM1
namespace Go.Proofs.Ytodjgeffkfbpiaa
open Go.RowKit

set_option maxHeartbeats 12800000 in
set_option maxRecDepth 100000 in
theorem wayOut_any (L : Sq → Int) (a : Option Addr) (len cap : Nat) (D : List VIntS) (r c : Nat) (w : World) (h : IsIntSS w a len cap D) (hD : RL D) (hr : r < D.length) (hc : c < colsN D) :
    Calls Try.prog 97 #[.slice a len cap, .agg (arrC L), .agg #[.int .i64 (r : Int), .int .i64 (c : Int)]] w fun e w' => e = .returned (.int .i64 (wayN D L (r, c))) ∧ Below w.heap.size w w' := by
  have HD := Lib.hid hD
  have hm8 := hD.m8
  have hn8 := hD.n8
  have b0 := bel_al2 w (.cells (arrC L) 60) (.cells #[.int .i64 (r : Int), .int .i64 (c : Int)] 34)
  have B0 := Lib.hid b0
  have S := Lib.hid (h.below b0)
  have Z4 := Lib.hid ((HBArr.new w L _ rfl).alloc (.cells #[.int .i64 (r : Int), .int .i64 (c : Int)] 34))
  obtain ⟨c0, c1⟩ := BoxIntA2.new (w.alloc (.cells (arrC L) 60)) 34 ⟨(r : Int), (c : Int)⟩ (w.heap.size + 1) (by simp)
  simp only [] at c0 c1
  have WN := Lib.hid (show wayN D L (r, c) = if (nears D (r, c)).length < 4 then 0 else lowestN L (nears D (r, c)) from rfl)
  have NI := Lib.hid (fun (k : Nat) (q : Sq) (hq : (nears D (r, c))[k]? = some q) => nears_in (show inR D (r, c) from ⟨hr, hc⟩) (List.mem_of_getElem? hq))
  have hln := nears_len D (r, c)
  clear h hD b0
  go_enter Try.func97, Try.ntmps97
  go_wp2_with fail
  refine (squaresBeside_any _ _ _ D r c _ S.out HD.out hr hc).mono ?_
  rintro e w1 ⟨v, rfl, hown, hb⟩
  have B1 := Lib.hid (Below.then' B0.out hb)
  have Y4 := Lib.hid (Z4.out.below hb)
  obtain ⟨a4, c4, rfl, _⟩ := hown.is
  have O1 := Lib.hid (hown.base (base' := w.heap.size + 2) (by simp))
  obtain ⟨N, hN⟩ : ∃ N, nears D (r, c) = N := ⟨_, rfl⟩
  rw [hN] at O1 WN NI hln ⊢
  clear hown hb hN c0 c1
  by_cases h4 : N.length < 4
  · have F := Lib.hid (show wayN D L (r, c) = 0 from by rw [WN.out, if_pos h4])
    have i4 : (N.length : Int) < 4 := by omega
    have d4 : decide (N.length < 4) = true := decide_eq_true h4
    clear h4
    go_wp2
    go_ret
    exact ⟨by rw [F.out]; rfl, B1.out⟩
  · have F := Lib.hid (show wayN D L (r, c) = lowestN L N from by rw [WN.out, if_neg h4])
    have i4 : ¬ (N.length : Int) < 4 := by omega
    have d4 : decide (N.length < 4) = false := decide_eq_false h4
    clear h4
    go_wp2
    go_loopw [8, 19] (fun lo i wr => ∃ k : Nat, k ≤ N.length ∧ i = .int .i64 k ∧ lo = .int .i64 (lowestN L (N.take k)) ∧ HBArr wr w.heap.size L ∧ SqRow (w.heap.size + 2) wr (.slice a4 N.length c4) N ∧ Below w.heap.size w wr) (fun _ i _ => N.length - (intOf i).toNat)
    case atStart => exact ⟨0, Nat.zero_le _, rfl, rfl, Y4.out, O1.out, B1.out⟩
    case round =>
      obtain ⟨k, hk, rfl, rfl, h4, hown, hbel⟩ := hrel
      have X4 := Lib.hid h4
      have O := Lib.hid hown
      have B := Lib.hid hbel
      by_cases hlt : k < N.length
      · obtain ⟨q, hq⟩ : ∃ q, N[k]? = some q := ⟨N[k]'hlt, List.getElem?_eq_getElem _⟩
        obtain ⟨b, o, ha4, hb, hat⟩ := hown.isAt.2.at (by omega)
        subst ha4
        obtain ⟨d0, d1⟩ := hat k (vsq q) (sqV_at hq)
        have QI := NI.out k q hq
        have LS := Lib.hid (show lowestN L (N.take (k + 1)) = min (lowestN L (N.take k)) (L q) from by rw [List.take_add_one, hq]; exact lowestN_snoc L _ q)
        obtain ⟨x, y⟩ := q
        simp only [vsq] at d0 d1
        obtain ⟨hx, hy⟩ := QI
        simp only [] at hx hy
        have hc4 := hown.isAt.2.2.1
        have hc5 := hown.isAt.2.2.2.1
        unfold maxLen at hc5
        have j0 : (0 : Int) ≤ (k : Int) := by omega
        have j1 : (k : Int) < (N.length : Int) := by omega
        have x0 : (0 : Int) ≤ (x : Int) := by omega
        have x1 : (x : Int) < 8 := by omega
        have y0 : (0 : Int) ≤ (y : Int) := by omega
        have y1 : (y : Int) < 8 := by omega
        have ba := bel_al1 wr (.cells #[.int .i64 (x : Int), .int .i64 (y : Int)] 34)
        have B2 := Lib.hid (Below.then' B.out ba)
        have A4 := Lib.hid (h4.below ba)
        have AO := Lib.hid (hown.below ba)
        obtain ⟨f0, f1⟩ := BoxIntA2.new wr 34 ⟨(x : Int), (y : Int)⟩ _ rfl
        simp only [] at f0 f1
        have g0 := A4.out.cell (show x < 8 by omega) (show y < 8 by omega)
        obtain ⟨lo, hlo⟩ : ∃ lo, lowestN L (N.take k) = lo := ⟨_, rfl⟩
        obtain ⟨z, hz⟩ : ∃ z, L (x, y) = z := ⟨_, rfl⟩
        rw [hz] at g0 LS
        rw [hlo] at LS ⊢
        clear h4 hown hbel hat hq ba hlo hz
        obtain ⟨V, hV⟩ : ∃ V, wr.alloc (.cells #[.int .i64 (x : Int), .int .i64 (y : Int)] 34) = V := ⟨_, rfl⟩
        rw [hV] at B2 A4 AO f0 f1 g0
        have k0 := cell_regrown f0
        have k1 := cell_regrown f1
        have k2 := cell_regrown g0
        clear f0 f1 g0
        go_wp2
        try rw [hV]
        clear hV
        refine wp_region_quiet_below (by kernel_rfl) (by kernel_rfl) ?_
        repeat (any_goals (first | go_big_quiet_step (fail) | quiet_step (fail)))
        refine wpQuiet_nil ?_
        intro W2 hw2
        have bw := below_of_re hw2
        have B3 := Lib.hid (Below.then' B2.out bw)
        have C4 := Lib.hid (A4.out.below bw)
        have CO := Lib.hid (AO.out.below bw)
        obtain ⟨m, hm⟩ : ∃ m, (if z < lo then z else lo) = m := ⟨_, rfl⟩
        have LM := Lib.hid (show lowestN L (N.take (k + 1)) = m from by rw [LS.out, ← hm]; split <;> omega)
        rw [hm]
        clear hm bw hw2 k0 k1 k2
        go_wp2
        go_roundw
        case rel => exact ⟨k + 1, by omega, by go_num, by rw [LM.out], C4.out, CO.out, B3.out⟩
        case measure => simp [intOf]; omega
      · obtain rfl : k = N.length := by omega
        have E := Lib.hid (show lowestN L (N.take N.length) = wayN D L (r, c) from by rw [List.take_of_length_le (Nat.le_refl _), F.out])
        rw [E.out]
        clear h4 hown hbel
        go_wp2
        go_ret
        exact ⟨rfl, B.out⟩
end Go.Proofs.Ytodjgeffkfbpiaa
namespace Go.Proofs.Ytodjgeffkfbpiaa
open Go.RowKit

section
variable {P : Program} {md : Region.Mode} {C : World → Prop} {l : List Oper} {n : Nat}
/-- The same operation, doing nothing. -/
def idleOp (s : Oper) : Oper := { s with op := .move (.const undef) }
/-- The region with its operations from n on doing nothing. -/
def idleAt (l : List Oper) (n : Nat) : List Oper := l.take n ++ (l.drop n).map idleOp
/-- Each operation waits for earlier ones alone. -/
def backB (md : Region.Mode) (l : List Oper) : Bool := (List.range l.length).all fun j => match l[j]? with | some o => o.after.all fun e => !Region.binds md e || decide (e.on < j) | none => true
theorem idleAt_len : (idleAt l n).length = l.length := by simp [idleAt]; omega
theorem idleAt_lt {j : Nat} (h : j < n) : (idleAt l n)[j]? = l[j]? := by
  unfold idleAt
  by_cases hj : j < (l.take n).length
  · rw [List.getElem?_append_left hj, List.getElem?_take, if_pos h]
  · have h2 : l.length ≤ j := by rw [List.length_take] at hj; omega
    rw [List.getElem?_append_right (by omega), List.getElem?_eq_none h2, List.length_take, List.getElem?_map, List.getElem?_drop, List.getElem?_eq_none (by omega)]; rfl
theorem idleAt_ge {j : Nat} (h : n ≤ j) : (idleAt l n)[j]? = (l[j]?).map idleOp := by
  unfold idleAt
  by_cases h2 : n ≤ l.length
  · rw [List.getElem?_append_right (by rw [List.length_take]; omega), List.length_take, List.getElem?_map, List.getElem?_drop, show n + (j - min n l.length) = j by omega]
  · rw [List.drop_of_length_le (by omega), List.map_nil, List.append_nil, List.getElem?_take, List.getElem?_eq_none (show l.length ≤ j by omega)]
    split <;> rfl
theorem idle_after (j : Nat) : ((idleAt l n)[j]?).map Oper.after = (l[j]?).map Oper.after := by
  by_cases h : j < n
  · rw [idleAt_lt h]
  · rw [idleAt_ge (by omega), Option.map_map]; rfl
theorem idle_dst (j : Nat) : ((idleAt l n)[j]?).bind Oper.dst = (l[j]?).bind Oper.dst := by
  by_cases h : j < n
  · rw [idleAt_lt h]
  · rw [idleAt_ge (by omega)]
    cases l[j]? <;> rfl
theorem idle_ready (listed : Array Bool) : Region.ready md (idleAt l n).toArray listed = Region.ready md l.toArray listed := by
  unfold Region.ready
  rw [List.size_toArray, List.size_toArray, idleAt_len]
  congr 1
  funext i
  have h := idle_after (l := l) (n := n) i
  have e : ∀ (o : Option Oper) (f : Array Edge → Bool), (o.map fun x => f x.after) = (o.map Oper.after).map f := fun o f => by cases o <;> rfl
  simp only [List.getElem?_toArray]
  rw [e _ (fun x => x.all _), e _ (fun x => x.all _), h]
theorem idle_yielded (tmps : Array Value) : yielded (idleAt l n).toArray tmps = yielded l.toArray tmps := by
  funext j
  unfold yielded
  rw [List.getElem?_toArray, List.getElem?_toArray]
  have h := idle_dst (l := l) (n := n) j
  rw [show (fun x : Oper => x.dst) = Oper.dst from rfl, h]
theorem ready_some (hb : backB md l = true) {listed : Array Bool} (hsz : listed.size = l.length) : ∀ k, k < l.length → listed.getD k true = false → Region.ready md l.toArray listed ≠ [] := by
  intro k
  induction k using Nat.strongRecOn with
  | _ k ih =>
    intro hk hu hr
    obtain ⟨o, ho⟩ : ∃ o, l[k]? = some o := ⟨l[k]'hk, List.getElem?_eq_getElem _⟩
    by_cases hall : ∀ e ∈ o.after, Region.binds md e = true → listed.getD e.on false = true
    · have : k ∈ Region.ready md l.toArray listed := mem_ready.2 ⟨hu, o, by simpa using ho, hall⟩
      rw [hr] at this
      cases this
    · refine hall fun e he hbi => Classical.byContradiction fun hne => ?_
      have h1 := List.all_eq_true.1 hb k (List.mem_range.2 hk)
      simp only [ho] at h1
      have h2 := Array.all_eq_true_iff_forall_mem.1 h1 e he
      simp only [hbi, Bool.not_true, Bool.false_or, decide_eq_true_eq] at h2
      exact ih e.on h2 (by omega) (getD_in (by omega) (by simpa using hne)) hr
theorem any_done {Q : Exit → Act → World → Prop} {listed : Array Bool} (h : Region.ready md l.toArray listed = []) {a : Act} {w : World} (hq : Q .normal a w) : ∀ fuel, wpAny P md l.toArray Q fuel listed a w
  | 0 => ⟨h, hq⟩
  | _ + 1 => ⟨fun _ => hq, by rw [h]; intro i hi; cases hi⟩
theorem any_last {Q : Exit → Act → World → Prop} {s : Oper} (hn : l.length = n + 1) (hs : l[n]? = some s) (hg : s.guard = none) (hd : s.dst = none)
    (hsink : Region.sinkB md l.toArray n = true) (hch : Region.chainB md l.toArray n = true) (hb : backB md l = true) :
    ∀ (fuel : Nat) (listed : Array Bool) (a : Act) (w : World), C w → HeadInv md l.toArray n listed →
      wpAnyQ P md (idleAt l n).toArray C (fun a' => ∀ w', C w' → wpList P l.toArray Q (l.drop n) a' w') fuel listed a → wpAny P md l.toArray Q fuel listed a w := by
  have hsz : l.toArray.size = n + 1 := by simpa using hn
  intro fuel
  induction fuel with
  | zero =>
    intro listed a w _ inv h
    have h1 := h.1
    rw [idle_ready] at h1
    exact absurd h1 (ready_some hb (by simpa using inv.size) n (by omega) (inv.tail n (Nat.le_refl _) (by omega)))
  | succ fuel ih =>
    intro listed a w hw inv h
    refine ⟨fun h0 => absurd h0 (ready_some hb (by simpa using inv.size) n (by omega) (inv.tail n (Nat.le_refl _) (by omega))), fun i hi => ?_⟩
    have hq := h.2 i (by rw [idle_ready]; exact hi)
    by_cases hin : i < n
    · have hq2 : qOp P l.toArray C i (wpAnyQ P md (idleAt l n).toArray C (fun a' => ∀ w', C w' → wpList P l.toArray Q (l.drop n) a' w') fuel (listed.setIfInBounds i true)) a := by
        unfold qOp at hq ⊢
        rw [List.getElem?_toArray] at hq ⊢
        rw [idleAt_lt hin, idle_yielded] at hq
        exact hq
      exact wpOp_of_qOp hw (fun a' w' hw' hk => ih _ _ _ hw' (inv.set hi hin) hk) hq2
    · obtain ⟨hun, o, ho, _⟩ := mem_ready.1 hi
      have hile : i < n + 1 := by rw [← hsz]; exact (Array.getElem?_eq_some_iff.1 ho).1
      obtain rfl : i = n := by omega
      have hall : ∀ j, j < i → listed.getD j true = true := fun j hj => by
        cases hl : listed.getD j true with
        | true => rfl
        | false => exact absurd hi (tail_waits hsink hch (by omega) inv _ j rfl hj hl i (Nat.le_refl _))
      have hlsz : listed.size = i + 1 := by rw [inv.size]; exact hsz
      have hempty : Region.ready md l.toArray (listed.setIfInBounds i true) = [] := by
        rw [List.eq_nil_iff_forall_not_mem]
        intro j hj
        obtain ⟨hju, oj, hoj, _⟩ := mem_ready.1 hj
        have hjl : j < i + 1 := by rw [← hsz]; exact (Array.getElem?_eq_some_iff.1 hoj).1
        by_cases e : i = j
        · subst e
          rw [Array.getD_eq_getD_getElem?, Array.getElem?_setIfInBounds_self_of_lt (by omega)] at hju
          simp at hju
        · rw [getD_set_ne true e, hall j (by omega)] at hju
          cases hju
      unfold qOp at hq
      rw [List.getElem?_toArray, idleAt_ge (Nat.le_refl _), hs] at hq
      have hwant : ∀ y, Region.wanted (idleOp s) y = true := fun y => by simp [Region.wanted, idleOp, hg]
      simp only [Option.map_some, hwant, if_true] at hq
      obtain ⟨v, _, hk⟩ := hq
      have hput : a.put (idleOp s).dst v = a := by rw [show (idleOp s).dst = none from hd]; rfl
      rw [hput] at hk
      have hQ : ∀ w', C w' → wpList P l.toArray Q (l.drop i) a w' := by
        cases fuel with
        | zero => exact hk.2
        | succ f => exact hk.1 (by rw [idle_ready]; exact hempty)
      have h1 := hQ w hw
      rw [show l.drop i = [s] from by rw [List.drop_eq_getElem_cons (show i < l.length by omega), List.drop_of_length_le (by omega)]; congr 1; exact (List.getElem?_eq_some_iff.1 hs).2] at h1
      unfold wpList at h1
      unfold wpOp
      rw [List.getElem?_toArray, hs]
      have hw2 : ∀ y, Region.wanted s y = true := fun y => by simp [Region.wanted, hg]
      simp only [hw2, if_true] at h1 ⊢
      exact h1.imp (Oper.wp_mono fun a' w' hq' => any_done hempty hq' fuel) id
theorem quiet_append {ops : Array Oper} {Q : Act → Prop} : ∀ (h t : List Oper) (a : Act), wpQuiet P ops C (wpQuiet P ops C Q t) h a → wpQuiet P ops C Q (h ++ t) a
  | [], _, _, hh => hh
  | o :: h, t, a, hh => by
    unfold wpQuiet at hh
    rw [List.cons_append]
    unfold wpQuiet
    split
    · rename_i hw
      rw [if_pos hw] at hh
      exact Oper.quiet_mono (fun a' h' => quiet_append h t a' h') hh
    · rename_i hw
      rw [if_neg hw] at hh
      exact quiet_append h t _ hh
theorem quiet_mono' {ops : Array Oper} {Q Q' : Act → Prop} (hQ : ∀ a, Q a → Q' a) : ∀ (h : List Oper) (a : Act), wpQuiet P ops C Q h a → wpQuiet P ops C Q' h a
  | [], a, hh => hQ a hh
  | o :: h, a, hh => by
    unfold wpQuiet at hh ⊢
    split
    · rename_i hw
      rw [if_pos hw] at hh
      exact Oper.quiet_mono (fun a' h' => quiet_mono' hQ h a' h') hh
    · rename_i hw
      rw [if_neg hw] at hh
      exact quiet_mono' hQ h _ hh
end
theorem wp_region_quiet_last {P : Program} {id : Nat} {Q : Exit → Act → World → Prop} {a : Act} {w : World} {l : List Oper} (n : Nat) {s : Oper} (hm : P.follows .mixedOrders = true)
    (hn : l.length = n + 1) (hs : l[n]? = some s) (hg : s.guard = none) (hd : s.dst = none) (hB : Region.lexB .any (idleAt l n).toArray = true) (hsink : Region.sinkB .any l.toArray n = true) (hch : Region.chainB .any l.toArray n = true) (hb : backB .any l = true)
    (h : wpQuiet P (idleAt l n).toArray (fun w' => ∃ p : Regrown, w' = Sort.grow (redrawn w p.d) p.os) (fun a' => ∀ w', (∃ p : Regrown, w' = Sort.grow (redrawn w p.d) p.os) → wpList P l.toArray Q (l.drop n) a' w') (l.take n) a) : (Code.region id l.toArray true).wp P Q a w := by
  simp only [Region.lexB, Bool.and_eq_true] at hB
  have hc : ∃ p : Regrown, ({ w with drawn := w.drawn + 1 } : World) = Sort.grow (redrawn w p.d) p.os := ⟨⟨w.drawn + 1, #[]⟩, by rw [Sort.grow_empty]; rfl⟩
  have h2 : wpQuiet P (idleAt l n).toArray (fun w' => ∃ p : Regrown, w' = Sort.grow (redrawn w p.d) p.os) (fun a' => ∀ w', (∃ p : Regrown, w' = Sort.grow (redrawn w p.d) p.os) → wpList P l.toArray Q (l.drop n) a' w') (idleAt l n) a := by
    have he : idleAt l n = l.take n ++ [idleOp s] := by
      unfold idleAt
      congr 1
      rw [List.drop_eq_getElem_cons (show n < l.length by omega), List.drop_of_length_le (by omega), List.map_cons, List.map_nil]
      congr 2
      exact (List.getElem?_eq_some_iff.1 hs).2
    generalize hops : (idleAt l n).toArray = ops at h ⊢
    rw [he]
    refine quiet_append _ _ _ ?_
    refine quiet_mono' (fun a' ha' => ?_) _ _ h
    unfold wpQuiet
    rw [if_pos (show Region.wanted (idleOp s) _ = true from by simp [Region.wanted, idleOp, hg])]
    refine ⟨undef, fun w' _ => ?_, ?_⟩
    · unfold Oper.quietAt
      rw [show (execOp a'.eval (idleOp s)).run P w' = .ok (.value undef) w' from rfl]
      exact ⟨rfl, rfl⟩
    · rw [show (idleOp s).dst = none from hd]
      exact ha'
  have h3 := wpAnyQ_lex (C := fun w' => ∃ p : Regrown, w' = Sort.grow (redrawn w p.d) p.os) (md := .any) hB.1 (idleAt l n) 0 (Array.replicate (idleAt l n).toArray.size false) a (by simp) (by simpa using hB.2) h2
  have inv0 : HeadInv .any l.toArray n (Array.replicate l.toArray.size false) :=
    ⟨by simp, fun j oj _ hl => (by rw [getD_replicate_false] at hl; cases hl), fun t _ ht => getD_in (by simpa using ht) (getD_replicate_false _ _)⟩
  refine wp_region_any hm ?_
  have h4 := any_last (P := P) (C := fun w' => ∃ p : Regrown, w' = Sort.grow (redrawn w p.d) p.os) (Q := Q) hn hs hg hd hsink hch hb l.length (Array.replicate l.toArray.size false) a _ hc inv0 (by
    rw [List.size_toArray, idleAt_len] at h3
    rw [List.size_toArray]
    exact h3)
  simpa using h4
end Go.Proofs.Ytodjgeffkfbpiaa
namespace Go.Proofs.Ytodjgeffkfbpiaa
open Go.RowKit

theorem quiet_loadArr {ops : Array Oper} {rest : List Oper} {o : Oper} {a : Act} {C : World → Prop} {Q : Act → Prop} (hg : o.guard = none) (x : Operand) (ho : o.op = .load 60 x) (b : Nat) (hx : a.eval x = .pointer (some ⟨b, 0, none⟩)) (L : Sq → Int) (h : ∀ w, C w → HBArr w b L)
    (k : wpQuiet Try.prog ops C Q rest (a.put o.dst (.agg (arrC L)))) : wpQuiet Try.prog ops C Q (o :: rest) a := by
  unfold wpQuiet
  rw [if_pos (show Region.wanted o _ = true from by simp [Region.wanted, hg])]
  refine ⟨_, fun w hw => ?_, k⟩
  have h1 := load_arr (h w hw)
  unfold Oper.quietAt execOp
  simp only [ho, hx, Sem.run_bind, h1, Result.andThen_ok]
  exact ⟨rfl, rfl⟩
def rowL (M : Sq → Int) (r : Nat) : List Int := (List.range 8).map fun c => M (r, c)
/-- Equal in all its numbers. -/
def eqL (M L : Sq → Int) : Bool := (List.range 8).all fun r => rowL M r == rowL L r
theorem eqL_iff {M L : Sq → Int} : eqL M L = true ↔ ∀ r c, r < 8 → c < 8 → M (r, c) = L (r, c) := by
  unfold eqL rowL
  simp only [List.all_eq_true, List.mem_range, beq_iff_eq]
  constructor
  · intro h r c hr hc
    have := congrArg (fun l : List Int => l[c]?) (h r hr)
    simpa [hc] using this
  · intro h r hr
    exact List.map_congr_left fun c hc => h r c hr (List.mem_range.1 hc)
theorem size_row8 (w : World) : (sizeOf 58).run Try.prog w = .ok 8 w := by
  have h : (Try.prog.info? 58).map (·.size) = some 8 := by kernel_rfl
  cases hq : Try.prog.info? 58 with
  | none => simp [hq] at h
  | some i =>
    have hs : i.size = 8 := by simpa [hq] using h
    simp [sizeOf, typeInfo, hq, hs]
theorem part_row (L : Sq → Int) {r : Nat} (hr : r < 8) (w : World) : (part 58 (arrC L) (r * 8)).run Try.prog w = .ok (.agg (intCells (rowL L r)).toArray) w := by
  have hu2 := Try.underlying58
  have hagg : ∀ w, (isAgg 58).run Try.prog w = .ok true w := fun w => by
    unfold isAgg
    rw [Sem.run_bind, run_underlying hu2 w]
    simp
  unfold part
  simp only [Sem.run_bind, hagg, Result.andThen_ok, if_true, size_row8, Sem.run_pure]
  rw [show (arrC L).extract (r * 8) (r * 8 + 8) = rowC L r from rfl, rowC_eq L r hr]; rfl
theorem neqArr (M L : Sq → Int) (w : World) : (binOp .neq 60 (.agg (arrC M)) (.agg (arrC L))).run Try.prog w = .ok (.bool (!(eqL M L))) w := by
  rw [run_neq_struct, run_equalIn_arr 9999 60 58 8 8 _ _ w Try.underlying60 size_row8 (fun r => rowL M r == rowL L r) (fun r hr =>
    ⟨_, _, part_row M hr w, part_row L hr w, run_equalIn_ints 9997 58 3 .i64 8 (rowL M r) (rowL L r) w Try.underlying58 Try.underlying3 size_int (by simp [rowL]) (by simp [rowL])⟩), Result.andThen_ok]
  rfl
/-- Two whole arrays are compared. -/
theorem wpList_neqArr {ops : Array Oper} {rest : List Oper} {op : Oper} {a : Act} {w : World} {Q : Exit → Act → World → Prop} (hgd : op.guard = none) (x y : Operand) (rt : TypeId) (ho : op.op = .binOp .neq 60 x y rt) (M L : Sq → Int) (hx : a.eval x = .agg (arrC M)) (hy : a.eval y = .agg (arrC L)) (q : Bool) (hq : eqL M L = q)
    (k : wpList Try.prog ops Q rest (a.put op.dst (.bool (!q))) w) : wpList Try.prog ops Q (op :: rest) a w :=
  wpList_plain hgd fun _ hK => by
    unfold Oper.wp execOp
    have h1 : (eqGuard .neq 60 x y (.agg (arrC M)) (.agg (arrC L))).run Try.prog w = .ok () w := run_eqGuard_agg w .neq _ x y _ _ (by kernel_rfl)
    simp only [ho, hx, hy, Sem.run_bind, h1, neqArr, hq, Result.andThen_ok]
    exact hK _ _ k
def all64 : List Sq := (List.range 64).map fun i => (i / 8, i % 8)
theorem mem_all64 {p : Sq} : p ∈ all64 ↔ p.1 < 8 ∧ p.2 < 8 := by
  obtain ⟨a, b⟩ := p
  simp only [all64, List.mem_map, List.mem_range, Prod.mk.injEq]
  constructor
  · rintro ⟨i, hi, rfl, rfl⟩; omega
  · rintro ⟨h1, h2⟩; exact ⟨a * 8 + b, by omega, by omega, by omega⟩
def cellN (w : World) (b j : Nat) : Nat := match w.cell? ⟨b, j, none⟩ with
  | some v => (intOf v).toNat
  | none => 0
def arrSum (w : World) (b : Nat) : Nat := ((List.range 64).map (cellN w b)).sum
theorem HBArr.sum {w : World} {b : Nat} {L : Sq → Int} (h : HBArr w b L) : arrSum w b = sumN L all64 := by
  unfold arrSum sumN all64
  rw [List.map_map]
  congr 1
  refine List.map_congr_left fun i hi => ?_
  have hi := List.mem_range.1 hi
  have hc := h.cell (r := i / 8) (c := i % 8) (by omega) (by omega)
  rw [show i / 8 * 8 + i % 8 = i by omega] at hc
  unfold cellN
  rw [hc]
  rfl
theorem pass_out {D : List VIntS} : ∀ (l : List Sq), (∀ p ∈ l, inR D p) → ∀ (L : Sq → Int) (q : Sq), ¬ inR D q → passL D l L q = L q := by
  intro l
  induction l with
  | nil => intro _ L q _; rfl
  | cons x l ih =>
    intro hl L q hq
    have h1 := ih (fun p hp => hl p (List.mem_cons_of_mem _ hp)) (upL L x (newL D L x)) q hq
    unfold passL at *
    rw [List.foldl_cons, h1]
    unfold upL
    rw [if_neg (show ¬ q = x from fun e => hq (by rw [e]; exact hl x (by simp)))]
/-- What a pass does to the sum of all numbers, if there are none outside of the relief. -/
theorem pass_sum {D : List VIntS} (hD : RL D) {L : Sq → Int} (h : Hi D L) (h0 : ∀ p, ¬ inR D p → L p = 0) (hne : eqL (passL D (sqs D) L) L = false) : sumN (passL D (sqs D) L) all64 < sumN L all64 := by
  have hin : ∀ p ∈ sqs D, inR D p := fun p hp => mem_sqs.1 hp
  have hle : ∀ q, passL D (sqs D) L q ≤ L q := fun q => by
    by_cases hq : inR D q
    · exact pass_le _ hin L h q hq
    · rw [pass_out _ hin L q hq]; exact Int.le_refl _
  refine sumN_lt _ (fun q _ => hle q) (fun q _ => ?_) ?_
  · by_cases hq : inR D q
    · exact (pass_hi _ hin L h).nn hD hq
    · rw [pass_out _ hin L q hq, h0 q hq]; exact Int.le_refl _
  · refine Classical.byContradiction fun hno => ?_
    have : eqL (passL D (sqs D) L) L = true := eqL_iff.2 fun r c hr hc => Classical.byContradiction fun he => hno ⟨(r, c), mem_all64.2 ⟨hr, hc⟩, he⟩
    rw [this] at hne
    cases hne
/-- The levels, and 0 outside of the relief. -/
def levA (D : List VIntS) (p : Sq) : Int := if p.1 < D.length ∧ p.2 < colsN D then lev D p else 0
theorem levA_in {D : List VIntS} {p : Sq} (h : inR D p) : levA D p = lev D p := if_pos h
theorem pass_levA {D : List VIntS} (hD : RL D) {L : Sq → Int} (h : Hi D L) (h0 : ∀ p, ¬ inR D p → L p = 0) (he : eqL (passL D (sqs D) L) L = true) : arrC (passL D (sqs D) L) = arrC (levA D) := by
  have hin : ∀ p ∈ sqs D, inR D p := fun p hp => mem_sqs.1 hp
  unfold arrC
  rw [numsOf_congr fun r c hr hc => ?_]
  by_cases hq : inR D (r, c)
  · rw [eqL_iff.1 he r c hr hc, levA_in hq]
    rcases pass_or hD h with ⟨_, h2⟩ | ⟨⟨q, hq1, hq2⟩, _⟩
    · exact lev_eq hD h2 hq
    · exact absurd (eqL_iff.1 he q.1 q.2 (by have := hq1.1; have := hD.m8; omega) (by have := hq1.2; have := hD.n8; omega)) hq2
  · rw [pass_out _ hin L _ hq, h0 _ hq]
    exact (if_neg hq).symm
end Go.Proofs.Ytodjgeffkfbpiaa
namespace Go.Proofs.Ytodjgeffkfbpiaa
open Go.RowKit

/-- A scope in which the run jumps back to a label: what stands behind the label is walked once. -/
theorem scope_again {P : Program} {a : Act} {w : World} {Q : Exit → Act → World → Prop} {c R : Code} (l : Nat) (J : Act → World → Prop) (μ : Act → World → Nat) (hf : findLabel c l = some (Code.skip.seq R))
    (pass : ∀ a w, J a w → R.wp P (Exit.jump l (fun a' w' => J a' w' ∧ μ a' w' < μ a w) Q) a w)
    (first : (∀ a w, J a w → R.wp P (Exit.jump l J Q) a w) → c.wp P (Exit.jump l J Q) a w) : (Code.scope c).wp P Q a w :=
  wp_scope_jumps l J μ hf (first fun a w h => Code.wp_mono (fun e a' w' hq => by
    cases e <;> first | exact hq | exact ⟨hq.1, hq.2.1⟩) (pass a w h)) (fun a w h => wp_seq (wp_skip (pass a w h)))
/-- What holds behind the label. -/
def LvAt (a : Option Addr) (len cap : Nat) (D : List VIntS) (w : World) (a' : Act) (w' : World) : Prop :=
  ∃ (v3 : Value) (B4 : Nat) (L : Sq → Int) (u6 u7 u9 u10 u11 u12 u13 u14 u15 u16 u17 u18 u19 u20 u21 u22 u23 u24 u25 u26 u27 u28 u29 u30 u31 u32 u33 u34 u35 u36 u37 u38 u39 u40 u41 u42 u43 u44 u45 u46 u47 u48 u49 u50 : Value), a' = { tmps := #[.slice a len cap, undef, .pointer (some ⟨w.heap.size, 0, none⟩), v3, .pointer (some ⟨B4, 0, none⟩), undef, u6, u7, undef, u9, u10, u11, u12, u13, u14, u15, u16, u17, u18, u19, u20, u21, u22, u23, u24, u25, u26, u27, u28, u29, u30, u31, u32, u33, u34, u35, u36, u37, u38, u39, u40, u41, u42, u43, u44, u45, u46, u47, u48, u49, u50], defers := [] } ∧
    Hi D L ∧ (∀ p, ¬ inR D p → L p = 0) ∧ HBArr w' w.heap.size (fun _ => 0) ∧ HBArr w' B4 L ∧ SqRow (w.heap.size + 1) w' v3 (sqs D) ∧ (∀ q, v3.ownBlock = some q → q < B4) ∧ w.heap.size < B4 ∧ Below w.heap.size w w'
/-- The sum of all levels. -/
def muOf (a' : Act) (w' : World) : Nat := match a'.tmps.getD 4 undef with
  | .pointer (some ad) => arrSum w' ad.block
  | _ => 0
/-- What levels are while the program lays 9999 into all squares. -/
def preL (D : List VIntS) (k : Nat) (q : Sq) : Int := if q ∈ (sqs D).take k then 9999 else 0
theorem preL_zero (D : List VIntS) : preL D 0 = fun _ => 0 := by funext q; simp [preL]
theorem preL_step {D : List VIntS} {k : Nat} {p : Sq} (h : (sqs D)[k]? = some p) : preL D (k + 1) = upL (preL D k) p 9999 := by
  funext q
  unfold preL upL
  rw [List.take_add_one, h]
  by_cases e : q = p
  · subst e; simp
  · rw [if_neg e]
    simp [e]
theorem preL_all (D : List VIntS) : (∀ p, inR D p → preL D (sqs D).length p = 9999) ∧ ∀ p, ¬ inR D p → preL D (sqs D).length p = 0 := by
  unfold preL
  rw [List.take_length]
  exact ⟨fun p hp => if_pos (mem_sqs.2 hp), fun p hp => if_neg fun h => hp (mem_sqs.1 h)⟩
theorem hi_congr {D : List VIntS} {L M : Sq → Int} (h : Hi D L) (e : ∀ p, inR D p → M p = L p) : Hi D M :=
  ⟨fun p hp => by rw [e p hp]; exact Int.le_trans (newL_mono hp fun q hq => by rw [e q hq]; exact Int.le_refl _) (h.down p hp), fun p hp => by rw [e p hp]; exact h.top p hp, fun G hG ht p hp => by rw [e p hp]; exact h.most G hG ht p hp⟩
theorem pre_hi {D : List VIntS} (hD : RL D) : Hi D (preL D (sqs D).length) := hi_congr (hi_start hD) (preL_all D).1
set_option maxHeartbeats 25600000 in
set_option maxRecDepth 100000 in
theorem levelsOf_any (a : Option Addr) (len cap : Nat) (D : List VIntS) (w : World) (h : IsIntSS w a len cap D) (hD : RL D) :
    Calls Try.prog 72 #[.slice a len cap] w (ArrPost (levA D) w) := by
  have S := Lib.hid h
  have HD := Lib.hid hD
  have hm8 := hD.m8
  have hn8 := hD.n8
  have b0 := bel_al1 w (.cells (arrC fun _ => 0) 60)
  have B0 := Lib.hid b0
  have S0 := Lib.hid (h.below b0)
  have Z2 := Lib.hid (HBArr.new w (fun _ => 0) _ rfl)
  clear h hD b0
  go_enter Try.func72, Try.ntmps72
  go_wp2
  rw [zeros_arr]
  refine scope_again 0 (LvAt a len cap D w) muOf rfl ?pass ?first
  case pass =>
    rintro a' w1 ⟨v3, B4, L, u6, u7, u9, u10, u11, u12, u13, u14, u15, u16, u17, u18, u19, u20, u21, u22, u23, u24, u25, u26, u27, u28, u29, u30, u31, u32, u33, u34, u35, u36, u37, u38, u39, u40, u41, u42, u43, u44, u45, u46, u47, u48, u49, u50, rfl, hHi, h0, hz, h4, hsq, hne, hB, hbel⟩
    have HI := Lib.hid hHi
    have OUT := Lib.hid h0
    have X2 := Lib.hid hz
    have X4 := Lib.hid h4
    have SQ := Lib.hid hsq
    have NE := Lib.hid hne
    have B := Lib.hid hbel
    have SUM := Lib.hid h4.sum
    have hln := sqs_len HD.out
    have hB4 := h4.lt
    obtain ⟨a4, c4, rfl, _⟩ := hsq.is
    clear hHi h0 hz h4 hsq hne hbel
    go_wp2_with (first
      | (refine wpList_loadArr rfl (.tmp 4) rfl B4 rfl L X4.out ?_)
      | (rw [zeros_arr]; refine wpList_storeArr rfl (.tmp 7) (.tmp 25) rfl w1.heap.size rfl _ _ rfl (HBArr.new w1 (fun _ => 0) _ rfl) ?_; intro w2 hw2 hg2))
    have b2 : Below w1.heap.size w1 w2 := (bel_al1 w1 (.cells (arrC fun _ => 0) 60)).grown hg2 (by simp) (fun j e => by cases e; exact Nat.le_refl _)
    have B2 := Lib.hid (Below.then' B.out b2)
    have Y2 := Lib.hid (X2.out.below b2)
    have Y4 := Lib.hid (X4.out.below b2)
    have Y7 := Lib.hid hw2
    have YQ := Lib.hid (SQ.out.below b2)
    have SI := Lib.hid (fun (k : Nat) (p : Sq) (hp : (sqs D)[k]? = some p) => mem_sqs.1 (List.mem_of_getElem? hp))
    have hb1 : w.heap.size + 1 ≤ w1.heap.size := by omega
    clear b2 hw2 hg2
    go_loopw [28] (fun i wr => ∃ k : Nat, k ≤ (sqs D).length ∧ i = .int .i64 k ∧ HBArr wr w.heap.size (fun _ => 0) ∧ HBArr wr B4 (passL D ((sqs D).take k) L) ∧ HBArr wr w1.heap.size L ∧ SqRow (w.heap.size + 1) wr (.slice a4 (sqs D).length c4) (sqs D) ∧ Below w.heap.size w wr) (fun i _ => (sqs D).length - (intOf i).toNat)
    case atStart => exact ⟨0, Nat.zero_le _, rfl, Y2.out, Y4.out, Y7.out, YQ.out, B2.out⟩
    case round =>
      obtain ⟨k, hk, rfl, h2, h4, h7, hsq, hbel⟩ := hrel
      by_cases hlt : k < (sqs D).length
      · obtain ⟨p, hp⟩ : ∃ p, (sqs D)[k]? = some p := ⟨(sqs D)[k]'hlt, List.getElem?_eq_getElem _⟩
        obtain ⟨b, o, ha4, hb, hat⟩ := hsq.isAt.2.at (by omega)
        subst ha4
        obtain ⟨d0, d1⟩ := hat k (vsq p) (sqV_at hp)
        have PI := SI.out k p hp
        have PS := Lib.hid (show passL D ((sqs D).take (k + 1)) L = upL (passL D ((sqs D).take k) L) p (newL D (passL D ((sqs D).take k) L) p) from by rw [List.take_add_one, hp]; exact passL_snoc D _ p L)
        have HM := pass_hi ((sqs D).take k) (fun q hq => mem_sqs.1 (List.mem_of_mem_take hq)) L HI.out
        have NB := HM.down p PI
        have NT := HM.top p PI
        obtain ⟨x, y⟩ := p
        simp only [vsq] at d0 d1
        obtain ⟨hx, hy⟩ := PI
        simp only [] at hx hy
        have hc4 := hsq.isAt.2.2.1
        have hc5 := hsq.isAt.2.2.2.1
        unfold maxLen at hc5
        have j0 : (0 : Int) ≤ (k : Int) := by omega
        have j1 : (k : Int) < ((sqs D).length : Int) := by omega
        have x0 : (0 : Int) ≤ (x : Int) := by omega
        have x1 : (x : Int) < 8 := by omega
        have y0 : (0 : Int) ≤ (y : Int) := by omega
        have y1 : (y : Int) < 8 := by omega
        have x8 : x < 8 := by omega
        have y8 : y < 8 := by omega
        obtain ⟨M, hM⟩ : ∃ M, passL D ((sqs D).take k) L = M := ⟨_, rfl⟩
        rw [hM] at h4 PS NB NT
        have ba := bel_al1 wr (.cells #[.int .i64 (x : Int), .int .i64 (y : Int)] 34)
        have C2 := Lib.hid (h2.below ba)
        have C4 := Lib.hid (h4.below ba)
        have C7 := Lib.hid (h7.below ba)
        have CQ := Lib.hid (hsq.below ba)
        have CB := Lib.hid (Below.then' hbel ba)
        obtain ⟨f0, f1⟩ := BoxIntA2.new wr 34 ⟨(x : Int), (y : Int)⟩ _ rfl
        simp only [] at f0 f1
        have hwr := h7.lt
        clear h2 h4 h7 hsq hbel hat hp hM HM ba
        go_wp2
        obtain ⟨V, hV⟩ : ∃ V, wr.alloc (.cells #[.int .i64 (x : Int), .int .i64 (y : Int)] 34) = V := ⟨_, rfl⟩
        rw [hV] at C2 C4 C7 CQ CB f0 f1 ⊢
        clear hV d0 d1
        have k0 := cell_regrown f0
        have k1 := cell_regrown f1
        have cQ := below_at (W := V) (fun W' hW => heightOf_any _ _ _ D x y W' (S.out.below (Below.then' CB.out hW)) HD.out hx hy)
        have cW := below_at (W := V) (fun W' hW => wayOut_any M _ _ _ D x y W' (S.out.below (Below.then' CB.out hW)) HD.out hx hy)
        have LA := Lib.hid (fun (W' : World) (hW : ∃ p : Regrown, W' = Sort.grow (redrawn V p.d) p.os) => C4.out.below (below_of_re hW))
        clear f0 f1
        obtain ⟨hh, ehh⟩ : ∃ hh, hA D (x, y) = hh := ⟨_, rfl⟩
        obtain ⟨ww, eww⟩ : ∃ ww, wayN D M (x, y) = ww := ⟨_, rfl⟩
        have NW := Lib.hid (show newL D M (x, y) = max hh ww from by unfold newL; rw [ehh, eww])
        rw [ehh] at cQ
        rw [eww] at cW
        clear ehh eww
        refine wp_region_quiet_last 14 (by kernel_rfl) rfl rfl rfl rfl (by kernel_rfl) (by kernel_rfl) (by kernel_rfl) (by kernel_rfl) ?_
        simp only [List.take_succ_cons, List.take_zero]
        repeat (first | (refine quiet_loadArr rfl (.tmp 4) rfl B4 rfl M LA.out ?_) | go_big_quiet_step (first | (with_reducible exact cQ _ _) | (with_reducible exact cW _ _)) | quiet_step (first | (with_reducible exact cQ _ _) | (with_reducible exact cW _ _)))
        refine wpQuiet_nil ?_
        intro W2 hw2
        have bw := below_of_re hw2
        have E2 := Lib.hid (C2.out.below bw)
        have E4 := Lib.hid (C4.out.below bw)
        have E7 := Lib.hid (C7.out.below bw)
        have EQ := Lib.hid (CQ.out.below bw)
        have EB := Lib.hid (Below.then' CB.out bw)
        obtain ⟨m, hm⟩ : ∃ m, (if hh < ww then ww else hh) = m := ⟨_, rfl⟩
        have NM := Lib.hid (show newL D M (x, y) = m from by rw [NW.out, ← hm]; split <;> omega)
        rw [hm]
        have g0 := E4.out.cell x8 y8
        have g1 := E4.out.free (x * 8 + y)
        have HG := Lib.hid (grown_set W2 B4 (x * 8 + y) (.int .i64 m))
        clear hm bw hw2 k0 k1 cQ cW
        simp only [List.drop_succ_cons, List.drop_zero]
        go_wp2
        go_roundw
        case rel =>
          refine ⟨k + 1, by omega, by go_num, E2.out.grown HG.out (by simp; omega), ?_, E7.out.grown HG.out (by simp; omega), World.ownsRow.kept EQ.out HG.out (by simp only [Value.ownBlock]; exact .inr (fun e => by have := NE.out b rfl; simp at e; omega)), EB.out.grown HG.out EB.out.size (fun j e => by cases e; omega)⟩
          rw [PS.out, NM.out]
          exact E4.out.set x8 y8 m
        case measure => simp [intOf]; omega
      · obtain rfl : k = (sqs D).length := by omega
        rw [List.take_length] at h4
        have W2 := Lib.hid h2
        have W4 := Lib.hid h4
        have W7 := Lib.hid h7
        have WQ := Lib.hid hsq
        have WB := Lib.hid hbel
        obtain ⟨M, hM⟩ : ∃ M, passL D (sqs D) L = M := ⟨_, rfl⟩
        have HM := Lib.hid hM
        rw [hM] at W4
        obtain ⟨q, hq⟩ : ∃ q, eqL M L = q := ⟨_, rfl⟩
        have Q := Lib.hid hq
        clear h2 h4 h7 hsq hbel hM hq
        have hin : ∀ p ∈ sqs D, inR D p := fun p hp => mem_sqs.1 hp
        have HM2 := Lib.hid (show Hi D M from by rw [← HM.out]; exact pass_hi _ hin L HI.out)
        have OM := Lib.hid (show ∀ p, ¬ inR D p → M p = 0 from fun p hp => by rw [← HM.out, pass_out _ hin L p hp]; exact OUT.out p hp)
        clear hin
        cases q
        · have LT := Lib.hid (show arrSum wr B4 < arrSum w1 B4 from by
            rw [W4.out.sum, SUM.out, ← HM.out]
            exact pass_sum HD.out HI.out OUT.out (by rw [HM.out]; exact Q.out))
          go_upto_if 49 with (first
            | (refine wpList_loadArr rfl (.tmp 4) rfl B4 rfl M W4.out ?_)
            | (refine wpList_loadArr rfl (.tmp 7) rfl w1.heap.size rfl L W7.out ?_)
            | (refine wpList_neqArr rfl (.tmp 47) (.tmp 48) _ rfl M L rfl rfl false Q.out ?_))
          simp only [Bool.not_false]
          refine wp_cond_true rfl ?_
          apply wp_goto
          refine And.intro (a := (0 : Nat) = 0) rfl (And.intro (show LvAt a len cap D w { tmps := #[.slice a len cap, undef, .pointer (some ⟨w.heap.size, 0, none⟩), .slice a4 (sqs D).length c4, .pointer (some ⟨B4, 0, none⟩), undef, _, _, undef, _, _, _, _, _, _, _, _, _, _, _, _, _, _, _, _, _, _, _, _, _, _, _, _, _, _, _, _, _, _, _, _, _, _, _, _, _, _, _, _, _, _], defers := [] } wr from ⟨_, B4, M, _, _, _, _, _, _, _, _, _, _, _, _, _, _, _, _, _, _, _, _, _, _, _, _, _, _, _, _, _, _, _, _, _, _, _, _, _, _, _, _, _, _, _, _, rfl, HM2.out, OM.out, W2.out, W4.out, WQ.out, NE.out, hB, WB.out⟩) ?_)
          exact LT.out
        · have E := Lib.hid (show arrC M = arrC (levA D) from by
            rw [← HM.out]
            exact pass_levA HD.out HI.out OUT.out (by rw [HM.out]; exact Q.out))
          go_upto_if 49 with (first
            | (refine wpList_loadArr rfl (.tmp 4) rfl B4 rfl M W4.out ?_)
            | (refine wpList_loadArr rfl (.tmp 7) rfl w1.heap.size rfl L W7.out ?_)
            | (refine wpList_neqArr rfl (.tmp 47) (.tmp 48) _ rfl M L rfl rfl true Q.out ?_))
          simp only [Bool.not_true]
          refine wp_cond_false rfl ?_
          go_wp2_with (first
            | (refine wpList_loadArr rfl (.tmp 4) rfl B4 rfl M W4.out ?_)
            | (refine wpList_storeArr rfl (.tmp 2) (.tmp 50) rfl w.heap.size rfl _ _ rfl W2.out ?_; intro w4 hw4 hg4))
          show bodyPost Try.prog Try.f72 (ArrPost (levA D) w) .ret _ w4
          refine bodyPost_ret (results_arr rfl rfl hw4) rfl ⟨by rw [E.out], WB.out.grown hg4 WB.out.size (fun j e => by cases e; exact Nat.le_refl _)⟩
  case first =>
    intro PASS
    have PS := Lib.hid PASS
    clear PASS
    go_wp2_with fail
    refine (reliefSquares_any _ _ _ D _ S0.out HD.out).mono ?_
    rintro e w1 ⟨v, rfl, hown, hb⟩
    have B1 := Lib.hid (Below.then' B0.out hb)
    have Y2 := Lib.hid (Z2.out.below hb)
    have SQ := Lib.hid (hown.base (base' := w.heap.size + 1) (by simp))
    have hs1 : w.heap.size + 1 ≤ w1.heap.size := by have := hb.size; simp at this; omega
    have SI := Lib.hid (fun (k : Nat) (p : Sq) (hp : (sqs D)[k]? = some p) => mem_sqs.1 (List.mem_of_getElem? hp))
    have hln := sqs_len HD.out
    obtain ⟨a4, c4, rfl, _⟩ := hown.is
    have ba := bel_al1 w1 (.cells (arrC fun _ => 0) 60)
    have B2 := Lib.hid (Below.then' B1.out ba)
    have Z3 := Lib.hid (Y2.out.below ba)
    have Z4 := Lib.hid (show HBArr _ w1.heap.size (preL D 0) from by rw [preL_zero]; exact HBArr.new w1 (fun _ => 0) _ rfl)
    have SQ2 := Lib.hid (SQ.out.below ba)
    clear hown hb ba
    go_wp2_with (rw [zeros_arr])
    go_loopw [14] (fun i wr => ∃ k : Nat, k ≤ (sqs D).length ∧ i = .int .i64 k ∧ HBArr wr w.heap.size (fun _ => 0) ∧ HBArr wr w1.heap.size (preL D k) ∧ SqRow (w.heap.size + 1) wr (.slice a4 (sqs D).length c4) (sqs D) ∧ Below w.heap.size w wr) (fun i _ => (sqs D).length - (intOf i).toNat)
    case atStart => exact ⟨0, Nat.zero_le _, rfl, Z3.out, Z4.out, SQ2.out, B2.out⟩
    case round =>
      obtain ⟨k, hk, rfl, h2, h4, hsq, hbel⟩ := hrel
      by_cases hlt : k < (sqs D).length
      · obtain ⟨p, hp⟩ : ∃ p, (sqs D)[k]? = some p := ⟨(sqs D)[k]'hlt, List.getElem?_eq_getElem _⟩
        obtain ⟨b, o, ha4, hb, hat⟩ := hsq.isAt.2.at (by omega)
        subst ha4
        obtain ⟨d0, d1⟩ := hat k (vsq p) (sqV_at hp)
        have PI := SI.out k p hp
        have PL := Lib.hid (preL_step hp)
        obtain ⟨x, y⟩ := p
        simp only [vsq] at d0 d1
        obtain ⟨hx, hy⟩ := PI
        simp only [] at hx hy
        have hc4 := hsq.isAt.2.2.1
        have hc5 := hsq.isAt.2.2.2.1
        unfold maxLen at hc5
        have j0 : (0 : Int) ≤ (k : Int) := by omega
        have j1 : (k : Int) < ((sqs D).length : Int) := by omega
        have x0 : (0 : Int) ≤ (x : Int) := by omega
        have x1 : (x : Int) < 8 := by omega
        have y0 : (0 : Int) ≤ (y : Int) := by omega
        have y1 : (y : Int) < 8 := by omega
        have x8 : x < 8 := by omega
        have y8 : y < 8 := by omega
        have ba := bel_al1 wr (.cells #[.int .i64 (x : Int), .int .i64 (y : Int)] 34)
        have C2 := Lib.hid (h2.below ba)
        have C4 := Lib.hid (h4.below ba)
        have CQ := Lib.hid (hsq.below ba)
        have CB := Lib.hid (Below.then' hbel ba)
        have NE := Lib.hid (show b ≠ w1.heap.size from fun e => by have := (World.ownsRow.lt SQ.out b rfl).2; omega)
        obtain ⟨f0, f1⟩ := BoxIntA2.new wr 34 ⟨(x : Int), (y : Int)⟩ _ rfl
        simp only [] at f0 f1
        have g0 := C4.out.cell x8 y8
        have g1 := C4.out.free (x * 8 + y)
        clear h2 h4 hsq hbel hat hp ba
        go_wp2
        obtain ⟨V, hV⟩ : ∃ V, wr.alloc (.cells #[.int .i64 (x : Int), .int .i64 (y : Int)] 34) = V := ⟨_, rfl⟩
        rw [hV] at C2 C4 CQ CB f0 f1 g0 g1 ⊢
        clear hV d0 d1
        have HG := Lib.hid (show V.grownBy (V.setCell ⟨w1.heap.size, x * 8 + y, none⟩ (.int .i64 9999)).drew (some w1.heap.size) from grown_drew' (grown_set V w1.heap.size (x * 8 + y) (.int .i64 9999)))
        go_still_tail 6, (by kernel_rfl)
        change wpList _ _ _ _ _ V.drew
        go_wp2
        go_roundw
        case rel =>
          refine ⟨k + 1, by omega, by go_num, C2.out.grown HG.out (by simp; omega), ?_, World.ownsRow.kept CQ.out HG.out (by simp only [Value.ownBlock]; exact .inr (fun e => NE.out (Option.some.inj e))), bel_drew' (CB.out.setCell (by simp; omega) _)⟩
          rw [PL.out]
          exact (C4.out.set x8 y8 9999 : HBArr (V.setCell ⟨w1.heap.size, x * 8 + y, none⟩ (.int .i64 9999)) _ _)
        case measure => simp [intOf]; omega
      · obtain rfl : k = (sqs D).length := by omega
        have W2 := Lib.hid h2
        have W4 := Lib.hid h4
        have WQ := Lib.hid hsq
        have WB := Lib.hid hbel
        have PA := Lib.hid (preL_all D).2
        have PH := Lib.hid (pre_hi HD.out)
        have LTQ := Lib.hid (fun (q : Nat) (e : (Value.slice a4 (sqs D).length c4).ownBlock = some q) => (World.ownsRow.lt SQ.out q e).2)
        clear h2 h4 hsq hbel
        go_wp2
        apply wp_label
        rename_i K1 hK1
        refine hK1 _ _ ?_
        exact PS.out _ _ ⟨_, _, preL D (sqs D).length, _, _, _, _, _, _, _, _, _, _, _, _, _, _, _, _, _, _, _, _, _, _, _, _, _, _, _, _, _, _, _, _, _, _, _, _, _, _, _, _, _, _, _, _, rfl, PH.out, PA.out, W2.out, W4.out, WQ.out, LTQ.out, hs1, WB.out⟩
end Go.Proofs.Ytodjgeffkfbpiaa
namespace Go.Proofs.Ytodjgeffkfbpiaa
open Go.RowKit Go.Deep

/-- The rows' slices in block g, all in lo .. hi. -/
def GridIn (lo hi : Nat) (w : World) (g n c : Nat) (D : List (List Int)) : Prop := ∃ ps : List PIntS, ps.map PIntS.x = D ∧ RawIntS lo hi w (.slice (some ⟨g, 0, none⟩) n c) ps
theorem GridIn.below {lo hi g n c : Nat} {w w' : World} {D : List (List Int)} (h : GridIn lo hi w g n c D) (hb : Below w.heap.size w w') : GridIn lo hi w' g n c D := by
  obtain ⟨ps, e, h⟩ := h
  exact ⟨ps, e, h.keep fun b _ _ hs => hb.block b hs⟩
theorem GridIn.mono {lo hi lo' hi' g n c : Nat} {w : World} {D : List (List Int)} (h : GridIn lo hi w g n c D) (h1 : lo' ≤ lo) (h2 : hi ≤ hi') : GridIn lo' hi' w g n c D := by
  obtain ⟨ps, e, h⟩ := h
  exact ⟨ps, e, h.mono h1 h2⟩
theorem GridIn.same {lo hi g n c : Nat} {w w' : World} {D : List (List Int)} (h : GridIn lo hi w g n c D) (hw : w'.heap = w.heap) : GridIn lo hi w' g n c D := by
  obtain ⟨ps, e, h⟩ := h
  exact ⟨ps, e, h.keep fun b _ _ _ => by rw [hw]⟩
theorem GridIn.head {lo hi g n c : Nat} {w : World} {D : List (List Int)} (h : GridIn lo hi w g n c D) : D.length = n ∧ lo ≤ g ∧ g < hi ∧ g < w.heap.size ∧ n ≤ c ∧ c ≤ maxLen := by
  obtain ⟨ps, rfl, h⟩ := h
  have h1 := h.len
  have h2 := h.1.lt (b := g) rfl
  exact ⟨by rw [List.length_map]; exact h1.1.symm, h2.1, h2.2.1, h2.2.2, h1.2⟩
theorem GridIn.free {lo hi g n c : Nat} {w : World} {D : List (List Int)} (h : GridIn lo hi w g n c D) (j : Nat) : w.frozen? ⟨g, j, none⟩ = false := by
  obtain ⟨ps, rfl, h⟩ := h
  exact h.free j
theorem GridIn.own {lo hi g n c : Nat} {w : World} {D : List (List Int)} (h : GridIn lo hi w g n c D) : OwnIntSS lo hi w (.slice (some ⟨g, 0, none⟩) n c) D := h
theorem mapx_atG {ps : List PIntS} {i : Nat} {r : List Int} (h : (ps.map PIntS.x)[i]? = some r) : ∃ p, ps[i]? = some p ∧ p.x = r := by
  rw [List.getElem?_map] at h
  cases hp : ps[i]? with
  | none => rw [hp] at h; cases h
  | some p => rw [hp] at h; exact ⟨p, rfl, by simpa using h⟩
/-- A row that is not empty: its slice, its cells, and what a store into it leaves. -/
theorem GridIn.row {lo hi g n c : Nat} {w : World} {D : List (List Int)} (h : GridIn lo hi w g n c D) {i : Nat} {r : List Int} (hr : D[i]? = some r) (hpos : 0 < r.length) :
    ∃ b cb, w.cell? ⟨g, i, none⟩ = some (.slice (some ⟨b, 0, none⟩) r.length cb) ∧ b ≠ g ∧ (lo ≤ b ∧ b < hi ∧ b < w.heap.size) ∧ (r.length ≤ cb ∧ cb ≤ maxLen) ∧ (∀ (j : Nat) z, r[j]? = some z → w.cell? ⟨b, j, none⟩ = some (.int .i64 z)) ∧ (∀ j, w.frozen? ⟨b, j, none⟩ = false) ∧
      (∀ (j : Nat) (x : Int), GridIn lo hi (w.setCell ⟨b, j, none⟩ (.int .i64 x)) g n c (D.set i (r.set j x)) ∧ w.grownBy (w.setCell ⟨b, j, none⟩ (.int .i64 x)) (some b)) ∧
      OwnIn lo hi w 3 1 (.slice (some ⟨b, 0, none⟩) r.length cb) r.length (intCells r) := by
  obtain ⟨ps, rfl, h⟩ := h
  obtain ⟨p, hp, rfl⟩ := mapx_atG hr
  obtain ⟨c0, _⟩ := h.elem hp
  have hI := h.2.1 i p hp
  have hne := h.2.2.1 i p
  obtain ⟨px, ⟨pa, pn, pc⟩⟩ := p
  simp only [] at c0 hpos ⊢
  have e2 := hI.is.2
  simp only [] at e2
  subst e2
  rcases hI.1.2 with ⟨e, h0⟩ | ⟨b, cap, cur, e, hb, hh, hn, hcap, _⟩
  · simp only [] at h0
    omega
  · simp only [Value.slice.injEq, true_and] at e
    obtain ⟨rfl, rfl⟩ := e
    have hlt := hI.lt (b := b) rfl
    refine ⟨b, pc, c0, fun e => hne b hp rfl (by rw [e]; rfl), hlt, ⟨hn, hcap⟩, fun j z hz => ?_, fun j => hI.1.frozenAt j, fun j x => ?_, hI⟩
    · have hc := hI.1.cells (g := b) rfl j (.int .i64 z) (by simp [intCells, hz])
      rw [add_plain, Nat.zero_add] at hc; exact hc
    · have s := hI.1.stored j (.int .i64 x)
      rw [show (intCells px).set j (.int .i64 x) = intCells (px.set j x) from by simp [intCells, List.map_set]] at s
      refine ⟨⟨ps.set i ⟨px.set j x, ⟨some ⟨b, 0, none⟩, px.length, pc⟩⟩, ?_, h.inner hp (by rw [List.length_set]) s.1 s.2⟩, s.2⟩
      rw [List.map_set]

theorem InnerIntS.reblock {lo hi : Nat} {w : World} {g0 g1 : Option Nat} {ps : List PIntS} (h : InnerIntS lo hi w g0 ps) (hg : g0 = g1 ∨ ∀ b, g1 = some b → hi ≤ b) : InnerIntS lo hi w g1 ps := by
  rcases hg with rfl | hg
  · exact h
  · refine ⟨h.1, fun k p b hp hb e => ?_, h.2.2⟩
    have h1 := ((h.1 k p hp).lt hb).2.1
    have h2 := hg b e
    omega
theorem cell_IntS (w : World) (p : PIntS) (t : TypeId) (B : Nat) (hB : w.heap.size = B) : ∀ j u, p.vals[j]? = some u → (w.alloc (.cells #[.slice p.h.a p.h.n p.h.c] t)).cell? ((⟨B, 0, none⟩ : Addr).add j) = some u := by
  subst hB
  intro j u hj
  rw [add_plain, Nat.zero_add, World.cell?_alloc_new]
  simpa [PIntS.vals] using hj
/-- One more row appended, its numbers in newer memory. -/
theorem RawIntS.snoc {lo : Nat} {w w2 w4 : World} {g n c g4 cap4 : Nat} {ps : List PIntS} {p : PIntS} (h : RawIntS lo w.heap.size w (.slice (some ⟨g, 0, none⟩) n c) ps) (hlo : lo ≤ w.heap.size) (hb : Below w.heap.size w w2) (hz : HInts w.heap.size w2.heap.size w2 p.h p.x)
    (own : w4.ownsRow lo 38 1 (.slice (some ⟨g4, 0, none⟩) (n + 1) cap4) (n + 1) (cellsIntS ps ++ p.vals)) (hgr : w2.grownBy w4 (some g)) (hg4 : some g = some g4 ∨ g4 = w2.heap.size) : RawIntS lo w4.heap.size w4 (.slice (some ⟨g4, 0, none⟩) (n + 1) cap4) (ps ++ [p]) := by
  have hn := h.len.1
  have hgl := h.1.lt (b := g) rfl
  refine ⟨?_, ?_⟩
  · rw [List.length_append, List.length_singleton, ← hn, cellsIntS_snoc]
    exact OwnIn.of_row own (Nat.le_refl _) (Nat.le_refl _)
  · have N4 := (h.2.below hb).grown hgr
    have H4 := OwnIn.turned hz (Turned.of_grown (lo := lo) (hi := w.heap.size) hgr (fun b e => by cases e; exact ⟨hgl.1, hgl.2.2⟩)) (.inr (Nat.le_refl _))
    have N5 := N4.snoc (p := p) H4 hlo hb.size (fun b e => by cases e; exact hgl.2.2)
    exact (N5.reblock (hg4.imp id (fun e b hb => by cases hb; omega))).mono (Nat.le_refl _) hgr.size
theorem madeZ (n : Nat) : (madeCells (.int .i64 0 : Value).cells (n * 1)).toList = intCells (List.replicate n 0) := by
  apply List.ext_getElem?
  intro j
  rw [Array.getElem?_toList]
  simp only [madeCells, Value.cells, intCells]
  by_cases h : j < n
  · rw [Array.getElem?_eq_getElem (by simpa using h)]
    simp [h, Nat.mod_one]
  · rw [Array.getElem?_eq_none (by simpa using h)]
    simp [h]
theorem made_rows (w : World) : RawIntS w.heap.size (w.alloc (.cells #[] 38)).heap.size (w.alloc (.cells #[] 38)) (.slice (some ⟨w.heap.size, 0, none⟩) 0 0) [] :=
  ⟨OwnIn.of_row (World.ownsRow_made (base := w.heap.size) (e := 38) (size := 1) w #[] 0 (Nat.le_refl _) (Nat.zero_le _) rfl) (Nat.le_refl _) (Nat.le_refl _), nil_InnerIntS _ _ _ _⟩
theorem grid_put (D : List VIntS) (L : Sq → Int) {r c : Nat} (hr : r < D.length) (hc : c < colsN D) (x : Int) : (gridOf D L).set r (((List.range (colsN D)).map fun j => L (r, j)).set c x) = gridOf D (upL L (r, c) x) := by
  apply List.ext_getElem?
  intro i
  by_cases hi : i < D.length
  · rw [gridOf_at D _ hi]
    by_cases e : i = r
    · subst e
      rw [List.getElem?_set_self (by rw [gridOf_len]; exact hi)]
      congr 1
      apply List.ext_getElem?
      intro j
      by_cases hj : j < colsN D
      · by_cases e : j = c
        · subst e
          rw [List.getElem?_set_self (by simpa using hj)]
          simp [hj, upL]
        · rw [List.getElem?_set_ne (Ne.symm e)]
          simp [hj, upL, e]
      · rw [List.getElem?_eq_none (by simp; omega), List.getElem?_eq_none (by simp; omega)]
    · rw [List.getElem?_set_ne (Ne.symm e), gridOf_at D _ hi]
      congr 1
      exact List.map_congr_left fun j _ => by unfold upL; rw [if_neg (fun e2 => e (by simpa using congrArg Prod.fst e2))]
  · rw [List.getElem?_eq_none (by rw [List.length_set, gridOf_len]; omega), List.getElem?_eq_none (by rw [gridOf_len]; omega)]
/-- A square of the grid: read, and another number in its place. -/
theorem GridIn.sq {lo hi g n c : Nat} {w : World} {D : List VIntS} {L : Sq → Int} (h : GridIn lo hi w g n c (gridOf D L)) {r : Nat} (hr : r < D.length) (hpos : 0 < colsN D) :
    ∃ b cb, w.cell? ⟨g, r, none⟩ = some (.slice (some ⟨b, 0, none⟩) (colsN D) cb) ∧ b ≠ g ∧ (lo ≤ b ∧ b < hi ∧ b < w.heap.size) ∧ (∀ j, j < colsN D → w.cell? ⟨b, j, none⟩ = some (.int .i64 (L (r, j)))) ∧ (∀ j, w.frozen? ⟨b, j, none⟩ = false) ∧
      ∀ (j : Nat) (x : Int), j < colsN D → GridIn lo hi (w.setCell ⟨b, j, none⟩ (.int .i64 x)) g n c (gridOf D (upL L (r, j) x)) ∧ w.grownBy (w.setCell ⟨b, j, none⟩ (.int .i64 x)) (some b) := by
  obtain ⟨b, cb, h1, h2, h3, h4, h5, h6, h7, _⟩ := h.row (gridOf_at D L hr) (by simpa using hpos)
  rw [List.length_map, List.length_range] at h1 h4
  refine ⟨b, cb, h1, h2, h3, fun j hj => h5 j _ (by simp [hj]), h6, fun j x hj => ?_⟩
  have h8 := h7 j x
  rw [grid_put D L hr hj] at h8
  exact h8
def GridPost (D : List VIntS) (L : Sq → Int) (w : World) (e : Ending) (w' : World) : Prop := ∃ g c, e = .returned (.slice (some ⟨g, 0, none⟩) D.length c) ∧ GridIn w.heap.size w'.heap.size w' g D.length c (gridOf D L) ∧ Below w.heap.size w w'
end Go.Proofs.Ytodjgeffkfbpiaa
namespace Go.Proofs.Ytodjgeffkfbpiaa
open Go.RowKit
def FilledRelief_Post (z0 : List VIntS) (w : World) (e : Ending) (w' : World) : Prop :=
  ∃ v0 : Value, e = .returned (.tuple #[v0, .bool (FilledRelief_1 z0)]) ∧ OwnIntSS w.heap.size w'.heap.size w' v0 (FilledRelief_0 z0) ∧ Below w.heap.size w w'
end Go.Proofs.Ytodjgeffkfbpiaa
namespace Go.Proofs.Ytodjgeffkfbpiaa
open Go.RowKit Go.Deep

theorem one_ints (zs : List Int) : ∀ u ∈ intCells zs, u.oneCell' = true := by
  intro u hu
  obtain ⟨z, _, rfl⟩ := List.mem_map.1 hu
  rfl
theorem srcInts {w : World} {a : Option Addr} {len cap : Nat} {zs : List Int} (h : IsInts w a len cap zs) : SrcAt w a len 1 (intCells zs) := by
  refine ⟨by rw [intCells_len, h.1, Nat.mul_one], ?_⟩
  rcases h.2.2.2 with h0 | ⟨b, o, rfl, hb, hat⟩
  · exact .inl h0
  · refine .inr ⟨_, rfl, fun j u hj => ?_⟩
    rw [add_plain]
    unfold intCells at hj
    rw [List.getElem?_map] at hj
    cases hz : zs[j]? with
    | none => rw [hz] at hj; cases hj
    | some z => rw [hz] at hj; cases hj; exact hat j z hz
theorem made_ints (w : World) (base : Nat) (h : base ≤ w.heap.size) : (w.alloc (.cells #[] 3)).ownsRow base 3 1 (.slice (some ⟨w.heap.size, 0, none⟩) 0 0) 0 [] :=
  World.ownsRow_made (base := base) (e := 3) (size := 1) w #[] 0 h (Nat.zero_le _) rfl
theorem HPost.of_row {w w' : World} {v : Value} {zs : List Int} (h : w'.ownsRow w.heap.size 3 1 v zs.length (intCells zs)) (_ : Below w.heap.size w w') : ∃ h : Hd, v = .slice h.a h.n h.c ∧ HInts w.heap.size w'.heap.size w' h zs := by
  rcases h.2 with ⟨rfl, h0⟩ | ⟨g, c, cur, rfl, _⟩
  · exact ⟨⟨none, 0, 0⟩, rfl, OwnIn.of_row h (Nat.le_refl _) (Nat.le_refl _)⟩
  · exact ⟨⟨some ⟨g, 0, none⟩, zs.length, c⟩, rfl, OwnIn.of_row h (Nat.le_refl _) (Nat.le_refl _)⟩
set_option maxHeartbeats 3200000 in
set_option maxRecDepth 100000 in
theorem cloneInts_any (a : Option Addr) (len cap : Nat) (zs : List Int) (w : World) (h : IsInts w a len cap zs) (hx : zs.length ≤ 1048576) :
    Calls Try.prog 73 #[.slice a len cap] w (HPost zs w) := by
  obtain rfl := h.1
  obtain ⟨i0, hi, hz0, hz1, hz2⟩ := info_parts infoInt
  cases a with
  | none =>
    have h0 : zs.length = 0 := by
      rcases h.2.2.2 with h0 | ⟨b, o, e, _⟩
      · exact h0
      · cases e
    obtain rfl : zs = [] := List.length_eq_zero_iff.1 h0
    clear h h0
    have hnil := fun w a n c n' c' => Lib.run_eql_slice_nil (P := Try.prog) w 38 3 a n c n' c' Try.underlying38
    go_enter Try.func73, Try.ntmps73
    go_wp2
    go_ret
    exact ⟨⟨none, 0, 0⟩, rfl, OwnIn.of_row ⟨by simp [intCells], .inl ⟨rfl, rfl⟩⟩ (Nat.le_refl _) (Nat.le_refl _), Below.refl _ _⟩
  | some ad =>
    have B0 := Lib.hid (bel_al1 w (.cells #[] 3))
    have O0 := made_ints w w.heap.size (Nat.le_refl _)
    have SRC := srcInts (h.below B0.out)
    have SZ := Lib.hid (size_al w (.cells #[] 3))
    clear h
    have hnil := fun w a n c n' c' => Lib.run_eql_slice_nil (P := Try.prog) w 38 3 a n c n' c' Try.underlying38
    go_enter Try.func73, Try.ntmps73
    go_wp2_with (at_builtin; refine wpList_append_list rfl _ _ 38 rfl w.heap.size 3 i0 (.int .i64 0) 1 8 Try.underlying38 hi hz0 hz1 hz2 rfl (by decide) _ _ _ rfl O0 _ zs.length cap (intCells zs) rfl SRC (one_ints zs) (by simp; unfold maxLen; omega) (by simp; omega) (by rw [SZ.out]; omega) ?_; intro v1 w1 hown1 hgrow1; have B1 := Lib.hid (B0.out.grown hgrow1 (by rw [SZ.out]; omega) (fun k e => by have := own_is e; omega)); have O1 := Lib.hid hown1; clear hown1 hgrow1)
    go_ret
    have h := O1.out
    simp only [Nat.zero_add, List.nil_append] at h
    obtain ⟨q, e, hq⟩ := HPost.of_row h B1.out
    exact ⟨q, by rw [← e]; rfl, hq, B1.out⟩

/-- One more row appended to a row of rows that may be nil, its numbers in newer memory. -/
theorem RawIntS.snocV {lo : Nat} {w w2 w4 : World} {v : Value} {n g4 cap4 : Nat} {ps : List PIntS} {p : PIntS} (h : RawIntS lo w.heap.size w v ps) (hn : ps.length = n) (hlo : lo ≤ w.heap.size) (hb : Below w.heap.size w w2) (hz : HInts w.heap.size w2.heap.size w2 p.h p.x)
    (own : w4.ownsRow lo 38 1 (.slice (some ⟨g4, 0, none⟩) (n + 1) cap4) (n + 1) (cellsIntS ps ++ p.vals)) (hgr : w2.grownBy w4 v.ownBlock) (hg4 : v.ownBlock = some g4 ∨ g4 = w2.heap.size) : RawIntS lo w4.heap.size w4 (.slice (some ⟨g4, 0, none⟩) (n + 1) cap4) (ps ++ [p]) := by
  refine ⟨?_, ?_⟩
  · rw [List.length_append, List.length_singleton, hn, cellsIntS_snoc]
    exact OwnIn.of_row own (Nat.le_refl _) (Nat.le_refl _)
  · have N4 := (h.2.below hb).grown hgr
    have H4 := OwnIn.turned hz (Turned.of_grown (lo := lo) (hi := w.heap.size) hgr (fun b e => by have := h.1.lt e; exact ⟨this.1, this.2.2⟩)) (.inr (Nat.le_refl _))
    have N5 := N4.snoc (p := p) H4 hlo hb.size (fun b e => by have := h.1.lt e; exact this.2.2)
    have hsz := hb.size
    exact (N5.reblock (hg4.imp id (fun e b hb => by cases hb; omega))).mono (Nat.le_refl _) hgr.size
theorem nil_RawIntS (lo hi : Nat) (w : World) : RawIntS lo hi w (.slice none 0 0) [] := ⟨⟨⟨by simp [cellsIntS], .inl ⟨rfl, rfl⟩⟩, fun b h => by cases h⟩, nil_InnerIntS _ _ _ _⟩
def levRow (D : List VIntS) (k : Nat) : List Int := (List.range (colsN D)).map fun j => levA D (k, j)
theorem levRow_len (D : List VIntS) (k : Nat) : (levRow D k).length = colsN D := by simp [levRow]
theorem levRow_take (D : List VIntS) {k : Nat} (h : k < D.length) : (gridOf D (lev D)).take (k + 1) = (gridOf D (lev D)).take k ++ [levRow D k] := by
  rw [List.take_add_one, gridOf_at D _ h]
  congr 1
  show [(List.range (colsN D)).map fun c => lev D (k, c)] = [levRow D k]
  congr 1
  unfold levRow
  refine List.map_congr_left fun j hj => ?_
  rw [levA_in (p := (k, j)) ⟨h, by simpa using hj⟩]
theorem levRow_is {D : List VIntS} (hD : RL D) {w : World} {B : Nat} (h : HBArr w B (levA D)) {k : Nat} (hk : k < D.length) : IsInts w (some ⟨B, k * 8, none⟩) (colsN D) 8 (levRow D k) := by
  have hm8 := hD.m8
  have hn8 := hD.n8
  refine ⟨(levRow_len D k).symm, hn8, by simp [maxLen], .inr ⟨B, k * 8, rfl, h.lt, fun j s hs => ?_⟩⟩
  have hj : j < colsN D := by
    have := (List.getElem?_eq_some_iff.1 hs).1
    rwa [levRow_len] at this
  have e : s = levA D (k, j) := by
    simp [levRow, hj] at hs
    exact hs.symm
  rw [e]
  exact h.cell (show k < 8 by omega) (show j < 8 by omega)
set_option maxHeartbeats 12800000 in
set_option maxRecDepth 100000 in
theorem implFilledRelief_any (a : Option Addr) (len cap : Nat) (D : List VIntS) (w : World) (h : IsIntSS w a len cap D) :
    Calls Try.prog 34 #[.slice a len cap] w (FilledRelief_Post D w) := by
  have hm := h.2.2.1
  have hcl := h.2.1
  unfold maxLen at hm
  obtain rfl := h.1
  obtain ⟨i0, hi, hz0, hz1, hz2⟩ := info_parts infoIntS
  have S := Lib.hid h
  clear h
  obtain ⟨q, hq⟩ : ∃ q, rlB D = q := ⟨_, rfl⟩
  have Q := Lib.hid hq
  clear hq
  go_enter Try.func34, Try.ntmps34
  go_wp2_with fail
  refine (implIsRelief_any _ _ _ D _ S.out).mono ?_
  rintro e w1 ⟨rfl, hb⟩
  rw [show IsRelief_0 D = q from Q.out]
  have B1 := Lib.hid hb
  have S1 := Lib.hid (S.out.below hb)
  clear hb
  cases q
  · have P := Lib.hid (show FilledRelief_0 D = [] ∧ FilledRelief_1 D = false from by unfold FilledRelief_0 FilledRelief_1; rw [Q.out]; exact ⟨rfl, rfl⟩)
    go_wp2
    go_ret2
    exact ⟨_, by rw [P.out.2]; rfl, by rw [P.out.1]; exact nil_OwnIntSS _ _ _, B1.out⟩
  have HD := Lib.hid (rlB_iff.1 Q.out)
  have P := Lib.hid (show FilledRelief_0 D = gridOf D (lev D) ∧ FilledRelief_1 D = true from by unfold FilledRelief_0 FilledRelief_1; rw [Q.out]; exact ⟨rfl, rfl⟩)
  have hm8 := HD.out.m8
  have hn8 := HD.out.n8
  have hn1 := HD.out.n1
  go_wp2_with fail
  refine (levelsOf_any _ _ _ D _ S1.out HD.out).mono ?_
  rintro e w2 ⟨rfl, hb⟩
  have B2 := Lib.hid (Below.then' B1.out hb)
  have S2 := Lib.hid (S1.out.below hb)
  have hs2 := B2.out.size
  clear hb
  go_wp2_with (rw [zeros_arr]; refine wpList_storeArr rfl (.tmp 4) (.tmp 11) rfl w2.heap.size rfl _ _ rfl (HBArr.new w2 (fun _ => 0) _ rfl) ?_; intro w4 hw4 hg4)
  have b4 : Below w2.heap.size w2 w4 := (bel_al1 w2 (.cells (arrC fun _ => 0) 60)).grown hg4 (by simp) (fun j e => by cases e; exact Nat.le_refl _)
  have B4 := Lib.hid (Below.then' B2.out b4)
  have S4 := Lib.hid (S2.out.below b4)
  have A4 := Lib.hid hw4
  have hs4 := b4.size
  clear b4 hw4 hg4
  go_loopw [14, 5] (fun i v wr => ∃ (k : Nat) (ps : List PIntS), k ≤ D.length ∧ i = .int .i64 k ∧ ps.length = k ∧ ps.map PIntS.x = (gridOf D (lev D)).take k ∧ RawIntS w4.heap.size wr.heap.size wr v ps ∧ Below w4.heap.size w4 wr) (fun i _ _ => D.length - (intOf i).toNat)
  case atStart => exact ⟨0, [], Nat.zero_le _, rfl, rfl, rfl, nil_RawIntS _ _ _, Below.refl _ _⟩
  case round =>
    obtain ⟨k, ps, hk, rfl, hpl, hps, hraw, hbel⟩ := hrel
    have O := Lib.hid hraw
    have B := Lib.hid hbel
    have PS := Lib.hid hps
    have PL := Lib.hid hpl
    have hsz := hbel.size
    by_cases hlt : k < D.length
    · obtain ⟨b, o, b', o', c', ha, hb, hb', g0, hc1, hc2, g1⟩ := relief_row S4.out HD.out hlt
      subst ha
      have KS := Lib.hid (fun (u : World) (hu : Below w4.heap.size w4 u) => (⟨hu, cell_stay g0 hu⟩ : Below w4.heap.size w4 u ∧ u.cell? ⟨b, o + k, none⟩ = some (.slice (some ⟨b', o', none⟩) (colsN D) c')))
      have AI := Lib.hid (fun (u : World) (hu : Below w4.heap.size w4 u ∧ u.cell? ⟨b, o + k, none⟩ = some (.slice (some ⟨b', o', none⟩) (colsN D) c')) => levRow_is HD.out (A4.out.below hu.1) hlt)
      have BD := Lib.hid (show Below w4.heap.size w4 wr.drew from bel_drew' hbel)
      have BW := Lib.hid (show Below wr.heap.size wr wr.drew from bel_drew' (Below.refl _ _))
      have RL8 := Lib.hid (show (levRow D k).length ≤ 1048576 from by rw [levRow_len]; omega)
      have k0 : (0 : Int) ≤ (k : Int) := by omega
      have k1 : (k : Int) < (D.length : Int) := by omega
      have k8 : (k : Int) < 8 := by omega
      have n0 : (0 : Int) ≤ (colsN D : Int) := by omega
      have n8 : (colsN D : Int) ≤ 8 := by omega
      clear hraw hbel hps hpl g1 g0
      go_wp2
      go_region_held3 (fun u => Below w4.heap.size w4 u ∧ u.cell? ⟨b, o + k, none⟩ = some (.slice (some ⟨b', o', none⟩) (colsN D) c'))
        (first | exact KS.out _ BD.out | exact KS.out _ C1.out | exact KS.out _ (Below.then' C1.out (bel_al1 _ _)) | exact KS.out _ C4.out)
        (first
          | (go_at_call 73; refine (cloneInts_any _ _ _ (levRow D k) _ (AI.out _ (by assumption)) RL8.out).mono ?_; rintro e w5 ⟨h5, rfl, hz5, hb5⟩; have C1 := Lib.hid (Below.then' BD.out hb5); have D1 := Lib.hid (Below.then' BW.out hb5); have Z1 := Lib.hid hz5; have hs5 := hb5.size; clear hz5 hb5)
          | (refine step_append_lies _ (by rfl) (.tmp 17) (.tmp 27) 24 (by rfl) w4.heap.size 38 i0 (.slice none 0 0) 1 24 Try.underlying24 hi hz0 hz1 hz2 (by rfl) (by decide) _ ps.length (cellsIntS ps) (by rfl) (World.ownsRow.alloc (ownsRow_below O.out.1.1 D1.out) _) ⟨w5.heap.size, 0, none⟩ 1 1 (PIntS.vals ⟨levRow D k, h5⟩) (by rfl) (by rfl) (cell_IntS w5 ⟨levRow D k, h5⟩ _ _ rfl) (PIntS.vals_one _) (by decide) (by unfold maxLen; have := PL.out; omega) (by have := PL.out; omega) (Below.then' C1.out (bel_al1 _ _)).size (w5.heap.size + 1) (size_al _ _) ?_; intro g6 cap6 w6 hown6 hgrow6 hat6 hlt6; have C4 := Lib.hid ((Below.then' C1.out (bel_al1 _ _)).grown hgrow6 (Below.then' C1.out (bel_al1 _ _)).size (fun p e => (O.out.1.lt e).1))))
      have BA := Below.then' D1.out (bel_al1 w5 (.cells #[.slice h5.a h5.n h5.c] 38))
      have HM := (Z1.out.below (bel_al1 w5 (.cells #[.slice h5.a h5.n h5.c] 38))).mono (Nat.le_refl wr.heap.size) (bel_al1 w5 (.cells #[.slice h5.a h5.n h5.c] 38)).size
      have N6 := Lib.hid (O.out.snocV (p := ⟨levRow D k, h5⟩) rfl hsz BA HM hown6 hgrow6 (by rw [size_al]; exact hat6))
      clear BA HM hown6 hgrow6 hat6
      go_wp2
      go_roundw
      case rel => exact ⟨k + 1, ps ++ [⟨levRow D k, h5⟩], by omega, by go_num, by rw [List.length_append, PL.out]; rfl, by rw [List.map_append, PS.out, levRow_take D hlt]; rfl, N6.out, C4.out⟩
      case measure => simp [intOf]; omega
    · obtain rfl : k = D.length := by omega
      have R := Lib.hid (show OwnIntSS w.heap.size wr.heap.size wr _ (gridOf D (lev D)) from ⟨ps, by rw [PS.out, List.take_of_length_le (by rw [gridOf_len]; exact Nat.le_refl _)], O.out.mono (by omega) (Nat.le_refl _)⟩)
      clear hraw hbel hps hpl
      go_wp2
      go_ret2
      exact ⟨_, by rw [P.out.2]; rfl, by rw [P.out.1]; exact R.out, Below.then' B4.out B.out⟩
end Go.Proofs.Ytodjgeffkfbpiaa
namespace Go.Proofs.Ytodjgeffkfbpiaa
open Go.RowKit

/-- A sheet in a block of its own, as the box of a parameter. -/
def BoxAt (w : World) (b : Nat) (s : Sh) : Prop :=
  w.cell? ⟨b, 0, none⟩ = some (.int .i64 s.id) ∧ w.cell? ⟨b, 1, none⟩ = some (.int .i64 s.row) ∧ w.cell? ⟨b, 2, none⟩ = some (.int .i64 s.col) ∧ w.cell? ⟨b, 3, none⟩ = some (.int .i64 s.scale) ∧ w.cell? ⟨b, 4, none⟩ = some (.int .i64 s.year)
theorem boxAt_new (w : World) (t : TypeId) (s : Sh) (B : Nat) (hB : w.heap.size = B) : BoxAt (w.alloc (.cells #[.int .i64 s.id, .int .i64 s.row, .int .i64 s.col, .int .i64 s.scale, .int .i64 s.year] t)) B s := by
  subst hB
  refine ⟨?_, ?_, ?_, ?_, ?_⟩ <;> simp [World.cell?_alloc_new]
theorem BoxAt.lt {w : World} {b : Nat} {s : Sh} (h : BoxAt w b s) : b < w.heap.size := by
  by_cases hb : b < w.heap.size
  · exact hb
  · exfalso
    have := h.1
    rw [show w.cell? ⟨b, 0, none⟩ = none from by simp [World.cell?, Array.getElem?_eq_none (Nat.le_of_not_lt hb)]] at this
    cases this
theorem BoxAt.below {w w' : World} {b : Nat} {s : Sh} (h : BoxAt w b s) (hb : Below w.heap.size w w') : BoxAt w' b s :=
  ⟨(hb.cell (p := ⟨b, 0, none⟩) h.lt).trans h.1, (hb.cell (p := ⟨b, 1, none⟩) h.lt).trans h.2.1, (hb.cell (p := ⟨b, 2, none⟩) h.lt).trans h.2.2.1, (hb.cell (p := ⟨b, 3, none⟩) h.lt).trans h.2.2.2.1, (hb.cell (p := ⟨b, 4, none⟩) h.lt).trans h.2.2.2.2⟩
end Go.Proofs.Ytodjgeffkfbpiaa
