/- Texts in one: Wh, Spl, IntA2Del, IntA2L, Pick, IntA2Mm, Ord, PitsOfP. -/
import Derived.Test.YtodjgeffkfbpiaaM2
import Derived.Laws.IdiomCopy
import Derived.Laws.OwnMore
import Derived.Lib.SliceRun
import Derived.Test.YtodjgeffkfbpiaaM3
import Derived.Laws.StructEq
import Derived.StillTailTactics
import Derived.Test.YtodjgeffkfbpiaaM1
import Derived.Lib.Small
import Derived.Sort.Grow
namespace Go.Proofs.Ytodjgeffkfbpiaa
open Go.RowKit
/-- A row of integers of the call's own, and the world below as it was. -/
def IdsOwn (xs : List Int) (w : World) (e : Ending) (w' : World) : Prop := ∃ v, e = .returned v ∧ w'.ownsRow w.heap.size 3 1 v xs.length (intCells xs) ∧ Below w.heap.size w w'
theorem where_more {α : Type} {xs : List α} {k : Nat} {s : α} (f : α → Bool) (g : α → Int) (hs : xs[k]? = some s) : ((xs.take (k + 1)).filter f).map g = ((xs.take k).filter f).map g ++ (if f s = true then [g s] else []) := by
  rw [List.take_add_one, hs, List.filter_append, List.map_append]
  cases h : f s <;> simp [h]
theorem where_len {α : Type} (f : α → Bool) (g : α → Int) (xs : List α) (k : Nat) : (((xs.take k).filter f).map g).length ≤ k := by
  rw [List.length_map]
  exact Nat.le_trans (List.length_filter_le _ _) (by rw [List.length_take]; omega)
theorem nil_ids (w : World) (base : Nat) : w.ownsRow base 3 1 (.slice none 0 0) ([] : List Int).length (intCells []) := ⟨by simp [intCells], .inl ⟨rfl, rfl⟩⟩
theorem made_ids (w : World) : (w.alloc (.cells #[] 3)).ownsRow w.heap.size 3 1 (.slice (some ⟨w.heap.size, 0, none⟩) 0 0) ([] : List Int).length (intCells []) :=
  World.ownsRow_made (base := w.heap.size) (e := 3) (size := 1) w #[] 0 (Nat.le_refl _) (Nat.zero_le _) rfl
theorem wh_al1 (w : World) (o : Obj) : Below w.heap.size w (w.alloc o) := (Below.refl _ _).alloc (Nat.le_refl _) _
theorem cell_box' (w : World) (v : Value) (t : TypeId) (B : Nat) (hB : w.heap.size = B) : (w.alloc (.cells #[v] t)).cell? ⟨B, 0, none⟩ = some v := by
  subst hB
  simp [World.cell?_alloc_new]
theorem cell_stay' {w w' : World} {b o : Nat} {v : Value} (h : w.cell? ⟨b, o, none⟩ = some v) (hb : Below w.heap.size w w') : w'.cell? ⟨b, o, none⟩ = some v := (hb.cell (p := ⟨b, o, none⟩) (World.lt_of_cell h)).trans h
/-- A call of a function value enters the function. -/
theorem enters_fn' {P : Program} {K : FuncId} {fn : Func} (hf : P.funcs[K]? = some fn) (h1 : (fn.name == "runtime.NumGoroutine") = false) (h2 : fn.body.isNone = false) : ∀ args W, (callFunc K args).run P W = .ok (.enter K args) W := by
  intro args W
  have h1' : ¬ fn.name = "runtime.NumGoroutine" := by simpa using h1
  have h2' : ¬ fn.body = none := by intro h; rw [h] at h2; cases h2
  simp [callFunc, go_sem, hf, h1', h2']
end Go.Proofs.Ytodjgeffkfbpiaa
namespace Go.Proofs.Ytodjgeffkfbpiaa
open Go.RowKit

def setL : List Value → Nat → List Value → List Value
  | xs, _, [] => xs
  | xs, o, v :: r => setL (xs.set o v) (o + 1) r
theorem setL_eq (vs : List Value) : ∀ (xs : List Value) (o : Nat), o + vs.length ≤ xs.length → setL xs o vs = xs.take o ++ (vs ++ xs.drop (o + vs.length)) := by
  induction vs with
  | nil => intro xs o _; simp [setL]
  | cons v r ih =>
    intro xs o h
    simp only [List.length_cons] at h
    show setL (xs.set o v) (o + 1) r = _
    rw [ih _ _ (by rw [List.length_set]; omega), List.drop_set, if_pos (by omega)]
    have e : (xs.set o v).take (o + 1) = xs.take o ++ [v] := by
      rw [List.take_add_one, List.take_set, List.set_eq_of_length_le (by rw [List.length_take]; omega), List.getElem?_set_self (by omega)]
      rfl
    rw [e, List.append_assoc]
    simp only [List.length_cons, List.cons_append, List.nil_append]
    rw [show o + 1 + r.length = o + (r.length + 1) by omega]
theorem own_setCells {base size n cap g : Nat} {e : TypeId} : ∀ (vs xs : List Value) (o : Nat) (w : World), w.ownsRow base e size (.slice (some ⟨g, 0, none⟩) n cap) n xs →
    (w.setCells g o vs).ownsRow base e size (.slice (some ⟨g, 0, none⟩) n cap) n (setL xs o vs) ∧ w.grownBy (w.setCells g o vs) (some g)
  | [], _, _, w, h => ⟨h, World.grownBy.refl w _⟩
  | v :: r, xs, o, w, h => by
    have h1 := h.stored o v
    have h2 := own_setCells r _ (o + 1) _ h1.1
    exact ⟨h2.1, grown_trans h1.2 h2.2⟩
/-- The row with some of the spare cells behind it. -/
theorem own_wider {w : World} {base size n cap g m : Nat} {e : TypeId} {xs : List Value} (h : w.ownsRow base e size (.slice (some ⟨g, 0, none⟩) n cap) n xs) (hm : n + m ≤ cap) :
    ∃ L : List Value, L.length = m * size ∧ w.ownsRow base e size (.slice (some ⟨g, 0, none⟩) (n + m) cap) (n + m) (xs ++ L) := by
  rcases h.2 with ⟨e0, _⟩ | ⟨g', cap', cur, e0, hg, hh, hn, hc, hs, ht⟩
  · cases e0
  · cases e0
    have hl : cur.toList.length = cap * size := by simpa using hs
    have hle : (n + m) * size ≤ cap * size := Nat.mul_le_mul_right _ hm
    have hle2 : n * size + m * size = (n + m) * size := (Nat.add_mul n m size).symm
    refine ⟨(cur.toList.drop (n * size)).take (m * size), by rw [List.length_take, List.length_drop, hl]; omega, ⟨?_, .inr ⟨g, cap, cur, rfl, hg, hh, hm, hc, hs, ?_⟩⟩⟩
    · rw [List.length_append, h.1, List.length_take, List.length_drop, hl]; omega
    · rw [← hle2, List.take_add, ht]
/-- Less of a row. -/
theorem own_cells_at {w : World} {base size n cap g : Nat} {e : TypeId} {xs : List Value} (h : w.ownsRow base e size (.slice (some ⟨g, 0, none⟩) n cap) n xs) (j : Nat) (v : Value) (hj : xs[j]? = some v) : w.cell? ⟨g, 0 + j, none⟩ = some v := by
  have := h.cells (g := g) rfl j v hj
  rwa [add_plain] at this
theorem own_some_at {w : World} {base size n cap g : Nat} {e : TypeId} {xs : List Value} (h : w.ownsRow base e size (.slice (some ⟨g, 0, none⟩) n cap) n xs) (j : Nat) (hj : j < xs.length) : (w.cell? ⟨g, 0 + j, none⟩).isSome = true := by
  rw [own_cells_at h j _ (List.getElem?_eq_getElem hj)]; rfl
end Go.Proofs.Ytodjgeffkfbpiaa
namespace Go.Proofs.Ytodjgeffkfbpiaa
open Go.RowKit
set_option maxHeartbeats 1600000 in
set_option maxRecDepth 100000 in
/-- The index of the first element that a function value likes. -/
theorem ixfIntA2_any (K : FuncId) (caps : Array Value) (f : VIntA2 → Bool) (a : Option Addr) (len cap : Nat) (xs : List VIntA2) (w : World) (h : IsIntA2S w a len cap xs)
    (hcall : ∀ args W, (callFunc K args).run Try.prog W = .ok (.enter K args) W)
    (hf : ∀ W s, s ∈ xs → Below w.heap.size w W → Calls Try.prog K (#[.agg #[.int .i64 s.E0, .int .i64 s.E1]] ++ caps) W fun e w' => e = .returned (.bool (f s)) ∧ Below W.heap.size W w') :
    Calls Try.prog 88 #[.slice a len cap, .func (.func K) #[] caps] w fun e w' => e = .returned (.int .i64 (firstOf f xs)) ∧ Below w.heap.size w w' := by
  have hm := h.2.2.1
  have hcl := h.2.1
  unfold maxLen at hm
  have S := Lib.hid h
  have L := Lib.hid h.1
  have F := Lib.hid hf
  clear h hf
  go_enter Try.func88, Try.ntmps88
  go_wp2
  go_loopw [8, 5] (fun i _ wr => ∃ k : Nat, k ≤ len ∧ i = .int .i64 k ∧ Below w.heap.size w wr ∧ ∀ (j : Nat) t, j < k → xs[j]? = some t → f t = false) (fun i _ _ => len - (intOf i).toNat)
  case atStart => exact ⟨0, Nat.zero_le _, rfl, Below.refl _ _, by omega⟩
  case round =>
    obtain ⟨k, hk, rfl, hbel, hall⟩ := hrel
    have A := Lib.hid hall
    have B := Lib.hid hbel
    clear hall
    by_cases hlt : k < len
    · obtain ⟨s, hs⟩ := el_at L hlt
      obtain ⟨b, o, rfl, hb, hat⟩ := (S.out.below hbel).at (by omega)
      obtain ⟨c0, c1⟩ := hat k s hs
      have X := Lib.hid hs
      have hi0 : (0 : Int) ≤ (k : Int) := by omega
      have hi1 : (k : Int) < (len : Int) := by omega
      clear hs hat hbel
      go_wp2_with fail
      refine (F.out wr s (List.mem_of_getElem? X.out) B.out).mono ?_
      rintro e w1 ⟨rfl, hb1⟩
      have B1 := Lib.hid (Below.then' B.out hb1)
      clear hb1
      by_cases hfs : f s = true
      · have FS := Lib.hid hfs
        rw [hfs]
        clear hfs
        go_wp2
        go_ret
        exact ⟨ret_int (firstOf_at X.out FS.out A.out).symm, B1.out⟩
      · have hfs' : f s = false := by simpa using hfs
        have FS := Lib.hid hfs'
        rw [hfs']
        clear hfs hfs'
        go_wp2
        go_roundw
        case rel => exact ⟨k + 1, by omega, by go_num, B1.out, fun j t hj ht => by
          by_cases e : j = k
          · subst e; rw [X.out] at ht; cases ht; exact FS.out
          · exact A.out j t (by omega) ht⟩
        case measure => simp [intOf]; omega
    · obtain rfl : k = len := by omega
      clear hbel
      go_wp2
      go_ret
      exact ⟨ret_int (firstOf_no fun j t hj ht => A.out j t (by have := L.out; omega) ht).symm, B.out⟩
/-- clear, at a row. -/
theorem clearIntA2 (P : Program) (w : World) (t e ty : TypeId) (ht : P.underlying t = some (.slice e)) (hv : ∀ w, (zeroValue e).run P w = .ok (.agg #[.int .i64 0, .int .i64 0]) w) (b o m c : Nat) (hm : 0 < m)
    (hc : ∀ j, j < m * 2 → (w.cell? ⟨b, o + j, none⟩).isSome = true) (hf : ∀ j, j < m * 2 → w.frozen? ⟨b, o + j, none⟩ = false) :
    (Builtin.clear_ #[t] ty #[.slice (some ⟨b, o, none⟩) m c]).run P w = .ok (.tuple #[]) (w.setCells b o (List.replicate (m * 2) (.int .i64 0))) := by
  have hzc : (Builtin.zeroCells (.agg #[.int .i64 0, .int .i64 0] : Value).cells m).toList = List.replicate (m * 2) (.int .i64 0) := by
    apply List.ext_getElem
    · simp [Builtin.zeroCells, Value.cells]
    · intro i h1 h2
      simp only [List.length_replicate] at h2
      simp [Builtin.zeroCells, Value.cells]
      have h3 : i % 2 < 2 := Nat.mod_lt _ (by decide)
      rcases (show i % 2 = 0 ∨ i % 2 = 1 by omega) with h | h <;> simp [h]
  have hst := run_storeCells_cells (P := P) b o (List.replicate (m * 2) (.int .i64 0)) 0 w (by simpa using hc) (by simpa using hf) (by intro v hv'; rw [List.eq_of_mem_replicate hv']; rfl)
  simp only [Nat.add_zero] at hst
  obtain ⟨k, rfl⟩ : ∃ k, m = k + 1 := ⟨m - 1, by omega⟩
  simp [Builtin.clear_, run_underlying ht, hv, hzc, hst]
theorem own_zerosIntA2 {w : World} {base g c i : Nat} {ys : List VIntA2} (h : w.ownsRow base 34 2 (.slice (some ⟨g, 0, none⟩) ys.length c) ys.length (cellsIntA2 ys)) (hi : i ≤ ys.length) :
    (w.setCells g (i * 2) (List.replicate ((ys.length - i) * 2) (.int .i64 0))).ownsRow base 34 2 (.slice (some ⟨g, 0, none⟩) i c) i (cellsIntA2 (ys.take i)) ∧ w.grownBy (w.setCells g (i * 2) (List.replicate ((ys.length - i) * 2) (.int .i64 0))) (some g) := by
  have h1 := own_setCells (List.replicate ((ys.length - i) * 2) (.int .i64 0)) _ (i * 2) _ h
  refine ⟨?_, h1.2⟩
  have e0 : i * 2 + (ys.length - i) * 2 = ys.length * 2 := by rw [← Nat.add_mul]; congr 1; omega
  have e1 : (cellsIntA2 ys).take (i * 2) = cellsIntA2 (ys.take i) := by
    have := cellsIntA2_take ys i
    rw [this, List.take_append_of_le_length (by rw [cellsIntA2_len, List.length_take]; omega), List.take_of_length_le (by rw [cellsIntA2_len, List.length_take]; omega)]
  have e2 : ∀ k, List.replicate (k * 2) (.int .i64 0) = cellsIntA2 (List.replicate k ⟨0, 0⟩) := by
    intro k
    induction k with
    | zero => simp [cellsIntA2]
    | succ k ih => rw [List.replicate_succ, show cellsIntA2 (⟨0, 0⟩ :: List.replicate k ⟨0, 0⟩) = VIntA2.vals ⟨0, 0⟩ ++ cellsIntA2 (List.replicate k ⟨0, 0⟩) from rfl, ← ih, show (k + 1) * 2 = k * 2 + 1 + 1 by omega]; simp [List.replicate_succ, VIntA2.vals]
  obtain ⟨zs, hz⟩ : ∃ zs, ys.take i ++ List.replicate (ys.length - i) (⟨0, 0⟩ : VIntA2) = zs := ⟨_, rfl⟩
  have hc : setL (cellsIntA2 ys) (i * 2) (List.replicate ((ys.length - i) * 2) (.int .i64 0)) = cellsIntA2 zs := by
    rw [setL_eq _ _ _ (by rw [List.length_replicate, cellsIntA2_len]; omega), List.length_replicate, e0, List.drop_of_length_le (by rw [cellsIntA2_len]; exact Nat.le_refl _), List.append_nil, e1, e2, ← cellsIntA2_append, hz]
  have hlen : zs.length = ys.length := by rw [← hz, List.length_append, List.length_take, List.length_replicate]; omega
  have h2 := h1.1
  rw [hc] at h2
  have h3 := take_ownIntA2 (xs := zs) (k := i) (by rw [hlen]; exact h2) (by rw [hlen]; exact hi)
  have ht : zs.take i = ys.take i := by rw [← hz, List.take_append_of_le_length (by rw [List.length_take]; omega), List.take_of_length_le (by rw [List.length_take]; omega)]
  rwa [ht] at h3
theorem take_filterIntA2 {f : VIntA2 → Bool} {xs : List VIntA2} {j : Nat} {x : VIntA2} (h : xs[j]? = some x) : (xs.take (j + 1)).filter f = (xs.take j).filter f ++ (if f x = true then [x] else []) := filter_snoc' f h
theorem zeroIntA2_run (w : World) : (zeroValue 34).run Try.prog w = .ok (.agg #[.int .i64 0, .int .i64 0]) w := by kernel_rfl
set_option maxHeartbeats 6400000 in
set_option maxRecDepth 100000 in
theorem delIntA2_any (K : FuncId) (caps : Array Value) (f : VIntA2 → Bool) (base g c : Nat) (xs : List VIntA2) (w : World) (h : w.ownsRow base 34 2 (.slice (some ⟨g, 0, none⟩) xs.length c) xs.length (cellsIntA2 xs)) (hbase : base ≤ w.heap.size)
    (hcall : ∀ args W, (callFunc K args).run Try.prog W = .ok (.enter K args) W)
    (hf : ∀ W s, s ∈ xs → Below base w W → Calls Try.prog K (#[.agg #[.int .i64 s.E0, .int .i64 s.E1]] ++ caps) W fun e w' => e = .returned (.bool (f s)) ∧ Below W.heap.size W w') :
    Calls Try.prog 61 #[.slice (some ⟨g, 0, none⟩) xs.length c, .func (.func K) #[] caps] w fun e w' =>
      e = .returned (.slice (some ⟨g, 0, none⟩) (xs.filter fun s => !f s).length c) ∧ w'.ownsRow base 34 2 (.slice (some ⟨g, 0, none⟩) (xs.filter fun s => !f s).length c) (xs.filter fun s => !f s).length (cellsIntA2 (xs.filter fun s => !f s)) ∧ Below base w w' := by
  obtain ⟨a', c', e', hi', _⟩ := isIntA2S_own h
  simp only [Value.slice.injEq] at e'
  obtain ⟨rfl, _, rfl⟩ := e'
  have hm := hi'.2.2.1
  have hcl := hi'.2.1
  unfold maxLen at hm
  have hgb := (h.lt g rfl).1
  have S := Lib.hid hi'
  have O0 := Lib.hid h
  have F := Lib.hid hf
  have HB := Lib.hid hbase
  have HC := Lib.hid hcall
  clear h hi' hf hbase hcall
  go_enter Try.func61, Try.ntmps61
  go_wp2_with fail
  refine (ixfIntA2_any K caps f _ _ _ xs _ S.out HC.out (fun W s hs hW => F.out W s hs (hW.mono HB.out))).mono ?_
  rintro e w1 ⟨rfl, hb⟩
  have B1 := Lib.hid (hb.mono HB.out)
  have O1 := Lib.hid (ownsRow_below O0.out hb)
  have hs1 := hb.size
  clear hb
  rcases firstOf_cases f xs with ⟨h1, h2⟩ | ⟨i, s, h1, h2, h3, h4⟩
  · have E := Lib.hid (show (xs.filter fun s => !f s) = xs from List.filter_eq_self.2 (fun s hs => by rw [h2 s hs]; rfl))
    rw [h1]
    clear h1 h2
    go_wp2
    go_ret
    exact ⟨by rw [E.out]; rfl, by rw [E.out]; exact O1.out, B1.out⟩
  · have hil := (List.getElem?_eq_some_iff.1 h2).1
    have N0 := Lib.hid (show xs.take i = (xs.take (i + 1)).filter (fun s => !f s) from by
      rw [filter_snoc' _ h2, h3]
      simp only [Bool.not_true, if_neg (show ¬ false = true by simp), List.append_nil]
      refine (List.filter_eq_self.2 fun t ht => ?_).symm
      obtain ⟨j, hj⟩ := List.getElem?_of_mem ht
      have hjl := (List.getElem?_eq_some_iff.1 hj).1
      rw [List.length_take] at hjl
      rw [List.getElem?_take_of_lt (by omega)] at hj
      rw [h4 j t (by omega) hj]; rfl)
    rw [h1]
    have hne : ((i : Int) == -1) = false := beq_eq_false_iff_ne.2 (by omega)
    have hne2 : ¬ (i : Int) = -1 := by omega
    clear h1 h2 h3 h4
    go_wp2
    clear hne hne2
    go_loopw [6, 5] (fun jv iv wr => ∃ (j i : Nat) (ys : List VIntA2), i < j ∧ j ≤ xs.length ∧ jv = .int .i64 j ∧ iv = .int .i64 i ∧ ys.length = xs.length ∧ ys.take i = (xs.take j).filter (fun s => !f s) ∧ ys.drop j = xs.drop j ∧ wr.ownsRow base 34 2 (.slice (some ⟨g, 0, none⟩) xs.length c) xs.length (cellsIntA2 ys) ∧ Below base w wr ∧ base ≤ wr.heap.size) (fun jv _ _ => xs.length - (intOf jv).toNat)
    case atStart => exact ⟨i + 1, i, xs, by omega, by omega, by go_num, rfl, rfl, N0.out, rfl, O1.out, B1.out, Nat.le_trans HB.out hs1⟩
    case round =>
      obtain ⟨j, i, ys, hij, hj, rfl, rfl, hyl, hyt, hyd, hown, hbel, hbs⟩ := hrel
      have YL := Lib.hid hyl
      have YT := Lib.hid hyt
      have YD := Lib.hid hyd
      have O := Lib.hid hown
      have B := Lib.hid hbel
      have hx0 : (0 : Int) ≤ (j : Int) := by omega
      by_cases hlt : j < xs.length
      · obtain ⟨x, hx⟩ : ∃ x, xs[j]? = some x := ⟨xs[j]'hlt, List.getElem?_eq_getElem _⟩
        have hyx : ys[j]? = some x := by
          have := congrArg (fun l : List VIntA2 => l[0]?) YD.out
          simp only [List.getElem?_drop, Nat.add_zero] at this
          rw [this, hx]
        have hx1 : (j : Int) < (xs.length : Int) := by omega
        rw [← hyl] at hown
        obtain ⟨a2, c2, e2, hi2, _⟩ := isIntA2S_own hown
        simp only [Value.slice.injEq] at e2
        obtain ⟨rfl, _, rfl⟩ := e2
        obtain ⟨b3, o3, e3, hb3, hat⟩ := hi2.at (by omega)
        cases e3
        obtain ⟨c0, c1⟩ := hat j x hyx
        simp only [Nat.zero_add] at c0 c1
        have X := Lib.hid hx
        have FS := Lib.hid (filter_snoc' (fun s => !f s) hx)
        obtain ⟨r, hr⟩ : ∃ r, f x = r := ⟨_, rfl⟩
        have RR := Lib.hid hr
        have BW := Lib.hid (bel_al1 wr (.cells #[.int .i64 x.E0, .int .i64 x.E1] 34))
        have BX := Lib.hid (BoxIntA2.new wr 34 x _ rfl)
        have hcall := HC.out
        clear hx hyx hi2 hat hown hbel hr hyl hyt hyd
        go_wp2_with fail
        refine (F.out _ x (List.mem_of_getElem? X.out) (B.out.trans (BW.out.mono hbs))).mono ?_
        rintro e w2 ⟨rfl, hb⟩
        rw [RR.out]
        have hb' := Below.then' BW.out hb
        have B2 := Lib.hid (B.out.trans (hb'.mono hbs))
        have O2 := Lib.hid (ownsRow_below O.out hb')
        have BX2 := Lib.hid (BX.out.below hb)
        have hs2 : base ≤ w2.heap.size := Nat.le_trans hbs hb'.size
        clear hb hb' c0 c1 hcall
        cases r
        · obtain ⟨e0, e1⟩ := BX2.out
          have O := O2
          obtain ⟨u0, d0⟩ := own_cell O.out (i * 2) (by rw [cellsIntA2_len, YL.out]; omega)
          obtain ⟨u1, d1⟩ := own_cell O.out (i * 2 + 1) (by rw [cellsIntA2_len, YL.out]; omega)
          have fz0 := O.out.frozenAt (i * 2)
          have fz1 := O.out.frozenAt (i * 2 + 1)
          have hi0 : (0 : Int) ≤ (i : Int) := by omega
          have hi1 : (i : Int) < (xs.length : Int) := by omega
          have SET := Lib.hid (own_setIntA2 (i := i) O2.out (by rw [YL.out]; omega) x)
          go_wp2
          go_roundw
          case rel =>
            refine ⟨j + 1, i + 1, ys.set i x, by omega, by omega, by go_num, by go_num, by rw [List.length_set]; exact YL.out, ?_, ?_, SET.out.1, B2.out.grown SET.out.2 hs2 (fun k e => by cases e; exact hgb), Nat.le_trans hs2 SET.out.2.size⟩
            · rw [FS.out, RR.out, ← YT.out, List.take_add_one, List.take_set, List.set_eq_of_length_le (by rw [List.length_take]; omega), List.getElem?_set_self (by rw [YL.out]; omega)]
              rfl
            · rw [List.drop_set, if_pos (by omega), ← List.drop_drop, YD.out, List.drop_drop]
          case measure => simp [intOf]; omega
        · go_wp2
          go_roundw
          case rel => exact ⟨j + 1, i, ys, by omega, by omega, by go_num, rfl, YL.out, by rw [FS.out, RR.out]; simpa using YT.out, by rw [← List.drop_drop, YD.out, List.drop_drop], O2.out, B2.out, hs2⟩
          case measure => simp [intOf]; omega
      · obtain rfl : j = xs.length := by omega
        have hY : ys.take i = xs.filter (fun s => !f s) := by rw [YT.out, List.take_of_length_le (Nat.le_refl _)]
        have hl : i = (xs.filter (fun s => !f s)).length := by rw [← hY, List.length_take, YL.out]; omega
        have E := Lib.hid hY
        have HLN := Lib.hid hl
        have Z := own_zerosIntA2 (i := i) (by rw [YL.out]; exact O.out) (by rw [YL.out]; omega)
        rw [YL.out] at Z
        have ZZ := Lib.hid Z
        have hcells : ∀ q, q < (xs.length - i) * 2 → (wr.cell? ⟨g, i * 2 + q, none⟩).isSome = true ∧ wr.frozen? ⟨g, i * 2 + q, none⟩ = false := fun q hq => by
          have hq2 : i * 2 + q < (cellsIntA2 ys).length := by
            rw [cellsIntA2_len, YL.out]
            have := Nat.mul_le_mul_right 2 (show i ≤ xs.length by omega)
            have e0 : (xs.length - i) * 2 = xs.length * 2 - i * 2 := Nat.sub_mul _ _ _
            omega
          obtain ⟨u, d⟩ := own_cell O.out (i * 2 + q) hq2
          exact ⟨by rw [d]; rfl, O.out.frozenAt (i * 2 + q)⟩
        have hclr : ∀ ty, (Builtin.clear_ #[27] ty #[.slice (some ⟨g, i * 2, none⟩) (xs.length - i) (c - i)]).run Try.prog wr = .ok (.tuple #[]) (wr.setCells g (i * 2) (List.replicate ((xs.length - i) * 2) (.int .i64 0))) :=
          fun ty => clearIntA2 Try.prog wr _ _ ty Try.underlying27 zeroIntA2_run g (i * 2) _ _ (by omega) (fun q hq => (hcells q hq).1) (fun q hq => (hcells q hq).2)
        have hci : ¬ c = i := by omega
        have hci2 : ¬ i = c := by omega
        have hi0 : (0 : Int) ≤ (i : Int) := by omega
        have hi1 : (i : Int) ≤ (xs.length : Int) := by omega
        have hi2 : (i : Int) ≤ (c : Int) := by omega
        have hlc : (xs.length : Int) ≤ (c : Int) := by omega
        clear hown hbel Z hcells hl hY hyl hyt hyd
        go_wp2
        go_ret
        have h1 := ZZ.out.1
        rw [E.out, HLN.out] at h1
        refine ⟨by rw [← HLN.out]; rfl, ?_, B.out.grown (by rw [← HLN.out] at *; exact ZZ.out.2) hbs (fun k e => by cases e; exact hgb)⟩
        have h2 := ZZ.out.1
        rw [E.out] at h2
        rw [← HLN.out]
        exact h2
end Go.Proofs.Ytodjgeffkfbpiaa
namespace Go.Proofs.Ytodjgeffkfbpiaa
open Go.RowKit
theorem list_atIntA2 {xs : List VIntA2} {len k : Nat} (hl : Hid (len = xs.length)) (hk : k < len) : ∃ s, xs[k]? = some s := ⟨xs[k]'(by have := hl.out; omega), List.getElem?_eq_getElem _⟩
theorem made_ownIntA2 (w : World) (base : Nat) (h : base ≤ w.heap.size) : (w.alloc (.cells #[] 34)).ownsRow base 34 2 (.slice (some ⟨w.heap.size, 0, none⟩) 0 0) ([] : List VIntA2).length (cellsIntA2 []) :=
  World.ownsRow_made (base := base) (e := 34) (size := 2) w #[] 0 h (Nat.zero_le _) rfl
theorem one_IntA2 (xs : List VIntA2) : ∀ u ∈ cellsIntA2 xs, u.oneCell' = true := by
  intro u hu
  obtain ⟨s, _, hs⟩ := List.mem_flatMap.1 hu
  exact s.vals_one u hs
set_option maxHeartbeats 1600000 in
set_option maxRecDepth 100000 in
/-- The index of the first element that a function value likes. -/
theorem idxIntA2_any (K : FuncId) (caps : Array Value) (f : VIntA2 → Bool) (a : Option Addr) (len cap : Nat) (xs : List VIntA2) (w : World) (h : IsIntA2S w a len cap xs)
    (hcall : ∀ args W, (callFunc K args).run Try.prog W = .ok (.enter K args) W)
    (hf : ∀ W s, s ∈ xs → Below w.heap.size w W → Calls Try.prog K (#[.agg #[.int .i64 s.E0, .int .i64 s.E1]] ++ caps) W fun e w' => e = .returned (.bool (f s)) ∧ Below W.heap.size W w') :
    Calls Try.prog 88 #[.slice a len cap, .func (.func K) #[] caps] w fun e w' => e = .returned (.int .i64 (firstOf f xs)) ∧ Below w.heap.size w w' := by
  have hm := h.2.2.1
  have hcl := h.2.1
  unfold maxLen at hm
  have S := Lib.hid h
  have L := Lib.hid h.1
  have F := Lib.hid hf
  clear h hf
  go_enter Try.func88, Try.ntmps88
  go_wp2
  go_loopw [8, 5] (fun i _ wr => ∃ k : Nat, k ≤ len ∧ i = .int .i64 k ∧ Below w.heap.size w wr ∧ ∀ (j : Nat) t, j < k → xs[j]? = some t → f t = false) (fun i _ _ => len - (intOf i).toNat)
  case atStart => exact ⟨0, Nat.zero_le _, rfl, Below.refl _ _, by omega⟩
  case round =>
    obtain ⟨k, hk, rfl, hbel, hall⟩ := hrel
    have A := Lib.hid hall
    have B := Lib.hid hbel
    clear hall
    by_cases hlt : k < len
    · obtain ⟨s, hs⟩ := list_atIntA2 L hlt
      obtain ⟨b, o, rfl, hb, hat⟩ := (S.out.below hbel).at (by omega)
      obtain ⟨c0, c1⟩ := hat k s hs
      have X := Lib.hid hs
      clear hs hat hbel
      go_wp2_with fail
      refine (F.out wr s (List.mem_of_getElem? X.out) B.out).mono ?_
      rintro e w1 ⟨rfl, hb1⟩
      have B1 := Lib.hid (Below.then' B.out hb1)
      clear hb1
      by_cases hfs : f s = true
      · have FS := Lib.hid hfs
        rw [hfs]
        clear hfs
        go_wp2
        go_ret
        exact ⟨ret_int (firstOf_at X.out FS.out A.out).symm, B1.out⟩
      · have hfs' : f s = false := by simpa using hfs
        have FS := Lib.hid hfs'
        rw [hfs']
        clear hfs hfs'
        go_wp2
        go_roundw
        case rel => exact ⟨k + 1, by omega, by go_num, B1.out, fun j t hj ht => by
          by_cases e : j = k
          · subst e; rw [X.out] at ht; cases ht; exact FS.out
          · exact A.out j t (by omega) ht⟩
        case measure => simp [intOf]; omega
    · obtain rfl : k = len := by omega
      clear hbel
      go_wp2
      go_ret
      exact ⟨ret_int (firstOf_no fun j t hj ht => A.out j t (by have := L.out; omega) ht).symm, B.out⟩
/-- A call of a function value enters the function. -/
theorem callf_ofIntA2 {P : Program} {K : FuncId} {fn : Func} (hf : P.funcs[K]? = some fn) (h1 : (fn.name == "runtime.NumGoroutine") = false) (h2 : fn.body.isNone = false) : ∀ args W, (callFunc K args).run P W = .ok (.enter K args) W := by
  intro args W
  have h1' : ¬ fn.name = "runtime.NumGoroutine" := by simpa using h1
  have h2' : ¬ fn.body = none := by intro h; rw [h] at h2; cases h2
  simp [callFunc, go_sem, hf, h1', h2']
end Go.Proofs.Ytodjgeffkfbpiaa
namespace Go.Proofs.Ytodjgeffkfbpiaa
section
variable {α : Type}
def pickB (b : α → α → Bool) (d : α) : List α → α
  | [] => d
  | s :: l => l.foldl (fun m x => if b x m then x else m) s
theorem pickB_snoc (b : α → α → Bool) (d : α) {ys : List α} (h : ys ≠ []) (x : α) : pickB b d (ys ++ [x]) = if b x (pickB b d ys) then x else pickB b d ys := by
  cases ys with
  | nil => exact absurd rfl h
  | cons s l => show List.foldl _ s (l ++ [x]) = _; rw [List.foldl_append]; rfl
theorem pickB_one (b : α → α → Bool) (d x : α) : pickB b d [x] = x := rfl
theorem take_nee {ys : List α} {k : Nat} (h0 : 0 < k) (h : k ≤ ys.length) : ys.take k ≠ [] := fun e => by
  have := congrArg List.length e
  rw [List.length_take, List.length_nil] at this
  omega
theorem take_one {ys : List α} {k : Nat} {x : α} (h : ys[k]? = some x) : ys.take (k + 1) = ys.take k ++ [x] := by rw [List.take_add_one, h]; rfl
theorem pickB_take (b : α → α → Bool) (d : α) {ys : List α} {k : Nat} {x : α} (h0 : 0 < k) (h : ys[k]? = some x) : pickB b d (ys.take (k + 1)) = if b x (pickB b d (ys.take k)) then x else pickB b d (ys.take k) := by
  have hk : k < ys.length := (List.getElem?_eq_some_iff.1 h).1
  rw [take_one h, pickB_snoc b d (take_nee h0 (by omega))]
theorem pickB_mem (b : α → α → Bool) (d : α) {ys : List α} : ∀ k, 0 < k → k ≤ ys.length → pickB b d (ys.take k) ∈ ys.take k := by
  intro k
  induction k with
  | zero => intro h; omega
  | succ k ih =>
    intro _ hk
    have hx : ys[k]? = some (ys[k]'(by omega)) := List.getElem?_eq_getElem _
    by_cases h0 : k = 0
    · subst h0
      rw [take_one hx]
      simp [pickB]
    · rw [pickB_take b d (by omega) hx, take_one hx]
      split
      · exact List.mem_append_right _ (List.mem_singleton.2 rfl)
      · exact List.mem_append_left _ (ih (by omega) (by omega))
end
end Go.Proofs.Ytodjgeffkfbpiaa
namespace Go.Proofs.Ytodjgeffkfbpiaa
open Go.RowKit
def zeroIntA2 : VIntA2 := ⟨0, 0⟩
set_option maxHeartbeats 6400000 in
set_option maxRecDepth 100000 in
theorem maxFuncIntA2_any (K : FuncId) (caps : Array Value) (cf : VIntA2 → VIntA2 → Int) (a : Option Addr) (len cap : Nat) (ys : List VIntA2) (w : World) (h : IsIntA2S w a len cap ys) (h0 : 0 < len)
    (hcall : ∀ args W, (callFunc K args).run Try.prog W = .ok (.enter K args) W)
    (hf : ∀ W x m, x ∈ ys → m ∈ ys → Below w.heap.size w W → Calls Try.prog K (#[.agg #[.int .i64 x.E0, .int .i64 x.E1], .agg #[.int .i64 m.E0, .int .i64 m.E1]] ++ caps) W fun e w' => e = .returned (.int .i64 (cf x m)) ∧ Below W.heap.size W w') :
    Calls Try.prog 90 #[.slice a len cap, .func (.func K) #[] caps] w fun e w' => (∃ s, s = pickB (fun x m => decide (0 < cf x m)) zeroIntA2 ys ∧ e = .returned (.agg #[.int .i64 s.E0, .int .i64 s.E1])) ∧ Below w.heap.size w w' := by
  have hm := h.2.2.1
  have hcl := h.2.1
  unfold maxLen at hm
  have S := Lib.hid h
  have L := Lib.hid h.1
  have F := Lib.hid hf
  obtain ⟨b, o, rfl, hb0, hat0⟩ := h.at h0
  obtain ⟨s0, hs0⟩ := list_atIntA2 L h0
  have AT := Lib.hid (hat0 0 s0 hs0)
  have X0 := Lib.hid hs0
  have Z0 := Lib.hid ((HBIntA2.new w zeroIntA2 _ rfl).alloc (.cells #[.int .i64 s0.E0, .int .i64 s0.E1] 34))
  have Z1 := Lib.hid (HBIntA2.new (w.alloc (.cells #[.int .i64 zeroIntA2.E0, .int .i64 zeroIntA2.E1] 34)) s0 (w.heap.size + 1) (size_al _ _))
  have B0 := Lib.hid (bel_al2 w (.cells #[.int .i64 zeroIntA2.E0, .int .i64 zeroIntA2.E1] 34) (.cells #[.int .i64 s0.E0, .int .i64 s0.E1] 34))
  obtain ⟨c0, c1⟩ := (AT.out).below (bel_al1 w (.cells #[.int .i64 0, .int .i64 0] 34)) hb0
  have hl1 : ¬ (len : Int) < 1 := by omega
  have hl2 : (0 : Int) < (len : Int) := by omega
  simp only [Nat.zero_mul, Nat.add_zero] at c0 c1
  obtain ⟨P, hP⟩ : ∃ P, (fun x m => decide (0 < cf x m)) = P := ⟨_, rfl⟩
  rw [hP]
  have HP := Lib.hid (show ∀ x m, decide (0 < cf x m) = P x m from fun x m => by rw [← hP])
  clear h hf hat0 hs0 hP
  go_enter Try.func90, Try.ntmps90
  go_wp2
  go_loopw [6] (fun i wr => ∃ k : Nat, 0 < k ∧ k ≤ len ∧ i = .int .i64 k ∧ HBIntA2 wr w.heap.size zeroIntA2 ∧ HBIntA2 wr (w.heap.size + 1) (pickB P zeroIntA2 (ys.take k)) ∧ Below w.heap.size w wr) (fun i _ => len - (intOf i).toNat)
  case atStart => exact ⟨1, by omega, by omega, rfl, Z0.out, by rw [take_one (k := 0) X0.out]; exact Z1.out, B0.out⟩
  case round =>
    obtain ⟨k, hk0, hk, rfl, hz0, hz1, hbel⟩ := hrel
    have BR := Lib.hid hbel
    have H0 := Lib.hid hz0
    have H1 := Lib.hid hz1
    clear c0 c1
    by_cases hlt : k < len
    · obtain ⟨x, hx⟩ := list_atIntA2 L hlt
      obtain ⟨b', o', e', hb, hat⟩ := (S.out.below hbel).at (by omega)
      cases e'
      obtain ⟨c0, c1⟩ := hat k x hx
      have AX := Lib.hid (hat k x hx)
      have hi0 : (0 : Int) ≤ (k : Int) := by omega
      have hi1 : (k : Int) < (len : Int) := by omega
      have PT := Lib.hid (pickB_take P zeroIntA2 hk0 hx)
      have MX := Lib.hid (List.mem_of_getElem? hx)
      have MM := Lib.hid (List.mem_of_mem_take (pickB_mem P zeroIntA2 (ys := ys) k hk0 (by have := L.out; omega)))
      obtain ⟨m, hm⟩ : ∃ m, pickB P zeroIntA2 (ys.take k) = m := ⟨_, rfl⟩
      rw [hm] at H1 PT MM
      obtain ⟨d0, d1⟩ := H1.out.cells
      have PX := Lib.hid (HP.out x m)
      obtain ⟨v, hv⟩ : ∃ v, cf x m = v := ⟨_, rfl⟩
      rw [hv] at PX
      have VV := Lib.hid hv
      clear hbel hz0 hz1 hat hx hm hv
      go_wp2_with fail
      go_still_tail 6, (by kernel_rfl)
      change wpList _ _ _ _ _ wr.drew
      go_wp2_with fail
      refine (F.out wr.drew x m MX.out MM.out (bel_drew' BR.out)).mono ?_
      rintro e w1 ⟨rfl, hb1⟩
      rw [VV.out]
      have B1 := Lib.hid (Below.then' (bel_drew' BR.out) hb1)
      have Y1 := H1.out.drew.below hb1
      have Y0 := Lib.hid (H0.out.drew.below hb1)
      have hbx : Below wr.heap.size wr w1 := Below.then' (bel_drew' (Below.refl _ _)) hb1
      have A1 := Lib.hid (AX.out.below hbx hb)
      have Y2 := Lib.hid Y1
      clear c0 c1 d0 d1 hb1 hbx
      by_cases hvn : 0 < v
      · have PY := Lib.hid (show pickB P zeroIntA2 (ys.take (k + 1)) = x by rw [PT.out, ← PX.out, decide_eq_true hvn]; rfl)
        obtain ⟨c0, c1⟩ := A1.out
        have e0 := Y1.free 0
        have e1 := Y1.free 1
        obtain ⟨f0, f1⟩ := Y1.cells
        clear Y1
        go_wp2
        go_roundw
        case rel => exact ⟨k + 1, by omega, by omega, by go_num, Y0.out.otherAll (by omega) _ _, by rw [PY.out]; exact Y2.out.setAll x, ((B1.out).setCell (by simp) _).setCell (by simp) _⟩
        case measure => simp [intOf]; omega
      · have PY := Lib.hid (show pickB P zeroIntA2 (ys.take (k + 1)) = m by rw [PT.out, ← PX.out, decide_eq_false hvn]; rfl)
        clear Y1
        go_wp2
        go_roundw
        case rel => exact ⟨k + 1, by omega, by omega, by go_num, Y0.out, by rw [PY.out]; exact Y2.out, B1.out⟩
        case measure => simp [intOf]; omega
    · obtain rfl : k = len := by omega
      have E : ys.take k = ys := List.take_of_length_le (by have := L.out; omega)
      rw [E] at H1
      obtain ⟨r, hr⟩ : ∃ r, pickB P zeroIntA2 ys = r := ⟨_, rfl⟩
      rw [hr] at H1
      have R := Lib.hid hr
      clear hbel hz0 hz1 E hr
      obtain ⟨d0, d1⟩ := H1.out.cells
      have ZW := Lib.hid (H0.out.setAll r)
      obtain ⟨z0, z1⟩ := H0.out.cells
      have f0 := H0.out.free 0
      have f1 := H0.out.free 1
      go_wp2
      refine bodyPost_ret (resultsIntA21 rfl rfl ZW.out) rfl ⟨⟨r, R.out.symm, rfl⟩, ?_⟩
      exact ((BR.out).setCell (by simp) _).setCell (by simp) _
end Go.Proofs.Ytodjgeffkfbpiaa
namespace Go.Proofs.Ytodjgeffkfbpiaa
open Go.RowKit

theorem isNaN_any (x : Int) (w : World) : Calls Try.prog 99 #[.int .i64 x] w fun e w' => e = .returned (.bool false) ∧ w = w' := by
  go_enter Try.func99, Try.ntmps99
  go_wp2
  go_ret
  exact ⟨by first | rfl | simp, rfl⟩
set_option maxHeartbeats 800000 in
theorem compare_any (x y : Int) (w : World) : Calls Try.prog 92 #[.int .i64 x, .int .i64 y] w fun e w' => e = .returned (.int .i64 (Lib.compareInt x y)) ∧ w = w' := by
  by_cases h1 : x < y
  · go_enter Try.func92, Try.ntmps92
    go_wp2_with (go_at_call 99; refine (isNaN_any _ _).mono ?_; rintro e w' ⟨rfl, rfl⟩)
    go_ret
    exact ⟨ret_int (by unfold Lib.compareInt; rw [if_pos h1]), rfl⟩
  · by_cases h2 : y < x
    · go_enter Try.func92, Try.ntmps92
      go_wp2_with (go_at_call 99; refine (isNaN_any _ _).mono ?_; rintro e w' ⟨rfl, rfl⟩)
      go_ret
      exact ⟨ret_int (by unfold Lib.compareInt; rw [if_neg (by omega), if_pos (by omega)]), rfl⟩
    · go_enter Try.func92, Try.ntmps92
      go_wp2_with (go_at_call 99; refine (isNaN_any _ _).mono ?_; rintro e w' ⟨rfl, rfl⟩)
      go_ret
      exact ⟨ret_int (by unfold Lib.compareInt; rw [if_neg (by omega), if_neg (by omega)]), rfl⟩
theorem grown2 (w : World) (o1 o2 : Obj) : ∃ os, (w.alloc o1).alloc o2 = Sort.grow w os := ⟨#[o1] ++ #[o2], by rw [Sort.alloc_eq_grow, Sort.alloc_eq_grow, Sort.grow_grow]⟩
end Go.Proofs.Ytodjgeffkfbpiaa
namespace Go.Proofs.Ytodjgeffkfbpiaa
open Go.RowKit
def PitsOf_Post (z0 : List VIntS) (w : World) (e : Ending) (w' : World) : Prop :=
  ∃ v0 : Value, e = .returned (.tuple #[v0, .bool (PitsOf_1 z0)]) ∧ OwnIntA2S w.heap.size w'.heap.size w' v0 (PitsOf_0 z0) ∧ Below w.heap.size w w'
end Go.Proofs.Ytodjgeffkfbpiaa
