/- The library's IndexFunc and DeleteFunc at rows of [2]int. (made by gendel.py) -/
import Derived.Test.YtodjgeffkfbpiaaIntA2T
import Derived.Test.YtodjgeffkfbpiaaSw
import Derived.Test.YtodjgeffkfbpiaaWh
import Derived.Test.YtodjgeffkfbpiaaSpl
import Derived.Lib.SliceRun
namespace Go.Proofs.Ytodjgeffkfbpiaa
open Go.RowKit
set_option maxHeartbeats 1600000 in
set_option maxRecDepth 100000 in
/-- The index of the first element that a function value likes. -/
theorem ixfIntA2_any (K : FuncId) (caps : Array Value) (f : VIntA2 → Bool) (a : Option Addr) (len cap : Nat) (xs : List VIntA2) (w : World) (h : IsIntA2S w a len cap xs)
    (hcall : ∀ args W, (callFunc K args).run Try.prog W = .ok (.enter K args) W)
    (hf : ∀ W s, s ∈ xs → Below w.heap.size w W → Calls Try.prog K (#[.agg #[.int .i64 s.E0, .int .i64 s.E1]] ++ caps) W fun e w' => e = .returned (.bool (f s)) ∧ Below W.heap.size W w') :
    Calls Try.prog 88 #[.slice a len cap, .func (.func K) #[] caps] w fun e w' => e = .returned (.int .i64 (firstOf f xs)) ∧ Below w.heap.size w w' := by
  have hm := h.2.2.1
  have hcl := h.2.1
  unfold maxLen at hm
  have S := Lib.hid h
  have L := Lib.hid h.1
  have F := Lib.hid hf
  clear h hf
  go_enter Try.func88, Try.ntmps88
  go_wp2
  go_loopw [8, 5] (fun i _ wr => ∃ k : Nat, k ≤ len ∧ i = .int .i64 k ∧ Below w.heap.size w wr ∧ ∀ (j : Nat) t, j < k → xs[j]? = some t → f t = false) (fun i _ _ => len - (intOf i).toNat)
  case atStart => exact ⟨0, Nat.zero_le _, rfl, Below.refl _ _, by omega⟩
  case round =>
    obtain ⟨k, hk, rfl, hbel, hall⟩ := hrel
    have A := Lib.hid hall
    have B := Lib.hid hbel
    clear hall
    by_cases hlt : k < len
    · obtain ⟨s, hs⟩ := el_at L hlt
      obtain ⟨b, o, rfl, hb, hat⟩ := (S.out.below hbel).at (by omega)
      obtain ⟨c0, c1⟩ := hat k s hs
      have X := Lib.hid hs
      have hi0 : (0 : Int) ≤ (k : Int) := by omega
      have hi1 : (k : Int) < (len : Int) := by omega
      clear hs hat hbel
      go_wp2_with fail
      refine (F.out wr s (List.mem_of_getElem? X.out) B.out).mono ?_
      rintro e w1 ⟨rfl, hb1⟩
      have B1 := Lib.hid (Below.then' B.out hb1)
      clear hb1
      by_cases hfs : f s = true
      · have FS := Lib.hid hfs
        rw [hfs]
        clear hfs
        go_wp2
        go_ret
        exact ⟨ret_int (firstOf_at X.out FS.out A.out).symm, B1.out⟩
      · have hfs' : f s = false := by simpa using hfs
        have FS := Lib.hid hfs'
        rw [hfs']
        clear hfs hfs'
        go_wp2
        go_roundw
        case rel => exact ⟨k + 1, by omega, by go_num, B1.out, fun j t hj ht => by
          by_cases e : j = k
          · subst e; rw [X.out] at ht; cases ht; exact FS.out
          · exact A.out j t (by omega) ht⟩
        case measure => simp [intOf]; omega
    · obtain rfl : k = len := by omega
      clear hbel
      go_wp2
      go_ret
      exact ⟨ret_int (firstOf_no fun j t hj ht => A.out j t (by have := L.out; omega) ht).symm, B.out⟩
/-- clear, at a row. -/
theorem clearIntA2 (P : Program) (w : World) (t e ty : TypeId) (ht : P.underlying t = some (.slice e)) (hv : ∀ w, (zeroValue e).run P w = .ok (.agg #[.int .i64 0, .int .i64 0]) w) (b o m c : Nat) (hm : 0 < m)
    (hc : ∀ j, j < m * 2 → (w.cell? ⟨b, o + j, none⟩).isSome = true) (hf : ∀ j, j < m * 2 → w.frozen? ⟨b, o + j, none⟩ = false) :
    (Builtin.clear_ #[t] ty #[.slice (some ⟨b, o, none⟩) m c]).run P w = .ok (.tuple #[]) (w.setCells b o (List.replicate (m * 2) (.int .i64 0))) := by
  have hzc : (Builtin.zeroCells (.agg #[.int .i64 0, .int .i64 0] : Value).cells m).toList = List.replicate (m * 2) (.int .i64 0) := by
    apply List.ext_getElem
    · simp [Builtin.zeroCells, Value.cells]
    · intro i h1 h2
      simp only [List.length_replicate] at h2
      simp [Builtin.zeroCells, Value.cells]
      have h3 : i % 2 < 2 := Nat.mod_lt _ (by decide)
      rcases (show i % 2 = 0 ∨ i % 2 = 1 by omega) with h | h <;> simp [h]
  have hst := run_storeCells_cells (P := P) b o (List.replicate (m * 2) (.int .i64 0)) 0 w (by simpa using hc) (by simpa using hf) (by intro v hv'; rw [List.eq_of_mem_replicate hv']; rfl)
  simp only [Nat.add_zero] at hst
  obtain ⟨k, rfl⟩ : ∃ k, m = k + 1 := ⟨m - 1, by omega⟩
  simp [Builtin.clear_, run_underlying ht, hv, hzc, hst]
theorem own_zerosIntA2 {w : World} {base g c i : Nat} {ys : List VIntA2} (h : w.ownsRow base 34 2 (.slice (some ⟨g, 0, none⟩) ys.length c) ys.length (cellsIntA2 ys)) (hi : i ≤ ys.length) :
    (w.setCells g (i * 2) (List.replicate ((ys.length - i) * 2) (.int .i64 0))).ownsRow base 34 2 (.slice (some ⟨g, 0, none⟩) i c) i (cellsIntA2 (ys.take i)) ∧ w.grownBy (w.setCells g (i * 2) (List.replicate ((ys.length - i) * 2) (.int .i64 0))) (some g) := by
  have h1 := own_setCells (List.replicate ((ys.length - i) * 2) (.int .i64 0)) _ (i * 2) _ h
  refine ⟨?_, h1.2⟩
  have e0 : i * 2 + (ys.length - i) * 2 = ys.length * 2 := by rw [← Nat.add_mul]; congr 1; omega
  have e1 : (cellsIntA2 ys).take (i * 2) = cellsIntA2 (ys.take i) := by
    have := cellsIntA2_take ys i
    rw [this, List.take_append_of_le_length (by rw [cellsIntA2_len, List.length_take]; omega), List.take_of_length_le (by rw [cellsIntA2_len, List.length_take]; omega)]
  have e2 : ∀ k, List.replicate (k * 2) (.int .i64 0) = cellsIntA2 (List.replicate k ⟨0, 0⟩) := by
    intro k
    induction k with
    | zero => simp [cellsIntA2]
    | succ k ih => rw [List.replicate_succ, show cellsIntA2 (⟨0, 0⟩ :: List.replicate k ⟨0, 0⟩) = VIntA2.vals ⟨0, 0⟩ ++ cellsIntA2 (List.replicate k ⟨0, 0⟩) from rfl, ← ih, show (k + 1) * 2 = k * 2 + 1 + 1 by omega]; simp [List.replicate_succ, VIntA2.vals]
  obtain ⟨zs, hz⟩ : ∃ zs, ys.take i ++ List.replicate (ys.length - i) (⟨0, 0⟩ : VIntA2) = zs := ⟨_, rfl⟩
  have hc : setL (cellsIntA2 ys) (i * 2) (List.replicate ((ys.length - i) * 2) (.int .i64 0)) = cellsIntA2 zs := by
    rw [setL_eq _ _ _ (by rw [List.length_replicate, cellsIntA2_len]; omega), List.length_replicate, e0, List.drop_of_length_le (by rw [cellsIntA2_len]; exact Nat.le_refl _), List.append_nil, e1, e2, ← cellsIntA2_append, hz]
  have hlen : zs.length = ys.length := by rw [← hz, List.length_append, List.length_take, List.length_replicate]; omega
  have h2 := h1.1
  rw [hc] at h2
  have h3 := take_ownIntA2 (xs := zs) (k := i) (by rw [hlen]; exact h2) (by rw [hlen]; exact hi)
  have ht : zs.take i = ys.take i := by rw [← hz, List.take_append_of_le_length (by rw [List.length_take]; omega), List.take_of_length_le (by rw [List.length_take]; omega)]
  rwa [ht] at h3
theorem take_filterIntA2 {f : VIntA2 → Bool} {xs : List VIntA2} {j : Nat} {x : VIntA2} (h : xs[j]? = some x) : (xs.take (j + 1)).filter f = (xs.take j).filter f ++ (if f x = true then [x] else []) := filter_snoc' f h
theorem zeroIntA2_run (w : World) : (zeroValue 34).run Try.prog w = .ok (.agg #[.int .i64 0, .int .i64 0]) w := by kernel_rfl
set_option maxHeartbeats 6400000 in
set_option maxRecDepth 100000 in
theorem delIntA2_any (K : FuncId) (caps : Array Value) (f : VIntA2 → Bool) (base g c : Nat) (xs : List VIntA2) (w : World) (h : w.ownsRow base 34 2 (.slice (some ⟨g, 0, none⟩) xs.length c) xs.length (cellsIntA2 xs)) (hbase : base ≤ w.heap.size)
    (hcall : ∀ args W, (callFunc K args).run Try.prog W = .ok (.enter K args) W)
    (hf : ∀ W s, s ∈ xs → Below base w W → Calls Try.prog K (#[.agg #[.int .i64 s.E0, .int .i64 s.E1]] ++ caps) W fun e w' => e = .returned (.bool (f s)) ∧ Below W.heap.size W w') :
    Calls Try.prog 61 #[.slice (some ⟨g, 0, none⟩) xs.length c, .func (.func K) #[] caps] w fun e w' =>
      e = .returned (.slice (some ⟨g, 0, none⟩) (xs.filter fun s => !f s).length c) ∧ w'.ownsRow base 34 2 (.slice (some ⟨g, 0, none⟩) (xs.filter fun s => !f s).length c) (xs.filter fun s => !f s).length (cellsIntA2 (xs.filter fun s => !f s)) ∧ Below base w w' := by
  obtain ⟨a', c', e', hi', _⟩ := isIntA2S_own h
  simp only [Value.slice.injEq] at e'
  obtain ⟨rfl, _, rfl⟩ := e'
  have hm := hi'.2.2.1
  have hcl := hi'.2.1
  unfold maxLen at hm
  have hgb := (h.lt g rfl).1
  have S := Lib.hid hi'
  have O0 := Lib.hid h
  have F := Lib.hid hf
  have HB := Lib.hid hbase
  have HC := Lib.hid hcall
  clear h hi' hf hbase hcall
  go_enter Try.func61, Try.ntmps61
  go_wp2_with fail
  refine (ixfIntA2_any K caps f _ _ _ xs _ S.out HC.out (fun W s hs hW => F.out W s hs (hW.mono HB.out))).mono ?_
  rintro e w1 ⟨rfl, hb⟩
  have B1 := Lib.hid (hb.mono HB.out)
  have O1 := Lib.hid (ownsRow_below O0.out hb)
  have hs1 := hb.size
  clear hb
  rcases firstOf_cases f xs with ⟨h1, h2⟩ | ⟨i, s, h1, h2, h3, h4⟩
  · have E := Lib.hid (show (xs.filter fun s => !f s) = xs from List.filter_eq_self.2 (fun s hs => by rw [h2 s hs]; rfl))
    rw [h1]
    clear h1 h2
    go_wp2
    go_ret
    exact ⟨by rw [E.out]; rfl, by rw [E.out]; exact O1.out, B1.out⟩
  · have hil := (List.getElem?_eq_some_iff.1 h2).1
    have N0 := Lib.hid (show xs.take i = (xs.take (i + 1)).filter (fun s => !f s) from by
      rw [filter_snoc' _ h2, h3]
      simp only [Bool.not_true, if_neg (show ¬ false = true by simp), List.append_nil]
      refine (List.filter_eq_self.2 fun t ht => ?_).symm
      obtain ⟨j, hj⟩ := List.getElem?_of_mem ht
      have hjl := (List.getElem?_eq_some_iff.1 hj).1
      rw [List.length_take] at hjl
      rw [List.getElem?_take_of_lt (by omega)] at hj
      rw [h4 j t (by omega) hj]; rfl)
    rw [h1]
    have hne : ((i : Int) == -1) = false := beq_eq_false_iff_ne.2 (by omega)
    have hne2 : ¬ (i : Int) = -1 := by omega
    clear h1 h2 h3 h4
    go_wp2
    clear hne hne2
    go_loopw [6, 5] (fun jv iv wr => ∃ (j i : Nat) (ys : List VIntA2), i < j ∧ j ≤ xs.length ∧ jv = .int .i64 j ∧ iv = .int .i64 i ∧ ys.length = xs.length ∧ ys.take i = (xs.take j).filter (fun s => !f s) ∧ ys.drop j = xs.drop j ∧ wr.ownsRow base 34 2 (.slice (some ⟨g, 0, none⟩) xs.length c) xs.length (cellsIntA2 ys) ∧ Below base w wr ∧ base ≤ wr.heap.size) (fun jv _ _ => xs.length - (intOf jv).toNat)
    case atStart => exact ⟨i + 1, i, xs, by omega, by omega, by go_num, rfl, rfl, N0.out, rfl, O1.out, B1.out, Nat.le_trans HB.out hs1⟩
    case round =>
      obtain ⟨j, i, ys, hij, hj, rfl, rfl, hyl, hyt, hyd, hown, hbel, hbs⟩ := hrel
      have YL := Lib.hid hyl
      have YT := Lib.hid hyt
      have YD := Lib.hid hyd
      have O := Lib.hid hown
      have B := Lib.hid hbel
      have hx0 : (0 : Int) ≤ (j : Int) := by omega
      by_cases hlt : j < xs.length
      · obtain ⟨x, hx⟩ : ∃ x, xs[j]? = some x := ⟨xs[j]'hlt, List.getElem?_eq_getElem _⟩
        have hyx : ys[j]? = some x := by
          have := congrArg (fun l : List VIntA2 => l[0]?) YD.out
          simp only [List.getElem?_drop, Nat.add_zero] at this
          rw [this, hx]
        have hx1 : (j : Int) < (xs.length : Int) := by omega
        rw [← hyl] at hown
        obtain ⟨a2, c2, e2, hi2, _⟩ := isIntA2S_own hown
        simp only [Value.slice.injEq] at e2
        obtain ⟨rfl, _, rfl⟩ := e2
        obtain ⟨b3, o3, e3, hb3, hat⟩ := hi2.at (by omega)
        cases e3
        obtain ⟨c0, c1⟩ := hat j x hyx
        simp only [Nat.zero_add] at c0 c1
        have X := Lib.hid hx
        have FS := Lib.hid (filter_snoc' (fun s => !f s) hx)
        obtain ⟨r, hr⟩ : ∃ r, f x = r := ⟨_, rfl⟩
        have RR := Lib.hid hr
        have BW := Lib.hid (bel_al1 wr (.cells #[.int .i64 x.E0, .int .i64 x.E1] 34))
        have BX := Lib.hid (BoxIntA2.new wr 34 x _ rfl)
        have hcall := HC.out
        clear hx hyx hi2 hat hown hbel hr hyl hyt hyd
        go_wp2_with fail
        refine (F.out _ x (List.mem_of_getElem? X.out) (B.out.trans (BW.out.mono hbs))).mono ?_
        rintro e w2 ⟨rfl, hb⟩
        rw [RR.out]
        have hb' := Below.then' BW.out hb
        have B2 := Lib.hid (B.out.trans (hb'.mono hbs))
        have O2 := Lib.hid (ownsRow_below O.out hb')
        have BX2 := Lib.hid (BX.out.below hb)
        have hs2 : base ≤ w2.heap.size := Nat.le_trans hbs hb'.size
        clear hb hb' c0 c1 hcall
        cases r
        · obtain ⟨e0, e1⟩ := BX2.out
          have O := O2
          obtain ⟨u0, d0⟩ := own_cell O.out (i * 2) (by rw [cellsIntA2_len, YL.out]; omega)
          obtain ⟨u1, d1⟩ := own_cell O.out (i * 2 + 1) (by rw [cellsIntA2_len, YL.out]; omega)
          have fz0 := O.out.frozenAt (i * 2)
          have fz1 := O.out.frozenAt (i * 2 + 1)
          have hi0 : (0 : Int) ≤ (i : Int) := by omega
          have hi1 : (i : Int) < (xs.length : Int) := by omega
          have SET := Lib.hid (own_setIntA2 (i := i) O2.out (by rw [YL.out]; omega) x)
          go_wp2
          go_roundw
          case rel =>
            refine ⟨j + 1, i + 1, ys.set i x, by omega, by omega, by go_num, by go_num, by rw [List.length_set]; exact YL.out, ?_, ?_, SET.out.1, B2.out.grown SET.out.2 hs2 (fun k e => by cases e; exact hgb), Nat.le_trans hs2 SET.out.2.size⟩
            · rw [FS.out, RR.out, ← YT.out, List.take_add_one, List.take_set, List.set_eq_of_length_le (by rw [List.length_take]; omega), List.getElem?_set_self (by rw [YL.out]; omega)]
              rfl
            · rw [List.drop_set, if_pos (by omega), ← List.drop_drop, YD.out, List.drop_drop]
          case measure => simp [intOf]; omega
        · go_wp2
          go_roundw
          case rel => exact ⟨j + 1, i, ys, by omega, by omega, by go_num, rfl, YL.out, by rw [FS.out, RR.out]; simpa using YT.out, by rw [← List.drop_drop, YD.out, List.drop_drop], O2.out, B2.out, hs2⟩
          case measure => simp [intOf]; omega
      · obtain rfl : j = xs.length := by omega
        have hY : ys.take i = xs.filter (fun s => !f s) := by rw [YT.out, List.take_of_length_le (Nat.le_refl _)]
        have hl : i = (xs.filter (fun s => !f s)).length := by rw [← hY, List.length_take, YL.out]; omega
        have E := Lib.hid hY
        have HLN := Lib.hid hl
        have Z := own_zerosIntA2 (i := i) (by rw [YL.out]; exact O.out) (by rw [YL.out]; omega)
        rw [YL.out] at Z
        have ZZ := Lib.hid Z
        have hcells : ∀ q, q < (xs.length - i) * 2 → (wr.cell? ⟨g, i * 2 + q, none⟩).isSome = true ∧ wr.frozen? ⟨g, i * 2 + q, none⟩ = false := fun q hq => by
          have hq2 : i * 2 + q < (cellsIntA2 ys).length := by
            rw [cellsIntA2_len, YL.out]
            have := Nat.mul_le_mul_right 2 (show i ≤ xs.length by omega)
            have e0 : (xs.length - i) * 2 = xs.length * 2 - i * 2 := Nat.sub_mul _ _ _
            omega
          obtain ⟨u, d⟩ := own_cell O.out (i * 2 + q) hq2
          exact ⟨by rw [d]; rfl, O.out.frozenAt (i * 2 + q)⟩
        have hclr : ∀ ty, (Builtin.clear_ #[27] ty #[.slice (some ⟨g, i * 2, none⟩) (xs.length - i) (c - i)]).run Try.prog wr = .ok (.tuple #[]) (wr.setCells g (i * 2) (List.replicate ((xs.length - i) * 2) (.int .i64 0))) :=
          fun ty => clearIntA2 Try.prog wr _ _ ty Try.underlying27 zeroIntA2_run g (i * 2) _ _ (by omega) (fun q hq => (hcells q hq).1) (fun q hq => (hcells q hq).2)
        have hci : ¬ c = i := by omega
        have hci2 : ¬ i = c := by omega
        have hi0 : (0 : Int) ≤ (i : Int) := by omega
        have hi1 : (i : Int) ≤ (xs.length : Int) := by omega
        have hi2 : (i : Int) ≤ (c : Int) := by omega
        have hlc : (xs.length : Int) ≤ (c : Int) := by omega
        clear hown hbel Z hcells hl hY hyl hyt hyd
        go_wp2
        go_ret
        have h1 := ZZ.out.1
        rw [E.out, HLN.out] at h1
        refine ⟨by rw [← HLN.out]; rfl, ?_, B.out.grown (by rw [← HLN.out] at *; exact ZZ.out.2) hbs (fun k e => by cases e; exact hgb)⟩
        have h2 := ZZ.out.1
        rw [E.out] at h2
        rw [← HLN.out]
        exact h2
end Go.Proofs.Ytodjgeffkfbpiaa
