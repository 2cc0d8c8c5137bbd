/- The ids of the sheets that stand in a relation to one of them: the program's idsRelatedTo, whatever the relation. -/
import Derived.Test.YtidaoijpbdljbaaRel
import Derived.Test.YtidaoijpbdljbaaShFb
import Derived.Test.YtidaoijpbdljbaaInts
import Derived.OwnWalk
namespace Go.Proofs.Ytidaoijpbdljbaa
open Go.RowKit

def relOk (xs : List Sh) (id : Int) : Bool := areSh xs && decide (0 ≤ idxId xs id)
def relIds (R : Sh → Sh → Bool) (xs : List Sh) (id : Int) : List Int := if relOk xs id = true then (match xs[(idxId xs id).toNat]? with | some x => (xs.filter (R x)).map Sh.id | none => []) else []
theorem rel_ways (R : Sh → Sh → Bool) (xs : List Sh) (id : Int) : (areSh xs = false ∧ relOk xs id = false ∧ relIds R xs id = []) ∨ (areSh xs = true ∧ idxId xs id = -1 ∧ relOk xs id = false ∧ relIds R xs id = []) ∨
    (areSh xs = true ∧ ∃ (i : Nat) (s : Sh), idxId xs id = (i : Int) ∧ xs[i]? = some s ∧ relOk xs id = true ∧ relIds R xs id = (xs.filter (R s)).map Sh.id) := by
  by_cases h : areSh xs = true
  · right
    rcases idxOf_cases (fun s => s.id == id) xs with ⟨h1, _⟩ | ⟨i, s, h1, h2, _⟩
    · have e : relOk xs id = false := by unfold relOk idxId; rw [h, h1]; rfl
      exact .inl ⟨h, h1, e, by unfold relIds; rw [e]; rfl⟩
    · have e : relOk xs id = true := by unfold relOk idxId; rw [h, h1]; simp
      refine .inr ⟨h, i, s, h1, h2, e, ?_⟩
      unfold relIds
      rw [if_pos e, show idxId xs id = (i : Int) from h1, Int.toNat_natCast, h2]
  · have h' : areSh xs = false := by simpa using h
    have e : relOk xs id = false := by unfold relOk; rw [h']; rfl
    exact .inl ⟨h', e, by unfold relIds; rw [e]; rfl⟩
theorem okAt_ok {xs : List Sh} {i : Nat} {s : Sh} (h : okAt xs i = true) (hs : xs[i]? = some s) : s.ok = true := by
  rw [okAt_some hs] at h; simp only [Bool.and_eq_true] at h; exact h.1
theorem areSh_ok {xs : List Sh} (h : areSh xs = true) {s : Sh} (hs : s ∈ xs) : s.ok = true := by
  obtain ⟨i, hi⟩ := List.getElem?_of_mem hs
  exact okAt_ok ((areSh_iff.1 h).2 i (List.getElem?_eq_some_iff.1 hi).1) hi
theorem filter_snoc {xs : List Sh} {k : Nat} {s : Sh} (f : Sh → Bool) (hs : xs[k]? = some s) : (xs.take (k + 1)).filter f = (xs.take k).filter f ++ (if f s = true then [s] else []) := by
  rw [List.take_add_one, hs, List.filter_append]
  simp [List.filter_cons]
theorem filter_len (f : Sh → Bool) (xs : List Sh) (k : Nat) : ((xs.take k).filter f).length ≤ k := Nat.le_trans (List.length_filter_le _ _) (by rw [List.length_take]; omega)
theorem nil_row (w : World) (base : Nat) (e : TypeId) : w.ownsRow base e 1 (.slice none 0 0) ([] : List Int).length (intCells []) := ⟨by simp [intCells], .inl ⟨rfl, rfl⟩⟩
theorem ret_vb {v : Value} {p q : Bool} (k : p = q) : Ending.returned (.tuple #[v, .bool p]) = .returned (.tuple #[v, .bool q]) := by rw [k]

set_option maxHeartbeats 3200000 in
set_option maxRecDepth 100000 in
theorem idsRel1_any (K : FuncId) (R : Sh → Sh → Bool) (a : Option Addr) (len cap : Nat) (xs : List Sh) (i : Nat) (x s : Sh) (b1 b2 b3 : Nat) (w : World) (h : IsSheetS w a len cap xs) (hx : xs[i]? = some x)
    (c1 : w.cell? ⟨b1, 0, none⟩ = some (.func (.func K) #[] #[])) (c2 : w.cell? ⟨b2, 0, none⟩ = some (.slice a len cap)) (c3 : w.cell? ⟨b3, 0, none⟩ = some (.int .i64 (i : Int)))
    (hcall : ∀ args W, (callFunc K args).run Try.prog W = .ok (.enter K args) W)
    (hK : ∀ W, Calls Try.prog K #[.agg #[.int .i64 x.id, .int .i64 x.row, .int .i64 x.col, .int .i64 x.scale, .int .i64 x.year], .agg #[.int .i64 s.id, .int .i64 s.row, .int .i64 s.col, .int .i64 s.scale, .int .i64 s.year]] W fun e w' => e = .returned (.bool (R x s)) ∧ Below W.heap.size W w') :
    Calls Try.prog 91 #[.agg #[.int .i64 s.id, .int .i64 s.row, .int .i64 s.col, .int .i64 s.scale, .int .i64 s.year], .pointer (some ⟨b1, 0, none⟩), .pointer (some ⟨b2, 0, none⟩), .pointer (some ⟨b3, 0, none⟩)] w
      fun e w' => e = .returned (.bool (R x s)) ∧ Below w.heap.size w w' := by
  have hil := (List.getElem?_eq_some_iff.1 hx).1
  have hl := h.1
  have hm := h.2.2.1
  have hcl := h.2.1
  unfold maxLen at hm
  obtain ⟨b, o, rfl, hb, hat⟩ := h.at (by omega)
  have AX := Lib.hid (hat i x hx)
  have C1 := Lib.hid c1
  have C2 := Lib.hid c2
  have C3 := Lib.hid c3
  have HC := Lib.hid hcall
  obtain ⟨r, hr⟩ : ∃ r, R x s = r := ⟨_, rfl⟩
  rw [hr] at hK ⊢
  have HK := Lib.hid hK
  have i0 : (0 : Int) ≤ (i : Int) := by omega
  have i1 : (i : Int) < (len : Int) := by omega
  clear h hx hat c1 c2 c3 hcall hK hr hl
  go_enter Try.func91, Try.ntmps91
  go_wp2
  refine wp_world (fun W => BoxAt W w.heap.size s ∧ Below w.heap.size w W) ⟨boxAt_new _ _ _ _ rfl, bel_alloc1 _ _⟩ ?_
  rintro W ⟨hbox, hbw⟩
  have BW := Lib.hid hbw
  obtain ⟨e0, e1, e2, e3, e4⟩ := hbox
  obtain ⟨g0, g1, g2, g3, g4⟩ := AX.out.below hbw hb
  have q1 := cell_regrown (cell_stay C1.out hbw)
  have q2 := cell_regrown (cell_stay C2.out hbw)
  have q3 := cell_regrown (cell_stay C3.out hbw)
  have k0 := cell_regrown e0
  have k1 := cell_regrown e1
  have k2 := cell_regrown e2
  have k3 := cell_regrown e3
  have k4 := cell_regrown e4
  have m0 := cell_regrown g0
  have m1 := cell_regrown g1
  have m2 := cell_regrown g2
  have m3 := cell_regrown g3
  have m4 := cell_regrown g4
  have cR := below_at (W := W) (fun W' _ => HK.out W')
  have hcall := HC.out
  clear e0 e1 e2 e3 e4 g0 g1 g2 g3 g4 hbw
  refine wp_region_quiet_below (by kernel_rfl) (by kernel_rfl) ?_
  repeat (first | go_big_quiet_step (with_reducible exact cR _ _) | quiet_step (with_reducible exact cR _ _))
  refine wpQuiet_nil ?_
  intro W2 hw2
  have B2 := Lib.hid (Below.then' BW.out (below_of_re hw2))
  clear hw2 cR hcall q1 q2 q3 k0 k1 k2 k3 k4 m0 m1 m2 m3 m4
  go_wp2
  go_ret
  exact ⟨rfl, B2.out⟩

set_option maxHeartbeats 3200000 in
set_option maxRecDepth 100000 in
theorem idsRelatedTo_any (K : FuncId) (R : Sh → Sh → Bool) (a : Option Addr) (len cap : Nat) (xs : List Sh) (id : Int) (w : World) (h : IsSheetS w a len cap xs)
    (hcall : ∀ args W, (callFunc K args).run Try.prog W = .ok (.enter K args) W)
    (hK : ∀ a b W, a.ok = true → b.ok = true → Calls Try.prog K #[.agg #[.int .i64 a.id, .int .i64 a.row, .int .i64 a.col, .int .i64 a.scale, .int .i64 a.year], .agg #[.int .i64 b.id, .int .i64 b.row, .int .i64 b.col, .int .i64 b.scale, .int .i64 b.year]] W fun e w' => e = .returned (.bool (R a b)) ∧ Below W.heap.size W w') :
    Calls Try.prog 53 #[.slice a len cap, .int .i64 id, .func (.func K) #[] #[]] w (IntsOk (relIds R xs id) (relOk xs id) w) := by
  have b2 := bel_al2 w (.cells #[.slice a len cap] 24) (.cells #[.func (.func K) #[] #[]] 68)
  have S := Lib.hid (h.below b2)
  have C1 := Lib.hid (cell_stay (cell_box w (.slice a len cap) 24 _ rfl) (bel_al1 (w.alloc (.cells #[.slice a len cap] 24)) (.cells #[.func (.func K) #[] #[]] 68)))
  have C2 := Lib.hid (cell_box (w.alloc (.cells #[.slice a len cap] 24)) (.func (.func K) #[] #[]) 68 (w.heap.size + 1) (by simp))
  have B0 := Lib.hid b2
  have HK := Lib.hid hK
  have HC := Lib.hid hcall
  have L := Lib.hid h.1
  obtain ⟨q, hq⟩ : ∃ q, areSh xs = q := ⟨_, rfl⟩
  have Q := Lib.hid hq
  clear h hK hcall b2 hq
  have c1 := C1.out
  go_enter Try.func53, Try.ntmps53
  go_wp2_with fail
  refine (findBySh_any 32 69 (areSh xs) Sh.id _ _ _ xs id _ S.out (enters_fn Try.func32 (by kernel_rfl) (by kernel_rfl)) (enters_fn Try.func69 (by kernel_rfl) (by kernel_rfl)) (fun W hW => implAreSheets_any _ _ _ xs W hW) (fun W s => sheetId_any s W)).mono ?_
  rintro e w2 ⟨y, rfl, hy, hb⟩
  have b3 := bel_al1 w2 (.cells #[.int .i64 y] 3)
  have B2 := Lib.hid (Below.then' B0.out (Below.then' hb b3))
  have S2 := Lib.hid ((S.out.below hb).below b3)
  have E1 := Lib.hid (cell_stay (cell_stay C1.out hb) b3)
  have E2 := Lib.hid (cell_stay (cell_stay C2.out hb) b3)
  have E3 := Lib.hid (cell_box w2 (.int .i64 y) 3 _ rfl)
  have HY := Lib.hid hy
  rw [Q.out]
  clear hb b3 c1 hy
  have e1 := E1.out
  have W := Lib.hid (rel_ways R xs id)
  cases q
  · have V : relOk xs id = false ∧ relIds R xs id = [] := by
      rcases W.out with ⟨_, h3, h4⟩ | ⟨h1, _⟩ | ⟨h1, _⟩
      · exact ⟨h3, h4⟩
      · rw [Q.out] at h1; cases h1
      · rw [Q.out] at h1; cases h1
    have V := Lib.hid V
    go_wp2
    go_ret2
    exact ⟨_, ret_vb V.out.1.symm, by rw [V.out.2]; exact nil_row _ _ _, B2.out⟩
  have Y := Lib.hid (show idxId xs id = y from (idx_first _ xs).trans (HY.out Q.out).symm)
  have YF := Lib.hid (HY.out Q.out)
  rw [← YF.out]
  by_cases hneg : y < 0
  · have V : relOk xs id = false ∧ relIds R xs id = [] := by
      rcases W.out with ⟨_, h3, h4⟩ | ⟨_, _, h3, h4⟩ | ⟨_, i, s, h2, _⟩
      · exact ⟨h3, h4⟩
      · exact ⟨h3, h4⟩
      · rw [Y.out] at h2; omega
    have V := Lib.hid V
    have hneg2 : decide (0 ≤ y) = false := decide_eq_false (by omega)
    rw [hneg2]
    go_wp2
    go_ret2
    exact ⟨_, ret_vb V.out.1.symm, by rw [V.out.2]; exact nil_row _ _ _, B2.out⟩
  · have V : ∃ (i : Nat) (s : Sh), y = (i : Int) ∧ xs[i]? = some s ∧ relOk xs id = true ∧ relIds R xs id = (xs.filter (R s)).map Sh.id := by
      rcases W.out with ⟨h1, _⟩ | ⟨_, h2, _⟩ | ⟨_, i, s, h2, h3, h4, h5⟩
      · rw [Q.out] at h1; cases h1
      · rw [Y.out] at h2; omega
      · exact ⟨i, s, by rw [← Y.out, h2], h3, h4, h5⟩
    obtain ⟨i, x, rfl, hx, V1, V2⟩ := V
    rw [show decide ((0 : Int) ≤ (i : Int)) = true from decide_eq_true (by omega)]
    have V1 := Lib.hid V1
    have V2 := Lib.hid V2
    have HX := Lib.hid hx
    have OKX := Lib.hid (areSh_ok Q.out (List.mem_of_getElem? hx))
    have l12 : xs.length ≤ 12 := (areSh_iff.1 Q.out).1
    clear hx
    go_wp2_with fail
    refine (idsWhereSh_any 69 91 Sh.id #[.pointer (some ⟨w.heap.size + 1, 0, none⟩), .pointer (some ⟨w.heap.size, 0, none⟩), .pointer (some ⟨w2.heap.size, 0, none⟩)] (R x) _ _ _ xs _ S2.out (by omega) (enters_fn Try.func69 (by kernel_rfl) (by kernel_rfl)) (enters_fn Try.func91 (by kernel_rfl) (by kernel_rfl)) (fun W s => sheetId_any s W) (fun W s hs hW => by
      have h1 := idsRel1_any K R _ _ _ xs i x s (w.heap.size + 1) w.heap.size w2.heap.size W (S2.out.below hW) HX.out (cell_stay E2.out hW) (cell_stay E1.out hW) (cell_stay E3.out hW) HC.out (fun W' => HK.out x s W' OKX.out (areSh_ok Q.out hs))
      simpa using h1)).mono ?_
    rintro e w3 ⟨v, rfl, hown, hb⟩
    have B3 := Lib.hid (Below.then' B2.out hb)
    have O := Lib.hid (ownsRow_base hown B2.out.size)
    clear hb hown e1
    go_wp2
    go_ret2
    exact ⟨v, ret_vb V1.out.symm, by rw [V2.out]; exact O.out, B3.out⟩

set_option maxHeartbeats 1600000 in
theorem implNeighborsOf_any (a : Option Addr) (len cap : Nat) (xs : List Sh) (id : Int) (w : World) (h : IsSheetS w a len cap xs) :
    Calls Try.prog 16 #[.slice a len cap, .int .i64 id] w (IntsOk (relIds nbB xs id) (relOk xs id) w) := by
  have S := Lib.hid h
  clear h
  go_enter Try.func16, Try.ntmps16
  go_wp2_with fail
  refine (idsRelatedTo_any 54 nbB a len cap xs id _ S.out (call_of Try.func54 (by kernel_rfl) (by kernel_rfl)) (fun a b W ha hb => areNeighbors_any a b W ha hb)).mono ?_
  rintro e w1 ⟨v, rfl, hown, hb⟩
  have O := Lib.hid hown
  have B := Lib.hid hb
  clear hown hb
  go_wp2
  go_ret2
  exact ⟨_, rfl, O.out, B.out⟩

set_option maxHeartbeats 1600000 in
theorem implShowsOverview_any (a : Option Addr) (len cap : Nat) (xs : List Sh) (id : Int) (w : World) (h : IsSheetS w a len cap xs) :
    Calls Try.prog 24 #[.slice a len cap, .int .i64 id] w (IntsOk (relIds ovB xs id) (relOk xs id) w) := by
  have S := Lib.hid h
  clear h
  go_enter Try.func24, Try.ntmps24
  go_wp2_with fail
  refine (idsRelatedTo_any 63 ovB a len cap xs id _ S.out (call_of Try.func63 (by kernel_rfl) (by kernel_rfl)) (fun a b W ha hb => beginsOn_any a b W ha hb)).mono ?_
  rintro e w1 ⟨v, rfl, hown, hb⟩
  have O := Lib.hid hown
  have B := Lib.hid hb
  clear hown hb
  go_wp2
  go_ret2
  exact ⟨_, rfl, O.out, B.out⟩
end Go.Proofs.Ytidaoijpbdljbaa
