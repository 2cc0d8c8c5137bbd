/- The ids of the sheets that stand in a relation to one of them: the program's idsRelatedTo, whatever the relation. -/
import Derived.Test.YtkdlalknlihgcaaRel
import Derived.Test.YtkdlalknlihgcaaInts
import Derived.OwnWalk
namespace Go.Proofs.Ytkdlalknlihgcaa
open Go.RowKit

def relOk (xs : List Sh) (id : Int) : Bool := areSh xs && decide (0 ≤ idxId xs id)
def relIds (R : Sh → Sh → Bool) (xs : List Sh) (id : Int) : List Int := if relOk xs id = true then (match xs[(idxId xs id).toNat]? with | some x => (xs.filter (R x)).map Sh.id | none => []) else []
theorem rel_ways (R : Sh → Sh → Bool) (xs : List Sh) (id : Int) : (areSh xs = false ∧ relOk xs id = false ∧ relIds R xs id = []) ∨ (areSh xs = true ∧ idxId xs id = -1 ∧ relOk xs id = false ∧ relIds R xs id = []) ∨
    (areSh xs = true ∧ ∃ (i : Nat) (s : Sh), idxId xs id = (i : Int) ∧ xs[i]? = some s ∧ relOk xs id = true ∧ relIds R xs id = (xs.filter (R s)).map Sh.id) := by
  by_cases h : areSh xs = true
  · right
    rcases idxOf_cases (fun s => s.id == id) xs with ⟨h1, _⟩ | ⟨i, s, h1, h2, _⟩
    · have e : relOk xs id = false := by unfold relOk idxId; rw [h, h1]; rfl
      exact .inl ⟨h, h1, e, by unfold relIds; rw [e]; rfl⟩
    · have e : relOk xs id = true := by unfold relOk idxId; rw [h, h1]; simp
      refine .inr ⟨h, i, s, h1, h2, e, ?_⟩
      unfold relIds
      rw [if_pos e, show idxId xs id = (i : Int) from h1, Int.toNat_natCast, h2]
  · have h' : areSh xs = false := by simpa using h
    have e : relOk xs id = false := by unfold relOk; rw [h']; rfl
    exact .inl ⟨h', e, by unfold relIds; rw [e]; rfl⟩
theorem okAt_ok {xs : List Sh} {i : Nat} {s : Sh} (h : okAt xs i = true) (hs : xs[i]? = some s) : s.ok = true := by
  rw [okAt_some hs] at h; simp only [Bool.and_eq_true] at h; exact h.1
theorem areSh_ok {xs : List Sh} (h : areSh xs = true) {s : Sh} (hs : s ∈ xs) : s.ok = true := by
  obtain ⟨i, hi⟩ := List.getElem?_of_mem hs
  exact okAt_ok ((areSh_iff.1 h).2 i (List.getElem?_eq_some_iff.1 hi).1) hi
theorem filter_snoc {xs : List Sh} {k : Nat} {s : Sh} (f : Sh → Bool) (hs : xs[k]? = some s) : (xs.take (k + 1)).filter f = (xs.take k).filter f ++ (if f s = true then [s] else []) := by
  rw [List.take_add_one, hs, List.filter_append]
  simp [List.filter_cons]
theorem filter_len (f : Sh → Bool) (xs : List Sh) (k : Nat) : ((xs.take k).filter f).length ≤ k := Nat.le_trans (List.length_filter_le _ _) (by rw [List.length_take]; omega)
theorem nil_row (w : World) (base : Nat) (e : TypeId) : w.ownsRow base e 1 (.slice none 0 0) ([] : List Int).length (intCells []) := ⟨by simp [intCells], .inl ⟨rfl, rfl⟩⟩
theorem ret_vb {v : Value} {p q : Bool} (k : p = q) : Ending.returned (.tuple #[v, .bool p]) = .returned (.tuple #[v, .bool q]) := by rw [k]

set_option maxHeartbeats 1600000 in
set_option maxRecDepth 100000 in
theorem idsRel1_any (s : Sh) (id : Int) (b1 : Nat) (w : World) (h1 : w.cell? ⟨b1, 0, none⟩ = some (.int .i64 id)) :
    Calls Try.prog 74 #[.agg #[.int .i64 s.id, .int .i64 s.row, .int .i64 s.col, .int .i64 s.scale, .int .i64 s.year], .pointer (some ⟨b1, 0, none⟩)] w
      fun e w' => e = .returned (.bool (s.id == id)) ∧ Below w.heap.size w w' := by
  have hb := bel_alloc1 w (.cells #[.int .i64 s.id, .int .i64 s.row, .int .i64 s.col, .int .i64 s.scale, .int .i64 s.year] 35)
  have g1 := (hb.cell (p := ⟨b1, 0, none⟩) (World.lt_of_cell h1)).trans h1
  clear hb h1
  go_enter Try.func74, Try.ntmps74
  go_wp2
  go_ret
  exact ⟨ret_bool (by first | rfl | simp), bel_alloc1 _ _⟩

set_option maxHeartbeats 3200000 in
set_option maxRecDepth 100000 in
theorem idsRelatedTo_any (K : FuncId) (R : Sh → Sh → Bool) (a : Option Addr) (len cap : Nat) (xs : List Sh) (id : Int) (w : World) (h : IsSheetS w a len cap xs)
    (hcall : ∀ args W, (callFunc K args).run Try.prog W = .ok (.enter K args) W)
    (hK : ∀ a b W, a.ok = true → b.ok = true → Calls Try.prog K #[.agg #[.int .i64 a.id, .int .i64 a.row, .int .i64 a.col, .int .i64 a.scale, .int .i64 a.year], .agg #[.int .i64 b.id, .int .i64 b.row, .int .i64 b.col, .int .i64 b.scale, .int .i64 b.year]] W fun e w' => e = .returned (.bool (R a b)) ∧ Below W.heap.size W w') :
    Calls Try.prog 47 #[.slice a len cap, .int .i64 id, .func (.func K) #[] #[]] w (IntsOk (relIds R xs id) (relOk xs id) w) := by
  have hm := h.2.2.1
  have hcl := h.2.1
  unfold maxLen at hm
  have S := Lib.hid h
  have L := Lib.hid h.1
  have HK := Lib.hid hK
  have HC := Lib.hid hcall
  have b1 := bel_alloc1 w (.cells #[.int .i64 id] 3)
  have C1 := Lib.hid (cell_new w (.int .i64 id) 3 _ rfl)
  have S1 := Lib.hid (h.below b1)
  have B0 := Lib.hid b1
  clear h hK b1 hcall
  rcases rel_ways R xs id with ⟨h1, h3, h4⟩ | ⟨h1, h2, h3, h4⟩ | ⟨h1, i, x, h2, hs, h3, h4⟩
  · have V := Lib.hid h3
    have V2 := Lib.hid h4
    have H1 := Lib.hid h1
    clear h1 h3 h4
    go_enter Try.func47, Try.ntmps47
    go_wp2_with fail
    refine (implAreSheets_any _ _ _ xs _ S1.out).mono ?_
    rintro e w1 ⟨rfl, hb⟩
    have B := Lib.hid (Below.then' B0.out hb)
    clear hb
    rw [H1.out]
    go_wp2
    go_ret2
    exact ⟨_, ret_vb V.out.symm, by rw [V2.out]; exact nil_row _ _ _, B.out⟩
  · have V := Lib.hid h3
    have V2 := Lib.hid h4
    have H1 := Lib.hid h1
    have H2 := Lib.hid h2
    clear h1 h2 h3 h4
    go_enter Try.func47, Try.ntmps47
    go_wp2_with fail
    refine (implAreSheets_any _ _ _ xs _ S1.out).mono ?_
    rintro e w1 ⟨rfl, hb⟩
    have B := Lib.hid (Below.then' B0.out hb)
    have S2 := Lib.hid (S1.out.below hb)
    have C2 := Lib.hid (cell_keep C1.out hb)
    clear hb
    rw [H1.out]
    go_wp2_with fail
    refine (indexFunc_any 74 #[.pointer (some ⟨w.heap.size, 0, none⟩)] (fun s => s.id == id) a len cap xs _ S2.out (call_of Try.func74 (by kernel_rfl) (by kernel_rfl)) (fun W s hW => by
      have h1 := idsRel1_any s id w.heap.size W (cell_keep C2.out hW)
      simpa using h1)).mono ?_
    rintro e w2 ⟨rfl, hb⟩
    have B2 := Lib.hid (Below.then' B.out hb)
    clear hb
    rw [show idxOf (fun s => s.id == id) xs = -1 from H2.out]
    go_wp2
    go_ret2
    exact ⟨_, ret_vb V.out.symm, by rw [V2.out]; exact nil_row _ _ _, B2.out⟩
  · obtain ⟨i0, hi, hz0, hz1, hz2⟩ := info_parts infoInt
    have V := Lib.hid h3
    have V2 := Lib.hid h4
    have H1 := Lib.hid h1
    have H2 := Lib.hid h2
    have hil : i < len := by have := (List.getElem?_eq_some_iff.1 hs).1; have := L.out; omega
    have l12 : len ≤ 12 := by have := (areSh_iff.1 h1).1; have := L.out; omega
    have XS := Lib.hid hs
    have hj0 : (0 : Int) ≤ (i : Int) := by omega
    have hj1 : (i : Int) < (len : Int) := by omega
    clear h1 h2 h3 h4 hs
    go_enter Try.func47, Try.ntmps47
    go_wp2_with fail
    refine (implAreSheets_any _ _ _ xs _ S1.out).mono ?_
    rintro e w1 ⟨rfl, hb⟩
    have B := Lib.hid (Below.then' B0.out hb)
    have S2 := Lib.hid (S1.out.below hb)
    have C2 := Lib.hid (cell_keep C1.out hb)
    clear hb
    rw [H1.out]
    go_wp2_with fail
    refine (indexFunc_any 74 #[.pointer (some ⟨w.heap.size, 0, none⟩)] (fun s => s.id == id) a len cap xs _ S2.out (call_of Try.func74 (by kernel_rfl) (by kernel_rfl)) (fun W s hW => by
      have h1 := idsRel1_any s id w.heap.size W (cell_keep C2.out hW)
      simpa using h1)).mono ?_
    rintro e w2 ⟨rfl, hb⟩
    have B2 := Lib.hid (Below.then' B.out hb)
    clear hb
    rw [show idxOf (fun s => s.id == id) xs = (i : Int) from H2.out]
    go_wp2
    go_loopw [22, 9] (fun j o wr => ∃ k : Nat, k ≤ len ∧ j = .int .i64 k ∧ wr.ownsRow w.heap.size 3 1 o (((xs.take k).filter (R x)).map Sh.id).length (intCells (((xs.take k).filter (R x)).map Sh.id)) ∧ Below w.heap.size w wr) (fun j _ _ => len - (intOf j).toNat)
    case atStart => exact ⟨0, Nat.zero_le _, rfl, nil_row _ _ _, B2.out⟩
    case round =>
      obtain ⟨k, hk, rfl, hown, hbel⟩ := hrel
      have O := Lib.hid hown
      have BR := Lib.hid hbel
      clear hown
      by_cases hlt : k < len
      · obtain ⟨s, hs⟩ := list_at L hlt
        obtain ⟨b, o, rfl, hb, hat⟩ := (S.out.below hbel).at (by omega)
        obtain ⟨c0, c1, c2, c3, c4⟩ := hat k s hs
        have AX := Lib.hid (hat i x XS.out)
        have X := Lib.hid hs
        have FS := Lib.hid (filter_snoc (R x) hs)
        have OKS := Lib.hid (areSh_ok H1.out (List.mem_of_getElem? hs))
        have OKX := Lib.hid (areSh_ok H1.out (List.mem_of_getElem? XS.out))
        have hfl := filter_len (R x) xs k
        clear hs hat hbel
        go_wp2
        refine wp_world (fun W => BoxAt W wr.heap.size s ∧ Below wr.heap.size wr W) ⟨boxAt_new _ _ _ _ rfl, bel_alloc1 _ _⟩ ?_
        rintro W ⟨hbox, hbw⟩
        have BX := Lib.hid hbox
        have BW := Lib.hid hbw
        obtain ⟨e0, e1, e2, e3, e4⟩ := hbox
        obtain ⟨g0, g1, g2, g3, g4⟩ := AX.out.below hbw hb
        clear c0 c1 c2 c3 c4 hbw
        have k0 := cell_regrown e0
        have k1 := cell_regrown e1
        have k2 := cell_regrown e2
        have k3 := cell_regrown e3
        have k4 := cell_regrown e4
        have m0 := cell_regrown g0
        have m1 := cell_regrown g1
        have m2 := cell_regrown g2
        have m3 := cell_regrown g3
        have m4 := cell_regrown g4
        clear e0 e1 e2 e3 e4 g0 g1 g2 g3 g4
        have cR := below_at (W := W) (fun W' _ => HK.out x s W' OKX.out OKS.out)
        have hcall := HC.out
        by_cases hr : R x s = true
        · have RR := Lib.hid hr
          rw [hr] at cR
          clear hr
          refine wp_region_quiet_below (by kernel_rfl) (by kernel_rfl) ?_
          repeat (first | go_big_quiet_step (exact cR _ _) | quiet_step (exact cR _ _))
          refine wpQuiet_nil ?_
          intro W2 hw2
          have hb2 := below_of_re hw2
          obtain ⟨c0, c1, c2, c3, c4⟩ := BX.out.below hb2
          have hbw2 := Below.then' BW.out hb2
          have B3 := Lib.hid (Below.then' BR.out hbw2)
          have hown2 := ownsRow_below O.out hbw2
          have hsz := B3.out.size
          have hrl : (((xs.take k).filter (R x)).map Sh.id).length ≤ k := by simpa using hfl
          clear hw2 hb2 hbw2 cR k0 k1 k2 k3 k4 m0 m1 m2 m3 m4 hcall
          go_wp2_with (at_builtin; refine wpList_append_own _ rfl _ _ 27 rfl w.heap.size 3 i0 (.int .i64 0) 1 8 Try.underlying27 hi hz0 hz1 hz2 rfl (by decide) _ _ _ rfl (hown2.alloc _) ⟨W2.heap.size, 0, none⟩ 1 1 [.int .i64 s.id] rfl rfl (cell_one _ _ _) (fun x hx => by simp at hx; subst hx; rfl) (by unfold maxLen; omega) (by omega) (by simp; omega) ?_; intro v' w4 hown' hgrow4 hnil4)
          go_roundw
          case rel =>
            refine ⟨k + 1, by omega, by go_num, ?_, (Below.then' B3.out (bel_alloc1 _ _)).grown hgrow4 (by simp; omega) (fun j e => (hown2.lt j e).1)⟩
            rw [FS.out, if_pos RR.out, List.map_append, show [s].map Sh.id = [s.id] from rfl, intCells_snoc]
            simpa using hown'
          case measure => simp [intOf]; omega
        · have hr' : R x s = false := by simpa using hr
          have RR := Lib.hid hr'
          rw [hr'] at cR
          clear hr hr'
          refine wp_region_quiet_below (by kernel_rfl) (by kernel_rfl) ?_
          repeat (first | go_big_quiet_step (exact cR _ _) | quiet_step (exact cR _ _))
          refine wpQuiet_nil ?_
          intro W2 hw2
          have hbw2 := Below.then' BW.out (below_of_re hw2)
          have B3 := Lib.hid (Below.then' BR.out hbw2)
          have O2 := Lib.hid (ownsRow_below O.out hbw2)
          clear hw2 hbw2 cR k0 k1 k2 k3 k4 m0 m1 m2 m3 m4 hcall
          go_wp2
          go_roundw
          case rel => exact ⟨k + 1, by omega, by go_num, by rw [FS.out, RR.out]; simpa using O2.out, B3.out⟩
          case measure => simp [intOf]; omega
      · obtain rfl : k = len := by omega
        clear hbel
        go_wp2
        go_ret2
        refine ⟨_, ret_vb V.out.symm, ?_, BR.out⟩
        rw [V2.out]
        have h := O.out
        rw [List.take_of_length_le (by have := L.out; omega)] at h
        exact h

set_option maxHeartbeats 1600000 in
theorem implNeighborsOf_any (a : Option Addr) (len cap : Nat) (xs : List Sh) (id : Int) (w : World) (h : IsSheetS w a len cap xs) :
    Calls Try.prog 14 #[.slice a len cap, .int .i64 id] w (IntsOk (relIds nbB xs id) (relOk xs id) w) := by
  have S := Lib.hid h
  clear h
  go_enter Try.func14, Try.ntmps14
  go_wp2_with fail
  refine (idsRelatedTo_any 48 nbB a len cap xs id _ S.out (call_of Try.func48 (by kernel_rfl) (by kernel_rfl)) (fun a b W ha hb => areNeighbors_any a b W ha hb)).mono ?_
  rintro e w1 ⟨v, rfl, hown, hb⟩
  have O := Lib.hid hown
  have B := Lib.hid hb
  clear hown hb
  go_wp2
  go_ret2
  exact ⟨_, rfl, O.out, B.out⟩

set_option maxHeartbeats 1600000 in
theorem implShowsOverview_any (a : Option Addr) (len cap : Nat) (xs : List Sh) (id : Int) (w : World) (h : IsSheetS w a len cap xs) :
    Calls Try.prog 22 #[.slice a len cap, .int .i64 id] w (IntsOk (relIds ovB xs id) (relOk xs id) w) := by
  have S := Lib.hid h
  clear h
  go_enter Try.func22, Try.ntmps22
  go_wp2_with fail
  refine (idsRelatedTo_any 57 ovB a len cap xs id _ S.out (call_of Try.func57 (by kernel_rfl) (by kernel_rfl)) (fun a b W ha hb => beginsOn_any a b W ha hb)).mono ?_
  rintro e w1 ⟨v, rfl, hown, hb⟩
  have O := Lib.hid hown
  have B := Lib.hid hb
  clear hown hb
  go_wp2
  go_ret2
  exact ⟨_, rfl, O.out, B.out⟩
end Go.Proofs.Ytkdlalknlihgcaa
