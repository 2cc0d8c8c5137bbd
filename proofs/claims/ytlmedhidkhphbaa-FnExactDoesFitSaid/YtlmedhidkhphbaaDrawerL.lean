/- The library's functions at slices of Drawer: IndexFunc, Clone. (made by genlib2.py) -/
import Derived.Test.YtlmedhidkhphbaaDrawerT
import Derived.Test.YtlmedhidkhphbaaSw
import Derived.Lib.SliceRun
namespace Go.Proofs.Ytlmedhidkhphbaa
open Go.RowKit
set_option maxHeartbeats 3200000 in
set_option maxRecDepth 100000 in
/-- The index of the first element that a function value likes. -/
theorem idxDrawer_any (K : FuncId) (caps : Array Value) (f : VDrawer → Bool) (a : Option Addr) (len cap : Nat) (xs : List VDrawer) (w : World) (h : IsDrawerS w a len cap xs)
    (hcall : ∀ args W, (callFunc K args).run Try.prog W = .ok (.enter K args) W)
    (hf : ∀ (W : World) (s : VDrawer) (hd : Hd), s ∈ xs → IsInts W hd.a hd.n hd.c s.Flats → Below w.heap.size w W → Calls Try.prog K (#[.agg #[.int .i64 s.Id, .int .i64 s.Wide, .int .i64 s.High, .int .i64 s.Holds, .slice hd.a hd.n hd.c]] ++ caps) W fun e w' => e = .returned (.bool (f s)) ∧ Below W.heap.size W w') :
    Calls Try.prog 111 #[.slice a len cap, .func (.func K) #[] caps] w fun e w' => e = .returned (.int .i64 (firstOf f xs)) ∧ Below w.heap.size w w' := by
  have hm := h.2.2.1
  have hcl := h.2.1
  unfold maxLen at hm
  have S := Lib.hid h
  have L := Lib.hid h.1
  have F := Lib.hid hf
  clear h hf
  go_enter Try.func111, Try.ntmps111
  go_wp2
  go_loopw [8, 5] (fun i _ wr => ∃ k : Nat, k ≤ len ∧ i = .int .i64 k ∧ Below w.heap.size w wr ∧ ∀ (j : Nat) t, j < k → xs[j]? = some t → f t = false) (fun i _ _ => len - (intOf i).toNat)
  case atStart => exact ⟨0, Nat.zero_le _, rfl, Below.refl _ _, by omega⟩
  case round =>
    obtain ⟨k, hk, rfl, hbel, hall⟩ := hrel
    have A := Lib.hid hall
    have B := Lib.hid hbel
    clear hall
    by_cases hlt : k < len
    · obtain ⟨s, hs⟩ := el_at L hlt
      obtain ⟨b, o, rfl, hb, hat⟩ := (S.out.below hbel).at (by omega)
      obtain ⟨hd, c0, c1, c2, c3, c4, hin⟩ := hat k s hs
      have HI := Lib.hid hin
      clear hin
      have X := Lib.hid hs
      clear hs hat hbel
      go_wp2_with fail
      refine (F.out wr s hd (List.mem_of_getElem? X.out) HI.out B.out).mono ?_
      rintro e w1 ⟨rfl, hb1⟩
      have B1 := Lib.hid (Below.then' B.out hb1)
      clear hb1
      by_cases hfs : f s = true
      · have FS := Lib.hid hfs
        rw [hfs]
        clear hfs
        go_wp2
        go_ret
        exact ⟨ret_int (firstOf_at X.out FS.out A.out).symm, B1.out⟩
      · have hfs' : f s = false := by simpa using hfs
        have FS := Lib.hid hfs'
        rw [hfs']
        clear hfs hfs'
        go_wp2
        go_roundw
        case rel => exact ⟨k + 1, by omega, by go_num, B1.out, fun j t hj ht => by
          by_cases e : j = k
          · subst e; rw [X.out] at ht; cases ht; exact FS.out
          · exact A.out j t (by omega) ht⟩
        case measure => simp [intOf]; omega
    · obtain rfl : k = len := by omega
      clear hbel
      go_wp2
      go_ret
      exact ⟨ret_int (firstOf_no fun j t hj ht => A.out j t (by have := L.out; omega) ht).symm, B.out⟩
/-- A clone: a row of the call's own; the slices inside are still those of the argument. -/
def DrawerCloned (xs : List VDrawer) (w : World) (e : Ending) (w' : World) : Prop := ∃ (v : Value) (ps : List PDrawer), e = .returned v ∧ ps.map PDrawer.x = xs ∧ w'.ownsRow w.heap.size 42 5 v xs.length (cellsDrawer ps) ∧ (∀ (k : Nat) p, ps[k]? = some p → IsInts w p.h.a p.h.n p.h.c p.x.Flats) ∧ Below w.heap.size w w'
theorem made_ownDrawer (w : World) (base : Nat) (h : base ≤ w.heap.size) : (w.alloc (.cells #[] 42)).ownsRow base 42 5 (.slice (some ⟨w.heap.size, 0, none⟩) 0 0) 0 [] :=
  World.ownsRow_made (base := base) (e := 42) (size := 5) w #[] 0 h (Nat.zero_le _) rfl
set_option maxHeartbeats 3200000 in
set_option maxRecDepth 100000 in
theorem cloneDrawer_any (a : Option Addr) (len cap : Nat) (xs : List VDrawer) (w : World) (h : IsDrawerS w a len cap xs) (hx : xs.length ≤ 1048576) :
    Calls Try.prog 113 #[.slice a len cap] w (DrawerCloned xs w) := by
  obtain rfl := h.1
  obtain ⟨i0, hi, hz0, hz1, hz2⟩ := info_parts infoDrawer
  cases a with
  | none =>
    have h0 : xs.length = 0 := by
      rcases h.2.2.2 with h0 | ⟨b, o, e, _⟩
      · exact h0
      · cases e
    obtain rfl : xs = [] := List.length_eq_zero_iff.1 h0
    clear h h0
    have hnil := fun w a n c n' c' => Lib.run_eql_slice_nil (P := Try.prog) w 25 42 a n c n' c' Try.underlying25
    go_enter Try.func113, Try.ntmps113
    go_wp2
    go_ret
    exact ⟨_, [], rfl, rfl, ⟨by simp [cellsDrawer], .inl ⟨rfl, rfl⟩⟩, fun k p hp => by simp at hp, Below.refl _ _⟩
  | some ad =>
    obtain ⟨ps, hps, hsrc, hin⟩ := h.src
    have PS := Lib.hid hps
    have IN := Lib.hid hin
    have B0 := Lib.hid (bel_al1 w (.cells #[] 42))
    have O0 := made_ownDrawer w w.heap.size (Nat.le_refl _)
    have SRC : SrcAt (w.alloc (.cells #[] 42)) (some ad) xs.length 5 (cellsDrawer ps) := by
      refine ⟨hsrc.1, hsrc.2.imp id ?_⟩
      rintro ⟨ad', e', hc⟩
      exact ⟨ad', e', fun j u hj => (B0.out.cell (World.block_lt_of_cell? w _ (hc j u hj))).trans (hc j u hj)⟩
    have SZ := Lib.hid (size_al w (.cells #[] 42))
    clear h hps hsrc hin
    have hnil := fun w a n c n' c' => Lib.run_eql_slice_nil (P := Try.prog) w 25 42 a n c n' c' Try.underlying25
    go_enter Try.func113, Try.ntmps113
    go_wp2_with (at_builtin; refine wpList_append_list rfl _ _ 25 rfl w.heap.size 42 i0 (.agg #[.int .i64 0, .int .i64 0, .int .i64 0, .int .i64 0, .slice none 0 0]) 5 56 Try.underlying25 hi hz0 hz1 hz2 rfl (by decide) _ _ _ rfl O0 _ xs.length cap (cellsDrawer ps) rfl SRC (one_Drawer ps) (by simp; unfold maxLen; omega) (by simp; omega) (by rw [SZ.out]; omega) ?_; intro v1 w1 hown1 hgrow1; have B1 := Lib.hid (B0.out.grown hgrow1 (by rw [SZ.out]; omega) (fun k e => by have := own_is e; omega)); have O1 := Lib.hid hown1; clear hown1 hgrow1)
    go_ret
    refine ⟨v1, ps, rfl, PS.out, ?_, IN.out, B1.out⟩
    have h := O1.out
    simpa [cellsDrawer] using h
end Go.Proofs.Ytlmedhidkhphbaa
