/- The laws' draws of sheets: some sheets, an id, a scale. -/
import Derived.Test.YtidaoijpbdljbaaDrawSh
namespace Go.Proofs.Ytidaoijpbdljbaa
open Go.RowKit

theorem pick_anyI (bc : Nat) (a : Option Addr) (len cap t : Nat) (n : Int) (w : World) (hc : CurAt w bc a len cap t) (hd : CodeAt w a len cap bc) (ht : t ≤ 900000) (hn0 : 1 ≤ n) (hn : n ≤ 65536) :
    Calls Try.prog 87 #[.pointer (some ⟨bc, 0, none⟩), .int .i64 n] w (PickPost bc a len cap (t + 2) n w) := by
  obtain ⟨m, rfl⟩ := Int.eq_ofNat_of_zero_le (show 0 ≤ n by omega)
  exact pick_any bc a len cap t m w hc hd ht (by omega) (by omega)
/-- What is left of a row of the call's own when it is cut behind some elements. -/
theorem own_take {w : World} {base : Nat} {a : Option Addr} {cap k : Nat} {xs : List Sh} (h : w.ownsRow base 35 5 (.slice a xs.length cap) xs.length (shCells xs)) (hk : k ≤ xs.length) :
    w.ownsRow base 35 5 (.slice a k cap) k (shCells (xs.take k)) := by
  have hl : (shCells (xs.take k)).length = k * 5 := by rw [shCells_len, List.length_take]; omega
  refine ⟨hl, ?_⟩
  rcases h.2 with ⟨h0, h1⟩ | ⟨g, cap', cur, e, hg, hh, hn, hcap, hsz, htake⟩
  · simp only [Value.slice.injEq] at h0
    obtain ⟨rfl, h2, rfl⟩ := h0
    exact .inl ⟨by rw [show k = 0 by omega], by omega⟩
  · cases e
    refine .inr ⟨g, cap, cur, rfl, hg, hh, by omega, hcap, hsz, ?_⟩
    have e2 : shCells xs = shCells (xs.take k) ++ shCells (xs.drop k) := by
      unfold shCells
      rw [← List.flatMap_append, List.take_append_drop]
    have h3 := congrArg (List.take (k * 5)) htake
    rw [List.take_take, Nat.min_eq_left (by have := Nat.mul_le_mul_right 5 hk; omega), e2, List.take_append_of_le_length (by omega), List.take_of_length_le (show (shCells (xs.take k)).length ≤ k * 5 by omega)] at h3
    exact h3
theorem l2At_own {base : Nat} (v : Value) (xs : List Sh) (r c sc : Int) (w : World) (h : w.ownsRow base 35 5 v xs.length (shCells xs)) :
    Calls Try.prog 62 #[v, .int .i64 r, .int .i64 c, .int .i64 sc] w fun e w' => e = .returned (.int .i64 (idxAt xs r c sc)) ∧ w = w' := by
  obtain ⟨a, c', rfl, hs⟩ := isSheetS_own h
  exact l2At_any a _ c' xs r c sc w hs
theorem slice_cut (a : Option Addr) (n cap : Nat) (k : Int) (W : World) (h0 : 0 ≤ k) (h1 : k ≤ cap) : (Instr.slice 24 (.slice a n cap) none (some (.int .i64 k)) none).run Try.prog W = .ok (.slice a k.toNat cap) W := by
  cases a with
  | none => simp [go_sem, h0, h1]
  | some x => simp [go_sem, h0, h1]
theorem slice_cutN (a : Option Addr) (n cap k : Nat) (W : World) (h : k ≤ cap) : (Instr.slice 24 (.slice a n cap) none (some (.int .i64 (k : Int))) none).run Try.prog W = .ok (.slice a k cap) W := by
  have h2 := slice_cut a n cap (k : Int) W (by omega) (by omega)
  rwa [Int.toNat_natCast] at h2
def lenOf : Value → Nat
  | .slice _ n _ => n
  | _ => 0
/-- Some sheets. -/
def ShsDraw (bc : Nat) (a : Option Addr) (len cap t : Nat) (w : World) (e : Ending) (w' : World) : Prop := ∃ (v : Value) (xs : List Sh), e = .returned v ∧ xs.length ≤ 14 ∧ w'.ownsRow w.heap.size 35 5 v xs.length (shCells xs) ∧ CurAt w' bc a len cap t ∧ w.grownBy w' (some bc)

set_option maxHeartbeats 6400000 in
set_option maxRecDepth 100000 in
theorem sheets_any (bc : Nat) (a : Option Addr) (len cap t : Nat) (w : World) (hc : CurAt w bc a len cap t) (hd : CodeAt w a len cap bc) (ht : t ≤ 700000) :
    Calls Try.prog 51 #[.pointer (some ⟨bc, 0, none⟩)] w (ShsDraw bc a len cap (t + 200) w) := by
  have hbc := hc.lt
  obtain ⟨i0, hi, hz0, hz1, hz2⟩ := info_parts infoSheet
  have C := Lib.hid hc
  have D := Lib.hid hd
  have O0 := Lib.hid (World.ownsRow_made (base := w.heap.size) (e := 35) (size := 5) w #[] 0 (Nat.le_refl _) (Nat.zero_le _) rfl)
  have G0 := Lib.hid (grow_alloc (World.grownBy.refl w (some bc)) (.cells #[] 35))
  clear hc hd
  go_enter Try.func51, Try.ntmps51
  go_wp2
  go_loopw [3, 4] (fun o i wr => ∃ (m : Nat) (xs : List Sh), 1 ≤ m ∧ m ≤ 9 ∧ i = .int .i64 m ∧ xs.length ≤ m - 1 ∧ wr.ownsRow w.heap.size 35 5 o xs.length (shCells xs) ∧ CurAt wr bc a len cap (t + 14 * m) ∧ w.grownBy wr (some bc)) (fun _ i _ => 9 - (intOf i).toNat)
  case atStart => exact ⟨1, [], by omega, by omega, rfl, by simp, O0.out, (C.out.alloc _).more (by omega), G0.out⟩
  case round =>
    obtain ⟨m, xs, hm1, hm2, rfl, hxl, hown, hcur, hgr⟩ := hrel
    have O := Lib.hid hown
    have CU := Lib.hid hcur
    have G := Lib.hid hgr
    have hle := hgr.size
    clear hown hcur hgr
    by_cases hlt : m < 9
    · have hw9 : IntKind.i64.wrap (9 * (m : Int)) = 9 * (m : Int) := IntWalk.i64_in _ (by omega)
      go_wp2_with fail
      refine (sheet_any bc a len cap _ _ _ CU.out (D.out.grown G.out) (by omega)).mono ?_
      rintro e w3 ⟨s, rfl, hc3, hg3⟩
      have hl3 : wr.heap.size ≤ w3.heap.size := hg3.size
      have G3 := Lib.hid (grown_trans G.out hg3)
      have C3 := Lib.hid hc3
      have O3 := Lib.hid (ownsRow_grown' O.out hg3 (by intro k e; cases e; exact hbc))
      have X3 := Lib.hid (HB.new w3 s)
      clear hc3 hg3
      go_wp2_with fail
      refine (l2At_own _ xs _ _ _ _ (O3.out.alloc (.cells #[.int .i64 s.id, .int .i64 s.row, .int .i64 s.col, .int .i64 s.scale, .int .i64 s.year] 35))).mono ?_
      rintro e w' ⟨rfl, rfl⟩
      obtain ⟨z, hz⟩ : ∃ z, idxAt xs s.row s.col s.scale = z := ⟨_, rfl⟩
      rw [hz]
      clear hz
      by_cases hneg : z < 0
      · have HZ := Lib.hid (size_alloc w3 (.cells #[.int .i64 s.id, .int .i64 s.row, .int .i64 s.col, .int .i64 s.scale, .int .i64 s.year] 35))
        have hown2 := (O3.out.alloc (.cells #[.int .i64 s.id, .int .i64 s.row, .int .i64 s.col, .int .i64 s.scale, .int .i64 s.year] 35)).alloc (.cells #[.int .i64 s.id, .int .i64 s.row, .int .i64 s.col, .int .i64 s.scale, .int .i64 s.year] 35)
        go_wp2_with (at_builtin; refine wpList_append_own _ rfl _ _ 24 rfl w.heap.size 35 i0 (.agg #[.int .i64 0, .int .i64 0, .int .i64 0, .int .i64 0, .int .i64 0]) 5 40 Try.underlying24 hi hz0 hz1 hz2 rfl (by decide) _ _ _ rfl hown2 ⟨w3.heap.size + 1, 0, none⟩ 1 1 s.cells rfl rfl (cell_five2 _ _ _ _) (cells_one s) (by unfold maxLen; omega) (by omega) (by simp; omega) ?_; intro v' w4 hown' hgrow4 hnil4)
        go_roundw
        case rel =>
          have hlt4 := hown2.lt
          refine ⟨m + 1, xs ++ [s], by omega, by omega, by go_num, by simp; omega, by rw [shCells_snoc]; simpa using hown', (((C3.out.alloc _).alloc _).grown hgrow4 (fun e => by have := (hlt4 _ e.symm).1; omega)).more (by omega), ?_⟩
          exact grown_own (grow_alloc (grow_alloc G3.out _) _) hgrow4 (fun j e => (hlt4 j e).1)
        case measure => simp [intOf]; omega
      · have hz1' : ¬ z < 0 := hneg
        go_wp2_with fail
        refine (one_any bc a len cap _ 40 _ (C3.out.alloc _) ((D.out.grown G3.out).alloc _) (by omega) (by omega) (by omega)).mono ?_
        rintro e w4 ⟨b, rfl, hc4, hg4⟩
        have hl4 : w3.heap.size + 1 ≤ w4.heap.size := by have := hg4.size; rw [size_alloc] at this; exact this
        have G4 := Lib.hid (grown_trans (grow_alloc G3.out _) hg4)
        have C4 := Lib.hid hc4
        have O4 := Lib.hid (ownsRow_grown' (O3.out.alloc _) hg4 (by intro k e; cases e; exact hbc))
        have X4 := X3.out.grown hg4 (by simp; omega)
        obtain ⟨p0, p1, p2, p3, p4⟩ := X4.cells
        clear hc4 hg4 X4
        cases b
        · go_wp2
          go_roundw
          case rel => exact ⟨m + 1, xs, by omega, by omega, by go_num, by omega, O4.out, C4.out.more (by omega), G4.out⟩
          case measure => simp [intOf]; omega
        · have hown2 := O4.out.alloc (.cells #[.int .i64 s.id, .int .i64 s.row, .int .i64 s.col, .int .i64 s.scale, .int .i64 s.year] 35)
          go_wp2_with (at_builtin; refine wpList_append_own _ rfl _ _ 24 rfl w.heap.size 35 i0 (.agg #[.int .i64 0, .int .i64 0, .int .i64 0, .int .i64 0, .int .i64 0]) 5 40 Try.underlying24 hi hz0 hz1 hz2 rfl (by decide) _ _ _ rfl hown2 ⟨w4.heap.size, 0, none⟩ 1 1 s.cells rfl rfl (cell_five _ _ _) (cells_one s) (by unfold maxLen; omega) (by omega) (by simp; omega) ?_; intro v' w5 hown' hgrow5 hnil5)
          go_roundw
          case rel =>
            have hlt5 := hown2.lt
            refine ⟨m + 1, xs ++ [s], by omega, by omega, by go_num, by simp; omega, by rw [shCells_snoc]; simpa using hown', ((C4.out.alloc _).grown hgrow5 (fun e => by have := (hlt5 _ e.symm).1; omega)).more (by omega), ?_⟩
            exact grown_own (grow_alloc G4.out _) hgrow5 (fun j e => (hlt5 j e).1)
          case measure => simp [intOf]; omega
    · obtain rfl : m = 9 := by omega
      obtain ⟨a1, c1, rfl, hsl⟩ := isSheetS_own O.out
      have hcap := hsl.2.1
      have hcm := hsl.2.2.1
      unfold maxLen at hcm
      clear hsl
      go_wp2_with fail
      refine (pick_anyI bc a len cap _ _ _ CU.out (D.out.grown G.out) (by omega) (by omega) (by omega)).mono ?_
      rintro e w3 ⟨p, rfl, p0, p1, hc3, hg3⟩
      obtain ⟨q, rfl⟩ := Int.eq_ofNat_of_zero_le p0
      have hq : q ≤ xs.length := by have : (q : Int) < (xs.length : Int) + 1 := p1; omega
      have hl3 : wr.heap.size ≤ w3.heap.size := hg3.size
      have G3 := Lib.hid (grown_trans G.out hg3)
      have C3 := Lib.hid hc3
      have O3 := Lib.hid (own_take (ownsRow_grown' O.out hg3 (by intro k e; cases e; exact hbc)) hq)
      have hcut := fun W => slice_cutN a1 xs.length c1 q W (by omega)
      clear hc3 hg3 p0 p1
      go_wp2_with fail
      refine (pick_any bc a len cap _ 32 _ C3.out (D.out.grown G3.out) (by omega) (by omega) (by omega)).mono ?_
      rintro e w4 ⟨r, rfl, r0, r1, hc4, hg4⟩
      have hl4 : w3.heap.size ≤ w4.heap.size := hg4.size
      have G4 := Lib.hid (grown_trans G3.out hg4)
      have C4 := Lib.hid hc4
      have hown4 := ownsRow_grown' O3.out hg4 (by intro k e; cases e; exact hbc)
      obtain ⟨ys, hys⟩ : ∃ ys, xs.take q = ys := ⟨_, rfl⟩
      have hyl : ys.length = q := by rw [← hys, List.length_take]; omega
      rw [hys] at hown4
      subst hyl
      have O4 := Lib.hid hown4
      have hy8 : ys.length ≤ 8 := by omega
      clear hc4 hg4 hown4 hys hcut O3 O CU
      rcases (show r = 0 ∨ r = 1 ∨ (¬ r = 0 ∧ ¬ r = 1) by omega) with e | e | ⟨e0, e1⟩
      · subst e
        go_wp2_with fail
        refine (among_any bc a len cap _ w4.heap.size 0 4 4 0 1000 _ (C4.out.alloc _) ((D.out.grown G4.out).alloc _) (by omega) (by omega) (by omega) (by omega) (by simp) ?_).mono ?_
        · refine ints_at _ _ _ 0 1000 4 _ rfl rfl ?_
          repeat (refine List.forall_mem_cons.2 ⟨⟨_, by omega, by omega, rfl⟩, ?_⟩)
          exact fun _ h => by cases h
        rintro e w5 ⟨x, rfl, _, _, hc5, hg5⟩
        have hl5 : w4.heap.size + 1 ≤ w5.heap.size := by have := hg5.size; rw [size_alloc] at this; exact this
        have G5 := Lib.hid (grown_trans (grow_alloc G4.out _) hg5)
        have C5 := Lib.hid hc5
        have O5 := Lib.hid (ownsRow_grown' (O4.out.alloc _) hg5 (by intro k e; cases e; exact hbc))
        clear hc5 hg5
        go_wp2_with fail
        refine (sheet_any bc a len cap _ _ _ C5.out (D.out.grown G5.out) (by omega)).mono ?_
        rintro e w6 ⟨s, rfl, hc6, hg6⟩
        have hl6 : w5.heap.size ≤ w6.heap.size := hg6.size
        have G6 := Lib.hid (grown_trans G5.out hg6)
        have C6 := Lib.hid hc6
        have hown2 := (ownsRow_grown' O5.out hg6 (by intro k e; cases e; exact hbc)).alloc (.cells #[.int .i64 s.id, .int .i64 s.row, .int .i64 s.col, .int .i64 s.scale, .int .i64 s.year] 35)
        clear hc6 hg6
        go_wp2_with (at_builtin; refine wpList_append_own _ rfl _ _ 24 rfl w.heap.size 35 i0 (.agg #[.int .i64 0, .int .i64 0, .int .i64 0, .int .i64 0, .int .i64 0]) 5 40 Try.underlying24 hi hz0 hz1 hz2 rfl (by decide) _ _ _ rfl hown2 ⟨w6.heap.size, 0, none⟩ 1 1 s.cells rfl rfl (cell_five _ _ _) (cells_one s) (by unfold maxLen; omega) (by omega) (by first | omega | (simp; done) | (simp; omega)) ?_; intro v' w7 hown' hgrow7 hnil7)
        go_ret
        have hlt7 := hown2.lt
        exact ⟨v', ys ++ [s], rfl, by simp; omega, by rw [shCells_snoc]; simpa using hown', ((C6.out.alloc _).grown hgrow7 (fun e => by have := (hlt7 _ e.symm).1; omega)).more (by omega), grown_own (grow_alloc G6.out _) hgrow7 (fun j e => (hlt7 j e).1)⟩
      · subst e
        go_wp2
        go_loopw [3] (fun o wr => ∃ zs : List Sh, zs.length ≤ 13 ∧ wr.ownsRow w.heap.size 35 5 o zs.length (shCells zs) ∧ CurAt wr bc a len cap (t + 130 + 2 * zs.length) ∧ w.grownBy wr (some bc)) (fun o _ => 13 - lenOf o)
        case atStart => exact ⟨ys, by omega, O4.out, C4.out.more (by omega), G4.out⟩
        case round =>
          obtain ⟨zs, hz13, hown, hcur, hgr⟩ := hrel
          obtain ⟨a3, c3, rfl, hsz⟩ := isSheetS_own hown
          have hcap3 := hsz.2.1
          have hcm3 := hsz.2.2.1
          unfold maxLen at hcm3
          have hle := hgr.size
          have OZ := Lib.hid hown
          have CZ := Lib.hid hcur
          have GZ := Lib.hid hgr
          clear hsz hown hcur hgr
          go_wp2_with fail
          refine (pick_any bc a len cap _ 2 _ CZ.out (D.out.grown GZ.out) (by omega) (by omega) (by omega)).mono ?_
          rintro e w5 ⟨x, rfl, x0, x1, hc5, hg5⟩
          have x1' : x < 2 := x1
          have hl5 : wr.heap.size ≤ w5.heap.size := hg5.size
          have G5 := Lib.hid (grown_trans GZ.out hg5)
          have C5 := Lib.hid hc5
          have O5 := Lib.hid (ownsRow_grown' OZ.out hg5 (by intro k e; cases e; exact hbc))
          have hw12 : IntKind.i64.wrap (12 + x) = 12 + x := IntWalk.i64_in _ (by omega)
          clear hc5 hg5 x1
          by_cases hlz : (zs.length : Int) < 12 + x
          · have h100 : IntKind.i64.wrap (100 + (zs.length : Int)) = 100 + (zs.length : Int) := IntWalk.i64_in _ (by omega)
            have h10 : IntKind.i64.wrap (10 + (zs.length : Int)) = 10 + (zs.length : Int) := IntWalk.i64_in _ (by omega)
            have hown2 := O5.out.alloc (.cells #[.int .i64 (100 + (zs.length : Int)), .int .i64 10, .int .i64 (10 + (zs.length : Int)), .int .i64 50, .int .i64 1900] 35)
            go_wp2_with (at_builtin; refine wpList_append_own _ rfl _ _ 24 rfl w.heap.size 35 i0 (.agg #[.int .i64 0, .int .i64 0, .int .i64 0, .int .i64 0, .int .i64 0]) 5 40 Try.underlying24 hi hz0 hz1 hz2 rfl (by decide) _ _ _ rfl hown2 ⟨w5.heap.size, 0, none⟩ 1 1 (Sh.cells ⟨100 + (zs.length : Int), 10, 10 + (zs.length : Int), 50, 1900⟩) rfl rfl (cell_five _ ⟨100 + (zs.length : Int), 10, 10 + (zs.length : Int), 50, 1900⟩ _) (cells_one _) (by unfold maxLen; omega) (by omega) (by first | omega | (simp; done) | (simp; omega)) ?_; intro v' w7 hown' hgrow7 hnil7)
            go_roundw
            case rel =>
              have hlt7 := hown2.lt
              exact ⟨zs ++ [⟨100 + (zs.length : Int), 10, 10 + (zs.length : Int), 50, 1900⟩], by simp; omega, by rw [shCells_snoc]; simpa using hown', ((C5.out.alloc _).grown hgrow7 (fun e => by have := (hlt7 _ e.symm).1; omega)).more (by simp; omega), grown_own (grow_alloc G5.out _) hgrow7 (fun j e => (hlt7 j e).1)⟩
            case measure =>
              obtain ⟨_, _, rfl, _⟩ := isSheetS_own (xs := zs ++ [⟨100 + (zs.length : Int), 10, 10 + (zs.length : Int), 50, 1900⟩]) (by rw [shCells_snoc]; simpa using hown')
              simp [lenOf]; omega
          · go_wp2
            go_ret
            exact ⟨_, zs, rfl, by omega, O5.out, C5.out.more (by omega), G5.out⟩
      · have b0 : (r == 0) = false := by simpa using e0
        have b1 : (r == 1) = false := by simpa using e1
        go_wp2
        go_ret
        exact ⟨_, ys, rfl, by omega, O4.out, C4.out.more (by omega), G4.out⟩
end Go.Proofs.Ytidaoijpbdljbaa
