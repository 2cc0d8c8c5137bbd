/- LongestStrip in the program: the strip that is asked. -/
import Derived.Test.YtidaoijpbdljbaaStrip
import Derived.Test.YtidaoijpbdljbaaIds
import Derived.Test.YtidaoijpbdljbaaShelf
import Derived.Deep.AppendLies
import Derived.Deep.Onto
namespace Go.Proofs.Ytidaoijpbdljbaa
open Go.RowKit

theorem ownsRow_grown_ne {w w' : World} {base : Nat} {e : TypeId} {size n : Nat} {v : Value} {xs : List Value} {row : Option Nat} (h : w.ownsRow base e size v n xs) (hg : w.grownBy w' row) (hne : ∀ g, v.ownBlock = some g → some g ≠ row) : w'.ownsRow base e size v n xs := by
  refine ⟨h.1, ?_⟩
  rcases h.2 with h0 | ⟨g, cap, cur, rfl, hb, hh, r⟩
  · exact .inl h0
  · exact .inr ⟨g, cap, cur, rfl, hb, (hg.block g (Array.getElem?_eq_some_iff.1 hh).1 (hne g rfl)).trans hh, r⟩
/-- Two rows of integers of the call's own, each in a block of its own. -/
def Two (base : Nat) (w : World) (vs vl : Value) (st lo : List Int) : Prop :=
  w.ownsRow base 3 1 vs st.length (intCells st) ∧ w.ownsRow base 3 1 vl lo.length (intCells lo) ∧ ∀ b, vs.ownBlock = some b → vl.ownBlock ≠ some b
theorem Two.below {base : Nat} {w w' : World} {vs vl : Value} {st lo : List Int} (h : Two base w vs vl st lo) (hb : Below w.heap.size w w') : Two base w' vs vl st lo :=
  ⟨ownsRow_below h.1 hb, ownsRow_below h.2.1 hb, h.2.2⟩
theorem nil_ints (w : World) (base : Nat) : w.ownsRow base 3 1 (.slice none 0 0) ([] : List Int).length (intCells []) := ⟨by simp [intCells], .inl ⟨rfl, rfl⟩⟩
theorem Two.start (base : Nat) (w : World) : Two base w (.slice none 0 0) (.slice none 0 0) [] [] := ⟨nil_ints _ _, nil_ints _ _, fun b h => by cases h⟩
theorem Two.anew {base : Nat} {w : World} {vs vl : Value} {st lo : List Int} (h : Two base w vs vl st lo) : Two base w (.slice none 0 0) vl [] lo := ⟨nil_ints _ _, h.2.1, fun b h => by cases h⟩
theorem Two.app {base : Nat} {w w' : World} {vs vl : Value} {st lo : List Int} (h : Two base w vs vl st lo) {z : Int} {o : Obj} {g cap : Nat}
    (ho : w'.ownsRow base 3 1 (.slice (some ⟨g, 0, none⟩) (st.length + 1) cap) (st.length + 1) (intCells st ++ [.int .i64 z])) (hg : (w.alloc o).grownBy w' vs.ownBlock) (hl : vs.ownBlock = some g ∨ g = (w.alloc o).heap.size) :
    Two base w' (.slice (some ⟨g, 0, none⟩) (st.length + 1) cap) vl (st ++ [z]) lo := by
  refine ⟨by rw [intCells_snoc]; simpa using ho, ownsRow_grown_ne (h.2.1.alloc o) hg (fun g' e1 e2 => h.2.2 g' e2.symm e1), fun b e1 e2 => ?_⟩
  obtain rfl : g = b := by simpa [Value.ownBlock] using e1
  rcases hl with h1 | h1
  · exact h.2.2 g h1 e2
  · have := (h.2.1.lt g e2).2
    rw [size_alloc] at h1
    omega
theorem Two.clone {base : Nat} {w w' : World} {vs vl v : Value} {st lo : List Int} (h : Two base w vs vl st lo) (hb : Below w.heap.size w w') (hbase : base ≤ w.heap.size) (ho : w'.ownsRow w.heap.size 3 1 v st.length (intCells st)) : Two base w' vs v st st := by
  refine ⟨ownsRow_below h.1 hb, ho.mono hbase, fun b e1 e2 => ?_⟩
  have := (h.1.lt b e1).2
  have := (ho.lt b e2).1
  omega
theorem clone_any (g cap : Nat) (base : Nat) (zs : List Int) (n : Nat) (w : World) (h : w.ownsRow base 3 1 (.slice (some ⟨g, 0, none⟩) n cap) zs.length (intCells zs)) (hn : n = zs.length) (hs : zs.length ≤ 1000000) :
    Calls Try.prog 60 #[.slice (some ⟨g, 0, none⟩) n cap] w fun e w' => ∃ v, e = .returned v ∧ w'.ownsRow w.heap.size 3 1 v zs.length (intCells zs) ∧ Below w.heap.size w w' := by
  subst hn
  refine (Try.slices_Clone_int g 0 zs.length cap zs w (Nat.le_refl _) (by omega) (fun j hj => ?_)).mono ?_
  · have hc := h.cells (g := g) rfl j (.int .i64 (zs.getD j 0)) (by simp [intCells, List.getElem?_eq_getElem hj, List.getD_eq_getElem?_getD])
    rw [add_plain] at hc
    exact hc
  · rintro e w' ⟨v, rfl, ho, _, hb⟩
    exact ⟨v, rfl, by simpa [intCells] using ho, hb⟩
def StripPost (sc : Int) (xs : List Sh) (w : World) (e : Ending) (w' : World) : Prop :=
  ∃ (L : List Int) (v : Value), e = .returned (.tuple #[v, .bool (decide (0 < L.length))]) ∧ ((areSh xs = true ∧ StripIs xs sc L) ∨ (areSh xs = false ∧ L = [])) ∧ L.length ≤ 100 ∧ w'.ownsRow w.heap.size 3 1 v L.length (intCells L) ∧ Below w.heap.size w w'
theorem stripAt_len {ys : List Sh} {k : Nat} {st lo : List Int} (h : StripAt ys k st lo) (hk : k ≤ ys.length) : st.length ≤ k ∧ lo.length ≤ k := by
  obtain ⟨j, p, q, _, h1, rfl, _, _, h4, h5, rfl, _⟩ := h
  rw [idsFrom_len hk, idsFrom_len (by omega)]
  omega
theorem if_lt {p : Prop} [Decidable p] {x y : List Int} (h : p) : (if p then x else y) = x := if_pos h

set_option maxHeartbeats 3200000 in
set_option maxRecDepth 100000 in
theorem implLongestStrip_any (a : Option Addr) (len cap : Nat) (xs : List Sh) (sc : Int) (w : World) (h : IsSheetS w a len cap xs) :
    Calls Try.prog 21 #[.slice a len cap, .int .i64 sc] w (StripPost sc xs w) := by
  have S := Lib.hid h
  clear h
  obtain ⟨i0, hi, hz0, hz1, hz2⟩ := info_parts infoInt
  go_enter Try.func21, Try.ntmps21
  go_wp2_with fail
  refine (sheetsOfScale_any a len cap xs sc _ S.out).mono ?_
  rintro e w1 ⟨a1, cap1, ys, rfl, hy, hso, his, hb⟩
  have B1 := Lib.hid hb
  clear hb
  by_cases hl : 0 < ys.length
  · rw [show decide (0 < ys.length) = true from by simpa using hl]
    obtain ⟨har, hpe⟩ : areSh xs = true ∧ ys.Perm (ofScale sc xs) := by
      rcases hy with h | ⟨_, h⟩
      · exact h
      · subst h; simp at hl
    have n12 : ys.length ≤ 12 := by
      rw [hpe.length_eq]
      exact Nat.le_trans (List.length_filter_le _ _) (areSh_iff.1 har).1
    have END := Lib.hid (fun strip longest => strip_end (strip := strip) (longest := longest) har hpe hso)
    have OK := Lib.hid (fun s (hs : s ∈ ys) => areSh_ok har ((of_mem hpe).1 hs).1)
    have AR := Lib.hid har
    obtain ⟨n, hn⟩ : ∃ n, ys.length = n := ⟨_, rfl⟩
    have YS := Lib.hid (show IsSheetS w1 a1 n cap1 ys from hn ▸ his)
    have hcl := YS.out.2.1
    have hmx := YS.out.2.2.1
    unfold maxLen at hmx
    rw [hn]
    rw [hn] at hl n12 END
    have HN := Lib.hid hn.symm
    clear hy hso his har hpe hn
    go_wp2
    go_loopw [22, 8, 9] (fun j o l wr => ∃ (k : Nat) (st lo : List Int), k ≤ n ∧ j = .int .i64 k ∧ StripAt ys k st lo ∧ Two w1.heap.size wr o l st lo ∧ Below w1.heap.size w1 wr) (fun j _ _ _ => n - (intOf j).toNat)
    case atStart => exact ⟨0, [], [], Nat.zero_le _, rfl, stripAt_zero _, Two.start _ _, Below.refl _ _⟩
    case round =>
      obtain ⟨k, st, lo, hk, rfl, hat0, htwo, hbel⟩ := hrel
      have AT0 := Lib.hid hat0
      have BR := Lib.hid hbel
      have hsl := stripAt_len hat0 (by have := HN.out; omega)
      have TWO := Lib.hid htwo
      obtain ⟨as1, cs, rfl, -, -⟩ := isInts_own htwo.1
      obtain ⟨al, cl, rfl, -, -⟩ := isInts_own htwo.2.1
      clear hat0 htwo
      by_cases hlt : k < n
      · obtain ⟨s, hs⟩ := list_at HN hlt
        obtain ⟨b, o, rfl, hb, hat⟩ := (YS.out.below hbel).at (by omega)
        obtain ⟨c0, c1, c2, c3, c4⟩ := hat k s hs
        have AT := Lib.hid hat
        have K := Lib.hid hs
        clear hs hat hbel
        go_wp2
        refine wp_world (fun W => BoxAt W wr.heap.size s ∧ Below wr.heap.size wr W) ⟨boxAt_new _ _ _ _ rfl, bel_alloc1 _ _⟩ ?_
        rintro W ⟨hbox, hbw⟩
        have BX := Lib.hid hbox
        have BW := Lib.hid hbw
        obtain ⟨e0, e1, e2, e3, e4⟩ := hbox
        clear c0 c1 c2 c3 c4 hbw
        have k0 := cell_regrown e0
        have k1 := cell_regrown e1
        have k2 := cell_regrown e2
        clear e0 e1 e2 e3 e4
        rcases Nat.eq_zero_or_pos k with rfl | hkp
        · have _hh := hlt
          refine wp_region_quiet_below (by kernel_rfl) (by kernel_rfl) ?_
          repeat (first | go_big_quiet_step (fail) | quiet_step (fail))
          refine wpQuiet_nil ?_
          intro W2 hw2
          have hb2 := below_of_re hw2
          have hbw2 := Below.then' BW.out hb2
          have TW := TWO.out.below hbw2
          have B2 := Lib.hid (Below.then' BR.out hbw2)
          have s0 := (BX.out.below hb2).1
          have NX := Lib.hid (stripAt_on K.out AT0.out (fun a h0 _ => by omega))
          have hsz := B2.out.size
          clear hw2 hb2 hbw2 k0 k1 k2
          by_cases hle : lo.length ≤ st.length
          · have g1 : (lo.length : Int) < (st.length : Int) + 1 := by omega
            have g2 : (lo.length : Int) ≤ (st.length : Int) := by omega
            have g3 : lo.length < st.length + 1 := by omega
            have hgt2 := Lib.hid (show lo.length < (st ++ [s.id]).length from by simp; try omega)
            rw [if_lt hgt2.out] at NX
            go_wp2_with (at_builtin; refine wpList_append_lies _ rfl _ _ 27 rfl w1.heap.size 3 i0 (.int .i64 0) 1 8 Try.underlying27 hi hz0 hz1 hz2 rfl (by decide) _ _ _ rfl (TW.1.alloc _) ⟨W2.heap.size, 0, none⟩ 1 1 [.int .i64 s.id] rfl rfl (cell_one _ _ _) (fun x hx => by simp at hx; subst hx; rfl) (by decide) (by unfold maxLen; first | omega | (simp; done) | (simp; omega)) (by first | omega | (simp; done) | (simp; omega)) (by simp; omega) _ rfl ?_; intro g cap4 w4 hown4 hgrow4 hg4 hlt4)
            have T4 := Lib.hid (TW.app hown4 hgrow4 hg4)
            have B4 := Lib.hid ((Below.then' B2.out (bel_alloc1 _ _)).grown hgrow4 (by simp; omega) (fun j e => (TW.1.lt j e).1))
            clear hown4 hgrow4 hg4 hlt4 TW s0 hsz
            refine (clone_any g cap4 w1.heap.size (st ++ [s.id]) _ _ (by simpa using T4.out.1) (by simp) (by simp; try omega)).mono ?_
            rintro e w5 ⟨v5, rfl, ho5, hb5⟩
            have T5 := Lib.hid (T4.out.clone hb5 B4.out.size ho5)
            have B5 := Lib.hid (Below.then' B4.out hb5)
            clear ho5 hb5
            go_wp2
            go_roundw
            case rel => exact ⟨0 + 1, st ++ [s.id], st ++ [s.id], by omega, by go_num, NX.out, T5.out, B5.out⟩
            case measure => simp [intOf]; omega
          · exfalso; omega
        · obtain ⟨j, rfl⟩ : ∃ j, k = j + 1 := ⟨k - 1, by omega⟩
          obtain ⟨p, hp⟩ := list_at HN (show j < n by omega)
          obtain ⟨p0, p1, p2, p3, p4⟩ := (AT.out j p hp).below BW.out (by exact (World.lt_of_cell (AT.out j p hp).1))
          have q1 := cell_regrown p1
          have q2 := cell_regrown p2
          have PP := Lib.hid hp
          obtain ⟨_, ⟨pr1, pr2⟩, ⟨pc1, pc2⟩, _, _⟩ := Sh.ok_iff.1 (OK.out p (List.mem_of_getElem? hp))
          clear p0 p1 p2 p3 p4 hp
          have hp0 : (0 : Int) ≤ (j : Int) := by omega
          have hp1 : (j : Int) < (n : Int) := by omega
          have wc : IntKind.i64.wrap (p.col + 1) = p.col + 1 := IntWalk.i64_in _ (by omega)
          by_cases hr : p.row = s.row
          · have hr1 : (p.row == s.row) = true := by simpa using hr
            have hr2 : (p.row != s.row) = false := by simpa using hr
            by_cases hc : p.col + 1 = s.col
            · have hc1 : (p.col + 1 == s.col) = true := by simpa using hc
              have hc2 : (p.col + 1 != s.col) = false := by simpa using hc
              refine wp_region_quiet_below (by kernel_rfl) (by kernel_rfl) ?_
              repeat (first | go_big_quiet_step (fail) | quiet_step (fail))
              refine wpQuiet_nil ?_
              intro W2 hw2
              have hb2 := below_of_re hw2
              have hbw2 := Below.then' BW.out hb2
              have TW := TWO.out.below hbw2
              have B2 := Lib.hid (Below.then' BR.out hbw2)
              have s0 := (BX.out.below hb2).1
              have NX := Lib.hid (stripAt_on K.out AT0.out (fun a _ ha => by rw [Nat.add_sub_cancel, PP.out] at ha; cases ha; exact ⟨hr, hc⟩))
              have hsz := B2.out.size
              clear hw2 hb2 hbw2 k0 k1 k2 q1 q2 hp0 hp1 wc hr1 hr2 hc1 hc2
              by_cases hle : lo.length ≤ st.length
              · have g1 : (lo.length : Int) < (st.length : Int) + 1 := by omega
                have g2 : (lo.length : Int) ≤ (st.length : Int) := by omega
                have g3 : lo.length < st.length + 1 := by omega
                have hgt2 := Lib.hid (show lo.length < (st ++ [s.id]).length from by simp; try omega)
                rw [if_lt hgt2.out] at NX
                go_wp2_with (at_builtin; refine wpList_append_lies _ rfl _ _ 27 rfl w1.heap.size 3 i0 (.int .i64 0) 1 8 Try.underlying27 hi hz0 hz1 hz2 rfl (by decide) _ _ _ rfl (TW.1.alloc _) ⟨W2.heap.size, 0, none⟩ 1 1 [.int .i64 s.id] rfl rfl (cell_one _ _ _) (fun x hx => by simp at hx; subst hx; rfl) (by decide) (by unfold maxLen; first | omega | (simp; done) | (simp; omega)) (by first | omega | (simp; done) | (simp; omega)) (by simp; omega) _ rfl ?_; intro g cap4 w4 hown4 hgrow4 hg4 hlt4)
                have T4 := Lib.hid (TW.app hown4 hgrow4 hg4)
                have B4 := Lib.hid ((Below.then' B2.out (bel_alloc1 _ _)).grown hgrow4 (by simp; omega) (fun j e => (TW.1.lt j e).1))
                clear hown4 hgrow4 hg4 hlt4 TW s0 hsz
                refine (clone_any g cap4 w1.heap.size (st ++ [s.id]) _ _ (by simpa using T4.out.1) (by simp) (by simp; try omega)).mono ?_
                rintro e w5 ⟨v5, rfl, ho5, hb5⟩
                have T5 := Lib.hid (T4.out.clone hb5 B4.out.size ho5)
                have B5 := Lib.hid (Below.then' B4.out hb5)
                clear ho5 hb5
                go_wp2
                go_roundw
                case rel => exact ⟨(j + 1) + 1, st ++ [s.id], st ++ [s.id], by omega, by go_num, NX.out, T5.out, B5.out⟩
                case measure => simp [intOf]; omega
              · have g1 : ¬ (lo.length : Int) < (st.length : Int) + 1 := by omega
                have g2 : ¬ (lo.length : Int) ≤ (st.length : Int) := by omega
                have g3 : st.length < lo.length := by omega
                have g4 : (st.length : Int) + 1 ≤ (lo.length : Int) := by omega
                have g5 : decide ((lo.length : Int) < (st.length : Int) + 1) = false := decide_eq_false g1
                have g6 : decide ((lo.length : Int) ≤ (st.length : Int)) = false := decide_eq_false g2
                have g7 : decide (lo.length ≤ st.length) = false := decide_eq_false hle
                have g8 : decide (lo.length < st.length + 1) = false := decide_eq_false (by omega)
                have hgt2 := Lib.hid (show ¬ lo.length < (st ++ [s.id]).length from by simp; try omega)
                rw [if_neg hgt2.out] at NX
                go_wp2_with (at_builtin; refine wpList_append_lies _ rfl _ _ 27 rfl w1.heap.size 3 i0 (.int .i64 0) 1 8 Try.underlying27 hi hz0 hz1 hz2 rfl (by decide) _ _ _ rfl (TW.1.alloc _) ⟨W2.heap.size, 0, none⟩ 1 1 [.int .i64 s.id] rfl rfl (cell_one _ _ _) (fun x hx => by simp at hx; subst hx; rfl) (by decide) (by unfold maxLen; first | omega | (simp; done) | (simp; omega)) (by first | omega | (simp; done) | (simp; omega)) (by simp; omega) _ rfl ?_; intro g cap4 w4 hown4 hgrow4 hg4 hlt4)
                have T4 := Lib.hid (TW.app hown4 hgrow4 hg4)
                have B4 := Lib.hid ((Below.then' B2.out (bel_alloc1 _ _)).grown hgrow4 (by simp; omega) (fun j e => (TW.1.lt j e).1))
                clear hown4 hgrow4 hg4 hlt4 TW s0 hsz
                go_roundw
                case rel => exact ⟨(j + 1) + 1, st ++ [s.id], lo, by omega, by go_num, NX.out, T4.out, B4.out⟩
                case measure => simp [intOf]; omega
            · have hc1 : (p.col + 1 == s.col) = false := by simpa using hc
              have hc2 : (p.col + 1 != s.col) = true := by simpa using hc
              refine wp_region_quiet_below (by kernel_rfl) (by kernel_rfl) ?_
              repeat (first | go_big_quiet_step (fail) | quiet_step (fail))
              refine wpQuiet_nil ?_
              intro W2 hw2
              have hb2 := below_of_re hw2
              have hbw2 := Below.then' BW.out hb2
              have TW := (TWO.out.below hbw2).anew
              have B2 := Lib.hid (Below.then' BR.out hbw2)
              have s0 := (BX.out.below hb2).1
              have NX := Lib.hid (stripAt_new K.out AT0.out (Nat.succ_pos j) PP.out (fun h => hc h.2))
              have hsz := B2.out.size
              clear hw2 hb2 hbw2 k0 k1 k2 q1 q2 hp0 hp1 wc hr1 hr2 hc1 hc2
              by_cases hle : lo = []
              · have hgt2 := Lib.hid (show lo.length < [s.id].length from by simp [hle])
                rw [if_lt hgt2.out] at NX
                go_wp2_with (at_builtin; refine wpList_append_lies _ rfl _ _ 27 rfl w1.heap.size 3 i0 (.int .i64 0) 1 8 Try.underlying27 hi hz0 hz1 hz2 rfl (by decide) _ _ _ rfl (TW.1.alloc _) ⟨W2.heap.size, 0, none⟩ 1 1 [.int .i64 s.id] rfl rfl (cell_one _ _ _) (fun x hx => by simp at hx; subst hx; rfl) (by decide) (by unfold maxLen; first | omega | (simp; done) | (simp; omega)) (by first | omega | (simp; done) | (simp; omega)) (by simp; omega) _ rfl ?_; intro g cap4 w4 hown4 hgrow4 hg4 hlt4)
                have T4 := Lib.hid (show Two w1.heap.size w4 (.slice (some ⟨g, 0, none⟩) 1 cap4) (.slice al lo.length cl) [s.id] lo from TW.app hown4 hgrow4 hg4)
                have B4 := Lib.hid ((Below.then' B2.out (bel_alloc1 _ _)).grown hgrow4 (by simp; omega) (fun j e => (TW.1.lt j e).1))
                clear hown4 hgrow4 hg4 hlt4 TW s0 hsz
                refine (clone_any g cap4 w1.heap.size [s.id] _ _ T4.out.1 rfl (by simp)).mono ?_
                rintro e w5 ⟨v5, rfl, ho5, hb5⟩
                have T5 := Lib.hid (T4.out.clone hb5 B4.out.size ho5)
                have B5 := Lib.hid (Below.then' B4.out hb5)
                clear ho5 hb5
                go_wp2
                go_roundw
                case rel => exact ⟨(j + 1) + 1, [s.id], [s.id], by omega, by go_num, NX.out, T5.out, B5.out⟩
                case measure => simp [intOf]; omega
              · have g0 : 0 < lo.length := List.length_pos_iff.2 hle
                have g1 : ¬ (lo.length : Int) < 1 := by omega
                have g2 : ¬ lo.length = 0 := by omega
                have g5 : decide ((lo.length : Int) < 1) = false := decide_eq_false g1
                have g6 : decide (lo.length = 0) = false := decide_eq_false g2
                have g7 : decide (lo = []) = false := decide_eq_false hle
                have g8 : decide (lo.length < 1) = false := decide_eq_false (by omega)
                have hgt2 := Lib.hid (show ¬ lo.length < [s.id].length from by simp; try omega)
                rw [if_neg hgt2.out] at NX
                go_wp2_with (at_builtin; refine wpList_append_lies _ rfl _ _ 27 rfl w1.heap.size 3 i0 (.int .i64 0) 1 8 Try.underlying27 hi hz0 hz1 hz2 rfl (by decide) _ _ _ rfl (TW.1.alloc _) ⟨W2.heap.size, 0, none⟩ 1 1 [.int .i64 s.id] rfl rfl (cell_one _ _ _) (fun x hx => by simp at hx; subst hx; rfl) (by decide) (by unfold maxLen; first | omega | (simp; done) | (simp; omega)) (by first | omega | (simp; done) | (simp; omega)) (by simp; omega) _ rfl ?_; intro g cap4 w4 hown4 hgrow4 hg4 hlt4)
                have T4 := Lib.hid (show Two w1.heap.size w4 (.slice (some ⟨g, 0, none⟩) 1 cap4) (.slice al lo.length cl) [s.id] lo from TW.app hown4 hgrow4 hg4)
                have B4 := Lib.hid ((Below.then' B2.out (bel_alloc1 _ _)).grown hgrow4 (by simp; omega) (fun j e => (TW.1.lt j e).1))
                clear hown4 hgrow4 hg4 hlt4 TW s0 hsz
                go_roundw
                case rel => exact ⟨(j + 1) + 1, [s.id], lo, by omega, by go_num, NX.out, T4.out, B4.out⟩
                case measure => simp [intOf]; omega
          · have hr1 : (p.row == s.row) = false := by simpa using hr
            have hr2 : (p.row != s.row) = true := by simpa using hr
            refine wp_region_quiet_below (by kernel_rfl) (by kernel_rfl) ?_
            repeat (first | go_big_quiet_step (fail) | quiet_step (fail))
            refine wpQuiet_nil ?_
            intro W2 hw2
            have hb2 := below_of_re hw2
            have hbw2 := Below.then' BW.out hb2
            have TW := (TWO.out.below hbw2).anew
            have B2 := Lib.hid (Below.then' BR.out hbw2)
            have s0 := (BX.out.below hb2).1
            have NX := Lib.hid (stripAt_new K.out AT0.out (Nat.succ_pos j) PP.out (fun h => hr h.1))
            have hsz := B2.out.size
            clear hw2 hb2 hbw2 k0 k1 k2 q1 q2 hp0 hp1 wc hr1 hr2
            by_cases hle : lo = []
            · have hgt2 := Lib.hid (show lo.length < [s.id].length from by simp [hle])
              rw [if_lt hgt2.out] at NX
              go_wp2_with (at_builtin; refine wpList_append_lies _ rfl _ _ 27 rfl w1.heap.size 3 i0 (.int .i64 0) 1 8 Try.underlying27 hi hz0 hz1 hz2 rfl (by decide) _ _ _ rfl (TW.1.alloc _) ⟨W2.heap.size, 0, none⟩ 1 1 [.int .i64 s.id] rfl rfl (cell_one _ _ _) (fun x hx => by simp at hx; subst hx; rfl) (by decide) (by unfold maxLen; first | omega | (simp; done) | (simp; omega)) (by first | omega | (simp; done) | (simp; omega)) (by simp; omega) _ rfl ?_; intro g cap4 w4 hown4 hgrow4 hg4 hlt4)
              have T4 := Lib.hid (show Two w1.heap.size w4 (.slice (some ⟨g, 0, none⟩) 1 cap4) (.slice al lo.length cl) [s.id] lo from TW.app hown4 hgrow4 hg4)
              have B4 := Lib.hid ((Below.then' B2.out (bel_alloc1 _ _)).grown hgrow4 (by simp; omega) (fun j e => (TW.1.lt j e).1))
              clear hown4 hgrow4 hg4 hlt4 TW s0 hsz
              refine (clone_any g cap4 w1.heap.size [s.id] _ _ T4.out.1 rfl (by simp)).mono ?_
              rintro e w5 ⟨v5, rfl, ho5, hb5⟩
              have T5 := Lib.hid (T4.out.clone hb5 B4.out.size ho5)
              have B5 := Lib.hid (Below.then' B4.out hb5)
              clear ho5 hb5
              go_wp2
              go_roundw
              case rel => exact ⟨(j + 1) + 1, [s.id], [s.id], by omega, by go_num, NX.out, T5.out, B5.out⟩
              case measure => simp [intOf]; omega
            · have g0 : 0 < lo.length := List.length_pos_iff.2 hle
              have g1 : ¬ (lo.length : Int) < 1 := by omega
              have g2 : ¬ lo.length = 0 := by omega
              have g5 : decide ((lo.length : Int) < 1) = false := decide_eq_false g1
              have g6 : decide (lo.length = 0) = false := decide_eq_false g2
              have g7 : decide (lo = []) = false := decide_eq_false hle
              have g8 : decide (lo.length < 1) = false := decide_eq_false (by omega)
              have hgt2 := Lib.hid (show ¬ lo.length < [s.id].length from by simp; try omega)
              rw [if_neg hgt2.out] at NX
              go_wp2_with (at_builtin; refine wpList_append_lies _ rfl _ _ 27 rfl w1.heap.size 3 i0 (.int .i64 0) 1 8 Try.underlying27 hi hz0 hz1 hz2 rfl (by decide) _ _ _ rfl (TW.1.alloc _) ⟨W2.heap.size, 0, none⟩ 1 1 [.int .i64 s.id] rfl rfl (cell_one _ _ _) (fun x hx => by simp at hx; subst hx; rfl) (by decide) (by unfold maxLen; first | omega | (simp; done) | (simp; omega)) (by first | omega | (simp; done) | (simp; omega)) (by simp; omega) _ rfl ?_; intro g cap4 w4 hown4 hgrow4 hg4 hlt4)
              have T4 := Lib.hid (show Two w1.heap.size w4 (.slice (some ⟨g, 0, none⟩) 1 cap4) (.slice al lo.length cl) [s.id] lo from TW.app hown4 hgrow4 hg4)
              have B4 := Lib.hid ((Below.then' B2.out (bel_alloc1 _ _)).grown hgrow4 (by simp; omega) (fun j e => (TW.1.lt j e).1))
              clear hown4 hgrow4 hg4 hlt4 TW s0 hsz
              go_roundw
              case rel => exact ⟨(j + 1) + 1, [s.id], lo, by omega, by go_num, NX.out, T4.out, B4.out⟩
              case measure => simp [intOf]; omega
      · obtain rfl : k = n := by omega
        obtain ⟨e1, e2⟩ := END.out st lo AT0.out
        have E1 := Lib.hid e1
        have E2 := Lib.hid (show decide (0 < lo.length) = true from by simpa using e2.2 hl)
        clear hbel e1 e2
        go_wp2
        go_ret2
        refine ⟨lo, _, by rw [E2.out]; rfl, .inl ⟨AR.out, E1.out⟩, by omega, TWO.out.2.1.mono B1.out.size, Below.then' B1.out BR.out⟩
  · obtain rfl : ys = [] := List.length_eq_zero_iff.1 (by omega)
    have ST : (areSh xs = true ∧ StripIs xs sc []) ∨ (areSh xs = false ∧ ([] : List Int) = []) := by
      rcases hy with ⟨h1, h2⟩ | ⟨h1, _⟩
      · exact .inl ⟨h1, (strip_end h1 h2 hso (stripAt_zero [])).1⟩
      · exact .inr ⟨h1, rfl⟩
    have STH := Lib.hid ST
    clear hy hso his hl ST
    rw [show decide (0 < ([] : List Sh).length) = false from rfl]
    go_wp2
    go_ret2
    exact ⟨[], _, rfl, STH.out.imp id (fun h => ⟨h.1, rfl⟩), by simp, nil_ints _ _, B1.out⟩
end Go.Proofs.Ytidaoijpbdljbaa
