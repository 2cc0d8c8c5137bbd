/- LongestStrip in the model: the strip that is asked. -/
import Derived.Test.YtidaoijpbdljbaaStrip2
import Derived.Test.YtidaoijpbdljbaaSpecIds
namespace Go.Proofs.Ytidaoijpbdljbaa
open Go.RowKit

def RunAt (xs : List Sh) (sc r c : Int) (st : List Int) : Prop := ∀ (i : Nat) v, st[i]? = some v → ∃ s ∈ xs, s.scale = sc ∧ s.row = r ∧ s.col = c + (i : Int) ∧ s.id = v
theorem runAt_nil (xs : List Sh) (sc r c : Int) : RunAt xs sc r c [] := fun i v h => by simp at h
theorem runAt_snoc {xs : List Sh} {sc r c : Int} {st : List Int} {s : Sh} (h : RunAt xs sc r c st) (hs : s ∈ xs) (h1 : s.scale = sc) (h2 : s.row = r) (h3 : s.col = c + (st.length : Int)) : RunAt xs sc r c (st ++ [s.id]) := by
  intro i v hv
  rw [List.getElem?_append] at hv
  by_cases hi : i < st.length
  · rw [if_pos hi] at hv; exact h i v hv
  · rw [if_neg hi] at hv
    have hl := (List.getElem?_eq_some_iff.1 hv).1
    simp at hl
    obtain rfl : i = st.length := by omega
    simp at hv
    exact ⟨s, hs, h1, h2, h3, hv⟩
theorem runAt_len {xs : List Sh} {sc r c : Int} {st : List Int} (ha : areSh xs = true) (h : RunAt xs sc r c st) : st.length ≤ 100 ∧ (0 ≤ c → (st.length : Int) + c ≤ 100 ∨ st.length = 0) := by
  by_cases h0 : st.length = 0
  · omega
  · obtain ⟨s, s1, _, _, s4, _⟩ := h 0 st[0] (List.getElem?_eq_getElem (by omega))
    obtain ⟨t, t1, _, _, t4, _⟩ := h (st.length - 1) st[st.length - 1] (List.getElem?_eq_getElem (by omega))
    obtain ⟨_, _, ⟨a1, a2⟩, _⟩ := Sh.ok_iff.1 (areSh_ok ha s1)
    obtain ⟨_, _, ⟨b1, b2⟩, _⟩ := Sh.ok_iff.1 (areSh_ok ha t1)
    omega
theorem filled_in {xs : List Sh} {sc r c : Int} {n : Nat} (ha : areSh xs = true) (h : filled xs sc r c n) (hn : n ≠ 0) : (0 ≤ r ∧ r ≤ 99) ∧ (0 ≤ c ∧ c ≤ 99) ∧ (10 ≤ sc ∧ sc ≤ 500) := by
  obtain ⟨s, h1, h2, h3, h4⟩ := h 0 (by omega)
  obtain ⟨_, a, b, d, _⟩ := Sh.ok_iff.1 (areSh_ok ha h1)
  omega
theorem filled_end {xs : List Sh} {sc r c : Int} {m n : Nat} (h : idxAt xs r (c + (m : Int)) sc < 0) (hf : filled xs sc r c n) : n ≤ m := by
  rcases Nat.lt_or_ge m n with e | e
  · obtain ⟨s, h1, h2, h3, h4⟩ := hf m e
    rcases idxOf_cases (fun s => s.at_ r (c + (m : Int)) sc) xs with ⟨_, h5⟩ | ⟨i, t, h5, _⟩
    · have := h5 s h1
      rw [Sh.at_iff.2 ⟨h3, h4, h2⟩] at this; cases this
    · unfold idxAt at h; rw [h5] at h; omega
  · exact e
/-- The best of the places before a row and a col. -/
def BestAt (xs : List Sh) (sc r c : Int) (best : List Int) : Prop :=
  ∃ r0 c0, RunAt xs sc r0 c0 best ∧ (∀ r' c' n, (r' < r ∨ (r' = r ∧ c' < c)) → filled xs sc r' c' n → n ≤ best.length) ∧ (∀ r' c' n, (r' < r0 ∨ (r' = r0 ∧ c' < c0)) → filled xs sc r' c' n → n < best.length ∨ n = 0)
theorem bestAt_zero {xs : List Sh} {sc : Int} (ha : areSh xs = true) : BestAt xs sc 0 0 [] := by
  refine ⟨0, 0, runAt_nil _ _ _ _, fun r' c' n h hf => ?_, fun r' c' n h hf => ?_⟩
  · by_cases hn : n = 0
    · omega
    · have := filled_in ha hf hn; omega
  · by_cases hn : n = 0
    · exact .inr hn
    · have := filled_in ha hf hn; omega
theorem bestAt_row {xs : List Sh} {sc r c : Int} {best : List Int} (ha : areSh xs = true) (h : BestAt xs sc r c best) (hc : 99 < c) : BestAt xs sc (r + 1) 0 best := by
  obtain ⟨r0, c0, h1, h2, h3⟩ := h
  refine ⟨r0, c0, h1, fun r' c' n hb hf => ?_, h3⟩
  by_cases hn : n = 0
  · omega
  · have := filled_in ha hf hn
    exact h2 r' c' n (by omega) hf
theorem bestAt_more {xs : List Sh} {sc r c : Int} {best st : List Int} (h : BestAt xs sc r c best) (hr : RunAt xs sc r c st) (he : idxAt xs r (c + (st.length : Int)) sc < 0) (hl : best.length < st.length) : BestAt xs sc r (c + 1) st := by
  obtain ⟨r0, c0, h1, h2, h3⟩ := h
  refine ⟨r, c, hr, fun r' c' n hb hf => ?_, fun r' c' n hb hf => .inl (by have := h2 r' c' n hb hf; omega)⟩
  by_cases hb2 : r' < r ∨ (r' = r ∧ c' < c)
  · have := h2 r' c' n hb2 hf; omega
  · obtain ⟨rfl, rfl⟩ : r' = r ∧ c' = c := by omega
    exact filled_end he hf
theorem bestAt_same {xs : List Sh} {sc r c : Int} {best st : List Int} (h : BestAt xs sc r c best) (he : idxAt xs r (c + (st.length : Int)) sc < 0) (hl : ¬ best.length < st.length) : BestAt xs sc r (c + 1) best := by
  obtain ⟨r0, c0, h1, h2, h3⟩ := h
  refine ⟨r0, c0, h1, fun r' c' n hb hf => ?_, h3⟩
  by_cases hb2 : r' < r ∨ (r' = r ∧ c' < c)
  · exact h2 r' c' n hb2 hf
  · obtain ⟨rfl, rfl⟩ : r' = r ∧ c' = c := by omega
    have := filled_end he hf; omega
theorem bestAt_end {xs : List Sh} {sc r : Int} {best : List Int} (ha : areSh xs = true) (h : BestAt xs sc r 0 best) (hr : 99 < r) : StripIs xs sc best := by
  obtain ⟨r0, c0, h1, h2, h3⟩ := h
  refine ⟨r0, c0, h1, fun r' c' n hf => ?_, h3⟩
  by_cases hn : n = 0
  · omega
  · have := filled_in ha hf hn
    exact h2 r' c' n (by omega) hf
theorem bestAt_len {xs : List Sh} {sc r c : Int} {best : List Int} (ha : areSh xs = true) (h : BestAt xs sc r c best) : best.length ≤ 100 := by
  obtain ⟨r0, c0, h1, _⟩ := h
  exact (runAt_len ha h1).1
theorem strip_noScale {xs : List Sh} {sc : Int} (ha : areSh xs = true) (h : inB sc 10 500 = false) : StripIs xs sc [] := by
  refine ⟨0, 0, fun i v h => by simp at h, fun r' c' n hf => ?_, fun r' c' n _ hf => ?_⟩
  all_goals
    by_cases hn : n = 0
    · first | omega | exact .inr hn
    · have h1 := (filled_in ha hf hn).2.2
      rw [inB_iff.2 h1] at h; cases h
theorem Two.made {base : Nat} {w : World} {vl : Value} {lo : List Int} (h : w.ownsRow base 3 1 vl lo.length (intCells lo)) (hb : base ≤ w.heap.size) : Two base (w.alloc (.cells #[] 3)) (.slice (some ⟨w.heap.size, 0, none⟩) 0 0) vl [] lo := by
  refine ⟨World.ownsRow_made w #[] 0 hb (Nat.zero_le _) rfl, h.alloc _, fun b e1 e2 => ?_⟩
  obtain rfl : w.heap.size = b := by simpa [Value.ownBlock] using e1
  have := (h.lt _ e2).2
  omega
def sliceLen : Value → Nat
  | .slice _ n _ => n
  | _ => 0
theorem sliceLen_slice (a : Option Addr) (n c : Nat) : sliceLen (.slice a n c) = n := rfl
theorem sliceLen_own {w : World} {base : Nat} {v : Value} {xs : List Int} (h : w.ownsRow base 3 1 v xs.length (intCells xs)) : sliceLen v = xs.length := by
  obtain ⟨a, c, rfl, _, _⟩ := isInts_own h
  rfl

set_option maxHeartbeats 3200000 in
set_option maxRecDepth 100000 in
theorem specLongestStrip_any (a : Option Addr) (len cap : Nat) (xs : List Sh) (sc : Int) (w : World) (h : IsSheetS w a len cap xs) :
    Calls Try.prog 22 #[.slice a len cap, .int .i64 sc] w (StripPost sc xs w) := by
  have hm := h.2.2.1
  have hcl := h.2.1
  unfold maxLen at hm
  have S := Lib.hid h
  have L := Lib.hid h.1
  have B0 := Lib.hid (bel_alloc1 w (.cells #[] 3))
  have S1 := Lib.hid (h.below B0.out)
  have O0 := Lib.hid (World.ownsRow_made (base := w.heap.size) (e := 3) (size := 1) w #[] 0 (by simp) (Nat.zero_le _) rfl)
  clear h
  by_cases har : areSh xs = true
  · by_cases hsc : inB sc 10 500 = true
    · obtain ⟨i0, hi, hz0, hz1, hz2⟩ := info_parts infoInt
      have H1 := Lib.hid har
      have H2 := Lib.hid hsc
      clear har hsc
      go_enter Try.func22, Try.ntmps22
      go_wp2_with fail
      refine (l2Sheets_any _ _ _ xs _ S1.out).mono ?_
      rintro e w1 ⟨rfl, hb⟩
      have B1 := Lib.hid (Below.then' B0.out hb)
      have O1 := Lib.hid (ownsRow_below O0.out hb)
      clear hb
      rw [H1.out]
      go_wp2_with fail
      refine (l2Scale_any _ _).mono ?_
      rintro e w' ⟨rfl, rfl⟩
      rw [H2.out]
      go_wp2
      go_loopw [7, 6] (fun i o wr => ∃ (R : Nat) (best : List Int), R ≤ 100 ∧ i = .int .i64 R ∧ BestAt xs sc R 0 best ∧ wr.ownsRow w.heap.size 3 1 o best.length (intCells best) ∧ Below w.heap.size w wr) (fun i _ _ => 100 - (intOf i).toNat)
      case atStart => exact ⟨0, [], Nat.zero_le _, rfl, bestAt_zero H1.out, O1.out, B1.out⟩
      case round =>
        obtain ⟨R, best, hR, rfl, hbest, hown, hbel⟩ := hrel
        have BA := Lib.hid hbest
        have OB := Lib.hid hown
        have BR := Lib.hid hbel
        have hbl := bestAt_len H1.out hbest
        clear hbest hown hbel
        by_cases hRl : R < 100
        · have hR1 : (R : Int) ≤ 99 := by omega
          go_wp2
          go_loopw [8, 6] (fun i o wr => ∃ (C : Nat) (best : List Int), C ≤ 100 ∧ i = .int .i64 C ∧ BestAt xs sc R C best ∧ wr.ownsRow w.heap.size 3 1 o best.length (intCells best) ∧ Below w.heap.size w wr) (fun i _ _ => 100 - (intOf i).toNat)
          case atStart => exact ⟨0, best, Nat.zero_le _, rfl, BA.out, OB.out, BR.out⟩
          case round =>
            obtain ⟨C, best2, hC, rfl, hbest2, hown2, hbel2⟩ := hrel
            have BA2 := Lib.hid hbest2
            have OB2 := Lib.hid hown2
            have BR2 := Lib.hid hbel2
            have hbl2 := bestAt_len H1.out hbest2
            clear hbest2 hown2 hbel2
            by_cases hCl : C < 100
            · have hC1 : (C : Int) ≤ 99 := by omega
              have T0 := Lib.hid (Two.made OB2.out BR2.out.size)
              have B3 := Lib.hid (Below.then' BR2.out (bel_alloc1 _ (.cells #[] 3)))
              go_wp2_with fail
              refine (l2At_any _ _ _ xs _ _ sc _ (S.out.below B3.out)).mono ?_
              rintro e w' ⟨rfl, rfl⟩
              go_wp2
              go_loopw [9, 10] (fun o k W => ∃ (st : List Int), RunAt xs sc R C st ∧ k = .int .i64 (idxAt xs R (C + (st.length : Int)) sc) ∧ Two w.heap.size W o u6 st best2 ∧ Below w.heap.size w W) (fun o _ _ => 101 - sliceLen o)
              case atStart => exact ⟨[], runAt_nil _ _ _ _, by simp, T0.out, B3.out⟩
              case round =>
                obtain ⟨st, hrun, rfl, htwo, hbel3⟩ := hrel
                have RU := Lib.hid hrun
                have BR3 := Lib.hid hbel3
                have TWO := Lib.hid htwo
                obtain ⟨l100, lC⟩ := runAt_len H1.out hrun
                rcases idxOf_cases (fun s => s.at_ (R : Int) ((C : Int) + (st.length : Int)) sc) xs with ⟨hz, _⟩ | ⟨i, s, hz, hs, hat, _⟩
                · have HE := Lib.hid (show idxAt xs R (C + (st.length : Int)) sc < 0 from by unfold idxAt; rw [hz]; decide)
                  rw [show idxAt xs R (C + (st.length : Int)) sc = -1 from hz]
                  obtain ⟨as1, cs, rfl, -, -⟩ := isInts_own htwo.1
                  obtain ⟨al, cl, rfl, -, -⟩ := isInts_own htwo.2.1
                  clear hrun hbel3 htwo hz
                  by_cases hle : best2.length < st.length
                  · have g1 : (best2.length : Int) < (st.length : Int) := by omega
                    have g2 : decide ((best2.length : Int) < (st.length : Int)) = true := decide_eq_true g1
                    have NX := Lib.hid (bestAt_more BA2.out RU.out HE.out hle)
                    go_wp2
                    go_roundw
                    case rel => exact ⟨C + 1, st, by omega, by go_num, by simpa using NX.out, TWO.out.1, BR3.out⟩
                    case measure => simp [intOf]; omega
                  · have g1 : ¬ (best2.length : Int) < (st.length : Int) := by omega
                    have g2 : decide ((best2.length : Int) < (st.length : Int)) = false := decide_eq_false g1
                    have g3 : decide (best2.length < st.length) = false := decide_eq_false hle
                    have NX := Lib.hid (bestAt_same BA2.out HE.out hle)
                    go_wp2
                    go_roundw
                    case rel => exact ⟨C + 1, best2, by omega, by go_num, by simpa using NX.out, TWO.out.2.1, BR3.out⟩
                    case measure => simp [intOf]; omega
                · have hil : i < len := by have := (List.getElem?_eq_some_iff.1 hs).1; have := L.out; omega
                  obtain ⟨t1, t2, t3⟩ := Sh.at_iff.1 hat
                  have hcol : s.col ≤ 99 := (Sh.ok_iff.1 (areSh_ok H1.out (List.mem_of_getElem? hs))).2.2.1.2
                  have hst : st.length < 100 := by omega
                  have hsl := sliceLen_own htwo.1
                  have RN := Lib.hid (runAt_snoc hrun (List.mem_of_getElem? hs) t3 t1 t2)
                  obtain ⟨xb, xo, xe, hxb, hxat⟩ := (S.out.below hbel3).at (by omega)
                  subst xe
                  obtain ⟨x0, x1, x2, x3, x4⟩ := hxat i s hs
                  rw [show idxAt xs R (C + (st.length : Int)) sc = (i : Int) from hz]
                  have hi0 : (0 : Int) ≤ (i : Int) := by omega
                  have hi1 : (i : Int) < (len : Int) := by omega
                  have hsz := BR3.out.size
                  clear hrun hbel3 htwo hz hs hat hxat t1 t2 t3 hcol x1 x2 x3 x4
                  go_wp2_with (at_builtin; refine wpList_append_lies _ rfl _ _ 27 rfl w.heap.size 3 i0 (.int .i64 0) 1 8 Try.underlying27 hi hz0 hz1 hz2 rfl (by decide) _ _ _ rfl (TWO.out.1.alloc _) ⟨_, 0, none⟩ 1 1 [.int .i64 s.id] rfl rfl (cell_one _ _ _) (fun x hx => by simp at hx; subst hx; rfl) (by decide) (by unfold maxLen; omega) (by omega) (by simp; omega) _ rfl ?_; intro g cap4 w4 hown4 hgrow4 hg4 hlt4)
                  have T4 := Lib.hid (TWO.out.app hown4 hgrow4 hg4)
                  have B4 := Lib.hid ((Below.then' BR3.out (bel_alloc1 _ _)).grown hgrow4 (by simp; omega) (fun j e => (TWO.out.1.lt j e).1))
                  clear hown4 hgrow4 hg4 hlt4
                  refine (l2At_any _ _ _ xs _ _ sc _ (S.out.below B4.out)).mono ?_
                  rintro e w' ⟨rfl, rfl⟩
                  go_wp2
                  go_roundw
                  case rel => exact ⟨st ++ [s.id], RN.out, by simp, by simpa using T4.out, B4.out⟩
                  case measure => simp [sliceLen_slice, hsl]; omega
            · obtain rfl : C = 100 := by omega
              have NX := Lib.hid (bestAt_row H1.out BA2.out (by omega))
              go_wp2
              go_roundw
              case rel => exact ⟨R + 1, best2, by omega, by go_num, by simpa using NX.out, OB2.out, BR2.out⟩
              case measure => simp [intOf]; omega
        · obtain rfl : R = 100 := by omega
          have E1 := Lib.hid (bestAt_end H1.out BA.out (by omega))
          obtain ⟨al, cl, rfl, -, -⟩ := isInts_own OB.out
          by_cases hb0 : best = []
          · subst hb0
            go_wp2
            go_ret2
            exact ⟨[], _, rfl, .inl ⟨H1.out, E1.out⟩, by simp, OB.out, BR.out⟩
          · have g0 : 0 < best.length := List.length_pos_iff.2 hb0
            have g1 : (0 : Int) < (best.length : Int) := by omega
            have E2 := Lib.hid (show decide (0 < best.length) = true from decide_eq_true g0)
            go_wp2
            go_ret2
            refine ⟨best, _, by rw [E2.out]; rfl, .inl ⟨H1.out, E1.out⟩, hbl, OB.out, BR.out⟩
    · have hsc2 : inB sc 10 500 = false := by simpa using hsc
      have H1 := Lib.hid har
      have H2 := Lib.hid hsc2
      have E1 := Lib.hid (strip_noScale har hsc2)
      clear har hsc hsc2
      go_enter Try.func22, Try.ntmps22
      go_wp2_with fail
      refine (l2Sheets_any _ _ _ xs _ S1.out).mono ?_
      rintro e w1 ⟨rfl, hb⟩
      have B1 := Lib.hid (Below.then' B0.out hb)
      have O1 := Lib.hid (ownsRow_below O0.out hb)
      clear hb
      rw [H1.out]
      go_wp2_with fail
      refine (l2Scale_any _ _).mono ?_
      rintro e w' ⟨rfl, rfl⟩
      rw [H2.out]
      go_wp2
      go_ret2
      exact ⟨[], _, rfl, .inl ⟨H1.out, E1.out⟩, by simp, O1.out, B1.out⟩
  · have har2 : areSh xs = false := by simpa using har
    have H1 := Lib.hid har2
    clear har har2
    go_enter Try.func22, Try.ntmps22
    go_wp2_with fail
    refine (l2Sheets_any _ _ _ xs _ S1.out).mono ?_
    rintro e w1 ⟨rfl, hb⟩
    have B1 := Lib.hid (Below.then' B0.out hb)
    have O1 := Lib.hid (ownsRow_below O0.out hb)
    clear hb
    rw [H1.out]
    go_wp2
    go_ret2
    exact ⟨[], _, rfl, .inr ⟨H1.out, rfl⟩, by simp, O1.out, B1.out⟩
end Go.Proofs.Ytidaoijpbdljbaa
