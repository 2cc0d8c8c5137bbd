/- NeighborsOf and ShowsOverview in the model: the ids that the program gives. -/
import Derived.Test.YtidaoijpbdljbaaIds
import Derived.Laws.MakeOwn
namespace Go.Proofs.Ytidaoijpbdljbaa
open Go.RowKit

theorem areSh_lt {xs : List Sh} (h : areSh xs = true) : ∀ (j i : Nat) (s t : Sh), i < j → xs[i]? = some s → xs[j]? = some t → s.id < t.id := by
  intro j
  induction j with
  | zero => intro i s t hi; omega
  | succ j ih =>
    intro i s t hij hs ht
    have hl := (List.getElem?_eq_some_iff.1 ht).1
    obtain ⟨p, hp⟩ : ∃ p, xs[j]? = some p := ⟨xs[j]'(by omega), List.getElem?_eq_getElem _⟩
    have hpt : p.id < t.id := by
      have h1 := (areSh_iff.1 h).2 (j + 1) hl
      rw [okAt_some ht, show j + 1 - 1 = j from rfl, hp] at h1
      simp at h1
      exact h1.2.1
    by_cases e : i = j
    · subst e; rw [hs] at hp; cases hp; exact hpt
    · exact Int.lt_trans (ih i s p (by omega) hs hp) hpt
theorem areSh_ne {xs : List Sh} (h : areSh xs = true) {i j : Nat} {s t : Sh} (hne : i ≠ j) (hs : xs[i]? = some s) (ht : xs[j]? = some t) : s.id ≠ t.id := by
  rcases Nat.lt_or_gt_of_ne hne with h1 | h1
  · have := areSh_lt h j i s t h1 hs ht; omega
  · have := areSh_lt h i j t s h1 ht hs; omega
theorem inB_neg (x : Int) : inB (-x) (-1) 1 = inB x (-1) 1 := by
  rw [Bool.eq_iff_iff, inB_iff, inB_iff]; omega
theorem nearB_comm (a b : Sh) : nearB a b = nearB b a := by
  unfold nearB
  rw [show a.row - b.row = -(b.row - a.row) from by omega, show a.col - b.col = -(b.col - a.col) from by omega, inB_neg, inB_neg]
  congr 1
  rw [Bool.eq_iff_iff]; simp; omega
theorem nbB_self (a : Sh) : nbB a a = false := by simp [nbB]
theorem nbB_of {a b : Sh} (h : a.id ≠ b.id) : nbB a b = nearB b a := by unfold nbB; rw [nearB_comm b a]; simp [h]

set_option maxHeartbeats 3200000 in
set_option maxRecDepth 100000 in
theorem specNeighborsOf_any (a : Option Addr) (len cap : Nat) (xs : List Sh) (id : Int) (w : World) (h : IsSheetS w a len cap xs) :
    Calls Try.prog 17 #[.slice a len cap, .int .i64 id] w (IntsOk (relIds nbB xs id) (relOk xs id) w) := by
  have hm := h.2.2.1
  have hcl := h.2.1
  unfold maxLen at hm
  have S := Lib.hid h
  have L := Lib.hid h.1
  have B0 := Lib.hid (bel_alloc1 w (.cells #[] 3))
  have S1 := Lib.hid (h.below B0.out)
  have O0 := Lib.hid (World.ownsRow_made (base := w.heap.size) (e := 3) (size := 1) w #[] 0 (by simp) (Nat.zero_le _) rfl)
  clear h
  rcases rel_ways nbB xs id with ⟨h1, h3, h4⟩ | ⟨h1, h2, h3, h4⟩ | ⟨h1, p, x, h2, hs, h3, h4⟩
  · have V := Lib.hid h3
    have V2 := Lib.hid h4
    have H1 := Lib.hid h1
    clear h1 h3 h4
    go_enter Try.func17, Try.ntmps17
    go_wp2_with fail
    refine (l2Find_any _ _ _ xs id _ S1.out).mono ?_
    rintro e w' ⟨rfl, rfl⟩
    go_wp2_with fail
    refine (l2Sheets_any _ _ _ xs _ S1.out).mono ?_
    rintro e w1 ⟨rfl, hb⟩
    have B := Lib.hid (Below.then' B0.out hb)
    have O1 := Lib.hid (ownsRow_below O0.out hb)
    clear hb
    rw [H1.out]
    go_wp2
    go_ret2
    exact ⟨_, ret_vb V.out.symm, by rw [V2.out]; exact O1.out, B.out⟩
  · have V := Lib.hid h3
    have V2 := Lib.hid h4
    have H1 := Lib.hid h1
    have H2 := Lib.hid h2
    clear h1 h2 h3 h4
    go_enter Try.func17, Try.ntmps17
    go_wp2_with fail
    refine (l2Find_any _ _ _ xs id _ S1.out).mono ?_
    rintro e w' ⟨rfl, rfl⟩
    rw [H2.out]
    go_wp2_with fail
    refine (l2Sheets_any _ _ _ xs _ S1.out).mono ?_
    rintro e w1 ⟨rfl, hb⟩
    have B := Lib.hid (Below.then' B0.out hb)
    have O1 := Lib.hid (ownsRow_below O0.out hb)
    clear hb
    rw [H1.out]
    go_wp2
    go_ret2
    exact ⟨_, ret_vb V.out.symm, by rw [V2.out]; exact O1.out, B.out⟩
  · obtain ⟨i0, hi, hz0, hz1, hz2⟩ := info_parts infoInt
    have V := Lib.hid h3
    have V2 := Lib.hid h4
    have H1 := Lib.hid h1
    have H2 := Lib.hid h2
    have hil : p < len := by have := (List.getElem?_eq_some_iff.1 hs).1; have := L.out; omega
    have l12 : len ≤ 12 := by have := (areSh_iff.1 h1).1; have := L.out; omega
    have XS := Lib.hid hs
    have hj0 : (0 : Int) ≤ (p : Int) := by omega
    have hj1 : (p : Int) < (len : Int) := by omega
    clear h1 h2 h3 h4 hs
    go_enter Try.func17, Try.ntmps17
    go_wp2_with fail
    refine (l2Find_any _ _ _ xs id _ S1.out).mono ?_
    rintro e w' ⟨rfl, rfl⟩
    rw [H2.out]
    go_wp2_with fail
    refine (l2Sheets_any _ _ _ xs _ S1.out).mono ?_
    rintro e w1 ⟨rfl, hb⟩
    have B1 := Lib.hid (Below.then' B0.out hb)
    have O1 := Lib.hid (ownsRow_below O0.out hb)
    clear hb
    rw [H1.out]
    go_wp2
    go_loopw [8, 6] (fun j o wr => ∃ k : Nat, k ≤ len ∧ j = .int .i64 k ∧ wr.ownsRow w.heap.size 3 1 o (((xs.take k).filter (nbB x)).map Sh.id).length (intCells (((xs.take k).filter (nbB x)).map Sh.id)) ∧ Below w.heap.size w wr) (fun j _ _ => len - (intOf j).toNat)
    case atStart => exact ⟨0, Nat.zero_le _, rfl, O1.out, B1.out⟩
    case round =>
      obtain ⟨k, hk, rfl, hown, hbel⟩ := hrel
      have O := Lib.hid hown
      have BR := Lib.hid hbel
      clear hown
      by_cases hlt : k < len
      · obtain ⟨s, hs⟩ := list_at L hlt
        obtain ⟨b, o, rfl, hb, hat⟩ := (S.out.below hbel).at (by omega)
        have AS := Lib.hid (hat k s hs)
        obtain ⟨e0, e1, e2, e3, e4⟩ := hat k s hs
        obtain ⟨g0, g1, g2, g3, g4⟩ := hat p x XS.out
        have X := Lib.hid hs
        have FS := Lib.hid (filter_snoc (nbB x) hs)
        have OKS := Lib.hid (areSh_ok H1.out (List.mem_of_getElem? hs))
        have OKX := Lib.hid (areSh_ok H1.out (List.mem_of_getElem? XS.out))
        have hfl := filter_len (nbB x) xs k
        clear hs hat hbel
        have k0 := cell_regrown e0
        have k1 := cell_regrown e1
        have k2 := cell_regrown e2
        have k3 := cell_regrown e3
        have k4 := cell_regrown e4
        have m0 := cell_regrown g0
        have m1 := cell_regrown g1
        have m2 := cell_regrown g2
        have m3 := cell_regrown g3
        have m4 := cell_regrown g4
        clear e0 e1 e2 e3 e4 g0 g1 g2 g3 g4
        have hi0 : (0 : Int) ≤ (k : Int) := by omega
        have hi1 : (k : Int) < (len : Int) := by omega
        by_cases hkp : k = p
        · subst hkp
          have RR := Lib.hid (show nbB x s = false by
            have h1 := X.out
            rw [XS.out] at h1
            cases h1
            exact nbB_self x)
          go_wp2
          refine wp_region_quiet_below (by kernel_rfl) (by kernel_rfl) ?_
          repeat (first | go_big_quiet_step (fail) | quiet_step (fail))
          refine wpQuiet_nil ?_
          intro W2 hw2
          have hbw2 := below_of_re hw2
          have B3 := Lib.hid (Below.then' BR.out hbw2)
          have O2 := Lib.hid (ownsRow_below O.out hbw2)
          clear hw2 hbw2 k0 k1 k2 k3 k4 m0 m1 m2 m3 m4
          go_wp2
          go_roundw
          case rel => exact ⟨k + 1, by omega, by go_num, by rw [FS.out, RR.out]; simpa using O2.out, B3.out⟩
          case measure => simp [intOf]; omega
        · have hkp1 : ((k : Int) == (p : Int)) = false := by simp; omega
          have hkp2 : ((k : Int) != (p : Int)) = true := by simp; omega
          have cR := below_at (W := wr) (fun W' _ => l2Near_any s x W' OKS.out OKX.out)
          have RB := Lib.hid (nbB_of (areSh_ne H1.out (Ne.symm hkp) XS.out X.out))
          by_cases hr : nearB s x = true
          · have RR := Lib.hid (show nbB x s = true from RB.out.trans hr)
            rw [hr] at cR
            clear hr
            go_wp2
            refine wp_region_quiet_below (by kernel_rfl) (by kernel_rfl) ?_
            repeat (first | go_big_quiet_step (exact cR _ _) | quiet_step (exact cR _ _))
            refine wpQuiet_nil ?_
            intro W2 hw2
            have hb2 := below_of_re hw2
            obtain ⟨c0, c1, c2, c3, c4⟩ := AS.out.below hb2 hb
            have B3 := Lib.hid (Below.then' BR.out hb2)
            have hown2 := ownsRow_below O.out hb2
            have hsz := B3.out.size
            have hrl : (((xs.take k).filter (nbB x)).map Sh.id).length ≤ k := by simpa using hfl
            clear hw2 hb2 cR k0 k1 k2 k3 k4 m0 m1 m2 m3 m4
            go_wp2_with (at_builtin; refine wpList_append_own _ rfl _ _ 27 rfl w.heap.size 3 i0 (.int .i64 0) 1 8 Try.underlying27 hi hz0 hz1 hz2 rfl (by decide) _ _ _ rfl (hown2.alloc _) ⟨W2.heap.size, 0, none⟩ 1 1 [.int .i64 s.id] rfl rfl (cell_one _ _ _) (fun x hx => by simp at hx; subst hx; rfl) (by unfold maxLen; omega) (by omega) (by simp; omega) ?_; intro v' w4 hown' hgrow4 hnil4)
            go_roundw
            case rel =>
              refine ⟨k + 1, by omega, by go_num, ?_, (Below.then' B3.out (bel_alloc1 _ _)).grown hgrow4 (by simp; omega) (fun j e => (hown2.lt j e).1)⟩
              rw [FS.out, if_pos RR.out, List.map_append, show [s].map Sh.id = [s.id] from rfl, intCells_snoc]
              simpa using hown'
            case measure => simp [intOf]; omega
          · have hr' : nearB s x = false := by simpa using hr
            have RR := Lib.hid (show nbB x s = false from RB.out.trans hr')
            rw [hr'] at cR
            clear hr hr'
            go_wp2
            refine wp_region_quiet_below (by kernel_rfl) (by kernel_rfl) ?_
            repeat (first | go_big_quiet_step (exact cR _ _) | quiet_step (exact cR _ _))
            refine wpQuiet_nil ?_
            intro W2 hw2
            have hbw2 := below_of_re hw2
            have B3 := Lib.hid (Below.then' BR.out hbw2)
            have O2 := Lib.hid (ownsRow_below O.out hbw2)
            clear hw2 hbw2 cR k0 k1 k2 k3 k4 m0 m1 m2 m3 m4
            go_wp2
            go_roundw
            case rel => exact ⟨k + 1, by omega, by go_num, by rw [FS.out, RR.out]; simpa using O2.out, B3.out⟩
            case measure => simp [intOf]; omega
      · obtain rfl : k = len := by omega
        clear hbel
        go_wp2
        go_ret2
        refine ⟨_, ret_vb V.out.symm, ?_, BR.out⟩
        rw [V2.out]
        have h := O.out
        rw [List.take_of_length_le (by have := L.out; omega)] at h
        exact h
end Go.Proofs.Ytidaoijpbdljbaa
