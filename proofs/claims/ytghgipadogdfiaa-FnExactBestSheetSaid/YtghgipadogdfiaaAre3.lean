/- When a list is one of sheets, in the program: AreSheets says as the model does. -/
import Derived.Test.YtghgipadogdfiaaIdx
namespace Go.Proofs.Ytghgipadogdfiaa
open Go.RowKit

theorem IsSheetS.take {w : World} {a : Option Addr} {len cap : Nat} {xs : List Sh} (h : IsSheetS w a len cap xs) {k : Nat} (hk : k ≤ len) : IsSheetS w a k cap (xs.take k) := by
  have hl := h.1
  refine ⟨by rw [List.length_take]; omega, by have := h.2.1; omega, h.2.2.1, ?_⟩
  by_cases h0 : k = 0
  · exact .inl h0
  · obtain ⟨b, o, rfl, hb, hat⟩ := h.at (by omega)
    refine .inr ⟨b, o, rfl, hb, fun j s hs => hat j s ?_⟩
    have hj : j < k := by have := (List.getElem?_eq_some_iff.1 hs).1; rw [List.length_take] at this; omega
    rwa [List.getElem?_take_of_lt hj] at hs

set_option maxHeartbeats 3200000 in
set_option maxRecDepth 100000 in
theorem implAreSheets_any (a : Option Addr) (len cap : Nat) (xs : List Sh) (w : World) (h : IsSheetS w a len cap xs) :
    Calls Try.prog 96 #[.slice a len cap] w fun e w' => e = .returned (.bool (areSh xs)) ∧ Below w.heap.size w w' := by
  have hm := h.2.2.1
  have hcl := h.2.1
  unfold maxLen at hm
  have S := Lib.hid h
  have L := Lib.hid h.1
  clear h
  by_cases h12 : 12 < len
  · go_enter Try.func96, Try.ntmps96
    go_wp2
    go_ret
    exact ⟨ret_bool (areSh_long (by have := L.out; omega)).symm, Below.refl _ _⟩
  go_enter Try.func96, Try.ntmps96
  go_wp2
  go_loopw [10] (fun i wr => ∃ k : Nat, k ≤ len ∧ i = .int .i64 k ∧ Below w.heap.size w wr ∧ ∀ j, j < k → okAt xs j = true) (fun i _ => len - (intOf i).toNat)
  case atStart => exact ⟨0, Nat.zero_le _, rfl, Below.refl _ _, by omega⟩
  case round =>
    obtain ⟨k, hk, rfl, hbel, hall⟩ := hrel
    have A := Lib.hid hall
    have B := Lib.hid hbel
    clear hall
    by_cases hlt : k < len
    · obtain ⟨s, hs⟩ := list_at L hlt
      obtain ⟨b, o, rfl, hb, hat⟩ := (S.out.below hbel).at (by omega)
      obtain ⟨c0, c1, c2, c3, c4⟩ := hat k s hs
      have AT := Lib.hid hat
      have K := Lib.hid hs
      clear hs hat hbel
      go_wp2
      refine wp_world (fun W => BoxAt W wr.heap.size s ∧ Below wr.heap.size wr W) ⟨boxAt_new _ _ _ _ rfl, bel_alloc1 _ _⟩ ?_
      rintro W ⟨hbox, hbw⟩
      have BX := Lib.hid hbox
      have BW := Lib.hid hbw
      have SW := Lib.hid ((S.out.below B.out).below hbw)
      obtain ⟨e0, e1, e2, e3, e4⟩ := hbox
      clear c0 c1 c2 c3 c4 hbw
      have k0 := cell_regrown e0
      have k1 := cell_regrown e1
      have k2 := cell_regrown e2
      have k3 := cell_regrown e3
      have k4 := cell_regrown e4
      clear e0 e1 e2 e3 e4
      have hi0 : (0 : Int) ≤ (k : Int) := by omega
      have hi1 : (k : Int) < (len : Int) := by omega
      have hi2 : (k : Int) ≤ (cap : Int) := by omega
      rcases okAt_ways K.out with h1 | ⟨h1, j, p, rfl, hp, h2⟩ | ⟨h1, h2⟩
      · have Z := Lib.hid h1
        have cQ := below_at (W := W) (fun W' _ => h1 ▸ implIsSheet_any s W')
        clear h1
        refine wp_region_quiet_below (by kernel_rfl) (by kernel_rfl) ?_
        repeat (first | go_big_quiet_step (exact cQ _ _) | quiet_step (exact cQ _ _))
        refine wpQuiet_nil ?_
        intro W2 hw2
        have B2 := Lib.hid (Below.then' (Below.then' B.out BW.out) (below_of_re hw2))
        clear hw2 cQ k0 k1 k2 k3 k4
        go_wp2
        go_ret
        exact ⟨ret_bool (areSh_bad (okAt_bad1 K.out Z.out) (by have := L.out; omega)).symm, B2.out⟩
      · have Z := Lib.hid h1
        obtain ⟨p0, p1, p2, p3, p4⟩ := (AT.out j p hp).below BW.out (by exact (World.lt_of_cell (AT.out j p hp).1))
        have q0 := cell_regrown p0
        clear p0 p1 p2 p3 p4
        have cQ := below_at (W := W) (fun W' _ => h1 ▸ implIsSheet_any s W')
        have K2 := Lib.hid (okAt_bad2 K.out hp h2)
        have hp0 : (0 : Int) ≤ (j : Int) := by omega
        have hp1 : (j : Int) < (len : Int) := by omega
        clear h1 hp
        refine wp_region_quiet_below (by kernel_rfl) (by kernel_rfl) ?_
        repeat (first | go_big_quiet_step (exact cQ _ _) | quiet_step (exact cQ _ _))
        refine wpQuiet_nil ?_
        intro W2 hw2
        have B2 := Lib.hid (Below.then' (Below.then' B.out BW.out) (below_of_re hw2))
        clear hw2 cQ k0 k1 k2 k3 k4 q0
        go_wp2
        go_ret
        exact ⟨ret_bool (areSh_bad K2.out (by have := L.out; omega)).symm, B2.out⟩
      · have Z := Lib.hid h1
        have cQ := below_at (W := W) (fun W' _ => h1 ▸ implIsSheet_any s W')
        clear h1
        rcases h2 with rfl | ⟨j, p, rfl, hp, h2⟩
        · have G := Lib.hid (okAt_good0 K.out Z.out)
          refine wp_region_quiet_below (by kernel_rfl) (by kernel_rfl) ?_
          repeat (first | go_big_quiet_step (exact cQ _ _) | quiet_step (exact cQ _ _))
          refine wpQuiet_nil ?_
          intro W2 hw2
          have hb2 := below_of_re hw2
          have S2 := Lib.hid (SW.out.below hb2)
          have B2 := Lib.hid (Below.then' (Below.then' B.out BW.out) hb2)
          obtain ⟨f0, f1, f2, f3, f4⟩ := BX.out.below hb2
          clear hw2 hb2 cQ k0 k1 k2 k3 k4
          have k1 := cell_regrown f1
          have k2 := cell_regrown f2
          have k3 := cell_regrown f3
          have cA := below_at (W := W2) (fun W' hb => indexAt_any (some ⟨b, o, none⟩) 0 cap (xs.take 0) s.row s.col s.scale W' ((S2.out.below hb).take (Nat.zero_le _)))
          rw [show idxAt (xs.take 0) s.row s.col s.scale = -1 from rfl] at cA
          clear f0 f1 f2 f3 f4
          go_wp2
          refine wp_region_quiet_below (by kernel_rfl) (by kernel_rfl) ?_
          repeat (first | go_big_quiet_step (exact cA _ _) | quiet_step (exact cA _ _))
          refine wpQuiet_nil ?_
          intro W3 hw3
          have B3 := Lib.hid (Below.then' B2.out (below_of_re hw3))
          clear hw3 cA k1 k2 k3
          go_wp2
          go_roundw
          case rel => exact ⟨1, by omega, by go_num, B3.out, all_succ A.out G.out⟩
          case measure => simp [intOf]; omega
        · obtain ⟨p0, p1, p2, p3, p4⟩ := (AT.out j p hp).below BW.out (by exact (World.lt_of_cell (AT.out j p hp).1))
          have q0 := cell_regrown p0
          clear p0 p1 p2 p3 p4
          have P := Lib.hid hp
          have hp0 : (0 : Int) ≤ (j : Int) := by omega
          have hp1 : (j : Int) < (len : Int) := by omega
          clear hp
          refine wp_region_quiet_below (by kernel_rfl) (by kernel_rfl) ?_
          repeat (first | go_big_quiet_step (exact cQ _ _) | quiet_step (exact cQ _ _))
          refine wpQuiet_nil ?_
          intro W2 hw2
          have hb2 := below_of_re hw2
          have S2 := Lib.hid (SW.out.below hb2)
          have B2 := Lib.hid (Below.then' (Below.then' B.out BW.out) hb2)
          obtain ⟨f0, f1, f2, f3, f4⟩ := BX.out.below hb2
          clear hw2 hb2 cQ k0 k1 k2 k3 k4 q0
          have k1 := cell_regrown f1
          have k2 := cell_regrown f2
          have k3 := cell_regrown f3
          obtain ⟨z, hz⟩ : ∃ z, idxAt (xs.take (j + 1)) s.row s.col s.scale = z := ⟨_, rfl⟩
          have cA := below_at (W := W2) (fun W' hb => hz ▸ indexAt_any (some ⟨b, o, none⟩) (j + 1) cap (xs.take (j + 1)) s.row s.col s.scale W' ((S2.out.below hb).take (by omega)))
          have ZI := Lib.hid (idxAt_before (xs := xs) (i := j + 1) (s := s))
          rw [hz] at ZI
          clear f0 f1 f2 f3 f4 hz
          by_cases hzn : z < 0
          · have G := Lib.hid (okAt_good K.out Z.out P.out h2 (ZI.out.1 hzn))
            go_wp2
            refine wp_region_quiet_below (by kernel_rfl) (by kernel_rfl) ?_
            repeat (first | go_big_quiet_step (exact cA _ _) | quiet_step (exact cA _ _))
            refine wpQuiet_nil ?_
            intro W3 hw3
            have B3 := Lib.hid (Below.then' B2.out (below_of_re hw3))
            clear hw3 cA k1 k2 k3
            go_wp2
            go_roundw
            case rel => exact ⟨j + 1 + 1, by omega, by go_num, B3.out, all_succ A.out G.out⟩
            case measure => simp [intOf]; omega
          · have hzp : 0 ≤ z := by omega
            have BAD : ((xs.take (j + 1)).any fun t => t.at_ s.row s.col s.scale) = true := by
              by_cases h : ((xs.take (j + 1)).any fun t => t.at_ s.row s.col s.scale) = true
              · exact h
              · exact absurd (ZI.out.2 (by simpa using h)) hzn
            have G := Lib.hid (areSh_bad (okAt_bad3 K.out BAD) (by have := L.out; omega))
            clear BAD hzn
            go_wp2
            refine wp_region_quiet_below (by kernel_rfl) (by kernel_rfl) ?_
            repeat (first | go_big_quiet_step (exact cA _ _) | quiet_step (exact cA _ _))
            refine wpQuiet_nil ?_
            intro W3 hw3
            have B3 := Lib.hid (Below.then' B2.out (below_of_re hw3))
            clear hw3 cA k1 k2 k3
            go_wp2
            go_ret
            exact ⟨ret_bool G.out.symm, B3.out⟩
    · obtain rfl : k = len := by omega
      clear hbel
      go_wp2
      go_ret
      exact ⟨ret_bool (areSh_iff.2 ⟨by have := L.out; omega, fun i hi => A.out i (by have := L.out; omega)⟩).symm, B.out⟩
end Go.Proofs.Ytghgipadogdfiaa
