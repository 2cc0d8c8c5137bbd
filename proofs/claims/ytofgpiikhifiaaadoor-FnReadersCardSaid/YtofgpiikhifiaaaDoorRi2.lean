/- Readers in the program: AreReaders; the search for one; the copies. -/
import Derived.Test.YtofgpiikhifiaaaDoorRi
import Derived.Test.YtofgpiikhifiaaaDoorRd3
namespace Go.Proofs.YtofgpiikhifiaaaDoor
open Go.RowKit

set_option maxHeartbeats 6400000 in
set_option maxRecDepth 100000 in
theorem areRd_any (a : Option Addr) (len cap : Nat) (xs : List VReader) (w : World) (h : IsReaderS w a len cap xs) :
    Calls Tryd.prog 29 #[.slice a len cap] w fun e w' => e = .returned (.bool (areRd xs)) ∧ Below w.heap.size w w' := by
  have hm := h.2.2.1
  have hcl := h.2.1
  unfold maxLen at hm
  have S := Lib.hid h
  have L := Lib.hid h.1
  clear h
  by_cases h10 : (10 : Int) < (len : Int)
  · go_enter Tryd.func29, Tryd.ntmps29
    go_wp2
    go_ret
    exact ⟨ret_bool (by unfold areRd; have e := L.out; rw [decide_eq_false (by omega)]; simp), Below.refl _ _⟩
  go_enter Tryd.func29, Tryd.ntmps29
  go_wp2
  go_loopw [10] (fun i wr => ∃ k : Nat, k ≤ len ∧ i = .int .i64 k ∧ Below w.heap.size w wr ∧ ∀ j, j < k → upStep VReader.ok VReader.Id xs j = true) (fun i _ => len - (intOf i).toNat)
  case atStart => exact ⟨0, Nat.zero_le _, rfl, Below.refl _ _, by omega⟩
  case round =>
    obtain ⟨k, hk, rfl, hbel, hall⟩ := hrel
    have A := Lib.hid hall
    have B := Lib.hid hbel
    clear hall
    by_cases hlt : k < len
    · obtain ⟨s, hs⟩ := at_of L hlt
      obtain ⟨b, o, rfl, hb, hat⟩ := (S.out.below hbel).at (by omega)
      obtain ⟨c0, c1, c2, c3, c4, hsm⟩ := hat k s hs
      have AT := Lib.hid hat
      have K := Lib.hid hs
      have SM := Lib.hid hsm
      clear hs hat hbel hsm
      go_wp2
      refine wp_world (fun W => BoxReader W wr.heap.size s ∧ Below wr.heap.size wr W) ⟨BoxReader.new _ _ _ _ rfl, bel_al1 _ _⟩ ?_
      rintro W ⟨hbox, hbw⟩
      have BW := Lib.hid hbw
      obtain ⟨e0, e1, e2, e3, e4⟩ := hbox
      clear c0 c1 c2 c3 c4 hbw
      have k0 := cell_regrown e0
      have k1 := cell_regrown e1
      have k2 := cell_regrown e2
      have k3 := cell_regrown e3
      have k4 := cell_regrown e4
      clear e0 e1 e2 e3 e4
      have hi0 : (0 : Int) ≤ (k : Int) := by omega
      have hi1 : (k : Int) < (len : Int) := by omega
      rcases step_ways (ok := VReader.ok) (id := VReader.Id) K.out with ⟨h1, h2⟩ | ⟨h1, rfl, h2⟩ | ⟨h1, j, p, rfl, hp, h2⟩
      · have cQ := below_at (W := W) (fun W' _ => h1 ▸ isRd_any s W' SM.out)
        have Z := Lib.hid h2
        clear h1 h2
        refine wp_region_quiet_below (by kernel_rfl) (by kernel_rfl) ?_
        repeat (first | go_big_quiet_step (exact cQ _ _) | quiet_step (exact cQ _ _))
        refine wpQuiet_nil ?_
        intro W2 hw2
        have B2 := Lib.hid (Below.then' (Below.then' B.out BW.out) (below_of_re hw2))
        clear hw2 cQ k0 k1 k2 k3 k4
        go_wp2
        go_ret
        exact ⟨ret_bool (by unfold areRd rdUp; rw [upB_bad Z.out (by have := L.out; omega)]; rfl), B2.out⟩
      · have cQ := below_at (W := W) (fun W' _ => h1 ▸ isRd_any s W' SM.out)
        have Z := Lib.hid h2
        clear h1 h2
        refine wp_region_quiet_below (by kernel_rfl) (by kernel_rfl) ?_
        repeat (first | go_big_quiet_step (exact cQ _ _) | quiet_step (exact cQ _ _))
        refine wpQuiet_nil ?_
        intro W2 hw2
        have B2 := Lib.hid (Below.then' (Below.then' B.out BW.out) (below_of_re hw2))
        clear hw2 cQ k0 k1 k2 k3 k4
        go_wp2
        go_roundw
        case rel => exact ⟨1, by omega, by go_num, B2.out, all_succ' A.out Z.out⟩
        case measure => simp [intOf]; omega
      · have cQ := below_at (W := W) (fun W' _ => h1 ▸ isRd_any s W' SM.out)
        obtain ⟨p0, _⟩ := (AT.out j p hp).below BW.out hb
        have q0 := cell_regrown p0
        have hp0 : (0 : Int) ≤ (j : Int) := by omega
        have hp1 : (j : Int) < (len : Int) := by omega
        clear h1 hp p0
        rcases h2 with ⟨h2, h3⟩ | ⟨h2, h3⟩
        · have Z := Lib.hid h3
          clear h3
          refine wp_region_quiet_below (by kernel_rfl) (by kernel_rfl) ?_
          repeat (first | go_big_quiet_step (exact cQ _ _) | quiet_step (exact cQ _ _))
          refine wpQuiet_nil ?_
          intro W2 hw2
          have B2 := Lib.hid (Below.then' (Below.then' B.out BW.out) (below_of_re hw2))
          clear hw2 cQ k0 k1 k2 k3 k4 q0
          go_wp2
          go_roundw
          case rel => exact ⟨j + 1 + 1, by omega, by go_num, B2.out, all_succ' A.out Z.out⟩
          case measure => simp [intOf]; omega
        · have Z := Lib.hid h3
          clear h3
          refine wp_region_quiet_below (by kernel_rfl) (by kernel_rfl) ?_
          repeat (first | go_big_quiet_step (exact cQ _ _) | quiet_step (exact cQ _ _))
          refine wpQuiet_nil ?_
          intro W2 hw2
          have B2 := Lib.hid (Below.then' (Below.then' B.out BW.out) (below_of_re hw2))
          clear hw2 cQ k0 k1 k2 k3 k4 q0
          go_wp2
          go_ret
          exact ⟨ret_bool (by unfold areRd rdUp; rw [upB_bad Z.out (by have := L.out; omega)]; rfl), B2.out⟩
    · obtain rfl : k = len := by omega
      have U := Lib.hid (show areRd xs = true from by
        unfold areRd rdUp
        rw [upB_iff.2 (fun i hi => A.out i (by have := L.out; omega)), decide_eq_true (by have := L.out; omega)]; rfl)
      clear hbel
      go_wp2
      go_ret
      exact ⟨ret_bool U.out.symm, B.out⟩
end Go.Proofs.YtofgpiikhifiaaaDoor
