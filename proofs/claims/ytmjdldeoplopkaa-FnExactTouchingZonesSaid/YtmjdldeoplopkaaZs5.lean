/- TouchingZones in the model, whole. -/
import Derived.Test.YtmjdldeoplopkaaZs4
namespace Go.Proofs.Ytmjdldeoplopkaa
open Go.RowKit

set_option maxHeartbeats 25600000 in
set_option maxRecDepth 100000 in
theorem specTouchingZones_any (a : Option Addr) (len cap : Nat) (xs : List VZone) (w : World) (h : IsZoneS w a len cap xs) (_ : xs.length ≤ 1048576) :
    Calls Try.prog 24 #[.slice a len cap] w (TouchingZones_Post xs w) := by
  obtain rfl := h.1
  obtain ⟨i0, hi, hz0, hz1, hz2⟩ := info_parts infoIntA2
  have hm := h.2.2.1
  have hcl := h.2.1
  unfold maxLen at hm
  have b0 := bel_al1 w (.cells #[] 42)
  have S0 := Lib.hid h
  have S := Lib.hid (h.below b0)
  have O0 := Lib.hid (made_A2 w)
  have B0 := Lib.hid b0
  clear h b0
  go_enter Try.func24, Try.ntmps24
  go_wp2_with fail
  refine (l6Zones_any _ _ _ xs _ S.out).mono ?_
  rintro e w1 ⟨rfl, hb⟩
  have B1 := Lib.hid (Below.then' B0.out hb)
  have O1 := Lib.hid (ownsRow_below O0.out hb)
  clear hb
  cases hg : zonesB xs with
  | false =>
    have E1 := Lib.hid (show TouchingZones_1 xs = false from hg)
    have E0 := Lib.hid (show TouchingZones_0 xs = [] from by unfold TouchingZones_0; rw [hg]; rfl)
    clear hg
    go_wp2
    go_ret2
    exact ⟨_, by rw [E1.out]; rfl, by rw [E0.out]; exact O1.out, B1.out⟩
  | true =>
  have HG := Lib.hid hg
  have E1 := Lib.hid (show TouchingZones_1 xs = true from hg)
  have E0 := Lib.hid (show TouchingZones_0 xs = touchUp xs xs.length from by unfold TouchingZones_0; rw [hg, touchUp_all]; rfl)
  have hl10 := zonesB_len hg
  clear hg
  go_wp2
  go_loopw [5, 4] (fun i o wr => ∃ k : Nat, k ≤ xs.length ∧ i = .int .i64 k ∧ wr.ownsRow w.heap.size 42 2 o (touchUp xs k).length (cellsIntA2 (touchUp xs k)) ∧ Below w.heap.size w wr) (fun i _ _ => xs.length - (intOf i).toNat)
  case atStart => exact ⟨0, Nat.zero_le _, rfl, O1.out, B1.out⟩
  case round =>
    obtain ⟨k, hk, rfl, hown, hbel⟩ := hrel
    have B := Lib.hid hbel
    by_cases hlt : k < xs.length
    · obtain ⟨z, hz⟩ : ∃ z, xs[k]? = some z := ⟨xs[k]'hlt, List.getElem?_eq_getElem _⟩
      have Z := Lib.hid hz
      have OKZ := Lib.hid (zonesB_ok HG.out (List.mem_of_getElem? hz))
      have O := Lib.hid hown
      have US := Lib.hid (touchUp_succ hz)
      have hi0 : (0 : Int) ≤ (k : Int) := by omega
      have hi1 : (k : Int) < (xs.length : Int) := by omega
      obtain ⟨wo, rfl⟩ : ∃ wo : World, wo = wr := ⟨_, rfl⟩
      clear hz hbel hown
      go_wp2
      go_loopw [6, 4] (fun jv ov wr => ∃ j : Nat, j ≤ xs.length - (k + 1) ∧ jv = .int .i64 ((k + 1 + j : Nat) : Int) ∧ wr.ownsRow w.heap.size 42 2 ov (touchUp xs k ++ touchRow z ((xs.drop (k + 1)).take j)).length (cellsIntA2 (touchUp xs k ++ touchRow z ((xs.drop (k + 1)).take j))) ∧ Below w.heap.size w wr) (fun jv _ _ => xs.length - (intOf jv).toNat)
      case atStart => exact ⟨0, Nat.zero_le _, by go_num, by simpa [touchRow] using O.out, B.out⟩
      case round =>
        obtain ⟨j, hj, rfl, hown, hbel⟩ := hrel
        have BI := Lib.hid hbel
        have hsm := touch_small (k := k) (j := j) (a := z) hl10 (by omega)
        obtain ⟨q, hq⟩ : ∃ q, k + 1 + j = q := ⟨_, rfl⟩
        rw [hq]
        by_cases hjl : q < xs.length
        · obtain ⟨y, hy⟩ : ∃ y, xs[q]? = some y := ⟨xs[q]'hjl, List.getElem?_eq_getElem _⟩
          obtain ⟨b, o, rfl, hbw, hat⟩ := (S0.out.below hbel).at (by omega)
          obtain ⟨c0, c1, c2, c3, c4⟩ := hat k z Z.out
          obtain ⟨d0, d1, d2, d3, d4⟩ := hat q y hy
          have AC := Lib.hid (hat k z Z.out)
          have AD := Lib.hid (hat q y hy)
          have RS := Lib.hid (touchRow_snoc (a := z) (show (xs.drop (k + 1))[j]? = some y by rw [List.getElem?_drop, hq]; exact hy))
          have OKY := Lib.hid (zonesB_ok HG.out (List.mem_of_getElem? hy))
          have HQ := Lib.hid hq
          obtain ⟨G, hG⟩ : ∃ G, touchUp xs k ++ touchRow z ((xs.drop (k + 1)).take j) = G := ⟨_, rfl⟩
          rw [hG] at hown hsm
          have GG := Lib.hid hG
          have OI := Lib.hid hown
          obtain ⟨t, ht⟩ : ∃ t, touchB z y = t := ⟨_, rfl⟩
          have TT := Lib.hid ht
          have hj0 : (0 : Int) ≤ (q : Int) := by omega
          have hj1 : (q : Int) < (xs.length : Int) := by omega
          have k0 := cell_regrown c0
          have k1 := cell_regrown c1
          have k2 := cell_regrown c2
          have k3 := cell_regrown c3
          have k4 := cell_regrown c4
          have m0 := cell_regrown d0
          have m1 := cell_regrown d1
          have m2 := cell_regrown d2
          have m3 := cell_regrown d3
          have m4 := cell_regrown d4
          have cQ := below_at (W := wr) (fun W' _ => ht ▸ l6Touch_any z y W' OKZ.out OKY.out)
          clear hy hat hG hown ht hbel hq c0 c1 c2 c3 c4 d0 d1 d2 d3 d4
          go_wp2
          refine wp_region_quiet_below (by kernel_rfl) (by kernel_rfl) ?_
          repeat (first | go_big_quiet_step (with_reducible exact cQ _ _) | quiet_step (with_reducible exact cQ _ _))
          refine wpQuiet_nil ?_
          intro w3 hw3
          have hb3 := below_of_re hw3
          have B3 := Lib.hid (Below.then' BI.out hb3)
          have O3 := Lib.hid (ownsRow_below OI.out hb3)
          have AC3 := Lib.hid (AC.out.below hb3 hbw)
          have AD3 := Lib.hid (AD.out.below hb3 hbw)
          have hs3 := B3.out.size
          have hbw3 : b < w3.heap.size := Nat.lt_of_lt_of_le hbw hb3.size
          clear hw3 hb3 cQ k0 k1 k2 k3 k4 m0 m1 m2 m3 m4
          cases t
          · go_wp2
            go_roundw
            case rel => exact ⟨j + 1, by have := HQ.out; omega, by have := HQ.out; go_num, by rw [RS.out, TT.out, ← List.append_assoc, GG.out]; simpa using O3.out, B3.out⟩
            case measure => simp [intOf]; omega
          · obtain ⟨c0, _⟩ := AC3.out
            obtain ⟨d0, _⟩ := AD3.out
            have O3d : w3.drew.ownsRow w.heap.size 42 2 _ G.length (cellsIntA2 G) := O3.out
            have O3A := Lib.hid (O3d.alloc (.cells #[.int .i64 z.Id, .int .i64 y.Id] 42))
            have BD := Lib.hid (show Below w.heap.size w (w3.drew.alloc (.cells #[.int .i64 z.Id, .int .i64 y.Id] 42)) from B3.out.drew.alloc hs3 _)
            have hb0 : b < w.heap.size := by
              obtain ⟨b', o', e', hb', _⟩ := S0.out.at (by omega)
              cases e'
              exact hb'
            have bd := (Below.refl w3.heap.size w3).drew.alloc (Nat.le_refl _) (.cells #[.int .i64 z.Id, .int .i64 y.Id] 42)
            have E0 := Lib.hid (cell_stay c0 bd)
            have F0 := Lib.hid (cell_stay d0 bd)
            have hne : ¬ b = w3.heap.size := by omega
            have hne2 : ¬ w3.heap.size = b := by omega
            have HSB := Lib.hid (show (w3.alloc (.cells #[.int .i64 z.Id, .int .i64 y.Id] 42)).drew.heap.size = w3.heap.size + 1 from size_al _ _)
            have HSA := Lib.hid (show w.heap.size ≤ (w3.alloc (.cells #[.int .i64 z.Id, .int .i64 y.Id] 42)).drew.heap.size from by rw [HSB.out]; omega)
            have HSC := Lib.hid (show b < (w3.alloc (.cells #[.int .i64 z.Id, .int .i64 y.Id] 42)).drew.heap.size from by rw [HSB.out]; omega)
            clear O3d bd
            go_wp2
            go_region_held3 (fun w' => w'.cell? ⟨b, o + k * 5, none⟩ = some (.int .i64 z.Id) ∧ w'.cell? ⟨b, o + q * 5, none⟩ = some (.int .i64 y.Id))
              (first | go_keep | exact ⟨E0.out, F0.out⟩ | exact ⟨(World.cell?_of_block (a := ⟨b, o + k * 5, none⟩) (hgrow4.block b HSC.out (fun e => by have := (O3A.out.lt b e.symm).1; omega))).trans E0.out, (World.cell?_of_block (a := ⟨b, o + q * 5, none⟩) (hgrow4.block b HSC.out (fun e => by have := (O3A.out.lt b e.symm).1; omega))).trans F0.out⟩)
              ((refine step_append_lies _ (by rfl) (.tmp 35) (.tmp 47) 38 (by rfl) w.heap.size 42 i0 (.agg #[.int .i64 0, .int .i64 0]) 2 16 Try.underlying38 hi hz0 hz1 hz2 (by rfl) (by decide) _ G.length (cellsIntA2 G) (by rfl) O3A.out ⟨w3.heap.size, 0, none⟩ 1 1 (VIntA2.vals ⟨z.Id, y.Id⟩) (by rfl) (by rfl) (cell_IntA2 w3.drew ⟨z.Id, y.Id⟩ _) (VIntA2.vals_one _) (by decide) (by unfold maxLen; omega) (by omega) HSA.out (w3.heap.size + 1) HSB.out ?_; intro g cap2 w4 hown4 hgrow4 hat4 hlt4))
            rename_i HH
            clear HH
            go_wp2
            go_roundw
            case rel =>
              refine ⟨j + 1, by have := HQ.out; omega, by have := HQ.out; go_num, ?_, BD.out.grown hgrow4 HSA.out (fun p e => (O3A.out.lt p e).1)⟩
              rw [RS.out, TT.out, if_pos rfl, ← List.append_assoc, GG.out, cellsIntA2_snoc, List.length_append]
              exact hown4
            case measure => simp [intOf]; omega
        · obtain rfl : j = xs.length - (k + 1) := by omega
          have hOI := hown
          rw [List.take_of_length_le (by rw [List.length_drop]; exact Nat.le_refl _), ← US.out] at hOI
          have OI := Lib.hid hOI
          clear hbel hown hOI hsm
          go_wp2
          go_roundw
          case rel => exact ⟨k + 1, by omega, by go_num, OI.out, BI.out⟩
          case measure => simp [intOf]; omega
    · obtain rfl : k = xs.length := by omega
      have O := Lib.hid hown
      clear hbel hown
      go_wp2
      go_ret2
      exact ⟨_, by rw [E1.out]; rfl, by rw [E0.out]; exact O.out, B.out⟩
end Go.Proofs.Ytmjdldeoplopkaa
