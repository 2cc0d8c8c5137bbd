/- ShowsOverview in the model: the ids that the program gives. -/
import Derived.Test.YtidaoijpbdljbaaSpecIds
namespace Go.Proofs.Ytidaoijpbdljbaa
open Go.RowKit

set_option maxHeartbeats 3200000 in
set_option maxRecDepth 100000 in
theorem specShowsOverview_any (a : Option Addr) (len cap : Nat) (xs : List Sh) (id : Int) (w : World) (h : IsSheetS w a len cap xs) :
    Calls Try.prog 25 #[.slice a len cap, .int .i64 id] w (IntsOk (relIds ovB xs id) (relOk xs id) w) := by
  have hm := h.2.2.1
  have hcl := h.2.1
  unfold maxLen at hm
  have S := Lib.hid h
  have L := Lib.hid h.1
  have B0 := Lib.hid (bel_alloc1 w (.cells #[] 3))
  have S1 := Lib.hid (h.below B0.out)
  have O0 := Lib.hid (World.ownsRow_made (base := w.heap.size) (e := 3) (size := 1) w #[] 0 (by simp) (Nat.zero_le _) rfl)
  clear h
  rcases rel_ways ovB xs id with ⟨h1, h3, h4⟩ | ⟨h1, h2, h3, h4⟩ | ⟨h1, p, x, h2, hs, h3, h4⟩
  · have V := Lib.hid h3
    have V2 := Lib.hid h4
    have H1 := Lib.hid h1
    clear h1 h3 h4
    go_enter Try.func25, Try.ntmps25
    go_wp2_with fail
    refine (l2Find_any _ _ _ xs id _ S1.out).mono ?_
    rintro e w' ⟨rfl, rfl⟩
    go_wp2_with fail
    refine (l2Sheets_any _ _ _ xs _ S1.out).mono ?_
    rintro e w1 ⟨rfl, hb⟩
    have B := Lib.hid (Below.then' B0.out hb)
    have O1 := Lib.hid (ownsRow_below O0.out hb)
    clear hb
    rw [H1.out]
    go_wp2
    go_ret2
    exact ⟨_, ret_vb V.out.symm, by rw [V2.out]; exact O1.out, B.out⟩
  · have V := Lib.hid h3
    have V2 := Lib.hid h4
    have H1 := Lib.hid h1
    have H2 := Lib.hid h2
    clear h1 h2 h3 h4
    go_enter Try.func25, Try.ntmps25
    go_wp2_with fail
    refine (l2Find_any _ _ _ xs id _ S1.out).mono ?_
    rintro e w' ⟨rfl, rfl⟩
    rw [H2.out]
    go_wp2_with fail
    refine (l2Sheets_any _ _ _ xs _ S1.out).mono ?_
    rintro e w1 ⟨rfl, hb⟩
    have B := Lib.hid (Below.then' B0.out hb)
    have O1 := Lib.hid (ownsRow_below O0.out hb)
    clear hb
    rw [H1.out]
    go_wp2
    go_ret2
    exact ⟨_, ret_vb V.out.symm, by rw [V2.out]; exact O1.out, B.out⟩
  · obtain ⟨i0, hi, hz0, hz1, hz2⟩ := info_parts infoInt
    have V := Lib.hid h3
    have V2 := Lib.hid h4
    have H1 := Lib.hid h1
    have H2 := Lib.hid h2
    have hil : p < len := by have := (List.getElem?_eq_some_iff.1 hs).1; have := L.out; omega
    have l12 : len ≤ 12 := by have := (areSh_iff.1 h1).1; have := L.out; omega
    have XS := Lib.hid hs
    have hj0 : (0 : Int) ≤ (p : Int) := by omega
    have hj1 : (p : Int) < (len : Int) := by omega
    clear h1 h2 h3 h4 hs
    go_enter Try.func25, Try.ntmps25
    go_wp2_with fail
    refine (l2Find_any _ _ _ xs id _ S1.out).mono ?_
    rintro e w' ⟨rfl, rfl⟩
    rw [H2.out]
    go_wp2_with fail
    refine (l2Sheets_any _ _ _ xs _ S1.out).mono ?_
    rintro e w1 ⟨rfl, hb⟩
    have B1 := Lib.hid (Below.then' B0.out hb)
    have O1 := Lib.hid (ownsRow_below O0.out hb)
    obtain ⟨xb, xo, xe, hxb, hxat⟩ := (S.out.below B1.out).at (by omega)
    subst xe
    obtain ⟨x0, x1, x2, x3, x4⟩ := hxat p x XS.out
    obtain ⟨_, ⟨a1, a2⟩, ⟨a3, a4⟩, ⟨a5, a6⟩, _⟩ := Sh.ok_iff.1 (areSh_ok H1.out (List.mem_of_getElem? XS.out))
    obtain ⟨mm1, mm2⟩ := mul_bd a1 a2 a5 a6
    obtain ⟨mm3, mm4⟩ := mul_bd a3 a4 a5 a6
    have wm1 : IntKind.i64.wrap (x.row * x.scale) = x.row * x.scale := IntWalk.i64_in _ (by omega)
    have wm2 : IntKind.i64.wrap (x.col * x.scale) = x.col * x.scale := IntWalk.i64_in _ (by omega)
    clear hxat
    clear hb
    rw [H1.out]
    go_wp2
    go_quiet (fail)
    have hdr := bel_drawn w1 nq
    have O2 := Lib.hid (ownsRow_below O1.out hdr)
    have B2 := Lib.hid (Below.then' B1.out hdr)
    clear hdr x0 x1 x2 x3 x4
    go_wp2
    go_loopw [10, 6] (fun j o wr => ∃ k : Nat, k ≤ len ∧ j = .int .i64 k ∧ wr.ownsRow w.heap.size 3 1 o (((xs.take k).filter (ovB x)).map Sh.id).length (intCells (((xs.take k).filter (ovB x)).map Sh.id)) ∧ Below w.heap.size w wr) (fun j _ _ => len - (intOf j).toNat)
    case atStart => exact ⟨0, Nat.zero_le _, rfl, O2.out, B2.out⟩
    case round =>
      obtain ⟨k, hk, rfl, hown, hbel⟩ := hrel
      have O := Lib.hid hown
      have BR := Lib.hid hbel
      clear hown
      by_cases hlt : k < len
      · obtain ⟨s, hs⟩ := list_at L hlt
        obtain ⟨b, o, hbo, hb, hat⟩ := (S.out.below hbel).at (by omega)
        cases hbo
        obtain ⟨c0, c1, c2, c3, c4⟩ := hat k s hs
        have AX := Lib.hid (hat p x XS.out)
        have FS := Lib.hid (filter_snoc (ovB x) hs)
        have OKS := Lib.hid (areSh_ok H1.out (List.mem_of_getElem? hs))
        have hfl := filter_len (ovB x) xs k
        clear hs hat hbel
        go_wp2
        refine wp_world (fun W => BoxAt W wr.heap.size s ∧ Below wr.heap.size wr W) ⟨boxAt_new _ _ _ _ rfl, bel_alloc1 _ _⟩ ?_
        rintro W ⟨hbox, hbw⟩
        have BX := Lib.hid hbox
        have BW := Lib.hid hbw
        obtain ⟨e0, e1, e2, e3, e4⟩ := hbox
        obtain ⟨g0, g1, g2, g3, g4⟩ := AX.out.below hbw hb
        clear c0 c1 c2 c3 c4 hbw
        have k0 := cell_regrown e0
        have k1 := cell_regrown e1
        have k2 := cell_regrown e2
        have k3 := cell_regrown e3
        have k4 := cell_regrown e4
        have m0 := cell_regrown g0
        have m1 := cell_regrown g1
        have m2 := cell_regrown g2
        have m3 := cell_regrown g3
        have m4 := cell_regrown g4
        clear e0 e1 e2 e3 e4 g0 g1 g2 g3 g4
        obtain ⟨_, ⟨b1, b2⟩, ⟨b3, b4⟩, ⟨b5, b6⟩, _⟩ := Sh.ok_iff.1 OKS.out
        obtain ⟨n1, n2⟩ := mul_bd b1 b2 b5 b6
        obtain ⟨n3, n4⟩ := mul_bd b3 b4 b5 b6
        have wn1 : IntKind.i64.wrap (s.row * s.scale) = s.row * s.scale := IntWalk.i64_in _ (by omega)
        have wn2 : IntKind.i64.wrap (s.col * s.scale) = s.col * s.scale := IntWalk.i64_in _ (by omega)
        have wn3 : IntKind.i64.wrap (x.row * x.scale - s.row * s.scale) = x.row * x.scale - s.row * s.scale := IntWalk.i64_in _ (by omega)
        have wn4 : IntKind.i64.wrap (x.col * x.scale - s.col * s.scale) = x.col * x.scale - s.col * s.scale := IntWalk.i64_in _ (by omega)
        have wn5 : IntKind.i64.wrap (s.scale - 1) = s.scale - 1 := IntWalk.i64_in _ (by omega)
        have cI1 := below_at (W := W) (fun W' _ => same_below (l1In_any (x.row * x.scale - s.row * s.scale) 0 (s.scale - 1) W'))
        have cI2 := below_at (W := W) (fun W' _ => same_below (l1In_any (x.col * x.scale - s.col * s.scale) 0 (s.scale - 1) W'))
        by_cases hg : x.scale < s.scale
        · have GG := Lib.hid hg
          by_cases hr1 : inB (x.row * x.scale - s.row * s.scale) 0 (s.scale - 1) = true
          · have R1 := Lib.hid hr1
            rw [hr1] at cI1
            clear hr1
            by_cases hr2 : inB (x.col * x.scale - s.col * s.scale) 0 (s.scale - 1) = true
            · have R2 := Lib.hid hr2
              rw [hr2] at cI2
              clear hr2
              have RR := Lib.hid (show ovB x s = true from by unfold ovB; rw [decide_eq_true GG.out, R1.out, R2.out]; rfl)
              refine wp_region_quiet_below (by kernel_rfl) (by kernel_rfl) ?_
              repeat (first | go_big_quiet_step (first | (with_reducible exact cI1 _ _) | (with_reducible exact cI2 _ _)) | quiet_step (first | (with_reducible exact cI1 _ _) | (with_reducible exact cI2 _ _)))
              refine wpQuiet_nil ?_
              intro W2 hw2
              have hb2 := below_of_re hw2
              obtain ⟨c0, c1, c2, c3, c4⟩ := BX.out.below hb2
              have hbw2 := Below.then' BW.out hb2
              have B3 := Lib.hid (Below.then' BR.out hbw2)
              have hown2 := ownsRow_below O.out hbw2
              have hsz := B3.out.size
              have hrl : (((xs.take k).filter (ovB x)).map Sh.id).length ≤ k := by simpa using hfl
              clear hw2 hb2 hbw2 cI1 cI2 k0 k1 k2 k3 k4 m0 m1 m2 m3 m4
              go_wp2_with (at_builtin; refine wpList_append_own _ rfl _ _ 27 rfl w.heap.size 3 i0 (.int .i64 0) 1 8 Try.underlying27 hi hz0 hz1 hz2 rfl (by decide) _ _ _ rfl (hown2.alloc _) ⟨W2.heap.size, 0, none⟩ 1 1 [.int .i64 s.id] rfl rfl (cell_one _ _ _) (fun x hx => by simp at hx; subst hx; rfl) (by unfold maxLen; omega) (by omega) (by simp; omega) ?_; intro v' w4 hown' hgrow4 hnil4)
              go_roundw
              case rel =>
                refine ⟨k + 1, by omega, by go_num, ?_, (Below.then' B3.out (bel_alloc1 _ _)).grown hgrow4 (by simp; omega) (fun j e => (hown2.lt j e).1)⟩
                rw [FS.out, if_pos RR.out, List.map_append, show [s].map Sh.id = [s.id] from rfl, intCells_snoc]
                simpa using hown'
              case measure => simp [intOf]; omega
            · have hr2' : inB (x.col * x.scale - s.col * s.scale) 0 (s.scale - 1) = false := by simpa using hr2
              have R2 := Lib.hid hr2'
              rw [hr2'] at cI2
              clear hr2 hr2'
              have RR := Lib.hid (show ovB x s = false from by unfold ovB; rw [R2.out]; simp)
              refine wp_region_quiet_below (by kernel_rfl) (by kernel_rfl) ?_
              repeat (first | go_big_quiet_step (first | (with_reducible exact cI1 _ _) | (with_reducible exact cI2 _ _)) | quiet_step (first | (with_reducible exact cI1 _ _) | (with_reducible exact cI2 _ _)))
              refine wpQuiet_nil ?_
              intro W2 hw2
              have hbw2 := Below.then' BW.out (below_of_re hw2)
              have B3 := Lib.hid (Below.then' BR.out hbw2)
              have O2 := Lib.hid (ownsRow_below O.out hbw2)
              clear hw2 hbw2 cI1 cI2 k0 k1 k2 k3 k4 m0 m1 m2 m3 m4
              go_wp2
              go_roundw
              case rel => exact ⟨k + 1, by omega, by go_num, by rw [FS.out, RR.out]; simpa using O2.out, B3.out⟩
              case measure => simp [intOf]; omega
          · have hr1' : inB (x.row * x.scale - s.row * s.scale) 0 (s.scale - 1) = false := by simpa using hr1
            have R1 := Lib.hid hr1'
            rw [hr1'] at cI1
            clear hr1 hr1'
            have RR := Lib.hid (show ovB x s = false from by unfold ovB; rw [R1.out]; simp)
            refine wp_region_quiet_below (by kernel_rfl) (by kernel_rfl) ?_
            repeat (first | go_big_quiet_step (first | (with_reducible exact cI1 _ _) | (with_reducible exact cI2 _ _)) | quiet_step (first | (with_reducible exact cI1 _ _) | (with_reducible exact cI2 _ _)))
            refine wpQuiet_nil ?_
            intro W2 hw2
            have hbw2 := Below.then' BW.out (below_of_re hw2)
            have B3 := Lib.hid (Below.then' BR.out hbw2)
            have O2 := Lib.hid (ownsRow_below O.out hbw2)
            clear hw2 hbw2 cI1 cI2 k0 k1 k2 k3 k4 m0 m1 m2 m3 m4
            go_wp2
            go_roundw
            case rel => exact ⟨k + 1, by omega, by go_num, by rw [FS.out, RR.out]; simpa using O2.out, B3.out⟩
            case measure => simp [intOf]; omega
        · have GG := Lib.hid hg
          have hg2 : s.scale ≤ x.scale := by omega
          have hg3 : decide (x.scale < s.scale) = false := by simp; omega
          have RR := Lib.hid (show ovB x s = false from by unfold ovB; rw [decide_eq_false (by omega)]; rfl)
          refine wp_region_quiet_below (by kernel_rfl) (by kernel_rfl) ?_
          repeat (first | go_big_quiet_step (first | (with_reducible exact cI1 _ _) | (with_reducible exact cI2 _ _)) | quiet_step (first | (with_reducible exact cI1 _ _) | (with_reducible exact cI2 _ _)))
          refine wpQuiet_nil ?_
          intro W2 hw2
          have hbw2 := Below.then' BW.out (below_of_re hw2)
          have B3 := Lib.hid (Below.then' BR.out hbw2)
          have O2 := Lib.hid (ownsRow_below O.out hbw2)
          clear hw2 hbw2 cI1 cI2 k0 k1 k2 k3 k4 m0 m1 m2 m3 m4
          go_wp2
          go_roundw
          case rel => exact ⟨k + 1, by omega, by go_num, by rw [FS.out, RR.out]; simpa using O2.out, B3.out⟩
          case measure => simp [intOf]; omega
      · obtain rfl : k = len := by omega
        clear hbel
        go_wp2
        go_ret2
        refine ⟨_, ret_vb V.out.symm, ?_, BR.out⟩
        rw [V2.out]
        have h := O.out
        rw [List.take_of_length_le (by have := L.out; omega)] at h
        exact h
end Go.Proofs.Ytidaoijpbdljbaa
