/- MissingSheets in the program, once the corners are known: the pairs that are asked. -/
import Derived.Test.YtidaoijpbdljbaaMiss2
import Derived.Test.YtidaoijpbdljbaaIdx
namespace Go.Proofs.Ytidaoijpbdljbaa
open Go.RowKit

theorem nil_pairs (w : World) (base : Nat) : w.ownsRow base 79 2 (.slice none 0 0) ([] : List (Int × Int)).length (prCells []) := ⟨by simp [prCells], .inl ⟨rfl, rfl⟩⟩
/-- What cornersOf gives, at any sheets. -/
def CornersSaid : Prop := ∀ (a : Option Addr) (len cap : Nat) (ys : List Sh) (w : World), IsSheetS w a len cap ys → 0 < len → len ≤ 12 → Calls Try.prog 74 #[.slice a len cap] w fun e w' => ∃ y z : Sh, e = .returned (.tuple #[.agg #[.int .i64 y.id, .int .i64 y.row, .int .i64 y.col, .int .i64 y.scale, .int .i64 y.year], .agg #[.int .i64 z.id, .int .i64 z.row, .int .i64 z.col, .int .i64 z.scale, .int .i64 z.year]]) ∧ Corners ys y.row z.row y.col z.col ∧ Below w.heap.size w w'

set_option maxHeartbeats 3200000 in
set_option maxRecDepth 100000 in
theorem implMissingSheets_of (HC : CornersSaid) (a : Option Addr) (len cap : Nat) (xs : List Sh) (sc : Int) (w : World) (h : IsSheetS w a len cap xs) :
    Calls Try.prog 41 #[.slice a len cap, .int .i64 sc] w (MissPost sc xs w) := by
  have S := Lib.hid h
  have HCO := Lib.hid HC
  clear h HC
  obtain ⟨i0, hi, hzz, hz1, hz2⟩ := info_parts infoPair
  go_enter Try.func41, Try.ntmps41
  go_wp2_with fail
  refine (sheetsOfScale_any a len cap xs sc _ S.out).mono ?_
  rintro e w1 ⟨a1, cap1, ys, rfl, hy, hso, his, hb⟩
  have B1 := Lib.hid hb
  clear hb
  by_cases hl : 0 < ys.length
  · rw [show decide (0 < ys.length) = true from by simpa using hl]
    obtain ⟨har, hpe⟩ : areSh xs = true ∧ ys.Perm (ofScale sc xs) := by
      rcases hy with h | ⟨_, h⟩
      · exact h
      · subst h; simp at hl
    have n12 : ys.length ≤ 12 := by
      rw [hpe.length_eq]
      exact Nat.le_trans (List.length_filter_le _ _) (areSh_iff.1 har).1
    have H1 := Lib.hid har
    have PE := Lib.hid hpe
    have NZ := Lib.hid (show (ofScale sc xs).length = ys.length from hpe.length_eq.symm)
    obtain ⟨nz, hn⟩ : ∃ n, ys.length = n := ⟨_, rfl⟩
    have YS := Lib.hid (show IsSheetS w1 a1 nz cap1 ys from hn ▸ his)
    rw [hn] at hl n12 NZ ⊢
    clear hy hso his har hpe hn
    go_wp2_with fail
    refine (HCO.out _ _ _ ys _ YS.out hl n12).mono ?_
    rintro e w2 ⟨y, z, rfl, hcy, hb2⟩
    have hC := hcy.perm PE.out
    obtain ⟨lo, hlo⟩ : ∃ v, y.row = v := ⟨_, rfl⟩
    obtain ⟨hi', hhi⟩ : ∃ v, z.row = v := ⟨_, rfl⟩
    obtain ⟨le, hle⟩ : ∃ v, y.col = v := ⟨_, rfl⟩
    obtain ⟨ri, hri⟩ : ∃ v, z.col = v := ⟨_, rfl⟩
    obtain ⟨y0, y1, y2, y3, y4⟩ := y
    obtain ⟨z0, z1, z2, z3, z4⟩ := z
    simp only at hlo hhi hle hri hC
    subst hlo hhi hle hri
    have B2 := Lib.hid hb2
    clear hcy hb2
    obtain ⟨⟨b1, b2, b3⟩, ⟨b4, b5, b6⟩, _⟩ := corners_in H1.out hC
    have CC := Lib.hid hC
    obtain ⟨ar1, ar2⟩ := area_bd (p := z1 - y1 + 1) (q := z2 - y2 + 1) (by omega) (by omega) (by omega) (by omega)
    have v1 : IntKind.i64.wrap (z1 - y1) = z1 - y1 := IntWalk.i64_in _ (by omega)
    have v2 : IntKind.i64.wrap (z1 - y1 + 1) = z1 - y1 + 1 := IntWalk.i64_in _ (by omega)
    have v3 : IntKind.i64.wrap (z2 - y2) = z2 - y2 := IntWalk.i64_in _ (by omega)
    have v4 : IntKind.i64.wrap (z2 - y2 + 1) = z2 - y2 + 1 := IntWalk.i64_in _ (by omega)
    have v5 : IntKind.i64.wrap ((z1 - y1 + 1) * (z2 - y2 + 1)) = (z1 - y1 + 1) * (z2 - y2 + 1) := IntWalk.i64_in _ (by omega)
    have v6 : IntKind.i64.wrap ((z1 - y1 + 1) * (z2 - y2 + 1) - (nz : Int)) = (z1 - y1 + 1) * (z2 - y2 + 1) - (nz : Int) := IntWalk.i64_in _ (by omega)
    clear hC
    have B3 := Lib.hid (Below.then' (Below.then' B1.out B2.out) (bel_alloc2 w2 (.cells #[.int .i64 y0, .int .i64 y1, .int .i64 y2, .int .i64 y3, .int .i64 y4] 35) (.cells #[.int .i64 z0, .int .i64 z1, .int .i64 z2, .int .i64 z3, .int .i64 z4] 35)))
    have Y3 := Lib.hid ((YS.out.below B2.out).below (bel_alloc2 w2 (.cells #[.int .i64 y0, .int .i64 y1, .int .i64 y2, .int .i64 y3, .int .i64 y4] 35) (.cells #[.int .i64 z0, .int .i64 z1, .int .i64 z2, .int .i64 z3, .int .i64 z4] 35)))
    by_cases hbig : 400 < (z1 - y1 + 1) * (z2 - y2 + 1) - (nz : Int)
    · have g3 : decide (400 < (z1 - y1 + 1) * (z2 - y2 + 1) - (nz : Int)) = true := decide_eq_true hbig
      have BIG := Lib.hid hbig
      go_wp2
      go_ret2
      exact ⟨[], false, _, rfl, .inr ⟨H1.out, y1, z1, y2, z2, CC.out, .inl ⟨by rw [NZ.out]; exact BIG.out, rfl, rfl⟩⟩, by simp, nil_pairs _ _, B3.out⟩
    · have g3 : decide (400 < (z1 - y1 + 1) * (z2 - y2 + 1) - (nz : Int)) = false := decide_eq_false hbig
      have BIG := Lib.hid hbig
      obtain ⟨N, hN⟩ : ∃ N, (z1 - y1 + 1).toNat = N := ⟨_, rfl⟩
      obtain ⟨M, hM⟩ : ∃ M, (z2 - y2 + 1).toNat = M := ⟨_, rfl⟩
      have N1 : (N : Int) = z1 - y1 + 1 := by omega
      have M1 : (M : Int) = z2 - y2 + 1 := by omega
      have HN := Lib.hid hN
      have HM := Lib.hid hM
      have WN := Lib.hid N1
      have WM := Lib.hid M1
      have nN : N ≤ 100 := by omega
      have nM : M ≤ 100 := by omega
      have BX8 := (boxAt_new w2 35 ⟨y0, y1, y2, y3, y4⟩ _ rfl).below (bel_alloc1 _ (.cells #[.int .i64 z0, .int .i64 z1, .int .i64 z2, .int .i64 z3, .int .i64 z4] 35))
      have BX9 := boxAt_new (w2.alloc (.cells #[.int .i64 y0, .int .i64 y1, .int .i64 y2, .int .i64 y3, .int .i64 y4] 35)) 35 ⟨z0, z1, z2, z3, z4⟩ (w2.heap.size + 1) (size_alloc _ _)
      have BX8 := Lib.hid BX8
      have BX9 := Lib.hid BX9
      clear hN hM N1 M1
      go_wp2
      refine wp_world (fun W => Below w.heap.size w W ∧ IsSheetS W a1 nz cap1 ys ∧ BoxAt W w2.heap.size ⟨y0, y1, y2, y3, y4⟩ ∧ BoxAt W (w2.heap.size + 1) ⟨z0, z1, z2, z3, z4⟩) ⟨B3.out, Y3.out, BX8.out, BX9.out⟩ ?_
      rintro W ⟨hbw, hys, h8, h9⟩
      have BW := Lib.hid hbw
      have YW := Lib.hid hys
      have X8 := Lib.hid h8
      have X9 := Lib.hid h9
      clear hbw hys h8 h9 v1 v2 v3 v4 v5 v6 g3 hbig ar1 ar2
      go_loopw [12, 11] (fun i o V => ∃ R : Nat, R ≤ N ∧ i = .int .i64 (y1 + (R : Int)) ∧ V.ownsRow W.heap.size 79 2 o (gapsRow ys sc y1 y2 R M).length (prCells (gapsRow ys sc y1 y2 R M)) ∧ Below W.heap.size W V) (fun i _ _ => 200 - (intOf i).toNat)
      case atStart => exact ⟨0, Nat.zero_le _, by simp, by rw [gapsRow_zero]; exact nil_pairs _ _, Below.refl _ _⟩
      case round =>
        obtain ⟨R, hR, rfl, hown, hbel⟩ := hrel
        have OB := Lib.hid hown
        have BB := Lib.hid hbel
        obtain ⟨p0, p1, p2, p3, p4⟩ := X8.out.below hbel
        obtain ⟨r0, r1, r2, r3, r4⟩ := X9.out.below hbel
        simp only at p0 p1 p2 p3 p4 r0 r1 r2 r3 r4
        clear hown hbel
        by_cases hRl : R < N
        · have q1 : y1 + (R : Int) ≤ z1 := by have := WN.out; omega
          go_wp2
          clear p0 p1 p2 p3 p4 r0 r1 r2 r3 r4
          go_loopw [13, 11] (fun i o V => ∃ C : Nat, C ≤ M ∧ i = .int .i64 (y2 + (C : Int)) ∧ V.ownsRow W.heap.size 79 2 o (gapsRow ys sc y1 y2 R M ++ gapsCol ys sc (y1 + (R : Int)) y2 C).length (prCells (gapsRow ys sc y1 y2 R M ++ gapsCol ys sc (y1 + (R : Int)) y2 C)) ∧ Below W.heap.size W V) (fun i _ _ => 200 - (intOf i).toNat)
          case atStart => exact ⟨0, Nat.zero_le _, by simp, by rw [gapsCol_zero, List.append_nil]; exact OB.out, BB.out⟩
          case round =>
            obtain ⟨C, hC, rfl, hown, hbel⟩ := hrel
            have OC := Lib.hid hown
            have BC := Lib.hid hbel
            obtain ⟨r0, r1, r2, r3, r4⟩ := X9.out.below hbel
            simp only at r0 r1 r2 r3 r4
            clear hown hbel
            by_cases hCl : C < M
            · have q2 : y2 + (C : Int) ≤ z2 := by have := WM.out; omega
              have GS := Lib.hid (gapsCol_succ ys sc (y1 + (R : Int)) y2 C)
              have GI := Lib.hid (gapB_idx ys (y1 + (R : Int)) (y2 + (C : Int)) sc)
              have hgl : (gapsRow ys sc y1 y2 R M ++ gapsCol ys sc (y1 + (R : Int)) y2 C).length ≤ 20000 := by
                have e1 := gaps_bound (xs := ys) (sc := sc) (lo := y1) (le := y2) (Nat.le_trans hR nN) nM
                have e2 := gapsCol_len ys sc (y1 + (R : Int)) y2 C
                rw [List.length_append]; omega
              go_wp2_with fail
              refine (indexAt_any _ _ _ ys _ _ sc _ (YW.out.below BC.out)).mono ?_
              rintro e w5 ⟨rfl, hb5⟩
              have B5 := Lib.hid (Below.then' BC.out hb5)
              obtain ⟨z, hz⟩ : ∃ z, idxAt ys (y1 + (R : Int)) (y2 + (C : Int)) sc = z := ⟨_, rfl⟩
              obtain ⟨G, hG⟩ : ∃ G, gapsRow ys sc y1 y2 R M ++ gapsCol ys sc (y1 + (R : Int)) y2 C = G := ⟨_, rfl⟩
              have GG := Lib.hid hG
              rw [hz]
              have OG := ownsRow_below OC.out hb5
              rw [hG] at OG hgl
              have OG := Lib.hid OG
              clear hb5 r0 r1 r2 r3 r4
              by_cases hz0 : z < 0
              · have NX := Lib.hid (show gapsRow ys sc y1 y2 R M ++ gapsCol ys sc (y1 + (R : Int)) y2 (C + 1) = G ++ [(y1 + (R : Int), y2 + (C : Int))] from by
                  rw [GS.out, if_pos (GI.out.2 (by rw [hz]; exact hz0)), ← List.append_assoc, GG.out])
                clear hz hG
                have hsz := B5.out.size
                go_wp2_with (at_builtin; refine wpList_append_own _ rfl _ _ 50 rfl W.heap.size 79 i0 (.agg #[.int .i64 0, .int .i64 0]) 2 16 Try.underlying50 hi hzz hz1 hz2 rfl (by decide) _ _ _ rfl (OG.out.alloc _) ⟨_, 0, none⟩ 1 1 [.int .i64 (y1 + (R : Int)), .int .i64 (y2 + (C : Int))] rfl rfl (cell_pair _ _ _ _) (fun x hx => by simp at hx; rcases hx with rfl | rfl <;> rfl) (by unfold maxLen; omega) (by omega) (by simp; omega) ?_; intro v' w6 hown' hgrow6 hnil6)
                go_roundw
                case rel =>
                  refine ⟨C + 1, by omega, by go_num, ?_, (Below.then' B5.out (bel_alloc1 _ _)).grown hgrow6 (by simp; omega) (fun j e => (OG.out.lt j e).1)⟩
                  rw [NX.out, prCells_snoc]
                  simpa using hown'
                case measure => simp [intOf]; omega
              · have NX := Lib.hid (show gapsRow ys sc y1 y2 R M ++ gapsCol ys sc (y1 + (R : Int)) y2 (C + 1) = G from by
                  rw [GS.out, if_neg (fun h => hz0 (by have := GI.out.1 h; rw [hz] at this; exact this)), List.append_nil, GG.out])
                clear hz hG
                go_wp2
                go_roundw
                case rel => exact ⟨C + 1, by omega, by go_num, by rw [NX.out]; exact OG.out, B5.out⟩
                case measure => simp [intOf]; omega
            · obtain rfl : C = M := by omega
              have q2 : ¬ y2 + (C : Int) ≤ z2 := by have := WM.out; omega
              have GS := Lib.hid (gapsRow_succ ys sc y1 y2 R C)
              go_wp2
              go_roundw
              case rel => exact ⟨R + 1, by omega, by go_num, by rw [GS.out]; exact OC.out, BC.out⟩
              case measure => simp [intOf]; omega
        · obtain rfl : R = N := by omega
          have q1 : ¬ y1 + (R : Int) ≤ z1 := by have := WN.out; omega
          have GP := Lib.hid (gapsRow_perm PE.out y1 y2 R M)
          go_wp2
          go_ret2
          exact ⟨_, true, _, rfl, .inr ⟨H1.out, y1, z1, y2, z2, CC.out, .inr ⟨by rw [NZ.out]; first | exact BIG.out | exact Int.not_lt.2 BIG.out, by rw [HN.out, HM.out]; exact GP.out, rfl⟩⟩, gaps_bound nN nM, OB.out.mono BW.out.size, Below.then' BW.out BB.out⟩
  · obtain rfl : ys = [] := List.length_eq_zero_iff.1 (by omega)
    have ST : areSh xs = false ∨ ofScale sc xs = [] := by
      rcases hy with ⟨h1, h2⟩ | ⟨h1, _⟩
      · exact .inr (List.Perm.nil_eq h2).symm
      · exact .inl h1
    have STH := Lib.hid ST
    clear hy hso his hl ST
    rw [show decide (0 < ([] : List Sh).length) = false from rfl]
    go_wp2
    go_ret2
    exact ⟨[], false, _, rfl, .inl ⟨STH.out, rfl, rfl⟩, by simp, nil_pairs _ _, B1.out⟩
end Go.Proofs.Ytidaoijpbdljbaa
