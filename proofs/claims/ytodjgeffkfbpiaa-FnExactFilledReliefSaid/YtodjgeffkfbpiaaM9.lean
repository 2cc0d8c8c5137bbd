/- Texts in one: LakesOfP, Ws9. -/
import Derived.Test.YtodjgeffkfbpiaaM3
import Derived.Test.YtodjgeffkfbpiaaM8
import Derived.Test.YtodjgeffkfbpiaaM7
namespace Go.Proofs.Ytodjgeffkfbpiaa
open Go.RowKit
def LakesOf_Post (z0 : List VIntS) (w : World) (e : Ending) (w' : World) : Prop :=
  e = .returned (.tuple #[.int .i64 (LakesOf_0 z0), .int .i64 (LakesOf_1 z0), .bool (LakesOf_2 z0)]) ∧ Below w.heap.size w w'
end Go.Proofs.Ytodjgeffkfbpiaa
namespace Go.Proofs.Ytodjgeffkfbpiaa
open Go.RowKit

set_option maxHeartbeats 6400000 in
set_option maxRecDepth 100000 in
theorem specLevelAt_any (a : Option Addr) (len cap : Nat) (D : List VIntS) (r c : Int) (w : World) (h : IsIntSS w a len cap D) (_ : condIntS D) :
    Calls Try.prog 42 #[.slice a len cap, .int .i64 r, .int .i64 c] w (LevelAt_Post D r c w) := by
  have S := Lib.hid h
  clear h
  obtain ⟨q, hq⟩ : ∃ q, hasB D r c = q := ⟨_, rfl⟩
  have Q := Lib.hid hq
  clear hq
  go_enter Try.func42, Try.ntmps42
  go_wp2_with fail
  refine (l9Square_any _ _ _ D r c _ S.out).mono ?_
  rintro e w1 ⟨rfl, hb⟩
  rw [Q.out]
  have B1 := Lib.hid hb
  have S1 := Lib.hid (S.out.below hb)
  clear hb
  cases q
  · have P := Lib.hid (show LevelAt_0 D r c = 0 ∧ LevelAt_1 D r c = false from by unfold LevelAt_0 LevelAt_1; rw [Q.out]; exact ⟨rfl, rfl⟩)
    go_wp2
    go_ret2
    exact ⟨by rw [P.out.1, P.out.2]; rfl, B1.out⟩
  obtain ⟨hD, p, hp, e1, e2⟩ := hasB_yes Q.out
  subst e1
  subst e2
  have SZ := Lib.hid (sqZ_nat p)
  obtain ⟨x, y⟩ := p
  obtain ⟨hx, hy⟩ := hp
  simp only [] at SZ Q hx hy ⊢
  have P := Lib.hid (show LevelAt_0 D (x : Int) (y : Int) = lev D (x, y) ∧ LevelAt_1 D (x : Int) (y : Int) = true from by unfold LevelAt_0 LevelAt_1; rw [Q.out, SZ.out]; exact ⟨rfl, rfl⟩)
  have x0 : (0 : Int) ≤ (x : Int) := by omega
  have x1 : (x : Int) < (D.length : Int) := by omega
  have y0 : (0 : Int) ≤ (y : Int) := by omega
  have y1 : (y : Int) < (colsN D : Int) := by omega
  go_wp2_with fail
  refine (l9Levels_any _ _ _ D _ S1.out hD).mono ?_
  rintro e w2 ⟨g, cg, rfl, hg, hb⟩
  have B2 := Lib.hid (Below.then' B1.out hb)
  obtain ⟨b, cb, e0, _, _, e1, _, _⟩ := hg.sq hx (by omega)
  have e2 := e1 y hy
  clear hb hg e1
  go_wp2
  go_ret2
  exact ⟨by rw [P.out.1, P.out.2]; rfl, B2.out⟩
set_option maxHeartbeats 6400000 in
set_option maxRecDepth 100000 in
theorem specFilledRelief_any (a : Option Addr) (len cap : Nat) (D : List VIntS) (w : World) (h : IsIntSS w a len cap D) (_ : condIntS D) :
    Calls Try.prog 35 #[.slice a len cap] w (FilledRelief_Post D w) := by
  have S := Lib.hid h
  clear h
  obtain ⟨q, hq⟩ : ∃ q, rlB D = q := ⟨_, rfl⟩
  have Q := Lib.hid hq
  clear hq
  go_enter Try.func35, Try.ntmps35
  go_wp2_with fail
  refine (l9Good_any _ _ _ D _ S.out).mono ?_
  rintro e w1 ⟨rfl, hb⟩
  rw [Q.out]
  have B1 := Lib.hid hb
  have S1 := Lib.hid (S.out.below hb)
  clear hb
  cases q
  · have P := Lib.hid (show FilledRelief_0 D = [] ∧ FilledRelief_1 D = false from by unfold FilledRelief_0 FilledRelief_1; rw [Q.out]; exact ⟨rfl, rfl⟩)
    go_wp2
    go_ret2
    exact ⟨_, by rw [P.out.2]; rfl, by rw [P.out.1]; exact ⟨[], rfl, (made_rows w1).mono B1.out.size (Nat.le_refl _)⟩, Below.then' B1.out (bel_al1 _ _)⟩
  have HD := Lib.hid (rlB_iff.1 Q.out)
  have P := Lib.hid (show FilledRelief_0 D = gridOf D (lev D) ∧ FilledRelief_1 D = true from by unfold FilledRelief_0 FilledRelief_1; rw [Q.out]; exact ⟨rfl, rfl⟩)
  go_wp2_with fail
  refine (l9Levels_any _ _ _ D _ S1.out HD.out).mono ?_
  rintro e w2 ⟨g, cg, rfl, hg, hb⟩
  have G2 := Lib.hid hg
  have B2 := Lib.hid hb
  clear hb hg
  go_wp2
  go_ret2
  exact ⟨_, by rw [P.out.2]; rfl, by rw [P.out.1]; exact (G2.out.own).mono B1.out.size (Nat.le_refl _), Below.then' B1.out B2.out⟩
theorem lake_snoc (D : List VIntS) (L : Sq → Int) (l : List Sq) (p : Sq) (s : Int × Int) : (l ++ [p]).foldl (lakeS D L) s = lakeS D L (l.foldl (lakeS D L) s) p := by simp
theorem lev_bd {D : List VIntS} (hD : RL D) {p : Sq} (hp : inR D p) : hA D p ≤ lev D p ∧ lev D p ≤ 9999 := ⟨(lev_is hD).low p hp, (lev_is hD).top p hp⟩
set_option maxHeartbeats 12800000 in
set_option maxRecDepth 100000 in
theorem specLakesOf_any (a : Option Addr) (len cap : Nat) (D : List VIntS) (w : World) (h : IsIntSS w a len cap D) (_ : condIntS D) :
    Calls Try.prog 38 #[.slice a len cap] w (LakesOf_Post D w) := by
  have hm := h.2.2.1
  have hcl := h.2.1
  unfold maxLen at hm
  obtain rfl := h.1
  have S := Lib.hid h
  clear h
  obtain ⟨q, hq⟩ : ∃ q, rlB D = q := ⟨_, rfl⟩
  have Q := Lib.hid hq
  clear hq
  go_enter Try.func38, Try.ntmps38
  go_wp2_with fail
  refine (l9Good_any _ _ _ D _ S.out).mono ?_
  rintro e w1 ⟨rfl, hb⟩
  rw [Q.out]
  have B1 := Lib.hid hb
  have S1 := Lib.hid (S.out.below hb)
  clear hb
  cases q
  · have P := Lib.hid (show LakesOf_0 D = 0 ∧ LakesOf_1 D = 0 ∧ LakesOf_2 D = false from by unfold LakesOf_0 LakesOf_1 LakesOf_2; rw [Q.out]; exact ⟨rfl, rfl, rfl⟩)
    go_wp2
    go_ret3
    exact ⟨by rw [P.out.1, P.out.2.1, P.out.2.2]; rfl, B1.out⟩
  have HD := Lib.hid (rlB_iff.1 Q.out)
  have hm8 := HD.out.m8
  have hn8 := HD.out.n8
  have hn1 := HD.out.n1
  have P := Lib.hid (show LakesOf_0 D = ((sqsTo (colsN D) D.length).foldl (lakeS D (lev D)) (0, 0)).1 ∧ LakesOf_1 D = ((sqsTo (colsN D) D.length).foldl (lakeS D (lev D)) (0, 0)).2 ∧ LakesOf_2 D = true from by unfold LakesOf_0 LakesOf_1 LakesOf_2; rw [Q.out]; exact ⟨rfl, rfl, rfl⟩)
  go_wp2_with fail
  refine (l9Levels_any _ _ _ D _ S1.out HD.out).mono ?_
  rintro e w2 ⟨g, cg, rfl, hg, hb⟩
  have B2 := Lib.hid (Below.then' B1.out hb)
  have S2 := Lib.hid (S1.out.below hb)
  have G2 := Lib.hid hg
  have hcg := hg.head.2.2.2.2
  unfold maxLen at hcg
  have LB := Lib.hid (fun l (hl : ∀ p ∈ l, inR D p) => lake_bd HD.out (fun p hp => (lev_bd HD.out hp).2) l hl (0, 0) 0 ⟨Int.le_refl _, Int.le_refl _, Int.le_refl _, Int.le_refl _⟩)
  clear hg hb
  go_wp2
  go_loopw [8, 6, 7] (fun i n s wr => ∃ k : Nat, k ≤ D.length ∧ i = .int .i64 k ∧ n = .int .i64 ((sqsTo (colsN D) k).foldl (lakeS D (lev D)) (0, 0)).1 ∧ s = .int .i64 ((sqsTo (colsN D) k).foldl (lakeS D (lev D)) (0, 0)).2 ∧ Below w2.heap.size w2 wr) (fun i _ _ _ => D.length - (intOf i).toNat)
  case atStart => exact ⟨0, Nat.zero_le _, rfl, rfl, rfl, Below.refl _ _⟩
  case round =>
    obtain ⟨k, hk, rfl, rfl, rfl, hbel⟩ := hrel
    have B := Lib.hid hbel
    by_cases hlt : k < D.length
    · have k0 : (0 : Int) ≤ (k : Int) := by omega
      have k1 : (k : Int) < (D.length : Int) := by omega
      clear hbel
      rename World => w0
      go_wp2
      go_loopw [9, 6, 7] (fun j n s wr => ∃ c : Nat, c ≤ colsN D ∧ j = .int .i64 c ∧ n = .int .i64 ((sqsTo (colsN D) k ++ sqRow c k).foldl (lakeS D (lev D)) (0, 0)).1 ∧ s = .int .i64 ((sqsTo (colsN D) k ++ sqRow c k).foldl (lakeS D (lev D)) (0, 0)).2 ∧ Below w2.heap.size w2 wr) (fun j _ _ _ => colsN D - (intOf j).toNat)
      case atStart => exact ⟨0, Nat.zero_le _, rfl, by rw [show sqRow 0 k = [] from rfl, List.append_nil], by rw [show sqRow 0 k = [] from rfl, List.append_nil], B.out⟩
      case round =>
        obtain ⟨c, hc, rfl, rfl, rfl, hbel⟩ := hrel
        have BI := Lib.hid hbel
        obtain ⟨b, o, b', o', c', ha, hb, hb', g0, hc1, hc2, g1⟩ := relief_row (S2.out.below hbel) HD.out hlt
        subst ha
        by_cases hlc : c < colsN D
        · have RS := Lib.hid (lake_snoc D (lev D) (sqsTo (colsN D) k ++ sqRow c k) (k, c) (0, 0))
          rw [← sq_more] at RS
          have bd := LB.out _ (sq_part hlt (Nat.le_of_lt hlc))
          have hsl := sq_le (c := c) (Nat.le_trans (Nat.le_of_lt hlt) hm8) hn8 (Nat.le_of_lt hlc)
          obtain ⟨G, hG⟩ : ∃ G, (sqsTo (colsN D) k ++ sqRow c k).foldl (lakeS D (lev D)) (0, 0) = G := ⟨_, rfl⟩
          rw [hG] at RS bd ⊢
          obtain ⟨n, s⟩ := G
          simp only [] at bd ⊢
          generalize (sqsTo (colsN D) k ++ sqRow c k).length = ll at bd hsl
          obtain ⟨b1, c1, p0, _, _, p1, _, _⟩ := (G2.out.below hbel).sq hlt (by omega)
          have p2 := p1 c hlc
          have g2 := g1 c hlc
          have lb := lev_bd HD.out (show inR D (k, c) from ⟨hlt, hlc⟩)
          obtain ⟨_, _, _, _, y0, y1⟩ := HD.out.at (show inR D (k, c) from ⟨hlt, hlc⟩)
          have RZ := Lib.hid (show (sqsTo (colsN D) k ++ sqRow (c + 1) k).foldl (lakeS D (lev D)) (0, 0) = if 0 < lev D (k, c) - hA D (k, c) then (n + 1, s + (lev D (k, c) - hA D (k, c))) else (n, s) from RS.out)
          obtain ⟨z1, hz1⟩ : ∃ z, lev D (k, c) = z := ⟨_, rfl⟩
          obtain ⟨z2, hz2⟩ : ∃ z, hA D (k, c) = z := ⟨_, rfl⟩
          rw [hz1] at lb p2
          rw [hz2] at lb g2 y0 y1
          rw [hz1, hz2] at RZ
          have u0 : (0 : Int) ≤ (c : Int) := by omega
          have u1 : (c : Int) < (colsN D : Int) := by omega
          have w1' : IntKind.i64.wrap (z1 - z2) = z1 - z2 := IntWalk.i64_in _ (by omega)
          have w2' : IntKind.i64.wrap (n + 1) = n + 1 := IntWalk.i64_in _ (by omega)
          have w3' : IntKind.i64.wrap (s + (z1 - z2)) = s + (z1 - z2) := IntWalk.i64_in _ (by omega)
          clear hbel hG p1 g1 hz1 hz2
          go_wp2
          go_quiet (fail)
          have B4 := Lib.hid (Below.then' BI.out (bel_drawn wr nq))
          clear p0 p2 g0 g2
          obtain ⟨d, hd⟩ : ∃ d, z1 - z2 = d := ⟨_, rfl⟩
          rw [hd] at RZ w3' ⊢
          clear w1'
          by_cases hlo : 0 < d
          · rw [if_pos hlo] at RZ
            go_wp2
            go_roundw
            case rel => exact ⟨c + 1, by omega, by go_num, by rw [RZ.out], by rw [RZ.out], B4.out⟩
            case measure => simp [intOf]; omega
          · rw [if_neg hlo] at RZ
            go_wp2
            go_roundw
            case rel => exact ⟨c + 1, by omega, by go_num, by rw [RZ.out], by rw [RZ.out], B4.out⟩
            case measure => simp [intOf]; omega
        · obtain rfl : c = colsN D := by omega
          rw [← sqsTo_succ]
          clear hbel g1
          go_wp2
          go_roundw
          case rel => exact ⟨k + 1, by omega, by go_num, rfl, rfl, BI.out⟩
          case measure => simp [intOf]; omega
    · obtain rfl : k = D.length := by omega
      clear hbel
      go_wp2
      go_ret3
      exact ⟨by rw [P.out.1, P.out.2.1, P.out.2.2]; rfl, Below.then' B2.out B.out⟩
end Go.Proofs.Ytodjgeffkfbpiaa
