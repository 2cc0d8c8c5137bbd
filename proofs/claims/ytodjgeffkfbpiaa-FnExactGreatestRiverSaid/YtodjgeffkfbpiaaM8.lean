/- Texts in one: Ws7. -/
import Derived.Test.YtodjgeffkfbpiaaM7
import Derived.Test.YtodjgeffkfbpiaaM6
namespace Go.Proofs.Ytodjgeffkfbpiaa
open Go.RowKit

set_option maxHeartbeats 6400000 in
set_option maxRecDepth 100000 in
theorem specCatchment_any (a : Option Addr) (len cap : Nat) (D : List VIntS) (r c : Int) (w : World) (h : IsIntSS w a len cap D) (_ : condIntS D) :
    Calls Try.prog 30 #[.slice a len cap, .int .i64 r, .int .i64 c] w (Catchment_Post D r c w) := by
  have S := Lib.hid h
  clear h
  obtain ⟨q, hq⟩ : ∃ q, hasB D r c = q := ⟨_, rfl⟩
  have Q := Lib.hid hq
  clear hq
  go_enter Try.func30, Try.ntmps30
  go_wp2_with fail
  refine (l9Square_any _ _ _ D r c _ S.out).mono ?_
  rintro e w1 ⟨rfl, hb⟩
  rw [Q.out]
  have B1 := Lib.hid hb
  have S1 := Lib.hid (S.out.below hb)
  clear hb
  cases q
  · have P := Lib.hid (show Catchment_0 D r c = 0 ∧ Catchment_1 D r c = false from by unfold Catchment_0 Catchment_1; rw [Q.out]; exact ⟨rfl, rfl⟩)
    go_wp2
    go_ret2
    exact ⟨by rw [P.out.1, P.out.2]; rfl, B1.out⟩
  obtain ⟨hD, p, hp, e1, e2⟩ := hasB_yes Q.out
  subst e1
  subst e2
  have SZ := Lib.hid (sqZ_nat p)
  obtain ⟨x, y⟩ := p
  obtain ⟨hx, hy⟩ := hp
  simp only [] at SZ Q hx hy ⊢
  have P := Lib.hid (show Catchment_0 D (x : Int) (y : Int) = rivI D (x, y) ∧ Catchment_1 D (x : Int) (y : Int) = true from by unfold Catchment_0 Catchment_1; rw [Q.out, SZ.out]; exact ⟨rfl, rfl⟩)
  have x0 : (0 : Int) ≤ (x : Int) := by omega
  have x1 : (x : Int) < (D.length : Int) := by omega
  have y0 : (0 : Int) ≤ (y : Int) := by omega
  have y1 : (y : Int) < (colsN D : Int) := by omega
  go_wp2_with fail
  refine (l9Rivers_any _ _ _ D _ S1.out hD).mono ?_
  rintro e w2 ⟨g, cg, rfl, hg, hb⟩
  have B2 := Lib.hid (Below.then' B1.out hb)
  obtain ⟨b, cb, e0, _, _, e1, _, _⟩ := hg.sq hx (by omega)
  have e2 := e1 y hy
  clear hb hg e1
  go_wp2
  go_ret2
  exact ⟨by rw [P.out.1, P.out.2]; rfl, B2.out⟩
theorem maxFrom_snoc (f : Sq → Int) (b : Sq) (l : List Sq) (p : Sq) : maxFrom f b (l ++ [p]) = maxS f (maxFrom f b l) p := by simp [maxFrom]
set_option maxHeartbeats 12800000 in
set_option maxRecDepth 100000 in
theorem specGreatestRiver_any (a : Option Addr) (len cap : Nat) (D : List VIntS) (w : World) (h : IsIntSS w a len cap D) (_ : condIntS D) :
    Calls Try.prog 28 #[.slice a len cap] w (GreatestRiver_Post D w) := by
  have hm := h.2.2.1
  have hcl := h.2.1
  unfold maxLen at hm
  obtain rfl := h.1
  have S := Lib.hid h
  clear h
  obtain ⟨q, hq⟩ : ∃ q, rlB D = q := ⟨_, rfl⟩
  have Q := Lib.hid hq
  clear hq
  go_enter Try.func28, Try.ntmps28
  go_wp2_with fail
  refine (l9Good_any _ _ _ D _ S.out).mono ?_
  rintro e w1 ⟨rfl, hb⟩
  rw [Q.out]
  have B1 := Lib.hid hb
  have S1 := Lib.hid (S.out.below hb)
  clear hb
  cases q
  · have P := Lib.hid (show GreatestRiver_0 D = 0 ∧ GreatestRiver_1 D = 0 ∧ GreatestRiver_2 D = false from by unfold GreatestRiver_0 GreatestRiver_1 GreatestRiver_2; rw [Q.out]; exact ⟨rfl, rfl, rfl⟩)
    go_wp2
    go_ret3
    exact ⟨by rw [P.out.1, P.out.2.1, P.out.2.2]; rfl, B1.out⟩
  have HD := Lib.hid (rlB_iff.1 Q.out)
  have hm8 := HD.out.m8
  have hn8 := HD.out.n8
  have hn1 := HD.out.n1
  have hm1 := HD.out.m1
  have P := Lib.hid (show GreatestRiver_0 D = ((topOf D (rivI D)).1 : Int) ∧ GreatestRiver_1 D = ((topOf D (rivI D)).2 : Int) ∧ GreatestRiver_2 D = true from by unfold GreatestRiver_0 GreatestRiver_1 GreatestRiver_2; rw [Q.out]; exact ⟨rfl, rfl, rfl⟩)
  go_wp2_with fail
  refine (l9Rivers_any _ _ _ D _ S1.out HD.out).mono ?_
  rintro e w2 ⟨g, cg, rfl, hg, hb⟩
  have B2 := Lib.hid (Below.then' B1.out hb)
  have S2 := Lib.hid (S1.out.below hb)
  have G2 := Lib.hid hg
  have hcg := hg.head.2.2.2.2
  unfold maxLen at hcg
  have X2 := Lib.hid (HBIntA2.new w2 ⟨0, 0⟩ _ rfl)
  have TP := Lib.hid (show maxFrom (rivI D) (0, 0) (sqsTo (colsN D) D.length) = topOf D (rivI D) from rfl)
  have hs2 := B2.out.size
  clear hg hb
  go_wp2
  go_loopw [7] (fun i wr => ∃ k : Nat, k ≤ D.length ∧ i = .int .i64 k ∧ HBIntA2 wr w2.heap.size (vsq (maxFrom (rivI D) (0, 0) (sqsTo (colsN D) k))) ∧ Below w2.heap.size w2 wr) (fun i _ => D.length - (intOf i).toNat)
  case atStart => exact ⟨0, Nat.zero_le _, rfl, X2.out, bel_al1 _ _⟩
  case round =>
    obtain ⟨k, hk, rfl, hx, hbel⟩ := hrel
    have X := Lib.hid hx
    have B := Lib.hid hbel
    by_cases hlt : k < D.length
    · have k0 : (0 : Int) ≤ (k : Int) := by omega
      have k1 : (k : Int) < (D.length : Int) := by omega
      clear hx hbel
      rename World => w0
      go_wp2
      go_loopw [8] (fun j wr => ∃ c : Nat, c ≤ colsN D ∧ j = .int .i64 c ∧ HBIntA2 wr w2.heap.size (vsq (maxFrom (rivI D) (0, 0) (sqsTo (colsN D) k ++ sqRow c k))) ∧ Below w2.heap.size w2 wr) (fun j _ => colsN D - (intOf j).toNat)
      case atStart => exact ⟨0, Nat.zero_le _, rfl, by rw [show sqRow 0 k = [] from rfl, List.append_nil]; exact X.out, B.out⟩
      case round =>
        obtain ⟨c, hc, rfl, hx, hbel⟩ := hrel
        have XI := Lib.hid hx
        have BI := Lib.hid hbel
        obtain ⟨b, o, b', o', c', ha, hb, hb', g0, hc1, hc2, g1⟩ := relief_row (S2.out.below hbel) HD.out hlt
        subst ha
        by_cases hlc : c < colsN D
        · have RS := Lib.hid (maxFrom_snoc (rivI D) (0, 0) (sqsTo (colsN D) k ++ sqRow c k) (k, c))
          rw [← sq_more] at RS
          have MI : inR D (maxFrom (rivI D) (0, 0) (sqsTo (colsN D) k ++ sqRow c k)) := by
            rcases maxFrom_mem (rivI D) (sqsTo (colsN D) k ++ sqRow c k) (0, 0) with e | e
            · rw [e]; exact ⟨hm1, hn1⟩
            · exact sq_part hlt (Nat.le_of_lt hlc) _ e
          obtain ⟨G, hG⟩ : ∃ G, maxFrom (rivI D) (0, 0) (sqsTo (colsN D) k ++ sqRow c k) = G := ⟨_, rfl⟩
          rw [hG] at XI RS MI
          obtain ⟨mx, my⟩ := G
          obtain ⟨hmx, hmy⟩ := MI
          simp only [] at hmx hmy
          have GI := G2.out.below hbel
          obtain ⟨b1, c1, p0, _, _, p1, _, _⟩ := GI.sq hlt (by omega)
          have p2 := p1 c hlc
          obtain ⟨b2, c2, r0, _, _, r1, _, _⟩ := GI.sq hmx (by omega)
          have r2 := r1 my hmy
          obtain ⟨q0, q1⟩ := XI.out.cells
          simp only [vsq] at q0 q1
          have u0 : (0 : Int) ≤ (c : Int) := by omega
          have u1 : (c : Int) < (colsN D : Int) := by omega
          have v0 : (0 : Int) ≤ (mx : Int) := by omega
          have v1 : (mx : Int) < (D.length : Int) := by omega
          have v2 : (0 : Int) ≤ (my : Int) := by omega
          have v3 : (my : Int) < (colsN D : Int) := by omega
          obtain ⟨z1, hz1⟩ : ∃ z, rivI D (mx, my) = z := ⟨_, rfl⟩
          obtain ⟨z2, hz2⟩ : ∃ z, rivI D (k, c) = z := ⟨_, rfl⟩
          have RZ := Lib.hid (show maxFrom (rivI D) (0, 0) (sqsTo (colsN D) k ++ sqRow (c + 1) k) = if z1 < z2 then (k, c) else (mx, my) from by rw [RS.out]; unfold maxS; rw [hz1, hz2])
          rw [hz2] at p2
          rw [hz1] at r2
          clear hx hbel hG p1 r1 GI g1 hz1 hz2
          go_wp2
          go_quiet (fail)
          have bd := bel_drawn wr nq
          have B4 := Lib.hid (Below.then' BI.out bd)
          have X4 := Lib.hid (XI.out.below bd)
          clear bd p0 p2 r0 r2 q0 q1 g0
          obtain ⟨w4, hw4⟩ : ∃ w4, wr.drewN nq = w4 := ⟨_, rfl⟩
          rw [hw4] at B4 X4 ⊢
          clear hw4
          by_cases hlo : z1 < z2
          · have RX := Lib.hid (show maxFrom (rivI D) (0, 0) (sqsTo (colsN D) k ++ sqRow (c + 1) k) = (k, c) from by rw [RZ.out, if_pos hlo])
            have dl : decide (z1 < z2) = true := decide_eq_true hlo
            rw [dl]
            clear hlo dl
            obtain ⟨q0, q1⟩ := X4.out.cells
            have q2 := X4.out.free 0
            have q3 := X4.out.free 1
            simp only [vsq] at q0 q1
            go_wp2
            go_roundw
            case rel => exact ⟨c + 1, by omega, by go_num, by rw [RX.out]; exact X4.out.setAll (vsq (k, c)), (B4.out.setCell (Nat.le_refl _) _).setCell (Nat.le_refl _) _⟩
            case measure => simp [intOf]; omega
          · have RX := Lib.hid (show maxFrom (rivI D) (0, 0) (sqsTo (colsN D) k ++ sqRow (c + 1) k) = (mx, my) from by rw [RZ.out, if_neg hlo])
            have dl : decide (z1 < z2) = false := decide_eq_false hlo
            rw [dl]
            clear hlo dl
            go_wp2
            go_roundw
            case rel => exact ⟨c + 1, by omega, by go_num, by rw [RX.out]; exact X4.out, B4.out⟩
            case measure => simp [intOf]; omega
        · obtain rfl : c = colsN D := by omega
          have RX := Lib.hid (show maxFrom (rivI D) (0, 0) (sqsTo (colsN D) k ++ sqRow (colsN D) k) = maxFrom (rivI D) (0, 0) (sqsTo (colsN D) (k + 1)) from by rw [sqsTo_succ])
          rw [RX.out] at XI
          clear hx hbel g1
          go_wp2
          go_roundw
          case rel => exact ⟨k + 1, by omega, by go_num, XI.out, BI.out⟩
          case measure => simp [intOf]; omega
    · obtain rfl : k = D.length := by omega
      rw [TP.out] at X
      obtain ⟨t, ht⟩ : ∃ t, topOf D (rivI D) = t := ⟨_, rfl⟩
      rw [ht] at X P
      obtain ⟨x, y⟩ := t
      simp only [] at X P
      obtain ⟨f0, f1⟩ := X.out.cells
      simp only [vsq] at f0 f1
      clear hx hbel ht
      go_wp2
      go_quiet (fail)
      go_wp2
      go_ret3
      exact ⟨by rw [P.out.1, P.out.2.1, P.out.2.2]; rfl, Below.then' B2.out (Below.then' B.out (bel_drawn _ _))⟩
end Go.Proofs.Ytodjgeffkfbpiaa
