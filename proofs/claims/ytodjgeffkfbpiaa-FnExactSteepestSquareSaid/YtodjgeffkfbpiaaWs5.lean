/- Reliefs in the model: PitsOf, SteepestSquare. -/
import Derived.Test.YtodjgeffkfbpiaaWs4
import Derived.Test.YtodjgeffkfbpiaaWi8
import Derived.Test.YtodjgeffkfbpiaaPitsOfP
import Derived.Test.YtodjgeffkfbpiaaSteepestSquareP
namespace Go.Proofs.Ytodjgeffkfbpiaa
open Go.RowKit

theorem filt_snoc (f : Sq → Bool) (l : List Sq) (p : Sq) : (l ++ [p]).filter f = l.filter f ++ (if f p = true then [p] else []) := by
  rw [List.filter_append]
  simp only [List.filter_cons, List.filter_nil]
theorem sq_le {n k c : Nat} (hk : k ≤ 8) (hn : n ≤ 8) (hc : c ≤ n) : (sqsTo n k ++ sqRow c k).length ≤ 72 := by
  rw [List.length_append, sqsTo_len, sqRow_len]
  have := Nat.mul_le_mul hk hn
  omega
theorem sq_more (n k c : Nat) : sqsTo n k ++ sqRow (c + 1) k = (sqsTo n k ++ sqRow c k) ++ [(k, c)] := by rw [sqRow_succ, List.append_assoc]
set_option maxHeartbeats 12800000 in
set_option maxRecDepth 100000 in
theorem specPitsOf_any (a : Option Addr) (len cap : Nat) (D : List VIntS) (w : World) (h : IsIntSS w a len cap D) (_ : condIntS D) :
    Calls Try.prog 24 #[.slice a len cap] w (PitsOf_Post D w) := by
  have hm := h.2.2.1
  have hcl := h.2.1
  unfold maxLen at hm
  obtain rfl := h.1
  obtain ⟨i0, hi, hz0, hz1, hz2⟩ := info_parts infoIntA2
  have b0 := bel_al1 w (.cells #[] 34)
  have S := Lib.hid (h.below b0)
  have S0 := Lib.hid h
  have B0 := Lib.hid b0
  have O0 := Lib.hid (show SqRow w.heap.size (w.alloc (.cells #[] 34)) (.slice (some ⟨w.heap.size, 0, none⟩) 0 0) [] from made_ownIntA2 w w.heap.size (Nat.le_refl _))
  clear h b0
  obtain ⟨q, hq⟩ : ∃ q, rlB D = q := ⟨_, rfl⟩
  have Q := Lib.hid hq
  clear hq
  go_enter Try.func24, Try.ntmps24
  go_wp2_with fail
  refine (l9Good_any _ _ _ D _ S.out).mono ?_
  rintro e w1 ⟨rfl, hb⟩
  rw [Q.out]
  have B1 := Lib.hid (Below.then' B0.out hb)
  have S1 := Lib.hid (S.out.below hb)
  have O1 := Lib.hid (O0.out.below hb)
  clear hb
  cases q
  · have P0 := Lib.hid (show PitsOf_0 D = [] from by unfold PitsOf_0; rw [Q.out]; rfl)
    go_wp2
    go_ret2
    exact ⟨_, by rw [show PitsOf_1 D = false from Q.out]; rfl, by rw [P0.out]; exact O1.out.ownS (Nat.le_refl _) (Nat.le_refl _), B1.out⟩
  have HD := Lib.hid (rlB_iff.1 Q.out)
  have hm8 := HD.out.m8
  have hn8 := HD.out.n8
  have P0 := Lib.hid (show PitsOf_0 D = sqV ((sqsTo (colsN D) D.length).filter (pitB D)) from by unfold PitsOf_0; rw [Q.out]; rfl)
  have P1 := Lib.hid (show PitsOf_1 D = true from Q.out)
  go_wp2
  go_loopw [5, 4] (fun i o wr => ∃ k : Nat, k ≤ D.length ∧ i = .int .i64 k ∧ SqRow w.heap.size wr o ((sqsTo (colsN D) k).filter (pitB D)) ∧ Below w.heap.size w wr ∧ IsIntSS wr a D.length cap D) (fun i _ _ => D.length - (intOf i).toNat)
  case atStart => exact ⟨0, Nat.zero_le _, rfl, O1.out, B1.out, S1.out⟩
  case round =>
    obtain ⟨k, hk, rfl, hown, hbel, his⟩ := hrel
    have O := Lib.hid hown
    have B := Lib.hid hbel
    have SR := Lib.hid his
    by_cases hlt : k < D.length
    · have k0 : (0 : Int) ≤ (k : Int) := by omega
      have k1 : (k : Int) < (D.length : Int) := by omega
      clear hown hbel his
      rename World => w0
      go_wp2
      go_loopw [6, 4] (fun j ov wr => ∃ c : Nat, c ≤ colsN D ∧ j = .int .i64 c ∧ SqRow w.heap.size wr ov ((sqsTo (colsN D) k ++ sqRow c k).filter (pitB D)) ∧ Below w.heap.size w wr ∧ IsIntSS wr a D.length cap D) (fun j _ _ => colsN D - (intOf j).toNat)
      case atStart => exact ⟨0, Nat.zero_le _, rfl, by rw [show sqRow 0 k = [] from rfl, List.append_nil]; exact O.out, B.out, SR.out⟩
      case round =>
        obtain ⟨c, hc, rfl, hown, hbel, his⟩ := hrel
        have OI := Lib.hid hown
        have BI := Lib.hid hbel
        have SI := Lib.hid his
        obtain ⟨b, o, b', o', c', ha, hb, hb', g0, hc1, hc2, g1⟩ := relief_row his HD.out hlt
        subst ha
        by_cases hlc : c < colsN D
        · have RS := Lib.hid (filt_snoc (pitB D) (sqsTo (colsN D) k ++ sqRow c k) (k, c))
          rw [← sq_more] at RS
          have hle : ((sqsTo (colsN D) k ++ sqRow c k).filter (pitB D)).length ≤ 72 := Nat.le_trans (List.length_filter_le _ _) (sq_le (by omega) hn8 (by omega))
          obtain ⟨G, hG⟩ : ∃ G, (sqsTo (colsN D) k ++ sqRow c k).filter (pitB D) = G := ⟨_, rfl⟩
          rw [hG] at OI RS hle
          have ba := bel_al1 wr (.cells #[.int .i64 (k : Int), .int .i64 (c : Int)] 34)
          have B2 := Lib.hid (Below.then' hbel ba)
          have S2 := Lib.hid (his.below ba)
          have O2 := Lib.hid (OI.out.below ba)
          have X2 := Lib.hid (HBIntA2.new wr ⟨(k : Int), (c : Int)⟩ _ rfl)
          obtain ⟨d0, d1⟩ := X2.out.cells
          simp only [] at d0 d1
          have u0 : (0 : Int) ≤ (c : Int) := by omega
          have u1 : (c : Int) < (colsN D : Int) := by omega
          clear hown hbel hG ba his g1
          go_wp2_with fail
          refine (l9Next_any _ _ _ D k c _ S2.out HD.out hlt hlc).mono ?_
          rintro e w3 ⟨rfl, hb3⟩
          obtain ⟨q, hq⟩ : ∃ q, (nextSq D (k, c) == (k, c)) = q := ⟨_, rfl⟩
          have PB := Lib.hid (show pitB D (k, c) = q from hq)
          rw [hq]
          obtain ⟨m, hm'⟩ : ∃ m, nextSq D (k, c) = m := ⟨_, rfl⟩
          rw [hm']
          obtain ⟨mx, my⟩ := m
          have ba := bel_al1 w3 (.cells #[.int .i64 (mx : Int), .int .i64 (my : Int)] 34)
          have B3 := Lib.hid (Below.then' (Below.then' B2.out hb3) ba)
          have S3 := Lib.hid (S2.out.below (Below.then' hb3 ba))
          have O3 := Lib.hid (O2.out.below (Below.then' hb3 ba))
          have X3 := Lib.hid (X2.out.below (Below.then' hb3 ba))
          obtain ⟨f0, f1⟩ := X3.out.cells
          simp only [] at f0 f1
          have hs3 := B3.out.size
          have hown3 := World.ownsRow.alloc O3.out (.cells #[.int .i64 (k : Int), .int .i64 (c : Int)] 34)
          clear hb3 ba hq hm' d0 d1 g0
          cases q
          · clear hown3
            go_wp2
            go_roundw
            case rel => exact ⟨c + 1, by omega, by go_num, by rw [RS.out, PB.out]; simpa using O3.out, B3.out, S3.out⟩
            case measure => simp [intOf]; omega
          · obtain ⟨w4, hw4⟩ : ∃ w4, w3.alloc (.cells #[.int .i64 (mx : Int), .int .i64 (my : Int)] 34) = w4 := ⟨_, rfl⟩
            rw [hw4] at B3 S3 O3 X3 f0 f1 hs3 hown3
            go_wp2_with (at_builtin; refine wpList_append_own _ rfl _ _ 27 rfl w.heap.size 34 i0 (.agg #[.int .i64 0, .int .i64 0]) 2 16 Try.underlying27 hi hz0 hz1 hz2 rfl (by decide) _ _ _ rfl hown3 ⟨_, 0, none⟩ 1 1 (VIntA2.vals (vsq (k, c))) rfl rfl (cell_IntA2 _ (vsq (k, c)) _) (VIntA2.vals_one _) (by unfold maxLen; omega) (by omega) (by simp; omega) ?_; intro v' w5 hown' hgrow4 _)
            have B5 := Lib.hid ((Below.then' B3.out (bel_al1 _ _)).grown hgrow4 (by simp; omega) (fun q e => (hown3.lt q e).1))
            have S5 := Lib.hid (S0.out.below B5.out)
            have O5 := Lib.hid (show SqRow w.heap.size w5 v' (G ++ [(k, c)]) from by
              unfold SqRow
              rw [sqV_snoc, cellsIntA2_snoc, List.length_append]
              exact hown')
            clear hown' hgrow4 hown3
            go_roundw
            case rel => exact ⟨c + 1, by omega, by go_num, by rw [RS.out, PB.out]; exact O5.out, B5.out, S5.out⟩
            case measure => simp [intOf]; omega
        · obtain rfl : c = colsN D := by omega
          have O2 := Lib.hid (show SqRow w.heap.size wr _ ((sqsTo (colsN D) (k + 1)).filter (pitB D)) from by rw [sqsTo_succ]; exact OI.out)
          clear hown hbel g1 his
          go_wp2
          go_roundw
          case rel => exact ⟨k + 1, by omega, by go_num, O2.out, BI.out, SI.out⟩
          case measure => simp [intOf]; omega
    · obtain rfl : k = D.length := by omega
      clear hown hbel his
      go_wp2
      go_ret2
      exact ⟨_, by rw [P1.out]; rfl, by rw [P0.out]; exact O.out.ownS (Nat.le_refl _) (Nat.le_refl _), B.out⟩
def stS (D : List VIntS) (l : List Sq) : Sq × Int := l.foldl (steepS D) ((0, 0), 0)
theorem stS_snoc (D : List VIntS) (l : List Sq) (p : Sq) : stS D (l ++ [p]) = steepS D (stS D l) p := by simp [stS]
set_option maxHeartbeats 12800000 in
set_option maxRecDepth 100000 in
theorem specSteepestSquare_any (a : Option Addr) (len cap : Nat) (D : List VIntS) (w : World) (h : IsIntSS w a len cap D) (_ : condIntS D) :
    Calls Try.prog 45 #[.slice a len cap] w (SteepestSquare_Post D w) := by
  have hm := h.2.2.1
  have hcl := h.2.1
  unfold maxLen at hm
  obtain rfl := h.1
  have S := Lib.hid h
  clear h
  obtain ⟨q, hq⟩ : ∃ q, rlB D = q := ⟨_, rfl⟩
  have Q := Lib.hid hq
  clear hq
  go_enter Try.func45, Try.ntmps45
  go_wp2_with fail
  refine (l9Good_any _ _ _ D _ S.out).mono ?_
  rintro e w1 ⟨rfl, hb⟩
  rw [Q.out]
  have B1 := Lib.hid hb
  clear hb
  cases q
  · have F := Lib.hid (show steepB D = false from by unfold steepB; rw [Q.out]; rfl)
    have P0 := Lib.hid (show SteepestSquare_0 D = 0 ∧ SteepestSquare_1 D = 0 ∧ SteepestSquare_2 D = 0 ∧ SteepestSquare_3 D = false from by unfold SteepestSquare_0 SteepestSquare_1 SteepestSquare_2 SteepestSquare_3; rw [F.out]; exact ⟨rfl, rfl, rfl, rfl⟩)
    go_wp2
    refine bodyPost_ret (results_4w rfl _ _ _) rfl ⟨?_, B1.out⟩
    rw [P0.out.1, P0.out.2.1, P0.out.2.2.1, P0.out.2.2.2]; rfl
  have HD := Lib.hid (rlB_iff.1 Q.out)
  have hm8 := HD.out.m8
  have hn8 := HD.out.n8
  have ST := Lib.hid (show stS D (sqsTo (colsN D) D.length) = (topOf D (fall D), fall D (topOf D (fall D))) from steep_top HD.out)
  have SB := Lib.hid (show steepB D = !(fall D (topOf D (fall D)) == 0) from by unfold steepB; rw [Q.out]; rfl)
  have P0 := Lib.hid (show SteepestSquare_0 D = (if steepB D = true then ((topOf D (fall D)).1 : Int) else 0) ∧ SteepestSquare_1 D = (if steepB D = true then ((topOf D (fall D)).2 : Int) else 0) ∧ SteepestSquare_2 D = (if steepB D = true then fall D (topOf D (fall D)) else 0) ∧ SteepestSquare_3 D = steepB D from ⟨rfl, rfl, rfl, rfl⟩)
  have B2 := Lib.hid (Below.then' B1.out (bel_al1 w1 (.cells #[.int .i64 0, .int .i64 0] 34)))
  have X2 := Lib.hid (HBIntA2.new w1 ⟨0, 0⟩ _ rfl)
  have hs1 := B1.out.size
  go_wp2
  go_loopw [8, 7] (fun i mo wr => ∃ k : Nat, k ≤ D.length ∧ i = .int .i64 k ∧ mo = .int .i64 (stS D (sqsTo (colsN D) k)).2 ∧ HBIntA2 wr w1.heap.size (vsq (stS D (sqsTo (colsN D) k)).1) ∧ Below w.heap.size w wr) (fun i _ _ => D.length - (intOf i).toNat)
  case atStart => exact ⟨0, Nat.zero_le _, rfl, rfl, X2.out, B2.out⟩
  case round =>
    obtain ⟨k, hk, rfl, rfl, hx, hbel⟩ := hrel
    have X := Lib.hid hx
    have B := Lib.hid hbel
    by_cases hlt : k < D.length
    · have k0 : (0 : Int) ≤ (k : Int) := by omega
      have k1 : (k : Int) < (D.length : Int) := by omega
      clear hx hbel
      rename World => w0
      go_wp2
      go_loopw [9, 7] (fun j mo wr => ∃ c : Nat, c ≤ colsN D ∧ j = .int .i64 c ∧ mo = .int .i64 (stS D (sqsTo (colsN D) k ++ sqRow c k)).2 ∧ HBIntA2 wr w1.heap.size (vsq (stS D (sqsTo (colsN D) k ++ sqRow c k)).1) ∧ Below w.heap.size w wr) (fun j _ _ => colsN D - (intOf j).toNat)
      case atStart => exact ⟨0, Nat.zero_le _, rfl, by rw [show sqRow 0 k = [] from rfl, List.append_nil], by rw [show sqRow 0 k = [] from rfl, List.append_nil]; exact X.out, B.out⟩
      case round =>
        obtain ⟨c, hc, rfl, rfl, hx, hbel⟩ := hrel
        have XI := Lib.hid hx
        have BI := Lib.hid hbel
        obtain ⟨b, o, b', o', c', ha, hb, hb', g0, hc1, hc2, g1⟩ := relief_row (S.out.below hbel) HD.out hlt
        subst ha
        by_cases hlc : c < colsN D
        · have RS := Lib.hid (stS_snoc D (sqsTo (colsN D) k ++ sqRow c k) (k, c))
          rw [← sq_more] at RS
          obtain ⟨G, hG⟩ : ∃ G, stS D (sqsTo (colsN D) k ++ sqRow c k) = G := ⟨_, rfl⟩
          rw [hG] at XI RS ⊢
          obtain ⟨⟨gx, gy⟩, gm⟩ := G
          have ba := bel_al1 wr (.cells #[.int .i64 (k : Int), .int .i64 (c : Int)] 34)
          have B2 := Lib.hid (Below.then' hbel ba)
          have X2 := Lib.hid (XI.out.below ba)
          have A2 := Lib.hid (HBIntA2.new wr ⟨(k : Int), (c : Int)⟩ _ rfl)
          obtain ⟨d0, d1⟩ := A2.out.cells
          simp only [] at d0 d1
          have u0 : (0 : Int) ≤ (c : Int) := by omega
          have u1 : (c : Int) < (colsN D : Int) := by omega
          have hne : wr.heap.size ≠ w1.heap.size := by have := XI.out.lt; omega
          clear hx hbel hG ba g1
          go_wp2_with fail
          refine (l9Next_any _ _ _ D k c _ (S.out.below B2.out) HD.out hlt hlc).mono ?_
          rintro e w3 ⟨rfl, hb3⟩
          have NI := next_in (show inR D (k, c) from ⟨hlt, hlc⟩)
          obtain ⟨_, _, _, _, y0, y1⟩ := HD.out.at (show inR D (k, c) from ⟨hlt, hlc⟩)
          obtain ⟨_, _, _, _, y2, y3⟩ := HD.out.at NI
          have FF := Lib.hid (show fall D (k, c) = hA D (k, c) - hA D (nextSq D (k, c)) from rfl)
          obtain ⟨q, hq⟩ : ∃ q, (nextSq D (k, c) == (k, c)) = q := ⟨_, rfl⟩
          rw [hq]
          obtain ⟨m, hm'⟩ : ∃ m, nextSq D (k, c) = m := ⟨_, rfl⟩
          rw [hm'] at FF NI y2 y3 ⊢
          obtain ⟨mx, my⟩ := m
          obtain ⟨hmx, hmy⟩ := NI
          simp only [] at hmx hmy
          have ba := bel_al1 w3 (.cells #[.int .i64 (mx : Int), .int .i64 (my : Int)] 34)
          have B3 := Lib.hid (Below.then' (Below.then' B2.out hb3) ba)
          have X3 := Lib.hid (X2.out.below (Below.then' hb3 ba))
          have A3 := Lib.hid (A2.out.below (Below.then' hb3 ba))
          obtain ⟨f0, f1⟩ := BoxIntA2.new w3 34 ⟨(mx : Int), (my : Int)⟩ _ rfl
          simp only [] at f0 f1
          obtain ⟨b1, o1, b2, o2, c2, ha, _, _, p0, hp1, hp2, p1⟩ := relief_row (S.out.below B3.out) HD.out hlt
          have p2 := p1 c hlc
          obtain ⟨b3, o3, b4, o4, c3, ha2, _, _, r0, hr1, hr2, r1⟩ := relief_row (S.out.below B3.out) HD.out hmx
          have r2 := r1 my hmy
          simp only [Option.some.injEq, Addr.mk.injEq, and_true] at ha ha2
          obtain ⟨rfl, rfl⟩ := ha
          obtain ⟨rfl, rfl⟩ := ha2
          have v0 : (0 : Int) ≤ (mx : Int) := by omega
          have v1 : (mx : Int) < (D.length : Int) := by omega
          have v2 : (0 : Int) ≤ (my : Int) := by omega
          have v3 : (my : Int) < (colsN D : Int) := by omega
          have ws : IntKind.i64.wrap (hA D (k, c) - hA D (mx, my)) = hA D (k, c) - hA D (mx, my) := IntWalk.i64_in _ (by omega)
          clear hb3 ba hq hm' d0 d1 g0 p1 r1
          go_wp2
          go_quiet (fail)
          have bd := bel_drawn (w3.alloc (.cells #[.int .i64 (mx : Int), .int .i64 (my : Int)] 34)) nq
          have B4 := Lib.hid (Below.then' B3.out bd)
          have X4 := Lib.hid (X3.out.below bd)
          have A4 := Lib.hid (A3.out.below bd)
          obtain ⟨d, hd⟩ : ∃ d, hA D (k, c) - hA D (mx, my) = d := ⟨_, rfl⟩
          rw [hd] at FF ⊢
          clear bd p0 p2 r0 r2 f0 f1 ws hd
          obtain ⟨w4, hw4⟩ : ∃ w4, (w3.alloc (.cells #[.int .i64 (mx : Int), .int .i64 (my : Int)] 34)).drewN nq = w4 := ⟨_, rfl⟩
          rw [hw4] at B4 X4 A4 ⊢
          clear hw4
          by_cases hlo : gm < d
          · have RX := Lib.hid (show stS D (sqsTo (colsN D) k ++ sqRow (c + 1) k) = ((k, c), d) from by rw [RS.out]; unfold steepS; rw [FF.out, if_pos hlo])
            obtain ⟨e0, e1⟩ := A4.out.cells
            obtain ⟨q0, q1⟩ := X4.out.cells
            have q2 := X4.out.free 0
            have q3 := X4.out.free 1
            simp only [vsq] at e0 e1 q0 q1
            go_wp2
            go_roundw
            case rel => exact ⟨c + 1, by omega, by go_num, by rw [RX.out], by rw [RX.out]; exact X4.out.setAll (vsq (k, c)), (B4.out.setCell hs1 _).setCell hs1 _⟩
            case measure => simp [intOf]; omega
          · have RX := Lib.hid (show stS D (sqsTo (colsN D) k ++ sqRow (c + 1) k) = ((gx, gy), gm) from by rw [RS.out]; unfold steepS; rw [FF.out, if_neg hlo])
            have dl : decide (gm < d) = false := decide_eq_false hlo
            clear hlo
            go_wp2
            go_roundw
            case rel => exact ⟨c + 1, by omega, by go_num, by rw [RX.out], by rw [RX.out]; exact X4.out, B4.out⟩
            case measure => simp [intOf]; omega
        · obtain rfl : c = colsN D := by omega
          have RX := Lib.hid (show stS D (sqsTo (colsN D) k ++ sqRow (colsN D) k) = stS D (sqsTo (colsN D) (k + 1)) from by rw [sqsTo_succ])
          rw [RX.out] at XI ⊢
          clear hx hbel g1
          go_wp2
          go_roundw
          case rel => exact ⟨k + 1, by omega, by go_num, rfl, XI.out, BI.out⟩
          case measure => simp [intOf]; omega
    · obtain rfl : k = D.length := by omega
      rw [ST.out] at X ⊢
      obtain ⟨t, ht⟩ : ∃ t, topOf D (fall D) = t := ⟨_, rfl⟩
      rw [ht] at X SB P0 ⊢
      obtain ⟨x, y⟩ := t
      simp only [] at X P0 ⊢
      obtain ⟨d, hd⟩ : ∃ d, fall D (x, y) = d := ⟨_, rfl⟩
      rw [hd] at SB P0 ⊢
      obtain ⟨f0, f1⟩ := X.out.cells
      simp only [vsq] at f0 f1
      clear hd hx hbel ht
      by_cases hz : d = 0
      · have F := Lib.hid (show steepB D = false from by rw [SB.out, hz]; rfl)
        rw [F.out] at P0
        subst hz
        clear f0 f1
        go_wp2
        refine bodyPost_ret (results_4w rfl _ _ _) rfl ⟨?_, B.out⟩
        rw [P0.out.1, P0.out.2.1, P0.out.2.2.1, P0.out.2.2.2]; rfl
      · have F := Lib.hid (show steepB D = true from by rw [SB.out]; simp [hz])
        have c1 : (d == (0 : Int)) = false := by simp [hz]
        rw [F.out] at P0
        clear hz
        go_wp2
        go_quiet (fail)
        go_wp2
        refine bodyPost_ret (results_4w rfl _ _ _) rfl ⟨?_, Below.then' B.out (bel_drawn _ _)⟩
        rw [P0.out.1, P0.out.2.1, P0.out.2.2.1, P0.out.2.2.2]; rfl
end Go.Proofs.Ytodjgeffkfbpiaa
