/- Roads in the program: whether two parts meet; wanted pairs of numbers. -/
import Derived.Test.YtpnaciamnigbnaaRoi3
import Derived.Test.YtpnaciamnigbnaaSw
namespace Go.Proofs.Ytpnaciamnigbnaa
open Go.RowKit

instance rangesD (a b c d : Int) : Decidable (Seg.Ranges a b c d) := by unfold Seg.Ranges; infer_instance
def rangesB (a b c d : Int) : Bool := decide (Seg.Ranges a b c d)
theorem rangesB_iff {a b c d : Int} : rangesB a b c d = true ↔ Seg.Ranges a b c d := by unfold rangesB; exact decide_eq_true_iff
set_option maxHeartbeats 3200000 in
theorem doRangesMeet_any (a b c d : Int) (w : World) :
    Calls Try.prog 143 #[.int .i64 a, .int .i64 b, .int .i64 c, .int .i64 d] w fun e w' => e = .returned (.bool (rangesB a b c d)) ∧ w = w' := by
  go_enter Try.func143, Try.ntmps143
  go_wp2
  all_goals go_ret
  all_goals exact ⟨ret_boolR (by rw [Bool.eq_iff_iff, rangesB_iff, decide_eq_true_iff]; unfold Seg.Ranges; omega), rfl⟩
def sidePC (p : VroadPart) (c : VCorner) : Int := Seg.side p.FX p.FY p.TX p.TY c.X c.Y
set_option maxHeartbeats 3200000 in
set_option maxRecDepth 100000 in
theorem sideOf_any (p : VroadPart) (c : VCorner) (w : World) (hp : okP p = true) (hc : okC c = true) :
    Calls Try.prog 156 #[.agg #[.int .i64 p.FX, .int .i64 p.FY, .int .i64 p.TX, .int .i64 p.TY], .agg #[.int .i64 c.X, .int .i64 c.Y]] w fun e w' => e = .returned (.int .i64 (sidePC p c)) ∧ Below w.heap.size w w' := by
  have hp2 := hp
  unfold okP at hp2
  simp only [Bool.and_eq_true] at hp2
  have O1 := Lib.hid hp2.1
  have O2 := Lib.hid hp2.2
  have O3 := Lib.hid hc
  have f1 := okC_iff.1 hp2.1
  have f2 := okC_iff.1 hp2.2
  have f3 := okC_iff.1 hc
  simp only [fromP, toP] at f1 f2
  have hs := (show sidePC p c = (p.TX - p.FX) * (c.Y - p.FY) - (p.TY - p.FY) * (c.X - p.FX) from (Seg.side_eq _ _ _ _ _ _).symm)
  obtain ⟨ux, hux⟩ : ∃ z, p.TX - p.FX = z := ⟨_, rfl⟩
  obtain ⟨uy, huy⟩ : ∃ z, p.TY - p.FY = z := ⟨_, rfl⟩
  obtain ⟨vx, hvx⟩ : ∃ z, c.X - p.FX = z := ⟨_, rfl⟩
  obtain ⟨vy, hvy⟩ : ∃ z, c.Y - p.FY = z := ⟨_, rfl⟩
  have m1 := mul_bd2 (x := ux) (y := vy) (A := 9999) (by omega) (by omega) (by omega) (by omega)
  have m2 := mul_bd2 (x := uy) (y := vx) (A := 9999) (by omega) (by omega) (by omega) (by omega)
  rw [hux, huy, hvx, hvy] at hs
  have v1 : IntKind.i64.wrap (ux * vy) = ux * vy := IntWalk.i64_in _ (by omega)
  have v2 : IntKind.i64.wrap (uy * vx) = uy * vx := IntWalk.i64_in _ (by omega)
  obtain ⟨t, ht⟩ : ∃ t, sidePC p c = t := ⟨_, rfl⟩
  rw [ht] at hs
  rw [ht]
  have v5 : IntKind.i64.wrap (ux * vy - uy * vx) = t := (IntWalk.i64_in _ (by omega)).trans hs.symm
  have UX := Lib.hid (show (toP p).X - (fromP p).X = ux from hux)
  have UY := Lib.hid (show (toP p).Y - (fromP p).Y = uy from huy)
  have VX := Lib.hid (show c.X - (fromP p).X = vx from hvx)
  have VY := Lib.hid (show c.Y - (fromP p).Y = vy from hvy)
  have B0 := Lib.hid (bel_al2 w (.cells #[.int .i64 p.FX, .int .i64 p.FY, .int .i64 p.TX, .int .i64 p.TY] 105) (.cells #[.int .i64 c.X, .int .i64 c.Y] 103))
  have X1 := Lib.hid ((BoxroadPart.new w 105 p _ rfl).below (bel_al1 _ (.cells #[.int .i64 c.X, .int .i64 c.Y] 103)))
  have X2 := Lib.hid (BoxCorner.new (w.alloc (.cells #[.int .i64 p.FX, .int .i64 p.FY, .int .i64 p.TX, .int .i64 p.TY] 105)) 103 c (w.heap.size + 1) (by simp))
  clear hp hp2 hc f1 f2 f3 hs hux huy hvx hvy m1 m2 ht
  go_enter Try.func156, Try.ntmps156
  go_wp2_with fail
  refine (stepBetween_any (fromP p) (toP p) _ O1.out O2.out).mono ?_
  rintro e w1 ⟨rfl, hb⟩
  rw [UX.out, UY.out]
  have B1 := Lib.hid (Below.then' B0.out hb)
  obtain ⟨c0, c1, c2, c3⟩ := X1.out.below hb
  obtain ⟨d0, d1⟩ := X2.out.below hb
  clear hb X1 X2
  go_wp2_with fail
  refine (stepBetween_any (fromP p) c _ O1.out O3.out).mono ?_
  rintro e w2 ⟨rfl, hb⟩
  rw [VX.out, VY.out]
  have B2 := Lib.hid (Below.then' B1.out hb)
  clear hb c0 c1 c2 c3 d0 d1
  go_wp2
  go_ret
  exact ⟨rfl, B2.out⟩
def besB (p q : VroadPart) : Bool := decide (0 < sidePC p (fromP q) * sidePC p (toP q))
theorem sidePC_bd {p : VroadPart} {c : VCorner} (hp : okP p = true) (hc : okC c = true) : -199960002 ≤ sidePC p c ∧ sidePC p c ≤ 199960002 := by
  unfold okP at hp
  simp only [Bool.and_eq_true] at hp
  exact side_bd hp.1 hp.2 hc
set_option maxHeartbeats 3200000 in
set_option maxRecDepth 100000 in
theorem isBeside_any (p q : VroadPart) (w : World) (hp : okP p = true) (hq : okP q = true) :
    Calls Try.prog 144 #[.agg #[.int .i64 p.FX, .int .i64 p.FY, .int .i64 p.TX, .int .i64 p.TY], .agg #[.int .i64 q.FX, .int .i64 q.FY, .int .i64 q.TX, .int .i64 q.TY]] w fun e w' => e = .returned (.bool (besB p q)) ∧ Below w.heap.size w w' := by
  have hq2 := hq
  unfold okP at hq2
  simp only [Bool.and_eq_true] at hq2
  have P0 := Lib.hid hp
  have Q1 := Lib.hid hq2.1
  have Q2 := Lib.hid hq2.2
  have s1 := sidePC_bd hp hq2.1
  have s2 := sidePC_bd hp hq2.2
  obtain ⟨x, hx⟩ : ∃ x, sidePC p (fromP q) = x := ⟨_, rfl⟩
  obtain ⟨y, hy⟩ : ∃ x, sidePC p (toP q) = x := ⟨_, rfl⟩
  rw [hx] at s1
  rw [hy] at s2
  have m1 := mul_bd2 (x := x) (y := y) (A := 199960002) (by omega) (by omega) (by omega) (by omega)
  have v1 : IntKind.i64.wrap (x * y) = x * y := IntWalk.i64_in _ (by omega)
  have BB := Lib.hid (show besB p q = decide (0 < x * y) from by unfold besB; rw [hx, hy])
  have B0 := Lib.hid (bel_al2 w (.cells #[.int .i64 p.FX, .int .i64 p.FY, .int .i64 p.TX, .int .i64 p.TY] 105) (.cells #[.int .i64 q.FX, .int .i64 q.FY, .int .i64 q.TX, .int .i64 q.TY] 105))
  have X1 := Lib.hid ((BoxroadPart.new w 105 p _ rfl).below (bel_al1 _ (.cells #[.int .i64 q.FX, .int .i64 q.FY, .int .i64 q.TX, .int .i64 q.TY] 105)))
  have X2 := Lib.hid (BoxroadPart.new (w.alloc (.cells #[.int .i64 p.FX, .int .i64 p.FY, .int .i64 p.TX, .int .i64 p.TY] 105)) 105 q (w.heap.size + 1) (by simp))
  have X := Lib.hid hx
  have Y := Lib.hid hy
  clear hp hq hq2 hx hy s1 s2 m1
  go_enter Try.func144, Try.ntmps144
  go_wp2
  refine wp_world (fun W => BoxroadPart W w.heap.size p ∧ BoxroadPart W (w.heap.size + 1) q ∧ Below w.heap.size w W) ⟨X1.out, X2.out, B0.out⟩ ?_
  rintro W ⟨⟨c0, c1, c2, c3⟩, ⟨d0, d1, d2, d3⟩, hbw⟩
  have BW := Lib.hid hbw
  have k0 := cell_regrown c0
  have k1 := cell_regrown c1
  have k2 := cell_regrown c2
  have k3 := cell_regrown c3
  have k4 := cell_regrown d0
  have k5 := cell_regrown d1
  have k6 := cell_regrown d2
  have k7 := cell_regrown d3
  have cX := below_at (W := W) (fun W' _ => (show Calls Try.prog 156 #[.agg #[.int .i64 p.FX, .int .i64 p.FY, .int .i64 p.TX, .int .i64 p.TY], .agg #[.int .i64 q.FX, .int .i64 q.FY]] W' fun e w' => e = .returned (.int .i64 x) ∧ Below W'.heap.size W' w' from X.out ▸ sideOf_any p (fromP q) W' P0.out Q1.out))
  have cY := below_at (W := W) (fun W' _ => (show Calls Try.prog 156 #[.agg #[.int .i64 p.FX, .int .i64 p.FY, .int .i64 p.TX, .int .i64 p.TY], .agg #[.int .i64 q.TX, .int .i64 q.TY]] W' fun e w' => e = .returned (.int .i64 y) ∧ Below W'.heap.size W' w' from Y.out ▸ sideOf_any p (toP q) W' P0.out Q2.out))
  clear c0 c1 c2 c3 d0 d1 d2 d3 hbw X1 X2
  refine wp_region_quiet_below (by kernel_rfl) (by kernel_rfl) ?_
  repeat (first | go_big_quiet_step (first | (with_reducible exact cX _ _) | (with_reducible exact cY _ _)) | quiet_step (first | (with_reducible exact cX _ _) | (with_reducible exact cY _ _)))
  refine wpQuiet_nil ?_
  intro W2 hw2
  have B2 := Lib.hid (Below.then' BW.out (below_of_re hw2))
  clear hw2 cX cY k0 k1 k2 k3 k4 k5 k6 k7
  go_wp2
  go_ret
  exact ⟨ret_boolR BB.out.symm, B2.out⟩
def meetB (p q : VroadPart) : Bool := rangesB p.FX p.TX q.FX q.TX && (rangesB p.FY p.TY q.FY q.TY && (!(besB p q) && !(besB q p)))
theorem besB_no {p q : VroadPart} : besB p q = false ↔ ¬ 0 < Seg.side p.FX p.FY p.TX p.TY q.FX q.FY * Seg.side p.FX p.FY p.TX p.TY q.TX q.TY := by unfold besB; exact decide_eq_false_iff_not
theorem meetB_iff {p q : VroadPart} : meetB p q = true ↔ Seg.Meet p.FX p.FY p.TX p.TY q.FX q.FY q.TX q.TY := by
  unfold meetB Seg.Meet
  simp only [Bool.and_eq_true, rangesB_iff, Bool.not_eq_true', besB_no]
set_option maxHeartbeats 6400000 in
set_option maxRecDepth 100000 in
theorem doMeet_any (p q : VroadPart) (w : World) (hp : okP p = true) (hq : okP q = true) :
    Calls Try.prog 109 #[.agg #[.int .i64 p.FX, .int .i64 p.FY, .int .i64 p.TX, .int .i64 p.TY], .agg #[.int .i64 q.FX, .int .i64 q.FY, .int .i64 q.TX, .int .i64 q.TY]] w fun e w' => e = .returned (.bool (meetB p q)) ∧ Below w.heap.size w w' := by
  have P0 := Lib.hid hp
  have Q0 := Lib.hid hq
  obtain ⟨x, hx⟩ : ∃ x, rangesB p.FX p.TX q.FX q.TX = x := ⟨_, rfl⟩
  obtain ⟨y, hy⟩ : ∃ x, rangesB p.FY p.TY q.FY q.TY = x := ⟨_, rfl⟩
  obtain ⟨u, hu⟩ : ∃ x, besB p q = x := ⟨_, rfl⟩
  obtain ⟨v, hv⟩ : ∃ x, besB q p = x := ⟨_, rfl⟩
  have MB := Lib.hid (show meetB p q = (x && (y && (!u && !v))) from by unfold meetB; rw [hx, hy, hu, hv])
  have X := Lib.hid hx
  have Y := Lib.hid hy
  have U := Lib.hid hu
  have V := Lib.hid hv
  have B0 := Lib.hid (bel_al2 w (.cells #[.int .i64 p.FX, .int .i64 p.FY, .int .i64 p.TX, .int .i64 p.TY] 105) (.cells #[.int .i64 q.FX, .int .i64 q.FY, .int .i64 q.TX, .int .i64 q.TY] 105))
  have X1 := Lib.hid ((BoxroadPart.new w 105 p _ rfl).below (bel_al1 _ (.cells #[.int .i64 q.FX, .int .i64 q.FY, .int .i64 q.TX, .int .i64 q.TY] 105)))
  have X2 := Lib.hid (BoxroadPart.new (w.alloc (.cells #[.int .i64 p.FX, .int .i64 p.FY, .int .i64 p.TX, .int .i64 p.TY] 105)) 105 q (w.heap.size + 1) (by simp))
  clear hp hq hx hy hu hv
  go_enter Try.func109, Try.ntmps109
  go_wp2_with fail
  refine (doRangesMeet_any _ _ _ _ _).mono ?_
  rintro e w' ⟨rfl, rfl⟩
  rw [X.out]
  cases x
  · go_wp2
    go_ret
    exact ⟨ret_boolR (by rw [MB.out]; rfl), B0.out⟩
  go_wp2_with fail
  refine (doRangesMeet_any _ _ _ _ _).mono ?_
  rintro e w' ⟨rfl, rfl⟩
  rw [Y.out]
  cases y
  · go_wp2
    go_ret
    exact ⟨ret_boolR (by rw [MB.out]; rfl), B0.out⟩
  go_wp2_with fail
  refine (isBeside_any p q _ P0.out Q0.out).mono ?_
  rintro e w1 ⟨rfl, hb⟩
  rw [U.out]
  have B1 := Lib.hid (Below.then' B0.out hb)
  obtain ⟨c0, c1, c2, c3⟩ := X1.out.below hb
  obtain ⟨d0, d1, d2, d3⟩ := X2.out.below hb
  clear hb X1 X2
  cases u
  · go_wp2_with fail
    refine (isBeside_any q p _ Q0.out P0.out).mono ?_
    rintro e w2 ⟨rfl, hb⟩
    rw [V.out]
    have B2 := Lib.hid (Below.then' B1.out hb)
    clear hb c0 c1 c2 c3 d0 d1 d2 d3
    cases v
    · go_wp2
      go_ret
      exact ⟨ret_boolR (by rw [MB.out]; rfl), B2.out⟩
    · go_wp2
      go_ret
      exact ⟨ret_boolR (by rw [MB.out]; rfl), B2.out⟩
  · go_wp2
    go_ret
    exact ⟨ret_boolR (by rw [MB.out]; rfl), B1.out⟩
def PairPost (f : Nat → Nat → Bool) (m n : Nat) (w : World) (e : Ending) (w' : World) : Prop := ∃ v, e = .returned v ∧ w'.ownsRow w.heap.size 34 2 v (pairsTo f n m).length (cellsIntA2 (pairsTo f n m)) ∧ Below w.heap.size w w'
set_option maxHeartbeats 6400000 in
set_option maxRecDepth 100000 in
theorem pairsWhere_any (m n : Nat) (hm : m ≤ 20) (hn : n ≤ 20) (K : FuncId) (caps : Array Value) (f : Nat → Nat → Bool) (w : World)
    (hcall : ∀ args W, (callFunc K args).run Try.prog W = .ok (.enter K args) W)
    (hf : ∀ (W : World) (i k : Nat), i < m → k < n → Below w.heap.size w W → Calls Try.prog K (#[.int .i64 (i : Int), .int .i64 (k : Int)] ++ caps) W fun e w' => e = .returned (.bool (f i k)) ∧ Below W.heap.size W w') :
    Calls Try.prog 107 #[.int .i64 (m : Int), .int .i64 (n : Int), .func (.func K) #[] caps] w (PairPost f m n w) := by
  obtain ⟨ri, hi, hz0, hz1, hz2⟩ := info_parts infoIntA2
  have F := Lib.hid hf
  clear hf
  go_enter Try.func107, Try.ntmps107
  go_wp2
  go_loopw [11, 7] (fun i o wr => ∃ k : Nat, k ≤ m ∧ i = .int .i64 k ∧ wr.ownsRow w.heap.size 34 2 o (pairsTo f n k).length (cellsIntA2 (pairsTo f n k)) ∧ Below w.heap.size w wr) (fun i _ _ => m - (intOf i).toNat)
  case atStart => exact ⟨0, Nat.zero_le _, rfl, ⟨by simp [cellsIntA2, pairsTo], .inl ⟨rfl, rfl⟩⟩, Below.refl _ _⟩
  case round =>
    obtain ⟨i, hi1, rfl, hown, hbel⟩ := hrel
    have B := Lib.hid hbel
    have O := Lib.hid hown
    clear hown hbel
    by_cases hlt : i < m
    · have hlt2 : (i : Int) < (m : Int) := by omega
      have PS := Lib.hid (show pairsTo f n (i + 1) = pairsTo f n i ++ pairRow f i n from rfl)
      have PL := pairsTo_len f n i
      have PL2 : (pairsTo f n i).length ≤ 400 := Nat.le_trans PL (Nat.mul_le_mul (show i ≤ 20 by omega) hn)
      clear PL
      rename World => w0
      go_wp2
      go_loopw [15, 7] (fun j ov wr => ∃ k : Nat, k ≤ n ∧ j = .int .i64 k ∧ wr.ownsRow w.heap.size 34 2 ov (pairsTo f n i ++ pairRow f i k).length (cellsIntA2 (pairsTo f n i ++ pairRow f i k)) ∧ Below w.heap.size w wr) (fun j _ _ => n - (intOf j).toNat)
      case atStart => exact ⟨0, Nat.zero_le _, rfl, by rw [show pairRow f i 0 = [] from rfl, List.append_nil]; exact O.out, B.out⟩
      case round =>
        obtain ⟨k, hk, rfl, hown, hbel⟩ := hrel
        have BI := Lib.hid hbel
        by_cases hlk : k < n
        · have hlk2 : (k : Int) < (n : Int) := by omega
          have RS := Lib.hid (show pairsTo f n i ++ pairRow f i (k + 1) = (pairsTo f n i ++ pairRow f i k) ++ (if f i k = true then [⟨(i : Int), (k : Int)⟩] else []) from by rw [pairRow_succ, List.append_assoc])
          have hle : (pairsTo f n i ++ pairRow f i k).length ≤ 420 := by rw [List.length_append]; have := pairRow_len f i k; omega
          obtain ⟨G, hG⟩ : ∃ G, pairsTo f n i ++ pairRow f i k = G := ⟨_, rfl⟩
          rw [hG] at hown RS hle
          have OI := Lib.hid hown
          obtain ⟨r, hr⟩ : ∃ r, f i k = r := ⟨_, rfl⟩
          have RR := Lib.hid hr
          rw [hr] at RS
          have hsz := BI.out.size
          clear hown hbel hG hr
          go_wp2_with fail
          refine (F.out _ i k hlt hlk BI.out).mono ?_
          rintro e w2 ⟨rfl, hb⟩
          rw [RR.out]
          have B2 := Lib.hid (Below.then' BI.out hb)
          have O2 := Lib.hid (ownsRow_below OI.out hb)
          have hs2 := hb.size
          clear hb
          cases r
          · go_wp2
            go_roundw
            case rel => exact ⟨k + 1, by omega, by go_num, by rw [RS.out]; simpa using O2.out, B2.out⟩
            case measure => simp [intOf]; omega
          · have hown3 := World.ownsRow.alloc O2.out (.cells #[.int .i64 (i : Int), .int .i64 (k : Int)] 34)
            have CELL := Lib.hid (cell_IntA2 w2 (⟨(i : Int), (k : Int)⟩ : VIntA2) 34)
            go_wp2_with (at_builtin; refine wpList_append_own _ rfl _ _ 27 rfl w.heap.size 34 ri (.agg #[.int .i64 0, .int .i64 0]) 2 16 Try.underlying27 hi hz0 hz1 hz2 rfl (by decide) _ _ _ rfl hown3 ⟨w2.heap.size, 0, none⟩ 1 1 (VIntA2.vals ⟨(i : Int), (k : Int)⟩) rfl rfl CELL.out (VIntA2.vals_one _) (by unfold maxLen; omega) (by omega) (by simp; omega) ?_; intro v' w4 hown' hgrow4 _)
            go_roundw
            case rel =>
              refine ⟨k + 1, by omega, by go_num, ?_, (Below.then' B2.out (wh_al1 _ _)).grown hgrow4 (by simp; omega) (fun j e => (hown3.lt j e).1)⟩
              rw [RS.out, if_pos trivial, cellsIntA2_snoc, List.length_append]
              exact hown'
            case measure => simp [intOf]; omega
        · obtain rfl : k = n := by omega
          have O2 := Lib.hid (show wr.ownsRow w.heap.size 34 2 _ (pairsTo f k (i + 1)).length (cellsIntA2 (pairsTo f k (i + 1))) from by rw [PS.out]; exact hown)
          clear hown hbel
          go_wp2
          go_roundw
          case rel => exact ⟨i + 1, by omega, by go_num, O2.out, BI.out⟩
          case measure => simp [intOf]; omega
    · obtain rfl : i = m := by omega
      go_wp2
      go_ret
      exact ⟨_, rfl, O.out, B.out⟩
end Go.Proofs.Ytpnaciamnigbnaa
