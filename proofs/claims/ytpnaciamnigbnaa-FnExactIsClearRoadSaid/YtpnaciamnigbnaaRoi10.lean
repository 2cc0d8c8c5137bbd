/- Roads in the program: crossing parts, clear roads. -/
import Derived.Test.YtpnaciamnigbnaaRoi9
import Derived.Test.YtpnaciamnigbnaaRoi4
import Derived.Test.YtpnaciamnigbnaaCrossingPartsP
import Derived.Test.YtpnaciamnigbnaaIsClearRoadP
namespace Go.Proofs.Ytpnaciamnigbnaa
open Go.RowKit

theorem meet_at {a b : List VCorner} (ha : Road a) (hb : Road b) {i k : Nat} (hi : i + 1 < a.length) (hk : k + 1 < b.length) : meetB (partOf a i) (partOf b k) = crossAt a b i k := by
  rw [Bool.eq_iff_iff, meetB_iff]
  unfold crossAt
  rw [crossB_iff]
  exact meet_cross (ha.apart hi) (hb.apart hk)
theorem partsOf_at (xs : List VCorner) {i : Nat} (h : i + 1 < xs.length) : (partsOf xs)[i]? = some (partOf xs i) := partsTo_at xs (by omega)
theorem partsOf_len (xs : List VCorner) : (partsOf xs).length = xs.length - 1 := partsTo_len xs _
set_option maxHeartbeats 6400000 in
set_option maxRecDepth 100000 in
theorem crossClos_any (ba bb : Nat) (pa : Option Addr) (na ca : Nat) (pb : Option Addr) (nb cb : Nat) (a b : List VCorner) (i k : Nat) (w : World) (h1 : w.cell? ⟨ba, 0, none⟩ = some (.slice pa na ca)) (h2 : w.cell? ⟨bb, 0, none⟩ = some (.slice pb nb cb)) (hp : IsroadPartS w pa na ca (partsOf a)) (hq : IsroadPartS w pb nb cb (partsOf b)) (ha : Road a) (hb : Road b) (hi : i + 1 < a.length) (hk : k + 1 < b.length) :
    Calls Try.prog 108 #[.int .i64 (i : Int), .int .i64 (k : Int), .pointer (some ⟨ba, 0, none⟩), .pointer (some ⟨bb, 0, none⟩)] w fun e w' => e = .returned (.bool (crossAt a b i k)) ∧ Below w.heap.size w w' := by
  have la := ha.l12
  have lb := hb.l12
  have pa1 := partsOf_len a
  have pb1 := partsOf_len b
  have na1 : i < na := by rw [hp.1]; omega
  have nb1 : k < nb := by rw [hq.1]; omega
  have na2 : na ≤ 12 := by rw [hp.1]; omega
  have nb2 : nb ≤ 12 := by rw [hq.1]; omega
  obtain ⟨b0, o0, rfl, _, hat0⟩ := hp.at (by omega)
  obtain ⟨b1, o1, rfl, _, hat1⟩ := hq.at (by omega)
  obtain ⟨c0, c1, c2, c3⟩ := hat0 i _ (partsOf_at a hi)
  obtain ⟨d0, d1, d2, d3⟩ := hat1 k _ (partsOf_at b hk)
  have ME := Lib.hid (meet_at ha hb hi hk)
  have OP := Lib.hid (okP_at ha hi)
  have OQ := Lib.hid (okP_at hb hk)
  generalize partOf a i = p at *
  generalize partOf b k = q at *
  have k0 := cell_regrown c0
  have k1 := cell_regrown c1
  have k2 := cell_regrown c2
  have k3 := cell_regrown c3
  have k4 := cell_regrown d0
  have k5 := cell_regrown d1
  have k6 := cell_regrown d2
  have k7 := cell_regrown d3
  have k8 := cell_regrown h1
  have k9 := cell_regrown h2
  have cM := below_at (W := w) (fun W' _ => ME.out ▸ doMeet_any p q W' OP.out OQ.out)
  have j0 : (0 : Int) ≤ (i : Int) := by omega
  have j1 : (i : Int) < (na : Int) := by omega
  have j2 : (0 : Int) ≤ (k : Int) := by omega
  have j3 : (k : Int) < (nb : Int) := by omega
  clear c0 c1 c2 c3 d0 d1 d2 d3 h1 h2 hp hq ha hb hi hk hat0 hat1 pa1 pb1
  go_enter Try.func108, Try.ntmps108
  go_wp2
  refine wp_region_quiet_below (by kernel_rfl) (by kernel_rfl) ?_
  repeat (first | go_big_quiet_step (with_reducible exact cM _ _) | quiet_step (with_reducible exact cM _ _))
  refine wpQuiet_nil ?_
  intro W2 hw2
  have B2 := Lib.hid (below_of_re hw2)
  clear hw2 cM k0 k1 k2 k3 k4 k5 k6 k7 k8 k9
  go_wp2
  go_ret
  exact ⟨rfl, B2.out⟩
set_option maxHeartbeats 6400000 in
set_option maxRecDepth 100000 in
theorem implCrossingParts_any (a0 : Option Addr) (n0 c0 : Nat) (xs : List VCorner) (a1 : Option Addr) (n1 c1 : Nat) (ys : List VCorner) (w : World) (h0 : IsCornerS w a0 n0 c0 xs) (h1 : IsCornerS w a1 n1 c1 ys) :
    Calls Try.prog 48 #[.slice a0 n0 c0, .slice a1 n1 c1] w (CrossingParts_Post xs ys w) := by
  have S0 := Lib.hid h0
  have S1 := Lib.hid h1
  clear h0 h1
  obtain ⟨qa, hqa⟩ : ∃ q, roadB xs = q := ⟨_, rfl⟩
  obtain ⟨qb, hqb⟩ : ∃ q, roadB ys = q := ⟨_, rfl⟩
  have QA := Lib.hid hqa
  have QB := Lib.hid hqb
  have F1 := Lib.hid (show CrossingParts_1 xs ys = (qa && qb) from by unfold CrossingParts_1; rw [hqa, hqb])
  have F0 := Lib.hid (show CrossingParts_0 xs ys = if (qa && qb) = true then pairsTo (crossAt xs ys) (ys.length - 1) (xs.length - 1) else [] from by unfold CrossingParts_0; rw [hqa, hqb])
  clear hqa hqb
  go_enter Try.func48, Try.ntmps48
  go_wp2_with fail
  refine (isRoad_any _ _ _ xs _ S0.out).mono ?_
  rintro e w1 ⟨rfl, hb⟩
  rw [QA.out]
  have B1 := Lib.hid hb
  clear hb
  cases qa
  · have G0 := Lib.hid (show CrossingParts_0 xs ys = [] from F0.out)
    have G1 := Lib.hid (show CrossingParts_1 xs ys = false from F1.out)
    clear F0 F1
    go_wp2
    go_ret2
    exact ⟨_, by rw [G1.out]; rfl, by rw [G0.out]; exact nil_OwnIntA2S _ _ _, B1.out⟩
  go_wp2_with fail
  refine (isRoad_any _ _ _ ys _ (S1.out.below B1.out)).mono ?_
  rintro e w2 ⟨rfl, hb⟩
  rw [QB.out]
  have B2 := Lib.hid (Below.then' B1.out hb)
  clear hb
  cases qb
  · have G0 := Lib.hid (show CrossingParts_0 xs ys = [] from F0.out)
    have G1 := Lib.hid (show CrossingParts_1 xs ys = false from F1.out)
    clear F0 F1
    go_wp2
    go_ret2
    exact ⟨_, by rw [G1.out]; rfl, by rw [G0.out]; exact nil_OwnIntA2S _ _ _, B2.out⟩
  have G0 := Lib.hid (show CrossingParts_0 xs ys = pairsTo (crossAt xs ys) (ys.length - 1) (xs.length - 1) from F0.out)
  have G1 := Lib.hid (show CrossingParts_1 xs ys = true from F1.out)
  have RA := Lib.hid (road_iff.1 QA.out)
  have RB := Lib.hid (road_iff.1 QB.out)
  have la := RA.out.l12
  have lb := RB.out.l12
  clear F0 F1
  go_wp2_with fail
  refine (roadParts_any _ _ _ xs _ (S0.out.below B2.out) RA.out).mono ?_
  rintro e w3 ⟨v3, rfl, hown, hb⟩
  obtain ⟨pa, ca, rfl, hia, _⟩ := isroadPartS_own hown
  have B3 := Lib.hid (Below.then' B2.out hb)
  have IA := Lib.hid hia
  clear hown hia hb
  go_wp2_with fail
  refine (roadParts_any _ _ _ ys _ (S1.out.below B3.out) RB.out).mono ?_
  rintro e w4 ⟨v4, rfl, hown, hb⟩
  obtain ⟨pb, cb, rfl, hib, _⟩ := isroadPartS_own hown
  have B4 := Lib.hid (Below.then' B3.out hb)
  have IA4 := Lib.hid (IA.out.below hb)
  have IB := Lib.hid hib
  clear hown hib hb
  have PLA := partsOf_len xs
  have PLB := partsOf_len ys
  obtain ⟨m, hm⟩ : ∃ m, xs.length - 1 = m := ⟨_, rfl⟩
  obtain ⟨n, hn⟩ : ∃ n, ys.length - 1 = n := ⟨_, rfl⟩
  rw [hm] at PLA G0
  rw [hn] at PLB G0
  rw [PLA, PLB]
  rw [PLA] at IA4
  rw [PLB] at IB
  have HM := Lib.hid hm
  have HN := Lib.hid hn
  have m12 : m ≤ 20 := by omega
  have n12 : n ≤ 20 := by omega
  have hx := Lib.hid (fun (i : Nat) (h : i < m) => (show i + 1 < xs.length by omega))
  have hy := Lib.hid (fun (i : Nat) (h : i < n) => (show i + 1 < ys.length by omega))
  clear hm hn PLA PLB la lb
  have BA := Lib.hid (bel_al2 w4 (.cells #[.slice pa m ca] 98) (.cells #[.slice pb n cb] 98))
  have E1 := Lib.hid (show ((w4.alloc (.cells #[.slice pa m ca] 98)).alloc (.cells #[.slice pb n cb] 98)).cell? ⟨w4.heap.size, 0, none⟩ = some (.slice pa m ca) from cell_stay' (cell_box' w4 _ _ _ rfl) (bel_al1 _ _))
  have E2 := Lib.hid (show ((w4.alloc (.cells #[.slice pa m ca] 98)).alloc (.cells #[.slice pb n cb] 98)).cell? ⟨w4.heap.size + 1, 0, none⟩ = some (.slice pb n cb) from cell_box' (w4.alloc (.cells #[.slice pa m ca] 98)) _ _ _ (by simp))
  go_wp2_with fail
  refine (pairsWhere_any m n m12 n12 108 #[.pointer (some ⟨w4.heap.size, 0, none⟩), .pointer (some ⟨w4.heap.size + 1, 0, none⟩)] (crossAt xs ys) _ (enters_fn Try.func108 (by kernel_rfl) (by kernel_rfl)) (fun W i k hi hk hW => crossClos_any _ _ _ _ _ _ _ _ xs ys i k W (cell_stay' E1.out hW) (cell_stay' E2.out hW) ((IA4.out.below BA.out).below hW) ((IB.out.below BA.out).below hW) RA.out RB.out (hx.out i hi) (hy.out k hk))).mono ?_
  rintro e w5 ⟨v, rfl, hown, hb⟩
  have B5 := Lib.hid (Below.then' (Below.then' B4.out BA.out) hb)
  have s4 := B4.out.size
  have OO := Lib.hid (OwnIn.of_row (lo := w.heap.size) (hi := w5.heap.size) hown (by simp; omega) (Nat.le_refl _))
  clear hown hb
  go_wp2
  go_ret2
  exact ⟨_, by rw [G1.out]; rfl, by rw [G0.out]; exact OO.out, B5.out⟩
/-- The closure of IsClearRoad: do these two parts spoil the road? -/
def spoilN (xs : List VCorner) (i j : Nat) : Bool := spoilC xs i j
set_option maxHeartbeats 6400000 in
set_option maxRecDepth 100000 in
theorem clearClos_any (br bp : Nat) (a0 : Option Addr) (n0 c0 : Nat) (pa : Option Addr) (na ca : Nat) (xs : List VCorner) (i k : Nat) (w : World) (h1 : w.cell? ⟨br, 0, none⟩ = some (.slice a0 n0 c0)) (h2 : w.cell? ⟨bp, 0, none⟩ = some (.slice pa na ca)) (hs : IsCornerS w a0 n0 c0 xs) (hp : IsroadPartS w pa na ca (partsOf xs)) (hr : Road xs) (hi : i + 1 < xs.length) (hk : k + 1 < xs.length) :
    Calls Try.prog 120 #[.int .i64 (i : Int), .int .i64 (k : Int), .pointer (some ⟨br, 0, none⟩), .pointer (some ⟨bp, 0, none⟩)] w fun e w' => e = .returned (.bool (spoilC xs i k)) ∧ Below w.heap.size w w' := by
  have l12 := hr.l12
  have v1 : IntKind.i64.wrap ((i : Int) + 1) = (i : Int) + 1 := IntWalk.i64_in _ (by omega)
  by_cases hki : k = i + 1
  · subst hki
    have SP := Lib.hid (show spoilC xs i (i + 1) = (bendAtU xs (i + 1) == 98) from by unfold spoilC; rw [if_pos rfl])
    have BC := Lib.hid (bendAt_any _ _ _ xs i w hs hr (by omega))
    obtain ⟨u, hu⟩ : ∃ u, bendAtU xs (i + 1) = u := ⟨_, rfl⟩
    have U := Lib.hid hu
    have e0 : (((i + 1 : Nat) : Int) == (i : Int) + 1) = true := by simp
    have R := Lib.hid hr
    have S := Lib.hid hs
    have hi2 : i + 2 < xs.length := by omega
    clear hr hs hp hu
    by_cases h98 : u = 98
    · have e1 : (((u.toNat : Nat) : Int) == 98) = true := by rw [h98]; rfl
      have G := Lib.hid (show spoilC xs i (i + 1) = true from by rw [SP.out, U.out, h98]; rfl)
      clear h98
      go_enter Try.func120, Try.ntmps120
      go_wp2_with fail
      refine (bendAt_any _ _ _ xs i _ S.out R.out hi2).mono ?_
      rintro e w2 ⟨rfl, hb⟩
      rw [U.out]
      have B := Lib.hid hb
      clear hb h1 h2
      go_wp2
      go_ret
      exact ⟨ret_boolR G.out.symm, B.out⟩
    · have e1 : (((u.toNat : Nat) : Int) == 98) = false := by
        rw [beq_eq_false_iff_ne]
        intro h
        apply h98
        apply UInt8.toNat_inj.1
        show u.toNat = 98
        omega
      have G := Lib.hid (show spoilC xs i (i + 1) = false from by rw [SP.out, U.out]; simp [h98])
      clear h98
      go_enter Try.func120, Try.ntmps120
      go_wp2_with fail
      refine (bendAt_any _ _ _ xs i _ S.out R.out hi2).mono ?_
      rintro e w2 ⟨rfl, hb⟩
      rw [U.out]
      have B := Lib.hid hb
      clear hb h1 h2
      go_wp2
      go_ret
      exact ⟨ret_boolR G.out.symm, B.out⟩
  · have SP := Lib.hid (show spoilC xs i k = (decide (i < k) && crossAt xs xs i k) from by unfold spoilC; rw [if_neg hki])
    have e0 : ((k : Int) == (i : Int) + 1) = false := by simp; omega
    by_cases hlt : i < k
    · have pa1 := partsOf_len xs
      have na1 : k < na := by rw [hp.1]; omega
      have na2 : na ≤ 12 := by rw [hp.1]; omega
      obtain ⟨b0, o0, rfl, _, hat0⟩ := hp.at (by omega)
      obtain ⟨c0, c1, c2, c3⟩ := hat0 i _ (partsOf_at xs hi)
      obtain ⟨d0, d1, d2, d3⟩ := hat0 k _ (partsOf_at xs hk)
      have ME := Lib.hid (show meetB (partOf xs i) (partOf xs k) = spoilC xs i k from by rw [meet_at hr hr hi hk, SP.out, decide_eq_true hlt]; rfl)
      have OP := Lib.hid (okP_at hr hi)
      have OQ := Lib.hid (okP_at hr hk)
      generalize partOf xs i = p at *
      generalize partOf xs k = q at *
      have k0 := cell_regrown c0
      have k1 := cell_regrown c1
      have k2 := cell_regrown c2
      have k3 := cell_regrown c3
      have k4 := cell_regrown d0
      have k5 := cell_regrown d1
      have k6 := cell_regrown d2
      have k7 := cell_regrown d3
      have k8 := cell_regrown h1
      have k9 := cell_regrown h2
      have cM := below_at (W := w) (fun W' _ => ME.out ▸ doMeet_any p q W' OP.out OQ.out)
      have j0 : (0 : Int) ≤ (i : Int) := by omega
      have j1 : (i : Int) < (na : Int) := by omega
      have j2 : (0 : Int) ≤ (k : Int) := by omega
      have j3 : (k : Int) < (na : Int) := by omega
      have e1 : decide (i < k) = true := decide_eq_true hlt
      clear c0 c1 c2 c3 d0 d1 d2 d3 h1 h2 hp hs hr hi hk hat0 pa1 hki
      go_enter Try.func120, Try.ntmps120
      go_wp2
      refine wp_region_quiet_below (by kernel_rfl) (by kernel_rfl) ?_
      repeat (first | go_big_quiet_step (with_reducible exact cM _ _) | quiet_step (with_reducible exact cM _ _))
      refine wpQuiet_nil ?_
      intro W2 hw2
      have B2 := Lib.hid (below_of_re hw2)
      clear hw2 cM k0 k1 k2 k3 k4 k5 k6 k7 k8 k9
      go_wp2
      go_ret
      exact ⟨rfl, B2.out⟩
    · have G := Lib.hid (show spoilC xs i k = false from by rw [SP.out, decide_eq_false hlt]; rfl)
      have e1 : decide (i < k) = false := decide_eq_false hlt
      have e2 : ¬ (i : Int) < (k : Int) := by omega
      clear h1 h2 hp hs hr hi hk hki hlt
      go_enter Try.func120, Try.ntmps120
      go_wp2
      go_quiet (fail)
      have B2 := Lib.hid (bel_drawn w nq)
      go_wp2
      go_ret
      exact ⟨ret_boolR G.out.symm, B2.out⟩
theorem ret_bbR {a b p q : Bool} (h : a = b) (k : p = q) : Ending.returned (.tuple #[.bool a, .bool p]) = .returned (.tuple #[.bool b, .bool q]) := by rw [h, k]
set_option maxHeartbeats 6400000 in
set_option maxRecDepth 100000 in
theorem implIsClearRoad_any (a : Option Addr) (len cap : Nat) (xs : List VCorner) (w : World) (h : IsCornerS w a len cap xs) :
    Calls Try.prog 59 #[.slice a len cap] w (IsClearRoad_Post xs w) := by
  have B0 := Lib.hid (bel_al1 w (.cells #[.slice a len cap] 47))
  have E0 := Lib.hid (cell_box' w (.slice a len cap) 47 _ rfl)
  have S := Lib.hid (h.below B0.out)
  clear h
  obtain ⟨q, hq⟩ : ∃ q, roadB xs = q := ⟨_, rfl⟩
  have Q := Lib.hid hq
  have F1 := Lib.hid (show IsClearRoad_1 xs = q from hq)
  have F0 := Lib.hid (show IsClearRoad_0 xs = (q && clearB xs) from by unfold IsClearRoad_0; rw [hq])
  clear hq
  go_enter Try.func59, Try.ntmps59
  go_wp2_with fail
  refine (isRoad_any _ _ _ xs _ S.out).mono ?_
  rintro e w1 ⟨rfl, hb⟩
  rw [Q.out]
  have B1 := Lib.hid (Below.then' B0.out hb)
  have S1 := Lib.hid (S.out.below hb)
  have g0 := cell_stay' E0.out hb
  have E1 := Lib.hid g0
  clear hb
  cases q
  · have G0 := Lib.hid (show IsClearRoad_0 xs = false from F0.out)
    clear F0 g0
    go_wp2
    go_ret2
    exact ⟨ret_bbR G0.out.symm F1.out.symm, B1.out⟩
  have R := Lib.hid (road_iff.1 Q.out)
  have l12 := R.out.l12
  go_wp2_with fail
  refine (roadParts_any _ _ _ xs _ S1.out R.out).mono ?_
  rintro e w2 ⟨v2, rfl, hown, hb⟩
  obtain ⟨pa, ca, rfl, hia, _⟩ := isroadPartS_own hown
  have B2 := Lib.hid (Below.then' B1.out hb)
  have S2 := Lib.hid (S1.out.below hb)
  have IA := Lib.hid hia
  have E2 := Lib.hid (cell_stay' E1.out hb)
  have z2 : w.heap.size < w2.heap.size := World.lt_of_cell E2.out
  clear hown hia hb g0
  have PLA := partsOf_len xs
  obtain ⟨m, hm⟩ : ∃ m, xs.length - 1 = m := ⟨_, rfl⟩
  have CB := Lib.hid (show clearB xs = (pairsTo (spoilC xs) m m).isEmpty from by unfold clearB; rw [hm])
  rw [hm] at PLA
  rw [PLA]
  rw [PLA] at IA
  have m12 : m ≤ 20 := by omega
  have hx := Lib.hid (fun (i : Nat) (h : i < m) => (show i + 1 < xs.length by omega))
  clear hm PLA l12
  have BA := Lib.hid (bel_al1 w2 (.cells #[.slice pa m ca] 98))
  have E3 := Lib.hid (show (w2.alloc (.cells #[.slice pa m ca] 98)).cell? ⟨w.heap.size, 0, none⟩ = some (.slice a len cap) from cell_stay' E2.out (bel_al1 _ _))
  have E4 := Lib.hid (cell_box' w2 (.slice pa m ca) 98 _ rfl)
  go_wp2_with fail
  refine (pairsWhere_any m m m12 m12 120 #[.pointer (some ⟨w.heap.size, 0, none⟩), .pointer (some ⟨w2.heap.size, 0, none⟩)] (spoilC xs) _ (enters_fn Try.func120 (by kernel_rfl) (by kernel_rfl)) (fun W i k hi hk hW => clearClos_any _ _ _ _ _ _ _ _ xs i k W (cell_stay' E3.out hW) (cell_stay' E4.out hW) ((S2.out.below BA.out).below hW) ((IA.out.below BA.out).below hW) R.out (hx.out i hi) (hx.out k hk))).mono ?_
  rintro e w5 ⟨v, rfl, hown, hb⟩
  have B5 := Lib.hid (Below.then' (Below.then' B2.out BA.out) hb)
  obtain ⟨va, vc, rfl, _, _⟩ := isIntA2S_own hown
  obtain ⟨P, hP⟩ : ∃ P, pairsTo (spoilC xs) m m = P := ⟨_, rfl⟩
  rw [hP] at CB
  rw [hP]
  have G0 := Lib.hid (show IsClearRoad_0 xs = P.isEmpty from by rw [F0.out, CB.out]; rfl)
  clear hown hb hP
  cases P with
  | nil =>
    go_wp2
    go_ret2
    exact ⟨ret_bbR (by rw [G0.out]; rfl) F1.out.symm, B5.out⟩
  | cons p P =>
    have e1 : (((p :: P).length : Int) == 0) = false := by simp; omega
    have e2 : ((P.length : Int) + 1 == 0) = false := by simp; omega
    go_wp2
    go_ret2
    exact ⟨ret_bbR (by rw [G0.out]; rfl) F1.out.symm, B5.out⟩
end Go.Proofs.Ytpnaciamnigbnaa
