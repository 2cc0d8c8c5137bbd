/- FnRunoff: for every code the law returns true and leaves it as it was. No condition. -/
import Derived.Test.YtpnaciamnigbnaaRows
import Derived.Test.YtpnaciamnigbnaaLz
import Derived.Test.YtpnaciamnigbnaaVars
import Derived.ProofKit
import Derived.OpenShut
import Derived.ShutString
import Derived.ChangeOld
import Derived.Carry
import Derived.Deep.DeepCutAuto
namespace Go.Proofs.Ytpnaciamnigbnaa.fnRunoff
open Go.ChangeShapes Go.WideShapes Go.ChangeAt Go.RowKit
set_option linter.unusedVariables false

theorem next_yes {D : List VIntS} (hD : RL D) {q : Sq} (hq : inR D q) (h : nextSq D q ≠ q) : NextSquare_0 D (q.1 : Int) (q.2 : Int) = ((nextSq D q).1 : Int) ∧ NextSquare_1 D (q.1 : Int) (q.2 : Int) = ((nextSq D q).2 : Int) ∧ NextSquare_2 D (q.1 : Int) (q.2 : Int) = true := by
  have r : runsB D (q.1 : Int) (q.2 : Int) = true := by
    unfold runsB
    rw [hasB_nat hD hq, sqZ_nat]
    simp [h]
  exact ⟨by unfold NextSquare_0; rw [if_pos r, sqZ_nat], by unfold NextSquare_1; rw [if_pos r, sqZ_nat], r⟩
theorem next_no {D : List VIntS} (hD : RL D) {q : Sq} (hq : inR D q) (h : nextSq D q = q) : NextSquare_0 D (q.1 : Int) (q.2 : Int) = 0 ∧ NextSquare_1 D (q.1 : Int) (q.2 : Int) = 0 ∧ NextSquare_2 D (q.1 : Int) (q.2 : Int) = false := by
  have r : runsB D (q.1 : Int) (q.2 : Int) = false := by
    unfold runsB
    rw [hasB_nat hD hq, sqZ_nat]
    simp [h]
  exact ⟨by unfold NextSquare_0; rw [r]; rfl, by unfold NextSquare_1; rw [r]; rfl, r⟩
theorem catch_at {D : List VIntS} (hD : RL D) {q : Sq} (hq : inR D q) : Catchment_0 D (q.1 : Int) (q.2 : Int) = (riv D q : Int) ∧ Catchment_1 D (q.1 : Int) (q.2 : Int) = true := by
  have r := hasB_nat hD hq
  exact ⟨by unfold Catchment_0; rw [if_pos r, sqZ_nat]; rfl, r⟩
theorem pair_ne {a b : Sq} (h : a ≠ b) : (([(a.1 : Int), (a.2 : Int)] : List Int) == [(b.1 : Int), (b.2 : Int)]) = false := by
  obtain ⟨a1, a2⟩ := a
  obtain ⟨b1, b2⟩ := b
  simp only [beq_eq_false_iff_ne]
  intro e
  apply h
  simp at e
  have e1 := e.1
  have e2 := e.2
  simp only [Prod.mk.injEq]
  omega
def rivSum (D : List VIntS) (k : Nat) : Nat := (((pits D).take k).map fun q => riv D q).sum
theorem rivSum_succ {D : List VIntS} {k : Nat} {q : Sq} (h : (pits D)[k]? = some q) : rivSum D (k + 1) = rivSum D k + riv D q := by
  unfold rivSum
  rw [List.take_add_one, h]; simp
theorem rivSum_le (D : List VIntS) (k : Nat) : rivSum D k ≤ rivSum D (pits D).length := by
  unfold rivSum
  rw [List.take_of_length_le (Nat.le_refl (pits D).length)]
  conv => rhs; rw [← List.take_append_drop k (pits D), List.map_append, List.sum_append]
  omega
theorem rivSum_all {D : List VIntS} (hD : RL D) : rivSum D (pits D).length = D.length * colsN D := by
  unfold rivSum
  rw [List.take_of_length_le (Nat.le_refl _), pits_sum hD]
  exact sqsTo_len _ _
theorem run_inR {D : List VIntS} {p : Sq} (hp : inR D p) {k : Nat} {q : Sq} (h : (runOf D p)[k]? = some q) : inR D q := runOf_in hp q (List.mem_of_getElem? h)
theorem pits_inR {D : List VIntS} {k : Nat} {q : Sq} (h : (pits D)[k]? = some q) : inR D q := mem_sqs.1 (List.mem_filter.1 (List.mem_of_getElem? h)).1

def zOf (D : List VIntS) (k z : Nat) : Prop := z = k * colsN D
theorem next_calls (a : Option Addr) (len cap : Nat) (D : List VIntS) (x y : Sq) (e0 : NextSquare_0 D (x.1 : Int) (x.2 : Int) = (y.1 : Int)) (e1 : NextSquare_1 D (x.1 : Int) (x.2 : Int) = (y.2 : Int)) (b : Bool) (e2 : NextSquare_2 D (x.1 : Int) (x.2 : Int) = b) (w : World) (h : IsIntSS w a len cap D) :
    Calls Try.prog 23 #[.slice a len cap, .int .i64 (x.1 : Int), .int .i64 (x.2 : Int)] w fun e w' => e = .returned (.tuple #[.int .i64 (y.1 : Int), .int .i64 (y.2 : Int), .bool b]) ∧ Below w.heap.size w w' := by
  refine (implNextSquare_any _ _ _ D _ _ w h).mono ?_
  rintro e w' ⟨h1, h2⟩
  rw [e0, e1, e2] at h1
  exact ⟨h1, h2⟩
theorem catch_calls (a : Option Addr) (len cap : Nat) (D : List VIntS) (x : Sq) (n : Nat) (e0 : Catchment_0 D (x.1 : Int) (x.2 : Int) = (n : Int)) (e1 : Catchment_1 D (x.1 : Int) (x.2 : Int) = true) (w : World) (h : IsIntSS w a len cap D) :
    Calls Try.prog 26 #[.slice a len cap, .int .i64 (x.1 : Int), .int .i64 (x.2 : Int)] w fun e w' => e = .returned (.tuple #[.int .i64 (n : Int), .bool true]) ∧ Below w.heap.size w w' := by
  refine (implCatchment_any _ _ _ D _ _ w h).mono ?_
  rintro e w' ⟨h1, h2⟩
  rw [e0, e1] at h1
  exact ⟨h1, h2⟩

set_option maxHeartbeats 51200000 in
set_option maxRecDepth 100000 in
theorem walk (a0 : Option Addr) (len0 cap0 : Nat) (z0 : List Int) (w : World) (w0 : IsRow .u8 w a0 len0 cap0 z0) :
    Calls Try.prog 3 #[.slice a0 len0 cap0] w fun e w' => e = .returned (.bool true) ∧ Below w.heap.size w w' := by
  have I := Lib.hid (CodeIn.of_row w0)
  clear w0
  by_cases hbig : 65536 < len0
  · have hd : decide (65536 < len0) = true := by simpa using hbig
    go_enter Try.func3, Try.ntmps3
    go_wp2_with fail
    refine (vBigV_any _ _ _ _).mono ?_
    rw [hd]
    rintro e w' ⟨rfl, rfl⟩
    go_wp2
    go_ret
    exact ⟨rfl, Below.refl _ _⟩
  have hd : decide (65536 < len0) = false := by simp; omega
  go_enter Try.func3, Try.ntmps3
  go_wp2_with fail
  refine (vBigV_any _ _ _ _).mono ?_
  rw [hd]
  rintro e w' ⟨rfl, rfl⟩
  clear hd hbig
  go_wp2_with fail
  refine (drawRunOff_any _ _ _ _ I.out).mono ?_
  rintro e w1 ⟨a1, c1, D, r, c, rfl, h1, h2, hs, hb⟩
  have B1 := Lib.hid hb
  have S1 := Lib.hid hs
  have CD := Lib.hid (cond_small h1 h2)
  clear hb hs h2
  obtain ⟨q, hq⟩ : ∃ q, hasB D r c = q := ⟨_, rfl⟩
  have Q := Lib.hid hq
  obtain ⟨t, ht⟩ : ∃ q, rlB D = q := ⟨_, rfl⟩
  have T := Lib.hid ht
  obtain ⟨V, hV⟩ : ∃ F, RunOff_0 D r c = F := ⟨_, rfl⟩
  have HV := Lib.hid hV
  have HK := Lib.hid (show q = true → RL D ∧ ∃ p : Sq, inR D p ∧ V = (runOf D p).map vsq from fun h => by
    obtain ⟨hD, p, hp, e1, e2⟩ := hasB_yes (hq.trans h)
    refine ⟨hD, p, hp, ?_⟩
    rw [← hV]
    unfold RunOff_0
    rw [if_pos (hq.trans h), e1, e2, sqZ_nat])
  have VL := Lib.hid (show V.length ≤ 1000000 from by
    by_cases hh : q = true
    · obtain ⟨hD, p, hp, e⟩ := HK.out hh
      rw [e, List.length_map]
      have := runOf_len hD hp
      omega
    · rw [← hV]; unfold RunOff_0; rw [hq, if_neg hh]; simp)
  clear hq hV ht
  go_wp2_with fail
  refine (implRunOff_any _ _ _ D r c _ S1.out).mono ?_
  rintro e w2 ⟨v, rfl, hown, hb⟩
  rw [HV.out] at hown
  rw [show RunOff_1 D r c = q from Q.out]
  obtain ⟨fa, fc, rfl⟩ := hown.form
  have B2 := Lib.hid (Below.then' B1.out hb)
  have S2 := Lib.hid (S1.out.below hb)
  have U2 := Lib.hid hown.is
  clear hb hown
  go_wp2_with fail
  refine (specRunOff_any _ _ _ D r c _ S2.out CD.out).mono ?_
  rintro e w3 ⟨v, rfl, hown, hb⟩
  rw [HV.out] at hown
  rw [show RunOff_1 D r c = q from Q.out]
  obtain ⟨ga, gc, rfl⟩ := hown.form
  have B3 := Lib.hid (Below.then' B2.out hb)
  have S3 := Lib.hid (S2.out.below hb)
  have U3 := Lib.hid (U2.out.below hb)
  have V3 := Lib.hid hown.is
  have hqq := bnnV q
  clear hb hown S1 S2 U2
  go_wp2_with fail
  refine (vPairs_yes _ _ _ _ _ _ V _ U3.out V3.out).mono ?_
  rintro e w4 ⟨rfl, hb⟩
  have B4 := Lib.hid (Below.then' B3.out hb)
  have S4 := Lib.hid (S3.out.below hb)
  have U4 := Lib.hid (U3.out.below hb)
  clear hb V3 U3 S3
  go_wp2_with fail
  refine (implIsRelief_any _ _ _ D _ S4.out).mono ?_
  rintro e w5 ⟨rfl, hb⟩
  rw [show IsRelief_0 D = t from T.out]
  have B5 := Lib.hid (Below.then' B4.out hb)
  have S5 := Lib.hid (S4.out.below hb)
  have U5 := Lib.hid (U4.out.below hb)
  clear hb U4 S4
  go_wp2_with fail
  refine (specIsRelief_any _ _ _ D _ S5.out CD.out).mono ?_
  rintro e w6 ⟨rfl, hb⟩
  rw [show IsRelief_0 D = t from T.out]
  have B6 := Lib.hid (Below.then' B5.out hb)
  have S6 := Lib.hid (S5.out.below hb)
  have U6 := Lib.hid (U5.out.below hb)
  have htt := bnnV t
  clear hb U5 S5
  go_upto_if 86 with (fail)
  go_cut [10, 11, 12, 13, 14] (fun s10 s11 s12 s13 s14 wx => Below w.heap.size w wx ∧ Below w6.heap.size w6 wx)
  case first => as_aux_lemma =>
    cases q
    · go_wp2
      go_meet
      exact ⟨B6.out, Below.refl _ _⟩
    · obtain ⟨hD, p, hp, hVe⟩ := HK.out rfl
      have RD := Lib.hid hD
      have RP := Lib.hid hp
      have VE := Lib.hid hVe
      have dl := U6.out.2.1
      have dm := U6.out.2.2.1
      unfold maxLen at dm
      have vl := VL.out
      clear hD hp hVe
      go_wp2
      go_loopw [10] (fun i wr => ∃ k : Nat, k ≤ V.length ∧ i = .int .i64 k ∧ Below w6.heap.size w6 wr) (fun i _ => V.length - (intOf i).toNat)
      case atStart => exact ⟨0, Nat.zero_le _, rfl, Below.refl _ _⟩
      case round =>
        obtain ⟨k, hk, rfl, hbel⟩ := hrel
        have BR := Lib.hid hbel
        by_cases hlt : k < V.length
        · obtain ⟨x, hx⟩ : ∃ x, (runOf D p)[k]? = some x := ⟨(runOf D p)[k]'(by have := congrArg List.length VE.out; rw [List.length_map] at this; omega), List.getElem?_eq_getElem _⟩
          have hVk : V[k]? = some (vsq x) := by rw [VE.out, List.getElem?_map, hx]; rfl
          obtain ⟨b, o, rfl, hb, hat⟩ := (U6.out.below hbel).at (by omega)
          obtain ⟨q0, q1⟩ := hat k _ hVk
          have SR := Lib.hid (S6.out.below hbel)
          have XIN := run_inR RP.out hx
          have RA := run_at RD.out RP.out k x hx
          have VLen := Lib.hid (show (runOf D p).length = V.length from by rw [VE.out, List.length_map])
          have hi0 : (0 : Int) ≤ (k : Int) := by omega
          have hi1 : (k : Int) < (V.length : Int) := by omega
          have KP := Lib.hid (show ∀ W, Below wr.heap.size wr W → IsIntA2S W (some ⟨b, o, none⟩) V.length fc V from fun W hW => (U6.out.below hbel).below hW)
          have vk : IntKind.i64.wrap ((k : Int) + 1) = (k : Int) + 1 := IntWalk.i64_in _ (by omega)
          have k0 := cell_regrown (show wr.cell? ⟨b, o + k * 2, none⟩ = some (.int .i64 (x.1 : Int)) from q0)
          have k1 := cell_regrown (show wr.cell? ⟨b, o + k * 2 + 1, none⟩ = some (.int .i64 (x.2 : Int)) from q1)
          have XX := Lib.hid hx
          by_cases hlast : k + 1 < V.length
          · obtain ⟨hne, hnx⟩ := RA.1 (by have := VLen.out; omega)
            obtain ⟨e0, e1, e2⟩ := next_yes RD.out XIN hne
            obtain ⟨y, hy0⟩ : ∃ y, nextSq D x = y := ⟨_, rfl⟩
            rw [hy0] at e0 e1 hnx hne
            have cN := below_at (W := wr) (fun W' hW => next_calls a1 D.length c1 D x y e0 e1 true e2 W' (SR.out.below hW))
            have hVn : V[k + 1]? = some (vsq y) := by rw [VE.out, List.getElem?_map, hnx]; rfl
            obtain ⟨n0, n1⟩ := hat (k + 1) _ hVn
            have NB := Lib.hid (show ∀ W, Below wr.heap.size wr W → W.cell? ⟨b, o + (k + 1) * 2, none⟩ = some (.int .i64 (y.1 : Int)) ∧ W.cell? ⟨b, o + (k + 1) * 2 + 1, none⟩ = some (.int .i64 (y.2 : Int)) from fun W hW => IntA2At.below ⟨n0, n1⟩ hW hb)
            have f0 : ((y.1 : Int) != (y.1 : Int)) = false := by simp
            have f1 : ((y.2 : Int) != (y.2 : Int)) = false := by simp
            have l0 : decide ((k : Int) + 1 < (V.length : Int)) = true := by simp; omega
            have l1 : (k : Int) + 1 < (V.length : Int) := by omega
            have l2 : (0 : Int) ≤ (k : Int) + 1 := by omega
            have l3 : ((k : Int) + 1).toNat = k + 1 := by omega
            clear hx hVk hat q0 q1 XIN RA hne hnx e0 e1 e2 hVn n0 n1 hy0 hbel
            go_wp2
            refine wp_region_quiet_below (by kernel_rfl) (by kernel_rfl) ?_
            repeat (first | go_big_quiet_step (with_reducible exact cN _ _) | quiet_step (with_reducible exact cN _ _))
            refine wpQuiet_nil ?_
            intro W7 hw7
            have bw7 := below_of_re hw7
            have B7 := Lib.hid (Below.then' BR.out bw7)
            have KP7 := Lib.hid (KP.out _ bw7)
            obtain ⟨n0, n1⟩ := NB.out _ bw7
            clear hw7 bw7 cN k0 k1
            rename World => w7
            go_wp2
            go_loopw [14] (fun j wr => ∃ m : Nat, m ≤ k ∧ j = .int .i64 m ∧ Below w7.heap.size w7 wr) (fun j _ => k - (intOf j).toNat)
            case atStart => exact ⟨0, Nat.zero_le _, rfl, Below.refl _ _⟩
            case round =>
              obtain ⟨m, hm, rfl, hbel7⟩ := hrel
              have BI := Lib.hid hbel7
              by_cases hmk : m < k
              · obtain ⟨y, hy⟩ : ∃ y, (runOf D p)[m]? = some y := ⟨(runOf D p)[m]'(by have := VLen.out; omega), List.getElem?_eq_getElem _⟩
                have hVm : V[m]? = some (vsq y) := by rw [VE.out, List.getElem?_map, hy]; rfl
                have hVk : V[k]? = some (vsq x) := by rw [VE.out, List.getElem?_map, XX.out]; rfl
                obtain ⟨b7, o7, e7, _, hat7⟩ := (KP7.out.below hbel7).at (by omega)
                simp only [Option.some.injEq, Addr.mk.injEq, and_true] at e7
                obtain ⟨rfl, rfl⟩ := e7
                obtain ⟨d0, d1⟩ := hat7 m _ hVm
                obtain ⟨d2, d3⟩ := hat7 k _ hVk
                have hne := run_apart RD.out RP.out XX.out hy hmk
                have heq : ∀ W : World, (binOp .eql 34 (.agg #[.int .i64 (vsq y).E0, .int .i64 (vsq y).E1]) (.agg #[.int .i64 (vsq x).E0, .int .i64 (vsq x).E1])).run Try.prog W = .ok (.bool false) W := fun W => by rw [eqlA2V]; rw [show ([(vsq y).E0, (vsq y).E1] == [(vsq x).E0, (vsq x).E1]) = false from pair_ne hne]
                have hm0 : (0 : Int) ≤ (m : Int) := by omega
                have hm1 : (m : Int) < (V.length : Int) := by omega
                clear hbel7 hy hVm hVk hat7 hne
                generalize vsq y = yy at *
                generalize vsq x = xx at *
                go_wp2
                go_quiet (fail)
                have BJ := Lib.hid (Below.then' BI.out (bel_drawn wr nq))
                clear heq d0 d1 d2 d3
                go_wp2
                go_roundw
                case rel => exact ⟨m + 1, by omega, by go_num, BJ.out⟩
                case measure => simp [intOf]; omega
              · obtain rfl : m = k := by omega
                clear hbel7
                go_wp2
                go_roundw
                case rel => exact ⟨m + 1, by omega, by go_num, Below.then' B7.out BI.out⟩
                case measure => simp [intOf]; omega
          · obtain ⟨e0, e1, e2⟩ := next_no RD.out XIN (RA.2 (by have := VLen.out; omega))
            have cN := below_at (W := wr) (fun W' hW => next_calls a1 D.length c1 D x (0, 0) e0 e1 false e2 W' (SR.out.below hW))
            simp only [Int.natCast_zero] at cN
            have l0 : decide ((k : Int) + 1 < (V.length : Int)) = false := by simp; omega
            have l1 : ¬ (k : Int) + 1 < (V.length : Int) := by omega
            clear hx hVk hat q0 q1 XIN RA e0 e1 e2 hbel
            go_wp2
            refine wp_region_quiet_below (by kernel_rfl) (by kernel_rfl) ?_
            repeat (first | go_big_quiet_step (with_reducible exact cN _ _) | quiet_step (with_reducible exact cN _ _))
            refine wpQuiet_nil ?_
            intro W7 hw7
            have bw7 := below_of_re hw7
            have B7 := Lib.hid (Below.then' BR.out bw7)
            have KP7 := Lib.hid (KP.out _ bw7)
            clear hw7 bw7 cN k0 k1
            rename World => w7
            go_wp2
            go_loopw [14] (fun j wr => ∃ m : Nat, m ≤ k ∧ j = .int .i64 m ∧ Below w7.heap.size w7 wr) (fun j _ => k - (intOf j).toNat)
            case atStart => exact ⟨0, Nat.zero_le _, rfl, Below.refl _ _⟩
            case round =>
              obtain ⟨m, hm, rfl, hbel7⟩ := hrel
              have BI := Lib.hid hbel7
              by_cases hmk : m < k
              · obtain ⟨y, hy⟩ : ∃ y, (runOf D p)[m]? = some y := ⟨(runOf D p)[m]'(by have := VLen.out; omega), List.getElem?_eq_getElem _⟩
                have hVm : V[m]? = some (vsq y) := by rw [VE.out, List.getElem?_map, hy]; rfl
                have hVk : V[k]? = some (vsq x) := by rw [VE.out, List.getElem?_map, XX.out]; rfl
                obtain ⟨b7, o7, e7, _, hat7⟩ := (KP7.out.below hbel7).at (by omega)
                simp only [Option.some.injEq, Addr.mk.injEq, and_true] at e7
                obtain ⟨rfl, rfl⟩ := e7
                obtain ⟨d0, d1⟩ := hat7 m _ hVm
                obtain ⟨d2, d3⟩ := hat7 k _ hVk
                have hne := run_apart RD.out RP.out XX.out hy hmk
                have heq : ∀ W : World, (binOp .eql 34 (.agg #[.int .i64 (vsq y).E0, .int .i64 (vsq y).E1]) (.agg #[.int .i64 (vsq x).E0, .int .i64 (vsq x).E1])).run Try.prog W = .ok (.bool false) W := fun W => by rw [eqlA2V]; rw [show ([(vsq y).E0, (vsq y).E1] == [(vsq x).E0, (vsq x).E1]) = false from pair_ne hne]
                have hm0 : (0 : Int) ≤ (m : Int) := by omega
                have hm1 : (m : Int) < (V.length : Int) := by omega
                clear hbel7 hy hVm hVk hat7 hne
                generalize vsq y = yy at *
                generalize vsq x = xx at *
                go_wp2
                go_quiet (fail)
                have BJ := Lib.hid (Below.then' BI.out (bel_drawn wr nq))
                clear heq d0 d1 d2 d3
                go_wp2
                go_roundw
                case rel => exact ⟨m + 1, by omega, by go_num, BJ.out⟩
                case measure => simp [intOf]; omega
              · obtain rfl : m = k := by omega
                clear hbel7
                go_wp2
                go_roundw
                case rel => exact ⟨m + 1, by omega, by go_num, Below.then' B7.out BI.out⟩
                case measure => simp [intOf]; omega
        · obtain rfl : k = V.length := by omega
          clear hbel
          go_wp2
          go_meet
          exact ⟨Below.then' B6.out BR.out, BR.out⟩
  case rest =>
    have B7 := Lib.hid hcut.1
    have S7 := Lib.hid (S6.out.below hcut.2)
    clear hcut hqq htt U6 S6 HK VL HV
    obtain ⟨P, hP⟩ : ∃ F, PitsOf_0 D = F := ⟨_, rfl⟩
    have HP := Lib.hid hP
    have PE := Lib.hid (show t = true → RL D ∧ P = (pits D).map vsq from fun h => ⟨rlB_iff.1 (T.out.trans h), by rw [← hP]; unfold PitsOf_0; rw [if_pos (T.out.trans h)]⟩)
    have PLn := Lib.hid (show P.length ≤ 64 from by
      by_cases hh : t = true
      · obtain ⟨hD, e⟩ := PE.out hh
        rw [e, List.length_map]
        exact Nat.le_trans (List.length_filter_le _ _) (sqs_len hD)
      · rw [← hP]; unfold PitsOf_0; rw [T.out, if_neg hh]; simp)
    clear hP
    go_wp2_with fail
    refine (implPitsOf_any _ _ _ D _ S7.out).mono ?_
    rintro e w8 ⟨v, rfl, hown, hb⟩
    rw [HP.out] at hown
    rw [show PitsOf_1 D = t from T.out]
    obtain ⟨fa2, fc2, rfl⟩ := hown.form
    have B8 := Lib.hid (Below.then' B7.out hb)
    have S8 := Lib.hid (S7.out.below hb)
    have U8 := Lib.hid hown.is
    clear hb hown S7
    go_wp2_with fail
    refine (specPitsOf_any _ _ _ D _ S8.out CD.out).mono ?_
    rintro e w9 ⟨v, rfl, hown, hb⟩
    rw [HP.out] at hown
    rw [show PitsOf_1 D = t from T.out]
    obtain ⟨ga2, gc2, rfl⟩ := hown.form
    have B9 := Lib.hid (Below.then' B8.out hb)
    have S9 := Lib.hid (S8.out.below hb)
    have U9 := Lib.hid (U8.out.below hb)
    have V9 := Lib.hid hown.is
    have htt := bnnV t
    clear hb hown S8 U8
    go_wp2_with fail
    refine (vPairs_yes _ _ _ _ _ _ P _ U9.out V9.out).mono ?_
    rintro e w10 ⟨rfl, hb⟩
    have B10 := Lib.hid (Below.then' B9.out hb)
    have S10 := Lib.hid (S9.out.below hb)
    have U10 := Lib.hid (U9.out.below hb)
    clear hb V9 U9 S9
    go_upto_if 172 with (fail)
    go_cut [19, 20, 21, 22, 23, 24] (fun s19 s20 s21 s22 s23 s24 wx => Below w.heap.size w wx)
    case first => as_aux_lemma =>
      cases t
      · go_wp2
        go_meet
        exact B10.out
      · obtain ⟨hD, hPe⟩ := PE.out rfl
        have RD := Lib.hid hD
        have PEE := Lib.hid hPe
        have m8 := hD.m8
        have n8 := hD.n8
        have pl := PLn.out
        have dl := U10.out.2.1
        have dm := U10.out.2.2.1
        unfold maxLen at dm
        have PLen := Lib.hid (show (pits D).length = P.length from by rw [hPe, List.length_map])
        have RS := Lib.hid (rivSum_all hD)
        have RB := Lib.hid (show D.length * colsN D ≤ 64 from Nat.mul_le_mul m8 n8)
        clear hD hPe
        go_wp2
        go_loopw [21, 19] (fun i o wr => ∃ k : Nat, k ≤ P.length ∧ i = .int .i64 k ∧ o = .int .i64 (rivSum D k : Int) ∧ Below w10.heap.size w10 wr) (fun i _ _ => P.length - (intOf i).toNat)
        case atStart => exact ⟨0, Nat.zero_le _, rfl, rfl, Below.refl _ _⟩
        case round =>
          obtain ⟨k, hk, rfl, rfl, hbel⟩ := hrel
          have BR := Lib.hid hbel
          by_cases hlt : k < P.length
          · obtain ⟨x, hx⟩ : ∃ x, (pits D)[k]? = some x := ⟨(pits D)[k]'(by have := PLen.out; omega), List.getElem?_eq_getElem _⟩
            have hVk : P[k]? = some (vsq x) := by rw [PEE.out, List.getElem?_map, hx]; rfl
            obtain ⟨b, o, rfl, hb, hat⟩ := (U10.out.below hbel).at (by omega)
            obtain ⟨q0, q1⟩ := hat k _ hVk
            have SR := Lib.hid (S10.out.below hbel)
            have XIN := pits_inR hx
            obtain ⟨e0, e1⟩ := catch_at RD.out XIN
            have ONE := pit_one RD.out (List.mem_of_getElem? hx)
            have SUC := Lib.hid (rivSum_succ hx)
            have SL := rivSum_le D (k + 1)
            have hrs := RS.out
            have hrb := RB.out
            have cN := below_at (W := wr) (fun W' hW => catch_calls a1 D.length c1 D x _ e0 e1 W' (SR.out.below hW))
            rw [SUC.out] at SL
            obtain ⟨z, hz⟩ : ∃ z, riv D x = z := ⟨_, rfl⟩
            obtain ⟨l, hl⟩ : ∃ z, rivSum D k = z := ⟨_, rfl⟩
            have SUC2 := Lib.hid (show rivSum D (k + 1) = l + z from by rw [SUC.out, hz, hl])
            rw [hz] at cN SL ONE
            rw [hl] at SL
            rw [hl]
            have v1 : IntKind.i64.wrap ((l : Int) + (z : Int)) = ((l + z : Nat) : Int) := by rw [IntWalk.i64_in _ (by omega)]; omega
            have o1 : ¬ (z : Int) < 1 := by omega
            have o2 : decide ((z : Int) < 1) = false := by simp; omega
            have hi0 : (0 : Int) ≤ (k : Int) := by omega
            have hi1 : (k : Int) < (P.length : Int) := by omega
            have k0 := cell_regrown (show wr.cell? ⟨b, o + k * 2, none⟩ = some (.int .i64 (x.1 : Int)) from q0)
            have k1 := cell_regrown (show wr.cell? ⟨b, o + k * 2 + 1, none⟩ = some (.int .i64 (x.2 : Int)) from q1)
            clear hx hVk hat q0 q1 XIN e0 e1 SUC hz hl hbel hrs hrb SL ONE
            go_wp2
            refine wp_region_quiet_below (by kernel_rfl) (by kernel_rfl) ?_
            repeat (first | go_big_quiet_step (with_reducible exact cN _ _) | quiet_step (with_reducible exact cN _ _))
            refine wpQuiet_nil ?_
            intro W7 hw7
            have bw7 := below_of_re hw7
            have B7 := Lib.hid (Below.then' BR.out bw7)
            clear hw7 bw7 cN k0 k1
            go_wp2
            go_roundw
            case rel => exact ⟨k + 1, by omega, by go_num, by rw [SUC2.out]; simp, B7.out⟩
            case measure => simp [intOf]; omega
          · obtain rfl : k = P.length := by omega
            have RS2 := Lib.hid (show rivSum D P.length = D.length * colsN D from by rw [← PLen.out]; exact RS.out)
            obtain ⟨tot, htot⟩ : ∃ z, rivSum D P.length = z := ⟨_, rfl⟩
            have TOT := Lib.hid (show tot = D.length * colsN D from by rw [← htot]; exact RS2.out)
            rw [htot]
            clear hbel htot
            have S11 := Lib.hid (S10.out.below BR.out)
            have dl2 := S11.out.2.1
            have dm2 := S11.out.2.2.1
            unfold maxLen at dm2
            rename World => w11
            go_wp2
            go_loopw [24, 20] (fun i o wr => ∃ k z : Nat, k ≤ D.length ∧ zOf D k z ∧ i = .int .i64 k ∧ o = .int .i64 (z : Int) ∧ wr = w11) (fun i _ _ => D.length - (intOf i).toNat)
            case atStart => exact ⟨0, 0, Nat.zero_le _, by unfold zOf; simp, rfl, by simp, rfl⟩
            case round =>
              obtain ⟨k2, z, hk2, hz, rfl, rfl, rfl⟩ := hrel
              have ZK := Lib.hid hz
              clear hz
              by_cases hlt2 : k2 < D.length
              · obtain ⟨b, o, b', o', c', rfl, _, _, g0, g1, g2, _⟩ := relief_row S11.out RD.out hlt2
                have MB : k2 * colsN D ≤ 8 * 8 := Nat.mul_le_mul (by omega) n8
                have SUC := Lib.hid (show zOf D (k2 + 1) (z + colsN D) from by have h := ZK.out; unfold zOf at h ⊢; rw [h, Nat.add_mul, Nat.one_mul])
                have hz64 : z ≤ 64 := by have h := ZK.out; unfold zOf at h; omega
                have v1 : IntKind.i64.wrap ((z : Int) + (colsN D : Int)) = ((z + colsN D : Nat) : Int) := by rw [IntWalk.i64_in _ (by omega)]; omega
                have hi0 : (0 : Int) ≤ (k2 : Int) := by omega
                have hi1 : (k2 : Int) < (D.length : Int) := by omega
                clear MB
                go_wp2
                go_roundw
                case rel => exact ⟨k2 + 1, z + colsN D, by omega, SUC.out, by go_num, by simp, trivial⟩
                case measure => simp [intOf]; omega
              · obtain rfl : k2 = D.length := by omega
                obtain rfl : z = tot := ZK.out.trans TOT.out.symm
                have e6 : ((z : Int) != (z : Int)) = false := by simp
                go_wp2
                go_meet
                exact Below.then' B10.out BR.out
    case rest => as_aux_lemma =>
      have B11 := Lib.hid hcut
      clear hcut htt U10 S10 PE PLn HP
      go_wp2_with fail
      refine (drawGreatestRiver_any _ _ _ _ (I.out.below B11.out)).mono ?_
      rintro e w12 ⟨a2, c2, X, rfl, h1x, h2x, hs, hb⟩
      have B12 := Lib.hid (Below.then' B11.out hb)
      have S12 := Lib.hid hs
      have CX := Lib.hid (cond_small h1x h2x)
      obtain ⟨g0, hg0⟩ : ∃ n, GreatestRiver_0 X = n := ⟨_, rfl⟩
      obtain ⟨g1, hg1⟩ : ∃ n, GreatestRiver_1 X = n := ⟨_, rfl⟩
      obtain ⟨g2, hg2⟩ : ∃ n, GreatestRiver_2 X = n := ⟨_, rfl⟩
      have E0 := Lib.hid hg0
      have E1 := Lib.hid hg1
      have E2 := Lib.hid hg2
      clear hb hs h1x h2x hg0 hg1 hg2
      go_wp2_with fail
      refine (implGreatestRiver_any _ _ _ X _ S12.out).mono ?_
      rintro e w13 ⟨rfl, hb⟩
      rw [E0.out, E1.out, E2.out]
      have B13 := Lib.hid (Below.then' B12.out hb)
      have S13 := Lib.hid (S12.out.below hb)
      clear hb
      go_wp2_with fail
      refine (specGreatestRiver_any _ _ _ X _ S13.out CX.out).mono ?_
      rintro e w14 ⟨rfl, hb⟩
      rw [E0.out, E1.out, E2.out]
      have B14 := Lib.hid (Below.then' B13.out hb)
      have m0 : (g0 != g0) = false := by simp
      have m1 : (g1 != g1) = false := by simp
      have m2 := bnnV g2
      clear hb S12 S13
      go_wp2_with fail
      refine (drawCatchment_any _ _ _ _ (I.out.below B14.out)).mono ?_
      rintro e w15 ⟨a3, c3, Y, r2, cc2, rfl, h1x, h2x, hs, hb⟩
      have B15 := Lib.hid (Below.then' B14.out hb)
      have S15 := Lib.hid hs
      have CY := Lib.hid (cond_small h1x h2x)
      obtain ⟨n0, hn0⟩ : ∃ n, Catchment_0 Y r2 cc2 = n := ⟨_, rfl⟩
      obtain ⟨n1, hn1⟩ : ∃ n, Catchment_1 Y r2 cc2 = n := ⟨_, rfl⟩
      have K0 := Lib.hid hn0
      have K1 := Lib.hid hn1
      clear hb hs h1x h2x hn0 hn1 m0 m1 m2
      go_wp2_with fail
      refine (implCatchment_any _ _ _ Y r2 cc2 _ S15.out).mono ?_
      rintro e w16 ⟨rfl, hb⟩
      rw [K0.out, K1.out]
      have B16 := Lib.hid (Below.then' B15.out hb)
      have S16 := Lib.hid (S15.out.below hb)
      clear hb
      go_wp2_with fail
      refine (specCatchment_any _ _ _ Y r2 cc2 _ S16.out CY.out).mono ?_
      rintro e w17 ⟨rfl, hb⟩
      rw [K0.out, K1.out]
      have B17 := Lib.hid (Below.then' B16.out hb)
      have m0 : (n0 != n0) = false := by simp
      have m1 := bnnV n1
      clear hb S15 S16
      go_wp2_with fail
      refine (drawNextSquare_any _ _ _ _ (I.out.below B17.out)).mono ?_
      rintro e w18 ⟨a4, c4, Z, r3, cc3, rfl, h1x, h2x, hs, hb⟩
      have B18 := Lib.hid (Below.then' B17.out hb)
      have S18 := Lib.hid hs
      have CZ := Lib.hid (cond_small h1x h2x)
      obtain ⟨k0, hk0⟩ : ∃ n, NextSquare_0 Z r3 cc3 = n := ⟨_, rfl⟩
      obtain ⟨k1, hk1⟩ : ∃ n, NextSquare_1 Z r3 cc3 = n := ⟨_, rfl⟩
      obtain ⟨k2, hk2⟩ : ∃ n, NextSquare_2 Z r3 cc3 = n := ⟨_, rfl⟩
      have J0 := Lib.hid hk0
      have J1 := Lib.hid hk1
      have J2 := Lib.hid hk2
      clear hb hs h1x h2x hk0 hk1 hk2 m0 m1
      go_wp2_with fail
      refine (implNextSquare_any _ _ _ Z r3 cc3 _ S18.out).mono ?_
      rintro e w19 ⟨rfl, hb⟩
      rw [J0.out, J1.out, J2.out]
      have B19 := Lib.hid (Below.then' B18.out hb)
      have S19 := Lib.hid (S18.out.below hb)
      clear hb
      go_wp2_with fail
      refine (specNextSquare_any _ _ _ Z r3 cc3 _ S19.out CZ.out).mono ?_
      rintro e w20 ⟨rfl, hb⟩
      rw [J0.out, J1.out, J2.out]
      have B20 := Lib.hid (Below.then' B19.out hb)
      have m0 : (k0 == k0) = true := by simp
      have m1 : (k1 == k1) = true := by simp
      have m2 : (k2 == k2) = true := by simp
      clear hb S18 S19
      go_wp2
      go_ret
      exact ⟨rfl, B20.out⟩

theorem own : ownKnob Try.prog.godebug = none := by kernel_rfl
theorem laidOut : laidOutB Try.prog = true := by kernel_rfl
set_option maxRecDepth 100000 in
theorem lifted (os : Os) (started : os.Started) (H : Type) (enc : TypeId × Value → H) :
    ReturnsInHanded {} Try.checked os 3 .any (Rows.fnRunoffSpec.pre6 enc Try.prog Try.f3 Rows.fnRunoffRow.domain false) (Rows.fnRunoffSpec.post enc Try.prog Try.f3 false true false false) := by
  refine returnsInHanded_of_change (C := Try.checked) own started (by kernel_rfl) Try.func3
    (ChangeSpec.witness6 (enc := enc) (C := Try.checked) false ⟨#[], #[.slice none 0 0], []⟩ 8 (by kernel_rfl) (by kernel_rfl) (by kernel_rfl) (by kernel_rfl)) ?_
  intro W base args ds gs before hval0 hW hcnd _
  have hval : ∀ (j : Nat) t v, Try.f3.params[j]? = some t → args[j]? = some v → Value.okWide Try.prog W .any base t v := hval0
  have hW' := hW
  obtain ⟨p, q, hA0, hV, rfl, hfz, hnd⟩ := hW
  have hA : DataW.TrodAll enc Try.prog W 0 (fun _ => true) true Try.f3.params.toList args.toList ds p := hA0
  rw [Try.params3] at hA hval
  obtain ⟨v0, vs0, d0, ds0, p0, q0, hargs, rfl, rfl, h0, r0⟩ := trodAll_cons hA
  obtain ⟨rfl, rfl, rfl⟩ := trodAll_nil r0
  obtain rfl : args = #[v0] := by cases args; simp_all
  obtain ⟨rfl, rfl⟩ := trodVars_none hV
  obtain ⟨a0, len0, cap0, rfl⟩ := okWide_slice Try.underlying22 (hval 0 22 v0 rfl rfl)
  have k0 := h0
  have lt0 : ∀ x ∈ p0, x.block < W.heap.size := by obtain ⟨m, hm⟩ := k0; exact DataW.trod_lt m _ _ _ hm
  obtain ⟨z0, w0⟩ : ∃ zs, IsRow .u8 W a0 len0 cap0 zs := by
    obtain ⟨fuel, hf⟩ := h0
    rcases open_ints Try.underlying22 Try.underlying5 (by kernel_rfl) hf with ⟨hcs, _⟩ | ⟨x, l, c, zs, hcs, _, hl, hm, hz, _, hcell, hwz⟩
    · simp [Value.cells] at hcs
      obtain ⟨rfl, rfl, rfl⟩ := hcs
      exact ⟨[], .inl ⟨rfl, rfl, rfl, rfl⟩⟩
    · simp [Value.cells] at hcs
      obtain ⟨rfl, rfl, rfl⟩ := hcs
      exact ⟨zs, .inr ⟨_, rfl, hl, hm, by simpa using hz, hcell, hwz⟩⟩
  clear hA0 hval0
  refine (walk a0 len0 cap0 z0 W w0).mono fun e W' ⟨he, bel⟩ => ?_
  subst he
  exact ⟨_, rfl, _, _, _, [], _, [], hW', trodAll_mk1 (shut_bool Try.underlying4 _), (trodAll_cons_mk (Below.trod laidOut (by kernel_rfl) (of_decide_eq_true (by kernel_rfl)) k0 bel lt0) trodAll_mk0), rfl, bel.frame _, fun h => by cases h⟩
theorem over : Rows.fnRunoffRow.holds Try.pinned (OpenSpec.ofChange Rows.fnRunoffSpec) :=
  OpenClaim.holds_of_wide 3 Try.f3 rfl rfl rfl rfl rfl rfl rfl ⟨rfl, rfl, rfl, rfl, rfl⟩ rfl rfl rfl rfl rfl (by kernel_rfl) Try.func3 (by kernel_rfl)
    (of_decide_eq_true (by kernel_rfl)) (by unfold Func.isWrapper; first | (rw [if_pos (by decide +kernel)]; kernel_rfl) | (rw [if_neg (by decide +kernel)]; exact ⟨rfl, rfl⟩))
    (fun os started H enc _ => lifted os started H enc)
theorem proved : Rows.FnRunoffSaid := over
#print axioms proved
end Go.Proofs.Ytpnaciamnigbnaa.fnRunoff
