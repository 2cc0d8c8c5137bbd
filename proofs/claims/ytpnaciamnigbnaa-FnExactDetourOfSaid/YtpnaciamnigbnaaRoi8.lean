/- Roads in the program: places along, detours. -/
import Derived.Test.YtpnaciamnigbnaaRoi3
import Derived.Test.YtpnaciamnigbnaaLow
import Derived.Test.YtpnaciamnigbnaaAlongRoadP
import Derived.Test.YtpnaciamnigbnaaDetourOfP
namespace Go.Proofs.Ytpnaciamnigbnaa
open Go.RowKit

theorem ret_iib {a b c d : Int} {p q : Bool} (h : a = b) (h' : c = d) (k : p = q) : Ending.returned (.tuple #[.int .i64 a, .int .i64 c, .bool p]) = .returned (.tuple #[.int .i64 b, .int .i64 d, .bool q]) := by rw [h, h', k]
theorem one_part (w : World) (p : VroadPart) (t : TypeId) (B : Nat) (hB : w.heap.size = B) : IsroadPartS (w.alloc (.cells #[.int .i64 p.FX, .int .i64 p.FY, .int .i64 p.TX, .int .i64 p.TY] t)) (some ⟨B, 0, none⟩) 1 1 [p] := by
  subst hB
  refine ⟨rfl, Nat.le_refl _, by simp [maxLen], .inr ⟨_, _, rfl, by simp, fun k s hs => ?_⟩⟩
  match k, hs with
  | 0, hs => simp at hs; subst hs; exact ⟨by simp [World.cell?_alloc_new], by simp [World.cell?_alloc_new], by simp [World.cell?_alloc_new], by simp [World.cell?_alloc_new]⟩
  | k + 1, hs => simp at hs
theorem lenP_one (p : VroadPart) : lenP [p] [p].length = partL (fromP p) (toP p) := by simp [lenP]
set_option maxHeartbeats 6400000 in
set_option maxRecDepth 100000 in
theorem implAlongRoad_any (a : Option Addr) (len cap : Nat) (xs : List VCorner) (n : Int) (w : World) (h : IsCornerS w a len cap xs) :
    Calls Try.prog 76 #[.slice a len cap, .int .i64 n] w (AlongRoad_Post xs n w) := by
  have S := Lib.hid h
  clear h
  obtain ⟨q, hq⟩ : ∃ q, roadB xs = q := ⟨_, rfl⟩
  have Q := Lib.hid hq
  clear hq
  go_enter Try.func76, Try.ntmps76
  go_wp2_with fail
  refine (implRoadLength_any _ _ _ xs _ S.out).mono ?_
  rintro e w1 ⟨rfl, hb⟩
  rw [show RoadLength_1 xs = q from Q.out]
  have B1 := Lib.hid hb
  clear hb
  cases q
  · have AB := Lib.hid (show alongB xs n = false from by unfold alongB; rw [Q.out]; rfl)
    have F0 := Lib.hid (show AlongRoad_0 xs n = 0 from by unfold AlongRoad_0; rw [AB.out]; rfl)
    have F1 := Lib.hid (show AlongRoad_1 xs n = 0 from by unfold AlongRoad_1; rw [AB.out]; rfl)
    have F2 := Lib.hid (show AlongRoad_2 xs n = false from AB.out)
    go_wp2
    go_ret3
    exact ⟨ret_iib F0.out.symm F1.out.symm F2.out.symm, B1.out⟩
  rw [show RoadLength_0 xs = (lenR xs : Int) from by unfold RoadLength_0; rw [Q.out]; rfl]
  have R := Lib.hid (road_iff.1 Q.out)
  have lb := R.out.lenR_bd
  have l2 := R.out.l2
  have l12 := R.out.l12
  obtain ⟨T, hT⟩ : ∃ T, lenR xs = T := ⟨_, rfl⟩
  rw [hT] at lb
  rw [hT]
  obtain ⟨r, hr⟩ : ∃ r, inB n 0 (T : Int) = r := ⟨_, rfl⟩
  have RR := Lib.hid hr
  have AB := Lib.hid (show alongB xs n = r from by unfold alongB; rw [Q.out, hT, hr]; rfl)
  have B2 := Lib.hid (Below.then' B1.out (bel_al1 w1 (.cells #[.int .i64 n] 3)))
  clear hr hT
  go_wp2_with fail
  refine (areOne 0 (T : Int) n _ _ _ rfl).mono ?_
  rintro e w' ⟨rfl, rfl⟩
  rw [RR.out]
  cases r
  · have F0 := Lib.hid (show AlongRoad_0 xs n = 0 from by unfold AlongRoad_0; rw [AB.out]; rfl)
    have F1 := Lib.hid (show AlongRoad_1 xs n = 0 from by unfold AlongRoad_1; rw [AB.out]; rfl)
    have F2 := Lib.hid (show AlongRoad_2 xs n = false from AB.out)
    go_wp2
    go_ret3
    exact ⟨ret_iib F0.out.symm F1.out.symm F2.out.symm, B2.out⟩
  have F0 := Lib.hid (show AlongRoad_0 xs n = ((alongF xs xs.length 0 n).1 : Int) from by unfold AlongRoad_0; rw [AB.out]; rfl)
  have F1 := Lib.hid (show AlongRoad_1 xs n = (alongF xs xs.length 0 n).2 from by unfold AlongRoad_1; rw [AB.out]; rfl)
  have F2 := Lib.hid (show AlongRoad_2 xs n = true from AB.out)
  have nb := inB_iff.1 RR.out
  go_wp2_with fail
  refine (roadParts_any _ _ _ xs _ (S.out.below B2.out) R.out).mono ?_
  rintro e w3 ⟨v, rfl, hown, hb⟩
  obtain ⟨pa, pc, rfl, his, _⟩ := isroadPartS_own hown
  have I := Lib.hid his
  have B3 := Lib.hid (Below.then' B2.out hb)
  have PL := partsTo_len xs (xs.length - 1)
  have HP := Lib.hid (show partsOf xs = partsTo xs (xs.length - 1) from rfl)
  have hPL : (partsOf xs).length = xs.length - 1 := by rw [HP.out]; exact PL
  obtain ⟨m, hm⟩ : ∃ m, (partsOf xs).length = m := ⟨_, rfl⟩
  rw [hm] at I hPL
  rw [hm]
  have hm2 : m + 1 = xs.length := by omega
  have HM := Lib.hid hm2
  have m12 : m ≤ 12 := by omega
  have m1 : 1 ≤ m := by omega
  have pc2 : m ≤ pc := I.out.2.1
  have pc3 : pc ≤ maxLen := I.out.2.2.1
  unfold maxLen at pc3
  have v0 : IntKind.i64.wrap ((m : Int) - 1) = (m : Int) - 1 := IntWalk.i64_in _ (by omega)
  clear hown his hb PL hm hPL hm2 l2 l12
  go_wp2
  go_loopw [10, 11] (fun i o wr => ∃ (p : Nat) (z : Int), p + 1 ≤ m ∧ i = .int .i64 (p : Int) ∧ o = .int .i64 z ∧ 0 ≤ z ∧ z ≤ n ∧ alongF xs xs.length 0 n = alongF xs (xs.length - p) p z ∧ Below w.heap.size w wr ∧ Below w3.heap.size w3 wr) (fun i _ _ => m - (intOf i).toNat)
  case atStart => exact ⟨0, n, by omega, rfl, rfl, nb.1, Int.le_refl _, rfl, B3.out, Below.refl _ _⟩
  case round =>
    obtain ⟨p, z, hp, rfl, rfl, z0, z1, hal, hbel, hbel3⟩ := hrel
    have AL := Lib.hid hal
    have B := Lib.hid hbel
    have B4 := Lib.hid hbel3
    clear hal
    by_cases hlt : p + 1 < m
    · obtain ⟨b, o, rfl, hb, hat⟩ := (I.out.below hbel3).at (by omega)
      obtain ⟨c0, c1, c2, c3⟩ := hat p (partOf xs p) (by rw [HP.out]; exact partsTo_at xs (by have := HM.out; omega))
      have OKP := Lib.hid (okP_at R.out (show p + 1 < xs.length by have := HM.out; omega))
      have PB := R.out.part_bd (i := p) (by have := HM.out; omega)
      have LO := Lib.hid (show lenP [partOf xs p] [partOf xs p].length = partAt xs p from lenP_one _)
      have AY := Lib.hid (show (partAt xs p : Int) ≤ z → alongF xs (xs.length - p) p z = alongF xs (xs.length - (p + 1)) (p + 1) (z - partAt xs p) from fun h2 => alongF_yes (by have := HM.out; omega) h2)
      have AN := Lib.hid (show ¬ ((partAt xs p : Int) ≤ z) → alongF xs (xs.length - p) p z = (p, z) from fun h2 => alongF_no (fun h => h2 h.2) (xs.length - p))
      obtain ⟨d, hd⟩ : ∃ d, partAt xs p = d := ⟨_, rfl⟩
      rw [hd] at PB LO AY AN
      generalize partOf xs p = P at *
      have ONE1 := Lib.hid (one_part wr P 105 _ rfl)
      have BA := Lib.hid (bel_al1 wr (.cells #[.int .i64 P.FX, .int .i64 P.FY, .int .i64 P.TX, .int .i64 P.TY] 105))
      have BP := Lib.hid (show ∀ W, Below wr.heap.size wr W → roadPartAt W b (o + p * 4) P from fun W hW => roadPartAt.below ⟨c0, c1, c2, c3⟩ hW hb)
      have j0 : (0 : Int) ≤ (p : Int) := by omega
      have j1 : (p : Int) < (m : Int) := by omega
      have j2 : (p : Int) < (m : Int) - 1 := by omega
      have v1 : IntKind.i64.wrap ((p : Int) + 1) = ((p + 1 : Nat) : Int) := by rw [IntWalk.i64_in _ (by omega)]; omega
      have OKL := Lib.hid (show ∀ q ∈ [P], okP q = true from fun q hq => by simp at hq; subst hq; exact OKP.out)
      clear hat hd hbel hbel3
      go_wp2_with fail
      refine (lengthOf_any _ 1 1 [P] _ ONE1.out OKL.out (by simp)).mono ?_
      rintro e w4 ⟨rfl, hb4⟩
      rw [LO.out]
      have B5 := Lib.hid (Below.then' BA.out hb4)
      clear hb4 c0 c1 c2 c3
      obtain ⟨c0, c1, c2, c3⟩ := BP.out _ B5.out
      by_cases hz : (d : Int) ≤ z
      · have AY2 := Lib.hid (AY.out hz)
        have ONE2 := Lib.hid (one_part w4 P 105 _ rfl)
        have BA2 := Lib.hid (bel_al1 w4 (.cells #[.int .i64 P.FX, .int .i64 P.FY, .int .i64 P.TX, .int .i64 P.TY] 105))
        have v2 : IntKind.i64.wrap (z - (d : Int)) = z - (d : Int) := IntWalk.i64_in _ (by omega)
        go_wp2_with fail
        refine (lengthOf_any _ 1 1 [P] _ ONE2.out OKL.out (by simp)).mono ?_
        rintro e w5 ⟨rfl, hb5⟩
        rw [LO.out]
        have B6 := Lib.hid (Below.then' B5.out (Below.then' BA2.out hb5))
        clear hb5 c0 c1 c2 c3
        go_wp2
        go_roundw
        case rel => exact ⟨p + 1, z - (d : Int), by omega, rfl, rfl, by omega, by omega, by rw [AL.out, AY2.out], Below.then' B.out B6.out, Below.then' B4.out B6.out⟩
        case measure => simp [intOf]; omega
      · have AE := Lib.hid (show alongF xs xs.length 0 n = (p, z) from by rw [AL.out, AN.out (by omega)])
        have cz : ¬ (d : Int) ≤ z := hz
        clear hz AY AN AL
        go_wp2
        go_ret3
        exact ⟨ret_iib (by rw [F0.out, AE.out]) (by rw [F1.out, AE.out]) F2.out.symm, Below.then' B.out B5.out⟩
    · have AE := Lib.hid (show alongF xs xs.length 0 n = (p, z) from by rw [AL.out]; exact alongF_no (fun h => by have := HM.out; omega) _)
      have cp : ¬ (p : Int) < (m : Int) - 1 := by omega
      clear AL hbel hbel3
      go_wp2
      go_ret3
      exact ⟨ret_iib (by rw [F0.out, AE.out]) (by rw [F1.out, AE.out]) F2.out.symm, B.out⟩
set_option maxHeartbeats 6400000 in
set_option maxRecDepth 100000 in
theorem implDetourOf_any (a : Option Addr) (len cap : Nat) (xs : List VCorner) (w : World) (h : IsCornerS w a len cap xs) :
    Calls Try.prog 56 #[.slice a len cap] w (DetourOf_Post xs w) := by
  have S := Lib.hid h
  obtain rfl := h.1
  clear h
  obtain ⟨q, hq⟩ : ∃ q, roadB xs = q := ⟨_, rfl⟩
  have Q := Lib.hid hq
  clear hq
  go_enter Try.func56, Try.ntmps56
  go_wp2_with fail
  refine (implRoadLength_any _ _ _ xs _ S.out).mono ?_
  rintro e w1 ⟨rfl, hb⟩
  rw [show RoadLength_1 xs = q from Q.out]
  have B1 := Lib.hid hb
  clear hb
  cases q
  · have AB := Lib.hid (show detB xs = false from by unfold detB; rw [Q.out]; rfl)
    have F0 := Lib.hid (show DetourOf_0 xs = 0 from by unfold DetourOf_0; rw [AB.out]; rfl)
    have F1 := Lib.hid (show DetourOf_1 xs = 0 from by unfold DetourOf_1; rw [AB.out]; rfl)
    have F2 := Lib.hid (show DetourOf_2 xs = false from AB.out)
    go_wp2
    go_quiet (fail)
    have BD := Lib.hid (Below.then' B1.out (bel_drawn _ nq))
    go_wp2
    go_ret3
    exact ⟨ret_iib F0.out.symm F1.out.symm F2.out.symm, BD.out⟩
  rw [show RoadLength_0 xs = (lenR xs : Int) from by unfold RoadLength_0; rw [Q.out]; rfl]
  have R := Lib.hid (road_iff.1 Q.out)
  have lb := R.out.lenR_bd
  have l2 := R.out.l2
  have l12 := R.out.l12
  obtain ⟨T, hT⟩ : ∃ T, lenR xs = T := ⟨_, rfl⟩
  have HT := Lib.hid hT
  rw [hT] at lb
  rw [hT]
  obtain ⟨b, o, rfl, hb0, hat⟩ := S.out.at (by omega)
  have C0 := Lib.hid (hat 0 _ (at_ptC (by omega)))
  have C1 := Lib.hid (hat (xs.length - 1) _ (at_ptC (by omega)))
  have LC := Lib.hid (show lastC xs = ptC xs (xs.length - 1) from rfl)
  obtain ⟨r, hr⟩ : ∃ r, eqvCorner (ptC xs 0) (lastC xs) = r := ⟨_, rfl⟩
  have AB := Lib.hid (show detB xs = !r from by unfold detB; rw [Q.out, hr]; rfl)
  have DD := Lib.hid (show detD xs = partL (ptC xs 0) (lastC xs) from rfl)
  have OK0 := R.out.ok (i := 0) (by omega)
  have OK1 := R.out.ok (i := xs.length - 1) (by omega)
  have POS := Lib.hid (fun (h : r = false) => partL_pos OK0 (LC.out ▸ OK1) (hr.trans h))
  have PB := partL_bd OK0 (LC.out ▸ OK1 : okC (lastC xs) = true)
  rw [LC.out] at hr DD PB
  have POS2 := Lib.hid (LC.out ▸ POS.out)
  clear POS
  obtain ⟨j, hj⟩ : ∃ j, xs.length - 1 = j := ⟨_, rfl⟩
  rw [hj] at C1 hr OK1 DD PB POS2
  have OKP := Lib.hid (show okP ⟨(ptC xs 0).X, (ptC xs 0).Y, (ptC xs j).X, (ptC xs j).Y⟩ = true from by unfold okP fromP toP; simp only []; rw [OK0, OK1]; rfl)
  generalize ptC xs 0 = p at *
  generalize ptC xs j = s at *
  have heq : ∀ W : World, (binOp .eql 103 (.agg #[.int .i64 p.X, .int .i64 p.Y]) (.agg #[.int .i64 s.X, .int .i64 s.Y])).run Try.prog W = .ok (.bool r) W := fun W => by rw [← hr]; exact eqlCorner W p s
  have v1 : IntKind.i64.wrap ((xs.length : Int) - 1) = (j : Int) := by rw [IntWalk.i64_in _ (by omega)]; omega
  have j0 : (0 : Int) ≤ (j : Int) := by omega
  have j1 : (j : Int) < (xs.length : Int) := by omega
  have j2 : (0 : Int) < (xs.length : Int) := by omega
  have j3 : 0 < xs.length := by omega
  have KP := Lib.hid (show ∀ W, Below w.heap.size w W → CornerAt W b o p ∧ CornerAt W b (o + j * 2) s from fun W hW => ⟨by have := CornerAt.below C0.out hW hb0; simpa using this, CornerAt.below C1.out hW hb0⟩)
  obtain ⟨⟨c0, c1⟩, d0, d1⟩ := KP.out _ B1.out
  clear hat hT hj hr OK0 OK1 C0 C1
  cases r
  · have F0 := Lib.hid (show DetourOf_0 xs = (T : Int) / (Nat.gcd T (detD xs) : Nat) from by unfold DetourOf_0; rw [AB.out, HT.out]; rfl)
    have F1 := Lib.hid (show DetourOf_1 xs = (detD xs : Int) / (Nat.gcd T (detD xs) : Nat) from by unfold DetourOf_1; rw [AB.out, HT.out]; rfl)
    have F2 := Lib.hid (show DetourOf_2 xs = true from AB.out)
    have pos := POS2.out rfl
    obtain ⟨D, hD⟩ : ∃ D, detD xs = D := ⟨_, rfl⟩
    have LO := Lib.hid (show lenP [(⟨p.X, p.Y, s.X, s.Y⟩ : VroadPart)] [(⟨p.X, p.Y, s.X, s.Y⟩ : VroadPart)].length = D from by rw [lenP_one, ← hD]; exact DD.out.symm)
    rw [← DD.out, hD] at pos PB
    rw [hD] at F0 F1
    clear hD DD POS2
    go_wp2
    go_quiet (fail)
    have BQ := Lib.hid (Below.then' B1.out (bel_drawn _ nq))
    obtain ⟨W2, hW2⟩ : ∃ W2, w1.drewN nq = W2 := ⟨_, rfl⟩
    rw [hW2] at BQ
    rw [hW2]
    clear c0 c1 d0 d1 heq hW2
    obtain ⟨⟨c0, c1⟩, d0, d1⟩ := KP.out _ BQ.out
    have BD := Lib.hid (drew_bel W2 (.cells #[.int .i64 p.X, .int .i64 p.Y, .int .i64 s.X, .int .i64 s.Y] 105))
    have ONE1 := Lib.hid (IsroadPartS.below (one_part W2 ⟨p.X, p.Y, s.X, s.Y⟩ 105 _ rfl) (bel_drew' (Below.refl _ _)))
    have OKL := Lib.hid (show ∀ q ∈ [(⟨p.X, p.Y, s.X, s.Y⟩ : VroadPart)], okP q = true from fun q hq => by simp at hq; subst hq; exact OKP.out)
    go_wp2
    go_region_held3 (fun u => Below w.heap.size w u ∧ u.cell? ⟨b, o, none⟩ = some (.int .i64 p.X) ∧ u.cell? ⟨b, o + 1, none⟩ = some (.int .i64 p.Y) ∧ u.cell? ⟨b, o + j * 2, none⟩ = some (.int .i64 s.X) ∧ u.cell? ⟨b, o + j * 2 + 1, none⟩ = some (.int .i64 s.Y))
      (first
        | exact ⟨bel_drew' BQ.out, c0, c1, d0, d1⟩
        | (have h := Below.then' BQ.out BD.out; obtain ⟨⟨x0, x1⟩, x2, x3⟩ := KP.out _ h; exact ⟨h, x0, x1, x2, x3⟩)
        | (have h := Below.then' (Below.then' BQ.out BD.out) hb4; obtain ⟨⟨x0, x1⟩, x2, x3⟩ := KP.out _ h; exact ⟨h, x0, x1, x2, x3⟩)
        | (have h := Below.then' (Below.then' (Below.then' BQ.out BD.out) hb4) hb5; obtain ⟨⟨x0, x1⟩, x2, x3⟩ := KP.out _ h; exact ⟨h, x0, x1, x2, x3⟩))
      (first
        | (go_at_call 114; refine (lengthOf_any _ 1 1 [(⟨p.X, p.Y, s.X, s.Y⟩ : VroadPart)] _ ONE1.out OKL.out (by simp)).mono ?_; rintro e w4 ⟨rfl, hb4⟩; rw [LO.out])
        | (go_at_call 115; refine (lowestTerms_any T D _ (by omega) (by omega) (by omega)).mono ?_; rintro e w5 ⟨rfl, hb5⟩))
    have B9 := Lib.hid (Below.then' (Below.then' (Below.then' BQ.out BD.out) hb4) hb5)
    clear hb4 hb5
    go_wp2
    go_ret3
    exact ⟨ret_iib F0.out.symm F1.out.symm F2.out.symm, B9.out⟩
  · have F0 := Lib.hid (show DetourOf_0 xs = 0 from by unfold DetourOf_0; rw [AB.out]; rfl)
    have F1 := Lib.hid (show DetourOf_1 xs = 0 from by unfold DetourOf_1; rw [AB.out]; rfl)
    have F2 := Lib.hid (show DetourOf_2 xs = false from AB.out)
    go_wp2
    go_quiet (fail)
    have BQ := Lib.hid (Below.then' B1.out (bel_drawn _ nq))
    go_wp2
    go_ret3
    exact ⟨ret_iib F0.out.symm F1.out.symm F2.out.symm, BQ.out⟩
end Go.Proofs.Ytpnaciamnigbnaa
