/- Texts in one: MnMx, Cs4, ClaimR, ClaimOfContoursP, Ci4, Cs7, PutL2, Has. -/
import Derived.Test.YtobpgoiaimlonaaM2
import Derived.Test.YtobpgoiaimlonaaM5
import Derived.Test.YtobpgoiaimlonaaM4
import Derived.Test.YtobpgoiaimlonaaM1
import Derived.Test.YtobpgoiaimlonaaM3
namespace Go.Proofs.Ytobpgoiaimlonaa
open Go.RowKit
theorem l1Least_any (x y : Int) (w : World) :
    Calls Try.prog 65 #[.int .i64 x, .int .i64 y] w fun e w' => e = .returned (.int .i64 (min x y)) ∧ w = w' := by
  by_cases h : x < y
  · go_enter Try.func65, Try.ntmps65
    go_wp2
    go_ret
    exact ⟨ret_int (by omega), rfl⟩
  · go_enter Try.func65, Try.ntmps65
    go_wp2
    go_ret
    exact ⟨ret_int (by omega), rfl⟩
theorem l1Most_any (x y : Int) (w : World) :
    Calls Try.prog 64 #[.int .i64 x, .int .i64 y] w fun e w' => e = .returned (.int .i64 (max x y)) ∧ w = w' := by
  by_cases h : y < x
  · go_enter Try.func64, Try.ntmps64
    go_wp2
    go_ret
    exact ⟨ret_int (by omega), rfl⟩
  · go_enter Try.func64, Try.ntmps64
    go_wp2
    go_ret
    exact ⟨ret_int (by omega), rfl⟩
end Go.Proofs.Ytobpgoiaimlonaa
namespace Go.Proofs.Ytobpgoiaimlonaa
open Go.RowKit
theorem l8Floor_any (a b : Int) (w : World) (h0 : -200000 ≤ a) (h1 : a ≤ 200000) (h2 : 1 ≤ b) (h3 : b ≤ 1000) :
    Calls Try.prog 63 #[.int .i64 a, .int .i64 b] w fun e w' => e = .returned (.int .i64 (a / b)) ∧ w = w' := by
  have hb : ¬ b = 0 := by omega
  by_cases h : a < 0
  · have w1 : IntKind.i64.wrap (b - 1) = b - 1 := IntWalk.i64_in _ (by omega)
    have w2 : IntKind.i64.wrap (b - 1 - a) = b - 1 - a := IntWalk.i64_in _ (by omega)
    have q0 : (b - 1 - a).tdiv b = (b - 1 - a) / b := Int.tdiv_eq_ediv_of_nonneg (by omega)
    have q1 : 0 ≤ (b - 1 - a) / b := Int.ediv_nonneg (by omega) (by omega)
    have q2 : (b - 1 - a) / b ≤ b - 1 - a := Int.ediv_le_self _ (by omega)
    have w3 : IntKind.i64.wrap ((b - 1 - a).tdiv b) = (b - 1 - a) / b := by rw [q0]; exact IntWalk.i64_in _ (by omega)
    have w4 : IntKind.i64.wrap (-((b - 1 - a) / b)) = -((b - 1 - a) / b) := IntWalk.i64_in _ (by omega)
    have E : -((b - 1 - a) / b) = a / b := by
      have e1 := Int.emod_add_mul_ediv a b
      have e2 := Int.emod_nonneg a hb
      have e3 := Int.emod_lt_of_pos a (show 0 < b by omega)
      have : (b - 1 - a) / b = -(a / b) := by
        rw [show b - 1 - a = (b - 1 - a % b) + b * (-(a / b)) from by rw [Int.mul_neg]; omega, Int.add_mul_ediv_left _ _ hb, Int.ediv_eq_zero_of_lt (by omega) (by omega)]; omega
      omega
    have EE := Lib.hid E
    clear E
    go_enter Try.func63, Try.ntmps63
    go_wp2
    go_ret
    exact ⟨ret_int EE.out, rfl⟩
  · have q0 : a.tdiv b = a / b := Int.tdiv_eq_ediv_of_nonneg (by omega)
    have q1 : 0 ≤ a / b := Int.ediv_nonneg (by omega) (by omega)
    have q2 : a / b ≤ a := Int.ediv_le_self _ (by omega)
    have w3 : IntKind.i64.wrap (a.tdiv b) = a / b := by rw [q0]; exact IntWalk.i64_in _ (by omega)
    go_enter Try.func63, Try.ntmps63
    go_wp2
    go_ret
    exact ⟨rfl, rfl⟩
set_option maxHeartbeats 3200000 in
theorem specContoursBetween_any (a b s : Int) (w : World) :
    Calls Try.prog 23 #[.int .i64 a, .int .i64 b, .int .i64 s] w (ContoursBetween_Post a b s w) := by
  obtain ⟨p, hp⟩ : ∃ p, inB a (-200000) 200000 = p := ⟨_, rfl⟩
  obtain ⟨q, hq⟩ : ∃ q, inB b (-200000) 200000 = q := ⟨_, rfl⟩
  obtain ⟨r, hr⟩ : ∃ r, inB s 1 1000 = r := ⟨_, rfl⟩
  have PP := Lib.hid hp
  have QQ := Lib.hid hq
  have RR := Lib.hid hr
  have C := Lib.hid (show ctB a b s = (p && (q && r)) from by unfold ctB; rw [hp, hq, hr])
  clear hp hq hr
  go_enter Try.func23, Try.ntmps23
  go_wp2_with fail
  refine (l1In_any _ _ _ _).mono ?_
  rintro e w' ⟨rfl, rfl⟩
  rw [PP.out]
  cases p
  · go_wp2
    go_ret2
    exact ⟨by unfold ContoursBetween_0 ContoursBetween_1; rw [C.out]; rfl, Below.refl _ _⟩
  go_wp2_with fail
  refine (l1In_any _ _ _ _).mono ?_
  rintro e w' ⟨rfl, rfl⟩
  rw [QQ.out]
  cases q
  · go_wp2
    go_ret2
    exact ⟨by unfold ContoursBetween_0 ContoursBetween_1; rw [C.out]; rfl, Below.refl _ _⟩
  go_wp2_with fail
  refine (l1In_any _ _ _ _).mono ?_
  rintro e w' ⟨rfl, rfl⟩
  rw [RR.out]
  cases r
  · go_wp2
    go_ret2
    exact ⟨by unfold ContoursBetween_0 ContoursBetween_1; rw [C.out]; rfl, Below.refl _ _⟩
  have h1 := inB_iff.1 PP.out
  have h2 := inB_iff.1 QQ.out
  have h3 := inB_iff.1 RR.out
  have E := Lib.hid (show ContoursBetween_0 a b s = max a b / s - min a b / s from by unfold ContoursBetween_0; rw [C.out]; rfl)
  obtain ⟨x, hx⟩ : ∃ x, max a b = x := ⟨_, rfl⟩
  obtain ⟨y, hy⟩ : ∃ y, min a b = y := ⟨_, rfl⟩
  have X := Lib.hid hx
  have Y := Lib.hid hy
  have bx : -200000 ≤ x ∧ x ≤ 200000 := by omega
  have bY : -200000 ≤ y ∧ y ≤ 200000 := by omega
  rw [hx, hy] at E
  clear hx hy h1 h2
  have fb : ∀ z : Int, -200000 ≤ z ∧ z ≤ 200000 → -200000 ≤ z / s ∧ z / s ≤ 200000 := fun z hz => by
    have e1 := Int.emod_add_mul_ediv z s
    have e2 := Int.emod_nonneg z (show s ≠ 0 by omega)
    have e3 := Int.emod_lt_of_pos z (show 0 < s by omega)
    constructor
    · refine Classical.byContradiction fun hn => ?_
      have : s * (z / s) ≤ 1 * (z / s) := Int.mul_le_mul_of_nonpos_right (by omega) (by omega)
      have : s * (z / s) ≤ s * (-200001) := Int.mul_le_mul_of_nonneg_left (by omega) (by omega)
      omega
    · refine Classical.byContradiction fun hn => ?_
      have : 1 * (z / s) ≤ s * (z / s) := Int.mul_le_mul_of_nonneg_right (by omega) (by omega)
      omega
  have f1 := fb x bx
  have f2 := fb y bY
  obtain ⟨u, hu⟩ : ∃ u, x / s = u := ⟨_, rfl⟩
  obtain ⟨v, hv⟩ : ∃ v, y / s = v := ⟨_, rfl⟩
  rw [hu] at f1 E
  rw [hv] at f2 E
  have U := Lib.hid hu
  have V := Lib.hid hv
  have wd : IntKind.i64.wrap (u - v) = u - v := IntWalk.i64_in _ (by omega)
  clear fb hu hv
  go_wp2_with fail
  refine (l1Most_any _ _ _).mono ?_
  rintro e w' ⟨rfl, rfl⟩
  rw [X.out]
  go_wp2_with fail
  refine (l8Floor_any _ _ _ bx.1 bx.2 h3.1 h3.2).mono ?_
  rintro e w' ⟨rfl, rfl⟩
  rw [U.out]
  go_wp2_with fail
  refine (l1Least_any _ _ _).mono ?_
  rintro e w' ⟨rfl, rfl⟩
  rw [Y.out]
  go_wp2_with fail
  refine (l8Floor_any _ _ _ bY.1 bY.2 h3.1 h3.2).mono ?_
  rintro e w' ⟨rfl, rfl⟩
  rw [V.out]
  go_wp2
  go_ret2
  exact ⟨by rw [E.out]; unfold ContoursBetween_1; rw [C.out]; rfl, Below.refl _ _⟩
end Go.Proofs.Ytobpgoiaimlonaa
namespace Go.Proofs.Ytobpgoiaimlonaa
open Go.RowKit
theorem resultsClaim1 {fn : Func} {tm : Array Value} {a b : Nat} {w : World} {s : VClaim} (hf : fn.results = #[.cell a 38]) (ha : tm.getD a undef = .pointer (some ⟨b, 0, none⟩)) (h : HBClaim w b s) :
    (results fn tm).run Try.prog w = .ok (.agg #[.int .i64 s.Low, .int .i64 s.High, .int .i64 s.Least, .int .i64 s.Most]) w := by
  obtain ⟨h0, h1, h2, h3⟩ := h.cells
  simp only [Array.getD_eq_getD_getElem?] at ha
  simp [results, hf, ha, go_sem, h0, h1, h2, h3]
theorem resultsClaim2 {fn : Func} {tm : Array Value} {a b c : Nat} {w : World} {s : VClaim} {v : Value} (hf : fn.results = #[.cell a 38, .tmp c]) (ha : tm.getD a undef = .pointer (some ⟨b, 0, none⟩)) (hc : tm.getD c undef = v) (h : HBClaim w b s) :
    (results fn tm).run Try.prog w = .ok (.tuple #[.agg #[.int .i64 s.Low, .int .i64 s.High, .int .i64 s.Least, .int .i64 s.Most], v]) w := by
  obtain ⟨h0, h1, h2, h3⟩ := h.cells
  simp only [Array.getD_eq_getD_getElem?] at ha hc
  simp [results, hf, ha, hc, go_sem, h0, h1, h2, h3]
end Go.Proofs.Ytobpgoiaimlonaa
namespace Go.Proofs.Ytobpgoiaimlonaa
open Go.RowKit
def ClaimOfContours_Post (z0 : Int) (z1 : Int) (z2 : Int) (z3 : Int) (w : World) (e : Ending) (w' : World) : Prop :=
  e = .returned (.tuple #[.agg #[.int .i64 (ClaimOfContours_0 z0 z1 z2 z3).Low, .int .i64 (ClaimOfContours_0 z0 z1 z2 z3).High, .int .i64 (ClaimOfContours_0 z0 z1 z2 z3).Least, .int .i64 (ClaimOfContours_0 z0 z1 z2 z3).Most], .bool (ClaimOfContours_1 z0 z1 z2 z3)]) ∧ Below w.heap.size w w'
end Go.Proofs.Ytobpgoiaimlonaa
namespace Go.Proofs.Ytobpgoiaimlonaa
open Go.RowKit

def claim0 : VClaim := ⟨0, 0, 0, 0⟩
theorem ret_cb {s t : VClaim} {p q : Bool} (h : s = t) (k : p = q) : Ending.returned (.tuple #[.agg #[.int .i64 s.Low, .int .i64 s.High, .int .i64 s.Least, .int .i64 s.Most], .bool p]) = .returned (.tuple #[.agg #[.int .i64 t.Low, .int .i64 t.High, .int .i64 t.Least, .int .i64 t.Most], .bool q]) := by rw [h, k]
theorem co_bd {c s : Int} (c0 : 0 ≤ c) (c1 : c ≤ 9) (s0 : 1 ≤ s) (s1 : s ≤ 1000) : -1000 ≤ (c - 1) * s ∧ (c - 1) * s ≤ 8000 ∧ 1 ≤ (c + 1) * s ∧ (c + 1) * s ≤ 10000 := by
  have h : c = 0 ∨ c = 1 ∨ c = 2 ∨ c = 3 ∨ c = 4 ∨ c = 5 ∨ c = 6 ∨ c = 7 ∨ c = 8 ∨ c = 9 := by omega
  rcases h with rfl | rfl | rfl | rfl | rfl | rfl | rfl | rfl | rfl | rfl <;> omega
theorem co_no {l h c s : Int} (hh : coB l h c s = false) : ClaimOfContours_0 l h c s = claim0 := by unfold ClaimOfContours_0; rw [hh]; rfl
theorem co_yes {l h c s : Int} (hh : coB l h c s = true) : ClaimOfContours_0 l h c s = claimOf l h c s := by unfold ClaimOfContours_0; rw [hh]; rfl
set_option maxHeartbeats 6400000 in
set_option maxRecDepth 100000 in
theorem implClaimOfContours_any (l g c s : Int) (w : World) :
    Calls Try.prog 24 #[.int .i64 l, .int .i64 g, .int .i64 c, .int .i64 s] w (ClaimOfContours_Post l g c s w) := by
  obtain ⟨p, hp⟩ : ∃ p, inB c 0 9 = p := ⟨_, rfl⟩
  obtain ⟨q, hq⟩ : ∃ q, inB s 1 1000 = q := ⟨_, rfl⟩
  obtain ⟨r, hr⟩ : ∃ r, clB 10 (claimOf l g c s) = r := ⟨_, rfl⟩
  have PP := Lib.hid hp
  have QQ := Lib.hid hq
  have RR := Lib.hid hr
  have C := Lib.hid (show coB l g c s = ((p && q) && r) from by unfold coB; rw [hp, hq, hr])
  clear hp hq hr
  have Z0 := Lib.hid (HBClaim.new w claim0 _ rfl)
  have B0 := Lib.hid (bel_al1 w (.cells #[.int .i64 0, .int .i64 0, .int .i64 0, .int .i64 0] 38))
  go_enter Try.func24, Try.ntmps24
  go_wp2_with fail
  refine (areC1 0 9 c _ _ _ (by simp)).mono ?_
  rintro e w1 ⟨rfl, hw⟩
  rw [PP.out]
  have ba := bel_al1 (w.alloc (.cells #[.int .i64 0, .int .i64 0, .int .i64 0, .int .i64 0] 38)) (.cells #[.int .i64 c] 3)
  rw [hw] at ba
  have Z1 := Lib.hid (Z0.out.below ba)
  have B1 := Lib.hid (Below.then' B0.out ba)
  clear ba hw
  cases p
  · have hz := Z1.out
    obtain ⟨z0, z1, z2, z3⟩ := hz.cells
    have f0 := hz.free 0
    have f1 := hz.free 1
    have f2 := hz.free 2
    have f3 := hz.free 3
    have ZW := Lib.hid (hz.setAll claim0)
    clear hz
    go_wp2
    refine bodyPost_ret (resultsClaim2 rfl rfl rfl ZW.out) rfl ⟨ret_cb (co_no (by rw [C.out]; rfl)).symm (show _ = coB l g c s from by rw [C.out]; rfl), ?_⟩
    exact ((((B1.out).setCell (by simp) _).setCell (by simp) _).setCell (by simp) _).setCell (by simp) _
  go_wp2_with fail
  refine (isStep_any _ _).mono ?_
  rintro e w2 ⟨rfl, hb⟩
  rw [QQ.out]
  have Z2 := Lib.hid (Z1.out.below hb)
  have B2 := Lib.hid (Below.then' B1.out hb)
  clear hb
  cases q
  · have hz := Z2.out
    obtain ⟨z0, z1, z2, z3⟩ := hz.cells
    have f0 := hz.free 0
    have f1 := hz.free 1
    have f2 := hz.free 2
    have f3 := hz.free 3
    have ZW := Lib.hid (hz.setAll claim0)
    clear hz
    go_wp2
    refine bodyPost_ret (resultsClaim2 rfl rfl rfl ZW.out) rfl ⟨ret_cb (co_no (by rw [C.out]; rfl)).symm (show _ = coB l g c s from by rw [C.out]; rfl), ?_⟩
    exact ((((B2.out).setCell (by simp) _).setCell (by simp) _).setCell (by simp) _).setCell (by simp) _
  have h1 := inB_iff.1 PP.out
  have h2 := inB_iff.1 QQ.out
  have bd := co_bd h1.1 h1.2 h2.1 h2.2
  have v1 : IntKind.i64.wrap (c - 1) = c - 1 := IntWalk.i64_in _ (by omega)
  have v2 : IntKind.i64.wrap ((c - 1) * s) = (c - 1) * s := IntWalk.i64_in _ (by omega)
  have v4 : IntKind.i64.wrap (c + 1) = c + 1 := IntWalk.i64_in _ (by omega)
  have v5 : IntKind.i64.wrap ((c + 1) * s) = (c + 1) * s := IntWalk.i64_in _ (by omega)
  obtain ⟨mo, hmo⟩ : ∃ mo, (c + 1) * s - 1 = mo := ⟨_, rfl⟩
  have v6 : IntKind.i64.wrap ((c + 1) * s - 1) = mo := by rw [← hmo]; exact IntWalk.i64_in _ (by omega)
  have X2 := Lib.hid (show ∀ le : Int, BoxClaim (w2.alloc (.cells #[.int .i64 (VClaim.mk l g le mo).Low, .int .i64 (VClaim.mk l g le mo).High, .int .i64 (VClaim.mk l g le mo).Least, .int .i64 (VClaim.mk l g le mo).Most] 38)) w2.heap.size ⟨l, g, le, mo⟩ from fun le => BoxClaim.new w2 38 ⟨l, g, le, mo⟩ _ rfl)
  clear h1 h2
  by_cases hm : 0 < (c - 1) * s + 1
  · obtain ⟨le, hle⟩ : ∃ le, (c - 1) * s + 1 = le := ⟨_, rfl⟩
    have CO := Lib.hid (show claimOf l g c s = ⟨l, g, le, mo⟩ from by unfold claimOf; rw [hmo, hle, show max 0 le = le by omega])
    have v3 : IntKind.i64.wrap ((c - 1) * s + 1) = le := by rw [← hle]; exact IntWalk.i64_in _ (by omega)
    rw [hle] at hm
    have hm2 : ¬ le < 0 := by omega
    clear bd hmo hle
    have bb := bel_al1 w2 (.cells #[.int .i64 (VClaim.mk l g le mo).Low, .int .i64 (VClaim.mk l g le mo).High, .int .i64 (VClaim.mk l g le mo).Least, .int .i64 (VClaim.mk l g le mo).Most] 38)
    have X3 := Lib.hid (X2.out le)
    have Z3 := Lib.hid (Z2.out.below bb)
    have B3 := Lib.hid (Below.then' B2.out bb)
    rw [CO.out] at RR
    obtain ⟨c0, c1, c2, c3⟩ := X3.out
    simp only [] at c0 c1 c2 c3
    clear bb X2
    go_wp2_with fail
    refine (isClaim_any 10 ⟨l, g, le, mo⟩ _ (by omega) (by omega)).mono ?_
    rintro e w4 ⟨rfl, hb⟩
    rw [RR.out]
    have Z4 := Lib.hid (Z3.out.below hb)
    have X4 := Lib.hid (X3.out.below hb)
    have B4 := Lib.hid (Below.then' B3.out hb)
    clear hb c0 c1 c2 c3
    have hz := Z4.out
    obtain ⟨z0, z1, z2, z3⟩ := hz.cells
    have f0 := hz.free 0
    have f1 := hz.free 1
    have f2 := hz.free 2
    have f3 := hz.free 3
    cases r
    · have ZW := Lib.hid (hz.setAll claim0)
      clear hz
      go_wp2
      refine bodyPost_ret (resultsClaim2 rfl rfl rfl ZW.out) rfl ⟨ret_cb (co_no (by rw [C.out]; rfl)).symm (show _ = coB l g c s from by rw [C.out]; rfl), ?_⟩
      exact ((((B4.out).setCell (by simp) _).setCell (by simp) _).setCell (by simp) _).setCell (by simp) _
    · have ZW := Lib.hid (hz.setAll ⟨l, g, le, mo⟩)
      obtain ⟨c0, c1, c2, c3⟩ := X4.out
      simp only [] at c0 c1 c2 c3
      clear hz
      go_wp2
      refine bodyPost_ret (resultsClaim2 rfl rfl rfl ZW.out) rfl ⟨ret_cb (((co_yes (by rw [C.out]; rfl)).trans CO.out).symm) (show _ = coB l g c s from by rw [C.out]; rfl), ?_⟩
      exact ((((B4.out).setCell (by simp) _).setCell (by simp) _).setCell (by simp) _).setCell (by simp) _
  · have CO := Lib.hid (show claimOf l g c s = ⟨l, g, 0, mo⟩ from by unfold claimOf; rw [hmo, show max 0 ((c - 1) * s + 1) = 0 by omega])
    obtain ⟨le, hle⟩ : ∃ le, (c - 1) * s + 1 = le := ⟨_, rfl⟩
    have v3 : IntKind.i64.wrap ((c - 1) * s + 1) = le := by rw [← hle]; exact IntWalk.i64_in _ (by omega)
    rw [hle] at hm
    clear bd hmo hle
    rcases (show le = 0 ∨ le < 0 by omega) with rfl | hm2
    · clear hm
      have bb := bel_al1 w2 (.cells #[.int .i64 (VClaim.mk l g 0 mo).Low, .int .i64 (VClaim.mk l g 0 mo).High, .int .i64 (VClaim.mk l g 0 mo).Least, .int .i64 (VClaim.mk l g 0 mo).Most] 38)
      have X3 := Lib.hid (X2.out 0)
      have Z3 := Lib.hid (Z2.out.below bb)
      have B3 := Lib.hid (Below.then' B2.out bb)
      rw [CO.out] at RR
      obtain ⟨c0, c1, c2, c3⟩ := X3.out
      simp only [] at c0 c1 c2 c3
      clear bb X2
      go_wp2_with fail
      refine (isClaim_any 10 ⟨l, g, 0, mo⟩ _ (by omega) (by omega)).mono ?_
      rintro e w4 ⟨rfl, hb⟩
      rw [RR.out]
      have Z4 := Lib.hid (Z3.out.below hb)
      have X4 := Lib.hid (X3.out.below hb)
      have B4 := Lib.hid (Below.then' B3.out hb)
      clear hb c0 c1 c2 c3
      have hz := Z4.out
      obtain ⟨z0, z1, z2, z3⟩ := hz.cells
      have f0 := hz.free 0
      have f1 := hz.free 1
      have f2 := hz.free 2
      have f3 := hz.free 3
      cases r
      · have ZW := Lib.hid (hz.setAll claim0)
        clear hz
        go_wp2
        refine bodyPost_ret (resultsClaim2 rfl rfl rfl ZW.out) rfl ⟨ret_cb (co_no (by rw [C.out]; rfl)).symm (show _ = coB l g c s from by rw [C.out]; rfl), ?_⟩
        exact ((((B4.out).setCell (by simp) _).setCell (by simp) _).setCell (by simp) _).setCell (by simp) _
      · have ZW := Lib.hid (hz.setAll ⟨l, g, 0, mo⟩)
        obtain ⟨c0, c1, c2, c3⟩ := X4.out
        simp only [] at c0 c1 c2 c3
        clear hz
        go_wp2
        refine bodyPost_ret (resultsClaim2 rfl rfl rfl ZW.out) rfl ⟨ret_cb (((co_yes (by rw [C.out]; rfl)).trans CO.out).symm) (show _ = coB l g c s from by rw [C.out]; rfl), ?_⟩
        exact ((((B4.out).setCell (by simp) _).setCell (by simp) _).setCell (by simp) _).setCell (by simp) _
    · have hm3 : ¬ 0 < le := by omega
      have bb := bel_al1 w2 (.cells #[.int .i64 (VClaim.mk l g 0 mo).Low, .int .i64 (VClaim.mk l g 0 mo).High, .int .i64 (VClaim.mk l g 0 mo).Least, .int .i64 (VClaim.mk l g 0 mo).Most] 38)
      have X3 := Lib.hid (X2.out 0)
      have Z3 := Lib.hid (Z2.out.below bb)
      have B3 := Lib.hid (Below.then' B2.out bb)
      rw [CO.out] at RR
      obtain ⟨c0, c1, c2, c3⟩ := X3.out
      simp only [] at c0 c1 c2 c3
      clear bb X2
      go_wp2_with fail
      refine (isClaim_any 10 ⟨l, g, 0, mo⟩ _ (by omega) (by omega)).mono ?_
      rintro e w4 ⟨rfl, hb⟩
      rw [RR.out]
      have Z4 := Lib.hid (Z3.out.below hb)
      have X4 := Lib.hid (X3.out.below hb)
      have B4 := Lib.hid (Below.then' B3.out hb)
      clear hb c0 c1 c2 c3
      have hz := Z4.out
      obtain ⟨z0, z1, z2, z3⟩ := hz.cells
      have f0 := hz.free 0
      have f1 := hz.free 1
      have f2 := hz.free 2
      have f3 := hz.free 3
      cases r
      · have ZW := Lib.hid (hz.setAll claim0)
        clear hz
        go_wp2
        refine bodyPost_ret (resultsClaim2 rfl rfl rfl ZW.out) rfl ⟨ret_cb (co_no (by rw [C.out]; rfl)).symm (show _ = coB l g c s from by rw [C.out]; rfl), ?_⟩
        exact ((((B4.out).setCell (by simp) _).setCell (by simp) _).setCell (by simp) _).setCell (by simp) _
      · have ZW := Lib.hid (hz.setAll ⟨l, g, 0, mo⟩)
        obtain ⟨c0, c1, c2, c3⟩ := X4.out
        simp only [] at c0 c1 c2 c3
        clear hz
        go_wp2
        refine bodyPost_ret (resultsClaim2 rfl rfl rfl ZW.out) rfl ⟨ret_cb (((co_yes (by rw [C.out]; rfl)).trans CO.out).symm) (show _ = coB l g c s from by rw [C.out]; rfl), ?_⟩
        exact ((((B4.out).setCell (by simp) _).setCell (by simp) _).setCell (by simp) _).setCell (by simp) _
end Go.Proofs.Ytobpgoiaimlonaa
namespace Go.Proofs.Ytobpgoiaimlonaa
open Go.RowKit

set_option maxHeartbeats 6400000 in
set_option maxRecDepth 100000 in
theorem specClaimOfContours_any (l g c s : Int) (w : World) :
    Calls Try.prog 26 #[.int .i64 l, .int .i64 g, .int .i64 c, .int .i64 s] w (ClaimOfContours_Post l g c s w) := by
  obtain ⟨p, hp⟩ : ∃ p, inB c 0 9 = p := ⟨_, rfl⟩
  obtain ⟨q, hq⟩ : ∃ q, inB s 1 1000 = q := ⟨_, rfl⟩
  obtain ⟨r, hr⟩ : ∃ r, clB 10 (claimOf l g c s) = r := ⟨_, rfl⟩
  have PP := Lib.hid hp
  have QQ := Lib.hid hq
  have RR := Lib.hid hr
  have C := Lib.hid (show coB l g c s = ((p && q) && r) from by unfold coB; rw [hp, hq, hr])
  clear hp hq hr
  have Z0 := Lib.hid (HBClaim.new w claim0 _ rfl)
  have B0 := Lib.hid (bel_al1 w (.cells #[.int .i64 0, .int .i64 0, .int .i64 0, .int .i64 0] 38))
  go_enter Try.func26, Try.ntmps26
  go_wp2_with fail
  refine (l1In_any _ _ _ _).mono ?_
  rintro e w1 ⟨rfl, hw⟩
  rw [PP.out]
  have Z1 := Lib.hid (show HBClaim w1 w.heap.size claim0 from hw ▸ Z0.out)
  have B1 := Lib.hid (show Below w.heap.size w w1 from hw ▸ B0.out)
  clear hw
  cases p
  · have hz := Z1.out
    obtain ⟨z0, z1, z2, z3⟩ := hz.cells
    have f0 := hz.free 0
    have f1 := hz.free 1
    have f2 := hz.free 2
    have f3 := hz.free 3
    have ZW := Lib.hid (hz.setAll claim0)
    clear hz
    go_wp2
    refine bodyPost_ret (resultsClaim2 rfl rfl rfl ZW.out) rfl ⟨ret_cb (co_no (by rw [C.out]; rfl)).symm (show _ = coB l g c s from by rw [C.out]; rfl), ?_⟩
    exact ((((B1.out).setCell (by simp) _).setCell (by simp) _).setCell (by simp) _).setCell (by simp) _
  go_wp2_with fail
  refine (l1In_any _ _ _ _).mono ?_
  rintro e w2 ⟨rfl, hw⟩
  rw [QQ.out]
  have Z2 := Lib.hid (show HBClaim w2 w.heap.size claim0 from hw ▸ Z1.out)
  have B2 := Lib.hid (show Below w.heap.size w w2 from hw ▸ B1.out)
  clear hw
  cases q
  · have hz := Z2.out
    obtain ⟨z0, z1, z2, z3⟩ := hz.cells
    have f0 := hz.free 0
    have f1 := hz.free 1
    have f2 := hz.free 2
    have f3 := hz.free 3
    have ZW := Lib.hid (hz.setAll claim0)
    clear hz
    go_wp2
    refine bodyPost_ret (resultsClaim2 rfl rfl rfl ZW.out) rfl ⟨ret_cb (co_no (by rw [C.out]; rfl)).symm (show _ = coB l g c s from by rw [C.out]; rfl), ?_⟩
    exact ((((B2.out).setCell (by simp) _).setCell (by simp) _).setCell (by simp) _).setCell (by simp) _
  have h1 := inB_iff.1 PP.out
  have h2 := inB_iff.1 QQ.out
  have bd := co_bd h1.1 h1.2 h2.1 h2.2
  have v1 : IntKind.i64.wrap (c - 1) = c - 1 := IntWalk.i64_in _ (by omega)
  have v2 : IntKind.i64.wrap ((c - 1) * s) = (c - 1) * s := IntWalk.i64_in _ (by omega)
  have v4 : IntKind.i64.wrap (c + 1) = c + 1 := IntWalk.i64_in _ (by omega)
  have v5 : IntKind.i64.wrap ((c + 1) * s) = (c + 1) * s := IntWalk.i64_in _ (by omega)
  obtain ⟨mo, hmo⟩ : ∃ mo, (c + 1) * s - 1 = mo := ⟨_, rfl⟩
  have v6 : IntKind.i64.wrap ((c + 1) * s - 1) = mo := by rw [← hmo]; exact IntWalk.i64_in _ (by omega)
  obtain ⟨le, hle⟩ : ∃ le, max 0 ((c - 1) * s + 1) = le := ⟨_, rfl⟩
  have CO := Lib.hid (show claimOf l g c s = ⟨l, g, le, mo⟩ from by unfold claimOf; rw [hmo, hle])
  have v3 : IntKind.i64.wrap ((c - 1) * s + 1) = (c - 1) * s + 1 := IntWalk.i64_in _ (by omega)
  have LE := Lib.hid hle
  clear h1 h2 bd hmo hle
  go_wp2_with fail
  refine (l1Most_any _ _ _).mono ?_
  rintro e w3 ⟨rfl, hw⟩
  rw [LE.out]
  have Z2 := Lib.hid (show HBClaim w3 w.heap.size claim0 from hw ▸ Z2.out)
  have B2 := Lib.hid (show Below w.heap.size w w3 from hw ▸ B2.out)
  clear hw
  have bb := bel_al1 w3 (.cells #[.int .i64 (VClaim.mk l g le mo).Low, .int .i64 (VClaim.mk l g le mo).High, .int .i64 (VClaim.mk l g le mo).Least, .int .i64 (VClaim.mk l g le mo).Most] 38)
  have X3 := Lib.hid (BoxClaim.new w3 38 ⟨l, g, le, mo⟩ _ rfl)
  have Z3 := Lib.hid (Z2.out.below bb)
  have B3 := Lib.hid (Below.then' B2.out bb)
  rw [CO.out] at RR
  obtain ⟨c0, c1, c2, c3⟩ := X3.out
  simp only [] at c0 c1 c2 c3
  clear bb
  go_wp2_with fail
  refine (l8One_any 10 ⟨l, g, le, mo⟩ _).mono ?_
  rintro e w4 ⟨rfl, hb⟩
  rw [RR.out]
  have Z4 := Lib.hid (Z3.out.below hb)
  have X4 := Lib.hid (X3.out.below hb)
  have B4 := Lib.hid (Below.then' B3.out hb)
  clear hb c0 c1 c2 c3
  have hz := Z4.out
  obtain ⟨z0, z1, z2, z3⟩ := hz.cells
  have f0 := hz.free 0
  have f1 := hz.free 1
  have f2 := hz.free 2
  have f3 := hz.free 3
  cases r
  · have ZW := Lib.hid (hz.setAll claim0)
    clear hz
    go_wp2
    refine bodyPost_ret (resultsClaim2 rfl rfl rfl ZW.out) rfl ⟨ret_cb (co_no (by rw [C.out]; rfl)).symm (show _ = coB l g c s from by rw [C.out]; rfl), ?_⟩
    exact ((((B4.out).setCell (by simp) _).setCell (by simp) _).setCell (by simp) _).setCell (by simp) _
  · have ZW := Lib.hid (hz.setAll ⟨l, g, le, mo⟩)
    obtain ⟨c0, c1, c2, c3⟩ := X4.out
    simp only [] at c0 c1 c2 c3
    clear hz
    go_wp2
    refine bodyPost_ret (resultsClaim2 rfl rfl rfl ZW.out) rfl ⟨ret_cb (((co_yes (by rw [C.out]; rfl)).trans CO.out).symm) (show _ = coB l g c s from by rw [C.out]; rfl), ?_⟩
    exact ((((B4.out).setCell (by simp) _).setCell (by simp) _).setCell (by simp) _).setCell (by simp) _
end Go.Proofs.Ytobpgoiaimlonaa
namespace Go.Proofs.Ytobpgoiaimlonaa
open Go.RowKit

/-- The list comes out, in the slice that was handed in or in a row of the call's own. -/
def ReadsPut (a : Option Addr) (len cap : Nat) (zs : List Int) (w : World) (e : Ending) (w' : World) : Prop := ∃ h : Hd, e = .returned (.slice h.a h.n h.c) ∧ IsInts w' h.a h.n h.c zs ∧ Below w.heap.size w w' ∧ ((h.a = a ∧ h.n = len ∧ h.c = cap) ∨ w'.ownsRow w.heap.size 3 1 (.slice h.a h.n h.c) zs.length (intCells zs))
set_option maxHeartbeats 25600000 in
set_option maxRecDepth 100000 in
theorem l1PutO_any (a : Option Addr) (len cap : Nat) (zs : List Int) (n : Int) (w : World) (h : IsInts w a len cap zs) (hx : zs.length ≤ 1000) :
    Calls Try.prog 87 #[.slice a len cap, .int .i64 n] w (ReadsPut a len cap (putN n zs) w) := by
  obtain ⟨i1, hi1, hy0, hy1, hy2⟩ := info_parts infoInt
  have hm := h.2.2.1
  have hcl := h.2.1
  unfold maxLen at hm
  have S := Lib.hid h
  have L := Lib.hid h.1
  have hl10 : len ≤ 1000 := by have := h.1; omega
  clear h
  go_enter Try.func87, Try.ntmps87
  go_wp2
  go_loop [5] (fun i => ∃ k : Nat, k ≤ len ∧ i = .int .i64 k ∧ ∀ (j : Nat) z, j < k → zs[j]? = some z → z < n) (fun i => len - (intOf i).toNat)
  case atStart => exact ⟨0, Nat.zero_le _, rfl, fun _ _ h => by omega⟩
  case round =>
    obtain ⟨k, hk, rfl, hall⟩ := hrel
    have A := Lib.hid hall
    clear hall
    have k0 : (0 : Int) ≤ (k : Int) := by omega
    have kl : (k : Int) ≤ (len : Int) := by omega
    have kc : k ≤ cap := by omega
    have kc2 : (k : Int) ≤ (cap : Int) := by omega
    by_cases hlt : k < len
    · obtain ⟨z, hz⟩ := el_at L hlt
      obtain ⟨b, o, rfl, hb, hat⟩ := S.out.at (by omega)
      have c0 := hat k z hz
      have AT := Lib.hid hat
      have Z := Lib.hid hz
      have hi1' : (k : Int) < (len : Int) := by omega
      clear hz hat
      by_cases hzn : z < n
      · go_wp2
        go_round
        case rel => exact ⟨k + 1, by omega, by go_num, fun j y hj hy => by
          by_cases e : j = k
          · subst e; rw [Z.out] at hy; cases hy; exact hzn
          · exact A.out j y (by omega) hy⟩
        case measure => simp [intOf]; omega
      · have PA := Lib.hid (putN_at A.out (fun y hy => by rw [Z.out] at hy; cases hy; exact hzn) (by have := L.out; omega) : putN n zs = if zs[k]? = some n then zs else zs.take k ++ n :: zs.drop k)
        by_cases hze : z = n
        · have E := Lib.hid (show putN n zs = zs from by rw [PA.out, Z.out, if_pos (by rw [hze])])
          have hb1 : (z == n) = true := by simpa using hze
          subst hze
          go_wp2
          go_ret
          exact ⟨⟨_, len, cap⟩, rfl, by rw [E.out]; exact S.out, Below.refl _ _, .inl ⟨rfl, rfl, rfl⟩⟩
        · have E := Lib.hid (show putN n zs = zs.take k ++ n :: zs.drop k from by rw [PA.out, Z.out, if_neg (fun e => hze (Option.some.inj e))])
          have hb1 : (z == n) = false := by simpa using hze
          have hcj : ¬ cap = k := by omega
          clear PA
          go_wp2_with fail
          refine wp_world (fun W => Below w.heap.size w W) (by first | exact Below.refl _ _ | exact bel_drawn _ _) ?_
          intro W hbw
          have BW := Lib.hid hbw
          have hW0 := hbw.size
          clear hbw c0
          have hj' : k ≤ len := hk
          go_region_law (first
            | (refine step_append_some (by rfl) (.tmp 33) (.tmp 36) 25 (by rfl) W.heap.size 3 i1 (.int .i64 0) 1 8 Try.underlying25 hi1 hy0 hy1 hy2 (by rfl) (by decide) _ (by simp [Act.eval]; rfl) _ _ 0 [] (by rfl) (by first | exact made_intsN W.drew W.heap.size (Nat.le_refl _) | exact (made_intsN W.drew W.heap.size (Nat.le_refl _)).alloc (.cells #[.int .i64 n] 3) | exact madeLaterN W (.cells #[.int .i64 n] 3)) _ (by simp [Act.eval]; rfl) _ k _ (intCells (zs.take k)) (by rfl) (by first | exact srcInts_takeN (S.out.below (belDAN BW.out _)) hj' | exact srcInts_takeN (S.out.below (belDAAN BW.out _ _)) hj') (one_intsN _) (by unfold maxLen; omega) (by omega) (by first | exact (belDAN (Below.refl W.heap.size W) _).size | exact (belDAAN (Below.refl W.heap.size W) _ _).size) ?_; intro g5 c5 w5 hown5 hgrow5 hn5 hc5 hg5 hl5; rw [Nat.zero_add, List.nil_append] at hown5; have O5 := Lib.hid hown5; have hs5 : W.heap.size ≤ w5.heap.size := by omega
               have B5 := Lib.hid (show Below w.heap.size w w5 from by first | exact (belDAN BW.out _).grown hgrow5 (belDAN BW.out _).size (fun j e => by cases e; omega) | exact (belDAAN BW.out _ _).grown hgrow5 (belDAAN BW.out _ _).size (fun j e => by cases e; omega))
               try have N5 := Lib.hid (lit_LN hgrow5)
               try have N5 := Lib.hid (lit_MN hgrow5)
               clear hown5 hgrow5)
            | (refine step_append_some (by rfl) (.tmp 37) (.tmp 39) 25 (by rfl) W.heap.size 3 i1 (.int .i64 0) 1 8 Try.underlying25 hi1 hy0 hy1 hy2 (by rfl) (by decide) _ (by simp [Act.eval]; rfl) g5 c5 k (intCells (zs.take k)) (by rfl) (by first | exact O5.out | exact O5.out.alloc _) _ (by simp [Act.eval]; rfl) _ 1 1 [.int .i64 n] (by rfl) (by first | exact src_oneN N5.out | exact src_oneN (cell_box w5 (.int .i64 n) 3 _ rfl)) (one_intN n) (by unfold maxLen; omega) (by omega) (by first | exact hs5 | exact Nat.le_trans hs5 (bel_al1 w5 _).size) ?_; intro g6 c6 w6 hown6 hgrow6 hn6 hc6 hg6 hl6; have O6 := Lib.hid hown6; have hs6 : W.heap.size ≤ w6.heap.size := by omega
               have B6 := Lib.hid (show Below w.heap.size w w6 from by first | exact B5.out.grown hgrow6 B5.out.size (fun j e => by cases e; omega) | exact (Below.then' B5.out (bel_al1 _ _)).grown hgrow6 (Below.then' B5.out (bel_al1 _ _)).size (fun j e => by cases e; omega))
               clear hown6 hgrow6)
            | (refine step_append_some (by rfl) (.tmp 40) (.tmp 43) 25 (by rfl) W.heap.size 3 i1 (.int .i64 0) 1 8 Try.underlying25 hi1 hy0 hy1 hy2 (by rfl) (by decide) _ (by simp [Act.eval]; rfl) g6 c6 (k + 1) (intCells (zs.take k) ++ [.int .i64 n]) (by rfl) O6.out _ (by simp [Act.eval]; rfl) _ (len - k) _ (intCells (zs.drop k)) (by rfl) (srcInts_dropN (S.out.below B6.out) hj') (one_intsN _) (by unfold maxLen; omega) (by omega) hs6 ?_; intro g7 c7 w7 hown7 hgrow7 hn7 hc7 hg7 hl7
               have O7 := Lib.hid hown7
               have B7 := Lib.hid (show Below w.heap.size w w7 from B6.out.grown hgrow7 B6.out.size (fun j e => by cases e; omega))
               clear hown7 hgrow7))
          all_goals go_wp2
          all_goals go_ret
          all_goals
            have h := O7.out
            have hln : k + 1 + (len - k) = (zs.take k ++ n :: zs.drop k).length := by have := L.out; rw [List.length_append, List.length_take, List.length_cons, List.length_drop]; omega
            rw [show intCells (zs.take k) ++ [Value.int .i64 n] ++ intCells (zs.drop k) = intCells (zs.take k ++ n :: zs.drop k) from by simp [intCells]] at h
            refine ⟨⟨_, _, _⟩, rfl, by rw [E.out]; exact ints_putN h hln, B7.out, .inr ?_⟩
            rw [E.out]
            exact hln ▸ ownsRow_base h hW0
    · obtain rfl : k = len := by omega
      have E := Lib.hid (show putN n zs = zs ++ [n] from by
        have hz : zs.length ≤ k := by have := L.out; omega
        have h := putN_at (zs := zs) (k := k) A.out (fun y hy => by rw [List.getElem?_eq_none hz] at hy; cases hy) (by have := L.out; omega)
        rw [h, if_neg (by rw [List.getElem?_eq_none hz]; simp), List.take_of_length_le hz, List.drop_of_length_le hz])
      have TK := Lib.hid (show zs.take k = zs from List.take_of_length_le (by have := L.out; omega))
      have hj' : k ≤ k := Nat.le_refl _
      go_wp2_with fail
      refine wp_world (fun W => Below w.heap.size w W) (by first | exact Below.refl _ _ | exact bel_drawn _ _) ?_
      intro W hbw
      have BW := Lib.hid hbw
      have hW0 := hbw.size
      clear hbw
      by_cases hcj : cap = k
      all_goals rcases a with _ | p
      all_goals
          go_region_law (first
            | (refine step_append_optN (by rfl) (.tmp 33) (.tmp 36) 25 (by rfl) W.heap.size 3 i1 (.int .i64 0) 1 8 Try.underlying25 hi1 hy0 hy1 hy2 (by rfl) (by decide) _ (by simp [Act.eval] <;> rfl) 0 [] (by first | exact made_intsN W.drew W.heap.size (Nat.le_refl _) | exact (made_intsN W.drew W.heap.size (Nat.le_refl _)).alloc (.cells #[.int .i64 n] 3) | exact madeLaterN W (.cells #[.int .i64 n] 3)) _ (by simp [Act.eval] <;> rfl) _ k _ (intCells (zs.take k)) (by rfl) (by first | exact srcInts_takeN (S.out.below (belDAN BW.out _)) hj' | exact srcInts_takeN (S.out.below (belDAAN BW.out _ _)) hj') (one_intsN _) (by unfold maxLen; omega) (by omega) (by first | exact (belDAN (Below.refl W.heap.size W) _).size | exact (belDAAN (Below.refl W.heap.size W) _ _).size) ?_; intro v5 w5 hown5 hgrow5; rw [Nat.zero_add, List.nil_append] at hown5; have O5 := Lib.hid hown5
               have B5W := Lib.hid (show Below W.heap.size W w5 from by first | exact (belDAN (Below.refl _ W) _).grown hgrow5 (belDAN (Below.refl _ W) _).size (fun j e => by have := own_is e; omega) | exact (belDAAN (Below.refl _ W) _ _).grown hgrow5 (belDAAN (Below.refl _ W) _ _).size (fun j e => by have := own_is e; omega))
               have hs5 : W.heap.size ≤ w5.heap.size := B5W.out.size
               have B5 := Lib.hid (Below.then' BW.out B5W.out)
               try have N5 := Lib.hid (lit_LN hgrow5)
               try have N5 := Lib.hid (lit_MN hgrow5)
               clear hown5 hgrow5)
            | (refine step_append_optN (by rfl) (.tmp 37) (.tmp 39) 25 (by rfl) W.heap.size 3 i1 (.int .i64 0) 1 8 Try.underlying25 hi1 hy0 hy1 hy2 (by rfl) (by decide) _ (by simp [Act.eval] <;> rfl) k (intCells (zs.take k)) (by first | exact O5.out | exact O5.out.alloc _) _ (by simp [Act.eval] <;> rfl) _ 1 1 [.int .i64 n] (by rfl) (by first | exact src_oneN N5.out | exact src_oneN (cell_box w5 (.int .i64 n) 3 _ rfl)) (one_intN n) (by unfold maxLen; omega) (by omega) (by first | exact hs5 | exact Nat.le_trans hs5 (bel_al1 w5 _).size) ?_; intro v6 w6 hown6 hgrow6; have O6 := Lib.hid hown6
               have B6 := Lib.hid (show Below w.heap.size w w6 from by first | exact B5.out.grown hgrow6 B5.out.size (fun j e => Nat.le_trans hW0 (O5.out.lt j e).1) | exact (Below.then' B5.out (bel_al1 _ _)).grown hgrow6 (Below.then' B5.out (bel_al1 _ _)).size (fun j e => Nat.le_trans hW0 (O5.out.lt j e).1))
               have hs6 : W.heap.size ≤ w6.heap.size := by first | exact (B5W.out.grown hgrow6 B5W.out.size (fun j e => (O5.out.lt j e).1)).size | exact ((Below.then' B5W.out (bel_al1 _ _)).grown hgrow6 (Below.then' B5W.out (bel_al1 _ _)).size (fun j e => (O5.out.lt j e).1)).size
               clear hown6 hgrow6)
            | (refine step_append_optN (by rfl) (.tmp 40) (.tmp 43) 25 (by rfl) W.heap.size 3 i1 (.int .i64 0) 1 8 Try.underlying25 hi1 hy0 hy1 hy2 (by rfl) (by decide) _ (by simp [Act.eval] <;> rfl) (k + 1) (intCells (zs.take k) ++ [.int .i64 n]) O6.out _ (by simp [Act.eval] <;> rfl) _ 0 _ [] (by rfl) ⟨rfl, .inl rfl⟩ (by simp) (by unfold maxLen; omega) (by omega) hs6 ?_; intro v7 w7 hown7 hgrow7
               have O7 := Lib.hid hown7
               have B7 := Lib.hid (show Below w.heap.size w w7 from B6.out.grown hgrow7 B6.out.size (fun j e => Nat.le_trans hW0 (O6.out.lt j e).1))
               clear hown7 hgrow7))
          all_goals go_wp2
          all_goals go_ret
          all_goals
            have h := O7.out
            rw [TK.out, show intCells zs ++ [Value.int .i64 n] ++ [] = intCells (zs ++ [n]) from by simp [intCells], show k + 1 + 0 = (zs ++ [n]).length from by have := L.out; rw [List.length_append, List.length_singleton]; omega] at h
            obtain ⟨a', c', e', h', _⟩ := isInts_own h
            rw [e']
            exact ⟨⟨a', (zs ++ [n]).length, c'⟩, rfl, by rw [E.out]; exact h', B7.out, .inr (by rw [E.out]; exact e' ▸ ownsRow_base h hW0)⟩
end Go.Proofs.Ytobpgoiaimlonaa
namespace Go.Proofs.Ytobpgoiaimlonaa
open Go.RowKit

set_option maxHeartbeats 3200000 in
set_option maxRecDepth 100000 in
theorem l1Has_any (a : Option Addr) (len cap : Nat) (xs : List Int) (x : Int) (w : World) (h : IsInts w a len cap xs) :
    Calls Try.prog 86 #[.slice a len cap, .int .i64 x] w fun e w' => e = .returned (.bool (hasB x xs)) ∧ w = w' := by
  obtain rfl := h.1
  have hm := h.2.2.1
  have hcl := h.2.1
  unfold maxLen at hm
  have S := Lib.hid h
  clear h
  go_enter Try.func86, Try.ntmps86
  go_wp2
  go_loop [5] (fun i => ∃ k : Nat, k ≤ xs.length ∧ i = .int .i64 k ∧ ∀ j y, j < k → xs[j]? = some y → ¬ y = x) (fun i => xs.length - (intOf i).toNat)
  case atStart => exact ⟨0, Nat.zero_le _, rfl, fun _ _ h => by omega⟩
  case round =>
    obtain ⟨k, hk, rfl, hno⟩ := hrel
    have NO := Lib.hid hno
    clear hno
    by_cases hlt : k < xs.length
    · obtain ⟨s, hs⟩ : ∃ s, xs[k]? = some s := ⟨xs[k]'hlt, List.getElem?_eq_getElem _⟩
      obtain ⟨b, o, rfl, hb, hat⟩ := S.out.at (by omega)
      have c0 := hat k s hs
      have hi0 : (0 : Int) ≤ (k : Int) := by omega
      have hi1 : (k : Int) < (xs.length : Int) := by omega
      have HS := Lib.hid hs
      clear hs hat
      by_cases he : s = x
      · have Y := Lib.hid (show hasB x xs = true from hasB_iff.2 (he ▸ List.mem_of_getElem? HS.out))
        have hb1 : (s == x) = true := by simpa using he
        subst he
        go_wp2
        go_ret
        exact ⟨ret_bool Y.out.symm, rfl⟩
      · have hb1 : (s == x) = false := by simpa using he
        have HE := Lib.hid he
        clear he
        go_wp2
        go_round
        case rel => exact ⟨k + 1, by omega, by go_num, fun j y hj hy => by
          by_cases e : j = k
          · subst e; rw [HS.out] at hy; cases hy; exact HE.out
          · exact NO.out j y (by omega) hy⟩
        case measure => simp [intOf]; omega
    · obtain rfl : k = xs.length := by omega
      have Y := Lib.hid (show hasB x xs = false from by
        rw [← Bool.not_eq_true, hasB_iff]
        intro h
        obtain ⟨j, hj⟩ := List.getElem?_of_mem h
        exact NO.out j x (List.getElem?_eq_some_iff.1 hj).1 hj rfl)
      go_wp2
      go_ret
      exact ⟨ret_bool Y.out.symm, rfl⟩
end Go.Proofs.Ytobpgoiaimlonaa
