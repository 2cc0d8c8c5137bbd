/- SameChains, in the program and in the model. -/
import Derived.Test.YtghgipadogdfiaaPi5
namespace Go.Proofs.Ytghgipadogdfiaa
open Go.RowKit

theorem ret_bb {p q r s : Bool} (h : p = r) (k : q = s) : Ending.returned (.tuple #[.bool p, .bool q]) = .returned (.tuple #[.bool r, .bool s]) := by rw [h, k]
theorem spotB_self (p : VSpot) : spotB p p = true := spotB_iff.2 rfl
theorem spotB_no {p q : VSpot} (h : ¬ p = q) : spotB p q = false := by
  cases hb : spotB p q with
  | false => rfl
  | true => exact absurd (spotB_iff.1 hb) h
theorem spot_ext {p q : VSpot} (h : p.X = q.X) (k : p.Y = q.Y) (l : p.Den = q.Den) : p = q := by
  cases p; cases q; simp at h k l; subst h k l; rfl
theorem place00 : placeB 0 0 = true := by decide
theorem place10 : placeB 1 0 = true := by decide
set_option maxHeartbeats 3200000 in
set_option maxRecDepth 100000 in
theorem implSameChains_any (a : Option Addr) (len cap : Nat) (xs : List VGridTurn) (a' : Option Addr) (len' cap' : Nat) (ys : List VGridTurn) (w : World) (h : IsGridTurnS w a len cap xs) (_ : xs.length ≤ 1048576) (h' : IsGridTurnS w a' len' cap' ys) (_ : ys.length ≤ 1048576) :
    Calls Try.prog 21 #[.slice a len cap, .slice a' len' cap'] w (SameChains_Post xs ys w) := by
  have S := Lib.hid h
  have T := Lib.hid h'
  clear h h'
  obtain ⟨c, hc⟩ : ∃ c, chOk xs = c := ⟨_, rfl⟩
  obtain ⟨d, hd⟩ : ∃ c, chOk ys = c := ⟨_, rfl⟩
  have V1 := Lib.hid (show SameChains_1 xs ys = (c && d) by unfold SameChains_1; rw [hc, hd])
  have C := Lib.hid hc
  have D := Lib.hid hd
  clear hc hd
  go_enter Try.func21, Try.ntmps21
  go_wp2_with fail
  refine (isChain_any _ _ _ xs _ S.out).mono ?_
  rintro e w1 ⟨rfl, hb⟩
  rw [C.out]
  have B1 := Lib.hid hb
  clear hb
  cases c
  · have V0 := Lib.hid (show SameChains_0 xs ys = false by unfold SameChains_0; rw [V1.out]; rfl)
    go_wp2
    go_ret2
    exact ⟨ret_bb V0.out.symm V1.out.symm, B1.out⟩
  go_wp2_with fail
  refine (isChain_any _ _ _ ys _ (T.out.below B1.out)).mono ?_
  rintro e w2 ⟨rfl, hb⟩
  rw [D.out]
  have B2 := Lib.hid (Below.then' B1.out hb)
  clear hb
  cases d
  · have V0 := Lib.hid (show SameChains_0 xs ys = false by unfold SameChains_0; rw [V1.out]; rfl)
    go_wp2
    go_ret2
    exact ⟨ret_bb V0.out.symm V1.out.symm, B2.out⟩
  obtain ⟨p0, hp0⟩ : ∃ p, goL xs ⟨0, 0, 1⟩ = p := ⟨_, rfl⟩
  obtain ⟨q0, hq0⟩ : ∃ p, goL ys ⟨0, 0, 1⟩ = p := ⟨_, rfl⟩
  obtain ⟨p1, hp1⟩ : ∃ p, goL xs ⟨1, 0, 1⟩ = p := ⟨_, rfl⟩
  obtain ⟨q1, hq1⟩ : ∃ p, goL ys ⟨1, 0, 1⟩ = p := ⟨_, rfl⟩
  have V0 := Lib.hid (show SameChains_0 xs ys = (spotB p0 q0 && spotB p1 q1) by unfold SameChains_0; rw [V1.out, hp0, hq0, hp1, hq1]; rfl)
  have P0 := Lib.hid hp0
  have Q0 := Lib.hid hq0
  have P1 := Lib.hid hp1
  have Q1 := Lib.hid hq1
  clear hp0 hq0 hp1 hq1
  go_wp2_with fail
  refine (afterChain_any _ _ _ xs 0 0 _ (S.out.below B2.out) (chOk_iff.1 C.out).1 (chOk_iff.1 C.out).2 place00).mono ?_
  rintro e w3 ⟨rfl, hb⟩
  rw [P0.out]
  have B3 := Lib.hid (Below.then' B2.out hb)
  clear hb
  go_wp2_with fail
  refine (afterChain_any _ _ _ ys 0 0 _ (T.out.below B3.out) (chOk_iff.1 D.out).1 (chOk_iff.1 D.out).2 place00).mono ?_
  rintro e w4 ⟨rfl, hb⟩
  rw [Q0.out]
  have B4 := Lib.hid (Below.then' B3.out hb)
  clear hb
  by_cases hE : p0 = q0
  · subst hE
    have V2 := Lib.hid (show SameChains_0 xs ys = spotB p1 q1 by rw [V0.out, spotB_self]; rfl)
    clear V0
    go_wp2_with fail
    refine (afterChain_any _ _ _ xs 1 0 _ (S.out.below B4.out) (chOk_iff.1 C.out).1 (chOk_iff.1 C.out).2 place10).mono ?_
    rintro e w5 ⟨rfl, hb⟩
    rw [P1.out]
    have B5 := Lib.hid (Below.then' B4.out hb)
    clear hb
    go_wp2_with fail
    refine (afterChain_any _ _ _ ys 1 0 _ (T.out.below B5.out) (chOk_iff.1 D.out).1 (chOk_iff.1 D.out).2 place10).mono ?_
    rintro e w6 ⟨rfl, hb⟩
    rw [Q1.out]
    have B6 := Lib.hid (Below.then' B5.out hb)
    clear hb
    by_cases hF : p1 = q1
    · subst hF
      have V3 := Lib.hid (V2.out.trans (spotB_self p1))
      go_wp2
      go_ret2
      exact ⟨ret_bb V3.out.symm V1.out.symm, B6.out⟩
    · have V3 := Lib.hid (V2.out.trans (spotB_no hF))
      go_wp2
      all_goals first
        | exact absurd (spot_ext ‹_› ‹_› ‹_›) hF
        | (go_ret2; exact ⟨ret_bb V3.out.symm V1.out.symm, B6.out⟩)
  · have V3 := Lib.hid (show SameChains_0 xs ys = false by rw [V0.out, spotB_no hE]; rfl)
    clear V0
    go_wp2_with fail
    all_goals first
      | exact absurd (spot_ext ‹_› ‹_› ‹_›) hE
      | (go_ret2; exact ⟨ret_bb V3.out.symm V1.out.symm, B4.out⟩)
set_option maxHeartbeats 3200000 in
set_option maxRecDepth 100000 in
theorem specSameChains_any (a : Option Addr) (len cap : Nat) (xs : List VGridTurn) (a' : Option Addr) (len' cap' : Nat) (ys : List VGridTurn) (w : World) (h : IsGridTurnS w a len cap xs) (_ : xs.length ≤ 1048576) (h' : IsGridTurnS w a' len' cap' ys) (_ : ys.length ≤ 1048576) :
    Calls Try.prog 22 #[.slice a len cap, .slice a' len' cap'] w (SameChains_Post xs ys w) := by
  have S := Lib.hid h
  have T := Lib.hid h'
  clear h h'
  obtain ⟨c, hc⟩ : ∃ c, chOk xs = c := ⟨_, rfl⟩
  obtain ⟨d, hd⟩ : ∃ c, chOk ys = c := ⟨_, rfl⟩
  have V1 := Lib.hid (show SameChains_1 xs ys = (c && d) by unfold SameChains_1; rw [hc, hd])
  have C := Lib.hid hc
  have D := Lib.hid hd
  clear hc hd
  go_enter Try.func22, Try.ntmps22
  go_wp2_with fail
  refine (l4Chain_any _ _ _ xs _ S.out).mono ?_
  rintro e w1 ⟨rfl, hb⟩
  rw [C.out]
  have B1 := Lib.hid hb
  clear hb
  cases c
  · have V0 := Lib.hid (show SameChains_0 xs ys = false by unfold SameChains_0; rw [V1.out]; rfl)
    go_wp2
    go_ret2
    exact ⟨ret_bb V0.out.symm V1.out.symm, B1.out⟩
  go_wp2_with fail
  refine (l4Chain_any _ _ _ ys _ (T.out.below B1.out)).mono ?_
  rintro e w2 ⟨rfl, hb⟩
  rw [D.out]
  have B2 := Lib.hid (Below.then' B1.out hb)
  clear hb
  cases d
  · have V0 := Lib.hid (show SameChains_0 xs ys = false by unfold SameChains_0; rw [V1.out]; rfl)
    go_wp2
    go_ret2
    exact ⟨ret_bb V0.out.symm V1.out.symm, B2.out⟩
  obtain ⟨p0, hp0⟩ : ∃ p, goL xs ⟨0, 0, 1⟩ = p := ⟨_, rfl⟩
  obtain ⟨q0, hq0⟩ : ∃ p, goL ys ⟨0, 0, 1⟩ = p := ⟨_, rfl⟩
  obtain ⟨p1, hp1⟩ : ∃ p, goL xs ⟨1, 0, 1⟩ = p := ⟨_, rfl⟩
  obtain ⟨q1, hq1⟩ : ∃ p, goL ys ⟨1, 0, 1⟩ = p := ⟨_, rfl⟩
  have V0 := Lib.hid (show SameChains_0 xs ys = (spotB p0 q0 && spotB p1 q1) by unfold SameChains_0; rw [V1.out, hp0, hq0, hp1, hq1]; rfl)
  have P0 := Lib.hid hp0
  have Q0 := Lib.hid hq0
  have P1 := Lib.hid hp1
  have Q1 := Lib.hid hq1
  clear hp0 hq0 hp1 hq1
  go_wp2_with fail
  refine (l4Go_any _ _ _ xs 0 0 _ (S.out.below B2.out) (chOk_iff.1 C.out).1 (chOk_iff.1 C.out).2 place00).mono ?_
  rintro e w3 ⟨rfl, hb⟩
  rw [P0.out]
  have B3 := Lib.hid (Below.then' B2.out hb)
  clear hb
  go_wp2_with fail
  refine (l4Go_any _ _ _ ys 0 0 _ (T.out.below B3.out) (chOk_iff.1 D.out).1 (chOk_iff.1 D.out).2 place00).mono ?_
  rintro e w4 ⟨rfl, hb⟩
  rw [Q0.out]
  have B4 := Lib.hid (Below.then' B3.out hb)
  clear hb
  by_cases hE : p0 = q0
  · subst hE
    have V2 := Lib.hid (show SameChains_0 xs ys = spotB p1 q1 by rw [V0.out, spotB_self]; rfl)
    clear V0
    go_wp2_with fail
    refine (l4Go_any _ _ _ xs 1 0 _ (S.out.below B4.out) (chOk_iff.1 C.out).1 (chOk_iff.1 C.out).2 place10).mono ?_
    rintro e w5 ⟨rfl, hb⟩
    rw [P1.out]
    have B5 := Lib.hid (Below.then' B4.out hb)
    clear hb
    go_wp2_with fail
    refine (l4Go_any _ _ _ ys 1 0 _ (T.out.below B5.out) (chOk_iff.1 D.out).1 (chOk_iff.1 D.out).2 place10).mono ?_
    rintro e w6 ⟨rfl, hb⟩
    rw [Q1.out]
    have B6 := Lib.hid (Below.then' B5.out hb)
    clear hb
    by_cases hF : p1 = q1
    · subst hF
      have V3 := Lib.hid (V2.out.trans (spotB_self p1))
      go_wp2
      go_ret2
      exact ⟨ret_bb V3.out.symm V1.out.symm, B6.out⟩
    · have V3 := Lib.hid (V2.out.trans (spotB_no hF))
      go_wp2
      all_goals first
        | exact absurd (spot_ext ‹_› ‹_› ‹_›) hF
        | (go_ret2; exact ⟨ret_bb V3.out.symm V1.out.symm, B6.out⟩)
  · have V3 := Lib.hid (show SameChains_0 xs ys = false by rw [V0.out, spotB_no hE]; rfl)
    clear V0
    go_wp2_with fail
    all_goals first
      | exact absurd (spot_ext ‹_› ‹_› ‹_›) hE
      | (go_ret2; exact ⟨ret_bb V3.out.symm V1.out.symm, B4.out⟩)
end Go.Proofs.Ytghgipadogdfiaa
