/- Chains of turns, in the program and in the model. -/
import Derived.Test.YtghgipadogdfiaaPi4
import Derived.Test.YtghgipadogdfiaaTurnPlaceP
import Derived.Test.YtghgipadogdfiaaSameChainsP
import Derived.Test.YtghgipadogdfiaaStretchOfP
namespace Go.Proofs.Ytghgipadogdfiaa
open Go.RowKit

theorem goL_mid {xs : List VGridTurn} {x y : Int} (hx : ∀ t ∈ xs, t.ok = true) (hl : xs.length ≤ 4) (hp : placeB x y = true) (k : Nat) (hk : k ≤ xs.length) : (goL (xs.take k) ⟨x, y, 1⟩).mid := spotBd_mid (Nat.le_trans hk hl) (goL_bd hx (place_bd hp) k hk)
theorem goL_take {xs : List VGridTurn} {k : Nat} {t : VGridTurn} {s : VSpot} (h : xs[k]? = some t) : goL (xs.take (k + 1)) s = spotOn t (goL (xs.take k) s) := by
  rw [List.take_add_one, h]
  exact goL_snoc _ _ _
set_option maxHeartbeats 3200000 in
set_option maxRecDepth 100000 in
theorem afterChain_any (a : Option Addr) (len cap : Nat) (xs : List VGridTurn) (x y : Int) (w : World) (h : IsGridTurnS w a len cap xs) (hx : ∀ t ∈ xs, t.ok = true) (hl : xs.length ≤ 4) (hp : placeB x y = true) :
    Calls Try.prog 54 #[.slice a len cap, .int .i64 x, .int .i64 y] w (SpotPost (goL xs ⟨x, y, 1⟩) w) := by
  have hm := h.2.2.1
  have hcl := h.2.1
  unfold maxLen at hm
  have S := Lib.hid h
  have L := Lib.hid h.1
  have HX := Lib.hid hx
  have MID := Lib.hid (fun k hk => goL_mid hx hl hp k hk)
  have Z0 := Lib.hid ((HBSpot.new w spot0 _ rfl).alloc (.cells #[.int .i64 (⟨x, y, 1⟩ : VSpot).X, .int .i64 (⟨x, y, 1⟩ : VSpot).Y, .int .i64 (⟨x, y, 1⟩ : VSpot).Den] 28))
  have Z1 := Lib.hid (HBSpot.new (w.alloc (.cells #[.int .i64 spot0.X, .int .i64 spot0.Y, .int .i64 spot0.Den] 28)) ⟨x, y, 1⟩ (w.heap.size + 1) (size_al _ _))
  have B0 := Lib.hid (bel_al2 w (.cells #[.int .i64 spot0.X, .int .i64 spot0.Y, .int .i64 spot0.Den] 28) (.cells #[.int .i64 (⟨x, y, 1⟩ : VSpot).X, .int .i64 (⟨x, y, 1⟩ : VSpot).Y, .int .i64 (⟨x, y, 1⟩ : VSpot).Den] 28))
  clear h hx hp
  go_enter Try.func54, Try.ntmps54
  go_wp2
  go_loopw [9, 15] (fun _ i wr => ∃ k : Nat, k ≤ len ∧ i = .int .i64 k ∧ HBSpot wr w.heap.size spot0 ∧ HBSpot wr (w.heap.size + 1) (goL (xs.take k) ⟨x, y, 1⟩) ∧ Below w.heap.size w wr) (fun _ i _ => len - (intOf i).toNat)
  case atStart => exact ⟨0, Nat.zero_le _, rfl, Z0.out, Z1.out, B0.out⟩
  case round =>
    obtain ⟨k, hk, rfl, hz0, hz1, hb⟩ := hrel
    have BR := Lib.hid hb
    have H0 := Lib.hid hz0
    have H1 := Lib.hid hz1
    by_cases hlt : k < len
    · obtain ⟨t, ht⟩ := turn_at L hlt
      obtain ⟨b, o, rfl, hbl, hat⟩ := (S.out.below hb).at (by omega)
      obtain ⟨c0, c1, c2, c3, c4⟩ := hat k t ht
      have hi0 : (0 : Int) ≤ (k : Int) := by omega
      have hi1 : (k : Int) < (len : Int) := by omega
      have OK := Lib.hid (HX.out t (List.mem_of_getElem? ht))
      have GT := Lib.hid (goL_take (s := ⟨x, y, 1⟩) ht)
      obtain ⟨s, hs⟩ : ∃ s, goL (xs.take k) ⟨x, y, 1⟩ = s := ⟨_, rfl⟩
      have MS := Lib.hid (MID.out k (by have := L.out; omega))
      rw [hs] at H1 MS GT
      have X1 := Lib.hid (H1.out.below (bel_al1 wr (.cells #[.int .i64 t.Quarters, .int .i64 t.Num, .int .i64 t.Den, .int .i64 t.East, .int .i64 t.North] 40)))
      have X0 := Lib.hid (H0.out.below (bel_al1 wr (.cells #[.int .i64 t.Quarters, .int .i64 t.Num, .int .i64 t.Den, .int .i64 t.East, .int .i64 t.North] 40)))
      obtain ⟨d0, d1, d2⟩ := X1.out.cells
      clear hb hz0 hz1 hat ht hs
      go_wp2_with fail
      refine (afterTurn_any t s _ OK.out MS.out).mono ?_
      rintro e w1 ⟨rfl, hb⟩
      have B1 := Lib.hid (Below.then' (Below.then' BR.out (bel_al1 _ _)) hb)
      have Y1 := X1.out.below hb
      have Y0 := Lib.hid (X0.out.below hb)
      rw [← GT.out]
      obtain ⟨r, hr⟩ : ∃ r, goL (xs.take (k + 1)) ⟨x, y, 1⟩ = r := ⟨_, rfl⟩
      have R := Lib.hid hr
      rw [hr]
      have e0 := Y1.free 0
      have e1 := Y1.free 1
      have e2 := Y1.free 2
      have Y2 := Lib.hid (Y1.setAll r)
      obtain ⟨f0, f1, f2⟩ := Y1.cells
      clear hb hr Y1 d0 d1 d2 c0 c1 c2 c3 c4
      go_wp2
      go_roundw
      case rel => exact ⟨k + 1, by omega, by go_num, Y0.out.otherAll (by omega) _ _ _, by rw [R.out]; exact Y2.out, ((B1.out.setCell (by simp) _).setCell (by simp) _).setCell (by simp) _⟩
      case measure => simp [intOf]; omega
    · obtain rfl : k = len := by omega
      have E : xs.take k = xs := List.take_of_length_le (by have := L.out; omega)
      rw [E] at H1
      obtain ⟨s, hs⟩ : ∃ s, goL xs ⟨x, y, 1⟩ = s := ⟨_, rfl⟩
      rw [hs] at H1
      have HS := Lib.hid hs
      clear hb hz0 hz1 hs E
      obtain ⟨d0, d1, d2⟩ := H1.out.cells
      have ZW := Lib.hid (H0.out.setAll s)
      obtain ⟨z0, z1, z2⟩ := H0.out.cells
      have h0 := H0.out.free 0
      have h1 := H0.out.free 1
      have h2 := H0.out.free 2
      go_wp2
      refine bodyPost_ret (resultsSpot1 rfl rfl ZW.out) rfl ⟨by rw [HS.out], ?_⟩
      exact (((BR.out).setCell (by simp) _).setCell (by simp) _).setCell (by simp) _

set_option maxHeartbeats 3200000 in
set_option maxRecDepth 100000 in
theorem l4Go_any (a : Option Addr) (len cap : Nat) (xs : List VGridTurn) (x y : Int) (w : World) (h : IsGridTurnS w a len cap xs) (hx : ∀ t ∈ xs, t.ok = true) (hl : xs.length ≤ 4) (hp : placeB x y = true) :
    Calls Try.prog 57 #[.slice a len cap, .int .i64 x, .int .i64 y] w (SpotPost (goL xs ⟨x, y, 1⟩) w) := by
  have hm := h.2.2.1
  have hcl := h.2.1
  unfold maxLen at hm
  have S := Lib.hid h
  have L := Lib.hid h.1
  have HX := Lib.hid hx
  have MID := Lib.hid (fun k hk => goL_mid hx hl hp k hk)
  have Z0 := Lib.hid ((HBSpot.new w spot0 _ rfl).alloc (.cells #[.int .i64 (⟨x, y, 1⟩ : VSpot).X, .int .i64 (⟨x, y, 1⟩ : VSpot).Y, .int .i64 (⟨x, y, 1⟩ : VSpot).Den] 28))
  have Z1 := Lib.hid (HBSpot.new (w.alloc (.cells #[.int .i64 spot0.X, .int .i64 spot0.Y, .int .i64 spot0.Den] 28)) ⟨x, y, 1⟩ (w.heap.size + 1) (size_al _ _))
  have B0 := Lib.hid (bel_al2 w (.cells #[.int .i64 spot0.X, .int .i64 spot0.Y, .int .i64 spot0.Den] 28) (.cells #[.int .i64 (⟨x, y, 1⟩ : VSpot).X, .int .i64 (⟨x, y, 1⟩ : VSpot).Y, .int .i64 (⟨x, y, 1⟩ : VSpot).Den] 28))
  clear h hx hp
  go_enter Try.func57, Try.ntmps57
  go_wp2
  go_loopw [8] (fun i wr => ∃ k : Nat, k ≤ len ∧ i = .int .i64 k ∧ HBSpot wr w.heap.size spot0 ∧ HBSpot wr (w.heap.size + 1) (goL (xs.take k) ⟨x, y, 1⟩) ∧ Below w.heap.size w wr) (fun i _ => len - (intOf i).toNat)
  case atStart => exact ⟨0, Nat.zero_le _, rfl, Z0.out, Z1.out, B0.out⟩
  case round =>
    obtain ⟨k, hk, rfl, hz0, hz1, hb⟩ := hrel
    have BR := Lib.hid hb
    have H0 := Lib.hid hz0
    have H1 := Lib.hid hz1
    by_cases hlt : k < len
    · obtain ⟨t, ht⟩ := turn_at L hlt
      obtain ⟨b, o, rfl, hbl, hat⟩ := (S.out.below hb).at (by omega)
      obtain ⟨c0, c1, c2, c3, c4⟩ := hat k t ht
      have hi0 : (0 : Int) ≤ (k : Int) := by omega
      have hi1 : (k : Int) < (len : Int) := by omega
      have OK := Lib.hid (HX.out t (List.mem_of_getElem? ht))
      have GT := Lib.hid (goL_take (s := ⟨x, y, 1⟩) ht)
      obtain ⟨s, hs⟩ : ∃ s, goL (xs.take k) ⟨x, y, 1⟩ = s := ⟨_, rfl⟩
      have MS := Lib.hid (MID.out k (by have := L.out; omega))
      rw [hs] at H1 MS GT
      obtain ⟨d0, d1, d2⟩ := H1.out.cells
      clear hb hz0 hz1 hat ht hs
      go_wp2_with fail
      go_still_tail 5, (by kernel_rfl)
      change wpList _ _ _ _ _ wr.drew
      go_wp2_with fail
      refine (l4On_any t s _ OK.out MS.out).mono ?_
      rintro e w1 ⟨rfl, hb⟩
      have B1 := Lib.hid (Below.then' (bel_drew' BR.out) hb)
      have Y1 := H1.out.drew.below hb
      have Y0 := Lib.hid (H0.out.drew.below hb)
      rw [← GT.out]
      obtain ⟨r, hr⟩ : ∃ r, goL (xs.take (k + 1)) ⟨x, y, 1⟩ = r := ⟨_, rfl⟩
      have R := Lib.hid hr
      rw [hr]
      have e0 := Y1.free 0
      have e1 := Y1.free 1
      have e2 := Y1.free 2
      have Y2 := Lib.hid (Y1.setAll r)
      obtain ⟨f0, f1, f2⟩ := Y1.cells
      clear hb hr Y1 d0 d1 d2 c0 c1 c2 c3 c4
      go_wp2
      go_roundw
      case rel => exact ⟨k + 1, by omega, by go_num, Y0.out.otherAll (by omega) _ _ _, by rw [R.out]; exact Y2.out, ((B1.out.setCell (by simp) _).setCell (by simp) _).setCell (by simp) _⟩
      case measure => simp [intOf]; omega
    · obtain rfl : k = len := by omega
      have E : xs.take k = xs := List.take_of_length_le (by have := L.out; omega)
      rw [E] at H1
      obtain ⟨s, hs⟩ : ∃ s, goL xs ⟨x, y, 1⟩ = s := ⟨_, rfl⟩
      rw [hs] at H1
      have HS := Lib.hid hs
      clear hb hz0 hz1 hs E
      obtain ⟨d0, d1, d2⟩ := H1.out.cells
      have ZW := Lib.hid (H0.out.setAll s)
      obtain ⟨z0, z1, z2⟩ := H0.out.cells
      have h0 := H0.out.free 0
      have h1 := H0.out.free 1
      have h2 := H0.out.free 2
      go_wp2
      refine bodyPost_ret (resultsSpot1 rfl rfl ZW.out) rfl ⟨by rw [HS.out], ?_⟩
      exact (((BR.out).setCell (by simp) _).setCell (by simp) _).setCell (by simp) _

theorem zero_spot {w w1 : World} {b : Nat} (h : HBSpot w b spot0) (hb : Below w.heap.size w w1) : HBSpot w1 b spot0 := h.below hb
theorem ret_sb {s t : VSpot} {p q : Bool} (h : s = t) (k : p = q) : Ending.returned (.tuple #[.agg #[.int .i64 s.X, .int .i64 s.Y, .int .i64 s.Den], .bool p]) = .returned (.tuple #[.agg #[.int .i64 t.X, .int .i64 t.Y, .int .i64 t.Den], .bool q]) := by rw [h, k]
set_option maxHeartbeats 3200000 in
set_option maxRecDepth 100000 in
theorem implTurnPlace_any (a : Option Addr) (len cap : Nat) (xs : List VGridTurn) (x y : Int) (w : World) (h : IsGridTurnS w a len cap xs) (_ : xs.length ≤ 1048576) :
    Calls Try.prog 16 #[.slice a len cap, .int .i64 x, .int .i64 y] w (TurnPlace_Post xs x y w) := by
  have S := Lib.hid h
  clear h
  have Z := Lib.hid (HBSpot.new w spot0 _ rfl)
  have B0 := Lib.hid (bel_al1 w (.cells #[.int .i64 spot0.X, .int .i64 spot0.Y, .int .i64 spot0.Den] 28))
  obtain ⟨c, hc⟩ : ∃ c, chOk xs = c := ⟨_, rfl⟩
  obtain ⟨p, hp⟩ : ∃ p, placeB x y = p := ⟨_, rfl⟩
  have V1 := Lib.hid (show TurnPlace_1 xs x y = (c && p) by unfold TurnPlace_1; rw [hc, hp])
  have C := Lib.hid hc
  have P := Lib.hid hp
  clear hc hp
  go_enter Try.func16, Try.ntmps16
  go_wp2_with fail
  refine (isChain_any _ _ _ xs _ (S.out.below B0.out)).mono ?_
  rintro e w1 ⟨rfl, hb⟩
  rw [C.out]
  have B1 := Lib.hid (Below.then' B0.out hb)
  have Z1 := Z.out.below hb
  cases c
  · have V0 := Lib.hid (show TurnPlace_0 xs x y = spot0 by unfold TurnPlace_0; rw [V1.out]; rfl)
    obtain ⟨z0, z1, z2⟩ := Z1.cells
    have f0 := Z1.free 0
    have f1 := Z1.free 1
    have f2 := Z1.free 2
    have ZW := Lib.hid (Z1.setAll spot0)
    clear hb Z1
    go_wp2
    refine bodyPost_ret (resultsSpot2 rfl rfl rfl ZW.out) rfl ⟨ret_sb V0.out.symm V1.out.symm, ?_⟩
    exact (((B1.out).setCell (by simp) _).setCell (by simp) _).setCell (by simp) _
  have ZH := Lib.hid Z1
  clear hb Z1
  go_wp2_with fail
  refine (isPlace_any x y _).mono ?_
  rintro e w2 ⟨rfl, hb⟩
  rw [P.out]
  have B2 := Lib.hid (Below.then' B1.out hb)
  have Z2 := ZH.out.below hb
  cases p
  · have V0 := Lib.hid (show TurnPlace_0 xs x y = spot0 by unfold TurnPlace_0; rw [V1.out]; rfl)
    obtain ⟨z0, z1, z2⟩ := Z2.cells
    have f0 := Z2.free 0
    have f1 := Z2.free 1
    have f2 := Z2.free 2
    have ZW := Lib.hid (Z2.setAll spot0)
    clear hb Z2
    go_wp2
    refine bodyPost_ret (resultsSpot2 rfl rfl rfl ZW.out) rfl ⟨ret_sb V0.out.symm V1.out.symm, ?_⟩
    exact (((B2.out).setCell (by simp) _).setCell (by simp) _).setCell (by simp) _
  have V0 := Lib.hid (show TurnPlace_0 xs x y = goL xs ⟨x, y, 1⟩ by unfold TurnPlace_0; rw [V1.out]; rfl)
  have Y := Lib.hid Z2
  clear hb Z2
  go_wp2_with fail
  refine (afterChain_any _ _ _ xs x y _ (S.out.below B2.out) (chOk_iff.1 C.out).1 (chOk_iff.1 C.out).2 P.out).mono ?_
  rintro e w3 ⟨rfl, hb⟩
  rw [← V0.out]
  obtain ⟨r, hr⟩ : ∃ r, TurnPlace_0 xs x y = r := ⟨_, rfl⟩
  rw [hr]
  have B3 := Lib.hid (Below.then' B2.out hb)
  have Z3 := Y.out.below hb
  obtain ⟨z0, z1, z2⟩ := Z3.cells
  have f0 := Z3.free 0
  have f1 := Z3.free 1
  have f2 := Z3.free 2
  have ZW := Lib.hid (Z3.setAll r)
  have R := Lib.hid hr
  clear hb Z3 hr
  go_wp2
  refine bodyPost_ret (resultsSpot2 rfl rfl rfl ZW.out) rfl ⟨ret_sb R.out.symm V1.out.symm, ?_⟩
  exact (((B3.out).setCell (by simp) _).setCell (by simp) _).setCell (by simp) _
set_option maxHeartbeats 3200000 in
set_option maxRecDepth 100000 in
theorem specTurnPlace_any (a : Option Addr) (len cap : Nat) (xs : List VGridTurn) (x y : Int) (w : World) (h : IsGridTurnS w a len cap xs) (_ : xs.length ≤ 1048576) :
    Calls Try.prog 17 #[.slice a len cap, .int .i64 x, .int .i64 y] w (TurnPlace_Post xs x y w) := by
  have S := Lib.hid h
  clear h
  have Z := Lib.hid (HBSpot.new w spot0 _ rfl)
  have B0 := Lib.hid (bel_al1 w (.cells #[.int .i64 spot0.X, .int .i64 spot0.Y, .int .i64 spot0.Den] 28))
  obtain ⟨c, hc⟩ : ∃ c, chOk xs = c := ⟨_, rfl⟩
  obtain ⟨p, hp⟩ : ∃ p, placeB x y = p := ⟨_, rfl⟩
  have V1 := Lib.hid (show TurnPlace_1 xs x y = (c && p) by unfold TurnPlace_1; rw [hc, hp])
  have C := Lib.hid hc
  have P := Lib.hid hp
  clear hc hp
  go_enter Try.func17, Try.ntmps17
  go_wp2_with fail
  refine (l4Chain_any _ _ _ xs _ (S.out.below B0.out)).mono ?_
  rintro e w1 ⟨rfl, hb⟩
  rw [C.out]
  have B1 := Lib.hid (Below.then' B0.out hb)
  have Z1 := Z.out.below hb
  cases c
  · have V0 := Lib.hid (show TurnPlace_0 xs x y = spot0 by unfold TurnPlace_0; rw [V1.out]; rfl)
    obtain ⟨z0, z1, z2⟩ := Z1.cells
    have f0 := Z1.free 0
    have f1 := Z1.free 1
    have f2 := Z1.free 2
    have ZW := Lib.hid (Z1.setAll spot0)
    clear hb Z1
    go_wp2
    refine bodyPost_ret (resultsSpot2 rfl rfl rfl ZW.out) rfl ⟨ret_sb V0.out.symm V1.out.symm, ?_⟩
    exact (((B1.out).setCell (by simp) _).setCell (by simp) _).setCell (by simp) _
  have ZH := Lib.hid Z1
  clear hb Z1
  go_wp2_with fail
  refine (l4Place_any x y _).mono ?_
  rintro e w2 ⟨rfl, rfl⟩
  rw [P.out]
  have B2 := B1
  have Z2 := ZH.out
  cases p
  · have V0 := Lib.hid (show TurnPlace_0 xs x y = spot0 by unfold TurnPlace_0; rw [V1.out]; rfl)
    obtain ⟨z0, z1, z2⟩ := Z2.cells
    have f0 := Z2.free 0
    have f1 := Z2.free 1
    have f2 := Z2.free 2
    have ZW := Lib.hid (Z2.setAll spot0)
    clear Z2
    go_wp2
    refine bodyPost_ret (resultsSpot2 rfl rfl rfl ZW.out) rfl ⟨ret_sb V0.out.symm V1.out.symm, ?_⟩
    exact (((B2.out).setCell (by simp) _).setCell (by simp) _).setCell (by simp) _
  have V0 := Lib.hid (show TurnPlace_0 xs x y = goL xs ⟨x, y, 1⟩ by unfold TurnPlace_0; rw [V1.out]; rfl)
  have Y := Lib.hid Z2
  clear Z2
  go_wp2_with fail
  refine (l4Go_any _ _ _ xs x y _ (S.out.below B2.out) (chOk_iff.1 C.out).1 (chOk_iff.1 C.out).2 P.out).mono ?_
  rintro e w3 ⟨rfl, hb⟩
  rw [← V0.out]
  obtain ⟨r, hr⟩ : ∃ r, TurnPlace_0 xs x y = r := ⟨_, rfl⟩
  rw [hr]
  have B3 := Lib.hid (Below.then' B2.out hb)
  have Z3 := Y.out.below hb
  obtain ⟨z0, z1, z2⟩ := Z3.cells
  have f0 := Z3.free 0
  have f1 := Z3.free 1
  have f2 := Z3.free 2
  have ZW := Lib.hid (Z3.setAll r)
  have R := Lib.hid hr
  clear hb Z3 hr
  go_wp2
  refine bodyPost_ret (resultsSpot2 rfl rfl rfl ZW.out) rfl ⟨ret_sb R.out.symm V1.out.symm, ?_⟩
  exact (((B3.out).setCell (by simp) _).setCell (by simp) _).setCell (by simp) _
end Go.Proofs.Ytghgipadogdfiaa
