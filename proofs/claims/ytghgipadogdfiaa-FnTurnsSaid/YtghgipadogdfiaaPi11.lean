/- TurnBack in the model. -/
import Derived.Test.YtghgipadogdfiaaPi10
namespace Go.Proofs.Ytghgipadogdfiaa
open Go.RowKit

theorem backL_drop {xs : List VGridTurn} {k : Nat} {t : VGridTurn} {s : VSpot} (h : xs[k]? = some t) : backL (xs.drop k) s = spotBack t (backL (xs.drop (k + 1)) s) := by
  have hk : k < xs.length := (List.getElem?_eq_some_iff.1 h).1
  have e : xs[k] = t := (List.getElem?_eq_some_iff.1 h).2
  rw [List.drop_eq_getElem_cons hk, e]; rfl
theorem backL_mid {xs : List VGridTurn} {x y : Int} (hx : ∀ t ∈ xs, t.ok = true) (hl : xs.length ≤ 4) (hp : placeB x y = true) (k : Nat) : (backL (xs.drop k) ⟨x, y, 1⟩).mid :=
  spotBd_mid (i := (xs.drop k).length) (by rw [List.length_drop]; omega) (backL_bd (fun t ht => hx t (List.mem_of_mem_drop ht)) (place_bd hp))
set_option maxHeartbeats 3200000 in
set_option maxRecDepth 100000 in
theorem specTurnBack_any (a : Option Addr) (len cap : Nat) (xs : List VGridTurn) (x y : Int) (w : World) (h : IsGridTurnS w a len cap xs) (_ : xs.length ≤ 1048576) :
    Calls Try.prog 19 #[.slice a len cap, .int .i64 x, .int .i64 y] w (TurnBack_Post xs x y w) := by
  have hm := h.2.2.1
  have hcl := h.2.1
  unfold maxLen at hm
  have S := Lib.hid h
  have L := Lib.hid h.1
  clear h
  have Z := Lib.hid (HBSpot.new w spot0 _ rfl)
  have B0 := Lib.hid (bel_al1 w (.cells #[.int .i64 spot0.X, .int .i64 spot0.Y, .int .i64 spot0.Den] 28))
  obtain ⟨c, hc⟩ : ∃ c, chOk xs = c := ⟨_, rfl⟩
  obtain ⟨p, hp⟩ : ∃ p, placeB x y = p := ⟨_, rfl⟩
  have V1 := Lib.hid (show TurnBack_1 xs x y = (c && p) by unfold TurnBack_1; rw [hc, hp])
  have C := Lib.hid hc
  have P := Lib.hid hp
  clear hc hp
  go_enter Try.func19, Try.ntmps19
  go_wp2_with fail
  refine (l4Chain_any _ _ _ xs _ (S.out.below B0.out)).mono ?_
  rintro e w1 ⟨rfl, hb⟩
  rw [C.out]
  have B1 := Lib.hid (Below.then' B0.out hb)
  have Z1 := Z.out.below hb
  cases c
  · have V0 := Lib.hid (show TurnBack_0 xs x y = spot0 by unfold TurnBack_0; rw [V1.out]; rfl)
    obtain ⟨z0, z1, z2⟩ := Z1.cells
    have f0 := Z1.free 0
    have f1 := Z1.free 1
    have f2 := Z1.free 2
    have ZW := Lib.hid (Z1.setAll spot0)
    clear hb Z1
    go_wp2
    refine bodyPost_ret (resultsSpot2 rfl rfl rfl ZW.out) rfl ⟨ret_sb V0.out.symm V1.out.symm, ?_⟩
    exact (((B1.out).setCell (by simp) _).setCell (by simp) _).setCell (by simp) _
  have ZH := Lib.hid Z1
  clear hb Z1
  go_wp2_with fail
  refine (l4Place_any x y _).mono ?_
  rintro e w2 ⟨rfl, rfl⟩
  rw [P.out]
  have B2 := B1
  have Z2 := ZH.out
  cases p
  · have V0 := Lib.hid (show TurnBack_0 xs x y = spot0 by unfold TurnBack_0; rw [V1.out]; rfl)
    obtain ⟨z0, z1, z2⟩ := Z2.cells
    have f0 := Z2.free 0
    have f1 := Z2.free 1
    have f2 := Z2.free 2
    have ZW := Lib.hid (Z2.setAll spot0)
    clear Z2
    go_wp2
    refine bodyPost_ret (resultsSpot2 rfl rfl rfl ZW.out) rfl ⟨ret_sb V0.out.symm V1.out.symm, ?_⟩
    exact (((B2.out).setCell (by simp) _).setCell (by simp) _).setCell (by simp) _
  have V0 := Lib.hid (show TurnBack_0 xs x y = backL xs ⟨x, y, 1⟩ by unfold TurnBack_0; rw [V1.out]; rfl)
  have HX := Lib.hid (chOk_iff.1 C.out).1
  have L4 := Lib.hid (chOk_iff.1 C.out).2
  have MID := Lib.hid (backL_mid (chOk_iff.1 C.out).1 (chOk_iff.1 C.out).2 P.out)
  have v0 : IntKind.i64.wrap ((len : Int) - 1) = (len : Int) - 1 := IntWalk.i64_in _ (by omega)
  have Y0 := Lib.hid (Z2.below (bel_al1 _ (.cells #[.int .i64 (⟨x, y, 1⟩ : VSpot).X, .int .i64 (⟨x, y, 1⟩ : VSpot).Y, .int .i64 (⟨x, y, 1⟩ : VSpot).Den] 28)))
  have Y1 := Lib.hid (HBSpot.new w1 ⟨x, y, 1⟩ _ rfl)
  have B3 := Lib.hid (Below.then' B2.out (bel_al1 _ (.cells #[.int .i64 (⟨x, y, 1⟩ : VSpot).X, .int .i64 (⟨x, y, 1⟩ : VSpot).Y, .int .i64 (⟨x, y, 1⟩ : VSpot).Den] 28)))
  have hsw : w.heap.size < w1.heap.size := Z2.lt
  clear Z2
  go_wp2
  go_loopw [9] (fun i wr => ∃ k : Nat, k ≤ len ∧ i = .int .i64 ((k : Int) - 1) ∧ HBSpot wr w.heap.size spot0 ∧ HBSpot wr w1.heap.size (backL (xs.drop k) ⟨x, y, 1⟩) ∧ Below w.heap.size w wr) (fun i _ => (intOf i + 1).toNat)
  case atStart => exact ⟨len, Nat.le_refl _, rfl, Y0.out, by rw [List.drop_of_length_le (by have := L.out; omega)]; exact Y1.out, B3.out⟩
  case round =>
    obtain ⟨k, hk, rfl, hz0, hz1, hb⟩ := hrel
    have BR := Lib.hid hb
    have H0 := Lib.hid hz0
    have H1 := Lib.hid hz1
    clear v0
    by_cases hk0 : k = 0
    · subst hk0
      rw [List.drop_zero, ← V0.out] at H1
      obtain ⟨r, hr⟩ : ∃ r, TurnBack_0 xs x y = r := ⟨_, rfl⟩
      rw [hr] at H1
      have R := Lib.hid hr
      clear hb hz0 hz1 hr
      obtain ⟨d0, d1, d2⟩ := H1.out.cells
      have ZW := Lib.hid (H0.out.setAll r)
      obtain ⟨z0, z1, z2⟩ := H0.out.cells
      have h0 := H0.out.free 0
      have h1 := H0.out.free 1
      have h2 := H0.out.free 2
      go_wp2
      refine bodyPost_ret (resultsSpot2 rfl rfl rfl ZW.out) rfl ⟨ret_sb R.out.symm V1.out.symm, ?_⟩
      exact (((BR.out).setCell (by simp) _).setCell (by simp) _).setCell (by simp) _
    · obtain ⟨j, rfl⟩ : ∃ j, k = j + 1 := ⟨k - 1, by omega⟩
      have e1 : ((j + 1 : Nat) : Int) - 1 = (j : Int) := by omega
      rw [e1]
      have hjl : j < len := by omega
      obtain ⟨t, ht⟩ := turn_at L hjl
      obtain ⟨b, o, rfl, hbl, hat⟩ := (S.out.below hb).at (by omega)
      obtain ⟨c0, c1, c2, c3, c4⟩ := hat j t ht
      have hi0 : (0 : Int) ≤ (j : Int) := by omega
      have hi1 : (j : Int) < (len : Int) := by omega
      have OK := Lib.hid (HX.out t (List.mem_of_getElem? ht))
      have GT := Lib.hid (backL_drop (s := ⟨x, y, 1⟩) ht)
      have MS := Lib.hid (MID.out (j + 1))
      obtain ⟨s, hs⟩ : ∃ s, backL (xs.drop (j + 1)) ⟨x, y, 1⟩ = s := ⟨_, rfl⟩
      rw [hs] at H1 MS GT
      have v1 : IntKind.i64.wrap ((j : Int) - 1) = (j : Int) - 1 := IntWalk.i64_in _ (by omega)
      obtain ⟨d0, d1, d2⟩ := H1.out.cells
      clear hb hz0 hz1 hat ht hs
      go_wp2_with fail
      go_still_tail 5, (by kernel_rfl)
      change wpList _ _ _ _ _ wr.drew
      go_wp2_with fail
      refine (l4Back_any t s _ OK.out MS.out).mono ?_
      rintro e w3 ⟨rfl, hb⟩
      have B4 := Lib.hid (Below.then' (bel_drew' BR.out) hb)
      have Y2 := H1.out.drew.below hb
      have Y3 := Lib.hid (H0.out.drew.below hb)
      rw [← GT.out]
      obtain ⟨r, hr⟩ : ∃ r, backL (xs.drop j) ⟨x, y, 1⟩ = r := ⟨_, rfl⟩
      have R := Lib.hid hr
      rw [hr]
      have e0 := Y2.free 0
      have e1 := Y2.free 1
      have e2 := Y2.free 2
      have Y4 := Lib.hid (Y2.setAll r)
      obtain ⟨f0, f1, f2⟩ := Y2.cells
      clear hb hr Y2 d0 d1 d2 c0 c1 c2 c3 c4
      go_wp2
      go_roundw
      case rel => exact ⟨j, by omega, by first | rfl | go_num, Y3.out.otherAll (by omega) _ _ _, by rw [R.out]; exact Y4.out, ((B4.out.setCell (by simp; omega) _).setCell (by simp; omega) _).setCell (by simp; omega) _⟩
      case measure => first | (simp [intOf]; done) | (simp [intOf]; omega)
end Go.Proofs.Ytghgipadogdfiaa
