/- Roads in the model: l10Good, IsRoadLine. -/
import Derived.Test.YtpnaciamnigbnaaRo
import Derived.Test.YtpnaciamnigbnaaWh
import Derived.Test.YtpnaciamnigbnaaIsRoadLineP
import Derived.BigQuiet
import Derived.Deep.QuietTactic
namespace Go.Proofs.Ytpnaciamnigbnaa
open Go.RowKit

theorem ret_boolM {p q : Bool} (h : p = q) : Ending.returned (.bool p) = .returned (.bool q) := by rw [h]
set_option maxHeartbeats 6400000 in
set_option maxRecDepth 100000 in
theorem l10Good_any (a : Option Addr) (len cap : Nat) (xs : List VCorner) (w : World) (h : IsCornerS w a len cap xs) :
    Calls Try.prog 110 #[.slice a len cap] w fun e w' => e = .returned (.bool (roadB xs)) ∧ Below w.heap.size w w' := by
  have hm := h.2.2.1
  have hcl := h.2.1
  unfold maxLen at hm
  obtain rfl := h.1
  have S := Lib.hid h
  clear h
  go_enter Try.func110, Try.ntmps110
  go_wp2
  go_loopw [3] (fun i wr => ∃ k : Nat, k ≤ xs.length ∧ i = .int .i64 k ∧ goodTo xs k = true ∧ Below w.heap.size w wr) (fun i _ => xs.length - (intOf i).toNat)
  case atStart => exact ⟨0, Nat.zero_le _, rfl, rfl, Below.refl _ _⟩
  case round =>
    obtain ⟨k, hk, rfl, hall, hbel⟩ := hrel
    have H := Lib.hid hall
    have B := Lib.hid hbel
    clear hall
    by_cases hlt : k < xs.length
    · obtain ⟨s, hs⟩ : ∃ s, xs[k]? = some s := ⟨xs[k]'hlt, List.getElem?_eq_getElem _⟩
      obtain ⟨b, o, rfl, hb, hat⟩ := (S.out.below hbel).at (by omega)
      obtain ⟨c0, c1⟩ := hat k s hs
      have HS := Lib.hid (ptC_at hs)
      have i0 : (0 : Int) ≤ (k : Int) := by omega
      have i1 : (k : Int) < (xs.length : Int) := by omega
      have GS := Lib.hid (goodTo_succ xs k)
      have k0 := cell_regrown c0
      have k1 := cell_regrown c1
      clear c0 c1 hs
      obtain ⟨qx, hx⟩ : ∃ q, inB s.X 0 9999 = q := ⟨_, rfl⟩
      obtain ⟨qy, hy⟩ : ∃ q, inB s.Y 0 9999 = q := ⟨_, rfl⟩
      have cX := below_at (W := wr) (fun W' _ => same_below (hx ▸ l1In_any s.X 0 9999 W'))
      have cY := below_at (W := wr) (fun W' _ => same_below (hy ▸ l1In_any s.Y 0 9999 W'))
      have Q := Lib.hid (show okC s = (qx && qy) from by unfold okC; rw [hx, hy])
      clear hx hy hbel
      cases qx
      · have GK := Lib.hid (show goodC xs k = false from by unfold goodC; rw [HS.out, Q.out]; rfl)
        have F := Lib.hid (show roadB xs = false from by unfold roadB; rw [goodTo_no hlt GK.out]; simp)
        clear hat
        go_wp2
        refine wp_region_quiet_below (by kernel_rfl) (by kernel_rfl) ?_
        repeat (first | go_big_quiet_step (first | (with_reducible exact cX _ _) | (with_reducible exact cY _ _)) | quiet_step (first | (with_reducible exact cX _ _) | (with_reducible exact cY _ _)))
        refine wpQuiet_nil ?_
        intro W2 hw2
        have B2 := Lib.hid (Below.then' B.out (below_of_re hw2))
        clear hw2 cX cY k0 k1
        go_wp2
        go_ret
        exact ⟨ret_boolM (by rw [F.out]), B2.out⟩
      cases qy
      · have GK := Lib.hid (show goodC xs k = false from by unfold goodC; rw [HS.out, Q.out]; rfl)
        have F := Lib.hid (show roadB xs = false from by unfold roadB; rw [goodTo_no hlt GK.out]; simp)
        clear hat
        go_wp2
        refine wp_region_quiet_below (by kernel_rfl) (by kernel_rfl) ?_
        repeat (first | go_big_quiet_step (first | (with_reducible exact cX _ _) | (with_reducible exact cY _ _)) | quiet_step (first | (with_reducible exact cX _ _) | (with_reducible exact cY _ _)))
        refine wpQuiet_nil ?_
        intro W2 hw2
        have B2 := Lib.hid (Below.then' B.out (below_of_re hw2))
        clear hw2 cX cY k0 k1
        go_wp2
        go_ret
        exact ⟨ret_boolM (by rw [F.out]), B2.out⟩
      by_cases h0 : k = 0
      · have GK := Lib.hid (show goodC xs k = true from by unfold goodC newC; rw [HS.out, Q.out, h0]; simp)
        have hd0 : decide (0 < k) = false := by simpa using h0
        have hn0 : ¬ 0 < k := by omega
        clear h0 hat
        go_wp2
        refine wp_region_quiet_below (by kernel_rfl) (by kernel_rfl) ?_
        repeat (first | go_big_quiet_step (first | (with_reducible exact cX _ _) | (with_reducible exact cY _ _)) | quiet_step (first | (with_reducible exact cX _ _) | (with_reducible exact cY _ _)))
        refine wpQuiet_nil ?_
        intro W2 hw2
        have B2 := Lib.hid (Below.then' B.out (below_of_re hw2))
        clear hw2 cX cY k0 k1
        go_wp2
        go_roundw
        case rel => exact ⟨k + 1, by omega, by go_num, by rw [GS.out, H.out, GK.out]; rfl, B2.out⟩
        case measure => simp [intOf]; omega
      · obtain ⟨j, rfl⟩ : ∃ j, k = j + 1 := ⟨k - 1, by omega⟩
        obtain ⟨p, hp⟩ : ∃ p, xs[j]? = some p := ⟨xs[j]'(by omega), List.getElem?_eq_getElem _⟩
        obtain ⟨p0, p1⟩ := hat j p hp
        have k2 := cell_regrown p0
        have k3 := cell_regrown p1
        obtain ⟨r, hr⟩ : ∃ r, eqvCorner p s = r := ⟨_, rfl⟩
        have heq : ∀ W : World, (binOp .eql 103 (.agg #[.int .i64 p.X, .int .i64 p.Y]) (.agg #[.int .i64 s.X, .int .i64 s.Y])).run Try.prog W = .ok (.bool r) W := fun W => by rw [← hr]; exact eqlCorner W p s
        have GK := Lib.hid (show goodC xs (j + 1) = !r from by unfold goodC newC; rw [HS.out, Q.out, show j + 1 - 1 = j from rfl, ptC_at hp, eqvCorner_comm, hr]; simp)
        have hd0 : decide (0 < j + 1) = true := by simp
        have v1 : IntKind.i64.wrap ((((j + 1 : Nat)) : Int) - 1) = (j : Int) := by rw [IntWalk.i64_in _ (by omega)]; omega
        have v2 : (((j + 1 : Nat)) : Int) - 1 = (j : Int) := by omega
        have v3 : IntKind.i64.wrap (j : Int) = (j : Int) := IntWalk.i64_in _ (by omega)
        have j0 : (0 : Int) ≤ (j : Int) := by omega
        have j1 : (j : Int) < (xs.length : Int) := by omega
        clear h0 hat hp hr p0 p1
        cases r
        · skip
          go_wp2
          refine wp_region_quiet_below (by kernel_rfl) (by kernel_rfl) ?_
          repeat (first | go_big_quiet_step (first | (with_reducible exact cX _ _) | (with_reducible exact cY _ _)) | quiet_step (first | (with_reducible exact cX _ _) | (with_reducible exact cY _ _)))
          refine wpQuiet_nil ?_
          intro W2 hw2
          have B2 := Lib.hid (Below.then' B.out (below_of_re hw2))
          clear hw2 cX cY k0 k1 k2 k3
          go_wp2
          go_roundw
          case rel => exact ⟨j + 1 + 1, by omega, by go_num, by rw [GS.out, H.out, GK.out]; rfl, B2.out⟩
          case measure => simp [intOf]; omega
        · have F := Lib.hid (show roadB xs = false from by unfold roadB; rw [goodTo_no hlt GK.out]; simp)
          go_wp2
          refine wp_region_quiet_below (by kernel_rfl) (by kernel_rfl) ?_
          repeat (first | go_big_quiet_step (first | (with_reducible exact cX _ _) | (with_reducible exact cY _ _)) | quiet_step (first | (with_reducible exact cX _ _) | (with_reducible exact cY _ _)))
          refine wpQuiet_nil ?_
          intro W2 hw2
          have B2 := Lib.hid (Below.then' B.out (below_of_re hw2))
          clear hw2 cX cY k0 k1 k2 k3
          go_wp2
          go_ret
          exact ⟨ret_boolM (by rw [F.out]), B2.out⟩
    · obtain rfl : k = xs.length := by omega
      have G := Lib.hid (show roadB xs = inB (xs.length : Int) 2 12 from by unfold roadB; rw [H.out]; simp)
      clear hbel
      go_wp2_with fail
      refine (l1In_any _ _ _ _).mono ?_
      rintro e w' ⟨rfl, rfl⟩
      go_wp2
      go_ret
      exact ⟨ret_boolM G.out.symm, B.out⟩
theorem specIsRoadLine_any (a : Option Addr) (len cap : Nat) (xs : List VCorner) (w : World) (h : IsCornerS w a len cap xs) (_ : condCorner xs) :
    Calls Try.prog 62 #[.slice a len cap] w (IsRoadLine_Post xs w) := by
  have S := Lib.hid h
  clear h
  go_enter Try.func62, Try.ntmps62
  go_wp2_with fail
  refine (l10Good_any _ _ _ xs _ S.out).mono ?_
  rintro e w' ⟨rfl, hb⟩
  have B := Lib.hid hb
  clear hb
  go_wp2
  go_ret
  exact ⟨rfl, B.out⟩
end Go.Proofs.Ytpnaciamnigbnaa
