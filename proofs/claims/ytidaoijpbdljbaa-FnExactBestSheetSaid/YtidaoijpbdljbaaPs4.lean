/- BestSheet, in the program and in the model. -/
import Derived.Test.YtidaoijpbdljbaaPs3
import Derived.Test.YtidaoijpbdljbaaSheetAt
namespace Go.Proofs.Ytidaoijpbdljbaa
open Go.RowKit

set_option maxHeartbeats 6400000 in
set_option maxRecDepth 100000 in
/-- The first of some sheets that no other one compares less than. -/
theorem minFunc_any (K : FuncId) (caps : Array Value) (cf : Sh → Sh → Int) (a : Option Addr) (len cap : Nat) (ys : List Sh) (w : World) (h : IsSheetS w a len cap ys) (h0 : 0 < len)
    (hcall : ∀ args W, (callFunc K args).run Try.prog W = .ok (.enter K args) W)
    (hf : ∀ W x m, Calls Try.prog K (#[.agg #[.int .i64 x.id, .int .i64 x.row, .int .i64 x.col, .int .i64 x.scale, .int .i64 x.year], .agg #[.int .i64 m.id, .int .i64 m.row, .int .i64 m.col, .int .i64 m.scale, .int .i64 m.year]] ++ caps) W fun e w' => e = .returned (.int .i64 (cf x m)) ∧ Below W.heap.size W w') :
    Calls Try.prog 81 #[.slice a len cap, .func (.func K) #[] caps] w fun e w' => (∃ s, s = pickL (fun x m => decide (cf x m < 0)) ys ∧ e = .returned (.agg #[.int .i64 s.id, .int .i64 s.row, .int .i64 s.col, .int .i64 s.scale, .int .i64 s.year])) ∧ Below w.heap.size w w' := by
  have hm := h.2.2.1
  have hcl := h.2.1
  unfold maxLen at hm
  have S := Lib.hid h
  have L := Lib.hid h.1
  have F := Lib.hid hf
  obtain ⟨b, o, rfl, hb0, hat0⟩ := h.at h0
  obtain ⟨s0, hs0⟩ := list_at L h0
  have AT := Lib.hid (hat0 0 s0 hs0)
  have X0 := Lib.hid hs0
  have Z0 := Lib.hid ((HBSh.new w sh0 _ rfl).alloc (.cells #[.int .i64 s0.id, .int .i64 s0.row, .int .i64 s0.col, .int .i64 s0.scale, .int .i64 s0.year] 35))
  have Z1 := Lib.hid (HBSh.new (w.alloc (.cells #[.int .i64 sh0.id, .int .i64 sh0.row, .int .i64 sh0.col, .int .i64 sh0.scale, .int .i64 sh0.year] 35)) s0 (w.heap.size + 1) (size_al _ _))
  have B0 := Lib.hid (bel_alloc2 w (.cells #[.int .i64 sh0.id, .int .i64 sh0.row, .int .i64 sh0.col, .int .i64 sh0.scale, .int .i64 sh0.year] 35) (.cells #[.int .i64 s0.id, .int .i64 s0.row, .int .i64 s0.col, .int .i64 s0.scale, .int .i64 s0.year] 35))
  have S1 := Lib.hid (h.below (bel_alloc1 w (.cells #[.int .i64 sh0.id, .int .i64 sh0.row, .int .i64 sh0.col, .int .i64 sh0.scale, .int .i64 sh0.year] 35)))
  obtain ⟨c0, c1, c2, c3, c4⟩ := (AT.out).below (bel_alloc1 w (.cells #[.int .i64 0, .int .i64 0, .int .i64 0, .int .i64 0, .int .i64 0] 35)) hb0
  have hl1 : ¬ (len : Int) < 1 := by omega
  have hl2 : (0 : Int) < (len : Int) := by omega
  simp only [Nat.zero_mul, Nat.add_zero] at c0 c1 c2 c3 c4
  obtain ⟨P, hP⟩ : ∃ P, (fun x m => decide (cf x m < 0)) = P := ⟨_, rfl⟩
  rw [hP]
  have HP := Lib.hid (show ∀ x m, decide (cf x m < 0) = P x m from fun x m => by rw [← hP])
  clear h hf hat0 hs0 hP
  go_enter Try.func81, Try.ntmps81
  go_wp2
  go_loopw [6] (fun i wr => ∃ k : Nat, 0 < k ∧ k ≤ len ∧ i = .int .i64 k ∧ HBSh wr w.heap.size sh0 ∧ HBSh wr (w.heap.size + 1) (pickL P (ys.take k)) ∧ Below w.heap.size w wr) (fun i _ => len - (intOf i).toNat)
  case atStart => exact ⟨1, by omega, by omega, rfl, Z0.out, by rw [take_sh (k := 0) X0.out]; exact Z1.out, B0.out⟩
  case round =>
    obtain ⟨k, hk0, hk, rfl, hz0, hz1, hbel⟩ := hrel
    have BR := Lib.hid hbel
    have H0 := Lib.hid hz0
    have H1 := Lib.hid hz1
    clear c0 c1 c2 c3 c4
    by_cases hlt : k < len
    · obtain ⟨x, hx⟩ := list_at L hlt
      obtain ⟨b', o', e', hb, hat⟩ := (S.out.below hbel).at (by omega)
      cases e'
      obtain ⟨c0, c1, c2, c3, c4⟩ := hat k x hx
      have AX := Lib.hid (hat k x hx)
      have hi0 : (0 : Int) ≤ (k : Int) := by omega
      have hi1 : (k : Int) < (len : Int) := by omega
      have PT := Lib.hid (pickL_take P hk0 hx)
      obtain ⟨m, hm⟩ : ∃ m, pickL P (ys.take k) = m := ⟨_, rfl⟩
      rw [hm] at H1 PT
      obtain ⟨d0, d1, d2, d3, d4⟩ := H1.out.cells
      have PX := Lib.hid (HP.out x m)
      obtain ⟨v, hv⟩ : ∃ v, cf x m = v := ⟨_, rfl⟩
      rw [hv] at PX
      have V := Lib.hid hv
      clear hbel hz0 hz1 hat hx hm hv
      go_wp2_with fail
      go_still_tail 6, (by kernel_rfl)
      change wpList _ _ _ _ _ wr.drew
      go_wp2_with fail
      refine (F.out wr.drew x m).mono ?_
      rintro e w1 ⟨rfl, hb1⟩
      rw [V.out]
      have B1 := Lib.hid (Below.then' (bel_drew' BR.out) hb1)
      have Y1 := H1.out.drew.below hb1
      have Y0 := Lib.hid (H0.out.drew.below hb1)
      have hbx : Below wr.heap.size wr w1 := Below.then' (bel_drew' (Below.refl _ _)) hb1
      have A1 := Lib.hid (AX.out.below hbx hb)
      have Y2 := Lib.hid Y1
      clear c0 c1 c2 c3 c4 d0 d1 d2 d3 d4 hb1 hbx
      by_cases hvn : v < 0
      · have PY := Lib.hid (show pickL P (ys.take (k + 1)) = x by rw [PT.out, ← PX.out, decide_eq_true hvn]; rfl)
        obtain ⟨c0, c1, c2, c3, c4⟩ := A1.out
        have e0 := Y1.free 0
        have e1 := Y1.free 1
        have e2 := Y1.free 2
        have e3 := Y1.free 3
        have e4 := Y1.free 4
        obtain ⟨f0, f1, f2, f3, f4⟩ := Y1.cells
        clear Y1
        go_wp2
        go_roundw
        case rel => exact ⟨k + 1, by omega, by omega, by go_num, Y0.out.otherAll (by omega) _ _ _ _ _, by rw [PY.out]; exact Y2.out.setAll x, ((((B1.out.setCell (by simp) _).setCell (by simp) _).setCell (by simp) _).setCell (by simp) _).setCell (by simp) _⟩
        case measure => simp [intOf]; omega
      · have PY := Lib.hid (show pickL P (ys.take (k + 1)) = m by rw [PT.out, ← PX.out, decide_eq_false hvn]; rfl)
        clear Y1
        go_wp2
        go_roundw
        case rel => exact ⟨k + 1, by omega, by omega, by go_num, Y0.out, by rw [PY.out]; exact Y2.out, B1.out⟩
        case measure => simp [intOf]; omega
    · obtain rfl : k = len := by omega
      have E : ys.take k = ys := List.take_of_length_le (by have := L.out; omega)
      rw [E] at H1
      obtain ⟨r, hr⟩ : ∃ r, pickL P ys = r := ⟨_, rfl⟩
      rw [hr] at H1
      have R := Lib.hid hr
      clear hbel hz0 hz1 E hr
      obtain ⟨d0, d1, d2, d3, d4⟩ := H1.out.cells
      have ZW := Lib.hid (H0.out.setAll r)
      obtain ⟨z0, z1, z2, z3, z4⟩ := H0.out.cells
      have f0 := H0.out.free 0
      have f1 := H0.out.free 1
      have f2 := H0.out.free 2
      have f3 := H0.out.free 3
      have f4 := H0.out.free 4
      go_wp2
      refine bodyPost_ret (resultsSh1 rfl rfl ZW.out) rfl ⟨⟨r, R.out.symm, rfl⟩, ?_⟩
      exact ((((BR.out.setCell (by simp) _).setCell (by simp) _).setCell (by simp) _).setCell (by simp) _).setCell (by simp) _

set_option maxHeartbeats 3200000 in
set_option maxRecDepth 100000 in
theorem implBestSheet_any (a : Option Addr) (len cap : Nat) (xs : List Sh) (x y : Int) (w : World) (h : IsSheetS w a len cap xs) :
    Calls Try.prog 50 #[.slice a len cap, .int .i64 x, .int .i64 y] w fun e w' => e = .returned (.tuple #[.int .i64 (BestSheet_0 xs x y), .bool (BestSheet_1 xs x y)]) ∧ Below w.heap.size w w' := by
  have S := Lib.hid h
  clear h
  obtain ⟨ys, hys⟩ : ∃ ys, shownXs xs x y = ys := ⟨_, rfl⟩
  obtain ⟨q, hq⟩ : ∃ q, shownOk xs x y = q := ⟨_, rfl⟩
  have NO := Lib.hid (show q = false → ys = [] by intro h; rw [← hys]; unfold shownXs; rw [hq, h]; rfl)
  have Y := Lib.hid hys
  have Q := Lib.hid hq
  have V1 := Lib.hid (show BestSheet_1 xs x y = decide (0 < ys.length) by unfold BestSheet_1; rw [hys])
  have V0 := Lib.hid (show BestSheet_0 xs x y = (bestOf xs x y).id from rfl)
  have BP := Lib.hid (show pickL (fun a b => decide (cmpSh a b < 0)) ys = bestOf xs x y by rw [← hys]; exact best_program xs x y)
  have BN := Lib.hid (show ys = [] → BestSheet_0 xs x y = 0 by intro h; unfold BestSheet_0 bestOf; rw [hys, h]; rfl)
  clear hys hq
  go_enter Try.func50, Try.ntmps50
  go_wp2_with fail
  refine (sheetsShowing_any _ _ _ xs x y _ S.out).mono ?_
  rintro e w1 ⟨v, rfl, hown, hb⟩
  rw [Y.out] at hown
  rw [Q.out]
  obtain ⟨a1, c1, rfl, hi1⟩ := isSheetS_own hown
  have B1 := Lib.hid hb
  have T := Lib.hid hi1
  clear hown hb hi1
  cases q
  · obtain rfl := NO.out rfl
    go_wp2
    go_ret2
    exact ⟨ret_ib (BN.out (by trivial)).symm V1.out.symm, B1.out⟩
  by_cases hn : ys.length = 0
  · obtain rfl : ys = [] := List.length_eq_zero_iff.1 hn
    have E := Lib.hid (BN.out (by trivial))
    go_wp2
    go_ret2
    exact ⟨ret_ib E.out.symm V1.out.symm, B1.out⟩
  · have hn0 : ¬ (ys.length : Int) = 0 := by omega
    have hn1 : 0 < ys.length := by omega
    have E := Lib.hid (show decide (0 < ys.length) = true from decide_eq_true hn1)
    go_wp2_with fail
    refine (minFunc_any 82 #[] cmpSh _ _ _ ys _ T.out hn1 (call_of Try.func82 (by kernel_rfl) (by kernel_rfl)) (fun W x m => bestCmp_any x m W)).mono ?_
    rintro e w2 ⟨⟨s, hs, rfl⟩, hb2⟩
    have SE := Lib.hid (show s = bestOf xs x y from hs.trans BP.out)
    have B2 := Lib.hid (Below.then' (Below.then' B1.out hb2) (bel_alloc1 w2 (.cells #[.int .i64 s.id, .int .i64 s.row, .int .i64 s.col, .int .i64 s.scale, .int .i64 s.year] 35)))
    obtain ⟨e0, e1, e2, e3, e4⟩ := boxAt_new w2 35 s _ rfl
    clear hs hb2 hn
    go_wp2
    go_ret2
    exact ⟨ret_ib (by rw [V0.out, SE.out]) (V1.out.trans E.out).symm, B2.out⟩
end Go.Proofs.Ytidaoijpbdljbaa
