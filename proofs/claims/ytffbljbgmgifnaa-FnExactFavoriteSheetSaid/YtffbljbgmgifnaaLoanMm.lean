/- The library's MinFunc, MaxFunc, Index and Contains at Loan. (made by genmm.py) -/
import Derived.Test.YtffbljbgmgifnaaLoanR
import Derived.Test.YtffbljbgmgifnaaLoanL
import Derived.Test.YtffbljbgmgifnaaSw
import Derived.Test.YtffbljbgmgifnaaPick
import Derived.Laws.StructEq
import Derived.StillTailTactics
namespace Go.Proofs.Ytffbljbgmgifnaa
open Go.RowKit
def zeroLoan : VLoan := ⟨0, 0, 0, 0, 0⟩
set_option maxHeartbeats 6400000 in
set_option maxRecDepth 100000 in
theorem maxFuncLoan_any (K : FuncId) (caps : Array Value) (cf : VLoan → VLoan → Int) (a : Option Addr) (len cap : Nat) (ys : List VLoan) (w : World) (h : IsLoanS w a len cap ys) (h0 : 0 < len)
    (hcall : ∀ args W, (callFunc K args).run Try.prog W = .ok (.enter K args) W)
    (hf : ∀ W x m, x ∈ ys → m ∈ ys → Below w.heap.size w W → Calls Try.prog K (#[.agg #[.int .i64 x.Sheet, .int .i64 x.Reader, .int .i64 x.Out, .int .i64 x.Due, .int .i64 x.Back], .agg #[.int .i64 m.Sheet, .int .i64 m.Reader, .int .i64 m.Out, .int .i64 m.Due, .int .i64 m.Back]] ++ caps) W fun e w' => e = .returned (.int .i64 (cf x m)) ∧ Below W.heap.size W w') :
    Calls Try.prog 116 #[.slice a len cap, .func (.func K) #[] caps] w fun e w' => (∃ s, s = pickB (fun x m => decide (0 < cf x m)) zeroLoan ys ∧ e = .returned (.agg #[.int .i64 s.Sheet, .int .i64 s.Reader, .int .i64 s.Out, .int .i64 s.Due, .int .i64 s.Back])) ∧ Below w.heap.size w w' := by
  have hm := h.2.2.1
  have hcl := h.2.1
  unfold maxLen at hm
  have S := Lib.hid h
  have L := Lib.hid h.1
  have F := Lib.hid hf
  obtain ⟨b, o, rfl, hb0, hat0⟩ := h.at h0
  obtain ⟨s0, hs0⟩ := list_atLoan L h0
  have AT := Lib.hid (hat0 0 s0 hs0)
  have X0 := Lib.hid hs0
  have Z0 := Lib.hid ((HBLoan.new w zeroLoan _ rfl).alloc (.cells #[.int .i64 s0.Sheet, .int .i64 s0.Reader, .int .i64 s0.Out, .int .i64 s0.Due, .int .i64 s0.Back] 101))
  have Z1 := Lib.hid (HBLoan.new (w.alloc (.cells #[.int .i64 zeroLoan.Sheet, .int .i64 zeroLoan.Reader, .int .i64 zeroLoan.Out, .int .i64 zeroLoan.Due, .int .i64 zeroLoan.Back] 101)) s0 (w.heap.size + 1) (size_al _ _))
  have B0 := Lib.hid (bel_al2 w (.cells #[.int .i64 zeroLoan.Sheet, .int .i64 zeroLoan.Reader, .int .i64 zeroLoan.Out, .int .i64 zeroLoan.Due, .int .i64 zeroLoan.Back] 101) (.cells #[.int .i64 s0.Sheet, .int .i64 s0.Reader, .int .i64 s0.Out, .int .i64 s0.Due, .int .i64 s0.Back] 101))
  obtain ⟨c0, c1, c2, c3, c4⟩ := (AT.out).below (bel_al1 w (.cells #[.int .i64 0, .int .i64 0, .int .i64 0, .int .i64 0, .int .i64 0] 101)) hb0
  have hl1 : ¬ (len : Int) < 1 := by omega
  have hl2 : (0 : Int) < (len : Int) := by omega
  simp only [Nat.zero_mul, Nat.add_zero] at c0 c1 c2 c3 c4
  obtain ⟨P, hP⟩ : ∃ P, (fun x m => decide (0 < cf x m)) = P := ⟨_, rfl⟩
  rw [hP]
  have HP := Lib.hid (show ∀ x m, decide (0 < cf x m) = P x m from fun x m => by rw [← hP])
  clear h hf hat0 hs0 hP
  go_enter Try.func116, Try.ntmps116
  go_wp2
  go_loopw [6] (fun i wr => ∃ k : Nat, 0 < k ∧ k ≤ len ∧ i = .int .i64 k ∧ HBLoan wr w.heap.size zeroLoan ∧ HBLoan wr (w.heap.size + 1) (pickB P zeroLoan (ys.take k)) ∧ Below w.heap.size w wr) (fun i _ => len - (intOf i).toNat)
  case atStart => exact ⟨1, by omega, by omega, rfl, Z0.out, by rw [take_one (k := 0) X0.out]; exact Z1.out, B0.out⟩
  case round =>
    obtain ⟨k, hk0, hk, rfl, hz0, hz1, hbel⟩ := hrel
    have BR := Lib.hid hbel
    have H0 := Lib.hid hz0
    have H1 := Lib.hid hz1
    clear c0 c1 c2 c3 c4
    by_cases hlt : k < len
    · obtain ⟨x, hx⟩ := list_atLoan L hlt
      obtain ⟨b', o', e', hb, hat⟩ := (S.out.below hbel).at (by omega)
      cases e'
      obtain ⟨c0, c1, c2, c3, c4⟩ := hat k x hx
      have AX := Lib.hid (hat k x hx)
      have hi0 : (0 : Int) ≤ (k : Int) := by omega
      have hi1 : (k : Int) < (len : Int) := by omega
      have PT := Lib.hid (pickB_take P zeroLoan hk0 hx)
      have MX := Lib.hid (List.mem_of_getElem? hx)
      have MM := Lib.hid (List.mem_of_mem_take (pickB_mem P zeroLoan (ys := ys) k hk0 (by have := L.out; omega)))
      obtain ⟨m, hm⟩ : ∃ m, pickB P zeroLoan (ys.take k) = m := ⟨_, rfl⟩
      rw [hm] at H1 PT MM
      obtain ⟨d0, d1, d2, d3, d4⟩ := H1.out.cells
      have PX := Lib.hid (HP.out x m)
      obtain ⟨v, hv⟩ : ∃ v, cf x m = v := ⟨_, rfl⟩
      rw [hv] at PX
      have VV := Lib.hid hv
      clear hbel hz0 hz1 hat hx hm hv
      go_wp2_with fail
      go_still_tail 6, (by kernel_rfl)
      change wpList _ _ _ _ _ wr.drew
      go_wp2_with fail
      refine (F.out wr.drew x m MX.out MM.out (bel_drew' BR.out)).mono ?_
      rintro e w1 ⟨rfl, hb1⟩
      rw [VV.out]
      have B1 := Lib.hid (Below.then' (bel_drew' BR.out) hb1)
      have Y1 := H1.out.drew.below hb1
      have Y0 := Lib.hid (H0.out.drew.below hb1)
      have hbx : Below wr.heap.size wr w1 := Below.then' (bel_drew' (Below.refl _ _)) hb1
      have A1 := Lib.hid (AX.out.below hbx hb)
      have Y2 := Lib.hid Y1
      clear c0 c1 c2 c3 c4 d0 d1 d2 d3 d4 hb1 hbx
      by_cases hvn : 0 < v
      · have PY := Lib.hid (show pickB P zeroLoan (ys.take (k + 1)) = x by rw [PT.out, ← PX.out, decide_eq_true hvn]; rfl)
        obtain ⟨c0, c1, c2, c3, c4⟩ := A1.out
        have e0 := Y1.free 0
        have e1 := Y1.free 1
        have e2 := Y1.free 2
        have e3 := Y1.free 3
        have e4 := Y1.free 4
        obtain ⟨f0, f1, f2, f3, f4⟩ := Y1.cells
        clear Y1
        go_wp2
        go_roundw
        case rel => exact ⟨k + 1, by omega, by omega, by go_num, Y0.out.otherAll (by omega) _ _ _ _ _, by rw [PY.out]; exact Y2.out.setAll x, (((((B1.out).setCell (by simp) _).setCell (by simp) _).setCell (by simp) _).setCell (by simp) _).setCell (by simp) _⟩
        case measure => simp [intOf]; omega
      · have PY := Lib.hid (show pickB P zeroLoan (ys.take (k + 1)) = m by rw [PT.out, ← PX.out, decide_eq_false hvn]; rfl)
        clear Y1
        go_wp2
        go_roundw
        case rel => exact ⟨k + 1, by omega, by omega, by go_num, Y0.out, by rw [PY.out]; exact Y2.out, B1.out⟩
        case measure => simp [intOf]; omega
    · obtain rfl : k = len := by omega
      have E : ys.take k = ys := List.take_of_length_le (by have := L.out; omega)
      rw [E] at H1
      obtain ⟨r, hr⟩ : ∃ r, pickB P zeroLoan ys = r := ⟨_, rfl⟩
      rw [hr] at H1
      have R := Lib.hid hr
      clear hbel hz0 hz1 E hr
      obtain ⟨d0, d1, d2, d3, d4⟩ := H1.out.cells
      have ZW := Lib.hid (H0.out.setAll r)
      obtain ⟨z0, z1, z2, z3, z4⟩ := H0.out.cells
      have f0 := H0.out.free 0
      have f1 := H0.out.free 1
      have f2 := H0.out.free 2
      have f3 := H0.out.free 3
      have f4 := H0.out.free 4
      go_wp2
      refine bodyPost_ret (resultsLoan1 rfl rfl ZW.out) rfl ⟨⟨r, R.out.symm, rfl⟩, ?_⟩
      exact (((((BR.out).setCell (by simp) _).setCell (by simp) _).setCell (by simp) _).setCell (by simp) _).setCell (by simp) _
end Go.Proofs.Ytffbljbgmgifnaa
