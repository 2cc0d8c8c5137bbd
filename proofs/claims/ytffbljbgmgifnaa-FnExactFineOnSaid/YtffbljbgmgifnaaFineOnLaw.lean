/- FnExactFineOn: for every argument the law returns true and leaves all as it was. No condition. (the walk made by genlaw.py) -/
import Derived.Test.YtffbljbgmgifnaaRows
import Derived.Test.YtffbljbgmgifnaaLoz4
import Derived.Test.YtffbljbgmgifnaaVars
import Derived.ProofKit
import Derived.OpenShut
import Derived.ShutString
import Derived.ChangeOld
import Derived.Carry
namespace Go.Proofs.Ytffbljbgmgifnaa.fnExactFineOn
open Go.ChangeShapes Go.WideShapes Go.ChangeAt Go.RowKit
open Go.ChangeMaps (open_string shut_string)
set_option linter.unusedVariables false

theorem row_lt {w : World} {base : Nat} {e : TypeId} {size n : Nat} {v : Value} {xs : List Value} (h : w.ownsRow base e size v n xs) {b : Nat} (hb : b < base) : some b ≠ v.ownBlock := fun e => by have := (h.lt b e.symm).1; omega
set_option maxHeartbeats 6400000 in
set_option maxRecDepth 100000 in
theorem walk (a0 : Option Addr) (len0 cap0 : Nat) (z0 : List VLoan) (z1 : Int) (z2 : Int) (w : World) (fa0 : IsLoanS w a0 len0 cap0 z0) (_ : (Lit.int .i64 z1).wf = true) (_ : (Lit.int .i64 z2).wf = true) :
    Calls Try.prog 11 #[.slice a0 len0 cap0, .int .i64 z1, .int .i64 z2] w fun e w' => e = .returned (.bool true) ∧ Below w.heap.size w w' := by
  have hl0 : len0 ≤ maxLen := Nat.le_trans fa0.2.1 fa0.2.2.1
  have S0 := Lib.hid fa0
  have L0 := Lib.hid fa0.1
  clear fa0
  go_enter Try.func11, Try.ntmps11
  go_wp2_with fail
  refine (szLoanS_any _ _ _ z0 _ _ (S0.out) (by omega) (by omega)).mono ?_
  rintro e w1 ⟨left0, rfl, hle0, hsz, hb⟩
  have B1 := Lib.hid hb
  have s1 := hb.size
  have HZ0 := Lib.hid hsz
  clear hsz hb
  by_cases hneg0 : left0 < 0
  · go_wp2
    go_ret
    exact ⟨rfl, B1.out⟩
  have hlen0 : len0 ≤ 1048576 := HZ0.out (by omega)
  have hz0 : z0.length ≤ 1048576 := by have := L0.out; omega
  have hle0' : 0 ≤ left0 := by omega
  obtain ⟨q0, hqq0⟩ : ∃ q, FineOn_0 z0 z1 z2 = q := ⟨_, rfl⟩
  have Q0 := Lib.hid hqq0
  clear hqq0
  obtain ⟨q1, hqq1⟩ : ∃ q, FineOn_1 z0 z1 z2 = q := ⟨_, rfl⟩
  have Q1 := Lib.hid hqq1
  clear hqq1
  go_wp2_with fail
  refine (toLoanS_any a0 len0 cap0 z0 _ (S0.out.below B1.out) hlen0).mono ?_
  rintro e w2 ⟨v, rfl, hown, hb⟩
  have B2 := Lib.hid (Below.then' B1.out hb)
  have s2 := hb.size
  have T0n1o_2 := Lib.hid hown
  obtain ⟨T0n1a, T0n1c, rfl, his, T0n1k⟩ := isLoanS_own hown
  have T0n1i_2 := Lib.hid his
  have T0n1kk := Lib.hid T0n1k
  clear hown his hb T0n1k
  go_wp2_with fail
  refine (specFineOn_any _ _ _ z0 z1 z2 _ T0n1i_2.out hz0).mono ?_
  rintro e w3 ⟨rfl, hb⟩
  rw [Q0.out, Q1.out]
  have B3 := Lib.hid (Below.then' B2.out hb)
  have s3 := hb.size
  have T0n1o_3 := Lib.hid (ownsRow_below T0n1o_2.out hb)
  have T0n1i_3 := Lib.hid (T0n1i_2.out.below hb)
  clear hb
  go_wp2_with fail
  refine (toLoanS_any a0 len0 cap0 z0 _ (S0.out.below B3.out) hlen0).mono ?_
  rintro e w4 ⟨v, rfl, hown, hb⟩
  have B4 := Lib.hid (Below.then' B3.out hb)
  have s4 := hb.size
  have X0zo_4 := Lib.hid hown
  obtain ⟨X0za, X0zc, rfl, his, X0zk⟩ := isLoanS_own hown
  have X0zi_4 := Lib.hid his
  have X0zkk := Lib.hid X0zk
  clear hown his hb X0zk
  go_wp2_with fail
  refine (implFineOn_any _ _ _ z0 z1 z2 _ X0zi_4.out hz0).mono ?_
  rintro e w5 ⟨rfl, hb⟩
  rw [Q0.out, Q1.out]
  have B5 := Lib.hid (Below.then' B4.out hb)
  have s5 := hb.size
  have X0zo_5 := Lib.hid (ownsRow_below X0zo_4.out hb)
  have X0zi_5 := Lib.hid (X0zi_4.out.below hb)
  clear hb
  go_wp2_with fail
  refine (toLoanS_any a0 len0 cap0 z0 _ (S0.out.below B5.out) hlen0).mono ?_
  rintro e w6 ⟨v, rfl, hown, hb⟩
  have B6 := Lib.hid (Below.then' B5.out hb)
  have s6 := hb.size
  have X0zo_6 := Lib.hid (ownsRow_below X0zo_5.out hb)
  have X0zi_6 := Lib.hid (X0zi_5.out.below hb)
  have E0o_6 := Lib.hid hown
  obtain ⟨E0a, E0c, rfl, his, E0k⟩ := isLoanS_own hown
  have E0i_6 := Lib.hid his
  have E0kk := Lib.hid E0k
  clear hown his hb E0k
  go_wp2_with fail
  refine (eqLoanS_yes _ _ _ _ _ _ z0 _ X0zi_6.out E0i_6.out).mono ?_
  rintro e w7 ⟨rfl, hb⟩
  have B7 := Lib.hid (Below.then' B6.out hb)
  have s7 := hb.size
  have X0zo_7 := Lib.hid (ownsRow_below X0zo_6.out hb)
  have X0zi_7 := Lib.hid (X0zi_6.out.below hb)
  have E0o_7 := Lib.hid (ownsRow_below E0o_6.out hb)
  have E0i_7 := Lib.hid (E0i_6.out.below hb)
  clear hb
  go_wp2
  go_ret
  exact ⟨rfl, B7.out⟩

theorem own : ownKnob Try.prog.godebug = none := by kernel_rfl
theorem laidOut : laidOutB Try.prog = true := by kernel_rfl
set_option maxRecDepth 100000 in
theorem lifted (os : Os) (started : os.Started) (H : Type) (enc : TypeId × Value → H) :
    ReturnsInHanded {} Try.checked os 11 .any (Rows.fnExactFineOnSpec.pre6 enc Try.prog Try.f11 Rows.fnExactFineOnRow.domain false) (Rows.fnExactFineOnSpec.post enc Try.prog Try.f11 false true false false) := by
  refine returnsInHanded_of_change (C := Try.checked) own started (by kernel_rfl) Try.func11
    (ChangeSpec.witness6 (enc := enc) (C := Try.checked) false ⟨#[], #[.slice none 0 0, .int .i64 0, .int .i64 0], []⟩ 8 (by kernel_rfl) (by kernel_rfl) (by kernel_rfl) (by kernel_rfl)) ?_
  intro W base args ds gs before hval0 hW hcnd _
  have hval : ∀ (j : Nat) t v, Try.f11.params[j]? = some t → args[j]? = some v → Value.okWide Try.prog W .any base t v := hval0
  have hW' := hW
  obtain ⟨p, q, hA0, hV, rfl, hfz, hnd⟩ := hW
  have hA : DataW.TrodAll enc Try.prog W 0 (fun _ => true) true Try.f11.params.toList args.toList ds p := hA0
  rw [Try.params11] at hA hval
  obtain ⟨v0, vs0, d0, ds0, p0, q0, hargs, rfl, rfl, h0, r0⟩ := trodAll_cons hA
  obtain ⟨v1, vs1, d1, ds1, p1, q1, rfl, rfl, rfl, h1, r1⟩ := trodAll_cons r0
  obtain ⟨v2, vs2, d2, ds2, p2, q2, rfl, rfl, rfl, h2, r2⟩ := trodAll_cons r1
  obtain ⟨rfl, rfl, rfl⟩ := trodAll_nil r2
  obtain rfl : args = #[v0, v1, v2] := by cases args; simp_all
  obtain ⟨rfl, rfl⟩ := trodVars_none hV
  obtain ⟨a0, len0, cap0, rfl⟩ := okWide_slice Try.underlying58 (hval 0 58 v0 rfl rfl)
  have k0 := h0
  have lt0 : ∀ x ∈ p0, x.block < W.heap.size := by obtain ⟨m, hm⟩ := k0; exact DataW.trod_lt m _ _ _ hm
  obtain ⟨z0, w0⟩ : ∃ zs, IsLoanS W a0 len0 cap0 zs := open_LoanS h0
  obtain ⟨a1, rfl, rfl, rfl, w1⟩ := open_int Try.underlying3 (hval 1 3 v1 rfl rfl) h1
  obtain ⟨a2, rfl, rfl, rfl, w2⟩ := open_int Try.underlying3 (hval 2 3 v2 rfl rfl) h2
  clear hA0 hval0
  refine (walk a0 len0 cap0 z0 a1 a2 W w0 w1 w2).mono fun e W' ⟨he, bel⟩ => ?_
  subst he
  exact ⟨_, rfl, _, _, _, [], _, [], hW', trodAll_mk1 (shut_bool Try.underlying4 _), (trodAll_cons_mk (Below.trod laidOut (by kernel_rfl) (of_decide_eq_true (by kernel_rfl)) k0 bel lt0) (trodAll_cons_mk (shut_int Try.underlying3 w1) (trodAll_cons_mk (shut_int Try.underlying3 w2) trodAll_mk0))), rfl, bel.frame _, fun h => by cases h⟩
theorem over : Rows.fnExactFineOnRow.holds Try.pinned (OpenSpec.ofChange Rows.fnExactFineOnSpec) :=
  OpenClaim.holds_of_wide 11 Try.f11 rfl rfl rfl rfl rfl rfl rfl ⟨rfl, rfl, rfl, rfl, rfl⟩ rfl rfl rfl rfl rfl (by kernel_rfl) Try.func11 (by kernel_rfl)
    (of_decide_eq_true (by kernel_rfl)) (by unfold Func.isWrapper; first | (rw [if_pos (by decide +kernel)]; kernel_rfl) | (rw [if_neg (by decide +kernel)]; exact ⟨rfl, rfl⟩))
    (fun os started H enc _ => lifted os started H enc)
theorem proved : Rows.FnExactFineOnSaid := over
#print axioms proved
end Go.Proofs.Ytffbljbgmgifnaa.fnExactFineOn
