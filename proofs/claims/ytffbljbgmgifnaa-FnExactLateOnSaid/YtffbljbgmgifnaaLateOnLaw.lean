/- FnExactLateOn: for every argument the law returns true and leaves all as it was. No condition. (the walk made by genlaw.py) -/
import Derived.Test.YtffbljbgmgifnaaRows
import Derived.Test.YtffbljbgmgifnaaLoz2
import Derived.Test.YtffbljbgmgifnaaVars
import Derived.ProofKit
import Derived.OpenShut
import Derived.ShutString
import Derived.ChangeOld
import Derived.Carry
namespace Go.Proofs.Ytffbljbgmgifnaa.fnExactLateOn
open Go.ChangeShapes Go.WideShapes Go.ChangeAt Go.RowKit
open Go.ChangeMaps (open_string shut_string)
set_option linter.unusedVariables false

theorem row_lt {w : World} {base : Nat} {e : TypeId} {size n : Nat} {v : Value} {xs : List Value} (h : w.ownsRow base e size v n xs) {b : Nat} (hb : b < base) : some b ≠ v.ownBlock := fun e => by have := (h.lt b e.symm).1; omega
set_option maxHeartbeats 6400000 in
set_option maxRecDepth 100000 in
theorem walk (a0 : Option Addr) (len0 cap0 : Nat) (z0 : List VLoan) (z1 : Int) (w : World) (fa0 : IsLoanS w a0 len0 cap0 z0) (_ : (Lit.int .i64 z1).wf = true) :
    Calls Try.prog 10 #[.slice a0 len0 cap0, .int .i64 z1] w fun e w' => e = .returned (.bool true) ∧ Below w.heap.size w w' := by
  have hl0 : len0 ≤ maxLen := Nat.le_trans fa0.2.1 fa0.2.2.1
  have S0 := Lib.hid fa0
  have L0 := Lib.hid fa0.1
  clear fa0
  go_enter Try.func10, Try.ntmps10
  go_wp2_with fail
  refine (szLoanS_any _ _ _ z0 _ _ (S0.out) (by omega) (by omega)).mono ?_
  rintro e w1 ⟨left0, rfl, hle0, hsz, hb⟩
  have B1 := Lib.hid hb
  have s1 := hb.size
  have HZ0 := Lib.hid hsz
  clear hsz hb
  by_cases hneg0 : left0 < 0
  · go_wp2
    go_ret
    exact ⟨rfl, B1.out⟩
  have hlen0 : len0 ≤ 1048576 := HZ0.out (by omega)
  have hz0 : z0.length ≤ 1048576 := by have := L0.out; omega
  have hle0' : 0 ≤ left0 := by omega
  have hq0 := LateOn_0_len z0 z1 hz0
  obtain ⟨q0, hqq0⟩ : ∃ q, LateOn_0 z0 z1 = q := ⟨_, rfl⟩
  rw [hqq0] at hq0
  have Q0 := Lib.hid hqq0
  clear hqq0
  obtain ⟨q1, hqq1⟩ : ∃ q, LateOn_1 z0 z1 = q := ⟨_, rfl⟩
  have Q1 := Lib.hid hqq1
  clear hqq1
  go_wp2_with fail
  refine (toLoanS_any a0 len0 cap0 z0 _ (S0.out.below B1.out) hlen0).mono ?_
  rintro e w2 ⟨v, rfl, hown, hb⟩
  have B2 := Lib.hid (Below.then' B1.out hb)
  have s2 := hb.size
  have T0n1o_2 := Lib.hid hown
  obtain ⟨T0n1a, T0n1c, rfl, his, T0n1k⟩ := isLoanS_own hown
  have T0n1i_2 := Lib.hid his
  have T0n1kk := Lib.hid T0n1k
  clear hown his hb T0n1k
  go_wp2_with fail
  refine (specLateOn_any _ _ _ z0 z1 _ T0n1i_2.out hz0).mono ?_
  rintro e w3 ⟨v0, rfl, hown0, hb⟩
  rw [Q0.out] at hown0
  rw [Q1.out]
  have B3 := Lib.hid (Below.then' B2.out hb)
  have s3 := hb.size
  have T0n1o_3 := Lib.hid (ownsRow_below T0n1o_2.out hb)
  have T0n1i_3 := Lib.hid (T0n1i_2.out.below hb)
  have W0o_3 := Lib.hid hown0
  obtain ⟨W0a, W0c, rfl, his, hk⟩ := isInts_own hown0
  have W0i_3 := Lib.hid his
  have W0k := Lib.hid (show ∀ b o, W0a = some ⟨b, o, none⟩ → b < w3.heap.size from fun b o e => (hown0.lt b (hk b o e)).2)
  clear hown0 his hk
  clear hb
  go_wp2_with fail
  refine (toLoanS_any a0 len0 cap0 z0 _ (S0.out.below B3.out) hlen0).mono ?_
  rintro e w4 ⟨v, rfl, hown, hb⟩
  have B4 := Lib.hid (Below.then' B3.out hb)
  have s4 := hb.size
  have W0o_4 := Lib.hid (ownsRow_below W0o_3.out hb)
  have W0i_4 := Lib.hid (W0i_3.out.below hb)
  have X0zo_4 := Lib.hid hown
  obtain ⟨X0za, X0zc, rfl, his, X0zk⟩ := isLoanS_own hown
  have X0zi_4 := Lib.hid his
  have X0zkk := Lib.hid X0zk
  clear hown his hb X0zk
  go_wp2_with fail
  refine (implLateOn_any _ _ _ z0 z1 _ X0zi_4.out hz0).mono ?_
  rintro e w5 ⟨v0, rfl, hown0, hb⟩
  rw [Q0.out] at hown0
  rw [Q1.out]
  have B5 := Lib.hid (Below.then' B4.out hb)
  have s5 := hb.size
  have W0o_5 := Lib.hid (ownsRow_below W0o_4.out hb)
  have W0i_5 := Lib.hid (W0i_4.out.below hb)
  have X0zo_5 := Lib.hid (ownsRow_below X0zo_4.out hb)
  have X0zi_5 := Lib.hid (X0zi_4.out.below hb)
  have G0o_5 := Lib.hid hown0
  obtain ⟨G0a, G0c, rfl, his, hk⟩ := isInts_own hown0
  have G0i_5 := Lib.hid his
  have G0k := Lib.hid (show ∀ b o, G0a = some ⟨b, o, none⟩ → b < w5.heap.size from fun b o e => (hown0.lt b (hk b o e)).2)
  clear hown0 his hk
  clear hb
  go_wp2_with fail
  refine (eqIntS_yes _ _ _ _ _ _ q0 _ G0i_5.out W0i_5.out).mono ?_
  rintro e w6 ⟨rfl, hb⟩
  have B6 := Lib.hid (Below.then' B5.out hb)
  have s6 := hb.size
  have W0o_6 := Lib.hid (ownsRow_below W0o_5.out hb)
  have W0i_6 := Lib.hid (W0i_5.out.below hb)
  have X0zo_6 := Lib.hid (ownsRow_below X0zo_5.out hb)
  have X0zi_6 := Lib.hid (X0zi_5.out.below hb)
  have G0o_6 := Lib.hid (ownsRow_below G0o_5.out hb)
  have G0i_6 := Lib.hid (G0i_5.out.below hb)
  clear hb
  go_wp2_with fail
  refine (toLoanS_any a0 len0 cap0 z0 _ (S0.out.below B6.out) hlen0).mono ?_
  rintro e w7 ⟨v, rfl, hown, hb⟩
  have B7 := Lib.hid (Below.then' B6.out hb)
  have s7 := hb.size
  have W0o_7 := Lib.hid (ownsRow_below W0o_6.out hb)
  have W0i_7 := Lib.hid (W0i_6.out.below hb)
  have X0zo_7 := Lib.hid (ownsRow_below X0zo_6.out hb)
  have X0zi_7 := Lib.hid (X0zi_6.out.below hb)
  have G0o_7 := Lib.hid (ownsRow_below G0o_6.out hb)
  have G0i_7 := Lib.hid (G0i_6.out.below hb)
  have E0o_7 := Lib.hid hown
  obtain ⟨E0a, E0c, rfl, his, E0k⟩ := isLoanS_own hown
  have E0i_7 := Lib.hid his
  have E0kk := Lib.hid E0k
  clear hown his hb E0k
  go_wp2_with fail
  refine (eqLoanS_yes _ _ _ _ _ _ z0 _ X0zi_7.out E0i_7.out).mono ?_
  rintro e w8 ⟨rfl, hb⟩
  have B8 := Lib.hid (Below.then' B7.out hb)
  have s8 := hb.size
  have W0o_8 := Lib.hid (ownsRow_below W0o_7.out hb)
  have W0i_8 := Lib.hid (W0i_7.out.below hb)
  have X0zo_8 := Lib.hid (ownsRow_below X0zo_7.out hb)
  have X0zi_8 := Lib.hid (X0zi_7.out.below hb)
  have G0o_8 := Lib.hid (ownsRow_below G0o_7.out hb)
  have G0i_8 := Lib.hid (G0i_7.out.below hb)
  have E0o_8 := Lib.hid (ownsRow_below E0o_7.out hb)
  have E0i_8 := Lib.hid (E0i_7.out.below hb)
  clear hb
  go_wp2_with fail
  refine (markLoanS_any _ _ _ 1 _ _ X0zo_8.out (by omega) (by omega) (by omega)).mono ?_
  rintro e w9 ⟨rfl, _, hg⟩
  have B9 := Lib.hid (B8.out.grown hg B8.out.size (fun k e => Nat.le_trans B3.out.size (X0zo_8.out.lt k e).1))
  have s9 := hg.size
  have W0i_9 := Lib.hid (W0i_8.out.grown hg (fun b o e => row_lt X0zo_8.out (Nat.lt_of_lt_of_le (W0k.out b o e) (by omega))))
  have G0o_9 := Lib.hid (ownsRow_grown0 G0o_8.out hg (fun k e => Nat.lt_of_lt_of_le (X0zo_4.out.lt k e).2 (by omega)))
  have G0i_9 := Lib.hid (show IsInts w9 G0a q0.length G0c q0 from by
    obtain ⟨a', c', e', hi', _⟩ := isInts_own G0o_9.out
    cases e'
    exact hi')
  clear hg
  go_wp2_with fail
  refine (eqIntS_yes _ _ _ _ _ _ q0 _ G0i_9.out W0i_9.out).mono ?_
  rintro e w10 ⟨rfl, hb⟩
  have B10 := Lib.hid (Below.then' B9.out hb)
  have s10 := hb.size
  have W0i_10 := Lib.hid (W0i_9.out.below hb)
  have G0o_10 := Lib.hid (ownsRow_below G0o_9.out hb)
  have G0i_10 := Lib.hid (G0i_9.out.below hb)
  clear hb
  go_wp2_with fail
  refine (markIntS_any _ _ _ 1 _ _ G0o_10.out (by omega) (by omega)).mono ?_
  rintro e w11 ⟨rfl, hm, hg⟩
  have B11 := Lib.hid (B10.out.grown hg B10.out.size (fun k e => Nat.le_trans B4.out.size (G0o_10.out.lt k e).1))
  have s11 := hg.size
  have W0i_11 := Lib.hid (W0i_10.out.grown hg (fun b o e => row_lt G0o_10.out (Nat.lt_of_lt_of_le (W0k.out b o e) (by omega))))
  have G0m_11 := Lib.hid (show IsInts w11 G0a q0.length G0c (marksI 1 q0.length) from by
    obtain ⟨a', c', e', hi', _⟩ := isInts_own (xs := marksI 1 q0.length) (by simpa [marksI_len] using hm)
    rw [marksI_len] at e' hi'
    cases e'
    exact hi')
  clear hm
  clear hg
  go_wp2_with fail
  refine (heldIntS_any _ _ _ 1 _ G0m_11.out (by omega) (by omega)).mono ?_
  rintro e w12 ⟨rfl, rfl⟩
  go_wp2_with fail
  refine (toLoanS_any a0 len0 cap0 z0 _ (S0.out.below B11.out) hlen0).mono ?_
  rintro e w13 ⟨v, rfl, hown, hb⟩
  have B13 := Lib.hid (Below.then' B11.out hb)
  have s13 := hb.size
  have W0i_13 := Lib.hid (W0i_11.out.below hb)
  have G0m_13 := Lib.hid (G0m_11.out.below hb)
  have T0n12o_13 := Lib.hid hown
  obtain ⟨T0n12a, T0n12c, rfl, his, T0n12k⟩ := isLoanS_own hown
  have T0n12i_13 := Lib.hid his
  have T0n12kk := Lib.hid T0n12k
  clear hown his hb T0n12k
  go_wp2_with fail
  refine (implLateOn_any _ _ _ z0 z1 _ T0n12i_13.out hz0).mono ?_
  rintro e w14 ⟨v0, rfl, hown0, hb⟩
  rw [Q0.out] at hown0
  rw [Q1.out]
  have B14 := Lib.hid (Below.then' B13.out hb)
  have s14 := hb.size
  have W0i_14 := Lib.hid (W0i_13.out.below hb)
  have G0m_14 := Lib.hid (G0m_13.out.below hb)
  have T0n12o_14 := Lib.hid (ownsRow_below T0n12o_13.out hb)
  have T0n12i_14 := Lib.hid (T0n12i_13.out.below hb)
  have H0o_14 := Lib.hid hown0
  obtain ⟨H0a, H0c, rfl, his, hk⟩ := isInts_own hown0
  have H0i_14 := Lib.hid his
  have H0k := Lib.hid (show ∀ b o, H0a = some ⟨b, o, none⟩ → b < w14.heap.size from fun b o e => (hown0.lt b (hk b o e)).2)
  clear hown0 his hk
  clear hb
  go_wp2_with fail
  refine (eqIntS_yes _ _ _ _ _ _ q0 _ H0i_14.out W0i_14.out).mono ?_
  rintro e w15 ⟨rfl, hb⟩
  have B15 := Lib.hid (Below.then' B14.out hb)
  have s15 := hb.size
  have W0i_15 := Lib.hid (W0i_14.out.below hb)
  have G0m_15 := Lib.hid (G0m_14.out.below hb)
  have H0o_15 := Lib.hid (ownsRow_below H0o_14.out hb)
  have H0i_15 := Lib.hid (H0i_14.out.below hb)
  clear hb
  go_wp2_with fail
  refine (heldIntS_any _ _ _ 1 _ G0m_15.out (by omega) (by omega)).mono ?_
  rintro e w16 ⟨rfl, rfl⟩
  go_wp2
  go_ret
  exact ⟨rfl, B15.out⟩

theorem own : ownKnob Try.prog.godebug = none := by kernel_rfl
theorem laidOut : laidOutB Try.prog = true := by kernel_rfl
set_option maxRecDepth 100000 in
theorem lifted (os : Os) (started : os.Started) (H : Type) (enc : TypeId × Value → H) :
    ReturnsInHanded {} Try.checked os 10 .any (Rows.fnExactLateOnSpec.pre6 enc Try.prog Try.f10 Rows.fnExactLateOnRow.domain false) (Rows.fnExactLateOnSpec.post enc Try.prog Try.f10 false true false false) := by
  refine returnsInHanded_of_change (C := Try.checked) own started (by kernel_rfl) Try.func10
    (ChangeSpec.witness6 (enc := enc) (C := Try.checked) false ⟨#[], #[.slice none 0 0, .int .i64 0], []⟩ 8 (by kernel_rfl) (by kernel_rfl) (by kernel_rfl) (by kernel_rfl)) ?_
  intro W base args ds gs before hval0 hW hcnd _
  have hval : ∀ (j : Nat) t v, Try.f10.params[j]? = some t → args[j]? = some v → Value.okWide Try.prog W .any base t v := hval0
  have hW' := hW
  obtain ⟨p, q, hA0, hV, rfl, hfz, hnd⟩ := hW
  have hA : DataW.TrodAll enc Try.prog W 0 (fun _ => true) true Try.f10.params.toList args.toList ds p := hA0
  rw [Try.params10] at hA hval
  obtain ⟨v0, vs0, d0, ds0, p0, q0, hargs, rfl, rfl, h0, r0⟩ := trodAll_cons hA
  obtain ⟨v1, vs1, d1, ds1, p1, q1, rfl, rfl, rfl, h1, r1⟩ := trodAll_cons r0
  obtain ⟨rfl, rfl, rfl⟩ := trodAll_nil r1
  obtain rfl : args = #[v0, v1] := by cases args; simp_all
  obtain ⟨rfl, rfl⟩ := trodVars_none hV
  obtain ⟨a0, len0, cap0, rfl⟩ := okWide_slice Try.underlying58 (hval 0 58 v0 rfl rfl)
  have k0 := h0
  have lt0 : ∀ x ∈ p0, x.block < W.heap.size := by obtain ⟨m, hm⟩ := k0; exact DataW.trod_lt m _ _ _ hm
  obtain ⟨z0, w0⟩ : ∃ zs, IsLoanS W a0 len0 cap0 zs := open_LoanS h0
  obtain ⟨a1, rfl, rfl, rfl, w1⟩ := open_int Try.underlying3 (hval 1 3 v1 rfl rfl) h1
  clear hA0 hval0
  refine (walk a0 len0 cap0 z0 a1 W w0 w1).mono fun e W' ⟨he, bel⟩ => ?_
  subst he
  exact ⟨_, rfl, _, _, _, [], _, [], hW', trodAll_mk1 (shut_bool Try.underlying4 _), (trodAll_cons_mk (Below.trod laidOut (by kernel_rfl) (of_decide_eq_true (by kernel_rfl)) k0 bel lt0) (trodAll_cons_mk (shut_int Try.underlying3 w1) trodAll_mk0)), rfl, bel.frame _, fun h => by cases h⟩
theorem over : Rows.fnExactLateOnRow.holds Try.pinned (OpenSpec.ofChange Rows.fnExactLateOnSpec) :=
  OpenClaim.holds_of_wide 10 Try.f10 rfl rfl rfl rfl rfl rfl rfl ⟨rfl, rfl, rfl, rfl, rfl⟩ rfl rfl rfl rfl rfl (by kernel_rfl) Try.func10 (by kernel_rfl)
    (of_decide_eq_true (by kernel_rfl)) (by unfold Func.isWrapper; first | (rw [if_pos (by decide +kernel)]; kernel_rfl) | (rw [if_neg (by decide +kernel)]; exact ⟨rfl, rfl⟩))
    (fun os started H enc _ => lifted os started H enc)
theorem proved : Rows.FnExactLateOnSaid := over
#print axioms proved
end Go.Proofs.Ytffbljbgmgifnaa.fnExactLateOn
