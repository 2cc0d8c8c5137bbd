/- FnExactSameChains: for every argument the law returns true and leaves all as it was. No condition. (the walk made by genlaw.py) -/
import Derived.Test.YtghgipadogdfiaaRows
import Derived.Test.YtghgipadogdfiaaPi7
import Derived.Test.YtghgipadogdfiaaVars
import Derived.ProofKit
import Derived.OpenShut
import Derived.ShutString
import Derived.ChangeOld
import Derived.Carry
namespace Go.Proofs.Ytghgipadogdfiaa.fnExactSameChains
open Go.ChangeShapes Go.WideShapes Go.ChangeAt Go.RowKit
open Go.ChangeMaps (open_string shut_string)
set_option linter.unusedVariables false

theorem row_lt {w : World} {base : Nat} {e : TypeId} {size n : Nat} {v : Value} {xs : List Value} (h : w.ownsRow base e size v n xs) {b : Nat} (hb : b < base) : some b ≠ v.ownBlock := fun e => by have := (h.lt b e.symm).1; omega
set_option maxHeartbeats 6400000 in
set_option maxRecDepth 100000 in
theorem walk (a0 : Option Addr) (len0 cap0 : Nat) (z0 : List VGridTurn) (a1 : Option Addr) (len1 cap1 : Nat) (z1 : List VGridTurn) (w : World) (fa0 : IsGridTurnS w a0 len0 cap0 z0) (fa1 : IsGridTurnS w a1 len1 cap1 z1) :
    Calls Try.prog 7 #[.slice a0 len0 cap0, .slice a1 len1 cap1] w fun e w' => e = .returned (.bool true) ∧ Below w.heap.size w w' := by
  have hl0 : len0 ≤ maxLen := Nat.le_trans fa0.2.1 fa0.2.2.1
  have S0 := Lib.hid fa0
  have L0 := Lib.hid fa0.1
  clear fa0
  have hl1 : len1 ≤ maxLen := Nat.le_trans fa1.2.1 fa1.2.2.1
  have S1 := Lib.hid fa1
  have L1 := Lib.hid fa1.1
  clear fa1
  go_enter Try.func7, Try.ntmps7
  go_wp2_with fail
  refine (szGridTurnS_any _ _ _ z0 _ _ (S0.out) (by omega) (by omega)).mono ?_
  rintro e w1 ⟨left0, rfl, hle0, hsz, hb⟩
  have B1 := Lib.hid hb
  have s1 := hb.size
  have HZ0 := Lib.hid hsz
  clear hsz hb
  by_cases hneg0 : left0 < 0
  · go_wp2
    go_ret
    exact ⟨rfl, B1.out⟩
  have hlen0 : len0 ≤ 1048576 := HZ0.out (by omega)
  have hz0 : z0.length ≤ 1048576 := by have := L0.out; omega
  have hle0' : 0 ≤ left0 := by omega
  go_wp2_with fail
  refine (szGridTurnS_any _ _ _ z1 _ _ (S1.out.below B1.out) (by omega) (by omega)).mono ?_
  rintro e w2 ⟨left1, rfl, hle1, hsz, hb⟩
  have B2 := Lib.hid (Below.then' B1.out hb)
  have s2 := hb.size
  have HZ1 := Lib.hid hsz
  clear hsz hb
  by_cases hneg1 : left1 < 0
  · go_wp2
    go_ret
    exact ⟨rfl, B2.out⟩
  have hlen1 : len1 ≤ 1048576 := HZ1.out (by omega)
  have hz1 : z1.length ≤ 1048576 := by have := L1.out; omega
  have hle1' : 0 ≤ left1 := by omega
  obtain ⟨q0, hqq0⟩ : ∃ q, SameChains_0 z0 z1 = q := ⟨_, rfl⟩
  have Q0 := Lib.hid hqq0
  clear hqq0
  obtain ⟨q1, hqq1⟩ : ∃ q, SameChains_1 z0 z1 = q := ⟨_, rfl⟩
  have Q1 := Lib.hid hqq1
  clear hqq1
  go_wp2_with fail
  refine (toGridTurnS_any a0 len0 cap0 z0 _ (S0.out.below B2.out) hlen0).mono ?_
  rintro e w3 ⟨v, rfl, hown, hb⟩
  have B3 := Lib.hid (Below.then' B2.out hb)
  have s3 := hb.size
  have T0n2o_3 := Lib.hid hown
  obtain ⟨T0n2a, T0n2c, rfl, his, T0n2k⟩ := isGridTurnS_own hown
  have T0n2i_3 := Lib.hid his
  have T0n2kk := Lib.hid T0n2k
  clear hown his hb T0n2k
  go_wp2_with fail
  refine (toGridTurnS_any a1 len1 cap1 z1 _ (S1.out.below B3.out) hlen1).mono ?_
  rintro e w4 ⟨v, rfl, hown, hb⟩
  have B4 := Lib.hid (Below.then' B3.out hb)
  have s4 := hb.size
  have T0n2o_4 := Lib.hid (ownsRow_below T0n2o_3.out hb)
  have T0n2i_4 := Lib.hid (T0n2i_3.out.below hb)
  have T1n3o_4 := Lib.hid hown
  obtain ⟨T1n3a, T1n3c, rfl, his, T1n3k⟩ := isGridTurnS_own hown
  have T1n3i_4 := Lib.hid his
  have T1n3kk := Lib.hid T1n3k
  clear hown his hb T1n3k
  go_wp2_with fail
  refine (specSameChains_any _ _ _ z0 _ _ _ z1 _ T0n2i_4.out hz0 T1n3i_4.out hz1).mono ?_
  rintro e w5 ⟨rfl, hb⟩
  rw [Q0.out, Q1.out]
  have B5 := Lib.hid (Below.then' B4.out hb)
  have s5 := hb.size
  have T0n2o_5 := Lib.hid (ownsRow_below T0n2o_4.out hb)
  have T0n2i_5 := Lib.hid (T0n2i_4.out.below hb)
  have T1n3o_5 := Lib.hid (ownsRow_below T1n3o_4.out hb)
  have T1n3i_5 := Lib.hid (T1n3i_4.out.below hb)
  clear hb
  go_wp2_with fail
  refine (toGridTurnS_any a0 len0 cap0 z0 _ (S0.out.below B5.out) hlen0).mono ?_
  rintro e w6 ⟨v, rfl, hown, hb⟩
  have B6 := Lib.hid (Below.then' B5.out hb)
  have s6 := hb.size
  have X0zo_6 := Lib.hid hown
  obtain ⟨X0za, X0zc, rfl, his, X0zk⟩ := isGridTurnS_own hown
  have X0zi_6 := Lib.hid his
  have X0zkk := Lib.hid X0zk
  clear hown his hb X0zk
  go_wp2_with fail
  refine (toGridTurnS_any a1 len1 cap1 z1 _ (S1.out.below B6.out) hlen1).mono ?_
  rintro e w7 ⟨v, rfl, hown, hb⟩
  have B7 := Lib.hid (Below.then' B6.out hb)
  have s7 := hb.size
  have X0zo_7 := Lib.hid (ownsRow_below X0zo_6.out hb)
  have X0zi_7 := Lib.hid (X0zi_6.out.below hb)
  have X1zo_7 := Lib.hid hown
  obtain ⟨X1za, X1zc, rfl, his, X1zk⟩ := isGridTurnS_own hown
  have X1zi_7 := Lib.hid his
  have X1zkk := Lib.hid X1zk
  clear hown his hb X1zk
  go_wp2_with fail
  refine (implSameChains_any _ _ _ z0 _ _ _ z1 _ X0zi_7.out hz0 X1zi_7.out hz1).mono ?_
  rintro e w8 ⟨rfl, hb⟩
  rw [Q0.out, Q1.out]
  have B8 := Lib.hid (Below.then' B7.out hb)
  have s8 := hb.size
  have X0zo_8 := Lib.hid (ownsRow_below X0zo_7.out hb)
  have X0zi_8 := Lib.hid (X0zi_7.out.below hb)
  have X1zo_8 := Lib.hid (ownsRow_below X1zo_7.out hb)
  have X1zi_8 := Lib.hid (X1zi_7.out.below hb)
  clear hb
  go_wp2_with fail
  refine (toGridTurnS_any a0 len0 cap0 z0 _ (S0.out.below B8.out) hlen0).mono ?_
  rintro e w9 ⟨v, rfl, hown, hb⟩
  have B9 := Lib.hid (Below.then' B8.out hb)
  have s9 := hb.size
  have X0zo_9 := Lib.hid (ownsRow_below X0zo_8.out hb)
  have X0zi_9 := Lib.hid (X0zi_8.out.below hb)
  have X1zo_9 := Lib.hid (ownsRow_below X1zo_8.out hb)
  have X1zi_9 := Lib.hid (X1zi_8.out.below hb)
  have E0o_9 := Lib.hid hown
  obtain ⟨E0a, E0c, rfl, his, E0k⟩ := isGridTurnS_own hown
  have E0i_9 := Lib.hid his
  have E0kk := Lib.hid E0k
  clear hown his hb E0k
  go_wp2_with fail
  refine (eqGridTurnS_yes _ _ _ _ _ _ z0 _ X0zi_9.out E0i_9.out).mono ?_
  rintro e w10 ⟨rfl, hb⟩
  have B10 := Lib.hid (Below.then' B9.out hb)
  have s10 := hb.size
  have X0zo_10 := Lib.hid (ownsRow_below X0zo_9.out hb)
  have X0zi_10 := Lib.hid (X0zi_9.out.below hb)
  have X1zo_10 := Lib.hid (ownsRow_below X1zo_9.out hb)
  have X1zi_10 := Lib.hid (X1zi_9.out.below hb)
  have E0o_10 := Lib.hid (ownsRow_below E0o_9.out hb)
  have E0i_10 := Lib.hid (E0i_9.out.below hb)
  clear hb
  go_wp2_with fail
  refine (toGridTurnS_any a1 len1 cap1 z1 _ (S1.out.below B10.out) hlen1).mono ?_
  rintro e w11 ⟨v, rfl, hown, hb⟩
  have B11 := Lib.hid (Below.then' B10.out hb)
  have s11 := hb.size
  have X0zo_11 := Lib.hid (ownsRow_below X0zo_10.out hb)
  have X0zi_11 := Lib.hid (X0zi_10.out.below hb)
  have X1zo_11 := Lib.hid (ownsRow_below X1zo_10.out hb)
  have X1zi_11 := Lib.hid (X1zi_10.out.below hb)
  have E1o_11 := Lib.hid hown
  obtain ⟨E1a, E1c, rfl, his, E1k⟩ := isGridTurnS_own hown
  have E1i_11 := Lib.hid his
  have E1kk := Lib.hid E1k
  clear hown his hb E1k
  go_wp2_with fail
  refine (eqGridTurnS_yes _ _ _ _ _ _ z1 _ X1zi_11.out E1i_11.out).mono ?_
  rintro e w12 ⟨rfl, hb⟩
  have B12 := Lib.hid (Below.then' B11.out hb)
  have s12 := hb.size
  have X0zo_12 := Lib.hid (ownsRow_below X0zo_11.out hb)
  have X0zi_12 := Lib.hid (X0zi_11.out.below hb)
  have X1zo_12 := Lib.hid (ownsRow_below X1zo_11.out hb)
  have X1zi_12 := Lib.hid (X1zi_11.out.below hb)
  have E1o_12 := Lib.hid (ownsRow_below E1o_11.out hb)
  have E1i_12 := Lib.hid (E1i_11.out.below hb)
  clear hb
  go_wp2
  go_ret
  exact ⟨rfl, B12.out⟩

theorem own : ownKnob Try.prog.godebug = none := by kernel_rfl
theorem laidOut : laidOutB Try.prog = true := by kernel_rfl
set_option maxRecDepth 100000 in
theorem lifted (os : Os) (started : os.Started) (H : Type) (enc : TypeId × Value → H) :
    ReturnsInHanded {} Try.checked os 7 .any (Rows.fnExactSameChainsSpec.pre6 enc Try.prog Try.f7 Rows.fnExactSameChainsRow.domain false) (Rows.fnExactSameChainsSpec.post enc Try.prog Try.f7 false true false false) := by
  refine returnsInHanded_of_change (C := Try.checked) own started (by kernel_rfl) Try.func7
    (ChangeSpec.witness6 (enc := enc) (C := Try.checked) false ⟨#[], #[.slice none 0 0, .slice none 0 0], []⟩ 8 (by kernel_rfl) (by kernel_rfl) (by kernel_rfl) (by kernel_rfl)) ?_
  intro W base args ds gs before hval0 hW hcnd _
  have hval : ∀ (j : Nat) t v, Try.f7.params[j]? = some t → args[j]? = some v → Value.okWide Try.prog W .any base t v := hval0
  have hW' := hW
  obtain ⟨p, q, hA0, hV, rfl, hfz, hnd⟩ := hW
  have hA : DataW.TrodAll enc Try.prog W 0 (fun _ => true) true Try.f7.params.toList args.toList ds p := hA0
  rw [Try.params7] at hA hval
  obtain ⟨v0, vs0, d0, ds0, p0, q0, hargs, rfl, rfl, h0, r0⟩ := trodAll_cons hA
  obtain ⟨v1, vs1, d1, ds1, p1, q1, rfl, rfl, rfl, h1, r1⟩ := trodAll_cons r0
  obtain ⟨rfl, rfl, rfl⟩ := trodAll_nil r1
  obtain rfl : args = #[v0, v1] := by cases args; simp_all
  obtain ⟨rfl, rfl⟩ := trodVars_none hV
  obtain ⟨a0, len0, cap0, rfl⟩ := okWide_slice Try.underlying43 (hval 0 43 v0 rfl rfl)
  have k0 := h0
  have lt0 : ∀ x ∈ p0, x.block < W.heap.size := by obtain ⟨m, hm⟩ := k0; exact DataW.trod_lt m _ _ _ hm
  obtain ⟨z0, w0⟩ : ∃ zs, IsGridTurnS W a0 len0 cap0 zs := open_GridTurnS h0
  obtain ⟨a1, len1, cap1, rfl⟩ := okWide_slice Try.underlying43 (hval 1 43 v1 rfl rfl)
  have k1 := h1
  have lt1 : ∀ x ∈ p1, x.block < W.heap.size := by obtain ⟨m, hm⟩ := k1; exact DataW.trod_lt m _ _ _ hm
  obtain ⟨z1, w1⟩ : ∃ zs, IsGridTurnS W a1 len1 cap1 zs := open_GridTurnS h1
  clear hA0 hval0
  refine (walk a0 len0 cap0 z0 a1 len1 cap1 z1 W w0 w1).mono fun e W' ⟨he, bel⟩ => ?_
  subst he
  exact ⟨_, rfl, _, _, _, [], _, [], hW', trodAll_mk1 (shut_bool Try.underlying4 _), (trodAll_cons_mk (Below.trod laidOut (by kernel_rfl) (of_decide_eq_true (by kernel_rfl)) k0 bel lt0) (trodAll_cons_mk (Below.trod laidOut (by kernel_rfl) (of_decide_eq_true (by kernel_rfl)) k1 bel lt1) trodAll_mk0)), rfl, bel.frame _, fun h => by cases h⟩
theorem over : Rows.fnExactSameChainsRow.holds Try.pinned (OpenSpec.ofChange Rows.fnExactSameChainsSpec) :=
  OpenClaim.holds_of_wide 7 Try.f7 rfl rfl rfl rfl rfl rfl rfl ⟨rfl, rfl, rfl, rfl, rfl⟩ rfl rfl rfl rfl rfl (by kernel_rfl) Try.func7 (by kernel_rfl)
    (of_decide_eq_true (by kernel_rfl)) (by unfold Func.isWrapper; first | (rw [if_pos (by decide +kernel)]; kernel_rfl) | (rw [if_neg (by decide +kernel)]; exact ⟨rfl, rfl⟩))
    (fun os started H enc _ => lifted os started H enc)
theorem proved : Rows.FnExactSameChainsSaid := over
#print axioms proved
end Go.Proofs.Ytghgipadogdfiaa.fnExactSameChains
