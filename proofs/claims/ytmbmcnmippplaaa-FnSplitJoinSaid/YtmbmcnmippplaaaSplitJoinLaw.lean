/- FnSplitJoin: for every code the law returns true and leaves it as it was. No condition. -/
import Derived.Test.YtmbmcnmippplaaaRows
import Derived.Test.YtmbmcnmippplaaaBack
import Derived.Test.YtmbmcnmippplaaaDrawJ
import Derived.WalkKit
import Derived.ProofKit
import Derived.OpenShut
import Derived.ShutString
import Derived.ChangeOld
namespace Go.Proofs.Ytmbmcnmippplaaa.fnSplitJoin
open Go.ChangeShapes Go.WideShapes Go.ChangeAt Go.RowKit
open Go.ChangeMaps (open_string shut_string)
set_option linter.unusedVariables false

def lessB (x y : ByteArray) : Bool := Op.bytesLess x.toList y.toList
set_option maxHeartbeats 800000 in
theorem vBig_any (a : Option Addr) (len cap : Nat) (w : World) :
    Calls Try.prog 8 #[.slice a len cap] w fun e w' => e = .returned (.bool (decide (65536 < len))) ∧ w = w' := by
  by_cases h : 65536 < len
  · go_enter Try.func8, Try.ntmps8
    go_wp2
    go_ret
    exact ⟨ret_bool (by simp; omega), rfl⟩
  · go_enter Try.func8, Try.ntmps8
    go_wp2
    go_ret
    exact ⟨ret_bool (by simp; omega), rfl⟩
theorem implLess (x y : ByteArray) (w : World) (hx : x.size ≤ 10) (hy : y.size ≤ 10) :
    Calls Try.prog 15 #[.string x, .string y] w fun e w' => e = .returned (.bool (lessB x y)) ∧ w = w' := by
  go_enter Try.func15, Try.ntmps15
  go_wp2
  go_ret
  exact ⟨rfl, rfl⟩
theorem specLess (x y : ByteArray) (w : World) (hx : x.size ≤ 10) (hy : y.size ≤ 10) :
    Calls Try.prog 16 #[.string x, .string y] w fun e w' => e = .returned (.bool (lessB x y)) ∧ w = w' := by
  go_enter Try.func16, Try.ntmps16
  go_wp2
  go_ret
  exact ⟨rfl, rfl⟩
theorem bytesLess_once : ∀ l k : List UInt8, (Op.bytesLess l k && Op.bytesLess k l) = false := by
  intro l
  induction l with
  | nil => intro k; cases k <;> simp [Op.bytesLess]
  | cons x l ih =>
    intro k
    cases k with
    | nil => simp [Op.bytesLess]
    | cons y k =>
      have h := ih k
      simp [Op.bytesLess] at h ⊢
      rintro (hl | ⟨rfl, hl⟩)
      · have : x.toNat < y.toNat := hl
        exact ⟨UInt8.le_iff_toNat_le.2 (by omega), fun e => by subst e; omega⟩
      · exact ⟨UInt8.le_refl _, fun _ => h hl⟩
theorem less_once (x y : ByteArray) (h : lessB x y = true) : lessB y x = false := by
  have := bytesLess_once x.toList y.toList
  unfold lessB at *
  rw [h] at this
  simpa using this

set_option maxHeartbeats 3200000 in
theorem walk (a0 : Option Addr) (len0 cap0 : Nat) (z0 : List Int) (w : World) (w0 : IsRow .u8 w a0 len0 cap0 z0) :
    Calls Try.prog 3 #[.slice a0 len0 cap0] w fun e w' => e = .returned (.bool true) ∧ Below w.heap.size w w' := by
  have I := Lib.hid (CodeIn.of_row w0)
  clear w0
  by_cases hbig : 65536 < len0
  · have hd : decide (65536 < len0) = true := by simpa using hbig
    go_enter Try.func3, Try.ntmps3
    go_wp2_with fail
    refine (vBig_any _ _ _ _).mono ?_
    rw [hd]
    rintro e w' ⟨rfl, rfl⟩
    go_wp2
    go_ret
    exact ⟨rfl, Below.refl _ _⟩
  have hd : decide (65536 < len0) = false := by simp; omega
  go_enter Try.func3, Try.ntmps3
  go_wp2_with fail
  refine (vBig_any _ _ _ _).mono ?_
  rw [hd]
  rintro e w' ⟨rfl, rfl⟩
  clear hd hbig
  go_wp2_with fail
  refine (drawSplit _ _ _ _ I.out).mono ?_
  rintro e w1 ⟨s, sep, rfl, s0, sep0, hb1⟩
  have B1 := Lib.hid hb1
  clear hb1
  obtain ⟨xs, hxs⟩ : ∃ xs, splitXs s sep = xs := ⟨_, rfl⟩
  obtain ⟨ok, hok⟩ : ∃ ok, okSplit s sep = ok := ⟨_, rfl⟩
  have hlen : xs.length ≤ 4001 := by rw [← hxs]; exact splitXs_len _ _
  have Z := Lib.hid (show ∀ x ∈ xs, x.size ≤ maxLen by rw [← hxs]; exact splitXs_small _ _)
  have XS := Lib.hid hxs
  have OK := Lib.hid hok
  clear hxs hok
  go_wp2_with fail
  refine (implSplit s sep _ (by omega)).mono ?_
  rintro e w2 ⟨v, rfl, hown, hb2⟩
  rw [XS.out] at hown
  rw [OK.out]
  obtain ⟨al, cl, rfl, hil⟩ := isStrs_own hown Z.out
  have B2 := Lib.hid (Below.then' B1.out hb2)
  have IL2 := Lib.hid hil
  clear hown hil hb2
  go_wp2_with fail
  refine (drawJoin _ _ _ _ (I.out.below B2.out)).mono ?_
  rintro e w3 ⟨v, ks, mark, rfl, hown, hks, hkz, mark0, hb3⟩
  have htot : total ks ≤ 4100 * ks.length := total_small ks 4100 hkz
  have hsz : total ks + ks.length ≤ 1048576 := by
    have : 4100 * ks.length ≤ 4100 * 4 := Nat.mul_le_mul_left _ hks
    omega
  obtain ⟨ak, ck, rfl, hik⟩ := isStrs_own hown (fun x hx => Nat.le_trans (hkz x hx) (by unfold maxLen; omega))
  have B3 := Lib.hid (Below.then' B2.out hb3)
  have IL3 := Lib.hid (IL2.out.below hb3)
  have IK3 := Lib.hid hik
  clear hown hik hb3 hkz htot
  go_wp2_with fail
  refine (implJoin _ _ _ ks mark _ IK3.out hsz).mono ?_
  rintro e w4 ⟨j, fine, rfl, hj, hb4⟩
  have J := Lib.hid hj
  have B4 := Lib.hid (Below.then' B3.out hb4)
  have IL4 := Lib.hid (IL3.out.below hb4)
  have IK4 := Lib.hid (IK3.out.below hb4)
  clear hj hb4
  go_wp2_with fail
  refine (specJoin _ _ _ ks mark _ IK4.out hsz).mono ?_
  rintro e w5 ⟨j', fine', rfl, hj, hb5⟩
  obtain ⟨rfl, rfl⟩ := J.out.one hj
  have B5 := Lib.hid (Below.then' B4.out hb5)
  have IL5 := Lib.hid (IL4.out.below hb5)
  clear hj hb5
  go_wp2_with fail
  refine (drawLess _ _ _ _ (I.out.below B5.out)).mono ?_
  rintro e w6 ⟨x, y, rfl, x0, y0, hb6⟩
  have B6 := Lib.hid (Below.then' B5.out hb6)
  have IL6 := Lib.hid (IL5.out.below hb6)
  clear hb6
  obtain ⟨lb, hlb⟩ : ∃ lb, lessB x y = lb := ⟨_, rfl⟩
  have LB := Lib.hid hlb
  clear hlb
  have jj : (j.toList == j.toList) = true := by simp
  cases lb
  · go_wp2_with fail
    refine (implLess x y _ x0 y0).mono ?_
    rw [LB.out]
    rintro e w' ⟨rfl, rfl⟩
    go_wp2_with fail
    refine (specLess x y _ x0 y0).mono ?_
    rw [LB.out]
    rintro e w' ⟨rfl, rfl⟩
    go_wp2_with fail
    refine (implLess x y _ x0 y0).mono ?_
    rw [LB.out]
    rintro e w' ⟨rfl, rfl⟩
    by_cases h1 : sep.size = 1
    · have hok : ok = true := by rw [← OK.out]; exact (okSplit_iff _ _).2 ⟨by omega, h1⟩
      subst hok
      obtain ⟨hoj, hjs⟩ := splits_join s sep OK.out
      rw [XS.out] at hoj hjs
      have OJ := Lib.hid hoj
      have JS := Lib.hid hjs
      have h1' : ((sep.size : Int) == 1) = true := by simp; omega
      have h1i : (sep.size : Int) = 1 := by omega
      clear hoj hjs h1
      have hxt : total xs + xs.length ≤ 1048576 := by have := OJ.out.2.2.2; omega
      go_wp2_with fail
      refine (implJoin _ _ _ xs sep _ IL6.out hxt).mono ?_
      rintro e w7 ⟨r, b, rfl, hj, hb7⟩
      obtain ⟨rfl, rfl⟩ := hj.one (IsJoin.yes OJ.out)
      have B7 := Lib.hid (Below.then' B6.out hb7)
      rw [JS.out]
      clear hj hb7
      go_wp2
      go_ret
      exact ⟨by simp, B7.out⟩
    · have hok : ok = false := by
        rw [← OK.out]
        by_cases h : okSplit s sep = true
        · exact absurd ((okSplit_iff _ _).1 h).2 h1
        · simpa using h
      subst hok
      have hx0 : xs = [] := by rw [← XS.out]; unfold splitXs; rw [if_neg (by rw [OK.out]; simp)]
      subst hx0
      have h1' : ((sep.size : Int) == 1) = false := by simp; omega
      have h1i : ¬ (sep.size : Int) = 1 := by omega
      clear h1
      go_wp2
      go_ret
      exact ⟨rfl, B6.out⟩
  · go_wp2_with fail
    refine (implLess x y _ x0 y0).mono ?_
    rw [LB.out]
    rintro e w' ⟨rfl, rfl⟩
    go_wp2_with fail
    refine (specLess x y _ x0 y0).mono ?_
    rw [LB.out]
    rintro e w' ⟨rfl, rfl⟩
    go_wp2_with fail
    refine (implLess x y _ x0 y0).mono ?_
    rw [LB.out]
    rintro e w' ⟨rfl, rfl⟩
    go_wp2_with fail
    refine (implLess y x _ y0 x0).mono ?_
    rw [less_once x y LB.out]
    rintro e w' ⟨rfl, rfl⟩
    by_cases h1 : sep.size = 1
    · have hok : ok = true := by rw [← OK.out]; exact (okSplit_iff _ _).2 ⟨by omega, h1⟩
      subst hok
      obtain ⟨hoj, hjs⟩ := splits_join s sep OK.out
      rw [XS.out] at hoj hjs
      have OJ := Lib.hid hoj
      have JS := Lib.hid hjs
      have h1' : ((sep.size : Int) == 1) = true := by simp; omega
      have h1i : (sep.size : Int) = 1 := by omega
      clear hoj hjs h1
      have hxt : total xs + xs.length ≤ 1048576 := by have := OJ.out.2.2.2; omega
      go_wp2_with fail
      refine (implJoin _ _ _ xs sep _ IL6.out hxt).mono ?_
      rintro e w7 ⟨r, b, rfl, hj, hb7⟩
      obtain ⟨rfl, rfl⟩ := hj.one (IsJoin.yes OJ.out)
      have B7 := Lib.hid (Below.then' B6.out hb7)
      rw [JS.out]
      clear hj hb7
      go_wp2
      go_ret
      exact ⟨by simp, B7.out⟩
    · have hok : ok = false := by
        rw [← OK.out]
        by_cases h : okSplit s sep = true
        · exact absurd ((okSplit_iff _ _).1 h).2 h1
        · simpa using h
      subst hok
      have hx0 : xs = [] := by rw [← XS.out]; unfold splitXs; rw [if_neg (by rw [OK.out]; simp)]
      subst hx0
      have h1' : ((sep.size : Int) == 1) = false := by simp; omega
      have h1i : ¬ (sep.size : Int) = 1 := by omega
      clear h1
      go_wp2
      go_ret
      exact ⟨rfl, B6.out⟩

theorem own : ownKnob Try.prog.godebug = none := by kernel_rfl
theorem laidOut : laidOutB Try.prog = true := by kernel_rfl
set_option maxRecDepth 100000 in
theorem lifted (os : Os) (started : os.Started) (H : Type) (enc : TypeId × Value → H) :
    ReturnsInHanded {} Try.checked os 3 .any (Rows.fnSplitJoinSpec.pre6 enc Try.prog Try.f3 Rows.fnSplitJoinRow.domain false) (Rows.fnSplitJoinSpec.post enc Try.prog Try.f3 false true false false) := by
  refine returnsInHanded_of_change (C := Try.checked) own started (by kernel_rfl) Try.func3
    (ChangeSpec.witness6 (enc := enc) (C := Try.checked) false ⟨#[], #[.slice none 0 0], []⟩ 8 (by kernel_rfl) (by kernel_rfl) (by kernel_rfl) (by kernel_rfl)) ?_
  intro W base args ds gs before hval0 hW hcnd _
  have hval : ∀ (j : Nat) t v, Try.f3.params[j]? = some t → args[j]? = some v → Value.okWide Try.prog W .any base t v := hval0
  have hW' := hW
  obtain ⟨p, q, hA0, hV, rfl, hfz, hnd⟩ := hW
  have hA : DataW.TrodAll enc Try.prog W 0 (fun _ => true) true Try.f3.params.toList args.toList ds p := hA0
  rw [Try.params3] at hA hval
  obtain ⟨v0, vs0, d0, ds0, p0, q0, hargs, rfl, rfl, h0, r0⟩ := trodAll_cons hA
  obtain ⟨rfl, rfl, rfl⟩ := trodAll_nil r0
  obtain rfl : args = #[v0] := by cases args; simp_all
  obtain ⟨rfl, rfl⟩ := trodVars_none hV
  obtain ⟨a0, len0, cap0, rfl⟩ := okWide_slice Try.underlying22 (hval 0 22 v0 rfl rfl)
  have k0 := h0
  have lt0 : ∀ x ∈ p0, x.block < W.heap.size := by obtain ⟨m, hm⟩ := k0; exact DataW.trod_lt m _ _ _ hm
  obtain ⟨z0, w0⟩ : ∃ zs, IsRow .u8 W a0 len0 cap0 zs := by
    obtain ⟨fuel, hf⟩ := h0
    rcases open_ints Try.underlying22 Try.underlying5 (by kernel_rfl) hf with ⟨hcs, _⟩ | ⟨x, l, c, zs, hcs, _, hl, hm, hz, _, hcell, hwz⟩
    · simp [Value.cells] at hcs
      obtain ⟨rfl, rfl, rfl⟩ := hcs
      exact ⟨[], .inl ⟨rfl, rfl, rfl, rfl⟩⟩
    · simp [Value.cells] at hcs
      obtain ⟨rfl, rfl, rfl⟩ := hcs
      exact ⟨zs, .inr ⟨_, rfl, hl, hm, by simpa using hz, hcell, hwz⟩⟩
  clear hA0 hval0
  refine (walk a0 len0 cap0 z0 W w0).mono fun e W' ⟨he, bel⟩ => ?_
  subst he
  exact ⟨_, rfl, _, _, _, [], _, [], hW', trodAll_mk1 (shut_bool Try.underlying4 _), (trodAll_cons_mk (Below.trod laidOut (by kernel_rfl) (of_decide_eq_true (by kernel_rfl)) k0 bel lt0) trodAll_mk0), rfl, bel.frame _, fun h => by cases h⟩
theorem over : Rows.fnSplitJoinRow.holds Try.pinned (OpenSpec.ofChange Rows.fnSplitJoinSpec) :=
  OpenClaim.holds_of_wide 3 Try.f3 rfl rfl rfl rfl rfl rfl rfl ⟨rfl, rfl, rfl, rfl, rfl⟩ rfl rfl rfl rfl rfl (by kernel_rfl) Try.func3 (by kernel_rfl)
    (of_decide_eq_true (by kernel_rfl)) (by unfold Func.isWrapper; first | (rw [if_pos (by decide +kernel)]; kernel_rfl) | (rw [if_neg (by decide +kernel)]; exact ⟨rfl, rfl⟩))
    (fun os started H enc _ => lifted os started H enc)
theorem proved : Rows.FnSplitJoinSaid := over
#print axioms proved
end Go.Proofs.Ytmbmcnmippplaaa.fnSplitJoin
