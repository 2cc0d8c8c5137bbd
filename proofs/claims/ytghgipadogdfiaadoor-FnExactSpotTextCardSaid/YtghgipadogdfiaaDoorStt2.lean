/- SpotText in the program. -/
import Derived.Test.YtghgipadogdfiaaDoorStt
import Derived.Test.YtghgipadogdfiaaDoorSpotTextP
import Derived.Test.YtghgipadogdfiaaDoorSheet2
import Derived.Test.YtghgipadogdfiaaDoorShs
namespace Go.Proofs.YtghgipadogdfiaaDoor
open Go.RowKit

theorem ret_txt {a b : ByteArray} {p q : Bool} (h : a = b) (k : p = q) : Ending.returned (.tuple #[.string a, .bool p]) = .returned (.tuple #[.string b, .bool q]) := by rw [h, k]
theorem areIn1s (lo hi x : Int) (t : TypeId) (w : World) (B : Nat) (hB : w.heap.size = B) :
    Calls Tryd.prog 10 #[.int .i64 lo, .int .i64 hi, .slice (some ⟨B, 0, none⟩) 1 1] (w.alloc (.cells #[.int .i64 x] t)) fun e w' => e = .returned (.bool (inB x lo hi)) ∧ w.alloc (.cells #[.int .i64 x] t) = w' :=
  (areInRange_any B 1 1 [x] lo hi _ rfl (by omega) (lit1 w x t B hB)).mono fun e w' h => ⟨by rw [h.1]; simp, h.2⟩
theorem areIn2s (lo hi x y : Int) (t : TypeId) (w : World) (B : Nat) (hB : w.heap.size = B) :
    Calls Tryd.prog 10 #[.int .i64 lo, .int .i64 hi, .slice (some ⟨B, 0, none⟩) 2 2] (w.alloc (.cells #[.int .i64 x, .int .i64 y] t)) fun e w' => e = .returned (.bool (inB x lo hi && inB y lo hi)) ∧ w.alloc (.cells #[.int .i64 x, .int .i64 y] t) = w' :=
  (areInRange_any B 2 2 [x, y] lo hi _ rfl (by omega) (lit2 w x y t B hB)).mono fun e w' h => ⟨by rw [h.1]; simp, h.2⟩
theorem lit3s (W : World) (x y z : Int) (t : TypeId) (B : Nat) (hB : W.heap.size = B) : ∀ (j : Nat) u, [x, y, z][j]? = some u → (W.alloc (.cells #[.int .i64 x, .int .i64 y, .int .i64 z] t)).cell? ⟨B, j, none⟩ = some (.int .i64 u) := by
  intro j u hj
  subst hB
  match j, hj with
  | 0, hj => simp at hj; subst hj; simp [World.cell?_alloc_new]
  | 1, hj => simp at hj; subst hj; simp [World.cell?_alloc_new]
  | 2, hj => simp at hj; subst hj; simp [World.cell?_alloc_new]
  | j + 3, hj => simp at hj

set_option maxHeartbeats 6400000 in
set_option maxRecDepth 100000 in
theorem implSpotText_any (s : VSpot) (w : World) (ht : TabPow w) :
    Calls Tryd.prog 6 #[.agg #[.int .i64 s.X, .int .i64 s.Y, .int .i64 s.Den]] w (SpotText_Post s w) := by
  have TT := Lib.hid ht
  clear ht
  obtain ⟨p, hp⟩ : ∃ p, inB s.Den 1 160000 = p := ⟨_, rfl⟩
  obtain ⟨q, hq⟩ : ∃ p, (inB s.X (-2000000000000) 2000000000000 && inB s.Y (-2000000000000) 2000000000000) = p := ⟨_, rfl⟩
  obtain ⟨g, hg⟩ : ∃ g, spotGcd s = g := ⟨_, rfl⟩
  have V := Lib.hid (show spotOk s = (p && (q && decide (g = 1))) by unfold spotOk; rw [hp, hq, hg])
  have P := Lib.hid hp
  have Q := Lib.hid hq
  have G := Lib.hid hg
  clear hp hq hg
  have X0 := Lib.hid ((BoxSpot.new w 26 s _ rfl).below (bel_al1 _ (.cells #[.int .i64 s.Den] 3)))
  have B0 := Lib.hid (bel_al2 w (.cells #[.int .i64 s.X, .int .i64 s.Y, .int .i64 s.Den] 26) (.cells #[.int .i64 s.Den] 3))
  obtain ⟨d0, d1, d2⟩ := BoxSpot.new w 26 s _ rfl
  go_enter Tryd.func6, Tryd.ntmps6
  go_wp2_with fail
  refine (areIn1s _ _ _ _ _ _ (by simp)).mono ?_
  rintro e w' ⟨rfl, rfl⟩
  rw [P.out]
  obtain ⟨W1, hW1⟩ : ∃ W1, (w.alloc (.cells #[.int .i64 s.X, .int .i64 s.Y, .int .i64 s.Den] 26)).alloc (.cells #[.int .i64 s.Den] 3) = W1 := ⟨_, rfl⟩
  rw [hW1] at X0 B0 ⊢
  clear hW1 d0 d1 d2
  cases p
  · have V1 := Lib.hid (show SpotText_0 s = ⟨#[]⟩ ∧ SpotText_1 s = false by unfold SpotText_0 SpotText_1; rw [V.out]; exact ⟨rfl, rfl⟩)
    go_wp2
    go_ret2
    exact ⟨ret_txt V1.out.1.symm V1.out.2.symm, B0.out⟩
  obtain ⟨d0, d1, d2⟩ := X0.out
  have X1 := Lib.hid (X0.out.below (bel_al1 _ (.cells #[.int .i64 s.X, .int .i64 s.Y] 3)))
  have B1 := Lib.hid (Below.then' B0.out (bel_al1 _ (.cells #[.int .i64 s.X, .int .i64 s.Y] 3)))
  go_wp2_with fail
  refine (areIn2s _ _ _ _ _ _ _ (by simp)).mono ?_
  rintro e w' ⟨rfl, rfl⟩
  rw [Q.out]
  obtain ⟨W2, hW2⟩ : ∃ W2, W1.alloc (.cells #[.int .i64 s.X, .int .i64 s.Y] 3) = W2 := ⟨_, rfl⟩
  rw [hW2] at X1 B1 ⊢
  clear hW2 d0 d1 d2
  cases q
  · have V1 := Lib.hid (show SpotText_0 s = ⟨#[]⟩ ∧ SpotText_1 s = false by unfold SpotText_0 SpotText_1; rw [V.out]; exact ⟨rfl, rfl⟩)
    go_wp2
    go_ret2
    exact ⟨ret_txt V1.out.1.symm V1.out.2.symm, B1.out⟩
  have hQ := Q.out
  rw [Bool.and_eq_true, inB_iff, inB_iff] at hQ
  have hP := inB_iff.1 P.out
  have AB := Lib.hid (show ∀ z ∈ [s.X, s.Y, s.Den], z.natAbs ≤ 4000000000000000000 by intro z hz; simp at hz; omega)
  obtain ⟨d0, d1, d2⟩ := X1.out
  have X2 := Lib.hid (X1.out.below (bel_al1 _ (.cells #[.int .i64 s.X, .int .i64 s.Y, .int .i64 s.Den] 3)))
  have B2 := Lib.hid (Below.then' B1.out (bel_al1 _ (.cells #[.int .i64 s.X, .int .i64 s.Y, .int .i64 s.Den] 3)))
  go_wp2_with fail
  refine (commonDivisor_any _ 3 3 [s.X, s.Y, s.Den] _ rfl (by omega) AB.out (lit3s _ _ _ _ _ _ (by simp))).mono ?_
  rintro e w3 ⟨rfl, hb⟩
  rw [gcdL_spot, G.out]
  have X3 := Lib.hid (X2.out.below hb)
  have B3 := Lib.hid (Below.then' B2.out hb)
  clear hb d0 d1 d2
  by_cases hg1 : g = 1
  case neg =>
    have hg2 : ((g : Int) != 1) = true := by simp; omega
    have V1 := Lib.hid (show SpotText_0 s = ⟨#[]⟩ ∧ SpotText_1 s = false by unfold SpotText_0 SpotText_1; rw [V.out, decide_eq_false hg1]; exact ⟨rfl, rfl⟩)
    clear hg1
    go_wp2
    go_ret2
    exact ⟨ret_txt V1.out.1.symm V1.out.2.symm, B3.out⟩
  subst hg1
  have OK : spotOk s = true := V.out
  have V1 := Lib.hid (show SpotText_0 s = spotText s ∧ SpotText_1 s = true by unfold SpotText_0 SpotText_1; rw [OK]; exact ⟨rfl, rfl⟩)
  have zb := spotBase_size OK
  have z0 := textOf_sizeB s.X (by omega) (by omega)
  have z1 := textOf_sizeB s.Y (by omega) (by omega)
  have z2 := textOf_sizeB s.Den (by omega) (by omega)
  have k0 : ∀ W, TabPow W → Calls Tryd.prog 12 #[.int .i64 s.X] W fun e w' => e = .returned (.string (textOf s.X)) ∧ Below W.heap.size W w' := fun W hT => itoaB_any _ (by omega) (by omega) W hT
  have k1 : ∀ W, TabPow W → Calls Tryd.prog 12 #[.int .i64 s.Y] W fun e w' => e = .returned (.string (textOf s.Y)) ∧ Below W.heap.size W w' := fun W hT => itoaB_any _ (by omega) (by omega) W hT
  have K2 := Lib.hid (show ∀ W, TabPow W → Calls Tryd.prog 12 #[.int .i64 s.Den] W fun e w' => e = .returned (.string (textOf s.Den)) ∧ Below W.heap.size W w' from fun W hT => itoaB_any _ (by omega) (by omega) W hT)
  have T : Hid (spotBase s = textOf s.X ++ ⟨#[44]⟩ ++ textOf s.Y) := Lib.hid rfl
  have TO := Lib.hid (spotText_long s)
  have TP := Lib.hid (spotText_plain s)
  generalize textOf s.X = t0 at *
  generalize textOf s.Y = t1 at *
  generalize textOf s.Den = t2 at *
  generalize spotText s = tt at *
  clear OK hQ hP
  go_wp2
  refine wp_world (fun W => BoxSpot W w.heap.size s ∧ Below w.heap.size w W) ⟨X3.out, B3.out⟩ ?_
  rintro W ⟨hbox, hbw⟩
  have BX := Lib.hid hbox
  obtain ⟨e0, e1, e2⟩ := hbox
  have BW := Lib.hid hbw
  have T2 := Lib.hid (tabPow_below TT.out hbw)
  have g0 := cell_regrown e0
  have g1 := cell_regrown e1
  have q0 := below_at (W := W) (fun W' hb => k0 W' (tabPow_below T2.out hb))
  have q1 := below_at (W := W) (fun W' hb => k1 W' (tabPow_below T2.out hb))
  clear e0 e1 e2 hbw k0 k1
  refine wp_region_quiet_below (by kernel_rfl) (by kernel_rfl) ?_
  repeat (first | go_big_quiet_step (first | (with_reducible exact q0 _ _) | (with_reducible exact q1 _ _)) | quiet_step (first | (with_reducible exact q0 _ _) | (with_reducible exact q1 _ _)))
  refine wpQuiet_nil ?_
  intro W5 hw5
  have hb5 := below_of_re hw5
  have B5 := Lib.hid (Below.then' BW.out hb5)
  have T3 := Lib.hid (tabPow_below T2.out hb5)
  obtain ⟨e0, e1, e2⟩ := BX.out.below hb5
  clear hw5 hb5 q0 q1 g0 g1
  rw [← T.out]
  generalize spotBase s = tb at *
  by_cases hf : 1 < s.Den
  · have E := Lib.hid (TO.out hf)
    go_wp2_with fail
    refine (K2.out _ T3.out).mono ?_
    rintro e w6 ⟨rfl, hb⟩
    have B6 := Lib.hid (Below.then' B5.out hb)
    clear hb
    go_wp2
    go_ret2
    exact ⟨ret_txt (by rw [V1.out.1, E.out, str_assoc']) V1.out.2.symm, B6.out⟩
  · have E := Lib.hid (TP.out (by omega))
    go_wp2
    go_ret2
    exact ⟨ret_txt (by rw [V1.out.1, E.out]) V1.out.2.symm, B5.out⟩
end Go.Proofs.YtghgipadogdfiaaDoor
