/- StretchOf, in the program and in the model. -/
import Derived.Test.YtghgipadogdfiaaPi6
import Derived.Test.YtghgipadogdfiaaLow
namespace Go.Proofs.Ytghgipadogdfiaa
open Go.RowKit

def rn (xs : List VGridTurn) (k : Nat) : Nat := prodNum (xs.take k) / Nat.gcd (prodNum (xs.take k)) (prodDen (xs.take k))
def rd (xs : List VGridTurn) (k : Nat) : Nat := prodDen (xs.take k) / Nat.gcd (prodNum (xs.take k)) (prodDen (xs.take k))
structure PB (xs : List VGridTurn) (k : Nat) : Prop where
  n0 : 1 ≤ prodNum (xs.take k)
  n1 : prodNum (xs.take k) ≤ 160000
  d0 : 1 ≤ prodDen (xs.take k)
  d1 : prodDen (xs.take k) ≤ 160000
  q0 : 0 ≤ sumQ (xs.take k)
  q1 : sumQ (xs.take k) ≤ 3
theorem pb {xs : List VGridTurn} (h : chOk xs = true) {k : Nat} (hk : k ≤ xs.length) : PB xs k := by
  obtain ⟨h1, h2⟩ := chOk_iff.1 h
  obtain ⟨a1, a2, a3, a4, a5, a6⟩ := prods_bd h1 k hk
  have hp : 20 ^ k ≤ 20 ^ 4 := Nat.pow_le_pow_right (by omega) (by omega)
  exact ⟨a1, by omega, a3, by omega, a5, a6⟩
theorem take_turn {xs : List VGridTurn} {k : Nat} {t : VGridTurn} (h : xs[k]? = some t) : xs.take (k + 1) = xs.take k ++ [t] := by rw [List.take_add_one, h]; rfl
theorem results_four {fn : Func} {t u v x : Tmp} (h : fn.results = #[.tmp t, .tmp u, .tmp v, .tmp x]) (tmps : Array Value) (P : Program) (w : World) :
    (results fn tmps).run P w = .ok (.tuple #[tmps.getD t undef, tmps.getD u undef, tmps.getD v undef, tmps.getD x undef]) w := by
  simp [results, h]
theorem ret_iiib {a b c d e f : Int} {p q : Bool} (h : a = d) (k : b = e) (l : c = f) (m : p = q) : Ending.returned (.tuple #[.int .i64 a, .int .i64 b, .int .i64 c, .bool p]) = .returned (.tuple #[.int .i64 d, .int .i64 e, .int .i64 f, .bool q]) := by rw [h, k, l, m]
theorem wrap_prod {n a N : Nat} (h : n * a = N) (hN : N ≤ 1000000000000) : IntKind.i64.wrap ((n : Int) * (a : Int)) = (N : Int) := by
  have : ((n : Int) * (a : Int)) = (N : Int) := by rw [← h]; push_cast; rfl
  rw [this]
  exact IntWalk.i64_in _ (by omega)
set_option maxHeartbeats 3200000 in
set_option maxRecDepth 100000 in
theorem implStretchOf_any (a : Option Addr) (len cap : Nat) (xs : List VGridTurn) (w : World) (h : IsGridTurnS w a len cap xs) (_ : xs.length ≤ 1048576) :
    Calls Try.prog 23 #[.slice a len cap] w (StretchOf_Post xs w) := by
  have hm := h.2.2.1
  have hcl := h.2.1
  unfold maxLen at hm
  have S := Lib.hid h
  have L := Lib.hid h.1
  clear h
  obtain ⟨c, hc⟩ : ∃ c, chOk xs = c := ⟨_, rfl⟩
  have C := Lib.hid hc
  clear hc
  go_enter Try.func23, Try.ntmps23
  go_wp2_with fail
  refine (isChain_any _ _ _ xs _ S.out).mono ?_
  rintro e w1 ⟨rfl, hb⟩
  rw [C.out]
  have B1 := Lib.hid hb
  clear hb
  cases c
  · have V := Lib.hid (show StretchOf_0 xs = 0 ∧ StretchOf_1 xs = 0 ∧ StretchOf_2 xs = 0 ∧ StretchOf_3 xs = false by unfold StretchOf_0 StretchOf_1 StretchOf_2 StretchOf_3; rw [C.out]; exact ⟨rfl, rfl, rfl, rfl⟩)
    go_wp2
    refine bodyPost_ret (results_four rfl _ _ _) rfl ?_
    exact ⟨ret_iiib V.out.1.symm V.out.2.1.symm V.out.2.2.1.symm V.out.2.2.2.symm, B1.out⟩
  go_wp2
  go_loopw [6, 7, 8, 10, 16] (fun q n d _ i wr => ∃ k : Nat, k ≤ len ∧ i = .int .i64 k ∧ q = .int .i64 (sumQ (xs.take k)) ∧ n = .int .i64 (rn xs k : Int) ∧ d = .int .i64 (rd xs k : Int) ∧ Below w.heap.size w wr) (fun _ _ _ _ i _ => len - (intOf i).toNat)
  case atStart => exact ⟨0, Nat.zero_le _, rfl, rfl, by simp [rn, prodNum, prodDen], by simp [rd, prodNum, prodDen], B1.out⟩
  case round =>
    obtain ⟨k, hk, rfl, rfl, rfl, rfl, hb⟩ := hrel
    have BR := Lib.hid hb
    obtain ⟨n0, n1, d0, d1, q0, q1⟩ := pb C.out (k := k) (by have := L.out; omega)
    by_cases hlt : k < len
    · obtain ⟨t, ht⟩ := turn_at L hlt
      obtain ⟨b, o, rfl, hbl, hat⟩ := (S.out.below hb).at (by omega)
      obtain ⟨c0, c1, c2, c3, c4⟩ := hat k t ht
      have hi0 : (0 : Int) ≤ (k : Int) := by omega
      have hi1 : (k : Int) < (len : Int) := by omega
      have OK := turn_iff.1 ((chOk_iff.1 C.out).1 t (List.mem_of_getElem? ht))
      have TS := Lib.hid (take_turn ht)
      obtain ⟨⟨tq0, tq1⟩, ⟨tn0, tn1⟩, ⟨td0, td1⟩, _⟩ := OK
      obtain ⟨x, hx⟩ := Int.eq_ofNat_of_zero_le (show 0 ≤ t.Num by omega)
      obtain ⟨y, hy⟩ := Int.eq_ofNat_of_zero_le (show 0 ≤ t.Den by omega)
      have hx20 : x ≤ 20 := by omega
      have hy20 : y ≤ 20 := by omega
      have hx1 : 1 ≤ x := by omega
      have hy1 : 1 ≤ y := by omega
      obtain ⟨Q, hQ⟩ : ∃ Q, sumQ (xs.take k) = Q := ⟨_, rfl⟩
      obtain ⟨N, hN⟩ : ∃ N, prodNum (xs.take k) = N := ⟨_, rfl⟩
      obtain ⟨D, hD⟩ : ∃ D, prodDen (xs.take k) = D := ⟨_, rfl⟩
      have hrn : rn xs k = N / Nat.gcd N D := by unfold rn; rw [hN, hD]
      have hrd : rd xs k = D / Nat.gcd N D := by unfold rd; rw [hN, hD]
      have Q1 := Lib.hid (show sumQ (xs.take (k + 1)) = (Q + t.Quarters) % 4 by rw [TS.out, sumQ_snoc, hQ])
      have N1 := Lib.hid (show rn xs (k + 1) = (N * x) / Nat.gcd (N * x) (D * y) by unfold rn; rw [TS.out, prodNum_snoc, prodDen_snoc, hN, hD, hx, hy, Int.toNat_natCast, Int.toNat_natCast])
      have D1 := Lib.hid (show rd xs (k + 1) = (D * y) / Nat.gcd (N * x) (D * y) by unfold rd; rw [TS.out, prodNum_snoc, prodDen_snoc, hN, hD, hx, hy, Int.toNat_natCast, Int.toNat_natCast])
      rw [hN] at n0 n1
      rw [hD] at d0 d1
      rw [hQ] at q0 q1
      rw [hQ, hrn, hrd]
      obtain ⟨e1, e2⟩ := redN_step (n := N) (d := D) (a := x) (b := y) d0
      have l1 := Nat.div_le_self N (Nat.gcd N D)
      have l2 := Nat.div_le_self D (Nat.gcd N D)
      have l3 : 0 < D / Nat.gcd N D := Nat.div_pos (Nat.le_of_dvd d0 (Nat.gcd_dvd_right _ _)) (Nat.gcd_pos_of_pos_right _ d0)
      obtain ⟨n, hn⟩ : ∃ n, N / Nat.gcd N D = n := ⟨_, rfl⟩
      obtain ⟨d, hd⟩ : ∃ d, D / Nat.gcd N D = d := ⟨_, rfl⟩
      rw [hn, hd] at e1 e2
      rw [hn] at l1
      rw [hd] at l2 l3
      rw [hn, hd]
      obtain ⟨nx, hnx⟩ : ∃ m, n * x = m := ⟨_, rfl⟩
      obtain ⟨dy, hdy⟩ : ∃ m, d * y = m := ⟨_, rfl⟩
      have nx1 : nx ≤ 160000 * 20 := by rw [← hnx]; exact Nat.mul_le_mul (by omega) hx20
      have dy1 : dy ≤ 160000 * 20 := by rw [← hdy]; exact Nat.mul_le_mul (by omega) hy20
      have dy0 : 0 < dy := by rw [← hdy]; exact Nat.mul_pos l3 hy1
      rw [hnx, hdy] at e1 e2
      have E1 := Lib.hid (e1.trans N1.out.symm)
      have E2 := Lib.hid (e2.trans D1.out.symm)
      have v1 := wrap_prod hnx (by omega)
      have v2 := wrap_prod hdy (by omega)
      have v3 : IntKind.i64.wrap (Q + t.Quarters) = Q + t.Quarters := IntWalk.i64_in _ (by omega)
      have v4 : IntKind.i64.wrap ((Q + t.Quarters) % 4) = (Q + t.Quarters) % 4 := IntWalk.i64_in _ (by omega)
      have v5 : (Q + t.Quarters).tmod 4 = (Q + t.Quarters) % 4 := Int.tmod_eq_emod_of_nonneg (by omega)
      rw [hx] at c1
      rw [hy] at c2
      obtain ⟨z, hz⟩ : ∃ z, t.Quarters = z := ⟨_, rfl⟩
      rw [hz] at c0 v3 v4 v5 Q1
      have X := BoxGridTurn.new wr 40 ⟨z, (x : Int), (y : Int), t.East, t.North⟩ _ rfl
      dsimp only at X
      obtain ⟨f0, f1, f2, f3, f4⟩ := X
      clear hb hat ht hx hy hQ hN hD hrn hrd N1 D1 e1 e2 hn hd hnx hdy hz
      go_wp2_with fail
      refine (lowestTerms_any nx dy _ dy0 (by omega) (by omega)).mono ?_
      rintro e w2 ⟨rfl, hb⟩
      rw [E1.out, E2.out]
      have B2 := Lib.hid (Below.then' (Below.then' BR.out (bel_al1 _ _)) hb)
      clear hb f0 f1 f2 f3 f4 c0 c1 c2 c3 c4
      go_wp2
      go_roundw
      case rel => exact ⟨k + 1, by omega, by go_num, by rw [Q1.out], rfl, rfl, B2.out⟩
      case measure => simp [intOf]; omega
    · obtain rfl : k = len := by omega
      have E : xs.take k = xs := List.take_of_length_le (by have := L.out; omega)
      have V := Lib.hid (show StretchOf_0 xs = sumQ (xs.take k) ∧ StretchOf_1 xs = (rn xs k : Int) ∧ StretchOf_2 xs = (rd xs k : Int) ∧ StretchOf_3 xs = true by unfold StretchOf_0 StretchOf_1 StretchOf_2 StretchOf_3 rn rd; rw [C.out, E]; exact ⟨rfl, rfl, rfl, rfl⟩)
      clear hb E
      go_wp2
      refine bodyPost_ret (results_four rfl _ _ _) rfl ?_
      exact ⟨ret_iiib V.out.1.symm V.out.2.1.symm V.out.2.2.1.symm V.out.2.2.2.symm, BR.out⟩
set_option maxHeartbeats 3200000 in
set_option maxRecDepth 100000 in
theorem specStretchOf_any (a : Option Addr) (len cap : Nat) (xs : List VGridTurn) (w : World) (h : IsGridTurnS w a len cap xs) (_ : xs.length ≤ 1048576) :
    Calls Try.prog 31 #[.slice a len cap] w (StretchOf_Post xs w) := by
  have hm := h.2.2.1
  have hcl := h.2.1
  unfold maxLen at hm
  have S := Lib.hid h
  have L := Lib.hid h.1
  clear h
  obtain ⟨c, hc⟩ : ∃ c, chOk xs = c := ⟨_, rfl⟩
  have C := Lib.hid hc
  clear hc
  go_enter Try.func31, Try.ntmps31
  go_wp2_with fail
  refine (l4Chain_any _ _ _ xs _ S.out).mono ?_
  rintro e w1 ⟨rfl, hb⟩
  rw [C.out]
  have B1 := Lib.hid hb
  clear hb
  cases c
  · have V := Lib.hid (show StretchOf_0 xs = 0 ∧ StretchOf_1 xs = 0 ∧ StretchOf_2 xs = 0 ∧ StretchOf_3 xs = false by unfold StretchOf_0 StretchOf_1 StretchOf_2 StretchOf_3; rw [C.out]; exact ⟨rfl, rfl, rfl, rfl⟩)
    go_wp2
    refine bodyPost_ret (results_four rfl _ _ _) rfl ?_
    exact ⟨ret_iiib V.out.1.symm V.out.2.1.symm V.out.2.2.1.symm V.out.2.2.2.symm, B1.out⟩
  go_wp2
  go_loopw [6, 7, 8, 9] (fun q n d i wr => ∃ k : Nat, k ≤ len ∧ i = .int .i64 k ∧ q = .int .i64 (sumQ (xs.take k)) ∧ n = .int .i64 (prodNum (xs.take k) : Int) ∧ d = .int .i64 (prodDen (xs.take k) : Int) ∧ Below w.heap.size w wr) (fun _ _ _ i _ => len - (intOf i).toNat)
  case atStart => exact ⟨0, Nat.zero_le _, rfl, rfl, rfl, rfl, B1.out⟩
  case round =>
    obtain ⟨k, hk, rfl, rfl, rfl, rfl, hb⟩ := hrel
    have BR := Lib.hid hb
    obtain ⟨n0, n1, d0, d1, q0, q1⟩ := pb C.out (k := k) (by have := L.out; omega)
    by_cases hlt : k < len
    · obtain ⟨t, ht⟩ := turn_at L hlt
      obtain ⟨b, o, rfl, hbl, hat⟩ := (S.out.below hb).at (by omega)
      obtain ⟨c0, c1, c2, c3, c4⟩ := hat k t ht
      have hi0 : (0 : Int) ≤ (k : Int) := by omega
      have hi1 : (k : Int) < (len : Int) := by omega
      have OK := turn_iff.1 ((chOk_iff.1 C.out).1 t (List.mem_of_getElem? ht))
      have TS := Lib.hid (take_turn ht)
      obtain ⟨⟨tq0, tq1⟩, ⟨tn0, tn1⟩, ⟨td0, td1⟩, _⟩ := OK
      obtain ⟨x, hx⟩ := Int.eq_ofNat_of_zero_le (show 0 ≤ t.Num by omega)
      obtain ⟨y, hy⟩ := Int.eq_ofNat_of_zero_le (show 0 ≤ t.Den by omega)
      have hx20 : x ≤ 20 := by omega
      have hy20 : y ≤ 20 := by omega
      obtain ⟨Q, hQ⟩ : ∃ Q, sumQ (xs.take k) = Q := ⟨_, rfl⟩
      obtain ⟨N, hN⟩ : ∃ N, prodNum (xs.take k) = N := ⟨_, rfl⟩
      obtain ⟨D, hD⟩ : ∃ D, prodDen (xs.take k) = D := ⟨_, rfl⟩
      obtain ⟨nx, hnx⟩ : ∃ m, N * x = m := ⟨_, rfl⟩
      obtain ⟨dy, hdy⟩ : ∃ m, D * y = m := ⟨_, rfl⟩
      have Q1 := Lib.hid (show sumQ (xs.take (k + 1)) = (Q + t.Quarters) % 4 by rw [TS.out, sumQ_snoc, hQ])
      have N1 := Lib.hid (show prodNum (xs.take (k + 1)) = nx by rw [TS.out, prodNum_snoc, hN, hx, Int.toNat_natCast, hnx])
      have D1 := Lib.hid (show prodDen (xs.take (k + 1)) = dy by rw [TS.out, prodDen_snoc, hD, hy, Int.toNat_natCast, hdy])
      rw [hN] at n0 n1
      rw [hD] at d0 d1
      rw [hQ] at q0 q1
      rw [hQ, hN, hD]
      have nx1 : nx ≤ 160000 * 20 := by rw [← hnx]; exact Nat.mul_le_mul (by omega) hx20
      have dy1 : dy ≤ 160000 * 20 := by rw [← hdy]; exact Nat.mul_le_mul (by omega) hy20
      have v1 := wrap_prod hnx (by omega)
      have v2 := wrap_prod hdy (by omega)
      have v3 : IntKind.i64.wrap (Q + t.Quarters) = Q + t.Quarters := IntWalk.i64_in _ (by omega)
      have v4 : IntKind.i64.wrap ((Q + t.Quarters) % 4) = (Q + t.Quarters) % 4 := IntWalk.i64_in _ (by omega)
      have v5 : (Q + t.Quarters).tmod 4 = (Q + t.Quarters) % 4 := Int.tmod_eq_emod_of_nonneg (by omega)
      rw [hx] at c1
      rw [hy] at c2
      obtain ⟨z, hz⟩ : ∃ z, t.Quarters = z := ⟨_, rfl⟩
      rw [hz] at c0 v3 v4 v5 Q1
      clear hb hat ht hx hy hQ hN hD hnx hdy hz
      go_wp2
      go_roundw
      case rel => exact ⟨k + 1, by omega, by go_num, by rw [Q1.out], by rw [N1.out], by rw [D1.out], BR.out⟩
      case measure => simp [intOf]; omega
    · obtain rfl : k = len := by omega
      have E : xs.take k = xs := List.take_of_length_le (by have := L.out; omega)
      have V := Lib.hid (show StretchOf_0 xs = sumQ (xs.take k) ∧ StretchOf_1 xs = (rn xs k : Int) ∧ StretchOf_2 xs = (rd xs k : Int) ∧ StretchOf_3 xs = true by unfold StretchOf_0 StretchOf_1 StretchOf_2 StretchOf_3 rn rd; rw [C.out, E]; exact ⟨rfl, rfl, rfl, rfl⟩)
      clear hb E
      go_wp2_with fail
      refine (l2Reduce_any _ _ _ d0 (by omega) (by omega)).mono ?_
      rintro e w2 ⟨rfl, hb⟩
      have B2 := Lib.hid (Below.then' BR.out hb)
      clear hb
      go_wp2
      refine bodyPost_ret (results_four rfl _ _ _) rfl ?_
      exact ⟨ret_iiib V.out.1.symm V.out.2.1.symm V.out.2.2.1.symm V.out.2.2.2.symm, B2.out⟩
end Go.Proofs.Ytghgipadogdfiaa
