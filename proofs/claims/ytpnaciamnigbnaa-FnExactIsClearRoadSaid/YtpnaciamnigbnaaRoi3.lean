/- Roads in the program: lengths. -/
import Derived.Test.YtpnaciamnigbnaaRoi2
import Derived.Test.YtpnaciamnigbnaaRow
namespace Go.Proofs.Ytpnaciamnigbnaa
open Go.RowKit

theorem ret_iR {a b : Int} {p q : Bool} (h : a = b) (k : p = q) : Ending.returned (.tuple #[.int .i64 a, .bool p]) = .returned (.tuple #[.int .i64 b, .bool q]) := by rw [h, k]
def fromP (p : VroadPart) : VCorner := ⟨p.FX, p.FY⟩
def toP (p : VroadPart) : VCorner := ⟨p.TX, p.TY⟩
def okP (p : VroadPart) : Bool := okC (fromP p) && okC (toP p)
def lenP (ps : List VroadPart) (k : Nat) : Nat := ((ps.take k).map fun p => partL (fromP p) (toP p)).sum
theorem okP_at {xs : List VCorner} (hr : Road xs) {i : Nat} (hi : i + 1 < xs.length) : okP (partOf xs i) = true := by
  unfold okP
  rw [show fromP (partOf xs i) = ptC xs i from rfl, show toP (partOf xs i) = ptC xs (i + 1) from rfl, hr.ok (by omega), hr.ok hi]; rfl
theorem okP_all {xs : List VCorner} (hr : Road xs) : ∀ p ∈ partsOf xs, okP p = true := by
  intro p hp
  unfold partsOf partsTo at hp
  obtain ⟨i, hi, rfl⟩ := List.mem_map.1 hp
  exact okP_at hr (by have := List.mem_range.1 hi; omega)
theorem lenP_succ {ps : List VroadPart} {k : Nat} {p : VroadPart} (h : ps[k]? = some p) : lenP ps (k + 1) = lenP ps k + partL (fromP p) (toP p) := by
  unfold lenP
  rw [List.take_add_one, h]; simp
theorem lenP_bd {ps : List VroadPart} (h : ∀ p ∈ ps, okP p = true) : ∀ (k : Nat), k ≤ ps.length → lenP ps k ≤ k * 1414072 := by
  intro k
  induction k with
  | zero => intro _; simp [lenP]
  | succ k ih =>
    intro hk
    have hp : ps[k]? = some ps[k] := List.getElem?_eq_getElem (by omega)
    have h1 := ih (by omega)
    have h2 := h ps[k] (List.getElem_mem _)
    unfold okP at h2
    simp only [Bool.and_eq_true] at h2
    have h3 := partL_bd h2.1 h2.2
    rw [lenP_succ hp]
    omega
theorem lenP_parts (xs : List VCorner) (n : Nat) : ∀ (k : Nat), k ≤ n → lenP (partsTo xs n) k = lenTo xs k := by
  intro k
  induction k with
  | zero => intro _; simp [lenP, lenTo]
  | succ k ih =>
    intro hk
    rw [lenP_succ (partsTo_at xs (show k < n by omega)), ih (by omega)]
    rfl
theorem lenP_road (xs : List VCorner) : lenP (partsOf xs) (partsOf xs).length = lenR xs := by
  unfold partsOf lenR
  rw [partsTo_len]
  exact lenP_parts xs _ _ (Nat.le_refl _)
theorem partL_toNat {p : VroadPart} (h : okP p = true) : 10000 * ((p.TX - p.FX) * (p.TX - p.FX) + (p.TY - p.FY) * (p.TY - p.FY)) = ((dist2 (fromP p) (toP p)).toNat : Int) ∧ (dist2 (fromP p) (toP p)).toNat < 2199023255552 := by
  unfold okP at h
  simp only [Bool.and_eq_true] at h
  have h1 := dist2_bd h.1 h.2
  refine ⟨?_, by omega⟩
  rw [Int.toNat_of_nonneg h1.1]
  unfold dist2 fromP toP
  simp only []
  grind
set_option maxHeartbeats 6400000 in
set_option maxRecDepth 100000 in
theorem lengthOf_any (a : Option Addr) (len cap : Nat) (ps : List VroadPart) (w : World) (h : IsroadPartS w a len cap ps) (hok : ∀ p ∈ ps, okP p = true) (hn : ps.length ≤ 20) :
    Calls Try.prog 114 #[.slice a len cap] w fun e w' => e = .returned (.int .i64 (lenP ps ps.length : Int)) ∧ Below w.heap.size w w' := by
  have hm := h.2.2.1
  have hcl := h.2.1
  unfold maxLen at hm
  obtain rfl := h.1
  have S := Lib.hid h
  have OK := Lib.hid hok
  clear h hok
  go_enter Try.func114, Try.ntmps114
  go_wp2
  go_loopw [10, 3] (fun i o wr => ∃ k : Nat, k ≤ ps.length ∧ i = .int .i64 k ∧ o = .int .i64 (lenP ps k : Int) ∧ Below w.heap.size w wr) (fun i _ _ => ps.length - (intOf i).toNat)
  case atStart => exact ⟨0, Nat.zero_le _, rfl, rfl, Below.refl _ _⟩
  case round =>
    obtain ⟨k, hk, rfl, rfl, hbel⟩ := hrel
    have B := Lib.hid hbel
    by_cases hlt : k < ps.length
    · obtain ⟨p, hp⟩ : ∃ p, ps[k]? = some p := ⟨ps[k]'hlt, List.getElem?_eq_getElem _⟩
      obtain ⟨b, o, rfl, hb, hat⟩ := (S.out.below hbel).at (by omega)
      obtain ⟨c0, c1, c2, c3⟩ := hat k p hp
      have hokp := OK.out p (List.mem_of_getElem? hp)
      have T := partL_toNat hokp
      have LS := Lib.hid (lenP_succ hp)
      have lb := lenP_bd OK.out k hk
      have hokp2 := hokp
      unfold okP at hokp2
      simp only [Bool.and_eq_true] at hokp2
      have pb := partL_bd hokp2.1 hokp2.2
      have O1 := Lib.hid hokp2.1
      have O2 := Lib.hid hokp2.2
      have f := okC_iff.1 hokp2.1
      have g := okC_iff.1 hokp2.2
      simp only [fromP, toP] at f g
      obtain ⟨x, hx⟩ : ∃ x, p.TX - p.FX = x := ⟨_, rfl⟩
      obtain ⟨y, hy⟩ : ∃ y, p.TY - p.FY = y := ⟨_, rfl⟩
      have m1 := mul_bd (x := x) (A := 9999) (by omega) (by omega)
      have m2 := mul_bd (x := y) (A := 9999) (by omega) (by omega)
      rw [hx, hy] at T
      obtain ⟨N, hN⟩ : ∃ N, (dist2 (fromP p) (toP p)).toNat = N := ⟨_, rfl⟩
      obtain ⟨q, hq⟩ : ∃ q, partL (fromP p) (toP p) = q := ⟨_, rfl⟩
      have PQ := Lib.hid (show qroot N = q from by rw [← hN]; exact hq)
      rw [hN] at T
      obtain ⟨t1, t2⟩ := T
      rw [hq] at pb
      have LQ := Lib.hid (show lenP ps (k + 1) = lenP ps k + q from by rw [LS.out, hq])
      have T2 := Lib.hid t2
      obtain ⟨l, hl⟩ : ∃ l, lenP ps k = l := ⟨_, rfl⟩
      rw [hl]
      rw [hl] at lb
      have HL := Lib.hid hl
      have v1 : IntKind.i64.wrap (x * x) = x * x := IntWalk.i64_in _ (by omega)
      have v2 : IntKind.i64.wrap (y * y) = y * y := IntWalk.i64_in _ (by omega)
      have v3 : IntKind.i64.wrap (x * x + y * y) = x * x + y * y := IntWalk.i64_in _ (by omega)
      have v4 : IntKind.i64.wrap (10000 * (x * x + y * y)) = (N : Int) := (IntWalk.i64_in _ (by omega)).trans t1
      have v5 : IntKind.i64.wrap ((l : Int) + (q : Int)) = ((l + q : Nat) : Int) := by rw [IntWalk.i64_in _ (by omega)]; omega
      have X := Lib.hid hx
      have Y := Lib.hid hy
      have BA := Lib.hid (bel_al1 wr (.cells #[.int .i64 p.FX, .int .i64 p.FY, .int .i64 p.TX, .int .i64 p.TY] 105))
      have j0 : (0 : Int) ≤ (k : Int) := by omega
      have j1 : (k : Int) < (ps.length : Int) := by omega
      clear hat hp hbel hokp hokp2 LS hx hy hN hq hl t1 t2 f g m1 m2
      go_wp2_with fail
      refine (stepBetween_any (fromP p) (toP p) _ O1.out O2.out).mono ?_
      rintro e w1 ⟨rfl, hb1⟩
      rw [show (toP p).X - (fromP p).X = x from X.out, show (toP p).Y - (fromP p).Y = y from Y.out]
      have B1 := Lib.hid (Below.then' (Below.then' B.out BA.out) hb1)
      clear hb1 c0 c1 c2 c3
      go_wp2_with fail
      refine (wholeRoot_any N _ T2.out).mono ?_
      rintro e w2 ⟨rfl, rfl⟩
      rw [PQ.out]
      go_wp2
      go_roundw
      case rel => exact ⟨k + 1, by omega, by go_num, by rw [LQ.out, HL.out]; simp, B1.out⟩
      case measure => simp [intOf]; omega
    · obtain rfl : k = ps.length := by omega
      clear hbel
      go_wp2
      go_ret
      exact ⟨rfl, B.out⟩
theorem implRoadLength_any (a : Option Addr) (len cap : Nat) (xs : List VCorner) (w : World) (h : IsCornerS w a len cap xs) :
    Calls Try.prog 54 #[.slice a len cap] w (RoadLength_Post xs w) := by
  have S := Lib.hid h
  clear h
  obtain ⟨q, hq⟩ : ∃ q, roadB xs = q := ⟨_, rfl⟩
  have Q := Lib.hid hq
  clear hq
  go_enter Try.func54, Try.ntmps54
  go_wp2_with fail
  refine (isRoad_any _ _ _ xs _ S.out).mono ?_
  rintro e w1 ⟨rfl, hb⟩
  rw [Q.out]
  have B1 := Lib.hid hb
  clear hb
  cases q
  · have F0 := Lib.hid (show RoadLength_0 xs = 0 from by unfold RoadLength_0; rw [Q.out]; rfl)
    have F1 := Lib.hid (show RoadLength_1 xs = false from Q.out)
    go_wp2
    go_ret2
    exact ⟨ret_iR F0.out.symm F1.out.symm, B1.out⟩
  have R := Lib.hid (road_iff.1 Q.out)
  have F0 := Lib.hid (show RoadLength_0 xs = (lenP (partsOf xs) (partsOf xs).length : Int) from by unfold RoadLength_0; rw [Q.out, lenP_road]; rfl)
  have F1 := Lib.hid (show RoadLength_1 xs = true from Q.out)
  go_wp2_with fail
  refine (roadParts_any _ _ _ xs _ (S.out.below B1.out) R.out).mono ?_
  rintro e w2 ⟨v, rfl, hown, hb⟩
  obtain ⟨pa, pc, rfl, hi, _⟩ := isroadPartS_own hown
  have I := Lib.hid hi
  have B2 := Lib.hid (Below.then' B1.out hb)
  clear hb hi hown
  go_wp2_with fail
  refine (lengthOf_any _ _ _ (partsOf xs) _ I.out (okP_all R.out) (by have := R.out.l12; unfold partsOf; rw [partsTo_len]; omega)).mono ?_
  rintro e w3 ⟨rfl, hb⟩
  have B3 := Lib.hid (Below.then' B2.out hb)
  clear hb
  go_wp2
  go_ret2
  exact ⟨ret_iR F0.out.symm F1.out.symm, B3.out⟩
end Go.Proofs.Ytpnaciamnigbnaa
