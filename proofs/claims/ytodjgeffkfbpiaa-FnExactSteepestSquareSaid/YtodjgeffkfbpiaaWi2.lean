/- Reliefs in the program: IsRelief, isReliefWith. -/
import Derived.Test.YtodjgeffkfbpiaaWi
import Derived.Test.YtodjgeffkfbpiaaIsReliefP
namespace Go.Proofs.Ytodjgeffkfbpiaa
open Go.RowKit

set_option maxHeartbeats 1600000 in
/-- Are all numbers of a slice in lo .. hi? Wherever it lies. -/
theorem areInSlice_any (a : Option Addr) (n c : Nat) (zs : List Int) (lo hi : Int) (w : World) (h : IsInts w a n c zs) :
    Calls Try.prog 58 #[.int .i64 lo, .int .i64 hi, .slice a n c] w fun e w' => e = .returned (.bool (zs.all fun z => inB z lo hi)) ∧ w = w' := by
  have hm := h.2.2.1
  have hcl := h.2.1
  unfold maxLen at hm
  have L := Lib.hid h.1
  have S := Lib.hid h
  clear h
  go_enter Try.func58, Try.ntmps58
  go_wp2
  go_loop [11, 8] (fun i _ => ∃ k : Nat, k ≤ n ∧ i = .int .i64 k ∧ ((zs.take k).all fun z => inB z lo hi) = true) (fun i _ => n - (intOf i).toNat)
  case atStart => exact ⟨0, Nat.zero_le _, rfl, rfl⟩
  case round =>
    obtain ⟨k, hk, rfl, hall⟩ := hrel
    have H := Lib.hid hall
    clear hall
    by_cases hlt : k < n
    · obtain ⟨z, hz⟩ : ∃ z, zs[k]? = some z := ⟨zs[k]'(by have := L.out; omega), List.getElem?_eq_getElem _⟩
      obtain ⟨b, o, rfl, hb, hat⟩ := S.out.at (by omega)
      have hcell := hat k z hz
      have i0 : (0 : Int) ≤ (k : Int) := by omega
      have i1 : (k : Int) < (n : Int) := by omega
      have SN := Lib.hid (all_snoc zs k z lo hi hz)
      have T := Lib.hid (List.mem_of_getElem? hz)
      clear hz hat
      by_cases hin : inB z lo hi = true
      · obtain ⟨h1, h2⟩ := inB_iff.1 hin
        have I := Lib.hid hin
        clear hin
        go_wp2
        go_round
        case rel => exact ⟨k + 1, by omega, by go_num, by rw [SN.out, H.out, I.out]; rfl⟩
        case measure => simp [intOf]; omega
      · have hin' : inB z lo hi = false := by simpa using hin
        have h1 := inB_not.1 hin'
        have I := Lib.hid hin'
        have hF : (zs.all fun z => inB z lo hi) = false := by
          rw [List.all_eq_false]; exact ⟨z, T.out, by simp [I.out]⟩
        have F := Lib.hid hF
        clear hin hin' hF
        by_cases h2 : z < lo
        · clear h1
          go_wp2
          go_ret
          exact ⟨ret_bool F.out.symm, rfl⟩
        · have h3 : hi < z := by omega
          clear h1
          go_wp2
          go_ret
          exact ⟨ret_bool F.out.symm, rfl⟩
    · obtain rfl : k = n := by omega
      have F := Lib.hid (show (zs.all fun z => inB z lo hi) = true from by
        have := H.out
        rwa [List.take_of_length_le (by have := L.out; omega)] at this)
      go_wp2
      go_ret
      exact ⟨ret_bool F.out.symm, rfl⟩
/-- A row of a relief. -/
def rowB (D : List VIntS) (r : VIntS) : Bool := decide (r.length = colsN D) && r.all (fun z => inB z 0 9999)
theorem rlB_rows (D : List VIntS) : rlB D = (inB (D.length : Int) 1 8 && (inB (colsN D : Int) 1 8 && D.all (rowB D))) := by
  unfold rlB
  rw [show (fun r : List Int => decide (r.length = colsN D) && r.all (fun h => inB h 0 9999)) = rowB D from rfl]
  rw [Bool.eq_iff_iff]
  simp only [inB, Bool.and_eq_true, decide_eq_true_eq]
  constructor <;> rintro ⟨h1, h2⟩ <;> refine ⟨?_, ?_⟩ <;> (try omega) <;> (try (refine ⟨?_, ?_⟩)) <;> (try omega)
  · exact h2.2.2.2
  · refine ⟨by omega, by omega, h2.2⟩
theorem allB_more {α : Type} {P : α → Bool} {xs : List α} {k : Nat} {s : α} (h : (xs.take k).all P = true) (hs : xs[k]? = some s) (hp : P s = true) : (xs.take (k + 1)).all P = true := by
  rw [List.take_add_one, hs]; simp only [Option.toList_some, List.all_append, h, List.all_cons, hp, List.all_nil]; rfl
theorem all_bad {α : Type} {P : α → Bool} {xs : List α} {k : Nat} {s : α} (hs : xs[k]? = some s) (hp : P s = false) : xs.all P = false := by
  rw [List.all_eq_false]; exact ⟨s, List.mem_of_getElem? hs, by rw [hp]; simp⟩
set_option maxHeartbeats 6400000 in
set_option maxRecDepth 100000 in
theorem implIsRelief_any (a : Option Addr) (len cap : Nat) (D : List VIntS) (w : World) (h : IsIntSS w a len cap D) :
    Calls Try.prog 20 #[.slice a len cap] w (IsRelief_Post D w) := by
  have hm := h.2.2.1
  have hcl := h.2.1
  unfold maxLen at hm
  obtain rfl := h.1
  have RB := Lib.hid (rlB_rows D)
  have S0 := Lib.hid h
  have B1 := Lib.hid (bel_al1 w (.cells #[.int .i64 (D.length : Int)] 3))
  clear h
  obtain ⟨q1, e1⟩ : ∃ q, inB (D.length : Int) 1 8 = q := ⟨_, rfl⟩
  have E1 := Lib.hid e1
  clear e1
  go_enter Try.func20, Try.ntmps20
  go_wp2_with fail
  refine (areOne 1 8 _ _ _ _ (by simp)).mono ?_
  rintro e w' ⟨rfl, rfl⟩
  rw [E1.out]
  cases q1
  · have F := Lib.hid (show rlB D = false from by rw [RB.out, E1.out]; rfl)
    go_wp2
    go_ret
    exact ⟨ret_bool F.out.symm, B1.out⟩
  have hl := inB_iff.1 E1.out
  obtain ⟨r0, hr0⟩ : ∃ r0, D[0]? = some r0 := ⟨D[0]'(by omega), List.getElem?_eq_getElem _⟩
  have HC := Lib.hid (show colsN D = r0.length from by
    unfold colsN
    cases D with
    | nil => simp at hr0
    | cons x l => simp at hr0; subst hr0; rfl)
  have R0 := Lib.hid hr0
  have S1 := Lib.hid (S0.out.below B1.out)
  obtain ⟨b, o, ha, hb, hat⟩ := S1.out.at (by omega)
  obtain ⟨hd, g0, g1⟩ := hat 0 r0 hr0
  have gn := g1.1
  obtain ⟨ha0, hn0, hc0⟩ := hd
  simp only [Nat.add_zero] at g0 gn g1
  subst gn
  have HA := Lib.hid ha
  have B2 := Lib.hid (Below.then' B1.out (bel_al1 (w.alloc (.cells #[.int .i64 (D.length : Int)] 3)) (.cells #[.int .i64 (r0.length : Int)] 3)))
  obtain ⟨q2, e2⟩ : ∃ q, inB (r0.length : Int) 1 8 = q := ⟨_, rfl⟩
  have E2 := Lib.hid e2
  clear e2 hat hr0 g1
  subst ha
  have z0 : (0 : Int) < (D.length : Int) := by omega
  go_wp2_with fail
  refine (areOne 1 8 _ _ _ _ (by simp)).mono ?_
  rintro e w' ⟨rfl, rfl⟩
  rw [E2.out]
  cases q2
  · have F := Lib.hid (show rlB D = false from by rw [RB.out, E1.out, HC.out, E2.out]; rfl)
    go_wp2
    go_ret
    exact ⟨ret_bool F.out.symm, B2.out⟩
  have RB2 := Lib.hid (show rlB D = D.all (rowB D) from by rw [RB.out, E1.out, HC.out, E2.out]; rfl)
  clear g0
  go_wp2
  go_loopw [21, 4] (fun i _ wr => ∃ k : Nat, k ≤ D.length ∧ i = .int .i64 k ∧ (D.take k).all (rowB D) = true ∧ Below w.heap.size w wr) (fun i _ _ => D.length - (intOf i).toNat)
  case atStart => exact ⟨0, Nat.zero_le _, rfl, rfl, B2.out⟩
  case round =>
    obtain ⟨k, hk, rfl, hall, hbel⟩ := hrel
    have H := Lib.hid hall
    have B := Lib.hid hbel
    clear hall
    by_cases hlt : k < D.length
    · obtain ⟨x, hx⟩ : ∃ x, D[k]? = some x := ⟨D[k]'hlt, List.getElem?_eq_getElem _⟩
      obtain ⟨b', o', e', hb', hat⟩ := (S0.out.below hbel).at (by omega)
      simp only [Option.some.injEq, Addr.mk.injEq, and_true] at e'
      obtain ⟨rfl, rfl⟩ := e'
      obtain ⟨hdx, d0, d1⟩ := hat k x hx
      obtain ⟨hd0, f0, f1⟩ := hat 0 r0 R0.out
      have fn := f1.1
      have dn := d1.1
      obtain ⟨ha1, hn1, hc1⟩ := hdx
      obtain ⟨ha2, hn2, hc2⟩ := hd0
      simp only [Nat.add_zero] at f0 fn dn d0 d1
      subst fn
      subst dn
      have D1 := Lib.hid d1
      have X := Lib.hid hx
      have i0 : (0 : Int) ≤ (k : Int) := by omega
      have i1 : (k : Int) < (D.length : Int) := by omega
      clear hat f1 d1 hx hbel
      by_cases hq : x.length = r0.length
      · have c1 : ((x.length : Int) == (r0.length : Int)) = true := by simp [hq]
        have c2 : ((x.length : Int) != (r0.length : Int)) = false := by simp [hq]
        have HQ := Lib.hid hq
        clear hq
        obtain ⟨q3, e3⟩ : ∃ q, (x.all fun z => inB z 0 9999) = q := ⟨_, rfl⟩
        have E3 := Lib.hid e3
        have RX := Lib.hid (show rowB D x = q3 from by unfold rowB; rw [HC.out, HQ.out, e3]; simp)
        clear e3
        go_wp2_with fail
        refine (areInSlice_any _ _ _ x 0 9999 _ D1.out).mono ?_
        rintro e w' ⟨rfl, rfl⟩
        rw [E3.out]
        cases q3
        · have F := Lib.hid (show rlB D = false from by rw [RB2.out]; exact all_bad X.out RX.out)
          go_wp2
          go_ret
          exact ⟨ret_bool F.out.symm, B.out⟩
        · go_wp2
          go_roundw
          case rel => exact ⟨k + 1, by omega, by go_num, allB_more H.out X.out RX.out, B.out⟩
          case measure => simp [intOf]; omega
      · have c1 : ((x.length : Int) == (r0.length : Int)) = false := by simp; omega
        have c2 : ((x.length : Int) != (r0.length : Int)) = true := by simp; omega
        have F := Lib.hid (show rlB D = false from by rw [RB2.out]; exact all_bad X.out (by unfold rowB; rw [HC.out, decide_eq_false hq]; rfl))
        clear hq
        go_wp2
        go_ret
        exact ⟨ret_bool F.out.symm, B.out⟩
    · obtain rfl : k = D.length := by omega
      have F := Lib.hid (show rlB D = true from by
        rw [RB2.out]
        have := H.out
        rwa [List.take_of_length_le (Nat.le_refl _)] at this)
      clear hbel
      go_wp2
      go_ret
      exact ⟨ret_bool F.out.symm, B.out⟩
theorem hasB_prog {D : List VIntS} {r c : Int} (h : rlB D = true) : hasB D r c = (inB r 0 ((D.length : Int) - 1) && inB c 0 ((colsN D : Int) - 1)) := by
  unfold hasB inB
  rw [h, Bool.eq_iff_iff]
  simp only [Bool.and_eq_true, decide_eq_true_eq, true_and]
  omega
set_option maxHeartbeats 3200000 in
theorem isReliefWith_any (a : Option Addr) (len cap : Nat) (D : List VIntS) (r c : Int) (w : World) (h : IsIntSS w a len cap D) :
    Calls Try.prog 54 #[.slice a len cap, .int .i64 r, .int .i64 c] w fun e w' => e = .returned (.bool (hasB D r c)) ∧ Below w.heap.size w w' := by
  have S := Lib.hid h
  clear h
  obtain ⟨q, hq⟩ : ∃ q, rlB D = q := ⟨_, rfl⟩
  have Q := Lib.hid hq
  clear hq
  go_enter Try.func54, Try.ntmps54
  go_wp2_with fail
  refine (implIsRelief_any _ _ _ D _ S.out).mono ?_
  rintro e w1 ⟨rfl, hb⟩
  rw [show IsRelief_0 D = q from Q.out]
  have B1 := Lib.hid hb
  clear hb
  cases q
  · have F := Lib.hid (show hasB D r c = false from by unfold hasB; rw [Q.out]; rfl)
    go_wp2
    go_ret
    exact ⟨ret_bool F.out.symm, B1.out⟩
  · have F := Lib.hid (hasB_prog (r := r) (c := c) Q.out)
    go_wp2_with fail
    refine (isInRelief_any _ _ _ D r c _ (S.out.below B1.out) (rlB_iff.1 Q.out)).mono ?_
    rintro e w2 ⟨rfl, hb⟩
    have B2 := Lib.hid (Below.then' B1.out hb)
    clear hb
    rw [← F.out]
    go_wp2
    go_ret
    exact ⟨rfl, B2.out⟩
end Go.Proofs.Ytodjgeffkfbpiaa
