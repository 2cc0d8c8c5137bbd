/- Reliefs in the model: l9Good, l9Square. -/
import Derived.Test.YtodjgeffkfbpiaaWi2
import Derived.Test.YtodjgeffkfbpiaaSheet2
import Derived.Test.YtodjgeffkfbpiaaSw
namespace Go.Proofs.Ytodjgeffkfbpiaa
open Go.RowKit

/-- A row of a relief, as the model asks. -/
def rowM (D : List VIntS) (r : VIntS) : Bool := decide (r.length = colsN D) && (inB (r.length : Int) 1 8 && r.all (fun z => inB z 0 9999))
theorem rlB_model (D : List VIntS) : rlB D = (inB (D.length : Int) 1 8 && D.all (rowM D)) := by
  rw [rlB_rows]
  cases hl : inB (D.length : Int) 1 8
  · rfl
  · rw [Bool.true_and, Bool.true_and]
    have h1 := (inB_iff.1 hl).1
    cases D with
    | nil => simp at h1
    | cons x l =>
      have hc : colsN (x :: l) = x.length := rfl
      rw [hc, Bool.eq_iff_iff]
      simp only [Bool.and_eq_true, List.all_eq_true, rowB, rowM, decide_eq_true_eq, hc]
      constructor
      · rintro ⟨h2, h3⟩ r hr
        obtain ⟨h4, h5⟩ := h3 r hr
        exact ⟨h4, by rw [h4]; exact h2, h5⟩
      · intro h
        refine ⟨?_, fun r hr => ⟨(h r hr).1, (h r hr).2.2⟩⟩
        exact (h x (by simp)).2.1
set_option maxHeartbeats 12800000 in
set_option maxRecDepth 100000 in
theorem l9Good_any (a : Option Addr) (len cap : Nat) (D : List VIntS) (w : World) (h : IsIntSS w a len cap D) :
    Calls Try.prog 59 #[.slice a len cap] w fun e w' => e = .returned (.bool (rlB D)) ∧ Below w.heap.size w w' := by
  have hm := h.2.2.1
  have hcl := h.2.1
  unfold maxLen at hm
  obtain rfl := h.1
  have RB := Lib.hid (rlB_model D)
  have S0 := Lib.hid h
  clear h
  obtain ⟨q1, e1⟩ : ∃ q, inB (D.length : Int) 1 8 = q := ⟨_, rfl⟩
  have E1 := Lib.hid e1
  clear e1
  go_enter Try.func59, Try.ntmps59
  go_wp2_with fail
  refine (l1In_any _ _ _ _).mono ?_
  rintro e w' ⟨rfl, rfl⟩
  rw [E1.out]
  cases q1
  · have F := Lib.hid (show rlB D = false from by rw [RB.out, E1.out]; rfl)
    go_wp2
    go_ret
    exact ⟨ret_bool F.out.symm, Below.refl _ _⟩
  have hl := inB_iff.1 E1.out
  obtain ⟨r0, hr0⟩ : ∃ r0, D[0]? = some r0 := ⟨D[0]'(by omega), List.getElem?_eq_getElem _⟩
  have HC := Lib.hid (show colsN D = r0.length from by
    unfold colsN
    cases D with
    | nil => simp at hr0
    | cons x l => simp at hr0; subst hr0; rfl)
  have R0 := Lib.hid hr0
  have RB2 := Lib.hid (show rlB D = D.all (rowM D) from by rw [RB.out, E1.out]; rfl)
  have z0 : (0 : Int) < (D.length : Int) := by omega
  clear hr0
  go_wp2
  go_loopw [3] (fun i wr => ∃ k : Nat, k ≤ D.length ∧ i = .int .i64 k ∧ (D.take k).all (rowM D) = true ∧ Below w.heap.size w wr) (fun i _ => D.length - (intOf i).toNat)
  case atStart => exact ⟨0, Nat.zero_le _, rfl, rfl, Below.refl _ _⟩
  case round =>
    obtain ⟨k, hk, rfl, hall, hbel⟩ := hrel
    have H := Lib.hid hall
    have B := Lib.hid hbel
    clear hall
    by_cases hlt : k < D.length
    · obtain ⟨x, hx⟩ : ∃ x, D[k]? = some x := ⟨D[k]'hlt, List.getElem?_eq_getElem _⟩
      obtain ⟨b, o, rfl, hb, hat⟩ := (S0.out.below hbel).at (by omega)
      obtain ⟨hdx, d0, d1⟩ := hat k x hx
      obtain ⟨hd0, f0, f1⟩ := hat 0 r0 R0.out
      have fn := f1.1
      have dn := d1.1
      obtain ⟨ha1, hn1, hc1⟩ := hdx
      obtain ⟨ha2, hn2, hc2⟩ := hd0
      simp only [Nat.add_zero] at f0 fn dn d0 d1
      subst fn
      subst dn
      have D0 := Lib.hid d0
      have D1 := Lib.hid d1
      have X := Lib.hid hx
      have i0 : (0 : Int) ≤ (k : Int) := by omega
      have i1 : (k : Int) < (D.length : Int) := by omega
      have k0 := cell_regrown d0
      have k1 := cell_regrown f0
      clear hat f1 d1 hx hbel d0 f0
      by_cases hq : x.length = r0.length
      · have c1 : ((x.length : Int) == (r0.length : Int)) = true := by simp [hq]
        have c2 : ((x.length : Int) != (r0.length : Int)) = false := by simp [hq]
        have HQ := Lib.hid hq
        obtain ⟨q2, e2⟩ : ∃ q, inB (x.length : Int) 1 8 = q := ⟨_, rfl⟩
        have E2 := Lib.hid e2
        have cL := below_at (W := wr) (v := .bool q2) (fun W' _ => by rw [← e2]; exact same_below (l1In_any (x.length : Int) 1 8 W'))
        have RX := Lib.hid (show rowM D x = (q2 && x.all (fun z => inB z 0 9999)) from by unfold rowM; rw [HC.out, hq, ← e2, hq]; simp)
        clear e2 hq
        go_wp2
        refine wp_region_quiet_below (by kernel_rfl) (by kernel_rfl) ?_
        repeat (first | go_big_quiet_step (with_reducible exact cL _ _) | quiet_step (with_reducible exact cL _ _))
        refine wpQuiet_nil ?_
        intro W2 hw2
        have bw := below_of_re hw2
        have B2 := Lib.hid (Below.then' B.out bw)
        have D2 := Lib.hid (cell_stay D0.out bw)
        clear hw2 cL k0 k1 bw
        cases q2
        · have F := Lib.hid (show rlB D = false from by rw [RB2.out]; exact all_bad X.out (by rw [RX.out]; rfl))
          go_wp2
          go_ret
          exact ⟨ret_bool F.out.symm, B2.out⟩
        have RX2 := Lib.hid (show rowM D x = x.all (fun z => inB z 0 9999) from by rw [RX.out]; rfl)
        have hx8 := inB_iff.1 E2.out
        simp only [Bool.not_true]
        go_wp2
        go_loopw [4] (fun i wr => ∃ j : Nat, j ≤ x.length ∧ i = .int .i64 j ∧ (x.take j).all (fun z => inB z 0 9999) = true ∧ Below w.heap.size w wr) (fun i _ => x.length - (intOf i).toNat)
        case atStart => exact ⟨0, Nat.zero_le _, rfl, rfl, B2.out⟩
        case round =>
          obtain ⟨j, hj, rfl, hall2, hbel2⟩ := hrel
          have H2 := Lib.hid hall2
          have B3 := Lib.hid hbel2
          clear hall2
          obtain ⟨b', o', e', hb', hat'⟩ := (S0.out.below hbel2).at (by omega)
          simp only [Option.some.injEq, Addr.mk.injEq, and_true] at e'
          obtain ⟨rfl, rfl⟩ := e'
          obtain ⟨hdx, d0, d1⟩ := hat' k x X.out
          have dn := d1.1
          obtain ⟨ha3, hn3, hc3⟩ := hdx
          simp only [] at dn d0 d1
          subst dn
          by_cases hlj : j < x.length
          · obtain ⟨z, hz⟩ : ∃ z, x[j]? = some z := ⟨x[j]'hlj, List.getElem?_eq_getElem _⟩
            obtain ⟨bz, oz, rfl, _, hatz⟩ := d1.at (by omega)
            have cz := hatz j z hz
            have Z := Lib.hid hz
            have j0 : (0 : Int) ≤ (j : Int) := by omega
            have j1 : (j : Int) < (x.length : Int) := by omega
            obtain ⟨q3, e3⟩ : ∃ q, inB z 0 9999 = q := ⟨_, rfl⟩
            have E3 := Lib.hid e3
            clear hat' hatz d1 hz e3 hbel2
            go_wp2_with fail
            refine (l1In_any _ _ _ _).mono ?_
            rintro e w' ⟨rfl, rfl⟩
            rw [E3.out]
            cases q3
            · have F := Lib.hid (show rlB D = false from by rw [RB2.out]; exact all_bad X.out (by rw [RX2.out]; exact all_bad Z.out E3.out))
              go_wp2
              go_ret
              exact ⟨ret_bool F.out.symm, B3.out⟩
            · go_wp2
              go_roundw
              case rel => exact ⟨j + 1, by omega, by go_num, allB_more H2.out Z.out E3.out, B3.out⟩
              case measure => simp [intOf]; omega
          · obtain rfl : j = x.length := by omega
            have AL := Lib.hid (show rowM D x = true from by
              rw [RX2.out]
              have := H2.out
              rwa [List.take_of_length_le (Nat.le_refl _)] at this)
            clear hat' d1 hbel2
            go_wp2
            go_roundw
            case rel => exact ⟨k + 1, by omega, by go_num, allB_more H.out X.out AL.out, B3.out⟩
            case measure => simp [intOf]; omega
      · have c1 : ((x.length : Int) == (r0.length : Int)) = false := by simp; omega
        have c2 : ((x.length : Int) != (r0.length : Int)) = true := by simp; omega
        have F := Lib.hid (show rlB D = false from by rw [RB2.out]; exact all_bad X.out (by unfold rowM; rw [HC.out, decide_eq_false hq]; rfl))
        clear hq
        go_wp2
        refine wp_region_quiet_below (by kernel_rfl) (by kernel_rfl) ?_
        repeat (first | go_big_quiet_step (fail) | quiet_step (fail))
        refine wpQuiet_nil ?_
        intro W2 hw2
        have B2 := Lib.hid (Below.then' B.out (below_of_re hw2))
        clear hw2 k0 k1
        go_wp2
        go_ret
        exact ⟨ret_bool F.out.symm, B2.out⟩
    · obtain rfl : k = D.length := by omega
      have F := Lib.hid (show rlB D = true from by
        rw [RB2.out]
        have := H.out
        rwa [List.take_of_length_le (Nat.le_refl _)] at this)
      clear hbel
      go_wp2
      go_ret
      exact ⟨ret_bool F.out.symm, B.out⟩
theorem specIsRelief_any (a : Option Addr) (len cap : Nat) (D : List VIntS) (w : World) (h : IsIntSS w a len cap D) (_ : condIntS D) :
    Calls Try.prog 21 #[.slice a len cap] w (IsRelief_Post D w) := by
  have S := Lib.hid h
  clear h
  go_enter Try.func21, Try.ntmps21
  go_wp2_with fail
  refine (l9Good_any _ _ _ D _ S.out).mono ?_
  rintro e w1 ⟨rfl, hb⟩
  have B1 := Lib.hid hb
  clear hb
  go_wp2
  go_ret
  exact ⟨rfl, B1.out⟩
set_option maxHeartbeats 6400000 in
set_option maxRecDepth 100000 in
theorem l9Square_any (a : Option Addr) (len cap : Nat) (D : List VIntS) (r c : Int) (w : World) (h : IsIntSS w a len cap D) :
    Calls Try.prog 56 #[.slice a len cap, .int .i64 r, .int .i64 c] w fun e w' => e = .returned (.bool (hasB D r c)) ∧ Below w.heap.size w w' := by
  have L := Lib.hid h.1
  have S := Lib.hid h
  clear h
  obtain ⟨q, hq⟩ : ∃ q, rlB D = q := ⟨_, rfl⟩
  have Q := Lib.hid hq
  have HB := Lib.hid (show hasB D r c = (q && (decide (0 ≤ r) && (decide (r < (D.length : Int)) && (decide (0 ≤ c) && decide (c < (colsN D : Int)))))) from by unfold hasB; rw [hq])
  clear hq
  go_enter Try.func56, Try.ntmps56
  go_wp2_with fail
  refine (l9Good_any _ _ _ D _ S.out).mono ?_
  rintro e w1 ⟨rfl, hb⟩
  rw [Q.out]
  have B1 := Lib.hid hb
  have S1 := Lib.hid (S.out.below hb)
  clear hb
  cases q
  · go_wp2
    go_ret
    exact ⟨ret_bool (by rw [HB.out]; rfl), B1.out⟩
  have hD := rlB_iff.1 Q.out
  obtain ⟨b, o, b', o', c', rfl, hb, g0⟩ := relief_row0 S1.out hD
  have z0 : (0 : Int) < (len : Int) := by have := L.out; have := hD.m1; omega
  have hlD : (len : Int) = (D.length : Int) := by rw [L.out]
  have LE := Lib.hid hlD
  clear hD hlD
  by_cases h1 : 0 ≤ r
  · have d1 : decide (0 ≤ r) = true := decide_eq_true h1
    by_cases h2 : r < (len : Int)
    · have d2 : decide (r < (len : Int)) = true := decide_eq_true h2
      by_cases h3 : 0 ≤ c
      · have d3 : decide (0 ≤ c) = true := decide_eq_true h3
        have F := Lib.hid (show hasB D r c = decide (c < (colsN D : Int)) from by rw [HB.out, d1, d3, decide_eq_true (show r < (D.length : Int) by rw [← LE.out]; exact h2)]; rfl)
        go_wp2
        go_ret
        exact ⟨ret_bool (by rw [F.out]), B1.out⟩
      · have d3 : decide (0 ≤ c) = false := decide_eq_false h3
        have F := Lib.hid (show hasB D r c = false from by rw [HB.out, d3]; simp)
        go_wp2
        go_ret
        exact ⟨ret_bool (by rw [F.out]), B1.out⟩
    · have d2 : decide (r < (len : Int)) = false := decide_eq_false h2
      have F := Lib.hid (show hasB D r c = false from by rw [HB.out, decide_eq_false (show ¬ r < (D.length : Int) by rw [← LE.out]; exact h2)]; simp)
      go_wp2
      go_ret
      exact ⟨ret_bool (by rw [F.out]), B1.out⟩
  · have d1 : decide (0 ≤ r) = false := decide_eq_false h1
    have F := Lib.hid (show hasB D r c = false from by rw [HB.out, d1]; simp)
    go_wp2
    go_ret
    exact ⟨ret_bool (by rw [F.out]), B1.out⟩
end Go.Proofs.Ytodjgeffkfbpiaa
