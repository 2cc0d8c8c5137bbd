/- Readers: when a list is one of readers, and where a reader stands, in the model. -/
import Derived.Test.YtidaoijpbdljbabDoorRd
import Derived.Test.YtidaoijpbdljbabDoorReg
import Derived.Lib.QuietBelow
namespace Go.Proofs.YtidaoijpbdljbabDoor
open Go.RowKit

theorem at_of {α : Type} {xs : List α} {len k : Nat} (hl : Hid (len = xs.length)) (hk : k < len) : ∃ s, xs[k]? = some s := ⟨xs[k]'(by have := hl.out; omega), List.getElem?_eq_getElem _⟩
theorem all_succ' {P : Nat → Prop} {k : Nat} (h : ∀ j, j < k → P j) (h1 : P k) : ∀ j, j < k + 1 → P j := by
  intro j hj
  by_cases e : j = k
  · subst e; exact h1
  · exact h j (by omega)
/-- Why an element is right, or not. -/
theorem step_ways {α : Type} {ok : α → Bool} {id : α → Int} {xs : List α} {k : Nat} {s : α} (hs : xs[k]? = some s) :
    (ok s = false ∧ upStep ok id xs k = false) ∨ (ok s = true ∧ k = 0 ∧ upStep ok id xs k = true) ∨ (ok s = true ∧ ∃ j p, k = j + 1 ∧ xs[j]? = some p ∧ ((¬ id s ≤ id p ∧ upStep ok id xs k = true) ∨ (id s ≤ id p ∧ upStep ok id xs k = false))) := by
  match k, hs with
  | 0, hs =>
    rw [upStep_zero hs]
    cases h : ok s
    · exact .inl ⟨rfl, rfl⟩
    · exact .inr (.inl ⟨rfl, rfl, rfl⟩)
  | j + 1, hs =>
    have hl := (List.getElem?_eq_some_iff.1 hs).1
    have hp : xs[j]? = some xs[j] := List.getElem?_eq_getElem (by omega)
    rw [upStep_succ hp hs]
    cases h : ok s
    · exact .inl ⟨rfl, rfl⟩
    · refine .inr (.inr ⟨rfl, j, xs[j], rfl, hp, ?_⟩)
      by_cases h2 : id s ≤ id xs[j]
      · exact .inr ⟨h2, by simp; omega⟩
      · exact .inl ⟨h2, by simp; omega⟩
set_option maxHeartbeats 3200000 in
set_option maxRecDepth 100000 in
theorem l3Good_any (a : Option Addr) (len cap : Nat) (xs : List VReader) (w : World) (h : IsReaderS w a len cap xs) :
    Calls Tryd.prog 31 #[.slice a len cap] w fun e w' => e = .returned (.bool (areRd xs)) ∧ Below w.heap.size w w' := by
  have hm := h.2.2.1
  have hcl := h.2.1
  unfold maxLen at hm
  have S := Lib.hid h
  have L := Lib.hid h.1
  clear h
  go_enter Tryd.func31, Tryd.ntmps31
  go_wp2
  go_loopw [3] (fun i wr => ∃ k : Nat, k ≤ len ∧ i = .int .i64 k ∧ Below w.heap.size w wr ∧ ∀ j, j < k → upStep VReader.ok VReader.Id xs j = true) (fun i _ => len - (intOf i).toNat)
  case atStart => exact ⟨0, Nat.zero_le _, rfl, Below.refl _ _, by omega⟩
  case round =>
    obtain ⟨k, hk, rfl, hbel, hall⟩ := hrel
    have A := Lib.hid hall
    have B := Lib.hid hbel
    clear hall
    by_cases hlt : k < len
    · obtain ⟨s, hs⟩ := at_of L hlt
      obtain ⟨b, o, rfl, hb, hat⟩ := (S.out.below hbel).at (by omega)
      obtain ⟨c0, c1, c2, c3, c4, hsm⟩ := hat k s hs
      have K := Lib.hid hs
      have SM := Lib.hid hsm
      have k0 := cell_regrown c0
      have k1 := cell_regrown c1
      have k2 := cell_regrown c2
      have k3 := cell_regrown c3
      have k4 := cell_regrown c4
      clear hsm c0 c1 c2 c3 c4 hbel
      have hi0 : (0 : Int) ≤ (k : Int) := by omega
      have hi1 : (k : Int) < (len : Int) := by omega
      rcases step_ways (ok := VReader.ok) (id := VReader.Id) hs with ⟨h1, h2⟩ | ⟨h1, rfl, h2⟩ | ⟨h1, j, p, rfl, hp, h2⟩
      · have cQ := below_at (W := wr) (fun W' _ => h1 ▸ l3One_any s W' SM.out)
        have Z := Lib.hid h2
        clear h1 h2 hs hat
        go_wp2
        refine wp_region_quiet_below (by kernel_rfl) (by kernel_rfl) ?_
        repeat (first | go_big_quiet_step (exact cQ _ _) | quiet_step (exact cQ _ _))
        refine wpQuiet_nil ?_
        intro W2 hw2
        have B2 := Lib.hid (Below.then' B.out (below_of_re hw2))
        clear hw2 cQ k0 k1 k2 k3 k4
        go_wp2
        go_ret
        exact ⟨ret_bool (by unfold areRd rdUp; rw [upB_bad Z.out (by have := L.out; omega)]; rfl), B2.out⟩
      · have cQ := below_at (W := wr) (fun W' _ => h1 ▸ l3One_any s W' SM.out)
        have Z := Lib.hid h2
        clear k0 k1 k2 k3 k4
        obtain ⟨c0, c1, c2, c3, c4, _⟩ := hat 0 s hs
        simp only [Nat.zero_mul, Nat.add_zero] at c0 c1 c2 c3 c4
        have k0 := cell_regrown c0
        have k1 := cell_regrown c1
        have k2 := cell_regrown c2
        have k3 := cell_regrown c3
        have k4 := cell_regrown c4
        clear h1 h2 hs hat c0 c1 c2 c3 c4
        go_wp2
        refine wp_region_quiet_below (by kernel_rfl) (by kernel_rfl) ?_
        repeat (first | go_big_quiet_step (exact cQ _ _) | quiet_step (exact cQ _ _))
        refine wpQuiet_nil ?_
        intro W2 hw2
        have B2 := Lib.hid (Below.then' B.out (below_of_re hw2))
        clear hw2 cQ k0 k1 k2 k3 k4
        go_wp2
        go_roundw
        case rel => exact ⟨1, by omega, by go_num, B2.out, all_succ' A.out Z.out⟩
        case measure => simp [intOf]; omega
      · have cQ := below_at (W := wr) (fun W' _ => h1 ▸ l3One_any s W' SM.out)
        obtain ⟨p0, _⟩ := hat j p hp
        have q0 := cell_regrown p0
        have hp0 : (0 : Int) ≤ (j : Int) := by omega
        have hp1 : (j : Int) < (len : Int) := by omega
        clear h1 hs hat hp p0
        rcases h2 with ⟨h2, h3⟩ | ⟨h2, h3⟩
        · have Z := Lib.hid h3
          clear h3
          go_wp2
          refine wp_region_quiet_below (by kernel_rfl) (by kernel_rfl) ?_
          repeat (first | go_big_quiet_step (exact cQ _ _) | quiet_step (exact cQ _ _))
          refine wpQuiet_nil ?_
          intro W2 hw2
          have B2 := Lib.hid (Below.then' B.out (below_of_re hw2))
          clear hw2 cQ k0 k1 k2 k3 k4 q0
          go_wp2
          go_roundw
          case rel => exact ⟨j + 1 + 1, by omega, by go_num, B2.out, all_succ' A.out Z.out⟩
          case measure => simp [intOf]; omega
        · have Z := Lib.hid h3
          clear h3
          go_wp2
          refine wp_region_quiet_below (by kernel_rfl) (by kernel_rfl) ?_
          repeat (first | go_big_quiet_step (exact cQ _ _) | quiet_step (exact cQ _ _))
          refine wpQuiet_nil ?_
          intro W2 hw2
          have B2 := Lib.hid (Below.then' B.out (below_of_re hw2))
          clear hw2 cQ k0 k1 k2 k3 k4 q0
          go_wp2
          go_ret
          exact ⟨ret_bool (by unfold areRd rdUp; rw [upB_bad Z.out (by have := L.out; omega)]; rfl), B2.out⟩
    · obtain rfl : k = len := by omega
      have U := Lib.hid (show areRd xs = decide (k ≤ 10) from by
        unfold areRd rdUp
        rw [upB_iff.2 (fun i hi => A.out i (by have := L.out; omega)), L.out]; rfl)
      clear hbel
      go_wp2
      go_ret
      exact ⟨ret_bool (by rw [U.out]; simp; omega), B.out⟩
set_option maxHeartbeats 3200000 in
set_option maxRecDepth 100000 in
theorem l3Find_any (a : Option Addr) (len cap : Nat) (xs : List VReader) (id : Int) (w : World) (h : IsReaderS w a len cap xs) :
    Calls Tryd.prog 37 #[.slice a len cap, .int .i64 id] w fun e w' => e = .returned (.int .i64 (rdFind xs id)) ∧ Below w.heap.size w w' := by
  have hm := h.2.2.1
  have hcl := h.2.1
  unfold maxLen at hm
  have S := Lib.hid h
  have L := Lib.hid h.1
  clear h
  obtain ⟨q, hq⟩ : ∃ q, areRd xs = q := ⟨_, rfl⟩
  have Q := Lib.hid hq
  clear hq
  go_enter Tryd.func37, Tryd.ntmps37
  go_wp2
  go_loopw [5] (fun i wr => ∃ k : Nat, k ≤ len ∧ i = .int .i64 k ∧ Below w.heap.size w wr ∧ ∀ j t, j < k → xs[j]? = some t → ¬ t.Id = id) (fun i _ => len - (intOf i).toNat)
  case atStart => exact ⟨0, Nat.zero_le _, rfl, Below.refl _ _, fun _ _ h => by omega⟩
  case round =>
    obtain ⟨k, hk, rfl, hbel, hall⟩ := hrel
    have A := Lib.hid hall
    have B := Lib.hid hbel
    clear hall
    by_cases hlt : k < len
    · have hi0 : (0 : Int) ≤ (k : Int) := by omega
      have hi1 : (k : Int) < (len : Int) := by omega
      clear hbel
      go_wp2_with fail
      refine (l3Good_any _ _ _ xs _ (S.out.below B.out)).mono ?_
      rintro e w2 ⟨rfl, hb2⟩
      rw [Q.out]
      have B2 := Lib.hid (Below.then' B.out hb2)
      clear hb2
      cases q
      · go_wp2
        go_ret
        exact ⟨ret_int (by unfold rdFind; rw [Q.out]; rfl), B2.out⟩
      · obtain ⟨s, hs⟩ := at_of L hlt
        obtain ⟨b, o, rfl, hb, hat⟩ := (S.out.below B2.out).at (by omega)
        obtain ⟨c0, _⟩ := hat k s hs
        have HS := Lib.hid hs
        clear hs hat
        by_cases he : s.Id = id
        · have R := Lib.hid (show rdFind xs id = (k : Int) from by
            unfold rdFind; rw [Q.out, if_pos rfl]
            exact firstOf_at HS.out (by simpa using he) (fun j t hj ht => by simpa using A.out j t hj ht))
          have hb1 : (s.Id == id) = true := by simpa using he
          have HE := Lib.hid he
          subst he
          go_wp2
          go_ret
          exact ⟨ret_int R.out.symm, B2.out⟩
        · have hb1 : (s.Id == id) = false := by simpa using he
          have HE := Lib.hid he
          clear he
          go_wp2
          go_roundw
          case rel => exact ⟨k + 1, by omega, by go_num, B2.out, fun j t hj ht => by
            by_cases e : j = k
            · subst e; rw [HS.out] at ht; cases ht; exact HE.out
            · exact A.out j t (by omega) ht⟩
          case measure => simp [intOf]; omega
    · obtain rfl : k = len := by omega
      have R := Lib.hid (show rdFind xs id = -1 from by
        unfold rdFind
        split
        · exact firstOf_no fun j t hj ht => by simpa using A.out j t (by have := L.out; omega) ht
        · rfl)
      clear hbel
      go_wp2
      go_ret
      exact ⟨ret_int R.out.symm, B.out⟩
end Go.Proofs.YtidaoijpbdljbabDoor
