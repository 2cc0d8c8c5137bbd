/- When a list is one of sheets, in the model: l2Sheets. -/
import Derived.Test.YtidaoijpbdljbaaAre
import Derived.Test.YtidaoijpbdljbaaShs2
import Derived.Test.YtidaoijpbdljbaaReg
namespace Go.Proofs.Ytidaoijpbdljbaa
open Go.RowKit

theorem okAt_bad1 {xs : List Sh} {k : Nat} {s : Sh} (hs : xs[k]? = some s) (h : s.ok = false) : okAt xs k = false := by rw [okAt_some hs, h]; rfl
theorem okAt_bad2 {xs : List Sh} {k : Nat} {s p : Sh} (hs : xs[k + 1]? = some s) (hp : xs[k]? = some p) (h : ¬ p.id < s.id) : okAt xs (k + 1) = false := by
  rw [okAt_some hs, show k + 1 - 1 = k from rfl, hp]; simp; intro _ h2; exact absurd h2 h
theorem okAt_bad3 {xs : List Sh} {k : Nat} {s : Sh} (hs : xs[k]? = some s) (h : ((xs.take k).any fun t => t.at_ s.row s.col s.scale) = true) : okAt xs k = false := by rw [okAt_some hs, h]; simp
theorem okAt_good0 {xs : List Sh} {s : Sh} (hs : xs[0]? = some s) (h : s.ok = true) : okAt xs 0 = true := by rw [okAt_some hs, h]; simp
theorem okAt_good {xs : List Sh} {k : Nat} {s p : Sh} (hs : xs[k + 1]? = some s) (h : s.ok = true) (hp : xs[k]? = some p) (h2 : p.id < s.id) (h3 : ((xs.take (k + 1)).any fun t => t.at_ s.row s.col s.scale) = false) : okAt xs (k + 1) = true := by
  rw [okAt_some hs, h, h3, show k + 1 - 1 = k from rfl, hp]; simp [h2]
theorem all_succ {P : Nat → Prop} {k : Nat} (h : ∀ j, j < k → P j) (h1 : P k) : ∀ j, j < k + 1 → P j := by
  intro j hj
  by_cases e : j = k
  · subst e; exact h1
  · exact h j (by omega)
/-- Why an element is right, or not. -/
theorem okAt_ways {xs : List Sh} {k : Nat} {s : Sh} (hs : xs[k]? = some s) :
    s.ok = false ∨ (s.ok = true ∧ ∃ j p, k = j + 1 ∧ xs[j]? = some p ∧ ¬ p.id < s.id) ∨ (s.ok = true ∧ (k = 0 ∨ ∃ j p, k = j + 1 ∧ xs[j]? = some p ∧ p.id < s.id)) := by
  by_cases h : s.ok = true
  · right
    match k, hs with
    | 0, _ => exact .inr ⟨h, .inl rfl⟩
    | j + 1, hs =>
      have hl := (List.getElem?_eq_some_iff.1 hs).1
      have hp : xs[j]? = some xs[j] := List.getElem?_eq_getElem (by omega)
      by_cases h2 : xs[j].id < s.id
      · exact .inr ⟨h, .inr ⟨j, _, rfl, hp, h2⟩⟩
      · exact .inl ⟨h, j, _, rfl, hp, h2⟩
  · exact .inl (by simpa using h)
set_option maxHeartbeats 3200000 in
set_option maxRecDepth 100000 in
theorem l2Sheets_any (a : Option Addr) (len cap : Nat) (xs : List Sh) (w : World) (h : IsSheetS w a len cap xs) :
    Calls Try.prog 56 #[.slice a len cap] w fun e w' => e = .returned (.bool (areSh xs)) ∧ Below w.heap.size w w' := by
  have hm := h.2.2.1
  have hcl := h.2.1
  unfold maxLen at hm
  have S := Lib.hid h
  have L := Lib.hid h.1
  clear h
  by_cases h12 : 12 < len
  · go_enter Try.func56, Try.ntmps56
    go_wp2
    go_ret
    exact ⟨ret_bool (areSh_long (by have := L.out; omega)).symm, Below.refl _ _⟩
  go_enter Try.func56, Try.ntmps56
  go_wp2
  go_loopw [3] (fun i wr => ∃ k : Nat, k ≤ len ∧ i = .int .i64 k ∧ Below w.heap.size w wr ∧ ∀ j, j < k → okAt xs j = true) (fun i _ => len - (intOf i).toNat)
  case atStart => exact ⟨0, Nat.zero_le _, rfl, Below.refl _ _, by omega⟩
  case round =>
    obtain ⟨k, hk, rfl, hbel, hall⟩ := hrel
    have A := Lib.hid hall
    have B := Lib.hid hbel
    clear hall
    by_cases hlt : k < len
    · obtain ⟨s, hs⟩ := list_at L hlt
      obtain ⟨b, o, rfl, hb, hat⟩ := (S.out.below hbel).at (by omega)
      obtain ⟨c0, c1, c2, c3, c4⟩ := hat k s hs
      have AT := Lib.hid hat
      have K := Lib.hid hs
      clear hs hat hbel
      go_wp2
      refine wp_world (fun W => BoxAt W wr.heap.size s ∧ Below wr.heap.size wr W) ⟨boxAt_new _ _ _ _ rfl, bel_alloc1 _ _⟩ ?_
      rintro W ⟨hbox, hbw⟩
      have BX := Lib.hid hbox
      have BW := Lib.hid hbw
      have SW := Lib.hid ((S.out.below B.out).below hbw)
      obtain ⟨e0, e1, e2, e3, e4⟩ := hbox
      clear c0 c1 c2 c3 c4 hbw
      have k0 := cell_regrown e0
      have k1 := cell_regrown e1
      have k2 := cell_regrown e2
      have k3 := cell_regrown e3
      have k4 := cell_regrown e4
      clear e0 e1 e2 e3 e4
      have hi0 : (0 : Int) ≤ (k : Int) := by omega
      have hi1 : (k : Int) < (len : Int) := by omega
      rcases okAt_ways K.out with h1 | ⟨h1, j, p, rfl, hp, h2⟩ | ⟨h1, h2⟩
      · have Z := Lib.hid h1
        have cQ := below_at (W := W) (fun W' _ => h1 ▸ l2Sheet_any s W')
        clear h1
        refine wp_region_quiet_below (by kernel_rfl) (by kernel_rfl) ?_
        repeat (first | go_big_quiet_step (exact cQ _ _) | quiet_step (exact cQ _ _))
        refine wpQuiet_nil ?_
        intro W2 hw2
        have B2 := Lib.hid (Below.then' (Below.then' B.out BW.out) (below_of_re hw2))
        clear hw2 cQ k0 k1 k2 k3 k4
        go_wp2
        go_ret
        exact ⟨ret_bool (areSh_bad (okAt_bad1 K.out Z.out) (by have := L.out; omega)).symm, B2.out⟩
      · have Z := Lib.hid h1
        obtain ⟨p0, p1, p2, p3, p4⟩ := (AT.out j p hp).below BW.out (by exact (World.lt_of_cell (AT.out j p hp).1))
        have q0 := cell_regrown p0
        clear p0 p1 p2 p3 p4
        have cQ := below_at (W := W) (fun W' _ => h1 ▸ l2Sheet_any s W')
        have K2 := Lib.hid (okAt_bad2 K.out hp h2)
        have hp0 : (0 : Int) ≤ (j : Int) := by omega
        have hp1 : (j : Int) < (len : Int) := by omega
        clear h1 hp
        refine wp_region_quiet_below (by kernel_rfl) (by kernel_rfl) ?_
        repeat (first | go_big_quiet_step (exact cQ _ _) | quiet_step (exact cQ _ _))
        refine wpQuiet_nil ?_
        intro W2 hw2
        have B2 := Lib.hid (Below.then' (Below.then' B.out BW.out) (below_of_re hw2))
        clear hw2 cQ k0 k1 k2 k3 k4 q0
        go_wp2
        go_ret
        exact ⟨ret_bool (areSh_bad K2.out (by have := L.out; omega)).symm, B2.out⟩
      · have Z := Lib.hid h1
        have cQ := below_at (W := W) (fun W' _ => h1 ▸ l2Sheet_any s W')
        obtain ⟨z, hz⟩ : ∃ z, idxAt xs s.row s.col s.scale = z := ⟨_, rfl⟩
        have cA := below_at (W := W) (fun W' hb => same_below (hz ▸ l2At_any (some ⟨b, o, none⟩) len cap xs s.row s.col s.scale W' (SW.out.below hb)))
        have ZI := Lib.hid (idxAt_self K.out)
        rw [hz] at ZI
        clear h1 hz
        by_cases hzk : z = (k : Int)
        · subst hzk
          have GOOD := ZI.out.1 rfl
          rcases h2 with rfl | ⟨j, p, rfl, hp, h2⟩
          · have G := Lib.hid (okAt_good0 K.out Z.out)
            clear GOOD
            refine wp_region_quiet_below (by kernel_rfl) (by kernel_rfl) ?_
            repeat (first | go_big_quiet_step (first | exact cQ _ _ | exact cA _ _) | quiet_step (first | exact cQ _ _ | exact cA _ _))
            refine wpQuiet_nil ?_
            intro W2 hw2
            have B2 := Lib.hid (Below.then' (Below.then' B.out BW.out) (below_of_re hw2))
            clear hw2 cQ cA k0 k1 k2 k3 k4
            go_wp2
            go_roundw
            case rel => exact ⟨1, by omega, by go_num, B2.out, all_succ A.out G.out⟩
            case measure => simp [intOf]; omega
          · have G := Lib.hid (okAt_good K.out Z.out hp h2 GOOD)
            obtain ⟨p0, p1, p2, p3, p4⟩ := (AT.out j p hp).below BW.out (by exact (World.lt_of_cell (AT.out j p hp).1))
            have q0 := cell_regrown p0
            clear p0 p1 p2 p3 p4 hp GOOD
            have hp0 : (0 : Int) ≤ (j : Int) := by omega
            have hp1 : (j : Int) < (len : Int) := by omega
            refine wp_region_quiet_below (by kernel_rfl) (by kernel_rfl) ?_
            repeat (first | go_big_quiet_step (first | exact cQ _ _ | exact cA _ _) | quiet_step (first | exact cQ _ _ | exact cA _ _))
            refine wpQuiet_nil ?_
            intro W2 hw2
            have B2 := Lib.hid (Below.then' (Below.then' B.out BW.out) (below_of_re hw2))
            clear hw2 cQ cA k0 k1 k2 k3 k4 q0
            go_wp2
            go_roundw
            case rel => exact ⟨j + 1 + 1, by omega, by go_num, B2.out, all_succ A.out G.out⟩
            case measure => simp [intOf]; omega
        · have BAD : ((xs.take k).any fun t => t.at_ s.row s.col s.scale) = true := by
            by_cases h : ((xs.take k).any fun t => t.at_ s.row s.col s.scale) = true
            · exact h
            · exact absurd (ZI.out.2 (by simpa using h)) hzk
          have G := Lib.hid (areSh_bad (okAt_bad3 K.out BAD) (by have := L.out; omega))
          have hzk1 : (z == (k : Int)) = false := by simpa using hzk
          clear BAD
          rcases h2 with rfl | ⟨j, p, rfl, hp, h2⟩
          · refine wp_region_quiet_below (by kernel_rfl) (by kernel_rfl) ?_
            repeat (first | go_big_quiet_step (first | exact cQ _ _ | exact cA _ _) | quiet_step (first | exact cQ _ _ | exact cA _ _))
            refine wpQuiet_nil ?_
            intro W2 hw2
            have B2 := Lib.hid (Below.then' (Below.then' B.out BW.out) (below_of_re hw2))
            clear hw2 cQ cA k0 k1 k2 k3 k4
            go_wp2
            go_ret
            exact ⟨ret_bool G.out.symm, B2.out⟩
          · have hzk2 : ¬ z = (j : Int) + 1 := by omega
            have hzk3 : (z != (j : Int) + 1) = true := by simpa using hzk2
            clear hzk hzk1
            obtain ⟨p0, p1, p2, p3, p4⟩ := (AT.out j p hp).below BW.out (by exact (World.lt_of_cell (AT.out j p hp).1))
            have q0 := cell_regrown p0
            clear p0 p1 p2 p3 p4 hp
            have hp0 : (0 : Int) ≤ (j : Int) := by omega
            have hp1 : (j : Int) < (len : Int) := by omega
            refine wp_region_quiet_below (by kernel_rfl) (by kernel_rfl) ?_
            repeat (first | go_big_quiet_step (first | exact cQ _ _ | exact cA _ _) | quiet_step (first | exact cQ _ _ | exact cA _ _))
            refine wpQuiet_nil ?_
            intro W2 hw2
            have B2 := Lib.hid (Below.then' (Below.then' B.out BW.out) (below_of_re hw2))
            clear hw2 cQ cA k0 k1 k2 k3 k4 q0
            go_wp2
            go_ret
            exact ⟨ret_bool G.out.symm, B2.out⟩
    · obtain rfl : k = len := by omega
      clear hbel
      go_wp2
      go_ret
      exact ⟨ret_bool (areSh_iff.2 ⟨by have := L.out; omega, fun i hi => A.out i (by have := L.out; omega)⟩).symm, B.out⟩

set_option maxHeartbeats 400000 in
theorem specAreSheets_any (a : Option Addr) (len cap : Nat) (xs : List Sh) (w : World) (h : IsSheetS w a len cap xs) :
    Calls Try.prog 30 #[.slice a len cap] w fun e w' => e = .returned (.bool (areSh xs)) ∧ Below w.heap.size w w' := by
  have S := Lib.hid h
  clear h
  go_enter Try.func30, Try.ntmps30
  go_wp2_with fail
  refine (l2Sheets_any a len cap xs _ S.out).mono ?_
  rintro e w1 ⟨rfl, hb⟩
  have B := Lib.hid hb
  clear hb
  go_wp2
  go_ret
  exact ⟨rfl, B.out⟩
end Go.Proofs.Ytidaoijpbdljbaa
