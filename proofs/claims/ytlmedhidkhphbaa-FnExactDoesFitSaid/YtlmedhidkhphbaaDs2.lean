/- Searches among flats and drawers in the model; the grams of a drawer. -/
import Derived.Test.YtlmedhidkhphbaaDs
namespace Go.Proofs.Ytlmedhidkhphbaa
open Go.RowKit

set_option maxHeartbeats 3200000 in
set_option maxRecDepth 100000 in
theorem l5Find_any (a : Option Addr) (len cap : Nat) (xs : List VFlat) (id : Int) (w : World) (h : IsFlatS w a len cap xs) :
    Calls Try.prog 70 #[.slice a len cap, .int .i64 id] w fun e w' => e = .returned (.int .i64 (flatI xs id)) ∧ w = w' := by
  have hm := h.2.2.1
  have hcl := h.2.1
  unfold maxLen at hm
  have S := Lib.hid h
  have L := Lib.hid h.1
  clear h
  go_enter Try.func70, Try.ntmps70
  go_wp2
  go_loop [5] (fun i => ∃ k : Nat, k ≤ len ∧ i = .int .i64 k ∧ ∀ (j : Nat) t, j < k → xs[j]? = some t → (t.Id == id) = false) (fun i => len - (intOf i).toNat)
  case atStart => exact ⟨0, Nat.zero_le _, rfl, fun _ _ h => by omega⟩
  case round =>
    obtain ⟨k, hk, rfl, hall⟩ := hrel
    have A := Lib.hid hall
    clear hall
    by_cases hlt : k < len
    · obtain ⟨s, hs⟩ := el_at L hlt
      obtain ⟨b, o, rfl, hb, hat⟩ := S.out.at (by omega)
      obtain ⟨c0, _⟩ := hat k s hs
      have X := Lib.hid hs
      have hi0 : (0 : Int) ≤ (k : Int) := by omega
      have hi1 : (k : Int) < (len : Int) := by omega
      clear hs hat
      cases hq : (s.Id == id) with
      | true =>
        have FS := Lib.hid hq
        go_wp2
        go_ret
        exact ⟨ret_int (firstOf_at (f := fun f : VFlat => f.Id == id) X.out FS.out A.out).symm, rfl⟩
      | false =>
        have FS := Lib.hid hq
        go_wp2
        go_round
        case rel => exact ⟨k + 1, by omega, by go_num, fun j t hj ht => by
          by_cases e : j = k
          · subst e; rw [X.out] at ht; cases ht; exact FS.out
          · exact A.out j t (by omega) ht⟩
        case measure => simp [intOf]; omega
    · obtain rfl : k = len := by omega
      go_wp2
      go_ret
      exact ⟨ret_int (firstOf_no (f := fun f : VFlat => f.Id == id) fun j t hj ht => A.out j t (by have := L.out; omega) ht).symm, rfl⟩
set_option maxHeartbeats 3200000 in
set_option maxRecDepth 100000 in
theorem l5Index_any (a : Option Addr) (len cap : Nat) (xs : List VDrawer) (id : Int) (w : World) (h : IsDrawerS w a len cap xs) :
    Calls Try.prog 68 #[.slice a len cap, .int .i64 id] w fun e w' => e = .returned (.int .i64 (drawI xs id)) ∧ w = w' := by
  have hm := h.2.2.1
  have hcl := h.2.1
  unfold maxLen at hm
  have S := Lib.hid h
  have L := Lib.hid h.1
  clear h
  go_enter Try.func68, Try.ntmps68
  go_wp2
  go_loop [5] (fun i => ∃ k : Nat, k ≤ len ∧ i = .int .i64 k ∧ ∀ (j : Nat) t, j < k → xs[j]? = some t → (t.Id == id) = false) (fun i => len - (intOf i).toNat)
  case atStart => exact ⟨0, Nat.zero_le _, rfl, fun _ _ h => by omega⟩
  case round =>
    obtain ⟨k, hk, rfl, hall⟩ := hrel
    have A := Lib.hid hall
    clear hall
    by_cases hlt : k < len
    · obtain ⟨s, hs⟩ := el_at L hlt
      obtain ⟨b, o, rfl, hb, hat⟩ := S.out.at (by omega)
      obtain ⟨hd, c0, _⟩ := hat k s hs
      have X := Lib.hid hs
      have hi0 : (0 : Int) ≤ (k : Int) := by omega
      have hi1 : (k : Int) < (len : Int) := by omega
      clear hs hat
      cases hq : (s.Id == id) with
      | true =>
        have FS := Lib.hid hq
        go_wp2
        go_ret
        exact ⟨ret_int (firstOf_at (f := fun f : VDrawer => f.Id == id) X.out FS.out A.out).symm, rfl⟩
      | false =>
        have FS := Lib.hid hq
        go_wp2
        go_round
        case rel => exact ⟨k + 1, by omega, by go_num, fun j t hj ht => by
          by_cases e : j = k
          · subst e; rw [X.out] at ht; cases ht; exact FS.out
          · exact A.out j t (by omega) ht⟩
        case measure => simp [intOf]; omega
    · obtain rfl : k = len := by omega
      go_wp2
      go_ret
      exact ⟨ret_int (firstOf_no (f := fun f : VDrawer => f.Id == id) fun j t hj ht => A.out j t (by have := L.out; omega) ht).symm, rfl⟩
set_option maxHeartbeats 3200000 in
set_option maxRecDepth 100000 in
theorem l5Where_any (a : Option Addr) (len cap : Nat) (xs : List VDrawer) (id : Int) (w : World) (h : IsDrawerS w a len cap xs) :
    Calls Try.prog 71 #[.slice a len cap, .int .i64 id] w fun e w' => e = .returned (.int .i64 (holdI xs id)) ∧ w = w' := by
  have hm := h.2.2.1
  have hcl := h.2.1
  unfold maxLen at hm
  have S := Lib.hid h
  have L := Lib.hid h.1
  clear h
  go_enter Try.func71, Try.ntmps71
  go_wp2
  go_loop [5] (fun i => ∃ k : Nat, k ≤ len ∧ i = .int .i64 k ∧ ∀ (j : Nat) t, j < k → xs[j]? = some t → hasB id t.Flats = false) (fun i => len - (intOf i).toNat)
  case atStart => exact ⟨0, Nat.zero_le _, rfl, fun _ _ h => by omega⟩
  case round =>
    obtain ⟨k, hk, rfl, hall⟩ := hrel
    have A := Lib.hid hall
    clear hall
    by_cases hlt : k < len
    · obtain ⟨s, hs⟩ := el_at L hlt
      obtain ⟨b, o, rfl, hb, hat⟩ := S.out.at (by omega)
      obtain ⟨hd, c0, c1, c2, c3, c4, hin⟩ := hat k s hs
      have X := Lib.hid hs
      have HI := Lib.hid hin
      have hi0 : (0 : Int) ≤ (k : Int) := by omega
      have hi1 : (k : Int) < (len : Int) := by omega
      clear hs hat hin
      go_wp2_with fail
      refine (l1Has_any _ _ _ s.Flats id _ HI.out).mono ?_
      rintro e w1 ⟨rfl, rfl⟩
      cases hq : hasB id s.Flats with
      | true =>
        have FS := Lib.hid hq
        clear hq
        go_wp2
        go_ret
        exact ⟨ret_int (firstOf_at (f := fun f : VDrawer => hasB id f.Flats) X.out FS.out A.out).symm, rfl⟩
      | false =>
        have FS := Lib.hid hq
        clear hq
        go_wp2
        go_round
        case rel => exact ⟨k + 1, by omega, by go_num, fun j t hj ht => by
          by_cases e : j = k
          · subst e; rw [X.out] at ht; cases ht; exact FS.out
          · exact A.out j t (by omega) ht⟩
        case measure => simp [intOf]; omega
    · obtain rfl : k = len := by omega
      go_wp2
      go_ret
      exact ⟨ret_int (firstOf_no (f := fun f : VDrawer => hasB id f.Flats) fun j t hj ht => A.out j t (by have := L.out; omega) ht).symm, rfl⟩
/-! The grams, as the model sums them, whatever the flats. -/
def gramsGo (fs : List VFlat) (d : VDrawer) : List Int → Int → Int
  | [], s => s
  | id :: l, s => match flatOf fs id with
    | none => -1
    | some f => if fitsB f d = true then gramsGo fs d l (wrap64 (s + f.Grams)) else -1
def gramsW (fs : List VFlat) (d : VDrawer) : Int := gramsGo fs d d.Flats 0
theorem gramsGo_bad {fs : List VFlat} {d : VDrawer} : ∀ {l : List Int} {s : Int}, l.all (fitsId fs d) = false → gramsGo fs d l s = -1 := by
  intro l
  induction l with
  | nil => intro s h; simp at h
  | cons id l ih =>
    intro s h
    unfold gramsGo
    cases e : flatOf fs id with
    | none => rfl
    | some f =>
      simp only
      by_cases hf : fitsB f d = true
      · rw [if_pos hf]
        refine ih ?_
        rw [List.all_cons] at h
        have : fitsId fs d id = true := by unfold fitsId; rw [e]; exact hf
        rw [this] at h
        exact h
      · rw [if_neg hf]
theorem gramsGo_ok {fs : List VFlat} {d : VDrawer} (hok : ∀ f ∈ fs, VFlat.ok f = true) : ∀ {l : List Int} {s : Int}, l.all (fitsId fs d) = true → 0 ≤ s → s + 5000 * (l.length : Int) ≤ 1000000000 → gramsGo fs d l s = s + gramsS fs l := by
  intro l
  induction l with
  | nil => intro s _ _ _; simp [gramsGo, gramsS, sumI]
  | cons id l ih =>
    intro s h h0 h1
    rw [List.all_cons, Bool.and_eq_true] at h
    obtain ⟨f, h2, h3⟩ := fitsId_some h.1
    have hg := grams_bd hok id
    have hgi : gramsId fs id = f.Grams := by unfold gramsId; rw [h2]
    simp only [List.length_cons] at h1
    unfold gramsGo
    rw [h2]
    simp only
    rw [if_pos h3, IntWalk.wrap64_in _ (by omega), ih h.2 (by omega) (by omega), gramsS_cons, hgi]
    omega
theorem gramsW_ok {fs : List VFlat} {d : VDrawer} (hok : ∀ f ∈ fs, VFlat.ok f = true) (hl : d.Flats.length ≤ 12) : gramsW fs d = gramsM fs d := by
  unfold gramsW gramsM
  by_cases h : d.Flats.all (fitsId fs d) = true
  · rw [if_pos h, gramsGo_ok hok h (Int.le_refl _) (by omega)]
    omega
  · rw [if_neg h, gramsGo_bad (by simpa using h)]
theorem gramsGo_drop {fs : List VFlat} {d : VDrawer} {l : List Int} {k : Nat} {id : Int} (h : l[k]? = some id) (s : Int) : gramsGo fs d (l.drop k) s = match flatOf fs id with
    | none => -1
    | some f => if fitsB f d = true then gramsGo fs d (l.drop (k + 1)) (wrap64 (s + f.Grams)) else -1 := by
  obtain ⟨hk, e⟩ := List.getElem?_eq_some_iff.1 h
  rw [List.drop_eq_getElem_cons hk, e]
  rfl
set_option maxHeartbeats 12800000 in
set_option maxRecDepth 100000 in
theorem l5Grams_any (a : Option Addr) (len cap : Nat) (xs : List VFlat) (x : VDrawer) (hd : Hd) (w : World) (h : IsFlatS w a len cap xs) (hi : IsInts w hd.a hd.n hd.c x.Flats) :
    Calls Try.prog 99 #[.slice a len cap, .agg #[.int .i64 x.Id, .int .i64 x.Wide, .int .i64 x.High, .int .i64 x.Holds, .slice hd.a hd.n hd.c]] w fun e w' => e = .returned (.int .i64 (gramsW xs x)) ∧ Below w.heap.size w w' := by
  obtain rfl := h.1
  have hm := h.2.2.1
  have hcl := h.2.1
  unfold maxLen at hm
  have hm2 := hi.2.2.1
  have hcl2 := hi.2.1
  unfold maxLen at hm2
  have S := Lib.hid h
  have HI := Lib.hid hi
  have B1 := Lib.hid (bel_al1 w (.cells #[.int .i64 x.Id, .int .i64 x.Wide, .int .i64 x.High, .int .i64 x.Holds, .slice hd.a hd.n hd.c] 42))
  have X := Lib.hid (BoxDrawer.new w 42 ⟨x, hd⟩ _ rfl)
  have HL := Lib.hid hi.1
  clear h hi
  go_enter Try.func99, Try.ntmps99
  go_wp2
  go_loopw [5, 6] (fun q i wr => ∃ (k : Nat) (s : Int), k ≤ hd.n ∧ i = .int .i64 k ∧ q = .int .i64 s ∧ gramsGo xs x (x.Flats.drop k) s = gramsW xs x ∧ Below w.heap.size w wr ∧ BoxDrawer wr w.heap.size ⟨x, hd⟩) (fun _ i _ => hd.n - (intOf i).toNat)
  case atStart => exact ⟨0, 0, Nat.zero_le _, rfl, rfl, rfl, B1.out, X.out⟩
  case round =>
    obtain ⟨k, s, hk, rfl, rfl, hgo, hbel, hbox⟩ := hrel
    have GO := Lib.hid hgo
    have B := Lib.hid hbel
    have BX := Lib.hid hbox
    clear hgo
    by_cases hlt : k < hd.n
    · obtain ⟨id, hid⟩ := el_at HL hlt
      obtain ⟨b, o, eh, hb, hat⟩ := (HI.out.below hbel).at (by omega)
      have c0 := hat k id hid
      have ED := Lib.hid (gramsGo_drop (fs := xs) (d := x) hid s)
      obtain ⟨d0, d1, d2, d3, d4⟩ := hbox
      rw [eh] at d4
      have EH := Lib.hid eh
      have SB := Lib.hid (S.out.below hbel)
      have hi0 : (0 : Int) ≤ (k : Int) := by omega
      have hi1 : (k : Int) < (hd.n : Int) := by omega
      clear hid hat hbel eh
      go_wp2_with fail
      refine (l5Find_any _ _ _ xs id _ SB.out).mono ?_
      rintro e w2 ⟨rfl, rfl⟩
      by_cases hneg : flatI xs id < 0
      · have NO := Lib.hid (show gramsW xs x = -1 from by rw [← GO.out, ED.out, (flat_no hneg).2])
        obtain ⟨y, hy⟩ : ∃ y, flatI xs id = y := ⟨_, rfl⟩
        rw [hy] at hneg ⊢
        have hdec : decide (y < 0) = true := by simpa using hneg
        clear hy c0 d0 d1 d2 d3 d4
        go_wp2
        refine wp_region_quiet_below (by kernel_rfl) (by kernel_rfl) ?_
        repeat (first | go_big_quiet_step (fail) | quiet_step (fail))
        refine wpQuiet_nil ?_
        intro W2 hw2
        have B3 := Lib.hid (Below.then' B.out (below_of_re hw2))
        clear hw2
        go_wp2
        go_ret
        exact ⟨ret_int NO.out.symm, B3.out⟩
      · obtain ⟨i, f, hfi, hf, hof, hfid⟩ := flat_at (show 0 ≤ flatI xs id by omega)
        obtain ⟨bf, of, ea, hbf, hatf⟩ := SB.out.at (by have := (List.getElem?_eq_some_iff.1 hf).1; omega)
        obtain ⟨e0, e1, e2, e3⟩ := hatf i f hf
        have AT := Lib.hid (hatf i f hf)
        have hil := (List.getElem?_eq_some_iff.1 hf).1
        have k0 := cell_regrown e0
        have k1 := cell_regrown e1
        have k2 := cell_regrown e2
        have k3 := cell_regrown e3
        have l0 := cell_regrown d0
        have l1 := cell_regrown d1
        have l2 := cell_regrown d2
        have l3 := cell_regrown d3
        have l4 := cell_regrown d4
        rw [hfi]
        subst ea
        have hdec : decide ((i : Int) < 0) = false := by simp
        have i0 : (0 : Int) ≤ (i : Int) := by omega
        have i1 : (i : Int) < (xs.length : Int) := by omega
        obtain ⟨q, hq⟩ : ∃ q, fitsB f x = q := ⟨_, rfl⟩
        have cQ0 := below_at (W := wr) (fun W' _ => hq ▸ l5Fits_any f x hd W')
        rw [EH.out] at cQ0
        have cQ := cQ0
        have FI := Lib.hid (show gramsGo xs x (x.Flats.drop k) s = if q = true then gramsGo xs x (x.Flats.drop (k + 1)) (wrap64 (s + f.Grams)) else -1 from by rw [ED.out, hof]; simp only; rw [hq])
        clear c0 d0 d1 d2 d3 d4 e0 e1 e2 e3 hf hatf hfi hneg hof hq hfid cQ0
        go_wp2
        refine wp_region_quiet_below (by kernel_rfl) (by kernel_rfl) ?_
        repeat (first | go_big_quiet_step (first | (with_reducible exact cQ _ _)) | quiet_step (first | (with_reducible exact cQ _ _)))
        refine wpQuiet_nil ?_
        intro W2 hw2
        have B3 := Lib.hid (Below.then' B.out (below_of_re hw2))
        have BX3 := Lib.hid (BX.out.below (below_of_re hw2))
        obtain ⟨_, _, _, m3⟩ := AT.out.below (below_of_re hw2) hbf
        clear hw2 cQ k0 k1 k2 k3 l0 l1 l2 l3 l4
        cases q with
        | true =>
          go_wp2
          go_roundw
          case rel => exact ⟨k + 1, _, by omega, by go_num, rfl, by rw [← GO.out, FI.out, if_pos rfl], B3.out, BX3.out⟩
          case measure => simp [intOf]; omega
        | false =>
          have NO := Lib.hid (show gramsW xs x = -1 from by rw [← GO.out, FI.out]; rfl)
          go_wp2
          go_ret
          exact ⟨ret_int NO.out.symm, B3.out⟩
    · obtain rfl : k = hd.n := by omega
      obtain ⟨d0, d1, d2, d3, d4⟩ := hbox
      have R := Lib.hid (show gramsW xs x = s from by
        rw [← GO.out, List.drop_of_length_le (by have := HL.out; omega)]; rfl)
      clear hbel
      go_wp2
      go_ret
      exact ⟨ret_int R.out.symm, B.out⟩
end Go.Proofs.Ytlmedhidkhphbaa
