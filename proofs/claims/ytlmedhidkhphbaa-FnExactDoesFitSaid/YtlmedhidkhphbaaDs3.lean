/- Whether all drawers are right, in the model: l5Good. -/
import Derived.Test.YtlmedhidkhphbaaDs2
namespace Go.Proofs.Ytlmedhidkhphbaa
open Go.RowKit

/-- What the model asks of one drawer. -/
def stepM (xs : List VFlat) (ds : List VDrawer) (j : Nat) : Bool := upStep VDrawer.ok VDrawer.Id ds j && (match ds[j]? with | none => true | some d => inB (gramsW xs d) 0 d.Holds && apartB ds j d)
theorem stepM_bad {xs : List VFlat} {ds : List VDrawer} {j : Nat} (h : stepM xs ds j = false) (hj : j < ds.length) : goodB xs ds = false := by
  by_cases hf : flatsB xs = true
  · have hf2 : upB VFlat.ok VFlat.Id xs = true := by unfold flatsB at hf; rw [Bool.and_eq_true] at hf; exact hf.1
    by_cases hu : upStep VDrawer.ok VDrawer.Id ds j = true
    · obtain ⟨d, hd⟩ : ∃ d, ds[j]? = some d := ⟨ds[j], List.getElem?_eq_getElem hj⟩
      have hok : VDrawer.ok d = true := by
        unfold upStep at hu
        rw [hd] at hu
        simp at hu
        exact hu.1
      have hl : d.Flats.length ≤ 12 := by
        have h2 := hok
        unfold VDrawer.ok idsB at h2
        simp at h2
        exact h2.2.2.2.2.2
      have h4 : stepM xs ds j = (rightB xs d && apartB ds j d) := by
        unfold stepM
        rw [hu, hd]
        show (inB (gramsW xs d) 0 d.Holds && apartB ds j d) = _
        rw [gramsW_ok (fun f hm => upB_ok hf2 hm) hl, right_model hf2 hok]
      rw [h4] at h
      unfold goodB
      rw [Bool.and_eq_false_iff, Bool.and_eq_false_iff]
      refine .inr (.inr (List.all_eq_false.2 ⟨j, List.mem_range.2 hj, ?_⟩))
      unfold rightAt
      rw [hd]
      show ¬ (rightB xs d && apartB ds j d) = true
      rw [h]; simp
    · unfold goodB listB
      rw [upB_bad (by simpa using hu) hj]
      simp
  · unfold goodB
    have : flatsB xs = false := by simpa using hf
    rw [this]; rfl
theorem stepM_all {xs : List VFlat} {ds : List VDrawer} (h : ∀ j, j < ds.length → stepM xs ds j = true) (hl : ds.length ≤ 8) : goodB xs ds = flatsB xs := by
  by_cases hf : flatsB xs = true
  · have hf2 : upB VFlat.ok VFlat.Id xs = true := by unfold flatsB at hf; rw [Bool.and_eq_true] at hf; exact hf.1
    have hu : upB VDrawer.ok VDrawer.Id ds = true := upB_iff.2 fun j hj => by
      have := h j hj
      unfold stepM at this
      rw [Bool.and_eq_true] at this
      exact this.1
    unfold goodB listB
    rw [hf, hu, decide_eq_true hl, List.all_eq_true.2 fun j hj => ?_]
    · rfl
    · have hj' := List.mem_range.1 hj
      obtain ⟨d, hd⟩ : ∃ d, ds[j]? = some d := ⟨ds[j], List.getElem?_eq_getElem hj'⟩
      have h1 := h j hj'
      have hok := upB_ok hu (List.mem_of_getElem? hd)
      have hl : d.Flats.length ≤ 12 := by
        have h2 := hok
        unfold VDrawer.ok idsB at h2
        simp at h2
        exact h2.2.2.2.2.2
      have h4 : stepM xs ds j = (rightB xs d && apartB ds j d) := by
        unfold stepM
        rw [upB_iff.1 hu j hj', hd]
        show (inB (gramsW xs d) 0 d.Holds && apartB ds j d) = _
        rw [gramsW_ok (fun f hm => upB_ok hf2 hm) hl, right_model hf2 hok]
      rw [h4] at h1
      unfold rightAt
      rw [hd]
      exact h1
  · unfold goodB
    have : flatsB xs = false := by simpa using hf
    rw [this]; rfl
theorem stepM_mk {xs : List VFlat} {ds : List VDrawer} {j : Nat} {d : VDrawer} (hd : ds[j]? = some d) (hu : upStep VDrawer.ok VDrawer.Id ds j = true) (q : Bool) (hq : inB (gramsW xs d) 0 d.Holds = q) : stepM xs ds j = (q && apartB ds j d) := by
  unfold stepM
  rw [hu, hd, ← hq]; rfl
theorem good_many {xs : List VFlat} {ds : List VDrawer} (h : ¬ ds.length ≤ 8) : goodB xs ds = false := by
  unfold goodB listB
  rw [decide_eq_false h]
  simp
set_option maxHeartbeats 25600000 in
set_option maxRecDepth 100000 in
theorem l5Good_any (a : Option Addr) (len cap : Nat) (xs : List VFlat) (a1 : Option Addr) (len1 cap1 : Nat) (ds : List VDrawer) (w : World) (h : IsFlatS w a len cap xs) (h' : IsDrawerS w a1 len1 cap1 ds) :
    Calls Try.prog 69 #[.slice a len cap, .slice a1 len1 cap1] w fun e w' => e = .returned (.bool (goodB xs ds)) ∧ Below w.heap.size w w' := by
  have hm := h'.2.2.1
  have hcl := h'.2.1
  unfold maxLen at hm
  have S := Lib.hid h
  have D := Lib.hid h'
  have DL := Lib.hid h'.1
  clear h h'
  go_enter Try.func69, Try.ntmps69
  go_wp2
  go_loopw [5] (fun i wr => ∃ k : Nat, k ≤ len1 ∧ k ≤ 9 ∧ i = .int .i64 k ∧ (∀ j, j < k → stepM xs ds j = true) ∧ Below w.heap.size w wr) (fun i _ => len1 - (intOf i).toNat)
  case atStart => exact ⟨0, Nat.zero_le _, by omega, rfl, fun _ h => by omega, Below.refl _ _⟩
  case round =>
    obtain ⟨k, hk, hk9, rfl, hall, hbel⟩ := hrel
    rename World => w0
    have A := Lib.hid hall
    have B := Lib.hid hbel
    clear hall
    by_cases hlt : k < len1
    · by_cases h8 : k ≤ 8
      · obtain ⟨x, hx⟩ := el_at DL hlt
        obtain ⟨b, o, rfl, hb, hat⟩ := (D.out.below hbel).at (by omega)
        obtain ⟨hd, c0, c1, c2, c3, c4, hin⟩ := hat k x hx
        have hm2 := hin.2.2.1
        have hcl2 := hin.2.1
        unfold maxLen at hm2
        have HL := Lib.hid hin.1
        have HI0 := Lib.hid hin
        have AT := Lib.hid hat
        have K := Lib.hid hx
        have hi0 : (0 : Int) ≤ (k : Int) := by omega
        have hi1 : (k : Int) < (len1 : Int) := by omega
        have h8d : decide ((k : Int) ≤ 8) = true := by simp; omega
        clear hx hat hbel hin
        go_wp2
        refine wp_world (fun W => BoxDrawer W w0.heap.size ⟨x, hd⟩ ∧ Below w0.heap.size w0 W) ⟨BoxDrawer.new _ _ ⟨x, hd⟩ _ rfl, bel_al1 _ _⟩ ?_
        rintro W ⟨hbox, hbw⟩
        have BW := Lib.hid hbw
        have BX := Lib.hid hbox
        have B1 := Lib.hid (Below.then' B.out hbw)
        have S1 := Lib.hid (S.out.below B1.out)
        have HI := Lib.hid (HI0.out.below hbw)
        obtain ⟨e0, e1, e2, e3, e4⟩ := hbox
        clear c0 c1 c2 c3 c4 hbw
        have k0 := cell_regrown e0
        have k1 := cell_regrown e1
        have k2 := cell_regrown e2
        have k3 := cell_regrown e3
        have k4 := cell_regrown e4
        clear e0 e1 e2 e3 e4
        obtain ⟨g, hg⟩ : ∃ g, gramsW xs x = g := ⟨_, rfl⟩
        obtain ⟨q, hq⟩ : ∃ q, inB g 0 x.Holds = q := ⟨_, rfl⟩
        have cG := below_at (W := W) (fun W' hbW => hg ▸ l5Grams_any a len cap xs x hd W' (S1.out.below hbW) (HI.out.below hbW))
        have cI := below_at (W := W) (fun W' _ => same_below (hq ▸ l1In_any g 0 x.Holds W'))
        have Q := Lib.hid (show inB (gramsW xs x) 0 x.Holds = q from by rw [hg]; exact hq)
        clear hg hq
        rcases up_ways (ok := VDrawer.ok) (id := VDrawer.Id) K.out with ⟨h1, h2⟩ | ⟨h1, hk0, h2⟩ | ⟨h1, j, p, rfl, hp, h2⟩
        · have cQ := below_at (W := W) (fun W' hbW => h1 ▸ l5Drawer_any x hd W' (HI.out.below hbW))
          have Z := Lib.hid h2
          clear h1 h2
          refine wp_region_quiet_below (by kernel_rfl) (by kernel_rfl) ?_
          repeat (first | go_big_quiet_step (first | (with_reducible exact cQ _ _) | (with_reducible exact cG _ _) | (with_reducible exact cI _ _)) | quiet_step (first | (with_reducible exact cQ _ _) | (with_reducible exact cG _ _) | (with_reducible exact cI _ _)))
          refine wpQuiet_nil ?_
          intro W2 hw2
          have B2 := Lib.hid (Below.then' B1.out (below_of_re hw2))
          clear hw2 cQ cG cI k0 k1 k2 k3 k4
          have NO := Lib.hid (show goodB xs ds = false from stepM_bad (j := k) (by unfold stepM; rw [Z.out]; rfl) (by have := DL.out; omega))
          go_wp2
          go_ret
          exact ⟨ret_bool NO.out.symm, B2.out⟩
        · have cQ := below_at (W := W) (fun W' hbW => h1 ▸ l5Drawer_any x hd W' (HI.out.below hbW))
          have Z := Lib.hid h2
          have g1 : decide ((0 : Int) < (k : Int)) = false := by simp [hk0]
          have g2 : decide (0 < k) = false := by simp [hk0]
          clear h1 h2 hk0
          refine wp_region_quiet_below (by kernel_rfl) (by kernel_rfl) ?_
          repeat (first | go_big_quiet_step (first | (with_reducible exact cQ _ _) | (with_reducible exact cG _ _) | (with_reducible exact cI _ _)) | quiet_step (first | (with_reducible exact cQ _ _) | (with_reducible exact cG _ _) | (with_reducible exact cI _ _)))
          refine wpQuiet_nil ?_
          intro W2 hw2
          have B2 := Lib.hid (Below.then' B1.out (below_of_re hw2))
          have BW2 := Lib.hid (Below.then' BW.out (below_of_re hw2))
          have BX2 := Lib.hid (BX.out.below (below_of_re hw2))
          clear hw2 cQ cG cI k0 k1 k2 k3 k4 
          have SM := Lib.hid (stepM_mk K.out Z.out q Q.out)
          cases q with
          | false =>
            have NO := Lib.hid (show goodB xs ds = false from stepM_bad (j := k) (by rw [SM.out]; rfl) (by have := DL.out; omega))
            go_wp2
            go_ret
            exact ⟨ret_bool NO.out.symm, B2.out⟩
          | true =>
            simp only [Bool.not_true]
            go_wp2
            go_loopw [7] (fun i wQ => ∃ m : Nat, m ≤ hd.n ∧ i = .int .i64 m ∧ (∀ (t : Nat) z, t < m → x.Flats[t]? = some z → holdI (ds.take k) z < 0) ∧ Below w.heap.size w wQ ∧ Below w0.heap.size w0 wQ ∧ BoxDrawer wQ w0.heap.size ⟨x, hd⟩) (fun i _ => hd.n - (intOf i).toNat)
            case atStart => exact ⟨0, Nat.zero_le _, rfl, fun _ _ h => by omega, B2.out, BW2.out, BX2.out⟩
            case round =>
              obtain ⟨m, hmn, rfl, hno, hbt, hbt2, hbx⟩ := hrel
              have NOS := Lib.hid hno
              have BT := Lib.hid hbt
              have BT2 := Lib.hid hbt2
              have BXT := Lib.hid hbx
              clear hno
              obtain ⟨f0, f1, f2, f3, f4⟩ := hbx
              by_cases hml : m < hd.n
              · obtain ⟨z, hz⟩ := el_at HL hml
                obtain ⟨bz, oz, ez, hbz, hatz⟩ := (HI0.out.below hbt2).at (by omega)
                have d0 := hatz m z hz
                rw [ez] at f4
                have r0 := cell_regrown d0
                have r4 := cell_regrown f4
                have ZZ := Lib.hid hz
                have m0 : (0 : Int) ≤ (m : Int) := by omega
                have m1 : (m : Int) < (hd.n : Int) := by omega
                obtain ⟨y, hy⟩ : ∃ y, holdI (ds.take k) z = y := ⟨_, rfl⟩
                have Y := Lib.hid hy
                have cW := below_at (W := wr) (fun W' hbW => hy ▸ same_below (l5Where_any (some ⟨b, o, none⟩) k cap1 (ds.take k) z W' (((D.out.below BT.out).below hbW).take (by omega))))
                have EZ := Lib.hid ez
                clear hbt hbt2 hz hatz d0 hy ez
                go_wp2
                refine wp_region_quiet_below (by kernel_rfl) (by kernel_rfl) ?_
                repeat (first | go_big_quiet_step (first | (with_reducible exact cW _ _)) | quiet_step (first | (with_reducible exact cW _ _)))
                refine wpQuiet_nil ?_
                intro W3 hw2
                have B3 := Lib.hid (Below.then' BT.out (below_of_re hw2))
                have B32 := Lib.hid (Below.then' BT2.out (below_of_re hw2))
                have BX3 := Lib.hid (BXT.out.below (below_of_re hw2))
                clear hw2 cW r0 r4 f0 f1 f2 f3 f4
                by_cases hneg : y < 0
                · go_wp2
                  go_roundw
                  case rel => exact ⟨m + 1, by omega, by go_num, fun t z' ht hz' => by
                    by_cases e : t = m
                    · subst e; rw [ZZ.out] at hz'; cases hz'; rw [Y.out]; exact hneg
                    · exact NOS.out t z' (by omega) hz', B3.out, B32.out, BX3.out⟩
                  case measure => simp [intOf]; omega
                · have NO := Lib.hid (show goodB xs ds = false from stepM_bad (j := k) (by
                    rw [SM.out, Bool.true_and]
                    unfold apartB
                    exact List.all_eq_false.2 ⟨z, List.mem_of_getElem? ZZ.out, by rw [Y.out]; simpa using hneg⟩) (by have := DL.out; omega))
                  go_wp2
                  go_ret
                  exact ⟨ret_bool NO.out.symm, B3.out⟩
              · obtain rfl : m = hd.n := by omega
                have YES := Lib.hid (show stepM xs ds k = true from by
                  rw [SM.out, Bool.true_and]
                  unfold apartB
                  refine List.all_eq_true.2 fun z hz => ?_
                  obtain ⟨t, ht⟩ := List.getElem?_of_mem hz
                  simpa using NOS.out t z (by have := HL.out; have := (List.getElem?_eq_some_iff.1 ht).1; omega) ht)
                clear hbt hbt2
                go_wp2
                go_roundw
                case rel => exact ⟨k + 1, by omega, by omega, by go_num, all_more A.out YES.out, BT.out⟩
                case measure => simp [intOf]; omega
        · have cQ := below_at (W := W) (fun W' hbW => h1 ▸ l5Drawer_any x hd W' (HI.out.below hbW))
          obtain ⟨hd2, hat2⟩ := AT.out j p hp
          obtain ⟨p0, _⟩ := hat2.below BW.out hb
          have q0 := cell_regrown p0
          have hp0 : (0 : Int) ≤ (j : Int) := by omega
          have hp1 : (j : Int) < (len1 : Int) := by omega
          clear h1 hp p0 hat2
          rcases h2 with ⟨h2, h3⟩ | ⟨h2, h3⟩
          · have Z := Lib.hid h3
            clear h3
            refine wp_region_quiet_below (by kernel_rfl) (by kernel_rfl) ?_
            repeat (first | go_big_quiet_step (first | (with_reducible exact cQ _ _) | (with_reducible exact cG _ _) | (with_reducible exact cI _ _)) | quiet_step (first | (with_reducible exact cQ _ _) | (with_reducible exact cG _ _) | (with_reducible exact cI _ _)))
            refine wpQuiet_nil ?_
            intro W2 hw2
            have B2 := Lib.hid (Below.then' B1.out (below_of_re hw2))
            have BW2 := Lib.hid (Below.then' BW.out (below_of_re hw2))
            have BX2 := Lib.hid (BX.out.below (below_of_re hw2))
            clear hw2 cQ cG cI k0 k1 k2 k3 k4 q0
            have SM := Lib.hid (stepM_mk K.out Z.out q Q.out)
            cases q with
            | false =>
              have NO := Lib.hid (show goodB xs ds = false from stepM_bad (j := (j + 1)) (by rw [SM.out]; rfl) (by have := DL.out; omega))
              go_wp2
              go_ret
              exact ⟨ret_bool NO.out.symm, B2.out⟩
            | true =>
              simp only [Bool.not_true]
              go_wp2
              go_loopw [7] (fun i wQ => ∃ m : Nat, m ≤ hd.n ∧ i = .int .i64 m ∧ (∀ (t : Nat) z, t < m → x.Flats[t]? = some z → holdI (ds.take (j + 1)) z < 0) ∧ Below w.heap.size w wQ ∧ Below w0.heap.size w0 wQ ∧ BoxDrawer wQ w0.heap.size ⟨x, hd⟩) (fun i _ => hd.n - (intOf i).toNat)
              case atStart => exact ⟨0, Nat.zero_le _, rfl, fun _ _ h => by omega, B2.out, BW2.out, BX2.out⟩
              case round =>
                obtain ⟨m, hmn, rfl, hno, hbt, hbt2, hbx⟩ := hrel
                have NOS := Lib.hid hno
                have BT := Lib.hid hbt
                have BT2 := Lib.hid hbt2
                have BXT := Lib.hid hbx
                clear hno
                obtain ⟨f0, f1, f2, f3, f4⟩ := hbx
                by_cases hml : m < hd.n
                · obtain ⟨z, hz⟩ := el_at HL hml
                  obtain ⟨bz, oz, ez, hbz, hatz⟩ := (HI0.out.below hbt2).at (by omega)
                  have d0 := hatz m z hz
                  rw [ez] at f4
                  have r0 := cell_regrown d0
                  have r4 := cell_regrown f4
                  have ZZ := Lib.hid hz
                  have m0 : (0 : Int) ≤ (m : Int) := by omega
                  have m1 : (m : Int) < (hd.n : Int) := by omega
                  obtain ⟨y, hy⟩ : ∃ y, holdI (ds.take (j + 1)) z = y := ⟨_, rfl⟩
                  have Y := Lib.hid hy
                  have cW := below_at (W := wr) (fun W' hbW => hy ▸ same_below (l5Where_any (some ⟨b, o, none⟩) (j + 1) cap1 (ds.take (j + 1)) z W' (((D.out.below BT.out).below hbW).take (by omega))))
                  have EZ := Lib.hid ez
                  clear hbt hbt2 hz hatz d0 hy ez
                  go_wp2
                  refine wp_region_quiet_below (by kernel_rfl) (by kernel_rfl) ?_
                  repeat (first | go_big_quiet_step (first | (with_reducible exact cW _ _)) | quiet_step (first | (with_reducible exact cW _ _)))
                  refine wpQuiet_nil ?_
                  intro W3 hw2
                  have B3 := Lib.hid (Below.then' BT.out (below_of_re hw2))
                  have B32 := Lib.hid (Below.then' BT2.out (below_of_re hw2))
                  have BX3 := Lib.hid (BXT.out.below (below_of_re hw2))
                  clear hw2 cW r0 r4 f0 f1 f2 f3 f4
                  by_cases hneg : y < 0
                  · go_wp2
                    go_roundw
                    case rel => exact ⟨m + 1, by omega, by go_num, fun t z' ht hz' => by
                      by_cases e : t = m
                      · subst e; rw [ZZ.out] at hz'; cases hz'; rw [Y.out]; exact hneg
                      · exact NOS.out t z' (by omega) hz', B3.out, B32.out, BX3.out⟩
                    case measure => simp [intOf]; omega
                  · have NO := Lib.hid (show goodB xs ds = false from stepM_bad (j := (j + 1)) (by
                      rw [SM.out, Bool.true_and]
                      unfold apartB
                      exact List.all_eq_false.2 ⟨z, List.mem_of_getElem? ZZ.out, by rw [Y.out]; simpa using hneg⟩) (by have := DL.out; omega))
                    go_wp2
                    go_ret
                    exact ⟨ret_bool NO.out.symm, B3.out⟩
                · obtain rfl : m = hd.n := by omega
                  have YES := Lib.hid (show stepM xs ds (j + 1) = true from by
                    rw [SM.out, Bool.true_and]
                    unfold apartB
                    refine List.all_eq_true.2 fun z hz => ?_
                    obtain ⟨t, ht⟩ := List.getElem?_of_mem hz
                    simpa using NOS.out t z (by have := HL.out; have := (List.getElem?_eq_some_iff.1 ht).1; omega) ht)
                  clear hbt hbt2
                  go_wp2
                  go_roundw
                  case rel => exact ⟨(j + 1) + 1, by omega, by omega, by go_num, all_more A.out YES.out, BT.out⟩
                  case measure => simp [intOf]; omega
          · have Z := Lib.hid h3
            clear h3
            refine wp_region_quiet_below (by kernel_rfl) (by kernel_rfl) ?_
            repeat (first | go_big_quiet_step (first | (with_reducible exact cQ _ _) | (with_reducible exact cG _ _) | (with_reducible exact cI _ _)) | quiet_step (first | (with_reducible exact cQ _ _) | (with_reducible exact cG _ _) | (with_reducible exact cI _ _)))
            refine wpQuiet_nil ?_
            intro W2 hw2
            have B2 := Lib.hid (Below.then' B1.out (below_of_re hw2))
            clear hw2 cQ cG cI k0 k1 k2 k3 k4 q0
            have NO := Lib.hid (show goodB xs ds = false from stepM_bad (j := j + 1) (by unfold stepM; rw [Z.out]; rfl) (by have := DL.out; omega))
            go_wp2
            go_ret
            exact ⟨ret_bool NO.out.symm, B2.out⟩
      · obtain rfl : k = 9 := by omega
        have NO := Lib.hid (show goodB xs ds = false from good_many (by have := DL.out; omega))
        have S1 := Lib.hid (S.out.below hbel)
        have hl8 : ¬ len1 ≤ 8 := by omega
        clear hbel
        go_wp2_with fail
        refine (l5Flats_any _ _ _ xs _ S1.out).mono ?_
        rintro e w2 ⟨rfl, hb2⟩
        have B2 := Lib.hid (Below.then' B.out hb2)
        clear hb2
        cases hf : flatsB xs with
        | false =>
          clear hf
          go_wp2
          go_ret
          exact ⟨ret_bool NO.out.symm, B2.out⟩
        | true =>
          clear hf
          go_wp2
          go_ret
          exact ⟨ret_bool (by rw [NO.out]; simp; omega), B2.out⟩
    · obtain rfl : k = len1 := by omega
      have S1 := Lib.hid (S.out.below hbel)
      clear hbel
      go_wp2_with fail
      refine (l5Flats_any _ _ _ xs _ S1.out).mono ?_
      rintro e w2 ⟨rfl, hb2⟩
      have B2 := Lib.hid (Below.then' B.out hb2)
      clear hb2
      by_cases hl8 : k ≤ 8
      · have E := Lib.hid (show goodB xs ds = flatsB xs from stepM_all (fun j hj => A.out j (by have := DL.out; omega)) (by have := DL.out; omega))
        cases hf : flatsB xs with
        | false =>
          have E2 := Lib.hid (show goodB xs ds = false from by rw [E.out, hf])
          clear hf
          go_wp2
          go_ret
          exact ⟨ret_bool E2.out.symm, B2.out⟩
        | true =>
          have E2 := Lib.hid (show goodB xs ds = true from by rw [E.out, hf])
          clear hf
          go_wp2
          go_ret
          exact ⟨ret_bool (by rw [E2.out]; simp; omega), B2.out⟩
      · have NO := Lib.hid (show goodB xs ds = false from good_many (by have := DL.out; omega))
        cases hf : flatsB xs with
        | false =>
          clear hf
          go_wp2
          go_ret
          exact ⟨ret_bool NO.out.symm, B2.out⟩
        | true =>
          clear hf
          go_wp2
          go_ret
          exact ⟨ret_bool (by rw [NO.out]; simp; omega), B2.out⟩
end Go.Proofs.Ytlmedhidkhphbaa
