/- Whether a drawer, and all of them, are right: isRightAlone, AreDrawers, in the program. -/
import Derived.Test.YtlmedhidkhphbaaDi2
namespace Go.Proofs.Ytlmedhidkhphbaa
open Go.RowKit

set_option maxHeartbeats 12800000 in
set_option maxRecDepth 100000 in
theorem isRightAlone_any (a : Option Addr) (len cap : Nat) (xs : List VFlat) (x : VDrawer) (hd : Hd) (w : World) (h : IsFlatS w a len cap xs) (hi : IsInts w hd.a hd.n hd.c x.Flats) (hok : ∀ f ∈ xs, VFlat.ok f = true) (hl : xs.length ≤ 1000) :
    Calls Try.prog 94 #[.slice a len cap, .agg #[.int .i64 x.Id, .int .i64 x.Wide, .int .i64 x.High, .int .i64 x.Holds, .slice hd.a hd.n hd.c]] w fun e w' => e = .returned (.bool (rightB xs x)) ∧ Below w.heap.size w w' := by
  obtain rfl := h.1
  have hm := h.2.2.1
  have hcl := h.2.1
  unfold maxLen at hm
  have hm2 := hi.2.2.1
  have hcl2 := hi.2.1
  unfold maxLen at hm2
  have S := Lib.hid h
  have HI := Lib.hid hi
  have B1 := Lib.hid (bel_al1 w (.cells #[.int .i64 x.Id, .int .i64 x.Wide, .int .i64 x.High, .int .i64 x.Holds, .slice hd.a hd.n hd.c] 42))
  have X := Lib.hid (BoxDrawer.new w 42 ⟨x, hd⟩ _ rfl)
  have SZ := Lib.hid (size_al w (.cells #[.int .i64 x.Id, .int .i64 x.Wide, .int .i64 x.High, .int .i64 x.Holds, .slice hd.a hd.n hd.c] 42))
  have OK := Lib.hid hok
  have HL := Lib.hid hi.1
  clear h hi hok
  go_enter Try.func94, Try.ntmps94
  go_wp2
  go_loopw [11] (fun i wr => ∃ k : Nat, k ≤ hd.n ∧ i = .int .i64 k ∧ (∀ (j : Nat) id, j < k → x.Flats[j]? = some id → fitsId xs x id = true) ∧ Below w.heap.size w wr ∧ BoxDrawer wr w.heap.size ⟨x, hd⟩) (fun i _ => hd.n - (intOf i).toNat)
  case atStart => exact ⟨0, Nat.zero_le _, rfl, fun _ _ h => by omega, B1.out, X.out⟩
  case round =>
    obtain ⟨k, hk, rfl, hall, hbel, hbox⟩ := hrel
    have A := Lib.hid hall
    have B := Lib.hid hbel
    have BX := Lib.hid hbox
    clear hall
    by_cases hlt : k < hd.n
    · obtain ⟨id, hid⟩ := el_at HL hlt
      obtain ⟨b, o, eh, hb, hat⟩ := (HI.out.below hbel).at (by omega)
      have c0 := hat k id hid
      rw [eh]
      obtain ⟨d0, d1, d2, d3, d4⟩ := hbox
      have K := Lib.hid hid
      have EH := Lib.hid eh
      have SB := Lib.hid (S.out.below hbel)
      clear hid hat hbel eh
      go_wp2_with fail
      refine (indexOfFlat_any _ _ _ xs id _ SB.out).mono ?_
      rintro e w2 ⟨rfl, hb2⟩
      have B2 := Lib.hid (Below.then' B.out hb2)
      have BX2 := Lib.hid (BX.out.below hb2)
      have SB2 := Lib.hid (SB.out.below hb2)
      clear hb2 c0 d0 d1 d2 d3 d4
      by_cases hneg : flatI xs id < 0
      · have NO := Lib.hid (show rightB xs x = false from by
          unfold rightB
          have h1 := (flat_no hneg).2
          rw [Bool.and_eq_false_iff]
          refine .inl (List.all_eq_false.2 ⟨id, List.mem_of_getElem? K.out, ?_⟩)
          unfold fitsId; rw [h1]; simp)
        obtain ⟨y, hy⟩ : ∃ y, flatI xs id = y := ⟨_, rfl⟩
        rw [hy] at hneg ⊢
        have hdec : decide (y < 0) = true := by simpa using hneg
        clear hy
        go_wp2
        refine wp_region_quiet_below (by kernel_rfl) (by kernel_rfl) ?_
        repeat (first | go_big_quiet_step (fail) | quiet_step (fail))
        refine wpQuiet_nil ?_
        intro W2 hw2
        have B3 := Lib.hid (Below.then' B2.out (below_of_re hw2))
        clear hw2
        go_wp2
        go_ret
        exact ⟨ret_bool NO.out.symm, B3.out⟩
      · obtain ⟨i, f, hfi, hf, hof, hfid⟩ := flat_at (show 0 ≤ flatI xs id by omega)
        obtain ⟨bf, of, rfl, hbf, hatf⟩ := SB2.out.at (by have := (List.getElem?_eq_some_iff.1 hf).1; omega)
        obtain ⟨c0, c1, c2, c3⟩ := hatf i f hf
        have hil := (List.getElem?_eq_some_iff.1 hf).1
        obtain ⟨d0, d1, d2, d3, d4⟩ := BX2.out
        have k0 := cell_regrown c0
        have k1 := cell_regrown c1
        have k2 := cell_regrown c2
        have k3 := cell_regrown c3
        have l0 := cell_regrown d0
        have l1 := cell_regrown d1
        have l2 := cell_regrown d2
        have l3 := cell_regrown d3
        have l4 := cell_regrown d4
        rw [hfi]
        have hdec : decide ((i : Int) < 0) = false := by simp
        have i0 : (0 : Int) ≤ (i : Int) := by omega
        have i1 : (i : Int) < (xs.length : Int) := by omega
        obtain ⟨q, hq⟩ : ∃ q, fitsB f x = q := ⟨_, rfl⟩
        have cQ := below_at (W := w2) (fun W' _ => hq ▸ fitsInto_any f x hd W')
        have FI := Lib.hid (show fitsId xs x id = q from by unfold fitsId; rw [hof]; exact hq)
        clear c0 c1 c2 c3 d0 d1 d2 d3 d4 hf hatf hfi hneg hof hq hfid
        go_wp2
        refine wp_region_quiet_below (by kernel_rfl) (by kernel_rfl) ?_
        repeat (first | go_big_quiet_step (first | (with_reducible exact cQ _ _)) | quiet_step (first | (with_reducible exact cQ _ _)))
        refine wpQuiet_nil ?_
        intro W2 hw2
        have B3 := Lib.hid (Below.then' B2.out (below_of_re hw2))
        have BX3 := Lib.hid (BX2.out.below (below_of_re hw2))
        clear hw2 cQ k0 k1 k2 k3 l0 l1 l2 l3 l4
        cases q with
        | true =>
          go_wp2
          go_roundw
          case rel => exact ⟨k + 1, by omega, by go_num, fun j z hj hz => by
            by_cases e : j = k
            · subst e; rw [K.out] at hz; cases hz; exact FI.out
            · exact A.out j z (by omega) hz, B3.out, BX3.out⟩
          case measure => simp [intOf]; omega
        | false =>
          have NO := Lib.hid (show rightB xs x = false from by
            unfold rightB
            rw [Bool.and_eq_false_iff]
            exact .inl (List.all_eq_false.2 ⟨id, List.mem_of_getElem? K.out, by rw [FI.out]; simp⟩))
          go_wp2
          go_ret
          exact ⟨ret_bool NO.out.symm, B3.out⟩
    · obtain rfl : k = hd.n := by omega
      obtain ⟨d0, d1, d2, d3, d4⟩ := hbox
      have l0 := cell_regrown d0
      have l1 := cell_regrown d1
      have l2 := cell_regrown d2
      have l3 := cell_regrown d3
      have l4 := cell_regrown d4
      obtain ⟨g, hg⟩ : ∃ g, gramsL xs x.Flats = g := ⟨_, rfl⟩
      have cQ := below_at (W := wr) (fun W' hbW => hg ▸ gramsOf_any a xs.length cap xs x hd W' (S.out.below (Below.then' B.out hbW)) (HI.out.below (Below.then' B.out hbW)) OK.out hl)
      have R := Lib.hid (show rightB xs x = decide (g ≤ x.Holds) from by
        unfold rightB
        rw [hg, List.all_eq_true.2 fun id hid => by
          obtain ⟨j, hj⟩ := List.getElem?_of_mem hid
          exact A.out j id (by have := HL.out; have := (List.getElem?_eq_some_iff.1 hj).1; omega) hj]
        rfl)
      clear hg hbel d0 d1 d2 d3 d4
      go_wp2
      refine wp_region_quiet_below (by kernel_rfl) (by kernel_rfl) ?_
      repeat (first | go_big_quiet_step (first | (with_reducible exact cQ _ _)) | quiet_step (first | (with_reducible exact cQ _ _)))
      refine wpQuiet_nil ?_
      intro W2 hw2
      have B3 := Lib.hid (Below.then' B.out (below_of_re hw2))
      clear hw2 cQ l0 l1 l2 l3 l4
      go_wp2
      go_ret
      exact ⟨ret_bool R.out.symm, B3.out⟩
end Go.Proofs.Ytlmedhidkhphbaa
