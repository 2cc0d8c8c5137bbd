/- Readers: ripe readers, a raised class, how many sheets one may take. In the model. -/
import Derived.Test.YtidaoijpbdljbabDoorRd5
namespace Go.Proofs.YtidaoijpbdljbabDoor
open Go.RowKit

set_option maxHeartbeats 1600000 in
theorem l3Ripe_any (s : VReader) (day : Int) (w : World) (hs : s.ok = true) (hd : dayB day = true) :
    Calls Tryd.prog 45 #[.agg #[.int .i64 s.Id, .string s.Name, .int .i64 s.Joined, .int .i64 s.Class, .int .i64 s.Fines], .int .i64 day] w fun e w' => e = .returned (.bool (ripeB s day)) ∧ Below w.heap.size w w' := by
  obtain ⟨_, _, ⟨j0, j1⟩, ⟨c0, c1⟩, f0, f1⟩ := rdOk_iff.1 hs
  have d := inB_iff.1 hd
  clear hs hd
  by_cases h1 : s.Class < 3
  · by_cases h2 : s.Fines = 0
    · have h3 : (s.Fines == 0) = true := by simpa using h2
      have H2 := Lib.hid h2
      clear h2
      go_enter Tryd.func45, Tryd.ntmps45
      go_wp2
      go_ret
      exact ⟨ret_bool (by simp [ripeB, H2.out, h1]), bel_al1 _ _⟩
    · have h3 : (s.Fines == 0) = false := by simpa using h2
      go_enter Tryd.func45, Tryd.ntmps45
      go_wp2
      go_ret
      exact ⟨ret_bool (by simp [ripeB, h3]), bel_al1 _ _⟩
  · go_enter Tryd.func45, Tryd.ntmps45
    go_wp2
    go_ret
    exact ⟨ret_bool (by simp [ripeB]; omega), bel_al1 _ _⟩
set_option maxHeartbeats 3200000 in
set_option maxRecDepth 100000 in
theorem specRaiseClass_any (a : Option Addr) (len cap : Nat) (xs : List VReader) (id c : Int) (w : World) (h : IsReaderS w a len cap xs) (hx : xs.length ≤ 1048576) (hz : ∀ s ∈ xs, s.sized) :
    Calls Tryd.prog 16 #[.slice a len cap, .int .i64 id, .int .i64 c] w (RaiseClass_Post xs id c w) := by
  have hm := h.2.2.1
  have hcl := h.2.1
  unfold maxLen at hm
  obtain rfl := h.1
  have S := Lib.hid h
  have SM := Lib.hid (rd_sized_small hz)
  clear h hz
  rcases rdSel_ways xs id with ⟨h1, h2⟩ | ⟨i, s, ha, h1, hs, hi, hid, h2⟩
  · have F := Lib.hid h1
    have E := Lib.hid (show rdRaise xs id c = ([], false) from by unfold rdRaise; rw [h2])
    clear h1 h2
    go_enter Tryd.func16, Tryd.ntmps16
    go_wp2_with fail
    refine (l3Find_any _ _ _ xs id _ S.out).mono ?_
    rintro e w1 ⟨rfl, hb⟩
    rw [F.out]
    have B1 := Lib.hid hb
    have O := Lib.hid (made_own w1 w.heap.size hb.size)
    clear hb
    go_wp2
    go_ret2
    refine ⟨.slice (some ⟨w1.heap.size, 0, none⟩) 0 0, by unfold RaiseClass_1; rw [E.out]; rfl, by unfold RaiseClass_0; rw [E.out]; exact O.out, Below.then' B1.out (bel_al1 _ _)⟩
  · have F := Lib.hid h1
    have H2 := Lib.hid h2
    have HS := Lib.hid hs
    have HA := Lib.hid ha
    obtain ⟨q, hq⟩ : ∃ q, dayB c = q := ⟨_, rfl⟩
    have Q := Lib.hid hq
    have OK := Lib.hid (rdOk_iff.1 (areRd_ok ha (List.mem_of_getElem? hs)))
    clear h1 h2 hs hq ha hid
    cases q
    · have E := Lib.hid (show rdRaise xs id c = ([], false) from by unfold rdRaise; rw [H2.out]; simp [Q.out])
      have i0 : ¬ (i : Int) < 0 := by omega
      go_enter Tryd.func16, Tryd.ntmps16
      go_wp2_with fail
      refine (l3Find_any _ _ _ xs id _ S.out).mono ?_
      rintro e w1 ⟨rfl, hb⟩
      rw [F.out]
      have B1 := Lib.hid hb
      have O := Lib.hid (made_own w1 w.heap.size hb.size)
      clear hb
      go_wp2_with fail
      refine (l2Day_any _ _).mono ?_
      rintro e w' ⟨rfl, rfl⟩
      rw [Q.out]
      go_wp2
      go_ret2
      refine ⟨.slice (some ⟨w1.heap.size, 0, none⟩) 0 0, by unfold RaiseClass_1; rw [E.out]; rfl, by unfold RaiseClass_0; rw [E.out]; exact O.out, Below.then' B1.out (bel_al1 _ _)⟩
    · have i0 : ¬ (i : Int) < 0 := by omega
      obtain ⟨_, _, _, ⟨g0, g1⟩, f0, f1⟩ := OK.out
      have OKB := Lib.hid (areRd_ok HA.out (List.mem_of_getElem? HS.out))
      have v1 : IntKind.i64.wrap (s.Class + 1) = s.Class + 1 := IntWalk.i64_in _ (by omega)
      have SR := Lib.hid (show (⟨s.Id, s.Name, s.Joined, s.Class + 1, s.Fines⟩ : VReader).small from SM.out s (List.mem_of_getElem? HS.out))
      obtain ⟨p, hp⟩ : ∃ p, ripeB s c = p := ⟨_, rfl⟩
      have RP := Lib.hid hp
      clear hp
      have i1 : (i : Int) < (xs.length : Int) := by omega
      have i2 : (0 : Int) ≤ (i : Int) := by omega
      go_enter Tryd.func16, Tryd.ntmps16
      go_wp2_with fail
      refine (l3Find_any _ _ _ xs id _ S.out).mono ?_
      rintro e w1 ⟨rfl, hb⟩
      rw [F.out]
      have B1 := Lib.hid hb
      clear hb
      go_wp2_with fail
      refine (l2Day_any _ _).mono ?_
      rintro e w' ⟨rfl, rfl⟩
      rw [Q.out]
      obtain ⟨b, o, rfl, hbw, hat⟩ := (S.out.below B1.out).at (by omega)
      obtain ⟨d0, d1, d2, d3, d4, _⟩ := hat i s HS.out
      clear hat
      go_wp2_with fail
      refine (l3Ripe_any s c _ OKB.out Q.out).mono ?_
      rintro e w2 ⟨rfl, hb⟩
      rw [RP.out]
      have BB := Lib.hid (Below.then' B1.out hb)
      have S2 := Lib.hid (S.out.below BB.out)
      have O := Lib.hid (made_own w2 w.heap.size BB.out.size)
      have d0 := (hb.cell (p := ⟨b, _, none⟩) hbw).trans d0
      have d1 := (hb.cell (p := ⟨b, _, none⟩) hbw).trans d1
      have d2 := (hb.cell (p := ⟨b, _, none⟩) hbw).trans d2
      have d3 := (hb.cell (p := ⟨b, _, none⟩) hbw).trans d3
      have d4 := (hb.cell (p := ⟨b, _, none⟩) hbw).trans d4
      clear hb
      cases p
      · have E := Lib.hid (show rdRaise xs id c = ([], false) from by unfold rdRaise; rw [H2.out]; simp [Q.out, RP.out])
        go_wp2
        go_ret2
        refine ⟨.slice (some ⟨w2.heap.size, 0, none⟩) 0 0, by unfold RaiseClass_1; rw [E.out]; rfl, by unfold RaiseClass_0; rw [E.out]; exact O.out, Below.then' BB.out (bel_al1 _ _)⟩
      · have E := Lib.hid (show rdRaise xs id c = rdWith xs i ⟨s.Id, s.Name, s.Joined, s.Class + 1, s.Fines⟩ from by unfold rdRaise; rw [H2.out]; simp [Q.out, RP.out])
        have B2 := Lib.hid (Below.then' BB.out (bel_al1 w2 (.cells #[.int .i64 s.Id, .string s.Name, .int .i64 s.Joined, .int .i64 (s.Class + 1), .int .i64 s.Fines] 36)))
        have S3 := Lib.hid (S.out.below B2.out)
        go_wp2_with fail
        refine (l3With_any _ _ _ xs i ⟨s.Id, s.Name, s.Joined, s.Class + 1, s.Fines⟩ _ S3.out hi hx SM.out SR.out).mono ?_
        rintro e w3 ⟨v, rfl, hown, hb⟩
        have B3 := Lib.hid (Below.then' B2.out hb)
        have O := Lib.hid (ownsRow_base hown B2.out.size)
        clear hown hb
        go_wp2
        go_ret2
        refine ⟨v, by unfold RaiseClass_1; rw [E.out]; rfl, by unfold RaiseClass_0; rw [E.out]; exact O.out, B3.out⟩
set_option maxHeartbeats 3200000 in
set_option maxRecDepth 100000 in
theorem specMayTake_any (a : Option Addr) (len cap : Nat) (xs : List VReader) (id c : Int) (w : World) (h : IsReaderS w a len cap xs) (_ : xs.length ≤ 1048576) (_ : ∀ s ∈ xs, s.sized) :
    Calls Tryd.prog 22 #[.slice a len cap, .int .i64 id, .int .i64 c] w (MayTake_Post xs id c w) := by
  have hm := h.2.2.1
  have hcl := h.2.1
  unfold maxLen at hm
  obtain rfl := h.1
  have S := Lib.hid h
  clear h
  rcases rdSel_ways xs id with ⟨h1, h2⟩ | ⟨i, s, ha, h1, hs, hi, hid, h2⟩
  · have F := Lib.hid h1
    have E := Lib.hid (show rdMay xs id c = (0, false) from by unfold rdMay; rw [h2])
    clear h1 h2
    go_enter Tryd.func22, Tryd.ntmps22
    go_wp2_with fail
    refine (l3Find_any _ _ _ xs id _ S.out).mono ?_
    rintro e w1 ⟨rfl, hb⟩
    rw [F.out]
    have B1 := Lib.hid hb
    clear hb
    go_wp2
    go_ret2
    exact ⟨by unfold MayTake_0 MayTake_1; rw [E.out]; rfl, B1.out⟩
  · have F := Lib.hid h1
    have H2 := Lib.hid h2
    have HS := Lib.hid hs
    obtain ⟨q, hq⟩ : ∃ q, inB c 0 99 = q := ⟨_, rfl⟩
    have Q := Lib.hid hq
    have OK := Lib.hid (rdOk_iff.1 (areRd_ok ha (List.mem_of_getElem? hs)))
    have i0 : ¬ (i : Int) < 0 := by omega
    have i1 : (i : Int) < (xs.length : Int) := by omega
    have i2 : (0 : Int) ≤ (i : Int) := by omega
    clear h1 h2 hs hq ha hid
    go_enter Tryd.func22, Tryd.ntmps22
    go_wp2_with fail
    refine (l3Find_any _ _ _ xs id _ S.out).mono ?_
    rintro e w1 ⟨rfl, hb⟩
    rw [F.out]
    have B1 := Lib.hid hb
    clear hb
    go_wp2_with fail
    refine (l1In_any _ _ _ _).mono ?_
    rintro e w' ⟨rfl, rfl⟩
    rw [Q.out]
    cases q
    · have E := Lib.hid (show rdMay xs id c = (0, false) from by unfold rdMay; rw [H2.out]; simp [Q.out])
      go_wp2
      go_ret2
      exact ⟨by unfold MayTake_0 MayTake_1; rw [E.out]; rfl, B1.out⟩
    · have hc := inB_iff.1 Q.out
      obtain ⟨_, _, _, ⟨g0, g1⟩, f0, f1⟩ := OK.out
      obtain ⟨b, o, rfl, hbw, hat⟩ := (S.out.below B1.out).at (by omega)
      obtain ⟨d0, d1, d2, d3, d4, _⟩ := hat i s HS.out
      clear hat
      by_cases hf : 500 ≤ s.Fines
      · have E := Lib.hid (show rdMay xs id c = (0, true) from by unfold rdMay; rw [H2.out]; simp [Q.out, hf])
        go_wp2
        go_ret2
        exact ⟨by unfold MayTake_0 MayTake_1; rw [E.out]; rfl, B1.out⟩
      · have E := Lib.hid (show rdMay xs id c = (max 0 (mayOf s.Class - c), true) from by unfold rdMay; rw [H2.out]; simp [Q.out, hf])
        have B2 := Lib.hid (Below.then' B1.out (bel_al1 w1 (.cells #[.int .i64 0, .int .i64 2, .int .i64 5, .int .i64 10] 3)))
        rcases (show s.Class = 1 ∨ s.Class = 2 ∨ s.Class = 3 by omega) with hcl | hcl | hcl
        all_goals
          rw [hcl] at d3
          have E2 := E.out
          rw [hcl] at E2
          have E := Lib.hid E2
          clear hcl E2
          go_wp2_with fail
          refine (most_any _ _ _).mono ?_
          rintro e w' ⟨rfl, rfl⟩
          go_wp2
          go_ret2
          exact ⟨by unfold MayTake_0 MayTake_1; rw [E.out]; rfl, B2.out⟩
end Go.Proofs.YtidaoijpbdljbabDoor
