/- Readers in the program: payments, a raised class. -/
import Derived.Test.YtidaoijpbdljbabDoorRi4
namespace Go.Proofs.YtidaoijpbdljbabDoor
open Go.RowKit

set_option maxHeartbeats 3200000 in
set_option maxRecDepth 100000 in
theorem implPayFines_any (a : Option Addr) (len cap : Nat) (xs : List VReader) (id c : Int) (w : World) (h : IsReaderS w a len cap xs) (hx : xs.length ≤ 1048576) (hz : ∀ s ∈ xs, s.sized) :
    Calls Tryd.prog 12 #[.slice a len cap, .int .i64 id, .int .i64 c] w (PayFines_Post xs id c w) := by
  have hm := h.2.2.1
  have hcl := h.2.1
  unfold maxLen at hm
  obtain rfl := h.1
  have S := Lib.hid h
  have HZ := Lib.hid hz
  clear h hz
  rcases rdSel_ways xs id with ⟨h1, h2⟩ | ⟨i, s, ha, h1, hs, hi, hid, h2⟩
  · have F := Lib.hid h1
    have E := Lib.hid (show rdPay xs id c = ([], 0, false) from by unfold rdPay; rw [h2])
    clear h1 h2
    go_enter Tryd.func12, Tryd.ntmps12
    go_wp2_with fail
    refine (findReader_any _ _ _ xs id _ S.out).mono ?_
    intro e w1 hp
    obtain ⟨z, rfl, hb⟩ := find_no hp F.out
    have B1 := Lib.hid hb
    clear hb hp
    go_wp2
    go_ret3
    refine ⟨_, by unfold PayFines_1 PayFines_2; rw [E.out]; rfl, by unfold PayFines_0; rw [E.out]; exact nil_ownReader _ _, B1.out⟩
  · have F := Lib.hid h1
    have H2 := Lib.hid h2
    have HS := Lib.hid hs
    have HA := Lib.hid ha
    obtain ⟨q, hq⟩ : ∃ q, inB c 1 10000 = q := ⟨_, rfl⟩
    have Q := Lib.hid hq
    have OKB := Lib.hid (areRd_ok ha (List.mem_of_getElem? hs))
    clear h1 h2 hs hq ha hid
    go_enter Tryd.func12, Tryd.ntmps12
    go_wp2_with fail
    refine (findReader_any _ _ _ xs id _ S.out).mono ?_
    intro e w1 hp
    obtain ⟨rfl, hb⟩ := find_yes hp F.out
    have B1 := Lib.hid hb
    clear hb hp
    go_wp2_with fail
    refine (areIn1 _ _ _ _ _ _ rfl).mono ?_
    rintro e w' ⟨rfl, rfl⟩
    rw [Q.out]
    have B2 := Lib.hid (Below.then' B1.out (bel_al1 w1 (.cells #[.int .i64 c] 3)))
    cases q
    · have E := Lib.hid (show rdPay xs id c = ([], 0, false) from by unfold rdPay centsB; rw [H2.out]; simp [Q.out])
      go_wp2
      go_ret3
      refine ⟨_, by unfold PayFines_1 PayFines_2; rw [E.out]; rfl, by unfold PayFines_0; rw [E.out]; exact nil_ownReader _ _, B2.out⟩
    obtain ⟨_, hw, _, _, f0, f1⟩ := rdOk_iff.1 OKB.out
    have c1 : 1 ≤ c ∧ c ≤ 10000 := inB_iff.1 Q.out
    obtain ⟨n, hn⟩ : ∃ n, min c s.Fines = n := ⟨_, rfl⟩
    have hn0 : 0 ≤ n ∧ n ≤ s.Fines ∧ n ≤ c := by omega
    have HN := Lib.hid hn
    have OK2 := Lib.hid (show (⟨s.Id, s.Name, s.Joined, s.Class, s.Fines - n⟩ : VReader).ok = true from by
      have h := rdOk_iff.1 OKB.out
      exact rdOk_iff.2 ⟨h.1, h.2.1, h.2.2.1, h.2.2.2.1, by show 0 ≤ s.Fines - n ∧ s.Fines - n ≤ 10000; omega⟩)
    have E := Lib.hid (show rdPay xs id c = (xs.set i ⟨s.Id, s.Name, s.Joined, s.Class, s.Fines - n⟩, c - n, true) from by
      unfold rdPay centsB; rw [H2.out]; simp only [Q.out, if_true, hn]
      rw [rdWith_ok' (r := ⟨s.Id, s.Name, s.Joined, s.Class, s.Fines - n⟩) HA.out HS.out rfl OK2.out])
    have SR := Lib.hid (show (⟨s.Id, s.Name, s.Joined, s.Class, s.Fines - n⟩ : VReader).sized from HZ.out s (List.mem_of_getElem? HS.out))
    obtain ⟨b, o, rfl, hbw, hat⟩ := (S.out.below B2.out).at (by omega)
    obtain ⟨d0, d1, d2, d3, d4, _⟩ := hat i s HS.out
    have i1 : (i : Int) < (xs.length : Int) := by omega
    have i2 : (0 : Int) ≤ (i : Int) := by omega
    clear hat hw hn
    have hmin : min c s.Fines = n := HN.out
    have B3 := Lib.hid (Below.then' B2.out (bel_al1 _ (.cells #[.int .i64 s.Id, .string s.Name, .int .i64 s.Joined, .int .i64 s.Class, .int .i64 (s.Fines - n)] 36)))
    have S3 := Lib.hid (S.out.below B3.out)
    go_wp2_with fail
    refine (withReader_any _ _ _ xs i ⟨s.Id, s.Name, s.Joined, s.Class, s.Fines - n⟩ _ S3.out hi hx HZ.out SR.out).mono ?_
    rintro e w4 ⟨v, rfl, hown, hb⟩
    have B4 := Lib.hid (Below.then' B3.out hb)
    have O := Lib.hid (ownsRow_base hown B3.out.size)
    clear hown hb
    go_wp2
    go_ret3
    refine ⟨v, by unfold PayFines_1 PayFines_2; rw [E.out]; rfl, by unfold PayFines_0; rw [E.out]; exact O.out, B4.out⟩
set_option maxHeartbeats 1600000 in
theorem isRipe_any (s : VReader) (day : Int) (w : World) (hs : s.ok = true) (hd : dayB day = true) :
    Calls Tryd.prog 43 #[.agg #[.int .i64 s.Id, .string s.Name, .int .i64 s.Joined, .int .i64 s.Class, .int .i64 s.Fines], .int .i64 day] w fun e w' => e = .returned (.bool (ripeB s day)) ∧ Below w.heap.size w w' := by
  obtain ⟨_, _, ⟨j0, j1⟩, ⟨c0, c1⟩, f0, f1⟩ := rdOk_iff.1 hs
  have d := inB_iff.1 hd
  clear hs hd
  by_cases h1 : s.Class < 3
  · by_cases h2 : s.Fines = 0
    · have h3 : (s.Fines == 0) = true := by simpa using h2
      have H2 := Lib.hid h2
      clear h2
      go_enter Tryd.func43, Tryd.ntmps43
      go_wp2
      go_ret
      exact ⟨ret_bool (by simp [ripeB, H2.out, h1]), bel_al1 _ _⟩
    · have h3 : (s.Fines == 0) = false := by simpa using h2
      go_enter Tryd.func43, Tryd.ntmps43
      go_wp2
      go_ret
      exact ⟨ret_bool (by simp [ripeB, h3]), bel_al1 _ _⟩
  · go_enter Tryd.func43, Tryd.ntmps43
    go_wp2
    go_ret
    exact ⟨ret_bool (by simp [ripeB]; omega), bel_al1 _ _⟩
set_option maxHeartbeats 3200000 in
set_option maxRecDepth 100000 in
theorem implRaiseClass_any (a : Option Addr) (len cap : Nat) (xs : List VReader) (id c : Int) (w : World) (h : IsReaderS w a len cap xs) (hx : xs.length ≤ 1048576) (hz : ∀ s ∈ xs, s.sized) :
    Calls Tryd.prog 15 #[.slice a len cap, .int .i64 id, .int .i64 c] w (RaiseClass_Post xs id c w) := by
  have hm := h.2.2.1
  have hcl := h.2.1
  unfold maxLen at hm
  obtain rfl := h.1
  have S := Lib.hid h
  have HZ := Lib.hid hz
  clear h hz
  rcases rdSel_ways xs id with ⟨h1, h2⟩ | ⟨i, s, ha, h1, hs, hi, hid, h2⟩
  · have F := Lib.hid h1
    have E := Lib.hid (show rdRaise xs id c = ([], false) from by unfold rdRaise; rw [h2])
    clear h1 h2
    go_enter Tryd.func15, Tryd.ntmps15
    go_wp2_with fail
    refine (findReader_any _ _ _ xs id _ S.out).mono ?_
    intro e w1 hp
    obtain ⟨z, rfl, hb⟩ := find_no hp F.out
    have B1 := Lib.hid hb
    clear hb hp
    go_wp2
    go_ret2
    refine ⟨_, by unfold RaiseClass_1; rw [E.out]; rfl, by unfold RaiseClass_0; rw [E.out]; exact nil_ownReader _ _, B1.out⟩
  · have F := Lib.hid h1
    have H2 := Lib.hid h2
    have HS := Lib.hid hs
    have HA := Lib.hid ha
    obtain ⟨q, hq⟩ : ∃ q, dayB c = q := ⟨_, rfl⟩
    have Q := Lib.hid hq
    have OKB := Lib.hid (areRd_ok ha (List.mem_of_getElem? hs))
    clear h1 h2 hs hq ha hid
    go_enter Tryd.func15, Tryd.ntmps15
    go_wp2_with fail
    refine (findReader_any _ _ _ xs id _ S.out).mono ?_
    intro e w1 hp
    obtain ⟨rfl, hb⟩ := find_yes hp F.out
    have B1 := Lib.hid hb
    clear hb hp
    go_wp2_with fail
    refine (isDay_any _ _).mono ?_
    rintro e w2 ⟨rfl, hb⟩
    rw [Q.out]
    have B2 := Lib.hid (Below.then' B1.out hb)
    clear hb
    cases q
    · have E := Lib.hid (show rdRaise xs id c = ([], false) from by unfold rdRaise; rw [H2.out]; simp [Q.out])
      go_wp2
      go_ret2
      refine ⟨_, by unfold RaiseClass_1; rw [E.out]; rfl, by unfold RaiseClass_0; rw [E.out]; exact nil_ownReader _ _, B2.out⟩
    obtain ⟨b, o, rfl, hbw, hat⟩ := (S.out.below B2.out).at (by omega)
    have AT := Lib.hid (hat i s HS.out)
    obtain ⟨d0, d1, d2, d3, d4, _⟩ := hat i s HS.out
    have i1 : (i : Int) < (xs.length : Int) := by omega
    have i2 : (0 : Int) ≤ (i : Int) := by omega
    obtain ⟨p, hp⟩ : ∃ p, ripeB s c = p := ⟨_, rfl⟩
    have PP := Lib.hid hp
    clear hat hp
    go_wp2_with fail
    refine (isRipe_any s c _ OKB.out Q.out).mono ?_
    rintro e w3 ⟨rfl, hb⟩
    rw [PP.out]
    have B3 := Lib.hid (Below.then' B2.out hb)
    have AT3 := Lib.hid (AT.out.below hb hbw)
    clear hb d0 d1 d2 d3 d4
    cases p
    · have E := Lib.hid (show rdRaise xs id c = ([], false) from by unfold rdRaise; rw [H2.out]; simp [Q.out, PP.out])
      go_wp2
      go_ret2
      refine ⟨_, by unfold RaiseClass_1; rw [E.out]; rfl, by unfold RaiseClass_0; rw [E.out]; exact nil_ownReader _ _, B3.out⟩
    have hcl3 : s.Class < 3 := by have h := PP.out; unfold ripeB at h; simp at h; exact h.1
    obtain ⟨_, hw, _, ⟨g0, g1⟩, f0, f1⟩ := rdOk_iff.1 OKB.out
    have v1 : IntKind.i64.wrap (s.Class + 1) = s.Class + 1 := IntWalk.i64_in _ (by omega)
    have OK2 := Lib.hid (show (⟨s.Id, s.Name, s.Joined, s.Class + 1, s.Fines⟩ : VReader).ok = true from by
      have h := rdOk_iff.1 OKB.out
      exact rdOk_iff.2 ⟨h.1, h.2.1, h.2.2.1, by show 1 ≤ s.Class + 1 ∧ s.Class + 1 ≤ 3; omega, h.2.2.2.2⟩)
    have E := Lib.hid (show rdRaise xs id c = (xs.set i ⟨s.Id, s.Name, s.Joined, s.Class + 1, s.Fines⟩, true) from by
      unfold rdRaise; rw [H2.out]; simp only [Q.out, PP.out, Bool.and_self, if_true]
      rw [rdWith_ok' (r := ⟨s.Id, s.Name, s.Joined, s.Class + 1, s.Fines⟩) HA.out HS.out rfl OK2.out])
    have SR := Lib.hid (show (⟨s.Id, s.Name, s.Joined, s.Class + 1, s.Fines⟩ : VReader).sized from HZ.out s (List.mem_of_getElem? HS.out))
    obtain ⟨d0, d1, d2, d3, d4, _⟩ := AT3.out
    have B4 := Lib.hid (Below.then' B3.out (bel_al1 _ (.cells #[.int .i64 s.Id, .string s.Name, .int .i64 s.Joined, .int .i64 (s.Class + 1), .int .i64 s.Fines] 36)))
    have S4 := Lib.hid (S.out.below B4.out)
    clear hw
    go_wp2_with fail
    refine (withReader_any _ _ _ xs i ⟨s.Id, s.Name, s.Joined, s.Class + 1, s.Fines⟩ _ S4.out hi hx HZ.out SR.out).mono ?_
    rintro e w5 ⟨v, rfl, hown, hb⟩
    have B5 := Lib.hid (Below.then' B4.out hb)
    have O := Lib.hid (ownsRow_base hown B4.out.size)
    clear hown hb
    go_wp2
    go_ret2
    refine ⟨v, by unfold RaiseClass_1; rw [E.out]; rfl, by unfold RaiseClass_0; rw [E.out]; exact O.out, B5.out⟩
end Go.Proofs.YtidaoijpbdljbabDoor
