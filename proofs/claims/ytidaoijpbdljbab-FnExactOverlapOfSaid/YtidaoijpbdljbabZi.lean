/- Zones in the program: IsZone, AreZones, hasSquare, findZone, ZonesAt, OverlapOf. -/
import Derived.Test.YtidaoijpbdljbabZd
import Derived.Test.YtidaoijpbdljbabZoneBy
import Derived.Test.YtidaoijpbdljbabZoneFb
import Derived.Test.YtidaoijpbdljbabZoneR
import Derived.Test.YtidaoijpbdljbabAro
import Derived.Test.YtidaoijpbdljbabIsZoneP
import Derived.Test.YtidaoijpbdljbabAreZonesP
import Derived.Test.YtidaoijpbdljbabZonesAtP
import Derived.Test.YtidaoijpbdljbabOverlapOfP
import Derived.BigRegion
namespace Go.Proofs.Ytidaoijpbdljbab
open Go.RowKit

theorem zoneId_any (s : VZone) (w : World) : Calls Try.prog 113 #[.agg #[.int .i64 s.Id, .int .i64 s.West, .int .i64 s.South, .int .i64 s.East, .int .i64 s.North]] w fun e w' => e = .returned (.int .i64 s.Id) ∧ Below w.heap.size w w' := by
  go_enter Try.func113, Try.ntmps113
  go_wp2
  go_ret
  exact ⟨rfl, bel_al1 _ _⟩
set_option maxHeartbeats 3200000 in
theorem isZone_any (s : VZone) (w : World) :
    Calls Try.prog 39 #[.agg #[.int .i64 s.Id, .int .i64 s.West, .int .i64 s.South, .int .i64 s.East, .int .i64 s.North]] w fun e w' => e = .returned (.bool s.ok) ∧ Below w.heap.size w w' := by
  obtain ⟨q1, h1⟩ : ∃ q, inB s.Id 1 99 = q := ⟨_, rfl⟩
  obtain ⟨q2, h2⟩ : ∃ q, (inB s.West 0 9999 && (inB s.South 0 9999 && (inB s.East 0 9999 && inB s.North 0 9999))) = q := ⟨_, rfl⟩
  have OK := Lib.hid (show s.ok = (q1 && (q2 && (decide (s.West < s.East) && decide (s.South < s.North)))) from by unfold VZone.ok; rw [← h1, ← h2]; simp only [Bool.and_assoc])
  have H1 := Lib.hid h1
  have H2 := Lib.hid h2
  clear h1 h2
  go_enter Try.func39, Try.ntmps39
  go_wp2_with fail
  refine (areOne _ _ _ _ _ _ (by simp)).mono ?_
  rintro e w' ⟨rfl, rfl⟩
  rw [H1.out]
  cases q1
  · go_wp2
    go_ret
    exact ⟨ret_bool (by rw [OK.out]; rfl), bel_al2 _ _ _⟩
  go_wp2_with fail
  refine (areFour _ _ _ _ _ _ _ _ _ (by simp)).mono ?_
  rintro e w' ⟨rfl, rfl⟩
  rw [H2.out]
  cases q2
  · go_wp2
    go_ret
    exact ⟨ret_bool (by rw [OK.out]; rfl), bel_al3 _ _ _ _⟩
  by_cases h3 : s.West < s.East <;> by_cases h4 : s.South < s.North
  all_goals
    go_wp2
    go_ret
    exact ⟨ret_bool (by rw [OK.out]; simp [h3, h4]), bel_al3 _ _ _ _⟩
theorem len_le' {n : Nat} {k : Nat} : decide ((n : Int) ≤ (k : Int)) = decide (n ≤ k) := by rw [decide_eq_decide]; omega
set_option maxHeartbeats 1600000 in
theorem areZones_any (a : Option Addr) (len cap : Nat) (xs : List VZone) (w : World) (h : IsZoneS w a len cap xs) :
    Calls Try.prog 97 #[.slice a len cap] w fun e w' => e = .returned (.bool (zonesB xs)) ∧ Below w.heap.size w w' := by
  have S := Lib.hid h
  clear h
  go_enter Try.func97, Try.ntmps97
  go_wp2_with fail
  refine (byZone_any 39 113 VZone.ok VZone.Id 10 a len cap xs _ S.out (enters_fn Try.func39 (by kernel_rfl) (by kernel_rfl)) (enters_fn Try.func113 (by kernel_rfl) (by kernel_rfl)) (fun W s _ => isZone_any s W) (fun W s => zoneId_any s W)).mono ?_
  rintro e w2 ⟨rfl, hb⟩
  have B := Lib.hid hb
  clear hb
  go_wp2
  go_ret
  exact ⟨ret_bool (by unfold zonesB; rw [← len_le']; rfl), B.out⟩
theorem implIsZone_any (s : VZone) (w : World) : Calls Try.prog 39 #[.agg #[.int .i64 s.Id, .int .i64 s.West, .int .i64 s.South, .int .i64 s.East, .int .i64 s.North]] w (IsZone_Post s w) := isZone_any s w
theorem implAreZones_any (a : Option Addr) (len cap : Nat) (xs : List VZone) (w : World) (h : IsZoneS w a len cap xs) (_ : xs.length ≤ 1048576) : Calls Try.prog 97 #[.slice a len cap] w (AreZones_Post xs w) := areZones_any a len cap xs w h
theorem has_in {z : VZone} {x y : Int} : z.has x y = (inB x z.West (z.East - 1) && inB y z.South (z.North - 1)) := by
  rw [Bool.eq_iff_iff]
  unfold VZone.has
  simp only [Bool.and_eq_true, decide_eq_true_eq, inB_iff]
  omega
set_option maxHeartbeats 3200000 in
theorem hasSquare_any (z : VZone) (x y : Int) (w : World) (hz : z.ok = true) :
    Calls Try.prog 131 #[.agg #[.int .i64 z.Id, .int .i64 z.West, .int .i64 z.South, .int .i64 z.East, .int .i64 z.North], .int .i64 x, .int .i64 y] w fun e w' => e = .returned (.bool (z.has x y)) ∧ Below w.heap.size w w' := by
  obtain ⟨_, a1, a2, a3, a4, a5, a6⟩ := VZone.ok_iff.1 hz
  obtain ⟨q1, h1⟩ : ∃ q, inB x z.West (z.East - 1) = q := ⟨_, rfl⟩
  obtain ⟨q2, h2⟩ : ∃ q, inB y z.South (z.North - 1) = q := ⟨_, rfl⟩
  have OK := Lib.hid (show z.has x y = (q1 && q2) from by rw [has_in, ← h1, ← h2])
  have H1 := Lib.hid h1
  have H2 := Lib.hid h2
  clear h1 h2 hz
  go_enter Try.func131, Try.ntmps131
  go_wp2_with fail
  refine (areOne _ _ _ _ _ _ (by simp)).mono ?_
  rintro e w' ⟨rfl, rfl⟩
  rw [H1.out]
  cases q1
  · go_wp2
    go_ret
    exact ⟨ret_bool (by rw [OK.out]; rfl), bel_al2 _ _ _⟩
  go_wp2_with fail
  refine (areOne _ _ _ _ _ _ (by simp)).mono ?_
  rintro e w' ⟨rfl, rfl⟩
  rw [H2.out]
  go_wp2
  go_ret
  exact ⟨ret_bool (by rw [OK.out]; rfl), bel_al3 _ _ _ _⟩
/-! A zone by its number. -/
def zoneFor (zs : List VZone) (id : Int) : Option VZone := if zonesB zs && decide (0 ≤ zoneI zs id) then zs[(zoneI zs id).toNat]? else none
def zoneGot (o : Option VZone) : VZone := match o with | none => ⟨0, 0, 0, 0, 0⟩ | some z => z
theorem zoneFor_ok {zs : List VZone} {id : Int} {z : VZone} (h : zoneFor zs id = some z) : z.ok = true ∧ zonesB zs = true ∧ z ∈ zs := by
  unfold zoneFor at h
  split at h
  · rename_i h1
    rw [Bool.and_eq_true] at h1
    exact ⟨zonesB_ok h1.1 (List.mem_of_getElem? h), h1.1, List.mem_of_getElem? h⟩
  · cases h
theorem overlap_some {zs : List VZone} {a b : Int} {p q : VZone} (h1 : zoneFor zs a = some p) (h2 : zoneFor zs b = some q) : OverlapOf_1 zs a b = true ∧ OverlapOf_0 zs a b = bothOf p q := by
  unfold zoneFor at h1 h2
  split at h1
  · rename_i k1
    split at h2
    · rename_i k2
      rw [Bool.and_eq_true] at k1 k2
      have e : OverlapOf_1 zs a b = true := by unfold OverlapOf_1; rw [k1.1, k1.2, k2.2]; rfl
      refine ⟨e, ?_⟩
      unfold OverlapOf_0
      rw [e, if_pos rfl, h1, h2]
    · cases h2
  · cases h1
theorem overlap_none {zs : List VZone} {a b : Int} (h : zoneFor zs a = none ∨ zoneFor zs b = none) : OverlapOf_1 zs a b = false ∧ OverlapOf_0 zs a b = 0 := by
  have key : ∀ id, zonesB zs = true → zoneFor zs id = none → decide (0 ≤ zoneI zs id) = false := by
    intro id hz h
    unfold zoneFor at h
    split at h
    · rename_i k
      rw [Bool.and_eq_true] at k
      obtain ⟨i, z, hi, hz⟩ := zone_at (of_decide_eq_true k.2)
      rw [hi, Int.toNat_natCast, hz] at h
      cases h
    · rename_i k
      rw [hz] at k
      simpa using k
  have e : OverlapOf_1 zs a b = false := by
    unfold OverlapOf_1
    cases hz : zonesB zs
    · rfl
    · rcases h with h | h
      · rw [key a hz h]; rfl
      · rw [key b hz h]; simp
  exact ⟨e, by unfold OverlapOf_0; rw [e]; rfl⟩
set_option maxHeartbeats 3200000 in
theorem findZone_any (a : Option Addr) (len cap : Nat) (xs : List VZone) (id : Int) (w : World) (h : IsZoneS w a len cap xs) :
    Calls Try.prog 86 #[.slice a len cap, .int .i64 id] w fun e w' => ∃ z : VZone, zoneGot (zoneFor xs id) = z ∧ e = .returned (.tuple #[.agg #[.int .i64 z.Id, .int .i64 z.West, .int .i64 z.South, .int .i64 z.East, .int .i64 z.North], .bool (zoneFor xs id).isSome]) ∧ Below w.heap.size w w' := by
  have b0 := bel_al1 w (.cells #[.int .i64 0, .int .i64 0, .int .i64 0, .int .i64 0, .int .i64 0] 50)
  have S := Lib.hid (h.below b0)
  have B0 := Lib.hid b0
  have Z0 := Lib.hid (HBZone.new w ⟨0, 0, 0, 0, 0⟩ _ rfl)
  clear h b0
  go_enter Try.func86, Try.ntmps86
  go_wp2_with fail
  refine (findByZone_any 97 113 (zonesB xs) VZone.Id _ _ _ xs id _ S.out (enters_fn Try.func97 (by kernel_rfl) (by kernel_rfl)) (enters_fn Try.func113 (by kernel_rfl) (by kernel_rfl)) (fun W hW => areZones_any _ _ _ xs W hW) (fun W s => zoneId_any s W)).mono ?_
  rintro e w2 ⟨y, rfl, hy, hb⟩
  have B2 := Lib.hid (Below.then' B0.out hb)
  have S2 := Lib.hid (S.out.below hb)
  have Z2 := Lib.hid (Z0.out.below hb)
  have HY := Lib.hid hy
  obtain ⟨ok, hok⟩ : ∃ ok, (zonesB xs && decide (0 ≤ firstOf (fun s : VZone => s.Id == id) xs)) = ok := ⟨_, rfl⟩
  rw [hok]
  have OKQ := Lib.hid hok
  clear hb hy hok
  cases hg : zonesB xs with
  | false =>
    obtain rfl : ok = false := by rw [← OKQ.out, hg]; rfl
    have E := Lib.hid (show zoneFor xs id = none from by unfold zoneFor; rw [hg]; rfl)
    obtain ⟨d0, d1, d2, d3, d4⟩ := Z2.out.cells
    have g0 := Z2.out.free 0
    have g1 := Z2.out.free 1
    have g2 := Z2.out.free 2
    have g3 := Z2.out.free 3
    have g4 := Z2.out.free 4
    clear hg
    go_wp2
    refine bodyPost_ret (resultsZone2 rfl rfl rfl (Z2.out.setAll ⟨0, 0, 0, 0, 0⟩)) rfl ⟨⟨0, 0, 0, 0, 0⟩, by rw [E.out]; rfl, by rw [E.out]; rfl, ?_⟩
    exact ((((B2.out.setCell (by simp) _).setCell (by simp) _).setCell (by simp) _).setCell (by simp) _).setCell (by simp) _
  | true =>
  have HG := Lib.hid hg
  have Y := Lib.hid (show zoneI xs id = y from (HY.out hg).symm)
  have YF := Lib.hid (show firstOf (fun z : VZone => z.Id == id) xs = y from (HY.out hg).symm)
  clear hg
  obtain ⟨d0, d1, d2, d3, d4⟩ := Z2.out.cells
  have g0 := Z2.out.free 0
  have g1 := Z2.out.free 1
  have g2 := Z2.out.free 2
  have g3 := Z2.out.free 3
  have g4 := Z2.out.free 4
  by_cases hneg : y < 0
  · obtain rfl : ok = false := by rw [← OKQ.out, HG.out, YF.out, decide_eq_false (by omega)]; rfl
    have E := Lib.hid (show zoneFor xs id = none from by unfold zoneFor; rw [HG.out, Y.out, decide_eq_false (by omega)]; rfl)
    go_wp2
    refine bodyPost_ret (resultsZone2 rfl rfl rfl (Z2.out.setAll ⟨0, 0, 0, 0, 0⟩)) rfl ⟨⟨0, 0, 0, 0, 0⟩, by rw [E.out]; rfl, by rw [E.out]; rfl, ?_⟩
    exact ((((B2.out.setCell (by simp) _).setCell (by simp) _).setCell (by simp) _).setCell (by simp) _).setCell (by simp) _
  · obtain rfl : ok = true := by rw [← OKQ.out, HG.out, YF.out, decide_eq_true (by omega)]; rfl
    obtain ⟨i, z, hi, hz⟩ := zone_at (show 0 ≤ zoneI xs id by rw [Y.out]; omega)
    obtain rfl : y = (i : Int) := by rw [← Y.out, hi]
    have E := Lib.hid (show zoneFor xs id = some z from by unfold zoneFor; rw [HG.out, Y.out, decide_eq_true (by omega)]; simpa using hz)
    have hil := (List.getElem?_eq_some_iff.1 hz).1
    have hdl := S2.out.1
    obtain ⟨b, o, rfl, hb, hat⟩ := S2.out.at (by omega)
    obtain ⟨c0, c1, c2, c3, c4⟩ := hat i z hz
    have i0 : (0 : Int) ≤ (i : Int) := by omega
    have i1 : (i : Int) < (len : Int) := by omega
    clear hneg hi hz hat hdl
    go_wp2
    refine bodyPost_ret (resultsZone2 rfl rfl rfl (Z2.out.setAll z)) rfl ⟨z, by rw [E.out]; rfl, by rw [E.out]; rfl, ?_⟩
    exact ((((B2.out.setCell (by simp) _).setCell (by simp) _).setCell (by simp) _).setCell (by simp) _).setCell (by simp) _
end Go.Proofs.Ytidaoijpbdljbab
