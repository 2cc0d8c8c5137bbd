/- TouchingZones and CutZone in the model. -/
import Derived.Test.YtmjdldeoplopkaaZs
import Derived.Test.YtmjdldeoplopkaaTouchingZonesP
import Derived.Test.YtmjdldeoplopkaaCutZoneP
import Derived.StillTailTactics
import Derived.Deep.RegionHeld3
import Derived.Deep.AppendLies
namespace Go.Proofs.Ytmjdldeoplopkaa
open Go.RowKit

set_option maxHeartbeats 12800000 in
set_option maxRecDepth 100000 in
theorem l6Touch_any (a b : VZone) (w : World) (ha : a.ok = true) (hb : b.ok = true) :
    Calls Try.prog 69 #[.agg #[.int .i64 a.Id, .int .i64 a.West, .int .i64 a.South, .int .i64 a.East, .int .i64 a.North], .agg #[.int .i64 b.Id, .int .i64 b.West, .int .i64 b.South, .int .i64 b.East, .int .i64 b.North]] w fun e w' => e = .returned (.bool (touchB a b)) ∧ Below w.heap.size w w' := by
  obtain ⟨⟨p1, p2⟩, p3, p4⟩ := bothOf_bd ha hb
  have v1 : IntKind.i64.wrap (min a.East b.East - max a.West b.West) = wideOf a b := IntWalk.i64_in _ (by unfold wideOf at p1 p2; omega)
  have v2 : IntKind.i64.wrap (min a.North b.North - max a.South b.South) = highOf a b := IntWalk.i64_in _ (by unfold highOf at p3 p4; omega)
  have U := Lib.hid (show touchB a b = ((decide (wideOf a b = 0) && decide (0 < highOf a b)) || (decide (0 < wideOf a b) && decide (highOf a b = 0))) from rfl)
  obtain ⟨x, hx⟩ : ∃ x, wideOf a b = x := ⟨_, rfl⟩
  obtain ⟨y, hy⟩ : ∃ y, highOf a b = y := ⟨_, rfl⟩
  rw [hx] at v1 p1 p2 U
  rw [hy] at v2 p3 p4 U
  clear hx hy ha hb
  go_enter Try.func69, Try.ntmps69
  go_wp2
  refine wp_world (fun W => BoxZone W w.heap.size a ∧ BoxZone W (w.heap.size + 1) b ∧ Below w.heap.size w W) ⟨(BoxZone.new w 25 a _ rfl).below (bel_al1 _ _), BoxZone.new _ 25 b _ (by simp), bel_al2 _ _ _⟩ ?_
  rintro W ⟨hb1, hb2, hbw⟩
  have BW := Lib.hid hbw
  have X1 := Lib.hid hb1
  have X2 := Lib.hid hb2
  clear hbw hb1 hb2
  obtain ⟨d0, d1, d2, d3, d4⟩ := X1.out
  obtain ⟨f0, f1, f2, f3, f4⟩ := X2.out
  have k1 := cell_regrown d1
  have k3 := cell_regrown d3
  have j1 := cell_regrown f1
  have j3 := cell_regrown f3
  clear d0 d1 d2 d3 d4 f0 f1 f2 f3 f4
  have c1 := fun p q => below_at (W := W) (fun W' _ => same_below (l1Least_any p q W'))
  have c2 := fun p q => below_at (W := W) (fun W' _ => same_below (l1Most_any p q W'))
  refine wp_region_quiet_below (by kernel_rfl) (by kernel_rfl) ?_
  repeat (first | go_big_quiet_step (first | (with_reducible exact c1 _ _ _ _) | (with_reducible exact c2 _ _ _ _)) | quiet_step (first | (with_reducible exact c1 _ _ _ _) | (with_reducible exact c2 _ _ _ _)))
  refine wpQuiet_nil ?_
  intro W2 hw2
  have hb2 := below_of_re hw2
  have B2 := Lib.hid (Below.then' BW.out hb2)
  obtain ⟨d0, d1, d2, d3, d4⟩ := X1.out.below hb2
  obtain ⟨f0, f1, f2, f3, f4⟩ := X2.out.below hb2
  have k2 := cell_regrown d2
  have k4 := cell_regrown d4
  have j2 := cell_regrown f2
  have j4 := cell_regrown f4
  have c1' := fun p q => below_at (W := W2) (fun W' _ => same_below (l1Least_any p q W'))
  have c2' := fun p q => below_at (W := W2) (fun W' _ => same_below (l1Most_any p q W'))
  clear hw2 hb2 k1 k3 j1 j3 c1 c2 d0 d1 d2 d3 d4 f0 f1 f2 f3 f4 v1
  go_wp2
  refine wp_region_quiet_below (by kernel_rfl) (by kernel_rfl) ?_
  repeat (first | go_big_quiet_step (first | (with_reducible exact c1' _ _ _ _) | (with_reducible exact c2' _ _ _ _)) | quiet_step (first | (with_reducible exact c1' _ _ _ _) | (with_reducible exact c2' _ _ _ _)))
  refine wpQuiet_nil ?_
  intro W3 hw3
  have B3 := Lib.hid (Below.then' B2.out (below_of_re hw3))
  clear hw3 k2 k4 j2 j4 c1' c2' v2
  rcases Int.lt_trichotomy x 0 with hx | hx | hx <;> rcases Int.lt_trichotomy y 0 with hy | hy | hy
  all_goals
    go_wp2
    all_goals
      go_ret
      exact ⟨ret_bool (by rw [U.out, Bool.eq_iff_iff]; simp <;> omega), B3.out⟩
def somePart (L : List VIntA4) (r : VIntA4) : List VIntA4 := if r.E2 ≤ r.E0 ∨ r.E3 ≤ r.E1 then L else L ++ [r]
set_option maxHeartbeats 6400000 in
set_option maxRecDepth 100000 in
theorem l6Some_any (base : Nat) (v : Value) (L : List VIntA4) (r : VIntA4) (w : World) (h : w.ownsRow base 36 4 v L.length (cellsIntA4 L)) (hl : L.length ≤ 1000) (hbase : base ≤ w.heap.size) :
    Calls Try.prog 62 #[v, .int .i64 r.E0, .int .i64 r.E1, .int .i64 r.E2, .int .i64 r.E3] w fun e w' => ∃ v', e = .returned v' ∧ w'.ownsRow base 36 4 v' (somePart L r).length (cellsIntA4 (somePart L r)) ∧ Below base w w' ∧ base ≤ w'.heap.size := by
  obtain ⟨i0, hi, hz0, hz1, hz2⟩ := info_parts infoIntA4
  have O := Lib.hid h
  have U := Lib.hid (show somePart L r = if r.E2 ≤ r.E0 ∨ r.E3 ≤ r.E1 then L else L ++ [r] from rfl)
  clear h
  by_cases h1 : r.E2 ≤ r.E0
  · have E := Lib.hid (show somePart L r = L from by rw [U.out, if_pos (.inl h1)])
    go_enter Try.func62, Try.ntmps62
    go_wp2
    go_ret
    exact ⟨v, rfl, by rw [E.out]; exact O.out, Below.refl _ _, hbase⟩
  by_cases h2 : r.E3 ≤ r.E1
  · have E := Lib.hid (show somePart L r = L from by rw [U.out, if_pos (.inr h2)])
    go_enter Try.func62, Try.ntmps62
    go_wp2
    go_ret
    exact ⟨v, rfl, by rw [E.out]; exact O.out, Below.refl _ _, hbase⟩
  have E := Lib.hid (show somePart L r = L ++ [r] from by rw [U.out, if_neg (by omega)])
  have hown3 := O.out.alloc (.cells #[.int .i64 r.E0, .int .i64 r.E1, .int .i64 r.E2, .int .i64 r.E3] 36)
  go_enter Try.func62, Try.ntmps62
  go_wp2_with (at_builtin; refine wpList_append_own _ rfl _ _ 28 rfl base 36 i0 (.agg #[.int .i64 0, .int .i64 0, .int .i64 0, .int .i64 0]) 4 32 Try.underlying28 hi hz0 hz1 hz2 rfl (by decide) _ _ _ rfl hown3 ⟨w.heap.size, 0, none⟩ 1 1 r.vals rfl rfl (cell_IntA4 _ _ _) r.vals_one (by unfold maxLen; omega) (by omega) (by simp; omega) ?_; intro v' w4 hown' hgrow4 hnil4)
  go_ret
  refine ⟨v', rfl, ?_, ((Below.refl _ _).alloc hbase _).grown hgrow4 (by simp; omega) (fun j e => (hown3.lt j e).1), Nat.le_trans hbase (Nat.le_trans (by rw [size_al]; omega) hgrow4.size)⟩
  rw [E.out, cellsIntA4_snoc, List.length_append]
  exact hown'
theorem some_full (L : List VIntA4) {r : VIntA4} (h0 : r.E0 ≤ r.E2) (h1 : r.E1 ≤ r.E3) : somePart L r = L ++ [r].filter fullB := by
  unfold somePart
  by_cases h2 : r.E2 ≤ r.E0
  · have : fullB r = false := by unfold fullB; simp; omega
    rw [if_pos (.inl h2)]; simp [this]
  · by_cases h3 : r.E3 ≤ r.E1
    · have : fullB r = false := by unfold fullB; simp; omega
      rw [if_pos (.inr h3)]; simp [this]
    · have : fullB r = true := by unfold fullB; simp; omega
      rw [if_neg (by omega)]; simp [this]
/-- Not a rectangle, nor one that is right about its lines: left out all the same. -/
theorem some_none (L : List VIntA4) {r : VIntA4} (h : r.E2 ≤ r.E0 ∨ r.E3 ≤ r.E1) : somePart L r = L := by unfold somePart; rw [if_pos h]
theorem cut_some {a b : VZone} (ha : a.ok = true) (hb : b.ok = true) :
    somePart (somePart (somePart (somePart [] ⟨a.West, a.South, a.East, min a.North (max a.South b.South)⟩) ⟨a.West, max (min a.North (max a.South b.South)) (max a.South (min a.North b.North)), a.East, a.North⟩) ⟨a.West, min a.North (max a.South b.South), min a.East b.West, max a.South (min a.North b.North)⟩) ⟨max a.West b.East, min a.North (max a.South b.South), a.East, max a.South (min a.North b.North)⟩ = CutZone_0 a b := by
  obtain ⟨_, a1, a2, a3, a4, a5, a6⟩ := VZone.ok_iff.1 ha
  obtain ⟨_, b1, b2, b3, b4, b5, b6⟩ := VZone.ok_iff.1 hb
  have e1 : min a.North (max a.South b.South) = lowCut a b := by unfold lowCut; omega
  have e2 : max a.South (min a.North b.North) = highCut a b := by unfold highCut; omega
  have e3 : max (lowCut a b) (highCut a b) = highCut a b := by unfold lowCut highCut; omega
  rw [e1, e2, e3]
  have U : CutZone_0 a b = (cutParts a b).filter fullB := by unfold CutZone_0 CutZone_1; rw [ha, hb]; rfl
  rw [U]
  have l1 : a.South ≤ lowCut a b ∧ lowCut a b ≤ highCut a b ∧ highCut a b ≤ a.North := by unfold lowCut highCut; omega
  rw [some_full (r := ⟨a.West, a.South, a.East, lowCut a b⟩) [] (by simp; omega) (by simp; omega)]
  rw [some_full (r := ⟨a.West, highCut a b, a.East, a.North⟩) _ (by simp; omega) (by simp; omega)]
  have e4 : somePart (([] : List VIntA4) ++ [⟨a.West, a.South, a.East, lowCut a b⟩].filter fullB ++ [⟨a.West, highCut a b, a.East, a.North⟩].filter fullB) ⟨a.West, lowCut a b, min a.East b.West, highCut a b⟩ = ([] : List VIntA4) ++ [⟨a.West, a.South, a.East, lowCut a b⟩].filter fullB ++ [⟨a.West, highCut a b, a.East, a.North⟩].filter fullB ++ [⟨a.West, lowCut a b, westCut a b, highCut a b⟩].filter fullB := by
    by_cases h : a.West ≤ b.West
    · have : min a.East b.West = westCut a b := by unfold westCut; omega
      rw [this]
      exact some_full _ (by simp only; unfold westCut; omega) (by simp; omega)
    · have h0 : fullB ⟨a.West, lowCut a b, westCut a b, highCut a b⟩ = false := by unfold fullB westCut; simp; omega
      rw [some_none _ (.inl (by simp only; omega))]
      simp [h0]
  rw [e4]
  have e5 : ∀ L : List VIntA4, somePart L ⟨max a.West b.East, lowCut a b, a.East, highCut a b⟩ = L ++ [⟨eastCut a b, lowCut a b, a.East, highCut a b⟩].filter fullB := by
    intro L
    by_cases h : b.East ≤ a.East
    · have : max a.West b.East = eastCut a b := by unfold eastCut; omega
      rw [this]
      exact some_full _ (by simp only; unfold eastCut; omega) (by simp; omega)
    · have h0 : fullB ⟨eastCut a b, lowCut a b, a.East, highCut a b⟩ = false := by unfold fullB eastCut; simp; omega
      rw [some_none _ (.inl (by simp only; omega))]
      simp [h0]
  rw [e5]
  simp only [cutParts, List.nil_append]
  rw [← List.filter_append, ← List.filter_append, ← List.filter_append]
  rfl
theorem some_len (L : List VIntA4) (r : VIntA4) : (somePart L r).length ≤ L.length + 1 := by
  unfold somePart
  split <;> simp
end Go.Proofs.Ytmjdldeoplopkaa
