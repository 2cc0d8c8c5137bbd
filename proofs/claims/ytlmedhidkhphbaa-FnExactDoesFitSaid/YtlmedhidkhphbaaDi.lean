/- Flats and drawers in the program, each by itself: isFlat, AreFlats, areFlatIds, isDrawer, fitsInto, DoesFit. -/
import Derived.Test.YtlmedhidkhphbaaFl4
import Derived.Test.YtlmedhidkhphbaaFlatBy
import Derived.Test.YtlmedhidkhphbaaDrawerBy
import Derived.Test.YtlmedhidkhphbaaIntBy
import Derived.Test.YtlmedhidkhphbaaAro
namespace Go.Proofs.Ytlmedhidkhphbaa
open Go.RowKit

set_option maxHeartbeats 3200000 in
theorem isFlat_any (s : VFlat) (w : World) :
    Calls Try.prog 84 #[.agg #[.int .i64 s.Id, .int .i64 s.Wide, .int .i64 s.High, .int .i64 s.Grams]] w fun e w' => e = .returned (.bool s.ok) ∧ Below w.heap.size w w' := by
  obtain ⟨q1, h1⟩ : ∃ q, inB s.Id 1 999 = q := ⟨_, rfl⟩
  obtain ⟨q2, h2⟩ : ∃ q, (inB s.Wide 10 2000 && inB s.High 10 2000) = q := ⟨_, rfl⟩
  obtain ⟨q3, h3⟩ : ∃ q, inB s.Grams 1 5000 = q := ⟨_, rfl⟩
  have OK := Lib.hid (show s.ok = (q1 && (q2 && q3)) from by unfold VFlat.ok; rw [← h1, ← h2, ← h3, Bool.and_assoc])
  have H1 := Lib.hid h1
  have H2 := Lib.hid h2
  have H3 := Lib.hid h3
  clear h1 h2 h3
  go_enter Try.func84, Try.ntmps84
  go_wp2_with fail
  refine (areOne _ _ _ _ _ _ (by simp)).mono ?_
  rintro e w' ⟨rfl, rfl⟩
  rw [H1.out]
  cases q1
  · go_wp2
    go_ret
    exact ⟨ret_bool (by rw [OK.out]; rfl), bel_al2 _ _ _⟩
  go_wp2_with fail
  refine (areTwo _ _ _ _ _ _ _ (by simp)).mono ?_
  rintro e w' ⟨rfl, rfl⟩
  rw [H2.out]
  cases q2
  · go_wp2
    go_ret
    exact ⟨ret_bool (by rw [OK.out]; rfl), bel_al3 _ _ _ _⟩
  go_wp2_with fail
  refine (areOne _ _ _ _ _ _ (by simp)).mono ?_
  rintro e w' ⟨rfl, rfl⟩
  rw [H3.out]
  go_wp2
  go_ret
  exact ⟨ret_bool (by rw [OK.out]; rfl), Below.then' (bel_al3 _ _ _ _) (bel_al1 _ _)⟩
theorem len_le {n : Nat} {k : Nat} : decide ((n : Int) ≤ (k : Int)) = decide (n ≤ k) := by rw [decide_eq_decide]; omega
theorem flatId_any (s : VFlat) (w : World) : Calls Try.prog 77 #[.agg #[.int .i64 s.Id, .int .i64 s.Wide, .int .i64 s.High, .int .i64 s.Grams]] w fun e w' => e = .returned (.int .i64 s.Id) ∧ Below w.heap.size w w' := by
  go_enter Try.func77, Try.ntmps77
  go_wp2
  go_ret
  exact ⟨rfl, bel_al1 _ _⟩
set_option maxHeartbeats 1600000 in
theorem areFlats_any (a : Option Addr) (len cap : Nat) (xs : List VFlat) (w : World) (h : IsFlatS w a len cap xs) :
    Calls Try.prog 30 #[.slice a len cap] w fun e w' => e = .returned (.bool (flatsB xs)) ∧ Below w.heap.size w w' := by
  have S := Lib.hid h
  clear h
  go_enter Try.func30, Try.ntmps30
  go_wp2_with fail
  refine (byFlat_any 84 77 VFlat.ok VFlat.Id 20 a len cap xs _ S.out (enters_fn Try.func84 (by kernel_rfl) (by kernel_rfl)) (enters_fn Try.func77 (by kernel_rfl) (by kernel_rfl)) (fun W s _ => isFlat_any s W) (fun W s => flatId_any s W)).mono ?_
  rintro e w2 ⟨rfl, hb⟩
  have B := Lib.hid hb
  clear hb
  go_wp2
  go_ret
  exact ⟨ret_bool (by unfold flatsB; rw [← len_le]; rfl), B.out⟩
theorem idOk_any (z : Int) (w : World) : Calls Try.prog 134 #[.int .i64 z] w fun e w' => e = .returned (.bool (idOk z)) ∧ Below w.heap.size w w' := by
  go_enter Try.func134, Try.ntmps134
  go_wp2_with fail
  refine (areOne _ _ _ _ _ _ rfl).mono ?_
  rintro e w' ⟨rfl, rfl⟩
  go_wp2
  go_ret
  exact ⟨rfl, bel_al1 _ _⟩
theorem idSame_any (z : Int) (w : World) : Calls Try.prog 136 #[.int .i64 z] w fun e w' => e = .returned (.int .i64 z) ∧ Below w.heap.size w w' := by
  go_enter Try.func136, Try.ntmps136
  go_wp2
  go_ret
  exact ⟨rfl, Below.refl _ _⟩
set_option maxHeartbeats 1600000 in
theorem areFlatIds_any (a : Option Addr) (len cap : Nat) (zs : List Int) (w : World) (h : IsInts w a len cap zs) :
    Calls Try.prog 128 #[.slice a len cap] w fun e w' => e = .returned (.bool (idsB zs)) ∧ Below w.heap.size w w' := by
  have S := Lib.hid h
  clear h
  go_enter Try.func128, Try.ntmps128
  go_wp2_with fail
  refine (byint_any 134 136 idOk (fun z => z) 12 a len cap zs _ S.out (enters_fn Try.func134 (by kernel_rfl) (by kernel_rfl)) (enters_fn Try.func136 (by kernel_rfl) (by kernel_rfl)) (fun W s _ => idOk_any s W) (fun W s => idSame_any s W)).mono ?_
  rintro e w2 ⟨rfl, hb⟩
  have B := Lib.hid hb
  clear hb
  go_wp2
  go_ret
  exact ⟨ret_bool (by unfold idsB; rw [← len_le]; rfl), B.out⟩
theorem drawerId_any (x : VDrawer) (h : Hd) (w : World) : Calls Try.prog 64 #[.agg #[.int .i64 x.Id, .int .i64 x.Wide, .int .i64 x.High, .int .i64 x.Holds, .slice h.a h.n h.c]] w fun e w' => e = .returned (.int .i64 x.Id) ∧ Below w.heap.size w w' := by
  go_enter Try.func64, Try.ntmps64
  go_wp2
  go_ret
  exact ⟨rfl, bel_al1 _ _⟩
set_option maxHeartbeats 3200000 in
theorem isDrawer_any (x : VDrawer) (h : Hd) (w : World) (hi : IsInts w h.a h.n h.c x.Flats) :
    Calls Try.prog 85 #[.agg #[.int .i64 x.Id, .int .i64 x.Wide, .int .i64 x.High, .int .i64 x.Holds, .slice h.a h.n h.c]] w fun e w' => e = .returned (.bool x.ok) ∧ Below w.heap.size w w' := by
  obtain ⟨q1, h1⟩ : ∃ q, inB x.Id 1 99 = q := ⟨_, rfl⟩
  obtain ⟨q2, h2⟩ : ∃ q, (inB x.Wide 100 2000 && inB x.High 100 2000) = q := ⟨_, rfl⟩
  obtain ⟨q3, h3⟩ : ∃ q, inB x.Holds 100 50000 = q := ⟨_, rfl⟩
  have OK := Lib.hid (show x.ok = (q1 && (q2 && (q3 && idsB x.Flats))) from by unfold VDrawer.ok; rw [← h1, ← h2, ← h3, Bool.and_assoc])
  have H1 := Lib.hid h1
  have H2 := Lib.hid h2
  have H3 := Lib.hid h3
  have HI := Lib.hid hi
  clear h1 h2 h3 hi
  go_enter Try.func85, Try.ntmps85
  go_wp2_with fail
  refine (areOne _ _ _ _ _ _ (by simp)).mono ?_
  rintro e w' ⟨rfl, rfl⟩
  rw [H1.out]
  cases q1
  · go_wp2
    go_ret
    exact ⟨ret_bool (by rw [OK.out]; rfl), bel_al2 _ _ _⟩
  go_wp2_with fail
  refine (areTwo _ _ _ _ _ _ _ (by simp)).mono ?_
  rintro e w' ⟨rfl, rfl⟩
  rw [H2.out]
  cases q2
  · go_wp2
    go_ret
    exact ⟨ret_bool (by rw [OK.out]; rfl), bel_al3 _ _ _ _⟩
  go_wp2_with fail
  refine (areOne _ _ _ _ _ _ (by simp)).mono ?_
  rintro e w' ⟨rfl, rfl⟩
  rw [H3.out]
  cases q3
  · go_wp2
    go_ret
    exact ⟨ret_bool (by rw [OK.out]; rfl), Below.then' (bel_al3 _ _ _ _) (bel_al1 _ _)⟩
  go_wp2_with fail
  refine (areFlatIds_any _ _ _ x.Flats _ (HI.out.below (Below.then' (bel_al3 _ _ _ _) (bel_al1 _ _)))).mono ?_
  rintro e w2 ⟨rfl, hb⟩
  have B := Lib.hid (Below.then' (Below.then' (bel_al3 _ _ _ _) (bel_al1 _ _)) hb)
  clear hb
  go_wp2
  go_ret
  exact ⟨ret_bool (by rw [OK.out]; rfl), B.out⟩
set_option maxHeartbeats 3200000 in
theorem fitsInto_any (f : VFlat) (x : VDrawer) (h : Hd) (w : World) :
    Calls Try.prog 86 #[.agg #[.int .i64 f.Id, .int .i64 f.Wide, .int .i64 f.High, .int .i64 f.Grams], .agg #[.int .i64 x.Id, .int .i64 x.Wide, .int .i64 x.High, .int .i64 x.Holds, .slice h.a h.n h.c]] w fun e w' => e = .returned (.bool (fitsB f x)) ∧ Below w.heap.size w w' := by
  obtain ⟨q, hq⟩ : ∃ q, fitsB f x = q := ⟨_, rfl⟩
  rw [hq]
  unfold fitsB at hq
  by_cases h1 : f.Wide ≤ x.Wide <;> by_cases h2 : f.High ≤ x.High <;> by_cases h3 : f.High ≤ x.Wide <;> by_cases h4 : f.Wide ≤ x.High
  all_goals try (exfalso; omega)
  all_goals
    simp only [h1, h2, h3, h4, decide_true, decide_false, Bool.and_true, Bool.and_false, Bool.or_true, Bool.or_false] at hq
    subst hq
    go_enter Try.func86, Try.ntmps86
    go_wp2
    go_ret
    exact ⟨rfl, bel_al2 _ _ _⟩
end Go.Proofs.Ytlmedhidkhphbaa
