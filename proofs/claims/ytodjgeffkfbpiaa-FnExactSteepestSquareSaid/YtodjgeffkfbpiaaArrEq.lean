/- Arrays by value: equal or not; one element out of one. -/
import Derived.Test.YtodjgeffkfbpiaaInts
import Derived.Laws.StructEq
namespace Go.Proofs.Ytodjgeffkfbpiaa
open Go.RowKit

section
variable {P : Program}
theorem run_all_in {σ : Type} (y dn : σ) (g : Nat → Bool) (f : Nat → σ → Sem (ForInStep σ)) (n : Nat) (w : World)
    (hf : ∀ i, i < n → (f i y).run P w = .ok (if g i = true then .yield y else .done dn) w) :
    ∀ m k, k + m = n → (forIn (List.range' k m) y f).run P w = .ok (if (List.range' k m).all g = true then y else dn) w := by
  intro m
  induction m with
  | zero => intro k _; simp
  | succ m ih =>
    intro k h
    rw [List.range'_succ]
    simp only [List.forIn_cons, Sem.run_bind, hf k (by omega), Result.andThen_ok, List.all_cons]
    by_cases hg : g k = true
    · simp only [hg, if_true, Bool.true_and]
      exact ih (k + 1) (by omega)
    · have hg' : g k = false := by simpa using hg
      simp [hg']
theorem run_equalIn_arr (d : Nat) (t e : TypeId) (n sz : Nat) (xs ys : Array Value) (w : World) (hu : P.underlying t = some (.array n e)) (hsz : ∀ w : World, (sizeOf e).run P w = .ok sz w) (g : Nat → Bool)
    (each : ∀ i, i < n → ∃ a b, (part e xs (i * sz)).run P w = .ok a w ∧ (part e ys (i * sz)).run P w = .ok b w ∧ (Op.equalIn d e a b).run P w = .ok (g i) w) :
    (Op.equalIn (d + 1) t (.agg xs) (.agg ys)).run P w = .ok ((List.range n).all g) w := by
  simp only [Op.equalIn, Sem.run_bind, run_underlying hu, Result.andThen_ok, hsz]
  simp only [Std.Legacy.Range.forIn_eq_forIn_range', Std.Legacy.Range.size]
  rw [show (n - 0 + 1 - 1) / 1 = n from by simp]
  rw [run_all_in (none, ()) (some false, ()) g _ n w (fun i hi => by
    obtain ⟨a, b, h1, h2, h3⟩ := each i hi
    simp only [Sem.run_bind, h1, h2, h3, Result.andThen_ok]
    cases g i <;> simp) n 0 (by omega)]
  rw [List.range_eq_range', Result.andThen_ok]
  by_cases h : (List.range' 0 n).all g = true
  · rw [if_pos h, h]; simp
  · rw [if_neg h, show (List.range' 0 n).all g = false from by simpa using h]; simp
theorem part_int {e : TypeId} {k : IntKind} (hu : P.underlying e = some (.int k)) (xs : List Int) (i : Nat) (x : Int) (hx : xs[i]? = some x) (w : World) : (part e (intCells xs).toArray (i * 1)).run P w = .ok (.int .i64 x) w := by
  have hagg : (isAgg e).run P w = .ok false w := by
    unfold isAgg
    rw [Sem.run_bind, run_underlying hu w]
    simp
  have hc : (intCells xs).toArray[i * 1]? = some (.int .i64 x) := by simp [intCells, hx]
  unfold part
  simp only [Sem.run_bind, hagg, Result.andThen_ok, hc]
  simp
/-- An array of integers equals another one exactly if all of them are equal. -/
theorem run_equalIn_ints (d : Nat) (t e : TypeId) (k : IntKind) (n : Nat) (xs ys : List Int) (w : World) (hu : P.underlying t = some (.array n e)) (he : P.underlying e = some (.int k)) (hsz : ∀ w : World, (sizeOf e).run P w = .ok 1 w) (hx : xs.length = n) (hy : ys.length = n) :
    (Op.equalIn (d + 2) t (.agg (intCells xs).toArray) (.agg (intCells ys).toArray)).run P w = .ok (xs == ys) w := by
  rw [run_equalIn_arr (d + 1) t e n 1 _ _ w hu hsz (fun i => xs.getD i 0 == ys.getD i 0) (fun i hi => by
    have h1 : xs[i]? = some (xs.getD i 0) := by rw [List.getD_eq_getElem?_getD, List.getElem?_eq_getElem (by omega)]; rfl
    have h2 : ys[i]? = some (ys.getD i 0) := by rw [List.getD_eq_getElem?_getD, List.getElem?_eq_getElem (by omega)]; rfl
    exact ⟨_, _, part_int he xs i _ h1 w, part_int he ys i _ h2 w, run_equalIn_int w d e .i64 k _ _ he⟩)]
  congr 1
  rw [Bool.eq_iff_iff, List.all_eq_true, beq_iff_eq]
  constructor
  · intro h
    apply List.ext_getElem (by omega)
    intro i h1 h2
    have := h i (by simp; omega)
    simp only [beq_iff_eq, List.getD_eq_getElem?_getD, List.getElem?_eq_getElem h1, List.getElem?_eq_getElem h2, Option.getD_some] at this
    exact this
  · rintro rfl i _
    simp
end
theorem size_int (w : World) : (sizeOf 3).run Try.prog w = .ok 1 w := by
  obtain ⟨i0, hi, _, hz1, _⟩ := info_parts infoInt
  simp [sizeOf, typeInfo, hi, hz1]
/-- Two pairs. -/
theorem eqA2 (w : World) (a b c d : Int) : (binOp .neq 34 (.agg #[.int .i64 a, .int .i64 b]) (.agg #[.int .i64 c, .int .i64 d])).run Try.prog w = .ok (.bool (!(a == c && b == d))) w := by
  rw [run_neq_struct]
  have h := run_equalIn_ints (P := Try.prog) 9998 34 3 .i64 2 [a, b] [c, d] w Try.underlying34 Try.underlying3 size_int rfl rfl
  have e1 : (intCells [a, b]).toArray = #[.int .i64 a, .int .i64 b] := rfl
  have e2 : (intCells [c, d]).toArray = #[.int .i64 c, .int .i64 d] := rfl
  rw [e1, e2] at h
  rw [h, Result.andThen_ok]
  simp
end Go.Proofs.Ytodjgeffkfbpiaa
