/- DrawersFor, in the program and in the model. -/
import Derived.Test.YtlmedhidkhphbaaDs9
import Derived.Test.YtlmedhidkhphbaaDi9
namespace Go.Proofs.Ytlmedhidkhphbaa
open Go.RowKit
theorem DrawersFor_0_cnt (xs : List VFlat) (ds : List VDrawer) (flat : Int) (_ : condFlat xs) (_ : condDrawer ds) : cntInt (DrawersFor_0 xs ds flat) ≤ 1000000 := by
  unfold DrawersFor_0 cntInt
  split
  · have h := ‹looseB xs ds flat = true›
    unfold looseB at h
    simp only [Bool.and_eq_true, decide_eq_true_eq] at h
    have := (good_iff.1 h.1).dl
    rw [List.length_map]
    have := List.length_filter_le (fun d : VDrawer => putB xs ds flat d.Id) ds
    omega
  · simp
end Go.Proofs.Ytlmedhidkhphbaa
