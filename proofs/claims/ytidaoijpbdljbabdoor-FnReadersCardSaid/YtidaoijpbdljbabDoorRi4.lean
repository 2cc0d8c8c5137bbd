/- Readers in the program: fines, payments, a raised class. -/
import Derived.Test.YtidaoijpbdljbabDoorRi3
import Derived.Test.YtidaoijpbdljbabDoorUp2
import Derived.Test.YtidaoijpbdljbabDoorRdP
namespace Go.Proofs.YtidaoijpbdljbabDoor
open Go.RowKit

theorem areRd_set {xs : List VReader} {i : Nat} {s r : VReader} (h : areRd xs = true) (hs : xs[i]? = some s) (e : r.Id = s.Id) : areRd (xs.set i r) = r.ok := by
  have h1 : upB VReader.ok VReader.Id xs = true := by unfold areRd rdUp at h; simp only [Bool.and_eq_true] at h; exact h.1
  have h2 := areRd_len h
  unfold areRd rdUp
  rw [upB_set h1 hs e, List.length_set, decide_eq_true h2, Bool.and_true]
theorem rdWith_ok' {xs : List VReader} {i : Nat} {s r : VReader} (h : areRd xs = true) (hs : xs[i]? = some s) (e : r.Id = s.Id) (ho : r.ok = true) : rdWith xs i r = (xs.set i r, true) := by
  unfold rdWith; rw [areRd_set h hs e, if_pos ho]
theorem rdWith_no {xs : List VReader} {i : Nat} {s r : VReader} (h : areRd xs = true) (hs : xs[i]? = some s) (e : r.Id = s.Id) (ho : r.ok = false) : rdWith xs i r = ([], false) := by
  unfold rdWith; rw [areRd_set h hs e, ho]; rfl
theorem rdOk_sized {s : VReader} (h : s.ok = true) : s.sized := by
  have := (word_size (rdOk_iff.1 h).2.1).2
  unfold VReader.sized; omega
theorem areRd_sized {xs : List VReader} (h : areRd xs = true) : ∀ s ∈ xs, s.sized := fun _ hs => rdOk_sized (areRd_ok h hs)
end Go.Proofs.YtidaoijpbdljbabDoor
