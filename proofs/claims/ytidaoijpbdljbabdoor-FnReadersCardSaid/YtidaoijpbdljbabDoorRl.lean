/- Readers: what FnReaders turns on, as plain mathematics. -/
import Derived.Test.YtidaoijpbdljbabDoorRi7
import Derived.Test.YtidaoijpbdljbabDoorMt
import Derived.Test.YtidaoijpbdljbabDoorLawsR
namespace Go.Proofs.YtidaoijpbdljbabDoor
open Go.RowKit

theorem areRd_up {xs : List VReader} (h : areRd xs = true) : upB VReader.ok VReader.Id xs = true := by unfold areRd rdUp at h; simp only [Bool.and_eq_true] at h; exact h.1
theorem rdFind_at {xs : List VReader} {i : Nat} {s : VReader} (h : areRd xs = true) (hs : xs[i]? = some s) : rdFind xs s.Id = (i : Int) := by
  unfold rdFind
  rw [if_pos h]
  exact upB_first (areRd_up h) hs
theorem rdSel_at {xs : List VReader} {i : Nat} {s : VReader} (h : areRd xs = true) (hs : xs[i]? = some s) : rdSel xs s.Id = some (i, s) := by
  unfold rdSel
  rw [rdFind_at h hs, if_pos (by omega), Int.toNat_natCast, hs]; rfl
theorem rd_same {xs : List VReader} (h : areRd xs = true) {i j : Nat} {s t : VReader} (hs : xs[i]? = some s) (ht : xs[j]? = some t) (e : s.Id = t.Id) : i = j := by
  have h1 := rdFind_at h hs
  have h2 := rdFind_at h ht
  rw [e, h2] at h1; omega
theorem join_may {xs : List VReader} {nm : ByteArray} {d : Int} (h : JoinReader_2 xs nm d = true) : MayTake_0 (JoinReader_0 xs nm d) (JoinReader_1 xs nm d) 0 = 2 ∧ MayTake_1 (JoinReader_0 xs nm d) (JoinReader_1 xs nm d) 0 = true := by
  unfold JoinReader_2 rdJoin at h
  unfold MayTake_0 MayTake_1 JoinReader_0 JoinReader_1 rdJoin
  split at h
  · rename_i hc
    rw [if_pos hc]
    simp only [Bool.and_eq_true] at hc
    have hs := rdSel_at (i := xs.length) (s := ⟨rdLast xs, nm, d, 1, 0⟩) hc.2 (by simp)
    unfold rdMay
    simp only at hs ⊢
    rw [hs]
    exact ⟨rfl, rfl⟩
  · cases h
theorem pay_all {l : List VReader} {x c : Int} (h : PayFines_2 l x c = true) : areRd l = true ∧ (1 ≤ c ∧ c ≤ 10000) ∧ (PayFines_0 l x c).length = l.length ∧ areRd (PayFines_0 l x c) = true ∧ (0 ≤ PayFines_1 l x c ∧ PayFines_1 l x c ≤ 10000) ∧
    ∀ (i : Nat) s p, l[i]? = some s → (PayFines_0 l x c)[i]? = some p → s.Id = x → s.Fines - p.Fines + PayFines_1 l x c = c := by
  unfold PayFines_2 rdPay at h
  unfold PayFines_0 PayFines_1 rdPay
  rcases rdSel_ways l x with ⟨_, h2⟩ | ⟨i0, s0, ha, _, hs0, hi0, hid0, h2⟩
  · rw [h2] at h; cases h
  · rw [h2] at h ⊢
    simp only at h ⊢
    cases hq : centsB c with
    | false => rw [hq] at h; simp at h
    | true =>
      rw [hq] at h
      simp only [if_true] at h ⊢
      have hc := inB_iff.1 hq
      obtain ⟨_, _, _, _, f0, f1⟩ := rdOk_iff.1 (areRd_ok ha (List.mem_of_getElem? hs0))
      unfold rdWith at h ⊢
      cases hw : areRd (l.set i0 ⟨s0.Id, s0.Name, s0.Joined, s0.Class, s0.Fines - min c s0.Fines⟩) with
      | false => rw [hw] at h; simp at h
      | true =>
        simp only [if_true]
        refine ⟨ha, hc, List.length_set, hw, by omega, fun i s p hs hp hx => ?_⟩
        obtain rfl := rd_same ha hs hs0 (by rw [hx, hid0])
        have e0 : s = s0 := Option.some.inj (hs.symm.trans hs0)
        subst e0
        rw [List.getElem?_set_self (by simpa using hi0)] at hp
        cases hp
        show s.Fines - (s.Fines - min c s.Fines) + (c - min c s.Fines) = c
        omega
theorem raise_iff (m : List VReader) (y d : Int) : RaiseClass_1 m y d = (RipeReaders_1 m d && hasB y (RipeReaders_0 m d)) := by
  unfold RaiseClass_1 RipeReaders_1 RipeReaders_0 rdRaise
  cases ha : areRd m with
  | false =>
    have h2 : rdSel m y = none := by
      rcases rdSel_ways m y with ⟨_, h2⟩ | ⟨_, _, h1, _⟩
      · exact h2
      · rw [ha] at h1; cases h1
    rw [h2]; rfl
  | true =>
    cases hd : dayB d with
    | false =>
      rcases rdSel_ways m y with ⟨_, h2⟩ | ⟨i, s, _, _, _, _, _, h2⟩
      · rw [h2]; rfl
      · rw [h2]; rfl
    | true =>
      simp only [Bool.and_self, Bool.true_and, if_true]
      rcases rdSel_ways m y with ⟨h1, h2⟩ | ⟨i, s, _, h1, hs, hi, hid, h2⟩
      · rw [h2]
        simp only
        symm
        rw [← Bool.not_eq_true, hasB_iff]
        intro hm
        obtain ⟨t, ht, e⟩ := List.mem_map.1 hm
        obtain ⟨j, hj⟩ := List.getElem?_of_mem (List.mem_filter.1 ht).1
        have := rdFind_at ha hj
        rw [e, h1] at this; omega
      · rw [h2]
        simp only
        cases hr : ripeB s d with
        | false =>
          simp only [Bool.false_eq_true, if_false]
          symm
          rw [← Bool.not_eq_true, hasB_iff]
          intro hm
          obtain ⟨t, ht, e⟩ := List.mem_map.1 hm
          obtain ⟨t1, t2⟩ := List.mem_filter.1 ht
          obtain ⟨j, hj⟩ := List.getElem?_of_mem t1
          obtain rfl := rd_same ha hj hs (by rw [e, hid])
          rw [hj] at hs; cases hs
          rw [hr] at t2; cases t2
        | true =>
          simp only [if_true]
          have hcl3 : s.Class < 3 := by have h := hr; unfold ripeB at h; simp at h; exact h.1
          obtain ⟨a1, a2, a3, ⟨g0, g1⟩, a5⟩ := rdOk_iff.1 (areRd_ok ha (List.mem_of_getElem? hs))
          have OK2 : (⟨s.Id, s.Name, s.Joined, s.Class + 1, s.Fines⟩ : VReader).ok = true := rdOk_iff.2 ⟨a1, a2, a3, by show 1 ≤ s.Class + 1 ∧ s.Class + 1 ≤ 3; omega, a5⟩
          have h3 : (areRd (m.set i ⟨s.Id, s.Name, s.Joined, s.Class + 1, s.Fines⟩)) = true := by
            unfold areRd rdUp
            rw [upB_set (r := ⟨s.Id, s.Name, s.Joined, s.Class + 1, s.Fines⟩) (areRd_up ha) hs rfl, OK2, List.length_set, decide_eq_true (areRd_len ha)]; rfl
          unfold rdWith
          rw [if_pos h3]
          symm
          show hasB y _ = true
          rw [hasB_iff]
          exact List.mem_map.2 ⟨s, List.mem_filter.2 ⟨List.mem_of_getElem? hs, hr⟩, hid⟩
end Go.Proofs.YtidaoijpbdljbabDoor
