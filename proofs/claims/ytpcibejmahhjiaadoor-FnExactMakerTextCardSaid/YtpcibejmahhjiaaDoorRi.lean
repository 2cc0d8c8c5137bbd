/- Words, days and readers in the program: isWord, isDay, IsReader, AreReaders. -/
import Derived.Test.YtpcibejmahhjiaaDoorRd2
import Derived.Test.YtpcibejmahhjiaaDoorRdD
namespace Go.Proofs.YtpcibejmahhjiaaDoor
open Go.RowKit

/-- One number in a range, the list of one just made. -/
theorem areIn1 (lo hi x : Int) (t : TypeId) (w : World) (B : Nat) (hB : w.heap.size = B) :
    Calls Tryd.prog 55 #[.int .i64 lo, .int .i64 hi, .slice (some ⟨B, 0, none⟩) 1 1] (w.alloc (.cells #[.int .i64 x] t)) fun e w' => e = .returned (.bool (inB x lo hi)) ∧ w.alloc (.cells #[.int .i64 x] t) = w' :=
  (areInRange_any B 1 1 [x] lo hi _ rfl (by omega) (lit1 w x t B hB)).mono fun e w' h => ⟨by rw [h.1]; simp, h.2⟩
theorem wordB_no {s : ByteArray} {k : Nat} (hlt : k < s.size) (h : lowB s[k] = false) : wordB s = false := by
  have h : s.data.toList.all lowB = false := by
    rw [List.all_eq_false]
    exact ⟨s[k], List.mem_of_getElem? (i := k) (by simp [hlt]; rfl), by simp [h]⟩
  unfold wordB; rw [h]; rfl
set_option maxHeartbeats 1600000 in
theorem isWord_any (s : ByteArray) (w : World) (hs : s.size ≤ maxLen) :
    Calls Tryd.prog 61 #[.string s] w fun e w' => e = .returned (.bool (wordB s)) ∧ Below w.heap.size w w' := by
  unfold maxLen at hs
  obtain ⟨q, hq⟩ : ∃ q, inB (s.size : Int) 1 10 = q := ⟨_, rfl⟩
  have Q := Lib.hid hq
  clear hq
  go_enter Tryd.func61, Tryd.ntmps61
  go_wp2_with fail
  refine (areIn1 _ _ _ _ _ _ (by simp)).mono ?_
  rintro e w' ⟨rfl, rfl⟩
  rw [Q.out]
  cases q
  · go_wp2
    go_ret
    exact ⟨ret_bool (by unfold wordB; rw [Q.out]; simp), bel_al1 _ _⟩
  · go_wp2
    go_loop [11, 3] (fun i _ => ∃ k : Nat, k ≤ s.size ∧ i = .int .i64 k ∧ (s.data.toList.take k).all lowB = true) (fun i _ => s.size - (intOf i).toNat)
    case atStart => exact ⟨0, Nat.zero_le _, rfl, rfl⟩
    case round =>
      obtain ⟨k, hk, rfl, hall⟩ := hrel
      have A := Lib.hid hall
      clear hall
      by_cases hlt : k < s.size
      · have T := Lib.hid (take_snoc s k hlt)
        by_cases h1 : 97 ≤ (s[k].toNat : Int)
        · by_cases h2 : (s[k].toNat : Int) ≤ 122
          · have LO := Lib.hid (show (s.data.toList.take (k + 1)).all lowB = true from by
              rw [T.out, List.all_append, A.out]; simp [lowB]; omega)
            go_wp2
            go_round
            case rel => exact ⟨k + 1, by omega, by go_num, LO.out⟩
            case measure => simp [intOf]; omega
          · have NO := Lib.hid (wordB_no hlt (by simp [lowB]; omega))
            have h3 : (122 : Int) < (s[k].toNat : Int) := by omega
            go_wp2
            go_ret
            exact ⟨ret_bool NO.out.symm, bel_al1 _ _⟩
        · have NO := Lib.hid (wordB_no hlt (by simp [lowB]; omega))
          have h3 : (s[k].toNat : Int) < 97 := by omega
          go_wp2
          go_ret
          exact ⟨ret_bool NO.out.symm, bel_al1 _ _⟩
      · obtain rfl : k = s.size := by omega
        have E := Lib.hid (show wordB s = true from by
          have h := A.out
          rw [take_all] at h
          unfold wordB; rw [h, Q.out]; rfl)
        go_wp2
        go_ret
        exact ⟨ret_bool E.out.symm, bel_al1 _ _⟩
end Go.Proofs.YtpcibejmahhjiaaDoor
