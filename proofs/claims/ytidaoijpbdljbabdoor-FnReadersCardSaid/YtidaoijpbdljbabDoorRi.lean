/- Words, days and readers in the program: isWord, isDay, IsReader, AreReaders. -/
import Derived.Test.YtidaoijpbdljbabDoorRd2
import Derived.Test.YtidaoijpbdljbabDoorRdD
namespace Go.Proofs.YtidaoijpbdljbabDoor
open Go.RowKit

/-- One number in a range, the list of one just made. -/
theorem areIn1 (lo hi x : Int) (t : TypeId) (w : World) (B : Nat) (hB : w.heap.size = B) :
    Calls Tryd.prog 33 #[.int .i64 lo, .int .i64 hi, .slice (some ⟨B, 0, none⟩) 1 1] (w.alloc (.cells #[.int .i64 x] t)) fun e w' => e = .returned (.bool (inB x lo hi)) ∧ w.alloc (.cells #[.int .i64 x] t) = w' :=
  (areInRange_any B 1 1 [x] lo hi _ rfl (by omega) (lit1 w x t B hB)).mono fun e w' h => ⟨by rw [h.1]; simp, h.2⟩
theorem isDay_any (d : Int) (w : World) :
    Calls Tryd.prog 42 #[.int .i64 d] w fun e w' => e = .returned (.bool (dayB d)) ∧ Below w.heap.size w w' := by
  go_enter Tryd.func42, Tryd.ntmps42
  go_wp2_with fail
  refine (areIn1 _ _ _ _ _ _ (by simp)).mono ?_
  rintro e w' ⟨rfl, rfl⟩
  go_wp2
  go_ret
  exact ⟨rfl, bel_al1 _ _⟩
theorem wordB_no {s : ByteArray} {k : Nat} (hlt : k < s.size) (h : lowB s[k] = false) : wordB s = false := by
  have h : s.data.toList.all lowB = false := by
    rw [List.all_eq_false]
    exact ⟨s[k], List.mem_of_getElem? (i := k) (by simp [hlt]; rfl), by simp [h]⟩
  unfold wordB; rw [h]; rfl
set_option maxHeartbeats 1600000 in
theorem isWord_any (s : ByteArray) (w : World) (hs : s.size ≤ maxLen) :
    Calls Tryd.prog 65 #[.string s] w fun e w' => e = .returned (.bool (wordB s)) ∧ Below w.heap.size w w' := by
  unfold maxLen at hs
  obtain ⟨q, hq⟩ : ∃ q, inB (s.size : Int) 1 10 = q := ⟨_, rfl⟩
  have Q := Lib.hid hq
  clear hq
  go_enter Tryd.func65, Tryd.ntmps65
  go_wp2_with fail
  refine (areIn1 _ _ _ _ _ _ (by simp)).mono ?_
  rintro e w' ⟨rfl, rfl⟩
  rw [Q.out]
  cases q
  · go_wp2
    go_ret
    exact ⟨ret_bool (by unfold wordB; rw [Q.out]; simp), bel_al1 _ _⟩
  · go_wp2
    go_loop [11, 3] (fun i _ => ∃ k : Nat, k ≤ s.size ∧ i = .int .i64 k ∧ (s.data.toList.take k).all lowB = true) (fun i _ => s.size - (intOf i).toNat)
    case atStart => exact ⟨0, Nat.zero_le _, rfl, rfl⟩
    case round =>
      obtain ⟨k, hk, rfl, hall⟩ := hrel
      have A := Lib.hid hall
      clear hall
      by_cases hlt : k < s.size
      · have T := Lib.hid (take_snoc s k hlt)
        by_cases h1 : 97 ≤ (s[k].toNat : Int)
        · by_cases h2 : (s[k].toNat : Int) ≤ 122
          · have LO := Lib.hid (show (s.data.toList.take (k + 1)).all lowB = true from by
              rw [T.out, List.all_append, A.out]; simp [lowB]; omega)
            go_wp2
            go_round
            case rel => exact ⟨k + 1, by omega, by go_num, LO.out⟩
            case measure => simp [intOf]; omega
          · have NO := Lib.hid (wordB_no hlt (by simp [lowB]; omega))
            have h3 : (122 : Int) < (s[k].toNat : Int) := by omega
            go_wp2
            go_ret
            exact ⟨ret_bool NO.out.symm, bel_al1 _ _⟩
        · have NO := Lib.hid (wordB_no hlt (by simp [lowB]; omega))
          have h3 : (s[k].toNat : Int) < 97 := by omega
          go_wp2
          go_ret
          exact ⟨ret_bool NO.out.symm, bel_al1 _ _⟩
      · obtain rfl : k = s.size := by omega
        have E := Lib.hid (show wordB s = true from by
          have h := A.out
          rw [take_all] at h
          unfold wordB; rw [h, Q.out]; rfl)
        go_wp2
        go_ret
        exact ⟨ret_bool E.out.symm, bel_al1 _ _⟩
set_option maxHeartbeats 3200000 in
theorem isRd_any (s : VReader) (w : World) (hs : s.small) :
    Calls Tryd.prog 59 #[.agg #[.int .i64 s.Id, .string s.Name, .int .i64 s.Joined, .int .i64 s.Class, .int .i64 s.Fines]] w fun e w' => e = .returned (.bool s.ok) ∧ Below w.heap.size w w' := by
  obtain ⟨q1, h1⟩ : ∃ q, wordB s.Name = q := ⟨_, rfl⟩
  obtain ⟨q2, h2⟩ : ∃ q, dayB s.Joined = q := ⟨_, rfl⟩
  obtain ⟨q3, h3⟩ : ∃ q, inB s.Id 1 999 = q := ⟨_, rfl⟩
  have H1 := Lib.hid h1
  have H2 := Lib.hid h2
  have H3 := Lib.hid h3
  have SM := Lib.hid hs
  have X0 := Lib.hid (BoxReader.new w 36 s _ rfl)
  have B0 := Lib.hid (bel_al1 w (.cells #[.int .i64 s.Id, .string s.Name, .int .i64 s.Joined, .int .i64 s.Class, .int .i64 s.Fines] 36))
  clear h1 h2 h3 hs
  go_enter Tryd.func59, Tryd.ntmps59
  go_wp2_with fail
  refine (areIn1 _ _ _ _ _ _ (by simp)).mono ?_
  rintro e w' ⟨rfl, rfl⟩
  rw [H3.out]
  cases q3
  · go_wp2
    go_ret
    exact ⟨ret_bool (by unfold VReader.ok; rw [H3.out]; rfl), bel_al2 _ _ _⟩
  go_wp2_with fail
  refine (isWord_any _ _ SM.out).mono ?_
  rintro e w2 ⟨rfl, hb⟩
  rw [H1.out]
  have hb2 := Below.then' (bel_al1 _ _) hb
  have B2 := Lib.hid (Below.then' B0.out hb2)
  have X2 := X0.out.below hb2
  obtain ⟨c0, c1, c2, c3, c4⟩ := X2
  have X2 := Lib.hid (X0.out.below hb2)
  clear hb hb2
  cases q1
  · go_wp2
    go_ret
    exact ⟨ret_bool (by unfold VReader.ok; rw [H3.out, H1.out]; rfl), B2.out⟩
  go_wp2_with fail
  refine (isDay_any _ _).mono ?_
  rintro e w3 ⟨rfl, hb⟩
  rw [H2.out]
  have B3 := Lib.hid (Below.then' B2.out hb)
  clear c0 c1 c2 c3 c4
  obtain ⟨c0, c1, c2, c3, c4⟩ := X2.out.below hb
  have X3 := Lib.hid (X2.out.below hb)
  clear hb
  cases q2
  · go_wp2
    go_ret
    exact ⟨ret_bool (by unfold VReader.ok; rw [H3.out, H1.out, H2.out]; rfl), B3.out⟩
  obtain ⟨q4, h4⟩ : ∃ q, inB s.Class 1 3 = q := ⟨_, rfl⟩
  have H4 := Lib.hid h4
  clear h4
  go_wp2_with fail
  refine (areIn1 _ _ _ _ _ _ rfl).mono ?_
  rintro e w' ⟨rfl, rfl⟩
  rw [H4.out]
  cases q4
  · go_wp2
    go_ret
    exact ⟨ret_bool (by unfold VReader.ok; rw [H3.out, H1.out, H2.out, H4.out]; rfl), Below.then' B3.out (bel_al1 _ _)⟩
  obtain ⟨_, _, _, _, d4⟩ := X3.out.below (bel_al1 w3 (.cells #[.int .i64 s.Class] 3))
  go_wp2_with fail
  refine (areIn1 _ _ _ _ _ _ (size_al _ _)).mono ?_
  rintro e w' ⟨rfl, rfl⟩
  go_wp2
  go_ret
  exact ⟨ret_bool (by unfold VReader.ok; rw [H3.out, H1.out, H2.out, H4.out]; rfl), Below.then' B3.out (bel_al2 _ _ _)⟩
end Go.Proofs.YtidaoijpbdljbabDoor
