/- Readers: words, days; when a reader and a list of readers are valid; where one stands. In the model. -/
import Derived.Test.YtidaoijpbdljbabDoorReaderT
import Derived.Test.YtidaoijpbdljbabDoorUp
import Derived.Test.YtidaoijpbdljbabDoorSheet
namespace Go.Proofs.YtidaoijpbdljbabDoor
open Go.RowKit

def lowB (c : UInt8) : Bool := decide (97 ≤ c.toNat) && decide (c.toNat ≤ 122)
/-- Is the text a word? -/
def wordB (s : ByteArray) : Bool := s.data.toList.all lowB && inB s.size 1 10
def dayB (d : Int) : Bool := inB d 0 4000
def VReader.ok (s : VReader) : Bool := inB s.Id 1 999 && (wordB s.Name && (dayB s.Joined && (inB s.Class 1 3 && inB s.Fines 0 10000)))
def rdUp (xs : List VReader) : Bool := upB VReader.ok VReader.Id xs
def areRd (xs : List VReader) : Bool := rdUp xs && decide (xs.length ≤ 10)
/-- Where the reader with an id stands, or -1. -/
def rdFind (xs : List VReader) (id : Int) : Int := if areRd xs = true then firstOf (fun s => s.Id == id) xs else -1

set_option maxHeartbeats 800000 in
theorem l2Word_any (s : ByteArray) (w : World) (hs : s.size ≤ maxLen) :
    Calls Tryd.prog 67 #[.string s] w fun e w' => e = .returned (.bool (wordB s)) ∧ w = w' := by
  unfold maxLen at hs
  go_enter Tryd.func67, Tryd.ntmps67
  go_wp2
  go_loop [3] (fun i => ∃ k : Nat, k ≤ s.size ∧ i = .int .i64 k ∧ (s.data.toList.take k).all lowB = true) (fun i => s.size - (intOf i).toNat)
  case atStart => exact ⟨0, Nat.zero_le _, rfl, rfl⟩
  case round =>
    obtain ⟨k, hk, rfl, hall⟩ := hrel
    have A := Lib.hid hall
    clear hall
    by_cases hlt : k < s.size
    · have T := Lib.hid (take_snoc s k hlt)
      by_cases h1 : 97 ≤ (s[k].toNat : Int)
      · by_cases h2 : (s[k].toNat : Int) ≤ 122
        · have LO := Lib.hid (show (s.data.toList.take (k + 1)).all lowB = true from by
            rw [T.out, List.all_append, A.out]; simp [lowB]; omega)
          go_wp2
          go_round
          case rel => exact ⟨k + 1, by omega, by go_num, LO.out⟩
          case measure => simp [intOf]; omega
        · have NO := Lib.hid (show wordB s = false from by
            have h : s.data.toList.all lowB = false := by
              rw [List.all_eq_false]
              exact ⟨s[k], List.mem_of_getElem? (i := k) (by simp [hlt]; rfl), by simp [lowB]; omega⟩
            unfold wordB; rw [h]; rfl)
          go_wp2
          go_ret
          exact ⟨ret_bool NO.out.symm, rfl⟩
      · have NO := Lib.hid (show wordB s = false from by
          have h : s.data.toList.all lowB = false := by
            rw [List.all_eq_false]
            exact ⟨s[k], List.mem_of_getElem? (i := k) (by simp [hlt]; rfl), by simp [lowB]; omega⟩
          unfold wordB; rw [h]; rfl)
        have h3 : (s[k].toNat : Int) < 97 := by omega
        go_wp2
        go_ret
        exact ⟨ret_bool NO.out.symm, rfl⟩
    · obtain rfl : k = s.size := by omega
      have E := Lib.hid (show wordB s = inB s.size 1 10 from by
        have h := A.out
        rw [take_all] at h
        unfold wordB; rw [h]; rfl)
      go_wp2_with fail
      refine (l1In_any _ _ _ _).mono ?_
      rintro e w' ⟨rfl, rfl⟩
      rw [← E.out]
      go_wp2
      go_ret
      exact ⟨rfl, rfl⟩
theorem l2Day_any (d : Int) (w : World) :
    Calls Tryd.prog 44 #[.int .i64 d] w fun e w' => e = .returned (.bool (dayB d)) ∧ w = w' := by
  go_enter Tryd.func44, Tryd.ntmps44
  go_wp2_with fail
  refine (l1In_any _ _ _ _).mono ?_
  rintro e w' ⟨rfl, rfl⟩
  go_wp2
  go_ret
  exact ⟨rfl, rfl⟩
set_option maxHeartbeats 1600000 in
theorem l3One_any (s : VReader) (w : World) (hs : s.small) :
    Calls Tryd.prog 61 #[.agg #[.int .i64 s.Id, .string s.Name, .int .i64 s.Joined, .int .i64 s.Class, .int .i64 s.Fines]] w fun e w' => e = .returned (.bool s.ok) ∧ Below w.heap.size w w' := by
  obtain ⟨q1, h1⟩ : ∃ q, wordB s.Name = q := ⟨_, rfl⟩
  obtain ⟨q2, h2⟩ : ∃ q, dayB s.Joined = q := ⟨_, rfl⟩
  have H1 := Lib.hid h1
  have H2 := Lib.hid h2
  have SM := Lib.hid hs
  clear h1 h2 hs
  go_enter Tryd.func61, Tryd.ntmps61
  go_wp2_with (first | (go_at_call 50; refine (l1In_any _ _ _ _).mono ?_; rintro e w' ⟨rfl, rfl⟩) | (go_at_call 67; refine (l2Word_any _ _ SM.out).mono ?_; rintro e w' ⟨rfl, rfl⟩; rw [H1.out]) | (go_at_call 44; refine (l2Day_any _ _).mono ?_; rintro e w' ⟨rfl, rfl⟩; rw [H2.out]))
  all_goals go_ret
  all_goals exact ⟨ret_bool (by unfold VReader.ok; rw [H1.out, H2.out]; simp [*]), bel_al1 _ _⟩
end Go.Proofs.YtidaoijpbdljbabDoor
