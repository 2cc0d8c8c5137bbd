/- SplitString, the model's and the program's, at every two texts: a row of the parts and true; none and false. -/
import Derived.Test.YtmbmcnmippplaaaRange
namespace Go.Proofs.Ytmbmcnmippplaaa
open Go.RowKit

def okSplit (s sep : ByteArray) : Bool := decide (s.size ≤ 4000) && decide (sep.size = 1)
theorem okSplit_iff (s sep : ByteArray) : okSplit s sep = true ↔ s.size ≤ 4000 ∧ sep.size = 1 := by simp [okSplit]
/-- The parts that SplitString is to tell. -/
def splitXs (s sep : ByteArray) : List ByteArray := if okSplit s sep = true then splitR s (cvOf sep) 0 0 else []
theorem splitR_sizes (s : ByteArray) (cv : Int) : ∀ (d f k : Nat), s.size - k = d → k ≤ s.size → ∀ x ∈ splitR s cv f k, x.size ≤ s.size := by
  intro d
  induction d with
  | zero =>
    intro f k hd hk x hx
    obtain rfl : k = s.size := by omega
    rw [splitR_end] at hx
    obtain rfl := List.mem_singleton.1 hx
    rw [ByteArray.size_extract]; omega
  | succ d ih =>
    intro f k hd hk x hx
    by_cases hc : (s[k].toNat : Int) = cv
    · rw [splitR_hit (by omega) hc] at hx
      rcases List.mem_cons.1 hx with rfl | hx
      · rw [ByteArray.size_extract]; omega
      · exact ih _ _ (by omega) (by omega) x hx
    · rw [splitR_miss (by omega) hc] at hx
      exact ih _ _ (by omega) (by omega) x hx
theorem splitXs_len (s sep : ByteArray) : (splitXs s sep).length ≤ 4001 := by
  unfold splitXs
  split
  · rename_i h
    have h0 := ((okSplit_iff _ _).1 h).1
    have := (splitR_len s (cvOf sep) _ 0 0 rfl (by omega)).2
    omega
  · simp
theorem splitXs_small (s sep : ByteArray) : ∀ x ∈ splitXs s sep, x.size ≤ maxLen := by
  intro x hx
  unfold splitXs at hx
  split at hx
  · rename_i h
    have h0 := ((okSplit_iff _ _).1 h).1
    have := splitR_sizes s (cvOf sep) _ 0 0 rfl (by omega) x hx
    unfold maxLen; omega
  · cases hx

def SplitPost (s sep : ByteArray) (w : World) (e : Ending) (w' : World) : Prop := ∃ v, e = .returned (.tuple #[v, .bool (okSplit s sep)]) ∧ w'.ownsRow w.heap.size 9 1 v (splitXs s sep).length ((splitXs s sep).map Value.string) ∧ Below w.heap.size w w'

theorem implSplit_yes (s sep : ByteArray) (w : World) (h : okSplit s sep = true) :
    Calls Try.prog 10 #[.string s, .string sep] w (SplitPost s sep w) := by
  obtain ⟨h0, h1⟩ := (okSplit_iff _ _).1 h
  refine (callsIn_wide.1 (implSplit_in s sep w h0 h1)).mono ?_
  rintro e w' ⟨v, rfl, hown, hb⟩
  exact ⟨v, by rw [h], by unfold splitXs; rw [if_pos h]; exact hown, hb⟩
set_option maxHeartbeats 1600000 in
theorem implSplit_no (s sep : ByteArray) (w : World) (hs : s.size ≤ 9223372036854775807) (h : okSplit s sep = false) :
    Calls Try.prog 10 #[.string s, .string sep] w (SplitPost s sep w) := by
  have fin : SplitPost s sep w (.returned (.tuple #[.slice none 0 0, .bool false])) w := ⟨_, by rw [h], by unfold splitXs; rw [if_neg (by rw [h]; simp)]; exact World.ownsRow_nil _ _ _ _, Below.refl _ _⟩
  have FI := Lib.hid fin
  refine callsIn_wide (n := 3) |>.1 ?_
  by_cases h0 : 4000 < s.size
  · clear h fin
    refine callsIn_of_wp_marks Try.func10 rfl trivial ?_ rfl
    simp only [Try.ntmps10, List.size_toArray, List.length_cons, List.length_nil, Nat.reduceAdd, Nat.reduceSub, Array.replicate_succ, Array.replicate_zero, List.push_toArray, List.append_toArray, List.nil_append, List.cons_append]
    gi_wp2
    refine ⟨_, results_tmp2 rfl _ _ _, ?_⟩
    exact FI.out
  · have h1 : sep.size ≠ 1 := fun e => by rw [(okSplit_iff s sep).2 ⟨by omega, e⟩] at h; cases h
    have hlong : decide (4000 < (s.size : Int)) = false := by simp; omega
    have h1' : ((sep.size : Int) == 1) = false := by simp; omega
    have h1n : ¬ (sep.size : Int) = 1 := by omega
    clear h fin h1
    refine callsIn_of_wp_marks Try.func10 rfl trivial ?_ rfl
    simp only [Try.ntmps10, List.size_toArray, List.length_cons, List.length_nil, Nat.reduceAdd, Nat.reduceSub, Array.replicate_succ, Array.replicate_zero, List.push_toArray, List.append_toArray, List.nil_append, List.cons_append]
    gi_wp2
    refine ⟨_, results_tmp2 rfl _ _ _, ?_⟩
    exact FI.out

set_option maxHeartbeats 800000 in
theorem specSplit (s sep : ByteArray) (w : World) (hs : s.size ≤ 9223372036854775807) :
    Calls Try.prog 17 #[.string s, .string sep] w (SplitPost s sep w) := by
  by_cases h : okSplit s sep = true
  · obtain ⟨h0, h1⟩ := (okSplit_iff _ _).1 h
    have CV := Lib.hid (cvOf_at sep (by omega))
    have O := Lib.hid h
    have hlong : decide (4000 < (s.size : Int)) = false := by simp; omega
    clear h
    go_enter Try.func17, Try.ntmps17
    go_wp2_with (go_at_call 34; refine (l1Split_any _ _ _ (by omega)).mono ?_; rw [CV.out]; rintro e w' ⟨v, rfl, hown, hb⟩; have R := Lib.hid hown; clear hown)
    go_ret2
    exact ⟨v, by rw [O.out]; rfl, by unfold splitXs; rw [if_pos O.out]; exact R.out, hb⟩
  have h' : okSplit s sep = false := by simpa using h
  have fin : SplitPost s sep w (.returned (.tuple #[.slice (some ⟨w.heap.size, 0, none⟩) 0 0, .bool false])) (w.alloc (.cells #[] 9)) := ⟨_, by rw [h'], by unfold splitXs; rw [if_neg h]; exact World.ownsRow_made w #[] 0 (Nat.le_refl _) (Nat.zero_le _) rfl, (Below.refl _ _).alloc (Nat.le_refl _) _⟩
  have FI := Lib.hid fin
  by_cases h1 : sep.size = 1
  · have h0 : 4000 < s.size := by
      by_cases h0 : 4000 < s.size
      · exact h0
      · exact absurd ((okSplit_iff s sep).2 ⟨by omega, h1⟩) h
    clear h h' fin
    go_enter Try.func17, Try.ntmps17
    go_wp2
    go_ret2
    exact FI.out
  · have h1' : ((sep.size : Int) == 1) = false := by simp; omega
    have h1n : ¬ (sep.size : Int) = 1 := by omega
    clear h h' fin h1
    go_enter Try.func17, Try.ntmps17
    go_wp2
    go_ret2
    exact FI.out

theorem implSplit (s sep : ByteArray) (w : World) (hs : s.size ≤ 9223372036854775807) :
    Calls Try.prog 10 #[.string s, .string sep] w (SplitPost s sep w) := by
  by_cases h : okSplit s sep = true
  · exact implSplit_yes s sep w h
  · exact implSplit_no s sep w hs (by simpa using h)
end Go.Proofs.Ytmbmcnmippplaaa
