/- AppendChecksum, the model's and the program's: the text with its checksum, where it holds no mark and is short enough; else the empty text and false. -/
import Derived.Test.YtmbmcnmippplaaaDoorFmt
import Derived.Test.YtmbmcnmippplaaaDoorSum
import Derived.Test.YtmbmcnmippplaaaDoorStands
namespace Go.Proofs.YtmbmcnmippplaaaDoor
open Go.RowKit

/-- The text with its mark and its checksum. -/
def sealOf (s : ByteArray) : ByteArray := s ++ ⟨#[35]⟩ ++ textOf (ck s.data.toList)
def okSeal (s : ByteArray) : Bool := decide (s.size ≤ 4000) && !stands s.data.toList 35 && decide ((sealOf s).size ≤ 4000)
theorem okSeal_iff (s : ByteArray) : okSeal s = true ↔ s.size ≤ 4000 ∧ stands s.data.toList 35 = false ∧ (sealOf s).size ≤ 4000 := by
  simp [okSeal, and_assoc]
theorem sealOf_size (s : ByteArray) : (sealOf s).size = s.size + 1 + (textOf (ck s.data.toList)).size := by
  unfold sealOf; rw [ByteArray.size_append, ByteArray.size_append]; rfl
theorem ck_text_size (l : List UInt8) : (textOf (ck l)).size ≤ 1000000000002 := by
  obtain ⟨a, b⟩ := ck_bd l
  exact textOf_size _ (by omega) (by omega)

theorem l1Seal_any (s : ByteArray) (w : World) (hs : s.size ≤ 1048576) :
    Calls Tryd.prog 34 #[.string s] w fun e w' => e = .returned (.string (sealOf s)) ∧ ∃ m, w' = w.drewN m := by
  have h1 : s.size + (ByteArray.mk #[35]).size ≤ 9223372036854775807 := by have : (ByteArray.mk #[35]).size = 1 := rfl; omega
  have h2 : (s ++ ByteArray.mk #[35]).size + (textOf (ck s.data.toList)).size ≤ 9223372036854775807 := by
    have : (ByteArray.mk #[35]).size = 1 := rfl
    have := ck_text_size s.data.toList
    rw [ByteArray.size_append]; omega
  obtain ⟨b0, b1⟩ := ck_bd s.data.toList
  go_enter Tryd.func34, Tryd.ntmps34
  go_wp2_with (first
    | (go_at_call 41; refine (l1Sum_any _ _ hs).mono ?_; rintro e w' ⟨rfl, rfl⟩)
    | (go_at_call 25; refine (l1Num_any _ _ (by omega) (by omega)).mono ?_; rintro e w' ⟨rfl, m, rfl⟩))
  go_ret
  exact ⟨rfl, _, rfl⟩

theorem specAppend_no (s : ByteArray) (w : World) (hs : s.size ≤ 9223372036854775807) (h : okSeal s = false) :
    Calls Tryd.prog 17 #[.string s] w fun e w' => e = .returned (.tuple #[.string ⟨#[]⟩, .bool false]) ∧ ∃ m, w' = w.drewN m := by
  by_cases h0 : 4000 < s.size
  · clear h
    go_enter Tryd.func17, Tryd.ntmps17
    go_wp2
    go_ret2
    exact ⟨rfl, 0, rfl⟩
  have h0' : decide (4000 < (s.size : Int)) = false := by simp; omega
  by_cases h1 : stands s.data.toList 35 = true
  · have H1 := Lib.hid h1
    clear h h1
    go_enter Tryd.func17, Tryd.ntmps17
    go_wp2_with (go_at_call 33; refine (l1Stands_any _ _ _ hs).mono ?_; rw [H1.out]; rintro e w' ⟨rfl, rfl⟩)
    go_ret2
    exact ⟨rfl, 0, rfl⟩
  have h1' : stands s.data.toList 35 = false := by simpa using h1
  have h2 : 4000 < (sealOf s).size := by
    by_cases h2 : 4000 < (sealOf s).size
    · exact h2
    · rw [(okSeal_iff s).2 ⟨by omega, h1', by omega⟩] at h; cases h
  have H1 := Lib.hid h1'
  clear h h1 h1'
  go_enter Tryd.func17, Tryd.ntmps17
  go_wp2_with (first
    | (go_at_call 33; refine (l1Stands_any _ _ _ hs).mono ?_; rw [H1.out]; rintro e w' ⟨rfl, rfl⟩)
    | (go_at_call 34; refine (l1Seal_any _ _ (by omega)).mono ?_; rintro e w' ⟨rfl, m, rfl⟩))
  go_ret2
  exact ⟨rfl, _, rfl⟩

theorem specAppend_yes (s : ByteArray) (w : World) (h : okSeal s = true) :
    Calls Tryd.prog 17 #[.string s] w fun e w' => e = .returned (.tuple #[.string (sealOf s), .bool true]) ∧ ∃ m, w' = w.drewN m := by
  obtain ⟨h0, h1, h2⟩ := (okSeal_iff s).1 h
  have h0' : decide (4000 < (s.size : Int)) = false := by simp; omega
  have h2' : decide (4000 < ((sealOf s).size : Int)) = false := by simp; omega
  have H1 := Lib.hid h1
  clear h h1
  go_enter Tryd.func17, Tryd.ntmps17
  go_wp2_with (first
    | (go_at_call 33; refine (l1Stands_any _ _ _ (by omega)).mono ?_; rw [H1.out]; rintro e w' ⟨rfl, rfl⟩)
    | (go_at_call 34; refine (l1Seal_any _ _ (by omega)).mono ?_; rintro e w' ⟨rfl, m, rfl⟩))
  go_ret2
  exact ⟨rfl, _, rfl⟩

/-- strings.Contains at the mark. -/
theorem contains_mark (s : ByteArray) (w : World) :
    Calls Tryd.prog 32 #[.string s, .string ⟨#[35]⟩] w fun e w' => e = .returned (.bool (stands s.data.toList 35)) ∧ w = w' :=
  (Tryd.strings_Contains_one s 35 w).mono fun e w' ⟨he, hw⟩ => ⟨by rw [he, stands_index]; rfl, hw.symm⟩

theorem implAppend_no (s : ByteArray) (w : World) (hs : s.size ≤ 9223372036854775807) (h : okSeal s = false) (ht : TabPow w) :
    Calls Tryd.prog 16 #[.string s] w fun e w' => e = .returned (.tuple #[.string ⟨#[]⟩, .bool false]) ∧ Below w.heap.size w w' := by
  have T := Lib.hid ht
  clear ht
  by_cases h0 : 4000 < s.size
  · clear h
    go_enter Tryd.func16, Tryd.ntmps16
    go_wp2_with (go_at_call 31; refine (implChecksum_long _ _ hs h0).mono ?_; rintro e w' ⟨rfl, rfl⟩)
    go_ret2
    exact ⟨rfl, Below.refl _ _⟩
  by_cases h1 : stands s.data.toList 35 = true
  · have H1 := Lib.hid h1
    clear h h1
    go_enter Tryd.func16, Tryd.ntmps16
    go_wp2_with (first
      | (go_at_call 31; refine (implChecksum_short _ _ (by omega)).mono ?_; rintro e w' ⟨rfl, rfl⟩)
      | (go_at_call 32; refine (contains_mark _ _).mono ?_; rw [H1.out]; rintro e w' ⟨rfl, rfl⟩))
    go_ret2
    exact ⟨rfl, Below.refl _ _⟩
  have h1' : stands s.data.toList 35 = false := by simpa using h1
  have h2 : 4000 < (sealOf s).size := by
    by_cases h2 : 4000 < (sealOf s).size
    · exact h2
    · rw [(okSeal_iff s).2 ⟨by omega, h1', by omega⟩] at h; cases h
  have H1 := Lib.hid h1'
  clear h h1 h1'
  have h3 : s.size + (ByteArray.mk #[35]).size ≤ 9223372036854775807 := by have : (ByteArray.mk #[35]).size = 1 := rfl; omega
  have h4 : (s ++ ByteArray.mk #[35]).size + (textOf (ck s.data.toList)).size ≤ 9223372036854775807 := by
    have : (ByteArray.mk #[35]).size = 1 := rfl
    have := ck_text_size s.data.toList
    rw [ByteArray.size_append]; omega
  obtain ⟨b0, b1⟩ := ck_bd s.data.toList
  have h5 : 4000 < (s.size : Int) + 1 + ((textOf (ck s.data.toList)).size : Int) := by have := sealOf_size s; omega
  clear h2
  go_enter Tryd.func16, Tryd.ntmps16
  go_wp2_with (first
      | (go_at_call 31; refine (implChecksum_short _ _ (by omega)).mono ?_; rintro e w' ⟨rfl, rfl⟩)
      | (go_at_call 32; refine (contains_mark _ _).mono ?_; rw [H1.out]; rintro e w' ⟨rfl, rfl⟩)
      | (go_at_call 10; refine (implFormatInt_in _ _ (by omega) (by omega) T.out).mono ?_; rintro e w' ⟨rfl, hb⟩))
  go_ret2
  exact ⟨rfl, hb⟩

theorem implAppend_yes (s : ByteArray) (w : World) (h : okSeal s = true) (ht : TabPow w) :
    Calls Tryd.prog 16 #[.string s] w fun e w' => e = .returned (.tuple #[.string (sealOf s), .bool true]) ∧ Below w.heap.size w w' := by
  have T := Lib.hid ht
  obtain ⟨h0, h1, h2⟩ := (okSeal_iff s).1 h
  have H1 := Lib.hid h1
  clear ht h h1
  have h3 : s.size + (ByteArray.mk #[35]).size ≤ 9223372036854775807 := by have : (ByteArray.mk #[35]).size = 1 := rfl; omega
  have h4 : (s ++ ByteArray.mk #[35]).size + (textOf (ck s.data.toList)).size ≤ 9223372036854775807 := by
    have : (ByteArray.mk #[35]).size = 1 := rfl
    have := ck_text_size s.data.toList
    rw [ByteArray.size_append]; omega
  obtain ⟨b0, b1⟩ := ck_bd s.data.toList
  have h5 : decide (4000 < (s.size : Int) + 1 + ((textOf (ck s.data.toList)).size : Int)) = false := by have := sealOf_size s; simp only [decide_eq_false_iff_not]; omega
  clear h2
  go_enter Tryd.func16, Tryd.ntmps16
  go_wp2_with (first
      | (go_at_call 31; refine (implChecksum_short _ _ (by omega)).mono ?_; rintro e w' ⟨rfl, rfl⟩)
      | (go_at_call 32; refine (contains_mark _ _).mono ?_; rw [H1.out]; rintro e w' ⟨rfl, rfl⟩)
      | (go_at_call 10; refine (implFormatInt_in _ _ (by omega) (by omega) T.out).mono ?_; rintro e w' ⟨rfl, hb⟩))
  go_ret2
  exact ⟨rfl, hb⟩
end Go.Proofs.YtmbmcnmippplaaaDoor
