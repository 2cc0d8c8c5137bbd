/- AppendChecksum, the model's and the program's: the text with its checksum, where it holds no mark and is short enough; else the empty text and false. -/
import Derived.Test.YtmbmcnmippplaaaDoorFmt
import Derived.Test.YtmbmcnmippplaaaDoorSum
import Derived.Lib.IndexAny
namespace Go.Proofs.YtmbmcnmippplaaaDoor
open Go.RowKit

/-- Stands the byte cv among the bytes l? -/
def stands (l : List UInt8) (cv : Int) : Bool := l.any fun x => (x.toNat : Int) == cv
theorem stands_snoc (l : List UInt8) (c : UInt8) (cv : Int) : stands (l ++ [c]) cv = (stands l cv || (c.toNat : Int) == cv) := by simp [stands]
theorem stands_of_take {l : List UInt8} {cv : Int} (k : Nat) (h : stands (l.take k) cv = true) : stands l cv = true := by
  unfold stands at *; rw [List.any_eq_true] at *
  obtain ⟨x, hx, hc⟩ := h
  exact ⟨x, List.mem_of_mem_take hx, hc⟩
theorem stands_index (l : List UInt8) (c : UInt8) : decide (0 ≤ Lib.indexByte l c) = stands l (c.toNat : Int) := by
  rw [← Lib.contains_iff_indexByte]
  unfold stands
  rw [Bool.eq_iff_iff, List.any_eq_true, List.contains_iff_mem]
  constructor
  · intro h; exact ⟨c, h, by simp⟩
  · rintro ⟨x, hx, he⟩
    have : x = c := UInt8.toNat_inj.1 (by simp at he; omega)
    exact this ▸ hx

set_option maxHeartbeats 400000 in
theorem l1Stands_any (s : ByteArray) (cv : Int) (w : World) (hs : s.size ≤ 9223372036854775807) :
    Calls Tryd.prog 33 #[.string s, .int .u8 cv] w fun e w' => e = .returned (.bool (stands s.data.toList cv)) ∧ w = w' := by
  go_enter Tryd.func33, Tryd.ntmps33
  go_wp2
  go_loop [5] (fun i => ∃ k : Nat, k ≤ s.size ∧ i = .int .i64 k ∧ stands (s.data.toList.take k) cv = false) (fun i => s.size - (intOf i).toNat)
  case atStart => exact ⟨0, Nat.zero_le _, rfl, rfl⟩
  case round =>
    obtain ⟨k, hk, rfl, hst⟩ := hrel
    have S := Lib.hid hst
    clear hst
    by_cases hlt : k < s.size
    · have N := Lib.hid (show stands (s.data.toList.take (k + 1)) cv = ((s[k].toNat : Int) == cv) from by rw [take_snoc s k hlt, stands_snoc, S.out]; rfl)
      by_cases hc : (s[k].toNat : Int) = cv
      · have hc' : ((s[k].toNat : Int) == cv) = true := by simpa using hc
        have C := Lib.hid hc'
        clear hc
        go_wp2
        go_ret
        exact ⟨ret_bool (stands_of_take (k + 1) (N.out.trans C.out)).symm, rfl⟩
      · have hc' : ((s[k].toNat : Int) == cv) = false := by simpa using hc
        have C := Lib.hid hc'
        clear hc
        go_wp2
        go_round
        case rel => exact ⟨k + 1, by omega, by go_num, N.out.trans C.out⟩
        case measure => simp [intOf]; omega
    · obtain rfl : k = s.size := by omega
      go_wp2
      go_ret
      exact ⟨ret_bool (by rw [← S.out, take_all]), rfl⟩

/-- The text with its mark and its checksum. -/
def sealOf (s : ByteArray) : ByteArray := s ++ ⟨#[35]⟩ ++ textOf (ck s.data.toList)
def okSeal (s : ByteArray) : Bool := decide (s.size ≤ 4000) && !stands s.data.toList 35 && decide ((sealOf s).size ≤ 4000)
theorem okSeal_iff (s : ByteArray) : okSeal s = true ↔ s.size ≤ 4000 ∧ stands s.data.toList 35 = false ∧ (sealOf s).size ≤ 4000 := by
  simp [okSeal, and_assoc]
theorem sealOf_size (s : ByteArray) : (sealOf s).size = s.size + 1 + (textOf (ck s.data.toList)).size := by
  unfold sealOf; rw [ByteArray.size_append, ByteArray.size_append]; rfl
theorem ck_text_size (l : List UInt8) : (textOf (ck l)).size ≤ 1000000000002 := by
  obtain ⟨a, b⟩ := ck_bd l
  exact textOf_size _ (by omega) (by omega)

theorem l1Seal_any (s : ByteArray) (w : World) (hs : s.size ≤ 1048576) :
    Calls Tryd.prog 34 #[.string s] w fun e w' => e = .returned (.string (sealOf s)) ∧ ∃ m, w' = w.drewN m := by
  have h1 : s.size + (ByteArray.mk #[35]).size ≤ 9223372036854775807 := by have : (ByteArray.mk #[35]).size = 1 := rfl; omega
  have h2 : (s ++ ByteArray.mk #[35]).size + (textOf (ck s.data.toList)).size ≤ 9223372036854775807 := by
    have : (ByteArray.mk #[35]).size = 1 := rfl
    have := ck_text_size s.data.toList
    rw [ByteArray.size_append]; omega
  obtain ⟨b0, b1⟩ := ck_bd s.data.toList
  go_enter Tryd.func34, Tryd.ntmps34
  go_wp2_with (first
    | (go_at_call 41; refine (l1Sum_any _ _ hs).mono ?_; rintro e w' ⟨rfl, rfl⟩)
    | (go_at_call 25; refine (l1Num_any _ _ (by omega) (by omega)).mono ?_; rintro e w' ⟨rfl, m, rfl⟩))
  go_ret
  exact ⟨rfl, _, rfl⟩

theorem specAppend_no (s : ByteArray) (w : World) (hs : s.size ≤ 9223372036854775807) (h : okSeal s = false) :
    Calls Tryd.prog 17 #[.string s] w fun e w' => e = .returned (.tuple #[.string ⟨#[]⟩, .bool false]) ∧ ∃ m, w' = w.drewN m := by
  by_cases h0 : 4000 < s.size
  · clear h
    go_enter Tryd.func17, Tryd.ntmps17
    go_wp2
    go_ret2
    exact ⟨rfl, 0, rfl⟩
  have h0' : decide (4000 < (s.size : Int)) = false := by simp; omega
  by_cases h1 : stands s.data.toList 35 = true
  · have H1 := Lib.hid h1
    clear h h1
    go_enter Tryd.func17, Tryd.ntmps17
    go_wp2_with (go_at_call 33; refine (l1Stands_any _ _ _ hs).mono ?_; rw [H1.out]; rintro e w' ⟨rfl, rfl⟩)
    go_ret2
    exact ⟨rfl, 0, rfl⟩
  have h1' : stands s.data.toList 35 = false := by simpa using h1
  have h2 : 4000 < (sealOf s).size := by
    by_cases h2 : 4000 < (sealOf s).size
    · exact h2
    · rw [(okSeal_iff s).2 ⟨by omega, h1', by omega⟩] at h; cases h
  have H1 := Lib.hid h1'
  clear h h1 h1'
  go_enter Tryd.func17, Tryd.ntmps17
  go_wp2_with (first
    | (go_at_call 33; refine (l1Stands_any _ _ _ hs).mono ?_; rw [H1.out]; rintro e w' ⟨rfl, rfl⟩)
    | (go_at_call 34; refine (l1Seal_any _ _ (by omega)).mono ?_; rintro e w' ⟨rfl, m, rfl⟩))
  go_ret2
  exact ⟨rfl, _, rfl⟩

theorem specAppend_yes (s : ByteArray) (w : World) (h : okSeal s = true) :
    Calls Tryd.prog 17 #[.string s] w fun e w' => e = .returned (.tuple #[.string (sealOf s), .bool true]) ∧ ∃ m, w' = w.drewN m := by
  obtain ⟨h0, h1, h2⟩ := (okSeal_iff s).1 h
  have h0' : decide (4000 < (s.size : Int)) = false := by simp; omega
  have h2' : decide (4000 < ((sealOf s).size : Int)) = false := by simp; omega
  have H1 := Lib.hid h1
  clear h h1
  go_enter Tryd.func17, Tryd.ntmps17
  go_wp2_with (first
    | (go_at_call 33; refine (l1Stands_any _ _ _ (by omega)).mono ?_; rw [H1.out]; rintro e w' ⟨rfl, rfl⟩)
    | (go_at_call 34; refine (l1Seal_any _ _ (by omega)).mono ?_; rintro e w' ⟨rfl, m, rfl⟩))
  go_ret2
  exact ⟨rfl, _, rfl⟩

/-- strings.Contains at the mark. -/
theorem contains_mark (s : ByteArray) (w : World) :
    Calls Tryd.prog 32 #[.string s, .string ⟨#[35]⟩] w fun e w' => e = .returned (.bool (stands s.data.toList 35)) ∧ w = w' :=
  (Tryd.strings_Contains_one s 35 w).mono fun e w' ⟨he, hw⟩ => ⟨by rw [he, stands_index]; rfl, hw.symm⟩

theorem implAppend_no (s : ByteArray) (w : World) (hs : s.size ≤ 9223372036854775807) (h : okSeal s = false) (ht : TabPow w) :
    Calls Tryd.prog 16 #[.string s] w fun e w' => e = .returned (.tuple #[.string ⟨#[]⟩, .bool false]) ∧ Below w.heap.size w w' := by
  have T := Lib.hid ht
  clear ht
  by_cases h0 : 4000 < s.size
  · clear h
    go_enter Tryd.func16, Tryd.ntmps16
    go_wp2_with (go_at_call 31; refine (implChecksum_long _ _ hs h0).mono ?_; rintro e w' ⟨rfl, rfl⟩)
    go_ret2
    exact ⟨rfl, Below.refl _ _⟩
  by_cases h1 : stands s.data.toList 35 = true
  · have H1 := Lib.hid h1
    clear h h1
    go_enter Tryd.func16, Tryd.ntmps16
    go_wp2_with (first
      | (go_at_call 31; refine (implChecksum_short _ _ (by omega)).mono ?_; rintro e w' ⟨rfl, rfl⟩)
      | (go_at_call 32; refine (contains_mark _ _).mono ?_; rw [H1.out]; rintro e w' ⟨rfl, rfl⟩))
    go_ret2
    exact ⟨rfl, Below.refl _ _⟩
  have h1' : stands s.data.toList 35 = false := by simpa using h1
  have h2 : 4000 < (sealOf s).size := by
    by_cases h2 : 4000 < (sealOf s).size
    · exact h2
    · rw [(okSeal_iff s).2 ⟨by omega, h1', by omega⟩] at h; cases h
  have H1 := Lib.hid h1'
  clear h h1 h1'
  have h3 : s.size + (ByteArray.mk #[35]).size ≤ 9223372036854775807 := by have : (ByteArray.mk #[35]).size = 1 := rfl; omega
  have h4 : (s ++ ByteArray.mk #[35]).size + (textOf (ck s.data.toList)).size ≤ 9223372036854775807 := by
    have : (ByteArray.mk #[35]).size = 1 := rfl
    have := ck_text_size s.data.toList
    rw [ByteArray.size_append]; omega
  obtain ⟨b0, b1⟩ := ck_bd s.data.toList
  have h5 : 4000 < (s.size : Int) + 1 + ((textOf (ck s.data.toList)).size : Int) := by have := sealOf_size s; omega
  clear h2
  go_enter Tryd.func16, Tryd.ntmps16
  go_wp2_with (first
      | (go_at_call 31; refine (implChecksum_short _ _ (by omega)).mono ?_; rintro e w' ⟨rfl, rfl⟩)
      | (go_at_call 32; refine (contains_mark _ _).mono ?_; rw [H1.out]; rintro e w' ⟨rfl, rfl⟩)
      | (go_at_call 10; refine (implFormatInt_in _ _ (by omega) (by omega) T.out).mono ?_; rintro e w' ⟨rfl, hb⟩))
  go_ret2
  exact ⟨rfl, hb⟩

theorem implAppend_yes (s : ByteArray) (w : World) (h : okSeal s = true) (ht : TabPow w) :
    Calls Tryd.prog 16 #[.string s] w fun e w' => e = .returned (.tuple #[.string (sealOf s), .bool true]) ∧ Below w.heap.size w w' := by
  have T := Lib.hid ht
  obtain ⟨h0, h1, h2⟩ := (okSeal_iff s).1 h
  have H1 := Lib.hid h1
  clear ht h h1
  have h3 : s.size + (ByteArray.mk #[35]).size ≤ 9223372036854775807 := by have : (ByteArray.mk #[35]).size = 1 := rfl; omega
  have h4 : (s ++ ByteArray.mk #[35]).size + (textOf (ck s.data.toList)).size ≤ 9223372036854775807 := by
    have : (ByteArray.mk #[35]).size = 1 := rfl
    have := ck_text_size s.data.toList
    rw [ByteArray.size_append]; omega
  obtain ⟨b0, b1⟩ := ck_bd s.data.toList
  have h5 : decide (4000 < (s.size : Int) + 1 + ((textOf (ck s.data.toList)).size : Int)) = false := by have := sealOf_size s; simp only [decide_eq_false_iff_not]; omega
  clear h2
  go_enter Tryd.func16, Tryd.ntmps16
  go_wp2_with (first
      | (go_at_call 31; refine (implChecksum_short _ _ (by omega)).mono ?_; rintro e w' ⟨rfl, rfl⟩)
      | (go_at_call 32; refine (contains_mark _ _).mono ?_; rw [H1.out]; rintro e w' ⟨rfl, rfl⟩)
      | (go_at_call 10; refine (implFormatInt_in _ _ (by omega) (by omega) T.out).mono ?_; rintro e w' ⟨rfl, hb⟩))
  go_ret2
  exact ⟨rfl, hb⟩
end Go.Proofs.YtmbmcnmippplaaaDoor
