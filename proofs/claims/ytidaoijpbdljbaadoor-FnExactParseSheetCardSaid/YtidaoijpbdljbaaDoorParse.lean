/- ParseInt: the model's reader, at every text: the number whose decimal text it is, or 0 and false. -/
import Derived.Test.YtidaoijpbdljbaaDoorDec
import Derived.Lib.SlicesS
namespace Go.Proofs.YtidaoijpbdljbaaDoor
open Go.RowKit

/-- The answer at s, the world having drawn. -/
def ReadPost (s : ByteArray) (w : World) (e : Ending) (w' : World) : Prop := ∃ r b, e = .returned (.tuple #[.int .i64 r, .bool b]) ∧ IsParse s r b ∧ ∃ m, w' = w.drewN m
/-- What is known of s where its body t (the text, or what stands behind a sign) is to be a decimal text. -/
def BodyFact (s t : ByteArray) (sg : Int) : Prop := ∀ n : Int, -999999 ≤ n → n ≤ 999999 → s = textOf n → 1 ≤ t.size ∧ t.size ≤ 6 ∧ (∀ c ∈ t.data.toList, IsDig c) ∧ val 0 t.data.toList = sg * n

set_option maxHeartbeats 1600000 in
theorem read_short (s : ByteArray) (w : World) (hs : s.size ≤ 1048576) (h0 : s.size ≤ 1) (B : Hid (BodyFact s s 1)) :
    Calls Tryd.prog 24 #[.string s] w (ReadPost s w) := by
  by_cases h6 : 6 < s.size
  · omega
  by_cases h1 : s.size < 1
  · go_enter Tryd.func24, Tryd.ntmps24
    go_wp2_with (go_at_call 18; refine (l1In_low _ _ _ _ (by omega)).mono ?_; rintro e w' ⟨rfl, rfl⟩)
    go_ret2
    exact ⟨_, _, rfl, IsParse.no (fun n a b e => by have := (B.out n a b e).1; omega), 0, rfl⟩
  go_enter Tryd.func24, Tryd.ntmps24
  go_wp2_with (go_at_call 18; refine (l1In_yes _ _ _ _ (by omega) (by omega)).mono ?_; rintro e w' ⟨rfl, rfl⟩)
  go_loop [5, 6] (fun n i => ∃ (k : Nat) (x : Int), k ≤ s.size ∧ i = .int .i64 k ∧ n = .int .i64 x ∧ 0 ≤ x ∧ x ≤ 999999 ∧ x = val 0 (s.data.toList.take k) ∧ (∀ c ∈ s.data.toList.take k, IsDig c)) (fun _ i => s.size - (intOf i).toNat)
  case atStart => exact ⟨0, 0, Nat.zero_le _, rfl, rfl, by omega, by omega, rfl, by simp⟩
  case round =>
    obtain ⟨k, x, hk, rfl, rfl, hx0, hx1, hx, hdg⟩ := hrel
    have X := Lib.hid hx
    have DG := Lib.hid hdg
    clear hx hdg
    by_cases hlt : k < s.size
    · have hu : (s[k].toNat : Int) ≤ 255 := by have := s[k].toNat_lt; omega
      have D := Lib.hid (take_snoc s k hlt)
      have M := Lib.hid (show s[k] ∈ s.data.toList from by show s.data[k] ∈ s.data.toList; simp)
      by_cases h48 : (s[k].toNat : Int) < 48
      · go_wp2
        go_ret2
        exact ⟨_, _, rfl, IsParse.no (fun n a b e => by have := (B.out n a b e).2.2.1 _ M.out; unfold IsDig at this; omega), 0, rfl⟩
      by_cases h57 : 57 < (s[k].toNat : Int)
      · go_wp2
        go_ret2
        exact ⟨_, _, rfl, IsParse.no (fun n a b e => by have := (B.out n a b e).2.2.1 _ M.out; unfold IsDig at this; omega), 0, rfl⟩
      have h57' : decide (57 < (s[k].toNat : Int)) = false := by simp; omega
      have DG' : Hid (∀ c ∈ s.data.toList.take (k + 1), IsDig c) := by
        intro c hc
        rw [D.out, List.mem_append] at hc
        rcases hc with hc | hc
        · exact DG.out c hc
        · obtain rfl := List.mem_singleton.1 hc; exact ⟨by omega, by omega⟩
      have VV := Lib.hid (show val 0 (s.data.toList.take (k + 1)) = 10 * x + ((s[k].toNat : Int) - 48) from by rw [D.out, val_snoc, ← X.out])
      have hb := val_six _ (by simp; omega) DG'.out
      rw [VV.out] at hb
      obtain ⟨b0, b1⟩ := hb
      go_wp2
      go_round
      case rel => exact ⟨k + 1, 10 * x + ((s[k].toNat : Int) - 48), by omega, by go_num, by go_num, by omega, by omega, VV.out.symm, DG'.out⟩
      case measure => simp [intOf]; omega
    · obtain rfl : k = s.size := by omega
      have X' := Lib.hid (X.out.trans (by rw [take_all]))
      clear X DG hlt
      go_wp2_with (go_at_call 20; refine (l1Num_any _ _ (by omega) (by omega)).mono ?_; rintro e w' ⟨rfl, m, rfl⟩)
      · have hq : (!(textOf (x)).toList == s.toList) = true := by assumption
        go_ret2
        exact ⟨_, _, rfl, IsParse.no (fun n a b e => ne_test hq (by rw [show x = n from by have := (B.out n a b e).2.2.2; have := X'.out; omega]; exact e.symm)), _, rfl⟩
      · have hq : (!(textOf (x)).toList == s.toList) = false := by assumption
        go_ret2
        exact ⟨_, _, rfl, IsParse.yes (by omega) (by omega) (eq_test hq).symm, _, rfl⟩
set_option maxHeartbeats 1600000 in
theorem read_long (s : ByteArray) (w : World) (hs : s.size ≤ 1048576) (h0 : 1 < s.size) (hp : ((s[0].toNat : Int) == 45) = false) (B : Hid (BodyFact s s 1)) :
    Calls Tryd.prog 24 #[.string s] w (ReadPost s w) := by
  by_cases h6 : 6 < s.size
  · go_enter Tryd.func24, Tryd.ntmps24
    go_wp2_with (go_at_call 18; refine (l1In_high _ _ _ _ (by omega)).mono ?_; rintro e w' ⟨rfl, rfl⟩)
    go_ret2
    exact ⟨_, _, rfl, IsParse.no (fun n a b e => by have := (B.out n a b e).2.1; omega), 0, rfl⟩
  by_cases h1 : s.size < 1
  · omega
  go_enter Tryd.func24, Tryd.ntmps24
  go_wp2_with (go_at_call 18; refine (l1In_yes _ _ _ _ (by omega) (by omega)).mono ?_; rintro e w' ⟨rfl, rfl⟩)
  go_loop [5, 6] (fun n i => ∃ (k : Nat) (x : Int), k ≤ s.size ∧ i = .int .i64 k ∧ n = .int .i64 x ∧ 0 ≤ x ∧ x ≤ 999999 ∧ x = val 0 (s.data.toList.take k) ∧ (∀ c ∈ s.data.toList.take k, IsDig c)) (fun _ i => s.size - (intOf i).toNat)
  case atStart => exact ⟨0, 0, Nat.zero_le _, rfl, rfl, by omega, by omega, rfl, by simp⟩
  case round =>
    obtain ⟨k, x, hk, rfl, rfl, hx0, hx1, hx, hdg⟩ := hrel
    have X := Lib.hid hx
    have DG := Lib.hid hdg
    clear hx hdg
    by_cases hlt : k < s.size
    · have hu : (s[k].toNat : Int) ≤ 255 := by have := s[k].toNat_lt; omega
      have D := Lib.hid (take_snoc s k hlt)
      have M := Lib.hid (show s[k] ∈ s.data.toList from by show s.data[k] ∈ s.data.toList; simp)
      by_cases h48 : (s[k].toNat : Int) < 48
      · go_wp2
        go_ret2
        exact ⟨_, _, rfl, IsParse.no (fun n a b e => by have := (B.out n a b e).2.2.1 _ M.out; unfold IsDig at this; omega), 0, rfl⟩
      by_cases h57 : 57 < (s[k].toNat : Int)
      · go_wp2
        go_ret2
        exact ⟨_, _, rfl, IsParse.no (fun n a b e => by have := (B.out n a b e).2.2.1 _ M.out; unfold IsDig at this; omega), 0, rfl⟩
      have h57' : decide (57 < (s[k].toNat : Int)) = false := by simp; omega
      have DG' : Hid (∀ c ∈ s.data.toList.take (k + 1), IsDig c) := by
        intro c hc
        rw [D.out, List.mem_append] at hc
        rcases hc with hc | hc
        · exact DG.out c hc
        · obtain rfl := List.mem_singleton.1 hc; exact ⟨by omega, by omega⟩
      have VV := Lib.hid (show val 0 (s.data.toList.take (k + 1)) = 10 * x + ((s[k].toNat : Int) - 48) from by rw [D.out, val_snoc, ← X.out])
      have hb := val_six _ (by simp; omega) DG'.out
      rw [VV.out] at hb
      obtain ⟨b0, b1⟩ := hb
      go_wp2
      go_round
      case rel => exact ⟨k + 1, 10 * x + ((s[k].toNat : Int) - 48), by omega, by go_num, by go_num, by omega, by omega, VV.out.symm, DG'.out⟩
      case measure => simp [intOf]; omega
    · obtain rfl : k = s.size := by omega
      have X' := Lib.hid (X.out.trans (by rw [take_all]))
      clear X DG hlt
      go_wp2_with (go_at_call 20; refine (l1Num_any _ _ (by omega) (by omega)).mono ?_; rintro e w' ⟨rfl, m, rfl⟩)
      · have hq : (!(textOf (x)).toList == s.toList) = true := by assumption
        go_ret2
        exact ⟨_, _, rfl, IsParse.no (fun n a b e => ne_test hq (by rw [show x = n from by have := (B.out n a b e).2.2.2; have := X'.out; omega]; exact e.symm)), _, rfl⟩
      · have hq : (!(textOf (x)).toList == s.toList) = false := by assumption
        go_ret2
        exact ⟨_, _, rfl, IsParse.yes (by omega) (by omega) (eq_test hq).symm, _, rfl⟩
set_option maxHeartbeats 1600000 in
theorem read_neg (s : ByteArray) (w : World) (hs : s.size ≤ 1048576) (t : ByteArray) (h0 : 1 < s.size) (hp : ((s[0].toNat : Int) == 45) = true) (ht : s.extract 1 s.size = t) (hts : t.size < s.size) (B : Hid (BodyFact s t (-1))) :
    Calls Tryd.prog 24 #[.string s] w (ReadPost s w) := by
  by_cases h6 : 6 < t.size
  · go_enter Tryd.func24, Tryd.ntmps24
    go_wp2_with (go_at_call 18; refine (l1In_high _ _ _ _ (by omega)).mono ?_; rintro e w' ⟨rfl, rfl⟩)
    go_ret2
    exact ⟨_, _, rfl, IsParse.no (fun n a b e => by have := (B.out n a b e).2.1; omega), 0, rfl⟩
  by_cases h1 : t.size < 1
  · go_enter Tryd.func24, Tryd.ntmps24
    go_wp2_with (go_at_call 18; refine (l1In_low _ _ _ _ (by omega)).mono ?_; rintro e w' ⟨rfl, rfl⟩)
    go_ret2
    exact ⟨_, _, rfl, IsParse.no (fun n a b e => by have := (B.out n a b e).1; omega), 0, rfl⟩
  go_enter Tryd.func24, Tryd.ntmps24
  go_wp2_with (go_at_call 18; refine (l1In_yes _ _ _ _ (by omega) (by omega)).mono ?_; rintro e w' ⟨rfl, rfl⟩)
  go_loop [5, 6] (fun n i => ∃ (k : Nat) (x : Int), k ≤ t.size ∧ i = .int .i64 k ∧ n = .int .i64 x ∧ 0 ≤ x ∧ x ≤ 999999 ∧ x = val 0 (t.data.toList.take k) ∧ (∀ c ∈ t.data.toList.take k, IsDig c)) (fun _ i => t.size - (intOf i).toNat)
  case atStart => exact ⟨0, 0, Nat.zero_le _, rfl, rfl, by omega, by omega, rfl, by simp⟩
  case round =>
    obtain ⟨k, x, hk, rfl, rfl, hx0, hx1, hx, hdg⟩ := hrel
    have X := Lib.hid hx
    have DG := Lib.hid hdg
    clear hx hdg
    by_cases hlt : k < t.size
    · have hu : (t[k].toNat : Int) ≤ 255 := by have := t[k].toNat_lt; omega
      have D := Lib.hid (take_snoc t k hlt)
      have M := Lib.hid (show t[k] ∈ t.data.toList from by show t.data[k] ∈ t.data.toList; simp)
      by_cases h48 : (t[k].toNat : Int) < 48
      · go_wp2
        go_ret2
        exact ⟨_, _, rfl, IsParse.no (fun n a b e => by have := (B.out n a b e).2.2.1 _ M.out; unfold IsDig at this; omega), 0, rfl⟩
      by_cases h57 : 57 < (t[k].toNat : Int)
      · go_wp2
        go_ret2
        exact ⟨_, _, rfl, IsParse.no (fun n a b e => by have := (B.out n a b e).2.2.1 _ M.out; unfold IsDig at this; omega), 0, rfl⟩
      have h57' : decide (57 < (t[k].toNat : Int)) = false := by simp; omega
      have DG' : Hid (∀ c ∈ t.data.toList.take (k + 1), IsDig c) := by
        intro c hc
        rw [D.out, List.mem_append] at hc
        rcases hc with hc | hc
        · exact DG.out c hc
        · obtain rfl := List.mem_singleton.1 hc; exact ⟨by omega, by omega⟩
      have VV := Lib.hid (show val 0 (t.data.toList.take (k + 1)) = 10 * x + ((t[k].toNat : Int) - 48) from by rw [D.out, val_snoc, ← X.out])
      have hb := val_six _ (by simp; omega) DG'.out
      rw [VV.out] at hb
      obtain ⟨b0, b1⟩ := hb
      go_wp2
      go_round
      case rel => exact ⟨k + 1, 10 * x + ((t[k].toNat : Int) - 48), by omega, by go_num, by go_num, by omega, by omega, VV.out.symm, DG'.out⟩
      case measure => simp [intOf]; omega
    · obtain rfl : k = t.size := by omega
      have X' := Lib.hid (X.out.trans (by rw [take_all]))
      clear X DG hlt
      go_wp2_with (go_at_call 20; refine (l1Num_any _ _ (by omega) (by omega)).mono ?_; rintro e w' ⟨rfl, m, rfl⟩)
      · have hq : (!(textOf (-x)).toList == s.toList) = true := by assumption
        go_ret2
        exact ⟨_, _, rfl, IsParse.no (fun n a b e => ne_test hq (by rw [show -x = n from by have := (B.out n a b e).2.2.2; have := X'.out; omega]; exact e.symm)), _, rfl⟩
      · have hq : (!(textOf (-x)).toList == s.toList) = false := by assumption
        go_ret2
        exact ⟨_, _, rfl, IsParse.yes (by omega) (by omega) (eq_test hq).symm, _, rfl⟩
theorem read_any (s : ByteArray) (w : World) (hs : s.size ≤ 1048576) :
    Calls Tryd.prog 24 #[.string s] w (ReadPost s w) := by
  by_cases h : s.size ≤ 1
  · exact read_short s w hs h (fun n a b e => by have := body_pos (.inl h) a b e; refine ⟨this.1, this.2.1, this.2.2.1, by omega⟩)
  by_cases h45 : (s[0].toNat : Int) = 45
  · exact read_neg s w hs _ (by omega) (by simpa using h45) rfl (by rw [extract_one_size]; omega) (fun n a b e => by have := body_neg (by omega) h45 a b e; refine ⟨this.1, this.2.1, this.2.2.1, by omega⟩)
  · exact read_long s w hs (by omega) (by simpa using h45) (fun n a b e => by have := body_pos (.inr ⟨by omega, h45⟩) a b e; refine ⟨this.1, this.2.1, this.2.2.1, by omega⟩)
/-- The answer at s, the world below as it was. -/
def ReadBelow (s : ByteArray) (w : World) (e : Ending) (w' : World) : Prop := ∃ r b, e = .returned (.tuple #[.int .i64 r, .bool b]) ∧ IsParse s r b ∧ Below w.heap.size w w'
theorem implParse (s : ByteArray) (w : World) (hs : s.size ≤ 1048576) (ht : TabPow w) :
    Calls Tryd.prog 26 #[.string s] w (ReadBelow s w) := by
  have T := Lib.hid ht
  clear ht
  by_cases h : leadG s.data.toList 0 0 1 < -999999 ∨ 999999 < leadG s.data.toList 0 0 1
  · have O := Lib.hid h
    clear h
    go_enter Tryd.func26, Tryd.ntmps26
    go_wp2_with (first
      | (go_at_call 29; refine (leading_any _ _ (by omega)).mono ?_; rintro e w' ⟨rfl, rfl⟩)
      | (go_at_call 30; refine (implFormatInt_out _ _ O.out).mono ?_; rintro e w' ⟨rfl, rfl⟩))
    go_ret2
    exact ⟨_, _, rfl, IsParse.no (fun n a b e => by have := lead_text n a b; rw [← e] at this; have := O.out; omega), Below.refl _ _⟩
  obtain ⟨n, hn⟩ : ∃ n, leadG s.data.toList 0 0 1 = n := ⟨_, rfl⟩
  rw [hn] at h
  have N := Lib.hid hn
  have h0 : -999999 ≤ n := by omega
  have h1 : n ≤ 999999 := by omega
  clear h hn
  go_enter Tryd.func26, Tryd.ntmps26
  go_wp2_with (first
      | (go_at_call 29; refine (leading_any _ _ (by omega)).mono ?_; rw [N.out]; rintro e w' ⟨rfl, rfl⟩)
      | (go_at_call 30; refine (implFormatInt_in _ _ h0 h1 T.out).mono ?_; rintro e w' ⟨rfl, hb⟩))
  · have hq : (!(textOf n).toList == s.toList) = true := by assumption
    go_ret2
    exact ⟨_, _, rfl, IsParse.no (fun m a b e => ne_test hq (by rw [← N.out, e, lead_text m a b])), hb⟩
  · have hq : (!(textOf n).toList == s.toList) = false := by assumption
    go_ret2
    exact ⟨_, _, rfl, IsParse.yes h0 h1 (eq_test hq).symm, hb⟩
end Go.Proofs.YtidaoijpbdljbaaDoor
