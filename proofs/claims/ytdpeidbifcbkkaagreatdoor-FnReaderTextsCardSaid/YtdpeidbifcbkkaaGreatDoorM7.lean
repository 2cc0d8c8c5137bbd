/- Texts in one: Split, Stands, SplitBack, Parse, Pm, Rp, ReaderR, Rq. -/
import Derived.Test.YtdpeidbifcbkkaaGreatDoorM1
import Derived.WalkKit
import Derived.ProofKit
import Derived.Lib.Hide
import Derived.Below
import Derived.Handy
import Derived.Laws.AppendOwn
import Derived.OwnWalk
import Derived.Maps.AppendAt
import Derived.Lib.IndexAny
import Derived.Lib.Join
import Derived.Lib.JoinLaws
import Derived.Test.YtdpeidbifcbkkaaGreatDoorM6
import Derived.Lib.SlicesS
import Derived.Lib.IndexLaws
import Derived.Lib.IndexMore
import Derived.Laws.OwnMore
import Derived.WalkLawsBesides
namespace Go.Proofs.YtdpeidbifcbkkaaGreatDoor
open Go.RowKit

/-- The parts of s between the bytes cv, from place f on, those up to place k having been seen. -/
def splitR (s : ByteArray) (cv : Int) (f k : Nat) : List ByteArray :=
  if h : k < s.size then (if (s[k].toNat : Int) = cv then s.extract f k :: splitR s cv (k + 1) (k + 1) else splitR s cv f (k + 1)) else [s.extract f s.size]
termination_by s.size - k
theorem splitR_hit {s : ByteArray} {cv : Int} {f k : Nat} (h : k < s.size) (hc : (s[k].toNat : Int) = cv) : splitR s cv f k = s.extract f k :: splitR s cv (k + 1) (k + 1) := by
  rw [splitR, dif_pos h, if_pos hc]
theorem splitR_miss {s : ByteArray} {cv : Int} {f k : Nat} (h : k < s.size) (hc : (s[k].toNat : Int) ≠ cv) : splitR s cv f k = splitR s cv f (k + 1) := by
  rw [splitR, dif_pos h, if_neg hc]
theorem splitR_end {s : ByteArray} {cv : Int} {f : Nat} : splitR s cv f s.size = [s.extract f s.size] := by
  rw [splitR, dif_neg (by omega)]
theorem splitR_len (s : ByteArray) (cv : Int) : ∀ (d f k : Nat), s.size - k = d → k ≤ s.size → 1 ≤ (splitR s cv f k).length ∧ (splitR s cv f k).length ≤ s.size - k + 1 := by
  intro d
  induction d with
  | zero => intro f k hd hk; obtain rfl : k = s.size := by omega
            rw [splitR_end]; simp
  | succ d ih =>
    intro f k hd hk
    by_cases hc : (s[k].toNat : Int) = cv
    · rw [splitR_hit (by omega) hc]
      have := ih (k + 1) (k + 1) (by omega) (by omega)
      simp; omega
    · rw [splitR_miss (by omega) hc]
      have := ih f (k + 1) (by omega) (by omega)
      omega


set_option maxHeartbeats 1600000 in
set_option maxRecDepth 100000 in
theorem l1Split_any (s : ByteArray) (cv : Int) (w : World) (hs : s.size ≤ 1048576) :
    Calls Tryz.prog 35 #[.string s, .int .u8 cv] w (RowPost (splitR s cv 0 0) w) := by
  obtain ⟨i0, hi, hz0, hz1, hz2⟩ := info_parts infoStr
  go_enter Tryz.func35, Tryz.ntmps35
  go_wp2
  go_loopw [5, 6, 7] (fun o f i wr => ∃ (k fr : Nat) (xs : List ByteArray), k ≤ s.size ∧ fr ≤ k ∧ i = .int .i64 k ∧ f = .int .i64 fr ∧ wr.ownsRow w.heap.size 9 1 o xs.length (xs.map Value.string) ∧ Below w.heap.size w wr ∧ xs.length ≤ k ∧ xs ++ splitR s cv fr k = splitR s cv 0 0) (fun _ _ i _ => s.size - (intOf i).toNat)
  case atStart => exact ⟨0, 0, [], Nat.zero_le _, Nat.zero_le _, rfl, rfl, World.ownsRow_made w #[] 0 (Nat.le_refl _) (Nat.zero_le _) rfl, (Below.refl _ _).alloc (Nat.le_refl _) _, Nat.zero_le _, rfl⟩
  case round =>
    obtain ⟨k, fr, xs, hk, hf, rfl, rfl, hown, hbel, hxl, hsp⟩ := hrel
    have S := Lib.hid hsp
    have B := Lib.hid hbel
    have hle := hbel.size
    clear hsp hbel
    by_cases hlt : k < s.size
    · by_cases hc : (s[k].toNat : Int) = cv
      · have hc' : ((s[k].toNat : Int) == cv) = true := by simpa using hc
        have C := Lib.hid hc
        clear hc
        go_wp2_with (at_builtin; refine wpList_append_own _ rfl _ _ 61 rfl w.heap.size 9 i0 (.string ByteArray.empty) 1 16 Tryz.underlying61 hi hz0 hz1 hz2 rfl (by decide) _ _ _ rfl (hown.alloc _) ⟨wr.heap.size, 0, none⟩ 1 1 [.string (s.extract fr k)] rfl rfl (cell_one _ _ _) (fun x hx => by simp at hx; subst hx; rfl) (by unfold maxLen; omega) (by omega) (by simp; omega) ?_; intro v' w3 hown' hgrow3 hnil3)
        go_roundw
        case rel => exact ⟨k + 1, k + 1, xs ++ [s.extract fr k], by omega, by omega, by go_num, by go_num, by simpa using hown', (B.out.alloc hle _).grown hgrow3 (by simp; omega) (fun j e => (hown.lt j e).1), by simp; omega, by rw [← S.out, splitR_hit hlt C.out]; simp⟩
        case measure => simp [intOf]; omega
      · have hc' : ((s[k].toNat : Int) == cv) = false := by simpa using hc
        have C := Lib.hid hc
        clear hc
        go_wp2
        go_roundw
        case rel => exact ⟨k + 1, fr, xs, by omega, by omega, by go_num, rfl, hown, B.out, by omega, by rw [← S.out, splitR_miss hlt C.out]⟩
        case measure => simp [intOf]; omega
    · obtain rfl : k = s.size := by omega
      go_wp2_with (at_builtin; refine wpList_append_own _ rfl _ _ 61 rfl w.heap.size 9 i0 (.string ByteArray.empty) 1 16 Tryz.underlying61 hi hz0 hz1 hz2 rfl (by decide) _ _ _ rfl (hown.alloc _) ⟨wr.heap.size, 0, none⟩ 1 1 [.string (s.extract fr s.size)] rfl rfl (cell_one _ _ _) (fun x hx => by simp at hx; subst hx; rfl) (by unfold maxLen; omega) (by omega) (by simp; omega) ?_; intro v' w3 hown' hgrow3 hnil3)
      have E := S.out
      rw [splitR_end] at E
      have hb3 : Below w.heap.size w w3 := (B.out.alloc hle _).grown hgrow3 (by simp; omega) (fun j e => (hown.lt j e).1)
      go_ret
      exact ⟨v', rfl, by rw [← E]; simpa using hown', hb3⟩
end Go.Proofs.YtdpeidbifcbkkaaGreatDoor
namespace Go.Proofs.YtdpeidbifcbkkaaGreatDoor
open Go.RowKit

/-- Stands the byte cv among the bytes l? -/
def stands (l : List UInt8) (cv : Int) : Bool := l.any fun x => (x.toNat : Int) == cv
theorem stands_snoc (l : List UInt8) (c : UInt8) (cv : Int) : stands (l ++ [c]) cv = (stands l cv || (c.toNat : Int) == cv) := by simp [stands]
theorem stands_of_take {l : List UInt8} {cv : Int} (k : Nat) (h : stands (l.take k) cv = true) : stands l cv = true := by
  unfold stands at *; rw [List.any_eq_true] at *
  obtain ⟨x, hx, hc⟩ := h
  exact ⟨x, List.mem_of_mem_take hx, hc⟩
theorem stands_index (l : List UInt8) (c : UInt8) : decide (0 ≤ Lib.indexByte l c) = stands l (c.toNat : Int) := by
  rw [← Lib.contains_iff_indexByte]
  unfold stands
  rw [Bool.eq_iff_iff, List.any_eq_true, List.contains_iff_mem]
  constructor
  · intro h; exact ⟨c, h, by simp⟩
  · rintro ⟨x, hx, he⟩
    have : x = c := UInt8.toNat_inj.1 (by simp at he; omega)
    exact this ▸ hx

end Go.Proofs.YtdpeidbifcbkkaaGreatDoor
namespace Go.Proofs.YtdpeidbifcbkkaaGreatDoor
open Go.RowKit

theorem extract_list' (s : ByteArray) (f k : Nat) : (s.extract f k).data.toList = (s.data.toList.drop f).take (k - f) := by
  simp [List.extract]
theorem join_cons' (x : List UInt8) (l : List (List UInt8)) (sep : List UInt8) (h : l ≠ []) : Lib.join (x :: l) sep = x ++ sep ++ Lib.join l sep := by
  obtain ⟨y, r, rfl⟩ := List.exists_cons_of_ne_nil h
  rw [Lib.join_cons, Lib.join_cons]
  simp [Lib.joinTail]
theorem part_snoc' (s : ByteArray) (f k : Nat) (hf : f ≤ k) (hk : k < s.size) : (s.data.toList.drop f).take (k + 1 - f) = (s.data.toList.drop f).take (k - f) ++ [s[k]] := by
  rw [show k + 1 - f = (k - f) + 1 by omega, List.take_add_one, List.getElem?_drop, show f + (k - f) = k by omega]
  have h : s.data.toList[k]? = some s[k] := by
    rw [List.getElem?_eq_getElem (by rw [← size_list]; exact hk)]
    rfl
  rw [h]; rfl
theorem part_cons' (s : ByteArray) (f k : Nat) (hf : f ≤ k) (hk : k < s.size) : s.data.toList.drop f = (s.data.toList.drop f).take (k - f) ++ [s[k]] ++ s.data.toList.drop (k + 1) := by
  have h := (List.take_append_drop (k - f) (s.data.toList.drop f)).symm
  rw [List.drop_drop, show f + (k - f) = k by omega, drop_cons s k hk] at h
  simpa using h
theorem split_back' (s : ByteArray) (c : UInt8) : ∀ (d f k : Nat), s.size - k = d → k ≤ s.size → f ≤ k → stands ((s.data.toList.drop f).take (k - f)) (c.toNat : Int) = false →
    (splitR s (c.toNat : Int) f k ≠ [] ∧ Lib.join ((splitR s (c.toNat : Int) f k).map (·.data.toList)) [c] = s.data.toList.drop f ∧ ∀ x ∈ splitR s (c.toNat : Int) f k, stands x.data.toList (c.toNat : Int) = false) := by
  intro d
  induction d with
  | zero =>
    intro f k hd hk hf hst
    obtain rfl : k = s.size := by omega
    rw [splitR_end]
    refine ⟨by simp, ?_, fun x hx => ?_⟩
    · simp only [List.map_cons, List.map_nil, extract_list']
      have : Lib.join [(s.data.toList.drop f).take (s.size - f)] [c] = (s.data.toList.drop f).take (s.size - f) := Lib.join_one _ _
      rw [this]
      exact List.take_of_length_le (by rw [List.length_drop, ← size_list]; exact Nat.le_refl _)
    · obtain rfl := List.mem_singleton.1 hx
      rw [extract_list']; exact hst
  | succ d ih =>
    intro f k hd hk hf hst
    by_cases hc : (s[k].toNat : Int) = (c.toNat : Int)
    · obtain ⟨i0, i1, i2⟩ := ih (k + 1) (k + 1) (by omega) (by omega) (Nat.le_refl _) (by simp [stands])
      rw [splitR_hit (by omega) hc]
      refine ⟨by simp, ?_, fun x hx => ?_⟩
      · rw [List.map_cons, join_cons' _ _ _ (by simpa using i0), i1, extract_list']
        have e : s[k] = c := UInt8.toNat_inj.1 (by omega)
        rw [← e]
        exact (part_cons' s f k hf (by omega)).symm
      · rcases List.mem_cons.1 hx with rfl | hx
        · rw [extract_list']; exact hst
        · exact i2 x hx
    · rw [splitR_miss (by omega) hc]
      refine ih f (k + 1) (by omega) (by omega) (by omega) ?_
      rw [part_snoc' s f k hf (by omega), stands_snoc, hst]
      simpa using hc

theorem sep_inj {c : UInt8} : ∀ {x y A B : List UInt8}, c ∉ x → c ∉ y → x ++ c :: A = y ++ c :: B → x = y ∧ A = B
  | [], [], _, _, _, _, h => ⟨rfl, by simpa using h⟩
  | [], b :: y, _, _, _, hy, h => by simp at h; exact absurd (by rw [h.1]; simp) hy
  | a :: x, [], _, _, hx, _, h => by simp at h; exact absurd (by rw [h.1]; simp) hx
  | a :: x, b :: y, A, B, hx, hy, h => by
    simp at h hx hy
    obtain ⟨h1, h2⟩ := sep_inj (x := x) (y := y) (A := A) (B := B) hx.2 hy.2 h.2
    exact ⟨by rw [h.1, h1], h2⟩
theorem join_inj {c : UInt8} : ∀ (xs ys : List (List UInt8)), (∀ x ∈ xs, c ∉ x) → (∀ y ∈ ys, c ∉ y) → xs ≠ [] → ys ≠ [] → Lib.join xs [c] = Lib.join ys [c] → xs = ys
  | [], _, _, _, h, _, _ => absurd rfl h
  | _, [], _, _, _, h, _ => absurd rfl h
  | [x], [y], _, _, _, _, h => by rw [Lib.join_one, Lib.join_one] at h; rw [h]
  | [x], y :: z :: r, hx, _, _, _, h => by
    rw [Lib.join_one, join_cons' y (z :: r) [c] (by simp)] at h
    exact absurd (by rw [h]; simp) (hx x (by simp))
  | x :: z :: r, [y], _, hy, _, _, h => by
    rw [Lib.join_one, join_cons' x (z :: r) [c] (by simp)] at h
    exact absurd (by rw [← h]; simp) (hy y (by simp))
  | x :: z :: r, y :: z' :: r', hx, hy, _, _, h => by
    rw [join_cons' x (z :: r) [c] (by simp), join_cons' y (z' :: r') [c] (by simp)] at h
    obtain ⟨h1, h2⟩ := sep_inj (A := Lib.join (z :: r) [c]) (B := Lib.join (z' :: r') [c]) (hx x (by simp)) (hy y (by simp)) (by simpa using h)
    rw [h1, join_inj (z :: r) (z' :: r') (fun u hu => hx u (List.mem_cons_of_mem _ hu)) (fun u hu => hy u (List.mem_cons_of_mem _ hu)) (by simp) (by simp) h2]
theorem stands_mem {l : List UInt8} {c : UInt8} (h : stands l (c.toNat : Int) = false) : c ∉ l := by
  intro hc
  unfold stands at h
  rw [List.any_eq_false] at h
  exact h c hc (by simp)
/-- The parts of a text that is put together of parts without the byte. -/
theorem splitR_of (s : ByteArray) (c : UInt8) (ws : List ByteArray) (hne : ws ≠ []) (hc : ∀ x ∈ ws, c ∉ x.data.toList) (h : s.data.toList = Lib.join (ws.map (·.data.toList)) [c]) : splitR s (c.toNat : Int) 0 0 = ws := by
  obtain ⟨i0, i1, i2⟩ := split_back' s c _ 0 0 rfl (by omega) (Nat.le_refl _) (by simp [stands])
  rw [List.drop_zero, h] at i1
  have e := join_inj _ _ (fun x hx => by
    obtain ⟨y, hy, rfl⟩ := List.mem_map.1 hx
    exact stands_mem (i2 y hy)) (fun x hx => by
    obtain ⟨y, hy, rfl⟩ := List.mem_map.1 hx
    exact hc y hy) (by simpa using i0) (by simpa using hne) i1
  have hinj : ∀ (a b : List ByteArray), a.map (·.data.toList) = b.map (·.data.toList) → a = b := by
    intro a
    induction a with
    | nil => intro b hb; cases b <;> simp at hb; rfl
    | cons x a ih =>
      intro b hb
      cases b with
      | nil => simp at hb
      | cons y b =>
        simp only [List.map_cons, List.cons.injEq] at hb
        rw [bytes_ext hb.1, ih b hb.2]
  exact hinj _ _ e
end Go.Proofs.YtdpeidbifcbkkaaGreatDoor
namespace Go.Proofs.YtdpeidbifcbkkaaGreatDoor
open Go.RowKit

/-- The answer at s, the world having drawn. -/
def ReadPost (s : ByteArray) (w : World) (e : Ending) (w' : World) : Prop := ∃ r b, e = .returned (.tuple #[.int .i64 r, .bool b]) ∧ IsParse s r b ∧ ∃ m, w' = w.drewN m
/-- What is known of s where its body t (the text, or what stands behind a sign) is to be a decimal text. -/
def BodyFact (s t : ByteArray) (sg : Int) : Prop := ∀ n : Int, -999999 ≤ n → n ≤ 999999 → s = textOf n → 1 ≤ t.size ∧ t.size ≤ 6 ∧ (∀ c ∈ t.data.toList, IsDig c) ∧ val 0 t.data.toList = sg * n

set_option maxHeartbeats 1600000 in
theorem read_short (s : ByteArray) (w : World) (hs : s.size ≤ 1048576) (h0 : s.size ≤ 1) (B : Hid (BodyFact s s 1)) :
    Calls Tryz.prog 36 #[.string s] w (ReadPost s w) := by
  by_cases h6 : 6 < s.size
  · omega
  by_cases h1 : s.size < 1
  · go_enter Tryz.func36, Tryz.ntmps36
    go_wp2_with (go_at_call 54; refine (l1In_low _ _ _ _ (by omega)).mono ?_; rintro e w' ⟨rfl, rfl⟩)
    go_ret2
    exact ⟨_, _, rfl, IsParse.no (fun n a b e => by have := (B.out n a b e).1; omega), 0, rfl⟩
  go_enter Tryz.func36, Tryz.ntmps36
  go_wp2_with (go_at_call 54; refine (l1In_yes _ _ _ _ (by omega) (by omega)).mono ?_; rintro e w' ⟨rfl, rfl⟩)
  go_loop [5, 6] (fun n i => ∃ (k : Nat) (x : Int), k ≤ s.size ∧ i = .int .i64 k ∧ n = .int .i64 x ∧ 0 ≤ x ∧ x ≤ 999999 ∧ x = val 0 (s.data.toList.take k) ∧ (∀ c ∈ s.data.toList.take k, IsDig c)) (fun _ i => s.size - (intOf i).toNat)
  case atStart => exact ⟨0, 0, Nat.zero_le _, rfl, rfl, by omega, by omega, rfl, by simp⟩
  case round =>
    obtain ⟨k, x, hk, rfl, rfl, hx0, hx1, hx, hdg⟩ := hrel
    have X := Lib.hid hx
    have DG := Lib.hid hdg
    clear hx hdg
    by_cases hlt : k < s.size
    · have hu : (s[k].toNat : Int) ≤ 255 := by have := s[k].toNat_lt; omega
      have D := Lib.hid (take_snoc s k hlt)
      have M := Lib.hid (show s[k] ∈ s.data.toList from by show s.data[k] ∈ s.data.toList; simp)
      by_cases h48 : (s[k].toNat : Int) < 48
      · go_wp2
        go_ret2
        exact ⟨_, _, rfl, IsParse.no (fun n a b e => by have := (B.out n a b e).2.2.1 _ M.out; unfold IsDig at this; omega), 0, rfl⟩
      by_cases h57 : 57 < (s[k].toNat : Int)
      · go_wp2
        go_ret2
        exact ⟨_, _, rfl, IsParse.no (fun n a b e => by have := (B.out n a b e).2.2.1 _ M.out; unfold IsDig at this; omega), 0, rfl⟩
      have h57' : decide (57 < (s[k].toNat : Int)) = false := by simp; omega
      have DG' : Hid (∀ c ∈ s.data.toList.take (k + 1), IsDig c) := by
        intro c hc
        rw [D.out, List.mem_append] at hc
        rcases hc with hc | hc
        · exact DG.out c hc
        · obtain rfl := List.mem_singleton.1 hc; exact ⟨by omega, by omega⟩
      have VV := Lib.hid (show val 0 (s.data.toList.take (k + 1)) = 10 * x + ((s[k].toNat : Int) - 48) from by rw [D.out, val_snoc, ← X.out])
      have hb := val_six _ (by simp; omega) DG'.out
      rw [VV.out] at hb
      obtain ⟨b0, b1⟩ := hb
      go_wp2
      go_round
      case rel => exact ⟨k + 1, 10 * x + ((s[k].toNat : Int) - 48), by omega, by go_num, by go_num, by omega, by omega, VV.out.symm, DG'.out⟩
      case measure => simp [intOf]; omega
    · obtain rfl : k = s.size := by omega
      have X' := Lib.hid (X.out.trans (by rw [take_all]))
      clear X DG hlt
      go_wp2_with (go_at_call 59; refine (l1Num_any _ _ (by omega) (by omega)).mono ?_; rintro e w' ⟨rfl, m, rfl⟩)
      · have hq : (!(textOf (x)).toList == s.toList) = true := by assumption
        go_ret2
        exact ⟨_, _, rfl, IsParse.no (fun n a b e => ne_test hq (by rw [show x = n from by have := (B.out n a b e).2.2.2; have := X'.out; omega]; exact e.symm)), _, rfl⟩
      · have hq : (!(textOf (x)).toList == s.toList) = false := by assumption
        go_ret2
        exact ⟨_, _, rfl, IsParse.yes (by omega) (by omega) (eq_test hq).symm, _, rfl⟩
set_option maxHeartbeats 1600000 in
theorem read_long (s : ByteArray) (w : World) (hs : s.size ≤ 1048576) (h0 : 1 < s.size) (hp : ((s[0].toNat : Int) == 45) = false) (B : Hid (BodyFact s s 1)) :
    Calls Tryz.prog 36 #[.string s] w (ReadPost s w) := by
  by_cases h6 : 6 < s.size
  · go_enter Tryz.func36, Tryz.ntmps36
    go_wp2_with (go_at_call 54; refine (l1In_high _ _ _ _ (by omega)).mono ?_; rintro e w' ⟨rfl, rfl⟩)
    go_ret2
    exact ⟨_, _, rfl, IsParse.no (fun n a b e => by have := (B.out n a b e).2.1; omega), 0, rfl⟩
  by_cases h1 : s.size < 1
  · omega
  go_enter Tryz.func36, Tryz.ntmps36
  go_wp2_with (go_at_call 54; refine (l1In_yes _ _ _ _ (by omega) (by omega)).mono ?_; rintro e w' ⟨rfl, rfl⟩)
  go_loop [5, 6] (fun n i => ∃ (k : Nat) (x : Int), k ≤ s.size ∧ i = .int .i64 k ∧ n = .int .i64 x ∧ 0 ≤ x ∧ x ≤ 999999 ∧ x = val 0 (s.data.toList.take k) ∧ (∀ c ∈ s.data.toList.take k, IsDig c)) (fun _ i => s.size - (intOf i).toNat)
  case atStart => exact ⟨0, 0, Nat.zero_le _, rfl, rfl, by omega, by omega, rfl, by simp⟩
  case round =>
    obtain ⟨k, x, hk, rfl, rfl, hx0, hx1, hx, hdg⟩ := hrel
    have X := Lib.hid hx
    have DG := Lib.hid hdg
    clear hx hdg
    by_cases hlt : k < s.size
    · have hu : (s[k].toNat : Int) ≤ 255 := by have := s[k].toNat_lt; omega
      have D := Lib.hid (take_snoc s k hlt)
      have M := Lib.hid (show s[k] ∈ s.data.toList from by show s.data[k] ∈ s.data.toList; simp)
      by_cases h48 : (s[k].toNat : Int) < 48
      · go_wp2
        go_ret2
        exact ⟨_, _, rfl, IsParse.no (fun n a b e => by have := (B.out n a b e).2.2.1 _ M.out; unfold IsDig at this; omega), 0, rfl⟩
      by_cases h57 : 57 < (s[k].toNat : Int)
      · go_wp2
        go_ret2
        exact ⟨_, _, rfl, IsParse.no (fun n a b e => by have := (B.out n a b e).2.2.1 _ M.out; unfold IsDig at this; omega), 0, rfl⟩
      have h57' : decide (57 < (s[k].toNat : Int)) = false := by simp; omega
      have DG' : Hid (∀ c ∈ s.data.toList.take (k + 1), IsDig c) := by
        intro c hc
        rw [D.out, List.mem_append] at hc
        rcases hc with hc | hc
        · exact DG.out c hc
        · obtain rfl := List.mem_singleton.1 hc; exact ⟨by omega, by omega⟩
      have VV := Lib.hid (show val 0 (s.data.toList.take (k + 1)) = 10 * x + ((s[k].toNat : Int) - 48) from by rw [D.out, val_snoc, ← X.out])
      have hb := val_six _ (by simp; omega) DG'.out
      rw [VV.out] at hb
      obtain ⟨b0, b1⟩ := hb
      go_wp2
      go_round
      case rel => exact ⟨k + 1, 10 * x + ((s[k].toNat : Int) - 48), by omega, by go_num, by go_num, by omega, by omega, VV.out.symm, DG'.out⟩
      case measure => simp [intOf]; omega
    · obtain rfl : k = s.size := by omega
      have X' := Lib.hid (X.out.trans (by rw [take_all]))
      clear X DG hlt
      go_wp2_with (go_at_call 59; refine (l1Num_any _ _ (by omega) (by omega)).mono ?_; rintro e w' ⟨rfl, m, rfl⟩)
      · have hq : (!(textOf (x)).toList == s.toList) = true := by assumption
        go_ret2
        exact ⟨_, _, rfl, IsParse.no (fun n a b e => ne_test hq (by rw [show x = n from by have := (B.out n a b e).2.2.2; have := X'.out; omega]; exact e.symm)), _, rfl⟩
      · have hq : (!(textOf (x)).toList == s.toList) = false := by assumption
        go_ret2
        exact ⟨_, _, rfl, IsParse.yes (by omega) (by omega) (eq_test hq).symm, _, rfl⟩
set_option maxHeartbeats 1600000 in
theorem read_neg (s : ByteArray) (w : World) (hs : s.size ≤ 1048576) (t : ByteArray) (h0 : 1 < s.size) (hp : ((s[0].toNat : Int) == 45) = true) (ht : s.extract 1 s.size = t) (hts : t.size < s.size) (B : Hid (BodyFact s t (-1))) :
    Calls Tryz.prog 36 #[.string s] w (ReadPost s w) := by
  by_cases h6 : 6 < t.size
  · go_enter Tryz.func36, Tryz.ntmps36
    go_wp2_with (go_at_call 54; refine (l1In_high _ _ _ _ (by omega)).mono ?_; rintro e w' ⟨rfl, rfl⟩)
    go_ret2
    exact ⟨_, _, rfl, IsParse.no (fun n a b e => by have := (B.out n a b e).2.1; omega), 0, rfl⟩
  by_cases h1 : t.size < 1
  · go_enter Tryz.func36, Tryz.ntmps36
    go_wp2_with (go_at_call 54; refine (l1In_low _ _ _ _ (by omega)).mono ?_; rintro e w' ⟨rfl, rfl⟩)
    go_ret2
    exact ⟨_, _, rfl, IsParse.no (fun n a b e => by have := (B.out n a b e).1; omega), 0, rfl⟩
  go_enter Tryz.func36, Tryz.ntmps36
  go_wp2_with (go_at_call 54; refine (l1In_yes _ _ _ _ (by omega) (by omega)).mono ?_; rintro e w' ⟨rfl, rfl⟩)
  go_loop [5, 6] (fun n i => ∃ (k : Nat) (x : Int), k ≤ t.size ∧ i = .int .i64 k ∧ n = .int .i64 x ∧ 0 ≤ x ∧ x ≤ 999999 ∧ x = val 0 (t.data.toList.take k) ∧ (∀ c ∈ t.data.toList.take k, IsDig c)) (fun _ i => t.size - (intOf i).toNat)
  case atStart => exact ⟨0, 0, Nat.zero_le _, rfl, rfl, by omega, by omega, rfl, by simp⟩
  case round =>
    obtain ⟨k, x, hk, rfl, rfl, hx0, hx1, hx, hdg⟩ := hrel
    have X := Lib.hid hx
    have DG := Lib.hid hdg
    clear hx hdg
    by_cases hlt : k < t.size
    · have hu : (t[k].toNat : Int) ≤ 255 := by have := t[k].toNat_lt; omega
      have D := Lib.hid (take_snoc t k hlt)
      have M := Lib.hid (show t[k] ∈ t.data.toList from by show t.data[k] ∈ t.data.toList; simp)
      by_cases h48 : (t[k].toNat : Int) < 48
      · go_wp2
        go_ret2
        exact ⟨_, _, rfl, IsParse.no (fun n a b e => by have := (B.out n a b e).2.2.1 _ M.out; unfold IsDig at this; omega), 0, rfl⟩
      by_cases h57 : 57 < (t[k].toNat : Int)
      · go_wp2
        go_ret2
        exact ⟨_, _, rfl, IsParse.no (fun n a b e => by have := (B.out n a b e).2.2.1 _ M.out; unfold IsDig at this; omega), 0, rfl⟩
      have h57' : decide (57 < (t[k].toNat : Int)) = false := by simp; omega
      have DG' : Hid (∀ c ∈ t.data.toList.take (k + 1), IsDig c) := by
        intro c hc
        rw [D.out, List.mem_append] at hc
        rcases hc with hc | hc
        · exact DG.out c hc
        · obtain rfl := List.mem_singleton.1 hc; exact ⟨by omega, by omega⟩
      have VV := Lib.hid (show val 0 (t.data.toList.take (k + 1)) = 10 * x + ((t[k].toNat : Int) - 48) from by rw [D.out, val_snoc, ← X.out])
      have hb := val_six _ (by simp; omega) DG'.out
      rw [VV.out] at hb
      obtain ⟨b0, b1⟩ := hb
      go_wp2
      go_round
      case rel => exact ⟨k + 1, 10 * x + ((t[k].toNat : Int) - 48), by omega, by go_num, by go_num, by omega, by omega, VV.out.symm, DG'.out⟩
      case measure => simp [intOf]; omega
    · obtain rfl : k = t.size := by omega
      have X' := Lib.hid (X.out.trans (by rw [take_all]))
      clear X DG hlt
      go_wp2_with (go_at_call 59; refine (l1Num_any _ _ (by omega) (by omega)).mono ?_; rintro e w' ⟨rfl, m, rfl⟩)
      · have hq : (!(textOf (-x)).toList == s.toList) = true := by assumption
        go_ret2
        exact ⟨_, _, rfl, IsParse.no (fun n a b e => ne_test hq (by rw [show -x = n from by have := (B.out n a b e).2.2.2; have := X'.out; omega]; exact e.symm)), _, rfl⟩
      · have hq : (!(textOf (-x)).toList == s.toList) = false := by assumption
        go_ret2
        exact ⟨_, _, rfl, IsParse.yes (by omega) (by omega) (eq_test hq).symm, _, rfl⟩
theorem read_any (s : ByteArray) (w : World) (hs : s.size ≤ 1048576) :
    Calls Tryz.prog 36 #[.string s] w (ReadPost s w) := by
  by_cases h : s.size ≤ 1
  · exact read_short s w hs h (fun n a b e => by have := body_pos (.inl h) a b e; refine ⟨this.1, this.2.1, this.2.2.1, by omega⟩)
  by_cases h45 : (s[0].toNat : Int) = 45
  · exact read_neg s w hs _ (by omega) (by simpa using h45) rfl (by rw [extract_one_size]; omega) (fun n a b e => by have := body_neg (by omega) h45 a b e; refine ⟨this.1, this.2.1, this.2.2.1, by omega⟩)
  · exact read_long s w hs (by omega) (by simpa using h45) (fun n a b e => by have := body_pos (.inr ⟨by omega, h45⟩) a b e; refine ⟨this.1, this.2.1, this.2.2.1, by omega⟩)
/-- The answer at s, the world below as it was. -/
def ReadBelow (s : ByteArray) (w : World) (e : Ending) (w' : World) : Prop := ∃ r b, e = .returned (.tuple #[.int .i64 r, .bool b]) ∧ IsParse s r b ∧ Below w.heap.size w w'
theorem implParse (s : ByteArray) (w : World) (hs : s.size ≤ 1048576) (ht : TabPow w) :
    Calls Tryz.prog 61 #[.string s] w (ReadBelow s w) := by
  have T := Lib.hid ht
  clear ht
  by_cases h : leadG s.data.toList 0 0 1 < -999999 ∨ 999999 < leadG s.data.toList 0 0 1
  · have O := Lib.hid h
    clear h
    go_enter Tryz.func61, Tryz.ntmps61
    go_wp2_with (first
      | (go_at_call 74; refine (leading_any _ _ (by omega)).mono ?_; rintro e w' ⟨rfl, rfl⟩)
      | (go_at_call 75; refine (implFormatInt_out _ _ O.out).mono ?_; rintro e w' ⟨rfl, rfl⟩))
    go_ret2
    exact ⟨_, _, rfl, IsParse.no (fun n a b e => by have := lead_text n a b; rw [← e] at this; have := O.out; omega), Below.refl _ _⟩
  obtain ⟨n, hn⟩ : ∃ n, leadG s.data.toList 0 0 1 = n := ⟨_, rfl⟩
  rw [hn] at h
  have N := Lib.hid hn
  have h0 : -999999 ≤ n := by omega
  have h1 : n ≤ 999999 := by omega
  clear h hn
  go_enter Tryz.func61, Tryz.ntmps61
  go_wp2_with (first
      | (go_at_call 74; refine (leading_any _ _ (by omega)).mono ?_; rw [N.out]; rintro e w' ⟨rfl, rfl⟩)
      | (go_at_call 75; refine (implFormatInt_in _ _ h0 h1 T.out).mono ?_; rintro e w' ⟨rfl, hb⟩))
  · have hq : (!(textOf n).toList == s.toList) = true := by assumption
    go_ret2
    exact ⟨_, _, rfl, IsParse.no (fun m a b e => ne_test hq (by rw [← N.out, e, lead_text m a b])), hb⟩
  · have hq : (!(textOf n).toList == s.toList) = false := by assumption
    go_ret2
    exact ⟨_, _, rfl, IsParse.yes h0 h1 (eq_test hq).symm, hb⟩
end Go.Proofs.YtdpeidbifcbkkaaGreatDoor
namespace Go.Proofs.YtdpeidbifcbkkaaGreatDoor
open Go.RowKit

/-- What ParseInt answers. -/
def parseV (s : ByteArray) : Int × Bool :=
  if -999999 ≤ leadG s.data.toList 0 0 1 ∧ leadG s.data.toList 0 0 1 ≤ 999999 ∧ (textOf (leadG s.data.toList 0 0 1)).data.toList = s.data.toList then (leadG s.data.toList 0 0 1, true) else (0, false)
theorem parseV_is (s : ByteArray) : IsParse s (parseV s).1 (parseV s).2 := by
  unfold parseV
  split
  · rename_i h
    exact IsParse.yes h.1 h.2.1 (bytes_ext h.2.2).symm
  · rename_i h
    refine IsParse.no fun n a b e => h ?_
    have := lead_text n a b
    rw [← e] at this
    rw [this]
    exact ⟨a, b, by rw [e]⟩
theorem parseV_text {n : Int} (h0 : -999999 ≤ n) (h1 : n ≤ 999999) : parseV (textOf n) = (n, true) := by
  obtain ⟨h2, h3⟩ := (parseV_is (textOf n)).one (IsParse.yes h0 h1 rfl)
  exact Prod.ext h2 h3
theorem parseV_sound {s : ByteArray} (h : (parseV s).2 = true) : -999999 ≤ (parseV s).1 ∧ (parseV s).1 ≤ 999999 ∧ s = textOf (parseV s).1 := by
  rcases parseV_is s with ⟨_, a, b, e⟩ | ⟨h2, _⟩
  · exact ⟨a, b, e⟩
  · rw [h] at h2; cases h2

/-- A text cut at a mark. -/
def cutB (s m : ByteArray) : ByteArray × ByteArray × Bool := (⟨(Lib.cut s.data.toList m.data.toList).1.toArray⟩, ⟨(Lib.cut s.data.toList m.data.toList).2.1.toArray⟩, (Lib.cut s.data.toList m.data.toList).2.2)
theorem cut_size (s m : ByteArray) : (cutB s m).1.size ≤ s.size ∧ (cutB s m).2.1.size ≤ s.size := by
  unfold cutB Lib.cut
  split
  · constructor
    · show (List.toArray _).size ≤ _
      rw [size_list]; simp; omega
    · show (List.toArray _).size ≤ _
      rw [size_list]; simp
  · constructor
    · show (List.toArray _).size ≤ _
      rw [size_list]; simp
    · exact Nat.zero_le _
theorem occ_of {s m : List UInt8} {i : Nat} (h : Lib.occAt s m i = true) : ∃ r, s.drop i = m ++ r := by
  unfold Lib.occAt at h
  obtain ⟨r, hr⟩ := List.isPrefixOf_iff_prefix.1 h
  exact ⟨r, hr.symm⟩
theorem cut_sound {s m : ByteArray} (h : (cutB s m).2.2 = true) : s.data.toList = (cutB s m).1.data.toList ++ (m.data.toList ++ (cutB s m).2.1.data.toList) := by
  unfold cutB Lib.cut at *
  split at h
  · rename_i h0
    rw [if_pos h0]
    rcases Lib.index_spec s.data.toList m.data.toList with ⟨h1, _⟩ | ⟨i, h1, h2, h3, _⟩
    · omega
    · obtain ⟨r, hr⟩ := occ_of h3
      simp only [h1, Int.toNat_natCast]
      conv => lhs; rw [← List.take_append_drop i s.data.toList]
      congr 1
      rw [← List.drop_drop, hr]
      simp
  · cases h
/-- Where a mark stands behind bytes that it cannot begin in, it is cut there. -/
theorem cut_at (t m r : List UInt8) (c : UInt8) (p : Nat) (hm : m[p]? = some c) (hp : ∀ j, j < p → m[j]? ≠ some c) (ht : c ∉ t) : Lib.cut (t ++ (m ++ r)) m = (t, r, true) := by
  have hi : Lib.index (t ++ (m ++ r)) m = (t.length : Int) := by
    refine Lib.index_first (by simp) ?_ ?_
    · unfold Lib.occAt
      rw [List.isPrefixOf_iff_prefix]
      exact ⟨r, by simp⟩
    · intro j hj
      rw [Bool.eq_false_iff]
      intro h
      obtain ⟨r', hr'⟩ := occ_of h
      have h1 : (t ++ (m ++ r))[j + p]? = some c := by
        rw [← List.getElem?_drop, hr', List.getElem?_append_left (List.getElem?_eq_some_iff.1 hm).1]; exact hm
      by_cases hlt : j + p < t.length
      · rw [List.getElem?_append_left hlt] at h1
        exact ht (List.mem_of_getElem? h1)
      · rw [List.getElem?_append_right (by omega)] at h1
        have hpm := (List.getElem?_eq_some_iff.1 hm).1
        rw [List.getElem?_append_left (by omega)] at h1
        exact hp _ (by omega) h1
  unfold Lib.cut
  rw [if_pos (by rw [hi]; omega), hi]
  simp
theorem text_digs {n : Int} (h : 0 ≤ n) {c : UInt8} (hc : c.toNat < 48 ∨ 57 < c.toNat) : c ∉ (textOf n).data.toList := by
  rw [textOf_list_pos n h]
  intro hm
  have := dec_dig _ c hm
  unfold IsDig at this
  omega
theorem keepCell {w w' : World} {b o : Nat} {v : Value} (h : w.cell? ⟨b, o, none⟩ = some v) (hb : Below w.heap.size w w') : w'.cell? ⟨b, o, none⟩ = some v := (hb.cell (p := ⟨b, o, none⟩) (World.lt_of_cell h)).trans h
theorem implParseV (s : ByteArray) (w : World) (hs : s.size ≤ 1048576) (ht : TabPow w) :
    Calls Tryz.prog 61 #[.string s] w fun e w' => e = .returned (.tuple #[.int .i64 (parseV s).1, .bool (parseV s).2]) ∧ Below w.heap.size w w' :=
  (implParse s w hs ht).mono fun _ _ ⟨r, b, he, hp, hb⟩ => by
    obtain ⟨rfl, rfl⟩ := hp.one (parseV_is s)
    exact ⟨he, hb⟩
theorem cut_any (s m : ByteArray) (x : Int) (w : World) (hs : s.size ≤ 1048576) (hm : w.cell? ⟨1, 0, none⟩ = some (.int .i64 x)) :
    Calls Tryz.prog 60 #[.string s, .string m] w fun e w' => e = .returned (.tuple #[.string (cutB s m).1, .string (cutB s m).2.1, .bool (cutB s m).2.2]) ∧ Below w.heap.size w w' :=
  (Tryz.strings_Cut s m x w (by omega) hm).mono fun _ _ ⟨he, n, hw⟩ => ⟨he, hw ▸ bel_drawn _ _⟩

/-- What numbersBetween gives. -/
theorem readV (s : ByteArray) (w : World) (hs : s.size ≤ 1048576) :
    Calls Tryz.prog 36 #[.string s] w fun e w' => e = .returned (.tuple #[.int .i64 (parseV s).1, .bool (parseV s).2]) ∧ ∃ m, w' = w.drewN m :=
  (read_any s w hs).mono fun _ _ ⟨r, b, he, hp, hb⟩ => by
    obtain ⟨rfl, rfl⟩ := hp.one (parseV_is s)
    exact ⟨he, hb⟩
set_option maxHeartbeats 800000 in
theorem splitR_small (s : ByteArray) (cv : Int) : ∀ (d f k : Nat), s.size - k = d → k ≤ s.size → ∀ x ∈ splitR s cv f k, x.size ≤ s.size := by
  intro d
  induction d with
  | zero =>
    intro f k hd hk x hx
    obtain rfl : k = s.size := by omega
    rw [splitR_end] at hx
    obtain rfl := List.mem_singleton.1 hx
    rw [ByteArray.size_extract]; omega
  | succ d ih =>
    intro f k hd hk x hx
    by_cases hc : (s[k].toNat : Int) = cv
    · rw [splitR_hit (by omega) hc] at hx
      rcases List.mem_cons.1 hx with rfl | hx
      · rw [ByteArray.size_extract]; omega
      · exact ih (k + 1) (k + 1) (by omega) (by omega) x hx
    · rw [splitR_miss (by omega) hc] at hx
      exact ih f (k + 1) (by omega) (by omega) x hx

end Go.Proofs.YtdpeidbifcbkkaaGreatDoor
namespace Go.Proofs.YtdpeidbifcbkkaaGreatDoor
open Go.RowKit

def mSp : ByteArray := ⟨#[32]⟩
def mCl : ByteArray := ⟨#[32, 99]⟩
def mSi : ByteArray := ⟨#[32, 115, 105, 110, 99, 101, 32]⟩
def mOw : ByteArray := ⟨#[32, 111, 119, 101, 115, 32]⟩
/-- What the program guesses. -/
def candI (s : ByteArray) : VReader :=
  ⟨(parseV (cutB s mSp).1).1, (cutB (cutB s mSp).2.1 mCl).1, (parseV (cutB (cutB (cutB (cutB s mSp).2.1 mCl).2.1 mSi).2.1 mOw).1).1, (parseV (cutB (cutB (cutB s mSp).2.1 mCl).2.1 mSi).1).1, (parseV (cutB (cutB (cutB (cutB s mSp).2.1 mCl).2.1 mSi).2.1 mOw).2.1).1⟩
def owesL (r : VReader) : List UInt8 := if 0 < r.Fines then [32, 111, 119, 101, 115, 32] ++ (textOf r.Fines).data.toList else []
theorem rdText_list (r : VReader) : (rdText r).data.toList = (textOf r.Id).data.toList ++ ([32] ++ (r.Name.data.toList ++ ([32, 99] ++ ((textOf r.Class).data.toList ++ ([32, 115, 105, 110, 99, 101, 32] ++ ((textOf r.Joined).data.toList ++ owesL r)))))) := by
  unfold rdText rdBase owesL
  split <;> simp
theorem word_no {s : ByteArray} (h : wordB s = true) {c : UInt8} (hc : c.toNat < 97 ∨ 122 < c.toNat) : c ∉ s.data.toList := by
  unfold wordB at h
  simp only [Bool.and_eq_true, List.all_eq_true] at h
  intro hm
  have := h.1 c hm
  simp [lowB] at this
  omega
theorem cutB_at {s t m r : ByteArray} (c : UInt8) (p : Nat) (hm : m.data.toList[p]? = some c) (hp : ∀ j, j < p → m.data.toList[j]? ≠ some c) (ht : c ∉ t.data.toList) (hs : s.data.toList = t.data.toList ++ (m.data.toList ++ r.data.toList)) : cutB s m = (t, r, true) := by
  unfold cutB
  rw [hs, cut_at _ _ _ c p hm hp ht]
theorem cutB_none {s m : ByteArray} (c : UInt8) (p : Nat) (hm : m.data.toList[p]? = some c) (ht : c ∉ s.data.toList) : cutB s m = (s, ByteArray.empty, false) := by
  have hi : Lib.index s.data.toList m.data.toList = -1 := Lib.index_none fun j _ => by
    rw [Bool.eq_false_iff]
    intro h
    obtain ⟨r, hr⟩ := occ_of h
    apply ht
    have : c ∈ s.data.toList.drop j := by
      rw [hr]; exact List.mem_append_left _ (List.mem_of_getElem? hm)
    exact List.mem_of_mem_drop this
  unfold cutB Lib.cut
  rw [if_neg (by omega)]
  rfl
def owesB (r : VReader) : ByteArray := strOf (owesL r)
theorem candI_of {s : ByteArray} {r : VReader} (hok : r.ok = true) (h : rdText r = s) : candI s = r := by
  obtain ⟨⟨a0, a1⟩, hw, ⟨b0, b1⟩, ⟨c0, c1⟩, ⟨d0, d1⟩⟩ := rdOk_iff.1 hok
  have hl : s.data.toList = _ := (congrArg (·.data.toList) h).symm.trans (rdText_list r)
  have e1 : cutB s mSp = (textOf r.Id, strOf (r.Name.data.toList ++ ([32, 99] ++ ((textOf r.Class).data.toList ++ ([32, 115, 105, 110, 99, 101, 32] ++ ((textOf r.Joined).data.toList ++ owesL r))))), true) :=
    cutB_at 32 0 rfl (by omega) (text_digs (by omega) (by decide)) (by rw [hl, strOf_list]; rfl)
  have e2 : cutB (strOf (r.Name.data.toList ++ ([32, 99] ++ ((textOf r.Class).data.toList ++ ([32, 115, 105, 110, 99, 101, 32] ++ ((textOf r.Joined).data.toList ++ owesL r)))))) mCl = (r.Name, strOf ((textOf r.Class).data.toList ++ ([32, 115, 105, 110, 99, 101, 32] ++ ((textOf r.Joined).data.toList ++ owesL r))), true) :=
    cutB_at 32 0 rfl (by omega) (word_no hw (by decide)) (by rw [strOf_list, strOf_list]; rfl)
  have e3 : cutB (strOf ((textOf r.Class).data.toList ++ ([32, 115, 105, 110, 99, 101, 32] ++ ((textOf r.Joined).data.toList ++ owesL r)))) mSi = (textOf r.Class, strOf ((textOf r.Joined).data.toList ++ owesL r), true) :=
    cutB_at 32 0 rfl (by omega) (text_digs (by omega) (by decide)) (by rw [strOf_list, strOf_list]; rfl)
  have e4 : cutB (strOf ((textOf r.Joined).data.toList ++ owesL r)) mOw = (textOf r.Joined, if 0 < r.Fines then textOf r.Fines else ByteArray.empty, decide (0 < r.Fines)) := by
    by_cases hf : 0 < r.Fines
    · rw [if_pos hf, decide_eq_true hf]
      exact cutB_at 32 0 rfl (by omega) (text_digs b0 (by decide)) (by rw [strOf_list]; unfold owesL; rw [if_pos hf]; rfl)
    · rw [if_neg hf, decide_eq_false hf]
      have : strOf ((textOf r.Joined).data.toList ++ owesL r) = textOf r.Joined := bytes_ext (by rw [strOf_list]; unfold owesL; rw [if_neg hf, List.append_nil])
      rw [this]
      exact cutB_none 32 0 rfl (text_digs b0 (by decide))
  have p1 := parseV_text (n := r.Id) (by omega) (by omega)
  have p2 := parseV_text (n := r.Class) (by omega) (by omega)
  have p3 := parseV_text (n := r.Joined) (by omega) (by omega)
  have p4 : (parseV (if 0 < r.Fines then textOf r.Fines else ByteArray.empty)).1 = r.Fines := by
    by_cases hf : 0 < r.Fines
    · rw [if_pos hf, parseV_text (by omega) (by omega)]
    · rw [if_neg hf, show r.Fines = 0 by omega]
      rcases parseV_is ByteArray.empty with ⟨_, h0, h1, h2⟩ | ⟨h0, _, _⟩
      · exfalso
        have := congrArg ByteArray.size h2
        rw [size_list, size_list] at this
        by_cases hn : 0 ≤ (parseV ByteArray.empty).1
        · rw [textOf_list_pos _ hn] at this
          have hd := (dec_len 5 (parseV ByteArray.empty).1.toNat (by omega)).1
          simp at this; omega
        · rw [textOf_list_neg _ (by omega)] at this; simp at this
      · first | exact h0 | omega
  unfold candI
  rw [e1]; simp only
  rw [e2]; simp only
  rw [e3]; simp only
  rw [e4]; simp only
  rw [p1, p2, p3, p4]
/-- The reader whose text it is. -/
def rdRead (s : ByteArray) : Option VReader := if (candI s).ok = true ∧ (rdText (candI s)).data.toList = s.data.toList then some (candI s) else none
theorem rdRead_of {s : ByteArray} {r : VReader} (hok : r.ok = true) (h : rdText r = s) : rdRead s = some r := by
  have e := candI_of hok h
  unfold rdRead
  rw [e, if_pos ⟨hok, by rw [h]⟩]
theorem rdRead_sound {s : ByteArray} {r : VReader} (h : rdRead s = some r) : r.ok = true ∧ rdText r = s := by
  unfold rdRead at h
  split at h
  · rename_i hc
    cases h
    exact ⟨hc.1, bytes_ext hc.2⟩
  · cases h
theorem rdRead_no {s : ByteArray} (h : rdRead s = none) (r : VReader) (hok : r.ok = true) : rdText r ≠ s := fun e => by rw [rdRead_of hok e] at h; cases h
end Go.Proofs.YtdpeidbifcbkkaaGreatDoor
namespace Go.Proofs.YtdpeidbifcbkkaaGreatDoor
open Go.RowKit
theorem resultsReader1 {fn : Func} {tm : Array Value} {a b : Nat} {w : World} {s : VReader} (hf : fn.results = #[.cell a 25]) (ha : tm.getD a undef = .pointer (some ⟨b, 0, none⟩)) (h : HBReader w b s) :
    (results fn tm).run Tryz.prog w = .ok (.agg #[.int .i64 s.Id, .string s.Name, .int .i64 s.Joined, .int .i64 s.Class, .int .i64 s.Fines]) w := by
  obtain ⟨h0, h1, h2, h3, h4⟩ := h.cells
  simp only [Array.getD_eq_getD_getElem?] at ha
  simp [results, hf, ha, go_sem, h0, h1, h2, h3, h4]
theorem resultsReader2 {fn : Func} {tm : Array Value} {a b c : Nat} {w : World} {s : VReader} {v : Value} (hf : fn.results = #[.cell a 25, .tmp c]) (ha : tm.getD a undef = .pointer (some ⟨b, 0, none⟩)) (hc : tm.getD c undef = v) (h : HBReader w b s) :
    (results fn tm).run Tryz.prog w = .ok (.tuple #[.agg #[.int .i64 s.Id, .string s.Name, .int .i64 s.Joined, .int .i64 s.Class, .int .i64 s.Fines], v]) w := by
  obtain ⟨h0, h1, h2, h3, h4⟩ := h.cells
  simp only [Array.getD_eq_getD_getElem?] at ha hc
  simp [results, hf, ha, hc, go_sem, h0, h1, h2, h3, h4]
end Go.Proofs.YtdpeidbifcbkkaaGreatDoor
namespace Go.Proofs.YtdpeidbifcbkkaaGreatDoor
open Go.RowKit

def rd0 : VReader := ⟨0, ByteArray.empty, 0, 0, 0⟩
theorem HBReader.keep {w w' : World} {b : Nat} {s : VReader} (h : HBReader w b s) (hb : Below w.heap.size w w') : HBReader w' b s := h.below hb
set_option maxHeartbeats 6400000 in
set_option maxRecDepth 100000 in
theorem guessReader_any (s : ByteArray) (x : Int) (w : World) (hs : s.size ≤ 1048576) (ht : TabPow w) (hx : w.cell? ⟨1, 0, none⟩ = some (.int .i64 x)) :
    Calls Tryz.prog 31 #[.string s] w fun e w' => e = .returned (.agg #[.int .i64 (candI s).Id, .string (candI s).Name, .int .i64 (candI s).Joined, .int .i64 (candI s).Class, .int .i64 (candI s).Fines]) ∧ Below w.heap.size w w' := by
  obtain ⟨p, hp⟩ : ∃ p, cutB s mSp = p := ⟨_, rfl⟩
  obtain ⟨q, hq⟩ : ∃ q, cutB p.2.1 mCl = q := ⟨_, rfl⟩
  obtain ⟨r, hr⟩ : ∃ r, cutB q.2.1 mSi = r := ⟨_, rfl⟩
  obtain ⟨o, ho⟩ : ∃ o, cutB r.2.1 mOw = o := ⟨_, rfl⟩
  have z1 := cut_size s mSp
  have z2 := cut_size p.2.1 mCl
  have z3 := cut_size q.2.1 mSi
  have z4 := cut_size r.2.1 mOw
  rw [hp] at z1; rw [hq] at z2; rw [hr] at z3; rw [ho] at z4
  obtain ⟨n1, hn1⟩ : ∃ n, parseV p.1 = n := ⟨_, rfl⟩
  obtain ⟨n2, hn2⟩ : ∃ n, parseV r.1 = n := ⟨_, rfl⟩
  obtain ⟨n3, hn3⟩ : ∃ n, parseV o.1 = n := ⟨_, rfl⟩
  obtain ⟨n4, hn4⟩ : ∃ n, parseV o.2.1 = n := ⟨_, rfl⟩
  have E := Lib.hid (show candI s = ⟨n1.1, q.1, n3.1, n2.1, n4.1⟩ from by unfold candI; rw [hp, hq, hr, ho, hn1, hn2, hn3, hn4])
  have B0 := Lib.hid (bel_al1 w (.cells #[.int .i64 0, .string ByteArray.empty, .int .i64 0, .int .i64 0, .int .i64 0] 25))
  have Z0 := Lib.hid (HBReader.new w rd0 _ rfl)
  have T := Lib.hid ht
  have X := Lib.hid hx
  have Hp := Lib.hid hp
  have Hq := Lib.hid hq
  have Hr := Lib.hid hr
  have Ho := Lib.hid ho
  have H1 := Lib.hid hn1
  have H2 := Lib.hid hn2
  have H3 := Lib.hid hn3
  have H4 := Lib.hid hn4
  clear hp hq hr ho hn1 hn2 hn3 hn4 ht hx
  go_enter Tryz.func31, Tryz.ntmps31
  go_wp2_with fail
  refine (cut_any s mSp x _ hs (keepCell X.out B0.out)).mono ?_
  rintro e w1 ⟨rfl, hb⟩
  rw [Hp.out]
  have B1 := Lib.hid (Below.then' B0.out hb)
  have Z1 := Lib.hid (Z0.out.below hb)
  clear hb
  go_wp2_with fail
  refine (cut_any p.2.1 mCl x _ (by omega) (keepCell X.out B1.out)).mono ?_
  rintro e w2 ⟨rfl, hb⟩
  rw [Hq.out]
  have B2 := Lib.hid (Below.then' B1.out hb)
  have Z2 := Lib.hid (Z1.out.below hb)
  clear hb
  go_wp2_with fail
  refine (cut_any q.2.1 mSi x _ (by omega) (keepCell X.out B2.out)).mono ?_
  rintro e w3 ⟨rfl, hb⟩
  rw [Hr.out]
  have B3 := Lib.hid (Below.then' B2.out hb)
  have Z3 := Lib.hid (Z2.out.below hb)
  clear hb
  go_wp2_with fail
  refine (cut_any r.2.1 mOw x _ (by omega) (keepCell X.out B3.out)).mono ?_
  rintro e w4 ⟨rfl, hb⟩
  rw [Ho.out]
  have B4 := Lib.hid (Below.then' B3.out hb)
  have Z4 := Lib.hid (Z3.out.below hb)
  clear hb
  have hlt : w.heap.size < w4.heap.size := Z4.out.lt
  have hne : w.heap.size ≠ w4.heap.size := by omega
  have hle : w.heap.size ≤ w4.heap.size := by omega
  have B5 := Lib.hid (Below.then' B4.out (bel_al1 w4 (.cells #[.int .i64 0, .string q.1, .int .i64 0, .int .i64 0, .int .i64 0] 25)))
  have Z5 := Lib.hid (Z4.out.alloc (.cells #[.int .i64 0, .string q.1, .int .i64 0, .int .i64 0, .int .i64 0] 25))
  have R5 := Lib.hid (HBReader.new w4 ⟨0, q.1, 0, 0, 0⟩ _ rfl)
  go_wp2_with fail
  refine (implParseV p.1 _ (by omega) (tabPow_below T.out B5.out)).mono ?_
  rintro e w6 ⟨rfl, hb⟩
  rw [H1.out]
  have B6 := Lib.hid (Below.then' B5.out hb)
  have Z6 := Lib.hid (Z5.out.below hb)
  have R6 := Lib.hid (R5.out.below hb)
  clear hb
  obtain ⟨c0, c1, c2, c3, c4⟩ := R6.out.cells
  have f0 := R6.out.free 0
  have B7 := Lib.hid (B6.out.setCell (p := ⟨w4.heap.size, 0, none⟩) hle (.int .i64 n1.1))
  have Z7 := Lib.hid (Z6.out.other (j := 0) hne (.int .i64 n1.1))
  have R7 := Lib.hid (R6.out.set0 n1.1)
  go_wp2_with fail
  refine (implParseV r.1 _ (by omega) (tabPow_below T.out B7.out)).mono ?_
  rintro e w8 ⟨rfl, hb⟩
  rw [H2.out]
  have B8 := Lib.hid (Below.then' B7.out hb)
  have Z8 := Lib.hid (Z7.out.below hb)
  have R8 := Lib.hid (R7.out.below hb)
  clear hb c0 c1 c2 c3 c4 f0
  obtain ⟨c0, c1, c2, c3, c4⟩ := R8.out.cells
  have f3 := R8.out.free 3
  have B9 := Lib.hid (B8.out.setCell (p := ⟨w4.heap.size, 3, none⟩) hle (.int .i64 n2.1))
  have Z9 := Lib.hid (Z8.out.other (j := 3) hne (.int .i64 n2.1))
  have R9 := Lib.hid (R8.out.set3 n2.1)
  go_wp2_with fail
  refine (implParseV o.1 _ (by omega) (tabPow_below T.out B9.out)).mono ?_
  rintro e w10 ⟨rfl, hb⟩
  rw [H3.out]
  have B10 := Lib.hid (Below.then' B9.out hb)
  have Z10 := Lib.hid (Z9.out.below hb)
  have R10 := Lib.hid (R9.out.below hb)
  clear hb c0 c1 c2 c3 c4 f3
  obtain ⟨c0, c1, c2, c3, c4⟩ := R10.out.cells
  have f2 := R10.out.free 2
  have B11 := Lib.hid (B10.out.setCell (p := ⟨w4.heap.size, 2, none⟩) hle (.int .i64 n3.1))
  have Z11 := Lib.hid (Z10.out.other (j := 2) hne (.int .i64 n3.1))
  have R11 := Lib.hid (R10.out.set2 n3.1)
  go_wp2_with fail
  refine (implParseV o.2.1 _ (by omega) (tabPow_below T.out B11.out)).mono ?_
  rintro e w12 ⟨rfl, hb⟩
  rw [H4.out]
  have B12 := Lib.hid (Below.then' B11.out hb)
  have Z12 := Lib.hid (Z11.out.below hb)
  have R12 := Lib.hid (R11.out.below hb)
  clear hb c0 c1 c2 c3 c4 f2
  obtain ⟨c0, c1, c2, c3, c4⟩ := R12.out.cells
  have f4 := R12.out.free 4
  have B13 := Lib.hid (B12.out.setCell (p := ⟨w4.heap.size, 4, none⟩) hle (.int .i64 n4.1))
  obtain ⟨d0, d1, d2, d3, d4⟩ := Z12.out.cells
  have g0 := Z12.out.free 0
  have g1 := Z12.out.free 1
  have g2 := Z12.out.free 2
  have g3 := Z12.out.free 3
  have g4 := Z12.out.free 4
  have hne2 : ¬ w4.heap.size = w.heap.size := by omega
  have RES := Lib.hid ((Z12.out.other (j := 4) hne (.int .i64 n4.1)).setAll ⟨n1.1, q.1, n3.1, n2.1, n4.1⟩)
  go_wp2
  refine bodyPost_ret (resultsReader1 rfl rfl RES.out) rfl ⟨?_, ?_⟩
  · rw [E.out]
  · exact ((((B13.out.setCell (by simp) _).setCell (by simp) _).setCell (by simp) _).setCell (by simp) _).setCell (by simp) _
end Go.Proofs.YtdpeidbifcbkkaaGreatDoor
