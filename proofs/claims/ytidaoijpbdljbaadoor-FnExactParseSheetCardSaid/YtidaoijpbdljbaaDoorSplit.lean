/- The model's l1Split: the parts of a text between bytes, in order, in a row of the call's own. -/
import Derived.Test.YtidaoijpbdljbaaDoorBase
import Derived.WalkKit
import Derived.ProofKit
import Derived.Lib.Hide
import Derived.Below
import Derived.Handy
import Derived.Laws.AppendOwn
import Derived.OwnWalk
import Derived.Maps.AppendAt
namespace Go.Proofs.YtidaoijpbdljbaaDoor
open Go.RowKit

/-- The parts of s between the bytes cv, from place f on, those up to place k having been seen. -/
def splitR (s : ByteArray) (cv : Int) (f k : Nat) : List ByteArray :=
  if h : k < s.size then (if (s[k].toNat : Int) = cv then s.extract f k :: splitR s cv (k + 1) (k + 1) else splitR s cv f (k + 1)) else [s.extract f s.size]
termination_by s.size - k
theorem splitR_hit {s : ByteArray} {cv : Int} {f k : Nat} (h : k < s.size) (hc : (s[k].toNat : Int) = cv) : splitR s cv f k = s.extract f k :: splitR s cv (k + 1) (k + 1) := by
  rw [splitR, dif_pos h, if_pos hc]
theorem splitR_miss {s : ByteArray} {cv : Int} {f k : Nat} (h : k < s.size) (hc : (s[k].toNat : Int) ≠ cv) : splitR s cv f k = splitR s cv f (k + 1) := by
  rw [splitR, dif_pos h, if_neg hc]
theorem splitR_end {s : ByteArray} {cv : Int} {f : Nat} : splitR s cv f s.size = [s.extract f s.size] := by
  rw [splitR, dif_neg (by omega)]
theorem splitR_len (s : ByteArray) (cv : Int) : ∀ (d f k : Nat), s.size - k = d → k ≤ s.size → 1 ≤ (splitR s cv f k).length ∧ (splitR s cv f k).length ≤ s.size - k + 1 := by
  intro d
  induction d with
  | zero => intro f k hd hk; obtain rfl : k = s.size := by omega
            rw [splitR_end]; simp
  | succ d ih =>
    intro f k hd hk
    by_cases hc : (s[k].toNat : Int) = cv
    · rw [splitR_hit (by omega) hc]
      have := ih (k + 1) (k + 1) (by omega) (by omega)
      simp; omega
    · rw [splitR_miss (by omega) hc]
      have := ih f (k + 1) (by omega) (by omega)
      omega


set_option maxHeartbeats 1600000 in
set_option maxRecDepth 100000 in
theorem l1Split_any (s : ByteArray) (cv : Int) (w : World) (hs : s.size ≤ 1048576) :
    Calls Tryd.prog 15 #[.string s, .int .u8 cv] w (RowPost (splitR s cv 0 0) w) := by
  obtain ⟨i0, hi, hz0, hz1, hz2⟩ := info_parts infoStr
  go_enter Tryd.func15, Tryd.ntmps15
  go_wp2
  go_loopw [5, 6, 7] (fun o f i wr => ∃ (k fr : Nat) (xs : List ByteArray), k ≤ s.size ∧ fr ≤ k ∧ i = .int .i64 k ∧ f = .int .i64 fr ∧ wr.ownsRow w.heap.size 9 1 o xs.length (xs.map Value.string) ∧ Below w.heap.size w wr ∧ xs.length ≤ k ∧ xs ++ splitR s cv fr k = splitR s cv 0 0) (fun _ _ i _ => s.size - (intOf i).toNat)
  case atStart => exact ⟨0, 0, [], Nat.zero_le _, Nat.zero_le _, rfl, rfl, World.ownsRow_made w #[] 0 (Nat.le_refl _) (Nat.zero_le _) rfl, (Below.refl _ _).alloc (Nat.le_refl _) _, Nat.zero_le _, rfl⟩
  case round =>
    obtain ⟨k, fr, xs, hk, hf, rfl, rfl, hown, hbel, hxl, hsp⟩ := hrel
    have S := Lib.hid hsp
    have B := Lib.hid hbel
    have hle := hbel.size
    clear hsp hbel
    by_cases hlt : k < s.size
    · by_cases hc : (s[k].toNat : Int) = cv
      · have hc' : ((s[k].toNat : Int) == cv) = true := by simpa using hc
        have C := Lib.hid hc
        clear hc
        go_wp2_with (at_builtin; refine wpList_append_own _ rfl _ _ 36 rfl w.heap.size 9 i0 (.string ByteArray.empty) 1 16 Tryd.underlying36 hi hz0 hz1 hz2 rfl (by decide) _ _ _ rfl (hown.alloc _) ⟨wr.heap.size, 0, none⟩ 1 1 [.string (s.extract fr k)] rfl rfl (cell_one _ _ _) (fun x hx => by simp at hx; subst hx; rfl) (by unfold maxLen; omega) (by omega) (by simp; omega) ?_; intro v' w3 hown' hgrow3 hnil3)
        go_roundw
        case rel => exact ⟨k + 1, k + 1, xs ++ [s.extract fr k], by omega, by omega, by go_num, by go_num, by simpa using hown', (B.out.alloc hle _).grown hgrow3 (by simp; omega) (fun j e => (hown.lt j e).1), by simp; omega, by rw [← S.out, splitR_hit hlt C.out]; simp⟩
        case measure => simp [intOf]; omega
      · have hc' : ((s[k].toNat : Int) == cv) = false := by simpa using hc
        have C := Lib.hid hc
        clear hc
        go_wp2
        go_roundw
        case rel => exact ⟨k + 1, fr, xs, by omega, by omega, by go_num, rfl, hown, B.out, by omega, by rw [← S.out, splitR_miss hlt C.out]⟩
        case measure => simp [intOf]; omega
    · obtain rfl : k = s.size := by omega
      go_wp2_with (at_builtin; refine wpList_append_own _ rfl _ _ 36 rfl w.heap.size 9 i0 (.string ByteArray.empty) 1 16 Tryd.underlying36 hi hz0 hz1 hz2 rfl (by decide) _ _ _ rfl (hown.alloc _) ⟨wr.heap.size, 0, none⟩ 1 1 [.string (s.extract fr s.size)] rfl rfl (cell_one _ _ _) (fun x hx => by simp at hx; subst hx; rfl) (by unfold maxLen; omega) (by omega) (by simp; omega) ?_; intro v' w3 hown' hgrow3 hnil3)
      have E := S.out
      rw [splitR_end] at E
      have hb3 : Below w.heap.size w w3 := (B.out.alloc hle _).grown hgrow3 (by simp; omega) (fun j e => (hown.lt j e).1)
      go_ret
      exact ⟨v', rfl, by rw [← E]; simpa using hown', hb3⟩
end Go.Proofs.YtidaoijpbdljbaaDoor
