/- Stands a byte in a text? The model's l1Stands; and the library's index of a byte as the same question. -/
import Derived.Test.YtmbmcnmippplaaaDoorBase
import Derived.Lib.IndexAny
namespace Go.Proofs.YtmbmcnmippplaaaDoor
open Go.RowKit

/-- Stands the byte cv among the bytes l? -/
def stands (l : List UInt8) (cv : Int) : Bool := l.any fun x => (x.toNat : Int) == cv
theorem stands_snoc (l : List UInt8) (c : UInt8) (cv : Int) : stands (l ++ [c]) cv = (stands l cv || (c.toNat : Int) == cv) := by simp [stands]
theorem stands_of_take {l : List UInt8} {cv : Int} (k : Nat) (h : stands (l.take k) cv = true) : stands l cv = true := by
  unfold stands at *; rw [List.any_eq_true] at *
  obtain ⟨x, hx, hc⟩ := h
  exact ⟨x, List.mem_of_mem_take hx, hc⟩
theorem stands_index (l : List UInt8) (c : UInt8) : decide (0 ≤ Lib.indexByte l c) = stands l (c.toNat : Int) := by
  rw [← Lib.contains_iff_indexByte]
  unfold stands
  rw [Bool.eq_iff_iff, List.any_eq_true, List.contains_iff_mem]
  constructor
  · intro h; exact ⟨c, h, by simp⟩
  · rintro ⟨x, hx, he⟩
    have : x = c := UInt8.toNat_inj.1 (by simp at he; omega)
    exact this ▸ hx

set_option maxHeartbeats 400000 in
theorem l1Stands_any (s : ByteArray) (cv : Int) (w : World) (hs : s.size ≤ 9223372036854775807) :
    Calls Tryd.prog 33 #[.string s, .int .u8 cv] w fun e w' => e = .returned (.bool (stands s.data.toList cv)) ∧ w = w' := by
  go_enter Tryd.func33, Tryd.ntmps33
  go_wp2
  go_loop [5] (fun i => ∃ k : Nat, k ≤ s.size ∧ i = .int .i64 k ∧ stands (s.data.toList.take k) cv = false) (fun i => s.size - (intOf i).toNat)
  case atStart => exact ⟨0, Nat.zero_le _, rfl, rfl⟩
  case round =>
    obtain ⟨k, hk, rfl, hst⟩ := hrel
    have S := Lib.hid hst
    clear hst
    by_cases hlt : k < s.size
    · have N := Lib.hid (show stands (s.data.toList.take (k + 1)) cv = ((s[k].toNat : Int) == cv) from by rw [take_snoc s k hlt, stands_snoc, S.out]; rfl)
      by_cases hc : (s[k].toNat : Int) = cv
      · have hc' : ((s[k].toNat : Int) == cv) = true := by simpa using hc
        have C := Lib.hid hc'
        clear hc
        go_wp2
        go_ret
        exact ⟨ret_bool (stands_of_take (k + 1) (N.out.trans C.out)).symm, rfl⟩
      · have hc' : ((s[k].toNat : Int) == cv) = false := by simpa using hc
        have C := Lib.hid hc'
        clear hc
        go_wp2
        go_round
        case rel => exact ⟨k + 1, by omega, by go_num, N.out.trans C.out⟩
        case measure => simp [intOf]; omega
    · obtain rfl : k = s.size := by omega
      go_wp2
      go_ret
      exact ⟨ret_bool (by rw [← S.out, take_all]), rfl⟩

end Go.Proofs.YtmbmcnmippplaaaDoor
