/- Readers: what the model's functions leave. -/
import Derived.Test.YtdpeidbifcbkkaaRd3
namespace Go.Proofs.Ytdpeidbifcbkkaa
open Go.RowKit

theorem specAreReaders_any (a : Option Addr) (len cap : Nat) (xs : List VReader) (w : World) (h : IsReaderS w a len cap xs) (_ : xs.length ≤ 1048576) (_ : ∀ s ∈ xs, s.sized) :
    Calls Try.prog 41 #[.slice a len cap] w (AreReaders_Post xs w) := by
  have S := Lib.hid h
  clear h
  go_enter Try.func41, Try.ntmps41
  go_wp2_with fail
  refine (l3Good_any _ _ _ xs _ S.out).mono ?_
  rintro e w1 ⟨rfl, hb⟩
  have B := Lib.hid hb
  clear hb
  go_wp2
  go_ret
  exact ⟨rfl, B.out⟩
end Go.Proofs.Ytdpeidbifcbkkaa
