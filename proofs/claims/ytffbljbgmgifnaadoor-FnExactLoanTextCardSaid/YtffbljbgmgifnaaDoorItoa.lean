/- Numbers as texts, in the program and in the model. -/
import Derived.Test.YtffbljbgmgifnaaDoorReg
import Derived.Test.YtffbljbgmgifnaaDoorFmt
import Derived.Test.YtffbljbgmgifnaaDoorLaid
namespace Go.Proofs.YtffbljbgmgifnaaDoor
open Go.RowKit

theorem drawn_below {P : Program} {f : FuncId} {args : Array Value} {v : Value} {W : World} (h : Calls P f args W fun e w' => e = .returned v ∧ ∃ m, w' = W.drewN m) : Calls P f args W fun e w' => e = .returned v ∧ Below W.heap.size W w' :=
  h.mono fun _ _ ⟨he, _, hw⟩ => ⟨he, hw ▸ bel_drawn _ _⟩
theorem itoa_any (n : Int) (h0 : -999999 ≤ n) (h1 : n ≤ 999999) (w : World) (ht : TabPow w) :
    Calls Tryd.prog 10 #[.int .i64 n] w fun e w' => e = .returned (.string (textOf n)) ∧ Below w.heap.size w w' :=
  (Tryd.strconv_Itoa n (by omega) (by omega) w ht).mono fun _ _ ⟨he, _, _, hw⟩ => ⟨he, hw ▸ Lib.below_grow _ _ (Nat.le_refl _) _ _⟩
theorem num_any (n : Int) (h0 : -999999 ≤ n) (h1 : n ≤ 999999) (w : World) : Calls Tryd.prog 8 #[.int .i64 n] w fun e w' => e = .returned (.string (textOf n)) ∧ Below w.heap.size w w' := drawn_below (l1Num_any _ w (by omega) (by omega))
theorem text_bd {n : Int} (h0 : 0 ≤ n) (h1 : n ≤ 999999) : (textOf n).size ≤ 1000000000002 := textOf_size n (by omega) (by omega)
end Go.Proofs.YtffbljbgmgifnaaDoor
