/- What the row's list gives the walks of this seat: the library's table of powers of ten. -/
import Derived.Test.YtffbljbgmgifnaaDoorRows
import Derived.Test.YtffbljbgmgifnaaDoorFmt
import Derived.Lib.LaidTab
import Derived.Lib.SmallJoins
import Derived.Stop.LaidErr
namespace Go.Proofs.YtffbljbgmgifnaaDoor
open Go.RowKit
theorem gPow : Tryd.prog.globalNamed "internal/strconv.uint64pow10" = some 0 := by kernel_rfl
theorem gPowType : (Tryd.prog.globals[0]?).map (·.type) = some 45 := by kernel_rfl
theorem cellsPow : Tryd.prog.cellsOf 45 = 20 := by kernel_rfl
theorem cellsU64 : Tryd.prog.cellsOf 37 = 1 := by kernel_rfl
theorem tabPow_of {W : World} (h : laidMetH Tryd.prog [("math/bits.deBruijn32tab", Rows.laid_math_bits_deBruijn32tab), ("math/bits.deBruijn64tab", Rows.laid_math_bits_deBruijn64tab), ("internal/strconv.uint64pow10", Rows.laid_internal_strconv_uint64pow10)] W) : TabPow W :=
  Lib.tabIs_of_head (rest := []) gPow gPowType Tryd.underlying45 Tryd.underlying37 cellsU64 cellsPow (laidMet.tail (laidMet.tail h))
theorem tabPow_below {w w' : World} (h : TabPow w) (hb : Below w.heap.size w w') : TabPow w' := Go.Joins.tab_stays gPow h hb (Nat.le_refl _)
end Go.Proofs.YtffbljbgmgifnaaDoor
