/- Behind a region that draws its order and holds calls that make memory: the world under a letter. -/
import Derived.Test.YtmjdldeoplopkaaBase
import Derived.Deep.RegionHeld3
namespace Go.Proofs.Ytmjdldeoplopkaa
theorem held_exit {Q : Exit → Act → World → Prop} {x : Exit} {a : Act} {w0 : World} (F : World → Prop) (h0 : F w0) (h : ∀ W, F W → Q x a W) : Q x a w0 := h w0 h0
end Go.Proofs.Ytmjdldeoplopkaa
