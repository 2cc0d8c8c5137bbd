/- Package variables that a statement reads: they read as before in a world in which nothing that was there has turned. -/
import Derived.Test.YtffbljbgmgifnaaGreatDoorM1
import Derived.ChangeVars
import Derived.ChangeShapes
import Derived.Carry
namespace Go.Proofs.YtffbljbgmgifnaaGreatDoor
open Go.RowKit Go.ChangeShapes

/-- Each variable of the list is of a type that can be read. -/
def varsOkB (P : Program) (ns : List String) : Bool := ns.all fun n => match P.globalNamed n with
  | some g => (match (P.globals[g]?).map (·.type) with | some t => P.readableRec t && decide (t < P.types.size) | none => true)
  | none => true
theorem var?_below {P : Program} {w w' : World} {n : String} {cs : Array Value} (h : w.var? P n = some cs) (hb : Below w.heap.size w w') : w'.var? P n = some cs := by
  unfold World.var? at *
  rw [Option.bind_eq_some_iff] at *
  obtain ⟨g, hg, h2⟩ := h
  refine ⟨g, hg, ?_⟩
  by_cases hl : g < w.heap.size
  · rw [hb.block g hl]; exact h2
  · rw [Array.getElem?_eq_none (by omega)] at h2; cases h2
theorem trodVars_below {H : Type} {enc : TypeId × Value → H} {P : Program} (hl : laidOutB P = true) {W W' : World} (hb : Below W.heap.size W W') :
    ∀ {ns : List String} {gs : List (DataW H)} {q : List MemPlace}, varsOkB P ns = true → DataW.TrodVars enc P W (fun _ => true) ns gs q → ∃ q', DataW.TrodVars enc P W' (fun b => decide (b < W.heap.size)) ns gs q'
  | [], [], q, _, h => ⟨[], rfl⟩
  | n :: ns, d :: ds, _, hok, ⟨g, t, cs, fuel, p, q, h1, h2, h3, h4, hs, e⟩ => by
    unfold varsOkB at hok
    simp only [List.all_cons, Bool.and_eq_true] at hok
    obtain ⟨hk, hks⟩ := hok
    rw [h1] at hk
    simp only [h2, Bool.and_eq_true, decide_eq_true_eq] at hk
    obtain ⟨q', hq'⟩ := trodVars_below hl hb (ns := ns) hks hs
    have hlt : ∀ x ∈ p, x.block < W.heap.size := DataW.trod_lt fuel _ _ _ h4
    refine ⟨MemPlace.row ⟨g, 0, none⟩ cs.size ++ p ++ q', g, t, cs, fuel, p, q', h1, h2, var?_below h3 hb, ?_, hq', rfl⟩
    exact DataW.trod_stays (kids_book hl hk.1) (book_sized hk.1) (fun h => by cases h) ⟨hk.2, book_self t⟩ h4 (fun x hx => hb.same (hlt x hx)) (fun x hx => by simpa using hlt x hx)
end Go.Proofs.YtffbljbgmgifnaaGreatDoor
