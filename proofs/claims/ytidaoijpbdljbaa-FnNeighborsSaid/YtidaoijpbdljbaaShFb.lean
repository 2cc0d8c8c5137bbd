/- The program's findById, idsOf, and the library's ContainsFunc, at Sheet. (made by genfb.py) -/
import Derived.Test.YtidaoijpbdljbaaShId
import Derived.Test.YtidaoijpbdljbaaFb0
namespace Go.Proofs.Ytidaoijpbdljbaa
open Go.RowKit

theorem idx_first (f : Sh → Bool) (xs : List Sh) : idxOf f xs = firstOf f xs := by
  induction xs with
  | nil => rfl
  | cons x l ih => simp only [idxOf, firstOf, ih]
set_option maxHeartbeats 1600000 in
theorem findBySh_any (KA K : FuncId) (q : Bool) (idf : Sh → Int) (a : Option Addr) (len cap : Nat) (xs : List Sh) (id : Int) (w : World) (h : IsSheetS w a len cap xs)
    (hca : ∀ args W, (callFunc KA args).run Try.prog W = .ok (.enter KA args) W) (hcall : ∀ args W, (callFunc K args).run Try.prog W = .ok (.enter K args) W)
    (hA : ∀ W : World, IsSheetS W a len cap xs → Calls Try.prog KA #[.slice a len cap] W fun e w' => e = .returned (.bool q) ∧ Below W.heap.size W w')
    (hf : ∀ (W : World) (s : Sh), Calls Try.prog K #[.agg #[.int .i64 s.id, .int .i64 s.row, .int .i64 s.col, .int .i64 s.scale, .int .i64 s.year]] W fun e w' => e = .returned (.int .i64 (idf s)) ∧ Below W.heap.size W w') :
    Calls Try.prog 89 #[.slice a len cap, .int .i64 id, .func (.func KA) #[] #[], .func (.func K) #[] #[]] w (FoundBy q (fun s => idf s == id) xs w) := by
  have S := Lib.hid h
  have HA := Lib.hid hA
  have HF := Lib.hid hf
  have HC := Lib.hid hcall
  clear h hA hf hcall
  go_enter Try.func89, Try.ntmps89
  go_wp2_with fail
  refine (HA.out _ S.out).mono ?_
  rintro e w1 ⟨rfl, hb⟩
  have B1 := Lib.hid hb
  have S1 := Lib.hid (S.out.below hb)
  clear hb hca
  cases q
  · go_wp2
    go_ret2
    exact ⟨_, rfl, fun h => (by cases h), B1.out⟩
  · obtain ⟨z, hz⟩ : ∃ z, firstOf (fun s => idf s == id) xs = z := ⟨_, rfl⟩
    have Z := Lib.hid hz
    clear hz
    go_wp2_with fail
    refine (indexBySh_any K idf _ _ _ xs id _ S1.out HC.out HF.out).mono ?_
    rintro e w2 ⟨rfl, hb⟩
    rw [idx_first, Z.out]
    have B2 := Lib.hid (Below.then' B1.out hb)
    clear hb
    go_wp2
    go_ret2
    exact ⟨_, by rw [Z.out]; rfl, fun _ => Z.out.symm, B2.out⟩
end Go.Proofs.Ytidaoijpbdljbaa
