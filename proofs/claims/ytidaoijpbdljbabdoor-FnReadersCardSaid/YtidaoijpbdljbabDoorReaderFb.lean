/- The program's findById, idsOf, and the library's ContainsFunc, at Reader. (made by genfb.py) -/
import Derived.Test.YtidaoijpbdljbabDoorReaderId
import Derived.Test.YtidaoijpbdljbabDoorFb0
namespace Go.Proofs.YtidaoijpbdljbabDoor
open Go.RowKit

set_option maxHeartbeats 1600000 in
theorem findByReader_any (KA K : FuncId) (q : Bool) (idf : VReader → Int) (a : Option Addr) (len cap : Nat) (xs : List VReader) (id : Int) (w : World) (h : IsReaderS w a len cap xs)
    (hca : ∀ args W, (callFunc KA args).run Tryd.prog W = .ok (.enter KA args) W) (hcall : ∀ args W, (callFunc K args).run Tryd.prog W = .ok (.enter K args) W)
    (hA : ∀ W : World, IsReaderS W a len cap xs → Calls Tryd.prog KA #[.slice a len cap] W fun e w' => e = .returned (.bool q) ∧ Below W.heap.size W w')
    (hf : ∀ (W : World) (s : VReader), Calls Tryd.prog K #[.agg #[.int .i64 s.Id, .string s.Name, .int .i64 s.Joined, .int .i64 s.Class, .int .i64 s.Fines]] W fun e w' => e = .returned (.int .i64 (idf s)) ∧ Below W.heap.size W w') :
    Calls Tryd.prog 62 #[.slice a len cap, .int .i64 id, .func (.func KA) #[] #[], .func (.func K) #[] #[]] w (FoundBy q (fun s => idf s == id) xs w) := by
  have S := Lib.hid h
  have HA := Lib.hid hA
  have HF := Lib.hid hf
  have HC := Lib.hid hcall
  clear h hA hf hcall
  go_enter Tryd.func62, Tryd.ntmps62
  go_wp2_with fail
  refine (HA.out _ S.out).mono ?_
  rintro e w1 ⟨rfl, hb⟩
  have B1 := Lib.hid hb
  have S1 := Lib.hid (S.out.below hb)
  clear hb hca
  cases q
  · go_wp2
    go_ret2
    exact ⟨_, rfl, fun h => (by cases h), B1.out⟩
  · obtain ⟨z, hz⟩ : ∃ z, firstOf (fun s => idf s == id) xs = z := ⟨_, rfl⟩
    have Z := Lib.hid hz
    clear hz
    go_wp2_with fail
    refine (indexByReader_any K idf _ _ _ xs id _ S1.out HC.out HF.out).mono ?_
    rintro e w2 ⟨rfl, hb⟩
    rw [Z.out]
    have B2 := Lib.hid (Below.then' B1.out hb)
    clear hb
    go_wp2
    go_ret2
    exact ⟨_, by rw [Z.out]; rfl, fun _ => Z.out.symm, B2.out⟩
end Go.Proofs.YtidaoijpbdljbabDoor
