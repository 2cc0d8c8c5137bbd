/- The program's findById, idsOf, and the library's ContainsFunc, at Reader. (made by genfb.py) -/
import Derived.Test.YtidaoijpbdljbabReaderId
import Derived.Test.YtidaoijpbdljbabFb0
namespace Go.Proofs.Ytidaoijpbdljbab
open Go.RowKit

set_option maxHeartbeats 1600000 in
theorem findByReader_any (KA K : FuncId) (q : Bool) (idf : VReader → Int) (a : Option Addr) (len cap : Nat) (xs : List VReader) (id : Int) (w : World) (h : IsReaderS w a len cap xs)
    (hca : ∀ args W, (callFunc KA args).run Try.prog W = .ok (.enter KA args) W) (hcall : ∀ args W, (callFunc K args).run Try.prog W = .ok (.enter K args) W)
    (hA : ∀ W : World, IsReaderS W a len cap xs → Calls Try.prog KA #[.slice a len cap] W fun e w' => e = .returned (.bool q) ∧ Below W.heap.size W w')
    (hf : ∀ (W : World) (s : VReader), Calls Try.prog K #[.agg #[.int .i64 s.Id, .string s.Name, .int .i64 s.Joined, .int .i64 s.Class, .int .i64 s.Fines]] W fun e w' => e = .returned (.int .i64 (idf s)) ∧ Below W.heap.size W w') :
    Calls Try.prog 115 #[.slice a len cap, .int .i64 id, .func (.func KA) #[] #[], .func (.func K) #[] #[]] w (FoundBy q (fun s => idf s == id) xs w) := by
  have S := Lib.hid h
  have HA := Lib.hid hA
  have HF := Lib.hid hf
  have HC := Lib.hid hcall
  clear h hA hf hcall
  go_enter Try.func115, Try.ntmps115
  go_wp2_with fail
  refine (HA.out _ S.out).mono ?_
  rintro e w1 ⟨rfl, hb⟩
  have B1 := Lib.hid hb
  have S1 := Lib.hid (S.out.below hb)
  clear hb hca
  cases q
  · go_wp2
    go_ret2
    exact ⟨_, rfl, fun h => (by cases h), B1.out⟩
  · obtain ⟨z, hz⟩ : ∃ z, firstOf (fun s => idf s == id) xs = z := ⟨_, rfl⟩
    have Z := Lib.hid hz
    clear hz
    go_wp2_with fail
    refine (indexByReader_any K idf _ _ _ xs id _ S1.out HC.out HF.out).mono ?_
    rintro e w2 ⟨rfl, hb⟩
    rw [Z.out]
    have B2 := Lib.hid (Below.then' B1.out hb)
    clear hb
    go_wp2
    go_ret2
    exact ⟨_, by rw [Z.out]; rfl, fun _ => Z.out.symm, B2.out⟩
set_option maxHeartbeats 1600000 in
theorem allOfReader_any (s : VReader) (w : World) : Calls Try.prog 124 #[.agg #[.int .i64 s.Id, .string s.Name, .int .i64 s.Joined, .int .i64 s.Class, .int .i64 s.Fines]] w fun e w' => e = .returned (.bool true) ∧ Below w.heap.size w w' := by
  go_enter Try.func124, Try.ntmps124
  go_wp2
  go_ret
  exact ⟨rfl, wh_al1 _ _⟩
set_option maxHeartbeats 1600000 in
theorem idsOfReader_any (K : FuncId) (idf : VReader → Int) (a : Option Addr) (len cap : Nat) (xs : List VReader) (w : World) (h : IsReaderS w a len cap xs) (hl : xs.length ≤ 100000)
    (hcall : ∀ args W, (callFunc K args).run Try.prog W = .ok (.enter K args) W)
    (hf : ∀ (W : World) (s : VReader), Calls Try.prog K #[.agg #[.int .i64 s.Id, .string s.Name, .int .i64 s.Joined, .int .i64 s.Class, .int .i64 s.Fines]] W fun e w' => e = .returned (.int .i64 (idf s)) ∧ Below W.heap.size W w') :
    Calls Try.prog 80 #[.slice a len cap, .func (.func K) #[] #[]] w (IdsOwn (xs.map idf) w) := by
  have S := Lib.hid h
  have HF := Lib.hid hf
  have HC := Lib.hid hcall
  clear h hf hcall
  go_enter Try.func80, Try.ntmps80
  go_wp2_with fail
  refine (idsWhereReader_any K 124 idf #[] (fun _ => true) _ _ _ xs _ S.out hl HC.out (enters_fn' Try.func124 (by kernel_rfl) (by kernel_rfl)) HF.out (fun W s _ _ _ => by
    have h1 := allOfReader_any s W
    simpa using h1)).mono ?_
  rintro e w1 ⟨v, rfl, hown, hb⟩
  rw [show xs.filter (fun _ => true) = xs from List.filter_eq_self.2 (fun _ _ => rfl)] at hown
  have O := Lib.hid hown
  have B := Lib.hid hb
  clear hown hb
  go_wp2
  go_ret
  exact ⟨v, rfl, O.out, B.out⟩
end Go.Proofs.Ytidaoijpbdljbab
