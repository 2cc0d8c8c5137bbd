/- markText: the law's marks for texts, each a text of its number. -/
import Derived.Test.YtidaoijpbdljbabBase
import Derived.Laws.BytesArg
import Derived.WalkLawsBesides
namespace Go.Proofs.Ytidaoijpbdljbab
open Go.RowKit

def markGo : Nat → Nat → ByteArray → ByteArray
  | 0, _, out => out
  | f + 1, k, out => if k = 0 then out else markGo f (k / 10) (strOfNums [48 + ((k % 10 : Nat) : Int)] ++ out)
theorem markGo_zero (f : Nat) (out : ByteArray) : markGo f 0 out = out := by cases f <;> rfl
/-- The text that marks number k. -/
def markOf (k : Nat) : ByteArray := ⟨#[109]⟩ ++ markGo k k ByteArray.empty
theorem numStr_size (x : Int) : (strOfNums [x]).size = 1 := by simp [strOfNums, ByteArray.size]
theorem str_one (x : Int) (W : World) : (convert 47 9 (.slice (some ⟨W.heap.size, 0, none⟩) 1 1)).run Try.prog (W.alloc (.cells #[.int .u8 x] 5)) = .ok (.string (strOfNums [x])) (W.alloc (.cells #[.int .u8 x] 5)) :=
  run_convert_bytes_arg (P := Try.prog) _ 47 5 Try.underlying47 Try.underlying5 _ 0 1 1 [x] (by simp) (fun i hi => by
    rw [World.cell?_alloc_new]
    obtain rfl : i = 0 := by omega
    rfl) 9 Try.underlying9
set_option maxHeartbeats 1600000 in
theorem markText_any (k : Nat) (w : World) (hk : k ≤ 100000000) (hk0 : 1 ≤ k) :
    Calls Try.prog 66 #[.int .i64 (k : Int)] w fun e w' => e = .returned (.string (markOf k)) ∧ Below w.heap.size w w' := by
  have hcv := fun (x : Int) (W : World) => str_one x W
  obtain ⟨R, hR⟩ : ∃ R, markGo k k ByteArray.empty = R := ⟨_, rfl⟩
  have HR := Lib.hid hR
  have g0 : ¬ (k : Int) ≤ 0 := by omega
  clear hR
  go_enter Try.func66, Try.ntmps66
  go_wp2
  go_loopw [0, 3] (fun i o wr => ∃ (f j : Nat) (out : ByteArray), i = .int .i64 j ∧ o = .string out ∧ j ≤ f ∧ j ≤ k ∧ markGo f j out = R ∧ out.size + j ≤ k ∧ Below w.heap.size w wr) (fun i _ _ => (intOf i).toNat)
  case atStart => exact ⟨k, k, ByteArray.empty, rfl, rfl, Nat.le_refl _, Nat.le_refl _, HR.out, by simp, Below.refl _ _⟩
  case round =>
    obtain ⟨f, j, out, rfl, rfl, hjf, hjk, hgo, hsz, hbel⟩ := hrel
    have B := Lib.hid (Below.then' hbel (show Below wr.heap.size wr (wr.alloc (.cells #[.int .u8 (48 + ((j % 10 : Nat) : Int))] 5)) from (Below.refl _ _).alloc (Nat.le_refl _) _))
    have GO := Lib.hid hgo
    have B0 := Lib.hid hbel
    clear hgo hbel
    by_cases h0 : 0 < j
    · obtain ⟨f, rfl⟩ : ∃ f', f = f' + 1 := ⟨f - 1, by omega⟩
      have G2 := GO.out
      unfold markGo at G2
      rw [if_neg (by omega)] at G2
      have G2 := Lib.hid G2
      have p1 : (0 : Int) < (j : Int) := by omega
      have p2 : (0 : Int) ≤ (j : Int) % 10 := by omega
      have p3 : (j : Int) % 10 ≤ 9 := by omega
      have w1 : IntKind.i64.wrap (48 + (j : Int) % 10) = 48 + (j : Int) % 10 := IntWalk.i64_in _ (by omega)
      have s1 : (strOfNums [48 + (j : Int) % 10]).size + out.size ≤ 9223372036854775807 := by rw [numStr_size]; omega
      have HS := Lib.hid (show (strOfNums [48 + ((j % 10 : Nat) : Int)] ++ out).size + j / 10 ≤ k from by rw [ByteArray.size_append, numStr_size]; omega)
      go_wp2
      go_roundw
      case rel => exact ⟨f, j / 10, strOfNums [48 + ((j % 10 : Nat) : Int)] ++ out, by go_num, by simp, by omega, by omega, G2.out, HS.out, B.out⟩
      case measure => simp [intOf]; omega
    · obtain rfl : j = 0 := by omega
      have E := Lib.hid (show out = R by rw [← GO.out, markGo_zero])
      have s1 : (1 : Nat) + out.size ≤ 9223372036854775807 := by omega
      go_wp2
      go_ret
      exact ⟨ret_str (by unfold markOf; rw [HR.out, E.out]), B0.out⟩
theorem markText_int (x : Int) (w : World) (h0 : 1 ≤ x) (h1 : x ≤ 100000000) :
    Calls Try.prog 66 #[.int .i64 x] w fun e w' => e = .returned (.string (markOf x.toNat)) ∧ Below w.heap.size w w' := by
  obtain ⟨k, rfl⟩ := Int.eq_ofNat_of_zero_le (show 0 ≤ x by omega)
  exact markText_any k w (by omega) (by omega)
theorem mark_eq {a b : Nat} (h : a = b) : Value.string (markOf a) = .string (markOf b) := by rw [h]
theorem markGo_size : ∀ (f k : Nat) (out : ByteArray), (markGo f k out).size ≤ out.size + f
  | 0, _, _ => Nat.le_refl _
  | f + 1, k, out => by
    unfold markGo
    split
    · omega
    · refine Nat.le_trans (markGo_size f _ _) ?_
      rw [ByteArray.size_append, numStr_size]; omega
theorem markOf_size (k : Nat) (h : k ≤ 100000000) : (markOf k).size ≤ maxLen := by
  unfold markOf
  rw [ByteArray.size_append]
  have := markGo_size k k ByteArray.empty
  have e : (⟨#[109]⟩ : ByteArray).size = 1 := rfl
  have e2 : ByteArray.empty.size = 0 := rfl
  unfold maxLen
  omega
end Go.Proofs.Ytidaoijpbdljbab
