/- The laws' marks: markText writes a number's digits behind an m; markStringS writes them into a row, heldStringS looks whether they still stand there. -/
import Derived.Test.YtmbmcnmippplaaaStrs
import Derived.WalkLawsBesides
import Derived.Deep.RegionWith
namespace Go.Proofs.Ytmbmcnmippplaaa
open Go.RowKit

/-- The digits of n in front of acc, as markText lays them. -/
def mkD (n : Nat) (acc : ByteArray) : ByteArray := if _h : 0 < n then mkD (n / 10) (⟨#[UInt8.ofNat (48 + n % 10)]⟩ ++ acc) else acc
termination_by n
decreasing_by omega
theorem mkD_pos {n : Nat} {acc : ByteArray} (h : 0 < n) : mkD n acc = mkD (n / 10) (⟨#[UInt8.ofNat (48 + n % 10)]⟩ ++ acc) := by rw [mkD, dif_pos h]
theorem mkD_zero (acc : ByteArray) : mkD 0 acc = acc := by rw [mkD, dif_neg (by omega)]
def markOf (n : Nat) : ByteArray := ⟨#[109]⟩ ++ mkD n ⟨#[]⟩
def oneByte (n : Nat) : ByteArray := ⟨#[UInt8.ofNat (48 + n % 10)]⟩

set_option maxHeartbeats 800000 in
theorem markText_any (n : Nat) (w : World) (h0 : 0 < n) (h1 : n ≤ 1000000) :
    Calls Try.prog 35 #[.int .i64 n] w fun e w' => e = .returned (.string (markOf n)) ∧ Below w.heap.size w w' := by
  go_enter Try.func35, Try.ntmps35
  go_wp2
  go_loopw [0, 3] (fun k t wr => ∃ (m : Nat) (acc : ByteArray), k = .int .i64 m ∧ t = .string acc ∧ acc.size + m ≤ 1000000 ∧ mkD m acc = mkD n ⟨#[]⟩ ∧ Below w.heap.size w wr) (fun k _ _ => (intOf k).toNat)
  case atStart => exact ⟨n, ⟨#[]⟩, rfl, rfl, by show 0 + n ≤ 1000000; omega, rfl, Below.refl _ _⟩
  case round =>
    obtain ⟨m, acc, rfl, rfl, hsz, hmk, hb⟩ := hrel
    have M := Lib.hid hmk
    have B := Lib.hid hb
    have hle := hb.size
    clear hmk hb
    by_cases hm : 0 < m
    · have hconv : (convert 22 9 (.slice (some ⟨wr.heap.size, 0, none⟩) 1 1)).run Try.prog (wr.alloc (.cells #[.int .u8 (48 + (m : Int) % 10)] 5)) = .ok (.string (oneByte m)) (wr.alloc (.cells #[.int .u8 (48 + (m : Int) % 10)] 5)) :=
        run_convert_bytes_back _ 22 9 5 ⟨wr.heap.size, 0, none⟩ 1 [UInt8.ofNat (48 + m % 10)] Try.underlying22 Try.underlying5 Try.underlying9 (fun j hj => by
          obtain rfl : j = 0 := by simpa using hj
          have h := cell_one wr (.int .u8 (48 + (m : Int) % 10)) 5 0 _ rfl
          rw [h]
          simp only [List.getElem_cons_zero]
          rw [UInt8.toNat_ofNat', show (48 + m % 10) % 2 ^ 8 = 48 + m % 10 from by omega]
          simp)
      have hz : (oneByte m).size + acc.size ≤ 9223372036854775807 := by have : (oneByte m).size = 1 := rfl; omega
      go_wp2
      go_roundw
      case rel => exact ⟨m / 10, oneByte m ++ acc, by rw [show ((m / 10 : Nat) : Int) = (m : Int) / 10 from by omega], rfl, by rw [ByteArray.size_append]; have : (oneByte m).size = 1 := rfl; omega, by rw [← M.out, mkD_pos hm]; rfl, B.out.alloc hle _⟩
      case measure => simp [intOf]; omega
    · obtain rfl : m = 0 := by omega
      have E := M.out
      rw [mkD_zero] at E
      have EE := Lib.hid E
      clear E
      go_wp2
      go_ret
      exact ⟨ret_str (by rw [EE.out]; rfl), B.out⟩

/-- The marks k, k + 1, .. k + n - 1. -/
def marks (k n : Nat) : List Value := (List.range n).map fun i => Value.string (markOf (k + i))
theorem marks_len (k n : Nat) : (marks k n).length = n := by simp [marks]
theorem marks_succ (k n : Nat) : marks k (n + 1) = marks k n ++ [Value.string (markOf (k + n))] := by simp [marks, List.range_succ]
theorem marks_at (k n i : Nat) (h : i < n) : (marks k n)[i]? = some (Value.string (markOf (k + i))) := by simp [marks, h]
theorem set_mark {k j : Nat} {L : List Value} (h : j < L.length) : (marks k j ++ L.drop j).set j (Value.string (markOf (k + j))) = marks k (j + 1) ++ L.drop (j + 1) := by
  rw [List.set_append_right _ _ (by rw [marks_len]; omega), marks_len, Nat.sub_self, List.drop_eq_getElem_cons h, List.set_cons_zero, marks_succ]
  simp

/-- The row v of n values bears the marks from k on; nothing else that was there has turned. -/
def MarkPost (base k n : Nat) (v : Value) (w : World) (e : Ending) (w' : World) : Prop := e = .returned (.int .i64 ((k + n : Nat) : Int)) ∧ w'.ownsRow base 9 1 v n (marks k n) ∧ w.grownBy w' v.ownBlock
set_option maxHeartbeats 1600000 in
set_option maxRecDepth 100000 in
theorem markStringS_any (base : Nat) (v : Value) (n k : Nat) (L : List Value) (w : World) (hown : w.ownsRow base 9 1 v n L) (hk : 0 < k) (hn : k + n ≤ 100000) :
    Calls Try.prog 19 #[v, .int .i64 k] w (MarkPost base k n v w) := by
  have hlen : L.length = n := by have := hown.1; omega
  have hcase : (∃ a c, v = .slice a n c) := by
    rcases hown.2 with ⟨rfl, rfl⟩ | ⟨g, cap, cur, rfl, _⟩
    · exact ⟨_, _, rfl⟩
    · exact ⟨_, _, rfl⟩
  by_cases h0 : n = 0
  · subst h0
    obtain ⟨a, c, rfl⟩ := hcase
    have hL : L = [] := List.length_eq_zero_iff.1 hlen
    subst hL
    have H := Lib.hid hown
    clear hown
    go_enter Try.func19, Try.ntmps19
    go_wp2
    refine wp_loop_rounds 1 ?_
    rw [rounds_succ]
    go_wp2
    go_ret
    exact ⟨rfl, H.out, World.grownBy.refl _ _⟩
  rcases hown.2 with ⟨_, h1⟩ | ⟨g, cap, cur, rfl, hg, hh, hncap, hcap, _⟩
  · exact absurd h1 h0
  clear hcase hh
  have H := Lib.hid hown
  have L0 := Lib.hid hlen
  have hglt := (hown.lt g rfl).2
  unfold maxLen at hcap
  clear hown hlen
  go_enter Try.func19, Try.ntmps19
  go_wp2
  go_loopw [1, 5] (fun q i wr => ∃ j : Nat, j ≤ n ∧ i = .int .i64 j ∧ q = .int .i64 ((k + j : Nat) : Int) ∧ wr.ownsRow base 9 1 (.slice (some ⟨g, 0, none⟩) n cap) n (marks k j ++ L.drop j) ∧ w.grownBy wr (some g)) (fun _ i _ => n - (intOf i).toNat)
  case atStart => exact ⟨0, Nat.zero_le _, rfl, rfl, by simpa [marks] using H.out, World.grownBy.refl _ _⟩
  case round =>
    obtain ⟨j, hj, rfl, rfl, hrow, hgr⟩ := hrel
    have R := Lib.hid hrow
    have G := Lib.hid hgr
    clear hrow hgr
    by_cases hlt : j < n
    · have hj0 : (0 : Int) ≤ (j : Int) := by omega
      go_wp2_with fail
      refine (markText_any (k + j) _ (by omega) (by omega)).mono ?_
      rintro e w1 ⟨rfl, hb1⟩
      have R1 := Lib.hid (ownsRow_below R.out hb1)
      have hfr := R1.out.frozenAt j
      obtain ⟨u, hu⟩ : ∃ u, w1.cell? ⟨g, j, none⟩ = some u := by
        have hlt2 : j < (marks k j ++ L.drop j).length := by rw [List.length_append, marks_len, List.length_drop, L0.out]; omega
        have h := R1.out.cells (g := g) rfl j _ (List.getElem?_eq_getElem hlt2)
        rw [add_plain, Nat.zero_add] at h
        exact ⟨_, h⟩
      have G1 := Lib.hid (grown_trans G.out (grown_below hb1 (some g)))
      clear hb1
      go_wp2
      go_roundw
      case rel => exact ⟨j + 1, by omega, by go_num, by go_num, by
        have h := (R1.out.stored j (.string (markOf (k + j)))).1
        rw [set_mark (by rw [L0.out]; exact hlt)] at h
        exact h, grown_trans G1.out (R1.out.stored j (.string (markOf (k + j)))).2⟩
      case measure => simp [intOf]; omega
    · obtain rfl : j = n := by omega
      go_wp2
      go_ret
      refine ⟨rfl, ?_, G.out⟩
      have h := R.out
      rw [List.drop_of_length_le (by rw [L0.out]; omega), List.append_nil] at h
      exact h

set_option maxHeartbeats 1600000 in
set_option maxRecDepth 100000 in
theorem heldStringS_any (base : Nat) (v : Value) (n k : Nat) (w : World) (hown : w.ownsRow base 9 1 v n (marks k n)) (hk : 0 < k) (hn : k + n ≤ 100000) :
    Calls Try.prog 20 #[v, .int .i64 k] w fun e w' => e = .returned (.int .i64 ((k + n : Nat) : Int)) ∧ Below w.heap.size w w' := by
  have hcase : (∃ a c, v = .slice a n c) := by
    rcases hown.2 with ⟨rfl, rfl⟩ | ⟨g, cap, cur, rfl, _⟩
    · exact ⟨_, _, rfl⟩
    · exact ⟨_, _, rfl⟩
  by_cases h0 : n = 0
  · subst h0
    obtain ⟨a, c, rfl⟩ := hcase
    clear hown
    go_enter Try.func20, Try.ntmps20
    go_wp2
    refine wp_loop_rounds 1 ?_
    rw [rounds_succ]
    go_wp2
    go_ret
    exact ⟨rfl, Below.refl _ _⟩
  rcases hown.2 with ⟨_, h1⟩ | ⟨g, cap, cur, rfl, hg, hh, hncap, hcap, _⟩
  · exact absurd h1 h0
  clear hcase hh
  have H := Lib.hid hown
  have hglt := (hown.lt g rfl).2
  unfold maxLen at hcap
  clear hown
  go_enter Try.func20, Try.ntmps20
  go_wp2
  go_loopw [1, 5] (fun q i wr => ∃ j : Nat, j ≤ n ∧ i = .int .i64 j ∧ q = .int .i64 ((k + j : Nat) : Int) ∧ Below w.heap.size w wr) (fun _ i _ => n - (intOf i).toNat)
  case atStart => exact ⟨0, Nat.zero_le _, rfl, rfl, Below.refl _ _⟩
  case round =>
    obtain ⟨j, hj, rfl, rfl, hbel⟩ := hrel
    have B := Lib.hid hbel
    have hcell : j < n → wr.cell? ⟨g, j, none⟩ = some (.string (markOf (k + j))) := fun hlt => by
      have h := H.out.cells (g := g) rfl j _ (marks_at k n j hlt)
      rw [add_plain, Nat.zero_add] at h
      exact (hbel.cell (p := ⟨g, j, none⟩) hglt).trans h
    clear hbel
    by_cases hlt : j < n
    · have hj0 : (0 : Int) ≤ (j : Int) := by omega
      have hj1 : (j : Int) < (n : Int) := by omega
      have hc := hcell hlt
      clear hcell
      go_wp2
      go_region_with (go_at_call 35; refine (markText_any (k + j) _ (by omega) (by omega)).mono ?_; rintro e w1 ⟨rfl, hb1⟩; have hc1 : w1.cell? ⟨g, j, none⟩ = some (.string (markOf (k + j))) := (hb1.cell (p := ⟨g, j, none⟩) (Nat.lt_of_lt_of_le hglt B.out.size)).trans hc; have B1 := Lib.hid (B.out.trans (Below.mono ⟨hb1.os, hb1.tape, hb1.output, hb1.size, hb1.block⟩ B.out.size)); clear hb1)
      all_goals go_wp2
      all_goals go_roundw
      all_goals first
        | exact ⟨j + 1, by omega, by go_num, by go_num, B1.out⟩
        | (simp [intOf]; omega)
    · obtain rfl : j = n := by omega
      clear hcell
      go_wp2
      go_ret
      exact ⟨rfl, B.out⟩
end Go.Proofs.Ytmbmcnmippplaaa
