/- The law's marks in a row of pairs. -/
import Derived.Test.YtidaoijpbdljbaaPairs
namespace Go.Proofs.Ytidaoijpbdljbaa
open Go.RowKit

def marksP (k n : Nat) : List (Int × Int) := (List.range n).map fun i => (((k + i * 2 : Nat) : Int), ((k + (i * 2 + 1) : Nat) : Int))
theorem marksP_len (k n : Nat) : (marksP k n).length = n := by simp [marksP]
theorem marksP_at (k n i : Nat) (h : i < n) : (marksP k n)[i]? = some (((k + i * 2 : Nat) : Int), ((k + (i * 2 + 1) : Nat) : Int)) := by simp [marksP, h]
theorem marksP_flat (k n : Nat) : prCells (marksP k n) = intCells (marksI k (n * 2)) := by
  induction n with
  | zero => rfl
  | succ n ih =>
    have e : marksP k (n + 1) = marksP k n ++ [(((k + n * 2 : Nat) : Int), ((k + (n * 2 + 1) : Nat) : Int))] := by simp [marksP, List.range_succ]
    rw [e, prCells_snoc, ih, show (n + 1) * 2 = n * 2 + 1 + 1 by omega, marksI_succ, marksI_succ, intCells_snoc, intCells_snoc]
    simp
def MarkP (base k n : Nat) (v : Value) (w : World) (e : Ending) (w' : World) : Prop := e = .returned (.int .i64 ((k + n * 2 : Nat) : Int)) ∧ w'.ownsRow base 79 2 v n (prCells (marksP k n)) ∧ w.grownBy w' v.ownBlock
set_option maxHeartbeats 1600000 in
set_option maxRecDepth 100000 in
theorem markIntA2S_any (base : Nat) (v : Value) (n k : Nat) (L : List Value) (w : World) (hown : w.ownsRow base 79 2 v n L) (hk : k ≤ 1000000) (hn : n ≤ 1000000) :
    Calls Try.prog 43 #[v, .int .i64 (k : Int)] w (MarkP base k n v w) := by
  have hlen : L.length = n * 2 := by have := hown.1; omega
  rcases hown.2 with ⟨rfl, rfl⟩ | ⟨g, cap, cur, rfl, hg, hh, hncap, hcap, _⟩
  · have hL : L = [] := List.length_eq_zero_iff.1 (by omega)
    subst hL
    have H := Lib.hid hown
    clear hown
    go_enter Try.func43, Try.ntmps43
    go_wp2
    refine wp_loop_rounds 1 ?_
    rw [rounds_succ]
    go_wp2
    go_ret
    exact ⟨rfl, H.out, World.grownBy.refl _ _⟩
  clear hh
  have H := Lib.hid hown
  have L0 := Lib.hid hlen
  unfold maxLen at hcap
  clear hown hlen
  go_enter Try.func43, Try.ntmps43
  go_wp2
  go_loopw [1, 5] (fun q i wr => ∃ j : Nat, j ≤ n ∧ i = .int .i64 j ∧ q = .int .i64 ((k + j * 2 : Nat) : Int) ∧ wr.ownsRow base 79 2 (.slice (some ⟨g, 0, none⟩) n cap) n (intCells (marksI k (j * 2)) ++ L.drop (j * 2)) ∧ w.grownBy wr (some g)) (fun _ i _ => n - (intOf i).toNat)
  case atStart => exact ⟨0, Nat.zero_le _, rfl, rfl, by simpa [marksI, intCells] using H.out, World.grownBy.refl _ _⟩
  case round =>
    obtain ⟨j, hj, rfl, rfl, hrow, hgr⟩ := hrel
    have R := Lib.hid hrow
    have G := Lib.hid hgr
    clear hrow hgr
    by_cases hlt : j < n
    · go_wp2
      go_loopw [1, 6] (fun q i wr => ∃ c : Nat, c ≤ 2 ∧ i = .int .i64 c ∧ q = .int .i64 ((k + (j * 2 + c) : Nat) : Int) ∧ wr.ownsRow base 79 2 (.slice (some ⟨g, 0, none⟩) n cap) n (intCells (marksI k (j * 2 + c)) ++ L.drop (j * 2 + c)) ∧ w.grownBy wr (some g)) (fun _ i _ => 2 - (intOf i).toNat)
      case atStart => exact ⟨0, by omega, rfl, by simp, R.out, G.out⟩
      case round =>
        obtain ⟨c, hc, rfl, rfl, hrow, hgr⟩ := hrel
        have R2 := Lib.hid hrow
        have G2 := Lib.hid hgr
        clear hrow hgr
        by_cases hc2 : c < 2
        · have hfr := R2.out.frozenAt (j * 2 + c)
          obtain ⟨u, hu⟩ : ∃ u, wr.cell? ⟨g, j * 2 + c, none⟩ = some u := by
            have hlt2 : j * 2 + c < (intCells (marksI k (j * 2 + c)) ++ L.drop (j * 2 + c)).length := by rw [List.length_append, intCells_len, marksI_len, List.length_drop, L0.out]; omega
            have h := R2.out.cells (g := g) rfl (j * 2 + c) _ (List.getElem?_eq_getElem hlt2)
            rw [add_plain, Nat.zero_add] at h
            exact ⟨_, h⟩
          have hj0 : (0 : Int) ≤ (j : Int) := by omega
          have hj1 : (j : Int) < (n : Int) := by omega
          have hc0 : (0 : Int) ≤ (c : Int) := by omega
          have hc1 : (c : Int) < 2 := by omega
          go_wp2
          go_roundw
          case rel => exact ⟨c + 1, by omega, by go_num, by go_num, by
            have h := (R2.out.stored (j * 2 + c) (.int .i64 ((k + (j * 2 + c) : Nat) : Int))).1
            rw [set_markI (by rw [L0.out]; omega), show j * 2 + c + 1 = j * 2 + (c + 1) from rfl] at h
            simpa using h, grown_trans G2.out (by simpa using (R2.out.stored (j * 2 + c) (.int .i64 ((k + (j * 2 + c) : Nat) : Int))).2)⟩
          case measure => simp [intOf]; omega
        · obtain rfl : c = 2 := by omega
          go_wp2
          go_roundw
          case rel => exact ⟨j + 1, by omega, by go_num, by go_num, by rw [show (j + 1) * 2 = j * 2 + 2 by omega]; exact R2.out, G2.out⟩
          case measure => simp [intOf]; omega
    · obtain rfl : j = n := by omega
      go_wp2
      go_ret
      refine ⟨rfl, ?_, G.out⟩
      have h := R.out
      rw [List.drop_of_length_le (by rw [L0.out]; omega), List.append_nil] at h
      rw [marksP_flat]
      exact h
set_option maxHeartbeats 1600000 in
set_option maxRecDepth 100000 in
theorem heldIntA2S_any (a : Option Addr) (n cap k : Nat) (w : World) (h : IsPairs w a n cap (marksP k n)) (hk : k ≤ 1000000) (hn : n ≤ 1000000) :
    Calls Try.prog 44 #[.slice a n cap, .int .i64 (k : Int)] w fun e w' => e = .returned (.int .i64 ((k + n * 2 : Nat) : Int)) ∧ w = w' := by
  have hm := h.2.2.1
  have hcl := h.2.1
  unfold maxLen at hm
  have S := Lib.hid h
  clear h
  go_enter Try.func44, Try.ntmps44
  go_wp2
  go_loop [1, 5] (fun q i => ∃ j : Nat, j ≤ n ∧ i = .int .i64 j ∧ q = .int .i64 ((k + j * 2 : Nat) : Int)) (fun _ i => n - (intOf i).toNat)
  case atStart => exact ⟨0, Nat.zero_le _, rfl, rfl⟩
  case round =>
    obtain ⟨j, hj, rfl, rfl⟩ := hrel
    by_cases hlt : j < n
    · obtain ⟨b, o, rfl, hb, hat⟩ := S.out.at (by omega)
      obtain ⟨c0, c1⟩ := hat j _ (marksP_at k n j hlt)
      have hj0 : (0 : Int) ≤ (j : Int) := by omega
      have hj1 : (j : Int) < (n : Int) := by omega
      simp only at c0 c1
      clear hat
      go_wp2
      go_loop [1, 6] (fun q i => ∃ c : Nat, c ≤ 2 ∧ i = .int .i64 c ∧ q = .int .i64 ((k + (j * 2 + c) : Nat) : Int)) (fun _ i => 2 - (intOf i).toNat)
      case atStart => exact ⟨0, by omega, rfl, by simp⟩
      case round =>
        obtain ⟨c, hc, rfl, rfl⟩ := hrel
        rcases (show c = 0 ∨ c = 1 ∨ c = 2 by omega) with rfl | rfl | rfl
        · go_wp2
          go_round
          case rel => exact ⟨1, by omega, by go_num, by go_num⟩
          case measure => simp [intOf]
        · go_wp2
          go_round
          case rel => exact ⟨2, by omega, by go_num, by go_num⟩
          case measure => simp [intOf]
        · go_wp2
          go_round
          case rel => exact ⟨j + 1, by omega, by go_num, by go_num⟩
          case measure => simp [intOf]; omega
    · obtain rfl : j = n := by omega
      go_wp2
      go_ret
      exact ⟨rfl, rfl⟩
end Go.Proofs.Ytidaoijpbdljbaa
