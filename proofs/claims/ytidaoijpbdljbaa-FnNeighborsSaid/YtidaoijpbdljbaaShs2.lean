/- Slices of sheets, on: whether two are equal; the marks that the law writes into its own copy. -/
import Derived.Test.YtidaoijpbdljbaaShs
import Derived.Deep.RegionWith
namespace Go.Proofs.Ytidaoijpbdljbaa
open Go.RowKit

theorem bel_drew {w w1 : World} (h : Below w.heap.size w w1) : Below w.heap.size w w1.drew := ⟨h.os, h.tape, h.output, h.size, h.block⟩
set_option maxHeartbeats 1600000 in
set_option maxRecDepth 100000 in
theorem eqSheetS_yes (a : Option Addr) (len cap : Nat) (a' : Option Addr) (len' cap' : Nat) (xs : List Sh) (w : World) (h : IsSheetS w a len cap xs) (h' : IsSheetS w a' len' cap' xs) :
    Calls Try.prog 33 #[.slice a len cap, .slice a' len' cap'] w fun e w' => e = .returned (.bool true) ∧ Below w.heap.size w w' := by
  obtain rfl := h.1
  obtain rfl := h'.1
  have hm := h.2.2.1
  have hcl := h.2.1
  unfold maxLen at hm
  have S := Lib.hid h
  have S' := Lib.hid h'
  clear h h'
  go_enter Try.func33, Try.ntmps33
  go_wp2
  go_loopw [5] (fun i wr => ∃ k : Nat, k ≤ xs.length ∧ i = .int .i64 k ∧ Below w.heap.size w wr) (fun i _ => xs.length - (intOf i).toNat)
  case atStart => exact ⟨0, Nat.zero_le _, rfl, Below.refl _ _⟩
  case round =>
    obtain ⟨k, hk, rfl, hbel⟩ := hrel
    have B := Lib.hid hbel
    by_cases hlt : k < xs.length
    · obtain ⟨s, hs⟩ : ∃ s, xs[k]? = some s := ⟨xs[k]'hlt, List.getElem?_eq_getElem _⟩
      obtain ⟨b, o, rfl, hb, hat⟩ := (S.out.below hbel).at (by omega)
      obtain ⟨b', o', rfl, hb', hat'⟩ := (S'.out.below hbel).at (by omega)
      obtain ⟨c0, c1, c2, c3, c4⟩ := hat k s hs
      obtain ⟨d0, d1, d2, d3, d4⟩ := hat' k s hs
      have hi0 : (0 : Int) ≤ (k : Int) := by omega
      have hi1 : (k : Int) < (xs.length : Int) := by omega
      clear hbel hs hat hat'
      go_wp2
      go_region_with (go_at_call 71; refine (eqSheet_yes s _).mono ?_; rintro e w1 ⟨rfl, hb1⟩; have B1 := Lib.hid (Below.then' (bel_drew B.out) hb1); clear hb1)
      all_goals go_wp2
      all_goals go_roundw
      all_goals first
        | exact ⟨k + 1, by omega, by go_num, B1.out⟩
        | (simp [intOf]; omega)
    · obtain rfl : k = xs.length := by omega
      clear hbel
      go_wp2
      go_ret
      exact ⟨rfl, B.out⟩

/-- The row v has been marked: nothing else that was there has turned. -/
def MarkPost5 (v : Value) (k n : Nat) (w : World) (e : Ending) (w' : World) : Prop := e = .returned (.int .i64 ((k + 5 * n : Nat) : Int)) ∧ w.grownBy w' v.ownBlock
theorem split5 {L : List Value} {n k : Nat} (h : L.length = n * 5) (hk : k < n) : ∃ L1 a0 a1 a2 a3 a4 L2, L = L1 ++ a0 :: a1 :: a2 :: a3 :: a4 :: L2 ∧ L1.length = k * 5 := by
  refine ⟨L.take (k * 5), L[k * 5]'(by omega), L[k * 5 + 1]'(by omega), L[k * 5 + 2]'(by omega), L[k * 5 + 3]'(by omega), L[k * 5 + 4]'(by omega), L.drop (k * 5 + 5), ?_, by rw [List.length_take]; omega⟩
  conv => lhs; rw [← List.take_append_drop (k * 5) L]
  rw [List.drop_eq_getElem_cons (by omega), List.drop_eq_getElem_cons (by omega), List.drop_eq_getElem_cons (by omega), List.drop_eq_getElem_cons (by omega), List.drop_eq_getElem_cons (by omega)]
theorem at5 {L1 L2 : List Value} {a0 a1 a2 a3 a4 : Value} {o : Nat} (h : L1.length = o) :
    (L1 ++ a0 :: a1 :: a2 :: a3 :: a4 :: L2)[o]? = some a0 ∧ (L1 ++ a0 :: a1 :: a2 :: a3 :: a4 :: L2)[o + 1]? = some a1 ∧ (L1 ++ a0 :: a1 :: a2 :: a3 :: a4 :: L2)[o + 2]? = some a2 ∧ (L1 ++ a0 :: a1 :: a2 :: a3 :: a4 :: L2)[o + 3]? = some a3 ∧ (L1 ++ a0 :: a1 :: a2 :: a3 :: a4 :: L2)[o + 4]? = some a4 := by
  subst h
  simp

set_option maxHeartbeats 1600000 in
set_option maxRecDepth 100000 in
theorem markSheetS_any (base : Nat) (v : Value) (n k : Nat) (L : List Value) (w : World) (hown : w.ownsRow base 35 5 v n L) (hk : k ≤ 1000000) (hn : n ≤ 1048576) :
    Calls Try.prog 37 #[v, .int .i64 (k : Int)] w (MarkPost5 v k n w) := by
  have hlen : L.length = n * 5 := hown.1
  rcases hown.2 with ⟨rfl, rfl⟩ | ⟨g, cap, cur, rfl, hg, hh, hncap, hcap, _⟩
  · clear hown hlen
    go_enter Try.func37, Try.ntmps37
    go_wp2
    refine wp_loop_rounds 1 ?_
    rw [rounds_succ]
    go_wp2
    go_ret
    exact ⟨rfl, World.grownBy.refl _ _⟩
  clear hh
  have H := Lib.hid hown
  have L0 := Lib.hid hlen
  unfold maxLen at hcap
  clear hown hlen
  go_enter Try.func37, Try.ntmps37
  go_wp2
  go_loopw [1, 5] (fun q i wr => ∃ (j : Nat) (M : List Value), j ≤ n ∧ i = .int .i64 j ∧ q = .int .i64 ((k + 5 * j : Nat) : Int) ∧ wr.ownsRow base 35 5 (.slice (some ⟨g, 0, none⟩) n cap) n M ∧ w.grownBy wr (some g)) (fun _ i _ => n - (intOf i).toNat)
  case atStart => exact ⟨0, L, Nat.zero_le _, rfl, rfl, H.out, World.grownBy.refl _ _⟩
  case round =>
    obtain ⟨j, M, hj, rfl, rfl, hrow, hgr⟩ := hrel
    have G := Lib.hid hgr
    by_cases hlt : j < n
    · obtain ⟨L1, a0, a1, a2, a3, a4, L2, hM, hl1⟩ := split5 hrow.1 hlt
      rw [hM] at hrow
      have R := Lib.hid hrow
      have L1L := Lib.hid hl1
      obtain ⟨e0, e1, e2, e3, e4⟩ := at5 (a0 := a0) (a1 := a1) (a2 := a2) (a3 := a3) (a4 := a4) (L2 := L2) hl1
      have d0 := hrow.cells (g := g) rfl _ _ e0
      have d1 := hrow.cells (g := g) rfl _ _ e1
      have d2 := hrow.cells (g := g) rfl _ _ e2
      have d3 := hrow.cells (g := g) rfl _ _ e3
      have d4 := hrow.cells (g := g) rfl _ _ e4
      rw [add_plain, Nat.zero_add] at d0 d1 d2 d3 d4
      have f0 := hrow.frozenAt (j * 5)
      have f1 := hrow.frozenAt (j * 5 + 1)
      have f2 := hrow.frozenAt (j * 5 + 2)
      have f3 := hrow.frozenAt (j * 5 + 3)
      have f4 := hrow.frozenAt (j * 5 + 4)
      clear hrow hgr hM hl1 e0 e1 e2 e3 e4
      go_wp2
      go_roundw
      case rel =>
        have h5 := fun v0 v1 v2 v3 v4 => stored5 R.out (j * 5) L1L.out v0 v1 v2 v3 v4
        exact ⟨j + 1, _, by omega, by go_num, by go_num, (h5 _ _ _ _ _).1, grown_trans G.out (h5 _ _ _ _ _).2⟩
      case measure => simp [intOf]; omega
    · obtain rfl : j = n := by omega
      clear hrow hgr
      go_wp2
      go_ret
      exact ⟨rfl, G.out⟩
end Go.Proofs.Ytidaoijpbdljbaa
