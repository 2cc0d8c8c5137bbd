/- Rows of pairs of integers: what is known of one; whether two are equal. -/
import Derived.Test.YtidaoijpbdljbaaMiss2
namespace Go.Proofs.Ytidaoijpbdljbaa
open Go.RowKit

/-- The slice 'a len cap' holds the pairs L. -/
def IsPairs (w : World) (a : Option Addr) (len cap : Nat) (L : List (Int × Int)) : Prop :=
  len = L.length ∧ len ≤ cap ∧ cap ≤ maxLen ∧ (len = 0 ∨ ∃ b o, a = some ⟨b, o, none⟩ ∧ b < w.heap.size ∧ ∀ (k : Nat) p, L[k]? = some p → w.cell? ⟨b, o + k * 2, none⟩ = some (.int .i64 p.1) ∧ w.cell? ⟨b, o + k * 2 + 1, none⟩ = some (.int .i64 p.2))
theorem IsPairs.below {w w' : World} {a : Option Addr} {len cap : Nat} {L : List (Int × Int)} (h : IsPairs w a len cap L) (hb : Below w.heap.size w w') : IsPairs w' a len cap L := by
  refine ⟨h.1, h.2.1, h.2.2.1, ?_⟩
  rcases h.2.2.2 with h0 | ⟨b, o, rfl, h1, h2⟩
  · exact .inl h0
  · exact .inr ⟨b, o, rfl, Nat.lt_of_lt_of_le h1 hb.size, fun k z hz => ⟨(hb.cell (p := ⟨b, o + k * 2, none⟩) h1).trans (h2 k z hz).1, (hb.cell (p := ⟨b, o + k * 2 + 1, none⟩) h1).trans (h2 k z hz).2⟩⟩
theorem IsPairs.grown {w w' : World} {a : Option Addr} {len cap : Nat} {L : List (Int × Int)} {row : Option Nat} (h : IsPairs w a len cap L) (hg : w.grownBy w' row) (hne : ∀ b o, a = some ⟨b, o, none⟩ → some b ≠ row) : IsPairs w' a len cap L := by
  refine ⟨h.1, h.2.1, h.2.2.1, ?_⟩
  rcases h.2.2.2 with h0 | ⟨b, o, rfl, h1, h2⟩
  · exact .inl h0
  · exact .inr ⟨b, o, rfl, Nat.lt_of_lt_of_le h1 hg.size, fun k z hz => ⟨(World.cell?_of_block (w := w) (a := ⟨b, o + k * 2, none⟩) (hg.block b h1 (hne b o rfl))).trans (h2 k z hz).1, (World.cell?_of_block (w := w) (a := ⟨b, o + k * 2 + 1, none⟩) (hg.block b h1 (hne b o rfl))).trans (h2 k z hz).2⟩⟩
theorem IsPairs.at {w : World} {a : Option Addr} {len cap : Nat} {L : List (Int × Int)} (h : IsPairs w a len cap L) (hpos : 0 < len) : ∃ b o, a = some ⟨b, o, none⟩ ∧ b < w.heap.size ∧ ∀ (k : Nat) p, L[k]? = some p → w.cell? ⟨b, o + k * 2, none⟩ = some (.int .i64 p.1) ∧ w.cell? ⟨b, o + k * 2 + 1, none⟩ = some (.int .i64 p.2) := by
  rcases h.2.2.2 with h0 | h1
  · omega
  · exact h1
theorem prCells_len (L : List (Int × Int)) : (prCells L).length = L.length * 2 := by
  induction L with
  | nil => rfl
  | cons p L ih =>
    have : prCells (p :: L) = .int .i64 p.1 :: .int .i64 p.2 :: prCells L := rfl
    rw [this]; simp [ih]; omega
theorem prCells_at {L : List (Int × Int)} : ∀ {k : Nat} {p : Int × Int}, L[k]? = some p → (prCells L)[k * 2]? = some (.int .i64 p.1) ∧ (prCells L)[k * 2 + 1]? = some (.int .i64 p.2) := by
  induction L with
  | nil => intro k p h; simp at h
  | cons q L ih =>
    intro k p h
    have e : prCells (q :: L) = .int .i64 q.1 :: .int .i64 q.2 :: prCells L := rfl
    rw [e]
    cases k with
    | zero => simp at h; subst h; exact ⟨rfl, rfl⟩
    | succ k =>
      have := ih (k := k) (p := p) (by simpa using h)
      rw [show (k + 1) * 2 = k * 2 + 1 + 1 by omega, show k * 2 + 1 + 1 + 1 = (k * 2 + 1) + 1 + 1 by omega]
      simpa using this
theorem isPairs_own {w : World} {base : Nat} {v : Value} {L : List (Int × Int)} (h : w.ownsRow base 79 2 v L.length (prCells L)) :
    ∃ a cap, v = .slice a L.length cap ∧ IsPairs w a L.length cap L ∧ ∀ b o, a = some ⟨b, o, none⟩ → v.ownBlock = some b := by
  have hlt := h.lt
  rcases h.2 with ⟨rfl, h0⟩ | ⟨g, cap, cur, rfl, hg, hh, hn, hcap, hsz, htake⟩
  · exact ⟨none, 0, by rw [h0], ⟨rfl, by omega, by simp [maxLen], .inl h0⟩, fun _ _ h => by cases h⟩
  · refine ⟨some ⟨g, 0, none⟩, cap, rfl, ⟨rfl, hn, hcap, ?_⟩, fun b o h => by cases h; rfl⟩
    by_cases hz : L.length = 0
    · exact .inl hz
    · refine .inr ⟨g, 0, rfl, (hlt g rfl).2, fun k p hp => ?_⟩
      obtain ⟨h1, h2⟩ := prCells_at hp
      have c1 := h.cells (g := g) rfl _ _ h1
      have c2 := h.cells (g := g) rfl _ _ h2
      rw [add_plain] at c1 c2
      exact ⟨c1, by rw [← c2, Nat.add_assoc]⟩

set_option maxHeartbeats 1600000 in
set_option maxRecDepth 100000 in
theorem eqIntA2_yes (p q : Int) (w : World) :
    Calls Try.prog 75 #[.agg #[.int .i64 p, .int .i64 q], .agg #[.int .i64 p, .int .i64 q]] w fun e w' => e = .returned (.bool true) ∧ Below w.heap.size w w' := by
  have B0 := Lib.hid (bel_alloc2 w (.cells #[.int .i64 p, .int .i64 q] 79) (.cells #[.int .i64 p, .int .i64 q] 79))
  have hc : ∀ W, Below w.heap.size ((w.alloc (.cells #[.int .i64 p, .int .i64 q] 79)).alloc (.cells #[.int .i64 p, .int .i64 q] 79)) W → True := fun _ _ => trivial
  clear hc
  go_enter Try.func75, Try.ntmps75
  go_wp2
  refine wp_world (fun W => Below w.heap.size w W ∧ W.cell? ⟨w.heap.size, 0, none⟩ = some (.int .i64 p) ∧ W.cell? ⟨w.heap.size, 1, none⟩ = some (.int .i64 q) ∧ W.cell? ⟨w.heap.size + 1, 0, none⟩ = some (.int .i64 p) ∧ W.cell? ⟨w.heap.size + 1, 1, none⟩ = some (.int .i64 q)) ⟨B0.out, by simp, by simp, by simp, by simp⟩ ?_
  rintro W ⟨hb, c0, c1, d0, d1⟩
  have BW := Lib.hid hb
  clear hb
  go_loopw [5] (fun i wr => ∃ k : Nat, k ≤ 2 ∧ i = .int .i64 k ∧ Below w.heap.size w wr ∧ wr.cell? ⟨w.heap.size, 0, none⟩ = some (.int .i64 p) ∧ wr.cell? ⟨w.heap.size, 1, none⟩ = some (.int .i64 q) ∧ wr.cell? ⟨w.heap.size + 1, 0, none⟩ = some (.int .i64 p) ∧ wr.cell? ⟨w.heap.size + 1, 1, none⟩ = some (.int .i64 q)) (fun i _ => 2 - (intOf i).toNat)
  case atStart => exact ⟨0, by omega, rfl, BW.out, c0, c1, d0, d1⟩
  case round =>
    clear c0 c1 d0 d1
    obtain ⟨k, hk, rfl, hbel, c0, c1, d0, d1⟩ := hrel
    have B := Lib.hid hbel
    clear hbel
    rcases (show k = 0 ∨ k = 1 ∨ k = 2 by omega) with rfl | rfl | rfl
    · go_wp2
      go_quiet (fail)
      have B1 := Lib.hid (Below.then' B.out (bel_drawn wr nq))
      go_wp2
      go_roundw
      case rel => exact ⟨1, by omega, by go_num, B1.out, c0, c1, d0, d1⟩
      case measure => simp [intOf]
    · go_wp2
      go_quiet (fail)
      have B1 := Lib.hid (Below.then' B.out (bel_drawn wr nq))
      go_wp2
      go_roundw
      case rel => exact ⟨2, by omega, by go_num, B1.out, c0, c1, d0, d1⟩
      case measure => simp [intOf]
    · go_wp2
      go_ret
      exact ⟨rfl, B.out⟩
set_option maxHeartbeats 1600000 in
set_option maxRecDepth 100000 in
theorem eqIntA2S_yes (a : Option Addr) (len cap : Nat) (a' : Option Addr) (len' cap' : Nat) (xs : List (Int × Int)) (w : World) (h : IsPairs w a len cap xs) (h' : IsPairs w a' len' cap' xs) :
    Calls Try.prog 42 #[.slice a len cap, .slice a' len' cap'] w fun e w' => e = .returned (.bool true) ∧ Below w.heap.size w w' := by
  obtain rfl := h.1
  obtain rfl := h'.1
  have hm := h.2.2.1
  have hcl := h.2.1
  unfold maxLen at hm
  have S := Lib.hid h
  have S' := Lib.hid h'
  clear h h'
  go_enter Try.func42, Try.ntmps42
  go_wp2
  go_loopw [5] (fun i wr => ∃ k : Nat, k ≤ xs.length ∧ i = .int .i64 k ∧ Below w.heap.size w wr) (fun i _ => xs.length - (intOf i).toNat)
  case atStart => exact ⟨0, Nat.zero_le _, rfl, Below.refl _ _⟩
  case round =>
    obtain ⟨k, hk, rfl, hbel⟩ := hrel
    have B := Lib.hid hbel
    by_cases hlt : k < xs.length
    · obtain ⟨s, hs⟩ : ∃ s, xs[k]? = some s := ⟨xs[k]'hlt, List.getElem?_eq_getElem _⟩
      obtain ⟨b, o, rfl, hb, hat⟩ := (S.out.below hbel).at (by omega)
      obtain ⟨b', o', rfl, hb', hat'⟩ := (S'.out.below hbel).at (by omega)
      obtain ⟨c0, c1⟩ := hat k s hs
      obtain ⟨d0, d1⟩ := hat' k s hs
      obtain ⟨p, q⟩ := s
      simp only at c0 c1 d0 d1
      have hi0 : (0 : Int) ≤ (k : Int) := by omega
      have hi1 : (k : Int) < (xs.length : Int) := by omega
      clear hbel hs hat hat'
      go_wp2
      go_region_with (go_at_call 75; refine (eqIntA2_yes p q _).mono ?_; rintro e w1 ⟨rfl, hb1⟩; have B1 := Lib.hid (Below.then' (bel_drew B.out) hb1); clear hb1)
      all_goals go_wp2
      all_goals go_roundw
      all_goals first
        | exact ⟨k + 1, by omega, by go_num, B1.out⟩
        | (simp [intOf]; omega)
    · obtain rfl : k = xs.length := by omega
      clear hbel
      go_wp2
      go_ret
      exact ⟨rfl, B.out⟩
end Go.Proofs.Ytidaoijpbdljbaa
