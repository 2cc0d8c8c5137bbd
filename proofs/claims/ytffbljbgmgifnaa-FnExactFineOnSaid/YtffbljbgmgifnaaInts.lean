/- Rows of integers: what is known of one; whether two are equal; the law's marks in one. -/
import Derived.Test.YtffbljbgmgifnaaBase
import Derived.Laws.OwnMore
namespace Go.Proofs.Ytffbljbgmgifnaa
open Go.RowKit

/-- The slice 'a len cap' holds the integers xs. -/
def IsInts (w : World) (a : Option Addr) (len cap : Nat) (xs : List Int) : Prop :=
  len = xs.length ∧ len ≤ cap ∧ cap ≤ maxLen ∧ (len = 0 ∨ ∃ b o, a = some ⟨b, o, none⟩ ∧ b < w.heap.size ∧ ∀ (k : Nat) z, xs[k]? = some z → w.cell? ⟨b, o + k, none⟩ = some (.int .i64 z))
theorem IsInts.below {w w' : World} {a : Option Addr} {len cap : Nat} {xs : List Int} (h : IsInts w a len cap xs) (hb : Below w.heap.size w w') : IsInts w' a len cap xs := by
  refine ⟨h.1, h.2.1, h.2.2.1, ?_⟩
  rcases h.2.2.2 with h0 | ⟨b, o, rfl, h1, h2⟩
  · exact .inl h0
  · exact .inr ⟨b, o, rfl, Nat.lt_of_lt_of_le h1 hb.size, fun k z hz => (hb.cell (p := ⟨b, o + k, none⟩) h1).trans (h2 k z hz)⟩
theorem IsInts.grown {w w' : World} {a : Option Addr} {len cap : Nat} {xs : List Int} {row : Option Nat} (h : IsInts w a len cap xs) (hg : w.grownBy w' row) (hne : ∀ b o, a = some ⟨b, o, none⟩ → some b ≠ row) : IsInts w' a len cap xs := by
  refine ⟨h.1, h.2.1, h.2.2.1, ?_⟩
  rcases h.2.2.2 with h0 | ⟨b, o, rfl, h1, h2⟩
  · exact .inl h0
  · exact .inr ⟨b, o, rfl, Nat.lt_of_lt_of_le h1 hg.size, fun k z hz => (World.cell?_of_block (w := w) (a := ⟨b, o + k, none⟩) (hg.block b h1 (hne b o rfl))).trans (h2 k z hz)⟩
theorem IsInts.at {w : World} {a : Option Addr} {len cap : Nat} {xs : List Int} (h : IsInts w a len cap xs) (hpos : 0 < len) : ∃ b o, a = some ⟨b, o, none⟩ ∧ b < w.heap.size ∧ ∀ (k : Nat) z, xs[k]? = some z → w.cell? ⟨b, o + k, none⟩ = some (.int .i64 z) := by
  rcases h.2.2.2 with h0 | h1
  · omega
  · exact h1
theorem int_at {xs : List Int} {len k : Nat} (hl : Hid (len = xs.length)) (hk : k < len) : ∃ s, xs[k]? = some s := ⟨xs[k]'(by have := hl.out; omega), List.getElem?_eq_getElem _⟩
def intCells (xs : List Int) : List Value := xs.map (Value.int .i64)
theorem intCells_len (xs : List Int) : (intCells xs).length = xs.length := by simp [intCells]
theorem intCells_snoc (xs : List Int) (z : Int) : intCells (xs ++ [z]) = intCells xs ++ [.int .i64 z] := by simp [intCells]
theorem isInts_own {w : World} {base : Nat} {v : Value} {xs : List Int} (h : w.ownsRow base 3 1 v xs.length (intCells xs)) :
    ∃ a cap, v = .slice a xs.length cap ∧ IsInts w a xs.length cap xs ∧ ∀ b o, a = some ⟨b, o, none⟩ → v.ownBlock = some b := by
  have hlt := h.lt
  rcases h.2 with ⟨rfl, h0⟩ | ⟨g, cap, cur, rfl, hg, hh, hn, hcap, hsz, htake⟩
  · exact ⟨none, 0, by rw [h0], ⟨rfl, by omega, by simp [maxLen], .inl h0⟩, fun _ _ h => by cases h⟩
  · refine ⟨some ⟨g, 0, none⟩, cap, rfl, ⟨rfl, hn, hcap, ?_⟩, fun b o h => by cases h; rfl⟩
    by_cases hz : xs.length = 0
    · exact .inl hz
    · refine .inr ⟨g, 0, rfl, (hlt g rfl).2, fun k z hz => ?_⟩
      have hc := h.cells (g := g) rfl k (.int .i64 z) (by simp [intCells, hz])
      rw [add_plain] at hc; exact hc
theorem ownsRow_grown' {w w' : World} {base : Nat} {e : TypeId} {size n : Nat} {v : Value} {xs : List Value} {row : Option Nat} (h : w.ownsRow base e size v n xs) (hg : w.grownBy w' row) (hne : ∀ k, row = some k → k < base) : w'.ownsRow base e size v n xs := by
  refine ⟨h.1, ?_⟩
  rcases h.2 with h0 | ⟨g, cap, cur, rfl, hb, hh, r⟩
  · exact .inl h0
  · exact .inr ⟨g, cap, cur, rfl, hb, (hg.block g (Array.getElem?_eq_some_iff.1 hh).1 (fun e => by have := hne g e.symm; omega)).trans hh, r⟩
theorem infoInt : (Try.prog.info? 3).map (fun i => (i.zero, i.size, i.bytes)) = some (some (.int .i64 0), 1, 8) := by kernel_rfl
/-- A row of integers of the call's own and whether it stands, and the world below as it was. -/
def IntsOk (xs : List Int) (ok : Bool) (w : World) (e : Ending) (w' : World) : Prop := ∃ v, e = .returned (.tuple #[v, .bool ok]) ∧ w'.ownsRow w.heap.size 3 1 v xs.length (intCells xs) ∧ Below w.heap.size w w'

set_option maxHeartbeats 1600000 in
set_option maxRecDepth 100000 in
theorem eqIntS_yes (a : Option Addr) (len cap : Nat) (a' : Option Addr) (len' cap' : Nat) (xs : List Int) (w : World) (h : IsInts w a len cap xs) (h' : IsInts w a' len' cap' xs) :
    Calls Try.prog 55 #[.slice a len cap, .slice a' len' cap'] w fun e w' => e = .returned (.bool true) ∧ Below w.heap.size w w' := by
  obtain rfl := h.1
  obtain rfl := h'.1
  have hm := h.2.2.1
  have hcl := h.2.1
  unfold maxLen at hm
  have S := Lib.hid h
  have S' := Lib.hid h'
  clear h h'
  go_enter Try.func55, Try.ntmps55
  go_wp2
  go_loopw [5] (fun i wr => ∃ k : Nat, k ≤ xs.length ∧ i = .int .i64 k ∧ Below w.heap.size w wr) (fun i _ => xs.length - (intOf i).toNat)
  case atStart => exact ⟨0, Nat.zero_le _, rfl, Below.refl _ _⟩
  case round =>
    obtain ⟨k, hk, rfl, hbel⟩ := hrel
    have B := Lib.hid hbel
    by_cases hlt : k < xs.length
    · obtain ⟨z, hz⟩ : ∃ z, xs[k]? = some z := ⟨xs[k]'hlt, List.getElem?_eq_getElem _⟩
      obtain ⟨b, o, rfl, hb, hat⟩ := (S.out.below hbel).at (by omega)
      obtain ⟨b', o', rfl, hb', hat'⟩ := (S'.out.below hbel).at (by omega)
      have c0 := hat k z hz
      have d0 := hat' k z hz
      have hi0 : (0 : Int) ≤ (k : Int) := by omega
      have hi1 : (k : Int) < (xs.length : Int) := by omega
      clear hbel hz hat hat'
      go_wp2
      go_quiet (fail)
      have B1 := Lib.hid (Below.then' B.out (bel_drawn wr nq))
      go_wp2
      go_roundw
      case rel => exact ⟨k + 1, by omega, by go_num, B1.out⟩
      case measure => simp [intOf]; omega
    · obtain rfl : k = xs.length := by omega
      clear hbel
      go_wp2
      go_ret
      exact ⟨rfl, B.out⟩

/-- The marks k, k + 1, .. k + n - 1. -/
def marksI (k n : Nat) : List Int := (List.range n).map fun i => ((k + i : Nat) : Int)
theorem marksI_len (k n : Nat) : (marksI k n).length = n := by simp [marksI]
theorem marksI_succ (k n : Nat) : marksI k (n + 1) = marksI k n ++ [((k + n : Nat) : Int)] := by simp [marksI, List.range_succ]
theorem marksI_at (k n i : Nat) (h : i < n) : (marksI k n)[i]? = some ((k + i : Nat) : Int) := by simp [marksI, h]
theorem set_markI {k j : Nat} {L : List Value} (h : j < L.length) : (intCells (marksI k j) ++ L.drop j).set j (.int .i64 ((k + j : Nat) : Int)) = intCells (marksI k (j + 1)) ++ L.drop (j + 1) := by
  have hl : (intCells (marksI k j)).length = j := by rw [intCells_len, marksI_len]
  rw [List.set_append_right _ _ (by omega), hl, Nat.sub_self, List.drop_eq_getElem_cons h, List.set_cons_zero, marksI_succ, intCells_snoc]
  simp
/-- The row v of n values bears the marks from k on; nothing else that was there has turned. -/
def MarkI (base k n : Nat) (v : Value) (w : World) (e : Ending) (w' : World) : Prop := e = .returned (.int .i64 ((k + n : Nat) : Int)) ∧ w'.ownsRow base 3 1 v n (intCells (marksI k n)) ∧ w.grownBy w' v.ownBlock
set_option maxHeartbeats 1600000 in
set_option maxRecDepth 100000 in
theorem markIntS_any (base : Nat) (v : Value) (n k : Nat) (L : List Value) (w : World) (hown : w.ownsRow base 3 1 v n L) (hk : k ≤ 1000000000) (hn : n ≤ 1000000000) :
    Calls Try.prog 56 #[v, .int .i64 (k : Int)] w (MarkI base k n v w) := by
  have hlen : L.length = n := by have := hown.1; omega
  rcases hown.2 with ⟨rfl, rfl⟩ | ⟨g, cap, cur, rfl, hg, hh, hncap, hcap, _⟩
  · have hL : L = [] := List.length_eq_zero_iff.1 hlen
    subst hL
    have H := Lib.hid hown
    clear hown
    go_enter Try.func56, Try.ntmps56
    go_wp2
    refine wp_loop_rounds 1 ?_
    rw [rounds_succ]
    go_wp2
    go_ret
    exact ⟨rfl, H.out, World.grownBy.refl _ _⟩
  clear hh
  have H := Lib.hid hown
  have L0 := Lib.hid hlen
  unfold maxLen at hcap
  clear hown hlen
  go_enter Try.func56, Try.ntmps56
  go_wp2
  go_loopw [1, 5] (fun q i wr => ∃ j : Nat, j ≤ n ∧ i = .int .i64 j ∧ q = .int .i64 ((k + j : Nat) : Int) ∧ wr.ownsRow base 3 1 (.slice (some ⟨g, 0, none⟩) n cap) n (intCells (marksI k j) ++ L.drop j) ∧ w.grownBy wr (some g)) (fun _ i _ => n - (intOf i).toNat)
  case atStart => exact ⟨0, Nat.zero_le _, rfl, rfl, by simpa [marksI, intCells] using H.out, World.grownBy.refl _ _⟩
  case round =>
    obtain ⟨j, hj, rfl, rfl, hrow, hgr⟩ := hrel
    have R := Lib.hid hrow
    have G := Lib.hid hgr
    clear hrow hgr
    by_cases hlt : j < n
    · have hfr := R.out.frozenAt j
      obtain ⟨u, hu⟩ : ∃ u, wr.cell? ⟨g, j, none⟩ = some u := by
        have hlt2 : j < (intCells (marksI k j) ++ L.drop j).length := by rw [List.length_append, intCells_len, marksI_len, List.length_drop, L0.out]; omega
        have h := R.out.cells (g := g) rfl j _ (List.getElem?_eq_getElem hlt2)
        rw [add_plain, Nat.zero_add] at h
        exact ⟨_, h⟩
      go_wp2
      go_roundw
      case rel => exact ⟨j + 1, by omega, by go_num, by go_num, by
        have h := (R.out.stored j (.int .i64 ((k + j : Nat) : Int))).1
        rw [set_markI (by rw [L0.out]; exact hlt)] at h
        simpa using h, grown_trans G.out (by simpa using (R.out.stored j (.int .i64 ((k + j : Nat) : Int))).2)⟩
      case measure => simp [intOf]; omega
    · obtain rfl : j = n := by omega
      go_wp2
      go_ret
      refine ⟨rfl, ?_, G.out⟩
      have h := R.out
      rw [List.drop_of_length_le (by rw [L0.out]; omega), List.append_nil] at h
      exact h

set_option maxHeartbeats 1600000 in
set_option maxRecDepth 100000 in
theorem heldIntS_any (a : Option Addr) (n cap k : Nat) (w : World) (h : IsInts w a n cap (marksI k n)) (hk : k ≤ 1000000000) (hn : n ≤ 1000000000) :
    Calls Try.prog 57 #[.slice a n cap, .int .i64 (k : Int)] w fun e w' => e = .returned (.int .i64 ((k + n : Nat) : Int)) ∧ w = w' := by
  have hm := h.2.2.1
  have hcl := h.2.1
  unfold maxLen at hm
  have S := Lib.hid h
  clear h
  go_enter Try.func57, Try.ntmps57
  go_wp2
  go_loop [1, 5] (fun q i => ∃ j : Nat, j ≤ n ∧ i = .int .i64 j ∧ q = .int .i64 ((k + j : Nat) : Int)) (fun _ i => n - (intOf i).toNat)
  case atStart => exact ⟨0, Nat.zero_le _, rfl, rfl⟩
  case round =>
    obtain ⟨j, hj, rfl, rfl⟩ := hrel
    by_cases hlt : j < n
    · obtain ⟨b, o, rfl, hb, hat⟩ := S.out.at (by omega)
      have c0 := hat j _ (marksI_at k n j hlt)
      have hj0 : (0 : Int) ≤ (j : Int) := by omega
      have hj1 : (j : Int) < (n : Int) := by omega
      clear hat
      go_wp2
      go_round
      case rel => exact ⟨j + 1, by omega, by go_num, by go_num⟩
      case measure => simp [intOf]; omega
    · obtain rfl : j = n := by omega
      go_wp2
      go_ret
      exact ⟨rfl, rfl⟩
end Go.Proofs.Ytffbljbgmgifnaa
