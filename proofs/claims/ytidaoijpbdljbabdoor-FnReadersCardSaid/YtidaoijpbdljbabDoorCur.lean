/- The laws' cursor over a code: each choice is some number within its bounds; nothing but the cursor's own block turns. -/
import Derived.Test.YtidaoijpbdljbabDoorBase
import Derived.Laws.OwnMore
import Derived.WalkLawsBesides
namespace Go.Proofs.YtidaoijpbdljbabDoor
open Go.RowKit

/-- What a law's walk is told of a slice of integers that came in. -/
def IsRow (k : IntKind) (w : World) (a : Option Addr) (len cap : Nat) (zs : List Int) : Prop :=
  (a = none ∧ len = 0 ∧ cap = 0 ∧ zs = []) ∨
  ∃ x, a = some x ∧ len ≤ cap ∧ cap ≤ maxLen ∧ zs.length = cap ∧ (∀ i, i < zs.length → w.cell? (x.add i) = some (.int k (zs.getD i 0))) ∧ ∀ n ∈ zs, (Lit.int k n).wf = true
/-- The code's bytes, in a block other than bc. -/
def CodeAt (w : World) (a : Option Addr) (len cap bc : Nat) : Prop :=
  len ≤ cap ∧ cap ≤ maxLen ∧ (len = 0 ∨ ∃ b o, a = some ⟨b, o, none⟩ ∧ b < w.heap.size ∧ b ≠ bc ∧ ∀ i, i < len → ∃ c : Int, 0 ≤ c ∧ c ≤ 255 ∧ w.cell? ⟨b, o + i, none⟩ = some (.int .u8 c))
/-- The cursor in block bc. -/
def CurAt (w : World) (bc : Nat) (a : Option Addr) (len cap t : Nat) : Prop :=
  ∃ (i : Nat) (seed : Int), i ≤ t ∧ 0 ≤ seed ∧ seed ≤ 18446744073709551615 ∧ w.heap[bc]? = some (.cells #[.slice a len cap, .int .i64 i, .int .u64 seed] 51 (0, 0))
theorem CodeAt.grown {w w' : World} {a : Option Addr} {len cap bc : Nat} (h : CodeAt w a len cap bc) (hg : w.grownBy w' (some bc)) : CodeAt w' a len cap bc := by
  refine ⟨h.1, h.2.1, ?_⟩
  rcases h.2.2 with h0 | ⟨b, o, rfl, h1, h2, h3⟩
  · exact .inl h0
  · refine .inr ⟨b, o, rfl, Nat.lt_of_lt_of_le h1 hg.size, h2, fun i hi => ?_⟩
    obtain ⟨c, c0, c1, hc⟩ := h3 i hi
    exact ⟨c, c0, c1, (World.cell?_of_block (w := w) (a := ⟨b, o + i, none⟩) (hg.block b h1 (by simpa using h2))).trans hc⟩

theorem and_255 (x : Int) (h0 : 0 ≤ x) (h1 : x ≤ 18446744073709551615) : 0 ≤ bits .and .u64 x 255 ∧ bits .and .u64 x 255 ≤ 255 := by
  obtain ⟨n, rfl⟩ := Int.eq_ofNat_of_zero_le h0
  have h := bits_and_u64_nat n 255 (by omega) (by omega)
  have e : ((255 : Nat) : Int) = 255 := rfl
  rw [e] at h
  rw [h]
  have := Nat.and_le_right (n := n) (m := 255)
  omega
theorem u64_bd (x : Int) : 0 ≤ IntKind.u64.wrap x ∧ IntKind.u64.wrap x ≤ 18446744073709551615 := by
  rw [IntKind.wrap_u64]; omega
theorem cur_step {w : World} {bc : Nat} {S : Value} {i : Nat} {seed : Int} (h : w.heap[bc]? = some (.cells #[S, .int .i64 i, .int .u64 seed] 51 (0, 0))) (m m2 : Nat) (s2 : Int) :
    ((((w.drewN m).setCell ⟨bc, 1, none⟩ (.int .i64 ((i : Int) + 1))).setCell ⟨bc, 2, none⟩ (.int .u64 s2)).drewN m2).heap[bc]? = some (.cells #[S, .int .i64 ((i + 1 : Nat) : Int), .int .u64 s2] 51 (0, 0)) ∧
    w.grownBy ((((w.drewN m).setCell ⟨bc, 1, none⟩ (.int .i64 ((i : Int) + 1))).setCell ⟨bc, 2, none⟩ (.int .u64 s2)).drewN m2) (some bc) := by
  have h1 := heap_setCell_same (w.drewN m) bc 1 #[S, .int .i64 i, .int .u64 seed] 51 (.int .i64 ((i : Int) + 1)) h
  have h2 := heap_setCell_same _ bc 2 _ 51 (.int .u64 s2) h1
  refine ⟨by
    have e : (((w.drewN m).setCell ⟨bc, 1, none⟩ (.int .i64 ((i : Int) + 1))).setCell ⟨bc, 2, none⟩ (.int .u64 s2)).heap[bc]? = some (.cells #[S, .int .i64 ((i + 1 : Nat) : Int), .int .u64 s2] 51 (0, 0)) := by
      rw [h2]; simp
    exact e, ⟨rfl, rfl, rfl, ?_, fun k _ hk => ?_⟩⟩
  · show w.heap.size ≤ (((w.drewN m).setCell ⟨bc, 1, none⟩ (.int .i64 ((i : Int) + 1))).setCell ⟨bc, 2, none⟩ (.int .u64 s2)).heap.size
    simp
  · have hk' : k ≠ bc := fun e => hk (by rw [e])
    show (((w.drewN m).setCell ⟨bc, 1, none⟩ (.int .i64 ((i : Int) + 1))).setCell ⟨bc, 2, none⟩ (.int .u64 s2)).heap[k]? = w.heap[k]?
    rw [heap_setCell_other _ ⟨bc, 2, none⟩ k _ hk', heap_setCell_other _ ⟨bc, 1, none⟩ k _ hk']
    rfl

/-- What a draw of a number below n gives. -/
def PickPost (bc : Nat) (a : Option Addr) (len cap t : Nat) (n : Int) (w : World) (e : Ending) (w' : World) : Prop := ∃ x : Int, e = .returned (.int .i64 x) ∧ 0 ≤ x ∧ x < n ∧ CurAt w' bc a len cap t ∧ w.grownBy w' (some bc)
set_option maxHeartbeats 1600000 in
set_option maxRecDepth 100000 in
theorem next_any (bc : Nat) (a : Option Addr) (len cap t : Nat) (w : World) (hc : CurAt w bc a len cap t) (hd : CodeAt w a len cap bc) (ht : t ≤ 1000000) :
    Calls Tryd.prog 64 #[.pointer (some ⟨bc, 0, none⟩)] w (PickPost bc a len cap (t + 1) 256 w) := by
  obtain ⟨i, seed, hi, hs0, hs1, hh⟩ := hc
  obtain ⟨hlc, hcm, hcode⟩ := hd
  have c0 : w.cell? ⟨bc, 0, none⟩ = some (.slice a len cap) := by simp [World.cell?, hh]
  have c1 : w.cell? ⟨bc, 1, none⟩ = some (.int .i64 i) := by simp [World.cell?, hh]
  have c2 : w.cell? ⟨bc, 2, none⟩ = some (.int .u64 seed) := by simp [World.cell?, hh]
  have f1 : w.frozen? ⟨bc, 1, none⟩ = false := by simp [World.frozen?, hh]
  have f2 : w.frozen? ⟨bc, 2, none⟩ = false := by simp [World.frozen?, hh]
  have HH := Lib.hid hh
  unfold maxLen at hcm
  clear hh
  have i0 : (0 : Int) ≤ (i : Int) := by omega
  by_cases hlt : i < len
  · rcases hcode with h0 | ⟨b, o, rfl, hb, hne, hcells⟩
    · omega
    obtain ⟨c, k0, k1, hcell⟩ := hcells i hlt
    have i1 : (i : Int) < (len : Int) := by omega
    have i2 : (i : Int) + 1 ≤ (len : Int) := by omega
    clear hcells
    go_enter Tryd.func64, Tryd.ntmps64
    go_wp2
    go_quiet (fail)
    go_wp2
    go_quiet (fail)
    go_wp2
    go_quiet (fail)
    go_wp2
    go_ret
    exact ⟨c, rfl, k0, by omega, ⟨i + 1, _, by omega, (u64_bd _).1, (u64_bd _).2, (cur_step HH.out _ _ _).1⟩, (cur_step HH.out _ _ _).2⟩
  · have i1 : decide ((i : Int) < (len : Int)) = false := by simp; omega
    go_enter Tryd.func64, Tryd.ntmps64
    go_wp2
    have i2 : decide ((i : Int) + 1 ≤ (len : Int)) = false := by simp; omega
    go_quiet (fail)
    go_wp2
    go_quiet (fail)
    go_wp2
    go_ret
    obtain ⟨s0, s1⟩ := u64_bd (IntKind.u64.wrap (IntKind.u64.wrap (seed * 6364136223846793005)) + 604171)
    obtain ⟨x0, x1⟩ := and_255 (IntKind.u64.wrap (IntKind.u64.wrap (IntKind.u64.wrap (seed * 6364136223846793005)) + 604171) / 1099511627776) (by omega) (by omega)
    exact ⟨_, ret_int (by unfold wrap64; omega), x0, by omega, ⟨i + 1, _, by omega, s0, s1, (cur_step HH.out _ _ _).1⟩, (cur_step HH.out _ _ _).2⟩
theorem CurAt.more {w : World} {bc : Nat} {a : Option Addr} {len cap t t' : Nat} (h : CurAt w bc a len cap t) (ht : t ≤ t') : CurAt w bc a len cap t' := by
  obtain ⟨i, s, h1, r⟩ := h
  exact ⟨i, s, by omega, r⟩
theorem CurAt.heap {w w' : World} {bc : Nat} {a : Option Addr} {len cap t : Nat} (h : CurAt w bc a len cap t) (hh : w'.heap[bc]? = w.heap[bc]?) : CurAt w' bc a len cap t := by
  obtain ⟨i, s, h1, h2, h3, h4⟩ := h
  exact ⟨i, s, h1, h2, h3, hh.trans h4⟩
theorem CurAt.lt {w : World} {bc : Nat} {a : Option Addr} {len cap t : Nat} (h : CurAt w bc a len cap t) : bc < w.heap.size := by
  obtain ⟨i, s, h1, h2, h3, h4⟩ := h
  exact (Array.getElem?_eq_some_iff.1 h4).1

set_option maxHeartbeats 800000 in
theorem pick_any (bc : Nat) (a : Option Addr) (len cap t n : Nat) (w : World) (hc : CurAt w bc a len cap t) (hd : CodeAt w a len cap bc) (ht : t ≤ 900000) (hn0 : 1 ≤ n) (hn : n ≤ 65536) :
    Calls Tryd.prog 54 #[.pointer (some ⟨bc, 0, none⟩), .int .i64 n] w (PickPost bc a len cap (t + 2) n w) := by
  have C := Lib.hid hc
  have D := Lib.hid hd
  clear hc hd
  by_cases h1 : n = 1
  · subst h1
    go_enter Tryd.func54, Tryd.ntmps54
    go_wp2
    go_ret
    exact ⟨0, rfl, by omega, by omega, C.out.more (by omega), World.grownBy.refl _ _⟩
  have h2 : 1 < n := by omega
  by_cases h200 : 200 < n
  · go_enter Tryd.func54, Tryd.ntmps54
    go_wp2_with fail
    refine (next_any bc a len cap t _ C.out D.out (by omega)).mono ?_
    rintro e w1 ⟨x, rfl, x0, x1, hc1, hg1⟩
    have C1 := Lib.hid hc1
    have G1 := Lib.hid hg1
    clear hc1 hg1
    go_wp2_with fail
    refine (next_any bc a len cap (t + 1) _ C1.out (D.out.grown G1.out) (by omega)).mono ?_
    rintro e w2 ⟨y, rfl, y0, y1, hc2, hg2⟩
    have C2 := Lib.hid hc2
    have G2 := Lib.hid (grown_trans G1.out hg2)
    clear hc2 hg2
    have hnn : ((n : Int) == 0) = false := by simp; omega
    go_wp2
    go_ret
    exact ⟨_, rfl, Int.emod_nonneg _ (by omega), Int.emod_lt_of_pos _ (by omega), C2.out, G2.out⟩
  · have h200' : n ≤ 200 := by omega
    go_enter Tryd.func54, Tryd.ntmps54
    go_wp2_with fail
    refine (next_any bc a len cap t _ C.out D.out (by omega)).mono ?_
    rintro e w1 ⟨x, rfl, x0, x1, hc1, hg1⟩
    have C1 := Lib.hid hc1
    have G1 := Lib.hid hg1
    clear hc1 hg1
    have hnn : ((n : Int) == 0) = false := by simp; omega
    go_wp2
    go_ret
    exact ⟨_, rfl, Int.emod_nonneg _ (by omega), Int.emod_lt_of_pos _ (by omega), C1.out.more (by omega), G1.out⟩

/-- A choice: yes or no. -/
def OnePost (bc : Nat) (a : Option Addr) (len cap t : Nat) (w : World) (e : Ending) (w' : World) : Prop := ∃ b : Bool, e = .returned (.bool b) ∧ CurAt w' bc a len cap t ∧ w.grownBy w' (some bc)
theorem one_any (bc : Nat) (a : Option Addr) (len cap t n : Nat) (w : World) (hc : CurAt w bc a len cap t) (hd : CodeAt w a len cap bc) (ht : t ≤ 900000) (hn0 : 1 ≤ n) (hn : n ≤ 65536) :
    Calls Tryd.prog 56 #[.pointer (some ⟨bc, 0, none⟩), .int .i64 n] w (OnePost bc a len cap (t + 2) w) := by
  have C := Lib.hid hc
  have D := Lib.hid hd
  clear hc hd
  go_enter Tryd.func56, Tryd.ntmps56
  go_wp2_with fail
  refine (pick_any bc a len cap t n _ C.out D.out ht hn0 hn).mono ?_
  rintro e w1 ⟨x, rfl, x0, x1, hc1, hg1⟩
  have C1 := Lib.hid hc1
  have G1 := Lib.hid hg1
  clear hc1 hg1
  go_wp2
  go_ret
  exact ⟨_, rfl, C1.out, G1.out⟩

/-- One of some texts, none longer than m. -/
def OfPost (bc : Nat) (a : Option Addr) (len cap t m : Nat) (w : World) (e : Ending) (w' : World) : Prop := ∃ x : ByteArray, e = .returned (.string x) ∧ x.size ≤ m ∧ CurAt w' bc a len cap t ∧ w.grownBy w' (some bc)
set_option maxHeartbeats 800000 in
theorem of_any (bc : Nat) (a : Option Addr) (len cap t m b o ln lc : Nat) (w : World) (hc : CurAt w bc a len cap t) (hd : CodeAt w a len cap bc) (ht : t ≤ 900000) (hn0 : 1 ≤ ln) (hn : ln ≤ 1000) (hb : b ≠ bc) (hbs : b < w.heap.size)
    (hl : ∀ i, i < ln → ∃ x : ByteArray, x.size ≤ m ∧ w.cell? ⟨b, o + i, none⟩ = some (.string x)) :
    Calls Tryd.prog 26 #[.pointer (some ⟨bc, 0, none⟩), .slice (some ⟨b, o, none⟩) ln lc] w (OfPost bc a len cap (t + 2) m w) := by
  have C := Lib.hid hc
  have D := Lib.hid hd
  have L := Lib.hid hl
  clear hc hd hl
  go_enter Tryd.func26, Tryd.ntmps26
  go_wp2_with fail
  refine (pick_any bc a len cap t ln _ C.out D.out ht hn0 (by omega)).mono ?_
  rintro e w1 ⟨x, rfl, x0, x1, hc1, hg1⟩
  obtain ⟨i, rfl⟩ := Int.eq_ofNat_of_zero_le x0
  obtain ⟨s, hs, hcell⟩ := L.out i (by omega)
  have hcell1 : w1.cell? ⟨b, o + i, none⟩ = some (.string s) := (World.cell?_of_block (w := w) (a := ⟨b, o + i, none⟩) (hg1.block b hbs (by simpa using hb))).trans hcell
  have C1 := Lib.hid hc1
  have G1 := Lib.hid hg1
  clear hc1 hg1 hcell
  go_wp2
  go_ret
  exact ⟨_, rfl, hs, C1.out, G1.out⟩

/-- One of some numbers, all between lo and hi. -/
def AmongPost (bc : Nat) (a : Option Addr) (len cap t : Nat) (lo hi : Int) (w : World) (e : Ending) (w' : World) : Prop := ∃ x : Int, e = .returned (.int .i64 x) ∧ lo ≤ x ∧ x ≤ hi ∧ CurAt w' bc a len cap t ∧ w.grownBy w' (some bc)
set_option maxHeartbeats 800000 in
theorem among_any (bc : Nat) (a : Option Addr) (len cap t b o ln lc : Nat) (lo hi : Int) (w : World) (hc : CurAt w bc a len cap t) (hd : CodeAt w a len cap bc) (ht : t ≤ 900000) (hn0 : 1 ≤ ln) (hn : ln ≤ 1000) (hb : b ≠ bc) (hbs : b < w.heap.size)
    (hl : ∀ i, i < ln → ∃ x : Int, lo ≤ x ∧ x ≤ hi ∧ w.cell? ⟨b, o + i, none⟩ = some (.int .i64 x)) :
    Calls Tryd.prog 57 #[.pointer (some ⟨bc, 0, none⟩), .slice (some ⟨b, o, none⟩) ln lc] w (AmongPost bc a len cap (t + 2) lo hi w) := by
  have C := Lib.hid hc
  have D := Lib.hid hd
  have L := Lib.hid hl
  clear hc hd hl
  go_enter Tryd.func57, Tryd.ntmps57
  go_wp2_with fail
  refine (pick_any bc a len cap t ln _ C.out D.out ht hn0 (by omega)).mono ?_
  rintro e w1 ⟨x, rfl, x0, x1, hc1, hg1⟩
  obtain ⟨i, rfl⟩ := Int.eq_ofNat_of_zero_le x0
  obtain ⟨s, hs0, hs1, hcell⟩ := L.out i (by omega)
  have hcell1 : w1.cell? ⟨b, o + i, none⟩ = some (.int .i64 s) := (World.cell?_of_block (w := w) (a := ⟨b, o + i, none⟩) (hg1.block b hbs (by simpa using hb))).trans hcell
  have C1 := Lib.hid hc1
  have G1 := Lib.hid hg1
  clear hc1 hg1 hcell
  go_wp2
  go_ret
  exact ⟨_, rfl, hs0, hs1, C1.out, G1.out⟩
end Go.Proofs.YtidaoijpbdljbabDoor
