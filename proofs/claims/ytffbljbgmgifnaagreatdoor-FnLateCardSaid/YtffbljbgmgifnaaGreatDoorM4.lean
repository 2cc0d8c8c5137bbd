/- Texts in one: Cur, Draw0, DrawB, LoanR, LoDr, Rd2, AreLoansP, Los. -/
import Derived.Test.YtffbljbgmgifnaaGreatDoorM1
import Derived.Laws.OwnMore
import Derived.WalkLawsBesides
import Derived.Deep.RegionHeld3
import Derived.Deep.DeepCutAuto
import Derived.Test.YtffbljbgmgifnaaGreatDoorM2
import Derived.Lib.QuietBelow
import Derived.Test.YtffbljbgmgifnaaGreatDoorM3
namespace Go.Proofs.YtffbljbgmgifnaaGreatDoor
open Go.RowKit

/-- What a law's walk is told of a slice of integers that came in. -/
def IsRow (k : IntKind) (w : World) (a : Option Addr) (len cap : Nat) (zs : List Int) : Prop :=
  (a = none ∧ len = 0 ∧ cap = 0 ∧ zs = []) ∨
  ∃ x, a = some x ∧ len ≤ cap ∧ cap ≤ maxLen ∧ zs.length = cap ∧ (∀ i, i < zs.length → w.cell? (x.add i) = some (.int k (zs.getD i 0))) ∧ ∀ n ∈ zs, (Lit.int k n).wf = true
/-- The code's bytes, in a block other than bc. -/
def CodeAt (w : World) (a : Option Addr) (len cap bc : Nat) : Prop :=
  len ≤ cap ∧ cap ≤ maxLen ∧ (len = 0 ∨ ∃ b o, a = some ⟨b, o, none⟩ ∧ b < w.heap.size ∧ b ≠ bc ∧ ∀ i, i < len → ∃ c : Int, 0 ≤ c ∧ c ≤ 255 ∧ w.cell? ⟨b, o + i, none⟩ = some (.int .u8 c))
/-- The cursor in block bc. -/
def CurAt (w : World) (bc : Nat) (a : Option Addr) (len cap t : Nat) : Prop :=
  ∃ (i : Nat) (seed : Int), i ≤ t ∧ 0 ≤ seed ∧ seed ≤ 18446744073709551615 ∧ w.heap[bc]? = some (.cells #[.slice a len cap, .int .i64 i, .int .u64 seed] 51 (0, 0))
theorem CodeAt.grown {w w' : World} {a : Option Addr} {len cap bc : Nat} (h : CodeAt w a len cap bc) (hg : w.grownBy w' (some bc)) : CodeAt w' a len cap bc := by
  refine ⟨h.1, h.2.1, ?_⟩
  rcases h.2.2 with h0 | ⟨b, o, rfl, h1, h2, h3⟩
  · exact .inl h0
  · refine .inr ⟨b, o, rfl, Nat.lt_of_lt_of_le h1 hg.size, h2, fun i hi => ?_⟩
    obtain ⟨c, c0, c1, hc⟩ := h3 i hi
    exact ⟨c, c0, c1, (World.cell?_of_block (w := w) (a := ⟨b, o + i, none⟩) (hg.block b h1 (by simpa using h2))).trans hc⟩

theorem and_255 (x : Int) (h0 : 0 ≤ x) (h1 : x ≤ 18446744073709551615) : 0 ≤ bits .and .u64 x 255 ∧ bits .and .u64 x 255 ≤ 255 := by
  obtain ⟨n, rfl⟩ := Int.eq_ofNat_of_zero_le h0
  have h := bits_and_u64_nat n 255 (by omega) (by omega)
  have e : ((255 : Nat) : Int) = 255 := rfl
  rw [e] at h
  rw [h]
  have := Nat.and_le_right (n := n) (m := 255)
  omega
theorem u64_bd (x : Int) : 0 ≤ IntKind.u64.wrap x ∧ IntKind.u64.wrap x ≤ 18446744073709551615 := by
  rw [IntKind.wrap_u64]; omega
theorem cur_step {w : World} {bc : Nat} {S : Value} {i : Nat} {seed : Int} (h : w.heap[bc]? = some (.cells #[S, .int .i64 i, .int .u64 seed] 51 (0, 0))) (m m2 : Nat) (s2 : Int) :
    ((((w.drewN m).setCell ⟨bc, 1, none⟩ (.int .i64 ((i : Int) + 1))).setCell ⟨bc, 2, none⟩ (.int .u64 s2)).drewN m2).heap[bc]? = some (.cells #[S, .int .i64 ((i + 1 : Nat) : Int), .int .u64 s2] 51 (0, 0)) ∧
    w.grownBy ((((w.drewN m).setCell ⟨bc, 1, none⟩ (.int .i64 ((i : Int) + 1))).setCell ⟨bc, 2, none⟩ (.int .u64 s2)).drewN m2) (some bc) := by
  have h1 := heap_setCell_same (w.drewN m) bc 1 #[S, .int .i64 i, .int .u64 seed] 51 (.int .i64 ((i : Int) + 1)) h
  have h2 := heap_setCell_same _ bc 2 _ 51 (.int .u64 s2) h1
  refine ⟨by
    have e : (((w.drewN m).setCell ⟨bc, 1, none⟩ (.int .i64 ((i : Int) + 1))).setCell ⟨bc, 2, none⟩ (.int .u64 s2)).heap[bc]? = some (.cells #[S, .int .i64 ((i + 1 : Nat) : Int), .int .u64 s2] 51 (0, 0)) := by
      rw [h2]; simp
    exact e, ⟨rfl, rfl, rfl, ?_, fun k _ hk => ?_⟩⟩
  · show w.heap.size ≤ (((w.drewN m).setCell ⟨bc, 1, none⟩ (.int .i64 ((i : Int) + 1))).setCell ⟨bc, 2, none⟩ (.int .u64 s2)).heap.size
    simp
  · have hk' : k ≠ bc := fun e => hk (by rw [e])
    show (((w.drewN m).setCell ⟨bc, 1, none⟩ (.int .i64 ((i : Int) + 1))).setCell ⟨bc, 2, none⟩ (.int .u64 s2)).heap[k]? = w.heap[k]?
    rw [heap_setCell_other _ ⟨bc, 2, none⟩ k _ hk', heap_setCell_other _ ⟨bc, 1, none⟩ k _ hk']
    rfl

/-- What a draw of a number below n gives. -/
def PickPost (bc : Nat) (a : Option Addr) (len cap t : Nat) (n : Int) (w : World) (e : Ending) (w' : World) : Prop := ∃ x : Int, e = .returned (.int .i64 x) ∧ 0 ≤ x ∧ x < n ∧ CurAt w' bc a len cap t ∧ w.grownBy w' (some bc)
set_option maxHeartbeats 1600000 in
set_option maxRecDepth 100000 in
theorem next_any (bc : Nat) (a : Option Addr) (len cap t : Nat) (w : World) (hc : CurAt w bc a len cap t) (hd : CodeAt w a len cap bc) (ht : t ≤ 1000000) :
    Calls Tryz.prog 74 #[.pointer (some ⟨bc, 0, none⟩)] w (PickPost bc a len cap (t + 1) 256 w) := by
  obtain ⟨i, seed, hi, hs0, hs1, hh⟩ := hc
  obtain ⟨hlc, hcm, hcode⟩ := hd
  have c0 : w.cell? ⟨bc, 0, none⟩ = some (.slice a len cap) := by simp [World.cell?, hh]
  have c1 : w.cell? ⟨bc, 1, none⟩ = some (.int .i64 i) := by simp [World.cell?, hh]
  have c2 : w.cell? ⟨bc, 2, none⟩ = some (.int .u64 seed) := by simp [World.cell?, hh]
  have f1 : w.frozen? ⟨bc, 1, none⟩ = false := by simp [World.frozen?, hh]
  have f2 : w.frozen? ⟨bc, 2, none⟩ = false := by simp [World.frozen?, hh]
  have HH := Lib.hid hh
  unfold maxLen at hcm
  clear hh
  have i0 : (0 : Int) ≤ (i : Int) := by omega
  by_cases hlt : i < len
  · rcases hcode with h0 | ⟨b, o, rfl, hb, hne, hcells⟩
    · omega
    obtain ⟨c, k0, k1, hcell⟩ := hcells i hlt
    have i1 : (i : Int) < (len : Int) := by omega
    have i2 : (i : Int) + 1 ≤ (len : Int) := by omega
    clear hcells
    go_enter Tryz.func74, Tryz.ntmps74
    go_wp2
    go_quiet (fail)
    go_wp2
    go_quiet (fail)
    go_wp2
    go_quiet (fail)
    go_wp2
    go_ret
    exact ⟨c, rfl, k0, by omega, ⟨i + 1, _, by omega, (u64_bd _).1, (u64_bd _).2, (cur_step HH.out _ _ _).1⟩, (cur_step HH.out _ _ _).2⟩
  · have i1 : decide ((i : Int) < (len : Int)) = false := by simp; omega
    go_enter Tryz.func74, Tryz.ntmps74
    go_wp2
    have i2 : decide ((i : Int) + 1 ≤ (len : Int)) = false := by simp; omega
    go_quiet (fail)
    go_wp2
    go_quiet (fail)
    go_wp2
    go_ret
    obtain ⟨s0, s1⟩ := u64_bd (IntKind.u64.wrap (IntKind.u64.wrap (seed * 6364136223846793005)) + 604171)
    obtain ⟨x0, x1⟩ := and_255 (IntKind.u64.wrap (IntKind.u64.wrap (IntKind.u64.wrap (seed * 6364136223846793005)) + 604171) / 1099511627776) (by omega) (by omega)
    exact ⟨_, ret_int (by unfold wrap64; omega), x0, by omega, ⟨i + 1, _, by omega, s0, s1, (cur_step HH.out _ _ _).1⟩, (cur_step HH.out _ _ _).2⟩
theorem CurAt.more {w : World} {bc : Nat} {a : Option Addr} {len cap t t' : Nat} (h : CurAt w bc a len cap t) (ht : t ≤ t') : CurAt w bc a len cap t' := by
  obtain ⟨i, s, h1, r⟩ := h
  exact ⟨i, s, by omega, r⟩
theorem CurAt.heap {w w' : World} {bc : Nat} {a : Option Addr} {len cap t : Nat} (h : CurAt w bc a len cap t) (hh : w'.heap[bc]? = w.heap[bc]?) : CurAt w' bc a len cap t := by
  obtain ⟨i, s, h1, h2, h3, h4⟩ := h
  exact ⟨i, s, h1, h2, h3, hh.trans h4⟩
theorem CurAt.lt {w : World} {bc : Nat} {a : Option Addr} {len cap t : Nat} (h : CurAt w bc a len cap t) : bc < w.heap.size := by
  obtain ⟨i, s, h1, h2, h3, h4⟩ := h
  exact (Array.getElem?_eq_some_iff.1 h4).1

set_option maxHeartbeats 800000 in
theorem pick_any (bc : Nat) (a : Option Addr) (len cap t n : Nat) (w : World) (hc : CurAt w bc a len cap t) (hd : CodeAt w a len cap bc) (ht : t ≤ 900000) (hn0 : 1 ≤ n) (hn : n ≤ 65536) :
    Calls Tryz.prog 42 #[.pointer (some ⟨bc, 0, none⟩), .int .i64 n] w (PickPost bc a len cap (t + 2) n w) := by
  have C := Lib.hid hc
  have D := Lib.hid hd
  clear hc hd
  by_cases h1 : n = 1
  · subst h1
    go_enter Tryz.func42, Tryz.ntmps42
    go_wp2
    go_ret
    exact ⟨0, rfl, by omega, by omega, C.out.more (by omega), World.grownBy.refl _ _⟩
  have h2 : 1 < n := by omega
  by_cases h200 : 200 < n
  · go_enter Tryz.func42, Tryz.ntmps42
    go_wp2_with fail
    refine (next_any bc a len cap t _ C.out D.out (by omega)).mono ?_
    rintro e w1 ⟨x, rfl, x0, x1, hc1, hg1⟩
    have C1 := Lib.hid hc1
    have G1 := Lib.hid hg1
    clear hc1 hg1
    go_wp2_with fail
    refine (next_any bc a len cap (t + 1) _ C1.out (D.out.grown G1.out) (by omega)).mono ?_
    rintro e w2 ⟨y, rfl, y0, y1, hc2, hg2⟩
    have C2 := Lib.hid hc2
    have G2 := Lib.hid (grown_trans G1.out hg2)
    clear hc2 hg2
    have hnn : ((n : Int) == 0) = false := by simp; omega
    go_wp2
    go_ret
    exact ⟨_, rfl, Int.emod_nonneg _ (by omega), Int.emod_lt_of_pos _ (by omega), C2.out, G2.out⟩
  · have h200' : n ≤ 200 := by omega
    go_enter Tryz.func42, Tryz.ntmps42
    go_wp2_with fail
    refine (next_any bc a len cap t _ C.out D.out (by omega)).mono ?_
    rintro e w1 ⟨x, rfl, x0, x1, hc1, hg1⟩
    have C1 := Lib.hid hc1
    have G1 := Lib.hid hg1
    clear hc1 hg1
    have hnn : ((n : Int) == 0) = false := by simp; omega
    go_wp2
    go_ret
    exact ⟨_, rfl, Int.emod_nonneg _ (by omega), Int.emod_lt_of_pos _ (by omega), C1.out.more (by omega), G1.out⟩

/-- A choice: yes or no. -/
def OnePost (bc : Nat) (a : Option Addr) (len cap t : Nat) (w : World) (e : Ending) (w' : World) : Prop := ∃ b : Bool, e = .returned (.bool b) ∧ CurAt w' bc a len cap t ∧ w.grownBy w' (some bc)
theorem one_any (bc : Nat) (a : Option Addr) (len cap t n : Nat) (w : World) (hc : CurAt w bc a len cap t) (hd : CodeAt w a len cap bc) (ht : t ≤ 900000) (hn0 : 1 ≤ n) (hn : n ≤ 65536) :
    Calls Tryz.prog 65 #[.pointer (some ⟨bc, 0, none⟩), .int .i64 n] w (OnePost bc a len cap (t + 2) w) := by
  have C := Lib.hid hc
  have D := Lib.hid hd
  clear hc hd
  go_enter Tryz.func65, Tryz.ntmps65
  go_wp2_with fail
  refine (pick_any bc a len cap t n _ C.out D.out ht hn0 hn).mono ?_
  rintro e w1 ⟨x, rfl, x0, x1, hc1, hg1⟩
  have C1 := Lib.hid hc1
  have G1 := Lib.hid hg1
  clear hc1 hg1
  go_wp2
  go_ret
  exact ⟨_, rfl, C1.out, G1.out⟩

/-- One of some texts, none longer than m. -/
def OfPost (bc : Nat) (a : Option Addr) (len cap t m : Nat) (w : World) (e : Ending) (w' : World) : Prop := ∃ x : ByteArray, e = .returned (.string x) ∧ x.size ≤ m ∧ CurAt w' bc a len cap t ∧ w.grownBy w' (some bc)
/-- One of some numbers, all between lo and hi. -/
def AmongPost (bc : Nat) (a : Option Addr) (len cap t : Nat) (lo hi : Int) (w : World) (e : Ending) (w' : World) : Prop := ∃ x : Int, e = .returned (.int .i64 x) ∧ lo ≤ x ∧ x ≤ hi ∧ CurAt w' bc a len cap t ∧ w.grownBy w' (some bc)
set_option maxHeartbeats 800000 in
theorem among_any (bc : Nat) (a : Option Addr) (len cap t b o ln lc : Nat) (lo hi : Int) (w : World) (hc : CurAt w bc a len cap t) (hd : CodeAt w a len cap bc) (ht : t ≤ 900000) (hn0 : 1 ≤ ln) (hn : ln ≤ 1000) (hb : b ≠ bc) (hbs : b < w.heap.size)
    (hl : ∀ i, i < ln → ∃ x : Int, lo ≤ x ∧ x ≤ hi ∧ w.cell? ⟨b, o + i, none⟩ = some (.int .i64 x)) :
    Calls Tryz.prog 41 #[.pointer (some ⟨bc, 0, none⟩), .slice (some ⟨b, o, none⟩) ln lc] w (AmongPost bc a len cap (t + 2) lo hi w) := by
  have C := Lib.hid hc
  have D := Lib.hid hd
  have L := Lib.hid hl
  clear hc hd hl
  go_enter Tryz.func41, Tryz.ntmps41
  go_wp2_with fail
  refine (pick_any bc a len cap t ln _ C.out D.out ht hn0 (by omega)).mono ?_
  rintro e w1 ⟨x, rfl, x0, x1, hc1, hg1⟩
  obtain ⟨i, rfl⟩ := Int.eq_ofNat_of_zero_le x0
  obtain ⟨s, hs0, hs1, hcell⟩ := L.out i (by omega)
  have hcell1 : w1.cell? ⟨b, o + i, none⟩ = some (.int .i64 s) := (World.cell?_of_block (w := w) (a := ⟨b, o + i, none⟩) (hg1.block b hbs (by simpa using hb))).trans hcell
  have C1 := Lib.hid hc1
  have G1 := Lib.hid hg1
  clear hc1 hg1 hcell
  go_wp2
  go_ret
  exact ⟨_, rfl, hs0, hs1, C1.out, G1.out⟩
end Go.Proofs.YtffbljbgmgifnaaGreatDoor
namespace Go.Proofs.YtffbljbgmgifnaaGreatDoor
open Go.RowKit

/-- The code as the law holds it: some bytes of the world as it came in. -/
def CodeIn (w : World) (a : Option Addr) (len cap : Nat) : Prop :=
  len ≤ cap ∧ cap ≤ maxLen ∧ (len = 0 ∨ ∃ b o, a = some ⟨b, o, none⟩ ∧ b < w.heap.size ∧ ∀ i, i < len → ∃ c : Int, 0 ≤ c ∧ c ≤ 255 ∧ w.cell? ⟨b, o + i, none⟩ = some (.int .u8 c))
theorem u8_wf {n : Int} (h : (Lit.int .u8 n).wf = true) : 0 ≤ n ∧ n ≤ 255 := by
  simp [Lit.wf] at h
  have e0 : IntKind.u8.min = 0 := by decide
  have e1 : IntKind.u8.max = 255 := by decide
  omega
theorem CodeIn.of_row {w : World} {a : Option Addr} {len cap : Nat} {zs : List Int} (h : IsRow .u8 w a len cap zs) : CodeIn w a len cap := by
  rcases h with ⟨rfl, rfl, rfl, rfl⟩ | ⟨x, rfl, h1, h2, h3, h4, h5⟩
  · exact ⟨by omega, by simp, .inl rfl⟩
  · refine ⟨h1, h2, ?_⟩
    by_cases h0 : len = 0
    · exact .inl h0
    obtain ⟨b, o, spot⟩ := x
    have k1 := h4 0 (by omega)
    have hspot : spot = none := by simpa [Addr.add] using World.cell?_spot k1
    subst hspot
    refine .inr ⟨b, o, rfl, ?_, fun i hi => ?_⟩
    · have : w.cell? ⟨b, o, none⟩ ≠ none := by
        have := k1
        simp [Addr.add] at this
        rw [this]; simp
      by_cases hb : b < w.heap.size
      · exact hb
      · exfalso; apply this; simp [World.cell?, Array.getElem?_eq_none (Nat.le_of_not_lt hb)]
    · have hc := h4 i (by omega)
      rw [add_plain] at hc
      have hw := h5 (zs.getD i 0) (by
        have hi' : i < zs.length := by omega
        rw [List.getD_eq_getElem?_getD, List.getElem?_eq_getElem hi']
        exact List.getElem_mem hi')
      obtain ⟨b0, b1⟩ := u8_wf hw
      exact ⟨zs.getD i 0, b0, b1, hc⟩
theorem CodeIn.below {w w' : World} {a : Option Addr} {len cap : Nat} (h : CodeIn w a len cap) (hb : Below w.heap.size w w') : CodeIn w' a len cap := by
  refine ⟨h.1, h.2.1, ?_⟩
  rcases h.2.2 with h0 | ⟨b, o, rfl, h1, h2⟩
  · exact .inl h0
  · refine .inr ⟨b, o, rfl, Nat.lt_of_lt_of_le h1 hb.size, fun i hi => ?_⟩
    obtain ⟨c, c0, c1, hc⟩ := h2 i hi
    exact ⟨c, c0, c1, (hb.cell (p := ⟨b, o + i, none⟩) h1).trans hc⟩
theorem CodeIn.at {w w' : World} {a : Option Addr} {len cap : Nat} (h : CodeIn w a len cap) (hb : Below w.heap.size w w') : CodeAt w' a len cap w.heap.size := by
  refine ⟨h.1, h.2.1, ?_⟩
  rcases (h.below hb).2.2 with h0 | ⟨b, o, rfl, h1, h2⟩
  · exact .inl h0
  · by_cases h0 : len = 0
    · exact .inl h0
    refine .inr ⟨b, o, rfl, h1, ?_, h2⟩
    rcases h.2.2 with h00 | ⟨b', o', e, h1', _⟩
    · omega
    · cases e; omega
theorem bel_alloc (w : World) (o : Obj) : Below w.heap.size w (w.alloc o) := (Below.refl _ _).alloc (Nat.le_refl _) o
theorem lits_of (w : World) (C : Array Value) (T : TypeId) (m n : Nat) (hn : C.size = n) (hC : ∀ v ∈ C.toList, ∃ x : ByteArray, x.size ≤ m ∧ v = .string x) : ∀ i, i < n → ∃ x : ByteArray, x.size ≤ m ∧ (w.alloc (.cells C T)).cell? ⟨w.heap.size, 0 + i, none⟩ = some (.string x) := by
  subst hn
  intro i hi
  obtain ⟨x, hx, e⟩ := hC C[i] (by simp)
  refine ⟨x, hx, ?_⟩
  rw [World.cell?_alloc_new, Nat.zero_add, Array.getElem?_eq_getElem hi, e]
theorem CurAt.alloc {w : World} {bc : Nat} {a : Option Addr} {len cap t : Nat} (h : CurAt w bc a len cap t) (o : Obj) : CurAt (w.alloc o) bc a len cap t := h.heap (Below.heap_alloc w o bc h.lt)
theorem CodeAt.alloc {w : World} {bc : Nat} {a : Option Addr} {len cap : Nat} (h : CodeAt w a len cap bc) (o : Obj) : CodeAt (w.alloc o) a len cap bc := h.grown (grown_below (bel_alloc w o) _)

theorem below_cur {w w0 w' : World} {row : Option Nat} (hb : Below w.heap.size w w0) (hr : row = some w.heap.size) (hg : w0.grownBy w' row) : Below w.heap.size w w' := hb.grown hg hb.size (fun k e => by rw [hr] at e; cases e; exact Nat.le_refl _)
theorem cur_new (w : World) (a : Option Addr) (len cap : Nat) : CurAt (w.alloc (.cells #[.slice a len cap, .int .i64 0, .int .u64 0] 51)) w.heap.size a len cap 0 := ⟨0, 0, Nat.le_refl _, by omega, by omega, by
  show (w.heap.push _)[w.heap.size]? = _
  simp⟩
end Go.Proofs.YtffbljbgmgifnaaGreatDoor
namespace Go.Proofs.YtffbljbgmgifnaaGreatDoor
open Go.RowKit

theorem ints_at (w : World) (C : Array Value) (T : TypeId) (lo hi : Int) (n B : Nat) (hB : w.heap.size = B) (hn : C.size = n) (hC : ∀ v ∈ C.toList, ∃ x : Int, lo ≤ x ∧ x ≤ hi ∧ v = .int .i64 x) : ∀ i, i < n → ∃ x : Int, lo ≤ x ∧ x ≤ hi ∧ (w.alloc (.cells C T)).cell? ⟨B, 0 + i, none⟩ = some (.int .i64 x) := by
  subst hn hB
  intro i hi'
  obtain ⟨x, h1, h2, e⟩ := hC C[i] (by simp)
  refine ⟨x, h1, h2, ?_⟩
  rw [World.cell?_alloc_new, Nat.zero_add, Array.getElem?_eq_getElem hi', e]
theorem strs_at (w : World) (C : Array Value) (T : TypeId) (m n B : Nat) (hB : w.heap.size = B) (hn : C.size = n) (hC : ∀ v ∈ C.toList, ∃ x : ByteArray, x.size ≤ m ∧ v = .string x) : ∀ i, i < n → ∃ x : ByteArray, x.size ≤ m ∧ (w.alloc (.cells C T)).cell? ⟨B, 0 + i, none⟩ = some (.string x) := by
  subst hn hB
  intro i hi'
  obtain ⟨x, h1, e⟩ := hC C[i] (by simp)
  refine ⟨x, h1, ?_⟩
  rw [World.cell?_alloc_new, Nat.zero_add, Array.getElem?_eq_getElem hi', e]
theorem CurAt.grown {w w' : World} {bc : Nat} {a : Option Addr} {len cap t : Nat} {row : Option Nat} (h : CurAt w bc a len cap t) (hg : w.grownBy w' row) (hne : some bc ≠ row) : CurAt w' bc a len cap t := h.heap (hg.block bc h.lt hne)
theorem grow_st {w w' : World} {row : Option Nat} (h : w.grownBy w' row) {p : Addr} (hp : w.heap.size ≤ p.block) (v : Value) : w.grownBy (w'.setCell p v) row :=
  ⟨h.os, h.tape, h.output, by rw [World.size_setCell]; exact h.size, fun k hk hr => (heap_setCell_other w' p k v (by omega)).trans (h.block k hk hr)⟩
theorem grow_al {w w' : World} {row : Option Nat} (h : w.grownBy w' row) (o : Obj) : w.grownBy (w'.alloc o) row := grown_trans h (grown_below ((Below.refl _ _).alloc (Nat.le_refl _) o) row)
theorem grown_own0 {w w1 w2 : World} {r row : Option Nat} (h : w.grownBy w1 r) (k : w1.grownBy w2 row) (hr : ∀ j, row = some j → w.heap.size ≤ j) : w.grownBy w2 r :=
  ⟨k.os.trans h.os, k.tape.trans h.tape, k.output.trans h.output, Nat.le_trans h.size k.size, fun j hj hne => (k.block j (Nat.lt_of_lt_of_le hj h.size) (fun e => by have := hr j e.symm; omega)).trans (h.block j hj hne)⟩
theorem pick_anyI (bc : Nat) (a : Option Addr) (len cap t : Nat) (n : Int) (w : World) (hc : CurAt w bc a len cap t) (hd : CodeAt w a len cap bc) (ht : t ≤ 900000) (hn0 : 1 ≤ n) (hn : n ≤ 65536) :
    Calls Tryz.prog 42 #[.pointer (some ⟨bc, 0, none⟩), .int .i64 n] w (PickPost bc a len cap (t + 2) n w) := by
  obtain ⟨m, rfl⟩ := Int.eq_ofNat_of_zero_le (show 0 ≤ n by omega)
  exact pick_any bc a len cap t m w hc hd ht (by omega) (by omega)
end Go.Proofs.YtffbljbgmgifnaaGreatDoor
namespace Go.Proofs.YtffbljbgmgifnaaGreatDoor
open Go.RowKit
theorem resultsLoan1 {fn : Func} {tm : Array Value} {a b : Nat} {w : World} {s : VLoan} (hf : fn.results = #[.cell a 43]) (ha : tm.getD a undef = .pointer (some ⟨b, 0, none⟩)) (h : HBLoan w b s) :
    (results fn tm).run Tryz.prog w = .ok (.agg #[.int .i64 s.Sheet, .int .i64 s.Reader, .int .i64 s.Out, .int .i64 s.Due, .int .i64 s.Back]) w := by
  obtain ⟨h0, h1, h2, h3, h4⟩ := h.cells
  simp only [Array.getD_eq_getD_getElem?] at ha
  simp [results, hf, ha, go_sem, h0, h1, h2, h3, h4]
theorem resultsLoan2 {fn : Func} {tm : Array Value} {a b c : Nat} {w : World} {s : VLoan} {v : Value} (hf : fn.results = #[.cell a 43, .tmp c]) (ha : tm.getD a undef = .pointer (some ⟨b, 0, none⟩)) (hc : tm.getD c undef = v) (h : HBLoan w b s) :
    (results fn tm).run Tryz.prog w = .ok (.tuple #[.agg #[.int .i64 s.Sheet, .int .i64 s.Reader, .int .i64 s.Out, .int .i64 s.Due, .int .i64 s.Back], v]) w := by
  obtain ⟨h0, h1, h2, h3, h4⟩ := h.cells
  simp only [Array.getD_eq_getD_getElem?] at ha hc
  simp [results, hf, ha, hc, go_sem, h0, h1, h2, h3, h4]
end Go.Proofs.YtffbljbgmgifnaaGreatDoor
namespace Go.Proofs.YtffbljbgmgifnaaGreatDoor
open Go.RowKit Go.Deep
/-- Numbers of no great size. -/
def LoanBd (s : VLoan) : Prop := (-3000 ≤ s.Sheet ∧ s.Sheet ≤ 20000) ∧ (-3000 ≤ s.Reader ∧ s.Reader ≤ 20000) ∧ (-1000 ≤ s.Out ∧ s.Out ≤ 20000) ∧ (-3000 ≤ s.Due ∧ s.Due ≤ 20000) ∧ (-3000 ≤ s.Back ∧ s.Back ≤ 20000)
def LoanDraw (bc : Nat) (a : Option Addr) (len cap t : Nat) (w : World) (e : Ending) (w' : World) : Prop := ∃ s : VLoan, e = .returned (.agg #[.int .i64 s.Sheet, .int .i64 s.Reader, .int .i64 s.Out, .int .i64 s.Due, .int .i64 s.Back]) ∧ LoanBd s ∧ CurAt w' bc a len cap t ∧ w.grownBy w' (some bc)
def LoanHere (bc : Nat) (a : Option Addr) (len cap t n n5 : Nat) (w wx : World) : Prop := ∃ s : VLoan, LoanBd s ∧ HBLoan wx n5 s ∧ HBLoan wx n ⟨0, 0, 0, 0, 0⟩ ∧ CurAt wx bc a len cap t ∧ w.grownBy wx (some bc)
theorem grow_alLoan {w w' : World} {row : Option Nat} (h : w.grownBy w' row) {b : Nat} (hb : w.heap.size ≤ b) (x0 x1 x2 x3 x4 : Value) : w.grownBy (((((w'.setCell ⟨b, 0, none⟩ x0).setCell ⟨b, 1, none⟩ x1).setCell ⟨b, 2, none⟩ x2).setCell ⟨b, 3, none⟩ x3).setCell ⟨b, 4, none⟩ x4) row :=
  (grow_st (p := ⟨b, 4, none⟩) (grow_st (p := ⟨b, 3, none⟩) (grow_st (p := ⟨b, 2, none⟩) (grow_st (p := ⟨b, 1, none⟩) (grow_st (p := ⟨b, 0, none⟩) h hb x0) hb x1) hb x2) hb x3) hb x4)
theorem block_alLoan (w : World) {b k : Nat} (hne : k ≠ b) (x0 x1 x2 x3 x4 : Value) : (((((w.setCell ⟨b, 0, none⟩ x0).setCell ⟨b, 1, none⟩ x1).setCell ⟨b, 2, none⟩ x2).setCell ⟨b, 3, none⟩ x3).setCell ⟨b, 4, none⟩ x4).heap[k]? = w.heap[k]? :=
  ((heap_setCell_other _ ⟨b, 4, none⟩ k _ hne).trans ((heap_setCell_other _ ⟨b, 3, none⟩ k _ hne).trans ((heap_setCell_other _ ⟨b, 2, none⟩ k _ hne).trans ((heap_setCell_other _ ⟨b, 1, none⟩ k _ hne).trans (heap_setCell_other _ ⟨b, 0, none⟩ k _ hne)))))
theorem loanBd_mk {x1 x2 x3 x4 x5 : Int} (h1 : -3000 ≤ x1 ∧ x1 ≤ 20000) (h2 : -3000 ≤ x2 ∧ x2 ≤ 20000) (h3 : -1000 ≤ x3 ∧ x3 ≤ 20000) (h4 : -3000 ≤ x4 ∧ x4 ≤ 20000) (h5 : -3000 ≤ x5 ∧ x5 ≤ 20000) : LoanBd ⟨x1, x2, x3, x4, x5⟩ := ⟨h1, h2, h3, h4, h5⟩
theorem four_bd : (-3000 : Int) ≤ 4001 ∧ (4001 : Int) ≤ 20000 := ⟨by decide, by decide⟩
theorem cur_set {w : World} {bc : Nat} {a : Option Addr} {len cap t : Nat} (h : CurAt w bc a len cap t) {b j : Nat} (hne : bc ≠ b) (u : Value) : CurAt (w.setCell ⟨b, j, none⟩ u) bc a len cap t := h.heap (heap_setCell_other w ⟨b, j, none⟩ bc u hne)
set_option maxHeartbeats 12800000 in
set_option maxRecDepth 100000 in
theorem loan_any (bc : Nat) (a : Option Addr) (len cap t : Nat) (day : Int) (w : World) (hc : CurAt w bc a len cap t) (hd : CodeAt w a len cap bc) (ht : t ≤ 800000) (hday : -500 ≤ day ∧ day ≤ 10000) :
    Calls Tryz.prog 58 #[.pointer (some ⟨bc, 0, none⟩), .int .i64 day] w (LoanDraw bc a len cap (t + 20) w) := by
  have hlt := hc.lt
  have C := Lib.hid hc
  have D := Lib.hid hd
  have Z := Lib.hid (HBLoan.new w ⟨0, 0, 0, 0, 0⟩ _ rfl)
  have G := Lib.hid (grow_al (World.grownBy.refl w (some bc)) (.cells #[.int .i64 0, .int .i64 0, .int .i64 0, .int .i64 0, .int .i64 0] 43))
  clear hc hd
  go_enter Tryz.func58, Tryz.ntmps58
  go_wp2_with fail
  refine (among_any bc a len cap _ (w.heap.size + 1) 0 5 5 (0) 1000 _ ((C.out.alloc _).alloc _) ((D.out.alloc _).alloc _) (by omega) (by omega) (by omega) (by omega) (by simp) ?_).mono ?_
  · refine ints_at _ _ _ (0) 1000 5 _ (size_al _ _) rfl ?_
    repeat (refine List.forall_mem_cons.2 ⟨⟨_, by omega, by omega, rfl⟩, ?_⟩)
    exact fun _ h => by cases h
  rintro e w1 ⟨x1, rfl, lo1, hi1, hc, hg⟩
  have hs1 : w.heap.size + 2 ≤ w1.heap.size := by have := hg.size; rw [size_al, size_al] at this; exact this
  have C1 := Lib.hid hc
  have G1 := Lib.hid (grown_trans (grow_al G.out _) hg)
  have Z1 := Lib.hid ((Z.out.alloc _).grown hg (by simp only [ne_eq, Option.some.injEq]; omega))
  have D1 := Lib.hid (D.out.grown G1.out)
  clear hc hg
  go_wp2_with fail
  refine (among_any bc a len cap _ w1.heap.size 0 3 3 (0) 1000 _ (C1.out.alloc _) (D1.out.alloc _) (by omega) (by omega) (by omega) (by omega) (by simp) ?_).mono ?_
  · refine ints_at _ _ _ (0) 1000 3 _ rfl rfl ?_
    repeat (refine List.forall_mem_cons.2 ⟨⟨_, by omega, by omega, rfl⟩, ?_⟩)
    exact fun _ h => by cases h
  rintro e w2 ⟨x2, rfl, lo2, hi2, hc, hg⟩
  have hs2 : w1.heap.size + 1 ≤ w2.heap.size := by have := hg.size; rw [size_al] at this; exact this
  have C2 := Lib.hid hc
  have G2 := Lib.hid (grown_trans (grow_al G1.out _) hg)
  have Z2 := Lib.hid ((Z1.out.alloc _).grown hg (by simp only [ne_eq, Option.some.injEq]; omega))
  have D2 := Lib.hid (D.out.grown G2.out)
  clear hc hg
  go_wp2_with fail
  refine (among_any bc a len cap _ w2.heap.size 0 4 4 (0) 100 _ (C2.out.alloc _) (D2.out.alloc _) (by omega) (by omega) (by omega) (by omega) (by simp) ?_).mono ?_
  · refine ints_at _ _ _ (0) 100 4 _ rfl rfl ?_
    repeat (refine List.forall_mem_cons.2 ⟨⟨_, by omega, by omega, rfl⟩, ?_⟩)
    exact fun _ h => by cases h
  rintro e w3 ⟨x3, rfl, lo3, hi3, hc, hg⟩
  have hs3 : w2.heap.size + 1 ≤ w3.heap.size := by have := hg.size; rw [size_al] at this; exact this
  have C3 := Lib.hid hc
  have G3 := Lib.hid (grown_trans (grow_al G2.out _) hg)
  have Z3 := Lib.hid ((Z2.out.alloc _).grown hg (by simp only [ne_eq, Option.some.injEq]; omega))
  have D3 := Lib.hid (D.out.grown G3.out)
  clear hc hg
  have v1 : IntKind.i64.wrap (day + x3) = day + x3 := IntWalk.i64_in _ (by omega)
  obtain ⟨du, hdu⟩ : ∃ du, day + x3 = du := ⟨_, rfl⟩
  have hdb : -3000 ≤ du ∧ du ≤ 11000 := by omega
  rw [hdu] at v1
  have v2 : IntKind.i64.wrap (day + x3) = du := by rw [hdu]; exact v1
  clear hdu v1
  have X3 := Lib.hid (HBLoan.new w3 ⟨x1, x2, day, du, -1⟩ _ rfl)
  have BD := Lib.hid (show LoanBd ⟨x1, x2, day, du, -1⟩ from loanBd_mk (by omega) (by omega) (by omega) (by omega) (by omega))
  go_wp2_with fail
  refine (one_any bc a len cap _ 3 _ (C3.out.alloc _) (D3.out.alloc _) (by omega) (by omega) (by omega)).mono ?_
  rintro e w4 ⟨q, rfl, hc, hg⟩
  have hs4 : w3.heap.size + 1 ≤ w4.heap.size := by have := hg.size; rw [size_al] at this; exact this
  have C4 := Lib.hid hc
  have G4 := Lib.hid (grown_trans (grow_al G3.out _) hg)
  have Z4 := Lib.hid ((Z3.out.alloc _).grown hg (by simp only [ne_eq, Option.some.injEq]; omega))
  have X4 := Lib.hid (X3.out.grown hg (by simp only [ne_eq, Option.some.injEq]; omega))
  have D4 := Lib.hid (D.out.grown G4.out)
  obtain ⟨n5, hn5⟩ : ∃ n, w3.heap.size = n := ⟨_, rfl⟩
  have l5 : w.heap.size < n5 := by omega
  have l6 : n5 < w4.heap.size := by omega
  have l7 : ¬ n5 = w.heap.size := by omega
  have l8 : ¬ w.heap.size = n5 := by omega
  have l9 : bc < n5 := by omega
  rw [hn5] at X4 ⊢
  clear hc hg hn5 hs1 hs2 hs3 hs4 lo1 hi1 lo2 hi2 lo3 hi3 hdb v2
  go_upto_if 21 with (fail)
  go_cut [] (fun wx => LoanHere bc a len cap (t + 10) w.heap.size n5 w wx)
  case first =>
    cases q
    · obtain ⟨c0, c1, c2, c3, c4⟩ := X4.out.cells
      have HD := Lib.hid (show w4.grownBy w4.drew (some bc) from grown_below (bel_drew' (Below.refl _ _)) _)
      have CD := Lib.hid (show CurAt w4.drew bc a len cap _ from C4.out.heap rfl)
      have DD := Lib.hid (D4.out.grown HD.out)
      have TR := Lib.hid (show ∀ W : World, w4.grownBy W (some bc) → HBLoan W n5 ⟨x1, x2, day, du, -1⟩ ∧ HBLoan W w.heap.size ⟨0, 0, 0, 0, 0⟩ from fun W hG => ⟨X4.out.grown hG (by simp only [ne_eq, Option.some.injEq]; omega), Z4.out.grown hG (by simp only [ne_eq, Option.some.injEq]; omega)⟩)
      have AM := Lib.hid (among_any bc a len cap _ w4.heap.size 0 6 6 (0) 300 (w4.drew.alloc (.cells #[.int .i64 0, .int .i64 1, .int .i64 14, .int .i64 15, .int .i64 20, .int .i64 200] 3)) (CD.out.alloc _) (DD.out.alloc _) (by omega) (by omega) (by omega) (by omega) (by rw [size_al]; exact Nat.lt_succ_self _) (by
        refine ints_at _ _ _ (0) 300 6 _ rfl rfl ?_
        repeat (refine List.forall_mem_cons.2 ⟨⟨_, by omega, by omega, rfl⟩, ?_⟩)
        exact fun _ h => by cases h))
      have e2 : w4.drew.cell? ⟨n5, 2, none⟩ = some (.int .i64 day) := c2
      have HA := Lib.hid (show w4.grownBy (w4.drew.alloc (.cells #[.int .i64 0, .int .i64 1, .int .i64 14, .int .i64 15, .int .i64 20, .int .i64 200] 3)) (some bc) from grow_al HD.out _)
      go_wp2
      go_region_held3 (fun u => u.cell? ⟨n5, 2, none⟩ = some (.int .i64 day))
        (first | exact e2 | exact (TR.out _ HA.out).1.cells.2.2.1 | exact (TR.out _ H9.out).1.cells.2.2.1 | exact X9.out.cells.2.2.1)
        (first | (go_at_call 41; refine (AM.out).mono ?_; rintro e w9 ⟨y, rfl, y0, y1, hc, hg⟩; have H9 := Lib.hid (show w4.grownBy w9 (some bc) from grown_trans HA.out hg); have C9 := Lib.hid hc; have g4 := (TR.out _ H9.out).1.free 4; obtain ⟨d0, d1, d2, d3, d4⟩ := (TR.out _ H9.out).1.cells; simp only [] at d0 d1 d2 d3 d4; obtain ⟨bk, hbk⟩ : ∃ bk, day + y = bk := ⟨_, rfl⟩; have v9 : IntKind.i64.wrap (day + y) = bk := (IntWalk.i64_in _ (by omega)).trans hbk; have hbd : -3000 ≤ bk ∧ bk ≤ 20000 := (by omega); have X9 := Lib.hid ((TR.out _ H9.out).1.set4 bk); clear hbk hc hg))
      go_wp2
      go_meet
      exact ⟨⟨x1, x2, day, du, bk⟩, ⟨BD.out.1, BD.out.2.1, BD.out.2.2.1, BD.out.2.2.2.1, hbd⟩, X9.out, (TR.out _ H9.out).2.other l8 _, (cur_set C9.out (by omega) _).more (by omega), grow_st (grown_trans G4.out H9.out) (p := ⟨n5, 4, none⟩) (by simp; omega) _⟩
    · go_wp2
      go_meet
      exact ⟨_, BD.out, X4.out, Z4.out, C4.out.more (by omega), G4.out⟩
  case rest =>
  obtain ⟨s, hbd, hX, hZ, hC, hG⟩ := hcut
  have BD := Lib.hid hbd
  have X6 := Lib.hid hX
  have Z6 := Lib.hid hZ
  have C6 := Lib.hid hC
  have G6 := Lib.hid hG
  have D6 := Lib.hid (D.out.grown hG)
  have sz6 := hX.lt
  clear hbd hX hZ hC hG
  go_wp2_with fail
  refine (pick_any bc a len cap _ 120 _ C6.out D6.out (by omega) (by omega) (by omega)).mono ?_
  rintro e w7 ⟨p, rfl, pp0, pp1, hc, hg⟩
  have C7 := Lib.hid hc
  have G7 := Lib.hid (grown_trans G6.out hg)
  have X7 := Lib.hid (X6.out.grown hg (by simp only [ne_eq, Option.some.injEq]; omega))
  have Z7 := Lib.hid (Z6.out.grown hg (by simp only [ne_eq, Option.some.injEq]; omega))
  have D7 := Lib.hid (D.out.grown G7.out)
  have l6 : n5 < w7.heap.size := by have := hg.size; omega
  clear hc hg sz6
  have FIN := Lib.hid (show ∀ (W : World) (r : VLoan), HBLoan W n5 r → HBLoan W w.heap.size ⟨0, 0, 0, 0, 0⟩ → CurAt W bc a len cap (t + 20) → w.grownBy W (some bc) → HBLoan (((((W.setCell ⟨w.heap.size, 0, none⟩ (.int .i64 r.Sheet)).setCell ⟨w.heap.size, 1, none⟩ (.int .i64 r.Reader)).setCell ⟨w.heap.size, 2, none⟩ (.int .i64 r.Out)).setCell ⟨w.heap.size, 3, none⟩ (.int .i64 r.Due)).setCell ⟨w.heap.size, 4, none⟩ (.int .i64 r.Back)) w.heap.size r ∧ CurAt (((((W.setCell ⟨w.heap.size, 0, none⟩ (.int .i64 r.Sheet)).setCell ⟨w.heap.size, 1, none⟩ (.int .i64 r.Reader)).setCell ⟨w.heap.size, 2, none⟩ (.int .i64 r.Out)).setCell ⟨w.heap.size, 3, none⟩ (.int .i64 r.Due)).setCell ⟨w.heap.size, 4, none⟩ (.int .i64 r.Back)) bc a len cap (t + 20) ∧ w.grownBy (((((W.setCell ⟨w.heap.size, 0, none⟩ (.int .i64 r.Sheet)).setCell ⟨w.heap.size, 1, none⟩ (.int .i64 r.Reader)).setCell ⟨w.heap.size, 2, none⟩ (.int .i64 r.Out)).setCell ⟨w.heap.size, 3, none⟩ (.int .i64 r.Due)).setCell ⟨w.heap.size, 4, none⟩ (.int .i64 r.Back)) (some bc) from
    fun W r _ h2 h3 h4 => ⟨h2.setAll r, h3.heap (block_alLoan W (by omega) _ _ _ _ _), grow_alLoan h4 (Nat.le_refl _) _ _ _ _ _⟩)
  rcases (show p = 0 ∨ p = 1 ∨ p = 2 ∨ p = 3 ∨ p = 4 ∨ (¬ p = 0 ∧ ¬ p = 1 ∧ ¬ p = 2 ∧ ¬ p = 3 ∧ ¬ p = 4) by omega) with e | e | e | e | e | ⟨e0, e1, e2, e3, e4⟩
  · subst e
    go_wp2_with fail
    refine (among_any bc a len cap _ w7.heap.size 0 2 2 (0) 1000 _ (C7.out.alloc _) (D7.out.alloc _) (by omega) (by omega) (by omega) (by omega) (by simp) ?_).mono ?_
    · refine ints_at _ _ _ (0) 1000 2 _ rfl rfl ?_
      repeat (refine List.forall_mem_cons.2 ⟨⟨_, by omega, by omega, rfl⟩, ?_⟩)
      exact fun _ h => by cases h
    rintro e w8 ⟨y, rfl, y0, y1, hc, hg⟩
    have hy : -3000 ≤ y ∧ y ≤ 20000 := by omega
    have C8 := Lib.hid hc
    have G8 := Lib.hid (grown_trans (grow_al G7.out _) hg)
    have X8 := Lib.hid ((X7.out.alloc _).grown hg (by simp only [ne_eq, Option.some.injEq]; omega))
    have Z8 := Lib.hid ((Z7.out.alloc _).grown hg (by simp only [ne_eq, Option.some.injEq]; omega))
    clear hc hg
    obtain ⟨q0, q1, q2, q3, q4⟩ := Z8.out.cells
    obtain ⟨p0, p1, p2, p3, p4⟩ := X8.out.cells
    have f0 := Z8.out.free 0
    have f1 := Z8.out.free 1
    have f2 := Z8.out.free 2
    have f3 := Z8.out.free 3
    have f4 := Z8.out.free 4
    have g1 := X8.out.free 0
    simp only [] at q0 q1 q2 q3 q4
    have FX := FIN.out (w8.setCell ⟨n5, 0, none⟩ (.int .i64 y)) ⟨y, s.Reader, s.Out, s.Due, s.Back⟩ (X8.out.set0 _) (Z8.out.other l8 _) ((cur_set C8.out (by omega) _).more (by omega)) (grow_st G8.out (p := ⟨n5, 0, none⟩) (by simp; omega) _)
    have F1 := Lib.hid FX.1
    have F2 := Lib.hid FX.2.1
    have F3 := Lib.hid FX.2.2
    clear FX
    go_wp2
    exact bodyPost_ret (resultsLoan1 rfl rfl F1.out) rfl ⟨_, rfl, ⟨hy, BD.out.2.1, BD.out.2.2.1, BD.out.2.2.2.1, BD.out.2.2.2.2⟩, F2.out, F3.out⟩
  · subst e
    go_wp2_with fail
    refine (among_any bc a len cap _ w7.heap.size 0 2 2 (0) 1000 _ (C7.out.alloc _) (D7.out.alloc _) (by omega) (by omega) (by omega) (by omega) (by simp) ?_).mono ?_
    · refine ints_at _ _ _ (0) 1000 2 _ rfl rfl ?_
      repeat (refine List.forall_mem_cons.2 ⟨⟨_, by omega, by omega, rfl⟩, ?_⟩)
      exact fun _ h => by cases h
    rintro e w8 ⟨y, rfl, y0, y1, hc, hg⟩
    have hy : -3000 ≤ y ∧ y ≤ 20000 := by omega
    have C8 := Lib.hid hc
    have G8 := Lib.hid (grown_trans (grow_al G7.out _) hg)
    have X8 := Lib.hid ((X7.out.alloc _).grown hg (by simp only [ne_eq, Option.some.injEq]; omega))
    have Z8 := Lib.hid ((Z7.out.alloc _).grown hg (by simp only [ne_eq, Option.some.injEq]; omega))
    clear hc hg
    obtain ⟨q0, q1, q2, q3, q4⟩ := Z8.out.cells
    obtain ⟨p0, p1, p2, p3, p4⟩ := X8.out.cells
    have f0 := Z8.out.free 0
    have f1 := Z8.out.free 1
    have f2 := Z8.out.free 2
    have f3 := Z8.out.free 3
    have f4 := Z8.out.free 4
    have g1 := X8.out.free 1
    simp only [] at q0 q1 q2 q3 q4
    have FX := FIN.out (w8.setCell ⟨n5, 1, none⟩ (.int .i64 y)) ⟨s.Sheet, y, s.Out, s.Due, s.Back⟩ (X8.out.set1 _) (Z8.out.other l8 _) ((cur_set C8.out (by omega) _).more (by omega)) (grow_st G8.out (p := ⟨n5, 1, none⟩) (by simp; omega) _)
    have F1 := Lib.hid FX.1
    have F2 := Lib.hid FX.2.1
    have F3 := Lib.hid FX.2.2
    clear FX
    go_wp2
    exact bodyPost_ret (resultsLoan1 rfl rfl F1.out) rfl ⟨_, rfl, ⟨BD.out.1, hy, BD.out.2.2.1, BD.out.2.2.2.1, BD.out.2.2.2.2⟩, F2.out, F3.out⟩
  · subst e
    obtain ⟨m, hm⟩ : ∃ m, s.Out - 1 = m := ⟨_, rfl⟩
    have ob := BD.out.2.2.1
    have hmb : -1001 ≤ m ∧ m ≤ 20000 := by omega
    have vm : IntKind.i64.wrap (s.Out - 1) = m := (IntWalk.i64_in _ (by omega)).trans hm
    have hmm : -3000 ≤ m ∧ m ≤ 20000 := by omega
    clear hm ob
    obtain ⟨q0, q1, q2, q3, q4⟩ := Z7.out.cells
    obtain ⟨p0, p1, p2, p3, p4⟩ := X7.out.cells
    have f0 := Z7.out.free 0
    have f1 := Z7.out.free 1
    have f2 := Z7.out.free 2
    have f3 := Z7.out.free 3
    have f4 := Z7.out.free 4
    have g1 := X7.out.free 3
    simp only [] at q0 q1 q2 q3 q4
    have FX := FIN.out (w7.setCell ⟨n5, 3, none⟩ (.int .i64 m)) ⟨s.Sheet, s.Reader, s.Out, m, s.Back⟩ (X7.out.set3 _) (Z7.out.other l8 _) ((cur_set C7.out (by omega) _).more (by omega)) (grow_st G7.out (p := ⟨n5, 3, none⟩) (by simp; omega) _)
    have F1 := Lib.hid FX.1
    have F2 := Lib.hid FX.2.1
    have F3 := Lib.hid FX.2.2
    clear FX
    go_wp2
    exact bodyPost_ret (resultsLoan1 rfl rfl F1.out) rfl ⟨_, rfl, ⟨BD.out.1, BD.out.2.1, BD.out.2.2.1, hmm, BD.out.2.2.2.2⟩, F2.out, F3.out⟩
  · subst e
    obtain ⟨m, hm⟩ : ∃ m, s.Out - 1 = m := ⟨_, rfl⟩
    have ob := BD.out.2.2.1
    have hmb : -1001 ≤ m ∧ m ≤ 20000 := by omega
    have vm : IntKind.i64.wrap (s.Out - 1) = m := (IntWalk.i64_in _ (by omega)).trans hm
    have hmm : -3000 ≤ m ∧ m ≤ 20000 := by omega
    clear hm ob
    obtain ⟨p0, p1, p2, p3, p4⟩ := X7.out.cells
    go_wp2_with fail
    refine (among_any bc a len cap _ w7.heap.size 0 2 2 (-1001) 20000 _ (C7.out.alloc _) (D7.out.alloc _) (by omega) (by omega) (by omega) (by omega) (by simp) ?_).mono ?_
    · refine ints_at _ _ _ (-1001) 20000 2 _ rfl rfl ?_
      repeat (refine List.forall_mem_cons.2 ⟨⟨_, by omega, by omega, rfl⟩, ?_⟩)
      exact fun _ h => by cases h
    rintro e w8 ⟨y, rfl, y0, y1, hc, hg⟩
    have hy : -3000 ≤ y ∧ y ≤ 20000 := by omega
    have C8 := Lib.hid hc
    have G8 := Lib.hid (grown_trans (grow_al G7.out _) hg)
    have X8 := Lib.hid ((X7.out.alloc _).grown hg (by simp only [ne_eq, Option.some.injEq]; omega))
    have Z8 := Lib.hid ((Z7.out.alloc _).grown hg (by simp only [ne_eq, Option.some.injEq]; omega))
    clear hc hg p0 p1 p2 p3 p4
    obtain ⟨q0, q1, q2, q3, q4⟩ := Z8.out.cells
    obtain ⟨p0, p1, p2, p3, p4⟩ := X8.out.cells
    have f0 := Z8.out.free 0
    have f1 := Z8.out.free 1
    have f2 := Z8.out.free 2
    have f3 := Z8.out.free 3
    have f4 := Z8.out.free 4
    have g1 := X8.out.free 4
    simp only [] at q0 q1 q2 q3 q4
    have FX := FIN.out (w8.setCell ⟨n5, 4, none⟩ (.int .i64 y)) ⟨s.Sheet, s.Reader, s.Out, s.Due, y⟩ (X8.out.set4 _) (Z8.out.other l8 _) ((cur_set C8.out (by omega) _).more (by omega)) (grow_st G8.out (p := ⟨n5, 4, none⟩) (by simp; omega) _)
    have F1 := Lib.hid FX.1
    have F2 := Lib.hid FX.2.1
    have F3 := Lib.hid FX.2.2
    clear FX
    go_wp2
    exact bodyPost_ret (resultsLoan1 rfl rfl F1.out) rfl ⟨_, rfl, ⟨BD.out.1, BD.out.2.1, BD.out.2.2.1, BD.out.2.2.2.1, hy⟩, F2.out, F3.out⟩
  · subst e
    obtain ⟨q0, q1, q2, q3, q4⟩ := Z7.out.cells
    obtain ⟨p0, p1, p2, p3, p4⟩ := X7.out.cells
    have f0 := Z7.out.free 0
    have f1 := Z7.out.free 1
    have f2 := Z7.out.free 2
    have f3 := Z7.out.free 3
    have f4 := Z7.out.free 4
    have g1 := X7.out.free 3
    simp only [] at q0 q1 q2 q3 q4
    have FX := FIN.out (w7.setCell ⟨n5, 3, none⟩ (.int .i64 4001)) ⟨s.Sheet, s.Reader, s.Out, 4001, s.Back⟩ (X7.out.set3 _) (Z7.out.other l8 _) ((cur_set C7.out (by omega) _).more (by omega)) (grow_st G7.out (p := ⟨n5, 3, none⟩) (by simp; omega) _)
    have F1 := Lib.hid FX.1
    have F2 := Lib.hid FX.2.1
    have F3 := Lib.hid FX.2.2
    clear FX
    go_wp2
    exact bodyPost_ret (resultsLoan1 rfl rfl F1.out) rfl ⟨_, rfl, ⟨BD.out.1, BD.out.2.1, BD.out.2.2.1, four_bd, BD.out.2.2.2.2⟩, F2.out, F3.out⟩
  · have b0 : (p == 0) = false := by simpa using e0
    have b1 : (p == 1) = false := by simpa using e1
    have b2 : (p == 2) = false := by simpa using e2
    have b3 : (p == 3) = false := by simpa using e3
    have b4 : (p == 4) = false := by simpa using e4
    clear e0 e1 e2 e3 e4
    obtain ⟨q0, q1, q2, q3, q4⟩ := Z7.out.cells
    obtain ⟨p0, p1, p2, p3, p4⟩ := X7.out.cells
    have f0 := Z7.out.free 0
    have f1 := Z7.out.free 1
    have f2 := Z7.out.free 2
    have f3 := Z7.out.free 3
    have f4 := Z7.out.free 4
    simp only [] at q0 q1 q2 q3 q4
    have FX := FIN.out w7 ⟨s.Sheet, s.Reader, s.Out, s.Due, s.Back⟩ X7.out Z7.out (C7.out.more (by omega)) G7.out
    have F1 := Lib.hid FX.1
    have F2 := Lib.hid FX.2.1
    have F3 := Lib.hid FX.2.2
    clear FX
    go_wp2
    exact bodyPost_ret (resultsLoan1 rfl rfl F1.out) rfl ⟨_, rfl, BD.out, F2.out, F3.out⟩
end Go.Proofs.YtffbljbgmgifnaaGreatDoor
namespace Go.Proofs.YtffbljbgmgifnaaGreatDoor
open Go.RowKit

theorem at_of {α : Type} {xs : List α} {len k : Nat} (hl : Hid (len = xs.length)) (hk : k < len) : ∃ s, xs[k]? = some s := ⟨xs[k]'(by have := hl.out; omega), List.getElem?_eq_getElem _⟩
theorem all_succ' {P : Nat → Prop} {k : Nat} (h : ∀ j, j < k → P j) (h1 : P k) : ∀ j, j < k + 1 → P j := by
  intro j hj
  by_cases e : j = k
  · subst e; exact h1
  · exact h j (by omega)
/-- Why an element is right, or not. -/
theorem step_ways {α : Type} {ok : α → Bool} {id : α → Int} {xs : List α} {k : Nat} {s : α} (hs : xs[k]? = some s) :
    (ok s = false ∧ upStep ok id xs k = false) ∨ (ok s = true ∧ k = 0 ∧ upStep ok id xs k = true) ∨ (ok s = true ∧ ∃ j p, k = j + 1 ∧ xs[j]? = some p ∧ ((¬ id s ≤ id p ∧ upStep ok id xs k = true) ∨ (id s ≤ id p ∧ upStep ok id xs k = false))) := by
  match k, hs with
  | 0, hs =>
    rw [upStep_zero hs]
    cases h : ok s
    · exact .inl ⟨rfl, rfl⟩
    · exact .inr (.inl ⟨rfl, rfl, rfl⟩)
  | j + 1, hs =>
    have hl := (List.getElem?_eq_some_iff.1 hs).1
    have hp : xs[j]? = some xs[j] := List.getElem?_eq_getElem (by omega)
    rw [upStep_succ hp hs]
    cases h : ok s
    · exact .inl ⟨rfl, rfl⟩
    · refine .inr (.inr ⟨rfl, j, xs[j], rfl, hp, ?_⟩)
      by_cases h2 : id s ≤ id xs[j]
      · exact .inr ⟨h2, by simp; omega⟩
      · exact .inl ⟨h2, by simp; omega⟩
end Go.Proofs.YtffbljbgmgifnaaGreatDoor
namespace Go.Proofs.YtffbljbgmgifnaaGreatDoor
open Go.RowKit
def AreLoans_Post (z0 : List VLoan) (w : World) (e : Ending) (w' : World) : Prop :=
  e = .returned (.bool (AreLoans_0 z0)) ∧ Below w.heap.size w w'
end Go.Proofs.YtffbljbgmgifnaaGreatDoor
namespace Go.Proofs.YtffbljbgmgifnaaGreatDoor
open Go.RowKit

theorem l11Id_any (d : Int) (w : World) :
    Calls Tryz.prog 52 #[.int .i64 d] w fun e w' => e = .returned (.bool (idB d)) ∧ w = w' := by
  go_enter Tryz.func52, Tryz.ntmps52
  go_wp2_with fail
  refine (l1In_any _ _ _ _).mono ?_
  rintro e w' ⟨rfl, rfl⟩
  go_wp2
  go_ret
  exact ⟨rfl, rfl⟩
theorem l11Days_any (d : Int) (w : World) :
    Calls Tryz.prog 47 #[.int .i64 d] w fun e w' => e = .returned (.bool (daysB d)) ∧ w = w' := by
  go_enter Tryz.func47, Tryz.ntmps47
  go_wp2_with fail
  refine (l1In_any _ _ _ _).mono ?_
  rintro e w' ⟨rfl, rfl⟩
  go_wp2
  go_ret
  exact ⟨rfl, rfl⟩
theorem loOk_spec (l : VLoan) : l.ok = (idB l.Sheet && (idB l.Reader && (dayB l.Out && (dayB l.Due && (!decide (l.Due < l.Out) && (l.Back == -1 || (dayB l.Back && decide (l.Out ≤ l.Back)))))))) := by
  rw [Bool.eq_iff_iff, loOk_iff]
  simp only [idB, dayB, inB, Bool.and_eq_true, Bool.or_eq_true, beq_iff_eq, decide_eq_true_eq, Bool.not_eq_true', decide_eq_false_iff_not]
  omega
set_option maxHeartbeats 3200000 in
theorem l11One_any (s : VLoan) (w : World) :
    Calls Tryz.prog 61 #[.agg #[.int .i64 s.Sheet, .int .i64 s.Reader, .int .i64 s.Out, .int .i64 s.Due, .int .i64 s.Back]] w fun e w' => e = .returned (.bool s.ok) ∧ Below w.heap.size w w' := by
  obtain ⟨q1, h1⟩ : ∃ q, idB s.Sheet = q := ⟨_, rfl⟩
  obtain ⟨q2, h2⟩ : ∃ q, idB s.Reader = q := ⟨_, rfl⟩
  obtain ⟨q3, h3⟩ : ∃ q, dayB s.Out = q := ⟨_, rfl⟩
  obtain ⟨q4, h4⟩ : ∃ q, dayB s.Due = q := ⟨_, rfl⟩
  obtain ⟨q5, h5⟩ : ∃ q, dayB s.Back = q := ⟨_, rfl⟩
  have OK := Lib.hid (loOk_spec s)
  rw [h1, h2, h3, h4, h5] at OK
  have H1 := Lib.hid h1
  have H2 := Lib.hid h2
  have H3 := Lib.hid h3
  have H4 := Lib.hid h4
  have H5 := Lib.hid h5
  clear h1 h2 h3 h4 h5
  go_enter Tryz.func61, Tryz.ntmps61
  go_wp2_with fail
  refine (l11Id_any _ _).mono ?_
  rintro e w' ⟨rfl, rfl⟩
  rw [H1.out]
  cases q1
  · go_wp2
    go_ret
    exact ⟨ret_bool (by rw [OK.out]; rfl), bel_al1 _ _⟩
  go_wp2_with fail
  refine (l11Id_any _ _).mono ?_
  rintro e w' ⟨rfl, rfl⟩
  rw [H2.out]
  cases q2
  · go_wp2
    go_ret
    exact ⟨ret_bool (by rw [OK.out]; rfl), bel_al1 _ _⟩
  go_wp2_with fail
  refine (l2Day_any _ _).mono ?_
  rintro e w' ⟨rfl, rfl⟩
  rw [H3.out]
  cases q3
  · go_wp2
    go_ret
    exact ⟨ret_bool (by rw [OK.out]; rfl), bel_al1 _ _⟩
  go_wp2_with fail
  refine (l2Day_any _ _).mono ?_
  rintro e w' ⟨rfl, rfl⟩
  rw [H4.out]
  cases q4
  · go_wp2
    go_ret
    exact ⟨ret_bool (by rw [OK.out]; rfl), bel_al1 _ _⟩
  by_cases hd : s.Due < s.Out
  · have D := Lib.hid (decide_eq_true hd)
    go_wp2
    go_ret
    exact ⟨ret_bool (by rw [OK.out, D.out]; rfl), bel_al1 _ _⟩
  have D := Lib.hid (decide_eq_false hd)
  have hd2 : s.Out ≤ s.Due := by omega
  by_cases hb : s.Back = -1
  · have E := Lib.hid (show (s.Back == -1) = true by simp [hb])
    have e1 := E.out
    have D2 := Lib.hid hb
    clear hb
    go_wp2
    go_ret
    exact ⟨ret_bool (by rw [OK.out, D.out, E.out]; rfl), bel_al1 _ _⟩
  have E := Lib.hid (show (s.Back == -1) = false by simp [hb])
  have e1 := E.out
  clear hb
  go_wp2_with fail
  refine (l2Day_any _ _).mono ?_
  rintro e w' ⟨rfl, rfl⟩
  rw [H5.out]
  cases q5
  · go_wp2
    go_ret
    exact ⟨ret_bool (by rw [OK.out, D.out, E.out]; rfl), bel_al1 _ _⟩
  go_wp2
  go_ret
  exact ⟨ret_bool (by rw [OK.out, D.out, E.out]; rfl), bel_al1 _ _⟩
end Go.Proofs.YtffbljbgmgifnaaGreatDoor
