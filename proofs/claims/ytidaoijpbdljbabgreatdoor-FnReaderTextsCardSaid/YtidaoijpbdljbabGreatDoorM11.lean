/- Texts in one: RdDr, RdDr2, RdDr3, ReaderE, Ord, ReaderSo, Ri8, Ri9. -/
import Derived.Test.YtidaoijpbdljbabGreatDoorReaderDr
import Derived.Test.YtidaoijpbdljbabGreatDoorM10
import Derived.Test.YtidaoijpbdljbabGreatDoorM1
import Derived.Test.YtidaoijpbdljbabGreatDoorM2
import Derived.Lib.Small
import Derived.Sort.Grow
import Derived.StillTailTactics
import Derived.Test.YtidaoijpbdljbabGreatDoorM3
import Derived.Test.YtidaoijpbdljbabGreatDoorSorts
import Derived.Test.YtidaoijpbdljbabGreatDoorShelf
import Derived.Test.YtidaoijpbdljbabGreatDoorM5
import Derived.Test.YtidaoijpbdljbabGreatDoorM9
namespace Go.Proofs.YtidaoijpbdljbabGreatDoor
open Go.RowKit

set_option maxHeartbeats 1600000 in
set_option maxRecDepth 100000 in
theorem cents3_any (bc : Nat) (a : Option Addr) (len cap t : Nat) (w : World) (hc : CurAt w bc a len cap t) (hd : CodeAt w a len cap bc) (ht : t ≤ 800000) :
    Calls Tryz.prog 39 #[.pointer (some ⟨bc, 0, none⟩)] w (AmongPost bc a len cap (t + 4) (0) 10001 w) := by
  have hlt := hc.lt
  have C := Lib.hid hc
  have D := Lib.hid hd
  have LI := Lib.hid (ints_at w #[.int .i64 1, .int .i64 499, .int .i64 500, .int .i64 501, .int .i64 9500, .int .i64 10000, .int .i64 0, .int .i64 10001] 3 (0) 10001 8 _ rfl rfl (by
    repeat (refine List.forall_mem_cons.2 ⟨⟨_, by omega, by omega, rfl⟩, ?_⟩)
    exact fun _ h => by cases h))
  clear hc hd
  go_enter Tryz.func39, Tryz.ntmps39
  go_wp2_with fail
  refine (pick_any bc a len cap _ 24 _ (C.out.alloc _) (D.out.alloc _) (by omega) (by omega) (by omega)).mono ?_
  rintro e w1 ⟨p, rfl, p0, p1, hc, hg⟩
  have p1 : p < 24 := p1
  obtain ⟨k, hk⟩ : ∃ k : Nat, 6 + p / 11 = (k : Int) := ⟨(6 + p / 11).toNat, by omega⟩
  have k1 : 6 ≤ k := by omega
  have k2 : k ≤ 8 := by omega
  have hw : IntKind.i64.wrap (6 + p / 11) = (k : Int) := hk ▸ IntWalk.i64_in _ (by omega)
  have C1 := Lib.hid hc
  have G1 := Lib.hid (grown_trans (grow_al (World.grownBy.refl w (some bc)) _) hg)
  have D1 := Lib.hid (D.out.grown G1.out)
  have s1 : w.heap.size + 1 ≤ w1.heap.size := by have := hg.size; rw [size_al] at this; exact this
  have LJ := Lib.hid (show ∀ i, i < k → ∃ x : Int, (0) ≤ x ∧ x ≤ 10001 ∧ w1.cell? ⟨w.heap.size, 0 + i, none⟩ = some (.int .i64 x) from fun i hi => by
    obtain ⟨x, x0, x1, hx⟩ := LI.out i (by omega)
    exact ⟨x, x0, x1, (World.cell?_of_block (a := ⟨w.heap.size, 0 + i, none⟩) (hg.block w.heap.size (by rw [size_al]; omega) (by simp only [ne_eq, Option.some.injEq]; omega))).trans hx⟩)
  clear hc hg
  go_wp2_with fail
  refine (among_any bc a len cap _ w.heap.size 0 k 8 (0) 10001 _ C1.out D1.out (by omega) (by omega) (by omega) (by omega) (by omega) LJ.out).mono ?_
  rintro e w2 ⟨x, rfl, x0, x1, hc, hg⟩
  have C2 := Lib.hid hc
  have G2 := Lib.hid (grown_trans G1.out hg)
  clear hc hg
  go_wp2
  go_ret
  exact ⟨x, rfl, x0, x1, C2.out, G2.out⟩
/-- Some readers. -/
def RdsDraw (bc : Nat) (a : Option Addr) (len cap t : Nat) (w : World) (e : Ending) (w' : World) : Prop := ∃ (v : Value) (xs : List VReader), e = .returned v ∧ xs.length ≤ 14 ∧ (∀ s ∈ xs, s.sized) ∧ w'.ownsRow w.heap.size 25 5 v xs.length (cellsReader xs) ∧ CurAt w' bc a len cap t ∧ w.grownBy w' (some bc)
theorem small_snoc {xs : List VReader} {s : VReader} (h : ∀ t ∈ xs, t.sized) (hs : s.sized) : ∀ t ∈ xs ++ [s], t.sized := fun t ht => (List.mem_append.1 ht).elim (h t) (fun e => by rw [List.mem_singleton.1 e]; exact hs)
set_option maxHeartbeats 6400000 in
set_option maxRecDepth 100000 in
theorem readers_any (bc : Nat) (a : Option Addr) (len cap t : Nat) (w : World) (hc : CurAt w bc a len cap t) (hd : CodeAt w a len cap bc) (ht : t ≤ 700000) :
    Calls Tryz.prog 37 #[.pointer (some ⟨bc, 0, none⟩)] w (RdsDraw bc a len cap (t + 300) w) := by
  have hbc := hc.lt
  obtain ⟨i0, hi, hz0, hz1, hz2⟩ := info_parts infoReader
  have C := Lib.hid hc
  have D := Lib.hid hd
  have O0 := Lib.hid (World.ownsRow_made (base := w.heap.size) (e := 25) (size := 5) w #[] 0 (Nat.le_refl _) (Nat.zero_le _) rfl)
  have G0 := Lib.hid (grow_al (World.grownBy.refl w (some bc)) (.cells #[] 25))
  clear hc hd
  go_enter Tryz.func37, Tryz.ntmps37
  go_wp2_with fail
  refine (pick_any bc a len cap _ 8 _ (C.out.alloc _) (D.out.alloc _) (by omega) (by omega) (by omega)).mono ?_
  rintro e w1 ⟨p, rfl, p0, p1, hc, hg⟩
  obtain ⟨n, rfl⟩ := Int.eq_ofNat_of_zero_le p0
  have n8 : n < 8 := by have : (n : Int) < 8 := p1; omega
  have G1 := Lib.hid (grown_trans G0.out hg)
  have C1 := Lib.hid hc
  have O1 := Lib.hid (ownsRow_grown0 O0.out hg (by intro k e; cases e; exact hbc))
  clear hc hg p0 p1
  go_wp2
  go_loopw [3, 4, 5] (fun o y i wr => ∃ (m : Nat) (id : Int) (xs : List VReader), m ≤ n ∧ i = .int .i64 m ∧ y = .int .i64 id ∧ -10 ≤ id ∧ id + 4 * (m : Int) ≤ 40 ∧ xs.length + m ≤ n ∧ (∀ s ∈ xs, s.sized) ∧ wr.ownsRow w.heap.size 25 5 o xs.length (cellsReader xs) ∧ CurAt wr bc a len cap (t + 2 + 20 * xs.length) ∧ w.grownBy wr (some bc)) (fun _ _ i _ => (intOf i).toNat)
  case atStart => exact ⟨n, 0, [], Nat.le_refl _, rfl, rfl, by omega, by omega, by simp, by simp, O1.out, C1.out, G1.out⟩
  case round =>
    obtain ⟨m, id, xs, hm, rfl, rfl, id0, id1, hxl, hsm, hown, hcur, hgr⟩ := hrel
    have SM := Lib.hid hsm
    have O := Lib.hid hown
    have CU := Lib.hid hcur
    have G := Lib.hid hgr
    have hle := hgr.size
    clear hown hcur hgr hsm
    by_cases hlt : 0 < m
    · have g0 : (0 : Int) < (m : Int) := by omega
      have v1 : IntKind.i64.wrap (id + 1) = id + 1 := IntWalk.i64_in _ (by omega)
      go_wp2_with fail
      refine (pick_any bc a len cap _ 3 _ CU.out (D.out.grown G.out) (by omega) (by omega) (by omega)).mono ?_
      rintro e w3 ⟨x, rfl, x0, x1, hc, hg⟩
      have x1 : x < 3 := x1
      have G3 := Lib.hid (grown_trans G.out hg)
      have C3 := Lib.hid hc
      have O3 := Lib.hid (ownsRow_grown0 O.out hg (by intro k e; cases e; exact hbc))
      clear hc hg
      go_wp2_with fail
      refine (pick_any bc a len cap _ 120 _ C3.out (D.out.grown G3.out) (by omega) (by omega) (by omega)).mono ?_
      rintro e w4 ⟨y, rfl, y0, y1, hc, hg⟩
      have y1 : y < 120 := y1
      have G4 := Lib.hid (grown_trans G3.out hg)
      have C4 := Lib.hid hc
      have O4 := Lib.hid (ownsRow_grown0 O3.out hg (by intro k e; cases e; exact hbc))
      have z0 : 0 ≤ y / 119 := by omega
      have z1 : y / 119 ≤ 1 := by omega
      have v2 : IntKind.i64.wrap (id + 1 + x) = id + 1 + x := IntWalk.i64_in _ (by omega)
      have v3 : IntKind.i64.wrap (id + 1 + x - y / 119) = id + 1 + x - y / 119 := IntWalk.i64_in _ (by omega)
      clear hc hg
      go_wp2_with fail
      refine (reader_any bc a len cap _ _ _ C4.out (D.out.grown G4.out) (by omega)).mono ?_
      rintro e w5 ⟨s, rfl, hs, hc, hg⟩
      have l5 := hg.size
      have l4 := G4.out.size
      have G5 := Lib.hid (grown_trans G4.out hg)
      have C5 := Lib.hid hc
      have SS := Lib.hid hs
      have hown2 := (ownsRow_grown0 O4.out hg (by intro k e; cases e; exact hbc)).alloc (.cells #[.int .i64 s.Id, .string s.Name, .int .i64 s.Joined, .int .i64 s.Class, .int .i64 s.Fines] 25)
      clear hc hg hs
      go_wp2_with (at_builtin; refine wpList_append_own _ rfl _ _ 33 rfl w.heap.size 25 i0 (.agg #[.int .i64 0, .string ByteArray.empty, .int .i64 0, .int .i64 0, .int .i64 0]) 5 48 Tryz.underlying33 hi hz0 hz1 hz2 rfl (by decide) _ _ _ rfl hown2 ⟨w5.heap.size, 0, none⟩ 1 1 s.vals rfl rfl (cell_Reader _ s _) (VReader.vals_one _) (by unfold maxLen; omega) (by omega) (by first | omega | (simp; done) | (simp; omega)) ?_; intro v' w7 hown' hgrow7 hnil7)
      go_roundw
      case rel =>
        have hlt7 := hown2.lt
        exact ⟨m - 1, id + 1 + x - y / 119, xs ++ [s], by omega, by go_num, rfl, by omega, by omega, by simp; omega, small_snoc SM.out SS.out, by rw [cellsReader_snoc]; simpa using hown', ((C5.out.alloc _).grown hgrow7 (fun e => by have := (hlt7 _ e.symm).1; omega)).more (by simp; omega), grown_own0 (grow_al G5.out _) hgrow7 (fun j e => (hlt7 j e).1)⟩
      case measure => simp [intOf]; omega
    · obtain rfl : m = 0 := by omega
      go_wp2_with fail
      refine (one_any bc a len cap _ 24 _ CU.out (D.out.grown G.out) (by omega) (by omega) (by omega)).mono ?_
      rintro e w3 ⟨b, rfl, hc, hg⟩
      have l3 := hg.size
      have G3 := Lib.hid (grown_trans G.out hg)
      have C3 := Lib.hid hc
      have O3 := Lib.hid (ownsRow_grown0 O.out hg (by intro k e; cases e; exact hbc))
      clear hc hg
      cases b
      · go_wp2
        go_ret
        exact ⟨_, xs, rfl, by omega, SM.out, O3.out, C3.out.more (by omega), G3.out⟩
      · have OM := Lib.hid (World.ownsRow_made (base := w.heap.size) (e := 25) (size := 5) w3 #[] 0 (by omega) (Nat.zero_le _) rfl)
        go_wp2
        go_loopw [3, 6] (fun o i wr => ∃ (m : Nat) (ys : List VReader), m ≤ 11 ∧ i = .int .i64 m ∧ ys.length = m ∧ (∀ s ∈ ys, s.sized) ∧ wr.ownsRow w.heap.size 25 5 o ys.length (cellsReader ys) ∧ CurAt wr bc a len cap (t + 200 + 2 * m) ∧ w.grownBy wr (some bc)) (fun _ i _ => 11 - (intOf i).toNat)
        case atStart => exact ⟨0, [], by omega, rfl, rfl, by simp, OM.out, (C3.out.alloc _).more (by omega), grow_al G3.out _⟩
        case round =>
          obtain ⟨m, ys, hm, rfl, hyl, hsm, hown, hcur, hgr⟩ := hrel
          have SY := Lib.hid hsm
          have O := Lib.hid hown
          have CU := Lib.hid hcur
          have G := Lib.hid hgr
          have YL := Lib.hid hyl
          have hle := hgr.size
          have hyl2 : ys.length ≤ 11 := by omega
          clear hown hcur hgr hsm hyl
          go_wp2_with fail
          refine (pick_any bc a len cap _ 2 _ CU.out (D.out.grown G.out) (by omega) (by omega) (by omega)).mono ?_
          rintro e w5 ⟨x, rfl, x0, x1, hc, hg⟩
          have x1 : x < 2 := x1
          have l5 := hg.size
          have G5 := Lib.hid (grown_trans G.out hg)
          have C5 := Lib.hid hc
          have O5 := Lib.hid (ownsRow_grown0 O.out hg (by intro k e; cases e; exact hbc))
          have v1 : IntKind.i64.wrap (10 + x) = 10 + x := IntWalk.i64_in _ (by omega)
          clear hc hg
          by_cases hlz : (m : Int) < 10 + x
          · have e1 : IntKind.i64.wrap (40 * (m : Int)) = 40 * (m : Int) := IntWalk.i64_in _ (by omega)
            have e2 : IntKind.i64.wrap (1 + (m : Int) % 3) = 1 + (m : Int) % 3 := IntWalk.i64_in _ (by omega)
            have e3 : IntKind.i64.wrap (30 * ((m : Int) % 4)) = 30 * ((m : Int) % 4) := IntWalk.i64_in _ (by omega)
            have hown2 := O5.out.alloc (.cells #[.int .i64 ((m : Int) + 1), .string ⟨#[97, 110, 110, 97]⟩, .int .i64 (40 * (m : Int)), .int .i64 (1 + (m : Int) % 3), .int .i64 (30 * ((m : Int) % 4))] 25)
            go_wp2_with (at_builtin; refine wpList_append_own _ rfl _ _ 33 rfl w.heap.size 25 i0 (.agg #[.int .i64 0, .string ByteArray.empty, .int .i64 0, .int .i64 0, .int .i64 0]) 5 48 Tryz.underlying33 hi hz0 hz1 hz2 rfl (by decide) _ _ _ rfl hown2 ⟨w5.heap.size, 0, none⟩ 1 1 (VReader.vals ⟨(m : Int) + 1, ⟨#[97, 110, 110, 97]⟩, 40 * (m : Int), 1 + (m : Int) % 3, 30 * ((m : Int) % 4)⟩) rfl rfl (cell_Reader _ ⟨(m : Int) + 1, ⟨#[97, 110, 110, 97]⟩, 40 * (m : Int), 1 + (m : Int) % 3, 30 * ((m : Int) % 4)⟩ _) (VReader.vals_one _) (by unfold maxLen; omega) (by omega) (by first | omega | (simp; done) | (simp; omega)) ?_; intro v' w7 hown' hgrow7 hnil7)
            go_roundw
            case rel =>
              have hlt7 := hown2.lt
              exact ⟨m + 1, ys ++ [⟨(m : Int) + 1, ⟨#[97, 110, 110, 97]⟩, 40 * (m : Int), 1 + (m : Int) % 3, 30 * ((m : Int) % 4)⟩], by omega, by go_num, by have := YL.out; simp; omega, small_snoc SY.out (by unfold VReader.sized; show (4 : Nat) ≤ _; omega), by rw [cellsReader_snoc]; simpa using hown', ((C5.out.alloc _).grown hgrow7 (fun e => by have := (hlt7 _ e.symm).1; omega)).more (by omega), grown_own0 (grow_al G5.out _) hgrow7 (fun j e => (hlt7 j e).1)⟩
            case measure => simp [intOf]; omega
          · go_wp2
            go_ret
            exact ⟨_, ys, rfl, by omega, SY.out, O5.out, C5.out.more (by omega), G5.out⟩
end Go.Proofs.YtidaoijpbdljbabGreatDoor
namespace Go.Proofs.YtidaoijpbdljbabGreatDoor
open Go.RowKit

/-- Some number. -/
def NumDrawn (bc : Nat) (a : Option Addr) (len cap t : Nat) (w : World) (e : Ending) (w' : World) : Prop := ∃ x : Int, e = .returned (.int .i64 x) ∧ CurAt w' bc a len cap t ∧ w.grownBy w' (some bc)
set_option maxHeartbeats 1600000 in
set_option maxRecDepth 100000 in
theorem drawReaderId_any (bc : Nat) (a : Option Addr) (len cap t base : Nat) (v : Value) (xs : List VReader) (w : World) (hc : CurAt w bc a len cap t) (hd : CodeAt w a len cap bc) (ht : t ≤ 800000) (hown : w.ownsRow base 25 5 v xs.length (cellsReader xs)) (hb : bc < base) (hx : xs.length ≤ 14) (hsm : ∀ s ∈ xs, s.sized) :
    Calls Tryz.prog 38 #[.pointer (some ⟨bc, 0, none⟩), v] w (NumDrawn bc a len cap (t + 6) w) := by
  have SM := Lib.hid (show ∀ s ∈ xs, s.small from fun s hs => sized_smallReader s (hsm s hs))
  obtain ⟨la, lc, rfl, hs, _⟩ := isReaderS_own hown SM.out
  have C := Lib.hid hc
  have D := Lib.hid hd
  have O := Lib.hid hown
  have hcl := hs.2.1
  have hcm := hs.2.2.1
  have hlt := hc.lt
  unfold maxLen at hcm
  clear hc hd hown hs hsm
  have amongs : ∀ W, CurAt W bc a len cap (t + 2) → CodeAt W a len cap bc → Calls Tryz.prog 45 #[.pointer (some ⟨bc, 0, none⟩), .slice (some ⟨W.heap.size, 0, none⟩) 3 3] (W.alloc (.cells #[.int .i64 0, .int .i64 1, .int .i64 500] 3)) (AmongPost bc a len cap (t + 4) 0 500 (W.alloc (.cells #[.int .i64 0, .int .i64 1, .int .i64 500] 3))) := by
    intro W hc hd
    have hl := hc.lt
    refine among_any bc a len cap _ W.heap.size 0 3 3 0 500 _ (hc.alloc _) (hd.alloc _) (by omega) (by omega) (by omega) (by omega) (by simp) ?_
    refine ints_at _ _ _ 0 500 3 _ rfl rfl ?_
    repeat (refine List.forall_mem_cons.2 ⟨⟨_, by omega, by omega, rfl⟩, ?_⟩)
    exact fun _ h => by cases h
  have AM := Lib.hid amongs
  clear amongs
  by_cases h0 : xs.length = 0
  · have b2 : xs = [] := List.length_eq_zero_iff.1 h0
    subst b2
    clear h0
    go_enter Tryz.func38, Tryz.ntmps38
    go_wp2_with fail
    refine (AM.out _ (C.out.more (by omega)) D.out).mono ?_
    rintro e w1 ⟨x, rfl, _, _, hc1, hg1⟩
    have G1 := Lib.hid (grown_trans (grow_al (World.grownBy.refl w (some bc)) _) hg1)
    have C1 := Lib.hid hc1
    clear hc1 hg1
    go_wp2
    go_ret
    exact ⟨x, rfl, C1.out.more (by omega), G1.out⟩
  · have b0 : ((xs.length : Int) == 0) = false := by simp; intro h; apply h0; rw [h]; rfl
    have b1 : ¬ (xs.length : Int) = 0 := by omega
    have b2 : ¬ xs = [] := fun h => h0 (by rw [h]; rfl)
    have hpos : 0 < xs.length := by omega
    go_enter Tryz.func38, Tryz.ntmps38
    go_wp2_with fail
    refine (one_any bc a len cap _ 10 _ C.out D.out (by omega) (by omega) (by omega)).mono ?_
    rintro e w1 ⟨b, rfl, hc1, hg1⟩
    have G1 := Lib.hid hg1
    have C1 := Lib.hid hc1
    have O1 := Lib.hid (ownsRow_grown0 O.out hg1 (by intro k e; cases e; exact hb))
    clear hc1 hg1
    cases b
    · go_wp2_with fail
      refine (pick_any bc a len cap _ xs.length _ C1.out (D.out.grown G1.out) (by omega) (by omega) (by omega)).mono ?_
      rintro e w2 ⟨p, rfl, p0, p1, hc2, hg2⟩
      obtain ⟨q, rfl⟩ := Int.eq_ofNat_of_zero_le p0
      have hq : q < xs.length := by omega
      have hown2 := ownsRow_grown0 O1.out hg2 (by intro k e; cases e; exact hb)
      obtain ⟨la', lc', e', hs2, _⟩ := isReaderS_own hown2 SM.out
      cases e'
      obtain ⟨b, o, rfl, _, hat⟩ := hs2.at hpos
      obtain ⟨c0, c1, c2, c3, c4, _⟩ := hat q _ (List.getElem?_eq_getElem hq)
      obtain ⟨s, hsq⟩ : ∃ s, xs[q] = s := ⟨_, rfl⟩
      rw [hsq] at c0 c1 c2 c3 c4
      have G2 := Lib.hid (grown_trans G1.out hg2)
      have C2 := Lib.hid hc2
      clear hc2 hg2 hown2 hs2 hat hsq O O1
      go_wp2
      go_ret
      exact ⟨s.Id, rfl, C2.out.more (by omega), G2.out⟩
    · go_wp2_with fail
      refine (AM.out _ C1.out (D.out.grown G1.out)).mono ?_
      rintro e w2 ⟨x, rfl, _, _, hc2, hg2⟩
      have G2 := Lib.hid (grown_trans (grow_al G1.out _) hg2)
      have C2 := Lib.hid hc2
      clear hc2 hg2
      go_wp2
      go_ret
      exact ⟨x, rfl, C2.out.more (by omega), G2.out⟩
/-- Some readers and two numbers. -/
def RdsTwo (w : World) (e : Ending) (w' : World) : Prop := ∃ (a : Option Addr) (cap : Nat) (xs : List VReader) (x y : Int), e = .returned (.tuple #[.slice a xs.length cap, .int .i64 x, .int .i64 y]) ∧ xs.length ≤ 14 ∧ (∀ s ∈ xs, s.sized) ∧ IsReaderS w' a xs.length cap xs ∧ Below w.heap.size w w'
/-- Some readers, a text and a number. -/
def RdsTxt (w : World) (e : Ending) (w' : World) : Prop := ∃ (a : Option Addr) (cap : Nat) (xs : List VReader) (x : ByteArray) (y : Int), e = .returned (.tuple #[.slice a xs.length cap, .string x, .int .i64 y]) ∧ xs.length ≤ 14 ∧ (∀ s ∈ xs, s.sized) ∧ x.size ≤ 4 ∧ IsReaderS w' a xs.length cap xs ∧ Below w.heap.size w w'
set_option maxHeartbeats 1600000 in
set_option maxRecDepth 100000 in
theorem drawFineReader_any (a : Option Addr) (len cap : Nat) (w : World) (h : CodeIn w a len cap) :
    Calls Tryz.prog 12 #[.slice a len cap] w (RdsTwo w) := by
  have C := Lib.hid (cur_new w a len cap)
  have D := Lib.hid (h.at (bel_alloc w (.cells #[.slice a len cap, .int .i64 0, .int .u64 0] 59)))
  clear h
  go_enter Tryz.func12, Tryz.ntmps12
  go_wp2_with fail
  refine (readers_any _ a len cap _ _ C.out D.out (by omega)).mono ?_
  rintro e w1 ⟨v, xs, rfl, hx, hsm, hown, hc, hg⟩
  have SZ := Lib.hid (show w.heap.size < (w.alloc (.cells #[.slice a len cap, .int .i64 0, .int .u64 0] 59)).heap.size by rw [size_al]; omega)
  have s1 : w.heap.size + 1 ≤ w1.heap.size := by have := hg.size; rw [size_al] at this; exact this
  have SM := Lib.hid hsm
  have C1 := Lib.hid hc
  have D1 := Lib.hid (D.out.grown hg)
  have O1 := Lib.hid hown
  have G1 := Lib.hid (below_cur (bel_alloc w _) rfl hg)
  clear hc hg hown hsm
  go_wp2_with fail
  refine (drawReaderId_any _ a len cap _ _ v xs _ C1.out D1.out (by omega) O1.out SZ.out hx SM.out).mono ?_
  rintro e w2 ⟨x2, rfl, hc, hg⟩
  have s2 := hg.size
  have C2 := Lib.hid hc
  have D2 := Lib.hid ((D1.out).grown hg)
  have O2 := Lib.hid (ownsRow_grown0 O1.out hg (by intro k e; cases e; exact SZ.out))
  have G2 := Lib.hid (below_cur G1.out rfl hg)
  clear hc hg
  go_wp2_with fail
  refine (cents3_any _ a len cap _ _ C2.out D2.out (by omega)).mono ?_
  rintro e w3 ⟨x3, rfl, _, _, hc, hg⟩
  have s3 := hg.size
  have C3 := Lib.hid hc
  have D3 := Lib.hid ((D2.out).grown hg)
  have O3 := Lib.hid (ownsRow_grown0 O2.out hg (by intro k e; cases e; exact SZ.out))
  have G3 := Lib.hid (below_cur G2.out rfl hg)
  clear hc hg
  obtain ⟨la, lc, e', hs, _⟩ := isReaderS_own O3.out (fun s hs => sized_smallReader s (SM.out s hs))
  subst e'
  have S2 := Lib.hid hs
  clear hs
  go_wp2
  go_ret3
  exact ⟨la, lc, xs, x2, x3, rfl, hx, SM.out, S2.out, G3.out⟩
end Go.Proofs.YtidaoijpbdljbabGreatDoor
namespace Go.Proofs.YtidaoijpbdljbabGreatDoor
open Go.RowKit

set_option maxHeartbeats 3200000 in
set_option maxRecDepth 100000 in
theorem spoilt_any (bc : Nat) (a : Option Addr) (len cap t : Nat) (s wd : ByteArray) (w : World) (hc : CurAt w bc a len cap t) (hd : CodeAt w a len cap bc) (ht : t ≤ 800000) (hs : s.size ≤ 60000) (h1 : 1 ≤ wd.size) (h2 : wd.size ≤ 100) :
    Calls Tryz.prog 34 #[.pointer (some ⟨bc, 0, none⟩), .string s, .string wd] w (OfPost bc a len cap (t + 6) (s.size + 1) w) := by
  have C := Lib.hid hc
  have D := Lib.hid hd
  clear hc hd
  by_cases he : s.size = 0
  · have e0 : s = ⟨#[]⟩ := by
      refine bytes_ext (List.length_eq_zero_iff.1 ?_)
      rw [← size_list]; exact he
    subst e0
    clear hs he
    go_enter Tryz.func34, Tryz.ntmps34
    have f1 : (1 : Int) ≤ (wd.size : Int) := by omega
    go_wp2
    go_ret
    exact ⟨_, rfl, by rw [ByteArray.size_extract]; omega, C.out.more (by omega), World.grownBy.refl _ _⟩
  · have hne : ¬ s = ⟨#[]⟩ := fun e => he (by rw [e]; rfl)
    have hE : s.toList.isEmpty = false := by
      cases h : s.toList with
      | nil => exact absurd (by rw [size_list, ← ByteArray.toList_eq, h]; rfl) he
      | cons _ _ => rfl
    have hE2 : ¬ s.toList = [] := fun h => by rw [h] at hE; cases hE
    have hz : 1 ≤ s.size := by omega
    clear he
    go_enter Tryz.func34, Tryz.ntmps34
    go_wp2_with fail
    refine (pick_any bc a len cap _ s.size _ C.out D.out (by omega) hz (by omega)).mono ?_
    rintro e w1 ⟨x, rfl, x0, x1, hc, hg⟩
    obtain ⟨i, rfl⟩ := Int.eq_ofNat_of_zero_le x0
    have hi : i < s.size := by omega
    have G1 := Lib.hid hg
    have C1 := Lib.hid hc
    clear hc hg x0 x1
    go_wp2_with fail
    refine (pick_any bc a len cap _ wd.size _ C1.out (D.out.grown G1.out) (by omega) h1 (by omega)).mono ?_
    rintro e w2 ⟨y, rfl, y0, y1, hc, hg⟩
    obtain ⟨k, rfl⟩ := Int.eq_ofNat_of_zero_le y0
    have hk : k < wd.size := by omega
    have G2 := Lib.hid (grown_trans G1.out hg)
    have C2 := Lib.hid hc
    have k1 : (k : Int) ≤ (wd.size : Int) := by omega
    have k0 : (0 : Int) ≤ (k : Int) := by omega
    have kz : (wd.extract k wd.size).size = wd.size - k := by rw [ByteArray.size_extract]; omega
    have k2 : (1 : Int) ≤ ((wd.extract k wd.size).size : Int) := by omega
    clear hc hg y0 y1
    go_wp2_with fail
    refine (pick_any bc a len cap _ 3 _ C2.out (D.out.grown G2.out) (by omega) (by omega) (by omega)).mono ?_
    rintro e w3 ⟨z, rfl, z0, z1, hc, hg⟩
    have z1 : z < 3 := z1
    have G3 := Lib.hid (grown_trans G2.out hg)
    have C3 := Lib.hid hc
    clear hc hg
    have hiS : (i : Int) ≤ (s.size : Int) := by omega
    have hi0 : (0 : Int) ≤ (i : Int) := by omega
    have hi1 : (0 : Int) ≤ (i : Int) + 1 := by omega
    have hi2 : (i : Int) + 1 ≤ (s.size : Int) := by omega
    have hw1 : IntKind.i64.wrap ((i : Int) + 1) = (i : Int) + 1 := IntWalk.i64_in _ (by omega)
    have n1 : ((i : Int) + 1).toNat = i + 1 := by omega
    obtain ⟨g, hgl⟩ : ∃ g : ByteArray, (wd.extract k wd.size).extract 0 1 = g := ⟨_, rfl⟩
    have gz : g.size = 1 := by rw [← hgl, ByteArray.size_extract, kz]; omega
    have z1' : (s.extract 0 i).size = i := by rw [ByteArray.size_extract]; omega
    have z2' : (s.extract i s.size).size = s.size - i := by rw [ByteArray.size_extract]; omega
    have z3' : (s.extract (i + 1) s.size).size = s.size - (i + 1) := by rw [ByteArray.size_extract]; omega
    have GL := Lib.hid hgl
    clear hgl
    rcases (by omega : z = 0 ∨ z = 1 ∨ z = 2) with rfl | rfl | rfl
    all_goals
      go_wp2_with fail
      go_quiet (fail)
      go_wp2
      go_ret
      exact ⟨_, rfl, by simp only [ByteArray.size_append, ByteArray.size_extract]; omega, (C3.out.heap rfl).more (by omega), grown_trans G3.out (grown_below (bel_drawn _ _) _)⟩
/-- Some reader. -/
def RdDraw (w : World) (e : Ending) (w' : World) : Prop := ∃ r : VReader, e = .returned (.agg #[.int .i64 r.Id, .string r.Name, .int .i64 r.Joined, .int .i64 r.Class, .int .i64 r.Fines]) ∧ r.sized ∧ Below w.heap.size w w'
set_option maxHeartbeats 3200000 in
set_option maxRecDepth 100000 in
theorem drawIsReader_any (a : Option Addr) (len cap : Nat) (w : World) (h : CodeIn w a len cap) :
    Calls Tryz.prog 24 #[.slice a len cap] w (RdDraw w) := by
  have Z := Lib.hid (HBReader.new w ⟨0, ByteArray.empty, 0, 0, 0⟩ _ rfl)
  have hc := cur_new (w.alloc (.cells #[.int .i64 0, .string ByteArray.empty, .int .i64 0, .int .i64 0, .int .i64 0] 25)) a len cap
  have hd := (h.below (bel_al1 w (.cells #[.int .i64 0, .string ByteArray.empty, .int .i64 0, .int .i64 0, .int .i64 0] 25))).at (bel_alloc _ (.cells #[.slice a len cap, .int .i64 0, .int .u64 0] 59))
  rw [size_al] at hc hd
  have C := Lib.hid hc
  have D := Lib.hid hd
  clear h hc hd
  go_enter Tryz.func24, Tryz.ntmps24
  go_wp2_with fail
  refine (among_any (w.heap.size + 1) a len cap _ (w.heap.size + 2) 0 3 3 1 999 _ (C.out.alloc _) (D.out.alloc _) (by omega) (by omega) (by omega) (by omega) (by simp) ?_).mono ?_
  · refine ints_at _ _ _ 1 999 3 _ (by simp) rfl ?_
    repeat (refine List.forall_mem_cons.2 ⟨⟨_, by omega, by omega, rfl⟩, ?_⟩)
    exact fun _ h => by cases h
  rintro e w1 ⟨x, rfl, _, _, hc, hg⟩
  have G1 := Lib.hid (show Below w.heap.size w w1 from Below.grown (bel_al3 w _ _ _) hg (bel_al3 w _ _ _).size (fun k e => by cases e; omega))
  have C1 := Lib.hid hc
  have D1 := Lib.hid ((D.out.alloc _).grown hg)
  have Z1 := Lib.hid (((Z.out.alloc _).alloc _).grown hg (by simp only [ne_eq, Option.some.injEq]; omega))
  clear hc hg
  go_wp2_with fail
  refine (reader_any (w.heap.size + 1) a len cap _ x _ C1.out D1.out (by omega)).mono ?_
  rintro e w2 ⟨r, rfl, hr, hc, hg⟩
  have G2 := Lib.hid (show Below w.heap.size w w2 from G1.out.grown hg G1.out.size (fun k e => by cases e; omega))
  have Z2 := Lib.hid (Z1.out.grown hg (by simp only [ne_eq, Option.some.injEq]; omega))
  clear hc hg
  obtain ⟨d0, d1, d2, d3, d4⟩ := Z2.out.cells
  have g0 := Z2.out.free 0
  have g1 := Z2.out.free 1
  have g2 := Z2.out.free 2
  have g3 := Z2.out.free 3
  have g4 := Z2.out.free 4
  go_wp2
  refine bodyPost_ret (resultsReader1 rfl rfl (Z2.out.setAll r)) rfl ⟨r, rfl, hr, ?_⟩
  exact ((((G2.out.setCell (by simp) _).setCell (by simp) _).setCell (by simp) _).setCell (by simp) _).setCell (by simp) _
set_option maxHeartbeats 3200000 in
set_option maxRecDepth 100000 in
theorem drawReaderText_any (a : Option Addr) (len cap : Nat) (w : World) (h : CodeIn w a len cap) :
    Calls Tryz.prog 5 #[.slice a len cap] w (RdDraw w) := by
  have Z := Lib.hid (HBReader.new w ⟨0, ByteArray.empty, 0, 0, 0⟩ _ rfl)
  have I := Lib.hid (h.below (bel_al1 w (.cells #[.int .i64 0, .string ByteArray.empty, .int .i64 0, .int .i64 0, .int .i64 0] 25)))
  clear h
  go_enter Tryz.func5, Tryz.ntmps5
  go_wp2_with fail
  refine (drawIsReader_any _ _ _ _ I.out).mono ?_
  rintro e w2 ⟨r, rfl, hr, hb⟩
  have G2 := Lib.hid (Below.then' (bel_al1 _ _) hb)
  have Z2 := Lib.hid (Z.out.below hb)
  clear hb
  obtain ⟨d0, d1, d2, d3, d4⟩ := Z2.out.cells
  have g0 := Z2.out.free 0
  have g1 := Z2.out.free 1
  have g2 := Z2.out.free 2
  have g3 := Z2.out.free 3
  have g4 := Z2.out.free 4
  go_wp2
  refine bodyPost_ret (resultsReader1 rfl rfl (Z2.out.setAll r)) rfl ⟨r, rfl, hr, ?_⟩
  exact ((((G2.out.setCell (by simp) _).setCell (by simp) _).setCell (by simp) _).setCell (by simp) _).setCell (by simp) _
/-- Some readers and a number. -/
def RdsNum (w : World) (e : Ending) (w' : World) : Prop := ∃ (a : Option Addr) (cap : Nat) (xs : List VReader) (x : Int), e = .returned (.tuple #[.slice a xs.length cap, .int .i64 x]) ∧ xs.length ≤ 14 ∧ (∀ s ∈ xs, s.sized) ∧ IsReaderS w' a xs.length cap xs ∧ Below w.heap.size w w'
set_option maxHeartbeats 3200000 in
set_option maxRecDepth 100000 in
theorem drawOweMost_any (a : Option Addr) (len cap : Nat) (w : World) (h : CodeIn w a len cap) :
    Calls Tryz.prog 17 #[.slice a len cap] w (RdsNum w) := by
  have C := Lib.hid (cur_new w a len cap)
  have D := Lib.hid (h.at (bel_alloc w (.cells #[.slice a len cap, .int .i64 0, .int .u64 0] 59)))
  clear h
  go_enter Tryz.func17, Tryz.ntmps17
  go_wp2_with fail
  refine (readers_any _ a len cap _ _ C.out D.out (by omega)).mono ?_
  rintro e w1 ⟨v, xs, rfl, hx, hsm, hown, hc, hg⟩
  have SZ := Lib.hid (show w.heap.size < (w.alloc (.cells #[.slice a len cap, .int .i64 0, .int .u64 0] 59)).heap.size by rw [size_al]; omega)
  have s1 : w.heap.size + 1 ≤ w1.heap.size := by have := hg.size; rw [size_al] at this; exact this
  have SM := Lib.hid hsm
  have C1 := Lib.hid hc
  have D1 := Lib.hid (D.out.grown hg)
  have O1 := Lib.hid hown
  have G1 := Lib.hid (below_cur (bel_alloc w _) rfl hg)
  have LI := Lib.hid (ints_at w1 #[.int .i64 0, .int .i64 1, .int .i64 3, .int .i64 10, .int .i64 (-1), .int .i64 11] 3 (-1) 11 6 _ rfl rfl (by
    repeat (refine List.forall_mem_cons.2 ⟨⟨_, by omega, by omega, rfl⟩, ?_⟩)
    exact fun _ h => by cases h))
  clear hc hg hown hsm
  go_wp2_with fail
  refine (pick_any _ a len cap _ 24 _ (C1.out.alloc _) (D1.out.alloc _) (by omega) (by omega) (by omega)).mono ?_
  rintro e w2 ⟨p, rfl, p0, p1, hc, hg⟩
  have p1 : p < 24 := p1
  obtain ⟨k, hk⟩ : ∃ k : Nat, 4 + p / 11 = (k : Int) := ⟨(4 + p / 11).toNat, by omega⟩
  have k1 : 4 ≤ k := by omega
  have k2 : k ≤ 6 := by omega
  have hw : IntKind.i64.wrap (4 + p / 11) = (k : Int) := hk ▸ IntWalk.i64_in _ (by omega)
  have s2 : w1.heap.size + 1 ≤ w2.heap.size := by have := hg.size; rw [size_al] at this; exact this
  have C2 := Lib.hid hc
  have D2 := Lib.hid ((D1.out.alloc _).grown hg)
  have O2 := Lib.hid (ownsRow_grown0 (O1.out.alloc _) hg (by intro k e; cases e; exact SZ.out))
  have G2 := Lib.hid (below_cur (Below.then' G1.out (bel_al1 w1 _)) rfl hg)
  have LJ := Lib.hid (show ∀ i, i < k → ∃ x : Int, (-1) ≤ x ∧ x ≤ 11 ∧ w2.cell? ⟨w1.heap.size, 0 + i, none⟩ = some (.int .i64 x) from fun i hi => by
    obtain ⟨x, x0, x1, hx⟩ := LI.out i (by omega)
    exact ⟨x, x0, x1, (World.cell?_of_block (a := ⟨w1.heap.size, 0 + i, none⟩) (hg.block w1.heap.size (by rw [size_al]; omega) (by simp only [ne_eq, Option.some.injEq]; omega))).trans hx⟩)
  clear hc hg
  go_wp2_with fail
  refine (among_any _ a len cap _ w1.heap.size 0 k 6 (-1) 11 _ C2.out D2.out (by omega) (by omega) (by omega) (by omega) (by omega) LJ.out).mono ?_
  rintro e w3 ⟨x, rfl, x0, x1, hc, hg⟩
  have O3 := Lib.hid (ownsRow_grown0 O2.out hg (by intro k e; cases e; exact SZ.out))
  have G3 := Lib.hid (below_cur G2.out rfl hg)
  clear hc hg
  obtain ⟨la, lc, e', hs, _⟩ := isReaderS_own O3.out (fun s hs => sized_smallReader s (SM.out s hs))
  subst e'
  have S2 := Lib.hid hs
  clear hs
  go_wp2
  go_ret2
  exact ⟨la, lc, xs, x, rfl, hx, SM.out, S2.out, G3.out⟩
/-- Some text. -/
def TxtDraw (w : World) (e : Ending) (w' : World) : Prop := ∃ x : ByteArray, e = .returned (.string x) ∧ x.size ≤ 61 ∧ Below w.heap.size w w'
set_option maxHeartbeats 3200000 in
set_option maxRecDepth 100000 in
theorem drawParseReader_any (a : Option Addr) (len cap : Nat) (w : World) (h : CodeIn w a len cap) :
    Calls Tryz.prog 10 #[.slice a len cap] w (TxtDraw w) := by
  have C := Lib.hid (cur_new w a len cap)
  have D := Lib.hid (h.at (bel_alloc w (.cells #[.slice a len cap, .int .i64 0, .int .u64 0] 59)))
  have I := Lib.hid (h.below (bel_al1 w (.cells #[.slice a len cap, .int .i64 0, .int .u64 0] 59)))
  clear h
  go_enter Tryz.func10, Tryz.ntmps10
  go_wp2_with fail
  refine (drawIsReader_any _ _ _ _ I.out).mono ?_
  rintro e w1 ⟨r, rfl, hr, hb⟩
  have hbc : w.heap.size < (w.alloc (.cells #[.slice a len cap, .int .i64 0, .int .u64 0] 59)).heap.size := by rw [size_al]; omega
  have C1 := Lib.hid (C.out.heap (hb.block w.heap.size hbc))
  have D1 := Lib.hid (D.out.grown (grown_below hb _))
  have G1 := Lib.hid (Below.then' (bel_al1 _ _) hb)
  have RS := Lib.hid hr
  clear hb hr hbc
  go_wp2_with fail
  refine (specReaderText_any r _ RS.out).mono ?_
  rintro e w2 ⟨rfl, hb⟩
  have C2 := Lib.hid (C1.out.heap (hb.block w.heap.size C1.out.lt))
  have D2 := Lib.hid (D1.out.grown (grown_below hb _))
  have G2 := Lib.hid (Below.then' G1.out hb)
  have hz := ReaderText_0_size r
  obtain ⟨s, hs⟩ : ∃ s, ReaderText_0 r = s := ⟨_, rfl⟩
  obtain ⟨ok, hok⟩ : ∃ s, ReaderText_1 r = s := ⟨_, rfl⟩
  rw [hs] at hz
  rw [hs, hok]
  clear hb hs hok
  go_wp2_with fail
  refine (one_any _ a len cap _ 3 _ C2.out D2.out (by omega) (by omega) (by omega)).mono ?_
  rintro e w3 ⟨b, rfl, hc, hg⟩
  have C3 := Lib.hid hc
  have D3 := Lib.hid (D2.out.grown hg)
  have G3 := Lib.hid (below_cur G2.out rfl hg)
  clear hc hg
  cases b
  · go_wp2
    go_ret
    exact ⟨s, rfl, by omega, G3.out⟩
  · go_wp2_with fail
    refine (spoilt_any _ a len cap _ s ⟨#[48, 32, 99, 115, 49, 97, 111]⟩ _ C3.out D3.out (by omega) (by omega) (by decide) (by decide)).mono ?_
    rintro e w4 ⟨x, rfl, hx, hc, hg⟩
    have G4 := Lib.hid (below_cur G3.out rfl hg)
    clear hc hg
    go_wp2
    go_ret
    exact ⟨x, rfl, by omega, G4.out⟩
end Go.Proofs.YtidaoijpbdljbabGreatDoor
namespace Go.Proofs.YtidaoijpbdljbabGreatDoor
open Go.RowKit
set_option maxHeartbeats 3200000 in
set_option maxRecDepth 100000 in
theorem rReaders_yes (a : Option Addr) (len cap : Nat) (a' : Option Addr) (len' cap' : Nat) (xs : List VReader) (w : World) (h : IsReaderS w a len cap xs) (h' : IsReaderS w a' len' cap' xs) :
    Calls Tryz.prog 15 #[.slice a len cap, .slice a' len' cap'] w fun e w' => e = .returned (.bool true) ∧ Below w.heap.size w w' := by
  obtain rfl := h.1
  obtain rfl := h'.1
  have hm := h.2.2.1
  have hcl := h.2.1
  unfold maxLen at hm
  have S := Lib.hid h
  have S' := Lib.hid h'
  clear h h'
  go_enter Tryz.func15, Tryz.ntmps15
  go_wp2
  go_loopw [5] (fun i wr => ∃ k : Nat, k ≤ xs.length ∧ i = .int .i64 k ∧ Below w.heap.size w wr) (fun i _ => xs.length - (intOf i).toNat)
  case atStart => exact ⟨0, Nat.zero_le _, rfl, Below.refl _ _⟩
  case round =>
    obtain ⟨k, hk, rfl, hbel⟩ := hrel
    have B := Lib.hid hbel
    by_cases hlt : k < xs.length
    · obtain ⟨s, hs⟩ : ∃ s, xs[k]? = some s := ⟨xs[k]'hlt, List.getElem?_eq_getElem _⟩
      obtain ⟨b, o, rfl, hb, hat⟩ := (S.out.below hbel).at (by omega)
      obtain ⟨b', o', rfl, hb', hat'⟩ := (S'.out.below hbel).at (by omega)
      obtain ⟨c0, c1, c2, c3, c4, _⟩ := hat k s hs
      obtain ⟨d0, d1, d2, d3, d4, _⟩ := hat' k s hs
      have hi0 : (0 : Int) ≤ (k : Int) := by omega
      have hi1 : (k : Int) < (xs.length : Int) := by omega
      clear hbel hs hat hat'
      go_wp2
      go_quiet (fail)
      have B1 := Lib.hid (Below.then' B.out (bel_drawn wr nq))
      go_wp2
      go_roundw
      case rel => exact ⟨k + 1, by omega, by go_num, B1.out⟩
      case measure => simp [intOf]; omega
    · obtain rfl : k = xs.length := by omega
      clear hbel
      go_wp2
      go_ret
      exact ⟨rfl, B.out⟩
end Go.Proofs.YtidaoijpbdljbabGreatDoor
namespace Go.Proofs.YtidaoijpbdljbabGreatDoor
open Go.RowKit

theorem isNaN_any (x : Int) (w : World) : Calls Tryz.prog 71 #[.int .i64 x] w fun e w' => e = .returned (.bool false) ∧ w = w' := by
  go_enter Tryz.func71, Tryz.ntmps71
  go_wp2
  go_ret
  exact ⟨by first | rfl | simp, rfl⟩
set_option maxHeartbeats 800000 in
theorem compare_any (x y : Int) (w : World) : Calls Tryz.prog 52 #[.int .i64 x, .int .i64 y] w fun e w' => e = .returned (.int .i64 (Lib.compareInt x y)) ∧ w = w' := by
  by_cases h1 : x < y
  · go_enter Tryz.func52, Tryz.ntmps52
    go_wp2_with (go_at_call 71; refine (isNaN_any _ _).mono ?_; rintro e w' ⟨rfl, rfl⟩)
    go_ret
    exact ⟨ret_int (by unfold Lib.compareInt; rw [if_pos h1]), rfl⟩
  · by_cases h2 : y < x
    · go_enter Tryz.func52, Tryz.ntmps52
      go_wp2_with (go_at_call 71; refine (isNaN_any _ _).mono ?_; rintro e w' ⟨rfl, rfl⟩)
      go_ret
      exact ⟨ret_int (by unfold Lib.compareInt; rw [if_neg (by omega), if_pos (by omega)]), rfl⟩
    · go_enter Tryz.func52, Tryz.ntmps52
      go_wp2_with (go_at_call 71; refine (isNaN_any _ _).mono ?_; rintro e w' ⟨rfl, rfl⟩)
      go_ret
      exact ⟨ret_int (by unfold Lib.compareInt; rw [if_neg (by omega), if_neg (by omega)]), rfl⟩
set_option maxHeartbeats 800000 in
theorem or_any (b c : Nat) (x y : Int) (w : World) (h0 : w.cell? ⟨b, 0, none⟩ = some (.int .i64 x)) (h1 : w.cell? ⟨b, 1, none⟩ = some (.int .i64 y)) :
    Calls Tryz.prog 51 #[.slice (some ⟨b, 0, none⟩) 2 c] w fun e w' => e = .returned (.int .i64 (if x = 0 then y else x)) ∧ w = w' := by
  have C0 := Lib.hid h0
  have C1 := Lib.hid h1
  clear h0 h1
  go_enter Tryz.func51, Tryz.ntmps51
  go_wp2
  go_loop [8, 5] (fun i _ => ∃ k : Nat, k ≤ 2 ∧ i = .int .i64 k ∧ (1 ≤ k → x = 0) ∧ (2 ≤ k → y = 0)) (fun i _ => 2 - (intOf i).toNat)
  case atStart => exact ⟨0, by omega, rfl, by omega, by omega⟩
  case round =>
    obtain ⟨k, hk, rfl, h2, h3⟩ := hrel
    have hk3 : k = 0 ∨ k = 1 ∨ k = 2 := by omega
    rcases hk3 with rfl | rfl | rfl
    · have c0 := C0.out
      by_cases hx : x = 0
      · subst hx
        go_wp2
        go_round
        case rel => exact ⟨1, by omega, rfl, by simp, by omega⟩
        case measure => simp [intOf]
      · have hx1 : (x != 0) = true := by simpa using hx
        have HX := Lib.hid hx
        clear hx
        go_wp2
        go_ret
        exact ⟨ret_int (by have := HX.out; simp), rfl⟩
    · have c1 := C1.out
      obtain rfl : x = 0 := h2 (by omega)
      clear h2
      by_cases hy : y = 0
      · subst hy
        go_wp2
        go_round
        case rel => exact ⟨2, by omega, rfl, by simp, by simp⟩
        case measure => simp [intOf]
      · have hy1 : (y != 0) = true := by simpa using hy
        go_wp2
        go_ret
        exact ⟨ret_int (by simp), rfl⟩
    · obtain rfl : x = 0 := h2 (by omega)
      obtain rfl : y = 0 := h3 (by omega)
      clear h2 h3
      go_wp2
      go_ret
      exact ⟨ret_int (by simp), rfl⟩

theorem or_new (W : World) (x y : Int) (t : TypeId) (B : Nat) (hB : W.heap.size = B) :
    Calls Tryz.prog 51 #[.slice (some ⟨B, 0, none⟩) 2 2] (W.alloc (.cells #[.int .i64 x, .int .i64 y] t)).drew fun e w' => e = .returned (.int .i64 (if x = 0 then y else x)) ∧ (W.alloc (.cells #[.int .i64 x, .int .i64 y] t)).drew = w' :=
  or_any B 2 x y _ (lit2 W x y t B hB 0 x rfl) (lit2 W x y t B hB 1 y rfl)
theorem grown2 (w : World) (o1 o2 : Obj) : ∃ os, (w.alloc o1).alloc o2 = Sort.grow w os := ⟨#[o1] ++ #[o2], by rw [Sort.alloc_eq_grow, Sort.alloc_eq_grow, Sort.grow_grow]⟩
end Go.Proofs.YtidaoijpbdljbabGreatDoor
namespace Go.Proofs.YtidaoijpbdljbabGreatDoor
open Go.RowKit Go.Sort

instance : Inhabited VReader := ⟨⟨0, ByteArray.empty, 0, 0, 0⟩⟩
theorem grownBy_sortReader {enc : VReader → List Value} {k : Nat} {w : World} {g n : Nat} {d : Array VReader} {os : Array Obj} (_hg : g < w.heap.size) : w.grownBy (sortWorldK enc k w g 0 n d os) (some g) := by
  unfold sortWorldK
  refine ⟨rfl, rfl, rfl, ?_, fun j hj hne => ?_⟩
  · rw [Sort.size_grow, size_putRowK]; exact Nat.le_add_right _ _
  · have hne' : j ≠ g := fun e => hne (by rw [e])
    have h1 : (putRowK enc k (Sort.ahead w n) g 0 d).heap[j]? = w.heap[j]? := by
      unfold putRowK putRow mapBlock
      simp [Array.getElem?_modify, hne'.symm, Sort.ahead]
    have hsz : j < (putRowK enc k (Sort.ahead w n) g 0 d).heap.size := by rw [size_putRowK]; exact hj
    show ((putRowK enc k (Sort.ahead w n) g 0 d).heap ++ os)[j]? = _
    rw [Array.getElem?_append_left hsz, h1]
theorem holds_ownReader {w : World} {base n cap g : Nat} {xs : List VReader} (h : w.ownsRow base 25 5 (.slice (some ⟨g, 0, none⟩) n cap) n (cellsReader xs)) : HoldsK VReader.vals 5 w g 0 xs.toArray := by
  intro j hj
  rw [size_flatK] at hj
  rw [get_flatK _ _ _ _ hj]
  have hj' : j < xs.length * 5 := by simpa using hj
  have hk : j / 5 < xs.length := by omega
  have hs : xs[j / 5]? = some xs[j / 5] := List.getElem?_eq_getElem hk
  have hd : (xs.toArray[j / 5]! : VReader) = xs[j / 5] := by simp [hk]
  rw [hd]
  have hc := cellsReader_at hs (j % 5) (by omega)
  rw [show j / 5 * 5 + j % 5 = j from by omega] at hc
  have hl : j % 5 < (xs[j / 5]).vals.length := by rw [VReader.vals_len]; omega
  have he : (xs[j / 5]).vals[j % 5]! = (xs[j / 5]).vals[j % 5] := by simp [hl]
  refine ⟨?_, ?_⟩
  · have h2 := h.cells (g := g) rfl j (xs[j / 5]).vals[j % 5] (by rw [hc, List.getElem?_eq_getElem hl])
    rw [add_plain] at h2
    rw [h2, he]; rfl
  · have := h.frozenAt j
    rw [Nat.zero_add]; exact this
theorem isReaderS_holds {w : World} {g cap : Nat} {d : Array VReader} (h : HoldsK VReader.vals 5 w g 0 d) (hc : d.size ≤ cap) (hm : cap ≤ maxLen) (hg : g < w.heap.size) (hsm : ∀ s ∈ d.toList, s.small) : IsReaderS w (some ⟨g, 0, none⟩) d.size cap d.toList := by
  refine ⟨by simp, hc, hm, .inr ⟨g, 0, rfl, hg, fun k s hs => ?_⟩⟩
  have hk : k < d.size := by simpa using (List.getElem?_eq_some_iff.1 hs).1
  have hd : d[k]! = s := by
    have : d[k]? = some s := by simpa using hs
    simp [Array.getElem!_eq_getD, Array.getD_eq_getD_getElem?, this]
  have each : ∀ j u, j < 5 → s.vals[j]? = some u → w.cell? ⟨g, 0 + k * 5 + j, none⟩ = some u := fun j u hj hu => by
    have h1 := (h (k * 5 + j) (by rw [size_flatK]; omega)).1
    rw [get_flatK _ _ _ _ (by omega), show (k * 5 + j) / 5 = k from by omega, show (k * 5 + j) % 5 = j from by omega, hd] at h1
    rw [Nat.add_assoc, h1]
    have : s.vals[j]! = u := by
      have hl : j < s.vals.length := by rw [VReader.vals_len]; exact hj
      rw [List.getElem?_eq_getElem hl] at hu
      simp at hu
      simp [hl, hu]
    rw [this]; rfl
  exact ⟨each 0 _ (by decide) rfl, each 1 _ (by decide) rfl, each 2 _ (by decide) rfl, each 3 _ (by decide) rfl, each 4 _ (by decide) rfl, hsm s (List.mem_of_getElem? hs)⟩
/-- The row is in order, as the order handed in tells it. -/
def SortReaderPost (cmp : VReader → VReader → Int) (g cap : Nat) (xs : List VReader) (w : World) (e : Ending) (w' : World) : Prop :=
  e = .returned (.tuple #[]) ∧ ∃ ys : List VReader, ys.Perm xs ∧ (∀ (i j : Nat) s t, i < j → ys[i]? = some s → ys[j]? = some t → ltOf cmp t s = false) ∧ IsReaderS w' (some ⟨g, 0, none⟩) xs.length cap ys ∧ w.grownBy w' (some g)
theorem sortReader_any (K : FuncId) (cmp : VReader → VReader → Int) (swo : SWO (ltOf cmp)) (hcall : ∀ args W, (callFunc K args).run Tryz.prog W = .ok (.enter K args) W)
    (hcmp : ∀ (a b : VReader) (W : World), Calls Tryz.prog K #[.agg #[.int .i64 a.Id, .string a.Name, .int .i64 a.Joined, .int .i64 a.Class, .int .i64 a.Fines], .agg #[.int .i64 b.Id, .string b.Name, .int .i64 b.Joined, .int .i64 b.Class, .int .i64 b.Fines]] W fun e w' => e = .returned (.int .i64 (cmp a b)) ∧ ∃ q os, w' = Sort.grow (W.drewN q) os)
    (base cap g : Nat) (xs : List VReader) (w : World) (h : w.ownsRow base 25 5 (.slice (some ⟨g, 0, none⟩) xs.length cap) xs.length (cellsReader xs)) (h12 : xs.length ≤ 12) (hsm : ∀ s ∈ xs, s.small) :
    Calls Tryz.prog 49 #[.slice (some ⟨g, 0, none⟩) xs.length cap, .func (.func K) #[] #[]] w (SortReaderPost cmp g cap xs w) := by
  have hlt := (h.lt g rfl).2
  obtain ⟨hcap, hmx⟩ : xs.length ≤ cap ∧ cap ≤ maxLen := by
    rcases h.2 with ⟨e, _⟩ | ⟨g', cap', cur, e, _, _, h1, h2, _⟩
    · cases e
    · cases e; exact ⟨h1, h2⟩
  have hcmp2 : CmpLays Tryz.prog K #[] VReader.vals 5 cmp g 0 xs.toArray.size w := fun m os dk _ x y => by
    have := hcmp x y (sortWorldK VReader.vals 5 w g 0 m dk os)
    simpa [VReader.vals] using this
  have hlen : ∀ (n : Nat) (W : World), n ≤ 12 → Calls Tryz.prog 70 #[.int .u64 n] W fun e w' => (∃ l : Int, e = .returned (.int .i64 l)) ∧ w' = W := fun n W hn =>
    (Tryz.bits_Len n W (by omega) (by omega)).mono fun _ _ ⟨he, hw⟩ => ⟨⟨_, he⟩, hw⟩
  have hcon := AnyQ.slices_SortFunc_small_sorted Tryz.sortReader 5 Tryz.isAgg25 Tryz.sizeOf25 VReader.vals (fun _ => rfl) (fun x v hv => by simp [VReader.vals] at hv; rcases hv with rfl | rfl | rfl | rfl | rfl <;> rfl) cmp K #[] swo g 0 cap xs.toArray w
    hcall hcmp2 (holds_ownReader h) hlt (by simpa using h12) hlen
  change Calls Tryz.prog 49 _ _ _ at hcon
  simp only [List.size_toArray] at hcon
  refine hcon.mono ?_
  rintro e w' ⟨rfl, d', n, os, ⟨hsz, _, hperm⟩, hsort, rfl⟩
  simp only [List.size_toArray] at hsz
  have hpm : d'.toList.Perm xs := by
    have h1 := hperm
    simp [← hsz] at h1
    rw [show List.take d'.size xs = xs from List.take_of_length_le (by omega)] at h1
    exact h1
  refine ⟨rfl, d'.toList, hpm, ?_, ?_, grownBy_sortReader hlt⟩
  · intro i j s t hij hs ht
    have hj : j < d'.size := by simpa using (List.getElem?_eq_some_iff.1 ht).1
    have h1 := hsort i j (Nat.zero_le _) hij (by omega)
    have es : d'[i]! = s := by
      have : d'[i]? = some s := by simpa using hs
      simp [Array.getElem!_eq_getD, Array.getD_eq_getD_getElem?, this]
    have et : d'[j]! = t := by
      have : d'[j]? = some t := by simpa using ht
      simp [Array.getElem!_eq_getD, Array.getD_eq_getD_getElem?, this]
    rw [es, et] at h1
    exact h1
  · rw [← hsz]
    exact isReaderS_holds (holdsK_sortWorldK_c VReader.vals 5 w g 0 xs.toArray d' n os (holds_ownReader h) hlt (by simpa using hsz)) (by omega) hmx (Nat.lt_of_lt_of_le hlt (grownBy_sortReader hlt).size) (fun s hs => hsm s (hpm.mem_iff.1 hs))

/-- The sort at nothing. -/
theorem insNoneReader (fv : Value) (w : World) :
    Calls Tryz.prog 80 #[.slice none 0 0, .int .i64 0, .int .i64 0, fv] w fun e w' => e = .returned (.tuple #[]) ∧ w = w' := by
  go_enter Tryz.func80, Tryz.ntmps80
  go_wp2
  refine wp_loop_rounds 1 ?_
  rw [rounds_succ]
  go_wp2
  go_end0
  exact ⟨rfl, rfl⟩
theorem pdqNoneReader (l : Int) (fv : Value) (w : World) :
    Calls Tryz.prog 69 #[.slice none 0 0, .int .i64 0, .int .i64 0, .int .i64 l, fv] w fun e w' => e = .returned (.tuple #[]) ∧ w = w' := by
  go_enter Tryz.func69, Tryz.ntmps69
  go_wp2
  refine wp_loop_rounds 1 ?_
  rw [rounds_succ]
  go_wp2_with (go_at_call 80; refine (insNoneReader _ _).mono ?_; rintro e w' ⟨rfl, rfl⟩)
  (try simp only [Exit.inBlock, Exit.then]); refine bodyPost_ret (results_none rfl _ _ _) rfl ?_
  exact ⟨rfl, rfl⟩
theorem sortNoneReader (fv : Value) (w : World) :
    Calls Tryz.prog 49 #[.slice none 0 0, fv] w fun e w' => e = .returned (.tuple #[]) ∧ w = w' := by
  have hl : ∀ W, Calls Tryz.prog 70 #[.int .u64 0] W fun e w' => (∃ l : Int, e = .returned (.int .i64 l)) ∧ W = w' := fun W =>
    (Tryz.bits_Len 0 W (by omega) (by omega)).mono fun _ _ ⟨he, hw⟩ => ⟨⟨_, he⟩, hw.symm⟩
  have L := Lib.hid hl
  clear hl
  go_enter Tryz.func49, Tryz.ntmps49
  go_wp2_with fail
  refine (L.out _).mono ?_
  rintro e w' ⟨⟨l, rfl⟩, rfl⟩
  go_wp2_with fail
  refine (pdqNoneReader _ _ _).mono ?_
  rintro e w' ⟨rfl, rfl⟩
  go_wp2
  go_end0
  exact ⟨rfl, rfl⟩
end Go.Proofs.YtidaoijpbdljbabGreatDoor
namespace Go.Proofs.YtidaoijpbdljbabGreatDoor
open Go.RowKit Go.Sort

def oweCmp (a b : VReader) : Int := if Lib.compareInt b.Fines a.Fines = 0 then Lib.compareInt a.Id b.Id else Lib.compareInt b.Fines a.Fines
theorem lt_owe (a b : VReader) : ltOf oweCmp a b = true ↔ oweB a b := by
  unfold ltOf oweCmp oweB Lib.compareInt
  simp only [decide_eq_true_eq]
  split <;> split <;> (try split) <;> (try split) <;> omega
theorem lt_owe_no (a b : VReader) : ltOf oweCmp a b = false ↔ ¬ oweB a b := by
  rw [← lt_owe]; simp
theorem swoOwe : SWO (ltOf oweCmp) where
  irrefl x := by rw [lt_owe_no]; unfold oweB; omega
  trans x y z h1 h2 := by rw [lt_owe] at *; unfold oweB at *; omega
  ntrans x y z h1 h2 := by rw [lt_owe_no] at *; unfold oweB at *; omega
theorem areRd_ids {xs : List VReader} (h : areRd xs = true) : xs.Pairwise fun a b => a.Id ≠ b.Id := by
  have h1 : upB VReader.ok VReader.Id xs = true := by unfold areRd rdUp at h; simp only [Bool.and_eq_true] at h; exact h.1
  refine List.pairwise_iff_getElem.2 fun i j hi hj hij => ?_
  have := upB_lt h1 j i _ _ hij (List.getElem?_eq_getElem hi) (List.getElem?_eq_getElem hj)
  omega
theorem owe_sorted {xs ys : List VReader} (h : areRd xs = true) (hp : ys.Perm xs) (hs : ∀ (i j : Nat) s t, i < j → ys[i]? = some s → ys[j]? = some t → ltOf oweCmp t s = false) : ys = oweAll xs := by
  refine OweIs.all ⟨hp, ?_⟩
  have hid : ys.Pairwise fun a b => a.Id ≠ b.Id := (hp.pairwise_iff (fun h e => h e.symm)).2 (areRd_ids h)
  refine List.pairwise_iff_getElem.2 fun i j hi hj hij => ?_
  have h1 := hs i j _ _ hij (List.getElem?_eq_getElem hi) (List.getElem?_eq_getElem hj)
  have h2 := List.pairwise_iff_getElem.1 hid i j hi hj hij
  rw [lt_owe_no] at h1
  unfold oweB at *
  omega
set_option maxHeartbeats 1600000 in
set_option maxRecDepth 100000 in
theorem oweCmp_any (a b : VReader) (w : World) :
    Calls Tryz.prog 50 #[.agg #[.int .i64 a.Id, .string a.Name, .int .i64 a.Joined, .int .i64 a.Class, .int .i64 a.Fines], .agg #[.int .i64 b.Id, .string b.Name, .int .i64 b.Joined, .int .i64 b.Class, .int .i64 b.Fines]] w
      fun e w' => e = .returned (.int .i64 (oweCmp a b)) ∧ ∃ q os, w' = Sort.grow (w.drewN q) os := by
  have X1 := Lib.hid ((BoxReader.new w 25 a _ rfl).below (bel_al1 _ (.cells #[.int .i64 b.Id, .string b.Name, .int .i64 b.Joined, .int .i64 b.Class, .int .i64 b.Fines] 25)))
  have X2 := Lib.hid (BoxReader.new (w.alloc (.cells #[.int .i64 a.Id, .string a.Name, .int .i64 a.Joined, .int .i64 a.Class, .int .i64 a.Fines] 25)) 25 b (w.heap.size + 1) (size_al _ _))
  obtain ⟨x, hx⟩ : ∃ x, Lib.compareInt b.Fines a.Fines = x := ⟨_, rfl⟩
  obtain ⟨y, hy⟩ : ∃ y, Lib.compareInt a.Id b.Id = y := ⟨_, rfl⟩
  have k1 : ∀ W, Calls Tryz.prog 52 #[.int .i64 b.Fines, .int .i64 a.Fines] W fun e w' => e = .returned (.int .i64 x) ∧ w' = W := fun W => by rw [← hx]; exact (compare_any _ _ W).mono fun _ _ ⟨h1, h2⟩ => ⟨h1, h2.symm⟩
  have k2 : ∀ W, Calls Tryz.prog 52 #[.int .i64 a.Id, .int .i64 b.Id] W fun e w' => e = .returned (.int .i64 y) ∧ w' = W := fun W => by rw [← hy]; exact (compare_any _ _ W).mono fun _ _ ⟨h1, h2⟩ => ⟨h1, h2.symm⟩
  obtain ⟨z, hz⟩ : ∃ z, (if x = 0 then y else x) = z := ⟨_, rfl⟩
  have E := Lib.hid (show oweCmp a b = z by unfold oweCmp; rw [hx, hy]; exact hz)
  have K3 : Hid (∀ (W : World) (c : Nat), W.cell? ⟨c, 0, none⟩ = some (.int .i64 x) → W.cell? ⟨c, 1, none⟩ = some (.int .i64 y) → Calls Tryz.prog 51 #[.slice (some ⟨c, 0, none⟩) 2 2] W fun e w' => e = .returned (.int .i64 z) ∧ W = w') := Lib.hid (fun W c h0 h1 => by rw [← hz]; exact or_any c 2 x y W h0 h1)
  have K1 := Lib.hid k1
  have K2 := Lib.hid k2
  clear hx hy k1 k2 hz
  go_enter Tryz.func50, Tryz.ntmps50
  go_wp2
  refine wp_world (fun W => (∃ os, W = Sort.grow w os) ∧ BoxReader W w.heap.size a ∧ BoxReader W (w.heap.size + 1) b) ⟨grown2 _ _ _, X1.out, X2.out⟩ ?_
  rintro W ⟨hw, ⟨c0, _, _, _, c4⟩, ⟨d0, _, _, _, d4⟩⟩
  have HW := Lib.hid hw
  clear hw
  have c0' : ({ W with drawn := W.drawn + 1 } : World).cell? ⟨w.heap.size, 0, none⟩ = some (.int .i64 a.Id) := c0
  have c4' : ({ W with drawn := W.drawn + 1 } : World).cell? ⟨w.heap.size, 4, none⟩ = some (.int .i64 a.Fines) := c4
  have d0' : ({ W with drawn := W.drawn + 1 } : World).cell? ⟨w.heap.size + 1, 0, none⟩ = some (.int .i64 b.Id) := d0
  have d4' : ({ W with drawn := W.drawn + 1 } : World).cell? ⟨w.heap.size + 1, 4, none⟩ = some (.int .i64 b.Fines) := d4
  refine wp_region_still_tail 10 (by kernel_rfl) (by kernel_rfl) ?_
  simp only [List.take_succ_cons, List.take_zero, List.drop_succ_cons, List.drop_zero]
  repeat still_step
  still_call (K1.out _)
  repeat still_step
  still_call (K2.out _)
  refine wpStill_nil ?_
  change wpList _ _ _ _ _ W.drew
  go_wp2_with fail
  refine (K3.out (W.alloc (.cells #[.int .i64 x, .int .i64 y] 3)).drew W.heap.size (lit2 W x y 3 _ rfl 0 x rfl) (lit2 W x y 3 _ rfl 1 y rfl)).mono ?_
  rintro e w' ⟨rfl, rfl⟩
  go_wp2
  go_ret
  refine ⟨ret_int E.out.symm, ?_⟩
  obtain ⟨os, rfl⟩ := HW.out
  exact ⟨1, os ++ #[.cells #[.int .i64 x, .int .i64 y] 3], by rw [Sort.alloc_eq_grow, Sort.grow_grow]; rfl⟩
theorem IsReaderS.take {w : World} {a : Option Addr} {len cap : Nat} {xs : List VReader} (h : IsReaderS w a len cap xs) {k : Nat} (hk : k ≤ len) : IsReaderS w a k cap (xs.take k) := by
  refine ⟨by rw [List.length_take, ← h.1]; omega, by have := h.2.1; omega, h.2.2.1, ?_⟩
  rcases h.2.2.2 with h0 | ⟨b, o, rfl, h1, h2⟩
  · exact .inl (by omega)
  · refine .inr ⟨b, o, rfl, h1, fun j s hs => h2 j s ?_⟩
    rw [List.getElem?_take] at hs
    split at hs
    · exact hs
    · cases hs
def SortOwe (v : Value) (xs : List VReader) (w : World) (e : Ending) (w' : World) : Prop :=
  e = .returned (.tuple #[]) ∧ (∀ a c, v = .slice a xs.length c → IsReaderS w' a xs.length c (oweAll xs)) ∧ w.grownBy w' v.ownBlock
theorem sortOwe_any (base : Nat) (v : Value) (xs : List VReader) (w : World) (h : w.ownsRow base 25 5 v xs.length (cellsReader xs)) (ha : areRd xs = true) :
    Calls Tryz.prog 49 #[v, .func (.func 50) #[] #[]] w (SortOwe v xs w) := by
  rcases h.2 with ⟨rfl, h0⟩ | ⟨g, cap, cur, rfl, _⟩
  · obtain rfl : xs = [] := List.length_eq_zero_iff.1 h0
    refine (sortNoneReader _ _).mono ?_
    rintro e w' ⟨rfl, rfl⟩
    refine ⟨rfl, fun a c e => ?_, World.grownBy.refl _ _⟩
    cases e
    exact ⟨by rw [oweAll_len], by simp, by simp [maxLen], .inl rfl⟩
  · refine (sortReader_any 50 oweCmp swoOwe (callf_ofReader Tryz.func50 (by kernel_rfl) (by kernel_rfl)) oweCmp_any base cap g xs w h (by have := areRd_len ha; omega) (rd_sized_small (areRd_sized ha))).mono ?_
    rintro e w' ⟨rfl, ys, hp, hs, his, hg⟩
    refine ⟨rfl, fun a c e => ?_, hg⟩
    cases e
    rw [← owe_sorted ha hp hs]
    exact his
end Go.Proofs.YtidaoijpbdljbabGreatDoor
namespace Go.Proofs.YtidaoijpbdljbabGreatDoor
open Go.RowKit

theorem owe_take_succ {xs : List VReader} {k : Nat} {s : VReader} (h : (oweAll xs)[k]? = some s) : ((oweAll xs).take (k + 1)).map VReader.Id = ((oweAll xs).take k).map VReader.Id ++ [s.Id] := by
  rw [List.take_add_one, h, List.map_append]; rfl
set_option maxHeartbeats 6400000 in
set_option maxRecDepth 100000 in
theorem implOweMost_any (a : Option Addr) (len cap : Nat) (xs : List VReader) (n : Int) (w : World) (h : IsReaderS w a len cap xs) (_ : xs.length ≤ 1048576) (hz : ∀ s ∈ xs, s.sized) :
    Calls Tryz.prog 18 #[.slice a len cap, .int .i64 n] w (OweMost_Post xs n w) := by
  have hm := h.2.2.1
  have hcl := h.2.1
  unfold maxLen at hm
  obtain rfl := h.1
  obtain ⟨i0, hi, hz0, hz1, hz2⟩ := info_parts infoInt
  have S := Lib.hid h
  have HZ := Lib.hid hz
  clear h hz
  obtain ⟨p, hp⟩ : ∃ p, areRd xs = p := ⟨_, rfl⟩
  obtain ⟨q, hq⟩ : ∃ q, inB n 0 10 = q := ⟨_, rfl⟩
  have PP := Lib.hid hp
  have QQ := Lib.hid hq
  clear hp hq
  go_enter Tryz.func18, Tryz.ntmps18
  go_wp2_with fail
  refine (areRd_any _ _ _ xs _ S.out).mono ?_
  rintro e w1 ⟨rfl, hb⟩
  rw [PP.out]
  have B1 := Lib.hid hb
  clear hb
  cases p
  · have E0 := Lib.hid (show OweMost_0 xs n = [] from by unfold OweMost_0; rw [PP.out]; rfl)
    have E1 := Lib.hid (show OweMost_1 xs n = false from by unfold OweMost_1; rw [PP.out]; rfl)
    go_wp2
    go_ret2
    exact ⟨_, by rw [E1.out]; rfl, by rw [E0.out]; exact nil_intRow _ _, B1.out⟩
  go_wp2_with fail
  refine (areIn1 _ _ _ _ _ _ rfl).mono ?_
  rintro e w' ⟨rfl, rfl⟩
  rw [QQ.out]
  have B2 := Lib.hid (Below.then' B1.out (bel_al1 w1 (.cells #[.int .i64 n] 3)))
  have S2 := Lib.hid (S.out.below B2.out)
  cases q
  · have E0 := Lib.hid (show OweMost_0 xs n = [] from by unfold OweMost_0 nB; rw [PP.out, QQ.out]; rfl)
    have E1 := Lib.hid (show OweMost_1 xs n = false from by unfold OweMost_1 nB; rw [PP.out, QQ.out]; rfl)
    go_wp2
    go_ret2
    exact ⟨_, by rw [E1.out]; rfl, by rw [E0.out]; exact nil_intRow _ _, B2.out⟩
  have hl10 := areRd_len PP.out
  have hn := inB_iff.1 QQ.out
  have E0 := Lib.hid (show OweMost_0 xs n = ((oweAll xs).take n.toNat).map VReader.Id from by unfold OweMost_0 nB; rw [PP.out, QQ.out]; rfl)
  have E1 := Lib.hid (show OweMost_1 xs n = true from by unfold OweMost_1 nB; rw [PP.out, QQ.out]; rfl)
  obtain ⟨m, hmm⟩ : ∃ m : Nat, (m : Int) = min n (xs.length : Int) := ⟨(min n (xs.length : Int)).toNat, by omega⟩
  have hm0 : m ≤ xs.length := by omega
  have MT := Lib.hid (show (oweAll xs).take n.toNat = (oweAll xs).take m from by
    by_cases h : n ≤ (xs.length : Int)
    · rw [show m = n.toNat by omega]
    · have e := oweAll_len xs
      rw [List.take_of_length_le (by omega), List.take_of_length_le (by omega)])
  go_wp2_with fail
  refine (cloneReader_any _ _ _ xs _ S2.out (by omega)).mono ?_
  rintro e w3 ⟨v, rfl, hown, hb⟩
  have B3 := Lib.hid (Below.then' B2.out hb)
  have O3 := Lib.hid (ownsRow_base hown B2.out.size)
  clear hown hb
  go_wp2_with fail
  refine (sortOwe_any _ v xs _ O3.out PP.out).mono ?_
  rintro e w4 ⟨rfl, his, hg⟩
  have B4 := Lib.hid (B3.out.grown hg B3.out.size (fun k e => (O3.out.lt k e).1))
  obtain ⟨a4, c4, rfl⟩ : ∃ a4 c4, v = .slice a4 xs.length c4 := by
    rcases O3.out.2 with ⟨e1, e2⟩ | ⟨g, c, _, e1, _⟩
    · exact ⟨none, 0, by rw [e1, e2]⟩
    · exact ⟨_, _, e1⟩
  have hT := (his a4 c4 rfl).take hm0
  have hc4 := hT.2.2.1
  have hc5 := (his a4 c4 rfl).2.1
  unfold maxLen at hc4
  have ST := Lib.hid hT
  have LT := Lib.hid hT.1
  have HM := Lib.hid hmm
  clear his hg hT
  have hmin : min n (xs.length : Int) = (m : Int) := hmm.symm
  clear hmm
  go_wp2_with fail
  refine (idsOfReader_any 54 VReader.Id _ _ _ ((oweAll xs).take m) _ ST.out (by rw [List.length_take]; omega) (enters_fn Tryz.func54 (by kernel_rfl) (by kernel_rfl)) (fun W s => readerId_any s W)).mono ?_
  rintro e w5 ⟨v, rfl, hown, hb⟩
  have B5 := Lib.hid (Below.then' B4.out hb)
  have O5 := Lib.hid (ownsRow_base hown B4.out.size)
  clear hown hb
  go_wp2
  go_ret2
  exact ⟨v, by rw [E1.out]; rfl, by rw [E0.out, MT.out]; exact O5.out, B5.out⟩
end Go.Proofs.YtidaoijpbdljbabGreatDoor
