/- The laws' draws of readers: some readers, an id, some cents, a day. -/
import Derived.Test.YtidaoijpbdljbabDoorReaderDr
namespace Go.Proofs.YtidaoijpbdljbabDoor
open Go.RowKit

set_option maxHeartbeats 1600000 in
set_option maxRecDepth 100000 in
theorem cents3_any (bc : Nat) (a : Option Addr) (len cap t : Nat) (w : World) (hc : CurAt w bc a len cap t) (hd : CodeAt w a len cap bc) (ht : t ≤ 800000) :
    Calls Tryd.prog 63 #[.pointer (some ⟨bc, 0, none⟩)] w (AmongPost bc a len cap (t + 4) (0) 10001 w) := by
  have hlt := hc.lt
  have C := Lib.hid hc
  have D := Lib.hid hd
  have LI := Lib.hid (ints_at w #[.int .i64 1, .int .i64 499, .int .i64 500, .int .i64 501, .int .i64 9500, .int .i64 10000, .int .i64 0, .int .i64 10001] 3 (0) 10001 8 _ rfl rfl (by
    repeat (refine List.forall_mem_cons.2 ⟨⟨_, by omega, by omega, rfl⟩, ?_⟩)
    exact fun _ h => by cases h))
  clear hc hd
  go_enter Tryd.func63, Tryd.ntmps63
  go_wp2_with fail
  refine (pick_any bc a len cap _ 24 _ (C.out.alloc _) (D.out.alloc _) (by omega) (by omega) (by omega)).mono ?_
  rintro e w1 ⟨p, rfl, p0, p1, hc, hg⟩
  have p1 : p < 24 := p1
  obtain ⟨k, hk⟩ : ∃ k : Nat, 6 + p / 11 = (k : Int) := ⟨(6 + p / 11).toNat, by omega⟩
  have k1 : 6 ≤ k := by omega
  have k2 : k ≤ 8 := by omega
  have hw : IntKind.i64.wrap (6 + p / 11) = (k : Int) := hk ▸ IntWalk.i64_in _ (by omega)
  have C1 := Lib.hid hc
  have G1 := Lib.hid (grown_trans (grow_al (World.grownBy.refl w (some bc)) _) hg)
  have D1 := Lib.hid (D.out.grown G1.out)
  have s1 : w.heap.size + 1 ≤ w1.heap.size := by have := hg.size; rw [size_al] at this; exact this
  have LJ := Lib.hid (show ∀ i, i < k → ∃ x : Int, (0) ≤ x ∧ x ≤ 10001 ∧ w1.cell? ⟨w.heap.size, 0 + i, none⟩ = some (.int .i64 x) from fun i hi => by
    obtain ⟨x, x0, x1, hx⟩ := LI.out i (by omega)
    exact ⟨x, x0, x1, (World.cell?_of_block (a := ⟨w.heap.size, 0 + i, none⟩) (hg.block w.heap.size (by rw [size_al]; omega) (by simp only [ne_eq, Option.some.injEq]; omega))).trans hx⟩)
  clear hc hg
  go_wp2_with fail
  refine (among_any bc a len cap _ w.heap.size 0 k 8 (0) 10001 _ C1.out D1.out (by omega) (by omega) (by omega) (by omega) (by omega) LJ.out).mono ?_
  rintro e w2 ⟨x, rfl, x0, x1, hc, hg⟩
  have C2 := Lib.hid hc
  have G2 := Lib.hid (grown_trans G1.out hg)
  clear hc hg
  go_wp2
  go_ret
  exact ⟨x, rfl, x0, x1, C2.out, G2.out⟩
set_option maxHeartbeats 1600000 in
set_option maxRecDepth 100000 in
theorem day3_any (bc : Nat) (a : Option Addr) (len cap t : Nat) (w : World) (hc : CurAt w bc a len cap t) (hd : CodeAt w a len cap bc) (ht : t ≤ 800000) :
    Calls Tryd.prog 27 #[.pointer (some ⟨bc, 0, none⟩)] w (AmongPost bc a len cap (t + 4) (-1) 4001 w) := by
  have hlt := hc.lt
  have C := Lib.hid hc
  have D := Lib.hid hd
  have LI := Lib.hid (ints_at w #[.int .i64 0, .int .i64 364, .int .i64 365, .int .i64 465, .int .i64 730, .int .i64 731, .int .i64 4000, .int .i64 (-1), .int .i64 4001] 3 (-1) 4001 9 _ rfl rfl (by
    repeat (refine List.forall_mem_cons.2 ⟨⟨_, by omega, by omega, rfl⟩, ?_⟩)
    exact fun _ h => by cases h))
  clear hc hd
  go_enter Tryd.func27, Tryd.ntmps27
  go_wp2_with fail
  refine (pick_any bc a len cap _ 24 _ (C.out.alloc _) (D.out.alloc _) (by omega) (by omega) (by omega)).mono ?_
  rintro e w1 ⟨p, rfl, p0, p1, hc, hg⟩
  have p1 : p < 24 := p1
  obtain ⟨k, hk⟩ : ∃ k : Nat, 7 + p / 11 = (k : Int) := ⟨(7 + p / 11).toNat, by omega⟩
  have k1 : 7 ≤ k := by omega
  have k2 : k ≤ 9 := by omega
  have hw : IntKind.i64.wrap (7 + p / 11) = (k : Int) := hk ▸ IntWalk.i64_in _ (by omega)
  have C1 := Lib.hid hc
  have G1 := Lib.hid (grown_trans (grow_al (World.grownBy.refl w (some bc)) _) hg)
  have D1 := Lib.hid (D.out.grown G1.out)
  have s1 : w.heap.size + 1 ≤ w1.heap.size := by have := hg.size; rw [size_al] at this; exact this
  have LJ := Lib.hid (show ∀ i, i < k → ∃ x : Int, (-1) ≤ x ∧ x ≤ 4001 ∧ w1.cell? ⟨w.heap.size, 0 + i, none⟩ = some (.int .i64 x) from fun i hi => by
    obtain ⟨x, x0, x1, hx⟩ := LI.out i (by omega)
    exact ⟨x, x0, x1, (World.cell?_of_block (a := ⟨w.heap.size, 0 + i, none⟩) (hg.block w.heap.size (by rw [size_al]; omega) (by simp only [ne_eq, Option.some.injEq]; omega))).trans hx⟩)
  clear hc hg
  go_wp2_with fail
  refine (among_any bc a len cap _ w.heap.size 0 k 9 (-1) 4001 _ C1.out D1.out (by omega) (by omega) (by omega) (by omega) (by omega) LJ.out).mono ?_
  rintro e w2 ⟨x, rfl, x0, x1, hc, hg⟩
  have C2 := Lib.hid hc
  have G2 := Lib.hid (grown_trans G1.out hg)
  clear hc hg
  go_wp2
  go_ret
  exact ⟨x, rfl, x0, x1, C2.out, G2.out⟩
/-- Some readers. -/
def RdsDraw (bc : Nat) (a : Option Addr) (len cap t : Nat) (w : World) (e : Ending) (w' : World) : Prop := ∃ (v : Value) (xs : List VReader), e = .returned v ∧ xs.length ≤ 14 ∧ (∀ s ∈ xs, s.sized) ∧ w'.ownsRow w.heap.size 36 5 v xs.length (cellsReader xs) ∧ CurAt w' bc a len cap t ∧ w.grownBy w' (some bc)
theorem small_snoc {xs : List VReader} {s : VReader} (h : ∀ t ∈ xs, t.sized) (hs : s.sized) : ∀ t ∈ xs ++ [s], t.sized := fun t ht => (List.mem_append.1 ht).elim (h t) (fun e => by rw [List.mem_singleton.1 e]; exact hs)
set_option maxHeartbeats 6400000 in
set_option maxRecDepth 100000 in
theorem readers_any (bc : Nat) (a : Option Addr) (len cap t : Nat) (w : World) (hc : CurAt w bc a len cap t) (hd : CodeAt w a len cap bc) (ht : t ≤ 700000) :
    Calls Tryd.prog 25 #[.pointer (some ⟨bc, 0, none⟩)] w (RdsDraw bc a len cap (t + 300) w) := by
  have hbc := hc.lt
  obtain ⟨i0, hi, hz0, hz1, hz2⟩ := info_parts infoReader
  have C := Lib.hid hc
  have D := Lib.hid hd
  have O0 := Lib.hid (World.ownsRow_made (base := w.heap.size) (e := 36) (size := 5) w #[] 0 (Nat.le_refl _) (Nat.zero_le _) rfl)
  have G0 := Lib.hid (grow_al (World.grownBy.refl w (some bc)) (.cells #[] 36))
  clear hc hd
  go_enter Tryd.func25, Tryd.ntmps25
  go_wp2_with fail
  refine (pick_any bc a len cap _ 8 _ (C.out.alloc _) (D.out.alloc _) (by omega) (by omega) (by omega)).mono ?_
  rintro e w1 ⟨p, rfl, p0, p1, hc, hg⟩
  obtain ⟨n, rfl⟩ := Int.eq_ofNat_of_zero_le p0
  have n8 : n < 8 := by have : (n : Int) < 8 := p1; omega
  have G1 := Lib.hid (grown_trans G0.out hg)
  have C1 := Lib.hid hc
  have O1 := Lib.hid (ownsRow_grown0 O0.out hg (by intro k e; cases e; exact hbc))
  clear hc hg p0 p1
  go_wp2
  go_loopw [3, 4, 5] (fun o y i wr => ∃ (m : Nat) (id : Int) (xs : List VReader), m ≤ n ∧ i = .int .i64 m ∧ y = .int .i64 id ∧ -10 ≤ id ∧ id + 4 * (m : Int) ≤ 40 ∧ xs.length + m ≤ n ∧ (∀ s ∈ xs, s.sized) ∧ wr.ownsRow w.heap.size 36 5 o xs.length (cellsReader xs) ∧ CurAt wr bc a len cap (t + 2 + 20 * xs.length) ∧ w.grownBy wr (some bc)) (fun _ _ i _ => (intOf i).toNat)
  case atStart => exact ⟨n, 0, [], Nat.le_refl _, rfl, rfl, by omega, by omega, by simp, by simp, O1.out, C1.out, G1.out⟩
  case round =>
    obtain ⟨m, id, xs, hm, rfl, rfl, id0, id1, hxl, hsm, hown, hcur, hgr⟩ := hrel
    have SM := Lib.hid hsm
    have O := Lib.hid hown
    have CU := Lib.hid hcur
    have G := Lib.hid hgr
    have hle := hgr.size
    clear hown hcur hgr hsm
    by_cases hlt : 0 < m
    · have g0 : (0 : Int) < (m : Int) := by omega
      have v1 : IntKind.i64.wrap (id + 1) = id + 1 := IntWalk.i64_in _ (by omega)
      go_wp2_with fail
      refine (pick_any bc a len cap _ 3 _ CU.out (D.out.grown G.out) (by omega) (by omega) (by omega)).mono ?_
      rintro e w3 ⟨x, rfl, x0, x1, hc, hg⟩
      have x1 : x < 3 := x1
      have G3 := Lib.hid (grown_trans G.out hg)
      have C3 := Lib.hid hc
      have O3 := Lib.hid (ownsRow_grown0 O.out hg (by intro k e; cases e; exact hbc))
      clear hc hg
      go_wp2_with fail
      refine (pick_any bc a len cap _ 120 _ C3.out (D.out.grown G3.out) (by omega) (by omega) (by omega)).mono ?_
      rintro e w4 ⟨y, rfl, y0, y1, hc, hg⟩
      have y1 : y < 120 := y1
      have G4 := Lib.hid (grown_trans G3.out hg)
      have C4 := Lib.hid hc
      have O4 := Lib.hid (ownsRow_grown0 O3.out hg (by intro k e; cases e; exact hbc))
      have z0 : 0 ≤ y / 119 := by omega
      have z1 : y / 119 ≤ 1 := by omega
      have v2 : IntKind.i64.wrap (id + 1 + x) = id + 1 + x := IntWalk.i64_in _ (by omega)
      have v3 : IntKind.i64.wrap (id + 1 + x - y / 119) = id + 1 + x - y / 119 := IntWalk.i64_in _ (by omega)
      clear hc hg
      go_wp2_with fail
      refine (reader_any bc a len cap _ _ _ C4.out (D.out.grown G4.out) (by omega)).mono ?_
      rintro e w5 ⟨s, rfl, hs, hc, hg⟩
      have l5 := hg.size
      have l4 := G4.out.size
      have G5 := Lib.hid (grown_trans G4.out hg)
      have C5 := Lib.hid hc
      have SS := Lib.hid hs
      have hown2 := (ownsRow_grown0 O4.out hg (by intro k e; cases e; exact hbc)).alloc (.cells #[.int .i64 s.Id, .string s.Name, .int .i64 s.Joined, .int .i64 s.Class, .int .i64 s.Fines] 36)
      clear hc hg hs
      go_wp2_with (at_builtin; refine wpList_append_own _ rfl _ _ 24 rfl w.heap.size 36 i0 (.agg #[.int .i64 0, .string ByteArray.empty, .int .i64 0, .int .i64 0, .int .i64 0]) 5 48 Tryd.underlying24 hi hz0 hz1 hz2 rfl (by decide) _ _ _ rfl hown2 ⟨w5.heap.size, 0, none⟩ 1 1 s.vals rfl rfl (cell_Reader _ s _) (VReader.vals_one _) (by unfold maxLen; omega) (by omega) (by first | omega | (simp; done) | (simp; omega)) ?_; intro v' w7 hown' hgrow7 hnil7)
      go_roundw
      case rel =>
        have hlt7 := hown2.lt
        exact ⟨m - 1, id + 1 + x - y / 119, xs ++ [s], by omega, by go_num, rfl, by omega, by omega, by simp; omega, small_snoc SM.out SS.out, by rw [cellsReader_snoc]; simpa using hown', ((C5.out.alloc _).grown hgrow7 (fun e => by have := (hlt7 _ e.symm).1; omega)).more (by simp; omega), grown_own0 (grow_al G5.out _) hgrow7 (fun j e => (hlt7 j e).1)⟩
      case measure => simp [intOf]; omega
    · obtain rfl : m = 0 := by omega
      go_wp2_with fail
      refine (one_any bc a len cap _ 24 _ CU.out (D.out.grown G.out) (by omega) (by omega) (by omega)).mono ?_
      rintro e w3 ⟨b, rfl, hc, hg⟩
      have l3 := hg.size
      have G3 := Lib.hid (grown_trans G.out hg)
      have C3 := Lib.hid hc
      have O3 := Lib.hid (ownsRow_grown0 O.out hg (by intro k e; cases e; exact hbc))
      clear hc hg
      cases b
      · go_wp2
        go_ret
        exact ⟨_, xs, rfl, by omega, SM.out, O3.out, C3.out.more (by omega), G3.out⟩
      · have OM := Lib.hid (World.ownsRow_made (base := w.heap.size) (e := 36) (size := 5) w3 #[] 0 (by omega) (Nat.zero_le _) rfl)
        go_wp2
        go_loopw [3, 6] (fun o i wr => ∃ (m : Nat) (ys : List VReader), m ≤ 11 ∧ i = .int .i64 m ∧ ys.length = m ∧ (∀ s ∈ ys, s.sized) ∧ wr.ownsRow w.heap.size 36 5 o ys.length (cellsReader ys) ∧ CurAt wr bc a len cap (t + 200 + 2 * m) ∧ w.grownBy wr (some bc)) (fun _ i _ => 11 - (intOf i).toNat)
        case atStart => exact ⟨0, [], by omega, rfl, rfl, by simp, OM.out, (C3.out.alloc _).more (by omega), grow_al G3.out _⟩
        case round =>
          obtain ⟨m, ys, hm, rfl, hyl, hsm, hown, hcur, hgr⟩ := hrel
          have SY := Lib.hid hsm
          have O := Lib.hid hown
          have CU := Lib.hid hcur
          have G := Lib.hid hgr
          have YL := Lib.hid hyl
          have hle := hgr.size
          have hyl2 : ys.length ≤ 11 := by omega
          clear hown hcur hgr hsm hyl
          go_wp2_with fail
          refine (pick_any bc a len cap _ 2 _ CU.out (D.out.grown G.out) (by omega) (by omega) (by omega)).mono ?_
          rintro e w5 ⟨x, rfl, x0, x1, hc, hg⟩
          have x1 : x < 2 := x1
          have l5 := hg.size
          have G5 := Lib.hid (grown_trans G.out hg)
          have C5 := Lib.hid hc
          have O5 := Lib.hid (ownsRow_grown0 O.out hg (by intro k e; cases e; exact hbc))
          have v1 : IntKind.i64.wrap (10 + x) = 10 + x := IntWalk.i64_in _ (by omega)
          clear hc hg
          by_cases hlz : (m : Int) < 10 + x
          · have e1 : IntKind.i64.wrap (40 * (m : Int)) = 40 * (m : Int) := IntWalk.i64_in _ (by omega)
            have e2 : IntKind.i64.wrap (1 + (m : Int) % 3) = 1 + (m : Int) % 3 := IntWalk.i64_in _ (by omega)
            have e3 : IntKind.i64.wrap (30 * ((m : Int) % 4)) = 30 * ((m : Int) % 4) := IntWalk.i64_in _ (by omega)
            have hown2 := O5.out.alloc (.cells #[.int .i64 ((m : Int) + 1), .string ⟨#[97, 110, 110, 97]⟩, .int .i64 (40 * (m : Int)), .int .i64 (1 + (m : Int) % 3), .int .i64 (30 * ((m : Int) % 4))] 36)
            go_wp2_with (at_builtin; refine wpList_append_own _ rfl _ _ 24 rfl w.heap.size 36 i0 (.agg #[.int .i64 0, .string ByteArray.empty, .int .i64 0, .int .i64 0, .int .i64 0]) 5 48 Tryd.underlying24 hi hz0 hz1 hz2 rfl (by decide) _ _ _ rfl hown2 ⟨w5.heap.size, 0, none⟩ 1 1 (VReader.vals ⟨(m : Int) + 1, ⟨#[97, 110, 110, 97]⟩, 40 * (m : Int), 1 + (m : Int) % 3, 30 * ((m : Int) % 4)⟩) rfl rfl (cell_Reader _ ⟨(m : Int) + 1, ⟨#[97, 110, 110, 97]⟩, 40 * (m : Int), 1 + (m : Int) % 3, 30 * ((m : Int) % 4)⟩ _) (VReader.vals_one _) (by unfold maxLen; omega) (by omega) (by first | omega | (simp; done) | (simp; omega)) ?_; intro v' w7 hown' hgrow7 hnil7)
            go_roundw
            case rel =>
              have hlt7 := hown2.lt
              exact ⟨m + 1, ys ++ [⟨(m : Int) + 1, ⟨#[97, 110, 110, 97]⟩, 40 * (m : Int), 1 + (m : Int) % 3, 30 * ((m : Int) % 4)⟩], by omega, by go_num, by have := YL.out; simp; omega, small_snoc SY.out (by unfold VReader.sized; show (4 : Nat) ≤ _; omega), by rw [cellsReader_snoc]; simpa using hown', ((C5.out.alloc _).grown hgrow7 (fun e => by have := (hlt7 _ e.symm).1; omega)).more (by omega), grown_own0 (grow_al G5.out _) hgrow7 (fun j e => (hlt7 j e).1)⟩
            case measure => simp [intOf]; omega
          · go_wp2
            go_ret
            exact ⟨_, ys, rfl, by omega, SY.out, O5.out, C5.out.more (by omega), G5.out⟩
end Go.Proofs.YtidaoijpbdljbabDoor
