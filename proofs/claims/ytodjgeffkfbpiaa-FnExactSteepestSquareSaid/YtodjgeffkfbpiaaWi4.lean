/- Reliefs in the program: squaresBeside. -/
import Derived.Test.YtodjgeffkfbpiaaWi3
namespace Go.Proofs.Ytodjgeffkfbpiaa
open Go.RowKit

/-- The square so far away, if there is one. -/
def nearZ (D : List VIntS) (r c : Nat) (dr dc : Int) : List Sq := if (inB ((r : Int) + dr) 0 ((D.length : Int) - 1) && inB ((c : Int) + dc) 0 ((colsN D : Int) - 1)) = true then [(((r : Int) + dr).toNat, ((c : Int) + dc).toNat)] else []
def nearK (D : List VIntS) (r c : Nat) : Nat → List Sq
  | 0 => []
  | 1 => nearZ D r c (-1) 0
  | 2 => nearZ D r c (-1) 0 ++ nearZ D r c 0 1
  | 3 => (nearZ D r c (-1) 0 ++ nearZ D r c 0 1) ++ nearZ D r c 1 0
  | _ => ((nearZ D r c (-1) 0 ++ nearZ D r c 0 1) ++ nearZ D r c 1 0) ++ nearZ D r c 0 (-1)
theorem nearZ_if {D : List VIntS} {r c : Nat} {dr dc : Int} {P : Prop} [Decidable P] {q : Sq} (h : P ↔ (0 ≤ (r : Int) + dr ∧ (r : Int) + dr ≤ (D.length : Int) - 1) ∧ (0 ≤ (c : Int) + dc ∧ (c : Int) + dc ≤ (colsN D : Int) - 1)) (hq : P → q = (((r : Int) + dr).toNat, ((c : Int) + dc).toNat)) :
    nearZ D r c dr dc = if P then [q] else [] := by
  unfold nearZ inB
  simp only [Bool.and_eq_true, decide_eq_true_eq, ← h]
  by_cases hp : P
  · rw [if_pos hp, if_pos hp, hq hp]
  · rw [if_neg hp, if_neg hp]
theorem nearK_all {D : List VIntS} {r c : Nat} (hr : r < D.length) (hc : c < colsN D) : nearK D r c 4 = nears D (r, c) := by
  show ((nearZ D r c (-1) 0 ++ nearZ D r c 0 1) ++ nearZ D r c 1 0) ++ nearZ D r c 0 (-1) = _
  unfold nears
  rw [List.append_assoc, List.append_assoc]
  rw [nearZ_if (P := 0 < r) (q := (r - 1, c)) (by omega) (fun h => by rw [Prod.mk.injEq]; omega), nearZ_if (P := c + 1 < colsN D) (q := (r, c + 1)) (by omega) (fun h => by rw [Prod.mk.injEq]; omega), nearZ_if (P := r + 1 < D.length) (q := (r + 1, c)) (by omega) (fun h => by rw [Prod.mk.injEq]; omega), nearZ_if (P := 0 < c) (q := (r, c - 1)) (by omega) (fun h => by rw [Prod.mk.injEq]; omega)]
theorem nearZ_len (D : List VIntS) (r c : Nat) (dr dc : Int) : (nearZ D r c dr dc).length ≤ 1 := by unfold nearZ; split <;> simp
theorem nearK_len (D : List VIntS) (r c k : Nat) : (nearK D r c k).length ≤ 4 := by
  have h1 := nearZ_len D r c (-1) 0
  have h2 := nearZ_len D r c 0 1
  have h3 := nearZ_len D r c 1 0
  have h4 := nearZ_len D r c 0 (-1)
  unfold nearK
  split <;> (try simp only [List.length_append, List.length_nil]) <;> omega
/-- How far each neighbor is away. -/
def dirZ : Nat → Int × Int
  | 0 => (-1, 0)
  | 1 => (0, 1)
  | 2 => (1, 0)
  | _ => (0, -1)
theorem nearK_step (D : List VIntS) (r c k : Nat) (h : k < 4) : nearK D r c (k + 1) = nearK D r c k ++ nearZ D r c (dirZ k).1 (dirZ k).2 := by
  rcases (show k = 0 ∨ k = 1 ∨ k = 2 ∨ k = 3 by omega) with rfl | rfl | rfl | rfl
  · simp [nearK, dirZ]
  · rfl
  · rfl
  · rfl
theorem dir_at (k : Nat) (h : k < 4) : ∃ dr dc, dirZ k = (dr, dc) ∧ (∀ w : World, (Instr.index 85 (.agg #[.int .i64 (-1), .int .i64 0, .int .i64 0, .int .i64 1, .int .i64 1, .int .i64 0, .int .i64 0, .int .i64 (-1)]) (.int .i64 (k : Int))).run Try.prog w = .ok (.agg #[.int .i64 dr, .int .i64 dc]) w) ∧ -1 ≤ dr ∧ dr ≤ 1 ∧ -1 ≤ dc ∧ dc ≤ 1 := by
  rcases (show k = 0 ∨ k = 1 ∨ k = 2 ∨ k = 3 by omega) with rfl | rfl | rfl | rfl
  · exact ⟨-1, 0, rfl, fun _ => by kernel_rfl, by decide, by decide, by decide, by decide⟩
  · exact ⟨0, 1, rfl, fun _ => by kernel_rfl, by decide, by decide, by decide, by decide⟩
  · exact ⟨1, 0, rfl, fun _ => by kernel_rfl, by decide, by decide, by decide, by decide⟩
  · exact ⟨0, -1, rfl, fun _ => by kernel_rfl, by decide, by decide, by decide, by decide⟩
set_option maxHeartbeats 12800000 in
set_option maxRecDepth 100000 in
theorem squaresBeside_any (a : Option Addr) (len cap : Nat) (D : List VIntS) (r c : Nat) (w : World) (h : IsIntSS w a len cap D) (hD : RL D) (hr : r < D.length) (hc : c < colsN D) :
    Calls Try.prog 87 #[.slice a len cap, .agg #[.int .i64 (r : Int), .int .i64 (c : Int)]] w (SqPost (nears D (r, c)) w) := by
  have hm := h.2.2.1
  have hcl := h.2.1
  unfold maxLen at hm
  obtain ⟨i0, hi, hz0, hz1, hz2⟩ := info_parts infoIntA2
  have HD := Lib.hid hD
  have hm8 := hD.m8
  have hn8 := hD.n8
  have B0 := Lib.hid (bel_al1 w (.cells #[.int .i64 (r : Int), .int .i64 (c : Int)] 34))
  have S := Lib.hid (h.below B0.out)
  have X0 := Lib.hid (BoxIntA2.new w 34 ⟨(r : Int), (c : Int)⟩ _ rfl)
  have NA := Lib.hid (nearK_all hr hc)
  have hs0 : w.heap.size < (w.alloc (.cells #[.int .i64 (r : Int), .int .i64 (c : Int)] 34)).heap.size := by simp
  clear h hD
  go_enter Try.func87, Try.ntmps87
  go_wp2
  obtain ⟨W0, hW0⟩ : ∃ W0, w.alloc (.cells #[.int .i64 (r : Int), .int .i64 (c : Int)] 34) = W0 := ⟨_, rfl⟩
  rw [hW0] at B0 S X0 hs0
  simp only [hW0]
  clear hW0
  go_loopw [15, 5] (fun i o wr => ∃ k : Nat, k ≤ 4 ∧ i = .int .i64 k ∧ SqRow W0.heap.size wr o (nearK D r c k) ∧ Below W0.heap.size W0 wr) (fun i _ _ => 4 - (intOf i).toNat)
  case atStart => exact ⟨0, by omega, rfl, SqRow.nil _ _, Below.refl _ _⟩
  case round =>
    obtain ⟨k, hk, rfl, hown, hbel⟩ := hrel
    have O := Lib.hid hown
    have B := Lib.hid hbel
    by_cases hlt : k < 4
    · have NS := Lib.hid (nearK_step D r c k hlt)
      have hln := nearK_len D r c k
      obtain ⟨G, hG⟩ : ∃ G, nearK D r c k = G := ⟨_, rfl⟩
      rw [hG] at O NS hln
      clear hown hG
      obtain ⟨dr, dc, hd, xk, hb1, hb2, hb3, hb4⟩ := dir_at k hlt
      rw [hd] at NS
      simp only [] at NS
      have wx : IntKind.i64.wrap ((r : Int) + dr) = (r : Int) + dr := IntWalk.i64_in _ (by omega)
      have wy : IntKind.i64.wrap ((c : Int) + dc) = (c : Int) + dc := IntWalk.i64_in _ (by omega)
      obtain ⟨c0, c1⟩ := X0.out.below B.out
      have ba := bel_al1 wr (.cells #[.int .i64 dr, .int .i64 dc] 34)
      obtain ⟨d0, d1⟩ := BoxIntA2.new wr 34 ⟨dr, dc⟩ _ rfl
      have hbx : w.heap.size < wr.heap.size := (X0.out.below B.out).lt
      have e0 := (ba.cell (p := ⟨w.heap.size, 0, none⟩) hbx).trans c0
      have e1 := (ba.cell (p := ⟨w.heap.size, 1, none⟩) hbx).trans c1
      simp only [] at d0 d1 e0 e1
      have B1 := Lib.hid (Below.then' B.out ba)
      have O1 := Lib.hid (O.out.below ba)
      have j0 : (0 : Int) ≤ (k : Int) := by omega
      have j1 : (k : Int) < 4 := by omega
      have K4 := Lib.hid hlt
      clear ba c0 c1 hbel hd hlt hk
      go_wp2
      go_quiet (fail)
      have bd := bel_drawn (wr.alloc (.cells #[.int .i64 dr, .int .i64 dc] 34)) nq
      have B2 := Lib.hid (Below.then' B1.out bd)
      have O2 := Lib.hid (O1.out.below bd)
      clear bd d0 d1 e0 e1
      obtain ⟨q, hq⟩ : ∃ q, (inB ((r : Int) + dr) 0 ((D.length : Int) - 1) && inB ((c : Int) + dc) 0 ((colsN D : Int) - 1)) = q := ⟨_, rfl⟩
      have NZ := Lib.hid (show nearZ D r c dr dc = if q = true then [(((r : Int) + dr).toNat, ((c : Int) + dc).toNat)] else [] from by unfold nearZ; rw [hq])
      have HQ := Lib.hid hq
      clear hq
      go_wp2_with fail
      refine (isInRelief_any _ _ _ D _ _ _ (S.out.below B2.out) HD.out).mono ?_
      rintro e w3 ⟨rfl, hb⟩
      rw [HQ.out]
      have B3 := Lib.hid (Below.then' B2.out hb)
      have O3 := Lib.hid (O2.out.below hb)
      have hs3 := B3.out.size
      clear hb
      cases q
      · go_wp2
        go_roundw
        case rel => exact ⟨k + 1, by have := K4.out; omega, by go_num, by rw [NS.out, NZ.out]; simpa using O3.out, B3.out⟩
        case measure => have := K4.out; simp [intOf]; omega
      · have hx := inB_iff.1 (Bool.and_eq_true_iff.1 HQ.out).1
        have hy := inB_iff.1 (Bool.and_eq_true_iff.1 HQ.out).2
        obtain ⟨x, ex⟩ : ∃ x : Nat, (r : Int) + dr = (x : Int) := ⟨((r : Int) + dr).toNat, by omega⟩
        obtain ⟨y, ey⟩ : ∃ y : Nat, (c : Int) + dc = (y : Int) := ⟨((c : Int) + dc).toNat, by omega⟩
        have N2 := Lib.hid (show nearK D r c (k + 1) = G ++ [(x, y)] from by rw [NS.out, NZ.out, if_pos rfl, ex, ey, Int.toNat_natCast, Int.toNat_natCast])
        rw [ex, ey]
        have hown3 := World.ownsRow.alloc O3.out (.cells #[.int .i64 (x : Int), .int .i64 (y : Int)] 34)
        clear ex ey wx wy hx hy
        go_wp2_with (at_builtin; refine wpList_append_own _ rfl _ _ 27 rfl W0.heap.size 34 i0 (.agg #[.int .i64 0, .int .i64 0]) 2 16 Try.underlying27 hi hz0 hz1 hz2 rfl (by decide) _ _ _ rfl hown3 ⟨w3.heap.size, 0, none⟩ 1 1 (VIntA2.vals (vsq (x, y))) rfl rfl (cell_IntA2 _ (vsq (x, y)) _) (VIntA2.vals_one _) (by unfold maxLen; omega) (by omega) (by simp; omega) ?_; intro v' w4 hown' hgrow4 _)
        go_roundw
        case rel =>
          refine ⟨k + 1, by have := K4.out; omega, by go_num, ?_, (Below.then' B3.out (bel_al1 _ _)).grown hgrow4 (by simp; omega) (fun q e => (hown3.lt q e).1)⟩
          rw [N2.out]
          unfold SqRow
          rw [sqV_snoc, cellsIntA2_snoc, List.length_append]
          exact hown'
        case measure => have := K4.out; simp [intOf]; omega
    · obtain rfl : k = 4 := by omega
      clear hown hbel
      go_wp2
      go_ret
      exact ⟨_, rfl, by rw [← NA.out]; exact O.out.base (by omega), Below.then' B0.out B.out⟩
end Go.Proofs.Ytodjgeffkfbpiaa
