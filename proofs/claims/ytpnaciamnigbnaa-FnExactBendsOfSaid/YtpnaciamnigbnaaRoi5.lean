/- Roads in the program: texts of bends, plain roads. -/
import Derived.Test.YtpnaciamnigbnaaRoi4
import Derived.Lib.BufferRead
namespace Go.Proofs.Ytpnaciamnigbnaa
open Go.RowKit

theorem infoU8 : (Try.prog.info? 5).map (fun i => (i.zero, i.size, i.bytes)) = some (some (.int .u8 0), 1, 1) := by kernel_rfl
def u8Cells (l : List UInt8) : List Value := l.map fun b => Value.int .u8 (b.toNat : Int)
theorem u8Cells_snoc (l : List UInt8) (x : UInt8) : u8Cells (l ++ [x]) = u8Cells l ++ [.int .u8 (x.toNat : Int)] := by simp [u8Cells]
theorem conv_row {w : World} {base : Nat} {v : Value} {l : List UInt8} (h : w.ownsRow base 5 1 v l.length (u8Cells l)) : (convert 22 9 v).run Try.prog w = .ok (.string ⟨l.toArray⟩) w := by
  rcases h.2 with ⟨rfl, h0⟩ | ⟨g, cap, cur, rfl, hg, hh, hn, hcap, hsz, htake⟩
  · have : l = [] := List.eq_nil_of_length_eq_zero h0
    subst this
    exact Lib.run_convert_nil_bytes w 22 9 5 0 Try.underlying22 Try.underlying5 Try.underlying9
  · exact run_convert_bytes_back w 22 9 5 ⟨g, 0, none⟩ cap l Try.underlying22 Try.underlying5 Try.underlying9 (fun j hj => h.cells (g := g) rfl j _ (by simp [u8Cells, hj]))
theorem ret_sbR {a b : ByteArray} {p q : Bool} (h : a = b) (k : p = q) : Ending.returned (.tuple #[.string a, .bool p]) = .returned (.tuple #[.string b, .bool q]) := by rw [h, k]
theorem cell_u8 (w : World) (x : Int) (t : TypeId) : ∀ (j : Nat) u, [Value.int .u8 x][j]? = some u → (w.alloc (.cells #[.int .u8 x] t)).cell? ((⟨w.heap.size, 0, none⟩ : Addr).add j) = some u := by
  intro j u hj
  rw [add_plain, Nat.zero_add, World.cell?_alloc_new]
  simpa using hj
set_option maxHeartbeats 6400000 in
set_option maxRecDepth 100000 in
theorem implBendsOf_any (a : Option Addr) (len cap : Nat) (xs : List VCorner) (w : World) (h : IsCornerS w a len cap xs) :
    Calls Try.prog 68 #[.slice a len cap] w (BendsOf_Post xs w) := by
  obtain ⟨ri, hi, hz0, hz1, hz2⟩ := info_parts infoU8
  obtain rfl := h.1
  have S := Lib.hid h
  clear h
  obtain ⟨q, hq⟩ : ∃ q, roadB xs = q := ⟨_, rfl⟩
  have Q := Lib.hid hq
  clear hq
  go_enter Try.func68, Try.ntmps68
  go_wp2_with fail
  refine (isRoad_any _ _ _ xs _ S.out).mono ?_
  rintro e w1 ⟨rfl, hb⟩
  rw [Q.out]
  have B1 := Lib.hid hb
  clear hb
  cases q
  · have F0 := Lib.hid (show BendsOf_0 xs = ByteArray.empty from by unfold BendsOf_0; rw [Q.out]; rfl)
    have F1 := Lib.hid (show BendsOf_1 xs = false from Q.out)
    go_wp2
    go_ret2
    exact ⟨ret_sbR F0.out.symm F1.out.symm, B1.out⟩
  have R := Lib.hid (road_iff.1 Q.out)
  have l2 := R.out.l2
  have l12 := R.out.l12
  have F0 := Lib.hid (show BendsOf_0 xs = ⟨(bendsTo xs (xs.length - 2)).toArray⟩ from by unfold BendsOf_0; rw [Q.out]; rfl)
  have F1 := Lib.hid (show BendsOf_1 xs = true from Q.out)
  have v0 : IntKind.i64.wrap ((xs.length : Int) - 1) = (xs.length : Int) - 1 := IntWalk.i64_in _ (by omega)
  go_wp2
  go_loopw [5, 4] (fun i o wr => ∃ k : Nat, k + 2 ≤ xs.length ∧ i = .int .i64 ((k + 1 : Nat) : Int) ∧ wr.ownsRow w.heap.size 5 1 o (bendsTo xs k).length (u8Cells (bendsTo xs k)) ∧ Below w.heap.size w wr) (fun i _ _ => xs.length - (intOf i).toNat)
  case atStart => exact ⟨0, by omega, rfl, ⟨rfl, .inl ⟨rfl, rfl⟩⟩, B1.out⟩
  case round =>
    obtain ⟨k, hk, rfl, hown, hbel⟩ := hrel
    have O := Lib.hid hown
    have B := Lib.hid hbel
    have v1 : IntKind.i64.wrap (((k + 1 : Nat) : Int) + 1) = ((k + 1 + 1 : Nat) : Int) := by rw [IntWalk.i64_in _ (by omega)]; omega
    by_cases hlt : k + 2 < xs.length
    · have c1 : (((k + 1 : Nat) : Int) < (xs.length : Int) - 1) := by omega
      have SW := Lib.hid (S.out.below hbel)
      have BS := Lib.hid (bendsTo_succ xs k)
      have BL := Lib.hid (bendsTo_len xs k)
      clear hown hbel
      go_wp2_with fail
      refine (bendAt_any _ _ _ xs k _ SW.out R.out hlt).mono ?_
      rintro e w2 ⟨rfl, hb⟩
      have B2 := Lib.hid (Below.then' B.out hb)
      have s2 := B2.out.size
      have hown3 := World.ownsRow.alloc (ownsRow_below O.out hb) (.cells #[.int .u8 ((bendAtU xs (k + 1)).toNat : Int)] 5)
      have hle : (bendsTo xs k).length + 1 ≤ 20 := by have := BL.out; omega
      obtain ⟨G, hG⟩ : ∃ G, bendsTo xs k = G := ⟨_, rfl⟩
      rw [hG] at hown3 hle BS
      clear hb hG
      go_wp2_with (at_builtin; refine wpList_append_own _ rfl _ _ 22 rfl w.heap.size 5 ri (.int .u8 0) 1 1 Try.underlying22 hi hz0 hz1 hz2 rfl (by decide) _ _ _ rfl hown3 ⟨w2.heap.size, 0, none⟩ 1 1 [.int .u8 ((bendAtU xs (k + 1)).toNat : Int)] rfl rfl (cell_u8 _ _ _) (fun u hu => by simp at hu; subst hu; rfl) (by unfold maxLen; omega) (by omega) (by simp; omega) ?_; intro v' w4 hown' hgrow4 _)
      go_roundw
      case rel =>
        refine ⟨k + 1, by omega, rfl, ?_, (Below.then' B2.out (bel_al1 _ _)).grown hgrow4 (by simp; omega) (fun q e => (hown3.lt q e).1)⟩
        rw [BS.out, u8Cells_snoc, List.length_append]
        exact hown'
      case measure => simp [intOf]; omega
    · obtain rfl : k = xs.length - 2 := by omega
      have c1 : ¬ (((xs.length - 2 + 1 : Nat) : Int) < (xs.length : Int) - 1) := by omega
      have CV := conv_row hown
      have F2 := F0
      clear hown hbel
      go_wp2
      go_ret2
      exact ⟨ret_sbR F0.out.symm F1.out.symm, B.out⟩
set_option maxHeartbeats 6400000 in
set_option maxRecDepth 100000 in
theorem implPlainRoad_any (a : Option Addr) (len cap : Nat) (xs : List VCorner) (w : World) (h : IsCornerS w a len cap xs) :
    Calls Try.prog 70 #[.slice a len cap] w (PlainRoad_Post xs w) := by
  obtain ⟨ri, hi, hz0, hz1, hz2⟩ := info_parts infoCorner
  obtain rfl := h.1
  have S := Lib.hid h
  clear h
  obtain ⟨q, hq⟩ : ∃ q, roadB xs = q := ⟨_, rfl⟩
  have Q := Lib.hid hq
  clear hq
  go_enter Try.func70, Try.ntmps70
  go_wp2_with fail
  refine (isRoad_any _ _ _ xs _ S.out).mono ?_
  rintro e w1 ⟨rfl, hb⟩
  rw [Q.out]
  have B1 := Lib.hid hb
  clear hb
  cases q
  · have F0 := Lib.hid (show PlainRoad_0 xs = [] from by unfold PlainRoad_0; rw [Q.out]; rfl)
    have F1 := Lib.hid (show PlainRoad_1 xs = false from Q.out)
    go_wp2
    go_ret2
    exact ⟨_, by rw [F1.out]; rfl, by rw [F0.out]; exact nil_OwnCornerS _ _ _, B1.out⟩
  have R := Lib.hid (road_iff.1 Q.out)
  have l2 := R.out.l2
  have l12 := R.out.l12
  have F0 := Lib.hid (show PlainRoad_0 xs = plainTo xs xs.length from by unfold PlainRoad_0; rw [Q.out]; rfl)
  have F1 := Lib.hid (show PlainRoad_1 xs = true from Q.out)
  have v0 : IntKind.i64.wrap ((xs.length : Int) - 1) = (xs.length : Int) - 1 := IntWalk.i64_in _ (by omega)
  go_wp2
  go_loopw [16, 5] (fun i o wr => ∃ k : Nat, k ≤ xs.length ∧ i = .int .i64 k ∧ wr.ownsRow w.heap.size 103 2 o (plainTo xs k).length (cellsCorner (plainTo xs k)) ∧ Below w.heap.size w wr) (fun i _ _ => xs.length - (intOf i).toNat)
  case atStart => exact ⟨0, by omega, rfl, nil_ownCorner _ _, B1.out⟩
  case round =>
    obtain ⟨k, hk, rfl, hown, hbel⟩ := hrel
    have O := Lib.hid hown
    have B := Lib.hid hbel
    by_cases hlt : k < xs.length
    · obtain ⟨b, o, rfl, hb, hat⟩ := (S.out.below hbel).at (by omega)
      obtain ⟨c0, c1⟩ := hat k _ (at_ptC hlt)
      have hs1 := hbel.size
      have PS := Lib.hid (plainTo_succ xs k)
      have PL := Lib.hid (plainTo_len xs k)
      generalize hp : ptC xs k = p at *
      have BX := BoxCorner.new wr 103 p _ rfl
      have BA := bel_al1 wr (.cells #[.int .i64 p.X, .int .i64 p.Y] 103)
      have j0 : (0 : Int) ≤ (k : Int) := by omega
      have j1 : (k : Int) < (xs.length : Int) := by omega
      clear hat hown hp
      have O1 := Lib.hid (World.ownsRow.alloc O.out (.cells #[.int .i64 p.X, .int .i64 p.Y] 103))
      have B2 := Lib.hid (Below.then' B.out BA)
      have hle : (plainTo xs k).length + 1 ≤ 20 := by have := PL.out; omega
      obtain ⟨G, hG⟩ : ∃ G, plainTo xs k = G := ⟨_, rfl⟩
      rw [hG] at O1 hle PS
      clear hG
      by_cases h0 : k = 0
      · have e1 : ((k : Int) == 0) = true := by simp [h0]
        have KC := Lib.hid (show keepC xs k = true from by unfold keepC; simp [h0])
        have hown3 := World.ownsRow.alloc O1.out (.cells #[.int .i64 p.X, .int .i64 p.Y] 103)
        have CELL := Lib.hid (cell_Corner2 wr (.cells #[.int .i64 p.X, .int .i64 p.Y] 103) p 103)
        obtain ⟨d0, d1⟩ := BX
        clear h0 hbel BA
        go_wp2_with (at_builtin; refine wpList_append_own _ rfl _ _ 47 rfl w.heap.size 103 ri (.agg #[.int .i64 0, .int .i64 0]) 2 16 Try.underlying47 hi hz0 hz1 hz2 rfl (by decide) _ _ _ rfl hown3 ⟨wr.heap.size + 1, 0, none⟩ 1 1 (VCorner.vals p) rfl rfl CELL.out (VCorner.vals_one _) (by unfold maxLen; omega) (by omega) (by simp; omega) ?_; intro v' w4 hown' hgrow4 _)
        refine ⟨⟨k + 1, by omega, by go_num, ?_, ((Below.then' B2.out (bel_al1 _ _))).grown hgrow4 (by simp; omega) (fun q e => (hown3.lt q e).1)⟩, by simp [intOf]; omega⟩
        rw [PS.out, KC.out, if_pos rfl, cellsCorner_snoc, List.length_append]
        exact hown'
      by_cases hl : k + 1 = xs.length
      · have e1 : ((k : Int) == 0) = false := by simp [h0]
        have e2 : ((k : Int) == (xs.length : Int) - 1) = true := by simp; omega
        have KC := Lib.hid (show keepC xs k = true from by unfold keepC; simp [hl])
        have hown3 := World.ownsRow.alloc O1.out (.cells #[.int .i64 p.X, .int .i64 p.Y] 103)
        have CELL := Lib.hid (cell_Corner2 wr (.cells #[.int .i64 p.X, .int .i64 p.Y] 103) p 103)
        obtain ⟨d0, d1⟩ := BX
        clear h0 hl hbel BA
        go_wp2_with (at_builtin; refine wpList_append_own _ rfl _ _ 47 rfl w.heap.size 103 ri (.agg #[.int .i64 0, .int .i64 0]) 2 16 Try.underlying47 hi hz0 hz1 hz2 rfl (by decide) _ _ _ rfl hown3 ⟨wr.heap.size + 1, 0, none⟩ 1 1 (VCorner.vals p) rfl rfl CELL.out (VCorner.vals_one _) (by unfold maxLen; omega) (by omega) (by simp; omega) ?_; intro v' w4 hown' hgrow4 _)
        refine ⟨⟨k + 1, by omega, by go_num, ?_, ((Below.then' B2.out (bel_al1 _ _))).grown hgrow4 (by simp; omega) (fun q e => (hown3.lt q e).1)⟩, by simp [intOf]; omega⟩
        rw [PS.out, KC.out, if_pos rfl, cellsCorner_snoc, List.length_append]
        exact hown'
      obtain ⟨i, rfl⟩ : ∃ i, k = i + 1 := ⟨k - 1, by omega⟩
      have e1 : (((i + 1 : Nat) : Int) == 0) = false := by simp; omega
      have e2 : (((i + 1 : Nat) : Int) == (xs.length : Int) - 1) = false := by simp; omega
      have e1' : ((i : Int) + 1 == 0) = false := by simp; omega
      have e2' : ((i : Int) + 1 == (xs.length : Int) - 1) = false := by simp; omega
      obtain ⟨u, hu⟩ : ∃ u, bendAtU xs (i + 1) = u := ⟨_, rfl⟩
      have U := Lib.hid hu
      have KU := Lib.hid (show keepC xs (i + 1) = !(u == 115) from by unfold keepC; rw [hu, decide_eq_false h0, decide_eq_false hl]; rfl)
      have SW := Lib.hid (S.out.below B2.out)
      have X0 := Lib.hid BX
      clear BX h0 hu hbel BA
      go_wp2_with fail
      refine (bendAt_any _ _ _ xs i _ SW.out R.out (by omega)).mono ?_
      rintro e w2 ⟨rfl, hb2⟩
      rw [U.out]
      have B3 := Lib.hid (Below.then' B2.out hb2)
      have s2 := B3.out.size
      have O2 := Lib.hid (ownsRow_below O1.out hb2)
      obtain ⟨d0, d1⟩ := X0.out.below hb2
      clear hb2 c0 c1
      by_cases hu : u = 115
      · have KC := Lib.hid (show keepC xs (i + 1) = false from by rw [KU.out, hu]; rfl)
        have e3 : (((u.toNat : Nat) : Int) != 115) = false := by rw [hu]; rfl
        clear hu
        go_wp2
        refine ⟨⟨i + 1 + 1, by omega, by go_num, ?_, B3.out⟩, by simp [intOf]; omega⟩
        rw [PS.out, KC.out, if_neg (by decide), List.append_nil]
        exact O2.out
      · have KC := Lib.hid (show keepC xs (i + 1) = true from by rw [KU.out]; simp [hu])
        have e3 : (((u.toNat : Nat) : Int) != 115) = true := by
          rw [bne_iff_ne]
          intro h
          apply hu
          apply UInt8.toNat_inj.1
          show u.toNat = 115
          omega
        have hown3 := World.ownsRow.alloc O2.out (.cells #[.int .i64 p.X, .int .i64 p.Y] 103)
        have CELL := Lib.hid (cell_Corner w2 p 103)
        clear hu
        go_wp2_with (at_builtin; refine wpList_append_own _ rfl _ _ 47 rfl w.heap.size 103 ri (.agg #[.int .i64 0, .int .i64 0]) 2 16 Try.underlying47 hi hz0 hz1 hz2 rfl (by decide) _ _ _ rfl hown3 ⟨w2.heap.size, 0, none⟩ 1 1 (VCorner.vals p) rfl rfl CELL.out (VCorner.vals_one _) (by unfold maxLen; omega) (by omega) (by simp; omega) ?_; intro v' w4 hown' hgrow4 _)
        refine ⟨⟨i + 1 + 1, by omega, by go_num, ?_, ((Below.then' B3.out (bel_al1 _ _))).grown hgrow4 (by simp; omega) (fun q e => (hown3.lt q e).1)⟩, by simp [intOf]; omega⟩
        rw [PS.out, KC.out, if_pos rfl, cellsCorner_snoc, List.length_append]
        exact hown'
    · obtain rfl : k = xs.length := by omega
      have OO := Lib.hid (OwnIn.of_row (lo := w.heap.size) (hi := wr.heap.size) hown (Nat.le_refl _) (Nat.le_refl _))
      clear hown hbel
      go_wp2
      go_ret2
      exact ⟨_, by rw [F1.out]; rfl, by rw [F0.out]; exact OO.out, B.out⟩
end Go.Proofs.Ytpnaciamnigbnaa
