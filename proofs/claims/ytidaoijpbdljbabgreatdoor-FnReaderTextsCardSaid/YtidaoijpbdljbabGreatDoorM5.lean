/- Texts in one: Rd4, Rd5, Rd6, Rd7, Rd8, Ri6, Rd9, Ri7. -/
import Derived.Test.YtidaoijpbdljbabGreatDoorM3
import Derived.Test.YtidaoijpbdljbabGreatDoorM4
namespace Go.Proofs.YtidaoijpbdljbabGreatDoor
open Go.RowKit

set_option maxHeartbeats 3200000 in
set_option maxRecDepth 100000 in
theorem specFineReader_any (a : Option Addr) (len cap : Nat) (xs : List VReader) (id c : Int) (w : World) (h : IsReaderS w a len cap xs) (hx : xs.length ≤ 1048576) (hz : ∀ s ∈ xs, s.sized) :
    Calls Tryz.prog 14 #[.slice a len cap, .int .i64 id, .int .i64 c] w (FineReader_Post xs id c w) := by
  have hm := h.2.2.1
  have hcl := h.2.1
  unfold maxLen at hm
  obtain rfl := h.1
  have S := Lib.hid h
  have SM := Lib.hid (rd_sized_small hz)
  clear h hz
  rcases rdSel_ways xs id with ⟨h1, h2⟩ | ⟨i, s, ha, h1, hs, hi, hid, h2⟩
  · have F := Lib.hid h1
    have E := Lib.hid (show rdFine xs id c = ([], false) from by unfold rdFine; rw [h2])
    clear h1 h2
    go_enter Tryz.func14, Tryz.ntmps14
    go_wp2_with fail
    refine (l3Find_any _ _ _ xs id _ S.out).mono ?_
    rintro e w1 ⟨rfl, hb⟩
    rw [F.out]
    have B1 := Lib.hid hb
    have O := Lib.hid (made_own w1 w.heap.size hb.size)
    clear hb
    go_wp2
    go_ret2
    refine ⟨.slice (some ⟨w1.heap.size, 0, none⟩) 0 0, by unfold FineReader_1; rw [E.out]; rfl, by unfold FineReader_0; rw [E.out]; exact O.out, Below.then' B1.out (bel_al1 _ _)⟩
  · have F := Lib.hid h1
    have H2 := Lib.hid h2
    have HS := Lib.hid hs
    obtain ⟨q, hq⟩ : ∃ q, centsB c = q := ⟨_, rfl⟩
    have Q := Lib.hid hq
    have OK := Lib.hid (rdOk_iff.1 (areRd_ok ha (List.mem_of_getElem? hs)))
    clear h1 h2 hs hq ha hid
    cases q
    · have E := Lib.hid (show rdFine xs id c = ([], false) from by unfold rdFine; rw [H2.out]; simp [Q.out])
      have i0 : ¬ (i : Int) < 0 := by omega
      go_enter Tryz.func14, Tryz.ntmps14
      go_wp2_with fail
      refine (l3Find_any _ _ _ xs id _ S.out).mono ?_
      rintro e w1 ⟨rfl, hb⟩
      rw [F.out]
      have B1 := Lib.hid hb
      have O := Lib.hid (made_own w1 w.heap.size hb.size)
      clear hb
      go_wp2_with fail
      refine (l3Cents_any _ _).mono ?_
      rintro e w' ⟨rfl, rfl⟩
      rw [Q.out]
      go_wp2
      go_ret2
      refine ⟨.slice (some ⟨w1.heap.size, 0, none⟩) 0 0, by unfold FineReader_1; rw [E.out]; rfl, by unfold FineReader_0; rw [E.out]; exact O.out, Below.then' B1.out (bel_al1 _ _)⟩
    · have i0 : ¬ (i : Int) < 0 := by omega
      obtain ⟨_, hw, _, _, f0, f1⟩ := OK.out
      have c1 : 1 ≤ c ∧ c ≤ 10000 := inB_iff.1 Q.out
      have v1 : IntKind.i64.wrap (s.Fines + c) = s.Fines + c := IntWalk.i64_in _ (by omega)
      have SR := Lib.hid (show (⟨s.Id, s.Name, s.Joined, s.Class, s.Fines + c⟩ : VReader).small from SM.out s (List.mem_of_getElem? HS.out))
      have E := Lib.hid (show rdFine xs id c = rdWith xs i ⟨s.Id, s.Name, s.Joined, s.Class, s.Fines + c⟩ from by unfold rdFine; rw [H2.out]; simp [Q.out])
      clear hw
      go_enter Tryz.func14, Tryz.ntmps14
      go_wp2_with fail
      refine (l3Find_any _ _ _ xs id _ S.out).mono ?_
      rintro e w1 ⟨rfl, hb⟩
      rw [F.out]
      have B1 := Lib.hid hb
      clear hb
      go_wp2_with fail
      refine (l3Cents_any _ _).mono ?_
      rintro e w' ⟨rfl, rfl⟩
      rw [Q.out]
      obtain ⟨b, o, rfl, _, hat⟩ := (S.out.below B1.out).at (by omega)
      obtain ⟨d0, d1, d2, d3, d4, _⟩ := hat i s HS.out
      have i1 : (i : Int) < (xs.length : Int) := by omega
      have i2 : (0 : Int) ≤ (i : Int) := by omega
      have B2 := Lib.hid (Below.then' B1.out (bel_al1 w1 (.cells #[.int .i64 s.Id, .string s.Name, .int .i64 s.Joined, .int .i64 s.Class, .int .i64 (s.Fines + c)] 25)))
      have S2 := Lib.hid (S.out.below B2.out)
      clear hat
      go_wp2_with fail
      refine (l3With_any _ _ _ xs i ⟨s.Id, s.Name, s.Joined, s.Class, s.Fines + c⟩ _ S2.out hi hx SM.out SR.out).mono ?_
      rintro e w2 ⟨v, rfl, hown, hb⟩
      have B3 := Lib.hid (Below.then' B2.out hb)
      have O := Lib.hid (ownsRow_base hown B2.out.size)
      clear hown hb
      go_wp2
      go_ret2
      refine ⟨v, by unfold FineReader_1; rw [E.out]; rfl, by unfold FineReader_0; rw [E.out]; exact O.out, B3.out⟩
end Go.Proofs.YtidaoijpbdljbabGreatDoor
namespace Go.Proofs.YtidaoijpbdljbabGreatDoor
open Go.RowKit

end Go.Proofs.YtidaoijpbdljbabGreatDoor
namespace Go.Proofs.YtidaoijpbdljbabGreatDoor
open Go.RowKit

end Go.Proofs.YtidaoijpbdljbabGreatDoor
namespace Go.Proofs.YtidaoijpbdljbabGreatDoor
open Go.RowKit

end Go.Proofs.YtidaoijpbdljbabGreatDoor
namespace Go.Proofs.YtidaoijpbdljbabGreatDoor
open Go.RowKit

theorem rdJoin_no (xs : List VReader) (nm : ByteArray) (d : Int) (h : areRd xs = false) : rdJoin xs nm d = ([], 0, false) := by unfold rdJoin; rw [h]; rfl
theorem rdJoin_bad (xs : List VReader) (nm : ByteArray) (d : Int) (h : areRd (xs ++ [⟨rdLast xs, nm, d, 1, 0⟩]) = false) : rdJoin xs nm d = ([], 0, false) := by
  unfold rdJoin; rw [h, Bool.and_false]; rfl
theorem rdJoin_yes (xs : List VReader) (nm : ByteArray) (d : Int) (h : areRd xs = true) (h2 : areRd (xs ++ [⟨rdLast xs, nm, d, 1, 0⟩]) = true) : rdJoin xs nm d = (xs ++ [⟨rdLast xs, nm, d, 1, 0⟩], rdLast xs, true) := by
  unfold rdJoin; rw [h, h2]; rfl
end Go.Proofs.YtidaoijpbdljbabGreatDoor
namespace Go.Proofs.YtidaoijpbdljbabGreatDoor
open Go.RowKit

theorem areRd_prefix {xs ys : List VReader} (h : areRd (xs ++ ys) = true) : areRd xs = true := by
  unfold areRd rdUp at *
  simp only [Bool.and_eq_true, decide_eq_true_eq, List.length_append] at *
  exact ⟨upB_prefix h.1, by omega⟩
theorem cell_drew (W : World) (p : Addr) : W.drew.cell? p = W.cell? p := rfl
theorem after_draw {W w1 : World} (h : Below W.drew.heap.size W.drew w1) : Below W.heap.size W w1 := Below.then' (bel_drawn W 1) h
theorem after_draw_al {W w1 : World} {o : Obj} (h : Below (W.drew.alloc o).heap.size (W.drew.alloc o) w1) : Below W.heap.size W w1 := Below.then' (Below.then' (bel_drawn W 1) (bel_al1 W.drew o)) h
theorem new_Reader {W w1 : World} {s : VReader} (hb : Below (W.alloc (.cells #[.int .i64 s.Id, .string s.Name, .int .i64 s.Joined, .int .i64 s.Class, .int .i64 s.Fines] 25)).drew.heap.size (W.alloc (.cells #[.int .i64 s.Id, .string s.Name, .int .i64 s.Joined, .int .i64 s.Class, .int .i64 s.Fines] 25)).drew w1) : ∀ j u, s.vals[j]? = some u → w1.cell? ((⟨W.heap.size, 0, none⟩ : Addr).add j) = some u := fun j u hj =>
  ((Below.cell (p := (⟨W.heap.size, 0, none⟩ : Addr).add j) hb (by rw [add_plain]; exact (show W.heap.size < (W.alloc (.cells #[.int .i64 s.Id, .string s.Name, .int .i64 s.Joined, .int .i64 s.Class, .int .i64 s.Fines] 25)).heap.size by rw [size_al]; exact Nat.lt_succ_self _))).trans (cell_drew _ _)).trans (cell_Reader W s 25 j u hj)
end Go.Proofs.YtidaoijpbdljbabGreatDoor
namespace Go.Proofs.YtidaoijpbdljbabGreatDoor
open Go.RowKit

/-- How many of the first k readers are of the class c. -/
def cnt (xs : List VReader) (c : Int) (k : Nat) : Int := (((xs.take k).filter fun s => s.Class == c).length : Nat)
theorem cnt_zero (xs : List VReader) (c : Int) : cnt xs c 0 = 0 := by simp [cnt]
theorem cnt_le (xs : List VReader) (c : Int) (k : Nat) : 0 ≤ cnt xs c k ∧ cnt xs c k ≤ xs.length := by
  unfold cnt
  have h1 := List.length_filter_le (fun s : VReader => s.Class == c) (xs.take k)
  have h2 := List.length_take_le k xs
  have h3 : (xs.take k).length ≤ xs.length := by rw [List.length_take]; omega
  omega
theorem cnt_succ {xs : List VReader} {k : Nat} {s : VReader} (c : Int) (hs : xs[k]? = some s) : cnt xs c (k + 1) = if s.Class = c then cnt xs c k + 1 else cnt xs c k := by
  unfold cnt
  rw [filter_snoc' (fun s : VReader => s.Class == c) hs, List.length_append]
  by_cases h : s.Class = c
  · rw [if_pos h, if_pos (by simpa using h)]; simp
  · rw [if_neg h, if_neg (by simpa using h)]; simp
theorem made3 : (madeCells (Value.int .i64 0).cells (3 * 1)).toList = intCells [0, 0, 0] := by
  simp [madeCells, intCells, Value.cells, List.range, List.range.loop]
def ClassCounts_0 (xs : List VReader) : List Int := if areRd xs = true then [cnt xs 1 xs.length, cnt xs 2 xs.length, cnt xs 3 xs.length] else []
def ClassCounts_1 (xs : List VReader) : Bool := areRd xs
theorem ClassCounts_0_len (xs : List VReader) (_ : xs.length ≤ 1048576) (_ : ∀ s ∈ xs, s.sized) : (ClassCounts_0 xs).length ≤ 1000000 := by
  unfold ClassCounts_0; split <;> simp
def ClassCounts_Post (z0 : List VReader) (w : World) (e : Ending) (w' : World) : Prop :=
  ∃ v0 : Value, e = .returned (.tuple #[v0, .bool (ClassCounts_1 z0)]) ∧ w'.ownsRow w.heap.size 3 1 v0 (ClassCounts_0 z0).length (intCells (ClassCounts_0 z0)) ∧ Below w.heap.size w w'
set_option maxHeartbeats 3200000 in
set_option maxRecDepth 100000 in
theorem specClassCounts_any (a : Option Addr) (len cap : Nat) (xs : List VReader) (w : World) (h : IsReaderS w a len cap xs) (_ : xs.length ≤ 1048576) (_ : ∀ s ∈ xs, s.sized) :
    Calls Tryz.prog 22 #[.slice a len cap] w (ClassCounts_Post xs w) := by
  have hm := h.2.2.1
  have hcl := h.2.1
  unfold maxLen at hm
  obtain rfl := h.1
  obtain ⟨i0, hi, hz0, hz1, hz2⟩ := info_parts infoInt
  have S := Lib.hid h
  clear h
  obtain ⟨p, hp⟩ : ∃ p, areRd xs = p := ⟨_, rfl⟩
  have PP := Lib.hid hp
  clear hp
  go_enter Tryz.func22, Tryz.ntmps22
  go_wp2_with fail
  refine (l3Good_any _ _ _ xs _ S.out).mono ?_
  rintro e w1 ⟨rfl, hb⟩
  rw [PP.out]
  have B1 := Lib.hid hb
  clear hb
  cases p
  · have E0 := Lib.hid (show ClassCounts_0 xs = [] from by unfold ClassCounts_0; rw [PP.out]; rfl)
    have E1 := Lib.hid (show ClassCounts_1 xs = false from by unfold ClassCounts_1; rw [PP.out])
    have O0 := Lib.hid (World.ownsRow_made (base := w.heap.size) (e := 3) (size := 1) w1 #[] 0 B1.out.size (Nat.zero_le _) rfl)
    go_wp2
    go_ret2
    exact ⟨_, by rw [E1.out]; rfl, by rw [E0.out]; exact O0.out, Below.then' B1.out (bel_al1 _ _)⟩
  have hl10 := areRd_len PP.out
  have E0 := Lib.hid (show ClassCounts_0 xs = [cnt xs 1 xs.length, cnt xs 2 xs.length, cnt xs 3 xs.length] from by unfold ClassCounts_0; rw [PP.out]; rfl)
  have E1 := Lib.hid (show ClassCounts_1 xs = true from by unfold ClassCounts_1; rw [PP.out])
  have hb1 := B1.out.size
  go_wp2_with (refine wpList_make_full _ rfl _ _ 43 rfl w.heap.size 3 i0 (.int .i64 0) 1 Tryz.underlying43 hi hz0 hz1 .i64 .i64 _ _ 3 rfl rfl rfl rfl (by rw [hz2]; omega) (by unfold maxLen; omega) hb1 ?_; intro w2 hown hgrow)
  have R0 : w2.ownsRow w.heap.size 3 1 (.slice (some ⟨w1.heap.size, 0, none⟩) 3 3) 3 (intCells [cnt xs 1 0, cnt xs 2 0, cnt xs 3 0]) := by rw [cnt_zero, cnt_zero, cnt_zero, ← made3]; exact hown
  have B2 := Lib.hid (Below.grown B1.out hgrow hb1 (fun k e => by cases e))
  have R0 := Lib.hid R0
  clear hown hgrow
  go_loopw [5, 6] (fun i q wr => ∃ k : Nat, k ≤ xs.length ∧ i = .int .i64 k ∧ wr.ownsRow w.heap.size 3 1 (.slice (some ⟨w1.heap.size, 0, none⟩) 3 3) 3 (intCells [cnt xs 1 k, cnt xs 2 k, cnt xs 3 k]) ∧ Below w.heap.size w wr) (fun i _ _ => xs.length - (intOf i).toNat)
  case atStart => exact ⟨0, Nat.zero_le _, rfl, R0.out, B2.out⟩
  case round =>
    obtain ⟨k, hk, rfl, hown, hbel⟩ := hrel
    have O := Lib.hid hown
    have B := Lib.hid hbel
    clear hown
    by_cases hlt : k < xs.length
    · obtain ⟨s, hs⟩ : ∃ s, xs[k]? = some s := ⟨xs[k]'hlt, List.getElem?_eq_getElem _⟩
      obtain ⟨b, o, rfl, hbw, hat⟩ := (S.out.below hbel).at (by omega)
      obtain ⟨c0, c1, c2, c3, c4, _⟩ := hat k s hs
      have OKS := (rdOk_iff.1 (areRd_ok PP.out (List.mem_of_getElem? hs))).2.2.2.1
      have N1 := Lib.hid (cnt_succ 1 hs)
      have N2 := Lib.hid (cnt_succ 2 hs)
      have N3 := Lib.hid (cnt_succ 3 hs)
      have hi0 : (0 : Int) ≤ (k : Int) := by omega
      have hi1 : (k : Int) < (xs.length : Int) := by omega
      have hn1 := cnt_le xs 1 k
      have hn2 := cnt_le xs 2 k
      have hn3 := cnt_le xs 3 k
      have f0 := O.out.frozenAt 0
      have f1 := O.out.frozenAt 1
      have f2 := O.out.frozenAt 2
      have d0 := O.out.cells (g := w1.heap.size) rfl 0 _ rfl
      have d1 := O.out.cells (g := w1.heap.size) rfl 1 _ rfl
      have d2 := O.out.cells (g := w1.heap.size) rfl 2 _ rfl
      rw [add_plain, Nat.zero_add] at d0 d1 d2
      generalize cnt xs 1 k = n1 at *
      generalize cnt xs 2 k = n2 at *
      generalize cnt xs 3 k = n3 at *
      generalize hcl1 : s.Class = cl at *
      clear hs hat hbel c0 c1 c2 c4 S
      have hsz := B.out.size
      rcases (show cl = 1 ∨ cl = 2 ∨ cl = 3 by omega) with rfl | rfl | rfl
      · have T := O.out.stored 0 (.int .i64 (n1 + 1))
        go_wp2
        go_roundw
        case rel => exact ⟨k + 1, by omega, by go_num, by rw [N1.out, N2.out, N3.out, if_pos rfl, if_neg (by decide), if_neg (by decide)]; exact T.1, B.out.grown T.2 hsz (fun j e => (O.out.lt j e).1)⟩
        case measure => simp [intOf]; omega
      · have T := O.out.stored 1 (.int .i64 (n2 + 1))
        go_wp2
        go_roundw
        case rel => exact ⟨k + 1, by omega, by go_num, by rw [N1.out, N2.out, N3.out, if_neg (by decide), if_pos rfl, if_neg (by decide)]; exact T.1, B.out.grown T.2 hsz (fun j e => (O.out.lt j e).1)⟩
        case measure => simp [intOf]; omega
      · have T := O.out.stored 2 (.int .i64 (n3 + 1))
        go_wp2
        go_roundw
        case rel => exact ⟨k + 1, by omega, by go_num, by rw [N1.out, N2.out, N3.out, if_neg (by decide), if_neg (by decide), if_pos rfl]; exact T.1, B.out.grown T.2 hsz (fun j e => (O.out.lt j e).1)⟩
        case measure => simp [intOf]; omega
    · obtain rfl : k = xs.length := by omega
      clear hbel
      go_wp2
      go_ret2
      exact ⟨_, by rw [E1.out]; rfl, by rw [E0.out]; exact O.out, B.out⟩
end Go.Proofs.YtidaoijpbdljbabGreatDoor
namespace Go.Proofs.YtidaoijpbdljbabGreatDoor
open Go.RowKit

theorem nil_intRow (w : World) (base : Nat) : w.ownsRow base 3 1 (.slice none 0 0) ([] : List Int).length (intCells []) := ⟨by simp [intCells], .inl ⟨rfl, rfl⟩⟩
set_option maxHeartbeats 3200000 in
set_option maxRecDepth 100000 in
theorem implClassCounts_any (a : Option Addr) (len cap : Nat) (xs : List VReader) (w : World) (h : IsReaderS w a len cap xs) (_ : xs.length ≤ 1048576) (_ : ∀ s ∈ xs, s.sized) :
    Calls Tryz.prog 21 #[.slice a len cap] w (ClassCounts_Post xs w) := by
  have hm := h.2.2.1
  have hcl := h.2.1
  unfold maxLen at hm
  obtain rfl := h.1
  obtain ⟨i0, hi, hz0, hz1, hz2⟩ := info_parts infoInt
  have S := Lib.hid h
  clear h
  obtain ⟨p, hp⟩ : ∃ p, areRd xs = p := ⟨_, rfl⟩
  have PP := Lib.hid hp
  clear hp
  go_enter Tryz.func21, Tryz.ntmps21
  go_wp2_with fail
  refine (areRd_any _ _ _ xs _ S.out).mono ?_
  rintro e w1 ⟨rfl, hb⟩
  rw [PP.out]
  have B1 := Lib.hid hb
  clear hb
  cases p
  · have E0 := Lib.hid (show ClassCounts_0 xs = [] from by unfold ClassCounts_0; rw [PP.out]; rfl)
    have E1 := Lib.hid (show ClassCounts_1 xs = false from by unfold ClassCounts_1; rw [PP.out])
    go_wp2
    go_ret2
    exact ⟨_, by rw [E1.out]; rfl, by rw [E0.out]; exact nil_intRow _ _, B1.out⟩
  have hl10 := areRd_len PP.out
  have E0 := Lib.hid (show ClassCounts_0 xs = [cnt xs 1 xs.length, cnt xs 2 xs.length, cnt xs 3 xs.length] from by unfold ClassCounts_0; rw [PP.out]; rfl)
  have E1 := Lib.hid (show ClassCounts_1 xs = true from by unfold ClassCounts_1; rw [PP.out])
  have hb1 := B1.out.size
  go_wp2_with (refine wpList_make_full _ rfl _ _ 43 rfl w.heap.size 3 i0 (.int .i64 0) 1 Tryz.underlying43 hi hz0 hz1 .i64 .i64 _ _ 3 rfl rfl rfl rfl (by rw [hz2]; omega) (by unfold maxLen; omega) hb1 ?_; intro w2 hown hgrow)
  have R0 : w2.ownsRow w.heap.size 3 1 (.slice (some ⟨w1.heap.size, 0, none⟩) 3 3) 3 (intCells [cnt xs 1 0, cnt xs 2 0, cnt xs 3 0]) := by rw [cnt_zero, cnt_zero, cnt_zero, ← made3]; exact hown
  have B2 := Lib.hid (Below.grown B1.out hgrow hb1 (fun k e => by cases e))
  have R0 := Lib.hid R0
  clear hown hgrow
  go_loopw [13] (fun i wr => ∃ k : Nat, k ≤ xs.length ∧ i = .int .i64 k ∧ wr.ownsRow w.heap.size 3 1 (.slice (some ⟨w1.heap.size, 0, none⟩) 3 3) 3 (intCells [cnt xs 1 k, cnt xs 2 k, cnt xs 3 k]) ∧ Below w.heap.size w wr) (fun i _ => xs.length - (intOf i).toNat)
  case atStart => exact ⟨0, Nat.zero_le _, rfl, R0.out, B2.out⟩
  case round =>
    obtain ⟨k, hk, rfl, hown, hbel⟩ := hrel
    have B := Lib.hid hbel
    by_cases hlt : k < xs.length
    · obtain ⟨s, hs⟩ : ∃ s, xs[k]? = some s := ⟨xs[k]'hlt, List.getElem?_eq_getElem _⟩
      obtain ⟨b, o, rfl, hbw, hat⟩ := (S.out.below hbel).at (by omega)
      obtain ⟨c0, c1, c2, c3, c4, _⟩ := hat k s hs
      have OKS := (rdOk_iff.1 (areRd_ok PP.out (List.mem_of_getElem? hs))).2.2.2.1
      have N1 := Lib.hid (cnt_succ 1 hs)
      have N2 := Lib.hid (cnt_succ 2 hs)
      have N3 := Lib.hid (cnt_succ 3 hs)
      have hi0 : (0 : Int) ≤ (k : Int) := by omega
      have hi1 : (k : Int) < (xs.length : Int) := by omega
      have hn1 := cnt_le xs 1 k
      have hn2 := cnt_le xs 2 k
      have hn3 := cnt_le xs 3 k
      have BX := Lib.hid (Below.then' B.out (bel_al1 wr (.cells #[.int .i64 s.Id, .string s.Name, .int .i64 s.Joined, .int .i64 s.Class, .int .i64 s.Fines] 25)))
      have O := Lib.hid (hown.alloc (.cells #[.int .i64 s.Id, .string s.Name, .int .i64 s.Joined, .int .i64 s.Class, .int .i64 s.Fines] 25))
      have f0 := O.out.frozenAt 0
      have f1 := O.out.frozenAt 1
      have f2 := O.out.frozenAt 2
      have d0 := O.out.cells (g := w1.heap.size) rfl 0 _ rfl
      have d1 := O.out.cells (g := w1.heap.size) rfl 1 _ rfl
      have d2 := O.out.cells (g := w1.heap.size) rfl 2 _ rfl
      rw [add_plain, Nat.zero_add] at d0 d1 d2
      generalize cnt xs 1 k = n1 at *
      generalize cnt xs 2 k = n2 at *
      generalize cnt xs 3 k = n3 at *
      generalize hcl1 : s.Class = cl at *
      have hsz := BX.out.size
      clear hs hat hbel S hown
      rcases (show cl = 1 ∨ cl = 2 ∨ cl = 3 by omega) with rfl | rfl | rfl
      · have T := O.out.stored 0 (.int .i64 (n1 + 1))
        go_wp2
        go_roundw
        case rel => exact ⟨k + 1, by omega, by go_num, by rw [N1.out, N2.out, N3.out, if_pos rfl, if_neg (by decide), if_neg (by decide)]; exact T.1, BX.out.grown T.2 hsz (fun j e => (O.out.lt j e).1)⟩
        case measure => simp [intOf]; omega
      · have T := O.out.stored 1 (.int .i64 (n2 + 1))
        go_wp2
        go_roundw
        case rel => exact ⟨k + 1, by omega, by go_num, by rw [N1.out, N2.out, N3.out, if_neg (by decide), if_pos rfl, if_neg (by decide)]; exact T.1, BX.out.grown T.2 hsz (fun j e => (O.out.lt j e).1)⟩
        case measure => simp [intOf]; omega
      · have T := O.out.stored 2 (.int .i64 (n3 + 1))
        go_wp2
        go_roundw
        case rel => exact ⟨k + 1, by omega, by go_num, by rw [N1.out, N2.out, N3.out, if_neg (by decide), if_neg (by decide), if_pos rfl]; exact T.1, BX.out.grown T.2 hsz (fun j e => (O.out.lt j e).1)⟩
        case measure => simp [intOf]; omega
    · obtain rfl : k = xs.length := by omega
      have O := Lib.hid hown
      clear hbel hown
      go_wp2
      go_ret2
      exact ⟨_, by rw [E1.out]; rfl, by rw [E0.out]; exact O.out, B.out⟩
end Go.Proofs.YtidaoijpbdljbabGreatDoor
