/- Texts in one: Rd7, Rd8, Ri6, Rd9, Ri7, Mt, LawsR, Rl. -/
import Derived.Test.YtdpeidbifcbkkaaGreatDoorM4
import Derived.Test.YtdpeidbifcbkkaaGreatDoorRows
import Derived.Lib.LaidTab
import Derived.Lib.SmallJoins
import Derived.Stop.LaidErr
import Derived.Test.YtdpeidbifcbkkaaGreatDoorM2
namespace Go.Proofs.YtdpeidbifcbkkaaGreatDoor
open Go.RowKit

end Go.Proofs.YtdpeidbifcbkkaaGreatDoor
namespace Go.Proofs.YtdpeidbifcbkkaaGreatDoor
open Go.RowKit

theorem rdJoin_no (xs : List VReader) (nm : ByteArray) (d : Int) (h : areRd xs = false) : rdJoin xs nm d = ([], 0, false) := by unfold rdJoin; rw [h]; rfl
theorem rdJoin_bad (xs : List VReader) (nm : ByteArray) (d : Int) (h : areRd (xs ++ [⟨rdLast xs, nm, d, 1, 0⟩]) = false) : rdJoin xs nm d = ([], 0, false) := by
  unfold rdJoin; rw [h, Bool.and_false]; rfl
theorem rdJoin_yes (xs : List VReader) (nm : ByteArray) (d : Int) (h : areRd xs = true) (h2 : areRd (xs ++ [⟨rdLast xs, nm, d, 1, 0⟩]) = true) : rdJoin xs nm d = (xs ++ [⟨rdLast xs, nm, d, 1, 0⟩], rdLast xs, true) := by
  unfold rdJoin; rw [h, h2]; rfl
end Go.Proofs.YtdpeidbifcbkkaaGreatDoor
namespace Go.Proofs.YtdpeidbifcbkkaaGreatDoor
open Go.RowKit

theorem areRd_prefix {xs ys : List VReader} (h : areRd (xs ++ ys) = true) : areRd xs = true := by
  unfold areRd rdUp at *
  simp only [Bool.and_eq_true, decide_eq_true_eq, List.length_append] at *
  exact ⟨upB_prefix h.1, by omega⟩
theorem cell_drew (W : World) (p : Addr) : W.drew.cell? p = W.cell? p := rfl
theorem after_draw {W w1 : World} (h : Below W.drew.heap.size W.drew w1) : Below W.heap.size W w1 := Below.then' (bel_drawn W 1) h
theorem after_draw_al {W w1 : World} {o : Obj} (h : Below (W.drew.alloc o).heap.size (W.drew.alloc o) w1) : Below W.heap.size W w1 := Below.then' (Below.then' (bel_drawn W 1) (bel_al1 W.drew o)) h
theorem new_Reader {W w1 : World} {s : VReader} (hb : Below (W.alloc (.cells #[.int .i64 s.Id, .string s.Name, .int .i64 s.Joined, .int .i64 s.Class, .int .i64 s.Fines] 25)).drew.heap.size (W.alloc (.cells #[.int .i64 s.Id, .string s.Name, .int .i64 s.Joined, .int .i64 s.Class, .int .i64 s.Fines] 25)).drew w1) : ∀ j u, s.vals[j]? = some u → w1.cell? ((⟨W.heap.size, 0, none⟩ : Addr).add j) = some u := fun j u hj =>
  ((Below.cell (p := (⟨W.heap.size, 0, none⟩ : Addr).add j) hb (by rw [add_plain]; exact (show W.heap.size < (W.alloc (.cells #[.int .i64 s.Id, .string s.Name, .int .i64 s.Joined, .int .i64 s.Class, .int .i64 s.Fines] 25)).heap.size by rw [size_al]; exact Nat.lt_succ_self _))).trans (cell_drew _ _)).trans (cell_Reader W s 25 j u hj)
end Go.Proofs.YtdpeidbifcbkkaaGreatDoor
namespace Go.Proofs.YtdpeidbifcbkkaaGreatDoor
open Go.RowKit

/-- How many of the first k readers are of the class c. -/
def cnt (xs : List VReader) (c : Int) (k : Nat) : Int := (((xs.take k).filter fun s => s.Class == c).length : Nat)
theorem cnt_zero (xs : List VReader) (c : Int) : cnt xs c 0 = 0 := by simp [cnt]
theorem cnt_le (xs : List VReader) (c : Int) (k : Nat) : 0 ≤ cnt xs c k ∧ cnt xs c k ≤ xs.length := by
  unfold cnt
  have h1 := List.length_filter_le (fun s : VReader => s.Class == c) (xs.take k)
  have h2 := List.length_take_le k xs
  have h3 : (xs.take k).length ≤ xs.length := by rw [List.length_take]; omega
  omega
theorem cnt_succ {xs : List VReader} {k : Nat} {s : VReader} (c : Int) (hs : xs[k]? = some s) : cnt xs c (k + 1) = if s.Class = c then cnt xs c k + 1 else cnt xs c k := by
  unfold cnt
  rw [filter_snoc' (fun s : VReader => s.Class == c) hs, List.length_append]
  by_cases h : s.Class = c
  · rw [if_pos h, if_pos (by simpa using h)]; simp
  · rw [if_neg h, if_neg (by simpa using h)]; simp
theorem made3 : (madeCells (Value.int .i64 0).cells (3 * 1)).toList = intCells [0, 0, 0] := by
  simp [madeCells, intCells, Value.cells, List.range, List.range.loop]
def ClassCounts_0 (xs : List VReader) : List Int := if areRd xs = true then [cnt xs 1 xs.length, cnt xs 2 xs.length, cnt xs 3 xs.length] else []
def ClassCounts_1 (xs : List VReader) : Bool := areRd xs
theorem ClassCounts_0_len (xs : List VReader) (_ : xs.length ≤ 1048576) (_ : ∀ s ∈ xs, s.sized) : (ClassCounts_0 xs).length ≤ 1000000 := by
  unfold ClassCounts_0; split <;> simp
def ClassCounts_Post (z0 : List VReader) (w : World) (e : Ending) (w' : World) : Prop :=
  ∃ v0 : Value, e = .returned (.tuple #[v0, .bool (ClassCounts_1 z0)]) ∧ w'.ownsRow w.heap.size 3 1 v0 (ClassCounts_0 z0).length (intCells (ClassCounts_0 z0)) ∧ Below w.heap.size w w'
set_option maxHeartbeats 3200000 in
set_option maxRecDepth 100000 in
theorem specClassCounts_any (a : Option Addr) (len cap : Nat) (xs : List VReader) (w : World) (h : IsReaderS w a len cap xs) (_ : xs.length ≤ 1048576) (_ : ∀ s ∈ xs, s.sized) :
    Calls Tryz.prog 22 #[.slice a len cap] w (ClassCounts_Post xs w) := by
  have hm := h.2.2.1
  have hcl := h.2.1
  unfold maxLen at hm
  obtain rfl := h.1
  obtain ⟨i0, hi, hz0, hz1, hz2⟩ := info_parts infoInt
  have S := Lib.hid h
  clear h
  obtain ⟨p, hp⟩ : ∃ p, areRd xs = p := ⟨_, rfl⟩
  have PP := Lib.hid hp
  clear hp
  go_enter Tryz.func22, Tryz.ntmps22
  go_wp2_with fail
  refine (l3Good_any _ _ _ xs _ S.out).mono ?_
  rintro e w1 ⟨rfl, hb⟩
  rw [PP.out]
  have B1 := Lib.hid hb
  clear hb
  cases p
  · have E0 := Lib.hid (show ClassCounts_0 xs = [] from by unfold ClassCounts_0; rw [PP.out]; rfl)
    have E1 := Lib.hid (show ClassCounts_1 xs = false from by unfold ClassCounts_1; rw [PP.out])
    have O0 := Lib.hid (World.ownsRow_made (base := w.heap.size) (e := 3) (size := 1) w1 #[] 0 B1.out.size (Nat.zero_le _) rfl)
    go_wp2
    go_ret2
    exact ⟨_, by rw [E1.out]; rfl, by rw [E0.out]; exact O0.out, Below.then' B1.out (bel_al1 _ _)⟩
  have hl10 := areRd_len PP.out
  have E0 := Lib.hid (show ClassCounts_0 xs = [cnt xs 1 xs.length, cnt xs 2 xs.length, cnt xs 3 xs.length] from by unfold ClassCounts_0; rw [PP.out]; rfl)
  have E1 := Lib.hid (show ClassCounts_1 xs = true from by unfold ClassCounts_1; rw [PP.out])
  have hb1 := B1.out.size
  go_wp2_with (refine wpList_make_full _ rfl _ _ 43 rfl w.heap.size 3 i0 (.int .i64 0) 1 Tryz.underlying43 hi hz0 hz1 .i64 .i64 _ _ 3 rfl rfl rfl rfl (by rw [hz2]; omega) (by unfold maxLen; omega) hb1 ?_; intro w2 hown hgrow)
  have R0 : w2.ownsRow w.heap.size 3 1 (.slice (some ⟨w1.heap.size, 0, none⟩) 3 3) 3 (intCells [cnt xs 1 0, cnt xs 2 0, cnt xs 3 0]) := by rw [cnt_zero, cnt_zero, cnt_zero, ← made3]; exact hown
  have B2 := Lib.hid (Below.grown B1.out hgrow hb1 (fun k e => by cases e))
  have R0 := Lib.hid R0
  clear hown hgrow
  go_loopw [5, 6] (fun i q wr => ∃ k : Nat, k ≤ xs.length ∧ i = .int .i64 k ∧ wr.ownsRow w.heap.size 3 1 (.slice (some ⟨w1.heap.size, 0, none⟩) 3 3) 3 (intCells [cnt xs 1 k, cnt xs 2 k, cnt xs 3 k]) ∧ Below w.heap.size w wr) (fun i _ _ => xs.length - (intOf i).toNat)
  case atStart => exact ⟨0, Nat.zero_le _, rfl, R0.out, B2.out⟩
  case round =>
    obtain ⟨k, hk, rfl, hown, hbel⟩ := hrel
    have O := Lib.hid hown
    have B := Lib.hid hbel
    clear hown
    by_cases hlt : k < xs.length
    · obtain ⟨s, hs⟩ : ∃ s, xs[k]? = some s := ⟨xs[k]'hlt, List.getElem?_eq_getElem _⟩
      obtain ⟨b, o, rfl, hbw, hat⟩ := (S.out.below hbel).at (by omega)
      obtain ⟨c0, c1, c2, c3, c4, _⟩ := hat k s hs
      have OKS := (rdOk_iff.1 (areRd_ok PP.out (List.mem_of_getElem? hs))).2.2.2.1
      have N1 := Lib.hid (cnt_succ 1 hs)
      have N2 := Lib.hid (cnt_succ 2 hs)
      have N3 := Lib.hid (cnt_succ 3 hs)
      have hi0 : (0 : Int) ≤ (k : Int) := by omega
      have hi1 : (k : Int) < (xs.length : Int) := by omega
      have hn1 := cnt_le xs 1 k
      have hn2 := cnt_le xs 2 k
      have hn3 := cnt_le xs 3 k
      have f0 := O.out.frozenAt 0
      have f1 := O.out.frozenAt 1
      have f2 := O.out.frozenAt 2
      have d0 := O.out.cells (g := w1.heap.size) rfl 0 _ rfl
      have d1 := O.out.cells (g := w1.heap.size) rfl 1 _ rfl
      have d2 := O.out.cells (g := w1.heap.size) rfl 2 _ rfl
      rw [add_plain, Nat.zero_add] at d0 d1 d2
      generalize cnt xs 1 k = n1 at *
      generalize cnt xs 2 k = n2 at *
      generalize cnt xs 3 k = n3 at *
      generalize hcl1 : s.Class = cl at *
      clear hs hat hbel c0 c1 c2 c4 S
      have hsz := B.out.size
      rcases (show cl = 1 ∨ cl = 2 ∨ cl = 3 by omega) with rfl | rfl | rfl
      · have T := O.out.stored 0 (.int .i64 (n1 + 1))
        go_wp2
        go_roundw
        case rel => exact ⟨k + 1, by omega, by go_num, by rw [N1.out, N2.out, N3.out, if_pos rfl, if_neg (by decide), if_neg (by decide)]; exact T.1, B.out.grown T.2 hsz (fun j e => (O.out.lt j e).1)⟩
        case measure => simp [intOf]; omega
      · have T := O.out.stored 1 (.int .i64 (n2 + 1))
        go_wp2
        go_roundw
        case rel => exact ⟨k + 1, by omega, by go_num, by rw [N1.out, N2.out, N3.out, if_neg (by decide), if_pos rfl, if_neg (by decide)]; exact T.1, B.out.grown T.2 hsz (fun j e => (O.out.lt j e).1)⟩
        case measure => simp [intOf]; omega
      · have T := O.out.stored 2 (.int .i64 (n3 + 1))
        go_wp2
        go_roundw
        case rel => exact ⟨k + 1, by omega, by go_num, by rw [N1.out, N2.out, N3.out, if_neg (by decide), if_neg (by decide), if_pos rfl]; exact T.1, B.out.grown T.2 hsz (fun j e => (O.out.lt j e).1)⟩
        case measure => simp [intOf]; omega
    · obtain rfl : k = xs.length := by omega
      clear hbel
      go_wp2
      go_ret2
      exact ⟨_, by rw [E1.out]; rfl, by rw [E0.out]; exact O.out, B.out⟩
end Go.Proofs.YtdpeidbifcbkkaaGreatDoor
namespace Go.Proofs.YtdpeidbifcbkkaaGreatDoor
open Go.RowKit

theorem nil_intRow (w : World) (base : Nat) : w.ownsRow base 3 1 (.slice none 0 0) ([] : List Int).length (intCells []) := ⟨by simp [intCells], .inl ⟨rfl, rfl⟩⟩
set_option maxHeartbeats 3200000 in
set_option maxRecDepth 100000 in
theorem implClassCounts_any (a : Option Addr) (len cap : Nat) (xs : List VReader) (w : World) (h : IsReaderS w a len cap xs) (_ : xs.length ≤ 1048576) (_ : ∀ s ∈ xs, s.sized) :
    Calls Tryz.prog 21 #[.slice a len cap] w (ClassCounts_Post xs w) := by
  have hm := h.2.2.1
  have hcl := h.2.1
  unfold maxLen at hm
  obtain rfl := h.1
  obtain ⟨i0, hi, hz0, hz1, hz2⟩ := info_parts infoInt
  have S := Lib.hid h
  clear h
  obtain ⟨p, hp⟩ : ∃ p, areRd xs = p := ⟨_, rfl⟩
  have PP := Lib.hid hp
  clear hp
  go_enter Tryz.func21, Tryz.ntmps21
  go_wp2_with fail
  refine (areRd_any _ _ _ xs _ S.out).mono ?_
  rintro e w1 ⟨rfl, hb⟩
  rw [PP.out]
  have B1 := Lib.hid hb
  clear hb
  cases p
  · have E0 := Lib.hid (show ClassCounts_0 xs = [] from by unfold ClassCounts_0; rw [PP.out]; rfl)
    have E1 := Lib.hid (show ClassCounts_1 xs = false from by unfold ClassCounts_1; rw [PP.out])
    go_wp2
    go_ret2
    exact ⟨_, by rw [E1.out]; rfl, by rw [E0.out]; exact nil_intRow _ _, B1.out⟩
  have hl10 := areRd_len PP.out
  have E0 := Lib.hid (show ClassCounts_0 xs = [cnt xs 1 xs.length, cnt xs 2 xs.length, cnt xs 3 xs.length] from by unfold ClassCounts_0; rw [PP.out]; rfl)
  have E1 := Lib.hid (show ClassCounts_1 xs = true from by unfold ClassCounts_1; rw [PP.out])
  have hb1 := B1.out.size
  go_wp2_with (refine wpList_make_full _ rfl _ _ 43 rfl w.heap.size 3 i0 (.int .i64 0) 1 Tryz.underlying43 hi hz0 hz1 .i64 .i64 _ _ 3 rfl rfl rfl rfl (by rw [hz2]; omega) (by unfold maxLen; omega) hb1 ?_; intro w2 hown hgrow)
  have R0 : w2.ownsRow w.heap.size 3 1 (.slice (some ⟨w1.heap.size, 0, none⟩) 3 3) 3 (intCells [cnt xs 1 0, cnt xs 2 0, cnt xs 3 0]) := by rw [cnt_zero, cnt_zero, cnt_zero, ← made3]; exact hown
  have B2 := Lib.hid (Below.grown B1.out hgrow hb1 (fun k e => by cases e))
  have R0 := Lib.hid R0
  clear hown hgrow
  go_loopw [13] (fun i wr => ∃ k : Nat, k ≤ xs.length ∧ i = .int .i64 k ∧ wr.ownsRow w.heap.size 3 1 (.slice (some ⟨w1.heap.size, 0, none⟩) 3 3) 3 (intCells [cnt xs 1 k, cnt xs 2 k, cnt xs 3 k]) ∧ Below w.heap.size w wr) (fun i _ => xs.length - (intOf i).toNat)
  case atStart => exact ⟨0, Nat.zero_le _, rfl, R0.out, B2.out⟩
  case round =>
    obtain ⟨k, hk, rfl, hown, hbel⟩ := hrel
    have B := Lib.hid hbel
    by_cases hlt : k < xs.length
    · obtain ⟨s, hs⟩ : ∃ s, xs[k]? = some s := ⟨xs[k]'hlt, List.getElem?_eq_getElem _⟩
      obtain ⟨b, o, rfl, hbw, hat⟩ := (S.out.below hbel).at (by omega)
      obtain ⟨c0, c1, c2, c3, c4, _⟩ := hat k s hs
      have OKS := (rdOk_iff.1 (areRd_ok PP.out (List.mem_of_getElem? hs))).2.2.2.1
      have N1 := Lib.hid (cnt_succ 1 hs)
      have N2 := Lib.hid (cnt_succ 2 hs)
      have N3 := Lib.hid (cnt_succ 3 hs)
      have hi0 : (0 : Int) ≤ (k : Int) := by omega
      have hi1 : (k : Int) < (xs.length : Int) := by omega
      have hn1 := cnt_le xs 1 k
      have hn2 := cnt_le xs 2 k
      have hn3 := cnt_le xs 3 k
      have BX := Lib.hid (Below.then' B.out (bel_al1 wr (.cells #[.int .i64 s.Id, .string s.Name, .int .i64 s.Joined, .int .i64 s.Class, .int .i64 s.Fines] 25)))
      have O := Lib.hid (hown.alloc (.cells #[.int .i64 s.Id, .string s.Name, .int .i64 s.Joined, .int .i64 s.Class, .int .i64 s.Fines] 25))
      have f0 := O.out.frozenAt 0
      have f1 := O.out.frozenAt 1
      have f2 := O.out.frozenAt 2
      have d0 := O.out.cells (g := w1.heap.size) rfl 0 _ rfl
      have d1 := O.out.cells (g := w1.heap.size) rfl 1 _ rfl
      have d2 := O.out.cells (g := w1.heap.size) rfl 2 _ rfl
      rw [add_plain, Nat.zero_add] at d0 d1 d2
      generalize cnt xs 1 k = n1 at *
      generalize cnt xs 2 k = n2 at *
      generalize cnt xs 3 k = n3 at *
      generalize hcl1 : s.Class = cl at *
      have hsz := BX.out.size
      clear hs hat hbel S hown
      rcases (show cl = 1 ∨ cl = 2 ∨ cl = 3 by omega) with rfl | rfl | rfl
      · have T := O.out.stored 0 (.int .i64 (n1 + 1))
        go_wp2
        go_roundw
        case rel => exact ⟨k + 1, by omega, by go_num, by rw [N1.out, N2.out, N3.out, if_pos rfl, if_neg (by decide), if_neg (by decide)]; exact T.1, BX.out.grown T.2 hsz (fun j e => (O.out.lt j e).1)⟩
        case measure => simp [intOf]; omega
      · have T := O.out.stored 1 (.int .i64 (n2 + 1))
        go_wp2
        go_roundw
        case rel => exact ⟨k + 1, by omega, by go_num, by rw [N1.out, N2.out, N3.out, if_neg (by decide), if_pos rfl, if_neg (by decide)]; exact T.1, BX.out.grown T.2 hsz (fun j e => (O.out.lt j e).1)⟩
        case measure => simp [intOf]; omega
      · have T := O.out.stored 2 (.int .i64 (n3 + 1))
        go_wp2
        go_roundw
        case rel => exact ⟨k + 1, by omega, by go_num, by rw [N1.out, N2.out, N3.out, if_neg (by decide), if_neg (by decide), if_pos rfl]; exact T.1, BX.out.grown T.2 hsz (fun j e => (O.out.lt j e).1)⟩
        case measure => simp [intOf]; omega
    · obtain rfl : k = xs.length := by omega
      have O := Lib.hid hown
      clear hbel hown
      go_wp2
      go_ret2
      exact ⟨_, by rw [E1.out]; rfl, by rw [E0.out]; exact O.out, B.out⟩
end Go.Proofs.YtdpeidbifcbkkaaGreatDoor
namespace Go.Proofs.YtdpeidbifcbkkaaGreatDoor
open Go.RowKit

theorem cellsIntOf : Tryz.prog.cellsOf 3 = 1 := by kernel_rfl
/-- The table of the most sheets at home lies as the program's text has it. -/
def TabHome (w : World) : Prop := Lib.TabIs Tryz.prog w "loop.example/g01060/impl.homeByClass" .i64 [2, 5, 10]
end Go.Proofs.YtdpeidbifcbkkaaGreatDoor
namespace Go.Proofs.YtdpeidbifcbkkaaGreatDoor
open Go.RowKit

set_option maxHeartbeats 800000 in
theorem rBig_any (a : Option Addr) (len cap : Nat) (w : World) :
    Calls Tryz.prog 4 #[.slice a len cap] w fun e w' => e = .returned (.bool (decide (65536 < len))) ∧ w = w' := by
  by_cases h : 65536 < len
  · go_enter Tryz.func4, Tryz.ntmps4
    go_wp2
    go_ret
    exact ⟨ret_bool (by simp; omega), rfl⟩
  · go_enter Tryz.func4, Tryz.ntmps4
    go_wp2
    go_ret
    exact ⟨ret_bool (by simp; omega), rfl⟩
theorem bnn (q : Bool) : (q != q) = false := by cases q <;> rfl
set_option maxHeartbeats 1600000 in
set_option maxRecDepth 100000 in
theorem rInts_yes (a : Option Addr) (len cap : Nat) (a' : Option Addr) (len' cap' : Nat) (xs : List Int) (w : World) (h : IsInts w a len cap xs) (h' : IsInts w a' len' cap' xs) :
    Calls Tryz.prog 20 #[.slice a len cap, .slice a' len' cap'] w fun e w' => e = .returned (.bool true) ∧ Below w.heap.size w w' := by
  obtain rfl := h.1
  obtain rfl := h'.1
  have hm := h.2.2.1
  have hcl := h.2.1
  unfold maxLen at hm
  have S := Lib.hid h
  have S' := Lib.hid h'
  clear h h'
  go_enter Tryz.func20, Tryz.ntmps20
  go_wp2
  go_loopw [5] (fun i wr => ∃ k : Nat, k ≤ xs.length ∧ i = .int .i64 k ∧ Below w.heap.size w wr) (fun i _ => xs.length - (intOf i).toNat)
  case atStart => exact ⟨0, Nat.zero_le _, rfl, Below.refl _ _⟩
  case round =>
    obtain ⟨k, hk, rfl, hbel⟩ := hrel
    have B := Lib.hid hbel
    by_cases hlt : k < xs.length
    · obtain ⟨s, hs⟩ : ∃ s, xs[k]? = some s := ⟨xs[k]'hlt, List.getElem?_eq_getElem _⟩
      obtain ⟨b, o, rfl, hb, hat⟩ := (S.out.below hbel).at (by omega)
      obtain ⟨b', o', rfl, hb', hat'⟩ := (S'.out.below hbel).at (by omega)
      have c0 := hat k s hs
      have d0 := hat' k s hs
      have hi0 : (0 : Int) ≤ (k : Int) := by omega
      have hi1 : (k : Int) < (xs.length : Int) := by omega
      clear hbel hs hat hat'
      go_wp2
      go_quiet (fail)
      have B1 := Lib.hid (Below.then' B.out (bel_drawn wr nq))
      go_wp2
      go_roundw
      case rel => exact ⟨k + 1, by omega, by go_num, B1.out⟩
      case measure => simp [intOf]; omega
    · obtain rfl : k = xs.length := by omega
      clear hbel
      go_wp2
      go_ret
      exact ⟨rfl, B.out⟩
def hasB (x : Int) (xs : List Int) : Bool := xs.any fun y => y == x
theorem hasB_iff {x : Int} {xs : List Int} : hasB x xs = true ↔ x ∈ xs := by
  unfold hasB; rw [List.any_eq_true]
  constructor
  · rintro ⟨y, h1, h2⟩; rw [← (by simpa using h2 : y = x)]; exact h1
  · intro h; exact ⟨x, h, by simp⟩
end Go.Proofs.YtdpeidbifcbkkaaGreatDoor
namespace Go.Proofs.YtdpeidbifcbkkaaGreatDoor
open Go.RowKit

theorem areRd_up {xs : List VReader} (h : areRd xs = true) : upB VReader.ok VReader.Id xs = true := by unfold areRd rdUp at h; simp only [Bool.and_eq_true] at h; exact h.1
theorem rdFind_at {xs : List VReader} {i : Nat} {s : VReader} (h : areRd xs = true) (hs : xs[i]? = some s) : rdFind xs s.Id = (i : Int) := by
  unfold rdFind
  rw [if_pos h]
  exact upB_first (areRd_up h) hs
theorem rdSel_at {xs : List VReader} {i : Nat} {s : VReader} (h : areRd xs = true) (hs : xs[i]? = some s) : rdSel xs s.Id = some (i, s) := by
  unfold rdSel
  rw [rdFind_at h hs, if_pos (by omega), Int.toNat_natCast, hs]; rfl
theorem rd_same {xs : List VReader} (h : areRd xs = true) {i j : Nat} {s t : VReader} (hs : xs[i]? = some s) (ht : xs[j]? = some t) (e : s.Id = t.Id) : i = j := by
  have h1 := rdFind_at h hs
  have h2 := rdFind_at h ht
  rw [e, h2] at h1; omega
theorem join_may {xs : List VReader} {nm : ByteArray} {d : Int} (h : JoinReader_2 xs nm d = true) : MayTake_0 (JoinReader_0 xs nm d) (JoinReader_1 xs nm d) 0 = 2 ∧ MayTake_1 (JoinReader_0 xs nm d) (JoinReader_1 xs nm d) 0 = true := by
  unfold JoinReader_2 rdJoin at h
  unfold MayTake_0 MayTake_1 JoinReader_0 JoinReader_1 rdJoin
  split at h
  · rename_i hc
    rw [if_pos hc]
    simp only [Bool.and_eq_true] at hc
    have hs := rdSel_at (i := xs.length) (s := ⟨rdLast xs, nm, d, 1, 0⟩) hc.2 (by simp)
    unfold rdMay
    simp only at hs ⊢
    rw [hs]
    exact ⟨rfl, rfl⟩
  · cases h
theorem pay_all {l : List VReader} {x c : Int} (h : PayFines_2 l x c = true) : areRd l = true ∧ (1 ≤ c ∧ c ≤ 10000) ∧ (PayFines_0 l x c).length = l.length ∧ areRd (PayFines_0 l x c) = true ∧ (0 ≤ PayFines_1 l x c ∧ PayFines_1 l x c ≤ 10000) ∧
    ∀ (i : Nat) s p, l[i]? = some s → (PayFines_0 l x c)[i]? = some p → s.Id = x → s.Fines - p.Fines + PayFines_1 l x c = c := by
  unfold PayFines_2 rdPay at h
  unfold PayFines_0 PayFines_1 rdPay
  rcases rdSel_ways l x with ⟨_, h2⟩ | ⟨i0, s0, ha, _, hs0, hi0, hid0, h2⟩
  · rw [h2] at h; cases h
  · rw [h2] at h ⊢
    simp only at h ⊢
    cases hq : centsB c with
    | false => rw [hq] at h; simp at h
    | true =>
      rw [hq] at h
      simp only [if_true] at h ⊢
      have hc := inB_iff.1 hq
      obtain ⟨_, _, _, _, f0, f1⟩ := rdOk_iff.1 (areRd_ok ha (List.mem_of_getElem? hs0))
      unfold rdWith at h ⊢
      cases hw : areRd (l.set i0 ⟨s0.Id, s0.Name, s0.Joined, s0.Class, s0.Fines - min c s0.Fines⟩) with
      | false => rw [hw] at h; simp at h
      | true =>
        simp only [if_true]
        refine ⟨ha, hc, List.length_set, hw, by omega, fun i s p hs hp hx => ?_⟩
        obtain rfl := rd_same ha hs hs0 (by rw [hx, hid0])
        have e0 : s = s0 := Option.some.inj (hs.symm.trans hs0)
        subst e0
        rw [List.getElem?_set_self (by simpa using hi0)] at hp
        cases hp
        show s.Fines - (s.Fines - min c s.Fines) + (c - min c s.Fines) = c
        omega
theorem raise_iff (m : List VReader) (y d : Int) : RaiseClass_1 m y d = (RipeReaders_1 m d && hasB y (RipeReaders_0 m d)) := by
  unfold RaiseClass_1 RipeReaders_1 RipeReaders_0 rdRaise
  cases ha : areRd m with
  | false =>
    have h2 : rdSel m y = none := by
      rcases rdSel_ways m y with ⟨_, h2⟩ | ⟨_, _, h1, _⟩
      · exact h2
      · rw [ha] at h1; cases h1
    rw [h2]; rfl
  | true =>
    cases hd : dayB d with
    | false =>
      rcases rdSel_ways m y with ⟨_, h2⟩ | ⟨i, s, _, _, _, _, _, h2⟩
      · rw [h2]; rfl
      · rw [h2]; rfl
    | true =>
      simp only [Bool.and_self, Bool.true_and, if_true]
      rcases rdSel_ways m y with ⟨h1, h2⟩ | ⟨i, s, _, h1, hs, hi, hid, h2⟩
      · rw [h2]
        simp only
        symm
        rw [← Bool.not_eq_true, hasB_iff]
        intro hm
        obtain ⟨t, ht, e⟩ := List.mem_map.1 hm
        obtain ⟨j, hj⟩ := List.getElem?_of_mem (List.mem_filter.1 ht).1
        have := rdFind_at ha hj
        rw [e, h1] at this; omega
      · rw [h2]
        simp only
        cases hr : ripeB s d with
        | false =>
          simp only [Bool.false_eq_true, if_false]
          symm
          rw [← Bool.not_eq_true, hasB_iff]
          intro hm
          obtain ⟨t, ht, e⟩ := List.mem_map.1 hm
          obtain ⟨t1, t2⟩ := List.mem_filter.1 ht
          obtain ⟨j, hj⟩ := List.getElem?_of_mem t1
          obtain rfl := rd_same ha hj hs (by rw [e, hid])
          rw [hj] at hs; cases hs
          rw [hr] at t2; cases t2
        | true =>
          simp only [if_true]
          have hcl3 : s.Class < 3 := by have h := hr; unfold ripeB at h; simp at h; exact h.1
          obtain ⟨a1, a2, a3, ⟨g0, g1⟩, a5⟩ := rdOk_iff.1 (areRd_ok ha (List.mem_of_getElem? hs))
          have OK2 : (⟨s.Id, s.Name, s.Joined, s.Class + 1, s.Fines⟩ : VReader).ok = true := rdOk_iff.2 ⟨a1, a2, a3, by show 1 ≤ s.Class + 1 ∧ s.Class + 1 ≤ 3; omega, a5⟩
          have h3 : (areRd (m.set i ⟨s.Id, s.Name, s.Joined, s.Class + 1, s.Fines⟩)) = true := by
            unfold areRd rdUp
            rw [upB_set (r := ⟨s.Id, s.Name, s.Joined, s.Class + 1, s.Fines⟩) (areRd_up ha) hs rfl, OK2, List.length_set, decide_eq_true (areRd_len ha)]; rfl
          unfold rdWith
          rw [if_pos h3]
          symm
          show hasB y _ = true
          rw [hasB_iff]
          exact List.mem_map.2 ⟨s, List.mem_filter.2 ⟨List.mem_of_getElem? hs, hr⟩, hid⟩
end Go.Proofs.YtdpeidbifcbkkaaGreatDoor
