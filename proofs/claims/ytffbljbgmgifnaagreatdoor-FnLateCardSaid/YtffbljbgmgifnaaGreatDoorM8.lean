/- Texts in one: SortI, OpenLoansP, LateOnP, Loi6, FineOnP, Loi7, WhoHasP, DaysLentP. -/
import Derived.Test.YtffbljbgmgifnaaGreatDoorShelf
import Derived.Test.YtffbljbgmgifnaaGreatDoorM2
import Derived.Sort.OwnSortedInts
import Derived.Test.YtffbljbgmgifnaaGreatDoorM3
import Derived.Test.YtffbljbgmgifnaaGreatDoorM7
import Derived.RangeFuncNested
import Derived.RangeFuncBound
import Derived.RangeFuncCalls
import Derived.RangeFuncLeaves
import Derived.RangeFuncBox
import Derived.Shelf.Abstract
import Derived.Shelf.RegionOpen
import Derived.WalkKit
import Derived.OwnWalkIn
import Derived.TacticsInMore
import Derived.LoopNIn
import Derived.LoopIn
namespace Go.Proofs.YtffbljbgmgifnaaGreatDoor
open Go.RowKit Go.Sort

/-- The numbers, sorted, in the same row. -/
def SortedOwn (base : Nat) (v : Value) (zs : List Int) (w : World) (e : Ending) (w' : World) : Prop :=
  e = .returned (.tuple #[]) ∧ w'.ownsRow base 3 1 v zs.length (intCells (zs.mergeSort fun x y => decide (x ≤ y))) ∧ ∀ (B : Nat) (w0 : World), Below B w0 w → B ≤ base → B ≤ w.heap.size → Below B w0 w'
theorem sortI_any (base : Nat) (v : Value) (zs : List Int) (w : World) (h : w.ownsRow base 3 1 v zs.length (intCells zs)) (hl : zs.length < 4611686018427387904) :
    Calls Tryz.prog 70 #[v] w (SortedOwn base v zs w) := by
  rcases h.2 with ⟨rfl, h0⟩ | ⟨g, cap, cur, rfl, hbase, hb, h1, h2, h3, h4⟩
  · obtain rfl : zs = [] := List.length_eq_zero_iff.1 h0
    refine (Tryz.slices_Sort_int_none none 0 w).mono ?_
    rintro e w' ⟨rfl, rfl⟩
    exact ⟨rfl, by simpa using h, fun B w0 hb _ _ => hb⟩
  · have hg : g < w.heap.size := (Array.getElem?_eq_some_iff.1 hb).1
    refine (Tryz.slices_Sort_int g 0 cap zs w (holds_of_blockI hb (by simpa [intCells] using h4)) hg hl).mono ?_
    rintro e w' ⟨rfl, n, os, rfl⟩
    refine ⟨rfl, ?_, fun B w0 hb' hB hBw => hb'.grown (grownBy_sortedI _) hBw (fun k e => by cases e; omega)⟩
    exact ownsRow_sortedI (by simp) hbase hb h1 h2 h3
end Go.Proofs.YtffbljbgmgifnaaGreatDoor
namespace Go.Proofs.YtffbljbgmgifnaaGreatDoor
open Go.RowKit
def OpenLoans_Post (z0 : List VLoan) (z1 : Int) (z2 : Int) (w : World) (e : Ending) (w' : World) : Prop :=
  ∃ v0 : Value, e = .returned (.tuple #[v0, .bool (OpenLoans_1 z0 z1 z2)]) ∧ w'.ownsRow w.heap.size 3 1 v0 (OpenLoans_0 z0 z1 z2).length (intCells (OpenLoans_0 z0 z1 z2)) ∧ Below w.heap.size w w'
end Go.Proofs.YtffbljbgmgifnaaGreatDoor
namespace Go.Proofs.YtffbljbgmgifnaaGreatDoor
open Go.RowKit
def LateOn_Post (z0 : List VLoan) (z1 : Int) (w : World) (e : Ending) (w' : World) : Prop :=
  ∃ v0 : Value, e = .returned (.tuple #[v0, .bool (LateOn_1 z0 z1)]) ∧ w'.ownsRow w.heap.size 3 1 v0 (LateOn_0 z0 z1).length (intCells (LateOn_0 z0 z1)) ∧ Below w.heap.size w w'
end Go.Proofs.YtffbljbgmgifnaaGreatDoor
namespace Go.Proofs.YtffbljbgmgifnaaGreatDoor
open Go.RowKit

theorem sheetOf_any (s : VLoan) (w : World) : Calls Tryz.prog 69 #[.agg #[.int .i64 s.Sheet, .int .i64 s.Reader, .int .i64 s.Out, .int .i64 s.Due, .int .i64 s.Back]] w fun e w' => e = .returned (.int .i64 s.Sheet) ∧ Below w.heap.size w w' := by
  go_enter Tryz.func69, Tryz.ntmps69
  go_wp2
  go_ret
  exact ⟨rfl, bel_al1 _ _⟩
def WherePost (xs : List VLoan) (d : Int) (f : VLoan → Bool) (w : World) (e : Ending) (w' : World) : Prop :=
  ∃ v, e = .returned (.tuple #[v, .bool (areLo xs && dayB d)]) ∧ w'.ownsRow w.heap.size 3 1 v (if (areLo xs && dayB d) = true then sheetsOf f xs else []).length (intCells (if (areLo xs && dayB d) = true then sheetsOf f xs else [])) ∧ Below w.heap.size w w'
theorem nil_int (w : World) (base : Nat) : w.ownsRow base 3 1 (.slice none 0 0) ([] : List Int).length (intCells []) := ⟨by simp [intCells], .inl ⟨rfl, rfl⟩⟩
set_option maxHeartbeats 6400000 in
set_option maxRecDepth 100000 in
theorem sheetsWhere_any (K : FuncId) (caps : Array Value) (f : VLoan → Bool) (a : Option Addr) (len cap : Nat) (xs : List VLoan) (d : Int) (w : World) (h : IsLoanS w a len cap xs)
    (hcall : ∀ args W, (callFunc K args).run Tryz.prog W = .ok (.enter K args) W)
    (hf : ∀ (W : World) (s : VLoan), s ∈ xs → Below w.heap.size w W → Calls Tryz.prog K (#[.agg #[.int .i64 s.Sheet, .int .i64 s.Reader, .int .i64 s.Out, .int .i64 s.Due, .int .i64 s.Back]] ++ caps) W fun e w' => e = .returned (.bool (f s)) ∧ Below W.heap.size W w')
    (hop : ∀ l ∈ xs, f l = true → openOn d l = true) :
    Calls Tryz.prog 29 #[.slice a len cap, .int .i64 d, .func (.func K) #[] caps] w (WherePost xs d f w) := by
  obtain rfl := h.1
  have S := Lib.hid h
  have F := Lib.hid hf
  have HC := Lib.hid hcall
  have OP := Lib.hid hop
  clear h hf hcall hop
  obtain ⟨q1, h1⟩ : ∃ q, areLo xs = q := ⟨_, rfl⟩
  obtain ⟨q2, h2⟩ : ∃ q, dayB d = q := ⟨_, rfl⟩
  have PST := Lib.hid (show WherePost xs d f w = fun e w' => ∃ v, e = .returned (.tuple #[v, .bool (q1 && q2)]) ∧ w'.ownsRow w.heap.size 3 1 v (if (q1 && q2) = true then sheetsOf f xs else []).length (intCells (if (q1 && q2) = true then sheetsOf f xs else [])) ∧ Below w.heap.size w w' from by unfold WherePost; rw [h1, h2])
  have H1 := Lib.hid h1
  have H2 := Lib.hid h2
  clear h1 h2
  go_enter Tryz.func29, Tryz.ntmps29
  go_wp2_with fail
  refine (areLoans_any _ _ _ xs _ S.out).mono ?_
  rintro e w1 ⟨rfl, hb⟩
  rw [H1.out]
  have B1 := Lib.hid hb
  have S1 := Lib.hid (S.out.below hb)
  clear hb
  cases q1
  · go_wp2
    go_ret2
    rw [PST.out]
    exact ⟨_, rfl, nil_int _ _, B1.out⟩
  go_wp2_with fail
  refine (isDay_any _ _).mono ?_
  rintro e w2 ⟨rfl, hb⟩
  rw [H2.out]
  have B2 := Lib.hid (Below.then' B1.out hb)
  have S2 := Lib.hid (S1.out.below hb)
  clear hb
  cases q2
  · go_wp2
    go_ret2
    rw [PST.out]
    exact ⟨_, rfl, nil_int _ _, B2.out⟩
  have L15 := areLo_len H1.out
  have SO := Lib.hid (sheets_sorted H1.out OP.out)
  have ZL : ((xs.filter f).map VLoan.Sheet).length ≤ 15 := by
    rw [List.length_map]
    have := List.length_filter_le f xs
    omega
  go_wp2_with fail
  refine (idsWhereLoan_any 69 K VLoan.Sheet caps f _ _ _ xs _ S2.out (by omega) (enters_fn' Tryz.func69 (by kernel_rfl) (by kernel_rfl)) HC.out (fun W s => sheetOf_any s W) (fun W s hs hW => F.out W s hs (Below.then' B2.out hW))).mono ?_
  rintro e w3 ⟨v, rfl, hown, hb⟩
  have B3 := Lib.hid (Below.then' B2.out hb)
  have O3 := Lib.hid (ownsRow_base hown B2.out.size)
  obtain ⟨Z, hZ⟩ : ∃ Z, (xs.filter f).map VLoan.Sheet = Z := ⟨_, rfl⟩
  rw [hZ] at O3 SO ZL
  clear hown hb hZ
  go_wp2_with fail
  refine (sortI_any w.heap.size v Z _ O3.out (by omega)).mono ?_
  rintro e w4 ⟨rfl, hown4, hB4⟩
  have B4 := Lib.hid (hB4 w.heap.size w B3.out (Nat.le_refl _) B3.out.size)
  rw [SO.out] at hown4
  have LE : Z.length = (sheetsOf f xs).length := by rw [← SO.out]; simp
  rw [LE] at hown4
  have O4 := Lib.hid hown4
  clear hown4 hB4 LE
  go_wp2
  go_ret2
  rw [PST.out]
  exact ⟨_, rfl, O4.out, B4.out⟩
set_option maxHeartbeats 1600000 in
set_option maxRecDepth 100000 in
theorem openLoans1_any (s : VLoan) (r d : Int) (b1 b2 : Nat) (w : World) (h1 : w.cell? ⟨b1, 0, none⟩ = some (.int .i64 r)) (h2 : w.cell? ⟨b2, 0, none⟩ = some (.int .i64 d)) :
    Calls Tryz.prog 63 #[.agg #[.int .i64 s.Sheet, .int .i64 s.Reader, .int .i64 s.Out, .int .i64 s.Due, .int .i64 s.Back], .pointer (some ⟨b1, 0, none⟩), .pointer (some ⟨b2, 0, none⟩)] w fun e w' => e = .returned (.bool (s.Reader == r && openOn d s)) ∧ Below w.heap.size w w' := by
  have B0 := Lib.hid (bel_al1 w (.cells #[.int .i64 s.Sheet, .int .i64 s.Reader, .int .i64 s.Out, .int .i64 s.Due, .int .i64 s.Back] 43))
  have l1 := World.lt_of_cell h1
  have l2 := World.lt_of_cell h2
  have n1 : ¬ b1 = w.heap.size := by omega
  have n2 : ¬ b2 = w.heap.size := by omega
  obtain ⟨q, hq⟩ : ∃ q, openOn d s = q := ⟨_, rfl⟩
  have Q := Lib.hid hq
  clear hq
  by_cases e : s.Reader = r
  · have s1 : (s.Reader == r) = true := by simp [e]
    have S1 := Lib.hid s1
    clear e
    go_enter Tryz.func63, Tryz.ntmps63
    go_wp2_with fail
    refine (isOpen_any s d _).mono ?_
    rintro e w2 ⟨rfl, hb⟩
    rw [Q.out]
    have B2 := Lib.hid (Below.then' B0.out hb)
    clear hb h1 h2
    go_wp2
    go_ret
    exact ⟨ret_bool (by rw [S1.out, Q.out]; rfl), B2.out⟩
  · have s1 : (s.Reader == r) = false := by simp [e]
    have S1 := Lib.hid s1
    clear e
    go_enter Tryz.func63, Tryz.ntmps63
    go_wp2
    go_ret
    exact ⟨ret_bool (by rw [S1.out]; rfl), B0.out⟩
set_option maxHeartbeats 1600000 in
set_option maxRecDepth 100000 in
theorem lateOn1_any (s : VLoan) (d : Int) (b1 : Nat) (w : World) (h1 : w.cell? ⟨b1, 0, none⟩ = some (.int .i64 d)) :
    Calls Tryz.prog 30 #[.agg #[.int .i64 s.Sheet, .int .i64 s.Reader, .int .i64 s.Out, .int .i64 s.Due, .int .i64 s.Back], .pointer (some ⟨b1, 0, none⟩)] w fun e w' => e = .returned (.bool (lateOn d s)) ∧ Below w.heap.size w w' := by
  have B0 := Lib.hid (bel_al1 w (.cells #[.int .i64 s.Sheet, .int .i64 s.Reader, .int .i64 s.Out, .int .i64 s.Due, .int .i64 s.Back] 43))
  have l1 := World.lt_of_cell h1
  have n1 : ¬ b1 = w.heap.size := by omega
  go_enter Tryz.func30, Tryz.ntmps30
  go_wp2_with fail
  refine (isLate_any s d _).mono ?_
  rintro e w2 ⟨rfl, hb⟩
  have B2 := Lib.hid (Below.then' B0.out hb)
  clear hb h1
  go_wp2
  go_ret
  exact ⟨rfl, B2.out⟩
set_option maxHeartbeats 6400000 in
set_option maxRecDepth 100000 in
theorem implOpenLoans_any (a : Option Addr) (len cap : Nat) (xs : List VLoan) (r d : Int) (w : World) (h : IsLoanS w a len cap xs) (_ : xs.length ≤ 1048576) :
    Calls Tryz.prog 25 #[.slice a len cap, .int .i64 r, .int .i64 d] w (OpenLoans_Post xs r d w) := by
  have b1 := wh_al1 w (.cells #[.int .i64 r] 3)
  have b2 := Below.then' b1 (wh_al1 (w.alloc (.cells #[.int .i64 r] 3)) (.cells #[.int .i64 d] 3))
  have S := Lib.hid (h.below b2)
  have C1 := Lib.hid (cell_stay' (cell_box' w (.int .i64 r) 3 _ rfl) (wh_al1 (w.alloc (.cells #[.int .i64 r] 3)) (.cells #[.int .i64 d] 3)))
  have C2 := Lib.hid (cell_box' (w.alloc (.cells #[.int .i64 r] 3)) (.int .i64 d) 3 (w.heap.size + 1) (by simp))
  have B0 := Lib.hid b2
  clear h b1 b2
  obtain ⟨q2, h2⟩ : ∃ q, idB r = q := ⟨_, rfl⟩
  have E1 := Lib.hid (show OpenLoans_1 xs r d = (q2 && (areLo xs && dayB d)) from by unfold OpenLoans_1; rw [h2]; cases q2 <;> cases areLo xs <;> simp)
  have E0 := Lib.hid (show OpenLoans_0 xs r d = if (q2 && (areLo xs && dayB d)) = true then sheetsOf (fun l => l.Reader == r && openOn d l) xs else [] from by unfold OpenLoans_0; rw [E1.out])
  have H2 := Lib.hid h2
  clear h2
  go_enter Tryz.func25, Tryz.ntmps25
  go_wp2_with fail
  refine (isLoanId_any _ _).mono ?_
  rintro e w2 ⟨rfl, hb⟩
  rw [H2.out]
  have B2 := Lib.hid (Below.then' B0.out hb)
  have S2 := Lib.hid (S.out.below hb)
  have D1 := Lib.hid (cell_stay' C1.out hb)
  have D2 := Lib.hid (cell_stay' C2.out hb)
  have d1 := D1.out
  have d2 := D2.out
  clear hb
  cases q2
  · go_wp2
    go_ret2
    exact ⟨_, by rw [E1.out]; rfl, by rw [E0.out]; exact nil_int _ _, B2.out⟩
  go_wp2_with fail
  refine (sheetsWhere_any 63 #[.pointer (some ⟨w.heap.size, 0, none⟩), .pointer (some ⟨w.heap.size + 1, 0, none⟩)] (fun l => l.Reader == r && openOn d l) _ _ _ xs d _ S2.out (enters_fn' Tryz.func63 (by kernel_rfl) (by kernel_rfl)) (fun W s _ hW => by
    have h1 := openLoans1_any s r d w.heap.size (w.heap.size + 1) W (cell_stay' D1.out hW) (cell_stay' D2.out hW)
    simpa using h1) (fun l _ hl => by simp only [Bool.and_eq_true] at hl; exact hl.2)).mono ?_
  rintro e w3 ⟨v, rfl, hown, hb⟩
  have B3 := Lib.hid (Below.then' B2.out hb)
  have O3 := Lib.hid (ownsRow_base hown B2.out.size)
  clear hown hb d1 d2
  go_wp2
  go_ret2
  exact ⟨_, by rw [E1.out, Bool.true_and]; rfl, by rw [E0.out, Bool.true_and]; exact O3.out, B3.out⟩
set_option maxHeartbeats 6400000 in
set_option maxRecDepth 100000 in
theorem implLateOn_any (a : Option Addr) (len cap : Nat) (xs : List VLoan) (d : Int) (w : World) (h : IsLoanS w a len cap xs) (_ : xs.length ≤ 1048576) :
    Calls Tryz.prog 6 #[.slice a len cap, .int .i64 d] w (LateOn_Post xs d w) := by
  have b1 := wh_al1 w (.cells #[.int .i64 d] 3)
  have S := Lib.hid (h.below b1)
  have C1 := Lib.hid (cell_box' w (.int .i64 d) 3 _ rfl)
  have B0 := Lib.hid b1
  clear h b1
  have E1 := Lib.hid (show LateOn_1 xs d = (areLo xs && dayB d) from rfl)
  have E0 := Lib.hid (show LateOn_0 xs d = if (areLo xs && dayB d) = true then sheetsOf (lateOn d) xs else [] from rfl)
  have d1 := C1.out
  go_enter Tryz.func6, Tryz.ntmps6
  go_wp2_with fail
  refine (sheetsWhere_any 30 #[.pointer (some ⟨w.heap.size, 0, none⟩)] (lateOn d) _ _ _ xs d _ S.out (enters_fn' Tryz.func30 (by kernel_rfl) (by kernel_rfl)) (fun W s _ hW => by
    have h1 := lateOn1_any s d w.heap.size W (cell_stay' C1.out hW)
    simpa using h1) (fun l _ hl => by unfold lateOn at hl; simp only [Bool.and_eq_true] at hl; exact hl.1)).mono ?_
  rintro e w3 ⟨v, rfl, hown, hb⟩
  have B3 := Lib.hid (Below.then' B0.out hb)
  have O3 := Lib.hid (ownsRow_base hown B0.out.size)
  clear hown hb d1
  go_wp2
  go_ret2
  exact ⟨_, by rw [E1.out]; rfl, by rw [E0.out]; exact O3.out, B3.out⟩
end Go.Proofs.YtffbljbgmgifnaaGreatDoor
namespace Go.Proofs.YtffbljbgmgifnaaGreatDoor
open Go.RowKit
def FineOn_Post (z0 : List VLoan) (z1 : Int) (z2 : Int) (w : World) (e : Ending) (w' : World) : Prop :=
  e = .returned (.tuple #[.int .i64 (FineOn_0 z0 z1 z2), .bool (FineOn_1 z0 z1 z2)]) ∧ Below w.heap.size w w'
end Go.Proofs.YtffbljbgmgifnaaGreatDoor
namespace Go.Proofs.YtffbljbgmgifnaaGreatDoor
open Go.RowKit Go.Shelf
attribute [local go_sem] Oper.semAt_some

/-- What a round keeps: all below a block, and the block that the iterator has captured. -/
def KeepsL (n b : Nat) (W W' : World) : Prop := Below n W W' ∧ W'.heap[b]? = W.heap[b]?
theorem KeepsL.trans {n b : Nat} {A B C : World} (h : KeepsL n b A B) (k : KeepsL n b B C) : KeepsL n b A C := ⟨h.1.trans k.1, k.2.trans h.2⟩
theorem KeepsL.put {n b : Nat} {w : World} (h1 : b < w.heap.size) (h2 : n ≤ w.heap.size) (W : World) (l : Nat) (o o' : Obj) (hl : w.heap.size ≤ l) (hW : W.heap[l]? = some o) (hc : o.isCells = false) (hk : o.isWalk = false) : KeepsL n b W (W.putObj l o') :=
  ⟨belowK_b h2 W l o o' hl hW hc hk, World.putObj_heap_other (by omega)⟩
/-- A round's values: a place in the list and the loan there, a valid one. -/
abbrev LentX := { x : Int × VLoan // x.2.ok = true }
def encL (x : LentX) : Array Value := #[.int .i64 x.1.1, .agg #[.int .i64 x.1.2.Sheet, .int .i64 x.1.2.Reader, .int .i64 x.1.2.Out, .int .i64 x.1.2.Due, .int .i64 x.1.2.Back]]
set_option maxRecDepth 100000 in
set_option maxHeartbeats 2000000 in
/-- The iterator's contract: for every loop body that keeps what it reads, the turns come from the last to the first. -/
theorem backL_stops (n : Nat) (hn : 1 ≤ n) (bc : Nat) (a : Option Addr) (len cap : Nat) (xs : List VLoan) (w2 w : World) (hS : IsLoanS w2 a len cap xs) (hok : ∀ t ∈ xs, t.ok = true)
    (hw : Below w2.heap.size w2 w) (hc : w.cell? ⟨bc, 0, none⟩ = some (.slice a len cap)) (hbc : bc < w.heap.size) :
    SeqStopsK Fence.wide n Tryz.prog 77 #[.pointer (some ⟨bc, 0, none⟩)] encL (KeepsL w2.heap.size bc) (fun ys => ys.map (·.1.2) = xs.reverse) (fun ys => ∃ k, ys.map (·.1.2) = (xs.drop k).reverse) xs.length w := fun l J Jx W hW hJ hJx hY h0 => by
  have hc' : W.cell? ⟨bc, 0, none⟩ = some (.slice a len cap) := (hW.cell (p := ⟨bc, 0, none⟩) hbc).trans hc
  have hbel : Below w2.heap.size w2 W := hw.trans (hW.mono hw.size)
  have hm := hS.2.2.1
  have hcl := hS.2.1
  have L := Lib.hid hS.1
  unfold maxLen at hm
  clear hc
  have v0 : IntKind.i64.wrap ((len : Int) - 1) = (len : Int) - 1 := IntWalk.i64_in _ (by omega)
  refine callsIn_of_wp Tryz.func77 rfl trivial ?_ rfl
  simp only [Tryz.ntmps77, List.size_toArray, List.length_cons, List.length_nil, Nat.reduceAdd, Nat.reduceSub, Array.replicate_succ, Array.replicate_zero, List.push_toArray, List.append_toArray, List.nil_append, List.cons_append]
  gi_wp2
  gi_loopw [3] (fun i wr => ∃ (k : Nat) (pre : List LentX), k ≤ len ∧ i = .int .i64 ((k : Int) - 1) ∧ pre.map (·.1.2) = (xs.drop k).reverse ∧ J pre wr ∧ Below w2.heap.size w2 wr ∧ wr.cell? ⟨bc, 0, none⟩ = some (.slice a len cap)) (fun i _ => (intOf i + 1).toNat)
  case atStart => exact ⟨len, [], Nat.le_refl _, rfl, by rw [List.drop_of_length_le (by have := L.out; omega)]; rfl, h0, hbel, hc'⟩
  case round =>
    obtain ⟨k, pre, hk, rfl, hpre, hJs, hbw, d1⟩ := hrel
    have S := Lib.hid hpre
    have JS := Lib.hid hJs
    have BW := Lib.hid hbw
    clear hJs hpre hbel hc' v0
    by_cases hk0 : k = 0
    · subst hk0
      gi_wp2
      go_end0
      exact ⟨⟨_, rfl⟩, .inl ⟨_, by have := S.out; simpa using this, JS.out⟩⟩
    · obtain ⟨j, rfl⟩ : ∃ j, k = j + 1 := ⟨k - 1, by omega⟩
      have e1 : ((j + 1 : Nat) : Int) - 1 = (j : Int) := by omega
      rw [e1]
      have hjx : j < xs.length := by have := L.out; omega
      obtain ⟨t, ht⟩ : ∃ t, xs[j]? = some t := ⟨xs[j], List.getElem?_eq_getElem _⟩
      obtain ⟨b, o, rfl, hb, hat⟩ := (hS.below hbw).at (by omega)
      obtain ⟨c0, c1, c2, c3, c4⟩ := hat j t ht
      have hi0 : (0 : Int) ≤ (j : Int) := by omega
      have hi1 : (j : Int) < (len : Int) := by omega
      have hok1 := hok t (List.mem_of_getElem? ht)
      have hlen : pre.length < xs.length := by
        have := congrArg List.length S.out
        rw [List.length_map, List.length_reverse, List.length_drop] at this
        omega
      have NX := Lib.hid (show (pre ++ [(⟨((j : Int), t), hok1⟩ : LentX)]).map (·.1.2) = (xs.drop j).reverse by
        rw [List.map_append, S.out, List.drop_eq_getElem_cons hjx, List.reverse_cons]
        have : xs[j] = t := by rw [List.getElem?_eq_getElem hjx] at ht; exact Option.some.inj ht
        rw [this]; rfl)
      obtain ⟨fn, tmps, assign, body, hy, hR⟩ := hY pre ⟨((j : Int), t), hok1⟩ wr JS.out hlen
      unfold encL at hy
      dsimp only at hy
      clear hat ht hbw
      gi_wp2
      refine hR.mono ?_
      rintro e W3 (⟨rfl, hJ3, hk3⟩ | ⟨rfl, hJx3⟩)
      · have d3 : W3.cell? ⟨bc, 0, none⟩ = some (.slice (some ⟨b, o, none⟩) len cap) := by rw [World.cell?_of_block (w := wr) (a := ⟨bc, 0, none⟩) hk3.2]; exact d1
        have B3 := Lib.hid (BW.out.trans hk3.1)
        have v1 : IntKind.i64.wrap ((j : Int) - 1) = (j : Int) - 1 := IntWalk.i64_in _ (by omega)
        clear hk3
        gi_wp2
        go_roundw
        case rel => exact ⟨j, pre ++ [⟨((j : Int), t), hok1⟩], by omega, by first | rfl | go_num, NX.out, hJ3, B3.out, d3⟩
        case measure => first | (simp [intOf]; done) | (simp [intOf]; omega)
      · gi_wp2
        refine bodyPost_ret (results_none rfl _ _ _) rfl ?_
        exact ⟨⟨_, rfl⟩, .inr ⟨_, ⟨j, NX.out⟩, hJx3⟩⟩

theorem backwardL_in (n : Nat) (a : Option Addr) (len cap : Nat) (w : World) :
    CallsIn Fence.wide n Tryz.prog 48 #[.slice a len cap] w fun e w' => e = .returned (.func (.func 77) #[] #[.pointer (some ⟨w.heap.size, 0, none⟩)]) ∧ w' = w.alloc (.cells #[.slice a len cap] 24) := by
  refine callsIn_wide.2 ?_
  go_enter Tryz.func48, Tryz.ntmps48
  go_wp2
  go_ret
  exact ⟨rfl, rfl⟩


theorem HBLoan.own {b : Nat} {s : VLoan} {A B : World} {row : Option Nat} (h : HBLoan A b s) (hg : A.grownBy B row) (hr : ∀ r, row = some r → ∃ o : Obj, A.heap[r]? = some o ∧ o.isCells = false) : HBLoan B b s :=
  h.grown hg (fun e => by obtain ⟨o, ho, hc⟩ := hr b e.symm; rw [show A.heap[b]? = _ from h] at ho; cases ho; cases hc)
/-- A block of one cell. -/
def OneIn (w : World) (b : Nat) (v : Value) (t : TypeId) : Prop := w.heap[b]? = some (.cells #[v] t (0, 0))
theorem OneIn.cell {w : World} {b : Nat} {v : Value} {t : TypeId} (h : OneIn w b v t) : w.cell? ⟨b, 0, none⟩ = some v := by simp [World.cell?, show w.heap[b]? = _ from h]
theorem OneIn.free {w : World} {b : Nat} {v : Value} {t : TypeId} (h : OneIn w b v t) : w.frozen? ⟨b, 0, none⟩ = false := by simp [World.frozen?, show w.heap[b]? = _ from h]
theorem OneIn.lt {w : World} {b : Nat} {v : Value} {t : TypeId} (h : OneIn w b v t) : b < w.heap.size := (Array.getElem?_eq_some_iff.1 h).1
theorem OneIn.below {w w' : World} {b : Nat} {v : Value} {t : TypeId} (h : OneIn w b v t) (hb : Below w.heap.size w w') : OneIn w' b v t := (hb.block b h.lt).trans h
theorem OneIn.own {b : Nat} {v : Value} {t : TypeId} {A B : World} {row : Option Nat} (h : OneIn A b v t) (hg : A.grownBy B row) (hr : ∀ r, row = some r → ∃ o : Obj, A.heap[r]? = some o ∧ o.isCells = false) : OneIn B b v t :=
  (hg.block b h.lt (fun e => by obtain ⟨o, ho, hc⟩ := hr b e.symm; rw [show A.heap[b]? = _ from h] at ho; cases ho; cases hc)).trans h
theorem OneIn.new (w : World) (v : Value) (t : TypeId) (B : Nat) (hB : w.heap.size = B) : OneIn (w.alloc (.cells #[v] t)) B v t := hB ▸ heap_alloc_new w _
theorem OneIn.alloc {w : World} {b : Nat} {v : Value} {t : TypeId} (h : OneIn w b v t) (o : Obj) : OneIn (w.alloc o) b v t := (Below.heap_alloc w o b h.lt).trans h
theorem OneIn.set {w : World} {b : Nat} {v : Value} {t : TypeId} (h : OneIn w b v t) (u : Value) : OneIn (w.setCell ⟨b, 0, none⟩ u) b u t := heap_setCell_same w b 0 _ _ _ h
theorem OneIn.other {w : World} {b b' j : Nat} {v : Value} {t : TypeId} (h : OneIn w b v t) (hne : b ≠ b') (u : Value) : OneIn (w.setCell ⟨b', j, none⟩ u) b v t := (heap_setCell_other w ⟨b', j, none⟩ b u hne).trans h
theorem OneIn.put {w : World} {b D : Nat} {v : Value} {t : TypeId} {o : Obj} (h : OneIn w b v t) (hne : b ≠ D) : OneIn (w.putObj D o) b v t := (World.putObj_heap_other hne).trans h
theorem keeps_below {W w1 : World} (h : Below W.heap.size W w1) : KeepsOthers W w1 := ⟨h.size, fun k _ hk _ => (h.block k (Array.getElem?_eq_some_iff.1 hk).1).trans hk⟩
theorem results_ib {fn : Func} {tm : Array Value} {a a' b b' : Nat} {w : World} {n : Int} {q : Bool} (hf : fn.results = #[.cell a 3, .cell a' 4]) (ha : tm.getD a undef = .pointer (some ⟨b, 0, none⟩)) (ha' : tm.getD a' undef = .pointer (some ⟨b', 0, none⟩)) (h : OneIn w b (.int .i64 n) 3) (h' : OneIn w b' (.bool q) 4) :
    (results fn tm).run Tryz.prog w = .ok (.tuple #[.int .i64 n, .bool q]) w := by
  have h0 := h.cell
  have h1 := h'.cell
  simp only [Array.getD_eq_getD_getElem?] at ha ha'
  simp [results, hf, ha, ha', go_sem, h0, h1]
/-- The last loan of the sheet, out of what the rounds have shown. -/
theorem last_none {xs : List VLoan} {sh : Int} (h : ∀ l ∈ xs, ¬ l.Sheet = sh) : lastL sh xs = -1 := by
  induction xs with
  | nil => rfl
  | cons y t ih =>
    unfold lastL
    rw [ih fun l hl => h l (List.mem_cons_of_mem _ hl), if_pos (by omega), if_neg (h y (by simp))]
theorem last_drop {xs ys : List VLoan} {sh : Int} {z : VLoan} {k : Nat} (hd : xs.drop k = z :: ys) (hz : z.Sheet = sh) (hn : ∀ l ∈ ys, ¬ l.Sheet = sh) : lastL sh xs = (k : Int) ∧ loAt xs k = z := by
  have hk : k < xs.length := by
    have := congrArg List.length hd
    rw [List.length_drop, List.length_cons] at this; omega
  refine ⟨?_, loAt_some (by have := congrArg (·[0]?) hd; simpa using this)⟩
  have key : ∀ (a : List VLoan), lastL sh (a ++ z :: ys) = (a.length : Int) := by
    intro a
    induction a with
    | nil =>
      show lastL sh (z :: ys) = 0
      unfold lastL
      rw [last_none hn, if_pos (by omega), if_pos hz]
    | cons y t ih =>
      rw [List.cons_append]
      unfold lastL
      rw [ih, if_neg (by omega), List.length_cons]; omega
  have := key (xs.take k)
  rw [← hd, List.take_append_drop, List.length_take, Nat.min_eq_left (by omega)] at this
  exact this
def StopX (n : Nat) (sh d : Int) (w : World) (c : Code) (pre : List LentX) (W : World) : Prop :=
  c = .ret ∧ ∃ (p : List LentX) (z : LentX), pre = p ++ [z] ∧ (∀ y ∈ p, ¬ y.1.2.Sheet = sh) ∧ z.1.2.Sheet = sh ∧ OneIn W (n + 2) (.int .i64 (fineL z.1.2 d)) 3 ∧ OneIn W (n + 3) (.bool true) 4 ∧ Below n w W
theorem fine_stop {xs : List VLoan} {sh d : Int} {pre : List LentX} {p : List LentX} {z : LentX} (ha : areLo xs = true) (hd : dayB d = true) (hs : ∃ k, pre.map (·.1.2) = (xs.drop k).reverse) (hp : pre = p ++ [z]) (hn : ∀ y ∈ p, ¬ y.1.2.Sheet = sh) (hz : z.1.2.Sheet = sh) : FineOn_1 xs sh d = true ∧ FineOn_0 xs sh d = fineL z.1.2 d := by
  obtain ⟨k, hk⟩ := hs
  rw [hp, List.map_append] at hk
  have hk2 := congrArg List.reverse hk
  rw [List.reverse_reverse, List.reverse_append] at hk2
  have hk3 : xs.drop k = z.1.2 :: (p.map (·.1.2)).reverse := by simpa using hk2.symm
  have hl := last_drop (xs := xs) (k := k) (z := z.1.2) (ys := (p.map (·.1.2)).reverse) (sh := sh) hk3 hz (fun l hl => by
    rw [List.mem_reverse, List.mem_map] at hl
    obtain ⟨y, hy, rfl⟩ := hl
    exact hn y hy)
  have e1 : FineOn_1 xs sh d = true := by unfold FineOn_1; rw [ha, hd, hl.1, decide_eq_true (by omega : (0 : Int) ≤ (k : Int))]; rfl
  refine ⟨e1, ?_⟩
  unfold FineOn_0
  rw [e1, if_pos rfl, hl.1, Int.toNat_natCast, hl.2]
theorem fine_done {xs : List VLoan} {sh d : Int} {pre : List LentX} (hs : pre.map (·.1.2) = xs.reverse) (hn : ∀ y ∈ pre, ¬ y.1.2.Sheet = sh) : FineOn_1 xs sh d = false ∧ FineOn_0 xs sh d = 0 := by
  have hl : lastL sh xs = -1 := last_none fun l hl => by
    have : l ∈ xs.reverse := List.mem_reverse.2 hl
    rw [← hs, List.mem_map] at this
    obtain ⟨y, hy, rfl⟩ := this
    exact hn y hy
  have e1 : FineOn_1 xs sh d = false := by unfold FineOn_1; rw [hl]; simp
  refine ⟨e1, ?_⟩
  unfold FineOn_0; rw [e1]; rfl
set_option maxRecDepth 100000 in
set_option maxHeartbeats 4000000 in
theorem implFineOn_yes (a : Option Addr) (len cap : Nat) (xs : List VLoan) (sh d : Int) (w : World) (h : IsLoanS w a len cap xs) (hc : areLo xs = true) (hp : dayB d = true) :
    CallsIn Fence.wide 3 Tryz.prog 14 #[.slice a len cap, .int .i64 sh, .int .i64 d] w (FineOn_Post xs sh d w) := by
  have S := Lib.hid h
  clear h
  have C := Lib.hid hc
  have P := Lib.hid hp
  clear hc hp
  refine callsIn_of_wp_marks Tryz.func14 rfl trivial ?_ rfl
  simp only [Tryz.ntmps14, List.size_toArray, List.length_cons, List.length_nil, Nat.reduceAdd, Nat.reduceSub, Array.replicate_succ, Array.replicate_zero, List.push_toArray, List.append_toArray, List.nil_append, List.cons_append]
  obtain ⟨w0, hw0⟩ : ∃ w0, (((w.alloc (.cells #[.int .i64 sh] 3)).alloc (.cells #[.int .i64 d] 3)).alloc (.cells #[.int .i64 0] 3)).alloc (.cells #[.bool false] 4) = w0 := ⟨_, rfl⟩
  have A0 := Lib.hid (show OneIn w0 w.heap.size (.int .i64 sh) 3 from by rw [← hw0]; exact (((OneIn.new w _ _ _ rfl).alloc _).alloc _).alloc _)
  have A1 := Lib.hid (show OneIn w0 (w.heap.size + 1) (.int .i64 d) 3 from by rw [← hw0]; exact ((OneIn.new (w.alloc _) _ _ _ (by simp)).alloc _).alloc _)
  have A2 := Lib.hid (show OneIn w0 (w.heap.size + 1 + 1) (.int .i64 0) 3 from by rw [← hw0]; exact (OneIn.new ((w.alloc _).alloc _) _ _ _ (by simp)).alloc _)
  have A3 := Lib.hid (show OneIn w0 (w.heap.size + 1 + 1 + 1) (.bool false) 4 from by rw [← hw0]; exact OneIn.new (((w.alloc _).alloc _).alloc _) _ _ _ (by simp))
  have B0 := Lib.hid (show Below w.heap.size w w0 from by rw [← hw0]; exact Below.then' (bel_al2 w _ _) (bel_al2 _ _ _))
  gi_wp2_with (refine ⟨trivial, ?_⟩; first
    | (gi_at_call 36; refine (callsIn_wide.2 (areLoans_any _ _ _ xs _ (S.out.below B0.out))).mono ?_; rintro e w1 ⟨rfl, hb1⟩; rw [C.out]; have D0 := Lib.hid (A0.out.below hb1); have D1 := Lib.hid (A1.out.below hb1); have D2 := Lib.hid (A2.out.below hb1); have D3 := Lib.hid (A3.out.below hb1); have B1 := Lib.hid (Below.then' B0.out hb1); have dc := D1.out.cell; clear hb1)
    | (gi_at_call 38; refine (callsIn_wide.2 (isDay_any d _)).mono ?_; rintro e w2 ⟨rfl, hb2⟩; rw [P.out]; have E0 := Lib.hid (D0.out.below hb2); have E1 := Lib.hid (D1.out.below hb2); have E2 := Lib.hid (D2.out.below hb2); have E3 := Lib.hid (D3.out.below hb2); have B2 := Lib.hid (Below.then' B1.out hb2); clear hb2 dc)
    | (gi_at_call 48; refine (backwardL_in _ _ _ _ _).mono ?_; rintro e w3 ⟨rfl, rfl⟩))
  obtain ⟨W0, hW0⟩ : ∃ W0, w2.alloc (.cells #[.slice a len cap] 24) = W0 := ⟨_, rfl⟩
  have q0 : W0.heap.size = w2.heap.size + 1 := by rw [← hW0]; simp
  have q2 : W0.cell? ⟨w2.heap.size, 0, none⟩ = some (.slice a len cap) := by rw [← hW0]; simp
  have q4 : Below w2.heap.size w2 W0 := by rw [← hW0]; exact bel_al1 _ _
  have F0 := Lib.hid (E0.out.below q4)
  have F1 := Lib.hid (E1.out.below q4)
  have F2 := Lib.hid (E2.out.below q4)
  have F3 := Lib.hid (E3.out.below q4)
  have BW := Lib.hid (Below.then' B2.out q4)
  have q5 := B2.out.size
  have g3 := F3.out.lt
  rw [hW0]
  clear hW0 hw0
  refine wpIn_rangeFunc_ownH rfl (by omega) (gf := 77) (lb := #[.pointer (some ⟨w2.heap.size, 0, none⟩)]) rfl trivial (enters_of Tryz.func77 (by kernel_rfl) rfl)
    (backL_stops 2 (by omega) w2.heap.size a len cap xs w2 W0 (S.out.below B2.out) (fun t ht => areLo_ok C.out ht) q4 q2 (by omega)) KeepsL.trans (KeepsL.put (by omega) (by omega)) (Below.refl _ _) (fun _ => rfl)
    (fun pre W => (∀ y ∈ pre, ¬ y.1.2.Sheet = sh) ∧ Below W0.heap.size W0 W)
    (StopX w.heap.size sh d w)
    (OwnFrom.and (fun _ _ _ _ hs _ _ => hs) (ownFrom_below (Nat.le_refl _) (Nat.le_refl _)))
    (fun c s A B row hs hg hr => by
      obtain ⟨h1, p, z, h2, h3, h4, h5, h6, h7⟩ := hs
      exact ⟨h1, p, z, h2, h3, h4, h5.own hg (fun r e => (hr r e).2), h6.own hg (fun r e => (hr r e).2), h7.grown hg h7.size (fun k e => by have := (hr k e).1; omega)⟩)
    ⟨fun y hy => by simp at hy, Below.refl _ _⟩
    (fun z a' W => ∃ Bx, W0.heap.size ≤ Bx ∧ HBLoan W Bx z.1.2 ∧ a' = { tmps := #[.slice a len cap, .int .i64 sh, .int .i64 d, undef, .pointer (some ⟨w.heap.size, 0, none⟩), .pointer (some ⟨w.heap.size + 1, 0, none⟩), .pointer (some ⟨w.heap.size + 1 + 1, 0, none⟩), .pointer (some ⟨w.heap.size + 1 + 1 + 1, 0, none⟩), undef, .pointer (some ⟨Bx, 0, none⟩), .slice a len cap, .bool true, .bool false, .bool false, .int .i64 d, .bool true, .bool false, .bool false, .slice a len cap, .func (.func 77) #[] #[.pointer (some ⟨w2.heap.size, 0, none⟩)], .int .i64 z.1.1, .agg #[.int .i64 z.1.2.Sheet, .int .i64 z.1.2.Reader, .int .i64 z.1.2.Out, .int .i64 z.1.2.Due, .int .i64 z.1.2.Back], undef, undef, undef, undef, undef, undef, undef], defers := [] })
    (fun z a' _ X Y row hs hg hr => by obtain ⟨Bx, h1, h2, h3⟩ := hs; exact ⟨Bx, h1, HBLoan.own h2 hg (fun r e => (hr r e).2), h3⟩)
    ?assign ?body ?done ?stop
  case assign =>
    rintro l pre z W K ⟨hn, hB⟩ hK
    have hsz := hB.size
    unfold encL
    gi_wp2
    exact hK _ _ ((KeepsOthers.alloc _ _).from _) ⟨(Below.refl _ W).alloc (by omega) _, Below.heap_alloc _ _ _ (by omega)⟩ ⟨hn, hB.alloc hsz _⟩ ⟨W.heap.size, hsz, HBLoan.new W z.1.2 _ rfl, rfl⟩
  case body =>
    rintro l pre z a' W hl ⟨r, hr⟩ ⟨hn, hB⟩ ⟨Bx, hBx, bX, rfl⟩ hlt
    clear hr
    obtain ⟨c0, c1, c2, c3, c4⟩ := bX.cells
    have G0 := (F0.out.below hB).cell
    have G1 := Lib.hid (F1.out.below hB)
    have G2 := Lib.hid (F2.out.below hB)
    have G3 := Lib.hid (F3.out.below hB)
    have NN := Lib.hid hn
    have HBT := Lib.hid hB
    have hsz := hB.size
    clear hn hB
    by_cases hz : z.1.2.Sheet = sh
    · have z1 : (z.1.2.Sheet == sh) = true := by simp [hz]
      have HZ := Lib.hid hz
      have g1 := G1.out.cell
      have OKZ := Lib.hid z.2
      clear hz
      gi_wp2_with (refine ⟨trivial, ?_⟩; gi_at_call 49; refine (CallsIn.inRound l (callsIn_wide.2 (fineBy_any z.1.2 d _ OKZ.out P.out))).mono ?_; rintro e w4 ⟨rfl, hb4⟩; have H2 := Lib.hid (G2.out.below hb4); have H3 := Lib.hid (G3.out.below hb4); have h2 := H2.out.free; have h3 := H3.out.free; have i2 := H2.out.cell; have i3 := H3.out.cell; have H4 := Lib.hid hb4; clear hb4)
      have hs4 := H4.out.size
      have W6 := (H2.out.set (.int .i64 (fineL z.1.2 d))).other (b' := w.heap.size + 1 + 1 + 1) (j := 0) (by omega) (.bool true)
      have W7 := (H3.out.other (b' := w.heap.size + 1 + 1) (j := 0) (by omega) (.int .i64 (fineL z.1.2 d))).set (.bool true)
      refine ⟨?_, rfl, pre, z, rfl, NN.out, HZ.out, W6, W7, ?_⟩
      · exact (((keeps_below H4.out).trans (KeepsOthers.setCell _ _ _)).trans (KeepsOthers.setCell _ _ _)).from _
      · exact ((((BW.out.trans (HBT.out.mono (by omega))).trans (H4.out.mono (by omega))).setCell (p := ⟨w.heap.size + 1 + 1, 0, none⟩) (by simp; omega) _).setCell (p := ⟨w.heap.size + 1 + 1 + 1, 0, none⟩) (by simp; omega) _)
    · have z1 : (z.1.2.Sheet == sh) = false := by simp [hz]
      have HZ := Lib.hid hz
      clear hz
      gi_wp2
      exact ⟨KeepsFrom.refl _ _, ⟨Below.refl _ _, rfl⟩, fun y hy => (List.mem_append.1 hy).elim (NN.out y) (fun e => by rw [List.mem_singleton.1 e]; exact HZ.out), HBT.out⟩
  case done =>
    rintro D ys W hD hys ⟨hn, hB⟩ hK
    have E := Lib.hid (fine_done (d := d) hys hn)
    have G2 := Lib.hid (F2.out.below hB)
    have G3 := Lib.hid (F3.out.below hB)
    have f2 := G2.out.free
    have f3 := G3.out.free
    have i2 := G2.out.cell
    have i3 := G3.out.cell
    have HBT := Lib.hid hB
    have HK := Lib.hid hK
    clear hn hB hK hys
    gi_wp2
    have W6 := (G2.out.set (.int .i64 0)).other (b' := w.heap.size + 1 + 1 + 1) (j := 0) (by omega) (.bool false)
    have W7 := (G3.out.other (b' := w.heap.size + 1 + 1) (j := 0) (by omega) (.int .i64 0)).set (.bool false)
    obtain ⟨W5, hW5⟩ : ∃ W5, (W.setCell ⟨w.heap.size + 1 + 1, 0, none⟩ (.int .i64 0)).setCell ⟨w.heap.size + 1 + 1 + 1, 0, none⟩ (.bool false) = W5 := ⟨_, rfl⟩
    have hK5 : W5.heap[D]? = some (.deferred (some [])) := by
      rw [← hW5, heap_setCell_other _ ⟨w.heap.size + 1 + 1 + 1, 0, none⟩ D _ (by simp; omega), heap_setCell_other _ ⟨w.heap.size + 1 + 1, 0, none⟩ D _ (by simp; omega)]
      exact HK.out
    have hB5 : Below w.heap.size w W5 := by
      rw [← hW5]
      exact ((BW.out.trans (HBT.out.mono (by omega))).setCell (p := ⟨w.heap.size + 1 + 1, 0, none⟩) (by simp; omega) _).setCell (p := ⟨w.heap.size + 1 + 1 + 1, 0, none⟩) (by simp; omega) _
    rw [hW5] at W6 W7 ⊢
    clear hW5
    refine ⟨by simp, .inl ⟨_, _, rfl, run_takeDeferred hK5, ?_⟩⟩
    exact ⟨_, results_ib rfl rfl rfl (W6.put (by omega)) (W7.put (by omega)), by rw [E.out.1, E.out.2], hB5.trans (belowK_b (w := w) (Nat.le_refl _) W5 D _ _ (by omega) hK5 rfl rfl)⟩
  case stop =>
    rintro D c pre W hD hsp ⟨rfl, p, z, hp, hn, hz, h6, h7, hB⟩ hK
    have E := Lib.hid (fine_stop C.out P.out hsp hp hn hz)
    have H6 := Lib.hid h6
    have H7 := Lib.hid h7
    have HBT := Lib.hid hB
    have HK := Lib.hid hK
    clear hsp hp hn hz h6 h7 hB hK
    gi_wp2
    refine ⟨by simp, .inl ⟨_, _, rfl, run_takeDeferred HK.out, ?_⟩⟩
    exact ⟨_, results_ib rfl rfl rfl (H6.out.put (by omega)) (H7.out.put (by omega)), by rw [E.out.1, E.out.2], HBT.out.trans (belowK_b (w := w) (Nat.le_refl _) W D _ _ (by omega) HK.out rfl rfl)⟩
set_option maxHeartbeats 3200000 in
set_option maxRecDepth 100000 in
theorem implFineOn_any (a : Option Addr) (len cap : Nat) (xs : List VLoan) (sh d : Int) (w : World) (h : IsLoanS w a len cap xs) (_ : xs.length ≤ 1048576) :
    Calls Tryz.prog 14 #[.slice a len cap, .int .i64 sh, .int .i64 d] w (FineOn_Post xs sh d w) := by
  obtain ⟨c, hc⟩ : ∃ c, areLo xs = c := ⟨_, rfl⟩
  obtain ⟨p, hp⟩ : ∃ p, dayB d = p := ⟨_, rfl⟩
  by_cases hy : (c && p) = true
  · have hyy : c = true ∧ p = true := by simpa using hy
    obtain ⟨rfl, rfl⟩ := hyy
    exact callsIn_wide.1 (implFineOn_yes a len cap xs sh d w h hc hp)
  have E1 := Lib.hid (show FineOn_1 xs sh d = false from by
    unfold FineOn_1; rw [hc, hp, ← Bool.and_assoc]
    cases c <;> cases p <;> first | rfl | exact absurd rfl hy)
  have E0 := Lib.hid (show FineOn_0 xs sh d = 0 from by unfold FineOn_0; rw [E1.out]; rfl)
  have S := Lib.hid h
  have C := Lib.hid hc
  have P := Lib.hid hp
  have NY := Lib.hid hy
  clear h hc hp hy
  obtain ⟨w0, hw0⟩ : ∃ w0, (((w.alloc (.cells #[.int .i64 sh] 3)).alloc (.cells #[.int .i64 d] 3)).alloc (.cells #[.int .i64 0] 3)).alloc (.cells #[.bool false] 4) = w0 := ⟨_, rfl⟩
  have A1 := Lib.hid (show OneIn w0 (w.heap.size + 1) (.int .i64 d) 3 from by rw [← hw0]; exact ((OneIn.new (w.alloc _) _ _ _ (by simp)).alloc _).alloc _)
  have A2 := Lib.hid (show OneIn w0 (w.heap.size + 1 + 1) (.int .i64 0) 3 from by rw [← hw0]; exact (OneIn.new ((w.alloc _).alloc _) _ _ _ (by simp)).alloc _)
  have A3 := Lib.hid (show OneIn w0 (w.heap.size + 1 + 1 + 1) (.bool false) 4 from by rw [← hw0]; exact OneIn.new (((w.alloc _).alloc _).alloc _) _ _ _ (by simp))
  have B0 := Lib.hid (show Below w.heap.size w w0 from by rw [← hw0]; exact Below.then' (bel_al2 w _ _) (bel_al2 _ _ _))
  go_enter Tryz.func14, Tryz.ntmps14
  go_wp2_with fail
  refine (areLoans_any _ _ _ xs _ (S.out.below B0.out)).mono ?_
  rintro e w1 ⟨rfl, hb⟩
  rw [C.out]
  have B1 := Lib.hid (Below.then' B0.out hb)
  have D1 := Lib.hid (A1.out.below hb)
  have D2 := Lib.hid (A2.out.below hb)
  have D3 := Lib.hid (A3.out.below hb)
  clear hb hw0
  cases c
  · have f2 := D2.out.free
    have f3 := D3.out.free
    have i2 := D2.out.cell
    have i3 := D3.out.cell
    go_wp2
    have W6 := (D2.out.set (.int .i64 0)).other (b' := w.heap.size + 1 + 1 + 1) (j := 0) (by omega) (.bool false)
    have W7 := (D3.out.other (b' := w.heap.size + 1 + 1) (j := 0) (by omega) (.int .i64 0)).set (.bool false)
    refine bodyPost_ret (results_ib rfl rfl rfl W6 W7) rfl ⟨by rw [E0.out, E1.out], ?_⟩
    exact (B1.out.setCell (p := ⟨w.heap.size + 1 + 1, 0, none⟩) (by simp; omega) _).setCell (p := ⟨w.heap.size + 1 + 1 + 1, 0, none⟩) (by simp; omega) _
  have dc := D1.out.cell
  go_wp2_with fail
  refine (isDay_any d _).mono ?_
  rintro e w2 ⟨rfl, hb⟩
  rw [P.out]
  have B2 := Lib.hid (Below.then' B1.out hb)
  have E2 := Lib.hid (D2.out.below hb)
  have E3 := Lib.hid (D3.out.below hb)
  clear hb dc
  cases p
  · have f2 := E2.out.free
    have f3 := E3.out.free
    have i2 := E2.out.cell
    have i3 := E3.out.cell
    go_wp2
    have W6 := (E2.out.set (.int .i64 0)).other (b' := w.heap.size + 1 + 1 + 1) (j := 0) (by omega) (.bool false)
    have W7 := (E3.out.other (b' := w.heap.size + 1 + 1) (j := 0) (by omega) (.int .i64 0)).set (.bool false)
    refine bodyPost_ret (results_ib rfl rfl rfl W6 W7) rfl ⟨by rw [E0.out, E1.out], ?_⟩
    exact (B2.out.setCell (p := ⟨w.heap.size + 1 + 1, 0, none⟩) (by simp; omega) _).setCell (p := ⟨w.heap.size + 1 + 1 + 1, 0, none⟩) (by simp; omega) _
  exact absurd rfl NY.out
end Go.Proofs.YtffbljbgmgifnaaGreatDoor
namespace Go.Proofs.YtffbljbgmgifnaaGreatDoor
open Go.RowKit
def WhoHas_Post (z0 : List VLoan) (z1 : Int) (z2 : Int) (w : World) (e : Ending) (w' : World) : Prop :=
  e = .returned (.tuple #[.int .i64 (WhoHas_0 z0 z1 z2), .bool (WhoHas_1 z0 z1 z2)]) ∧ Below w.heap.size w w'
end Go.Proofs.YtffbljbgmgifnaaGreatDoor
namespace Go.Proofs.YtffbljbgmgifnaaGreatDoor
open Go.RowKit
def DaysLent_Post (z0 : List VLoan) (z1 : Int) (z2 : Int) (w : World) (e : Ending) (w' : World) : Prop :=
  e = .returned (.tuple #[.int .i64 (DaysLent_0 z0 z1 z2), .bool (DaysLent_1 z0 z1 z2)]) ∧ Below w.heap.size w w'
end Go.Proofs.YtffbljbgmgifnaaGreatDoor
