/- Texts in one: Draw0, DrawB, LoanR, LoDr, Rd2, AreLoansP, Los, Los2. -/
import Derived.Test.YtffbljbgmgifnaaM3
import Derived.Test.YtffbljbgmgifnaaM1
import Derived.Deep.RegionHeld3
import Derived.Deep.DeepCutAuto
import Derived.Test.YtffbljbgmgifnaaM2
import Derived.Lib.QuietBelow
namespace Go.Proofs.Ytffbljbgmgifnaa
open Go.RowKit

/-- The code as the law holds it: some bytes of the world as it came in. -/
def CodeIn (w : World) (a : Option Addr) (len cap : Nat) : Prop :=
  len ≤ cap ∧ cap ≤ maxLen ∧ (len = 0 ∨ ∃ b o, a = some ⟨b, o, none⟩ ∧ b < w.heap.size ∧ ∀ i, i < len → ∃ c : Int, 0 ≤ c ∧ c ≤ 255 ∧ w.cell? ⟨b, o + i, none⟩ = some (.int .u8 c))
theorem u8_wf {n : Int} (h : (Lit.int .u8 n).wf = true) : 0 ≤ n ∧ n ≤ 255 := by
  simp [Lit.wf] at h
  have e0 : IntKind.u8.min = 0 := by decide
  have e1 : IntKind.u8.max = 255 := by decide
  omega
theorem CodeIn.of_row {w : World} {a : Option Addr} {len cap : Nat} {zs : List Int} (h : IsRow .u8 w a len cap zs) : CodeIn w a len cap := by
  rcases h with ⟨rfl, rfl, rfl, rfl⟩ | ⟨x, rfl, h1, h2, h3, h4, h5⟩
  · exact ⟨by omega, by simp, .inl rfl⟩
  · refine ⟨h1, h2, ?_⟩
    by_cases h0 : len = 0
    · exact .inl h0
    obtain ⟨b, o, spot⟩ := x
    have k1 := h4 0 (by omega)
    have hspot : spot = none := by simpa [Addr.add] using World.cell?_spot k1
    subst hspot
    refine .inr ⟨b, o, rfl, ?_, fun i hi => ?_⟩
    · have : w.cell? ⟨b, o, none⟩ ≠ none := by
        have := k1
        simp [Addr.add] at this
        rw [this]; simp
      by_cases hb : b < w.heap.size
      · exact hb
      · exfalso; apply this; simp [World.cell?, Array.getElem?_eq_none (Nat.le_of_not_lt hb)]
    · have hc := h4 i (by omega)
      rw [add_plain] at hc
      have hw := h5 (zs.getD i 0) (by
        have hi' : i < zs.length := by omega
        rw [List.getD_eq_getElem?_getD, List.getElem?_eq_getElem hi']
        exact List.getElem_mem hi')
      obtain ⟨b0, b1⟩ := u8_wf hw
      exact ⟨zs.getD i 0, b0, b1, hc⟩
theorem CodeIn.below {w w' : World} {a : Option Addr} {len cap : Nat} (h : CodeIn w a len cap) (hb : Below w.heap.size w w') : CodeIn w' a len cap := by
  refine ⟨h.1, h.2.1, ?_⟩
  rcases h.2.2 with h0 | ⟨b, o, rfl, h1, h2⟩
  · exact .inl h0
  · refine .inr ⟨b, o, rfl, Nat.lt_of_lt_of_le h1 hb.size, fun i hi => ?_⟩
    obtain ⟨c, c0, c1, hc⟩ := h2 i hi
    exact ⟨c, c0, c1, (hb.cell (p := ⟨b, o + i, none⟩) h1).trans hc⟩
theorem CodeIn.at {w w' : World} {a : Option Addr} {len cap : Nat} (h : CodeIn w a len cap) (hb : Below w.heap.size w w') : CodeAt w' a len cap w.heap.size := by
  refine ⟨h.1, h.2.1, ?_⟩
  rcases (h.below hb).2.2 with h0 | ⟨b, o, rfl, h1, h2⟩
  · exact .inl h0
  · by_cases h0 : len = 0
    · exact .inl h0
    refine .inr ⟨b, o, rfl, h1, ?_, h2⟩
    rcases h.2.2 with h00 | ⟨b', o', e, h1', _⟩
    · omega
    · cases e; omega
theorem bel_alloc (w : World) (o : Obj) : Below w.heap.size w (w.alloc o) := (Below.refl _ _).alloc (Nat.le_refl _) o
theorem lits_of (w : World) (C : Array Value) (T : TypeId) (m n : Nat) (hn : C.size = n) (hC : ∀ v ∈ C.toList, ∃ x : ByteArray, x.size ≤ m ∧ v = .string x) : ∀ i, i < n → ∃ x : ByteArray, x.size ≤ m ∧ (w.alloc (.cells C T)).cell? ⟨w.heap.size, 0 + i, none⟩ = some (.string x) := by
  subst hn
  intro i hi
  obtain ⟨x, hx, e⟩ := hC C[i] (by simp)
  refine ⟨x, hx, ?_⟩
  rw [World.cell?_alloc_new, Nat.zero_add, Array.getElem?_eq_getElem hi, e]
theorem CurAt.alloc {w : World} {bc : Nat} {a : Option Addr} {len cap t : Nat} (h : CurAt w bc a len cap t) (o : Obj) : CurAt (w.alloc o) bc a len cap t := h.heap (Below.heap_alloc w o bc h.lt)
theorem CodeAt.alloc {w : World} {bc : Nat} {a : Option Addr} {len cap : Nat} (h : CodeAt w a len cap bc) (o : Obj) : CodeAt (w.alloc o) a len cap bc := h.grown (grown_below (bel_alloc w o) _)

theorem below_cur {w w0 w' : World} {row : Option Nat} (hb : Below w.heap.size w w0) (hr : row = some w.heap.size) (hg : w0.grownBy w' row) : Below w.heap.size w w' := hb.grown hg hb.size (fun k e => by rw [hr] at e; cases e; exact Nat.le_refl _)
theorem cur_new (w : World) (a : Option Addr) (len cap : Nat) : CurAt (w.alloc (.cells #[.slice a len cap, .int .i64 0, .int .u64 0] 75)) w.heap.size a len cap 0 := ⟨0, 0, Nat.le_refl _, by omega, by omega, by
  show (w.heap.push _)[w.heap.size]? = _
  simp⟩
end Go.Proofs.Ytffbljbgmgifnaa
namespace Go.Proofs.Ytffbljbgmgifnaa
open Go.RowKit

theorem ints_at (w : World) (C : Array Value) (T : TypeId) (lo hi : Int) (n B : Nat) (hB : w.heap.size = B) (hn : C.size = n) (hC : ∀ v ∈ C.toList, ∃ x : Int, lo ≤ x ∧ x ≤ hi ∧ v = .int .i64 x) : ∀ i, i < n → ∃ x : Int, lo ≤ x ∧ x ≤ hi ∧ (w.alloc (.cells C T)).cell? ⟨B, 0 + i, none⟩ = some (.int .i64 x) := by
  subst hn hB
  intro i hi'
  obtain ⟨x, h1, h2, e⟩ := hC C[i] (by simp)
  refine ⟨x, h1, h2, ?_⟩
  rw [World.cell?_alloc_new, Nat.zero_add, Array.getElem?_eq_getElem hi', e]
theorem strs_at (w : World) (C : Array Value) (T : TypeId) (m n B : Nat) (hB : w.heap.size = B) (hn : C.size = n) (hC : ∀ v ∈ C.toList, ∃ x : ByteArray, x.size ≤ m ∧ v = .string x) : ∀ i, i < n → ∃ x : ByteArray, x.size ≤ m ∧ (w.alloc (.cells C T)).cell? ⟨B, 0 + i, none⟩ = some (.string x) := by
  subst hn hB
  intro i hi'
  obtain ⟨x, h1, e⟩ := hC C[i] (by simp)
  refine ⟨x, h1, ?_⟩
  rw [World.cell?_alloc_new, Nat.zero_add, Array.getElem?_eq_getElem hi', e]
theorem CurAt.grown {w w' : World} {bc : Nat} {a : Option Addr} {len cap t : Nat} {row : Option Nat} (h : CurAt w bc a len cap t) (hg : w.grownBy w' row) (hne : some bc ≠ row) : CurAt w' bc a len cap t := h.heap (hg.block bc h.lt hne)
theorem grow_st {w w' : World} {row : Option Nat} (h : w.grownBy w' row) {p : Addr} (hp : w.heap.size ≤ p.block) (v : Value) : w.grownBy (w'.setCell p v) row :=
  ⟨h.os, h.tape, h.output, by rw [World.size_setCell]; exact h.size, fun k hk hr => (heap_setCell_other w' p k v (by omega)).trans (h.block k hk hr)⟩
theorem grow_al {w w' : World} {row : Option Nat} (h : w.grownBy w' row) (o : Obj) : w.grownBy (w'.alloc o) row := grown_trans h (grown_below ((Below.refl _ _).alloc (Nat.le_refl _) o) row)
theorem grown_own0 {w w1 w2 : World} {r row : Option Nat} (h : w.grownBy w1 r) (k : w1.grownBy w2 row) (hr : ∀ j, row = some j → w.heap.size ≤ j) : w.grownBy w2 r :=
  ⟨k.os.trans h.os, k.tape.trans h.tape, k.output.trans h.output, Nat.le_trans h.size k.size, fun j hj hne => (k.block j (Nat.lt_of_lt_of_le hj h.size) (fun e => by have := hr j e.symm; omega)).trans (h.block j hj hne)⟩
theorem pick_anyI (bc : Nat) (a : Option Addr) (len cap t : Nat) (n : Int) (w : World) (hc : CurAt w bc a len cap t) (hd : CodeAt w a len cap bc) (ht : t ≤ 900000) (hn0 : 1 ≤ n) (hn : n ≤ 65536) :
    Calls Try.prog 88 #[.pointer (some ⟨bc, 0, none⟩), .int .i64 n] w (PickPost bc a len cap (t + 2) n w) := by
  obtain ⟨m, rfl⟩ := Int.eq_ofNat_of_zero_le (show 0 ≤ n by omega)
  exact pick_any bc a len cap t m w hc hd ht (by omega) (by omega)
end Go.Proofs.Ytffbljbgmgifnaa
namespace Go.Proofs.Ytffbljbgmgifnaa
open Go.RowKit
theorem resultsLoan1 {fn : Func} {tm : Array Value} {a b : Nat} {w : World} {s : VLoan} (hf : fn.results = #[.cell a 101]) (ha : tm.getD a undef = .pointer (some ⟨b, 0, none⟩)) (h : HBLoan w b s) :
    (results fn tm).run Try.prog w = .ok (.agg #[.int .i64 s.Sheet, .int .i64 s.Reader, .int .i64 s.Out, .int .i64 s.Due, .int .i64 s.Back]) w := by
  obtain ⟨h0, h1, h2, h3, h4⟩ := h.cells
  simp only [Array.getD_eq_getD_getElem?] at ha
  simp [results, hf, ha, go_sem, h0, h1, h2, h3, h4]
theorem resultsLoan2 {fn : Func} {tm : Array Value} {a b c : Nat} {w : World} {s : VLoan} {v : Value} (hf : fn.results = #[.cell a 101, .tmp c]) (ha : tm.getD a undef = .pointer (some ⟨b, 0, none⟩)) (hc : tm.getD c undef = v) (h : HBLoan w b s) :
    (results fn tm).run Try.prog w = .ok (.tuple #[.agg #[.int .i64 s.Sheet, .int .i64 s.Reader, .int .i64 s.Out, .int .i64 s.Due, .int .i64 s.Back], v]) w := by
  obtain ⟨h0, h1, h2, h3, h4⟩ := h.cells
  simp only [Array.getD_eq_getD_getElem?] at ha hc
  simp [results, hf, ha, hc, go_sem, h0, h1, h2, h3, h4]
end Go.Proofs.Ytffbljbgmgifnaa
namespace Go.Proofs.Ytffbljbgmgifnaa
open Go.RowKit Go.Deep
/-- Numbers of no great size. -/
def LoanBd (s : VLoan) : Prop := (-3000 ≤ s.Sheet ∧ s.Sheet ≤ 20000) ∧ (-3000 ≤ s.Reader ∧ s.Reader ≤ 20000) ∧ (-1000 ≤ s.Out ∧ s.Out ≤ 20000) ∧ (-3000 ≤ s.Due ∧ s.Due ≤ 20000) ∧ (-3000 ≤ s.Back ∧ s.Back ≤ 20000)
def LoanDraw (bc : Nat) (a : Option Addr) (len cap t : Nat) (w : World) (e : Ending) (w' : World) : Prop := ∃ s : VLoan, e = .returned (.agg #[.int .i64 s.Sheet, .int .i64 s.Reader, .int .i64 s.Out, .int .i64 s.Due, .int .i64 s.Back]) ∧ LoanBd s ∧ CurAt w' bc a len cap t ∧ w.grownBy w' (some bc)
def LoanHere (bc : Nat) (a : Option Addr) (len cap t n n5 : Nat) (w wx : World) : Prop := ∃ s : VLoan, LoanBd s ∧ HBLoan wx n5 s ∧ HBLoan wx n ⟨0, 0, 0, 0, 0⟩ ∧ CurAt wx bc a len cap t ∧ w.grownBy wx (some bc)
theorem grow_alLoan {w w' : World} {row : Option Nat} (h : w.grownBy w' row) {b : Nat} (hb : w.heap.size ≤ b) (x0 x1 x2 x3 x4 : Value) : w.grownBy (((((w'.setCell ⟨b, 0, none⟩ x0).setCell ⟨b, 1, none⟩ x1).setCell ⟨b, 2, none⟩ x2).setCell ⟨b, 3, none⟩ x3).setCell ⟨b, 4, none⟩ x4) row :=
  (grow_st (p := ⟨b, 4, none⟩) (grow_st (p := ⟨b, 3, none⟩) (grow_st (p := ⟨b, 2, none⟩) (grow_st (p := ⟨b, 1, none⟩) (grow_st (p := ⟨b, 0, none⟩) h hb x0) hb x1) hb x2) hb x3) hb x4)
theorem block_alLoan (w : World) {b k : Nat} (hne : k ≠ b) (x0 x1 x2 x3 x4 : Value) : (((((w.setCell ⟨b, 0, none⟩ x0).setCell ⟨b, 1, none⟩ x1).setCell ⟨b, 2, none⟩ x2).setCell ⟨b, 3, none⟩ x3).setCell ⟨b, 4, none⟩ x4).heap[k]? = w.heap[k]? :=
  ((heap_setCell_other _ ⟨b, 4, none⟩ k _ hne).trans ((heap_setCell_other _ ⟨b, 3, none⟩ k _ hne).trans ((heap_setCell_other _ ⟨b, 2, none⟩ k _ hne).trans ((heap_setCell_other _ ⟨b, 1, none⟩ k _ hne).trans (heap_setCell_other _ ⟨b, 0, none⟩ k _ hne)))))
theorem loanBd_mk {x1 x2 x3 x4 x5 : Int} (h1 : -3000 ≤ x1 ∧ x1 ≤ 20000) (h2 : -3000 ≤ x2 ∧ x2 ≤ 20000) (h3 : -1000 ≤ x3 ∧ x3 ≤ 20000) (h4 : -3000 ≤ x4 ∧ x4 ≤ 20000) (h5 : -3000 ≤ x5 ∧ x5 ≤ 20000) : LoanBd ⟨x1, x2, x3, x4, x5⟩ := ⟨h1, h2, h3, h4, h5⟩
theorem four_bd : (-3000 : Int) ≤ 4001 ∧ (4001 : Int) ≤ 20000 := ⟨by decide, by decide⟩
theorem cur_set {w : World} {bc : Nat} {a : Option Addr} {len cap t : Nat} (h : CurAt w bc a len cap t) {b j : Nat} (hne : bc ≠ b) (u : Value) : CurAt (w.setCell ⟨b, j, none⟩ u) bc a len cap t := h.heap (heap_setCell_other w ⟨b, j, none⟩ bc u hne)
set_option maxHeartbeats 12800000 in
set_option maxRecDepth 100000 in
theorem loan_any (bc : Nat) (a : Option Addr) (len cap t : Nat) (day : Int) (w : World) (hc : CurAt w bc a len cap t) (hd : CodeAt w a len cap bc) (ht : t ≤ 800000) (hday : -500 ≤ day ∧ day ≤ 10000) :
    Calls Try.prog 135 #[.pointer (some ⟨bc, 0, none⟩), .int .i64 day] w (LoanDraw bc a len cap (t + 20) w) := by
  have hlt := hc.lt
  have C := Lib.hid hc
  have D := Lib.hid hd
  have Z := Lib.hid (HBLoan.new w ⟨0, 0, 0, 0, 0⟩ _ rfl)
  have G := Lib.hid (grow_al (World.grownBy.refl w (some bc)) (.cells #[.int .i64 0, .int .i64 0, .int .i64 0, .int .i64 0, .int .i64 0] 101))
  clear hc hd
  go_enter Try.func135, Try.ntmps135
  go_wp2_with fail
  refine (among_any bc a len cap _ (w.heap.size + 1) 0 5 5 (0) 1000 _ ((C.out.alloc _).alloc _) ((D.out.alloc _).alloc _) (by omega) (by omega) (by omega) (by omega) (by simp) ?_).mono ?_
  · refine ints_at _ _ _ (0) 1000 5 _ (size_al _ _) rfl ?_
    repeat (refine List.forall_mem_cons.2 ⟨⟨_, by omega, by omega, rfl⟩, ?_⟩)
    exact fun _ h => by cases h
  rintro e w1 ⟨x1, rfl, lo1, hi1, hc, hg⟩
  have hs1 : w.heap.size + 2 ≤ w1.heap.size := by have := hg.size; rw [size_al, size_al] at this; exact this
  have C1 := Lib.hid hc
  have G1 := Lib.hid (grown_trans (grow_al G.out _) hg)
  have Z1 := Lib.hid ((Z.out.alloc _).grown hg (by simp only [ne_eq, Option.some.injEq]; omega))
  have D1 := Lib.hid (D.out.grown G1.out)
  clear hc hg
  go_wp2_with fail
  refine (among_any bc a len cap _ w1.heap.size 0 3 3 (0) 1000 _ (C1.out.alloc _) (D1.out.alloc _) (by omega) (by omega) (by omega) (by omega) (by simp) ?_).mono ?_
  · refine ints_at _ _ _ (0) 1000 3 _ rfl rfl ?_
    repeat (refine List.forall_mem_cons.2 ⟨⟨_, by omega, by omega, rfl⟩, ?_⟩)
    exact fun _ h => by cases h
  rintro e w2 ⟨x2, rfl, lo2, hi2, hc, hg⟩
  have hs2 : w1.heap.size + 1 ≤ w2.heap.size := by have := hg.size; rw [size_al] at this; exact this
  have C2 := Lib.hid hc
  have G2 := Lib.hid (grown_trans (grow_al G1.out _) hg)
  have Z2 := Lib.hid ((Z1.out.alloc _).grown hg (by simp only [ne_eq, Option.some.injEq]; omega))
  have D2 := Lib.hid (D.out.grown G2.out)
  clear hc hg
  go_wp2_with fail
  refine (among_any bc a len cap _ w2.heap.size 0 4 4 (0) 100 _ (C2.out.alloc _) (D2.out.alloc _) (by omega) (by omega) (by omega) (by omega) (by simp) ?_).mono ?_
  · refine ints_at _ _ _ (0) 100 4 _ rfl rfl ?_
    repeat (refine List.forall_mem_cons.2 ⟨⟨_, by omega, by omega, rfl⟩, ?_⟩)
    exact fun _ h => by cases h
  rintro e w3 ⟨x3, rfl, lo3, hi3, hc, hg⟩
  have hs3 : w2.heap.size + 1 ≤ w3.heap.size := by have := hg.size; rw [size_al] at this; exact this
  have C3 := Lib.hid hc
  have G3 := Lib.hid (grown_trans (grow_al G2.out _) hg)
  have Z3 := Lib.hid ((Z2.out.alloc _).grown hg (by simp only [ne_eq, Option.some.injEq]; omega))
  have D3 := Lib.hid (D.out.grown G3.out)
  clear hc hg
  have v1 : IntKind.i64.wrap (day + x3) = day + x3 := IntWalk.i64_in _ (by omega)
  obtain ⟨du, hdu⟩ : ∃ du, day + x3 = du := ⟨_, rfl⟩
  have hdb : -3000 ≤ du ∧ du ≤ 11000 := by omega
  rw [hdu] at v1
  have v2 : IntKind.i64.wrap (day + x3) = du := by rw [hdu]; exact v1
  clear hdu v1
  have X3 := Lib.hid (HBLoan.new w3 ⟨x1, x2, day, du, -1⟩ _ rfl)
  have BD := Lib.hid (show LoanBd ⟨x1, x2, day, du, -1⟩ from loanBd_mk (by omega) (by omega) (by omega) (by omega) (by omega))
  go_wp2_with fail
  refine (one_any bc a len cap _ 3 _ (C3.out.alloc _) (D3.out.alloc _) (by omega) (by omega) (by omega)).mono ?_
  rintro e w4 ⟨q, rfl, hc, hg⟩
  have hs4 : w3.heap.size + 1 ≤ w4.heap.size := by have := hg.size; rw [size_al] at this; exact this
  have C4 := Lib.hid hc
  have G4 := Lib.hid (grown_trans (grow_al G3.out _) hg)
  have Z4 := Lib.hid ((Z3.out.alloc _).grown hg (by simp only [ne_eq, Option.some.injEq]; omega))
  have X4 := Lib.hid (X3.out.grown hg (by simp only [ne_eq, Option.some.injEq]; omega))
  have D4 := Lib.hid (D.out.grown G4.out)
  obtain ⟨n5, hn5⟩ : ∃ n, w3.heap.size = n := ⟨_, rfl⟩
  have l5 : w.heap.size < n5 := by omega
  have l6 : n5 < w4.heap.size := by omega
  have l7 : ¬ n5 = w.heap.size := by omega
  have l8 : ¬ w.heap.size = n5 := by omega
  have l9 : bc < n5 := by omega
  rw [hn5] at X4 ⊢
  clear hc hg hn5 hs1 hs2 hs3 hs4 lo1 hi1 lo2 hi2 lo3 hi3 hdb v2
  go_upto_if 21 with (fail)
  go_cut [] (fun wx => LoanHere bc a len cap (t + 10) w.heap.size n5 w wx)
  case first =>
    cases q
    · obtain ⟨c0, c1, c2, c3, c4⟩ := X4.out.cells
      have HD := Lib.hid (show w4.grownBy w4.drew (some bc) from grown_below (bel_drew' (Below.refl _ _)) _)
      have CD := Lib.hid (show CurAt w4.drew bc a len cap _ from C4.out.heap rfl)
      have DD := Lib.hid (D4.out.grown HD.out)
      have TR := Lib.hid (show ∀ W : World, w4.grownBy W (some bc) → HBLoan W n5 ⟨x1, x2, day, du, -1⟩ ∧ HBLoan W w.heap.size ⟨0, 0, 0, 0, 0⟩ from fun W hG => ⟨X4.out.grown hG (by simp only [ne_eq, Option.some.injEq]; omega), Z4.out.grown hG (by simp only [ne_eq, Option.some.injEq]; omega)⟩)
      have AM := Lib.hid (among_any bc a len cap _ w4.heap.size 0 6 6 (0) 300 (w4.drew.alloc (.cells #[.int .i64 0, .int .i64 1, .int .i64 14, .int .i64 15, .int .i64 20, .int .i64 200] 3)) (CD.out.alloc _) (DD.out.alloc _) (by omega) (by omega) (by omega) (by omega) (by rw [size_al]; exact Nat.lt_succ_self _) (by
        refine ints_at _ _ _ (0) 300 6 _ rfl rfl ?_
        repeat (refine List.forall_mem_cons.2 ⟨⟨_, by omega, by omega, rfl⟩, ?_⟩)
        exact fun _ h => by cases h))
      have e2 : w4.drew.cell? ⟨n5, 2, none⟩ = some (.int .i64 day) := c2
      have HA := Lib.hid (show w4.grownBy (w4.drew.alloc (.cells #[.int .i64 0, .int .i64 1, .int .i64 14, .int .i64 15, .int .i64 20, .int .i64 200] 3)) (some bc) from grow_al HD.out _)
      go_wp2
      go_region_held3 (fun u => u.cell? ⟨n5, 2, none⟩ = some (.int .i64 day))
        (first | exact e2 | exact (TR.out _ HA.out).1.cells.2.2.1 | exact (TR.out _ H9.out).1.cells.2.2.1 | exact X9.out.cells.2.2.1)
        (first | (go_at_call 86; refine (AM.out).mono ?_; rintro e w9 ⟨y, rfl, y0, y1, hc, hg⟩; have H9 := Lib.hid (show w4.grownBy w9 (some bc) from grown_trans HA.out hg); have C9 := Lib.hid hc; have g4 := (TR.out _ H9.out).1.free 4; obtain ⟨d0, d1, d2, d3, d4⟩ := (TR.out _ H9.out).1.cells; simp only [] at d0 d1 d2 d3 d4; obtain ⟨bk, hbk⟩ : ∃ bk, day + y = bk := ⟨_, rfl⟩; have v9 : IntKind.i64.wrap (day + y) = bk := (IntWalk.i64_in _ (by omega)).trans hbk; have hbd : -3000 ≤ bk ∧ bk ≤ 20000 := (by omega); have X9 := Lib.hid ((TR.out _ H9.out).1.set4 bk); clear hbk hc hg))
      go_wp2
      go_meet
      exact ⟨⟨x1, x2, day, du, bk⟩, ⟨BD.out.1, BD.out.2.1, BD.out.2.2.1, BD.out.2.2.2.1, hbd⟩, X9.out, (TR.out _ H9.out).2.other l8 _, (cur_set C9.out (by omega) _).more (by omega), grow_st (grown_trans G4.out H9.out) (p := ⟨n5, 4, none⟩) (by simp; omega) _⟩
    · go_wp2
      go_meet
      exact ⟨_, BD.out, X4.out, Z4.out, C4.out.more (by omega), G4.out⟩
  case rest =>
  obtain ⟨s, hbd, hX, hZ, hC, hG⟩ := hcut
  have BD := Lib.hid hbd
  have X6 := Lib.hid hX
  have Z6 := Lib.hid hZ
  have C6 := Lib.hid hC
  have G6 := Lib.hid hG
  have D6 := Lib.hid (D.out.grown hG)
  have sz6 := hX.lt
  clear hbd hX hZ hC hG
  go_wp2_with fail
  refine (pick_any bc a len cap _ 120 _ C6.out D6.out (by omega) (by omega) (by omega)).mono ?_
  rintro e w7 ⟨p, rfl, pp0, pp1, hc, hg⟩
  have C7 := Lib.hid hc
  have G7 := Lib.hid (grown_trans G6.out hg)
  have X7 := Lib.hid (X6.out.grown hg (by simp only [ne_eq, Option.some.injEq]; omega))
  have Z7 := Lib.hid (Z6.out.grown hg (by simp only [ne_eq, Option.some.injEq]; omega))
  have D7 := Lib.hid (D.out.grown G7.out)
  have l6 : n5 < w7.heap.size := by have := hg.size; omega
  clear hc hg sz6
  have FIN := Lib.hid (show ∀ (W : World) (r : VLoan), HBLoan W n5 r → HBLoan W w.heap.size ⟨0, 0, 0, 0, 0⟩ → CurAt W bc a len cap (t + 20) → w.grownBy W (some bc) → HBLoan (((((W.setCell ⟨w.heap.size, 0, none⟩ (.int .i64 r.Sheet)).setCell ⟨w.heap.size, 1, none⟩ (.int .i64 r.Reader)).setCell ⟨w.heap.size, 2, none⟩ (.int .i64 r.Out)).setCell ⟨w.heap.size, 3, none⟩ (.int .i64 r.Due)).setCell ⟨w.heap.size, 4, none⟩ (.int .i64 r.Back)) w.heap.size r ∧ CurAt (((((W.setCell ⟨w.heap.size, 0, none⟩ (.int .i64 r.Sheet)).setCell ⟨w.heap.size, 1, none⟩ (.int .i64 r.Reader)).setCell ⟨w.heap.size, 2, none⟩ (.int .i64 r.Out)).setCell ⟨w.heap.size, 3, none⟩ (.int .i64 r.Due)).setCell ⟨w.heap.size, 4, none⟩ (.int .i64 r.Back)) bc a len cap (t + 20) ∧ w.grownBy (((((W.setCell ⟨w.heap.size, 0, none⟩ (.int .i64 r.Sheet)).setCell ⟨w.heap.size, 1, none⟩ (.int .i64 r.Reader)).setCell ⟨w.heap.size, 2, none⟩ (.int .i64 r.Out)).setCell ⟨w.heap.size, 3, none⟩ (.int .i64 r.Due)).setCell ⟨w.heap.size, 4, none⟩ (.int .i64 r.Back)) (some bc) from
    fun W r _ h2 h3 h4 => ⟨h2.setAll r, h3.heap (block_alLoan W (by omega) _ _ _ _ _), grow_alLoan h4 (Nat.le_refl _) _ _ _ _ _⟩)
  rcases (show p = 0 ∨ p = 1 ∨ p = 2 ∨ p = 3 ∨ p = 4 ∨ (¬ p = 0 ∧ ¬ p = 1 ∧ ¬ p = 2 ∧ ¬ p = 3 ∧ ¬ p = 4) by omega) with e | e | e | e | e | ⟨e0, e1, e2, e3, e4⟩
  · subst e
    go_wp2_with fail
    refine (among_any bc a len cap _ w7.heap.size 0 2 2 (0) 1000 _ (C7.out.alloc _) (D7.out.alloc _) (by omega) (by omega) (by omega) (by omega) (by simp) ?_).mono ?_
    · refine ints_at _ _ _ (0) 1000 2 _ rfl rfl ?_
      repeat (refine List.forall_mem_cons.2 ⟨⟨_, by omega, by omega, rfl⟩, ?_⟩)
      exact fun _ h => by cases h
    rintro e w8 ⟨y, rfl, y0, y1, hc, hg⟩
    have hy : -3000 ≤ y ∧ y ≤ 20000 := by omega
    have C8 := Lib.hid hc
    have G8 := Lib.hid (grown_trans (grow_al G7.out _) hg)
    have X8 := Lib.hid ((X7.out.alloc _).grown hg (by simp only [ne_eq, Option.some.injEq]; omega))
    have Z8 := Lib.hid ((Z7.out.alloc _).grown hg (by simp only [ne_eq, Option.some.injEq]; omega))
    clear hc hg
    obtain ⟨q0, q1, q2, q3, q4⟩ := Z8.out.cells
    obtain ⟨p0, p1, p2, p3, p4⟩ := X8.out.cells
    have f0 := Z8.out.free 0
    have f1 := Z8.out.free 1
    have f2 := Z8.out.free 2
    have f3 := Z8.out.free 3
    have f4 := Z8.out.free 4
    have g1 := X8.out.free 0
    simp only [] at q0 q1 q2 q3 q4
    have FX := FIN.out (w8.setCell ⟨n5, 0, none⟩ (.int .i64 y)) ⟨y, s.Reader, s.Out, s.Due, s.Back⟩ (X8.out.set0 _) (Z8.out.other l8 _) ((cur_set C8.out (by omega) _).more (by omega)) (grow_st G8.out (p := ⟨n5, 0, none⟩) (by simp; omega) _)
    have F1 := Lib.hid FX.1
    have F2 := Lib.hid FX.2.1
    have F3 := Lib.hid FX.2.2
    clear FX
    go_wp2
    exact bodyPost_ret (resultsLoan1 rfl rfl F1.out) rfl ⟨_, rfl, ⟨hy, BD.out.2.1, BD.out.2.2.1, BD.out.2.2.2.1, BD.out.2.2.2.2⟩, F2.out, F3.out⟩
  · subst e
    go_wp2_with fail
    refine (among_any bc a len cap _ w7.heap.size 0 2 2 (0) 1000 _ (C7.out.alloc _) (D7.out.alloc _) (by omega) (by omega) (by omega) (by omega) (by simp) ?_).mono ?_
    · refine ints_at _ _ _ (0) 1000 2 _ rfl rfl ?_
      repeat (refine List.forall_mem_cons.2 ⟨⟨_, by omega, by omega, rfl⟩, ?_⟩)
      exact fun _ h => by cases h
    rintro e w8 ⟨y, rfl, y0, y1, hc, hg⟩
    have hy : -3000 ≤ y ∧ y ≤ 20000 := by omega
    have C8 := Lib.hid hc
    have G8 := Lib.hid (grown_trans (grow_al G7.out _) hg)
    have X8 := Lib.hid ((X7.out.alloc _).grown hg (by simp only [ne_eq, Option.some.injEq]; omega))
    have Z8 := Lib.hid ((Z7.out.alloc _).grown hg (by simp only [ne_eq, Option.some.injEq]; omega))
    clear hc hg
    obtain ⟨q0, q1, q2, q3, q4⟩ := Z8.out.cells
    obtain ⟨p0, p1, p2, p3, p4⟩ := X8.out.cells
    have f0 := Z8.out.free 0
    have f1 := Z8.out.free 1
    have f2 := Z8.out.free 2
    have f3 := Z8.out.free 3
    have f4 := Z8.out.free 4
    have g1 := X8.out.free 1
    simp only [] at q0 q1 q2 q3 q4
    have FX := FIN.out (w8.setCell ⟨n5, 1, none⟩ (.int .i64 y)) ⟨s.Sheet, y, s.Out, s.Due, s.Back⟩ (X8.out.set1 _) (Z8.out.other l8 _) ((cur_set C8.out (by omega) _).more (by omega)) (grow_st G8.out (p := ⟨n5, 1, none⟩) (by simp; omega) _)
    have F1 := Lib.hid FX.1
    have F2 := Lib.hid FX.2.1
    have F3 := Lib.hid FX.2.2
    clear FX
    go_wp2
    exact bodyPost_ret (resultsLoan1 rfl rfl F1.out) rfl ⟨_, rfl, ⟨BD.out.1, hy, BD.out.2.2.1, BD.out.2.2.2.1, BD.out.2.2.2.2⟩, F2.out, F3.out⟩
  · subst e
    obtain ⟨m, hm⟩ : ∃ m, s.Out - 1 = m := ⟨_, rfl⟩
    have ob := BD.out.2.2.1
    have hmb : -1001 ≤ m ∧ m ≤ 20000 := by omega
    have vm : IntKind.i64.wrap (s.Out - 1) = m := (IntWalk.i64_in _ (by omega)).trans hm
    have hmm : -3000 ≤ m ∧ m ≤ 20000 := by omega
    clear hm ob
    obtain ⟨q0, q1, q2, q3, q4⟩ := Z7.out.cells
    obtain ⟨p0, p1, p2, p3, p4⟩ := X7.out.cells
    have f0 := Z7.out.free 0
    have f1 := Z7.out.free 1
    have f2 := Z7.out.free 2
    have f3 := Z7.out.free 3
    have f4 := Z7.out.free 4
    have g1 := X7.out.free 3
    simp only [] at q0 q1 q2 q3 q4
    have FX := FIN.out (w7.setCell ⟨n5, 3, none⟩ (.int .i64 m)) ⟨s.Sheet, s.Reader, s.Out, m, s.Back⟩ (X7.out.set3 _) (Z7.out.other l8 _) ((cur_set C7.out (by omega) _).more (by omega)) (grow_st G7.out (p := ⟨n5, 3, none⟩) (by simp; omega) _)
    have F1 := Lib.hid FX.1
    have F2 := Lib.hid FX.2.1
    have F3 := Lib.hid FX.2.2
    clear FX
    go_wp2
    exact bodyPost_ret (resultsLoan1 rfl rfl F1.out) rfl ⟨_, rfl, ⟨BD.out.1, BD.out.2.1, BD.out.2.2.1, hmm, BD.out.2.2.2.2⟩, F2.out, F3.out⟩
  · subst e
    obtain ⟨m, hm⟩ : ∃ m, s.Out - 1 = m := ⟨_, rfl⟩
    have ob := BD.out.2.2.1
    have hmb : -1001 ≤ m ∧ m ≤ 20000 := by omega
    have vm : IntKind.i64.wrap (s.Out - 1) = m := (IntWalk.i64_in _ (by omega)).trans hm
    have hmm : -3000 ≤ m ∧ m ≤ 20000 := by omega
    clear hm ob
    obtain ⟨p0, p1, p2, p3, p4⟩ := X7.out.cells
    go_wp2_with fail
    refine (among_any bc a len cap _ w7.heap.size 0 2 2 (-1001) 20000 _ (C7.out.alloc _) (D7.out.alloc _) (by omega) (by omega) (by omega) (by omega) (by simp) ?_).mono ?_
    · refine ints_at _ _ _ (-1001) 20000 2 _ rfl rfl ?_
      repeat (refine List.forall_mem_cons.2 ⟨⟨_, by omega, by omega, rfl⟩, ?_⟩)
      exact fun _ h => by cases h
    rintro e w8 ⟨y, rfl, y0, y1, hc, hg⟩
    have hy : -3000 ≤ y ∧ y ≤ 20000 := by omega
    have C8 := Lib.hid hc
    have G8 := Lib.hid (grown_trans (grow_al G7.out _) hg)
    have X8 := Lib.hid ((X7.out.alloc _).grown hg (by simp only [ne_eq, Option.some.injEq]; omega))
    have Z8 := Lib.hid ((Z7.out.alloc _).grown hg (by simp only [ne_eq, Option.some.injEq]; omega))
    clear hc hg p0 p1 p2 p3 p4
    obtain ⟨q0, q1, q2, q3, q4⟩ := Z8.out.cells
    obtain ⟨p0, p1, p2, p3, p4⟩ := X8.out.cells
    have f0 := Z8.out.free 0
    have f1 := Z8.out.free 1
    have f2 := Z8.out.free 2
    have f3 := Z8.out.free 3
    have f4 := Z8.out.free 4
    have g1 := X8.out.free 4
    simp only [] at q0 q1 q2 q3 q4
    have FX := FIN.out (w8.setCell ⟨n5, 4, none⟩ (.int .i64 y)) ⟨s.Sheet, s.Reader, s.Out, s.Due, y⟩ (X8.out.set4 _) (Z8.out.other l8 _) ((cur_set C8.out (by omega) _).more (by omega)) (grow_st G8.out (p := ⟨n5, 4, none⟩) (by simp; omega) _)
    have F1 := Lib.hid FX.1
    have F2 := Lib.hid FX.2.1
    have F3 := Lib.hid FX.2.2
    clear FX
    go_wp2
    exact bodyPost_ret (resultsLoan1 rfl rfl F1.out) rfl ⟨_, rfl, ⟨BD.out.1, BD.out.2.1, BD.out.2.2.1, BD.out.2.2.2.1, hy⟩, F2.out, F3.out⟩
  · subst e
    obtain ⟨q0, q1, q2, q3, q4⟩ := Z7.out.cells
    obtain ⟨p0, p1, p2, p3, p4⟩ := X7.out.cells
    have f0 := Z7.out.free 0
    have f1 := Z7.out.free 1
    have f2 := Z7.out.free 2
    have f3 := Z7.out.free 3
    have f4 := Z7.out.free 4
    have g1 := X7.out.free 3
    simp only [] at q0 q1 q2 q3 q4
    have FX := FIN.out (w7.setCell ⟨n5, 3, none⟩ (.int .i64 4001)) ⟨s.Sheet, s.Reader, s.Out, 4001, s.Back⟩ (X7.out.set3 _) (Z7.out.other l8 _) ((cur_set C7.out (by omega) _).more (by omega)) (grow_st G7.out (p := ⟨n5, 3, none⟩) (by simp; omega) _)
    have F1 := Lib.hid FX.1
    have F2 := Lib.hid FX.2.1
    have F3 := Lib.hid FX.2.2
    clear FX
    go_wp2
    exact bodyPost_ret (resultsLoan1 rfl rfl F1.out) rfl ⟨_, rfl, ⟨BD.out.1, BD.out.2.1, BD.out.2.2.1, four_bd, BD.out.2.2.2.2⟩, F2.out, F3.out⟩
  · have b0 : (p == 0) = false := by simpa using e0
    have b1 : (p == 1) = false := by simpa using e1
    have b2 : (p == 2) = false := by simpa using e2
    have b3 : (p == 3) = false := by simpa using e3
    have b4 : (p == 4) = false := by simpa using e4
    clear e0 e1 e2 e3 e4
    obtain ⟨q0, q1, q2, q3, q4⟩ := Z7.out.cells
    obtain ⟨p0, p1, p2, p3, p4⟩ := X7.out.cells
    have f0 := Z7.out.free 0
    have f1 := Z7.out.free 1
    have f2 := Z7.out.free 2
    have f3 := Z7.out.free 3
    have f4 := Z7.out.free 4
    simp only [] at q0 q1 q2 q3 q4
    have FX := FIN.out w7 ⟨s.Sheet, s.Reader, s.Out, s.Due, s.Back⟩ X7.out Z7.out (C7.out.more (by omega)) G7.out
    have F1 := Lib.hid FX.1
    have F2 := Lib.hid FX.2.1
    have F3 := Lib.hid FX.2.2
    clear FX
    go_wp2
    exact bodyPost_ret (resultsLoan1 rfl rfl F1.out) rfl ⟨_, rfl, BD.out, F2.out, F3.out⟩
end Go.Proofs.Ytffbljbgmgifnaa
namespace Go.Proofs.Ytffbljbgmgifnaa
open Go.RowKit

theorem at_of {α : Type} {xs : List α} {len k : Nat} (hl : Hid (len = xs.length)) (hk : k < len) : ∃ s, xs[k]? = some s := ⟨xs[k]'(by have := hl.out; omega), List.getElem?_eq_getElem _⟩
theorem all_succ' {P : Nat → Prop} {k : Nat} (h : ∀ j, j < k → P j) (h1 : P k) : ∀ j, j < k + 1 → P j := by
  intro j hj
  by_cases e : j = k
  · subst e; exact h1
  · exact h j (by omega)
/-- Why an element is right, or not. -/
theorem step_ways {α : Type} {ok : α → Bool} {id : α → Int} {xs : List α} {k : Nat} {s : α} (hs : xs[k]? = some s) :
    (ok s = false ∧ upStep ok id xs k = false) ∨ (ok s = true ∧ k = 0 ∧ upStep ok id xs k = true) ∨ (ok s = true ∧ ∃ j p, k = j + 1 ∧ xs[j]? = some p ∧ ((¬ id s ≤ id p ∧ upStep ok id xs k = true) ∨ (id s ≤ id p ∧ upStep ok id xs k = false))) := by
  match k, hs with
  | 0, hs =>
    rw [upStep_zero hs]
    cases h : ok s
    · exact .inl ⟨rfl, rfl⟩
    · exact .inr (.inl ⟨rfl, rfl, rfl⟩)
  | j + 1, hs =>
    have hl := (List.getElem?_eq_some_iff.1 hs).1
    have hp : xs[j]? = some xs[j] := List.getElem?_eq_getElem (by omega)
    rw [upStep_succ hp hs]
    cases h : ok s
    · exact .inl ⟨rfl, rfl⟩
    · refine .inr (.inr ⟨rfl, j, xs[j], rfl, hp, ?_⟩)
      by_cases h2 : id s ≤ id xs[j]
      · exact .inr ⟨h2, by simp; omega⟩
      · exact .inl ⟨h2, by simp; omega⟩
end Go.Proofs.Ytffbljbgmgifnaa
namespace Go.Proofs.Ytffbljbgmgifnaa
open Go.RowKit
def AreLoans_Post (z0 : List VLoan) (w : World) (e : Ending) (w' : World) : Prop :=
  e = .returned (.bool (AreLoans_0 z0)) ∧ Below w.heap.size w w'
end Go.Proofs.Ytffbljbgmgifnaa
namespace Go.Proofs.Ytffbljbgmgifnaa
open Go.RowKit

theorem l11Id_any (d : Int) (w : World) :
    Calls Try.prog 106 #[.int .i64 d] w fun e w' => e = .returned (.bool (idB d)) ∧ w = w' := by
  go_enter Try.func106, Try.ntmps106
  go_wp2_with fail
  refine (l1In_any _ _ _ _).mono ?_
  rintro e w' ⟨rfl, rfl⟩
  go_wp2
  go_ret
  exact ⟨rfl, rfl⟩
theorem l11Days_any (d : Int) (w : World) :
    Calls Try.prog 93 #[.int .i64 d] w fun e w' => e = .returned (.bool (daysB d)) ∧ w = w' := by
  go_enter Try.func93, Try.ntmps93
  go_wp2_with fail
  refine (l1In_any _ _ _ _).mono ?_
  rintro e w' ⟨rfl, rfl⟩
  go_wp2
  go_ret
  exact ⟨rfl, rfl⟩
theorem loOk_spec (l : VLoan) : l.ok = (idB l.Sheet && (idB l.Reader && (dayB l.Out && (dayB l.Due && (!decide (l.Due < l.Out) && (l.Back == -1 || (dayB l.Back && decide (l.Out ≤ l.Back)))))))) := by
  rw [Bool.eq_iff_iff, loOk_iff]
  simp only [idB, dayB, inB, Bool.and_eq_true, Bool.or_eq_true, beq_iff_eq, decide_eq_true_eq, Bool.not_eq_true', decide_eq_false_iff_not]
  omega
set_option maxHeartbeats 3200000 in
theorem l11One_any (s : VLoan) (w : World) :
    Calls Try.prog 137 #[.agg #[.int .i64 s.Sheet, .int .i64 s.Reader, .int .i64 s.Out, .int .i64 s.Due, .int .i64 s.Back]] w fun e w' => e = .returned (.bool s.ok) ∧ Below w.heap.size w w' := by
  obtain ⟨q1, h1⟩ : ∃ q, idB s.Sheet = q := ⟨_, rfl⟩
  obtain ⟨q2, h2⟩ : ∃ q, idB s.Reader = q := ⟨_, rfl⟩
  obtain ⟨q3, h3⟩ : ∃ q, dayB s.Out = q := ⟨_, rfl⟩
  obtain ⟨q4, h4⟩ : ∃ q, dayB s.Due = q := ⟨_, rfl⟩
  obtain ⟨q5, h5⟩ : ∃ q, dayB s.Back = q := ⟨_, rfl⟩
  have OK := Lib.hid (loOk_spec s)
  rw [h1, h2, h3, h4, h5] at OK
  have H1 := Lib.hid h1
  have H2 := Lib.hid h2
  have H3 := Lib.hid h3
  have H4 := Lib.hid h4
  have H5 := Lib.hid h5
  clear h1 h2 h3 h4 h5
  go_enter Try.func137, Try.ntmps137
  go_wp2_with fail
  refine (l11Id_any _ _).mono ?_
  rintro e w' ⟨rfl, rfl⟩
  rw [H1.out]
  cases q1
  · go_wp2
    go_ret
    exact ⟨ret_bool (by rw [OK.out]; rfl), bel_al1 _ _⟩
  go_wp2_with fail
  refine (l11Id_any _ _).mono ?_
  rintro e w' ⟨rfl, rfl⟩
  rw [H2.out]
  cases q2
  · go_wp2
    go_ret
    exact ⟨ret_bool (by rw [OK.out]; rfl), bel_al1 _ _⟩
  go_wp2_with fail
  refine (l2Day_any _ _).mono ?_
  rintro e w' ⟨rfl, rfl⟩
  rw [H3.out]
  cases q3
  · go_wp2
    go_ret
    exact ⟨ret_bool (by rw [OK.out]; rfl), bel_al1 _ _⟩
  go_wp2_with fail
  refine (l2Day_any _ _).mono ?_
  rintro e w' ⟨rfl, rfl⟩
  rw [H4.out]
  cases q4
  · go_wp2
    go_ret
    exact ⟨ret_bool (by rw [OK.out]; rfl), bel_al1 _ _⟩
  by_cases hd : s.Due < s.Out
  · have D := Lib.hid (decide_eq_true hd)
    go_wp2
    go_ret
    exact ⟨ret_bool (by rw [OK.out, D.out]; rfl), bel_al1 _ _⟩
  have D := Lib.hid (decide_eq_false hd)
  have hd2 : s.Out ≤ s.Due := by omega
  by_cases hb : s.Back = -1
  · have E := Lib.hid (show (s.Back == -1) = true by simp [hb])
    have e1 := E.out
    have D2 := Lib.hid hb
    clear hb
    go_wp2
    go_ret
    exact ⟨ret_bool (by rw [OK.out, D.out, E.out]; rfl), bel_al1 _ _⟩
  have E := Lib.hid (show (s.Back == -1) = false by simp [hb])
  have e1 := E.out
  clear hb
  go_wp2_with fail
  refine (l2Day_any _ _).mono ?_
  rintro e w' ⟨rfl, rfl⟩
  rw [H5.out]
  cases q5
  · go_wp2
    go_ret
    exact ⟨ret_bool (by rw [OK.out, D.out, E.out]; rfl), bel_al1 _ _⟩
  go_wp2
  go_ret
  exact ⟨ret_bool (by rw [OK.out, D.out, E.out]; rfl), bel_al1 _ _⟩
end Go.Proofs.Ytffbljbgmgifnaa
namespace Go.Proofs.Ytffbljbgmgifnaa
open Go.RowKit

theorem fit_cond {xs : List VLoan} {k : Nat} {l : VLoan} {q o : Bool} (hs : xs[k]? = some l) (hq : l.ok = q) (ho : (k == 0 || decide ((loAt xs (k - 1)).Out ≤ l.Out)) = o) (h : (q && o) = false) : fitLo xs k = false := by
  rw [fits_is hs, hq, ho, ← Bool.and_assoc, h]; rfl
theorem fit_way {xs : List VLoan} {k j : Nat} {l b : VLoan} (hs : xs[k]? = some l) (hb : xs[j]? = some b) (hj : j < k) (hw : wayB l b = true) : fitLo xs k = false := by
  rw [fits_is hs]
  have : (xs.take k).any (wayB l) = true := List.any_eq_true.2 ⟨b, List.mem_of_getElem? (by rw [List.getElem?_take, if_pos hj]; exact hb), hw⟩
  rw [this]; simp
theorem fit_all {xs : List VLoan} {k : Nat} {l : VLoan} {q o : Bool} (hs : xs[k]? = some l) (hq : l.ok = q) (ho : (k == 0 || decide ((loAt xs (k - 1)).Out ≤ l.Out)) = o) (h : (q && o) = true) (hw : ∀ (j : Nat) b, j < k → xs[j]? = some b → wayB l b = false) : fitLo xs k = true := by
  have hn : (xs.take k).any (wayB l) = false := by
    rw [List.any_eq_false]
    intro b hb
    obtain ⟨j, hj⟩ := List.getElem?_of_mem hb
    rw [List.getElem?_take] at hj
    split at hj
    · rename_i hjk; rw [hw j b hjk hj]; simp
    · cases hj
  rw [fits_is hs, hq, ho, hn, ← Bool.and_assoc, h]; rfl
set_option maxHeartbeats 12800000 in
set_option maxRecDepth 100000 in
theorem l11Good_any (a : Option Addr) (len cap : Nat) (xs : List VLoan) (w : World) (h : IsLoanS w a len cap xs) :
    Calls Try.prog 91 #[.slice a len cap] w fun e w' => e = .returned (.bool (areLo xs)) ∧ Below w.heap.size w w' := by
  have hm := h.2.2.1
  have hcl := h.2.1
  unfold maxLen at hm
  obtain rfl := h.1
  have S := Lib.hid h
  clear h
  go_enter Try.func91, Try.ntmps91
  go_wp2
  go_loopw [3] (fun i wr => ∃ k : Nat, k ≤ xs.length ∧ k ≤ 16 ∧ i = .int .i64 k ∧ Below w.heap.size w wr ∧ upTo xs k) (fun i _ => xs.length - (intOf i).toNat)
  case atStart => exact ⟨0, Nat.zero_le _, by omega, rfl, Below.refl _ _, upTo_zero xs⟩
  case round =>
    obtain ⟨k, hk, hk16, rfl, hbel, hall⟩ := hrel
    have A := Lib.hid hall
    have B := Lib.hid hbel
    clear hall
    by_cases hlt : k < xs.length
    · by_cases h15 : k ≤ 15
      · obtain ⟨s, hs⟩ : ∃ s, xs[k]? = some s := ⟨xs[k]'hlt, List.getElem?_eq_getElem _⟩
        have K := Lib.hid hs
        obtain ⟨q, hq⟩ : ∃ q, s.ok = q := ⟨_, rfl⟩
        obtain ⟨o, ho⟩ : ∃ o, (k == 0 || decide ((loAt xs (k - 1)).Out ≤ s.Out)) = o := ⟨_, rfl⟩
        have Q := Lib.hid hq
        have O := Lib.hid ho
        have hi0 : (0 : Int) ≤ (k : Int) := by omega
        have hi1 : (k : Int) < (xs.length : Int) := by omega
        have h15' : (k : Int) ≤ 15 := by omega
        clear hbel hs hq ho
        go_upto_region 4 with (fail)
        go_cut [38] (fun c wx => c = .bool (!(q && o)) ∧ Below w.heap.size w wx)
        case first => as_aux_lemma =>
          have cQ := below_at (W := wr) (fun W' _ => Q.out ▸ l11One_any s W')
          obtain ⟨b, p, rfl, _, hat⟩ := (S.out.below B.out).at (by omega)
          obtain ⟨e0, e1, e2, e3, e4⟩ := hat k s K.out
          cases q
          · have k0 := cell_regrown e0
            have k1 := cell_regrown e1
            have k2 := cell_regrown e2
            have k3 := cell_regrown e3
            have k4 := cell_regrown e4
            clear e0 e1 e2 e3 e4 hat
            refine wp_region_quiet_below (by kernel_rfl) (by kernel_rfl) ?_
            repeat (first | go_big_quiet_step (exact cQ _ _) | quiet_step (exact cQ _ _))
            refine wpQuiet_nil ?_
            intro W2 hw2
            have B2 := Lib.hid (Below.then' B.out (below_of_re hw2))
            clear hw2
            go_wp2
            go_meet
            exact ⟨rfl, B2.out⟩
          · by_cases hk0 : k = 0
            · subst hk0
              obtain rfl : o = true := by rw [← O.out]; rfl
              simp only [Nat.zero_mul, Nat.add_zero] at e0 e1 e2 e3 e4
              have k0 := cell_regrown e0
              have k1 := cell_regrown e1
              have k2 := cell_regrown e2
              have k3 := cell_regrown e3
              have k4 := cell_regrown e4
              clear e0 e1 e2 e3 e4 hat
              refine wp_region_quiet_below (by kernel_rfl) (by kernel_rfl) ?_
              repeat (first | go_big_quiet_step (exact cQ _ _) | quiet_step (exact cQ _ _))
              refine wpQuiet_nil ?_
              intro W2 hw2
              have B2 := Lib.hid (Below.then' B.out (below_of_re hw2))
              clear hw2
              go_wp2
              go_meet
              exact ⟨rfl, B2.out⟩
            · obtain ⟨j, rfl⟩ : ∃ j, k = j + 1 := ⟨k - 1, by omega⟩
              obtain ⟨p, hp⟩ : ∃ p, xs[j]? = some p := ⟨xs[j]'(by omega), List.getElem?_eq_getElem _⟩
              have PO := Lib.hid (show decide (p.Out ≤ s.Out) = o from by rw [← O.out, Nat.add_sub_cancel, loAt_some hp]; simp)
              have hp0 : (0 : Int) ≤ (j : Int) := by omega
              have hp1 : (j : Int) < (xs.length : Int) := by omega
              obtain ⟨_, _, p2, _⟩ := hat j p hp
              have q2 := cell_regrown p2
              have k0 := cell_regrown e0
              have k1 := cell_regrown e1
              have k2 := cell_regrown e2
              have k3 := cell_regrown e3
              have k4 := cell_regrown e4
              clear e0 e1 e2 e3 e4 hat p2 hp hk0
              cases o
              · have dl : s.Out < p.Out := by have := of_decide_eq_false PO.out; omega
                refine wp_region_quiet_below (by kernel_rfl) (by kernel_rfl) ?_
                repeat (first | go_big_quiet_step (exact cQ _ _) | quiet_step (exact cQ _ _))
                refine wpQuiet_nil ?_
                intro W2 hw2
                have B2 := Lib.hid (Below.then' B.out (below_of_re hw2))
                clear hw2
                go_wp2
                go_meet
                exact ⟨rfl, B2.out⟩
              · have dl : ¬ s.Out < p.Out := by have := of_decide_eq_true PO.out; omega
                refine wp_region_quiet_below (by kernel_rfl) (by kernel_rfl) ?_
                repeat (first | go_big_quiet_step (exact cQ _ _) | quiet_step (exact cQ _ _))
                refine wpQuiet_nil ?_
                intro W2 hw2
                have B2 := Lib.hid (Below.then' B.out (below_of_re hw2))
                clear hw2
                go_wp2
                go_meet
                exact ⟨rfl, B2.out⟩
        case rest =>
        obtain ⟨rfl, hbel⟩ := hcut
        rename World => wc
        have BC := Lib.hid hbel
        clear hbel
        obtain ⟨r, hr⟩ : ∃ r, (!(q && o)) = r := ⟨_, rfl⟩
        have R := Lib.hid hr
        rw [hr]
        clear hr
        cases r
        case true =>
          have N := Lib.hid (areLo_no hlt (fit_cond K.out Q.out O.out (by have := R.out; cases h : (q && o) with | false => rfl | true => rw [h] at this; cases this)))
          go_wp2
          go_ret
          exact ⟨ret_bool N.out.symm, BC.out⟩
        go_wp2
        go_loopw [4] (fun i wr => ∃ j : Nat, j ≤ k ∧ i = .int .i64 j ∧ Below w.heap.size w wr ∧ ∀ (t : Nat) b, t < j → xs[t]? = some b → wayB s b = false) (fun i _ => k - (intOf i).toNat)
        case atStart => exact ⟨0, Nat.zero_le _, rfl, BC.out, fun _ _ h => by omega⟩
        case round =>
          obtain ⟨j, hj, rfl, hbel, hway⟩ := hrel
          have BJ := Lib.hid hbel
          have WJ := Lib.hid hway
          clear hway
          by_cases hjk : j < k
          · obtain ⟨c, hc⟩ : ∃ c, xs[j]? = some c := ⟨xs[j]'(by omega), List.getElem?_eq_getElem _⟩
            have C := Lib.hid hc
            obtain ⟨b, p, rfl, _, hat⟩ := (S.out.below hbel).at (by omega)
            obtain ⟨e0, e1, e2, e3, e4⟩ := hat k s K.out
            obtain ⟨f0, f1, f2, f3, f4⟩ := hat j c hc
            have hj0 : (0 : Int) ≤ (j : Int) := by omega
            have hj1 : (j : Int) < (xs.length : Int) := by omega
            clear hbel hat hc
            by_cases hsh : c.Sheet = s.Sheet
            · have s1 : (c.Sheet == s.Sheet) = true := by simp [hsh]
              have S1 := Lib.hid s1
              clear hsh
              by_cases hb0 : c.Back < 0
              · have NO := Lib.hid (areLo_no hlt (fit_way K.out C.out hjk (by unfold wayB; rw [S1.out, decide_eq_true hb0]; rfl)))
                go_wp2
                go_quiet (fail)
                have B3 := Lib.hid (Below.then' BJ.out (bel_drawn _ nq))
                go_wp2
                go_ret
                exact ⟨ret_bool NO.out.symm, B3.out⟩
              · by_cases hbo : s.Out < c.Back
                · have NO := Lib.hid (areLo_no hlt (fit_way K.out C.out hjk (by unfold wayB; rw [S1.out, decide_eq_true hbo, Bool.or_true]; rfl)))
                  have hb1 : decide (c.Back < 0) = false := decide_eq_false hb0
                  go_wp2
                  go_quiet (fail)
                  have B3 := Lib.hid (Below.then' BJ.out (bel_drawn _ nq))
                  go_wp2
                  go_ret
                  exact ⟨ret_bool NO.out.symm, B3.out⟩
                · have WN := Lib.hid (show wayB s c = false from by unfold wayB; rw [decide_eq_false hb0, decide_eq_false hbo]; simp)
                  have hb2 : decide (s.Out < c.Back) = false := decide_eq_false hbo
                  have hb1 : decide (c.Back < 0) = false := decide_eq_false hb0
                  go_wp2
                  go_quiet (fail)
                  have B3 := Lib.hid (Below.then' BJ.out (bel_drawn _ nq))
                  go_wp2
                  go_roundw
                  case rel => exact ⟨j + 1, by omega, by go_num, B3.out, fun t b ht hb => by
                    by_cases e : t = j
                    · subst e; rw [C.out] at hb; cases hb; exact WN.out
                    · exact WJ.out t b (by omega) hb⟩
                  case measure => simp [intOf]; omega
            · have s1 : (c.Sheet == s.Sheet) = false := by simp [hsh]
              have S1 := Lib.hid s1
              have WN := Lib.hid (show wayB s c = false from by unfold wayB; rw [S1.out]; rfl)
              clear hsh
              go_wp2
              go_quiet (fail)
              have B3 := Lib.hid (Below.then' BJ.out (bel_drawn _ nq))
              go_wp2
              go_roundw
              case rel => exact ⟨j + 1, by omega, by go_num, B3.out, fun t b ht hb => by
                by_cases e : t = j
                · subst e; rw [C.out] at hb; cases hb; exact WN.out
                · exact WJ.out t b (by omega) hb⟩
              case measure => simp [intOf]; omega
          · obtain rfl : j = k := by omega
            have F := Lib.hid (fit_all K.out Q.out O.out (by have := R.out; cases h : (q && o) with | true => rfl | false => rw [h] at this; cases this) WJ.out)
            clear hbel
            go_wp2
            go_roundw
            case rel => exact ⟨j + 1, by omega, by omega, by go_num, BJ.out, upTo_snoc A.out F.out⟩
            case measure => simp [intOf]; omega
      · have N := Lib.hid (areLo_long (xs := xs) (by omega))
        have hn : ¬ xs.length ≤ 15 := by omega
        have hn2 : ¬ (xs.length : Int) ≤ 15 := by omega
        have hk2 : ¬ (k : Int) ≤ 15 := by omega
        clear hbel
        go_wp2
        go_ret
        exact ⟨ret_bool N.out.symm, B.out⟩
    · obtain rfl : k = xs.length := by omega
      have D : decide (xs.length ≤ 15) = areLo xs := by
        by_cases h15 : xs.length ≤ 15
        · rw [areLo_all A.out h15, decide_eq_true h15]
        · rw [areLo_long h15, decide_eq_false h15]
      have DD := Lib.hid D
      clear hbel D
      go_wp2
      go_ret
      exact ⟨ret_bool (by rw [← DD.out, decide_eq_decide]; omega), B.out⟩
theorem specAreLoans_any (a : Option Addr) (len cap : Nat) (xs : List VLoan) (w : World) (h : IsLoanS w a len cap xs) (_ : xs.length ≤ 1048576) :
    Calls Try.prog 46 #[.slice a len cap] w (AreLoans_Post xs w) := by
  have S := Lib.hid h
  clear h
  go_enter Try.func46, Try.ntmps46
  go_wp2_with fail
  refine (l11Good_any _ _ _ xs _ S.out).mono ?_
  rintro e w1 ⟨rfl, hb⟩
  have B := Lib.hid hb
  clear hb
  go_wp2
  go_ret
  exact ⟨rfl, B.out⟩
end Go.Proofs.Ytffbljbgmgifnaa
