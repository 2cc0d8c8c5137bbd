/- DrawJoinStrings: at most four texts in a row, and a short text; the world below stands. -/
import Derived.Test.YtmbmcnmippplaaaDraw
import Derived.Test.YtmbmcnmippplaaaStrs
import Derived.Laws.BytesArg
import Derived.Laws.MakeOwn
namespace Go.Proofs.Ytmbmcnmippplaaa
open Go.RowKit

def RowSepPost (w : World) (e : Ending) (w' : World) : Prop := ∃ (v : Value) (xs : List ByteArray) (y : ByteArray), e = .returned (.tuple #[v, .string y]) ∧ w'.ownsRow w.heap.size 9 1 v xs.length (xs.map Value.string) ∧ xs.length ≤ 4 ∧ (∀ x ∈ xs, x.size ≤ 4100) ∧ y.size ≤ 10 ∧ Below w.heap.size w w'
theorem total_small (xs : List ByteArray) (m : Nat) (h : ∀ x ∈ xs, x.size ≤ m) : total xs ≤ m * xs.length := by
  induction xs with
  | nil => simp [total]
  | cons x xs ih =>
    have h1 := h x (by simp)
    have h2 := ih (fun y hy => h y (by simp [hy]))
    simp [total, Nat.mul_add] at *
    omega
theorem CurAt.grown {w w' : World} {bc : Nat} {a : Option Addr} {len cap t : Nat} {row : Option Nat} (h : CurAt w bc a len cap t) (hg : w.grownBy w' row) (hne : some bc ≠ row) : CurAt w' bc a len cap t := h.heap (hg.block bc h.lt hne)
theorem CodeIn.at' {w w' : World} {a : Option Addr} {len cap bc : Nat} (h : CodeIn w a len cap) (hb : Below w.heap.size w w') (e : bc = w.heap.size) : CodeAt w' a len cap bc := e ▸ h.at hb

theorem ownsRow_grown {w w' : World} {base : Nat} {e : TypeId} {size n : Nat} {v : Value} {xs : List Value} {row : Option Nat} (h : w.ownsRow base e size v n xs) (hg : w.grownBy w' row) (hne : ∀ k, row = some k → k < base) : w'.ownsRow base e size v n xs := by
  refine ⟨h.1, ?_⟩
  rcases h.2 with h0 | ⟨g, cap, cur, rfl, hb, hh, r⟩
  · exact .inl h0
  · exact .inr ⟨g, cap, cur, rfl, hb, (hg.block g (Array.getElem?_eq_some_iff.1 hh).1 (fun e => by have := hne g e.symm; omega)).trans hh, r⟩

theorem cell_one2 (w : World) (o : Obj) (x : Value) (t : TypeId) : ∀ j u, [x][j]? = some u → ((w.alloc o).alloc (.cells #[x] t)).cell? ((⟨w.heap.size + 1, 0, none⟩ : Addr).add j) = some u := by
  have h := cell_one (w.alloc o) x t
  have e : (w.alloc o).heap.size = w.heap.size + 1 := by
    show (w.heap.push o).size = _
    simp
  rw [e] at h; exact h
theorem infoU8 : (Try.prog.info? 5).map (fun i => (i.zero, i.size, i.bytes)) = some (some (.int .u8 0), 1, 1) := by kernel_rfl
theorem run_bytes_made (n : Nat) (hn : n ≤ 100000) (W : World) : (Instr.makeSlice 22 (.int .i64 (n : Int)) (.int .i64 (n : Int))).run Try.prog W = .ok (.slice (some ⟨W.heap.size, 0, none⟩) n n) (W.alloc (.cells (madeCells #[.int .u8 0] n) 5)) := by
  obtain ⟨i0, hi, hz0, hz1, hz2⟩ := info_parts infoU8
  have h := run_make (P := Try.prog) W 22 5 i0 (.int .u8 0) Try.underlying22 hi hz0 .i64 .i64 (n : Int) (n : Int) (by omega) (by omega) (by rw [hz2]; omega) (by omega)
  rw [h, hz1]
  simp [Value.cells]
theorem run_bytes_text (n : Nat) (W : World) : (convert 22 9 (.slice (some ⟨W.heap.size, 0, none⟩) n n)).run Try.prog (W.alloc (.cells (madeCells #[.int .u8 0] n) 5)) = .ok (.string (strOfNums (List.replicate n (0 : Int)))) (W.alloc (.cells (madeCells #[.int .u8 0] n) 5)) :=
  run_convert_bytes_arg (P := Try.prog) _ 22 5 Try.underlying22 Try.underlying5 _ 0 n n (List.replicate n 0) (by simp) (fun i hi => by
    rw [World.cell?_alloc_new]
    simp [madeCells, hi, List.getD, Nat.mod_one]) 9 Try.underlying9
theorem strOfNums_zeros (n : Nat) : (strOfNums (List.replicate n (0 : Int))).size = n := by
  simp [strOfNums, ByteArray.size]

set_option maxHeartbeats 3200000 in
set_option maxRecDepth 100000 in
theorem drawJoin (a : Option Addr) (len cap : Nat) (w : World) (h : CodeIn w a len cap) :
    Calls Try.prog 11 #[.slice a len cap] w (RowSepPost w) := by
  obtain ⟨i0, hi, hz0, hz1, hz2⟩ := info_parts infoStr
  have H := Lib.hid h
  have C := Lib.hid (cur_new w a len cap)
  have B0 := Lib.hid (bel_alloc w (.cells #[.slice a len cap, .int .i64 0, .int .u64 0] 44))
  clear h
  go_enter Try.func11, Try.ntmps11
  go_wp2_with fail
  refine (pick_any _ a len cap _ 4 _ (C.out.alloc _) ((H.out.at B0.out).alloc _) (by omega) (by omega) (by omega)).mono ?_
  rintro e w1 ⟨n, rfl, n0, n1, hc1, hg1⟩
  obtain ⟨n, rfl⟩ := Int.eq_ofNat_of_zero_le n0
  have C1 := Lib.hid hc1
  have BE1 := Lib.hid (below_cur (Below.then' B0.out (bel_alloc _ _)) rfl hg1)
  have R1 := Lib.hid (ownsRow_grown (base := w.heap.size + 1) (World.ownsRow_made (base := w.heap.size + 1) (e := 9) (size := 1) (w.alloc (.cells #[.slice a len cap, .int .i64 0, .int .u64 0] 44)) #[] 0 (by simp) (Nat.zero_le _) rfl) hg1 (by intro k e; cases e; omega))
  clear hc1 hg1
  go_wp2
  go_loopw [5, 7] (fun o i wr => ∃ (k : Nat) (xs : List ByteArray), k ≤ n ∧ i = .int .i64 k ∧ xs.length = k ∧ wr.ownsRow (w.heap.size + 1) 9 1 o xs.length (xs.map Value.string) ∧ (∀ x ∈ xs, x.size ≤ 10) ∧ CurAt wr w.heap.size a len cap (2 + 2 * k) ∧ Below w.heap.size w wr) (fun _ i _ => n - (intOf i).toNat)
  case atStart => exact ⟨0, [], Nat.zero_le _, rfl, rfl, by simpa using R1.out, by simp, C1.out, BE1.out⟩
  case round =>
    obtain ⟨k, xs, hk, rfl, hxl, hown, hx, hcur, hbel⟩ := hrel
    have X := Lib.hid hx
    have CU := Lib.hid hcur
    have BE := Lib.hid hbel
    have hle := hbel.size
    have hlc := hcur.lt
    have O := Lib.hid hown
    clear hx hcur hbel hown
    by_cases hlt : k < n
    · go_wp2_with fail
      refine (any1_any _ a len cap _ _ CU.out (H.out.at BE.out) (by omega)).mono ?_
      rintro e w3 ⟨x, rfl, x0, hc3, hg3⟩
      have hown3 := ownsRow_grown O.out hg3 (by intro k e; cases e; omega)
      have hle3 : wr.heap.size ≤ w3.heap.size := hg3.size
      have C3 := Lib.hid hc3
      have BE3 := Lib.hid (below_cur BE.out rfl hg3)
      clear hc3 hg3
      go_wp2_with (at_builtin; refine wpList_append_own _ rfl _ _ 26 rfl (w.heap.size + 1) 9 i0 (.string ByteArray.empty) 1 16 Try.underlying26 hi hz0 hz1 hz2 rfl (by decide) _ _ _ rfl (hown3.alloc _) ⟨w3.heap.size, 0, none⟩ 1 1 [.string x] rfl rfl (cell_one _ _ _) (fun x hx => by simp at hx; subst hx; rfl) (by unfold maxLen; omega) (by omega) (by simp; omega) ?_; intro v' w4 hown' hgrow4 hnil4)
      go_roundw
      case rel => exact ⟨k + 1, xs ++ [x], by omega, by go_num, by simp [hxl], by simpa using hown', by
          intro y hy
          rcases List.mem_append.1 hy with hy | hy
          · exact X.out y hy
          · obtain rfl := List.mem_singleton.1 hy; exact x0, ((C3.out.alloc _).grown hgrow4 (fun e => by have := (hown3.lt _ e.symm).1; omega)).more (by omega), (Below.then' BE3.out (bel_alloc _ _)).grown hgrow4 (by simp; omega) (fun j e => by have := (hown3.lt j e).1; omega)⟩
      case measure => simp [intOf]; omega
    · obtain rfl : k = n := by omega
      go_wp2_with fail
      refine (one_any _ a len cap _ 20 _ CU.out (H.out.at BE.out) (by omega) (by omega) (by omega)).mono ?_
      rintro e w3 ⟨b, rfl, hc3, hg3⟩
      have hown3 := Lib.hid (ownsRow_grown O.out hg3 (by intro k e; cases e; omega))
      have hle3 : wr.heap.size ≤ w3.heap.size := hg3.size
      have hlt3 := hc3.lt
      have C3 := Lib.hid hc3
      have BE3 := Lib.hid (below_cur BE.out rfl hg3)
      clear hc3 hg3
      cases b
      · go_wp2_with fail
        refine (of_any _ a len cap _ 10 w3.heap.size 0 5 5 _ (C3.out.alloc _) ((H.out.at BE3.out).alloc _) (by omega) (by omega) (by omega) (by omega) (by simp) ?_).mono ?_
        · refine lits_of w3 _ _ 10 5 rfl ?_
          repeat (refine List.forall_mem_cons.2 ⟨⟨_, by decide, rfl⟩, ?_⟩)
          exact fun _ h => by cases h
        rintro e w4 ⟨y, rfl, y0, hc4, hg4⟩
        have G4 := Lib.hid (below_cur (Below.then' BE3.out (bel_alloc w3 _)) rfl hg4)
        have O4 := Lib.hid (ownsRow_grown (hown3.out.alloc _) hg4 (by intro k e; cases e; omega))
        clear hc4 hg4
        go_wp2
        go_ret2
        exact ⟨_, xs, y, rfl, ownsRow_base O4.out (by omega), by omega, fun x h => Nat.le_trans (X.out x h) (by omega), y0, G4.out⟩
      · go_wp2_with fail
        refine (pick_any _ a len cap _ 20 _ C3.out (H.out.at BE3.out) (by omega) (by omega) (by omega)).mono ?_
        rintro e w4 ⟨p, rfl, p0, p1, hc4, hg4⟩
        have G4 := Lib.hid (below_cur BE3.out rfl hg4)
        have hown4 := Lib.hid (ownsRow_grown hown3.out hg4 (by intro k e; cases e; omega))
        have hle4 : w3.heap.size ≤ w4.heap.size := hg4.size
        have C4 := Lib.hid hc4
        obtain ⟨p, rfl⟩ := Int.eq_ofNat_of_zero_le p0
        clear hc4 hg4
        have hp1 : (p : Int) < 20 := p1
        have hwp : IntKind.i64.wrap (3990 + (p : Int)) = 3990 + (p : Int) := IntWalk.i64_in _ (by omega)
        have hmk := run_bytes_made (3990 + p) (by omega)
        have hcv := run_bytes_text (3990 + p)
        have hss := strOfNums_zeros (3990 + p)
        obtain ⟨S, hS⟩ : ∃ S, strOfNums (List.replicate (3990 + p) (0 : Int)) = S := ⟨_, rfl⟩
        have hone := cell_one2 w4 (.cells (madeCells #[.int .u8 0] (3990 + p)) 5) (.string S) 9
        rw [hS] at hcv hss
        rw [show ((3990 + p : Nat) : Int) = 3990 + (p : Int) by omega] at hmk
        clear hS
        go_wp2_with (at_builtin; refine wpList_append_own _ rfl _ _ 26 rfl (w.heap.size + 1) 9 i0 (.string ByteArray.empty) 1 16 Try.underlying26 hi hz0 hz1 hz2 rfl (by decide) _ _ _ rfl ((hown4.out.alloc _).alloc _) ⟨w4.heap.size + 1, 0, none⟩ 1 1 [.string S] rfl rfl hone (fun x hx => by simp at hx; subst hx; rfl) (by unfold maxLen; omega) (by omega) (by simp; omega) ?_; intro v' w5 hown5 hgrow5 hnil5)

        have hsz2 : ((w4.alloc (.cells (madeCells #[.int .u8 0] (3990 + p)) 5)).alloc (.cells #[.string S] 9)).heap.size = w4.heap.size + 2 := by
          show ((w4.heap.push _).push _).size = _
          simp
        have hle5 : w4.heap.size + 2 ≤ w5.heap.size := by have := hgrow5.size; omega
        have O5 := Lib.hid hown5
        have BE4 := Lib.hid (((Below.then' G4.out (bel_alloc w4 (.cells (madeCells #[.int .u8 0] (3990 + p)) 5))).alloc (by simp; omega) (.cells #[.string S] 9)).grown hgrow5 (by rw [hsz2]; omega) (fun j e => by have := (hown4.out.lt j e).1; omega))
        have C5 := Lib.hid (((C4.out.alloc (.cells (madeCells #[.int .u8 0] (3990 + p)) 5)).alloc (.cells #[.string S] 9)).grown hgrow5 (fun e => by have := (hown4.out.lt _ e.symm).1; omega))
        clear hown5 hgrow5 hnil5 hmk hcv hone
        go_wp2_with fail
        refine (of_any _ a len cap _ 10 w5.heap.size 0 5 5 _ (C5.out.alloc _) ((H.out.at BE4.out).alloc _) (by omega) (by omega) (by omega) (by omega) (by simp) ?_).mono ?_
        · refine lits_of w5 _ _ 10 5 rfl ?_
          repeat (refine List.forall_mem_cons.2 ⟨⟨_, by decide, rfl⟩, ?_⟩)
          exact fun _ h => by cases h
        rintro e w6 ⟨y, rfl, y0, hc6, hg6⟩
        have G6 := Lib.hid (below_cur (Below.then' BE4.out (bel_alloc w5 _)) rfl hg6)
        have O6 := Lib.hid (ownsRow_grown (O5.out.alloc _) hg6 (by intro k e; cases e; omega))
        clear hc6 hg6
        go_wp2
        go_ret2
        refine ⟨_, xs ++ [S], y, rfl, ownsRow_base (by simpa using O6.out) (by omega : w.heap.size ≤ w.heap.size + 1), by simp; omega, fun x h => ?_, y0, G6.out⟩
        rcases List.mem_append.1 h with h | h
        · exact Nat.le_trans (X.out x h) (by omega)
        · obtain rfl := List.mem_singleton.1 h; omega
end Go.Proofs.Ytmbmcnmippplaaa
