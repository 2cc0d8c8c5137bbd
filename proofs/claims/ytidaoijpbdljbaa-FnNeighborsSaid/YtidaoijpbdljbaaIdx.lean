/- The program's search in a list of sheets: slices.IndexFunc over a function that looks at one sheet. -/
import Derived.Test.YtidaoijpbdljbaaAre2
namespace Go.Proofs.Ytidaoijpbdljbaa
open Go.RowKit

set_option maxHeartbeats 1600000 in
set_option maxRecDepth 100000 in
/-- The index of the first sheet that a function value likes. -/
theorem indexFunc_any (K : FuncId) (caps : Array Value) (f : Sh → Bool) (a : Option Addr) (len cap : Nat) (xs : List Sh) (w : World) (h : IsSheetS w a len cap xs)
    (hcall : ∀ args W, (callFunc K args).run Try.prog W = .ok (.enter K args) W)
    (hf : ∀ W s, Below w.heap.size w W → Calls Try.prog K (#[.agg #[.int .i64 s.id, .int .i64 s.row, .int .i64 s.col, .int .i64 s.scale, .int .i64 s.year]] ++ caps) W fun e w' => e = .returned (.bool (f s)) ∧ Below W.heap.size W w') :
    Calls Try.prog 95 #[.slice a len cap, .func (.func K) #[] caps] w fun e w' => e = .returned (.int .i64 (idxOf f xs)) ∧ Below w.heap.size w w' := by
  have hm := h.2.2.1
  have hcl := h.2.1
  unfold maxLen at hm
  have S := Lib.hid h
  have L := Lib.hid h.1
  have F := Lib.hid hf
  clear h hf
  go_enter Try.func95, Try.ntmps95
  go_wp2
  go_loopw [8, 5] (fun i _ wr => ∃ k : Nat, k ≤ len ∧ i = .int .i64 k ∧ Below w.heap.size w wr ∧ ∀ (j : Nat) t, j < k → xs[j]? = some t → f t = false) (fun i _ _ => len - (intOf i).toNat)
  case atStart => exact ⟨0, Nat.zero_le _, rfl, Below.refl _ _, by omega⟩
  case round =>
    obtain ⟨k, hk, rfl, hbel, hall⟩ := hrel
    have A := Lib.hid hall
    have B := Lib.hid hbel
    clear hall
    by_cases hlt : k < len
    · obtain ⟨s, hs⟩ := list_at L hlt
      obtain ⟨b, o, rfl, hb, hat⟩ := (S.out.below hbel).at (by omega)
      obtain ⟨c0, c1, c2, c3, c4⟩ := hat k s hs
      have X := Lib.hid hs
      clear hs hat hbel
      go_wp2_with fail
      refine (F.out wr s B.out).mono ?_
      rintro e w1 ⟨rfl, hb1⟩
      have B1 := Lib.hid (Below.then' B.out hb1)
      clear hb1
      by_cases hfs : f s = true
      · have FS := Lib.hid hfs
        rw [hfs]
        clear hfs
        go_wp2
        go_ret
        exact ⟨ret_int (idxOf_at X.out FS.out A.out).symm, B1.out⟩
      · have hfs' : f s = false := by simpa using hfs
        have FS := Lib.hid hfs'
        rw [hfs']
        clear hfs hfs'
        go_wp2
        go_roundw
        case rel => exact ⟨k + 1, by omega, by go_num, B1.out, lt_snoc X.out A.out FS.out⟩
        case measure => simp [intOf]; omega
    · obtain rfl : k = len := by omega
      clear hbel
      go_wp2
      go_ret
      refine ⟨ret_int (idxOf_none fun s hs => ?_).symm, B.out⟩
      obtain ⟨j, hj⟩ := List.getElem?_of_mem hs
      exact A.out j s (by have := (List.getElem?_eq_some_iff.1 hj).1; have := L.out; omega) hj

/-- A call of a function value enters the function. -/
theorem call_of {P : Program} {K : FuncId} {fn : Func} (hf : P.funcs[K]? = some fn) (h1 : (fn.name == "runtime.NumGoroutine") = false) (h2 : fn.body.isNone = false) : ∀ args W, (callFunc K args).run P W = .ok (.enter K args) W := by
  intro args W
  have h1' : ¬ fn.name = "runtime.NumGoroutine" := by simpa using h1
  have h2' : ¬ fn.body = none := by intro h; rw [h] at h2; cases h2
  simp [callFunc, go_sem, hf, h1', h2']

set_option maxHeartbeats 1600000 in
set_option maxRecDepth 100000 in
theorem indexAt1_any (s : Sh) (r c sc : Int) (b1 b2 b3 : Nat) (w : World) (h1 : w.cell? ⟨b1, 0, none⟩ = some (.int .i64 r)) (h2 : w.cell? ⟨b2, 0, none⟩ = some (.int .i64 c)) (h3 : w.cell? ⟨b3, 0, none⟩ = some (.int .i64 sc)) :
    Calls Try.prog 96 #[.agg #[.int .i64 s.id, .int .i64 s.row, .int .i64 s.col, .int .i64 s.scale, .int .i64 s.year], .pointer (some ⟨b1, 0, none⟩), .pointer (some ⟨b2, 0, none⟩), .pointer (some ⟨b3, 0, none⟩)] w
      fun e w' => e = .returned (.bool (s.at_ r c sc)) ∧ Below w.heap.size w w' := by
  have hb := bel_alloc1 w (.cells #[.int .i64 s.id, .int .i64 s.row, .int .i64 s.col, .int .i64 s.scale, .int .i64 s.year] 35)
  have g1 := (hb.cell (p := ⟨b1, 0, none⟩) (World.lt_of_cell h1)).trans h1
  have g2 := (hb.cell (p := ⟨b2, 0, none⟩) (World.lt_of_cell h2)).trans h2
  have g3 := (hb.cell (p := ⟨b3, 0, none⟩) (World.lt_of_cell h3)).trans h3
  clear hb h1 h2 h3
  by_cases k1 : s.row = r
  · by_cases k2 : s.col = c
    · by_cases k3 : s.scale = sc
      · subst k1 k2 k3
        go_enter Try.func96, Try.ntmps96
        go_wp2
        go_ret
        exact ⟨ret_bool (by simp [Sh.at_]), bel_alloc1 _ _⟩
      · subst k1 k2
        go_enter Try.func96, Try.ntmps96
        go_wp2
        go_ret
        exact ⟨ret_bool (by simp [Sh.at_]), bel_alloc1 _ _⟩
    · subst k1
      go_enter Try.func96, Try.ntmps96
      go_wp2
      go_ret
      exact ⟨ret_bool (by simp [Sh.at_, k2]), bel_alloc1 _ _⟩
  · go_enter Try.func96, Try.ntmps96
    go_wp2
    go_ret
    exact ⟨ret_bool (by simp [Sh.at_, k1]), bel_alloc1 _ _⟩

theorem cell_new (w : World) (v : Value) (t : TypeId) (B : Nat) (hB : w.heap.size = B) : (w.alloc (.cells #[v] t)).cell? ⟨B, 0, none⟩ = some v := by
  subst hB
  simp [World.cell?_alloc_new]
theorem cell_keep {w w' : World} {b o : Nat} {v : Value} (h : w.cell? ⟨b, o, none⟩ = some v) (hb : Below w.heap.size w w') : w'.cell? ⟨b, o, none⟩ = some v := (hb.cell (p := ⟨b, o, none⟩) (World.lt_of_cell h)).trans h

set_option maxHeartbeats 1600000 in
set_option maxRecDepth 100000 in
theorem indexAt_any (a : Option Addr) (len cap : Nat) (xs : List Sh) (r c sc : Int) (w : World) (h : IsSheetS w a len cap xs) :
    Calls Try.prog 70 #[.slice a len cap, .int .i64 r, .int .i64 c, .int .i64 sc] w fun e w' => e = .returned (.int .i64 (idxAt xs r c sc)) ∧ Below w.heap.size w w' := by
  have b1 := bel_alloc1 w (.cells #[.int .i64 r] 3)
  have b2 := Below.then' b1 (bel_alloc1 _ (.cells #[.int .i64 c] 3))
  have b3 := Below.then' b2 (bel_alloc1 _ (.cells #[.int .i64 sc] 3))
  have S := Lib.hid (h.below b3)
  have c1 := cell_keep (cell_keep (cell_new w (.int .i64 r) 3 _ rfl) (bel_alloc1 _ (.cells #[.int .i64 c] 3))) (bel_alloc1 _ (.cells #[.int .i64 sc] 3))
  have c2 := cell_keep (cell_new (w.alloc (.cells #[.int .i64 r] 3)) (.int .i64 c) 3 (w.heap.size + 1) (by simp)) (bel_alloc1 _ (.cells #[.int .i64 sc] 3))
  have c3 := cell_new ((w.alloc (.cells #[.int .i64 r] 3)).alloc (.cells #[.int .i64 c] 3)) (.int .i64 sc) 3 (w.heap.size + 2) (by simp)
  have C1 := Lib.hid c1
  have C2 := Lib.hid c2
  have C3 := Lib.hid c3
  have B3 := Lib.hid b3
  clear h c1 c2 c3 b1 b2 b3
  go_enter Try.func70, Try.ntmps70
  go_wp2_with fail
  refine (indexFunc_any 96 #[.pointer (some ⟨w.heap.size, 0, none⟩), .pointer (some ⟨w.heap.size + 1, 0, none⟩), .pointer (some ⟨w.heap.size + 2, 0, none⟩)] (fun s => s.at_ r c sc) a len cap xs _ S.out (call_of Try.func96 (by kernel_rfl) (by kernel_rfl)) (fun W s hW => by
    have h1 := indexAt1_any s r c sc w.heap.size (w.heap.size + 1) (w.heap.size + 2) W (cell_keep C1.out hW) (cell_keep C2.out hW) (cell_keep C3.out hW)
    simpa using h1)).mono ?_
  rintro e w1 ⟨rfl, hb⟩
  have B := Lib.hid (Below.then' B3.out hb)
  clear hb
  go_wp2
  go_ret
  exact ⟨rfl, B.out⟩
end Go.Proofs.Ytidaoijpbdljbaa
