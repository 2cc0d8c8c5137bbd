/- DrawFormatInt, DrawParseInt, DrawAppendChecksum, vBig, vAt: some value within bounds; the world below stands. -/
import Derived.Test.YtmbmcnmippplaaaDoorMade
import Derived.Test.YtmbmcnmippplaaaDoorFmt
namespace Go.Proofs.YtmbmcnmippplaaaDoor
open Go.RowKit

theorem ints_of (w : World) (C : Array Value) (T : TypeId) (lo hi : Int) (n : Nat) (hn : C.size = n) (hC : ∀ v ∈ C.toList, ∃ x : Int, lo ≤ x ∧ x ≤ hi ∧ v = .int .i64 x) : ∀ i, i < n → ∃ x : Int, lo ≤ x ∧ x ≤ hi ∧ (w.alloc (.cells C T)).cell? ⟨w.heap.size, 0 + i, none⟩ = some (.int .i64 x) := by
  subst hn
  intro i hi'
  obtain ⟨x, h1, h2, e⟩ := hC C[i] (by simp)
  refine ⟨x, h1, h2, ?_⟩
  rw [World.cell?_alloc_new, Nat.zero_add, Array.getElem?_eq_getElem hi', e]
def IntDrawn (lo hi : Int) (w : World) (e : Ending) (w' : World) : Prop := ∃ x : Int, e = .returned (.int .i64 x) ∧ lo ≤ x ∧ x ≤ hi ∧ Below w.heap.size w w'
def StrDrawn (m : Nat) (w : World) (e : Ending) (w' : World) : Prop := ∃ x : ByteArray, e = .returned (.string x) ∧ x.size ≤ m ∧ Below w.heap.size w w'
set_option maxHeartbeats 1600000 in
theorem drawInt (a : Option Addr) (len cap : Nat) (w : World) (h : CodeIn w a len cap) :
    Calls Tryd.prog 9 #[.slice a len cap] w (IntDrawn (-1000000) 1000000 w) := by
  have C := Lib.hid (cur_new w a len cap)
  have D := Lib.hid (h.at (bel_alloc w (.cells #[.slice a len cap, .int .i64 0, .int .u64 0] 37)))
  clear h
  go_enter Tryd.func9, Tryd.ntmps9
  go_wp2_with fail
  refine (pick_any _ a len cap _ 1000 _ C.out D.out (by omega) (by omega) (by omega)).mono ?_
  rintro e w1 ⟨x, rfl, x0, x1', hc1, hg1⟩
  have x1 : x < 1000 := x1'
  have hlt := hc1.lt
  have C1 := Lib.hid hc1
  have D1 := Lib.hid (D.out.grown hg1)
  have G1 := Lib.hid (below_cur (bel_alloc w _) rfl hg1)
  have hw : IntKind.i64.wrap (x - 500) = x - 500 := IntWalk.i64_in _ (by omega)
  clear hc1 hg1 x1'
  go_wp2_with fail
  refine (among_any _ a len cap _ w1.heap.size 0 9 9 (-1000000) 1000000 _ (C1.out.alloc _) (D1.out.alloc _) (by omega) (by omega) (by omega) (by omega) (by simp) ?_).mono ?_
  · refine ints_of w1 _ _ (-1000000) 1000000 9 rfl ?_
    repeat (refine List.forall_mem_cons.2 ⟨⟨_, by omega, by omega, rfl⟩, ?_⟩)
    exact fun _ h => by cases h
  rintro e w2 ⟨y, rfl, y0, y1, hc2, hg2⟩
  have G2 := Lib.hid (below_cur (Below.then' G1.out (bel_alloc w1 _)) rfl hg2)
  clear hc2 hg2
  go_wp2
  go_ret
  exact ⟨y, rfl, y0, y1, G2.out⟩
theorem textOf_short (n : Int) (h0 : -1000 ≤ n) (h1 : n ≤ 1000) : (textOf n).size ≤ 1100 := by
  by_cases hn : 0 ≤ n
  · rw [textOf_pos n hn]
    have := numOf_size n.toNat
    omega
  · rw [textOf_neg n (by omega), ByteArray.size_append]
    have := numOf_size (-n).toNat
    have : minus.size = 1 := rfl
    omega
set_option maxHeartbeats 1600000 in
theorem drawText (a : Option Addr) (len cap : Nat) (w : World) (h : CodeIn w a len cap) :
    Calls Tryd.prog 12 #[.slice a len cap] w (StrDrawn 1100 w) := by
  have C := Lib.hid (cur_new w a len cap)
  have D := Lib.hid (h.at (bel_alloc w (.cells #[.slice a len cap, .int .i64 0, .int .u64 0] 37)))
  clear h
  go_enter Tryd.func12, Tryd.ntmps12
  go_wp2_with fail
  refine (one_any _ a len cap _ 2 _ C.out D.out (by omega) (by omega) (by omega)).mono ?_
  rintro e w1 ⟨b, rfl, hc1, hg1⟩
  have hlt := hc1.lt
  have C1 := Lib.hid hc1
  have D1 := Lib.hid (D.out.grown hg1)
  have G1 := Lib.hid (below_cur (bel_alloc w _) rfl hg1)
  clear hc1 hg1
  cases b
  · go_wp2_with fail
    refine (pick_any _ a len cap _ 2000 _ C1.out D1.out (by omega) (by omega) (by omega)).mono ?_
    rintro e w2 ⟨x, rfl, x0, x1', hc2, hg2⟩
    have x1 : x < 2000 := x1'
    have G2 := Lib.hid (below_cur G1.out rfl hg2)
    have hw : IntKind.i64.wrap (x - 1000) = x - 1000 := IntWalk.i64_in _ (by omega)
    clear hc2 hg2 x1'
    go_wp2_with fail
    refine (l1Num_any (x - 1000) _ (by omega) (by omega)).mono ?_
    rintro e w3 ⟨rfl, m, rfl⟩
    have hts := textOf_short (x - 1000) (by omega) (by omega)
    have TS := Lib.hid hts
    go_wp2
    go_ret
    exact ⟨_, rfl, TS.out, Below.then' G2.out (bel_drawn _ _)⟩
  · go_wp2_with fail
    refine (of_any _ a len cap _ 1100 w1.heap.size 0 11 11 _ (C1.out.alloc _) (D1.out.alloc _) (by omega) (by omega) (by omega) (by omega) (by simp) ?_).mono ?_
    · refine lits_of w1 _ _ 1100 11 rfl ?_
      repeat (refine List.forall_mem_cons.2 ⟨⟨_, by decide, rfl⟩, ?_⟩)
      exact fun _ h => by cases h
    rintro e w2 ⟨y, rfl, y0, hc2, hg2⟩
    have G2 := Lib.hid (below_cur (Below.then' G1.out (bel_alloc w1 _)) rfl hg2)
    clear hc2 hg2
    go_wp2
    go_ret
    exact ⟨y, rfl, y0, G2.out⟩
set_option maxHeartbeats 1600000 in
theorem drawSeal (a : Option Addr) (len cap : Nat) (w : World) (h : CodeIn w a len cap) :
    Calls Tryd.prog 15 #[.slice a len cap] w (StrDrawn 4100 w) := by
  have C := Lib.hid (cur_new w a len cap)
  have D := Lib.hid (h.at (bel_alloc w (.cells #[.slice a len cap, .int .i64 0, .int .u64 0] 37)))
  clear h
  go_enter Tryd.func15, Tryd.ntmps15
  go_wp2_with fail
  refine (one_any _ a len cap _ 20 _ C.out D.out (by omega) (by omega) (by omega)).mono ?_
  rintro e w1 ⟨b, rfl, hc1, hg1⟩
  have hlt := hc1.lt
  have C1 := Lib.hid hc1
  have D1 := Lib.hid (D.out.grown hg1)
  have G1 := Lib.hid (below_cur (bel_alloc w _) rfl hg1)
  clear hc1 hg1
  cases b
  · go_wp2_with fail
    refine (any1_any _ a len cap _ _ C1.out D1.out (by omega)).mono ?_
    rintro e w2 ⟨y, rfl, y0, hc2, hg2⟩
    have G2 := Lib.hid (below_cur G1.out rfl hg2)
    clear hc2 hg2
    go_wp2
    go_ret
    exact ⟨y, rfl, by omega, G2.out⟩
  · go_wp2_with fail
    refine (pick_any _ a len cap _ 10 _ C1.out D1.out (by omega) (by omega) (by omega)).mono ?_
    rintro e w2 ⟨p, rfl, p0, p1', hc2, hg2⟩
    have p1 : p < 10 := p1'
    obtain ⟨p, rfl⟩ := Int.eq_ofNat_of_zero_le p0
    have G2 := Lib.hid (below_cur G1.out rfl hg2)
    have hwp : IntKind.i64.wrap (3990 + (p : Int)) = 3990 + (p : Int) := IntWalk.i64_in _ (by omega)
    have hmk := run_bytes_made (3990 + p) (by omega)
    have hcv := run_bytes_text (3990 + p)
    have hss := strOfNums_zeros (3990 + p)
    obtain ⟨S, hS⟩ : ∃ S, strOfNums (List.replicate (3990 + p) (0 : Int)) = S := ⟨_, rfl⟩
    rw [hS] at hcv hss
    rw [show ((3990 + p : Nat) : Int) = 3990 + (p : Int) by omega] at hmk
    clear hc2 hg2 p1' hS
    go_wp2
    go_ret
    exact ⟨S, rfl, by omega, Below.then' G2.out (bel_alloc w2 _)⟩
theorem vBig_any (a : Option Addr) (len cap : Nat) (w : World) :
    Calls Tryd.prog 8 #[.slice a len cap] w fun e w' => e = .returned (.bool (decide (65536 < len))) ∧ w = w' := by
  by_cases h : 65536 < len
  · go_enter Tryd.func8, Tryd.ntmps8
    go_wp2
    go_ret
    exact ⟨ret_bool (by simp; omega), rfl⟩
  · go_enter Tryd.func8, Tryd.ntmps8
    go_wp2
    go_ret
    exact ⟨ret_bool (by simp; omega), rfl⟩
set_option maxHeartbeats 800000 in
theorem vAt_any (a : Option Addr) (len cap i : Nat) (w : World) (h : CodeIn w a len cap) (hi : i ≤ 100) (hl : len ≤ 65536) :
    Calls Tryd.prog 19 #[.slice a len cap, .int .i64 i] w fun e w' => (∃ v : Int, e = .returned (.int .i64 v) ∧ 0 ≤ v ∧ v ≤ 255) ∧ w = w' := by
  by_cases hlt : i < len
  · rcases h.2.2 with h0 | ⟨b, o, rfl, hb, hcells⟩
    · omega
    obtain ⟨c, k0, k1, hcell⟩ := hcells i hlt
    have i1 : (i : Int) < (len : Int) := by omega
    have i0 : (0 : Int) ≤ (i : Int) := by omega
    have hw : IntKind.i64.wrap c = c := IntWalk.i64_in _ (by omega)
    clear hcells h
    go_enter Tryd.func19, Tryd.ntmps19
    go_wp2
    go_ret
    exact ⟨⟨c, rfl, k0, k1⟩, rfl⟩
  · have i1 : decide ((i : Int) < (len : Int)) = false := by simp; omega
    have h1 : IntKind.i64.wrap ((i : Int) * 7) = (i : Int) * 7 := IntWalk.i64_in _ (by omega)
    have h2 : IntKind.i64.wrap ((i : Int) * 7 + (len : Int)) = (i : Int) * 7 + (len : Int) := IntWalk.i64_in _ (by omega)
    clear h
    go_enter Tryd.func19, Tryd.ntmps19
    go_wp2
    go_ret
    exact ⟨⟨_, rfl, by omega, by omega⟩, rfl⟩
/-- The same value whatever was drawn. -/
theorem vAt_at (a : Option Addr) (len cap i : Nat) (w : World) (h : CodeIn w a len cap) (hi : i ≤ 100) (hl : len ≤ 65536) :
    ∃ v : Int, 0 ≤ v ∧ v ≤ 255 ∧ ∀ m, Calls Tryd.prog 19 #[.slice a len cap, .int .i64 i] (w.drewN m) fun e w' => e = .returned (.int .i64 v) ∧ ∃ q, w' = w.drewN q := by
  by_cases hlt : i < len
  · rcases h.2.2 with h0 | ⟨b, o, rfl, hb, hcells⟩
    · omega
    obtain ⟨c, k0, k1, hcell⟩ := hcells i hlt
    have i1 : (i : Int) < (len : Int) := by omega
    have i0 : (0 : Int) ≤ (i : Int) := by omega
    have hw : IntKind.i64.wrap c = c := IntWalk.i64_in _ (by omega)
    clear hcells h
    refine ⟨c, k0, k1, fun m => ?_⟩
    go_enter Tryd.func19, Tryd.ntmps19
    go_wp2
    go_ret
    exact ⟨rfl, m, rfl⟩
  · have i1 : decide ((i : Int) < (len : Int)) = false := by simp; omega
    have h1 : IntKind.i64.wrap ((i : Int) * 7) = (i : Int) * 7 := IntWalk.i64_in _ (by omega)
    have h2 : IntKind.i64.wrap ((i : Int) * 7 + (len : Int)) = (i : Int) * 7 + (len : Int) := IntWalk.i64_in _ (by omega)
    clear h
    refine ⟨((i : Int) * 7 + (len : Int)) % 256, by omega, by omega, fun m => ?_⟩
    go_enter Tryd.func19, Tryd.ntmps19
    go_wp2
    go_ret
    exact ⟨rfl, m, rfl⟩
end Go.Proofs.YtmbmcnmippplaaaDoor
