/- Texts in one: Di, FlatL, IntL, Di2, Di3, Di4, Di5, Ins2. -/
import Derived.Test.YtldanejdnbfbjaaM3
import Derived.Test.YtldanejdnbfbjaaM6
import Derived.Test.YtldanejdnbfbjaaM1
import Derived.Test.YtldanejdnbfbjaaM2
import Derived.Lib.SliceRun
import Derived.Test.YtldanejdnbfbjaaShelf
import Derived.Test.YtldanejdnbfbjaaM4
import Derived.Test.YtldanejdnbfbjaaM5
import Derived.Laws.AppendOwn
import Derived.Test.YtldanejdnbfbjaaLayIns
import Derived.Test.YtldanejdnbfbjaaLayDel
import Derived.Sort.OwnSortedInts
namespace Go.Proofs.Ytldanejdnbfbjaa
open Go.RowKit

theorem areOne (lo hi x : Int) (t : TypeId) (w : World) (B : Nat) (hB : w.heap.size = B) :
    Calls Try.prog 125 #[.int .i64 lo, .int .i64 hi, .slice (some ⟨B, 0, none⟩) 1 1] (w.alloc (.cells #[.int .i64 x] t)) fun e w' => e = .returned (.bool (inB x lo hi)) ∧ w.alloc (.cells #[.int .i64 x] t) = w' :=
  (areInRange_any B 1 1 [x] lo hi _ rfl (by omega) (lit1 w x t B hB)).mono fun e w' h => ⟨by rw [h.1]; simp, h.2⟩
theorem areTwo (lo hi x y : Int) (t : TypeId) (w : World) (B : Nat) (hB : w.heap.size = B) :
    Calls Try.prog 125 #[.int .i64 lo, .int .i64 hi, .slice (some ⟨B, 0, none⟩) 2 2] (w.alloc (.cells #[.int .i64 x, .int .i64 y] t)) fun e w' => e = .returned (.bool (inB x lo hi && inB y lo hi)) ∧ w.alloc (.cells #[.int .i64 x, .int .i64 y] t) = w' :=
  (areInRange_any B 2 2 [x, y] lo hi _ rfl (by omega) (lit2 w x y t B hB)).mono fun e w' h => ⟨by rw [h.1]; simp, h.2⟩
set_option maxHeartbeats 3200000 in
theorem isFlat_any (s : VFlat) (w : World) :
    Calls Try.prog 82 #[.agg #[.int .i64 s.Id, .int .i64 s.Wide, .int .i64 s.High, .int .i64 s.Grams]] w fun e w' => e = .returned (.bool s.ok) ∧ Below w.heap.size w w' := by
  obtain ⟨q1, h1⟩ : ∃ q, inB s.Id 1 999 = q := ⟨_, rfl⟩
  obtain ⟨q2, h2⟩ : ∃ q, (inB s.Wide 10 2000 && inB s.High 10 2000) = q := ⟨_, rfl⟩
  obtain ⟨q3, h3⟩ : ∃ q, inB s.Grams 1 5000 = q := ⟨_, rfl⟩
  have OK := Lib.hid (show s.ok = (q1 && (q2 && q3)) from by unfold VFlat.ok; rw [← h1, ← h2, ← h3, Bool.and_assoc])
  have H1 := Lib.hid h1
  have H2 := Lib.hid h2
  have H3 := Lib.hid h3
  clear h1 h2 h3
  go_enter Try.func82, Try.ntmps82
  go_wp2_with fail
  refine (areOne _ _ _ _ _ _ (by simp)).mono ?_
  rintro e w' ⟨rfl, rfl⟩
  rw [H1.out]
  cases q1
  · go_wp2
    go_ret
    exact ⟨ret_bool (by rw [OK.out]; rfl), bel_al2 _ _ _⟩
  go_wp2_with fail
  refine (areTwo _ _ _ _ _ _ _ (by simp)).mono ?_
  rintro e w' ⟨rfl, rfl⟩
  rw [H2.out]
  cases q2
  · go_wp2
    go_ret
    exact ⟨ret_bool (by rw [OK.out]; rfl), bel_al3 _ _ _ _⟩
  go_wp2_with fail
  refine (areOne _ _ _ _ _ _ (by simp)).mono ?_
  rintro e w' ⟨rfl, rfl⟩
  rw [H3.out]
  go_wp2
  go_ret
  exact ⟨ret_bool (by rw [OK.out]; rfl), Below.then' (bel_al3 _ _ _ _) (bel_al1 _ _)⟩
theorem len_le {n : Nat} {k : Nat} : decide ((n : Int) ≤ (k : Int)) = decide (n ≤ k) := by rw [decide_eq_decide]; omega
theorem flatId_any (s : VFlat) (w : World) : Calls Try.prog 89 #[.agg #[.int .i64 s.Id, .int .i64 s.Wide, .int .i64 s.High, .int .i64 s.Grams]] w fun e w' => e = .returned (.int .i64 s.Id) ∧ Below w.heap.size w w' := by
  go_enter Try.func89, Try.ntmps89
  go_wp2
  go_ret
  exact ⟨rfl, bel_al1 _ _⟩
set_option maxHeartbeats 1600000 in
theorem areFlats_any (a : Option Addr) (len cap : Nat) (xs : List VFlat) (w : World) (h : IsFlatS w a len cap xs) :
    Calls Try.prog 30 #[.slice a len cap] w fun e w' => e = .returned (.bool (flatsB xs)) ∧ Below w.heap.size w w' := by
  have S := Lib.hid h
  clear h
  go_enter Try.func30, Try.ntmps30
  go_wp2_with fail
  refine (byFlat_any 82 89 VFlat.ok VFlat.Id 20 a len cap xs _ S.out (enters_fn Try.func82 (by kernel_rfl) (by kernel_rfl)) (enters_fn Try.func89 (by kernel_rfl) (by kernel_rfl)) (fun W s _ => isFlat_any s W) (fun W s => flatId_any s W)).mono ?_
  rintro e w2 ⟨rfl, hb⟩
  have B := Lib.hid hb
  clear hb
  go_wp2
  go_ret
  exact ⟨ret_bool (by unfold flatsB; rw [← len_le]; rfl), B.out⟩
theorem idOk_any (z : Int) (w : World) : Calls Try.prog 132 #[.int .i64 z] w fun e w' => e = .returned (.bool (idOk z)) ∧ Below w.heap.size w w' := by
  go_enter Try.func132, Try.ntmps132
  go_wp2_with fail
  refine (areOne _ _ _ _ _ _ rfl).mono ?_
  rintro e w' ⟨rfl, rfl⟩
  go_wp2
  go_ret
  exact ⟨rfl, bel_al1 _ _⟩
theorem idSame_any (z : Int) (w : World) : Calls Try.prog 134 #[.int .i64 z] w fun e w' => e = .returned (.int .i64 z) ∧ Below w.heap.size w w' := by
  go_enter Try.func134, Try.ntmps134
  go_wp2
  go_ret
  exact ⟨rfl, Below.refl _ _⟩
set_option maxHeartbeats 1600000 in
theorem areFlatIds_any (a : Option Addr) (len cap : Nat) (zs : List Int) (w : World) (h : IsInts w a len cap zs) :
    Calls Try.prog 126 #[.slice a len cap] w fun e w' => e = .returned (.bool (idsB zs)) ∧ Below w.heap.size w w' := by
  have S := Lib.hid h
  clear h
  go_enter Try.func126, Try.ntmps126
  go_wp2_with fail
  refine (byint_any 132 134 idOk (fun z => z) 12 a len cap zs _ S.out (enters_fn Try.func132 (by kernel_rfl) (by kernel_rfl)) (enters_fn Try.func134 (by kernel_rfl) (by kernel_rfl)) (fun W s _ => idOk_any s W) (fun W s => idSame_any s W)).mono ?_
  rintro e w2 ⟨rfl, hb⟩
  have B := Lib.hid hb
  clear hb
  go_wp2
  go_ret
  exact ⟨ret_bool (by unfold idsB; rw [← len_le]; rfl), B.out⟩
theorem drawerId_any (x : VDrawer) (h : Hd) (w : World) : Calls Try.prog 92 #[.agg #[.int .i64 x.Id, .int .i64 x.Wide, .int .i64 x.High, .int .i64 x.Holds, .slice h.a h.n h.c]] w fun e w' => e = .returned (.int .i64 x.Id) ∧ Below w.heap.size w w' := by
  go_enter Try.func92, Try.ntmps92
  go_wp2
  go_ret
  exact ⟨rfl, bel_al1 _ _⟩
set_option maxHeartbeats 3200000 in
theorem isDrawer_any (x : VDrawer) (h : Hd) (w : World) (hi : IsInts w h.a h.n h.c x.Flats) :
    Calls Try.prog 83 #[.agg #[.int .i64 x.Id, .int .i64 x.Wide, .int .i64 x.High, .int .i64 x.Holds, .slice h.a h.n h.c]] w fun e w' => e = .returned (.bool x.ok) ∧ Below w.heap.size w w' := by
  obtain ⟨q1, h1⟩ : ∃ q, inB x.Id 1 99 = q := ⟨_, rfl⟩
  obtain ⟨q2, h2⟩ : ∃ q, (inB x.Wide 100 2000 && inB x.High 100 2000) = q := ⟨_, rfl⟩
  obtain ⟨q3, h3⟩ : ∃ q, inB x.Holds 100 50000 = q := ⟨_, rfl⟩
  have OK := Lib.hid (show x.ok = (q1 && (q2 && (q3 && idsB x.Flats))) from by unfold VDrawer.ok; rw [← h1, ← h2, ← h3, Bool.and_assoc])
  have H1 := Lib.hid h1
  have H2 := Lib.hid h2
  have H3 := Lib.hid h3
  have HI := Lib.hid hi
  clear h1 h2 h3 hi
  go_enter Try.func83, Try.ntmps83
  go_wp2_with fail
  refine (areOne _ _ _ _ _ _ (by simp)).mono ?_
  rintro e w' ⟨rfl, rfl⟩
  rw [H1.out]
  cases q1
  · go_wp2
    go_ret
    exact ⟨ret_bool (by rw [OK.out]; rfl), bel_al2 _ _ _⟩
  go_wp2_with fail
  refine (areTwo _ _ _ _ _ _ _ (by simp)).mono ?_
  rintro e w' ⟨rfl, rfl⟩
  rw [H2.out]
  cases q2
  · go_wp2
    go_ret
    exact ⟨ret_bool (by rw [OK.out]; rfl), bel_al3 _ _ _ _⟩
  go_wp2_with fail
  refine (areOne _ _ _ _ _ _ (by simp)).mono ?_
  rintro e w' ⟨rfl, rfl⟩
  rw [H3.out]
  cases q3
  · go_wp2
    go_ret
    exact ⟨ret_bool (by rw [OK.out]; rfl), Below.then' (bel_al3 _ _ _ _) (bel_al1 _ _)⟩
  go_wp2_with fail
  refine (areFlatIds_any _ _ _ x.Flats _ (HI.out.below (Below.then' (bel_al3 _ _ _ _) (bel_al1 _ _)))).mono ?_
  rintro e w2 ⟨rfl, hb⟩
  have B := Lib.hid (Below.then' (Below.then' (bel_al3 _ _ _ _) (bel_al1 _ _)) hb)
  clear hb
  go_wp2
  go_ret
  exact ⟨ret_bool (by rw [OK.out]; rfl), B.out⟩
set_option maxHeartbeats 3200000 in
theorem fitsInto_any (f : VFlat) (x : VDrawer) (h : Hd) (w : World) :
    Calls Try.prog 84 #[.agg #[.int .i64 f.Id, .int .i64 f.Wide, .int .i64 f.High, .int .i64 f.Grams], .agg #[.int .i64 x.Id, .int .i64 x.Wide, .int .i64 x.High, .int .i64 x.Holds, .slice h.a h.n h.c]] w fun e w' => e = .returned (.bool (fitsB f x)) ∧ Below w.heap.size w w' := by
  obtain ⟨q, hq⟩ : ∃ q, fitsB f x = q := ⟨_, rfl⟩
  rw [hq]
  unfold fitsB at hq
  by_cases h1 : f.Wide ≤ x.Wide <;> by_cases h2 : f.High ≤ x.High <;> by_cases h3 : f.High ≤ x.Wide <;> by_cases h4 : f.Wide ≤ x.High
  all_goals try (exfalso; omega)
  all_goals
    simp only [h1, h2, h3, h4, decide_true, decide_false, Bool.and_true, Bool.and_false, Bool.or_true, Bool.or_false] at hq
    subst hq
    go_enter Try.func84, Try.ntmps84
    go_wp2
    go_ret
    exact ⟨rfl, bel_al2 _ _ _⟩
end Go.Proofs.Ytldanejdnbfbjaa
namespace Go.Proofs.Ytldanejdnbfbjaa
open Go.RowKit
theorem list_atFlat {xs : List VFlat} {len k : Nat} (hl : Hid (len = xs.length)) (hk : k < len) : ∃ s, xs[k]? = some s := ⟨xs[k]'(by have := hl.out; omega), List.getElem?_eq_getElem _⟩
theorem made_ownFlat (w : World) (base : Nat) (h : base ≤ w.heap.size) : (w.alloc (.cells #[] 40)).ownsRow base 40 4 (.slice (some ⟨w.heap.size, 0, none⟩) 0 0) ([] : List VFlat).length (cellsFlat []) :=
  World.ownsRow_made (base := base) (e := 40) (size := 4) w #[] 0 h (Nat.zero_le _) rfl
theorem one_Flat (xs : List VFlat) : ∀ u ∈ cellsFlat xs, u.oneCell' = true := by
  intro u hu
  obtain ⟨s, _, hs⟩ := List.mem_flatMap.1 hu
  exact s.vals_one u hs
set_option maxHeartbeats 1600000 in
set_option maxRecDepth 100000 in
/-- The index of the first element that a function value likes. -/
theorem idxFlat_any (K : FuncId) (caps : Array Value) (f : VFlat → Bool) (a : Option Addr) (len cap : Nat) (xs : List VFlat) (w : World) (h : IsFlatS w a len cap xs)
    (hcall : ∀ args W, (callFunc K args).run Try.prog W = .ok (.enter K args) W)
    (hf : ∀ W s, s ∈ xs → Below w.heap.size w W → Calls Try.prog K (#[.agg #[.int .i64 s.Id, .int .i64 s.Wide, .int .i64 s.High, .int .i64 s.Grams]] ++ caps) W fun e w' => e = .returned (.bool (f s)) ∧ Below W.heap.size W w') :
    Calls Try.prog 120 #[.slice a len cap, .func (.func K) #[] caps] w fun e w' => e = .returned (.int .i64 (firstOf f xs)) ∧ Below w.heap.size w w' := by
  have hm := h.2.2.1
  have hcl := h.2.1
  unfold maxLen at hm
  have S := Lib.hid h
  have L := Lib.hid h.1
  have F := Lib.hid hf
  clear h hf
  go_enter Try.func120, Try.ntmps120
  go_wp2
  go_loopw [8, 5] (fun i _ wr => ∃ k : Nat, k ≤ len ∧ i = .int .i64 k ∧ Below w.heap.size w wr ∧ ∀ (j : Nat) t, j < k → xs[j]? = some t → f t = false) (fun i _ _ => len - (intOf i).toNat)
  case atStart => exact ⟨0, Nat.zero_le _, rfl, Below.refl _ _, by omega⟩
  case round =>
    obtain ⟨k, hk, rfl, hbel, hall⟩ := hrel
    have A := Lib.hid hall
    have B := Lib.hid hbel
    clear hall
    by_cases hlt : k < len
    · obtain ⟨s, hs⟩ := list_atFlat L hlt
      obtain ⟨b, o, rfl, hb, hat⟩ := (S.out.below hbel).at (by omega)
      obtain ⟨c0, c1, c2, c3⟩ := hat k s hs
      have X := Lib.hid hs
      clear hs hat hbel
      go_wp2_with fail
      refine (F.out wr s (List.mem_of_getElem? X.out) B.out).mono ?_
      rintro e w1 ⟨rfl, hb1⟩
      have B1 := Lib.hid (Below.then' B.out hb1)
      clear hb1
      by_cases hfs : f s = true
      · have FS := Lib.hid hfs
        rw [hfs]
        clear hfs
        go_wp2
        go_ret
        exact ⟨ret_int (firstOf_at X.out FS.out A.out).symm, B1.out⟩
      · have hfs' : f s = false := by simpa using hfs
        have FS := Lib.hid hfs'
        rw [hfs']
        clear hfs hfs'
        go_wp2
        go_roundw
        case rel => exact ⟨k + 1, by omega, by go_num, B1.out, fun j t hj ht => by
          by_cases e : j = k
          · subst e; rw [X.out] at ht; cases ht; exact FS.out
          · exact A.out j t (by omega) ht⟩
        case measure => simp [intOf]; omega
    · obtain rfl : k = len := by omega
      clear hbel
      go_wp2
      go_ret
      exact ⟨ret_int (firstOf_no fun j t hj ht => A.out j t (by have := L.out; omega) ht).symm, B.out⟩
/-- A call of a function value enters the function. -/
theorem callf_ofFlat {P : Program} {K : FuncId} {fn : Func} (hf : P.funcs[K]? = some fn) (h1 : (fn.name == "runtime.NumGoroutine") = false) (h2 : fn.body.isNone = false) : ∀ args W, (callFunc K args).run P W = .ok (.enter K args) W := by
  intro args W
  have h1' : ¬ fn.name = "runtime.NumGoroutine" := by simpa using h1
  have h2' : ¬ fn.body = none := by intro h; rw [h] at h2; cases h2
  simp [callFunc, go_sem, hf, h1', h2']
end Go.Proofs.Ytldanejdnbfbjaa
namespace Go.Proofs.Ytldanejdnbfbjaa
open Go.RowKit
set_option maxHeartbeats 3200000 in
set_option maxRecDepth 100000 in
/-- The index of the first element that a function value likes. -/
theorem idxInt_any (K : FuncId) (caps : Array Value) (f : Int → Bool) (a : Option Addr) (len cap : Nat) (xs : List Int) (w : World) (h : IsInts w a len cap xs)
    (hcall : ∀ args W, (callFunc K args).run Try.prog W = .ok (.enter K args) W)
    (hf : ∀ (W : World) (s : Int), s ∈ xs → Below w.heap.size w W → Calls Try.prog K (#[.int .i64 s] ++ caps) W fun e w' => e = .returned (.bool (f s)) ∧ Below W.heap.size W w') :
    Calls Try.prog 124 #[.slice a len cap, .func (.func K) #[] caps] w fun e w' => e = .returned (.int .i64 (firstOf f xs)) ∧ Below w.heap.size w w' := by
  have hm := h.2.2.1
  have hcl := h.2.1
  unfold maxLen at hm
  have S := Lib.hid h
  have L := Lib.hid h.1
  have F := Lib.hid hf
  clear h hf
  go_enter Try.func124, Try.ntmps124
  go_wp2
  go_loopw [8, 5] (fun i _ wr => ∃ k : Nat, k ≤ len ∧ i = .int .i64 k ∧ Below w.heap.size w wr ∧ ∀ (j : Nat) t, j < k → xs[j]? = some t → f t = false) (fun i _ _ => len - (intOf i).toNat)
  case atStart => exact ⟨0, Nat.zero_le _, rfl, Below.refl _ _, by omega⟩
  case round =>
    obtain ⟨k, hk, rfl, hbel, hall⟩ := hrel
    have A := Lib.hid hall
    have B := Lib.hid hbel
    clear hall
    by_cases hlt : k < len
    · obtain ⟨s, hs⟩ := el_at L hlt
      obtain ⟨b, o, rfl, hb, hat⟩ := (S.out.below hbel).at (by omega)
      have c0 := hat k s hs
      have X := Lib.hid hs
      clear hs hat hbel
      go_wp2_with fail
      refine (F.out wr s (List.mem_of_getElem? X.out) B.out).mono ?_
      rintro e w1 ⟨rfl, hb1⟩
      have B1 := Lib.hid (Below.then' B.out hb1)
      clear hb1
      by_cases hfs : f s = true
      · have FS := Lib.hid hfs
        rw [hfs]
        clear hfs
        go_wp2
        go_ret
        exact ⟨ret_int (firstOf_at X.out FS.out A.out).symm, B1.out⟩
      · have hfs' : f s = false := by simpa using hfs
        have FS := Lib.hid hfs'
        rw [hfs']
        clear hfs hfs'
        go_wp2
        go_roundw
        case rel => exact ⟨k + 1, by omega, by go_num, B1.out, fun j t hj ht => by
          by_cases e : j = k
          · subst e; rw [X.out] at ht; cases ht; exact FS.out
          · exact A.out j t (by omega) ht⟩
        case measure => simp [intOf]; omega
    · obtain rfl : k = len := by omega
      clear hbel
      go_wp2
      go_ret
      exact ⟨ret_int (firstOf_no fun j t hj ht => A.out j t (by have := L.out; omega) ht).symm, B.out⟩
end Go.Proofs.Ytldanejdnbfbjaa
namespace Go.Proofs.Ytldanejdnbfbjaa
open Go.RowKit

theorem getD_of {zs : List Int} {j : Nat} (h : j < zs.length) : zs[j]? = some (zs.getD j 0) := by
  rw [List.getD_eq_getElem?_getD, List.getElem?_eq_getElem h]; rfl
theorem hasB_contains (x : Int) (zs : List Int) : hasB x zs = zs.contains x := by
  rw [Bool.eq_iff_iff, hasB_iff, List.contains_iff_mem]
theorem contains_any (a : Option Addr) (len cap : Nat) (zs : List Int) (x : Int) (w : World) (h : IsInts w a len cap zs) :
    Calls Try.prog 123 #[.slice a len cap, .int .i64 x] w fun e w' => e = .returned (.bool (hasB x zs)) ∧ w = w' := by
  have hm := h.2.2.1
  unfold maxLen at hm
  by_cases h0 : len = 0
  · subst h0
    have : zs = [] := List.length_eq_zero_iff.1 h.1.symm
    subst this
    exact (Try.slices_Contains_int_empty a cap x w).mono fun e w' ⟨h1, h2⟩ => ⟨h1, h2.symm⟩
  · obtain ⟨b, o, rfl, _, hat⟩ := h.at (by omega)
    refine (Try.slices_Contains_int b o len cap zs x w (by have := h.1; omega) (by have := h.2.1; omega) (fun j hj => hat j _ (getD_of hj))).mono fun e w' ⟨h1, h2⟩ => ⟨?_, h2.symm⟩
    rw [h1, List.take_of_length_le (by have := h.1; omega), hasB_contains]
theorem flatIdx_any (f : VFlat) (id : Int) (b : Nat) (w : World) (h : w.cell? ⟨b, 0, none⟩ = some (.int .i64 id)) :
    Calls Try.prog 121 #[.agg #[.int .i64 f.Id, .int .i64 f.Wide, .int .i64 f.High, .int .i64 f.Grams], .pointer (some ⟨b, 0, none⟩)] w fun e w' => e = .returned (.bool (f.Id == id)) ∧ Below w.heap.size w w' := by
  have g := cell_stay h (bel_al1 w (.cells #[.int .i64 f.Id, .int .i64 f.Wide, .int .i64 f.High, .int .i64 f.Grams] 40))
  clear h
  go_enter Try.func121, Try.ntmps121
  go_wp2
  go_ret
  exact ⟨rfl, bel_al1 _ _⟩
set_option maxHeartbeats 1600000 in
theorem indexOfFlat_any (a : Option Addr) (len cap : Nat) (xs : List VFlat) (id : Int) (w : World) (h : IsFlatS w a len cap xs) :
    Calls Try.prog 75 #[.slice a len cap, .int .i64 id] w fun e w' => e = .returned (.int .i64 (flatI xs id)) ∧ Below w.heap.size w w' := by
  have b1 := bel_al1 w (.cells #[.int .i64 id] 3)
  have S := Lib.hid (h.below b1)
  have C := Lib.hid (cell_box w (.int .i64 id) 3 _ rfl)
  have B1 := Lib.hid b1
  clear h b1
  go_enter Try.func75, Try.ntmps75
  go_wp2_with fail
  refine (idxFlat_any 121 #[.pointer (some ⟨w.heap.size, 0, none⟩)] (fun f => f.Id == id) a len cap xs _ S.out (enters_fn Try.func121 (by kernel_rfl) (by kernel_rfl)) (fun W s _ hW => by
    have h1 := flatIdx_any s id w.heap.size W (cell_stay C.out hW)
    simpa using h1)).mono ?_
  rintro e w1 ⟨rfl, hb⟩
  have B := Lib.hid (Below.then' B1.out hb)
  clear hb
  go_wp2
  go_ret
  exact ⟨rfl, B.out⟩
theorem drawIdx_any (x : VDrawer) (h : Hd) (id : Int) (b : Nat) (w : World) (hc : w.cell? ⟨b, 0, none⟩ = some (.int .i64 id)) :
    Calls Try.prog 110 #[.agg #[.int .i64 x.Id, .int .i64 x.Wide, .int .i64 x.High, .int .i64 x.Holds, .slice h.a h.n h.c], .pointer (some ⟨b, 0, none⟩)] w fun e w' => e = .returned (.bool (x.Id == id)) ∧ Below w.heap.size w w' := by
  have g := cell_stay hc (bel_al1 w (.cells #[.int .i64 x.Id, .int .i64 x.Wide, .int .i64 x.High, .int .i64 x.Holds, .slice h.a h.n h.c] 42))
  clear hc
  go_enter Try.func110, Try.ntmps110
  go_wp2
  go_ret
  exact ⟨rfl, bel_al1 _ _⟩
set_option maxHeartbeats 1600000 in
theorem indexOfDrawer_any (a : Option Addr) (len cap : Nat) (xs : List VDrawer) (id : Int) (w : World) (h : IsDrawerS w a len cap xs) :
    Calls Try.prog 63 #[.slice a len cap, .int .i64 id] w fun e w' => e = .returned (.int .i64 (drawI xs id)) ∧ Below w.heap.size w w' := by
  have b1 := bel_al1 w (.cells #[.int .i64 id] 3)
  have S := Lib.hid (h.below b1)
  have C := Lib.hid (cell_box w (.int .i64 id) 3 _ rfl)
  have B1 := Lib.hid b1
  clear h b1
  go_enter Try.func63, Try.ntmps63
  go_wp2_with fail
  refine (idxDrawer_any 110 #[.pointer (some ⟨w.heap.size, 0, none⟩)] (fun d => d.Id == id) a len cap xs _ S.out (enters_fn Try.func110 (by kernel_rfl) (by kernel_rfl)) (fun W s hd _ _ hW => by
    have h1 := drawIdx_any s hd id w.heap.size W (cell_stay C.out hW)
    simpa using h1)).mono ?_
  rintro e w1 ⟨rfl, hb⟩
  have B := Lib.hid (Below.then' B1.out hb)
  clear hb
  go_wp2
  go_ret
  exact ⟨rfl, B.out⟩
theorem holdIdx_any (x : VDrawer) (h : Hd) (id : Int) (b : Nat) (w : World) (hc : w.cell? ⟨b, 0, none⟩ = some (.int .i64 id)) (hi : IsInts w h.a h.n h.c x.Flats) :
    Calls Try.prog 122 #[.agg #[.int .i64 x.Id, .int .i64 x.Wide, .int .i64 x.High, .int .i64 x.Holds, .slice h.a h.n h.c], .pointer (some ⟨b, 0, none⟩)] w fun e w' => e = .returned (.bool (hasB id x.Flats)) ∧ Below w.heap.size w w' := by
  have b1 := bel_al1 w (.cells #[.int .i64 x.Id, .int .i64 x.Wide, .int .i64 x.High, .int .i64 x.Holds, .slice h.a h.n h.c] 42)
  have g := cell_stay hc b1
  have HI := Lib.hid (hi.below b1)
  clear hc hi b1
  go_enter Try.func122, Try.ntmps122
  go_wp2_with fail
  refine (contains_any _ _ _ x.Flats id _ HI.out).mono ?_
  rintro e w1 ⟨rfl, rfl⟩
  go_wp2
  go_ret
  exact ⟨rfl, bel_al1 _ _⟩
set_option maxHeartbeats 1600000 in
theorem indexOfHolder_any (a : Option Addr) (len cap : Nat) (xs : List VDrawer) (id : Int) (w : World) (h : IsDrawerS w a len cap xs) :
    Calls Try.prog 76 #[.slice a len cap, .int .i64 id] w fun e w' => e = .returned (.int .i64 (holdI xs id)) ∧ Below w.heap.size w w' := by
  have b1 := bel_al1 w (.cells #[.int .i64 id] 3)
  have S := Lib.hid (h.below b1)
  have C := Lib.hid (cell_box w (.int .i64 id) 3 _ rfl)
  have B1 := Lib.hid b1
  clear h b1
  go_enter Try.func76, Try.ntmps76
  go_wp2_with fail
  refine (idxDrawer_any 122 #[.pointer (some ⟨w.heap.size, 0, none⟩)] (fun d => hasB id d.Flats) a len cap xs _ S.out (enters_fn Try.func122 (by kernel_rfl) (by kernel_rfl)) (fun W s hd _ hi hW => by
    have h1 := holdIdx_any s hd id w.heap.size W (cell_stay C.out hW) hi
    simpa using h1)).mono ?_
  rintro e w1 ⟨rfl, hb⟩
  have B := Lib.hid (Below.then' B1.out hb)
  clear hb
  go_wp2
  go_ret
  exact ⟨rfl, B.out⟩
/-! The grams of a drawer. -/
theorem gramsL_take {fs : List VFlat} {k : Nat} {f : VFlat} (h : fs[k]? = some f) (ids : List Int) : gramsL (fs.take (k + 1)) ids = gramsL (fs.take k) ids + (if hasB f.Id ids = true then f.Grams else 0) := by
  unfold gramsL
  rw [List.take_add_one, h, List.filter_append, List.map_append, sumI_app]
  cases e : hasB f.Id ids <;> simp [e, sumI]
theorem ok_take {fs : List VFlat} (h : ∀ f ∈ fs, VFlat.ok f = true) (k : Nat) : ∀ f ∈ fs.take k, VFlat.ok f = true := fun f hf => h f (List.mem_of_mem_take hf)
theorem ok_grams {f : VFlat} (h : VFlat.ok f = true) : 1 ≤ f.Grams ∧ f.Grams ≤ 5000 := by
  unfold VFlat.ok at h
  simp [inB_iff] at h
  exact h.2.2.2
set_option maxHeartbeats 3200000 in
set_option maxRecDepth 100000 in
theorem gramsOf_any (a : Option Addr) (len cap : Nat) (xs : List VFlat) (x : VDrawer) (hd : Hd) (w : World) (h : IsFlatS w a len cap xs) (hi : IsInts w hd.a hd.n hd.c x.Flats) (hok : ∀ f ∈ xs, VFlat.ok f = true) (hl : xs.length ≤ 1000) :
    Calls Try.prog 77 #[.slice a len cap, .agg #[.int .i64 x.Id, .int .i64 x.Wide, .int .i64 x.High, .int .i64 x.Holds, .slice hd.a hd.n hd.c]] w fun e w' => e = .returned (.int .i64 (gramsL xs x.Flats)) ∧ Below w.heap.size w w' := by
  obtain rfl := h.1
  have hm := h.2.2.1
  have hcl := h.2.1
  unfold maxLen at hm
  have b1 := bel_al1 w (.cells #[.int .i64 x.Id, .int .i64 x.Wide, .int .i64 x.High, .int .i64 x.Holds, .slice hd.a hd.n hd.c] 42)
  have S := Lib.hid (h.below b1)
  have HI := Lib.hid (hi.below b1)
  have X := Lib.hid (BoxDrawer.new w 42 ⟨x, hd⟩ _ rfl)
  have B1 := Lib.hid b1
  have OK := Lib.hid hok
  clear h hi b1 hok
  have SZ := Lib.hid (size_al w (.cells #[.int .i64 x.Id, .int .i64 x.Wide, .int .i64 x.High, .int .i64 x.Holds, .slice hd.a hd.n hd.c] 42))
  go_enter Try.func77, Try.ntmps77
  go_wp2
  go_loopw [5, 10] (fun q i wr => ∃ k : Nat, k ≤ xs.length ∧ i = .int .i64 k ∧ q = .int .i64 (gramsL (xs.take k) x.Flats) ∧ Below (w.heap.size + 1) (w.alloc (.cells #[.int .i64 x.Id, .int .i64 x.Wide, .int .i64 x.High, .int .i64 x.Holds, .slice hd.a hd.n hd.c] 42)) wr) (fun _ i _ => xs.length - (intOf i).toNat)
  case atStart => exact ⟨0, Nat.zero_le _, rfl, rfl, Below.refl _ _⟩
  case round =>
    obtain ⟨k, hk, rfl, rfl, hbel⟩ := hrel
    have hbel : Below ((w.alloc (.cells #[.int .i64 x.Id, .int .i64 x.Wide, .int .i64 x.High, .int .i64 x.Holds, .slice hd.a hd.n hd.c] 42)).heap.size) (w.alloc (.cells #[.int .i64 x.Id, .int .i64 x.Wide, .int .i64 x.High, .int .i64 x.Holds, .slice hd.a hd.n hd.c] 42)) wr := by rw [SZ.out]; exact hbel
    have B := Lib.hid hbel
    have gb := gramsL_bd (ok_take OK.out k) x.Flats
    have hlk := List.length_take_le k xs
    by_cases hlt : k < xs.length
    · obtain ⟨f, hf⟩ : ∃ f, xs[k]? = some f := ⟨xs[k]'hlt, List.getElem?_eq_getElem _⟩
      obtain ⟨b, o, rfl, hb, hat⟩ := (S.out.below hbel).at (by omega)
      obtain ⟨c0, c1, c2, c3⟩ := hat k f hf
      have bw := Below.then' hbel (bel_al1 wr (.cells #[.int .i64 f.Id, .int .i64 f.Wide, .int .i64 f.High, .int .i64 f.Grams] 40))
      obtain ⟨e0, e1, e2, e3, e4⟩ := X.out.below bw
      have HI2 := Lib.hid (HI.out.below bw)
      have GT := Lib.hid (gramsL_take hf x.Flats)
      have gf := ok_grams (OK.out f (List.mem_of_getElem? hf))
      obtain ⟨y, hy⟩ : ∃ y, gramsL (xs.take k) x.Flats = y := ⟨_, rfl⟩
      rw [hy] at gb
      have HY := Lib.hid hy
      rw [hy]
      have BW := Lib.hid bw
      clear hbel hf hat hy bw
      go_wp2_with fail
      refine (contains_any _ _ _ x.Flats f.Id _ HI2.out).mono ?_
      rintro e w1 ⟨rfl, rfl⟩
      cases hq : hasB f.Id x.Flats with
      | true =>
        have Q := Lib.hid hq
        clear hq
        go_wp2
        go_roundw
        case rel => exact ⟨k + 1, by omega, by go_num, int_eq (by rw [GT.out, HY.out, if_pos Q.out]), by rw [← SZ.out]; exact BW.out⟩
        case measure => simp [intOf]; omega
      | false =>
        have Q := Lib.hid hq
        clear hq
        go_wp2
        go_roundw
        case rel => exact ⟨k + 1, by omega, by go_num, int_eq (by rw [GT.out, HY.out, if_neg (by rw [Q.out]; simp)]; omega), by rw [← SZ.out]; exact BW.out⟩
        case measure => simp [intOf]; omega
    · obtain rfl : k = xs.length := by omega
      clear hbel
      go_wp2
      go_ret
      exact ⟨ret_int (by rw [List.take_of_length_le (Nat.le_refl _)]), Below.then' B1.out B.out⟩
end Go.Proofs.Ytldanejdnbfbjaa
namespace Go.Proofs.Ytldanejdnbfbjaa
open Go.RowKit

set_option maxHeartbeats 12800000 in
set_option maxRecDepth 100000 in
theorem isRightAlone_any (a : Option Addr) (len cap : Nat) (xs : List VFlat) (x : VDrawer) (hd : Hd) (w : World) (h : IsFlatS w a len cap xs) (hi : IsInts w hd.a hd.n hd.c x.Flats) (hok : ∀ f ∈ xs, VFlat.ok f = true) (hl : xs.length ≤ 1000) :
    Calls Try.prog 94 #[.slice a len cap, .agg #[.int .i64 x.Id, .int .i64 x.Wide, .int .i64 x.High, .int .i64 x.Holds, .slice hd.a hd.n hd.c]] w fun e w' => e = .returned (.bool (rightB xs x)) ∧ Below w.heap.size w w' := by
  obtain rfl := h.1
  have hm := h.2.2.1
  have hcl := h.2.1
  unfold maxLen at hm
  have hm2 := hi.2.2.1
  have hcl2 := hi.2.1
  unfold maxLen at hm2
  have S := Lib.hid h
  have HI := Lib.hid hi
  have B1 := Lib.hid (bel_al1 w (.cells #[.int .i64 x.Id, .int .i64 x.Wide, .int .i64 x.High, .int .i64 x.Holds, .slice hd.a hd.n hd.c] 42))
  have X := Lib.hid (BoxDrawer.new w 42 ⟨x, hd⟩ _ rfl)
  have SZ := Lib.hid (size_al w (.cells #[.int .i64 x.Id, .int .i64 x.Wide, .int .i64 x.High, .int .i64 x.Holds, .slice hd.a hd.n hd.c] 42))
  have OK := Lib.hid hok
  have HL := Lib.hid hi.1
  clear h hi hok
  go_enter Try.func94, Try.ntmps94
  go_wp2
  go_loopw [11] (fun i wr => ∃ k : Nat, k ≤ hd.n ∧ i = .int .i64 k ∧ (∀ (j : Nat) id, j < k → x.Flats[j]? = some id → fitsId xs x id = true) ∧ Below w.heap.size w wr ∧ BoxDrawer wr w.heap.size ⟨x, hd⟩) (fun i _ => hd.n - (intOf i).toNat)
  case atStart => exact ⟨0, Nat.zero_le _, rfl, fun _ _ h => by omega, B1.out, X.out⟩
  case round =>
    obtain ⟨k, hk, rfl, hall, hbel, hbox⟩ := hrel
    have A := Lib.hid hall
    have B := Lib.hid hbel
    have BX := Lib.hid hbox
    clear hall
    by_cases hlt : k < hd.n
    · obtain ⟨id, hid⟩ := el_at HL hlt
      obtain ⟨b, o, eh, hb, hat⟩ := (HI.out.below hbel).at (by omega)
      have c0 := hat k id hid
      rw [eh]
      obtain ⟨d0, d1, d2, d3, d4⟩ := hbox
      have K := Lib.hid hid
      have EH := Lib.hid eh
      have SB := Lib.hid (S.out.below hbel)
      clear hid hat hbel eh
      go_wp2_with fail
      refine (indexOfFlat_any _ _ _ xs id _ SB.out).mono ?_
      rintro e w2 ⟨rfl, hb2⟩
      have B2 := Lib.hid (Below.then' B.out hb2)
      have BX2 := Lib.hid (BX.out.below hb2)
      have SB2 := Lib.hid (SB.out.below hb2)
      clear hb2 c0 d0 d1 d2 d3 d4
      by_cases hneg : flatI xs id < 0
      · have NO := Lib.hid (show rightB xs x = false from by
          unfold rightB
          have h1 := (flat_no hneg).2
          rw [Bool.and_eq_false_iff]
          refine .inl (List.all_eq_false.2 ⟨id, List.mem_of_getElem? K.out, ?_⟩)
          unfold fitsId; rw [h1]; simp)
        obtain ⟨y, hy⟩ : ∃ y, flatI xs id = y := ⟨_, rfl⟩
        rw [hy] at hneg ⊢
        have hdec : decide (y < 0) = true := by simpa using hneg
        clear hy
        go_wp2
        refine wp_region_quiet_below (by kernel_rfl) (by kernel_rfl) ?_
        repeat (first | go_big_quiet_step (fail) | quiet_step (fail))
        refine wpQuiet_nil ?_
        intro W2 hw2
        have B3 := Lib.hid (Below.then' B2.out (below_of_re hw2))
        clear hw2
        go_wp2
        go_ret
        exact ⟨ret_bool NO.out.symm, B3.out⟩
      · obtain ⟨i, f, hfi, hf, hof, hfid⟩ := flat_at (show 0 ≤ flatI xs id by omega)
        obtain ⟨bf, of, rfl, hbf, hatf⟩ := SB2.out.at (by have := (List.getElem?_eq_some_iff.1 hf).1; omega)
        obtain ⟨c0, c1, c2, c3⟩ := hatf i f hf
        have hil := (List.getElem?_eq_some_iff.1 hf).1
        obtain ⟨d0, d1, d2, d3, d4⟩ := BX2.out
        have k0 := cell_regrown c0
        have k1 := cell_regrown c1
        have k2 := cell_regrown c2
        have k3 := cell_regrown c3
        have l0 := cell_regrown d0
        have l1 := cell_regrown d1
        have l2 := cell_regrown d2
        have l3 := cell_regrown d3
        have l4 := cell_regrown d4
        rw [hfi]
        have hdec : decide ((i : Int) < 0) = false := by simp
        have i0 : (0 : Int) ≤ (i : Int) := by omega
        have i1 : (i : Int) < (xs.length : Int) := by omega
        obtain ⟨q, hq⟩ : ∃ q, fitsB f x = q := ⟨_, rfl⟩
        have cQ := below_at (W := w2) (fun W' _ => hq ▸ fitsInto_any f x hd W')
        have FI := Lib.hid (show fitsId xs x id = q from by unfold fitsId; rw [hof]; exact hq)
        clear c0 c1 c2 c3 d0 d1 d2 d3 d4 hf hatf hfi hneg hof hq hfid
        go_wp2
        refine wp_region_quiet_below (by kernel_rfl) (by kernel_rfl) ?_
        repeat (first | go_big_quiet_step (first | (with_reducible exact cQ _ _)) | quiet_step (first | (with_reducible exact cQ _ _)))
        refine wpQuiet_nil ?_
        intro W2 hw2
        have B3 := Lib.hid (Below.then' B2.out (below_of_re hw2))
        have BX3 := Lib.hid (BX2.out.below (below_of_re hw2))
        clear hw2 cQ k0 k1 k2 k3 l0 l1 l2 l3 l4
        cases q with
        | true =>
          go_wp2
          go_roundw
          case rel => exact ⟨k + 1, by omega, by go_num, fun j z hj hz => by
            by_cases e : j = k
            · subst e; rw [K.out] at hz; cases hz; exact FI.out
            · exact A.out j z (by omega) hz, B3.out, BX3.out⟩
          case measure => simp [intOf]; omega
        | false =>
          have NO := Lib.hid (show rightB xs x = false from by
            unfold rightB
            rw [Bool.and_eq_false_iff]
            exact .inl (List.all_eq_false.2 ⟨id, List.mem_of_getElem? K.out, by rw [FI.out]; simp⟩))
          go_wp2
          go_ret
          exact ⟨ret_bool NO.out.symm, B3.out⟩
    · obtain rfl : k = hd.n := by omega
      obtain ⟨d0, d1, d2, d3, d4⟩ := hbox
      have l0 := cell_regrown d0
      have l1 := cell_regrown d1
      have l2 := cell_regrown d2
      have l3 := cell_regrown d3
      have l4 := cell_regrown d4
      obtain ⟨g, hg⟩ : ∃ g, gramsL xs x.Flats = g := ⟨_, rfl⟩
      have cQ := below_at (W := wr) (fun W' hbW => hg ▸ gramsOf_any a xs.length cap xs x hd W' (S.out.below (Below.then' B.out hbW)) (HI.out.below (Below.then' B.out hbW)) OK.out hl)
      have R := Lib.hid (show rightB xs x = decide (g ≤ x.Holds) from by
        unfold rightB
        rw [hg, List.all_eq_true.2 fun id hid => by
          obtain ⟨j, hj⟩ := List.getElem?_of_mem hid
          exact A.out j id (by have := HL.out; have := (List.getElem?_eq_some_iff.1 hj).1; omega) hj]
        rfl)
      clear hg hbel d0 d1 d2 d3 d4
      go_wp2
      refine wp_region_quiet_below (by kernel_rfl) (by kernel_rfl) ?_
      repeat (first | go_big_quiet_step (first | (with_reducible exact cQ _ _)) | quiet_step (first | (with_reducible exact cQ _ _)))
      refine wpQuiet_nil ?_
      intro W2 hw2
      have B3 := Lib.hid (Below.then' B.out (below_of_re hw2))
      clear hw2 cQ l0 l1 l2 l3 l4
      go_wp2
      go_ret
      exact ⟨ret_bool R.out.symm, B3.out⟩
end Go.Proofs.Ytldanejdnbfbjaa
namespace Go.Proofs.Ytldanejdnbfbjaa
open Go.RowKit

theorem firstOf_any {α : Type} (f : α → Bool) (xs : List α) : decide (0 ≤ firstOf f xs) = xs.any f := by
  rcases find_first f xs with ⟨h1, h2⟩ | ⟨i, s, h1, h2, _, h4⟩
  · rw [h1]
    have : xs.any f = false := by
      rw [List.any_eq_false]
      exact fun x hx => by have := List.find?_eq_none.1 h2 x hx; simpa using this
    rw [this]; rfl
  · rw [h1, List.any_eq_true.2 ⟨s, List.mem_of_getElem? h2, h4⟩]
    simp
set_option maxHeartbeats 1600000 in
theorem containsFunc_any (K : FuncId) (caps : Array Value) (f : Int → Bool) (a : Option Addr) (len cap : Nat) (zs : List Int) (w : World) (h : IsInts w a len cap zs)
    (hcall : ∀ args W, (callFunc K args).run Try.prog W = .ok (.enter K args) W)
    (hf : ∀ (W : World) (s : Int), s ∈ zs → Below w.heap.size w W → Calls Try.prog K (#[.int .i64 s] ++ caps) W fun e w' => e = .returned (.bool (f s)) ∧ Below W.heap.size W w') :
    Calls Try.prog 95 #[.slice a len cap, .func (.func K) #[] caps] w fun e w' => e = .returned (.bool (zs.any f)) ∧ Below w.heap.size w w' := by
  have S := Lib.hid h
  have F := Lib.hid hf
  obtain ⟨v, hv⟩ : ∃ v, firstOf f zs = v := ⟨_, rfl⟩
  have V := Lib.hid (show zs.any f = decide (0 ≤ v) from by rw [← firstOf_any, hv])
  have HV := Lib.hid hv
  clear h hf hv
  go_enter Try.func95, Try.ntmps95
  go_wp2_with fail
  refine (idxInt_any K caps f a len cap zs _ S.out hcall F.out).mono ?_
  rintro e w1 ⟨rfl, hb⟩
  rw [HV.out]
  have B := Lib.hid hb
  clear hb
  go_wp2
  go_ret
  exact ⟨ret_bool V.out.symm, B.out⟩
set_option maxHeartbeats 3200000 in
/-- Is a flat in one of the drawers before? -/
theorem inAnother_any (id : Int) (bl bi : Nat) (a : Option Addr) (n c k : Nat) (xs : List VDrawer) (w : World) (h1 : w.cell? ⟨bl, 0, none⟩ = some (.slice a n c)) (h2 : w.cell? ⟨bi, 0, none⟩ = some (.int .i64 (k : Int))) (h : IsDrawerS w a n c xs) (hk : k ≤ n) :
    Calls Try.prog 93 #[.int .i64 id, .pointer (some ⟨bl, 0, none⟩), .pointer (some ⟨bi, 0, none⟩)] w fun e w' => e = .returned (.bool (decide (0 ≤ holdI (xs.take k) id))) ∧ Below w.heap.size w w' := by
  have hm := h.2.2.1
  have hcl := h.2.1
  unfold maxLen at hm
  have S := Lib.hid (h.take hk)
  obtain ⟨v, hv⟩ : ∃ v, holdI (xs.take k) id = v := ⟨_, rfl⟩
  rw [hv]
  have HV := Lib.hid hv
  have k0 : (0 : Int) ≤ (k : Int) := by omega
  have k1 : (k : Int) ≤ (n : Int) := by omega
  have k2 : (k : Int) ≤ (c : Int) := by omega
  clear h hv
  go_enter Try.func93, Try.ntmps93
  cases a with
  | none =>
    have hc : (c : Int) = 0 ∨ (0 : Int) < (c : Int) := by omega
    go_wp2_with fail
    refine (indexOfHolder_any _ _ _ (xs.take k) id _ S.out).mono ?_
    rintro e w1 ⟨rfl, hb⟩
    rw [HV.out]
    have B := Lib.hid hb
    clear hb
    go_wp2
    go_ret
    exact ⟨rfl, B.out⟩
  | some ad =>
    go_wp2_with fail
    refine (indexOfHolder_any _ _ _ (xs.take k) id _ S.out).mono ?_
    rintro e w1 ⟨rfl, hb⟩
    rw [HV.out]
    have B := Lib.hid hb
    clear hb
    go_wp2
    go_ret
    exact ⟨rfl, B.out⟩
theorem good_bad {fs : List VFlat} {ds : List VDrawer} {i : Nat} (h : rightAt fs ds i = false) (hi : i < ds.length) : goodB fs ds = false := by
  unfold goodB
  rw [Bool.and_eq_false_iff, Bool.and_eq_false_iff]
  exact .inr (.inr (List.all_eq_false.2 ⟨i, List.mem_range.2 hi, by rw [h]; simp⟩))
set_option maxHeartbeats 12800000 in
set_option maxRecDepth 100000 in
theorem areDrawers_any (a : Option Addr) (len cap : Nat) (xs : List VFlat) (a1 : Option Addr) (len1 cap1 : Nat) (ds : List VDrawer) (w : World) (h : IsFlatS w a len cap xs) (h' : IsDrawerS w a1 len1 cap1 ds) :
    Calls Try.prog 32 #[.slice a len cap, .slice a1 len1 cap1] w fun e w' => e = .returned (.bool (goodB xs ds)) ∧ Below w.heap.size w w' := by
  have hm := h'.2.2.1
  have hcl := h'.2.1
  unfold maxLen at hm
  have b1 := bel_al1 w (.cells #[.slice a1 len1 cap1] 25)
  have S := Lib.hid (h.below b1)
  have D := Lib.hid (h'.below b1)
  have C := Lib.hid (cell_box w (.slice a1 len1 cap1) 25 _ rfl)
  have B1 := Lib.hid b1
  have DL := Lib.hid h'.1
  clear h h' b1
  go_enter Try.func32, Try.ntmps32
  go_wp2_with fail
  refine (areFlats_any _ _ _ xs _ S.out).mono ?_
  rintro e w1 ⟨rfl, hb⟩
  have B2 := Lib.hid (Below.then' B1.out hb)
  have S2 := Lib.hid (S.out.below hb)
  have D2 := Lib.hid (D.out.below hb)
  have c2 := cell_stay C.out hb
  have C2 := Lib.hid c2
  clear hb
  cases hf : flatsB xs with
  | false =>
    have NO := Lib.hid (show goodB xs ds = false from by unfold goodB; rw [hf]; rfl)
    clear hf
    go_wp2
    go_ret
    exact ⟨ret_bool NO.out.symm, B2.out⟩
  | true =>
  have HF := Lib.hid hf
  have hfl : xs.length ≤ 20 := by unfold flatsB at hf; simp at hf; exact hf.2
  have OK := Lib.hid (show ∀ f ∈ xs, VFlat.ok f = true from fun f hm => by
    unfold flatsB at hf
    rw [Bool.and_eq_true] at hf
    exact upB_ok hf.1 hm)
  clear hf
  go_wp2_with fail
  refine (byDrawer_any 83 92 VDrawer.ok VDrawer.Id 8 a1 len1 cap1 ds _ D2.out (enters_fn Try.func83 (by kernel_rfl) (by kernel_rfl)) (enters_fn Try.func92 (by kernel_rfl) (by kernel_rfl)) (fun W s hd _ hi => isDrawer_any s hd W hi) (fun W s hd => drawerId_any s hd W)).mono ?_
  rintro e w2 ⟨rfl, hb⟩
  have B3 := Lib.hid (Below.then' B2.out hb)
  have S3 := Lib.hid (S2.out.below hb)
  have D3 := Lib.hid (D2.out.below hb)
  have c3 := cell_stay C2.out hb
  have C3 := Lib.hid c3
  clear hb c2
  rw [show (upB VDrawer.ok VDrawer.Id ds && decide ((ds.length : Int) ≤ 8)) = listB ds from by unfold listB; rw [← len_le]; rfl]
  cases hl : listB ds with
  | false =>
    have NO := Lib.hid (show goodB xs ds = false from by unfold goodB; rw [hl]; simp)
    clear hl
    go_wp2
    go_ret
    exact ⟨ret_bool NO.out.symm, B3.out⟩
  | true =>
  have HL := Lib.hid hl
  clear hl
  go_wp2
  go_loopw [18] (fun i wr => ∃ k : Nat, k ≤ len1 ∧ i = .int .i64 k ∧ (∀ j, j < k → rightAt xs ds j = true) ∧ Below w.heap.size w wr ∧ Below w2.heap.size w2 wr) (fun i _ => len1 - (intOf i).toNat)
  case atStart => exact ⟨0, Nat.zero_le _, rfl, fun _ h => by omega, B3.out, Below.refl _ _⟩
  case round =>
    obtain ⟨k, hk, rfl, hall, hbel, hbel2⟩ := hrel
    have A := Lib.hid hall
    have B := Lib.hid hbel
    have BB := Lib.hid hbel2
    clear hall c3
    by_cases hlt : k < len1
    · obtain ⟨x, hx⟩ := el_at DL hlt
      obtain ⟨b, o, ea, hb, hat⟩ := (D3.out.below hbel2).at (by omega)
      obtain ⟨hd, c0, c1, c2, c3, c4, hin⟩ := hat k x hx
      rw [ea]
      have EA := Lib.hid ea
      have K := Lib.hid hx
      have bw := bel_al2 wr (.cells #[.int .i64 (k : Int)] 3) (.cells #[.int .i64 x.Id, .int .i64 x.Wide, .int .i64 x.High, .int .i64 x.Holds, .slice hd.a hd.n hd.c] 42)
      have CI := Lib.hid (cell_stay (cell_box wr (.int .i64 (k : Int)) 3 _ rfl) (bel_al1 _ (.cells #[.int .i64 x.Id, .int .i64 x.Wide, .int .i64 x.High, .int .i64 x.Holds, .slice hd.a hd.n hd.c] 42)))
      have CL := Lib.hid (cell_stay (cell_stay C3.out hbel2) bw)
      have SB := Lib.hid ((S3.out.below hbel2).below bw)
      have DB := Lib.hid ((D3.out.below hbel2).below bw)
      have HI := Lib.hid (hin.below bw)
      have BX := Lib.hid (BoxDrawer.new (wr.alloc (.cells #[.int .i64 (k : Int)] 3)) 42 ⟨x, hd⟩ (wr.heap.size + 1) (size_al _ _))
      have BW := Lib.hid (Below.then' B.out bw)
      have BW2 := Lib.hid (Below.then' BB.out bw)
      clear hx hat hbel hbel2 hin bw ea
      go_wp2_with fail
      refine (isRightAlone_any _ _ _ xs x hd _ SB.out HI.out OK.out (by omega)).mono ?_
      rintro e w5 ⟨rfl, hb5⟩
      have B5 := Lib.hid (Below.then' BW.out hb5)
      have B52 := Lib.hid (Below.then' BW2.out hb5)
      have HI5 := Lib.hid (HI.out.below hb5)
      have DB5 := Lib.hid (DB.out.below hb5)
      have CI5 := Lib.hid (cell_stay CI.out hb5)
      have CL5 := Lib.hid (cell_stay CL.out hb5)
      obtain ⟨e0, e1, e2, e3, e4⟩ := BX.out.below hb5
      clear hb5 c0 c1 c2 c3 c4
      cases hr : rightB xs x with
      | false =>
        have NO := Lib.hid (show goodB xs ds = false from good_bad (i := k) (by unfold rightAt; rw [K.out]; show (rightB xs x && _) = false; rw [hr]; rfl) (by have := DL.out; omega))
        clear hr
        go_wp2
        go_ret
        exact ⟨ret_bool NO.out.symm, B5.out⟩
      | true =>
        have HR := Lib.hid hr
        clear hr
        go_wp2_with fail
        refine (containsFunc_any 93 #[.pointer (some ⟨w.heap.size, 0, none⟩), .pointer (some ⟨wr.heap.size, 0, none⟩)] (fun id => decide (0 ≤ holdI (ds.take k) id)) _ _ _ x.Flats _ HI5.out (enters_fn Try.func93 (by kernel_rfl) (by kernel_rfl)) (fun W s _ hW => by
          have h1 := inAnother_any s w.heap.size wr.heap.size a1 len1 cap1 k ds W (cell_stay CL5.out hW) (cell_stay CI5.out hW) (DB5.out.below hW) hk
          simpa using h1)).mono ?_
        rintro e w6 ⟨rfl, hb6⟩
        have B6 := Lib.hid (Below.then' B5.out hb6)
        have B62 := Lib.hid (Below.then' B52.out hb6)
        clear hb6 e0 e1 e2 e3 e4
        have AP : apartB ds k x = !(x.Flats.any fun id => decide (0 ≤ holdI (ds.take k) id)) := by
          unfold apartB
          rw [List.not_any_eq_all_not]
          congr 1
          funext id
          by_cases h : holdI (ds.take k) id < 0
          · simp [h]
          · simp [h]; omega
        cases hq : x.Flats.any (fun id => decide (0 ≤ holdI (ds.take k) id)) with
        | true =>
          have NO := Lib.hid (show goodB xs ds = false from good_bad (i := k) (by unfold rightAt; rw [K.out]; show (rightB xs x && apartB ds k x) = false; rw [AP, hq]; simp) (by have := DL.out; omega))
          clear hq AP
          go_wp2
          go_ret
          exact ⟨ret_bool NO.out.symm, B6.out⟩
        | false =>
          have YES := Lib.hid (show rightAt xs ds k = true from by unfold rightAt; rw [K.out]; show (rightB xs x && apartB ds k x) = true; rw [AP, hq, HR.out]; rfl)
          clear hq AP
          go_wp2
          go_roundw
          case rel => exact ⟨k + 1, by omega, by go_num, all_more A.out YES.out, B6.out, B62.out⟩
          case measure => simp [intOf]; omega
    · obtain rfl : k = len1 := by omega
      have YES := Lib.hid (show goodB xs ds = true from by
        unfold goodB
        rw [HF.out, HL.out, List.all_eq_true.2 fun i hi => A.out i (by have := DL.out; have := List.mem_range.1 hi; omega)]
        rfl)
      clear hbel hbel2
      go_wp2
      go_ret
      exact ⟨ret_bool YES.out.symm, B.out⟩
end Go.Proofs.Ytldanejdnbfbjaa
namespace Go.Proofs.Ytldanejdnbfbjaa
open Go.RowKit

set_option maxHeartbeats 3200000 in
theorem implGramsIn_any (a : Option Addr) (len cap : Nat) (xs : List VFlat) (a1 : Option Addr) (len1 cap1 : Nat) (ds : List VDrawer) (id : Int) (w : World) (h : IsFlatS w a len cap xs) (h' : IsDrawerS w a1 len1 cap1 ds) :
    Calls Try.prog 25 #[.slice a len cap, .slice a1 len1 cap1, .int .i64 id] w (GramsIn_Post xs ds id w) := by
  have S := Lib.hid h
  have D := Lib.hid h'
  clear h h'
  go_enter Try.func25, Try.ntmps25
  go_wp2_with fail
  refine (areDrawers_any _ _ _ xs _ _ _ ds _ S.out D.out).mono ?_
  rintro e w1 ⟨rfl, hb⟩
  have B1 := Lib.hid hb
  have S1 := Lib.hid (S.out.below hb)
  have D1 := Lib.hid (D.out.below hb)
  clear hb
  cases hg : goodB xs ds with
  | false =>
    have E := Lib.hid (show GramsIn_1 xs ds id = false from by unfold GramsIn_1; rw [hg]; rfl)
    clear hg
    go_wp2
    go_ret2
    exact ⟨by unfold GramsIn_0; rw [E.out]; rfl, B1.out⟩
  | true =>
  have G := Lib.hid (good_iff.1 hg)
  have HG := Lib.hid hg
  clear hg
  go_wp2_with fail
  refine (indexOfDrawer_any _ _ _ ds id _ D1.out).mono ?_
  rintro e w2 ⟨rfl, hb⟩
  have B2 := Lib.hid (Below.then' B1.out hb)
  have S2 := Lib.hid (S1.out.below hb)
  have D2 := Lib.hid (D1.out.below hb)
  clear hb
  by_cases hneg : drawI ds id < 0
  · have E := Lib.hid (show GramsIn_1 xs ds id = false from by unfold GramsIn_1; rw [HG.out, decide_eq_false (by omega)]; rfl)
    obtain ⟨y, hy⟩ : ∃ y, drawI ds id = y := ⟨_, rfl⟩
    rw [hy] at hneg ⊢
    clear hy
    go_wp2
    go_ret2
    exact ⟨by unfold GramsIn_0; rw [E.out]; rfl, B2.out⟩
  · obtain ⟨i, d, hi, hd, hf, hid⟩ := draw_at (show 0 ≤ drawI ds id by omega)
    have E := Lib.hid (show GramsIn_1 xs ds id = true ∧ GramsIn_0 xs ds id = gramsL xs d.Flats from by
      have e1 : GramsIn_1 xs ds id = true := by unfold GramsIn_1; rw [HG.out, decide_eq_true (by omega)]; rfl
      refine ⟨e1, ?_⟩
      unfold GramsIn_0
      rw [if_pos e1, hf])
    have hil := (List.getElem?_eq_some_iff.1 hd).1
    have hdl := D2.out.1
    obtain ⟨b, o, rfl, hb, hat⟩ := D2.out.at (by omega)
    obtain ⟨q, c0, c1, c2, c3, c4, hin⟩ := hat i d hd
    have HI := Lib.hid hin
    have i0 : (0 : Int) ≤ (i : Int) := by omega
    have i1 : (i : Int) < (len1 : Int) := by omega
    rw [hi]
    clear hneg hi hd hf hid hat hin hdl
    go_wp2_with fail
    refine (gramsOf_any _ _ _ xs d q _ S2.out HI.out (fun f hf => upB_ok G.out.flats hf) (by have := G.out.fl; omega)).mono ?_
    rintro e w3 ⟨rfl, hb3⟩
    have B3 := Lib.hid (Below.then' B2.out hb3)
    clear hb3
    go_wp2
    go_ret2
    exact ⟨by rw [E.out.1, E.out.2]; rfl, B3.out⟩
set_option maxHeartbeats 3200000 in
theorem implDrawerOf_any (a : Option Addr) (len cap : Nat) (xs : List VFlat) (a1 : Option Addr) (len1 cap1 : Nat) (ds : List VDrawer) (id : Int) (w : World) (h : IsFlatS w a len cap xs) (h' : IsDrawerS w a1 len1 cap1 ds) :
    Calls Try.prog 24 #[.slice a len cap, .slice a1 len1 cap1, .int .i64 id] w (DrawerOf_Post xs ds id w) := by
  have S := Lib.hid h
  have D := Lib.hid h'
  clear h h'
  go_enter Try.func24, Try.ntmps24
  go_wp2_with fail
  refine (areDrawers_any _ _ _ xs _ _ _ ds _ S.out D.out).mono ?_
  rintro e w1 ⟨rfl, hb⟩
  have B1 := Lib.hid hb
  have S1 := Lib.hid (S.out.below hb)
  have D1 := Lib.hid (D.out.below hb)
  clear hb
  cases hg : goodB xs ds with
  | false =>
    have E := Lib.hid (show DrawerOf_1 xs ds id = false from by unfold DrawerOf_1; rw [hg]; rfl)
    clear hg
    go_wp2
    go_ret2
    exact ⟨by unfold DrawerOf_0; rw [E.out]; rfl, B1.out⟩
  | true =>
  have HG := Lib.hid hg
  clear hg
  go_wp2_with fail
  refine (indexOfFlat_any _ _ _ xs id _ S1.out).mono ?_
  rintro e w2 ⟨rfl, hb⟩
  have B2 := Lib.hid (Below.then' B1.out hb)
  have D2 := Lib.hid (D1.out.below hb)
  clear hb
  obtain ⟨y, hy⟩ : ∃ y, flatI xs id = y := ⟨_, rfl⟩
  rw [hy]
  by_cases hneg : y < 0
  · have E := Lib.hid (show DrawerOf_1 xs ds id = false from by unfold DrawerOf_1; rw [HG.out, decide_eq_false (by omega)]; rfl)
    clear hy
    go_wp2
    go_ret2
    exact ⟨by unfold DrawerOf_0; rw [E.out]; rfl, B2.out⟩
  · have E1 := Lib.hid (show DrawerOf_1 xs ds id = true from by unfold DrawerOf_1; rw [HG.out, decide_eq_true (by omega)]; rfl)
    clear hy
    go_wp2_with fail
    refine (indexOfHolder_any _ _ _ ds id _ D2.out).mono ?_
    rintro e w3 ⟨rfl, hb⟩
    have B3 := Lib.hid (Below.then' B2.out hb)
    have D3 := Lib.hid (D2.out.below hb)
    clear hb
    by_cases hn2 : holdI ds id < 0
    · have E0 := Lib.hid (show DrawerOf_0 xs ds id = 0 from by unfold DrawerOf_0; rw [if_pos E1.out, (hold_no hn2).2])
      obtain ⟨z, hz⟩ : ∃ z, holdI ds id = z := ⟨_, rfl⟩
      rw [hz] at hn2 ⊢
      clear hz
      go_wp2
      go_ret2
      exact ⟨by rw [E0.out, E1.out]; rfl, B3.out⟩
    · obtain ⟨i, d, hi, hd, hf, hm⟩ := hold_at (show 0 ≤ holdI ds id by omega)
      have E0 := Lib.hid (show DrawerOf_0 xs ds id = d.Id from by unfold DrawerOf_0; rw [if_pos E1.out, hf])
      have hil := (List.getElem?_eq_some_iff.1 hd).1
      have hdl := D3.out.1
      obtain ⟨b, o, rfl, hb, hat⟩ := D3.out.at (by omega)
      obtain ⟨q, c0, _⟩ := hat i d hd
      have i0 : (0 : Int) ≤ (i : Int) := by omega
      have i1 : (i : Int) < (len1 : Int) := by omega
      rw [hi]
      clear hn2 hi hd hf hm hat hdl
      go_wp2
      go_ret2
      exact ⟨by rw [E0.out, E1.out]; rfl, B3.out⟩
/-- A row of integers of the call's own, and the world below as it was. -/
def IntsPost (xs : List Int) (w : World) (e : Ending) (w' : World) : Prop := ∃ v, e = .returned v ∧ OwnIntS w.heap.size w'.heap.size w' v xs ∧ Below w.heap.size w w'
theorem filter_map_more {α : Type} {xs : List α} {k : Nat} {s : α} (f : α → Bool) (g : α → Int) (hs : xs[k]? = some s) : ((xs.take (k + 1)).filter f).map g = ((xs.take k).filter f).map g ++ (if f s = true then [g s] else []) := by
  rw [filter_snoc' f hs, List.map_append]
  split <;> rfl
theorem filter_map_len {α : Type} (f : α → Bool) (g : α → Int) (xs : List α) (k : Nat) : (((xs.take k).filter f).map g).length ≤ k := by
  rw [List.length_map]
  exact filter_len' f xs k
set_option maxHeartbeats 6400000 in
set_option maxRecDepth 100000 in
theorem drawersWhere_any (K : FuncId) (caps : Array Value) (f : VDrawer → Bool) (a : Option Addr) (len cap : Nat) (xs : List VDrawer) (w : World) (h : IsDrawerS w a len cap xs) (hl : xs.length ≤ 1000)
    (hcall : ∀ args W, (callFunc K args).run Try.prog W = .ok (.enter K args) W)
    (hf : ∀ (W : World) (s : VDrawer) (hd : Hd), s ∈ xs → IsInts W hd.a hd.n hd.c s.Flats → Below w.heap.size w W → Calls Try.prog K (#[.agg #[.int .i64 s.Id, .int .i64 s.Wide, .int .i64 s.High, .int .i64 s.Holds, .slice hd.a hd.n hd.c]] ++ caps) W fun e w' => e = .returned (.bool (f s)) ∧ Below W.heap.size W w') :
    Calls Try.prog 73 #[.slice a len cap, .func (.func K) #[] caps] w (IntsPost ((xs.filter f).map VDrawer.Id) w) := by
  obtain rfl := h.1
  obtain ⟨i0, hi, hz0, hz1, hz2⟩ := info_parts infoInt
  have hm := h.2.2.1
  have hcl := h.2.1
  unfold maxLen at hm
  have S := Lib.hid h
  have F := Lib.hid hf
  clear h hf
  go_enter Try.func73, Try.ntmps73
  go_wp2
  go_loopw [10, 5] (fun i o wr => ∃ k : Nat, k ≤ xs.length ∧ i = .int .i64 k ∧ wr.ownsRow w.heap.size 3 1 o (((xs.take k).filter f).map VDrawer.Id).length (intCells (((xs.take k).filter f).map VDrawer.Id)) ∧ Below w.heap.size w wr) (fun i _ _ => xs.length - (intOf i).toNat)
  case atStart => exact ⟨0, Nat.zero_le _, rfl, ⟨by simp [intCells], .inl ⟨rfl, rfl⟩⟩, Below.refl _ _⟩
  case round =>
    obtain ⟨k, hk, rfl, hown, hbel⟩ := hrel
    have B := Lib.hid hbel
    by_cases hlt : k < xs.length
    · obtain ⟨s, hs⟩ : ∃ s, xs[k]? = some s := ⟨xs[k]'hlt, List.getElem?_eq_getElem _⟩
      obtain ⟨b, o, rfl, hbw, hat⟩ := (S.out.below hbel).at (by omega)
      obtain ⟨hd, c0, c1, c2, c3, c4, hin⟩ := hat k s hs
      have FS := Lib.hid (filter_map_more f VDrawer.Id hs)
      have hgl := filter_map_len f VDrawer.Id xs k
      obtain ⟨G, hG⟩ : ∃ G, ((xs.take k).filter f).map VDrawer.Id = G := ⟨_, rfl⟩
      rw [hG] at hown FS hgl
      have O := Lib.hid hown
      obtain ⟨r, hr⟩ : ∃ r, f s = r := ⟨_, rfl⟩
      have RR := Lib.hid hr
      have bw := bel_al1 wr (.cells #[.int .i64 s.Id, .int .i64 s.Wide, .int .i64 s.High, .int .i64 s.Holds, .slice hd.a hd.n hd.c] 42)
      have BX := Lib.hid (BoxDrawer.new wr 42 ⟨s, hd⟩ _ rfl)
      have HI := Lib.hid (hin.below bw)
      have BW := Lib.hid bw
      have K1 := Lib.hid hs
      have hi0 : (0 : Int) ≤ (k : Int) := by omega
      have hi1 : (k : Int) < (xs.length : Int) := by omega
      have hsz := B.out.size
      clear hs hat hbel hG hr hown hin bw
      go_wp2_with fail
      refine (F.out _ s hd (List.mem_of_getElem? K1.out) HI.out (Below.then' B.out BW.out)).mono ?_
      rintro e w2 ⟨rfl, hb⟩
      rw [RR.out]
      have hb' := Below.then' BW.out hb
      have B2 := Lib.hid (Below.then' B.out hb')
      have O2 := Lib.hid (ownsRow_below O.out hb')
      obtain ⟨d0, _⟩ := BX.out.below hb
      have hs2 := hb'.size
      clear hb hb' c0 c1 c2 c3 c4
      cases r
      · go_wp2
        go_roundw
        case rel => exact ⟨k + 1, by omega, by go_num, by rw [FS.out, RR.out]; simpa using O2.out, B2.out⟩
        case measure => simp [intOf]; omega
      · have hown3 := O2.out.alloc (.cells #[.int .i64 s.Id] 3)
        go_wp2_with (at_builtin; refine wpList_append_own _ rfl _ _ 31 rfl w.heap.size 3 i0 (.int .i64 0) 1 8 Try.underlying31 hi hz0 hz1 hz2 rfl (by decide) _ _ _ rfl hown3 ⟨w2.heap.size, 0, none⟩ 1 1 [.int .i64 s.Id] rfl rfl (cell_one _ _ _) (fun x hx => by simp at hx; subst hx; rfl) (by unfold maxLen; omega) (by omega) (by simp; omega) ?_; intro v' w4 hown' hgrow4 hnil4)
        go_roundw
        case rel =>
          refine ⟨k + 1, by omega, by go_num, ?_, (Below.then' B2.out (bel_al1 _ _)).grown hgrow4 (by simp; omega) (fun j e => (hown3.lt j e).1)⟩
          rw [FS.out, RR.out, if_pos rfl, intCells_snoc]
          rw [List.length_append]
          exact hown'
        case measure => simp [intOf]; omega
    · obtain rfl : k = xs.length := by omega
      rw [List.take_of_length_le (Nat.le_refl _)] at hown
      have O := Lib.hid hown
      clear hbel hown
      go_wp2
      go_ret
      exact ⟨_, rfl, OwnIn.of_row O.out (Nat.le_refl _) (Nat.le_refl _), B.out⟩
theorem nil_intRowO (w : World) (lo hi : Nat) : OwnIntS lo hi w (.slice none 0 0) [] := nil_OwnIntS lo hi w
set_option maxHeartbeats 1600000 in
theorem isEmpty_any (x : VDrawer) (h : Hd) (w : World) (hi : IsInts w h.a h.n h.c x.Flats) :
    Calls Try.prog 105 #[.agg #[.int .i64 x.Id, .int .i64 x.Wide, .int .i64 x.High, .int .i64 x.Holds, .slice h.a h.n h.c]] w fun e w' => e = .returned (.bool x.Flats.isEmpty) ∧ Below w.heap.size w w' := by
  have hm := hi.2.2.1
  have hcl := hi.2.1
  unfold maxLen at hm
  by_cases h0 : h.n = 0
  · have E := Lib.hid (show x.Flats.isEmpty = true from by have := hi.1; rw [List.isEmpty_iff]; exact List.length_eq_zero_iff.1 (by omega))
    clear hi
    obtain ⟨ha, hn, hc⟩ := h
    simp only at h0
    subst h0
    go_enter Try.func105, Try.ntmps105
    go_wp2
    go_ret
    exact ⟨ret_bool E.out.symm, bel_al1 _ _⟩
  · have E := Lib.hid (show x.Flats.isEmpty = false from by
      have := hi.1
      cases e : x.Flats with
      | nil => rw [e] at this; simp at this; omega
      | cons _ _ => rfl)
    have hb : ((h.n : Int) == 0) = false := beq_eq_false_iff_ne.2 (by omega)
    clear hi
    go_enter Try.func105, Try.ntmps105
    go_wp2
    go_ret
    exact ⟨ret_bool (by rw [E.out]), bel_al1 _ _⟩
set_option maxHeartbeats 3200000 in
theorem implEmptyDrawers_any (a : Option Addr) (len cap : Nat) (xs : List VFlat) (a1 : Option Addr) (len1 cap1 : Nat) (ds : List VDrawer) (w : World) (h : IsFlatS w a len cap xs) (h' : IsDrawerS w a1 len1 cap1 ds) :
    Calls Try.prog 58 #[.slice a len cap, .slice a1 len1 cap1] w (EmptyDrawers_Post xs ds w) := by
  have S := Lib.hid h
  have D := Lib.hid h'
  clear h h'
  go_enter Try.func58, Try.ntmps58
  go_wp2_with fail
  refine (areDrawers_any _ _ _ xs _ _ _ ds _ S.out D.out).mono ?_
  rintro e w1 ⟨rfl, hb⟩
  have B1 := Lib.hid hb
  have D1 := Lib.hid (D.out.below hb)
  clear hb
  cases hg : goodB xs ds with
  | false =>
    have E1 := Lib.hid (show EmptyDrawers_1 xs ds = false from hg)
    have E0 := Lib.hid (show EmptyDrawers_0 xs ds = [] from by unfold EmptyDrawers_0; rw [hg]; rfl)
    clear hg
    go_wp2
    go_ret2
    exact ⟨_, by rw [E1.out]; rfl, by rw [E0.out]; exact nil_OwnIntS _ _ _, B1.out⟩
  | true =>
  have G := Lib.hid (good_iff.1 hg)
  have E1 := Lib.hid (show EmptyDrawers_1 xs ds = true from hg)
  have E0 := Lib.hid (show EmptyDrawers_0 xs ds = (ds.filter fun d => d.Flats.isEmpty).map VDrawer.Id from by unfold EmptyDrawers_0; rw [hg]; rfl)
  clear hg
  go_wp2_with fail
  refine (drawersWhere_any 105 #[] (fun d => d.Flats.isEmpty) _ _ _ ds _ D1.out (by have := G.out.dl; omega) (enters_fn Try.func105 (by kernel_rfl) (by kernel_rfl)) (fun W s hd _ hi _ => by simpa using isEmpty_any s hd W hi)).mono ?_
  rintro e w2 ⟨v, rfl, hown, hb⟩
  have B2 := Lib.hid (Below.then' B1.out hb)
  have O := Lib.hid (hown.mono B1.out.size (Nat.le_refl _))
  clear hb hown
  go_wp2
  go_ret2
  exact ⟨v, by rw [E1.out]; rfl, by rw [E0.out]; exact O.out, B2.out⟩
set_option maxHeartbeats 6400000 in
set_option maxRecDepth 100000 in
theorem implLooseFlats_any (a : Option Addr) (len cap : Nat) (xs : List VFlat) (a1 : Option Addr) (len1 cap1 : Nat) (ds : List VDrawer) (w : World) (h : IsFlatS w a len cap xs) (h' : IsDrawerS w a1 len1 cap1 ds) :
    Calls Try.prog 56 #[.slice a len cap, .slice a1 len1 cap1] w (LooseFlats_Post xs ds w) := by
  obtain rfl := h.1
  obtain ⟨i0, hi, hz0, hz1, hz2⟩ := info_parts infoInt
  have hm := h.2.2.1
  have hcl := h.2.1
  unfold maxLen at hm
  have S := Lib.hid h
  have D := Lib.hid h'
  clear h h'
  go_enter Try.func56, Try.ntmps56
  go_wp2_with fail
  refine (areDrawers_any _ _ _ xs _ _ _ ds _ S.out D.out).mono ?_
  rintro e w1 ⟨rfl, hb⟩
  have B1 := Lib.hid hb
  clear hb
  cases hg : goodB xs ds with
  | false =>
    have E1 := Lib.hid (show LooseFlats_1 xs ds = false from hg)
    have E0 := Lib.hid (show LooseFlats_0 xs ds = [] from by unfold LooseFlats_0; rw [hg]; rfl)
    clear hg
    go_wp2
    go_ret2
    exact ⟨_, by rw [E1.out]; rfl, by rw [E0.out]; exact nil_OwnIntS _ _ _, B1.out⟩
  | true =>
  have hl20 := (good_iff.1 hg).fl
  have E1 := Lib.hid (show LooseFlats_1 xs ds = true from hg)
  have E0 := Lib.hid (show LooseFlats_0 xs ds = looseL xs ds from by unfold LooseFlats_0; rw [hg]; rfl)
  clear hg
  go_wp2
  go_loopw [15, 6] (fun i o wr => ∃ k : Nat, k ≤ xs.length ∧ i = .int .i64 k ∧ wr.ownsRow w.heap.size 3 1 o (((xs.take k).filter fun f => decide (holdI ds f.Id < 0)).map VFlat.Id).length (intCells (((xs.take k).filter fun f => decide (holdI ds f.Id < 0)).map VFlat.Id)) ∧ Below w.heap.size w wr) (fun i _ _ => xs.length - (intOf i).toNat)
  case atStart => exact ⟨0, Nat.zero_le _, rfl, ⟨by simp [intCells], .inl ⟨rfl, rfl⟩⟩, B1.out⟩
  case round =>
    obtain ⟨k, hk, rfl, hown, hbel⟩ := hrel
    have B := Lib.hid hbel
    by_cases hlt : k < xs.length
    · obtain ⟨s, hs⟩ : ∃ s, xs[k]? = some s := ⟨xs[k]'hlt, List.getElem?_eq_getElem _⟩
      obtain ⟨b, o, rfl, hbw, hat⟩ := (S.out.below hbel).at (by omega)
      obtain ⟨c0, c1, c2, c3⟩ := hat k s hs
      have FS := Lib.hid (filter_map_more (fun f => decide (holdI ds f.Id < 0)) VFlat.Id hs)
      have hgl := filter_map_len (fun f => decide (holdI ds f.Id < 0)) VFlat.Id xs k
      obtain ⟨G, hG⟩ : ∃ G, ((xs.take k).filter fun f => decide (holdI ds f.Id < 0)).map VFlat.Id = G := ⟨_, rfl⟩
      rw [hG] at hown FS hgl
      have O := Lib.hid hown
      obtain ⟨y, hy⟩ : ∃ y, holdI ds s.Id = y := ⟨_, rfl⟩
      have Y := Lib.hid hy
      have bw := bel_al1 wr (.cells #[.int .i64 s.Id, .int .i64 s.Wide, .int .i64 s.High, .int .i64 s.Grams] 40)
      have BX := Lib.hid (BoxFlat.new wr 40 s _ rfl)
      have DB := Lib.hid ((D.out.below hbel).below bw)
      have BW := Lib.hid bw
      have hi0 : (0 : Int) ≤ (k : Int) := by omega
      have hi1 : (k : Int) < (xs.length : Int) := by omega
      have hsz := B.out.size
      clear hs hat hbel hG hy hown bw
      go_wp2_with fail
      refine (indexOfHolder_any _ _ _ ds s.Id _ DB.out).mono ?_
      rintro e w2 ⟨rfl, hb⟩
      rw [Y.out]
      have hb' := Below.then' BW.out hb
      have B2 := Lib.hid (Below.then' B.out hb')
      have O2 := Lib.hid (ownsRow_below O.out hb')
      obtain ⟨d0, _⟩ := BX.out.below hb
      have hs2 := hb'.size
      clear hb hb' c0 c1 c2 c3
      by_cases hn : y < 0
      · have hown3 := O2.out.alloc (.cells #[.int .i64 s.Id] 3)
        go_wp2_with (at_builtin; refine wpList_append_own _ rfl _ _ 31 rfl w.heap.size 3 i0 (.int .i64 0) 1 8 Try.underlying31 hi hz0 hz1 hz2 rfl (by decide) _ _ _ rfl hown3 ⟨w2.heap.size, 0, none⟩ 1 1 [.int .i64 s.Id] rfl rfl (cell_one _ _ _) (fun x hx => by simp at hx; subst hx; rfl) (by unfold maxLen; omega) (by omega) (by simp; omega) ?_; intro v' w4 hown' hgrow4 hnil4)
        go_roundw
        case rel =>
          refine ⟨k + 1, by omega, by go_num, ?_, (Below.then' B2.out (bel_al1 _ _)).grown hgrow4 (by simp; omega) (fun j e => (hown3.lt j e).1)⟩
          rw [FS.out, Y.out, if_pos (by simpa using hn), intCells_snoc]
          rw [List.length_append]
          exact hown'
        case measure => simp [intOf]; omega
      · go_wp2
        go_roundw
        case rel => exact ⟨k + 1, by omega, by go_num, by rw [FS.out, Y.out, if_neg (by simpa using hn)]; simpa using O2.out, B2.out⟩
        case measure => simp [intOf]; omega
    · obtain rfl : k = xs.length := by omega
      rw [List.take_of_length_le (Nat.le_refl _)] at hown
      have O := Lib.hid hown
      clear hbel hown
      go_wp2
      go_ret2
      exact ⟨_, by rw [E1.out]; rfl, by rw [E0.out]; exact OwnIn.of_row O.out (Nat.le_refl _) (Nat.le_refl _), B.out⟩
end Go.Proofs.Ytldanejdnbfbjaa
namespace Go.Proofs.Ytldanejdnbfbjaa
open Go.RowKit

/-! Where a number stands among numbers in ascending order. -/
def place (x : Int) (zs : List Int) : Nat := zs.countP fun z => decide (z < x)
theorem place_le (x : Int) (zs : List Int) : place x zs ≤ zs.length := List.countP_le_length
theorem place_while {zs : List Int} (h : zs.Pairwise (· ≤ ·)) (x : Int) : (zs.takeWhile fun z => decide (z < x)).length = place x zs := by
  induction zs with
  | nil => rfl
  | cons z l ih =>
    rw [List.pairwise_cons] at h
    unfold place
    by_cases hz : z < x
    · rw [List.takeWhile_cons_of_pos (by simpa using hz), List.countP_cons_of_pos (by simpa using hz), List.length_cons, ih h.2]; rfl
    · rw [List.takeWhile_cons_of_neg (by simpa using hz), List.countP_cons_of_neg (by simpa using hz)]
      have : l.countP (fun z => decide (z < x)) = 0 := List.countP_eq_zero.2 fun y hy => by
        have := h.1 y hy
        simp; omega
      rw [this]; rfl
theorem insAt_place {zs : List Int} (h : zs.Pairwise (· ≤ ·)) (x : Int) : insAt x zs = zs.take (place x zs) ++ x :: zs.drop (place x zs) := by
  have e := List.takeWhile_append_dropWhile (p := fun z => decide (z < x)) (l := zs)
  have hl := place_while h x
  have h1 := List.take_left (l₁ := zs.takeWhile fun z => decide (z < x)) (l₂ := zs.dropWhile fun z => decide (z < x))
  have h2 := List.drop_left (l₁ := zs.takeWhile fun z => decide (z < x)) (l₂ := zs.dropWhile fun z => decide (z < x))
  rw [e, hl] at h1 h2
  unfold insAt
  rw [h1, h2]
theorem up_le {zs : List Int} (h : upB idOk (fun z => z) zs = true) : zs.Pairwise (· ≤ ·) := by
  rw [List.pairwise_iff_getElem]
  intro i j hi hj hij
  have := upB_lt h j i _ _ hij (List.getElem?_eq_getElem hi) (List.getElem?_eq_getElem hj)
  omega
def SearchPost (x : Int) (zs : List Int) (w : World) (e : Ending) (w' : World) : Prop := (∃ q, e = .returned (.tuple #[.int .i64 (place x zs : Nat), .bool q])) ∧ Below w.heap.size w w'
theorem search_any (a : Option Addr) (len cap : Nat) (zs : List Int) (x : Int) (w : World) (h : IsInts w a len cap zs) (hs : zs.Pairwise (· ≤ ·)) (hbig : len < 4611686018427387904) :
    Calls Try.prog 65 #[.slice a len cap, .int .i64 x] w (SearchPost x zs w) := by
  have hm := h.2.2.1
  unfold maxLen at hm
  by_cases h0 : len = 0
  · subst h0
    have : zs = [] := List.length_eq_zero_iff.1 h.1.symm
    subst this
    exact (Try.slices_BinarySearch_int_empty a cap x w).mono fun e w' ⟨h1, h2⟩ => ⟨⟨false, h1⟩, h2 ▸ Below.refl _ _⟩
  · obtain ⟨b, o, rfl, _, hat⟩ := h.at (by omega)
    have hl := h.1
    refine (Try.slices_BinarySearch_int b o len cap zs x w (by omega) hbig (fun j hj => hat j _ (by rw [List.getD_eq_getElem?_getD, List.getElem?_eq_getElem hj]; rfl)) (by rw [List.take_of_length_le (by omega)]; exact hs)).mono fun e w' ⟨h1, q, h2⟩ => ⟨⟨(zs.take len).contains x, by rw [h1, List.take_of_length_le (show zs.length ≤ len by omega)]; rfl⟩, h2 ▸ bel_drawn w q⟩
/-- What an insertion leaves: the row with the number in it, where it lay or in new memory. -/
def InsPost (lo : Nat) (h : Hd) (zs : List Int) (W : World) (e : Ending) (w' : World) : Prop :=
  ∃ h' : Hd, e = .returned (.slice h'.a h'.n h'.c) ∧ HInts lo w'.heap.size w' h' zs ∧ (∀ b, h'.blk = some b → h.blk = some b ∨ W.heap.size ≤ b) ∧ W.grownBy w' h.blk
theorem zeroCells_len (n : Nat) : (Builtin.zeroCells (Value.int .i64 0).cells n).toList.length = n := by
  rw [Array.length_toList, size_zeroCells]
  simp [Value.cells]
/-- A new block that begins with some integers. -/
theorem new_row {W : World} {lo n cap : Nat} {L : List Value} {cur : Array Value} (hb : lo ≤ W.heap.size) (hn : n ≤ cap) (hm : cap ≤ maxLen) (hs : cur.size = cap) (ht : cur.toList.take n = L) (hl : L.length = n) : (W.alloc (.cells cur 3)).ownsRow lo 3 1 (.slice (some ⟨W.heap.size, 0, none⟩) n cap) n L :=
  ⟨by rw [hl, Nat.mul_one], .inr ⟨W.heap.size, cap, cur, rfl, hb, heap_alloc_new W _, hn, hm, by rw [Nat.mul_one]; exact hs, by rw [Nat.mul_one]; exact ht⟩⟩
set_option maxHeartbeats 3200000 in
theorem insert_any (lo hi : Nat) (h : Hd) (zs : List Int) (k : Nat) (x : Int) (W : World) (H : HInts lo hi W h zs) (hk : k ≤ zs.length) (hl : zs.length ≤ 1000) (hlo : lo ≤ W.heap.size) :
    Calls Try.prog 66 #[.slice h.a h.n h.c, .int .i64 k, .slice (some ⟨W.heap.size, 0, none⟩) 1 1] (W.alloc (.cells #[.int .i64 x] 3)) (InsPost lo h (zs.take k ++ x :: zs.drop k) W) := by
  obtain ⟨w, hw⟩ : ∃ w, W.alloc (.cells #[.int .i64 x] 3) = w := ⟨_, rfl⟩
  have hsz : w.heap.size = W.heap.size + 1 := by rw [← hw, size_al]
  have hbw : Below W.heap.size W w := by rw [← hw]; exact bel_al1 _ _
  have hvb : w.heap[W.heap.size]? = some (.cells #[.int .i64 x] 3 (0, 0)) := by rw [← hw]; exact heap_alloc_new W _
  have hvs : ∀ (j : Nat) v, [Value.int .i64 x][j]? = some v → w.cell? ⟨W.heap.size, 0 + j, none⟩ = some v := fun j v hj => by
    rw [← hw]
    have := cell_one W (.int .i64 x) 3 j v hj
    rwa [add_plain] at this
  have h1v : ∀ v ∈ [Value.int .i64 x], v.oneCell' = true := by intro v hv; simp at hv; subst hv; rfl
  rw [hw]
  have H2 : HInts lo hi w h zs := H.below hbw
  have tl : (intCells (zs.take k ++ x :: zs.drop k)) = intCells (zs.take k) ++ (.int .i64 x :: intCells (zs.drop k)) := by simp [intCells]
  have hlen : (zs.take k ++ x :: zs.drop k).length = zs.length + 1 := by rw [List.length_append, List.length_take, List.length_cons, List.length_drop]; omega
  clear hw
  have ET : Try.laysIns_ren.t 3 = 3 := rfl
  obtain ⟨a, n, c⟩ := h
  obtain ⟨his, hn⟩ := H2.is
  simp only at hn
  subst hn
  have hcap := his.2.2.1
  unfold maxLen at hcap
  rcases H2.1.2 with ⟨e0, hn0⟩ | ⟨g, cap, cur, e0, hg, hh, hnc, hcm, hcs, _⟩
  · have hz : zs = [] := List.length_eq_zero_iff.1 hn0
    subst hz
    have hk0 : k = 0 := by simpa using hk
    subst hk0
    simp only [Value.slice.injEq] at e0
    obtain ⟨rfl, _, rfl⟩ := e0
    have hcon := Any2.slices_Insert_int_end_grow Try.laysIns none 0 0 W.heap.size 0 1 1 [] [.int .i64 x] w (by omega) (Nat.le_refl _) (by omega) (by omega) rfl rfl (fun _ => rfl) (fun a e => by cases e) hvs h1v
    change Calls Try.prog 66 _ _ _ at hcon
    try simp only [ET] at hcon
    refine hcon.mono ?_
    rintro e w' ⟨rfl, hw'⟩
    have hG := grownCap_ge w (0 + 1) 0 3
    have hGm := grownCap_le_maxLen w (0 + 1) 0 3 (by unfold maxLen; omega)
    generalize grownCap w (0 + 1) 0 3 = G at hG hGm hw' ⊢
    subst hw'
    refine ⟨⟨_, _, _⟩, rfl, ?_, fun b hb => ?_, ?_⟩
    · refine OwnIn.of_row (lo := lo) (base := lo) ?_ (Nat.le_refl _) (Nat.le_refl _)
      refine new_row (W := w.drew) (by show lo ≤ w.heap.size; omega) hG hGm ?_ ?_ rfl
      · rw [Array.size_append, size_zeroCells]
        simp [Value.cells]
        omega
      · rw [Array.toList_append]
        simp [intCells]
    · refine .inr ?_
      have : b = w.heap.size := (Option.some.inj hb).symm
      omega
    · exact grown_trans (grown_below hbw _) (grown_below (Below.then' (bel_drawn w 1) (bel_al1 w.drew _)) _)
  · simp only [Value.slice.injEq] at e0
    obtain ⟨rfl, _, rfl⟩ := e0
    have hgh : g < hi := H.2 g rfl
    have hgW : g < W.heap.size := (H.lt rfl).2.2
    have hrow : w.ownsRow lo 3 1 (.slice (some ⟨g, 0, none⟩) zs.length c) zs.length (intCells zs) := H2.1
    have hcs0 : ∀ (j : Nat) v, (intCells zs)[j]? = some v → w.cell? ⟨g, 0 + j, none⟩ = some v := fun j v hj => own_cells_at hrow j v hj
    have hfz0 : ∀ j, w.frozen? ⟨g, 0 + j, none⟩ = false := fun j => by rw [Nat.zero_add]; exact hrow.frozenAt j
    have gW : ∀ {w'}, w.grownBy w' (some g) → W.grownBy w' (some g) := fun h => grown_trans (grown_below hbw _) h
    by_cases hroom : zs.length + 1 ≤ c
    · obtain ⟨S, hS, hwide⟩ := own_wider hrow hroom
      rw [Nat.mul_one] at hS
      have hLl : (intCells zs ++ S).length = zs.length + 1 := by rw [List.length_append, intCells_len, hS]
      have hsp0 : ∀ j, j < zs.length + 1 → (w.cell? ⟨g, 0 + j, none⟩).isSome = true := fun j hj => own_some_at hwide j (by rw [hLl]; exact hj)
      by_cases hend : k = zs.length
      · subst hend
        have hcon := Any2.slices_Insert_int_end_room Try.laysIns g 0 zs.length c W.heap.size 0 1 1 [.int .i64 x] w (by omega) hroom (by omega) rfl (fun j hj => by rw [Nat.add_assoc]; exact hsp0 _ (by omega)) (fun j _ => by rw [Nat.add_assoc]; exact hfz0 _) hvs h1v
        change Calls Try.prog 66 _ _ _ at hcon
        try simp only [ET] at hcon
        refine hcon.mono ?_
        rintro e w' ⟨rfl, rfl⟩
        have h3 := own_setCells [.int .i64 x] _ (0 + zs.length) w hwide
        rw [setL_eq _ _ _ (by rw [hLl]; simp)] at h3
        refine ⟨⟨_, _, _⟩, rfl, ⟨?_, fun b hb => ?_⟩, fun b hb => .inl hb, gW h3.2⟩
        · have h4 := h3.1
          rw [hlen, tl]
          rw [Nat.zero_add, List.take_of_length_le (Nat.le_refl zs.length), List.drop_of_length_le (Nat.le_refl zs.length)]
          rw [Nat.zero_add, List.take_left' (intCells_len zs), List.drop_of_length_le (by rw [hLl]; simp)] at h4
          exact h4
        · have e : g = b := Option.some.inj hb
          have := h3.2.size
          omega
      · have hcon := Any2.slices_Insert_int_shift Try.laysIns g 0 zs.length c k W.heap.size 0 1 1 (intCells zs) [.int .i64 x] w (by omega) (by omega) hroom (by omega) (by omega) (intCells_len zs) rfl hcs0 hsp0 (fun j _ => hfz0 j) hvs (one_ints zs) h1v
          3 3 1 cur.size (by simp [World.shape?, hvb]) (by simp [World.shape?, hh]) (by omega) (by simp [World.frozen?, hvb]) (by simp [World.frozen?, hvb])
        change Calls Try.prog 66 _ _ _ at hcon
        try simp only [ET] at hcon
        refine hcon.mono ?_
        rintro e w' ⟨rfl, rfl⟩
        have hdl : ((intCells zs).drop k).length = zs.length - k := by rw [List.length_drop, intCells_len]
        have h3 := own_setCells ((intCells zs).drop k) _ (0 + (k + 1)) w.drew hwide
        rw [setL_eq _ _ _ (by rw [hLl, hdl]; omega)] at h3
        have h4 := own_setCells [.int .i64 x] _ (0 + k) _ h3.1
        have e1 : (intCells zs ++ S).drop (0 + (k + 1) + ((intCells zs).drop k).length) = [] := List.drop_of_length_le (by rw [hLl, hdl]; omega)
        have e2 : ((intCells zs ++ S).take (0 + (k + 1))).length = k + 1 := by rw [List.length_take, hLl]; omega
        rw [e1, List.append_nil] at h4
        rw [setL_eq _ _ _ (by rw [List.length_append, e2, hdl]; simp <;> omega)] at h4
        refine ⟨⟨_, _, _⟩, rfl, ⟨?_, fun b hb => ?_⟩, fun b hb => .inl hb, gW (grown_trans (grown_below (bel_drawn w 1) _) (grown_trans h3.2 h4.2))⟩
        · have h5 := h4.1
          rw [hlen, tl]
          have e3 : ((intCells zs ++ S).take (0 + (k + 1)) ++ (intCells zs).drop k).take (0 + k) = intCells (zs.take k) := by
            rw [List.take_append_of_le_length (by rw [e2]; omega), List.take_take, Nat.min_eq_left (by omega), Nat.zero_add, List.take_append_of_le_length (by rw [intCells_len]; exact hk)]
            simp [intCells]
          have e4 : ((intCells zs ++ S).take (0 + (k + 1)) ++ (intCells zs).drop k).drop (0 + k + [Value.int .i64 x].length) = intCells (zs.drop k) := by
            rw [List.drop_left' (by rw [e2]; simp)]
            simp [intCells]
          rw [e3, e4] at h5
          exact h5
        · have e : g = b := Option.some.inj hb
          have := h3.2.size
          have := h4.2.size
          have : w.drew.heap.size = w.heap.size := rfl
          omega
    · by_cases hend : k = zs.length
      · subst hend
        have hcon := Any2.slices_Insert_int_end_grow Try.laysIns (some ⟨g, 0, none⟩) zs.length c W.heap.size 0 1 1 (intCells zs) [.int .i64 x] w (by omega) hnc (by omega) (by omega) (intCells_len zs) rfl (fun e => by cases e) (fun a e j v hj => by cases e; rw [add_plain]; exact hcs0 j v hj) hvs h1v
        change Calls Try.prog 66 _ _ _ at hcon
        try simp only [ET] at hcon
        refine hcon.mono ?_
        rintro e w' ⟨rfl, hw'⟩
        have hG := grownCap_ge w (zs.length + 1) c 3
        have hGm := grownCap_le_maxLen w (zs.length + 1) c 3 (by unfold maxLen; omega)
        generalize grownCap w (zs.length + 1) c 3 = G at hG hGm hw' ⊢
        subst hw'
        refine ⟨⟨_, _, _⟩, rfl, ?_, fun b hb => ?_, ?_⟩
        · refine OwnIn.of_row (lo := lo) (base := lo) ?_ (Nat.le_refl _) (Nat.le_refl _)
          rw [hlen, tl, List.take_of_length_le (Nat.le_refl zs.length), List.drop_of_length_le (Nat.le_refl zs.length)]
          refine new_row (W := w.drew) (by show lo ≤ w.heap.size; omega) hG hGm ?_ ?_ (by rw [List.length_append, intCells_len]; rfl)
          · rw [Array.size_append, size_zeroCells]
            simp [Value.cells, intCells_len]
            omega
          · rw [Array.toList_append]
            rw [List.take_append_of_le_length (by simp [intCells_len])]
            rw [List.take_of_length_le (by simp [intCells_len])]
            rfl
        · refine .inr ?_
          have : b = w.heap.size := (Option.some.inj hb).symm
          omega
        · exact grown_trans (grown_below hbw _) (grown_below (Below.then' (bel_drawn w 1) (bel_al1 w.drew _)) _)
      · have hcon := Any2.slices_Insert_int_grow Try.laysIns g 0 zs.length c k W.heap.size 0 1 1 (intCells zs) [.int .i64 x] w (by omega) (by omega) hnc (by omega) (by omega) (intCells_len zs) rfl hcs0 hvs (one_ints zs) h1v
        change Calls Try.prog 66 _ _ _ at hcon
        try simp only [ET] at hcon
        refine hcon.mono ?_
        rintro e w' ⟨rfl, hw'⟩
        have hG := grownCap_ge w (zs.length + 1) c 3
        have hGm := grownCap_le_maxLen w (zs.length + 1) c 3 (by unfold maxLen; omega)
        obtain ⟨G, hGe⟩ : ∃ G, grownCap w (zs.length + 1) c 3 = G := ⟨_, rfl⟩
        rw [hGe] at hG hGm hw' ⊢
        have hdl : ((intCells zs).drop k).length = zs.length - k := by rw [List.length_drop, intCells_len]
        have htk : ((intCells zs).take k).length = k := by rw [List.length_take, intCells_len]; omega
        obtain ⟨Z, hZ⟩ : ∃ Z, (Builtin.zeroCells (Value.int .i64 0).cells (zs.length + 1 - k)).toList = Z := ⟨_, rfl⟩
        have hZl : Z.length = zs.length + 1 - k := by rw [← hZ, zeroCells_len]
        have h0 : (w.alloc (.cells (((intCells zs).take k).toArray ++ Builtin.zeroCells (Value.int .i64 0).cells (zs.length + 1 - k) ++ Builtin.zeroCells (Value.int .i64 0).cells (G - (zs.length + 1))) 3)).ownsRow lo 3 1 (.slice (some ⟨w.heap.size, 0, none⟩) (zs.length + 1) G) (zs.length + 1) ((intCells zs).take k ++ Z) := by
          refine new_row (by omega) hG hGm ?_ ?_ (by rw [List.length_append, htk, hZl]; omega)
          · rw [Array.size_append, Array.size_append, size_zeroCells, size_zeroCells]
            simp only [List.size_toArray, htk]
            simp [Value.cells]
            omega
          · rw [Array.toList_append, Array.toList_append, hZ]
            rw [List.take_append_of_le_length (by simp [htk, hZl]; omega), List.take_of_length_le (by simp [htk, hZl]; omega)]
        have hb0 := bel_al1 w (.cells (((intCells zs).take k).toArray ++ Builtin.zeroCells (Value.int .i64 0).cells (zs.length + 1 - k) ++ Builtin.zeroCells (Value.int .i64 0).cells (G - (zs.length + 1))) 3)
        have hs0 := size_al w (.cells (((intCells zs).take k).toArray ++ Builtin.zeroCells (Value.int .i64 0).cells (zs.length + 1 - k) ++ Builtin.zeroCells (Value.int .i64 0).cells (G - (zs.length + 1))) 3)
        generalize w.alloc (.cells (((intCells zs).take k).toArray ++ Builtin.zeroCells (Value.int .i64 0).cells (zs.length + 1 - k) ++ Builtin.zeroCells (Value.int .i64 0).cells (G - (zs.length + 1))) 3) = w1 at hw' h0 hb0 hs0
        subst hw'
        have h3 := own_setCells [.int .i64 x] _ k w1.drew h0
        rw [setL_eq _ _ _ (by rw [List.length_append, htk, hZl]; simp <;> omega)] at h3
        have h4 := own_setCells ((intCells zs).drop k) _ (k + 1) ((w1.drew.setCells w.heap.size k [.int .i64 x]).drew) h3.1
        have e0 : (((intCells zs).take k ++ Z).take k ++ ([Value.int .i64 x] ++ ((intCells zs).take k ++ Z).drop (k + [Value.int .i64 x].length))).length = zs.length + 1 := by
          simp only [List.length_append, List.length_take, List.length_drop, htk, hZl, List.length_cons, List.length_nil]; omega
        rw [setL_eq _ _ _ (by rw [e0, hdl]; omega)] at h4
        have b1 : Below W.heap.size W w1 := Below.then' hbw hb0
        have b2 := b1.drew.grown h3.2 (by show W.heap.size ≤ w1.heap.size; omega) (fun j e => by cases e; omega)
        have b3 := b2.drew.grown h4.2 (by have := b2.size; exact this) (fun j e => by cases e; omega)
        refine ⟨⟨_, _, _⟩, rfl, ⟨?_, fun b hb => ?_⟩, fun b hb => ?_, grown_below b3 _⟩
        · have h5 := h4.1
          rw [hlen, tl]
          have e1 : (((intCells zs).take k ++ Z).take k ++ ([Value.int .i64 x] ++ ((intCells zs).take k ++ Z).drop (k + [Value.int .i64 x].length))).drop (k + 1 + ((intCells zs).drop k).length) = [] := List.drop_of_length_le (by rw [e0, hdl]; omega)
          have e2 : (((intCells zs).take k ++ Z).take k ++ ([Value.int .i64 x] ++ ((intCells zs).take k ++ Z).drop (k + [Value.int .i64 x].length))).take (k + 1) = intCells (zs.take k) ++ [Value.int .i64 x] := by
            rw [List.take_left' htk, ← List.append_assoc, List.take_left' (by rw [List.length_append, htk]; rfl)]
            simp [intCells]
          rw [e1, e2, List.append_nil, List.append_assoc] at h5
          rw [show intCells (zs.drop k) = (intCells zs).drop k from by simp [intCells]]
          exact h5
        · have e : w.heap.size = b := Option.some.inj hb
          have s3 := h3.2.size
          have s4 := h4.2.size
          have e5 : w1.drew.heap.size = w1.heap.size := rfl
          have e6 : ((w1.drew.setCells w.heap.size k [.int .i64 x]).drew).heap.size = (w1.drew.setCells w.heap.size k [.int .i64 x]).heap.size := rfl
          omega
        · have e : w.heap.size = b := Option.some.inj hb
          exact .inr (by omega)
end Go.Proofs.Ytldanejdnbfbjaa
