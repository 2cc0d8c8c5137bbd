/- Texts in one: Aro, Di, FlatL, IntL, Wh, FlatId, DrawerId, Di2. -/
import Derived.Test.YtlmedhidkhphbaaM2
import Derived.Test.YtlmedhidkhphbaaM3
import Derived.Test.YtlmedhidkhphbaaM6
import Derived.Test.YtlmedhidkhphbaaM1
import Derived.Lib.SliceRun
import Derived.Test.YtlmedhidkhphbaaShelf
namespace Go.Proofs.Ytlmedhidkhphbaa
open Go.RowKit
theorem areOne (lo hi x : Int) (t : TypeId) (w : World) (B : Nat) (hB : w.heap.size = B) :
    Calls Try.prog 127 #[.int .i64 lo, .int .i64 hi, .slice (some ⟨B, 0, none⟩) 1 1] (w.alloc (.cells #[.int .i64 x] t)) fun e w' => e = .returned (.bool (inB x lo hi)) ∧ w.alloc (.cells #[.int .i64 x] t) = w' :=
  (areInRange_any B 1 1 [x] lo hi _ rfl (by omega) (lit1 w x t B hB)).mono fun e w' h => ⟨by rw [h.1]; simp, h.2⟩
theorem areTwo (lo hi x y : Int) (t : TypeId) (w : World) (B : Nat) (hB : w.heap.size = B) :
    Calls Try.prog 127 #[.int .i64 lo, .int .i64 hi, .slice (some ⟨B, 0, none⟩) 2 2] (w.alloc (.cells #[.int .i64 x, .int .i64 y] t)) fun e w' => e = .returned (.bool (inB x lo hi && inB y lo hi)) ∧ w.alloc (.cells #[.int .i64 x, .int .i64 y] t) = w' :=
  (areInRange_any B 2 2 [x, y] lo hi _ rfl (by omega) (lit2 w x y t B hB)).mono fun e w' h => ⟨by rw [h.1]; simp, h.2⟩
theorem lit4 (w : World) (x y u v : Int) (t : TypeId) (B : Nat) (hB : w.heap.size = B) : ∀ (k : Nat) z, [x, y, u, v][k]? = some z → (w.alloc (.cells #[.int .i64 x, .int .i64 y, .int .i64 u, .int .i64 v] t)).cell? ⟨B, k, none⟩ = some (.int .i64 z) := by
  subst hB
  intro k z h
  match k, h with
  | 0, h => simp at h; subst h; simp [World.cell?_alloc_new]
  | 1, h => simp at h; subst h; simp [World.cell?_alloc_new]
  | 2, h => simp at h; subst h; simp [World.cell?_alloc_new]
  | 3, h => simp at h; subst h; simp [World.cell?_alloc_new]
  | k + 4, h => simp at h
theorem areFour (lo hi x y u v : Int) (t : TypeId) (w : World) (B : Nat) (hB : w.heap.size = B) :
    Calls Try.prog 127 #[.int .i64 lo, .int .i64 hi, .slice (some ⟨B, 0, none⟩) 4 4] (w.alloc (.cells #[.int .i64 x, .int .i64 y, .int .i64 u, .int .i64 v] t)) fun e w' => e = .returned (.bool (inB x lo hi && (inB y lo hi && (inB u lo hi && inB v lo hi)))) ∧ w.alloc (.cells #[.int .i64 x, .int .i64 y, .int .i64 u, .int .i64 v] t) = w' :=
  (areInRange_any B 4 4 [x, y, u, v] lo hi _ rfl (by omega) (lit4 w x y u v t B hB)).mono fun e w' h => ⟨by rw [h.1]; simp, h.2⟩
end Go.Proofs.Ytlmedhidkhphbaa
namespace Go.Proofs.Ytlmedhidkhphbaa
open Go.RowKit

set_option maxHeartbeats 3200000 in
theorem isFlat_any (s : VFlat) (w : World) :
    Calls Try.prog 84 #[.agg #[.int .i64 s.Id, .int .i64 s.Wide, .int .i64 s.High, .int .i64 s.Grams]] w fun e w' => e = .returned (.bool s.ok) ∧ Below w.heap.size w w' := by
  obtain ⟨q1, h1⟩ : ∃ q, inB s.Id 1 999 = q := ⟨_, rfl⟩
  obtain ⟨q2, h2⟩ : ∃ q, (inB s.Wide 10 2000 && inB s.High 10 2000) = q := ⟨_, rfl⟩
  obtain ⟨q3, h3⟩ : ∃ q, inB s.Grams 1 5000 = q := ⟨_, rfl⟩
  have OK := Lib.hid (show s.ok = (q1 && (q2 && q3)) from by unfold VFlat.ok; rw [← h1, ← h2, ← h3, Bool.and_assoc])
  have H1 := Lib.hid h1
  have H2 := Lib.hid h2
  have H3 := Lib.hid h3
  clear h1 h2 h3
  go_enter Try.func84, Try.ntmps84
  go_wp2_with fail
  refine (areOne _ _ _ _ _ _ (by simp)).mono ?_
  rintro e w' ⟨rfl, rfl⟩
  rw [H1.out]
  cases q1
  · go_wp2
    go_ret
    exact ⟨ret_bool (by rw [OK.out]; rfl), bel_al2 _ _ _⟩
  go_wp2_with fail
  refine (areTwo _ _ _ _ _ _ _ (by simp)).mono ?_
  rintro e w' ⟨rfl, rfl⟩
  rw [H2.out]
  cases q2
  · go_wp2
    go_ret
    exact ⟨ret_bool (by rw [OK.out]; rfl), bel_al3 _ _ _ _⟩
  go_wp2_with fail
  refine (areOne _ _ _ _ _ _ (by simp)).mono ?_
  rintro e w' ⟨rfl, rfl⟩
  rw [H3.out]
  go_wp2
  go_ret
  exact ⟨ret_bool (by rw [OK.out]; rfl), Below.then' (bel_al3 _ _ _ _) (bel_al1 _ _)⟩
theorem len_le {n : Nat} {k : Nat} : decide ((n : Int) ≤ (k : Int)) = decide (n ≤ k) := by rw [decide_eq_decide]; omega
theorem flatId_any (s : VFlat) (w : World) : Calls Try.prog 77 #[.agg #[.int .i64 s.Id, .int .i64 s.Wide, .int .i64 s.High, .int .i64 s.Grams]] w fun e w' => e = .returned (.int .i64 s.Id) ∧ Below w.heap.size w w' := by
  go_enter Try.func77, Try.ntmps77
  go_wp2
  go_ret
  exact ⟨rfl, bel_al1 _ _⟩
set_option maxHeartbeats 1600000 in
theorem areFlats_any (a : Option Addr) (len cap : Nat) (xs : List VFlat) (w : World) (h : IsFlatS w a len cap xs) :
    Calls Try.prog 30 #[.slice a len cap] w fun e w' => e = .returned (.bool (flatsB xs)) ∧ Below w.heap.size w w' := by
  have S := Lib.hid h
  clear h
  go_enter Try.func30, Try.ntmps30
  go_wp2_with fail
  refine (byFlat_any 84 77 VFlat.ok VFlat.Id 20 a len cap xs _ S.out (enters_fn Try.func84 (by kernel_rfl) (by kernel_rfl)) (enters_fn Try.func77 (by kernel_rfl) (by kernel_rfl)) (fun W s _ => isFlat_any s W) (fun W s => flatId_any s W)).mono ?_
  rintro e w2 ⟨rfl, hb⟩
  have B := Lib.hid hb
  clear hb
  go_wp2
  go_ret
  exact ⟨ret_bool (by unfold flatsB; rw [← len_le]; rfl), B.out⟩
theorem idOk_any (z : Int) (w : World) : Calls Try.prog 134 #[.int .i64 z] w fun e w' => e = .returned (.bool (idOk z)) ∧ Below w.heap.size w w' := by
  go_enter Try.func134, Try.ntmps134
  go_wp2_with fail
  refine (areOne _ _ _ _ _ _ rfl).mono ?_
  rintro e w' ⟨rfl, rfl⟩
  go_wp2
  go_ret
  exact ⟨rfl, bel_al1 _ _⟩
theorem idSame_any (z : Int) (w : World) : Calls Try.prog 136 #[.int .i64 z] w fun e w' => e = .returned (.int .i64 z) ∧ Below w.heap.size w w' := by
  go_enter Try.func136, Try.ntmps136
  go_wp2
  go_ret
  exact ⟨rfl, Below.refl _ _⟩
set_option maxHeartbeats 1600000 in
theorem areFlatIds_any (a : Option Addr) (len cap : Nat) (zs : List Int) (w : World) (h : IsInts w a len cap zs) :
    Calls Try.prog 128 #[.slice a len cap] w fun e w' => e = .returned (.bool (idsB zs)) ∧ Below w.heap.size w w' := by
  have S := Lib.hid h
  clear h
  go_enter Try.func128, Try.ntmps128
  go_wp2_with fail
  refine (byint_any 134 136 idOk (fun z => z) 12 a len cap zs _ S.out (enters_fn Try.func134 (by kernel_rfl) (by kernel_rfl)) (enters_fn Try.func136 (by kernel_rfl) (by kernel_rfl)) (fun W s _ => idOk_any s W) (fun W s => idSame_any s W)).mono ?_
  rintro e w2 ⟨rfl, hb⟩
  have B := Lib.hid hb
  clear hb
  go_wp2
  go_ret
  exact ⟨ret_bool (by unfold idsB; rw [← len_le]; rfl), B.out⟩
theorem drawerId_any (x : VDrawer) (h : Hd) (w : World) : Calls Try.prog 64 #[.agg #[.int .i64 x.Id, .int .i64 x.Wide, .int .i64 x.High, .int .i64 x.Holds, .slice h.a h.n h.c]] w fun e w' => e = .returned (.int .i64 x.Id) ∧ Below w.heap.size w w' := by
  go_enter Try.func64, Try.ntmps64
  go_wp2
  go_ret
  exact ⟨rfl, bel_al1 _ _⟩
set_option maxHeartbeats 3200000 in
theorem isDrawer_any (x : VDrawer) (h : Hd) (w : World) (hi : IsInts w h.a h.n h.c x.Flats) :
    Calls Try.prog 85 #[.agg #[.int .i64 x.Id, .int .i64 x.Wide, .int .i64 x.High, .int .i64 x.Holds, .slice h.a h.n h.c]] w fun e w' => e = .returned (.bool x.ok) ∧ Below w.heap.size w w' := by
  obtain ⟨q1, h1⟩ : ∃ q, inB x.Id 1 99 = q := ⟨_, rfl⟩
  obtain ⟨q2, h2⟩ : ∃ q, (inB x.Wide 100 2000 && inB x.High 100 2000) = q := ⟨_, rfl⟩
  obtain ⟨q3, h3⟩ : ∃ q, inB x.Holds 100 50000 = q := ⟨_, rfl⟩
  have OK := Lib.hid (show x.ok = (q1 && (q2 && (q3 && idsB x.Flats))) from by unfold VDrawer.ok; rw [← h1, ← h2, ← h3, Bool.and_assoc])
  have H1 := Lib.hid h1
  have H2 := Lib.hid h2
  have H3 := Lib.hid h3
  have HI := Lib.hid hi
  clear h1 h2 h3 hi
  go_enter Try.func85, Try.ntmps85
  go_wp2_with fail
  refine (areOne _ _ _ _ _ _ (by simp)).mono ?_
  rintro e w' ⟨rfl, rfl⟩
  rw [H1.out]
  cases q1
  · go_wp2
    go_ret
    exact ⟨ret_bool (by rw [OK.out]; rfl), bel_al2 _ _ _⟩
  go_wp2_with fail
  refine (areTwo _ _ _ _ _ _ _ (by simp)).mono ?_
  rintro e w' ⟨rfl, rfl⟩
  rw [H2.out]
  cases q2
  · go_wp2
    go_ret
    exact ⟨ret_bool (by rw [OK.out]; rfl), bel_al3 _ _ _ _⟩
  go_wp2_with fail
  refine (areOne _ _ _ _ _ _ (by simp)).mono ?_
  rintro e w' ⟨rfl, rfl⟩
  rw [H3.out]
  cases q3
  · go_wp2
    go_ret
    exact ⟨ret_bool (by rw [OK.out]; rfl), Below.then' (bel_al3 _ _ _ _) (bel_al1 _ _)⟩
  go_wp2_with fail
  refine (areFlatIds_any _ _ _ x.Flats _ (HI.out.below (Below.then' (bel_al3 _ _ _ _) (bel_al1 _ _)))).mono ?_
  rintro e w2 ⟨rfl, hb⟩
  have B := Lib.hid (Below.then' (Below.then' (bel_al3 _ _ _ _) (bel_al1 _ _)) hb)
  clear hb
  go_wp2
  go_ret
  exact ⟨ret_bool (by rw [OK.out]; rfl), B.out⟩
set_option maxHeartbeats 3200000 in
theorem fitsInto_any (f : VFlat) (x : VDrawer) (h : Hd) (w : World) :
    Calls Try.prog 86 #[.agg #[.int .i64 f.Id, .int .i64 f.Wide, .int .i64 f.High, .int .i64 f.Grams], .agg #[.int .i64 x.Id, .int .i64 x.Wide, .int .i64 x.High, .int .i64 x.Holds, .slice h.a h.n h.c]] w fun e w' => e = .returned (.bool (fitsB f x)) ∧ Below w.heap.size w w' := by
  obtain ⟨q, hq⟩ : ∃ q, fitsB f x = q := ⟨_, rfl⟩
  rw [hq]
  unfold fitsB at hq
  by_cases h1 : f.Wide ≤ x.Wide <;> by_cases h2 : f.High ≤ x.High <;> by_cases h3 : f.High ≤ x.Wide <;> by_cases h4 : f.Wide ≤ x.High
  all_goals try (exfalso; omega)
  all_goals
    simp only [h1, h2, h3, h4, decide_true, decide_false, Bool.and_true, Bool.and_false, Bool.or_true, Bool.or_false] at hq
    subst hq
    go_enter Try.func86, Try.ntmps86
    go_wp2
    go_ret
    exact ⟨rfl, bel_al2 _ _ _⟩
end Go.Proofs.Ytlmedhidkhphbaa
namespace Go.Proofs.Ytlmedhidkhphbaa
open Go.RowKit
theorem list_atFlat {xs : List VFlat} {len k : Nat} (hl : Hid (len = xs.length)) (hk : k < len) : ∃ s, xs[k]? = some s := ⟨xs[k]'(by have := hl.out; omega), List.getElem?_eq_getElem _⟩
theorem made_ownFlat (w : World) (base : Nat) (h : base ≤ w.heap.size) : (w.alloc (.cells #[] 40)).ownsRow base 40 4 (.slice (some ⟨w.heap.size, 0, none⟩) 0 0) ([] : List VFlat).length (cellsFlat []) :=
  World.ownsRow_made (base := base) (e := 40) (size := 4) w #[] 0 h (Nat.zero_le _) rfl
theorem one_Flat (xs : List VFlat) : ∀ u ∈ cellsFlat xs, u.oneCell' = true := by
  intro u hu
  obtain ⟨s, _, hs⟩ := List.mem_flatMap.1 hu
  exact s.vals_one u hs
set_option maxHeartbeats 1600000 in
set_option maxRecDepth 100000 in
/-- The index of the first element that a function value likes. -/
theorem idxFlat_any (K : FuncId) (caps : Array Value) (f : VFlat → Bool) (a : Option Addr) (len cap : Nat) (xs : List VFlat) (w : World) (h : IsFlatS w a len cap xs)
    (hcall : ∀ args W, (callFunc K args).run Try.prog W = .ok (.enter K args) W)
    (hf : ∀ W s, s ∈ xs → Below w.heap.size w W → Calls Try.prog K (#[.agg #[.int .i64 s.Id, .int .i64 s.Wide, .int .i64 s.High, .int .i64 s.Grams]] ++ caps) W fun e w' => e = .returned (.bool (f s)) ∧ Below W.heap.size W w') :
    Calls Try.prog 122 #[.slice a len cap, .func (.func K) #[] caps] w fun e w' => e = .returned (.int .i64 (firstOf f xs)) ∧ Below w.heap.size w w' := by
  have hm := h.2.2.1
  have hcl := h.2.1
  unfold maxLen at hm
  have S := Lib.hid h
  have L := Lib.hid h.1
  have F := Lib.hid hf
  clear h hf
  go_enter Try.func122, Try.ntmps122
  go_wp2
  go_loopw [8, 5] (fun i _ wr => ∃ k : Nat, k ≤ len ∧ i = .int .i64 k ∧ Below w.heap.size w wr ∧ ∀ (j : Nat) t, j < k → xs[j]? = some t → f t = false) (fun i _ _ => len - (intOf i).toNat)
  case atStart => exact ⟨0, Nat.zero_le _, rfl, Below.refl _ _, by omega⟩
  case round =>
    obtain ⟨k, hk, rfl, hbel, hall⟩ := hrel
    have A := Lib.hid hall
    have B := Lib.hid hbel
    clear hall
    by_cases hlt : k < len
    · obtain ⟨s, hs⟩ := list_atFlat L hlt
      obtain ⟨b, o, rfl, hb, hat⟩ := (S.out.below hbel).at (by omega)
      obtain ⟨c0, c1, c2, c3⟩ := hat k s hs
      have X := Lib.hid hs
      clear hs hat hbel
      go_wp2_with fail
      refine (F.out wr s (List.mem_of_getElem? X.out) B.out).mono ?_
      rintro e w1 ⟨rfl, hb1⟩
      have B1 := Lib.hid (Below.then' B.out hb1)
      clear hb1
      by_cases hfs : f s = true
      · have FS := Lib.hid hfs
        rw [hfs]
        clear hfs
        go_wp2
        go_ret
        exact ⟨ret_int (firstOf_at X.out FS.out A.out).symm, B1.out⟩
      · have hfs' : f s = false := by simpa using hfs
        have FS := Lib.hid hfs'
        rw [hfs']
        clear hfs hfs'
        go_wp2
        go_roundw
        case rel => exact ⟨k + 1, by omega, by go_num, B1.out, fun j t hj ht => by
          by_cases e : j = k
          · subst e; rw [X.out] at ht; cases ht; exact FS.out
          · exact A.out j t (by omega) ht⟩
        case measure => simp [intOf]; omega
    · obtain rfl : k = len := by omega
      clear hbel
      go_wp2
      go_ret
      exact ⟨ret_int (firstOf_no fun j t hj ht => A.out j t (by have := L.out; omega) ht).symm, B.out⟩
/-- A call of a function value enters the function. -/
theorem callf_ofFlat {P : Program} {K : FuncId} {fn : Func} (hf : P.funcs[K]? = some fn) (h1 : (fn.name == "runtime.NumGoroutine") = false) (h2 : fn.body.isNone = false) : ∀ args W, (callFunc K args).run P W = .ok (.enter K args) W := by
  intro args W
  have h1' : ¬ fn.name = "runtime.NumGoroutine" := by simpa using h1
  have h2' : ¬ fn.body = none := by intro h; rw [h] at h2; cases h2
  simp [callFunc, go_sem, hf, h1', h2']
end Go.Proofs.Ytlmedhidkhphbaa
namespace Go.Proofs.Ytlmedhidkhphbaa
open Go.RowKit
set_option maxHeartbeats 3200000 in
set_option maxRecDepth 100000 in
/-- The index of the first element that a function value likes. -/
theorem idxInt_any (K : FuncId) (caps : Array Value) (f : Int → Bool) (a : Option Addr) (len cap : Nat) (xs : List Int) (w : World) (h : IsInts w a len cap xs)
    (hcall : ∀ args W, (callFunc K args).run Try.prog W = .ok (.enter K args) W)
    (hf : ∀ (W : World) (s : Int), s ∈ xs → Below w.heap.size w W → Calls Try.prog K (#[.int .i64 s] ++ caps) W fun e w' => e = .returned (.bool (f s)) ∧ Below W.heap.size W w') :
    Calls Try.prog 126 #[.slice a len cap, .func (.func K) #[] caps] w fun e w' => e = .returned (.int .i64 (firstOf f xs)) ∧ Below w.heap.size w w' := by
  have hm := h.2.2.1
  have hcl := h.2.1
  unfold maxLen at hm
  have S := Lib.hid h
  have L := Lib.hid h.1
  have F := Lib.hid hf
  clear h hf
  go_enter Try.func126, Try.ntmps126
  go_wp2
  go_loopw [8, 5] (fun i _ wr => ∃ k : Nat, k ≤ len ∧ i = .int .i64 k ∧ Below w.heap.size w wr ∧ ∀ (j : Nat) t, j < k → xs[j]? = some t → f t = false) (fun i _ _ => len - (intOf i).toNat)
  case atStart => exact ⟨0, Nat.zero_le _, rfl, Below.refl _ _, by omega⟩
  case round =>
    obtain ⟨k, hk, rfl, hbel, hall⟩ := hrel
    have A := Lib.hid hall
    have B := Lib.hid hbel
    clear hall
    by_cases hlt : k < len
    · obtain ⟨s, hs⟩ := el_at L hlt
      obtain ⟨b, o, rfl, hb, hat⟩ := (S.out.below hbel).at (by omega)
      have c0 := hat k s hs
      have X := Lib.hid hs
      clear hs hat hbel
      go_wp2_with fail
      refine (F.out wr s (List.mem_of_getElem? X.out) B.out).mono ?_
      rintro e w1 ⟨rfl, hb1⟩
      have B1 := Lib.hid (Below.then' B.out hb1)
      clear hb1
      by_cases hfs : f s = true
      · have FS := Lib.hid hfs
        rw [hfs]
        clear hfs
        go_wp2
        go_ret
        exact ⟨ret_int (firstOf_at X.out FS.out A.out).symm, B1.out⟩
      · have hfs' : f s = false := by simpa using hfs
        have FS := Lib.hid hfs'
        rw [hfs']
        clear hfs hfs'
        go_wp2
        go_roundw
        case rel => exact ⟨k + 1, by omega, by go_num, B1.out, fun j t hj ht => by
          by_cases e : j = k
          · subst e; rw [X.out] at ht; cases ht; exact FS.out
          · exact A.out j t (by omega) ht⟩
        case measure => simp [intOf]; omega
    · obtain rfl : k = len := by omega
      clear hbel
      go_wp2
      go_ret
      exact ⟨ret_int (firstOf_no fun j t hj ht => A.out j t (by have := L.out; omega) ht).symm, B.out⟩
end Go.Proofs.Ytlmedhidkhphbaa
namespace Go.Proofs.Ytlmedhidkhphbaa
open Go.RowKit
/-- A row of integers of the call's own, and the world below as it was. -/
def IdsOwn (xs : List Int) (w : World) (e : Ending) (w' : World) : Prop := ∃ v, e = .returned v ∧ w'.ownsRow w.heap.size 3 1 v xs.length (intCells xs) ∧ Below w.heap.size w w'
theorem where_more {α : Type} {xs : List α} {k : Nat} {s : α} (f : α → Bool) (g : α → Int) (hs : xs[k]? = some s) : ((xs.take (k + 1)).filter f).map g = ((xs.take k).filter f).map g ++ (if f s = true then [g s] else []) := by
  rw [List.take_add_one, hs, List.filter_append, List.map_append]
  cases h : f s <;> simp [h]
theorem where_len {α : Type} (f : α → Bool) (g : α → Int) (xs : List α) (k : Nat) : (((xs.take k).filter f).map g).length ≤ k := by
  rw [List.length_map]
  exact Nat.le_trans (List.length_filter_le _ _) (by rw [List.length_take]; omega)
theorem nil_ids (w : World) (base : Nat) : w.ownsRow base 3 1 (.slice none 0 0) ([] : List Int).length (intCells []) := ⟨by simp [intCells], .inl ⟨rfl, rfl⟩⟩
theorem made_ids (w : World) : (w.alloc (.cells #[] 3)).ownsRow w.heap.size 3 1 (.slice (some ⟨w.heap.size, 0, none⟩) 0 0) ([] : List Int).length (intCells []) :=
  World.ownsRow_made (base := w.heap.size) (e := 3) (size := 1) w #[] 0 (Nat.le_refl _) (Nat.zero_le _) rfl
theorem wh_al1 (w : World) (o : Obj) : Below w.heap.size w (w.alloc o) := (Below.refl _ _).alloc (Nat.le_refl _) _
theorem cell_box' (w : World) (v : Value) (t : TypeId) (B : Nat) (hB : w.heap.size = B) : (w.alloc (.cells #[v] t)).cell? ⟨B, 0, none⟩ = some v := by
  subst hB
  simp [World.cell?_alloc_new]
theorem cell_stay' {w w' : World} {b o : Nat} {v : Value} (h : w.cell? ⟨b, o, none⟩ = some v) (hb : Below w.heap.size w w') : w'.cell? ⟨b, o, none⟩ = some v := (hb.cell (p := ⟨b, o, none⟩) (World.lt_of_cell h)).trans h
/-- A call of a function value enters the function. -/
theorem enters_fn' {P : Program} {K : FuncId} {fn : Func} (hf : P.funcs[K]? = some fn) (h1 : (fn.name == "runtime.NumGoroutine") = false) (h2 : fn.body.isNone = false) : ∀ args W, (callFunc K args).run P W = .ok (.enter K args) W := by
  intro args W
  have h1' : ¬ fn.name = "runtime.NumGoroutine" := by simpa using h1
  have h2' : ¬ fn.body = none := by intro h; rw [h] at h2; cases h2
  simp [callFunc, go_sem, hf, h1', h2']
end Go.Proofs.Ytlmedhidkhphbaa
namespace Go.Proofs.Ytlmedhidkhphbaa
open Go.RowKit

set_option maxHeartbeats 3200000 in
set_option maxRecDepth 100000 in
theorem idIsFlat_any (K : FuncId) (idf : VFlat → Int) (s : VFlat) (id : Int) (b1 b2 : Nat) (w : World) (h1 : w.cell? ⟨b1, 0, none⟩ = some (.func (.func K) #[] #[])) (h2 : w.cell? ⟨b2, 0, none⟩ = some (.int .i64 id))
    (hcall : ∀ args W, (callFunc K args).run Try.prog W = .ok (.enter K args) W)
    (hf : ∀ W, Calls Try.prog K #[.agg #[.int .i64 s.Id, .int .i64 s.Wide, .int .i64 s.High, .int .i64 s.Grams]] W fun e w' => e = .returned (.int .i64 (idf s)) ∧ Below W.heap.size W w') :
    Calls Try.prog 123 #[.agg #[.int .i64 s.Id, .int .i64 s.Wide, .int .i64 s.High, .int .i64 s.Grams], .pointer (some ⟨b1, 0, none⟩), .pointer (some ⟨b2, 0, none⟩)] w fun e w' => e = .returned (.bool (idf s == id)) ∧ Below w.heap.size w w' := by
  obtain ⟨y, hy⟩ : ∃ y, idf s = y := ⟨_, rfl⟩
  rw [hy]
  rw [hy] at hf
  have F := Lib.hid hf
  have H1 := Lib.hid h1
  have H2 := Lib.hid h2
  have HC := Lib.hid hcall
  clear hf hy h1 h2 hcall
  go_enter Try.func123, Try.ntmps123
  go_wp2
  refine wp_world (fun W => BoxFlat W w.heap.size s ∧ Below w.heap.size w W) ⟨(BoxFlat.new _ 40 s _ rfl), bel_al1 _ _⟩ ?_
  rintro W ⟨hbox, hbw⟩
  have BW := Lib.hid hbw
  obtain ⟨e0, e1, e2, e3⟩ := hbox
  have g1 := cell_regrown (cell_stay' H1.out hbw)
  have g2 := cell_regrown (cell_stay' H2.out hbw)
  clear hbw
  have k0 := cell_regrown e0
  have k1 := cell_regrown e1
  have k2 := cell_regrown e2
  have k3 := cell_regrown e3
  clear e0 e1 e2 e3
  have cQ := below_at (W := W) (fun W' _ => F.out W')
  have hcall := HC.out
  refine wp_region_quiet_below (by kernel_rfl) (by kernel_rfl) ?_
  repeat (first | go_big_quiet_step (first | (with_reducible exact cQ _ _)) | quiet_step (first | (with_reducible exact cQ _ _)))
  refine wpQuiet_nil ?_
  intro W2 hw2
  have B2 := Lib.hid (Below.then' BW.out (below_of_re hw2))
  clear hw2 cQ k0 k1 k2 k3 g1 g2 hcall
  go_wp2
  go_ret
  exact ⟨rfl, B2.out⟩
set_option maxHeartbeats 3200000 in
set_option maxRecDepth 100000 in
theorem indexByFlat_any (K : FuncId) (idf : VFlat → Int) (a : Option Addr) (len cap : Nat) (xs : List VFlat) (id : Int) (w : World) (h : IsFlatS w a len cap xs)
    (hcall : ∀ args W, (callFunc K args).run Try.prog W = .ok (.enter K args) W)
    (hf : ∀ (W : World) (s : VFlat), Calls Try.prog K #[.agg #[.int .i64 s.Id, .int .i64 s.Wide, .int .i64 s.High, .int .i64 s.Grams]] W fun e w' => e = .returned (.int .i64 (idf s)) ∧ Below W.heap.size W w') :
    Calls Try.prog 76 #[.slice a len cap, .int .i64 id, .func (.func K) #[] #[]] w fun e w' => e = .returned (.int .i64 (firstOf (fun s => idf s == id) xs)) ∧ Below w.heap.size w w' := by
  have b1 := wh_al1 w (.cells #[.int .i64 id] 3)
  have b2 := Below.then' b1 (wh_al1 (w.alloc (.cells #[.int .i64 id] 3)) (.cells #[.func (.func K) #[] #[]] 90))
  have S := Lib.hid (h.below b2)
  have C1 := Lib.hid (cell_stay' (cell_box' w (.int .i64 id) 3 _ rfl) (wh_al1 (w.alloc (.cells #[.int .i64 id] 3)) (.cells #[.func (.func K) #[] #[]] 90)))
  have C2 := Lib.hid (cell_box' (w.alloc (.cells #[.int .i64 id] 3)) (.func (.func K) #[] #[]) 90 (w.heap.size + 1) (by simp))
  have B0 := Lib.hid b2
  have F := Lib.hid hf
  have HC := Lib.hid hcall
  clear h b1 b2 hf hcall
  go_enter Try.func76, Try.ntmps76
  go_wp2_with fail
  refine (idxFlat_any 123 #[.pointer (some ⟨w.heap.size + 1, 0, none⟩), .pointer (some ⟨w.heap.size, 0, none⟩)] (fun s => idf s == id) a len cap xs _ S.out (enters_fn' Try.func123 (by kernel_rfl) (by kernel_rfl)) (fun W s _ hW => by
    have h1 := idIsFlat_any K idf s id (w.heap.size + 1) w.heap.size W (cell_stay' C2.out hW) (cell_stay' C1.out hW) HC.out (fun W' => F.out W' s)
    simpa using h1)).mono ?_
  rintro e w1 ⟨rfl, hb⟩
  have B := Lib.hid (Below.then' B0.out hb)
  clear hb
  go_wp2
  go_ret
  exact ⟨rfl, B.out⟩
set_option maxHeartbeats 6400000 in
set_option maxRecDepth 100000 in
theorem idsWhereFlat_any (K1 K : FuncId) (idf : VFlat → Int) (caps : Array Value) (f : VFlat → Bool) (a : Option Addr) (len cap : Nat) (xs : List VFlat) (w : World) (h : IsFlatS w a len cap xs) (hl : xs.length ≤ 100000)
    (hcall1 : ∀ args W, (callFunc K1 args).run Try.prog W = .ok (.enter K1 args) W) (hcall : ∀ args W, (callFunc K args).run Try.prog W = .ok (.enter K args) W)
    (hi1 : ∀ (W : World) (s : VFlat), Calls Try.prog K1 #[.agg #[.int .i64 s.Id, .int .i64 s.Wide, .int .i64 s.High, .int .i64 s.Grams]] W fun e w' => e = .returned (.int .i64 (idf s)) ∧ Below W.heap.size W w')
    (hf : ∀ (W : World) (s : VFlat), s ∈ xs → Below w.heap.size w W → Calls Try.prog K (#[.agg #[.int .i64 s.Id, .int .i64 s.Wide, .int .i64 s.High, .int .i64 s.Grams]] ++ caps) W fun e w' => e = .returned (.bool (f s)) ∧ Below W.heap.size W w') :
    Calls Try.prog 105 #[.slice a len cap, .func (.func K1) #[] #[], .func (.func K) #[] caps] w (IdsOwn ((xs.filter f).map idf) w) := by
  obtain rfl := h.1
  obtain ⟨i0, hi, hz0, hz1, hz2⟩ := info_parts infoInt
  have hm := h.2.2.1
  have hcl := h.2.1
  unfold maxLen at hm
  have S := Lib.hid h
  have F := Lib.hid hf
  have F1 := Lib.hid hi1
  clear h hf hi1
  go_enter Try.func105, Try.ntmps105
  go_wp2
  go_loopw [12, 7] (fun i o wr => ∃ k : Nat, k ≤ xs.length ∧ i = .int .i64 k ∧ wr.ownsRow w.heap.size 3 1 o (((xs.take k).filter f).map idf).length (intCells (((xs.take k).filter f).map idf)) ∧ Below w.heap.size w wr) (fun i _ _ => xs.length - (intOf i).toNat)
  case atStart => exact ⟨0, Nat.zero_le _, rfl, ⟨by simp [intCells], .inl ⟨rfl, rfl⟩⟩, Below.refl _ _⟩
  case round =>
    obtain ⟨k, hk, rfl, hown, hbel⟩ := hrel
    have B := Lib.hid hbel
    by_cases hlt : k < xs.length
    · obtain ⟨s, hs⟩ : ∃ s, xs[k]? = some s := ⟨xs[k]'hlt, List.getElem?_eq_getElem _⟩
      obtain ⟨b, o, rfl, hbw, hat⟩ := (S.out.below hbel).at (by omega)
      obtain ⟨c0, c1, c2, c3⟩ := hat k s hs
      have FS := Lib.hid (where_more f idf hs)
      have hgl := where_len f idf xs k
      obtain ⟨G, hG⟩ : ∃ G, ((xs.take k).filter f).map idf = G := ⟨_, rfl⟩
      rw [hG] at hown FS hgl
      have O := Lib.hid hown
      obtain ⟨r, hr⟩ : ∃ r, f s = r := ⟨_, rfl⟩
      have RR := Lib.hid hr
      obtain ⟨y, hy⟩ : ∃ y, idf s = y := ⟨_, rfl⟩
      have YY := Lib.hid hy
      have bw := wh_al1 wr (.cells #[.int .i64 s.Id, .int .i64 s.Wide, .int .i64 s.High, .int .i64 s.Grams] 40)
      have BX := Lib.hid (BoxFlat.new wr 40 s _ rfl)
      have BW := Lib.hid bw
      have K1' := Lib.hid hs
      have hi0 : (0 : Int) ≤ (k : Int) := by omega
      have hi1 : (k : Int) < (xs.length : Int) := by omega
      have hsz := B.out.size
      clear hs hat hbel hG hr hy hown bw
      go_wp2_with fail
      refine (F.out _ s (List.mem_of_getElem? K1'.out) (Below.then' B.out BW.out)).mono ?_
      rintro e w2 ⟨rfl, hb⟩
      rw [RR.out]
      have hb' := Below.then' BW.out hb
      have B2 := Lib.hid (Below.then' B.out hb')
      have O2 := Lib.hid (ownsRow_below O.out hb')
      have BX2 := Lib.hid (BX.out.below hb)
      have hs2 := hb'.size
      clear hb hb' c0 c1 c2 c3
      cases r
      · go_wp2
        go_roundw
        case rel => exact ⟨k + 1, by omega, by go_num, by rw [FS.out, RR.out]; simpa using O2.out, B2.out⟩
        case measure => simp [intOf]; omega
      · obtain ⟨e0, e1, e2, e3⟩ := BX2.out
        go_wp2_with fail
        refine (F1.out _ s).mono ?_
        rintro e w3 ⟨rfl, hb⟩
        rw [YY.out]
        have B3 := Lib.hid (Below.then' B2.out hb)
        have hown3 := (ownsRow_below O2.out hb).alloc (.cells #[.int .i64 y] 3)
        have hs3 := hb.size
        clear hb e0 e1 e2 e3
        go_wp2_with (at_builtin; refine wpList_append_own _ rfl _ _ 31 rfl w.heap.size 3 i0 (.int .i64 0) 1 8 Try.underlying31 hi hz0 hz1 hz2 rfl (by decide) _ _ _ rfl hown3 ⟨w3.heap.size, 0, none⟩ 1 1 [.int .i64 y] rfl rfl (cell_one _ _ _) (fun x hx => by simp at hx; subst hx; rfl) (by unfold maxLen; omega) (by omega) (by simp; omega) ?_; intro v' w4 hown' hgrow4 hnil4)
        go_roundw
        case rel =>
          refine ⟨k + 1, by omega, by go_num, ?_, (Below.then' B3.out (wh_al1 _ _)).grown hgrow4 (by simp; omega) (fun j e => (hown3.lt j e).1)⟩
          rw [FS.out, RR.out, if_pos rfl, YY.out, intCells_snoc]
          rw [List.length_append]
          exact hown'
        case measure => simp [intOf]; omega
    · obtain rfl : k = xs.length := by omega
      rw [List.take_of_length_le (Nat.le_refl _)] at hown
      have O := Lib.hid hown
      clear hbel hown
      go_wp2
      go_ret
      exact ⟨_, rfl, O.out, B.out⟩
end Go.Proofs.Ytlmedhidkhphbaa
namespace Go.Proofs.Ytlmedhidkhphbaa
open Go.RowKit

set_option maxHeartbeats 3200000 in
set_option maxRecDepth 100000 in
theorem idIsDrawer_any (K : FuncId) (idf : VDrawer → Int) (s : VDrawer) (hd : Hd) (id : Int) (b1 b2 : Nat) (w : World) (h1 : w.cell? ⟨b1, 0, none⟩ = some (.func (.func K) #[] #[])) (h2 : w.cell? ⟨b2, 0, none⟩ = some (.int .i64 id))
    (hcall : ∀ args W, (callFunc K args).run Try.prog W = .ok (.enter K args) W)
    (hf : ∀ W, Calls Try.prog K #[.agg #[.int .i64 s.Id, .int .i64 s.Wide, .int .i64 s.High, .int .i64 s.Holds, .slice hd.a hd.n hd.c]] W fun e w' => e = .returned (.int .i64 (idf s)) ∧ Below W.heap.size W w') :
    Calls Try.prog 112 #[.agg #[.int .i64 s.Id, .int .i64 s.Wide, .int .i64 s.High, .int .i64 s.Holds, .slice hd.a hd.n hd.c], .pointer (some ⟨b1, 0, none⟩), .pointer (some ⟨b2, 0, none⟩)] w fun e w' => e = .returned (.bool (idf s == id)) ∧ Below w.heap.size w w' := by
  obtain ⟨y, hy⟩ : ∃ y, idf s = y := ⟨_, rfl⟩
  rw [hy]
  rw [hy] at hf
  have F := Lib.hid hf
  have H1 := Lib.hid h1
  have H2 := Lib.hid h2
  have HC := Lib.hid hcall
  clear hf hy h1 h2 hcall
  go_enter Try.func112, Try.ntmps112
  go_wp2
  refine wp_world (fun W => BoxDrawer W w.heap.size ⟨s, hd⟩ ∧ Below w.heap.size w W) ⟨(BoxDrawer.new _ 42 ⟨s, hd⟩ _ rfl), bel_al1 _ _⟩ ?_
  rintro W ⟨hbox, hbw⟩
  have BW := Lib.hid hbw
  obtain ⟨e0, e1, e2, e3, e4⟩ := hbox
  have g1 := cell_regrown (cell_stay' H1.out hbw)
  have g2 := cell_regrown (cell_stay' H2.out hbw)
  clear hbw
  have k0 := cell_regrown e0
  have k1 := cell_regrown e1
  have k2 := cell_regrown e2
  have k3 := cell_regrown e3
  have k4 := cell_regrown e4
  clear e0 e1 e2 e3 e4
  have cQ := below_at (W := W) (fun W' _ => F.out W')
  have hcall := HC.out
  refine wp_region_quiet_below (by kernel_rfl) (by kernel_rfl) ?_
  repeat (first | go_big_quiet_step (first | (with_reducible exact cQ _ _)) | quiet_step (first | (with_reducible exact cQ _ _)))
  refine wpQuiet_nil ?_
  intro W2 hw2
  have B2 := Lib.hid (Below.then' BW.out (below_of_re hw2))
  clear hw2 cQ k0 k1 k2 k3 k4 g1 g2 hcall
  go_wp2
  go_ret
  exact ⟨rfl, B2.out⟩
set_option maxHeartbeats 3200000 in
set_option maxRecDepth 100000 in
theorem indexByDrawer_any (K : FuncId) (idf : VDrawer → Int) (a : Option Addr) (len cap : Nat) (xs : List VDrawer) (id : Int) (w : World) (h : IsDrawerS w a len cap xs)
    (hcall : ∀ args W, (callFunc K args).run Try.prog W = .ok (.enter K args) W)
    (hf : ∀ (W : World) (s : VDrawer) (hd : Hd), Calls Try.prog K #[.agg #[.int .i64 s.Id, .int .i64 s.Wide, .int .i64 s.High, .int .i64 s.Holds, .slice hd.a hd.n hd.c]] W fun e w' => e = .returned (.int .i64 (idf s)) ∧ Below W.heap.size W w') :
    Calls Try.prog 63 #[.slice a len cap, .int .i64 id, .func (.func K) #[] #[]] w fun e w' => e = .returned (.int .i64 (firstOf (fun s => idf s == id) xs)) ∧ Below w.heap.size w w' := by
  have b1 := wh_al1 w (.cells #[.int .i64 id] 3)
  have b2 := Below.then' b1 (wh_al1 (w.alloc (.cells #[.int .i64 id] 3)) (.cells #[.func (.func K) #[] #[]] 80))
  have S := Lib.hid (h.below b2)
  have C1 := Lib.hid (cell_stay' (cell_box' w (.int .i64 id) 3 _ rfl) (wh_al1 (w.alloc (.cells #[.int .i64 id] 3)) (.cells #[.func (.func K) #[] #[]] 80)))
  have C2 := Lib.hid (cell_box' (w.alloc (.cells #[.int .i64 id] 3)) (.func (.func K) #[] #[]) 80 (w.heap.size + 1) (by simp))
  have B0 := Lib.hid b2
  have F := Lib.hid hf
  have HC := Lib.hid hcall
  clear h b1 b2 hf hcall
  go_enter Try.func63, Try.ntmps63
  go_wp2_with fail
  refine (idxDrawer_any 112 #[.pointer (some ⟨w.heap.size + 1, 0, none⟩), .pointer (some ⟨w.heap.size, 0, none⟩)] (fun s => idf s == id) a len cap xs _ S.out (enters_fn' Try.func112 (by kernel_rfl) (by kernel_rfl)) (fun W s hd _ _ hW => by
    have h1 := idIsDrawer_any K idf s hd id (w.heap.size + 1) w.heap.size W (cell_stay' C2.out hW) (cell_stay' C1.out hW) HC.out (fun W' => F.out W' s hd)
    simpa using h1)).mono ?_
  rintro e w1 ⟨rfl, hb⟩
  have B := Lib.hid (Below.then' B0.out hb)
  clear hb
  go_wp2
  go_ret
  exact ⟨rfl, B.out⟩
set_option maxHeartbeats 6400000 in
set_option maxRecDepth 100000 in
theorem idsWhereDrawer_any (K1 K : FuncId) (idf : VDrawer → Int) (caps : Array Value) (f : VDrawer → Bool) (a : Option Addr) (len cap : Nat) (xs : List VDrawer) (w : World) (h : IsDrawerS w a len cap xs) (hl : xs.length ≤ 100000)
    (hcall1 : ∀ args W, (callFunc K1 args).run Try.prog W = .ok (.enter K1 args) W) (hcall : ∀ args W, (callFunc K args).run Try.prog W = .ok (.enter K args) W)
    (hi1 : ∀ (W : World) (s : VDrawer) (hd : Hd), Calls Try.prog K1 #[.agg #[.int .i64 s.Id, .int .i64 s.Wide, .int .i64 s.High, .int .i64 s.Holds, .slice hd.a hd.n hd.c]] W fun e w' => e = .returned (.int .i64 (idf s)) ∧ Below W.heap.size W w')
    (hf : ∀ (W : World) (s : VDrawer) (hd : Hd), s ∈ xs → IsInts W hd.a hd.n hd.c s.Flats → Below w.heap.size w W → Calls Try.prog K (#[.agg #[.int .i64 s.Id, .int .i64 s.Wide, .int .i64 s.High, .int .i64 s.Holds, .slice hd.a hd.n hd.c]] ++ caps) W fun e w' => e = .returned (.bool (f s)) ∧ Below W.heap.size W w') :
    Calls Try.prog 74 #[.slice a len cap, .func (.func K1) #[] #[], .func (.func K) #[] caps] w (IdsOwn ((xs.filter f).map idf) w) := by
  obtain rfl := h.1
  obtain ⟨i0, hi, hz0, hz1, hz2⟩ := info_parts infoInt
  have hm := h.2.2.1
  have hcl := h.2.1
  unfold maxLen at hm
  have S := Lib.hid h
  have F := Lib.hid hf
  have F1 := Lib.hid hi1
  clear h hf hi1
  go_enter Try.func74, Try.ntmps74
  go_wp2
  go_loopw [12, 7] (fun i o wr => ∃ k : Nat, k ≤ xs.length ∧ i = .int .i64 k ∧ wr.ownsRow w.heap.size 3 1 o (((xs.take k).filter f).map idf).length (intCells (((xs.take k).filter f).map idf)) ∧ Below w.heap.size w wr) (fun i _ _ => xs.length - (intOf i).toNat)
  case atStart => exact ⟨0, Nat.zero_le _, rfl, ⟨by simp [intCells], .inl ⟨rfl, rfl⟩⟩, Below.refl _ _⟩
  case round =>
    obtain ⟨k, hk, rfl, hown, hbel⟩ := hrel
    have B := Lib.hid hbel
    by_cases hlt : k < xs.length
    · obtain ⟨s, hs⟩ : ∃ s, xs[k]? = some s := ⟨xs[k]'hlt, List.getElem?_eq_getElem _⟩
      obtain ⟨b, o, rfl, hbw, hat⟩ := (S.out.below hbel).at (by omega)
      obtain ⟨hd, c0, c1, c2, c3, c4, hin⟩ := hat k s hs
      have FS := Lib.hid (where_more f idf hs)
      have hgl := where_len f idf xs k
      obtain ⟨G, hG⟩ : ∃ G, ((xs.take k).filter f).map idf = G := ⟨_, rfl⟩
      rw [hG] at hown FS hgl
      have O := Lib.hid hown
      obtain ⟨r, hr⟩ : ∃ r, f s = r := ⟨_, rfl⟩
      have RR := Lib.hid hr
      obtain ⟨y, hy⟩ : ∃ y, idf s = y := ⟨_, rfl⟩
      have YY := Lib.hid hy
      have bw := wh_al1 wr (.cells #[.int .i64 s.Id, .int .i64 s.Wide, .int .i64 s.High, .int .i64 s.Holds, .slice hd.a hd.n hd.c] 42)
      have BX := Lib.hid (BoxDrawer.new wr 42 ⟨s, hd⟩ _ rfl)
      have HI := Lib.hid (hin.below bw)
      clear hin
      have BW := Lib.hid bw
      have K1' := Lib.hid hs
      have hi0 : (0 : Int) ≤ (k : Int) := by omega
      have hi1 : (k : Int) < (xs.length : Int) := by omega
      have hsz := B.out.size
      clear hs hat hbel hG hr hy hown bw
      go_wp2_with fail
      refine (F.out _ s hd (List.mem_of_getElem? K1'.out) HI.out (Below.then' B.out BW.out)).mono ?_
      rintro e w2 ⟨rfl, hb⟩
      rw [RR.out]
      have hb' := Below.then' BW.out hb
      have B2 := Lib.hid (Below.then' B.out hb')
      have O2 := Lib.hid (ownsRow_below O.out hb')
      have BX2 := Lib.hid (BX.out.below hb)
      have hs2 := hb'.size
      clear hb hb' c0 c1 c2 c3 c4
      cases r
      · go_wp2
        go_roundw
        case rel => exact ⟨k + 1, by omega, by go_num, by rw [FS.out, RR.out]; simpa using O2.out, B2.out⟩
        case measure => simp [intOf]; omega
      · obtain ⟨e0, e1, e2, e3, e4⟩ := BX2.out
        go_wp2_with fail
        refine (F1.out _ s hd).mono ?_
        rintro e w3 ⟨rfl, hb⟩
        rw [YY.out]
        have B3 := Lib.hid (Below.then' B2.out hb)
        have hown3 := (ownsRow_below O2.out hb).alloc (.cells #[.int .i64 y] 3)
        have hs3 := hb.size
        clear hb e0 e1 e2 e3 e4
        go_wp2_with (at_builtin; refine wpList_append_own _ rfl _ _ 31 rfl w.heap.size 3 i0 (.int .i64 0) 1 8 Try.underlying31 hi hz0 hz1 hz2 rfl (by decide) _ _ _ rfl hown3 ⟨w3.heap.size, 0, none⟩ 1 1 [.int .i64 y] rfl rfl (cell_one _ _ _) (fun x hx => by simp at hx; subst hx; rfl) (by unfold maxLen; omega) (by omega) (by simp; omega) ?_; intro v' w4 hown' hgrow4 hnil4)
        go_roundw
        case rel =>
          refine ⟨k + 1, by omega, by go_num, ?_, (Below.then' B3.out (wh_al1 _ _)).grown hgrow4 (by simp; omega) (fun j e => (hown3.lt j e).1)⟩
          rw [FS.out, RR.out, if_pos rfl, YY.out, intCells_snoc]
          rw [List.length_append]
          exact hown'
        case measure => simp [intOf]; omega
    · obtain rfl : k = xs.length := by omega
      rw [List.take_of_length_le (Nat.le_refl _)] at hown
      have O := Lib.hid hown
      clear hbel hown
      go_wp2
      go_ret
      exact ⟨_, rfl, O.out, B.out⟩
end Go.Proofs.Ytlmedhidkhphbaa
namespace Go.Proofs.Ytlmedhidkhphbaa
open Go.RowKit

theorem getD_of {zs : List Int} {j : Nat} (h : j < zs.length) : zs[j]? = some (zs.getD j 0) := by
  rw [List.getD_eq_getElem?_getD, List.getElem?_eq_getElem h]; rfl
theorem hasB_contains (x : Int) (zs : List Int) : hasB x zs = zs.contains x := by
  rw [Bool.eq_iff_iff, hasB_iff, List.contains_iff_mem]
theorem contains_any (a : Option Addr) (len cap : Nat) (zs : List Int) (x : Int) (w : World) (h : IsInts w a len cap zs) :
    Calls Try.prog 125 #[.slice a len cap, .int .i64 x] w fun e w' => e = .returned (.bool (hasB x zs)) ∧ w = w' := by
  have hm := h.2.2.1
  unfold maxLen at hm
  by_cases h0 : len = 0
  · subst h0
    have : zs = [] := List.length_eq_zero_iff.1 h.1.symm
    subst this
    exact (Try.slices_Contains_int_empty a cap x w).mono fun e w' ⟨h1, h2⟩ => ⟨h1, h2.symm⟩
  · obtain ⟨b, o, rfl, _, hat⟩ := h.at (by omega)
    refine (Try.slices_Contains_int b o len cap zs x w (by have := h.1; omega) (by have := h.2.1; omega) (fun j hj => hat j _ (getD_of hj))).mono fun e w' ⟨h1, h2⟩ => ⟨?_, h2.symm⟩
    rw [h1, List.take_of_length_le (by have := h.1; omega), hasB_contains]
theorem indexOfFlat_any (a : Option Addr) (len cap : Nat) (xs : List VFlat) (id : Int) (w : World) (h : IsFlatS w a len cap xs) :
    Calls Try.prog 76 #[.slice a len cap, .int .i64 id, .func (.func 77) #[] #[]] w fun e w' => e = .returned (.int .i64 (flatI xs id)) ∧ Below w.heap.size w w' :=
  indexByFlat_any 77 VFlat.Id a len cap xs id w h (enters_fn Try.func77 (by kernel_rfl) (by kernel_rfl)) (fun W s => flatId_any s W)
theorem indexOfDrawer_any (a : Option Addr) (len cap : Nat) (xs : List VDrawer) (id : Int) (w : World) (h : IsDrawerS w a len cap xs) :
    Calls Try.prog 63 #[.slice a len cap, .int .i64 id, .func (.func 64) #[] #[]] w fun e w' => e = .returned (.int .i64 (drawI xs id)) ∧ Below w.heap.size w w' :=
  indexByDrawer_any 64 VDrawer.Id a len cap xs id w h (enters_fn Try.func64 (by kernel_rfl) (by kernel_rfl)) (fun W s hd => drawerId_any s hd W)
theorem holdIdx_any (x : VDrawer) (h : Hd) (id : Int) (b : Nat) (w : World) (hc : w.cell? ⟨b, 0, none⟩ = some (.int .i64 id)) (hi : IsInts w h.a h.n h.c x.Flats) :
    Calls Try.prog 124 #[.agg #[.int .i64 x.Id, .int .i64 x.Wide, .int .i64 x.High, .int .i64 x.Holds, .slice h.a h.n h.c], .pointer (some ⟨b, 0, none⟩)] w fun e w' => e = .returned (.bool (hasB id x.Flats)) ∧ Below w.heap.size w w' := by
  have b1 := bel_al1 w (.cells #[.int .i64 x.Id, .int .i64 x.Wide, .int .i64 x.High, .int .i64 x.Holds, .slice h.a h.n h.c] 42)
  have g := cell_stay hc b1
  have HI := Lib.hid (hi.below b1)
  clear hc hi b1
  go_enter Try.func124, Try.ntmps124
  go_wp2_with fail
  refine (contains_any _ _ _ x.Flats id _ HI.out).mono ?_
  rintro e w1 ⟨rfl, rfl⟩
  go_wp2
  go_ret
  exact ⟨rfl, bel_al1 _ _⟩
set_option maxHeartbeats 1600000 in
theorem indexOfHolder_any (a : Option Addr) (len cap : Nat) (xs : List VDrawer) (id : Int) (w : World) (h : IsDrawerS w a len cap xs) :
    Calls Try.prog 78 #[.slice a len cap, .int .i64 id] w fun e w' => e = .returned (.int .i64 (holdI xs id)) ∧ Below w.heap.size w w' := by
  have b1 := bel_al1 w (.cells #[.int .i64 id] 3)
  have S := Lib.hid (h.below b1)
  have C := Lib.hid (cell_box w (.int .i64 id) 3 _ rfl)
  have B1 := Lib.hid b1
  clear h b1
  go_enter Try.func78, Try.ntmps78
  go_wp2_with fail
  refine (idxDrawer_any 124 #[.pointer (some ⟨w.heap.size, 0, none⟩)] (fun d => hasB id d.Flats) a len cap xs _ S.out (enters_fn Try.func124 (by kernel_rfl) (by kernel_rfl)) (fun W s hd _ hi hW => by
    have h1 := holdIdx_any s hd id w.heap.size W (cell_stay C.out hW) hi
    simpa using h1)).mono ?_
  rintro e w1 ⟨rfl, hb⟩
  have B := Lib.hid (Below.then' B1.out hb)
  clear hb
  go_wp2
  go_ret
  exact ⟨rfl, B.out⟩
/-! The grams of a drawer. -/
theorem gramsL_take {fs : List VFlat} {k : Nat} {f : VFlat} (h : fs[k]? = some f) (ids : List Int) : gramsL (fs.take (k + 1)) ids = gramsL (fs.take k) ids + (if hasB f.Id ids = true then f.Grams else 0) := by
  unfold gramsL
  rw [List.take_add_one, h, List.filter_append, List.map_append, sumI_app]
  cases e : hasB f.Id ids <;> simp [e, sumI]
theorem ok_take {fs : List VFlat} (h : ∀ f ∈ fs, VFlat.ok f = true) (k : Nat) : ∀ f ∈ fs.take k, VFlat.ok f = true := fun f hf => h f (List.mem_of_mem_take hf)
theorem ok_grams {f : VFlat} (h : VFlat.ok f = true) : 1 ≤ f.Grams ∧ f.Grams ≤ 5000 := by
  unfold VFlat.ok at h
  simp [inB_iff] at h
  exact h.2.2.2
set_option maxHeartbeats 3200000 in
set_option maxRecDepth 100000 in
theorem gramsOf_any (a : Option Addr) (len cap : Nat) (xs : List VFlat) (x : VDrawer) (hd : Hd) (w : World) (h : IsFlatS w a len cap xs) (hi : IsInts w hd.a hd.n hd.c x.Flats) (hok : ∀ f ∈ xs, VFlat.ok f = true) (hl : xs.length ≤ 1000) :
    Calls Try.prog 79 #[.slice a len cap, .agg #[.int .i64 x.Id, .int .i64 x.Wide, .int .i64 x.High, .int .i64 x.Holds, .slice hd.a hd.n hd.c]] w fun e w' => e = .returned (.int .i64 (gramsL xs x.Flats)) ∧ Below w.heap.size w w' := by
  obtain rfl := h.1
  have hm := h.2.2.1
  have hcl := h.2.1
  unfold maxLen at hm
  have b1 := bel_al1 w (.cells #[.int .i64 x.Id, .int .i64 x.Wide, .int .i64 x.High, .int .i64 x.Holds, .slice hd.a hd.n hd.c] 42)
  have S := Lib.hid (h.below b1)
  have HI := Lib.hid (hi.below b1)
  have X := Lib.hid (BoxDrawer.new w 42 ⟨x, hd⟩ _ rfl)
  have B1 := Lib.hid b1
  have OK := Lib.hid hok
  clear h hi b1 hok
  have SZ := Lib.hid (size_al w (.cells #[.int .i64 x.Id, .int .i64 x.Wide, .int .i64 x.High, .int .i64 x.Holds, .slice hd.a hd.n hd.c] 42))
  go_enter Try.func79, Try.ntmps79
  go_wp2
  go_loopw [5, 10] (fun q i wr => ∃ k : Nat, k ≤ xs.length ∧ i = .int .i64 k ∧ q = .int .i64 (gramsL (xs.take k) x.Flats) ∧ Below (w.heap.size + 1) (w.alloc (.cells #[.int .i64 x.Id, .int .i64 x.Wide, .int .i64 x.High, .int .i64 x.Holds, .slice hd.a hd.n hd.c] 42)) wr) (fun _ i _ => xs.length - (intOf i).toNat)
  case atStart => exact ⟨0, Nat.zero_le _, rfl, rfl, Below.refl _ _⟩
  case round =>
    obtain ⟨k, hk, rfl, rfl, hbel⟩ := hrel
    have hbel : Below ((w.alloc (.cells #[.int .i64 x.Id, .int .i64 x.Wide, .int .i64 x.High, .int .i64 x.Holds, .slice hd.a hd.n hd.c] 42)).heap.size) (w.alloc (.cells #[.int .i64 x.Id, .int .i64 x.Wide, .int .i64 x.High, .int .i64 x.Holds, .slice hd.a hd.n hd.c] 42)) wr := by rw [SZ.out]; exact hbel
    have B := Lib.hid hbel
    have gb := gramsL_bd (ok_take OK.out k) x.Flats
    have hlk := List.length_take_le k xs
    by_cases hlt : k < xs.length
    · obtain ⟨f, hf⟩ : ∃ f, xs[k]? = some f := ⟨xs[k]'hlt, List.getElem?_eq_getElem _⟩
      obtain ⟨b, o, rfl, hb, hat⟩ := (S.out.below hbel).at (by omega)
      obtain ⟨c0, c1, c2, c3⟩ := hat k f hf
      have bw := Below.then' hbel (bel_al1 wr (.cells #[.int .i64 f.Id, .int .i64 f.Wide, .int .i64 f.High, .int .i64 f.Grams] 40))
      obtain ⟨e0, e1, e2, e3, e4⟩ := X.out.below bw
      have HI2 := Lib.hid (HI.out.below bw)
      have GT := Lib.hid (gramsL_take hf x.Flats)
      have gf := ok_grams (OK.out f (List.mem_of_getElem? hf))
      obtain ⟨y, hy⟩ : ∃ y, gramsL (xs.take k) x.Flats = y := ⟨_, rfl⟩
      rw [hy] at gb
      have HY := Lib.hid hy
      rw [hy]
      have BW := Lib.hid bw
      clear hbel hf hat hy bw
      go_wp2_with fail
      refine (contains_any _ _ _ x.Flats f.Id _ HI2.out).mono ?_
      rintro e w1 ⟨rfl, rfl⟩
      cases hq : hasB f.Id x.Flats with
      | true =>
        have Q := Lib.hid hq
        clear hq
        go_wp2
        go_roundw
        case rel => exact ⟨k + 1, by omega, by go_num, int_eq (by rw [GT.out, HY.out, if_pos Q.out]), by rw [← SZ.out]; exact BW.out⟩
        case measure => simp [intOf]; omega
      | false =>
        have Q := Lib.hid hq
        clear hq
        go_wp2
        go_roundw
        case rel => exact ⟨k + 1, by omega, by go_num, int_eq (by rw [GT.out, HY.out, if_neg (by rw [Q.out]; simp)]; omega), by rw [← SZ.out]; exact BW.out⟩
        case measure => simp [intOf]; omega
    · obtain rfl : k = xs.length := by omega
      clear hbel
      go_wp2
      go_ret
      exact ⟨ret_int (by rw [List.take_of_length_le (Nat.le_refl _)]), Below.then' B1.out B.out⟩
end Go.Proofs.Ytlmedhidkhphbaa
