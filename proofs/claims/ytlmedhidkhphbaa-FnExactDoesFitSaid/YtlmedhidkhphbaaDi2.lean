/- Searches among flats and drawers in the program; the grams of a drawer; whether one drawer, and all of them, are right. -/
import Derived.Test.YtlmedhidkhphbaaDi
import Derived.Test.YtlmedhidkhphbaaFlatL
import Derived.Test.YtlmedhidkhphbaaIntL
import Derived.Test.YtlmedhidkhphbaaDrawerL
import Derived.Test.YtlmedhidkhphbaaFlatId
import Derived.Test.YtlmedhidkhphbaaDrawerId
import Derived.Test.YtlmedhidkhphbaaShelf
namespace Go.Proofs.Ytlmedhidkhphbaa
open Go.RowKit

theorem getD_of {zs : List Int} {j : Nat} (h : j < zs.length) : zs[j]? = some (zs.getD j 0) := by
  rw [List.getD_eq_getElem?_getD, List.getElem?_eq_getElem h]; rfl
theorem hasB_contains (x : Int) (zs : List Int) : hasB x zs = zs.contains x := by
  rw [Bool.eq_iff_iff, hasB_iff, List.contains_iff_mem]
theorem contains_any (a : Option Addr) (len cap : Nat) (zs : List Int) (x : Int) (w : World) (h : IsInts w a len cap zs) :
    Calls Try.prog 125 #[.slice a len cap, .int .i64 x] w fun e w' => e = .returned (.bool (hasB x zs)) ∧ w = w' := by
  have hm := h.2.2.1
  unfold maxLen at hm
  by_cases h0 : len = 0
  · subst h0
    have : zs = [] := List.length_eq_zero_iff.1 h.1.symm
    subst this
    exact (Try.slices_Contains_int_empty a cap x w).mono fun e w' ⟨h1, h2⟩ => ⟨h1, h2.symm⟩
  · obtain ⟨b, o, rfl, _, hat⟩ := h.at (by omega)
    refine (Try.slices_Contains_int b o len cap zs x w (by have := h.1; omega) (by have := h.2.1; omega) (fun j hj => hat j _ (getD_of hj))).mono fun e w' ⟨h1, h2⟩ => ⟨?_, h2.symm⟩
    rw [h1, List.take_of_length_le (by have := h.1; omega), hasB_contains]
theorem indexOfFlat_any (a : Option Addr) (len cap : Nat) (xs : List VFlat) (id : Int) (w : World) (h : IsFlatS w a len cap xs) :
    Calls Try.prog 76 #[.slice a len cap, .int .i64 id, .func (.func 77) #[] #[]] w fun e w' => e = .returned (.int .i64 (flatI xs id)) ∧ Below w.heap.size w w' :=
  indexByFlat_any 77 VFlat.Id a len cap xs id w h (enters_fn Try.func77 (by kernel_rfl) (by kernel_rfl)) (fun W s => flatId_any s W)
theorem indexOfDrawer_any (a : Option Addr) (len cap : Nat) (xs : List VDrawer) (id : Int) (w : World) (h : IsDrawerS w a len cap xs) :
    Calls Try.prog 63 #[.slice a len cap, .int .i64 id, .func (.func 64) #[] #[]] w fun e w' => e = .returned (.int .i64 (drawI xs id)) ∧ Below w.heap.size w w' :=
  indexByDrawer_any 64 VDrawer.Id a len cap xs id w h (enters_fn Try.func64 (by kernel_rfl) (by kernel_rfl)) (fun W s hd => drawerId_any s hd W)
theorem holdIdx_any (x : VDrawer) (h : Hd) (id : Int) (b : Nat) (w : World) (hc : w.cell? ⟨b, 0, none⟩ = some (.int .i64 id)) (hi : IsInts w h.a h.n h.c x.Flats) :
    Calls Try.prog 124 #[.agg #[.int .i64 x.Id, .int .i64 x.Wide, .int .i64 x.High, .int .i64 x.Holds, .slice h.a h.n h.c], .pointer (some ⟨b, 0, none⟩)] w fun e w' => e = .returned (.bool (hasB id x.Flats)) ∧ Below w.heap.size w w' := by
  have b1 := bel_al1 w (.cells #[.int .i64 x.Id, .int .i64 x.Wide, .int .i64 x.High, .int .i64 x.Holds, .slice h.a h.n h.c] 42)
  have g := cell_stay hc b1
  have HI := Lib.hid (hi.below b1)
  clear hc hi b1
  go_enter Try.func124, Try.ntmps124
  go_wp2_with fail
  refine (contains_any _ _ _ x.Flats id _ HI.out).mono ?_
  rintro e w1 ⟨rfl, rfl⟩
  go_wp2
  go_ret
  exact ⟨rfl, bel_al1 _ _⟩
set_option maxHeartbeats 1600000 in
theorem indexOfHolder_any (a : Option Addr) (len cap : Nat) (xs : List VDrawer) (id : Int) (w : World) (h : IsDrawerS w a len cap xs) :
    Calls Try.prog 78 #[.slice a len cap, .int .i64 id] w fun e w' => e = .returned (.int .i64 (holdI xs id)) ∧ Below w.heap.size w w' := by
  have b1 := bel_al1 w (.cells #[.int .i64 id] 3)
  have S := Lib.hid (h.below b1)
  have C := Lib.hid (cell_box w (.int .i64 id) 3 _ rfl)
  have B1 := Lib.hid b1
  clear h b1
  go_enter Try.func78, Try.ntmps78
  go_wp2_with fail
  refine (idxDrawer_any 124 #[.pointer (some ⟨w.heap.size, 0, none⟩)] (fun d => hasB id d.Flats) a len cap xs _ S.out (enters_fn Try.func124 (by kernel_rfl) (by kernel_rfl)) (fun W s hd _ hi hW => by
    have h1 := holdIdx_any s hd id w.heap.size W (cell_stay C.out hW) hi
    simpa using h1)).mono ?_
  rintro e w1 ⟨rfl, hb⟩
  have B := Lib.hid (Below.then' B1.out hb)
  clear hb
  go_wp2
  go_ret
  exact ⟨rfl, B.out⟩
/-! The grams of a drawer. -/
theorem gramsL_take {fs : List VFlat} {k : Nat} {f : VFlat} (h : fs[k]? = some f) (ids : List Int) : gramsL (fs.take (k + 1)) ids = gramsL (fs.take k) ids + (if hasB f.Id ids = true then f.Grams else 0) := by
  unfold gramsL
  rw [List.take_add_one, h, List.filter_append, List.map_append, sumI_app]
  cases e : hasB f.Id ids <;> simp [e, sumI]
theorem ok_take {fs : List VFlat} (h : ∀ f ∈ fs, VFlat.ok f = true) (k : Nat) : ∀ f ∈ fs.take k, VFlat.ok f = true := fun f hf => h f (List.mem_of_mem_take hf)
theorem ok_grams {f : VFlat} (h : VFlat.ok f = true) : 1 ≤ f.Grams ∧ f.Grams ≤ 5000 := by
  unfold VFlat.ok at h
  simp [inB_iff] at h
  exact h.2.2.2
set_option maxHeartbeats 3200000 in
set_option maxRecDepth 100000 in
theorem gramsOf_any (a : Option Addr) (len cap : Nat) (xs : List VFlat) (x : VDrawer) (hd : Hd) (w : World) (h : IsFlatS w a len cap xs) (hi : IsInts w hd.a hd.n hd.c x.Flats) (hok : ∀ f ∈ xs, VFlat.ok f = true) (hl : xs.length ≤ 1000) :
    Calls Try.prog 79 #[.slice a len cap, .agg #[.int .i64 x.Id, .int .i64 x.Wide, .int .i64 x.High, .int .i64 x.Holds, .slice hd.a hd.n hd.c]] w fun e w' => e = .returned (.int .i64 (gramsL xs x.Flats)) ∧ Below w.heap.size w w' := by
  obtain rfl := h.1
  have hm := h.2.2.1
  have hcl := h.2.1
  unfold maxLen at hm
  have b1 := bel_al1 w (.cells #[.int .i64 x.Id, .int .i64 x.Wide, .int .i64 x.High, .int .i64 x.Holds, .slice hd.a hd.n hd.c] 42)
  have S := Lib.hid (h.below b1)
  have HI := Lib.hid (hi.below b1)
  have X := Lib.hid (BoxDrawer.new w 42 ⟨x, hd⟩ _ rfl)
  have B1 := Lib.hid b1
  have OK := Lib.hid hok
  clear h hi b1 hok
  have SZ := Lib.hid (size_al w (.cells #[.int .i64 x.Id, .int .i64 x.Wide, .int .i64 x.High, .int .i64 x.Holds, .slice hd.a hd.n hd.c] 42))
  go_enter Try.func79, Try.ntmps79
  go_wp2
  go_loopw [5, 10] (fun q i wr => ∃ k : Nat, k ≤ xs.length ∧ i = .int .i64 k ∧ q = .int .i64 (gramsL (xs.take k) x.Flats) ∧ Below (w.heap.size + 1) (w.alloc (.cells #[.int .i64 x.Id, .int .i64 x.Wide, .int .i64 x.High, .int .i64 x.Holds, .slice hd.a hd.n hd.c] 42)) wr) (fun _ i _ => xs.length - (intOf i).toNat)
  case atStart => exact ⟨0, Nat.zero_le _, rfl, rfl, Below.refl _ _⟩
  case round =>
    obtain ⟨k, hk, rfl, rfl, hbel⟩ := hrel
    have hbel : Below ((w.alloc (.cells #[.int .i64 x.Id, .int .i64 x.Wide, .int .i64 x.High, .int .i64 x.Holds, .slice hd.a hd.n hd.c] 42)).heap.size) (w.alloc (.cells #[.int .i64 x.Id, .int .i64 x.Wide, .int .i64 x.High, .int .i64 x.Holds, .slice hd.a hd.n hd.c] 42)) wr := by rw [SZ.out]; exact hbel
    have B := Lib.hid hbel
    have gb := gramsL_bd (ok_take OK.out k) x.Flats
    have hlk := List.length_take_le k xs
    by_cases hlt : k < xs.length
    · obtain ⟨f, hf⟩ : ∃ f, xs[k]? = some f := ⟨xs[k]'hlt, List.getElem?_eq_getElem _⟩
      obtain ⟨b, o, rfl, hb, hat⟩ := (S.out.below hbel).at (by omega)
      obtain ⟨c0, c1, c2, c3⟩ := hat k f hf
      have bw := Below.then' hbel (bel_al1 wr (.cells #[.int .i64 f.Id, .int .i64 f.Wide, .int .i64 f.High, .int .i64 f.Grams] 40))
      obtain ⟨e0, e1, e2, e3, e4⟩ := X.out.below bw
      have HI2 := Lib.hid (HI.out.below bw)
      have GT := Lib.hid (gramsL_take hf x.Flats)
      have gf := ok_grams (OK.out f (List.mem_of_getElem? hf))
      obtain ⟨y, hy⟩ : ∃ y, gramsL (xs.take k) x.Flats = y := ⟨_, rfl⟩
      rw [hy] at gb
      have HY := Lib.hid hy
      rw [hy]
      have BW := Lib.hid bw
      clear hbel hf hat hy bw
      go_wp2_with fail
      refine (contains_any _ _ _ x.Flats f.Id _ HI2.out).mono ?_
      rintro e w1 ⟨rfl, rfl⟩
      cases hq : hasB f.Id x.Flats with
      | true =>
        have Q := Lib.hid hq
        clear hq
        go_wp2
        go_roundw
        case rel => exact ⟨k + 1, by omega, by go_num, int_eq (by rw [GT.out, HY.out, if_pos Q.out]), by rw [← SZ.out]; exact BW.out⟩
        case measure => simp [intOf]; omega
      | false =>
        have Q := Lib.hid hq
        clear hq
        go_wp2
        go_roundw
        case rel => exact ⟨k + 1, by omega, by go_num, int_eq (by rw [GT.out, HY.out, if_neg (by rw [Q.out]; simp)]; omega), by rw [← SZ.out]; exact BW.out⟩
        case measure => simp [intOf]; omega
    · obtain rfl : k = xs.length := by omega
      clear hbel
      go_wp2
      go_ret
      exact ⟨ret_int (by rw [List.take_of_length_le (Nat.le_refl _)]), Below.then' B1.out B.out⟩
end Go.Proofs.Ytlmedhidkhphbaa
