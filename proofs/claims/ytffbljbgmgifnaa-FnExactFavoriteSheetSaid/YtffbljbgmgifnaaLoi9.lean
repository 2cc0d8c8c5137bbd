/- Loans in the program: the favorite sheet. -/
import Derived.Test.YtffbljbgmgifnaaLoi2
import Derived.Test.YtffbljbgmgifnaaLoanMm
import Derived.Test.YtffbljbgmgifnaaOrd
import Derived.Test.YtffbljbgmgifnaaFavoriteSheetP
import Derived.Deep.RegionHeld3
namespace Go.Proofs.Ytffbljbgmgifnaa
open Go.RowKit

theorem times_moreP {xs : List VLoan} {sh : Int} {k : Nat} {s : VLoan} (hs : xs[k]? = some s) : timesL (xs.take (k + 1)) sh = timesL (xs.take k) sh + if s.Sheet = sh then 1 else 0 := by
  unfold timesL
  rw [take_one hs, List.filter_append, List.length_append]
  by_cases e : s.Sheet = sh
  · simp [e]
  · simp [e]
theorem times_bdP (ys : List VLoan) (sh : Int) : 0 ≤ timesL ys sh ∧ timesL ys sh ≤ (ys.length : Int) := by
  unfold timesL
  have := List.length_filter_le (fun l : VLoan => l.Sheet == sh) ys
  omega
theorem timesLent_any (a : Option Addr) (len cap : Nat) (xs : List VLoan) (sh : Int) (w : World) (h : IsLoanS w a len cap xs) :
    Calls Try.prog 120 #[.slice a len cap, .int .i64 sh] w fun e w' => e = .returned (.int .i64 (timesL xs sh)) ∧ Below w.heap.size w w' := by
  have hm := h.2.2.1
  have hcl := h.2.1
  unfold maxLen at hm
  obtain rfl := h.1
  have S := Lib.hid h
  clear h
  go_enter Try.func120, Try.ntmps120
  go_wp2
  go_loopw [10, 5] (fun i v wr => ∃ k : Nat, k ≤ xs.length ∧ i = .int .i64 k ∧ v = .int .i64 (timesL (xs.take k) sh) ∧ Below w.heap.size w wr) (fun i _ _ => xs.length - (intOf i).toNat)
  case atStart => exact ⟨0, Nat.zero_le _, rfl, rfl, Below.refl _ _⟩
  case round =>
    obtain ⟨k, hk, rfl, rfl, hbel⟩ := hrel
    have B := Lib.hid hbel
    by_cases hlt : k < xs.length
    · obtain ⟨s, hs⟩ : ∃ s, xs[k]? = some s := ⟨xs[k]'hlt, List.getElem?_eq_getElem _⟩
      obtain ⟨b, o, rfl, hbw, hat⟩ := (S.out.below hbel).at (by omega)
      obtain ⟨c0, c1, c2, c3, c4⟩ := hat k s hs
      have hi0 : (0 : Int) ≤ (k : Int) := by omega
      have hi1 : (k : Int) < (xs.length : Int) := by omega
      have NX := Lib.hid (times_moreP (sh := sh) hs)
      have bd := times_bdP (xs.take k) sh
      have lt : (xs.take k).length ≤ k := List.length_take_le _ _
      have BX := Lib.hid (Below.then' B.out (bel_al1 wr (.cells #[.int .i64 s.Sheet, .int .i64 s.Reader, .int .i64 s.Out, .int .i64 s.Due, .int .i64 s.Back] 101)))
      obtain ⟨z, hz⟩ : ∃ z, timesL (xs.take k) sh = z := ⟨_, rfl⟩
      rw [hz] at NX bd ⊢
      have v1 : IntKind.i64.wrap (z + 1) = z + 1 := IntWalk.i64_in _ (by omega)
      clear hs hat hbel hz bd lt
      by_cases hr : s.Sheet = sh
      · have r1 : (s.Sheet == sh) = true := by simp [hr]
        have R1 := Lib.hid hr
        clear hr
        go_wp2
        go_roundw
        case rel => exact ⟨k + 1, by omega, by go_num, by rw [NX.out, if_pos R1.out], BX.out⟩
        case measure => simp [intOf]; omega
      · have r1 : (s.Sheet == sh) = false := by simp [hr]
        have R1 := Lib.hid hr
        clear hr
        go_wp2
        go_roundw
        case rel => exact ⟨k + 1, by omega, by go_num, by rw [NX.out, if_neg R1.out, Int.add_zero], BX.out⟩
        case measure => simp [intOf]; omega
    · obtain rfl : k = xs.length := by omega
      have T := Lib.hid (show xs.take xs.length = xs from List.take_of_length_le (Nat.le_refl _))
      rw [T.out]
      clear hbel
      go_wp2
      go_ret
      exact ⟨rfl, B.out⟩
def orI (x y : Int) : Int := if x = 0 then y else x
theorem orI_any (b c : Nat) (x y : Int) (w : World) (h0 : w.cell? ⟨b, 0, none⟩ = some (.int .i64 x)) (h1 : w.cell? ⟨b, 1, none⟩ = some (.int .i64 y)) :
    Calls Try.prog 118 #[.slice (some ⟨b, 0, none⟩) 2 c] w fun e w' => e = .returned (.int .i64 (orI x y)) ∧ w = w' := or_any b c x y w h0 h1
def favC (xs : List VLoan) (x m : VLoan) : Int := orI (Lib.compareInt (timesL xs x.Sheet) (timesL xs m.Sheet)) (Lib.compareInt m.Sheet x.Sheet)
theorem favC_pos (xs : List VLoan) : (fun x m => decide (0 < favC xs x m)) = favB xs := by
  funext x m
  unfold favC orI favB Lib.compareInt
  rw [Bool.eq_iff_iff]
  simp only [decide_eq_true_eq, Bool.or_eq_true, Bool.and_eq_true]
  split <;> split <;> (try split) <;> (try split) <;> omega
theorem two_cells (u : World) (x y : Int) (t : TypeId) : (u.alloc (.cells #[.int .i64 x, .int .i64 y] t)).cell? ⟨u.heap.size, 0, none⟩ = some (.int .i64 x) ∧ (u.alloc (.cells #[.int .i64 x, .int .i64 y] t)).cell? ⟨u.heap.size, 1, none⟩ = some (.int .i64 y) := by
  constructor <;> simp
set_option maxHeartbeats 12800000 in
set_option maxRecDepth 100000 in
theorem favCmp_any (a : Option Addr) (len cap : Nat) (xs : List VLoan) (x m : VLoan) (bl : Nat) (w : World) (h : IsLoanS w a len cap xs) (hl : w.cell? ⟨bl, 0, none⟩ = some (.slice a len cap)) :
    Calls Try.prog 117 #[.agg #[.int .i64 x.Sheet, .int .i64 x.Reader, .int .i64 x.Out, .int .i64 x.Due, .int .i64 x.Back], .agg #[.int .i64 m.Sheet, .int .i64 m.Reader, .int .i64 m.Out, .int .i64 m.Due, .int .i64 m.Back], .pointer (some ⟨bl, 0, none⟩)] w fun e w' => e = .returned (.int .i64 (favC xs x m)) ∧ Below w.heap.size w w' := by
  have B0 := Lib.hid (bel_al2 w (.cells #[.int .i64 x.Sheet, .int .i64 x.Reader, .int .i64 x.Out, .int .i64 x.Due, .int .i64 x.Back] 101) (.cells #[.int .i64 m.Sheet, .int .i64 m.Reader, .int .i64 m.Out, .int .i64 m.Due, .int .i64 m.Back] 101))
  have X1 := Lib.hid ((BoxLoan.new w 101 x _ rfl).below (bel_al1 _ (.cells #[.int .i64 m.Sheet, .int .i64 m.Reader, .int .i64 m.Out, .int .i64 m.Due, .int .i64 m.Back] 101)))
  have X2 := Lib.hid (BoxLoan.new (w.alloc (.cells #[.int .i64 x.Sheet, .int .i64 x.Reader, .int .i64 x.Out, .int .i64 x.Due, .int .i64 x.Back] 101)) 101 m _ (size_al _ _))
  have CL := Lib.hid (cell_stay' hl B0.out)
  have S0 := Lib.hid (h.below B0.out)
  clear hl h
  go_enter Try.func117, Try.ntmps117
  go_wp2
  refine wp_world (fun W => Below w.heap.size w W ∧ W.cell? ⟨bl, 0, none⟩ = some (.slice a len cap) ∧ W.cell? ⟨w.heap.size, 0, none⟩ = some (.int .i64 x.Sheet) ∧ W.cell? ⟨w.heap.size + 1, 0, none⟩ = some (.int .i64 m.Sheet) ∧ IsLoanS W a len cap xs) ⟨B0.out, CL.out, X1.out.1, X2.out.1, S0.out⟩ ?_
  rintro W ⟨hw, c0, c1, c2, hS⟩
  have HW := Lib.hid hw
  have SS := Lib.hid hS
  have KD := Lib.hid (show Below W.heap.size W W.drew ∧ W.drew.cell? ⟨bl, 0, none⟩ = some (.slice a len cap) ∧ W.drew.cell? ⟨w.heap.size, 0, none⟩ = some (.int .i64 x.Sheet) ∧ W.drew.cell? ⟨w.heap.size + 1, 0, none⟩ = some (.int .i64 m.Sheet) from ⟨bel_drew' (Below.refl _ _), c0, c1, c2⟩)
  have KP := Lib.hid (show ∀ u v : World, (Below W.heap.size W u ∧ u.cell? ⟨bl, 0, none⟩ = some (.slice a len cap) ∧ u.cell? ⟨w.heap.size, 0, none⟩ = some (.int .i64 x.Sheet) ∧ u.cell? ⟨w.heap.size + 1, 0, none⟩ = some (.int .i64 m.Sheet)) → Below u.heap.size u v → (Below W.heap.size W v ∧ v.cell? ⟨bl, 0, none⟩ = some (.slice a len cap) ∧ v.cell? ⟨w.heap.size, 0, none⟩ = some (.int .i64 x.Sheet) ∧ v.cell? ⟨w.heap.size + 1, 0, none⟩ = some (.int .i64 m.Sheet)) from
    fun u v ⟨k0, k1, k2, k3⟩ hb => ⟨Below.then' k0 hb, cell_stay' k1 hb, cell_stay' k2 hb, cell_stay' k3 hb⟩)
  have KI := Lib.hid (show ∀ u : World, (Below W.heap.size W u ∧ u.cell? ⟨bl, 0, none⟩ = some (.slice a len cap) ∧ u.cell? ⟨w.heap.size, 0, none⟩ = some (.int .i64 x.Sheet) ∧ u.cell? ⟨w.heap.size + 1, 0, none⟩ = some (.int .i64 m.Sheet)) → ∀ sh, Calls Try.prog 120 #[.slice a len cap, .int .i64 sh] u fun e w' => e = .returned (.int .i64 (timesL xs sh)) ∧ Below u.heap.size u w' from fun u hu sh => timesLent_any _ _ _ xs sh _ (SS.out.below hu.1))
  clear hw hS c0 c1 c2
  go_region_held3 (fun u => Below W.heap.size W u ∧ u.cell? ⟨bl, 0, none⟩ = some (.slice a len cap) ∧ u.cell? ⟨w.heap.size, 0, none⟩ = some (.int .i64 x.Sheet) ∧ u.cell? ⟨w.heap.size + 1, 0, none⟩ = some (.int .i64 m.Sheet))
    (first | exact KD.out | exact KP.out _ _ (by assumption) (by assumption) | exact KP.out _ _ (by assumption) (bel_al1 _ _) | exact KP.out _ _ (by assumption) (Below.refl _ _))
    (first | (go_at_call 118; refine (orI_any _ _ _ _ _ (two_cells _ _ _ _).1 (two_cells _ _ _ _).2).mono ?_; rintro e w' ⟨rfl, rfl⟩) | (go_at_call 119; refine (compare_any _ _ _).mono ?_; rintro e w' ⟨rfl, rfl⟩) | (go_at_call 120; refine (KI.out _ (by assumption) _).mono ?_; rintro e w' ⟨rfl, hb⟩))
  rename_i HH
  have HB := Lib.hid (Below.then' HW.out HH.1)
  go_wp2
  go_ret
  exact ⟨rfl, HB.out⟩
set_option maxHeartbeats 6400000 in
set_option maxRecDepth 100000 in
theorem implFavoriteSheet_any (a : Option Addr) (len cap : Nat) (xs : List VLoan) (w : World) (h : IsLoanS w a len cap xs) (_ : xs.length ≤ 1048576) :
    Calls Try.prog 63 #[.slice a len cap] w (FavoriteSheet_Post xs w) := by
  have hm := h.2.2.1
  have hcl := h.2.1
  unfold maxLen at hm
  obtain rfl := h.1
  have C0 := Lib.hid (cell_box' w (.slice a xs.length cap) 42 _ rfl)
  have B0 := Lib.hid (wh_al1 w (.cells #[.slice a xs.length cap] 42))
  have S := Lib.hid (h.below B0.out)
  clear h
  obtain ⟨q, hq⟩ : ∃ q, areLo xs = q := ⟨_, rfl⟩
  have Q := Lib.hid hq
  clear hq
  by_cases h0 : xs = []
  · subst h0
    have E := Lib.hid (show FavoriteSheet_1 ([] : List VLoan) = false from by unfold FavoriteSheet_1; simp)
    go_enter Try.func63, Try.ntmps63
    go_wp2_with fail
    refine (areLoans_any _ _ _ [] _ S.out).mono ?_
    rintro e w1 ⟨rfl, hb⟩
    rw [Q.out]
    have B1 := Lib.hid (Below.then' B0.out hb)
    have c1 := cell_stay' C0.out hb
    clear hb
    cases q
    · go_wp2
      go_ret2
      exact ⟨by unfold FavoriteSheet_0; rw [E.out]; rfl, B1.out⟩
    · go_wp2
      go_ret2
      exact ⟨by unfold FavoriteSheet_0; rw [E.out]; rfl, B1.out⟩
  have hp : 0 < xs.length := by cases xs with | nil => exact absurd rfl h0 | cons => simp
  have hp2 : ¬ xs.length = 0 := by omega
  have hp3 : ((xs.length : Int) == 0) = false := by simp; exact h0
  go_enter Try.func63, Try.ntmps63
  go_wp2_with fail
  refine (areLoans_any _ _ _ xs _ S.out).mono ?_
  rintro e w1 ⟨rfl, hb⟩
  rw [Q.out]
  have B1 := Lib.hid (Below.then' B0.out hb)
  have C1 := Lib.hid (cell_stay' C0.out hb)
  have S1 := Lib.hid (S.out.below hb)
  have c1 := C1.out
  clear hb
  cases q
  · have E := Lib.hid (show FavoriteSheet_1 xs = false from by unfold FavoriteSheet_1; rw [Q.out]; rfl)
    go_wp2
    go_ret2
    exact ⟨by unfold FavoriteSheet_0; rw [E.out]; rfl, B1.out⟩
  have E := Lib.hid (show FavoriteSheet_1 xs = true from by unfold FavoriteSheet_1; rw [Q.out, decide_eq_true hp]; rfl)
  go_wp2_with fail
  refine (maxFuncLoan_any 117 #[.pointer (some ⟨w.heap.size, 0, none⟩)] (favC xs) _ _ _ xs _ S1.out hp (enters_fn' Try.func117 (by kernel_rfl) (by kernel_rfl)) (fun W x m hx hm hW => by
    have h1 := favCmp_any a xs.length cap xs x m w.heap.size W (S1.out.below hW) (cell_stay' C1.out hW)
    simpa using h1)).mono ?_
  rintro e w2 ⟨⟨s, hs, rfl⟩, hb⟩
  have B2 := Lib.hid (Below.then' B1.out hb)
  have HS := Lib.hid (show (favL xs).Sheet = s.Sheet from by
    rw [hs]; unfold favL
    rw [favC_pos]; rfl)
  clear hs hb hp hp2 hp3 h0
  have B3 := Lib.hid (Below.then' B2.out (bel_al1 w2 (.cells #[.int .i64 s.Sheet, .int .i64 s.Reader, .int .i64 s.Out, .int .i64 s.Due, .int .i64 s.Back] 101)))
  go_wp2
  go_ret2
  exact ⟨by unfold FavoriteSheet_0; rw [E.out, HS.out]; rfl, B3.out⟩
end Go.Proofs.Ytffbljbgmgifnaa
