/- SheetAt, in the model and in the program: the same id. -/
import Derived.Test.YtidaoijpbdljbaaAre3
namespace Go.Proofs.Ytidaoijpbdljbaa
open Go.RowKit

def atOk (xs : List Sh) (r c sc : Int) : Bool := areSh xs && decide (0 ≤ idxAt xs r c sc)
def atVal (xs : List Sh) (r c sc : Int) : Int := if atOk xs r c sc = true then ((xs[(idxAt xs r c sc).toNat]?).map Sh.id).getD 0 else 0
theorem at_ways (xs : List Sh) (r c sc : Int) : (areSh xs = false ∧ atOk xs r c sc = false ∧ atVal xs r c sc = 0) ∨ (areSh xs = true ∧ idxAt xs r c sc = -1 ∧ atOk xs r c sc = false ∧ atVal xs r c sc = 0) ∨
    (areSh xs = true ∧ ∃ (i : Nat) (s : Sh), idxAt xs r c sc = (i : Int) ∧ xs[i]? = some s ∧ atOk xs r c sc = true ∧ atVal xs r c sc = s.id) := by
  by_cases h : areSh xs = true
  · right
    rcases idxOf_cases (fun s => s.at_ r c sc) xs with ⟨h1, _⟩ | ⟨i, s, h1, h2, _⟩
    · have e : atOk xs r c sc = false := by unfold atOk idxAt; rw [h, h1]; rfl
      exact .inl ⟨h, h1, e, by unfold atVal; rw [e]; rfl⟩
    · have e : atOk xs r c sc = true := by unfold atOk idxAt; rw [h, h1]; simp
      refine .inr ⟨h, i, s, h1, h2, e, ?_⟩
      unfold atVal
      rw [if_pos e, show idxAt xs r c sc = (i : Int) from h1, Int.toNat_natCast, h2]
      rfl
  · have h' : areSh xs = false := by simpa using h
    have e : atOk xs r c sc = false := by unfold atOk; rw [h']; rfl
    exact .inl ⟨h', e, by unfold atVal; rw [e]; rfl⟩
theorem ret_ib {a b : Int} {p q : Bool} (h : a = b) (k : p = q) : Ending.returned (.tuple #[.int .i64 a, .bool p]) = .returned (.tuple #[.int .i64 b, .bool q]) := by rw [h, k]

set_option maxHeartbeats 1600000 in
set_option maxRecDepth 100000 in
theorem specSheetAt_any (a : Option Addr) (len cap : Nat) (xs : List Sh) (r c sc : Int) (w : World) (h : IsSheetS w a len cap xs) :
    Calls Try.prog 34 #[.slice a len cap, .int .i64 r, .int .i64 c, .int .i64 sc] w fun e w' => e = .returned (.tuple #[.int .i64 (atVal xs r c sc), .bool (atOk xs r c sc)]) ∧ Below w.heap.size w w' := by
  have hm := h.2.2.1
  have hcl := h.2.1
  unfold maxLen at hm
  have S := Lib.hid h
  have L := Lib.hid h.1
  clear h
  rcases at_ways xs r c sc with ⟨h1, h3, h4⟩ | ⟨h1, h2, h3, h4⟩ | ⟨h1, i, s, h2, hs, h3, h4⟩
  · have V := Lib.hid h3
    have V2 := Lib.hid h4
    have H1 := Lib.hid h1
    clear h1 h3 h4
    go_enter Try.func34, Try.ntmps34
    go_wp2_with fail
    refine (l2At_any _ _ _ xs r c sc _ S.out).mono ?_
    rintro e w' ⟨rfl, rfl⟩
    go_wp2_with fail
    refine (l2Sheets_any _ _ _ xs _ S.out).mono ?_
    rintro e w1 ⟨rfl, hb⟩
    have B := Lib.hid hb
    clear hb
    rw [H1.out]
    go_wp2
    go_ret2
    exact ⟨ret_ib V2.out.symm V.out.symm, B.out⟩
  · have V := Lib.hid h3
    have V2 := Lib.hid h4
    have H1 := Lib.hid h1
    have H2 := Lib.hid h2
    clear h1 h2 h3 h4
    go_enter Try.func34, Try.ntmps34
    go_wp2_with fail
    refine (l2At_any _ _ _ xs r c sc _ S.out).mono ?_
    rintro e w' ⟨rfl, rfl⟩
    rw [H2.out]
    go_wp2_with fail
    refine (l2Sheets_any _ _ _ xs _ S.out).mono ?_
    rintro e w1 ⟨rfl, hb⟩
    have B := Lib.hid hb
    clear hb
    rw [H1.out]
    go_wp2
    go_ret2
    exact ⟨ret_ib V2.out.symm V.out.symm, B.out⟩
  · have V := Lib.hid h3
    have V2 := Lib.hid h4
    have H1 := Lib.hid h1
    have H2 := Lib.hid h2
    have hi : i < len := by have := (List.getElem?_eq_some_iff.1 hs).1; have := L.out; omega
    obtain ⟨b, o, rfl, hb, hat⟩ := S.out.at (by omega)
    have AT := Lib.hid (hat i s hs)
    have hi0 : (0 : Int) ≤ (i : Int) := by omega
    have hi1 : (i : Int) < (len : Int) := by omega
    clear h1 h2 h3 h4 hat hs
    go_enter Try.func34, Try.ntmps34
    go_wp2_with fail
    refine (l2At_any _ _ _ xs r c sc _ S.out).mono ?_
    rintro e w' ⟨rfl, rfl⟩
    rw [H2.out]
    go_wp2_with fail
    refine (l2Sheets_any _ _ _ xs _ S.out).mono ?_
    rintro e w1 ⟨rfl, hb1⟩
    have B := Lib.hid hb1
    obtain ⟨c0, c1, c2, c3, c4⟩ := AT.out.below hb1 hb
    clear hb1
    rw [H1.out]
    go_wp2
    go_ret2
    exact ⟨ret_ib V2.out.symm V.out.symm, B.out⟩

set_option maxHeartbeats 1600000 in
set_option maxRecDepth 100000 in
theorem implSheetAt_any (a : Option Addr) (len cap : Nat) (xs : List Sh) (r c sc : Int) (w : World) (h : IsSheetS w a len cap xs) :
    Calls Try.prog 35 #[.slice a len cap, .int .i64 r, .int .i64 c, .int .i64 sc] w fun e w' => e = .returned (.tuple #[.int .i64 (atVal xs r c sc), .bool (atOk xs r c sc)]) ∧ Below w.heap.size w w' := by
  have hm := h.2.2.1
  have hcl := h.2.1
  unfold maxLen at hm
  have S := Lib.hid h
  have L := Lib.hid h.1
  clear h
  rcases at_ways xs r c sc with ⟨h1, h3, h4⟩ | ⟨h1, h2, h3, h4⟩ | ⟨h1, i, s, h2, hs, h3, h4⟩
  · have V := Lib.hid h3
    have V2 := Lib.hid h4
    have H1 := Lib.hid h1
    clear h1 h3 h4
    go_enter Try.func35, Try.ntmps35
    go_wp2_with fail
    refine (implAreSheets_any _ _ _ xs _ S.out).mono ?_
    rintro e w1 ⟨rfl, hb⟩
    have B := Lib.hid hb
    clear hb
    rw [H1.out]
    go_wp2
    go_ret2
    exact ⟨ret_ib V2.out.symm V.out.symm, B.out⟩
  · have V := Lib.hid h3
    have V2 := Lib.hid h4
    have H1 := Lib.hid h1
    have H2 := Lib.hid h2
    clear h1 h2 h3 h4
    go_enter Try.func35, Try.ntmps35
    go_wp2_with fail
    refine (implAreSheets_any _ _ _ xs _ S.out).mono ?_
    rintro e w1 ⟨rfl, hb⟩
    have B := Lib.hid hb
    clear hb
    rw [H1.out]
    go_wp2_with fail
    refine (indexAt_any _ _ _ xs r c sc _ (S.out.below B.out)).mono ?_
    rintro e w2 ⟨rfl, hb⟩
    have B2 := Lib.hid (Below.then' B.out hb)
    clear hb
    rw [H2.out]
    go_wp2
    go_ret2
    exact ⟨ret_ib V2.out.symm V.out.symm, B2.out⟩
  · have V := Lib.hid h3
    have V2 := Lib.hid h4
    have H1 := Lib.hid h1
    have H2 := Lib.hid h2
    have hi : i < len := by have := (List.getElem?_eq_some_iff.1 hs).1; have := L.out; omega
    obtain ⟨b, o, rfl, hb, hat⟩ := S.out.at (by omega)
    have AT := Lib.hid (hat i s hs)
    have hi0 : (0 : Int) ≤ (i : Int) := by omega
    have hi1 : (i : Int) < (len : Int) := by omega
    clear h1 h2 h3 h4 hat hs
    go_enter Try.func35, Try.ntmps35
    go_wp2_with fail
    refine (implAreSheets_any _ _ _ xs _ S.out).mono ?_
    rintro e w1 ⟨rfl, hb1⟩
    have B := Lib.hid hb1
    clear hb1
    rw [H1.out]
    go_wp2_with fail
    refine (indexAt_any _ _ _ xs r c sc _ (S.out.below B.out)).mono ?_
    rintro e w2 ⟨rfl, hb2⟩
    have B2 := Lib.hid (Below.then' B.out hb2)
    obtain ⟨c0, c1, c2, c3, c4⟩ := AT.out.below B2.out hb
    clear hb2
    rw [H2.out]
    go_wp2
    go_ret2
    exact ⟨ret_ib V2.out.symm V.out.symm, B2.out⟩
end Go.Proofs.Ytidaoijpbdljbaa
