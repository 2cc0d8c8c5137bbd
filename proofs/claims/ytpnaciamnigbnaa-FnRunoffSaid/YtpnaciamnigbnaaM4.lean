/- Texts in one: Aro, IntA2R, Wi, IsReliefP, Wi2, Wi3, Wi4, Wi5. -/
import Derived.Test.YtpnaciamnigbnaaM1
import Derived.Test.YtpnaciamnigbnaaM2
import Derived.Test.YtpnaciamnigbnaaM3
import Derived.Deep.RegionHeld3
namespace Go.Proofs.Ytpnaciamnigbnaa
open Go.RowKit
theorem areOne (lo hi x : Int) (t : TypeId) (w : World) (B : Nat) (hB : w.heap.size = B) :
    Calls Try.prog 84 #[.int .i64 lo, .int .i64 hi, .slice (some ⟨B, 0, none⟩) 1 1] (w.alloc (.cells #[.int .i64 x] t)) fun e w' => e = .returned (.bool (inB x lo hi)) ∧ w.alloc (.cells #[.int .i64 x] t) = w' :=
  (areInRange_any B 1 1 [x] lo hi _ rfl (by omega) (lit1 w x t B hB)).mono fun e w' h => ⟨by rw [h.1]; simp, h.2⟩
theorem areTwo (lo hi x y : Int) (t : TypeId) (w : World) (B : Nat) (hB : w.heap.size = B) :
    Calls Try.prog 84 #[.int .i64 lo, .int .i64 hi, .slice (some ⟨B, 0, none⟩) 2 2] (w.alloc (.cells #[.int .i64 x, .int .i64 y] t)) fun e w' => e = .returned (.bool (inB x lo hi && inB y lo hi)) ∧ w.alloc (.cells #[.int .i64 x, .int .i64 y] t) = w' :=
  (areInRange_any B 2 2 [x, y] lo hi _ rfl (by omega) (lit2 w x y t B hB)).mono fun e w' h => ⟨by rw [h.1]; simp, h.2⟩
theorem lit4 (w : World) (x y u v : Int) (t : TypeId) (B : Nat) (hB : w.heap.size = B) : ∀ (k : Nat) z, [x, y, u, v][k]? = some z → (w.alloc (.cells #[.int .i64 x, .int .i64 y, .int .i64 u, .int .i64 v] t)).cell? ⟨B, k, none⟩ = some (.int .i64 z) := by
  subst hB
  intro k z h
  match k, h with
  | 0, h => simp at h; subst h; simp [World.cell?_alloc_new]
  | 1, h => simp at h; subst h; simp [World.cell?_alloc_new]
  | 2, h => simp at h; subst h; simp [World.cell?_alloc_new]
  | 3, h => simp at h; subst h; simp [World.cell?_alloc_new]
  | k + 4, h => simp at h
theorem areFour (lo hi x y u v : Int) (t : TypeId) (w : World) (B : Nat) (hB : w.heap.size = B) :
    Calls Try.prog 84 #[.int .i64 lo, .int .i64 hi, .slice (some ⟨B, 0, none⟩) 4 4] (w.alloc (.cells #[.int .i64 x, .int .i64 y, .int .i64 u, .int .i64 v] t)) fun e w' => e = .returned (.bool (inB x lo hi && (inB y lo hi && (inB u lo hi && inB v lo hi)))) ∧ w.alloc (.cells #[.int .i64 x, .int .i64 y, .int .i64 u, .int .i64 v] t) = w' :=
  (areInRange_any B 4 4 [x, y, u, v] lo hi _ rfl (by omega) (lit4 w x y u v t B hB)).mono fun e w' h => ⟨by rw [h.1]; simp, h.2⟩
end Go.Proofs.Ytpnaciamnigbnaa
namespace Go.Proofs.Ytpnaciamnigbnaa
open Go.RowKit
theorem resultsIntA21 {fn : Func} {tm : Array Value} {a b : Nat} {w : World} {s : VIntA2} (hf : fn.results = #[.cell a 34]) (ha : tm.getD a undef = .pointer (some ⟨b, 0, none⟩)) (h : HBIntA2 w b s) :
    (results fn tm).run Try.prog w = .ok (.agg #[.int .i64 s.E0, .int .i64 s.E1]) w := by
  obtain ⟨h0, h1⟩ := h.cells
  simp only [Array.getD_eq_getD_getElem?] at ha
  simp [results, hf, ha, go_sem, h0, h1]
theorem resultsIntA22 {fn : Func} {tm : Array Value} {a b c : Nat} {w : World} {s : VIntA2} {v : Value} (hf : fn.results = #[.cell a 34, .tmp c]) (ha : tm.getD a undef = .pointer (some ⟨b, 0, none⟩)) (hc : tm.getD c undef = v) (h : HBIntA2 w b s) :
    (results fn tm).run Try.prog w = .ok (.tuple #[.agg #[.int .i64 s.E0, .int .i64 s.E1], v]) w := by
  obtain ⟨h0, h1⟩ := h.cells
  simp only [Array.getD_eq_getD_getElem?] at ha hc
  simp [results, hf, ha, hc, go_sem, h0, h1]
end Go.Proofs.Ytpnaciamnigbnaa
namespace Go.Proofs.Ytpnaciamnigbnaa
open Go.RowKit

/-- A row of a relief as it lies. -/
theorem relief_row {w : World} {a : Option Addr} {len cap : Nat} {D : List VIntS} (h : IsIntSS w a len cap D) (hD : RL D) {r : Nat} (hr : r < D.length) :
    ∃ b o b' o' c', a = some ⟨b, o, none⟩ ∧ b < w.heap.size ∧ b' < w.heap.size ∧ w.cell? ⟨b, o + r, none⟩ = some (.slice (some ⟨b', o', none⟩) (colsN D) c') ∧ colsN D ≤ c' ∧ c' ≤ 9223372036854775807 ∧ ∀ c, c < colsN D → w.cell? ⟨b', o' + c, none⟩ = some (.int .i64 (hA D (r, c))) := by
  obtain ⟨b, o, e, hb, hat⟩ := h.at (by have := h.1; omega)
  obtain ⟨row, e1, hl, _⟩ := hD.at (p := (r, 0)) ⟨hr, hD.n1⟩
  obtain ⟨hd, hc, hi⟩ := hat r row e1
  have hn1 := hD.n1
  obtain ⟨b', o', e2, hb', hz⟩ := hi.at (by rw [hi.1, hl]; omega)
  refine ⟨b, o, b', o', hd.c, e, hb, hb', ?_, ?_, ?_, fun c hlt => ?_⟩
  · rw [hc, e2, hi.1, hl]
  · rw [← hl, ← hi.1]; exact hi.2.1
  · have := hi.2.2.1; unfold maxLen at this; exact this
  · obtain ⟨row2, e3, _, e4, _⟩ := hD.at (p := (r, c)) ⟨hr, hlt⟩
    have : row2 = row := by
      have := e3.symm.trans e1
      simpa using this
    subst this
    exact hz c _ e4
theorem relief_row0 {w : World} {a : Option Addr} {len cap : Nat} {D : List VIntS} (h : IsIntSS w a len cap D) (hD : RL D) :
    ∃ b o b' o' c', a = some ⟨b, o, none⟩ ∧ b < w.heap.size ∧ w.cell? ⟨b, o, none⟩ = some (.slice (some ⟨b', o', none⟩) (colsN D) c') := by
  obtain ⟨b, o, b', o', c', e, h1, _, h3, _⟩ := relief_row h hD (r := 0) (by have := hD.m1; omega)
  exact ⟨b, o, b', o', c', e, h1, h3⟩
set_option maxHeartbeats 3200000 in
theorem heightOf_any (a : Option Addr) (len cap : Nat) (D : List VIntS) (r c : Nat) (w : World) (h : IsIntSS w a len cap D) (hD : RL D) (hr : r < D.length) (hc : c < colsN D) :
    Calls Try.prog 102 #[.slice a len cap, .agg #[.int .i64 (r : Int), .int .i64 (c : Int)]] w fun e w' => e = .returned (.int .i64 (hA D (r, c))) ∧ Below w.heap.size w w' := by
  have hm := h.2.2.1
  have hcl := h.2.1
  unfold maxLen at hm
  have B0 := Lib.hid (bel_al1 w (.cells #[.int .i64 (r : Int), .int .i64 (c : Int)] 34))
  have L := Lib.hid h.1
  obtain ⟨b, o, b', o', c', rfl, hb, hb', g0, hc1, hc2, g1⟩ := relief_row (h.below B0.out) hD hr
  have g2 := g1 c hc
  obtain ⟨c0, c1⟩ := BoxIntA2.new w 34 ⟨(r : Int), (c : Int)⟩ _ rfl
  simp only [] at c0 c1
  have i0 : (0 : Int) ≤ (r : Int) := by omega
  have i1 : (r : Int) < (len : Int) := by have := L.out; omega
  have i2 : (0 : Int) ≤ (c : Int) := by omega
  have i3 : (c : Int) < (colsN D : Int) := by omega
  clear h g1 hD hr hc
  go_enter Try.func102, Try.ntmps102
  go_wp2
  go_quiet (fail)
  go_wp2
  go_ret
  exact ⟨rfl, Below.then' B0.out (bel_drawn _ _)⟩
set_option maxHeartbeats 3200000 in
theorem isInRelief_any (a : Option Addr) (len cap : Nat) (D : List VIntS) (r c : Int) (w : World) (h : IsIntSS w a len cap D) (hD : RL D) :
    Calls Try.prog 128 #[.slice a len cap, .int .i64 r, .int .i64 c] w fun e w' => e = .returned (.bool (inB r 0 ((D.length : Int) - 1) && inB c 0 ((colsN D : Int) - 1))) ∧ Below w.heap.size w w' := by
  have hm := h.2.2.1
  have hcl := h.2.1
  unfold maxLen at hm
  obtain rfl := h.1
  have hm8 := hD.m8
  have hm1 := hD.m1
  have hn8 := hD.n8
  have hn1 := hD.n1
  have w1 : IntKind.i64.wrap ((D.length : Int) - 1) = (D.length : Int) - 1 := IntWalk.i64_in _ (by omega)
  have w2 : IntKind.i64.wrap ((colsN D : Int) - 1) = (colsN D : Int) - 1 := IntWalk.i64_in _ (by omega)
  obtain ⟨q1, e1⟩ : ∃ q, inB r 0 ((D.length : Int) - 1) = q := ⟨_, rfl⟩
  obtain ⟨q2, e2⟩ : ∃ q, inB c 0 ((colsN D : Int) - 1) = q := ⟨_, rfl⟩
  rw [e1, e2]
  have E1 := Lib.hid e1
  have E2 := Lib.hid e2
  have HD := Lib.hid hD
  have B0 := Lib.hid (bel_al1 w (.cells #[.int .i64 r] 3))
  have S := Lib.hid (h.below B0.out)
  clear h e1 e2 hD
  go_enter Try.func128, Try.ntmps128
  go_wp2_with fail
  refine (areOne 0 _ r _ _ _ (by simp)).mono ?_
  rintro e w' ⟨rfl, rfl⟩
  rw [E1.out]
  obtain ⟨b, o, b', o', c', rfl, hb, g0⟩ := relief_row0 S.out HD.out
  cases q1
  · go_wp2
    go_ret
    exact ⟨rfl, B0.out⟩
  · have B1 := Lib.hid (Below.then' B0.out (bel_al1 (w.alloc (.cells #[.int .i64 r] 3)) (.cells #[.int .i64 c] 3)))
    go_wp2_with fail
    refine (areOne 0 _ c _ _ _ (by simp)).mono ?_
    rintro e w' ⟨rfl, rfl⟩
    rw [E2.out]
    go_wp2
    go_ret
    exact ⟨rfl, B1.out⟩
end Go.Proofs.Ytpnaciamnigbnaa
namespace Go.Proofs.Ytpnaciamnigbnaa
open Go.RowKit
def IsRelief_Post (z0 : List VIntS) (w : World) (e : Ending) (w' : World) : Prop :=
  e = .returned (.bool (IsRelief_0 z0)) ∧ Below w.heap.size w w'
end Go.Proofs.Ytpnaciamnigbnaa
namespace Go.Proofs.Ytpnaciamnigbnaa
open Go.RowKit

set_option maxHeartbeats 1600000 in
/-- Are all numbers of a slice in lo .. hi? Wherever it lies. -/
theorem areInSlice_any (a : Option Addr) (n c : Nat) (zs : List Int) (lo hi : Int) (w : World) (h : IsInts w a n c zs) :
    Calls Try.prog 84 #[.int .i64 lo, .int .i64 hi, .slice a n c] w fun e w' => e = .returned (.bool (zs.all fun z => inB z lo hi)) ∧ w = w' := by
  have hm := h.2.2.1
  have hcl := h.2.1
  unfold maxLen at hm
  have L := Lib.hid h.1
  have S := Lib.hid h
  clear h
  go_enter Try.func84, Try.ntmps84
  go_wp2
  go_loop [11, 8] (fun i _ => ∃ k : Nat, k ≤ n ∧ i = .int .i64 k ∧ ((zs.take k).all fun z => inB z lo hi) = true) (fun i _ => n - (intOf i).toNat)
  case atStart => exact ⟨0, Nat.zero_le _, rfl, rfl⟩
  case round =>
    obtain ⟨k, hk, rfl, hall⟩ := hrel
    have H := Lib.hid hall
    clear hall
    by_cases hlt : k < n
    · obtain ⟨z, hz⟩ : ∃ z, zs[k]? = some z := ⟨zs[k]'(by have := L.out; omega), List.getElem?_eq_getElem _⟩
      obtain ⟨b, o, rfl, hb, hat⟩ := S.out.at (by omega)
      have hcell := hat k z hz
      have i0 : (0 : Int) ≤ (k : Int) := by omega
      have i1 : (k : Int) < (n : Int) := by omega
      have SN := Lib.hid (all_snoc zs k z lo hi hz)
      have T := Lib.hid (List.mem_of_getElem? hz)
      clear hz hat
      by_cases hin : inB z lo hi = true
      · obtain ⟨h1, h2⟩ := inB_iff.1 hin
        have I := Lib.hid hin
        clear hin
        go_wp2
        go_round
        case rel => exact ⟨k + 1, by omega, by go_num, by rw [SN.out, H.out, I.out]; rfl⟩
        case measure => simp [intOf]; omega
      · have hin' : inB z lo hi = false := by simpa using hin
        have h1 := inB_not.1 hin'
        have I := Lib.hid hin'
        have hF : (zs.all fun z => inB z lo hi) = false := by
          rw [List.all_eq_false]; exact ⟨z, T.out, by simp [I.out]⟩
        have F := Lib.hid hF
        clear hin hin' hF
        by_cases h2 : z < lo
        · clear h1
          go_wp2
          go_ret
          exact ⟨ret_bool F.out.symm, rfl⟩
        · have h3 : hi < z := by omega
          clear h1
          go_wp2
          go_ret
          exact ⟨ret_bool F.out.symm, rfl⟩
    · obtain rfl : k = n := by omega
      have F := Lib.hid (show (zs.all fun z => inB z lo hi) = true from by
        have := H.out
        rwa [List.take_of_length_le (by have := L.out; omega)] at this)
      go_wp2
      go_ret
      exact ⟨ret_bool F.out.symm, rfl⟩
/-- A row of a relief. -/
def rowB (D : List VIntS) (r : VIntS) : Bool := decide (r.length = colsN D) && r.all (fun z => inB z 0 9999)
theorem rlB_rows (D : List VIntS) : rlB D = (inB (D.length : Int) 1 8 && (inB (colsN D : Int) 1 8 && D.all (rowB D))) := by
  unfold rlB
  rw [show (fun r : List Int => decide (r.length = colsN D) && r.all (fun h => inB h 0 9999)) = rowB D from rfl]
  rw [Bool.eq_iff_iff]
  simp only [inB, Bool.and_eq_true, decide_eq_true_eq]
  constructor <;> rintro ⟨h1, h2⟩ <;> refine ⟨?_, ?_⟩ <;> (try omega) <;> (try (refine ⟨?_, ?_⟩)) <;> (try omega)
  · exact h2.2.2.2
  · refine ⟨by omega, by omega, h2.2⟩
theorem allB_more {α : Type} {P : α → Bool} {xs : List α} {k : Nat} {s : α} (h : (xs.take k).all P = true) (hs : xs[k]? = some s) (hp : P s = true) : (xs.take (k + 1)).all P = true := by
  rw [List.take_add_one, hs]; simp only [Option.toList_some, List.all_append, h, List.all_cons, hp, List.all_nil]; rfl
theorem all_bad {α : Type} {P : α → Bool} {xs : List α} {k : Nat} {s : α} (hs : xs[k]? = some s) (hp : P s = false) : xs.all P = false := by
  rw [List.all_eq_false]; exact ⟨s, List.mem_of_getElem? hs, by rw [hp]; simp⟩
set_option maxHeartbeats 6400000 in
set_option maxRecDepth 100000 in
theorem implIsRelief_any (a : Option Addr) (len cap : Nat) (D : List VIntS) (w : World) (h : IsIntSS w a len cap D) :
    Calls Try.prog 21 #[.slice a len cap] w (IsRelief_Post D w) := by
  have hm := h.2.2.1
  have hcl := h.2.1
  unfold maxLen at hm
  obtain rfl := h.1
  have RB := Lib.hid (rlB_rows D)
  have S0 := Lib.hid h
  have B1 := Lib.hid (bel_al1 w (.cells #[.int .i64 (D.length : Int)] 3))
  clear h
  obtain ⟨q1, e1⟩ : ∃ q, inB (D.length : Int) 1 8 = q := ⟨_, rfl⟩
  have E1 := Lib.hid e1
  clear e1
  go_enter Try.func21, Try.ntmps21
  go_wp2_with fail
  refine (areOne 1 8 _ _ _ _ (by simp)).mono ?_
  rintro e w' ⟨rfl, rfl⟩
  rw [E1.out]
  cases q1
  · have F := Lib.hid (show rlB D = false from by rw [RB.out, E1.out]; rfl)
    go_wp2
    go_ret
    exact ⟨ret_bool F.out.symm, B1.out⟩
  have hl := inB_iff.1 E1.out
  obtain ⟨r0, hr0⟩ : ∃ r0, D[0]? = some r0 := ⟨D[0]'(by omega), List.getElem?_eq_getElem _⟩
  have HC := Lib.hid (show colsN D = r0.length from by
    unfold colsN
    cases D with
    | nil => simp at hr0
    | cons x l => simp at hr0; subst hr0; rfl)
  have R0 := Lib.hid hr0
  have S1 := Lib.hid (S0.out.below B1.out)
  obtain ⟨b, o, ha, hb, hat⟩ := S1.out.at (by omega)
  obtain ⟨hd, g0, g1⟩ := hat 0 r0 hr0
  have gn := g1.1
  obtain ⟨ha0, hn0, hc0⟩ := hd
  simp only [Nat.add_zero] at g0 gn g1
  subst gn
  have HA := Lib.hid ha
  have B2 := Lib.hid (Below.then' B1.out (bel_al1 (w.alloc (.cells #[.int .i64 (D.length : Int)] 3)) (.cells #[.int .i64 (r0.length : Int)] 3)))
  obtain ⟨q2, e2⟩ : ∃ q, inB (r0.length : Int) 1 8 = q := ⟨_, rfl⟩
  have E2 := Lib.hid e2
  clear e2 hat hr0 g1
  subst ha
  have z0 : (0 : Int) < (D.length : Int) := by omega
  go_wp2_with fail
  refine (areOne 1 8 _ _ _ _ (by simp)).mono ?_
  rintro e w' ⟨rfl, rfl⟩
  rw [E2.out]
  cases q2
  · have F := Lib.hid (show rlB D = false from by rw [RB.out, E1.out, HC.out, E2.out]; rfl)
    go_wp2
    go_ret
    exact ⟨ret_bool F.out.symm, B2.out⟩
  have RB2 := Lib.hid (show rlB D = D.all (rowB D) from by rw [RB.out, E1.out, HC.out, E2.out]; rfl)
  clear g0
  go_wp2
  go_loopw [21, 4] (fun i _ wr => ∃ k : Nat, k ≤ D.length ∧ i = .int .i64 k ∧ (D.take k).all (rowB D) = true ∧ Below w.heap.size w wr) (fun i _ _ => D.length - (intOf i).toNat)
  case atStart => exact ⟨0, Nat.zero_le _, rfl, rfl, B2.out⟩
  case round =>
    obtain ⟨k, hk, rfl, hall, hbel⟩ := hrel
    have H := Lib.hid hall
    have B := Lib.hid hbel
    clear hall
    by_cases hlt : k < D.length
    · obtain ⟨x, hx⟩ : ∃ x, D[k]? = some x := ⟨D[k]'hlt, List.getElem?_eq_getElem _⟩
      obtain ⟨b', o', e', hb', hat⟩ := (S0.out.below hbel).at (by omega)
      simp only [Option.some.injEq, Addr.mk.injEq, and_true] at e'
      obtain ⟨rfl, rfl⟩ := e'
      obtain ⟨hdx, d0, d1⟩ := hat k x hx
      obtain ⟨hd0, f0, f1⟩ := hat 0 r0 R0.out
      have fn := f1.1
      have dn := d1.1
      obtain ⟨ha1, hn1, hc1⟩ := hdx
      obtain ⟨ha2, hn2, hc2⟩ := hd0
      simp only [Nat.add_zero] at f0 fn dn d0 d1
      subst fn
      subst dn
      have D1 := Lib.hid d1
      have X := Lib.hid hx
      have i0 : (0 : Int) ≤ (k : Int) := by omega
      have i1 : (k : Int) < (D.length : Int) := by omega
      clear hat f1 d1 hx hbel
      by_cases hq : x.length = r0.length
      · have c1 : ((x.length : Int) == (r0.length : Int)) = true := by simp [hq]
        have c2 : ((x.length : Int) != (r0.length : Int)) = false := by simp [hq]
        have HQ := Lib.hid hq
        clear hq
        obtain ⟨q3, e3⟩ : ∃ q, (x.all fun z => inB z 0 9999) = q := ⟨_, rfl⟩
        have E3 := Lib.hid e3
        have RX := Lib.hid (show rowB D x = q3 from by unfold rowB; rw [HC.out, HQ.out, e3]; simp)
        clear e3
        go_wp2_with fail
        refine (areInSlice_any _ _ _ x 0 9999 _ D1.out).mono ?_
        rintro e w' ⟨rfl, rfl⟩
        rw [E3.out]
        cases q3
        · have F := Lib.hid (show rlB D = false from by rw [RB2.out]; exact all_bad X.out RX.out)
          go_wp2
          go_ret
          exact ⟨ret_bool F.out.symm, B.out⟩
        · go_wp2
          go_roundw
          case rel => exact ⟨k + 1, by omega, by go_num, allB_more H.out X.out RX.out, B.out⟩
          case measure => simp [intOf]; omega
      · have c1 : ((x.length : Int) == (r0.length : Int)) = false := by simp; omega
        have c2 : ((x.length : Int) != (r0.length : Int)) = true := by simp; omega
        have F := Lib.hid (show rlB D = false from by rw [RB2.out]; exact all_bad X.out (by unfold rowB; rw [HC.out, decide_eq_false hq]; rfl))
        clear hq
        go_wp2
        go_ret
        exact ⟨ret_bool F.out.symm, B.out⟩
    · obtain rfl : k = D.length := by omega
      have F := Lib.hid (show rlB D = true from by
        rw [RB2.out]
        have := H.out
        rwa [List.take_of_length_le (Nat.le_refl _)] at this)
      clear hbel
      go_wp2
      go_ret
      exact ⟨ret_bool F.out.symm, B.out⟩
theorem hasB_prog {D : List VIntS} {r c : Int} (h : rlB D = true) : hasB D r c = (inB r 0 ((D.length : Int) - 1) && inB c 0 ((colsN D : Int) - 1)) := by
  unfold hasB inB
  rw [h, Bool.eq_iff_iff]
  simp only [Bool.and_eq_true, decide_eq_true_eq, true_and]
  omega
set_option maxHeartbeats 3200000 in
theorem isReliefWith_any (a : Option Addr) (len cap : Nat) (D : List VIntS) (r c : Int) (w : World) (h : IsIntSS w a len cap D) :
    Calls Try.prog 80 #[.slice a len cap, .int .i64 r, .int .i64 c] w fun e w' => e = .returned (.bool (hasB D r c)) ∧ Below w.heap.size w w' := by
  have S := Lib.hid h
  clear h
  obtain ⟨q, hq⟩ : ∃ q, rlB D = q := ⟨_, rfl⟩
  have Q := Lib.hid hq
  clear hq
  go_enter Try.func80, Try.ntmps80
  go_wp2_with fail
  refine (implIsRelief_any _ _ _ D _ S.out).mono ?_
  rintro e w1 ⟨rfl, hb⟩
  rw [show IsRelief_0 D = q from Q.out]
  have B1 := Lib.hid hb
  clear hb
  cases q
  · have F := Lib.hid (show hasB D r c = false from by unfold hasB; rw [Q.out]; rfl)
    go_wp2
    go_ret
    exact ⟨ret_bool F.out.symm, B1.out⟩
  · have F := Lib.hid (hasB_prog (r := r) (c := c) Q.out)
    go_wp2_with fail
    refine (isInRelief_any _ _ _ D r c _ (S.out.below B1.out) (rlB_iff.1 Q.out)).mono ?_
    rintro e w2 ⟨rfl, hb⟩
    have B2 := Lib.hid (Below.then' B1.out hb)
    clear hb
    rw [← F.out]
    go_wp2
    go_ret
    exact ⟨rfl, B2.out⟩
end Go.Proofs.Ytpnaciamnigbnaa
namespace Go.Proofs.Ytpnaciamnigbnaa
open Go.RowKit

def sqV (l : List Sq) : List VIntA2 := l.map vsq
theorem sqV_len (l : List Sq) : (sqV l).length = l.length := by simp [sqV]
theorem sqV_snoc (l : List Sq) (p : Sq) : sqV (l ++ [p]) = sqV l ++ [vsq p] := by simp [sqV]
theorem sqV_at {l : List Sq} {k : Nat} {p : Sq} (h : l[k]? = some p) : (sqV l)[k]? = some (vsq p) := by simp [sqV, h]
/-- A row of squares of the call's own. -/
def SqRow (base : Nat) (w : World) (v : Value) (l : List Sq) : Prop := w.ownsRow base 34 2 v l.length (cellsIntA2 (sqV l))
theorem SqRow.below {base : Nat} {w w' : World} {v : Value} {l : List Sq} (h : SqRow base w v l) (hb : Below w.heap.size w w') : SqRow base w' v l := ownsRow_below h hb
theorem SqRow.nil (base : Nat) (w : World) : SqRow base w (.slice none 0 0) [] := ⟨by simp [sqV, cellsIntA2], .inl ⟨rfl, rfl⟩⟩
theorem SqRow.base {base base' : Nat} {w : World} {v : Value} {l : List Sq} (h : SqRow base w v l) (hb : base' ≤ base) : SqRow base' w v l := ownsRow_base h hb
theorem SqRow.own {base : Nat} {w : World} {v : Value} {l : List Sq} (h : SqRow base w v l) : w.ownsRow base 34 2 v (sqV l).length (cellsIntA2 (sqV l)) := by rw [sqV_len]; exact h
theorem SqRow.is {base : Nat} {w : World} {v : Value} {l : List Sq} (h : SqRow base w v l) : ∃ a cap, v = .slice a l.length cap ∧ IsIntA2S w a l.length cap (sqV l) := by
  obtain ⟨a, cap, e, hi, _⟩ := isIntA2S_own h.own
  rw [sqV_len] at e hi
  exact ⟨a, cap, e, hi⟩
theorem SqRow.ownS {base : Nat} {w : World} {v : Value} {l : List Sq} (h : SqRow base w v l) {lo hi : Nat} (h1 : lo ≤ base) (h2 : w.heap.size ≤ hi) : OwnIntA2S lo hi w v (sqV l) := OwnIn.of_row h.own h1 h2
def SqPost (l : List Sq) (w : World) (e : Ending) (w' : World) : Prop := ∃ v, e = .returned v ∧ SqRow w.heap.size w' v l ∧ Below w.heap.size w w'
set_option maxHeartbeats 6400000 in
set_option maxRecDepth 100000 in
theorem reliefSquares_any (a : Option Addr) (len cap : Nat) (D : List VIntS) (w : World) (h : IsIntSS w a len cap D) (hD : RL D) :
    Calls Try.prog 88 #[.slice a len cap] w (SqPost (sqs D) w) := by
  have hm := h.2.2.1
  have hcl := h.2.1
  unfold maxLen at hm
  obtain rfl := h.1
  obtain ⟨i0, hi, hz0, hz1, hz2⟩ := info_parts infoIntA2
  have S := Lib.hid h
  have HD := Lib.hid hD
  have hm8 := hD.m8
  have hn8 := hD.n8
  clear h hD
  go_enter Try.func88, Try.ntmps88
  go_wp2
  go_loopw [8, 3] (fun i o wr => ∃ k : Nat, k ≤ D.length ∧ i = .int .i64 k ∧ SqRow w.heap.size wr o (sqsTo (colsN D) k) ∧ Below w.heap.size w wr) (fun i _ _ => D.length - (intOf i).toNat)
  case atStart => exact ⟨0, Nat.zero_le _, rfl, SqRow.nil _ _, Below.refl _ _⟩
  case round =>
    obtain ⟨k, hk, rfl, hown, hbel⟩ := hrel
    have O := Lib.hid hown
    have B := Lib.hid hbel
    by_cases hlt : k < D.length
    · obtain ⟨b, o, b', o', c', rfl, hb, hb', g0, hc1, hc2, _⟩ := relief_row (S.out.below hbel) HD.out hlt
      have j0 : (0 : Int) ≤ (k : Int) := by omega
      have j1 : (k : Int) < (D.length : Int) := by omega
      clear hown hbel
      rename World => w0
      go_wp2
      go_loopw [16, 3] (fun j ov wr => ∃ c : Nat, c ≤ colsN D ∧ j = .int .i64 c ∧ SqRow w.heap.size wr ov (sqsTo (colsN D) k ++ sqRow c k) ∧ Below w.heap.size w wr) (fun j _ _ => colsN D - (intOf j).toNat)
      case atStart => exact ⟨0, Nat.zero_le _, rfl, by rw [show sqRow 0 k = [] from rfl, List.append_nil]; exact O.out, B.out⟩
      case round =>
        obtain ⟨c, hc, rfl, hown, hbel⟩ := hrel
        have OI := Lib.hid hown
        have BI := Lib.hid hbel
        by_cases hlc : c < colsN D
        · have RS := Lib.hid (show sqsTo (colsN D) k ++ sqRow (c + 1) k = (sqsTo (colsN D) k ++ sqRow c k) ++ [(k, c)] from by rw [sqRow_succ, List.append_assoc])
          have hle : (sqsTo (colsN D) k ++ sqRow c k).length ≤ 72 := by
            rw [List.length_append, sqsTo_len, sqRow_len]
            have := Nat.mul_le_mul (show k ≤ 8 by omega) hn8
            omega
          obtain ⟨G, hG⟩ : ∃ G, sqsTo (colsN D) k ++ sqRow c k = G := ⟨_, rfl⟩
          rw [hG] at hown RS hle
          have hs3 := hbel.size
          have hown3 := World.ownsRow.alloc hown (.cells #[.int .i64 (k : Int), .int .i64 (c : Int)] 34)
          have i1 : (c : Int) < (colsN D : Int) := by omega
          clear hown hbel hG
          go_wp2_with (at_builtin; refine wpList_append_own _ rfl _ _ 27 rfl w.heap.size 34 i0 (.agg #[.int .i64 0, .int .i64 0]) 2 16 Try.underlying27 hi hz0 hz1 hz2 rfl (by decide) _ _ _ rfl hown3 ⟨wr.heap.size, 0, none⟩ 1 1 (VIntA2.vals (vsq (k, c))) rfl rfl (cell_IntA2 _ (vsq (k, c)) _) (VIntA2.vals_one _) (by unfold maxLen; omega) (by omega) (by simp; omega) ?_; intro v' w4 hown' hgrow4 _)
          go_roundw
          case rel =>
            refine ⟨c + 1, by omega, by go_num, ?_, (Below.then' BI.out (bel_al1 _ _)).grown hgrow4 (by simp; omega) (fun q e => (hown3.lt q e).1)⟩
            rw [RS.out]
            unfold SqRow
            rw [sqV_snoc, cellsIntA2_snoc, List.length_append]
            exact hown'
          case measure => simp [intOf]; omega
        · obtain rfl : c = colsN D := by omega
          have O2 := Lib.hid (show SqRow w.heap.size wr _ (sqsTo (colsN D) (k + 1)) from by rw [sqsTo_succ]; exact OI.out)
          clear hown hbel
          go_wp2
          go_roundw
          case rel => exact ⟨k + 1, by omega, by go_num, O2.out, BI.out⟩
          case measure => simp [intOf]; omega
    · obtain rfl : k = D.length := by omega
      clear hown hbel
      go_wp2
      go_ret
      exact ⟨_, rfl, O.out, B.out⟩
end Go.Proofs.Ytpnaciamnigbnaa
namespace Go.Proofs.Ytpnaciamnigbnaa
open Go.RowKit

/-- The square so far away, if there is one. -/
def nearZ (D : List VIntS) (r c : Nat) (dr dc : Int) : List Sq := if (inB ((r : Int) + dr) 0 ((D.length : Int) - 1) && inB ((c : Int) + dc) 0 ((colsN D : Int) - 1)) = true then [(((r : Int) + dr).toNat, ((c : Int) + dc).toNat)] else []
def nearK (D : List VIntS) (r c : Nat) : Nat → List Sq
  | 0 => []
  | 1 => nearZ D r c (-1) 0
  | 2 => nearZ D r c (-1) 0 ++ nearZ D r c 0 1
  | 3 => (nearZ D r c (-1) 0 ++ nearZ D r c 0 1) ++ nearZ D r c 1 0
  | _ => ((nearZ D r c (-1) 0 ++ nearZ D r c 0 1) ++ nearZ D r c 1 0) ++ nearZ D r c 0 (-1)
theorem nearZ_if {D : List VIntS} {r c : Nat} {dr dc : Int} {P : Prop} [Decidable P] {q : Sq} (h : P ↔ (0 ≤ (r : Int) + dr ∧ (r : Int) + dr ≤ (D.length : Int) - 1) ∧ (0 ≤ (c : Int) + dc ∧ (c : Int) + dc ≤ (colsN D : Int) - 1)) (hq : P → q = (((r : Int) + dr).toNat, ((c : Int) + dc).toNat)) :
    nearZ D r c dr dc = if P then [q] else [] := by
  unfold nearZ inB
  simp only [Bool.and_eq_true, decide_eq_true_eq, ← h]
  by_cases hp : P
  · rw [if_pos hp, if_pos hp, hq hp]
  · rw [if_neg hp, if_neg hp]
theorem nearK_all {D : List VIntS} {r c : Nat} (hr : r < D.length) (hc : c < colsN D) : nearK D r c 4 = nears D (r, c) := by
  show ((nearZ D r c (-1) 0 ++ nearZ D r c 0 1) ++ nearZ D r c 1 0) ++ nearZ D r c 0 (-1) = _
  unfold nears
  rw [List.append_assoc, List.append_assoc]
  rw [nearZ_if (P := 0 < r) (q := (r - 1, c)) (by omega) (fun h => by rw [Prod.mk.injEq]; omega), nearZ_if (P := c + 1 < colsN D) (q := (r, c + 1)) (by omega) (fun h => by rw [Prod.mk.injEq]; omega), nearZ_if (P := r + 1 < D.length) (q := (r + 1, c)) (by omega) (fun h => by rw [Prod.mk.injEq]; omega), nearZ_if (P := 0 < c) (q := (r, c - 1)) (by omega) (fun h => by rw [Prod.mk.injEq]; omega)]
theorem nearZ_len (D : List VIntS) (r c : Nat) (dr dc : Int) : (nearZ D r c dr dc).length ≤ 1 := by unfold nearZ; split <;> simp
theorem nearK_len (D : List VIntS) (r c k : Nat) : (nearK D r c k).length ≤ 4 := by
  have h1 := nearZ_len D r c (-1) 0
  have h2 := nearZ_len D r c 0 1
  have h3 := nearZ_len D r c 1 0
  have h4 := nearZ_len D r c 0 (-1)
  unfold nearK
  split <;> (try simp only [List.length_append, List.length_nil]) <;> omega
/-- How far each neighbor is away. -/
def dirZ : Nat → Int × Int
  | 0 => (-1, 0)
  | 1 => (0, 1)
  | 2 => (1, 0)
  | _ => (0, -1)
theorem nearK_step (D : List VIntS) (r c k : Nat) (h : k < 4) : nearK D r c (k + 1) = nearK D r c k ++ nearZ D r c (dirZ k).1 (dirZ k).2 := by
  rcases (show k = 0 ∨ k = 1 ∨ k = 2 ∨ k = 3 by omega) with rfl | rfl | rfl | rfl
  · simp [nearK, dirZ]
  · rfl
  · rfl
  · rfl
theorem dir_at (k : Nat) (h : k < 4) : ∃ dr dc, dirZ k = (dr, dc) ∧ (∀ w : World, (Instr.index 138 (.agg #[.int .i64 (-1), .int .i64 0, .int .i64 0, .int .i64 1, .int .i64 1, .int .i64 0, .int .i64 0, .int .i64 (-1)]) (.int .i64 (k : Int))).run Try.prog w = .ok (.agg #[.int .i64 dr, .int .i64 dc]) w) ∧ -1 ≤ dr ∧ dr ≤ 1 ∧ -1 ≤ dc ∧ dc ≤ 1 := by
  rcases (show k = 0 ∨ k = 1 ∨ k = 2 ∨ k = 3 by omega) with rfl | rfl | rfl | rfl
  · exact ⟨-1, 0, rfl, fun _ => by kernel_rfl, by decide, by decide, by decide, by decide⟩
  · exact ⟨0, 1, rfl, fun _ => by kernel_rfl, by decide, by decide, by decide, by decide⟩
  · exact ⟨1, 0, rfl, fun _ => by kernel_rfl, by decide, by decide, by decide, by decide⟩
  · exact ⟨0, -1, rfl, fun _ => by kernel_rfl, by decide, by decide, by decide, by decide⟩
set_option maxHeartbeats 12800000 in
set_option maxRecDepth 100000 in
theorem squaresBeside_any (a : Option Addr) (len cap : Nat) (D : List VIntS) (r c : Nat) (w : World) (h : IsIntSS w a len cap D) (hD : RL D) (hr : r < D.length) (hc : c < colsN D) :
    Calls Try.prog 130 #[.slice a len cap, .agg #[.int .i64 (r : Int), .int .i64 (c : Int)]] w (SqPost (nears D (r, c)) w) := by
  have hm := h.2.2.1
  have hcl := h.2.1
  unfold maxLen at hm
  obtain ⟨i0, hi, hz0, hz1, hz2⟩ := info_parts infoIntA2
  have HD := Lib.hid hD
  have hm8 := hD.m8
  have hn8 := hD.n8
  have B0 := Lib.hid (bel_al1 w (.cells #[.int .i64 (r : Int), .int .i64 (c : Int)] 34))
  have S := Lib.hid (h.below B0.out)
  have X0 := Lib.hid (BoxIntA2.new w 34 ⟨(r : Int), (c : Int)⟩ _ rfl)
  have NA := Lib.hid (nearK_all hr hc)
  have hs0 : w.heap.size < (w.alloc (.cells #[.int .i64 (r : Int), .int .i64 (c : Int)] 34)).heap.size := by simp
  clear h hD
  go_enter Try.func130, Try.ntmps130
  go_wp2
  obtain ⟨W0, hW0⟩ : ∃ W0, w.alloc (.cells #[.int .i64 (r : Int), .int .i64 (c : Int)] 34) = W0 := ⟨_, rfl⟩
  rw [hW0] at B0 S X0 hs0
  simp only [hW0]
  clear hW0
  go_loopw [15, 5] (fun i o wr => ∃ k : Nat, k ≤ 4 ∧ i = .int .i64 k ∧ SqRow W0.heap.size wr o (nearK D r c k) ∧ Below W0.heap.size W0 wr) (fun i _ _ => 4 - (intOf i).toNat)
  case atStart => exact ⟨0, by omega, rfl, SqRow.nil _ _, Below.refl _ _⟩
  case round =>
    obtain ⟨k, hk, rfl, hown, hbel⟩ := hrel
    have O := Lib.hid hown
    have B := Lib.hid hbel
    by_cases hlt : k < 4
    · have NS := Lib.hid (nearK_step D r c k hlt)
      have hln := nearK_len D r c k
      obtain ⟨G, hG⟩ : ∃ G, nearK D r c k = G := ⟨_, rfl⟩
      rw [hG] at O NS hln
      clear hown hG
      obtain ⟨dr, dc, hd, xk, hb1, hb2, hb3, hb4⟩ := dir_at k hlt
      rw [hd] at NS
      simp only [] at NS
      have wx : IntKind.i64.wrap ((r : Int) + dr) = (r : Int) + dr := IntWalk.i64_in _ (by omega)
      have wy : IntKind.i64.wrap ((c : Int) + dc) = (c : Int) + dc := IntWalk.i64_in _ (by omega)
      obtain ⟨c0, c1⟩ := X0.out.below B.out
      have ba := bel_al1 wr (.cells #[.int .i64 dr, .int .i64 dc] 34)
      obtain ⟨d0, d1⟩ := BoxIntA2.new wr 34 ⟨dr, dc⟩ _ rfl
      have hbx : w.heap.size < wr.heap.size := (X0.out.below B.out).lt
      have e0 := (ba.cell (p := ⟨w.heap.size, 0, none⟩) hbx).trans c0
      have e1 := (ba.cell (p := ⟨w.heap.size, 1, none⟩) hbx).trans c1
      simp only [] at d0 d1 e0 e1
      have B1 := Lib.hid (Below.then' B.out ba)
      have O1 := Lib.hid (O.out.below ba)
      have j0 : (0 : Int) ≤ (k : Int) := by omega
      have j1 : (k : Int) < 4 := by omega
      have K4 := Lib.hid hlt
      clear ba c0 c1 hbel hd hlt hk
      go_wp2
      go_quiet (fail)
      have bd := bel_drawn (wr.alloc (.cells #[.int .i64 dr, .int .i64 dc] 34)) nq
      have B2 := Lib.hid (Below.then' B1.out bd)
      have O2 := Lib.hid (O1.out.below bd)
      clear bd d0 d1 e0 e1
      obtain ⟨q, hq⟩ : ∃ q, (inB ((r : Int) + dr) 0 ((D.length : Int) - 1) && inB ((c : Int) + dc) 0 ((colsN D : Int) - 1)) = q := ⟨_, rfl⟩
      have NZ := Lib.hid (show nearZ D r c dr dc = if q = true then [(((r : Int) + dr).toNat, ((c : Int) + dc).toNat)] else [] from by unfold nearZ; rw [hq])
      have HQ := Lib.hid hq
      clear hq
      go_wp2_with fail
      refine (isInRelief_any _ _ _ D _ _ _ (S.out.below B2.out) HD.out).mono ?_
      rintro e w3 ⟨rfl, hb⟩
      rw [HQ.out]
      have B3 := Lib.hid (Below.then' B2.out hb)
      have O3 := Lib.hid (O2.out.below hb)
      have hs3 := B3.out.size
      clear hb
      cases q
      · go_wp2
        go_roundw
        case rel => exact ⟨k + 1, by have := K4.out; omega, by go_num, by rw [NS.out, NZ.out]; simpa using O3.out, B3.out⟩
        case measure => have := K4.out; simp [intOf]; omega
      · have hx := inB_iff.1 (Bool.and_eq_true_iff.1 HQ.out).1
        have hy := inB_iff.1 (Bool.and_eq_true_iff.1 HQ.out).2
        obtain ⟨x, ex⟩ : ∃ x : Nat, (r : Int) + dr = (x : Int) := ⟨((r : Int) + dr).toNat, by omega⟩
        obtain ⟨y, ey⟩ : ∃ y : Nat, (c : Int) + dc = (y : Int) := ⟨((c : Int) + dc).toNat, by omega⟩
        have N2 := Lib.hid (show nearK D r c (k + 1) = G ++ [(x, y)] from by rw [NS.out, NZ.out, if_pos rfl, ex, ey, Int.toNat_natCast, Int.toNat_natCast])
        rw [ex, ey]
        have hown3 := World.ownsRow.alloc O3.out (.cells #[.int .i64 (x : Int), .int .i64 (y : Int)] 34)
        clear ex ey wx wy hx hy
        go_wp2_with (at_builtin; refine wpList_append_own _ rfl _ _ 27 rfl W0.heap.size 34 i0 (.agg #[.int .i64 0, .int .i64 0]) 2 16 Try.underlying27 hi hz0 hz1 hz2 rfl (by decide) _ _ _ rfl hown3 ⟨w3.heap.size, 0, none⟩ 1 1 (VIntA2.vals (vsq (x, y))) rfl rfl (cell_IntA2 _ (vsq (x, y)) _) (VIntA2.vals_one _) (by unfold maxLen; omega) (by omega) (by simp; omega) ?_; intro v' w4 hown' hgrow4 _)
        go_roundw
        case rel =>
          refine ⟨k + 1, by have := K4.out; omega, by go_num, ?_, (Below.then' B3.out (bel_al1 _ _)).grown hgrow4 (by simp; omega) (fun q e => (hown3.lt q e).1)⟩
          rw [N2.out]
          unfold SqRow
          rw [sqV_snoc, cellsIntA2_snoc, List.length_append]
          exact hown'
        case measure => have := K4.out; simp [intOf]; omega
    · obtain rfl : k = 4 := by omega
      clear hown hbel
      go_wp2
      go_ret
      exact ⟨_, rfl, by rw [← NA.out]; exact O.out.base (by omega), Below.then' B0.out B.out⟩
end Go.Proofs.Ytpnaciamnigbnaa
namespace Go.Proofs.Ytpnaciamnigbnaa
open Go.RowKit

theorem SqRow.isAt {base : Nat} {w : World} {a : Option Addr} {n c : Nat} {l : List Sq} (h : SqRow base w (.slice a n c) l) : n = l.length ∧ IsIntA2S w a n c (sqV l) := by
  obtain ⟨a', c', e, hi⟩ := h.is
  simp only [Value.slice.injEq] at e
  obtain ⟨rfl, rfl, rfl⟩ := e
  exact ⟨rfl, hi⟩
theorem SqRow.grown {base : Nat} {w w' : World} {v : Value} {l : List Sq} {row : Option Nat} (h : SqRow base w v l) (hg : w.grownBy w' row) (hne : ∀ k, row = some k → k < base) : SqRow base w' v l := ownsRow_grown' h hg hne
/-- To where water runs, and whether it does. -/
def NextPost (D : List VIntS) (p : Sq) (w : World) (e : Ending) (w' : World) : Prop :=
  e = .returned (.tuple #[.agg #[.int .i64 ((nextSq D p).1 : Int), .int .i64 ((nextSq D p).2 : Int)], .bool (!(nextSq D p == p))]) ∧ Below w.heap.size w w'
theorem grown_set (w : World) (b j : Nat) (u : Value) : w.grownBy (w.setCell ⟨b, j, none⟩ u) (some b) :=
  ⟨rfl, rfl, rfl, by simp [World.setCell], fun k _ hne => Below.heap_setCell _ _ _ _ (by intro e; exact hne (by rw [e]))⟩
theorem fold_more {α β : Type} (f : β → α → β) (b : β) {xs : List α} {k : Nat} {x : α} (h : xs[k]? = some x) : (xs.take (k + 1)).foldl f b = f ((xs.take k).foldl f b) x := by
  rw [List.take_add_one, h]; simp
theorem fold_in {D : List VIntS} {p : Sq} (hp : inR D p) (k : Nat) : inR D (((nears D p).take k).foldl (lowerOf D) p) := by
  rcases fold_lower D ((nears D p).take k) p with e | ⟨e, _⟩
  · rw [e]; exact hp
  · exact nears_in hp (List.mem_of_mem_take e)
theorem sq_eq (p q : Sq) : ((p.1 : Int) == (q.1 : Int) && (p.2 : Int) == (q.2 : Int)) = (p == q) := by
  obtain ⟨a, b⟩ := p
  obtain ⟨c, d⟩ := q
  rw [Bool.eq_iff_iff]
  simp
  omega
set_option maxHeartbeats 12800000 in
set_option maxRecDepth 100000 in
theorem nextSquare_any (a : Option Addr) (len cap : Nat) (D : List VIntS) (r c : Nat) (w : World) (h : IsIntSS w a len cap D) (hD : RL D) (hr : r < D.length) (hc : c < colsN D) :
    Calls Try.prog 86 #[.slice a len cap, .agg #[.int .i64 (r : Int), .int .i64 (c : Int)]] w (NextPost D (r, c) w) := by
  have hm := h.2.2.1
  have hcl := h.2.1
  unfold maxLen at hm
  have HD := Lib.hid hD
  have HP := Lib.hid (show inR D (r, c) from ⟨hr, hc⟩)
  have Z3 := Lib.hid (((HBIntA2.new w ⟨(r : Int), (c : Int)⟩ _ rfl).alloc (.cells #[.int .i64 0, .int .i64 0] 34)).alloc (.cells #[.int .i64 (r : Int), .int .i64 (c : Int)] 34))
  have Z4 := Lib.hid ((HBIntA2.new (w.alloc (.cells #[.int .i64 (r : Int), .int .i64 (c : Int)] 34)) ⟨0, 0⟩ (w.heap.size + 1) (by simp)).alloc (.cells #[.int .i64 (r : Int), .int .i64 (c : Int)] 34))
  have Z6 := Lib.hid (HBIntA2.new ((w.alloc (.cells #[.int .i64 (r : Int), .int .i64 (c : Int)] 34)).alloc (.cells #[.int .i64 0, .int .i64 0] 34)) ⟨(r : Int), (c : Int)⟩ (w.heap.size + 2) (by simp))
  have B0 := Lib.hid (Below.then' (bel_al2 w (.cells #[.int .i64 (r : Int), .int .i64 (c : Int)] 34) (.cells #[.int .i64 0, .int .i64 0] 34)) (bel_al1 _ (.cells #[.int .i64 (r : Int), .int .i64 (c : Int)] 34)))
  have S := Lib.hid h
  clear h hD
  go_enter Try.func86, Try.ntmps86
  obtain ⟨c0, c1⟩ := (HBIntA2.new w ⟨(r : Int), (c : Int)⟩ _ rfl).cells
  go_wp2_with fail
  refine (squaresBeside_any _ _ _ D r c _ (S.out.below B0.out) HD.out hr hc).mono ?_
  rintro e w1 ⟨v, rfl, hown, hb⟩
  clear c0 c1
  have Y3 := Lib.hid (Z3.out.below hb)
  have Y4 := Lib.hid (Z4.out.below hb)
  have Y6 := Lib.hid (Z6.out.below hb)
  have B1 := Lib.hid (Below.then' B0.out hb)
  have O1 := Lib.hid (hown.base (base' := w.heap.size + 3) (by simp))
  have hs1 : w.heap.size + 3 ≤ w1.heap.size := by have := hb.size; simp at this; omega
  obtain ⟨a4, c4, rfl, _⟩ := hown.is
  have NL := Lib.hid (show (nextSq D (r, c)) = (nears D (r, c)).foldl (lowerOf D) (r, c) from rfl)
  have hln := nears_len D (r, c)
  clear hown hb
  have HN := Lib.hid (fun (k : Nat) (q : Sq) (hq : (nears D (r, c))[k]? = some q) => nears_in HP.out (List.mem_of_getElem? hq))
  have HF := Lib.hid (fun k : Nat => fold_in HP.out k)
  obtain ⟨N, hN⟩ : ∃ N, nears D (r, c) = N := ⟨_, rfl⟩
  rw [hN] at O1 NL hln HN HF ⊢
  clear hN
  go_wp2
  go_loopw [14] (fun i wr => ∃ k : Nat, k ≤ N.length ∧ i = .int .i64 k ∧ HBIntA2 wr w.heap.size ⟨(r : Int), (c : Int)⟩ ∧ HBIntA2 wr (w.heap.size + 1) ⟨0, 0⟩ ∧ HBIntA2 wr (w.heap.size + 2) (vsq ((N.take k).foldl (lowerOf D) (r, c))) ∧ SqRow (w.heap.size + 3) wr (.slice a4 N.length c4) N ∧ Below w.heap.size w wr) (fun i _ => N.length - (intOf i).toNat)
  case atStart => exact ⟨0, Nat.zero_le _, rfl, Y3.out, Y4.out, Y6.out, O1.out, B1.out⟩
  case round =>
    obtain ⟨k, hk, rfl, h3, h4, h6, hown, hbel⟩ := hrel
    have B := Lib.hid hbel
    have O := Lib.hid hown
    have X3 := Lib.hid h3
    have X4 := Lib.hid h4
    have X6 := Lib.hid h6
    by_cases hlt : k < N.length
    · obtain ⟨q, hq⟩ : ∃ q, N[k]? = some q := ⟨N[k]'hlt, List.getElem?_eq_getElem _⟩
      obtain ⟨b, o, rfl, hb, hat⟩ := hown.isAt.2.at (by omega)
      obtain ⟨d0, d1⟩ := hat k (vsq q) (sqV_at hq)
      have QI := HN.out k q hq
      have BI := HF.out k
      have FM := Lib.hid (fold_more (lowerOf D) (r, c) hq)
      obtain ⟨m, hm'⟩ : ∃ m, (N.take k).foldl (lowerOf D) (r, c) = m := ⟨_, rfl⟩
      rw [hm'] at X6 h6 BI FM
      obtain ⟨x, y⟩ := q
      obtain ⟨mx, my⟩ := m
      simp only [vsq] at d0 d1
      have QX := QI.1
      have QY := QI.2
      have MX := BI.1
      have MY := BI.2
      simp only [] at QX QY MX MY
      have hc4 := hown.isAt.2.2.1
      have hc5 := hown.isAt.2.2.2.1
      unfold maxLen at hc5
      have j0 : (0 : Int) ≤ (k : Int) := by omega
      have j1 : (k : Int) < (N.length : Int) := by omega
      have ba := bel_al1 wr (.cells #[.int .i64 (x : Int), .int .i64 (y : Int)] 34)
      have B2 := Lib.hid (Below.then' B.out ba)
      have S2 := Lib.hid (S.out.below B2.out)
      obtain ⟨e0, e1⟩ := (h6.below ba).cells
      obtain ⟨f0, f1⟩ := BoxIntA2.new wr 34 ⟨(x : Int), (y : Int)⟩ _ rfl
      simp only [vsq] at e0 e1 f0 f1
      have A3 := Lib.hid (h3.below ba)
      have A4 := Lib.hid (h4.below ba)
      have A6 := Lib.hid (h6.below ba)
      have AO := Lib.hid (hown.below ba)
      have k0 := cell_regrown e0
      have k1 := cell_regrown e1
      have k2 := cell_regrown f0
      have k3 := cell_regrown f1
      have cQ := below_at (W := wr.alloc (.cells #[.int .i64 (x : Int), .int .i64 (y : Int)] 34)) (fun W' hW => heightOf_any _ _ _ D x y W' (S2.out.below hW) HD.out QX QY)
      have cM := below_at (W := wr.alloc (.cells #[.int .i64 (x : Int), .int .i64 (y : Int)] 34)) (fun W' hW => heightOf_any _ _ _ D mx my W' (S2.out.below hW) HD.out MX MY)
      clear h3 h4 h6 hown hbel hat hq hm' ba e0 e1 f0 f1 QI BI
      go_wp2
      refine wp_region_quiet_below (by kernel_rfl) (by kernel_rfl) ?_
      repeat (first | go_big_quiet_step (first | (with_reducible exact cQ _ _) | (with_reducible exact cM _ _)) | quiet_step (first | (with_reducible exact cQ _ _) | (with_reducible exact cM _ _)))
      refine wpQuiet_nil ?_
      intro W2 hw2
      have bw := below_of_re hw2
      have V3 := Lib.hid (A3.out.below bw)
      have V4 := Lib.hid (A4.out.below bw)
      have V6 := Lib.hid (A6.out.below bw)
      have VO := Lib.hid (AO.out.below bw)
      have VB := Lib.hid (Below.then' B2.out bw)
      have V8 := (HBIntA2.new wr ⟨(x : Int), (y : Int)⟩ _ rfl).below bw
      have hne : wr.heap.size ≠ w.heap.size + 2 := by have := X6.out.lt; omega
      clear hw2 cQ cM k0 k1 k2 k3 d0 d1 bw
      by_cases hlo : hA D (x, y) < hA D (mx, my)
      · have dl : decide (hA D (x, y) < hA D (mx, my)) = true := decide_eq_true hlo
        have FX := Lib.hid (show (N.take (k + 1)).foldl (lowerOf D) (r, c) = (x, y) from by rw [FM.out]; unfold lowerOf; rw [if_pos hlo])
        obtain ⟨g0, g1⟩ := V8.cells
        obtain ⟨p0, p1⟩ := V6.out.cells
        have q0 := V6.out.free 0
        have q1 := V6.out.free 1
        have hgr : W2.grownBy ((W2.setCell ⟨w.heap.size + 2, 0, none⟩ (.int .i64 (x : Int))).setCell ⟨w.heap.size + 2, 1, none⟩ (.int .i64 (y : Int))) (some (w.heap.size + 2)) := grown_trans (grown_set _ _ _ _) (grown_set _ _ _ _)
        have HG := Lib.hid hgr
        simp only [] at g0 g1
        clear hlo hgr
        rw [dl]
        go_wp2
        go_roundw
        case rel =>
          refine ⟨k + 1, by omega, by go_num, V3.out.otherAll (by omega) _ _, V4.out.otherAll (by omega) _ _, ?_, VO.out.grown HG.out (fun k e => by cases e; omega), VB.out.grown HG.out VB.out.size (fun j e => by cases e; omega)⟩
          rw [FX.out]
          exact V6.out.setAll (vsq (x, y))
        case measure => simp [intOf]; omega
      · have dl : decide (hA D (x, y) < hA D (mx, my)) = false := decide_eq_false hlo
        have FX := Lib.hid (show (N.take (k + 1)).foldl (lowerOf D) (r, c) = (mx, my) from by rw [FM.out]; unfold lowerOf; rw [if_neg hlo])
        clear hlo V8
        rw [dl]
        go_wp2
        go_roundw
        case rel => exact ⟨k + 1, by omega, by go_num, V3.out, V4.out, by rw [FX.out]; exact V6.out, VO.out, VB.out⟩
        case measure => simp [intOf]; omega
    · obtain rfl : k = N.length := by omega
      have E := List.take_of_length_le (Nat.le_refl N.length)
      rw [E, ← NL.out] at X6
      have NI := next_in HP.out
      obtain ⟨m, hm'⟩ : ∃ m, nextSq D (r, c) = m := ⟨_, rfl⟩
      have SE := Lib.hid (sq_eq m (r, c))
      rw [hm'] at X6
      have M := Lib.hid hm'
      obtain ⟨mx, my⟩ := m
      obtain ⟨e0, e1⟩ := X6.out.cells
      obtain ⟨f0, f1⟩ := X3.out.cells
      obtain ⟨g0, g1⟩ := X4.out.cells
      have q0 := X4.out.free 0
      have q1 := X4.out.free 1
      simp only [vsq] at e0 e1 f0 f1
      have ZW := Lib.hid (X4.out.setAll ⟨(mx : Int), (my : Int)⟩)
      have heq : ∀ W : World, (binOp .neq 34 (.agg #[.int .i64 (mx : Int), .int .i64 (my : Int)]) (.agg #[.int .i64 (r : Int), .int .i64 (c : Int)])).run Try.prog W = .ok (.bool (!((mx, my) == (r, c)))) W := fun W => by rw [eqA2, ← SE.out]
      clear h3 h4 h6 hown hbel E NI hm'
      go_wp2
      go_region
      all_goals go_wp2
      all_goals refine bodyPost_ret (resultsIntA22 rfl rfl rfl (show HBIntA2 _ _ _ from ZW.out.drew)) rfl ⟨by rw [M.out]; rfl, ?_⟩
      all_goals exact bel_drew' ((B.out.setCell (by simp) _).setCell (by simp) _)
end Go.Proofs.Ytpnaciamnigbnaa
