/- What the laws do with IntSs: copies, sizes, comparisons, marks. (made by gen2.py, then by hand) -/
import Derived.Test.YtodjgeffkfbpiaaIntST
import Derived.Test.YtodjgeffkfbpiaaIntO
namespace Go.Proofs.Ytodjgeffkfbpiaa
open Go.RowKit

def condIntS1 (x : VIntS) : Prop := x.length ≤ 1048576
def sizeIntS : List VIntS → Nat
  | [] => 0
  | x :: l => 1 + x.length + sizeIntS l
theorem sizeIntS_app (a b : List VIntS) : sizeIntS (a ++ b) = sizeIntS a + sizeIntS b := by
  induction a with
  | nil => simp [sizeIntS]
  | cons x l ih => simp [sizeIntS, ih]; omega
def condIntS (xs : List VIntS) : Prop := sizeIntS xs ≤ 1048576
def cntIntS : List VIntS → Nat
  | [] => 0
  | x :: l => x.length + cntIntS l
theorem cntIntS_app (a b : List VIntS) : cntIntS (a ++ b) = cntIntS a + cntIntS b := by
  induction a with
  | nil => simp [cntIntS]
  | cons x l ih => simp [cntIntS, ih]; omega
theorem cntIntS_size (xs : List VIntS) : cntIntS xs ≤ sizeIntS xs := by
  induction xs with
  | nil => simp [cntIntS, sizeIntS]
  | cons x l ih => simp [cntIntS, sizeIntS]; omega
theorem sizeIntS_len (xs : List VIntS) : xs.length ≤ sizeIntS xs := by
  induction xs with
  | nil => simp [sizeIntS]
  | cons x l ih => simp [sizeIntS]; omega
theorem cntIntS_cond {xs : List VIntS} (h : condIntS xs) : cntIntS xs ≤ 1048576 := by
  have := cntIntS_size xs
  unfold condIntS at h
  omega
theorem condIntS_len {xs : List VIntS} (h : condIntS xs) : xs.length ≤ 1048576 := Nat.le_trans (sizeIntS_len xs) h
theorem condIntS_at {xs : List VIntS} (h : condIntS xs) {k : Nat} {x : VIntS} (hx : xs[k]? = some x) : x.length ≤ 1048576 := by
  unfold condIntS at h
  have hk := (List.getElem?_eq_some_iff.1 hx).1
  have e : xs = xs.take k ++ x :: xs.drop (k + 1) := by
    have h2 := List.take_append_drop k xs
    rw [List.drop_eq_getElem_cons hk] at h2
    have : xs[k] = x := by rw [List.getElem?_eq_getElem hk] at hx; simpa using hx
    rw [this] at h2; exact h2.symm
  rw [e, sizeIntS_app] at h
  simp [sizeIntS] at h
  omega
theorem sizeIntS_take {xs : List VIntS} {k : Nat} {x : VIntS} (hx : xs[k]? = some x) : sizeIntS (xs.take (k + 1)) = sizeIntS (xs.take k) + (1 + x.length) := by
  rw [List.take_add_one, hx, sizeIntS_app]
  simp [sizeIntS]
theorem cntIntS_take {xs : List VIntS} {k : Nat} {x : VIntS} (hx : xs[k]? = some x) : cntIntS (xs.take (k + 1)) = cntIntS (xs.take k) + (x.length) := by
  rw [List.take_add_one, hx, cntIntS_app]
  simp [cntIntS]
theorem cntIntS_take_le (xs : List VIntS) (k : Nat) : cntIntS (xs.take k) ≤ cntIntS xs := by
  conv => rhs; rw [← List.take_append_drop k xs, cntIntS_app]
  omega
/-- The marks of one, from k on. -/
def mkIntS1 (k : Nat) (x : VIntS) : VIntS := marksI k x.length
def mkIntS : Nat → List VIntS → List VIntS
  | _, [] => []
  | k, x :: l => mkIntS1 k x :: mkIntS (k + (x.length)) l
theorem mkIntS_app (k : Nat) (a b : List VIntS) : mkIntS k (a ++ b) = mkIntS k a ++ mkIntS (k + cntIntS a) b := by
  induction a generalizing k with
  | nil => simp [mkIntS, cntIntS]
  | cons x l ih =>
    simp only [List.cons_append, mkIntS, ih, cntIntS]
    rw [show k + (x.length) + cntIntS l = k + (x.length + cntIntS l) by omega]
theorem mkIntS_len (k : Nat) (xs : List VIntS) : (mkIntS k xs).length = xs.length := by
  induction xs generalizing k with
  | nil => rfl
  | cons x l ih => simp [mkIntS, ih]
theorem mkIntS_take {xs : List VIntS} {j : Nat} {x : VIntS} (hx : xs[j]? = some x) (k : Nat) : mkIntS k (xs.take (j + 1)) = mkIntS k (xs.take j) ++ [mkIntS1 (k + cntIntS (xs.take j)) x] := by
  rw [List.take_add_one, hx, mkIntS_app]
  rfl
theorem mkIntS_at {xs : List VIntS} {j : Nat} {x : VIntS} (hx : xs[j]? = some x) (k : Nat) : (mkIntS k xs)[j]? = some (mkIntS1 (k + cntIntS (xs.take j)) x) := by
  have hj := (List.getElem?_eq_some_iff.1 hx).1
  have e : xs = xs.take j ++ x :: xs.drop (j + 1) := by
    have h2 := List.take_append_drop j xs
    rw [List.drop_eq_getElem_cons hj] at h2
    have : xs[j] = x := by rw [List.getElem?_eq_getElem hj] at hx; simpa using hx
    rw [this] at h2; exact h2.symm
  have hl : (mkIntS k (xs.take j)).length = j := by rw [mkIntS_len, List.length_take]; omega
  conv => lhs; rw [e, mkIntS_app]
  rw [List.getElem?_append_right (by omega), hl, Nat.sub_self]
  rfl
/-- A copy of one. -/
def IntSPost (x : VIntS) (w : World) (e : Ending) (w' : World) : Prop := ∃ h : Hd, e = .returned (.slice h.a h.n h.c) ∧ HInts w.heap.size w'.heap.size w' h x ∧ Below w.heap.size w w'
def IntSOPost (xs : List VIntS) (w : World) (e : Ending) (w' : World) : Prop := ∃ v, e = .returned v ∧ OwnIntSS w.heap.size w'.heap.size w' v xs ∧ Below w.heap.size w w'
set_option maxHeartbeats 6400000 in
set_option maxRecDepth 100000 in
theorem toIntSS_o (a : Option Addr) (len cap : Nat) (xs : List VIntS) (w : World) (h : IsIntSS w a len cap xs) (hsz : condIntS xs) :
    Calls Try.prog 47 #[.slice a len cap] w (IntSOPost xs w) := by
  obtain rfl := h.1
  obtain ⟨i0, hi, hz0, hz1, hz2⟩ := info_parts infoIntS
  have S := Lib.hid h
  have C := Lib.hid hsz
  have hx := condIntS_len hsz
  clear h hsz
  go_enter Try.func47, Try.ntmps47
  go_wp2_with (refine wpList_make_full _ rfl _ _ 24 rfl w.heap.size 38 i0 (.slice none 0 0) 1 Try.underlying24 hi hz0 hz1 .i64 .i64 _ _ xs.length rfl rfl rfl rfl (by rw [hz2]; omega) (by unfold maxLen; omega) (Nat.le_refl _) ?_; intro w1 hown hgrow)
  have hb1 : Below w.heap.size w w1 := (Below.refl _ _).grown hgrow (Nat.le_refl _) (fun k e => by cases e)
  have H1 := Lib.hid hown
  have hg1 := (hown.lt w.heap.size rfl).2
  clear hown hgrow
  go_loopw [4] (fun i wr => ∃ (k : Nat) (ps : List PIntS), k ≤ xs.length ∧ i = .int .i64 k ∧ ps.map PIntS.x = xs.take k ∧ Below w.heap.size w wr ∧ w.heap.size < wr.heap.size ∧ wr.ownsRow w.heap.size 38 1 (.slice (some ⟨w.heap.size, 0, none⟩) xs.length xs.length) xs.length (cellsIntS ps ++ (zerosIntS xs.length).drop (k)) ∧ InnerIntS w.heap.size wr.heap.size wr (some w.heap.size) ps) (fun i _ => xs.length - (intOf i).toNat)
  case atStart => exact ⟨0, [], Nat.zero_le _, rfl, rfl, hb1, hg1, by have h := H1.out; rw [madeIntS] at h; simpa [cellsIntS] using h, nil_InnerIntS _ _ _ _⟩
  case round =>
    obtain ⟨k, ps, hk, rfl, hps, hbel, hgw, hown, hinn⟩ := hrel
    have O := Lib.hid hown
    have B := Lib.hid hbel
    have N := Lib.hid hinn
    have PS := Lib.hid hps
    have hpl : ps.length = k := by have := congrArg List.length PS.out; rw [List.length_map, List.length_take] at this; omega
    have PL := Lib.hid hpl
    clear hps hinn hpl
    by_cases hlt : k < xs.length
    · obtain ⟨x, hx1⟩ : ∃ x, xs[k]? = some x := ⟨xs[k]'hlt, List.getElem?_eq_getElem _⟩
      obtain ⟨b, o, rfl, hb, hat⟩ := (S.out.below hbel).at (by omega)
      obtain ⟨hd, c0, hi4⟩ := hat k x hx1
      have K := Lib.hid hx1
      have I4 := Lib.hid hi4
      have hm := S.out.2.2.1
      unfold maxLen at hm
      clear hown hbel hx1 hat hi4
      go_wp2_with fail
      refine (toIntS_h hd.a hd.n hd.c x _ I4.out (condIntS_at C.out K.out)).mono ?_
      rintro e w2 ⟨h', rfl, H', hb2⟩
      have O2 := Lib.hid (ownsRow_below O.out hb2)
      have B2 := Lib.hid (Below.then' B.out hb2)
      have N2 := Lib.hid (N.out.below hb2)
      have HH := Lib.hid H'
      have hs2 := hb2.size
      clear hb2 H' c0
      have f0 := O2.out.frozenAt (k)
      obtain ⟨u0, d0⟩ := own_cell O2.out (k) (by have := PL.out; rw [List.length_append, cellsIntS_len, List.length_drop, zerosIntS_len]; omega)
      go_wp2
      go_roundw
      case rel =>
        have h5 := storedIntS O2.out (by rw [cellsIntS_len, PL.out]) (by rw [zerosIntS_len]; omega) (.slice h'.a h'.n h'.c)
        refine ⟨k + 1, ps ++ [⟨x, h'⟩], by omega, by go_num, ?_, B2.out.grown h5.2 B2.out.size (fun j e => by cases e; exact Nat.le_refl _), Nat.lt_of_lt_of_le (by omega) h5.2.size, ?_, ?_⟩
        · rw [List.map_append, PS.out, List.take_add_one, K.out]; rfl
        · rw [cellsIntS_snoc, List.append_assoc]
          exact h5.1
        · have H2 := OwnIn.turned HH.out (Turned.of_grown (lo := w.heap.size) (hi := w.heap.size + 1) h5.2 (fun b e => by cases e; omega)) (.inr (by omega))
          exact ((N2.out.grown h5.2).snoc (p := ⟨x, h'⟩) H2 (by omega) (by omega) (fun b e => by cases e; omega)).mono (Nat.le_refl _) h5.2.size
      case measure => simp [intOf]; omega
    · obtain rfl : k = xs.length := by omega
      clear hown hbel
      have hm := S.out.2.2.1
      unfold maxLen at hm
      go_wp2
      go_ret
      refine ⟨_, rfl, ⟨ps, by rw [PS.out, List.take_of_length_le (Nat.le_refl _)], OwnIn.of_row ?_ (Nat.le_refl _) (Nat.le_refl _), N.out⟩, B.out⟩
      have h := O.out
      rw [List.drop_of_length_le (by rw [zerosIntS_len]; omega), List.append_nil] at h
      rw [PL.out]
      exact h
set_option maxHeartbeats 3200000 in
theorem szIntSS_o (a : Option Addr) (len cap : Nat) (xs : List VIntS) (left : Int) (w : World) (h : IsIntSS w a len cap xs) (h0 : 0 ≤ left) (h1 : left ≤ 1048576) :
    Calls Try.prog 46 #[.slice a len cap, .int .i64 left] w fun e w' => ∃ z : Int, e = .returned (.int .i64 z) ∧ z ≤ left ∧ (0 ≤ z → condIntS xs) ∧ Below w.heap.size w w' := by
  obtain rfl := h.1
  have hm := h.2.2.1
  have hcl := h.2.1
  unfold maxLen at hm
  have S := Lib.hid h
  clear h
  by_cases hlt : left < (xs.length : Int)
  · have hn : left - (xs.length : Int) < 0 := by omega
    go_enter Try.func46, Try.ntmps46
    go_wp2
    go_ret
    exact ⟨-1, rfl, by omega, by omega, Below.refl _ _⟩
  · have hn : ¬ left - (xs.length : Int) < 0 := by omega
    have hn2 : 0 ≤ left - (xs.length : Int) := by omega
    obtain ⟨l0, hl0⟩ : ∃ l0, left - (xs.length : Int) = l0 := ⟨_, rfl⟩
    have b0 : 0 ≤ l0 := by omega
    have b1 : l0 ≤ left := by omega
    have L0 := Lib.hid hl0
    clear hl0
    go_enter Try.func46, Try.ntmps46
    go_wp2
    go_loopw [1, 5] (fun l i wr => ∃ (k : Nat) (y : Int), k ≤ xs.length ∧ i = .int .i64 k ∧ l = .int .i64 y ∧ 0 ≤ y ∧ y ≤ left ∧ y + ((xs.length - k : Nat) : Int) + (sizeIntS (xs.take k) : Int) = left ∧ Below w.heap.size w wr) (fun _ i _ => xs.length - (intOf i).toNat)
    case atStart => exact ⟨0, l0, Nat.zero_le _, rfl, by rw [L0.out], b0, b1, by have := L0.out; simp [sizeIntS]; omega, Below.refl _ _⟩
    case round =>
      obtain ⟨k, y, hk, rfl, rfl, y0, y1, hsum, hbel⟩ := hrel
      have SM := Lib.hid hsum
      have B := Lib.hid hbel
      clear hsum
      by_cases hlt2 : k < xs.length
      · obtain ⟨x, hx⟩ : ∃ x, xs[k]? = some x := ⟨xs[k]'hlt2, List.getElem?_eq_getElem _⟩
        obtain ⟨b, o, rfl, hb, hat⟩ := (S.out.below hbel).at (by omega)
        obtain ⟨hd, c0, hi4⟩ := hat k x hx
        have I4 := Lib.hid hi4
        have K := Lib.hid hx
        have hi0 : (0 : Int) ≤ (k : Int) := by omega
        have hi1 : (k : Int) < (xs.length : Int) := by omega
        clear hbel hx hat hi4
        go_wp2_with fail
        refine (szIntS_left _ _ _ x y _ I4.out y0 (by omega)).mono ?_
        rintro e w2 ⟨⟨z, rfl, hz⟩, rfl⟩
        have B2 := B
        have Z := Lib.hid hz
        clear hz c0
        by_cases hz0 : z < 0
        · go_wp2
          go_ret
          exact ⟨-1, rfl, by omega, by omega, B2.out⟩
        · go_wp2
          go_roundw
          case rel =>
            have h3 : z = y - (x.length : Int) := by rcases Z.out with h | h <;> omega
            have h4 := SM.out
            have h5 := sizeIntS_take K.out
            exact ⟨k + 1, z, by omega, by go_num, rfl, by omega, by omega, by omega, B2.out⟩
          case measure => simp [intOf]; omega
      · obtain rfl : k = xs.length := by omega
        clear hbel
        go_wp2
        go_ret
        refine ⟨y, rfl, by omega, fun _ => ?_, B.out⟩
        have h4 := SM.out
        rw [List.take_of_length_le (Nat.le_refl _)] at h4
        unfold condIntS
        omega
set_option maxHeartbeats 6400000 in
set_option maxRecDepth 100000 in
theorem eqIntSS_yes (a : Option Addr) (len cap : Nat) (a' : Option Addr) (len' cap' : Nat) (xs : List VIntS) (w : World) (h : IsIntSS w a len cap xs) (h' : IsIntSS w a' len' cap' xs) :
    Calls Try.prog 48 #[.slice a len cap, .slice a' len' cap'] w fun e w' => e = .returned (.bool true) ∧ Below w.heap.size w w' := by
  obtain rfl := h.1
  obtain rfl := h'.1
  have hm := h.2.2.1
  have hcl := h.2.1
  unfold maxLen at hm
  have S := Lib.hid h
  have S' := Lib.hid h'
  clear h h'
  go_enter Try.func48, Try.ntmps48
  go_wp2
  go_loopw [5] (fun i wr => ∃ k : Nat, k ≤ xs.length ∧ i = .int .i64 k ∧ Below w.heap.size w wr) (fun i _ => xs.length - (intOf i).toNat)
  case atStart => exact ⟨0, Nat.zero_le _, rfl, Below.refl _ _⟩
  case round =>
    obtain ⟨k, hk, rfl, hbel⟩ := hrel
    have B := Lib.hid hbel
    by_cases hlt : k < xs.length
    · obtain ⟨x, hx⟩ : ∃ x, xs[k]? = some x := ⟨xs[k]'hlt, List.getElem?_eq_getElem _⟩
      obtain ⟨b, o, rfl, hb, hat⟩ := (S.out.below hbel).at (by omega)
      obtain ⟨b', o', rfl, hb', hat'⟩ := (S'.out.below hbel).at (by omega)
      obtain ⟨hd, c0, hi4⟩ := hat k x hx
      obtain ⟨hd', d0, hi4'⟩ := hat' k x hx
      have I4 := Lib.hid hi4
      have I4' := Lib.hid hi4'
      have hi0 : (0 : Int) ≤ (k : Int) := by omega
      have hi1 : (k : Int) < (xs.length : Int) := by omega
      clear hbel hx hat hat' hi4 hi4'
      go_wp2
      go_region_with (go_at_call 81; refine (eqIntS_yes _ _ _ _ _ _ x _ (I4.out.below (bel_drew' (Below.refl _ _))) (I4'.out.below (bel_drew' (Below.refl _ _)))).mono ?_; rintro e w1 ⟨rfl, hb1⟩; have B1 := Lib.hid (Below.then' (bel_drew' B.out) hb1); clear hb1)
      all_goals go_wp2
      all_goals go_roundw
      all_goals first
        | exact ⟨k + 1, by omega, by go_num, B1.out⟩
        | (simp [intOf]; omega)
    · obtain rfl : k = xs.length := by omega
      clear hbel
      go_wp2
      go_ret
      exact ⟨rfl, B.out⟩
theorem markIntS_IntS (lo : Nat) (h : Hd) (zs : List Int) (kk : Nat) (y : Int) (w : World) (hy : ((kk : Nat) : Int) = y) (hown : w.ownsRow lo 3 1 (.slice h.a h.n h.c) zs.length (intCells zs)) (hk : kk ≤ 1000000000) (hn : zs.length ≤ 1000000000) :
    Calls Try.prog 83 #[.slice h.a h.n h.c, .int .i64 y] w fun e w' => (∃ u : Int, e = .returned (.int .i64 u) ∧ u = y + (zs.length : Int)) ∧ w'.ownsRow lo 3 1 (.slice h.a h.n h.c) zs.length (intCells (marksI kk zs.length)) ∧ w.grownBy w' h.blk := by
  rw [← hy]
  exact (markIntS_any lo _ zs.length kk (intCells zs) w hown hk hn).mono fun e w' ⟨h1, h2, h3⟩ => ⟨⟨_, h1, by omega⟩, h2, h3⟩
/-- What one row's marks leave. -/
def IntSSMarked (lo hi : Nat) (v : Value) (xs : List VIntS) (k : Nat) (w : World) (e : Ending) (w' : World) : Prop := e = .returned (.int .i64 ((k + cntIntS xs : Nat) : Int)) ∧ OwnIntSS lo hi w' v (mkIntS k xs) ∧ Turned lo hi w w'
set_option maxHeartbeats 6400000 in
set_option maxRecDepth 100000 in
theorem markIntSS_o (lo hi : Nat) (v : Value) (xs : List VIntS) (k : Nat) (w : World) (h : OwnIntSS lo hi w v xs) (hk : k + cntIntS xs ≤ 100000000) :
    Calls Try.prog 50 #[v, .int .i64 (k : Int)] w (IntSSMarked lo hi v xs k w) := by
  obtain ⟨ps, hps, hraw⟩ := h
  have hpl : ps.length = xs.length := by rw [← hps, List.length_map]
  have hraw0 := hraw
  rcases hraw0.1.1.2 with ⟨rfl, h0⟩ | ⟨g, cap, cur, rfl, hg, hh, hncap, hcap, _⟩
  · have hx : xs = [] := List.length_eq_zero_iff.1 (by omega)
    subst hx
    have H := Lib.hid hraw
    have hp0 : ps = [] := List.length_eq_zero_iff.1 (by omega)
    have P0 := Lib.hid hp0
    clear hraw hraw0 hps hpl hp0 h0
    go_enter Try.func50, Try.ntmps50
    go_wp2
    refine wp_loop_rounds 1 ?_
    rw [rounds_succ]
    go_wp2
    go_ret
    exact ⟨rfl, ⟨ps, by rw [P0.out]; rfl, H.out⟩, Turned.refl _ _ _⟩
  clear hh hraw0
  have glt := (hraw.1.lt (b := g) rfl)
  have H := Lib.hid hraw
  have PS := Lib.hid hps
  rw [hpl]
  rw [hpl] at hncap H
  unfold maxLen at hcap
  have PL := Lib.hid hpl
  have HK := Lib.hid hk
  clear hraw hps hpl hk
  go_enter Try.func50, Try.ntmps50
  go_wp2
  go_loopw [1, 5] (fun q i wr => ∃ (j : Nat) (ps : List PIntS), j ≤ xs.length ∧ i = .int .i64 j ∧ q = .int .i64 ((k + cntIntS (xs.take j) : Nat) : Int) ∧ ps.map PIntS.x = mkIntS k (xs.take j) ++ xs.drop j ∧ RawIntS lo hi wr (.slice (some ⟨g, 0, none⟩) xs.length cap) ps ∧ Turned lo hi w wr) (fun _ i _ => xs.length - (intOf i).toNat)
  case atStart => exact ⟨0, ps, Nat.zero_le _, rfl, by simp [cntIntS], by rw [PS.out]; simp [mkIntS], H.out, Turned.refl _ _ _⟩
  case round =>
    obtain ⟨j, ps, hj, rfl, rfl, hps, hraw, htn⟩ := hrel
    have R := Lib.hid hraw
    have T0 := Lib.hid htn
    have PS := Lib.hid hps
    clear hraw htn hps
    by_cases hlt : j < xs.length
    · obtain ⟨x, hx⟩ : ∃ x, xs[j]? = some x := ⟨xs[j]'hlt, List.getElem?_eq_getElem _⟩
      have hml : (mkIntS k (xs.take j)).length = j := by rw [mkIntS_len, List.length_take]; omega
      obtain ⟨p, hp, hpx⟩ : ∃ p, ps[j]? = some p ∧ p.x = x := by
        have h1 := congrArg (fun l : List VIntS => l[j]?) PS.out
        simp only [List.getElem?_map] at h1
        rw [List.getElem?_append_right (by omega), hml, Nat.sub_self, List.getElem?_drop, Nat.add_zero, hx] at h1
        cases hq : ps[j]? with
        | none => rw [hq] at h1; cases h1
        | some p => rw [hq] at h1; exact ⟨p, rfl, by simpa using h1⟩
      obtain ⟨px, hp'⟩ := p
      obtain rfl : px = x := hpx
      obtain ⟨c0, _⟩ := R.out.elem hp
      have hcl := cntIntS_take_le xs (j + 1)
      rw [cntIntS_take hx] at hcl
      obtain ⟨y, hy⟩ : ∃ y : Int, ((k + cntIntS (xs.take j) : Nat) : Int) = y := ⟨_, rfl⟩
      have y0 : 0 ≤ y := by omega
      have y1 : y ≤ 100000000 := by have := HK.out; omega
      have hx2 : px.length ≤ 100000000 := by have := HK.out; omega
      rw [hy]
      have HY := Lib.hid hy
      have K := Lib.hid hx
      have KP := Lib.hid hp
      have ML := Lib.hid hml
      have CL := Lib.hid hcl

      have i0 : (0 : Int) ≤ (j : Int) := by omega
      have i1 : (j : Int) < (xs.length : Int) := by omega
      clear hy hx hp hml hcl
      go_wp2_with fail
      refine (markIntS_IntS lo hp' px (k + cntIntS (xs.take j)) y _ HY.out (R.out.2.1 j _ KP.out).1 (by have := HK.out; have := CL.out; omega) (by omega)).mono ?_
      rintro e w2 ⟨⟨u, rfl, hu⟩, hown2, hg2⟩
      have U := Lib.hid hu
      have R2 := Lib.hid (R.out.inner KP.out (zs := marksI (k + cntIntS (xs.take j)) px.length) (by rw [marksI_len]) hown2 hg2)
      have T2 := Lib.hid (T0.out.trans (Turned.of_grown hg2 (fun b e => by have := (R.out.2.1 j _ KP.out).lt e; omega)))
      clear hu hown2 hg2 c0
      go_wp2
      go_roundw
      case rel =>
        have hcnt := cntIntS_take K.out
        refine ⟨j + 1, _, by omega, by go_num, int_eq (by have := U.out; have := HY.out; omega), ?_, R2.out, T2.out⟩
        rw [List.map_set, PS.out, mkIntS_take K.out, List.set_append_right _ _ (by rw [ML.out]; exact Nat.le_refl _), ML.out, Nat.sub_self, List.append_assoc]
        refine congrArg (fun l => mkIntS k (xs.take j) ++ l) ?_
        rw [List.drop_eq_getElem_cons hlt, List.set_cons_zero]
        refine cons_congr ?_ rfl
        rfl
      case measure => simp [intOf]; omega
    · obtain rfl : j = xs.length := by omega
      go_wp2
      go_ret
      refine ⟨?_, ⟨ps, ?_, R.out⟩, T0.out⟩
      · rw [List.take_of_length_le (Nat.le_refl _)]; rfl
      · have h := PS.out
        rw [List.take_of_length_le (Nat.le_refl _), List.drop_of_length_le (Nat.le_refl _), List.append_nil] at h
        exact h
theorem heldIntS_IntS (h : Hd) (kk n0 : Nat) (y : Int) (w : World) (hy : ((kk : Nat) : Int) = y) (hi : IsInts w h.a h.n h.c (marksI kk n0)) (hk : kk ≤ 1000000000) (hn : n0 ≤ 1000000000) :
    Calls Try.prog 84 #[.slice h.a h.n h.c, .int .i64 y] w fun e w' => (∃ u : Int, e = .returned (.int .i64 u) ∧ u = y + (n0 : Int)) ∧ w = w' := by
  rw [← hy]
  have e : h.n = n0 := by rw [hi.1, marksI_len]
  rw [e] at hi
  rw [e]
  exact (heldIntS_any h.a n0 h.c kk w hi hk hn).mono fun e w' ⟨h1, h2⟩ => ⟨⟨_, h1, by omega⟩, h2⟩
set_option maxHeartbeats 6400000 in
set_option maxRecDepth 100000 in
theorem heldIntSS_o (a : Option Addr) (n c : Nat) (xs : List VIntS) (k : Nat) (w : World) (h : IsIntSS w a n c (mkIntS k xs)) (hk : k + cntIntS xs ≤ 100000000) :
    Calls Try.prog 53 #[.slice a n c, .int .i64 (k : Int)] w fun e w' => e = .returned (.int .i64 ((k + cntIntS xs : Nat) : Int)) ∧ Below w.heap.size w w' := by
  have hn : n = xs.length := by rw [h.1, mkIntS_len]
  subst hn
  have hm := h.2.2.1
  have hcl := h.2.1
  unfold maxLen at hm
  have S := Lib.hid h
  have HK := Lib.hid hk
  clear h hk
  go_enter Try.func53, Try.ntmps53
  go_wp2
  go_loopw [1, 5] (fun q i wr => ∃ j : Nat, j ≤ xs.length ∧ i = .int .i64 j ∧ q = .int .i64 ((k + cntIntS (xs.take j) : Nat) : Int) ∧ Below w.heap.size w wr) (fun _ i _ => xs.length - (intOf i).toNat)
  case atStart => exact ⟨0, Nat.zero_le _, rfl, by simp [cntIntS], Below.refl _ _⟩
  case round =>
    obtain ⟨j, hj, rfl, rfl, hbel⟩ := hrel
    have B := Lib.hid hbel
    by_cases hlt : j < xs.length
    · obtain ⟨x, hx⟩ : ∃ x, xs[j]? = some x := ⟨xs[j]'hlt, List.getElem?_eq_getElem _⟩
      obtain ⟨b, o, rfl, hb, hat⟩ := (S.out.below hbel).at (by omega)
      obtain ⟨hd, e0, hi4⟩ := hat j _ (mkIntS_at hx k)
      have hcl := cntIntS_take_le xs (j + 1)
      rw [cntIntS_take hx] at hcl
      obtain ⟨y, hy⟩ : ∃ y : Int, ((k + cntIntS (xs.take j) : Nat) : Int) = y := ⟨_, rfl⟩
      have y0 : 0 ≤ y := by omega
      have y1 : y ≤ 100000000 := by have := HK.out; omega
      have hx2 : x.length ≤ 100000000 := by have := HK.out; omega
      rw [hy]
      have HY := Lib.hid hy
      have K := Lib.hid hx
      have CL := Lib.hid hcl
      have I4 := Lib.hid hi4

      have c0 := e0
      have i0 : (0 : Int) ≤ (j : Int) := by omega
      have i1 : (j : Int) < (xs.length : Int) := by omega
      clear hy hx hcl hi4 hat hbel e0
      go_wp2_with fail
      refine (heldIntS_IntS hd (k + cntIntS (xs.take j)) x.length y _ HY.out I4.out (by have := HK.out; have := CL.out; omega) (by omega)).mono ?_
      rintro e w2 ⟨⟨u, rfl, hu⟩, rfl⟩
      have hu0 : 0 ≤ u := by omega
      have U := Lib.hid hu
      clear hu c0
      go_wp2
      go_roundw
      case rel =>
        have hcnt := cntIntS_take K.out
        exact ⟨j + 1, by omega, by go_num, int_eq (by have := U.out; have := HY.out; omega), B.out⟩
      case measure => simp [intOf]; omega
    · obtain rfl : j = xs.length := by omega
      clear hbel
      go_wp2
      go_ret
      exact ⟨by rw [List.take_of_length_le (Nat.le_refl _)]; rfl, B.out⟩
end Go.Proofs.Ytodjgeffkfbpiaa
