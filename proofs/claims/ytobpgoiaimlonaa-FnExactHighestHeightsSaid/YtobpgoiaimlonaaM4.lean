/- Texts in one: Cs, Cs2, Cs3, MnMx, ContoursBetweenP, Cs4, Cs5, Cs6. -/
import Derived.Test.YtobpgoiaimlonaaM2
import Derived.Test.YtobpgoiaimlonaaM3
import Derived.StillTailTactics
import Derived.Deep.RegionHeld3
import Derived.Deep.DeepCutAuto
namespace Go.Proofs.Ytobpgoiaimlonaa
open Go.RowKit

set_option maxHeartbeats 3200000 in
theorem l8One_any (n : Int) (s : VClaim) (w : World) :
    Calls Try.prog 68 #[.int .i64 n, .agg #[.int .i64 s.Low, .int .i64 s.High, .int .i64 s.Least, .int .i64 s.Most]] w fun e w' => e = .returned (.bool (clB n s)) ∧ Below w.heap.size w w' := by
  have OK : Hid (clB n s = (decide (0 ≤ s.Low) && (decide (s.Low < n) && (decide (0 ≤ s.High) && (decide (s.High < n) && (!(s.Low == s.High) && (inB s.Most (-9999) 9999 && inB s.Least (-9999) s.Most))))))) := Lib.hid rfl
  go_enter Try.func68, Try.ntmps68
  go_wp2_with (go_at_call 62; refine (l1In_any _ _ _ _).mono ?_; rintro e w' ⟨rfl, rfl⟩)
  all_goals go_ret
  all_goals exact ⟨ret_bool (by rw [OK.out]; first | (simp [*]; done) | (simp [*]; rfl) | (simp [*]; intros; omega)), bel_al1 _ _⟩
theorem areCl_no {n : Int} {xs : List VClaim} {x : VClaim} (hx : x ∈ xs) (h : clB n x = false) : areCl n xs = false := by
  unfold areCl
  rw [show xs.all (clB n) = false from by rw [List.all_eq_false]; exact ⟨x, hx, by rw [h]; simp⟩]; rfl
theorem take_more {α : Type} {P : α → Prop} {xs : List α} {k : Nat} {s : α} (h : ∀ m ∈ xs.take k, P m) (hs : xs[k]? = some s) (hp : P s) : ∀ m ∈ xs.take (k + 1), P m := by
  intro m hm
  rw [List.take_add_one, hs, List.mem_append] at hm
  rcases hm with hm | hm
  · exact h m hm
  · simp at hm; subst hm; exact hp
set_option maxHeartbeats 3200000 in
set_option maxRecDepth 100000 in
theorem l8Good_any (n : Int) (a : Option Addr) (len cap : Nat) (xs : List VClaim) (w : World) (h : IsClaimS w a len cap xs) :
    Calls Try.prog 52 #[.int .i64 n, .slice a len cap] w fun e w' => e = .returned (.bool (areCl n xs)) ∧ Below w.heap.size w w' := by
  have hm := h.2.2.1
  have hcl := h.2.1
  unfold maxLen at hm
  obtain rfl := h.1
  have S := Lib.hid h
  clear h
  go_enter Try.func52, Try.ntmps52
  go_wp2
  go_loopw [5] (fun i wr => ∃ k : Nat, k ≤ xs.length ∧ i = .int .i64 k ∧ Below w.heap.size w wr ∧ ∀ x ∈ xs.take k, clB n x = true) (fun i _ => xs.length - (intOf i).toNat)
  case atStart => exact ⟨0, Nat.zero_le _, rfl, Below.refl _ _, by simp⟩
  case round =>
    obtain ⟨k, hk, rfl, hbel, hall⟩ := hrel
    have A := Lib.hid hall
    have B := Lib.hid hbel
    clear hall
    by_cases hlt : k < xs.length
    · obtain ⟨s, hs⟩ : ∃ s, xs[k]? = some s := ⟨xs[k]'hlt, List.getElem?_eq_getElem _⟩
      obtain ⟨b, o, rfl, hb, hat⟩ := (S.out.below hbel).at (by omega)
      obtain ⟨c0, c1, c2, c3⟩ := hat k s hs
      have K := Lib.hid hs
      have hi0 : (0 : Int) ≤ (k : Int) := by omega
      have hi1 : (k : Int) < (xs.length : Int) := by omega
      obtain ⟨r, hr⟩ : ∃ r, clB n s = r := ⟨_, rfl⟩
      have R := Lib.hid hr
      clear hs hat hbel hr
      go_wp2_with fail
      refine (l8One_any n s _).mono ?_
      rintro e w2 ⟨rfl, hb2⟩
      rw [R.out]
      have B2 := Lib.hid (Below.then' B.out hb2)
      clear hb2 c0 c1 c2 c3
      cases r
      · have N := Lib.hid (areCl_no (List.mem_of_getElem? K.out) R.out)
        go_wp2
        go_ret
        exact ⟨ret_bool N.out.symm, B2.out⟩
      · go_wp2
        go_roundw
        case rel => exact ⟨k + 1, by omega, by go_num, B2.out, take_more A.out K.out R.out⟩
        case measure => simp [intOf]; omega
    · obtain rfl : k = xs.length := by omega
      have U := Lib.hid (show areCl n xs = (inB n 1 10 && decide (xs.length ≤ 24)) from by
        have hh := A.out
        rw [List.take_of_length_le (Nat.le_refl _)] at hh
        unfold areCl
        rw [List.all_eq_true.2 hh]; rfl)
      obtain ⟨q, hq⟩ : ∃ q, inB n 1 10 = q := ⟨_, rfl⟩
      have Q := Lib.hid hq
      clear hbel hq
      go_wp2_with fail
      refine (l1In_any _ _ _ _).mono ?_
      rintro e w' ⟨rfl, rfl⟩
      rw [Q.out]
      cases q
      · go_wp2
        go_ret
        exact ⟨ret_bool (by rw [U.out, Q.out]; rfl), B.out⟩
      · go_wp2
        go_ret
        exact ⟨ret_bool (by rw [U.out, Q.out]; simp; try omega), B.out⟩
set_option maxHeartbeats 3200000 in
set_option maxRecDepth 100000 in
theorem l8Heights_any (n : Int) (a : Option Addr) (len cap : Nat) (hs : List Int) (w : World) (h : IsInts w a len cap hs) :
    Calls Try.prog 53 #[.int .i64 n, .slice a len cap] w fun e w' => e = .returned (.bool (hgtB n hs)) ∧ w = w' := by
  have hm := h.2.2.1
  have hcl := h.2.1
  unfold maxLen at hm
  obtain rfl := h.1
  have S := Lib.hid h
  clear h
  go_enter Try.func53, Try.ntmps53
  go_wp2
  go_loop [5] (fun i => ∃ k : Nat, k ≤ hs.length ∧ i = .int .i64 k ∧ ∀ x ∈ hs.take k, inB x (-200000) 200000 = true) (fun i => hs.length - (intOf i).toNat)
  case atStart => exact ⟨0, Nat.zero_le _, rfl, by simp⟩
  case round =>
    obtain ⟨k, hk, rfl, hall⟩ := hrel
    have A := Lib.hid hall
    clear hall
    by_cases hlt : k < hs.length
    · obtain ⟨s, hs1⟩ : ∃ s, hs[k]? = some s := ⟨hs[k]'hlt, List.getElem?_eq_getElem _⟩
      obtain ⟨b, o, rfl, hb, hat⟩ := S.out.at (by omega)
      have c0 := hat k s hs1
      have K := Lib.hid hs1
      have hi0 : (0 : Int) ≤ (k : Int) := by omega
      have hi1 : (k : Int) < (hs.length : Int) := by omega
      obtain ⟨r, hr⟩ : ∃ r, inB s (-200000) 200000 = r := ⟨_, rfl⟩
      have R := Lib.hid hr
      clear hs1 hat hr
      go_wp2_with fail
      refine (l1In_any _ _ _ _).mono ?_
      rintro e w' ⟨rfl, rfl⟩
      rw [R.out]
      cases r
      · have N := Lib.hid (show hgtB n hs = false from by
          unfold hgtB
          rw [show hs.all (fun h => inB h (-200000) 200000) = false from by rw [List.all_eq_false]; exact ⟨s, List.mem_of_getElem? K.out, by rw [R.out]; simp⟩]; rfl)
        go_wp2
        go_ret
        exact ⟨ret_bool N.out.symm, rfl⟩
      · go_wp2
        go_round
        case rel => exact ⟨k + 1, by omega, by go_num, take_more A.out K.out R.out⟩
        case measure => simp [intOf]; omega
    · obtain rfl : k = hs.length := by omega
      have U := Lib.hid (show hgtB n hs = decide ((hs.length : Int) = n) from by
        have hh := A.out
        rw [List.take_of_length_le (Nat.le_refl _)] at hh
        unfold hgtB
        rw [List.all_eq_true.2 hh]; rfl)
      obtain ⟨q, hq⟩ : ∃ q, ((hs.length : Int) == n) = q := ⟨_, rfl⟩
      have Q := Lib.hid (show hgtB n hs = q from by rw [U.out, ← hq]; rfl)
      go_wp2
      go_ret
      exact ⟨ret_bool (by rw [Q.out, ← hq]), rfl⟩
end Go.Proofs.Ytobpgoiaimlonaa
namespace Go.Proofs.Ytobpgoiaimlonaa
open Go.RowKit

/-- The heights of the two marks of a valid claim. -/
theorem claim_at {n : Int} {hs : List Int} {x : VClaim} (hx : clB n x = true) (hh : hgtB n hs = true) : ∃ (lo hi : Nat) (y z : Int), x.Low = (lo : Int) ∧ x.High = (hi : Int) ∧ hs[lo]? = some y ∧ hs[hi]? = some z ∧ (-200000 ≤ y ∧ y ≤ 200000) ∧ (-200000 ≤ z ∧ z ≤ 200000) ∧ holdsB hs x = inB (z - y) x.Least x.Most := by
  obtain ⟨a, b, c, d, _⟩ := clB_iff.1 hx
  unfold hgtB at hh
  simp only [Bool.and_eq_true, List.all_eq_true, decide_eq_true_eq] at hh
  have hl : x.Low.toNat < hs.length := by omega
  have hg : x.High.toNat < hs.length := by omega
  have e1 : hs[x.Low.toNat]? = some hs[x.Low.toNat] := List.getElem?_eq_getElem hl
  have e2 : hs[x.High.toNat]? = some hs[x.High.toNat] := List.getElem?_eq_getElem hg
  have r1 := inB_iff.1 (hh.1 _ (List.getElem_mem hl))
  have r2 := inB_iff.1 (hh.1 _ (List.getElem_mem hg))
  refine ⟨x.Low.toNat, x.High.toNat, _, _, by omega, by omega, e1, e2, r1, r2, ?_⟩
  unfold holdsB
  have q1 : atI hs x.Low = hs[x.Low.toNat] := by
    have := atI_some e1
    rwa [show ((x.Low.toNat : Nat) : Int) = x.Low from by omega] at this
  have q2 : atI hs x.High = hs[x.High.toNat] := by
    have := atI_some e2
    rwa [show ((x.High.toNat : Nat) : Int) = x.High from by omega] at this
  rw [q1, q2]
set_option maxHeartbeats 3200000 in
set_option maxRecDepth 100000 in
theorem l8Holds_any (n : Int) (x : VClaim) (a : Option Addr) (len cap : Nat) (hs : List Int) (w : World) (h : IsInts w a len cap hs) (hx : clB n x = true) (hh : hgtB n hs = true) :
    Calls Try.prog 84 #[.agg #[.int .i64 x.Low, .int .i64 x.High, .int .i64 x.Least, .int .i64 x.Most], .slice a len cap] w fun e w' => e = .returned (.bool (holdsB hs x)) ∧ Below w.heap.size w w' := by
  have hm := h.2.2.1
  have hcl := h.2.1
  unfold maxLen at hm
  obtain rfl := h.1
  obtain ⟨lo, hi, y, z, e1, e2, g1, g2, b1, b2, e3⟩ := claim_at hx hh
  obtain ⟨xl, xh, le, mo⟩ := x
  simp only [] at e1 e2 e3
  subst e1 e2
  rw [e3]
  have hl1 := (List.getElem?_eq_some_iff.1 g1).1
  have hl2 := (List.getElem?_eq_some_iff.1 g2).1
  have B0 := Lib.hid (bel_al1 w (.cells #[.int .i64 (lo : Int), .int .i64 (hi : Int), .int .i64 le, .int .i64 mo] 38))
  have S := Lib.hid (h.below B0.out)
  have X := Lib.hid (BoxClaim.new w 38 ⟨(lo : Int), (hi : Int), le, mo⟩ _ rfl)
  obtain ⟨b, o, rfl, hb, hat⟩ := S.out.at (by omega)
  have c0 := hat lo y g1
  have c1 := hat hi z g2
  have i0 : (0 : Int) ≤ (lo : Int) := by omega
  have i1 : (lo : Int) < (hs.length : Int) := by omega
  have i2 : (0 : Int) ≤ (hi : Int) := by omega
  have i3 : (hi : Int) < (hs.length : Int) := by omega
  have hw : IntKind.i64.wrap (z - y) = z - y := IntWalk.i64_in _ (by omega)
  have LI := Lib.hid (fun W : World => (l1In_any (z - y) le mo W).mono (fun e w' h => (⟨h.1, by rw [← h.2]; exact Below.refl _ _⟩ : e = .returned (.bool (inB (z - y) le mo)) ∧ Below W.heap.size W w')))
  clear h hx hh e3 g1 g2 b1 b2 hat
  go_enter Try.func84, Try.ntmps84
  go_wp2
  refine wp_world (fun W => BoxClaim W w.heap.size ⟨(lo : Int), (hi : Int), le, mo⟩ ∧ W.cell? ⟨b, o + lo, none⟩ = some (.int .i64 y) ∧ W.cell? ⟨b, o + hi, none⟩ = some (.int .i64 z) ∧ Below w.heap.size w W) ⟨X.out, c0, c1, B0.out⟩ ?_
  rintro W ⟨⟨e0, e1, e2, e3⟩, f0, f1, hbw⟩
  have BW := Lib.hid hbw
  clear c0 c1 hbw
  have k0 := cell_regrown e0
  have k1 := cell_regrown e1
  have k2 := cell_regrown e2
  have k3 := cell_regrown e3
  have k4 := cell_regrown f0
  have k5 := cell_regrown f1
  clear e0 e1 e2 e3 f0 f1
  have cQ := below_at (W := W) (fun W' _ => LI.out W')
  refine wp_region_quiet_below (by kernel_rfl) (by kernel_rfl) ?_
  repeat (first | go_big_quiet_step (exact cQ _ _) | quiet_step (exact cQ _ _))
  refine wpQuiet_nil ?_
  intro W2 hw2
  have B2 := Lib.hid (Below.then' BW.out (below_of_re hw2))
  clear hw2 cQ k0 k1 k2 k3 k4 k5
  go_wp2
  go_ret
  exact ⟨rfl, B2.out⟩
set_option maxHeartbeats 6400000 in
set_option maxRecDepth 100000 in
theorem l8Broken_any (n : Int) (a : Option Addr) (len cap : Nat) (xs : List VClaim) (a' : Option Addr) (len' cap' : Nat) (hs : List Int) (w : World) (h : IsClaimS w a len cap xs) (h' : IsInts w a' len' cap' hs) (hx : areCl n xs = true) (hh : hgtB n hs = true) :
    Calls Try.prog 54 #[.slice a len cap, .slice a' len' cap'] w (IdsOwn (broken hs xs) w) := by
  have hm := h.2.2.1
  have hcl := h.2.1
  unfold maxLen at hm
  obtain rfl := h.1
  obtain ⟨i0, hi, hz0, hz1, hz2⟩ := info_parts infoInt
  obtain ⟨hv, _, hl24⟩ := areCl_iff.1 hx
  have S := Lib.hid h
  have I := Lib.hid h'
  have HV := Lib.hid hv
  have HH := Lib.hid hh
  have O0 := Lib.hid (made_ids w)
  clear h h' hv hh hx
  go_enter Try.func54, Try.ntmps54
  go_wp2
  go_loopw [6, 5] (fun i o wr => ∃ k : Nat, k ≤ xs.length ∧ i = .int .i64 k ∧ wr.ownsRow w.heap.size 3 1 o (brokenTo hs xs k).length (intCells (brokenTo hs xs k)) ∧ Below w.heap.size w wr) (fun i _ _ => xs.length - (intOf i).toNat)
  case atStart => exact ⟨0, Nat.zero_le _, rfl, O0.out, wh_al1 _ _⟩
  case round =>
    obtain ⟨k, hk, rfl, hown, hbel⟩ := hrel
    have B := Lib.hid hbel
    have O := Lib.hid hown
    by_cases hlt : k < xs.length
    · obtain ⟨x, hx⟩ : ∃ x, xs[k]? = some x := ⟨xs[k]'hlt, List.getElem?_eq_getElem _⟩
      obtain ⟨b, o, rfl, hb, hat⟩ := (S.out.below hbel).at (by omega)
      obtain ⟨c0, c1, c2, c3⟩ := hat k x hx
      have T := Lib.hid (brokenTo_succ (hs := hs) hx)
      have hgl := brokenTo_len hs xs k
      have VX := Lib.hid (HV.out x (List.mem_of_getElem? hx))
      obtain ⟨G, hG⟩ : ∃ G, brokenTo hs xs k = G := ⟨_, rfl⟩
      rw [hG] at O T hgl
      obtain ⟨r, hr⟩ : ∃ r, holdsB hs x = r := ⟨_, rfl⟩
      rw [hr] at T
      have R := Lib.hid hr
      have hi0 : (0 : Int) ≤ (k : Int) := by omega
      have hi1 : (k : Int) < (xs.length : Int) := by omega
      clear hx hat hbel hown hG hr
      go_wp2_with fail
      refine (l8Holds_any n x _ _ _ hs _ (I.out.below B.out) VX.out HH.out).mono ?_
      rintro e w2 ⟨rfl, hb2⟩
      rw [R.out]
      have B2 := Lib.hid (Below.then' B.out hb2)
      have O2 := Lib.hid (ownsRow_below O.out hb2)
      have hsz := B2.out.size
      clear hb2 c0 c1 c2 c3
      cases r
      · have hown3 := O2.out.alloc (.cells #[.int .i64 (k : Int)] 3)
        go_wp2_with (at_builtin; refine wpList_append_own _ rfl _ _ 25 rfl w.heap.size 3 i0 (.int .i64 0) 1 8 Try.underlying25 hi hz0 hz1 hz2 rfl (by decide) _ _ _ rfl hown3 ⟨w2.heap.size, 0, none⟩ 1 1 [.int .i64 (k : Int)] rfl rfl (cell_one _ _ _) (fun x hx => by simp at hx; subst hx; rfl) (by unfold maxLen; omega) (by omega) (by simp; omega) ?_; intro v' w4 hown' hgrow4 hnil4)
        go_roundw
        case rel =>
          refine ⟨k + 1, by omega, by go_num, ?_, (Below.then' B2.out (wh_al1 _ _)).grown hgrow4 (by simp; omega) (fun j e => (hown3.lt j e).1)⟩
          rw [T.out, if_neg (by decide), intCells_snoc, List.length_append]
          exact hown'
        case measure => simp [intOf]; omega
      · go_wp2
        go_roundw
        case rel => exact ⟨k + 1, by omega, by go_num, by have t := T.out; rw [if_pos True.intro, List.append_nil] at t; rw [t]; exact O2.out, B2.out⟩
        case measure => simp [intOf]; omega
    · obtain rfl : k = xs.length := by omega
      have OB := Lib.hid (show wr.ownsRow w.heap.size 3 1 _ (broken hs xs).length (intCells (broken hs xs)) from hown)
      clear hbel hown
      go_wp2
      go_ret
      exact ⟨_, rfl, OB.out, B.out⟩
theorem specAreClaims_any (n : Int) (a : Option Addr) (len cap : Nat) (xs : List VClaim) (w : World) (h : IsClaimS w a len cap xs) (_ : condClaim xs) :
    Calls Try.prog 32 #[.int .i64 n, .slice a len cap] w (AreClaims_Post n xs w) := by
  have S := Lib.hid h
  clear h
  go_enter Try.func32, Try.ntmps32
  go_wp2_with fail
  refine (l8Good_any n _ _ _ xs _ S.out).mono ?_
  rintro e w1 ⟨rfl, hb⟩
  have B := Lib.hid hb
  clear hb
  go_wp2
  go_ret
  exact ⟨rfl, B.out⟩
end Go.Proofs.Ytobpgoiaimlonaa
namespace Go.Proofs.Ytobpgoiaimlonaa
open Go.RowKit

set_option maxHeartbeats 6400000 in
set_option maxRecDepth 100000 in
theorem specDoHeightsFit_any (n : Int) (a : Option Addr) (len cap : Nat) (xs : List VClaim) (a' : Option Addr) (len' cap' : Nat) (hs : List Int) (w : World) (h : IsClaimS w a len cap xs) (_ : condClaim xs) (h' : IsInts w a' len' cap' hs) (_ : condInt hs) :
    Calls Try.prog 17 #[.int .i64 n, .slice a len cap, .slice a' len' cap'] w (DoHeightsFit_Post n xs hs w) := by
  have S := Lib.hid h
  have I := Lib.hid h'
  have hm := h'.2.2.1
  have hcl := h'.2.1
  unfold maxLen at hm
  obtain rfl := h'.1
  clear h h'
  obtain ⟨p, hp⟩ : ∃ p, areCl n xs = p := ⟨_, rfl⟩
  obtain ⟨q, hq⟩ : ∃ q, hgtB n hs = q := ⟨_, rfl⟩
  have PP := Lib.hid hp
  have QQ := Lib.hid hq
  clear hp hq
  go_enter Try.func17, Try.ntmps17
  go_wp2_with fail
  refine (l8Good_any n _ _ _ xs _ S.out).mono ?_
  rintro e w1 ⟨rfl, hb⟩
  rw [PP.out]
  have B1 := Lib.hid hb
  have S1 := Lib.hid (S.out.below hb)
  have I1 := Lib.hid (I.out.below hb)
  clear hb
  cases p
  · go_wp2
    go_ret2
    exact ⟨by unfold DoHeightsFit_0 DoHeightsFit_1; rw [PP.out]; rfl, B1.out⟩
  go_wp2_with fail
  refine (l8Heights_any n _ _ _ hs _ I1.out).mono ?_
  rintro e w' ⟨rfl, rfl⟩
  rw [QQ.out]
  cases q
  · go_wp2
    go_ret2
    exact ⟨by unfold DoHeightsFit_0 DoHeightsFit_1; rw [PP.out, QQ.out]; rfl, B1.out⟩
  have hn := (areCl_iff.1 PP.out).2.1
  have hl := QQ.out
  unfold hgtB at hl
  simp only [Bool.and_eq_true, decide_eq_true_eq] at hl
  have hl2 := hl.2
  have hp0 : 0 < hs.length := by omega
  clear hl
  obtain ⟨y, hy⟩ : ∃ y, hs[0]? = some y := ⟨hs[0], List.getElem?_eq_getElem _⟩
  obtain ⟨b, o, rfl, _, hat⟩ := I1.out.at hp0
  have c0 := hat 0 y hy
  have Y := Lib.hid (show atI hs 0 = y from atI_some (k := 0) hy)
  have hi1 : (0 : Int) < (hs.length : Int) := by omega
  have E1 := Lib.hid (show DoHeightsFit_1 n xs hs = true from by unfold DoHeightsFit_1; rw [PP.out, QQ.out]; rfl)
  have E0 := Lib.hid (show DoHeightsFit_0 n xs hs = (decide (y = 0) && decide ((broken hs xs).length = 0)) from by unfold DoHeightsFit_0; rw [PP.out, QQ.out, Y.out]; rfl)
  clear hn hl2 hat hy
  simp only [Nat.add_zero] at c0
  by_cases hz : y = 0
  · have z1 : (y == 0) = true := by simp [hz]
    have Z := Lib.hid (decide_eq_true hz)
    clear hz
    go_wp2_with fail
    refine (l8Broken_any n _ _ _ xs _ _ _ hs _ S1.out I1.out PP.out QQ.out).mono ?_
    rintro e w2 ⟨v, rfl, hown, hb⟩
    have B2 := Lib.hid (Below.then' B1.out hb)
    obtain ⟨a2, c2, rfl, _, _⟩ := isInts_own hown
    obtain ⟨m, hm2⟩ : ∃ m, (broken hs xs).length = m := ⟨_, rfl⟩
    rw [hm2] at E0 ⊢
    have EM := Lib.hid (show decide (m = 0) = ((m : Int) == 0) from by rw [Bool.eq_iff_iff]; simp)
    clear hown hb hm2 c0
    go_wp2
    go_ret2
    exact ⟨by rw [E0.out, E1.out, Z.out, EM.out]; rfl, B2.out⟩
  · have z1 : (y == 0) = false := by simp [hz]
    have Z := Lib.hid (decide_eq_false hz)
    clear hz
    go_wp2
    go_ret2
    exact ⟨by rw [E0.out, E1.out, Z.out]; rfl, B1.out⟩
set_option maxHeartbeats 6400000 in
set_option maxRecDepth 100000 in
theorem specBrokenClaims_any (n : Int) (a : Option Addr) (len cap : Nat) (xs : List VClaim) (a' : Option Addr) (len' cap' : Nat) (hs : List Int) (w : World) (h : IsClaimS w a len cap xs) (_ : condClaim xs) (h' : IsInts w a' len' cap' hs) (_ : condInt hs) :
    Calls Try.prog 19 #[.int .i64 n, .slice a len cap, .slice a' len' cap'] w (BrokenClaims_Post n xs hs w) := by
  have S := Lib.hid h
  have I := Lib.hid h'
  clear h h'
  obtain ⟨p, hp⟩ : ∃ p, areCl n xs = p := ⟨_, rfl⟩
  obtain ⟨q, hq⟩ : ∃ q, hgtB n hs = q := ⟨_, rfl⟩
  have PP := Lib.hid hp
  have QQ := Lib.hid hq
  clear hp hq
  go_enter Try.func19, Try.ntmps19
  go_wp2_with fail
  refine (l8Good_any n _ _ _ xs _ S.out).mono ?_
  rintro e w1 ⟨rfl, hb⟩
  rw [PP.out]
  have B1 := Lib.hid hb
  have S1 := Lib.hid (S.out.below hb)
  have I1 := Lib.hid (I.out.below hb)
  have OE := Lib.hid (show OwnIntS w.heap.size (w1.alloc (.cells #[] 3)).heap.size (w1.alloc (.cells #[] 3)) (.slice (some ⟨w1.heap.size, 0, none⟩) 0 0) [] from OwnIn.of_row (ownsRow_base (made_ids w1) hb.size) (Nat.le_refl _) (Nat.le_refl _))
  have BE := Lib.hid (Below.then' hb (wh_al1 w1 (.cells #[] 3)))
  clear hb
  cases p
  · have E0 := Lib.hid (show BrokenClaims_0 n xs hs = [] from by unfold BrokenClaims_0; rw [PP.out]; rfl)
    go_wp2
    go_ret2
    exact ⟨_, by unfold BrokenClaims_1; rw [PP.out]; rfl, by rw [E0.out]; exact OE.out, BE.out⟩
  go_wp2_with fail
  refine (l8Heights_any n _ _ _ hs _ I1.out).mono ?_
  rintro e w' ⟨rfl, rfl⟩
  rw [QQ.out]
  cases q
  · have E0 := Lib.hid (show BrokenClaims_0 n xs hs = [] from by unfold BrokenClaims_0; rw [PP.out, QQ.out]; rfl)
    go_wp2
    go_ret2
    exact ⟨_, by unfold BrokenClaims_1; rw [PP.out, QQ.out]; rfl, by rw [E0.out]; exact OE.out, BE.out⟩
  have E0 := Lib.hid (show BrokenClaims_0 n xs hs = broken hs xs from by unfold BrokenClaims_0; rw [PP.out, QQ.out]; rfl)
  go_wp2_with fail
  refine (l8Broken_any n _ _ _ xs _ _ _ hs _ S1.out I1.out PP.out QQ.out).mono ?_
  rintro e w2 ⟨v, rfl, hown, hb⟩
  have B2 := Lib.hid (Below.then' B1.out hb)
  have O := Lib.hid (show OwnIntS w.heap.size w2.heap.size w2 v (broken hs xs) from OwnIn.of_row (ownsRow_base hown B1.out.size) (Nat.le_refl _) (Nat.le_refl _))
  clear hown hb
  go_wp2
  go_ret2
  exact ⟨_, by unfold BrokenClaims_1; rw [PP.out, QQ.out]; rfl, by rw [E0.out]; exact O.out, B2.out⟩
end Go.Proofs.Ytobpgoiaimlonaa
namespace Go.Proofs.Ytobpgoiaimlonaa
open Go.RowKit
theorem l1Least_any (x y : Int) (w : World) :
    Calls Try.prog 65 #[.int .i64 x, .int .i64 y] w fun e w' => e = .returned (.int .i64 (min x y)) ∧ w = w' := by
  by_cases h : x < y
  · go_enter Try.func65, Try.ntmps65
    go_wp2
    go_ret
    exact ⟨ret_int (by omega), rfl⟩
  · go_enter Try.func65, Try.ntmps65
    go_wp2
    go_ret
    exact ⟨ret_int (by omega), rfl⟩
theorem l1Most_any (x y : Int) (w : World) :
    Calls Try.prog 64 #[.int .i64 x, .int .i64 y] w fun e w' => e = .returned (.int .i64 (max x y)) ∧ w = w' := by
  by_cases h : y < x
  · go_enter Try.func64, Try.ntmps64
    go_wp2
    go_ret
    exact ⟨ret_int (by omega), rfl⟩
  · go_enter Try.func64, Try.ntmps64
    go_wp2
    go_ret
    exact ⟨ret_int (by omega), rfl⟩
end Go.Proofs.Ytobpgoiaimlonaa
namespace Go.Proofs.Ytobpgoiaimlonaa
open Go.RowKit
def ContoursBetween_Post (z0 : Int) (z1 : Int) (z2 : Int) (w : World) (e : Ending) (w' : World) : Prop :=
  e = .returned (.tuple #[.int .i64 (ContoursBetween_0 z0 z1 z2), .bool (ContoursBetween_1 z0 z1 z2)]) ∧ Below w.heap.size w w'
end Go.Proofs.Ytobpgoiaimlonaa
namespace Go.Proofs.Ytobpgoiaimlonaa
open Go.RowKit
theorem l8Floor_any (a b : Int) (w : World) (h0 : -200000 ≤ a) (h1 : a ≤ 200000) (h2 : 1 ≤ b) (h3 : b ≤ 1000) :
    Calls Try.prog 63 #[.int .i64 a, .int .i64 b] w fun e w' => e = .returned (.int .i64 (a / b)) ∧ w = w' := by
  have hb : ¬ b = 0 := by omega
  by_cases h : a < 0
  · have w1 : IntKind.i64.wrap (b - 1) = b - 1 := IntWalk.i64_in _ (by omega)
    have w2 : IntKind.i64.wrap (b - 1 - a) = b - 1 - a := IntWalk.i64_in _ (by omega)
    have q0 : (b - 1 - a).tdiv b = (b - 1 - a) / b := Int.tdiv_eq_ediv_of_nonneg (by omega)
    have q1 : 0 ≤ (b - 1 - a) / b := Int.ediv_nonneg (by omega) (by omega)
    have q2 : (b - 1 - a) / b ≤ b - 1 - a := Int.ediv_le_self _ (by omega)
    have w3 : IntKind.i64.wrap ((b - 1 - a).tdiv b) = (b - 1 - a) / b := by rw [q0]; exact IntWalk.i64_in _ (by omega)
    have w4 : IntKind.i64.wrap (-((b - 1 - a) / b)) = -((b - 1 - a) / b) := IntWalk.i64_in _ (by omega)
    have E : -((b - 1 - a) / b) = a / b := by
      have e1 := Int.emod_add_mul_ediv a b
      have e2 := Int.emod_nonneg a hb
      have e3 := Int.emod_lt_of_pos a (show 0 < b by omega)
      have : (b - 1 - a) / b = -(a / b) := by
        rw [show b - 1 - a = (b - 1 - a % b) + b * (-(a / b)) from by rw [Int.mul_neg]; omega, Int.add_mul_ediv_left _ _ hb, Int.ediv_eq_zero_of_lt (by omega) (by omega)]; omega
      omega
    have EE := Lib.hid E
    clear E
    go_enter Try.func63, Try.ntmps63
    go_wp2
    go_ret
    exact ⟨ret_int EE.out, rfl⟩
  · have q0 : a.tdiv b = a / b := Int.tdiv_eq_ediv_of_nonneg (by omega)
    have q1 : 0 ≤ a / b := Int.ediv_nonneg (by omega) (by omega)
    have q2 : a / b ≤ a := Int.ediv_le_self _ (by omega)
    have w3 : IntKind.i64.wrap (a.tdiv b) = a / b := by rw [q0]; exact IntWalk.i64_in _ (by omega)
    go_enter Try.func63, Try.ntmps63
    go_wp2
    go_ret
    exact ⟨rfl, rfl⟩
set_option maxHeartbeats 3200000 in
theorem specContoursBetween_any (a b s : Int) (w : World) :
    Calls Try.prog 23 #[.int .i64 a, .int .i64 b, .int .i64 s] w (ContoursBetween_Post a b s w) := by
  obtain ⟨p, hp⟩ : ∃ p, inB a (-200000) 200000 = p := ⟨_, rfl⟩
  obtain ⟨q, hq⟩ : ∃ q, inB b (-200000) 200000 = q := ⟨_, rfl⟩
  obtain ⟨r, hr⟩ : ∃ r, inB s 1 1000 = r := ⟨_, rfl⟩
  have PP := Lib.hid hp
  have QQ := Lib.hid hq
  have RR := Lib.hid hr
  have C := Lib.hid (show ctB a b s = (p && (q && r)) from by unfold ctB; rw [hp, hq, hr])
  clear hp hq hr
  go_enter Try.func23, Try.ntmps23
  go_wp2_with fail
  refine (l1In_any _ _ _ _).mono ?_
  rintro e w' ⟨rfl, rfl⟩
  rw [PP.out]
  cases p
  · go_wp2
    go_ret2
    exact ⟨by unfold ContoursBetween_0 ContoursBetween_1; rw [C.out]; rfl, Below.refl _ _⟩
  go_wp2_with fail
  refine (l1In_any _ _ _ _).mono ?_
  rintro e w' ⟨rfl, rfl⟩
  rw [QQ.out]
  cases q
  · go_wp2
    go_ret2
    exact ⟨by unfold ContoursBetween_0 ContoursBetween_1; rw [C.out]; rfl, Below.refl _ _⟩
  go_wp2_with fail
  refine (l1In_any _ _ _ _).mono ?_
  rintro e w' ⟨rfl, rfl⟩
  rw [RR.out]
  cases r
  · go_wp2
    go_ret2
    exact ⟨by unfold ContoursBetween_0 ContoursBetween_1; rw [C.out]; rfl, Below.refl _ _⟩
  have h1 := inB_iff.1 PP.out
  have h2 := inB_iff.1 QQ.out
  have h3 := inB_iff.1 RR.out
  have E := Lib.hid (show ContoursBetween_0 a b s = max a b / s - min a b / s from by unfold ContoursBetween_0; rw [C.out]; rfl)
  obtain ⟨x, hx⟩ : ∃ x, max a b = x := ⟨_, rfl⟩
  obtain ⟨y, hy⟩ : ∃ y, min a b = y := ⟨_, rfl⟩
  have X := Lib.hid hx
  have Y := Lib.hid hy
  have bx : -200000 ≤ x ∧ x ≤ 200000 := by omega
  have bY : -200000 ≤ y ∧ y ≤ 200000 := by omega
  rw [hx, hy] at E
  clear hx hy h1 h2
  have fb : ∀ z : Int, -200000 ≤ z ∧ z ≤ 200000 → -200000 ≤ z / s ∧ z / s ≤ 200000 := fun z hz => by
    have e1 := Int.emod_add_mul_ediv z s
    have e2 := Int.emod_nonneg z (show s ≠ 0 by omega)
    have e3 := Int.emod_lt_of_pos z (show 0 < s by omega)
    constructor
    · refine Classical.byContradiction fun hn => ?_
      have : s * (z / s) ≤ 1 * (z / s) := Int.mul_le_mul_of_nonpos_right (by omega) (by omega)
      have : s * (z / s) ≤ s * (-200001) := Int.mul_le_mul_of_nonneg_left (by omega) (by omega)
      omega
    · refine Classical.byContradiction fun hn => ?_
      have : 1 * (z / s) ≤ s * (z / s) := Int.mul_le_mul_of_nonneg_right (by omega) (by omega)
      omega
  have f1 := fb x bx
  have f2 := fb y bY
  obtain ⟨u, hu⟩ : ∃ u, x / s = u := ⟨_, rfl⟩
  obtain ⟨v, hv⟩ : ∃ v, y / s = v := ⟨_, rfl⟩
  rw [hu] at f1 E
  rw [hv] at f2 E
  have U := Lib.hid hu
  have V := Lib.hid hv
  have wd : IntKind.i64.wrap (u - v) = u - v := IntWalk.i64_in _ (by omega)
  clear fb hu hv
  go_wp2_with fail
  refine (l1Most_any _ _ _).mono ?_
  rintro e w' ⟨rfl, rfl⟩
  rw [X.out]
  go_wp2_with fail
  refine (l8Floor_any _ _ _ bx.1 bx.2 h3.1 h3.2).mono ?_
  rintro e w' ⟨rfl, rfl⟩
  rw [U.out]
  go_wp2_with fail
  refine (l1Least_any _ _ _).mono ?_
  rintro e w' ⟨rfl, rfl⟩
  rw [Y.out]
  go_wp2_with fail
  refine (l8Floor_any _ _ _ bY.1 bY.2 h3.1 h3.2).mono ?_
  rintro e w' ⟨rfl, rfl⟩
  rw [V.out]
  go_wp2
  go_ret2
  exact ⟨by rw [E.out]; unfold ContoursBetween_1; rw [C.out]; rfl, Below.refl _ _⟩
end Go.Proofs.Ytobpgoiaimlonaa
namespace Go.Proofs.Ytobpgoiaimlonaa
open Go.RowKit

theorem l8Far_any (w : World) : Calls Try.prog 90 #[] w fun e w' => e = .returned (.int .i64 1000000) ∧ w = w' := by
  go_enter Try.func90, Try.ntmps90
  go_wp2
  go_ret
  exact ⟨rfl, rfl⟩
theorem intCells_set (o : List Int) (i : Nat) (a : Int) : (intCells o).set i (.int .i64 a) = intCells (o.set i a) := by simp [intCells, List.map_set]
theorem relax_ways (o : List Int) (u v : Nat) (w : Int) : (¬ gD o u < farD ∧ relaxE o (u, v, w) = o) ∨ (gD o u < farD ∧ ¬ gD o u + w < gD o v ∧ relaxE o (u, v, w) = o) ∨ (gD o u < farD ∧ gD o u + w < gD o v ∧ relaxE o (u, v, w) = o.set v (gD o u + w)) := by
  unfold relaxE
  by_cases h1 : gD o u < farD
  · by_cases h2 : gD o u + w < gD o v
    · exact .inr (.inr ⟨h1, h2, if_pos ⟨h1, h2⟩⟩)
    · exact .inr (.inl ⟨h1, h2, if_neg (fun h => h2 h.2)⟩)
  · exact .inl ⟨h1, if_neg (fun h => h1 h.1)⟩
/-- The numbers are small enough to be added. -/
def LowD (T : Nat) (o : List Int) : Prop := ∀ v, -(10000 * (T : Int)) ≤ gD o v ∧ gD o v ≤ farD
theorem LowD.relax {T : Nat} {o : List Int} (h : LowD T o) (e : Edge) (he : -10000 ≤ e.2.2) : LowD (T + 1) (relaxE o e) := by
  intro v
  have hv := h v
  have hu := h e.1
  refine ⟨?_, Int.le_trans (relax_le o e v) hv.2⟩
  unfold relaxE
  split
  · by_cases hl : e.2.1 < o.length
    · rw [gD_set _ _ _ _ hl]
      split <;> omega
    · rw [List.set_eq_of_length_le (by omega)]; omega
  · omega
theorem LowD.mono {T T' : Nat} {o : List Int} (h : LowD T o) (ht : T ≤ T') : LowD T' o := fun v => ⟨by have := (h v).1; omega, (h v).2⟩
theorem gD_at {o : List Int} {v : Nat} (h : v < o.length) : o[v]? = some (gD o v) := by
  rw [gD_some (List.getElem?_eq_getElem h)]; exact List.getElem?_eq_getElem h
/-- Behind a relaxed edge that turned something, the row is no longer the first one. -/
theorem ne_of_le {o o0 : List Int} {v : Nat} {a : Int} (hl : v < o.length) (hle : gD o v ≤ gD o0 v) (ha : a < gD o v) : ¬ o.set v a = o0 := by
  intro e
  have h1 := gD_set o v v a hl
  rw [if_pos rfl, e] at h1
  omega
theorem clE_snoc (xs : List VClaim) (x : VClaim) : clE (xs ++ [x]) = clE xs ++ [(x.Low.toNat, x.High.toNat, x.Most), (x.High.toNat, x.Low.toNat, -x.Least)] := by simp [clE]
end Go.Proofs.Ytobpgoiaimlonaa
namespace Go.Proofs.Ytobpgoiaimlonaa
open Go.RowKit

theorem intCells_at {o : List Int} {i : Nat} {a : Int} (h : o[i]? = some a) : (intCells o)[i]? = some (.int .i64 a) := by simp [intCells, h]
theorem take_clE {xs : List VClaim} {t : Nat} {x : VClaim} (h : xs[t]? = some x) : clE (xs.take (t + 1)) = clE (xs.take t) ++ [(x.Low.toNat, x.High.toNat, x.Most), (x.High.toNat, x.Low.toNat, -x.Least)] := by
  rw [List.take_add_one, h]; exact clE_snoc _ _
/-- Does relaxing this edge make a number smaller? -/
def relB (o : List Int) (u v : Nat) (w : Int) : Bool := decide (gD o u < farD) && decide (gD o u + w < gD o v)
theorem relax_B (o : List Int) (u v : Nat) (w : Int) : relaxE o (u, v, w) = if relB o u v w = true then o.set v (gD o u + w) else o := by
  unfold relaxE relB
  by_cases h : gD o u < farD ∧ gD o u + w < gD o v
  · rw [if_pos h, if_pos (by simp [h])]
  · rw [if_neg h, if_neg (by simpa using h)]
/-- The row of numbers, the claim's box, and the world below as it was. -/
def RowBox (w : World) (j : Nat) (Q : List Int) (b : Nat) (x : VClaim) (wx : World) : Prop :=
  wx.ownsRow w.heap.size 3 1 (.slice (some ⟨w.heap.size, 0, none⟩) j j) j (intCells Q) ∧ Below w.heap.size w wx ∧ BoxClaim wx b x
theorem RowBox.below {w : World} {j : Nat} {Q : List Int} {b : Nat} {x : VClaim} {wx W : World} (h : RowBox w j Q b x wx) (hb : Below wx.heap.size wx W) : RowBox w j Q b x W :=
  ⟨ownsRow_below h.1 hb, Below.then' h.2.1 hb, h.2.2.below hb⟩
theorem RowBox.store {w : World} {j : Nat} {Q : List Int} {b : Nat} {x : VClaim} {wx : World} (h : RowBox w j Q b x wx) (hb : ¬ b = w.heap.size) {v : Nat} {a : Int} : RowBox w j (Q.set v a) b x ((wx.setCell ⟨w.heap.size, v, none⟩ (.int .i64 a)).drew) := by
  have s := h.1.stored v (.int .i64 a)
  rw [intCells_set] at s
  exact ⟨s.1, bel_drew' (h.2.1.grown s.2 h.2.1.size (fun j e => by cases e; exact Nat.le_refl _)), (h.2.2.grown s.2 (by simp only [ne_eq, Option.some.injEq]; exact hb) : _)⟩
/-- And the flag: was anything turned since the round began? -/
def FlagBox (w : World) (j : Nat) (o Q : List Int) (b : Nat) (x : VClaim) (c : Value) (wx : World) : Prop := ∃ ch : Bool, c = .bool ch ∧ (ch = true ↔ ¬ Q = o) ∧ RowBox w j Q b x wx
set_option maxHeartbeats 25600000 in
set_option maxRecDepth 100000 in
theorem l8Reach_any (n k : Nat) (a : Option Addr) (len cap : Nat) (xs : List VClaim) (w : World) (h : IsClaimS w a len cap xs) (hx : areCl (n : Int) xs = true) (hk : k < n) :
    Calls Try.prog 79 #[.int .i64 (n : Int), .slice a len cap, .int .i64 (k : Int)] w fun e w' => ∃ v, e = .returned (.tuple #[v, .bool (reachL n xs k).2]) ∧ w'.ownsRow w.heap.size 3 1 v n (intCells (reachL n xs k).1) ∧ Below w.heap.size w w' := by
  have hm := h.2.2.1
  have hcl := h.2.1
  unfold maxLen at hm
  obtain rfl := h.1
  obtain ⟨i0, hi, hz0, hz1, hz2⟩ := info_parts infoInt
  obtain ⟨hv, ⟨hn1, hn2⟩, hl24⟩ := areCl_iff.1 hx
  have S := Lib.hid h
  have HV := Lib.hid hv
  clear h hv hx
  have hk0 : (0 : Int) ≤ (k : Int) := by omega
  have hk1 : (k : Int) < (n : Int) := by omega
  go_enter Try.func79, Try.ntmps79
  go_wp2_with (refine wpList_make_full _ rfl _ _ 25 rfl w.heap.size 3 i0 (.int .i64 0) 1 Try.underlying25 hi hz0 hz1 .i64 .i64 _ _ n rfl rfl rfl rfl (by rw [hz2]; omega) (by unfold maxLen; omega) (Nat.le_refl _) ?_; intro w1 hown hgrow)
  have B1 := Lib.hid ((Below.refl w.heap.size w).grown hgrow (Nat.le_refl _) (fun k e => by cases e))
  have O1 := Lib.hid hown
  clear hown hgrow
  go_loopw [9] (fun i wr => ∃ (j : Nat) (D : List Value), j ≤ n ∧ D.length = n - j ∧ i = .int .i64 j ∧ wr.ownsRow w.heap.size 3 1 (.slice (some ⟨w.heap.size, 0, none⟩) n n) n (intCells (List.replicate j farD) ++ D) ∧ Below w.heap.size w wr) (fun i _ => n - (intOf i).toNat)
  case atStart => exact ⟨0, (madeCells (Value.int .i64 0).cells (n * 1)).toList, Nat.zero_le _, by have := O1.out.1; omega, rfl, by simpa [intCells] using O1.out, B1.out⟩
  case round =>
    obtain ⟨j, D, hj, hD, rfl, hown, hbel⟩ := hrel
    have O := Lib.hid hown
    have B := Lib.hid hbel
    have HD := Lib.hid hD
    by_cases hlt : j < n
    · have f0 := O.out.frozenAt j
      obtain ⟨u0, d0⟩ := own_cell O.out j (by rw [List.length_append, intCells_len, List.length_replicate]; omega)
      have hj0 : (0 : Int) ≤ (j : Int) := by omega
      have hj1 : (j : Int) < (n : Int) := by omega
      clear hown hbel hD
      go_wp2_with fail
      refine (l8Far_any _).mono ?_
      rintro e w' ⟨rfl, rfl⟩
      go_wp2
      go_roundw
      case rel =>
        have h5 := O.out.stored j (.int .i64 1000000)
        refine ⟨j + 1, D.tail, by omega, by rw [List.length_tail, HD.out]; omega, by go_num, ?_, B.out.grown h5.2 B.out.size (fun j e => by cases e; exact Nat.le_refl _)⟩
        have hl : (intCells (List.replicate j farD)).length = j := by rw [intCells_len, List.length_replicate]
        have h6 := h5.1
        obtain ⟨d, D', rfl⟩ : ∃ d D', D = d :: D' := by
          cases D with
          | nil => have := HD.out; simp at this; omega
          | cons d D' => exact ⟨d, D', rfl⟩
        rw [List.set_append_right _ _ (by omega), hl, Nat.sub_self, List.set_cons_zero] at h6
        rw [show List.replicate (j + 1) farD = List.replicate j farD ++ [farD] from by rw [List.replicate_succ'], intCells_snoc, List.append_assoc]
        exact h6
      case measure => simp [intOf]; omega
    · obtain rfl : j = n := by omega
      have hD0 : D = [] := List.length_eq_zero_iff.1 (by omega)
      subst hD0
      rw [List.append_nil] at O
      have f0 := O.out.frozenAt k
      obtain ⟨u0, d0⟩ := own_cell O.out k (by rw [intCells_len, List.length_replicate]; omega)
      have h5 := O.out.stored k (.int .i64 0)
      have O2 := Lib.hid (show _ from by rw [intCells_set] at h5; exact h5.1)
      have B2 := Lib.hid (B.out.grown h5.2 B.out.size (fun j e => by cases e; exact Nat.le_refl _))
      have LW := Lib.hid (show LowD 0 (startD j k) from by
        intro v
        unfold startD
        rw [gD_set _ _ _ _ (by simpa using hk)]
        split
        · unfold farD; omega
        · by_cases hv : v < j
          · rw [gD_some (a := farD) (by simp [hv])]; unfold farD; omega
          · rw [gD_none (by simpa using hv)]; unfold farD; omega)
      clear hown hbel hD h5
      rename World => w0
      go_wp2
      go_loopw [10] (fun i wr => ∃ (r : Nat) (o : List Int), r ≤ j + 1 ∧ o.length = j ∧ i = .int .i64 r ∧ reachL j xs k = reachE (clE xs) (j + 1 - r) o ∧ LowD (48 * r) o ∧ wr.ownsRow w.heap.size 3 1 (.slice (some ⟨w.heap.size, 0, none⟩) j j) j (intCells o) ∧ Below w.heap.size w wr) (fun i _ => j + 1 - (intOf i).toNat)
      case atStart => exact ⟨0, startD j k, Nat.zero_le _, by simp [startD], rfl, rfl, LW.out, O2.out, B2.out⟩
      case round =>
        obtain ⟨r, o, hr, hol, rfl, hre, hlow, hown, hbel⟩ := hrel
        have O := Lib.hid hown
        have B := Lib.hid hbel
        have RE := Lib.hid hre
        have LO := Lib.hid hlow
        by_cases hlr : r < j + 1
        · clear hre hlow hown hbel
          have hwx : 48 * r ≤ 48 * 11 := by omega
          have d30 : decide (r ≤ j) = true := decide_eq_true (by omega)
          rename World => w5
          go_wp2
          go_loopw [12, 11, 13] (fun i c _ wr => ∃ (t : Nat) (q : List Int) (ch : Bool), t ≤ xs.length ∧ i = .int .i64 t ∧ c = .bool ch ∧ q = (clE (xs.take t)).foldl relaxE o ∧ (ch = true ↔ ¬ q = o) ∧ q.length = j ∧ (∀ v, gD q v ≤ gD o v) ∧ LowD (48 * r + 2 * t) q ∧ wr.ownsRow w.heap.size 3 1 (.slice (some ⟨w.heap.size, 0, none⟩) j j) j (intCells q) ∧ Below w.heap.size w wr) (fun i _ _ _ => xs.length - (intOf i).toNat)
          case atStart => exact ⟨0, o, false, Nat.zero_le _, rfl, rfl, rfl, by simp, hol, fun v => Int.le_refl _, LO.out, O.out, B.out⟩
          case round =>
            obtain ⟨t, Q0, ch, ht, rfl, rfl, hq0, hch, hql, hqe, hlo, hown, hbel⟩ := hrel
            have HQ0 := Lib.hid hq0
            have CH0' := Lib.hid hch
            have QL0' := Lib.hid hql
            have QE0' := Lib.hid hqe
            have L0' := Lib.hid hlo
            by_cases hlt2 : t < xs.length
            · obtain ⟨x, hx⟩ : ∃ x, xs[t]? = some x := ⟨xs[t]'hlt2, List.getElem?_eq_getElem _⟩
              obtain ⟨b, o', rfl, hbw, hat⟩ := (S.out.below hbel).at (by omega)
              obtain ⟨c0, c1, c2, c3⟩ := hat t x hx
              have hcl := clB_iff.1 (HV.out x (List.mem_of_getElem? hx))
              have TKx := take_clE hx
              obtain ⟨xl, xh, le, mo⟩ := x
              simp only [] at c0 c1 c2 c3 hcl TKx
              obtain ⟨lo, rfl⟩ : ∃ lo : Nat, xl = (lo : Int) := ⟨xl.toNat, by omega⟩
              obtain ⟨hi, rfl⟩ : ∃ hi : Nat, xh = (hi : Int) := ⟨xh.toNat, by omega⟩
              rw [Int.toNat_natCast, Int.toNat_natCast] at TKx
              have TK := Lib.hid TKx
              have b1 : lo < j := by omega
              have b2 : hi < j := by omega
              have b5 : ¬ lo = hi := by omega
              have b3 : -9999 ≤ mo ∧ mo ≤ 9999 := by omega
              have b4 : -9999 ≤ le ∧ le ≤ 9999 := by omega
              have i1 : (0 : Int) ≤ (lo : Int) := by omega
              have i2 : (lo : Int) < (j : Int) := by omega
              have i3 : (0 : Int) ≤ (hi : Int) := by omega
              have i4 : (hi : Int) < (j : Int) := by omega
              have i5 : (0 : Int) ≤ (t : Int) := by omega
              have i6 : (t : Int) < (xs.length : Int) := by omega
              have BXL := Lib.hid (show w.heap.size < wr.heap.size from (hown.lt w.heap.size rfl).2)
              have FAR := Lib.hid (fun W : World => (l8Far_any W).mono (fun e w' h => (⟨h.1, by rw [← h.2]; exact Below.refl _ _⟩ : e = .returned (.int .i64 1000000) ∧ Below W.heap.size W w')))
              have oA := hown.alloc (.cells #[.int .i64 (lo : Int), .int .i64 (hi : Int), .int .i64 le, .int .i64 mo] 38)
              have bA := Below.then' hbel (bel_al1 wr (.cells #[.int .i64 (lo : Int), .int .i64 (hi : Int), .int .i64 le, .int .i64 mo] 38))
              have xA := BoxClaim.new wr 38 ⟨(lo : Int), (hi : Int), le, mo⟩ _ rfl
              have OA := Lib.hid oA
              have BA := Lib.hid bA
              have XA := Lib.hid xA
              clear hq0 hch hql hqe hlo hown hbel hx hat hcl TKx oA bA xA
              have BXN := Lib.hid (show ¬ wr.heap.size = w.heap.size by have := BXL.out; omega)
              go_wp2
              refine wp_world (fun W => RowBox w j Q0 wr.heap.size ⟨(lo : Int), (hi : Int), le, mo⟩ W) ⟨OA.out, BA.out, XA.out⟩ ?_
              clear OA BA XA c0 c1 c2 c3
              rintro W0 hr0
              have R0 := Lib.hid hr0
              have QL0 := QL0'
              have QE0 := QE0'
              have L0 := L0'
              have CH0 := CH0'
              clear hr0 QL0' QE0' CH0'
              go_upto_region 15 with (fail)
              go_cut [65] (fun t wx => t = .bool (relB Q0 lo hi (mo)) ∧ RowBox w j Q0 wr.heap.size ⟨(lo : Int), (hi : Int), le, mo⟩ wx)
              case first =>
                obtain ⟨y, hy⟩ : ∃ y, gD Q0 lo = y := ⟨_, rfl⟩
                obtain ⟨z, hz⟩ : ∃ z, gD Q0 hi = z := ⟨_, rfl⟩
                have cU := (R0.out.1).cells (g := w.heap.size) rfl lo _ (intCells_at (gD_at (show lo < Q0.length by have := QL0.out; omega)))
                have cV := (R0.out.1).cells (g := w.heap.size) rfl hi _ (intCells_at (gD_at (show hi < Q0.length by have := QL0.out; omega)))
                rw [add_plain, Nat.zero_add, hy] at cU
                rw [add_plain, Nat.zero_add, hz] at cV
                have ly := L0.out lo
                have lz := L0.out hi
                rw [hy] at ly
                rw [hz] at lz
                have ly2 : y ≤ 1000000 := ly.2
                have lz2 : z ≤ 1000000 := lz.2
                have hw0 : IntKind.i64.wrap (y + mo) = y + mo := IntWalk.i64_in _ (by omega)
                obtain ⟨e0, e1, e2, e3⟩ := R0.out.2.2
                have k0 := cell_regrown e0
                have k1 := cell_regrown e1
                have k2 := cell_regrown e2
                have k3 := cell_regrown e3
                have k4 := cell_regrown cU
                have k5 := cell_regrown cV
                have cQ := below_at (W := W0) (fun W' _ => FAR.out W')
                have RB := Lib.hid (show relB Q0 lo hi (mo) = (decide (y < 1000000) && decide (y + mo < z)) from by unfold relB farD; rw [hy, hz]; try rfl)
                clear hy hz ly lz ly2 lz2 e0 e1 e2 e3 cU cV
                by_cases g1 : y < 1000000
                · have G := Lib.hid (decide_eq_true g1)
                  refine wp_region_quiet_below (by kernel_rfl) (by kernel_rfl) ?_
                  repeat (first | go_big_quiet_step (exact cQ _ _) | quiet_step (exact cQ _ _))
                  refine wpQuiet_nil ?_
                  intro V hv
                  have RV := Lib.hid (R0.out.below (below_of_re hv))
                  clear hv cQ k0 k1 k2 k3 k4 k5 g1 hw0
                  first | go_meet | (go_wp2; go_meet)
                  exact ⟨congrArg Value.bool (by rw [RB.out, G.out]; try rfl), RV.out⟩
                · have G := Lib.hid (decide_eq_false g1)
                  refine wp_region_quiet_below (by kernel_rfl) (by kernel_rfl) ?_
                  repeat (first | go_big_quiet_step (exact cQ _ _) | quiet_step (exact cQ _ _))
                  refine wpQuiet_nil ?_
                  intro V hv
                  have RV := Lib.hid (R0.out.below (below_of_re hv))
                  clear hv cQ k0 k1 k2 k3 k4 k5 g1 hw0
                  first | go_meet | (go_wp2; go_meet)
                  exact ⟨congrArg Value.bool (by rw [RB.out, G.out]; try rfl), RV.out⟩
              case rest =>
              obtain ⟨ht, hrb⟩ := hcut
              have RC := Lib.hid hrb
              have RL := Lib.hid (relax_B Q0 lo hi (mo))
              obtain ⟨t0, ht0⟩ : ∃ t, relB Q0 lo hi (mo) = t := ⟨_, rfl⟩
              rw [ht0] at ht RL
              subst ht
              have TB := Lib.hid ht0
              clear hrb ht0
              rename World => V0
              go_upto_if 65 with (fail)
              go_cut [11] (fun c wx => FlagBox w j o (relaxE Q0 (lo, hi, mo)) wr.heap.size ⟨(lo : Int), (hi : Int), le, mo⟩ c wx)
              case first =>
                cases t0
                · go_wp2
                  go_meet
                  have hq : relaxE Q0 (lo, hi, mo) = Q0 := by rw [RL.out]; rfl
                  exact ⟨ch, rfl, by rw [hq]; exact CH0.out, by rw [hq]; exact RC.out⟩
                · have hq : relaxE Q0 (lo, hi, mo) = Q0.set hi (gD Q0 lo + mo) := by rw [RL.out]; rfl
                  obtain ⟨y, hy⟩ : ∃ y, gD Q0 lo = y := ⟨_, rfl⟩
                  have tb := TB.out
                  unfold relB at tb
                  simp only [Bool.and_eq_true, decide_eq_true_eq] at tb
                  have NE := Lib.hid (ne_of_le (show hi < Q0.length by have := QL0.out; omega) (QE0.out hi) tb.2)
                  have cU := (RC.out.1).cells (g := w.heap.size) rfl lo _ (intCells_at (gD_at (show lo < Q0.length by have := QL0.out; omega)))
                  rw [add_plain, Nat.zero_add, hy] at cU
                  have ly := L0.out lo
                  rw [hy] at ly
                  have ly2 : y ≤ 1000000 := ly.2
                  have hw0 : IntKind.i64.wrap (y + mo) = y + mo := IntWalk.i64_in _ (by omega)
                  obtain ⟨e0, e1, e2, e3⟩ := RC.out.2.2
                  simp only [] at e0 e1 e2 e3
                  have f0 := RC.out.1.frozenAt hi
                  obtain ⟨u9, cV⟩ := own_cell RC.out.1 hi (by rw [intCells_len]; have := QL0.out; omega)
                  have nb1 := BXN.out
                  have nb2 : ¬ w.heap.size = wr.heap.size := fun e => nb1 e.symm
                  have nuv : ¬ lo = hi := by omega
                  have nvu : ¬ hi = lo := by omega
                  have ST := Lib.hid (show RowBox w j (Q0.set hi (y + mo)) wr.heap.size ⟨(lo : Int), (hi : Int), le, mo⟩ ((V0.setCell ⟨w.heap.size, hi, none⟩ (.int .i64 (y + mo))).drew) from RC.out.store BXN.out)
                  have HQY := Lib.hid (show relaxE Q0 (lo, hi, mo) = Q0.set hi (y + mo) from by rw [hq, hy]; try rfl)
                  have KS := Lib.hid (show (fun w' : World => w'.cell? ⟨wr.heap.size, 0, none⟩ = some (.int .i64 (lo : Int)) ∧ w'.cell? ⟨wr.heap.size, 1, none⟩ = some (.int .i64 (hi : Int)) ∧ w'.cell? ⟨wr.heap.size, 2, none⟩ = some (.int .i64 le) ∧ w'.cell? ⟨wr.heap.size, 3, none⟩ = some (.int .i64 mo) ∧ w'.cell? ⟨w.heap.size, lo, none⟩ = some (.int .i64 y)) ((V0.setCell ⟨w.heap.size, hi, none⟩ (.int .i64 (y + mo))).drew) from by
                    obtain ⟨s0, s1, s2, s3⟩ := ST.out.2.2
                    have su := ST.out.1.cells (g := w.heap.size) rfl lo _ (intCells_at (show (Q0.set hi (y + mo))[lo]? = some y from by rw [List.getElem?_set_ne (by omega), gD_at (show lo < Q0.length by have := QL0.out; omega), hy]))
                    rw [add_plain, Nat.zero_add] at su
                    exact ⟨s0, s1, s2, s3, su⟩)
                  have NE2 := Lib.hid (show ¬ Q0.set hi (y + mo) = o from by have := NE.out; rw [hy] at this; exact this)
                  clear NE ly ly2 tb hq hy
                  go_wp2
                  go_region_held3 (fun w' => w'.cell? ⟨wr.heap.size, 0, none⟩ = some (.int .i64 (lo : Int)) ∧ w'.cell? ⟨wr.heap.size, 1, none⟩ = some (.int .i64 (hi : Int)) ∧ w'.cell? ⟨wr.heap.size, 2, none⟩ = some (.int .i64 le) ∧ w'.cell? ⟨wr.heap.size, 3, none⟩ = some (.int .i64 mo) ∧ w'.cell? ⟨w.heap.size, lo, none⟩ = some (.int .i64 y)) (first | exact KS.out | go_keep) (fail)
                  go_wp2
                  go_meet
                  exact ⟨true, rfl, ⟨fun _ => by rw [HQY.out]; exact NE2.out, fun _ => rfl⟩, by rw [HQY.out]; exact ST.out⟩
              case rest =>
              obtain ⟨ch1, rfl, hch1, hrb1⟩ := hcut
              have CH1 := Lib.hid hch1
              have R1' := Lib.hid hrb1
              have QL1' := Lib.hid (show (relaxE Q0 (lo, hi, mo)).length = j from by rw [relax_len]; exact QL0.out)
              have QE1' := Lib.hid (show ∀ v, gD (relaxE Q0 (lo, hi, mo)) v ≤ gD o v from fun v => Int.le_trans (relax_le _ _ _) (QE0.out v))
              have L1' := Lib.hid (L0.out.relax (lo, hi, mo) (by simp only []; omega))
              obtain ⟨Q1, hQ1⟩ : ∃ Q, relaxE Q0 (lo, hi, mo) = Q := ⟨_, rfl⟩
              rw [hQ1] at CH1 R1' QL1' QE1' L1'
              have HQ1 := Lib.hid hQ1
              have R1 := R1'
              have QL1 := QL1'
              have QE1 := QE1'
              have L1 := L1'
              clear hch1 hrb1 R1' QL1' QE1' L1' hQ1 RC RL TB
              rename World => W1
              go_upto_region 18 with (fail)
              go_cut [100] (fun t wx => t = .bool (relB Q1 hi lo (-le)) ∧ RowBox w j Q1 wr.heap.size ⟨(lo : Int), (hi : Int), le, mo⟩ wx)
              case first =>
                obtain ⟨y, hy⟩ : ∃ y, gD Q1 hi = y := ⟨_, rfl⟩
                obtain ⟨z, hz⟩ : ∃ z, gD Q1 lo = z := ⟨_, rfl⟩
                have cU := (R1.out.1).cells (g := w.heap.size) rfl hi _ (intCells_at (gD_at (show hi < Q1.length by have := QL1.out; omega)))
                have cV := (R1.out.1).cells (g := w.heap.size) rfl lo _ (intCells_at (gD_at (show lo < Q1.length by have := QL1.out; omega)))
                rw [add_plain, Nat.zero_add, hy] at cU
                rw [add_plain, Nat.zero_add, hz] at cV
                have ly := L1.out hi
                have lz := L1.out lo
                rw [hy] at ly
                rw [hz] at lz
                have ly2 : y ≤ 1000000 := ly.2
                have lz2 : z ≤ 1000000 := lz.2
                have hw1 : IntKind.i64.wrap (y - le) = y - le := IntWalk.i64_in _ (by omega)
                obtain ⟨e0, e1, e2, e3⟩ := R1.out.2.2
                have k0 := cell_regrown e0
                have k1 := cell_regrown e1
                have k2 := cell_regrown e2
                have k3 := cell_regrown e3
                have k4 := cell_regrown cU
                have k5 := cell_regrown cV
                have cQ := below_at (W := W1) (fun W' _ => FAR.out W')
                have RB := Lib.hid (show relB Q1 hi lo (-le) = (decide (y < 1000000) && decide (y - le < z)) from by unfold relB farD; rw [hy, hz]; try rfl)
                clear hy hz ly lz ly2 lz2 e0 e1 e2 e3 cU cV
                by_cases g1 : y < 1000000
                · have G := Lib.hid (decide_eq_true g1)
                  refine wp_region_quiet_below (by kernel_rfl) (by kernel_rfl) ?_
                  repeat (first | go_big_quiet_step (exact cQ _ _) | quiet_step (exact cQ _ _))
                  refine wpQuiet_nil ?_
                  intro V hv
                  have RV := Lib.hid (R1.out.below (below_of_re hv))
                  clear hv cQ k0 k1 k2 k3 k4 k5 g1 hw1
                  first | go_meet | (go_wp2; go_meet)
                  exact ⟨congrArg Value.bool (by rw [RB.out, G.out]; try rfl), RV.out⟩
                · have G := Lib.hid (decide_eq_false g1)
                  refine wp_region_quiet_below (by kernel_rfl) (by kernel_rfl) ?_
                  repeat (first | go_big_quiet_step (exact cQ _ _) | quiet_step (exact cQ _ _))
                  refine wpQuiet_nil ?_
                  intro V hv
                  have RV := Lib.hid (R1.out.below (below_of_re hv))
                  clear hv cQ k0 k1 k2 k3 k4 k5 g1 hw1
                  first | go_meet | (go_wp2; go_meet)
                  exact ⟨congrArg Value.bool (by rw [RB.out, G.out]; try rfl), RV.out⟩
              case rest =>
              obtain ⟨ht, hrb⟩ := hcut
              have RC := Lib.hid hrb
              have RL := Lib.hid (relax_B Q1 hi lo (-le))
              obtain ⟨t1, ht1⟩ : ∃ t, relB Q1 hi lo (-le) = t := ⟨_, rfl⟩
              rw [ht1] at ht RL
              subst ht
              have TB := Lib.hid ht1
              clear hrb ht1
              rename World => V1
              cases t1
              · have hq := Lib.hid (show relaxE Q1 (hi, lo, -le) = Q1 from by rw [RL.out]; rfl)
                go_wp2
                go_roundw
                case rel =>
                  refine ⟨t + 1, relaxE Q1 (hi, lo, -le), ch1, by omega, by go_num, rfl, ?_, by rw [hq.out]; exact CH1.out, by rw [relax_len]; exact QL1.out, fun v => Int.le_trans (relax_le _ _ _) (QE1.out v), (L1.out.relax (hi, lo, -le) (by simp only []; omega)).mono (by omega), by rw [hq.out]; exact RC.out.1, RC.out.2.1⟩
                  rw [TK.out, List.foldl_append, ← HQ0.out]
                  show relaxE Q1 _ = relaxE (relaxE Q0 _) _
                  rw [HQ1.out]
                case measure => simp [intOf]; omega
              · have hq : relaxE Q1 (hi, lo, -le) = Q1.set lo (gD Q1 hi + -le) := by rw [RL.out]; rfl
                obtain ⟨y, hy⟩ : ∃ y, gD Q1 hi = y := ⟨_, rfl⟩
                have tb := TB.out
                unfold relB at tb
                simp only [Bool.and_eq_true, decide_eq_true_eq] at tb
                have NE := Lib.hid (ne_of_le (show lo < Q1.length by have := QL1.out; omega) (QE1.out lo) tb.2)
                have cU := (RC.out.1).cells (g := w.heap.size) rfl hi _ (intCells_at (gD_at (show hi < Q1.length by have := QL1.out; omega)))
                rw [add_plain, Nat.zero_add, hy] at cU
                have ly := L1.out hi
                rw [hy] at ly
                have ly2 : y ≤ 1000000 := ly.2
                have hw1 : IntKind.i64.wrap (y - le) = y - le := IntWalk.i64_in _ (by omega)
                obtain ⟨e0, e1, e2, e3⟩ := RC.out.2.2
                simp only [] at e0 e1 e2 e3
                have f0 := RC.out.1.frozenAt lo
                obtain ⟨u9, cV⟩ := own_cell RC.out.1 lo (by rw [intCells_len]; have := QL1.out; omega)
                have nb1 := BXN.out
                have nb2 : ¬ w.heap.size = wr.heap.size := fun e => nb1 e.symm
                have nuv : ¬ hi = lo := by omega
                have nvu : ¬ lo = hi := by omega
                have ST := Lib.hid (show RowBox w j (Q1.set lo (y - le)) wr.heap.size ⟨(lo : Int), (hi : Int), le, mo⟩ ((V1.setCell ⟨w.heap.size, lo, none⟩ (.int .i64 (y - le))).drew) from RC.out.store BXN.out)
                have HQY := Lib.hid (show relaxE Q1 (hi, lo, -le) = Q1.set lo (y - le) from by rw [hq, hy]; try rfl)
                have KS := Lib.hid (show (fun w' : World => w'.cell? ⟨wr.heap.size, 0, none⟩ = some (.int .i64 (lo : Int)) ∧ w'.cell? ⟨wr.heap.size, 1, none⟩ = some (.int .i64 (hi : Int)) ∧ w'.cell? ⟨wr.heap.size, 2, none⟩ = some (.int .i64 le) ∧ w'.cell? ⟨wr.heap.size, 3, none⟩ = some (.int .i64 mo) ∧ w'.cell? ⟨w.heap.size, hi, none⟩ = some (.int .i64 y)) ((V1.setCell ⟨w.heap.size, lo, none⟩ (.int .i64 (y - le))).drew) from by
                  obtain ⟨s0, s1, s2, s3⟩ := ST.out.2.2
                  have su := ST.out.1.cells (g := w.heap.size) rfl hi _ (intCells_at (show (Q1.set lo (y - le))[hi]? = some y from by rw [List.getElem?_set_ne (by omega), gD_at (show hi < Q1.length by have := QL1.out; omega), hy]))
                  rw [add_plain, Nat.zero_add] at su
                  exact ⟨s0, s1, s2, s3, su⟩)
                have NE2 := Lib.hid (show ¬ Q1.set lo (y - le) = o from by have := NE.out; rw [hy] at this; exact this)
                clear NE ly ly2 tb hq hy
                go_wp2
                go_region_held3 (fun w' => w'.cell? ⟨wr.heap.size, 0, none⟩ = some (.int .i64 (lo : Int)) ∧ w'.cell? ⟨wr.heap.size, 1, none⟩ = some (.int .i64 (hi : Int)) ∧ w'.cell? ⟨wr.heap.size, 2, none⟩ = some (.int .i64 le) ∧ w'.cell? ⟨wr.heap.size, 3, none⟩ = some (.int .i64 mo) ∧ w'.cell? ⟨w.heap.size, hi, none⟩ = some (.int .i64 y)) (first | exact KS.out | go_keep) (fail)
                go_wp2
                go_roundw
                case rel =>
                  refine ⟨t + 1, relaxE Q1 (hi, lo, -le), true, by omega, by go_num, rfl, ?_, ⟨fun _ => by rw [HQY.out]; exact NE2.out, fun _ => rfl⟩, by rw [relax_len]; exact QL1.out, fun v => Int.le_trans (relax_le _ _ _) (QE1.out v), (L1.out.relax (hi, lo, -le) (by simp only []; omega)).mono (by omega), by rw [HQY.out]; exact ST.out.1, ST.out.2.1⟩
                  rw [TK.out, List.foldl_append, ← HQ0.out]
                  show relaxE Q1 _ = relaxE (relaxE Q0 _) _
                  rw [HQ1.out]
                case measure => simp [intOf]; omega

            · obtain rfl : t = xs.length := by omega
              have RD := Lib.hid (show Q0 = roundE (clE xs) o from by rw [hq0, List.take_of_length_le (Nat.le_refl _)]; rfl)
              have OQ := Lib.hid hown
              have BQ := Lib.hid hbel
              have SX := Lib.hid (show reachE (clE xs) (j + 1 - r) o = if roundE (clE xs) o = o then (o, true) else reachE (clE xs) (j + 1 - (r + 1)) (roundE (clE xs) o) from by
                rw [show j + 1 - r = (j + 1 - (r + 1)) + 1 from by omega]; rfl)
              have hr48 : xs.length ≤ 24 := hl24
              clear hq0 hown hbel
              cases ch with
              | false =>
                have EQ : Q0 = o := Classical.byContradiction fun hn => by have := hch.2 hn; cases this
                have E := Lib.hid (show reachL j xs k = (Q0, true) from by rw [RE.out, SX.out, if_pos (by rw [← RD.out]; exact EQ), EQ])
                clear hch EQ
                go_wp2
                go_ret2
                exact ⟨_, by rw [E.out]; rfl, by rw [E.out]; exact OQ.out, BQ.out⟩
              | true =>
                have NE : ¬ Q0 = o := hch.1 rfl
                have E := Lib.hid (show reachL j xs k = reachE (clE xs) (j + 1 - (r + 1)) Q0 from by rw [RE.out, SX.out, if_neg (by rw [← RD.out]; exact NE), ← RD.out])
                clear hch NE
                go_wp2
                go_roundw
                case rel => exact ⟨r + 1, Q0, by omega, hql, by go_num, E.out, L0'.out.mono (by omega), OQ.out, BQ.out⟩
                case measure => simp [intOf]; omega
        · obtain rfl : r = j + 1 := by omega
          have E := Lib.hid (show reachL j xs k = (o, false) from by rw [hre, Nat.sub_self]; rfl)
          clear hre hlow hown hbel
          go_wp2
          go_ret2
          exact ⟨_, by rw [E.out]; rfl, by rw [E.out]; exact O.out, B.out⟩
end Go.Proofs.Ytobpgoiaimlonaa
