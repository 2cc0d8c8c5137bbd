/- Texts in one: Rd, Rd2, Cs, Cs2, Cs3, MnMx, ContoursBetweenP, Cs4. -/
import Derived.Test.YtobpgoiaimlonaaM6
import Derived.Test.YtobpgoiaimlonaaM1
import Derived.Test.YtobpgoiaimlonaaM2
import Derived.Lib.QuietBelow
import Derived.Test.YtobpgoiaimlonaaM3
import Derived.Test.YtobpgoiaimlonaaM4
namespace Go.Proofs.Ytobpgoiaimlonaa
open Go.RowKit

def lowB (c : UInt8) : Bool := decide (97 ≤ c.toNat) && decide (c.toNat ≤ 122)
/-- Is the text a word? -/
def wordB (s : ByteArray) : Bool := s.data.toList.all lowB && inB s.size 1 10
def dayB (d : Int) : Bool := inB d 0 4000
def VReader.ok (s : VReader) : Bool := inB s.Id 1 999 && (wordB s.Name && (dayB s.Joined && (inB s.Class 1 3 && inB s.Fines 0 10000)))
def rdUp (xs : List VReader) : Bool := upB VReader.ok VReader.Id xs
def areRd (xs : List VReader) : Bool := rdUp xs && decide (xs.length ≤ 10)
/-- Where the reader with an id stands, or -1. -/
def rdFind (xs : List VReader) (id : Int) : Int := if areRd xs = true then firstOf (fun s => s.Id == id) xs else -1

end Go.Proofs.Ytobpgoiaimlonaa
namespace Go.Proofs.Ytobpgoiaimlonaa
open Go.RowKit

theorem at_of {α : Type} {xs : List α} {len k : Nat} (hl : Hid (len = xs.length)) (hk : k < len) : ∃ s, xs[k]? = some s := ⟨xs[k]'(by have := hl.out; omega), List.getElem?_eq_getElem _⟩
theorem all_succ' {P : Nat → Prop} {k : Nat} (h : ∀ j, j < k → P j) (h1 : P k) : ∀ j, j < k + 1 → P j := by
  intro j hj
  by_cases e : j = k
  · subst e; exact h1
  · exact h j (by omega)
/-- Why an element is right, or not. -/
theorem step_ways {α : Type} {ok : α → Bool} {id : α → Int} {xs : List α} {k : Nat} {s : α} (hs : xs[k]? = some s) :
    (ok s = false ∧ upStep ok id xs k = false) ∨ (ok s = true ∧ k = 0 ∧ upStep ok id xs k = true) ∨ (ok s = true ∧ ∃ j p, k = j + 1 ∧ xs[j]? = some p ∧ ((¬ id s ≤ id p ∧ upStep ok id xs k = true) ∨ (id s ≤ id p ∧ upStep ok id xs k = false))) := by
  match k, hs with
  | 0, hs =>
    rw [upStep_zero hs]
    cases h : ok s
    · exact .inl ⟨rfl, rfl⟩
    · exact .inr (.inl ⟨rfl, rfl, rfl⟩)
  | j + 1, hs =>
    have hl := (List.getElem?_eq_some_iff.1 hs).1
    have hp : xs[j]? = some xs[j] := List.getElem?_eq_getElem (by omega)
    rw [upStep_succ hp hs]
    cases h : ok s
    · exact .inl ⟨rfl, rfl⟩
    · refine .inr (.inr ⟨rfl, j, xs[j], rfl, hp, ?_⟩)
      by_cases h2 : id s ≤ id xs[j]
      · exact .inr ⟨h2, by simp; omega⟩
      · exact .inl ⟨h2, by simp; omega⟩
end Go.Proofs.Ytobpgoiaimlonaa
namespace Go.Proofs.Ytobpgoiaimlonaa
open Go.RowKit

set_option maxHeartbeats 3200000 in
theorem l8One_any (n : Int) (s : VClaim) (w : World) :
    Calls Try.prog 68 #[.int .i64 n, .agg #[.int .i64 s.Low, .int .i64 s.High, .int .i64 s.Least, .int .i64 s.Most]] w fun e w' => e = .returned (.bool (clB n s)) ∧ Below w.heap.size w w' := by
  have OK : Hid (clB n s = (decide (0 ≤ s.Low) && (decide (s.Low < n) && (decide (0 ≤ s.High) && (decide (s.High < n) && (!(s.Low == s.High) && (inB s.Most (-9999) 9999 && inB s.Least (-9999) s.Most))))))) := Lib.hid rfl
  go_enter Try.func68, Try.ntmps68
  go_wp2_with (go_at_call 62; refine (l1In_any _ _ _ _).mono ?_; rintro e w' ⟨rfl, rfl⟩)
  all_goals go_ret
  all_goals exact ⟨ret_bool (by rw [OK.out]; first | (simp [*]; done) | (simp [*]; rfl) | (simp [*]; intros; omega)), bel_al1 _ _⟩
theorem areCl_no {n : Int} {xs : List VClaim} {x : VClaim} (hx : x ∈ xs) (h : clB n x = false) : areCl n xs = false := by
  unfold areCl
  rw [show xs.all (clB n) = false from by rw [List.all_eq_false]; exact ⟨x, hx, by rw [h]; simp⟩]; rfl
theorem take_more {α : Type} {P : α → Prop} {xs : List α} {k : Nat} {s : α} (h : ∀ m ∈ xs.take k, P m) (hs : xs[k]? = some s) (hp : P s) : ∀ m ∈ xs.take (k + 1), P m := by
  intro m hm
  rw [List.take_add_one, hs, List.mem_append] at hm
  rcases hm with hm | hm
  · exact h m hm
  · simp at hm; subst hm; exact hp
set_option maxHeartbeats 3200000 in
set_option maxRecDepth 100000 in
theorem l8Good_any (n : Int) (a : Option Addr) (len cap : Nat) (xs : List VClaim) (w : World) (h : IsClaimS w a len cap xs) :
    Calls Try.prog 52 #[.int .i64 n, .slice a len cap] w fun e w' => e = .returned (.bool (areCl n xs)) ∧ Below w.heap.size w w' := by
  have hm := h.2.2.1
  have hcl := h.2.1
  unfold maxLen at hm
  obtain rfl := h.1
  have S := Lib.hid h
  clear h
  go_enter Try.func52, Try.ntmps52
  go_wp2
  go_loopw [5] (fun i wr => ∃ k : Nat, k ≤ xs.length ∧ i = .int .i64 k ∧ Below w.heap.size w wr ∧ ∀ x ∈ xs.take k, clB n x = true) (fun i _ => xs.length - (intOf i).toNat)
  case atStart => exact ⟨0, Nat.zero_le _, rfl, Below.refl _ _, by simp⟩
  case round =>
    obtain ⟨k, hk, rfl, hbel, hall⟩ := hrel
    have A := Lib.hid hall
    have B := Lib.hid hbel
    clear hall
    by_cases hlt : k < xs.length
    · obtain ⟨s, hs⟩ : ∃ s, xs[k]? = some s := ⟨xs[k]'hlt, List.getElem?_eq_getElem _⟩
      obtain ⟨b, o, rfl, hb, hat⟩ := (S.out.below hbel).at (by omega)
      obtain ⟨c0, c1, c2, c3⟩ := hat k s hs
      have K := Lib.hid hs
      have hi0 : (0 : Int) ≤ (k : Int) := by omega
      have hi1 : (k : Int) < (xs.length : Int) := by omega
      obtain ⟨r, hr⟩ : ∃ r, clB n s = r := ⟨_, rfl⟩
      have R := Lib.hid hr
      clear hs hat hbel hr
      go_wp2_with fail
      refine (l8One_any n s _).mono ?_
      rintro e w2 ⟨rfl, hb2⟩
      rw [R.out]
      have B2 := Lib.hid (Below.then' B.out hb2)
      clear hb2 c0 c1 c2 c3
      cases r
      · have N := Lib.hid (areCl_no (List.mem_of_getElem? K.out) R.out)
        go_wp2
        go_ret
        exact ⟨ret_bool N.out.symm, B2.out⟩
      · go_wp2
        go_roundw
        case rel => exact ⟨k + 1, by omega, by go_num, B2.out, take_more A.out K.out R.out⟩
        case measure => simp [intOf]; omega
    · obtain rfl : k = xs.length := by omega
      have U := Lib.hid (show areCl n xs = (inB n 1 10 && decide (xs.length ≤ 24)) from by
        have hh := A.out
        rw [List.take_of_length_le (Nat.le_refl _)] at hh
        unfold areCl
        rw [List.all_eq_true.2 hh]; rfl)
      obtain ⟨q, hq⟩ : ∃ q, inB n 1 10 = q := ⟨_, rfl⟩
      have Q := Lib.hid hq
      clear hbel hq
      go_wp2_with fail
      refine (l1In_any _ _ _ _).mono ?_
      rintro e w' ⟨rfl, rfl⟩
      rw [Q.out]
      cases q
      · go_wp2
        go_ret
        exact ⟨ret_bool (by rw [U.out, Q.out]; rfl), B.out⟩
      · go_wp2
        go_ret
        exact ⟨ret_bool (by rw [U.out, Q.out]; simp; try omega), B.out⟩
set_option maxHeartbeats 3200000 in
set_option maxRecDepth 100000 in
theorem l8Heights_any (n : Int) (a : Option Addr) (len cap : Nat) (hs : List Int) (w : World) (h : IsInts w a len cap hs) :
    Calls Try.prog 53 #[.int .i64 n, .slice a len cap] w fun e w' => e = .returned (.bool (hgtB n hs)) ∧ w = w' := by
  have hm := h.2.2.1
  have hcl := h.2.1
  unfold maxLen at hm
  obtain rfl := h.1
  have S := Lib.hid h
  clear h
  go_enter Try.func53, Try.ntmps53
  go_wp2
  go_loop [5] (fun i => ∃ k : Nat, k ≤ hs.length ∧ i = .int .i64 k ∧ ∀ x ∈ hs.take k, inB x (-200000) 200000 = true) (fun i => hs.length - (intOf i).toNat)
  case atStart => exact ⟨0, Nat.zero_le _, rfl, by simp⟩
  case round =>
    obtain ⟨k, hk, rfl, hall⟩ := hrel
    have A := Lib.hid hall
    clear hall
    by_cases hlt : k < hs.length
    · obtain ⟨s, hs1⟩ : ∃ s, hs[k]? = some s := ⟨hs[k]'hlt, List.getElem?_eq_getElem _⟩
      obtain ⟨b, o, rfl, hb, hat⟩ := S.out.at (by omega)
      have c0 := hat k s hs1
      have K := Lib.hid hs1
      have hi0 : (0 : Int) ≤ (k : Int) := by omega
      have hi1 : (k : Int) < (hs.length : Int) := by omega
      obtain ⟨r, hr⟩ : ∃ r, inB s (-200000) 200000 = r := ⟨_, rfl⟩
      have R := Lib.hid hr
      clear hs1 hat hr
      go_wp2_with fail
      refine (l1In_any _ _ _ _).mono ?_
      rintro e w' ⟨rfl, rfl⟩
      rw [R.out]
      cases r
      · have N := Lib.hid (show hgtB n hs = false from by
          unfold hgtB
          rw [show hs.all (fun h => inB h (-200000) 200000) = false from by rw [List.all_eq_false]; exact ⟨s, List.mem_of_getElem? K.out, by rw [R.out]; simp⟩]; rfl)
        go_wp2
        go_ret
        exact ⟨ret_bool N.out.symm, rfl⟩
      · go_wp2
        go_round
        case rel => exact ⟨k + 1, by omega, by go_num, take_more A.out K.out R.out⟩
        case measure => simp [intOf]; omega
    · obtain rfl : k = hs.length := by omega
      have U := Lib.hid (show hgtB n hs = decide ((hs.length : Int) = n) from by
        have hh := A.out
        rw [List.take_of_length_le (Nat.le_refl _)] at hh
        unfold hgtB
        rw [List.all_eq_true.2 hh]; rfl)
      obtain ⟨q, hq⟩ : ∃ q, ((hs.length : Int) == n) = q := ⟨_, rfl⟩
      have Q := Lib.hid (show hgtB n hs = q from by rw [U.out, ← hq]; rfl)
      go_wp2
      go_ret
      exact ⟨ret_bool (by rw [Q.out, ← hq]), rfl⟩
end Go.Proofs.Ytobpgoiaimlonaa
namespace Go.Proofs.Ytobpgoiaimlonaa
open Go.RowKit

/-- The heights of the two marks of a valid claim. -/
theorem claim_at {n : Int} {hs : List Int} {x : VClaim} (hx : clB n x = true) (hh : hgtB n hs = true) : ∃ (lo hi : Nat) (y z : Int), x.Low = (lo : Int) ∧ x.High = (hi : Int) ∧ hs[lo]? = some y ∧ hs[hi]? = some z ∧ (-200000 ≤ y ∧ y ≤ 200000) ∧ (-200000 ≤ z ∧ z ≤ 200000) ∧ holdsB hs x = inB (z - y) x.Least x.Most := by
  obtain ⟨a, b, c, d, _⟩ := clB_iff.1 hx
  unfold hgtB at hh
  simp only [Bool.and_eq_true, List.all_eq_true, decide_eq_true_eq] at hh
  have hl : x.Low.toNat < hs.length := by omega
  have hg : x.High.toNat < hs.length := by omega
  have e1 : hs[x.Low.toNat]? = some hs[x.Low.toNat] := List.getElem?_eq_getElem hl
  have e2 : hs[x.High.toNat]? = some hs[x.High.toNat] := List.getElem?_eq_getElem hg
  have r1 := inB_iff.1 (hh.1 _ (List.getElem_mem hl))
  have r2 := inB_iff.1 (hh.1 _ (List.getElem_mem hg))
  refine ⟨x.Low.toNat, x.High.toNat, _, _, by omega, by omega, e1, e2, r1, r2, ?_⟩
  unfold holdsB
  have q1 : atI hs x.Low = hs[x.Low.toNat] := by
    have := atI_some e1
    rwa [show ((x.Low.toNat : Nat) : Int) = x.Low from by omega] at this
  have q2 : atI hs x.High = hs[x.High.toNat] := by
    have := atI_some e2
    rwa [show ((x.High.toNat : Nat) : Int) = x.High from by omega] at this
  rw [q1, q2]
set_option maxHeartbeats 3200000 in
set_option maxRecDepth 100000 in
theorem l8Holds_any (n : Int) (x : VClaim) (a : Option Addr) (len cap : Nat) (hs : List Int) (w : World) (h : IsInts w a len cap hs) (hx : clB n x = true) (hh : hgtB n hs = true) :
    Calls Try.prog 84 #[.agg #[.int .i64 x.Low, .int .i64 x.High, .int .i64 x.Least, .int .i64 x.Most], .slice a len cap] w fun e w' => e = .returned (.bool (holdsB hs x)) ∧ Below w.heap.size w w' := by
  have hm := h.2.2.1
  have hcl := h.2.1
  unfold maxLen at hm
  obtain rfl := h.1
  obtain ⟨lo, hi, y, z, e1, e2, g1, g2, b1, b2, e3⟩ := claim_at hx hh
  obtain ⟨xl, xh, le, mo⟩ := x
  simp only [] at e1 e2 e3
  subst e1 e2
  rw [e3]
  have hl1 := (List.getElem?_eq_some_iff.1 g1).1
  have hl2 := (List.getElem?_eq_some_iff.1 g2).1
  have B0 := Lib.hid (bel_al1 w (.cells #[.int .i64 (lo : Int), .int .i64 (hi : Int), .int .i64 le, .int .i64 mo] 38))
  have S := Lib.hid (h.below B0.out)
  have X := Lib.hid (BoxClaim.new w 38 ⟨(lo : Int), (hi : Int), le, mo⟩ _ rfl)
  obtain ⟨b, o, rfl, hb, hat⟩ := S.out.at (by omega)
  have c0 := hat lo y g1
  have c1 := hat hi z g2
  have i0 : (0 : Int) ≤ (lo : Int) := by omega
  have i1 : (lo : Int) < (hs.length : Int) := by omega
  have i2 : (0 : Int) ≤ (hi : Int) := by omega
  have i3 : (hi : Int) < (hs.length : Int) := by omega
  have hw : IntKind.i64.wrap (z - y) = z - y := IntWalk.i64_in _ (by omega)
  have LI := Lib.hid (fun W : World => (l1In_any (z - y) le mo W).mono (fun e w' h => (⟨h.1, by rw [← h.2]; exact Below.refl _ _⟩ : e = .returned (.bool (inB (z - y) le mo)) ∧ Below W.heap.size W w')))
  clear h hx hh e3 g1 g2 b1 b2 hat
  go_enter Try.func84, Try.ntmps84
  go_wp2
  refine wp_world (fun W => BoxClaim W w.heap.size ⟨(lo : Int), (hi : Int), le, mo⟩ ∧ W.cell? ⟨b, o + lo, none⟩ = some (.int .i64 y) ∧ W.cell? ⟨b, o + hi, none⟩ = some (.int .i64 z) ∧ Below w.heap.size w W) ⟨X.out, c0, c1, B0.out⟩ ?_
  rintro W ⟨⟨e0, e1, e2, e3⟩, f0, f1, hbw⟩
  have BW := Lib.hid hbw
  clear c0 c1 hbw
  have k0 := cell_regrown e0
  have k1 := cell_regrown e1
  have k2 := cell_regrown e2
  have k3 := cell_regrown e3
  have k4 := cell_regrown f0
  have k5 := cell_regrown f1
  clear e0 e1 e2 e3 f0 f1
  have cQ := below_at (W := W) (fun W' _ => LI.out W')
  refine wp_region_quiet_below (by kernel_rfl) (by kernel_rfl) ?_
  repeat (first | go_big_quiet_step (exact cQ _ _) | quiet_step (exact cQ _ _))
  refine wpQuiet_nil ?_
  intro W2 hw2
  have B2 := Lib.hid (Below.then' BW.out (below_of_re hw2))
  clear hw2 cQ k0 k1 k2 k3 k4 k5
  go_wp2
  go_ret
  exact ⟨rfl, B2.out⟩
set_option maxHeartbeats 6400000 in
set_option maxRecDepth 100000 in
theorem l8Broken_any (n : Int) (a : Option Addr) (len cap : Nat) (xs : List VClaim) (a' : Option Addr) (len' cap' : Nat) (hs : List Int) (w : World) (h : IsClaimS w a len cap xs) (h' : IsInts w a' len' cap' hs) (hx : areCl n xs = true) (hh : hgtB n hs = true) :
    Calls Try.prog 54 #[.slice a len cap, .slice a' len' cap'] w (IdsOwn (broken hs xs) w) := by
  have hm := h.2.2.1
  have hcl := h.2.1
  unfold maxLen at hm
  obtain rfl := h.1
  obtain ⟨i0, hi, hz0, hz1, hz2⟩ := info_parts infoInt
  obtain ⟨hv, _, hl24⟩ := areCl_iff.1 hx
  have S := Lib.hid h
  have I := Lib.hid h'
  have HV := Lib.hid hv
  have HH := Lib.hid hh
  have O0 := Lib.hid (made_ids w)
  clear h h' hv hh hx
  go_enter Try.func54, Try.ntmps54
  go_wp2
  go_loopw [6, 5] (fun i o wr => ∃ k : Nat, k ≤ xs.length ∧ i = .int .i64 k ∧ wr.ownsRow w.heap.size 3 1 o (brokenTo hs xs k).length (intCells (brokenTo hs xs k)) ∧ Below w.heap.size w wr) (fun i _ _ => xs.length - (intOf i).toNat)
  case atStart => exact ⟨0, Nat.zero_le _, rfl, O0.out, wh_al1 _ _⟩
  case round =>
    obtain ⟨k, hk, rfl, hown, hbel⟩ := hrel
    have B := Lib.hid hbel
    have O := Lib.hid hown
    by_cases hlt : k < xs.length
    · obtain ⟨x, hx⟩ : ∃ x, xs[k]? = some x := ⟨xs[k]'hlt, List.getElem?_eq_getElem _⟩
      obtain ⟨b, o, rfl, hb, hat⟩ := (S.out.below hbel).at (by omega)
      obtain ⟨c0, c1, c2, c3⟩ := hat k x hx
      have T := Lib.hid (brokenTo_succ (hs := hs) hx)
      have hgl := brokenTo_len hs xs k
      have VX := Lib.hid (HV.out x (List.mem_of_getElem? hx))
      obtain ⟨G, hG⟩ : ∃ G, brokenTo hs xs k = G := ⟨_, rfl⟩
      rw [hG] at O T hgl
      obtain ⟨r, hr⟩ : ∃ r, holdsB hs x = r := ⟨_, rfl⟩
      rw [hr] at T
      have R := Lib.hid hr
      have hi0 : (0 : Int) ≤ (k : Int) := by omega
      have hi1 : (k : Int) < (xs.length : Int) := by omega
      clear hx hat hbel hown hG hr
      go_wp2_with fail
      refine (l8Holds_any n x _ _ _ hs _ (I.out.below B.out) VX.out HH.out).mono ?_
      rintro e w2 ⟨rfl, hb2⟩
      rw [R.out]
      have B2 := Lib.hid (Below.then' B.out hb2)
      have O2 := Lib.hid (ownsRow_below O.out hb2)
      have hsz := B2.out.size
      clear hb2 c0 c1 c2 c3
      cases r
      · have hown3 := O2.out.alloc (.cells #[.int .i64 (k : Int)] 3)
        go_wp2_with (at_builtin; refine wpList_append_own _ rfl _ _ 25 rfl w.heap.size 3 i0 (.int .i64 0) 1 8 Try.underlying25 hi hz0 hz1 hz2 rfl (by decide) _ _ _ rfl hown3 ⟨w2.heap.size, 0, none⟩ 1 1 [.int .i64 (k : Int)] rfl rfl (cell_one _ _ _) (fun x hx => by simp at hx; subst hx; rfl) (by unfold maxLen; omega) (by omega) (by simp; omega) ?_; intro v' w4 hown' hgrow4 hnil4)
        go_roundw
        case rel =>
          refine ⟨k + 1, by omega, by go_num, ?_, (Below.then' B2.out (wh_al1 _ _)).grown hgrow4 (by simp; omega) (fun j e => (hown3.lt j e).1)⟩
          rw [T.out, if_neg (by decide), intCells_snoc, List.length_append]
          exact hown'
        case measure => simp [intOf]; omega
      · go_wp2
        go_roundw
        case rel => exact ⟨k + 1, by omega, by go_num, by have t := T.out; rw [if_pos True.intro, List.append_nil] at t; rw [t]; exact O2.out, B2.out⟩
        case measure => simp [intOf]; omega
    · obtain rfl : k = xs.length := by omega
      have OB := Lib.hid (show wr.ownsRow w.heap.size 3 1 _ (broken hs xs).length (intCells (broken hs xs)) from hown)
      clear hbel hown
      go_wp2
      go_ret
      exact ⟨_, rfl, OB.out, B.out⟩
theorem specAreClaims_any (n : Int) (a : Option Addr) (len cap : Nat) (xs : List VClaim) (w : World) (h : IsClaimS w a len cap xs) (_ : condClaim xs) :
    Calls Try.prog 32 #[.int .i64 n, .slice a len cap] w (AreClaims_Post n xs w) := by
  have S := Lib.hid h
  clear h
  go_enter Try.func32, Try.ntmps32
  go_wp2_with fail
  refine (l8Good_any n _ _ _ xs _ S.out).mono ?_
  rintro e w1 ⟨rfl, hb⟩
  have B := Lib.hid hb
  clear hb
  go_wp2
  go_ret
  exact ⟨rfl, B.out⟩
end Go.Proofs.Ytobpgoiaimlonaa
namespace Go.Proofs.Ytobpgoiaimlonaa
open Go.RowKit

set_option maxHeartbeats 6400000 in
set_option maxRecDepth 100000 in
theorem specDoHeightsFit_any (n : Int) (a : Option Addr) (len cap : Nat) (xs : List VClaim) (a' : Option Addr) (len' cap' : Nat) (hs : List Int) (w : World) (h : IsClaimS w a len cap xs) (_ : condClaim xs) (h' : IsInts w a' len' cap' hs) (_ : condInt hs) :
    Calls Try.prog 17 #[.int .i64 n, .slice a len cap, .slice a' len' cap'] w (DoHeightsFit_Post n xs hs w) := by
  have S := Lib.hid h
  have I := Lib.hid h'
  have hm := h'.2.2.1
  have hcl := h'.2.1
  unfold maxLen at hm
  obtain rfl := h'.1
  clear h h'
  obtain ⟨p, hp⟩ : ∃ p, areCl n xs = p := ⟨_, rfl⟩
  obtain ⟨q, hq⟩ : ∃ q, hgtB n hs = q := ⟨_, rfl⟩
  have PP := Lib.hid hp
  have QQ := Lib.hid hq
  clear hp hq
  go_enter Try.func17, Try.ntmps17
  go_wp2_with fail
  refine (l8Good_any n _ _ _ xs _ S.out).mono ?_
  rintro e w1 ⟨rfl, hb⟩
  rw [PP.out]
  have B1 := Lib.hid hb
  have S1 := Lib.hid (S.out.below hb)
  have I1 := Lib.hid (I.out.below hb)
  clear hb
  cases p
  · go_wp2
    go_ret2
    exact ⟨by unfold DoHeightsFit_0 DoHeightsFit_1; rw [PP.out]; rfl, B1.out⟩
  go_wp2_with fail
  refine (l8Heights_any n _ _ _ hs _ I1.out).mono ?_
  rintro e w' ⟨rfl, rfl⟩
  rw [QQ.out]
  cases q
  · go_wp2
    go_ret2
    exact ⟨by unfold DoHeightsFit_0 DoHeightsFit_1; rw [PP.out, QQ.out]; rfl, B1.out⟩
  have hn := (areCl_iff.1 PP.out).2.1
  have hl := QQ.out
  unfold hgtB at hl
  simp only [Bool.and_eq_true, decide_eq_true_eq] at hl
  have hl2 := hl.2
  have hp0 : 0 < hs.length := by omega
  clear hl
  obtain ⟨y, hy⟩ : ∃ y, hs[0]? = some y := ⟨hs[0], List.getElem?_eq_getElem _⟩
  obtain ⟨b, o, rfl, _, hat⟩ := I1.out.at hp0
  have c0 := hat 0 y hy
  have Y := Lib.hid (show atI hs 0 = y from atI_some (k := 0) hy)
  have hi1 : (0 : Int) < (hs.length : Int) := by omega
  have E1 := Lib.hid (show DoHeightsFit_1 n xs hs = true from by unfold DoHeightsFit_1; rw [PP.out, QQ.out]; rfl)
  have E0 := Lib.hid (show DoHeightsFit_0 n xs hs = (decide (y = 0) && decide ((broken hs xs).length = 0)) from by unfold DoHeightsFit_0; rw [PP.out, QQ.out, Y.out]; rfl)
  clear hn hl2 hat hy
  simp only [Nat.add_zero] at c0
  by_cases hz : y = 0
  · have z1 : (y == 0) = true := by simp [hz]
    have Z := Lib.hid (decide_eq_true hz)
    clear hz
    go_wp2_with fail
    refine (l8Broken_any n _ _ _ xs _ _ _ hs _ S1.out I1.out PP.out QQ.out).mono ?_
    rintro e w2 ⟨v, rfl, hown, hb⟩
    have B2 := Lib.hid (Below.then' B1.out hb)
    obtain ⟨a2, c2, rfl, _, _⟩ := isInts_own hown
    obtain ⟨m, hm2⟩ : ∃ m, (broken hs xs).length = m := ⟨_, rfl⟩
    rw [hm2] at E0 ⊢
    have EM := Lib.hid (show decide (m = 0) = ((m : Int) == 0) from by rw [Bool.eq_iff_iff]; simp)
    clear hown hb hm2 c0
    go_wp2
    go_ret2
    exact ⟨by rw [E0.out, E1.out, Z.out, EM.out]; rfl, B2.out⟩
  · have z1 : (y == 0) = false := by simp [hz]
    have Z := Lib.hid (decide_eq_false hz)
    clear hz
    go_wp2
    go_ret2
    exact ⟨by rw [E0.out, E1.out, Z.out]; rfl, B1.out⟩
set_option maxHeartbeats 6400000 in
set_option maxRecDepth 100000 in
theorem specBrokenClaims_any (n : Int) (a : Option Addr) (len cap : Nat) (xs : List VClaim) (a' : Option Addr) (len' cap' : Nat) (hs : List Int) (w : World) (h : IsClaimS w a len cap xs) (_ : condClaim xs) (h' : IsInts w a' len' cap' hs) (_ : condInt hs) :
    Calls Try.prog 19 #[.int .i64 n, .slice a len cap, .slice a' len' cap'] w (BrokenClaims_Post n xs hs w) := by
  have S := Lib.hid h
  have I := Lib.hid h'
  clear h h'
  obtain ⟨p, hp⟩ : ∃ p, areCl n xs = p := ⟨_, rfl⟩
  obtain ⟨q, hq⟩ : ∃ q, hgtB n hs = q := ⟨_, rfl⟩
  have PP := Lib.hid hp
  have QQ := Lib.hid hq
  clear hp hq
  go_enter Try.func19, Try.ntmps19
  go_wp2_with fail
  refine (l8Good_any n _ _ _ xs _ S.out).mono ?_
  rintro e w1 ⟨rfl, hb⟩
  rw [PP.out]
  have B1 := Lib.hid hb
  have S1 := Lib.hid (S.out.below hb)
  have I1 := Lib.hid (I.out.below hb)
  have OE := Lib.hid (show OwnIntS w.heap.size (w1.alloc (.cells #[] 3)).heap.size (w1.alloc (.cells #[] 3)) (.slice (some ⟨w1.heap.size, 0, none⟩) 0 0) [] from OwnIn.of_row (ownsRow_base (made_ids w1) hb.size) (Nat.le_refl _) (Nat.le_refl _))
  have BE := Lib.hid (Below.then' hb (wh_al1 w1 (.cells #[] 3)))
  clear hb
  cases p
  · have E0 := Lib.hid (show BrokenClaims_0 n xs hs = [] from by unfold BrokenClaims_0; rw [PP.out]; rfl)
    go_wp2
    go_ret2
    exact ⟨_, by unfold BrokenClaims_1; rw [PP.out]; rfl, by rw [E0.out]; exact OE.out, BE.out⟩
  go_wp2_with fail
  refine (l8Heights_any n _ _ _ hs _ I1.out).mono ?_
  rintro e w' ⟨rfl, rfl⟩
  rw [QQ.out]
  cases q
  · have E0 := Lib.hid (show BrokenClaims_0 n xs hs = [] from by unfold BrokenClaims_0; rw [PP.out, QQ.out]; rfl)
    go_wp2
    go_ret2
    exact ⟨_, by unfold BrokenClaims_1; rw [PP.out, QQ.out]; rfl, by rw [E0.out]; exact OE.out, BE.out⟩
  have E0 := Lib.hid (show BrokenClaims_0 n xs hs = broken hs xs from by unfold BrokenClaims_0; rw [PP.out, QQ.out]; rfl)
  go_wp2_with fail
  refine (l8Broken_any n _ _ _ xs _ _ _ hs _ S1.out I1.out PP.out QQ.out).mono ?_
  rintro e w2 ⟨v, rfl, hown, hb⟩
  have B2 := Lib.hid (Below.then' B1.out hb)
  have O := Lib.hid (show OwnIntS w.heap.size w2.heap.size w2 v (broken hs xs) from OwnIn.of_row (ownsRow_base hown B1.out.size) (Nat.le_refl _) (Nat.le_refl _))
  clear hown hb
  go_wp2
  go_ret2
  exact ⟨_, by unfold BrokenClaims_1; rw [PP.out, QQ.out]; rfl, by rw [E0.out]; exact O.out, B2.out⟩
end Go.Proofs.Ytobpgoiaimlonaa
namespace Go.Proofs.Ytobpgoiaimlonaa
open Go.RowKit
theorem l1Least_any (x y : Int) (w : World) :
    Calls Try.prog 65 #[.int .i64 x, .int .i64 y] w fun e w' => e = .returned (.int .i64 (min x y)) ∧ w = w' := by
  by_cases h : x < y
  · go_enter Try.func65, Try.ntmps65
    go_wp2
    go_ret
    exact ⟨ret_int (by omega), rfl⟩
  · go_enter Try.func65, Try.ntmps65
    go_wp2
    go_ret
    exact ⟨ret_int (by omega), rfl⟩
theorem l1Most_any (x y : Int) (w : World) :
    Calls Try.prog 64 #[.int .i64 x, .int .i64 y] w fun e w' => e = .returned (.int .i64 (max x y)) ∧ w = w' := by
  by_cases h : y < x
  · go_enter Try.func64, Try.ntmps64
    go_wp2
    go_ret
    exact ⟨ret_int (by omega), rfl⟩
  · go_enter Try.func64, Try.ntmps64
    go_wp2
    go_ret
    exact ⟨ret_int (by omega), rfl⟩
end Go.Proofs.Ytobpgoiaimlonaa
namespace Go.Proofs.Ytobpgoiaimlonaa
open Go.RowKit
def ContoursBetween_Post (z0 : Int) (z1 : Int) (z2 : Int) (w : World) (e : Ending) (w' : World) : Prop :=
  e = .returned (.tuple #[.int .i64 (ContoursBetween_0 z0 z1 z2), .bool (ContoursBetween_1 z0 z1 z2)]) ∧ Below w.heap.size w w'
end Go.Proofs.Ytobpgoiaimlonaa
namespace Go.Proofs.Ytobpgoiaimlonaa
open Go.RowKit
theorem l8Floor_any (a b : Int) (w : World) (h0 : -200000 ≤ a) (h1 : a ≤ 200000) (h2 : 1 ≤ b) (h3 : b ≤ 1000) :
    Calls Try.prog 63 #[.int .i64 a, .int .i64 b] w fun e w' => e = .returned (.int .i64 (a / b)) ∧ w = w' := by
  have hb : ¬ b = 0 := by omega
  by_cases h : a < 0
  · have w1 : IntKind.i64.wrap (b - 1) = b - 1 := IntWalk.i64_in _ (by omega)
    have w2 : IntKind.i64.wrap (b - 1 - a) = b - 1 - a := IntWalk.i64_in _ (by omega)
    have q0 : (b - 1 - a).tdiv b = (b - 1 - a) / b := Int.tdiv_eq_ediv_of_nonneg (by omega)
    have q1 : 0 ≤ (b - 1 - a) / b := Int.ediv_nonneg (by omega) (by omega)
    have q2 : (b - 1 - a) / b ≤ b - 1 - a := Int.ediv_le_self _ (by omega)
    have w3 : IntKind.i64.wrap ((b - 1 - a).tdiv b) = (b - 1 - a) / b := by rw [q0]; exact IntWalk.i64_in _ (by omega)
    have w4 : IntKind.i64.wrap (-((b - 1 - a) / b)) = -((b - 1 - a) / b) := IntWalk.i64_in _ (by omega)
    have E : -((b - 1 - a) / b) = a / b := by
      have e1 := Int.emod_add_mul_ediv a b
      have e2 := Int.emod_nonneg a hb
      have e3 := Int.emod_lt_of_pos a (show 0 < b by omega)
      have : (b - 1 - a) / b = -(a / b) := by
        rw [show b - 1 - a = (b - 1 - a % b) + b * (-(a / b)) from by rw [Int.mul_neg]; omega, Int.add_mul_ediv_left _ _ hb, Int.ediv_eq_zero_of_lt (by omega) (by omega)]; omega
      omega
    have EE := Lib.hid E
    clear E
    go_enter Try.func63, Try.ntmps63
    go_wp2
    go_ret
    exact ⟨ret_int EE.out, rfl⟩
  · have q0 : a.tdiv b = a / b := Int.tdiv_eq_ediv_of_nonneg (by omega)
    have q1 : 0 ≤ a / b := Int.ediv_nonneg (by omega) (by omega)
    have q2 : a / b ≤ a := Int.ediv_le_self _ (by omega)
    have w3 : IntKind.i64.wrap (a.tdiv b) = a / b := by rw [q0]; exact IntWalk.i64_in _ (by omega)
    go_enter Try.func63, Try.ntmps63
    go_wp2
    go_ret
    exact ⟨rfl, rfl⟩
set_option maxHeartbeats 3200000 in
theorem specContoursBetween_any (a b s : Int) (w : World) :
    Calls Try.prog 23 #[.int .i64 a, .int .i64 b, .int .i64 s] w (ContoursBetween_Post a b s w) := by
  obtain ⟨p, hp⟩ : ∃ p, inB a (-200000) 200000 = p := ⟨_, rfl⟩
  obtain ⟨q, hq⟩ : ∃ q, inB b (-200000) 200000 = q := ⟨_, rfl⟩
  obtain ⟨r, hr⟩ : ∃ r, inB s 1 1000 = r := ⟨_, rfl⟩
  have PP := Lib.hid hp
  have QQ := Lib.hid hq
  have RR := Lib.hid hr
  have C := Lib.hid (show ctB a b s = (p && (q && r)) from by unfold ctB; rw [hp, hq, hr])
  clear hp hq hr
  go_enter Try.func23, Try.ntmps23
  go_wp2_with fail
  refine (l1In_any _ _ _ _).mono ?_
  rintro e w' ⟨rfl, rfl⟩
  rw [PP.out]
  cases p
  · go_wp2
    go_ret2
    exact ⟨by unfold ContoursBetween_0 ContoursBetween_1; rw [C.out]; rfl, Below.refl _ _⟩
  go_wp2_with fail
  refine (l1In_any _ _ _ _).mono ?_
  rintro e w' ⟨rfl, rfl⟩
  rw [QQ.out]
  cases q
  · go_wp2
    go_ret2
    exact ⟨by unfold ContoursBetween_0 ContoursBetween_1; rw [C.out]; rfl, Below.refl _ _⟩
  go_wp2_with fail
  refine (l1In_any _ _ _ _).mono ?_
  rintro e w' ⟨rfl, rfl⟩
  rw [RR.out]
  cases r
  · go_wp2
    go_ret2
    exact ⟨by unfold ContoursBetween_0 ContoursBetween_1; rw [C.out]; rfl, Below.refl _ _⟩
  have h1 := inB_iff.1 PP.out
  have h2 := inB_iff.1 QQ.out
  have h3 := inB_iff.1 RR.out
  have E := Lib.hid (show ContoursBetween_0 a b s = max a b / s - min a b / s from by unfold ContoursBetween_0; rw [C.out]; rfl)
  obtain ⟨x, hx⟩ : ∃ x, max a b = x := ⟨_, rfl⟩
  obtain ⟨y, hy⟩ : ∃ y, min a b = y := ⟨_, rfl⟩
  have X := Lib.hid hx
  have Y := Lib.hid hy
  have bx : -200000 ≤ x ∧ x ≤ 200000 := by omega
  have bY : -200000 ≤ y ∧ y ≤ 200000 := by omega
  rw [hx, hy] at E
  clear hx hy h1 h2
  have fb : ∀ z : Int, -200000 ≤ z ∧ z ≤ 200000 → -200000 ≤ z / s ∧ z / s ≤ 200000 := fun z hz => by
    have e1 := Int.emod_add_mul_ediv z s
    have e2 := Int.emod_nonneg z (show s ≠ 0 by omega)
    have e3 := Int.emod_lt_of_pos z (show 0 < s by omega)
    constructor
    · refine Classical.byContradiction fun hn => ?_
      have : s * (z / s) ≤ 1 * (z / s) := Int.mul_le_mul_of_nonpos_right (by omega) (by omega)
      have : s * (z / s) ≤ s * (-200001) := Int.mul_le_mul_of_nonneg_left (by omega) (by omega)
      omega
    · refine Classical.byContradiction fun hn => ?_
      have : 1 * (z / s) ≤ s * (z / s) := Int.mul_le_mul_of_nonneg_right (by omega) (by omega)
      omega
  have f1 := fb x bx
  have f2 := fb y bY
  obtain ⟨u, hu⟩ : ∃ u, x / s = u := ⟨_, rfl⟩
  obtain ⟨v, hv⟩ : ∃ v, y / s = v := ⟨_, rfl⟩
  rw [hu] at f1 E
  rw [hv] at f2 E
  have U := Lib.hid hu
  have V := Lib.hid hv
  have wd : IntKind.i64.wrap (u - v) = u - v := IntWalk.i64_in _ (by omega)
  clear fb hu hv
  go_wp2_with fail
  refine (l1Most_any _ _ _).mono ?_
  rintro e w' ⟨rfl, rfl⟩
  rw [X.out]
  go_wp2_with fail
  refine (l8Floor_any _ _ _ bx.1 bx.2 h3.1 h3.2).mono ?_
  rintro e w' ⟨rfl, rfl⟩
  rw [U.out]
  go_wp2_with fail
  refine (l1Least_any _ _ _).mono ?_
  rintro e w' ⟨rfl, rfl⟩
  rw [Y.out]
  go_wp2_with fail
  refine (l8Floor_any _ _ _ bY.1 bY.2 h3.1 h3.2).mono ?_
  rintro e w' ⟨rfl, rfl⟩
  rw [V.out]
  go_wp2
  go_ret2
  exact ⟨by rw [E.out]; unfold ContoursBetween_1; rw [C.out]; rfl, Below.refl _ _⟩
end Go.Proofs.Ytobpgoiaimlonaa
