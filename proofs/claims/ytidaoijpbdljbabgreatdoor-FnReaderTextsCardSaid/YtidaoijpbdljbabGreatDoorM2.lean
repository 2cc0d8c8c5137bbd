/- Texts in one: Up, Sheet, Rd, Rd2, RdD, Ri, Ints, RdP. -/
import Derived.Test.YtidaoijpbdljbabGreatDoorM1
import Derived.Deep.RegionWith
import Derived.Lib.QuietBelow
import Derived.Laws.OwnMore
namespace Go.Proofs.YtidaoijpbdljbabGreatDoor
section
variable {α : Type}

/-- The index of the first element that fits, or -1. -/
def firstOf (f : α → Bool) : List α → Int
  | [] => -1
  | s :: l => if f s = true then 0 else if firstOf f l < 0 then -1 else firstOf f l + 1
theorem firstOf_cases (f : α → Bool) (xs : List α) : (firstOf f xs = -1 ∧ ∀ s ∈ xs, f s = false) ∨ ∃ (i : Nat) (s : α), firstOf f xs = (i : Int) ∧ xs[i]? = some s ∧ f s = true ∧ ∀ (j : Nat) t, j < i → xs[j]? = some t → f t = false := by
  induction xs with
  | nil => exact .inl ⟨rfl, by simp⟩
  | cons x l ih =>
    by_cases h : f x = true
    · exact .inr ⟨0, x, by simp [firstOf, h], rfl, h, by omega⟩
    · have h' : f x = false := by simpa using h
      rcases ih with ⟨h1, h2⟩ | ⟨i, s, h1, h2, h3, h4⟩
      · exact .inl ⟨by simp [firstOf, h', h1], by simpa [h'] using h2⟩
      · refine .inr ⟨i + 1, s, by simp [firstOf, h', h1]; omega, h2, h3, fun j t hj ht => ?_⟩
        match j, ht with
        | 0, ht => simp at ht; rw [← ht]; exact h'
        | j + 1, ht => exact h4 j t (by omega) ht
theorem firstOf_at {f : α → Bool} {xs : List α} {i : Nat} {s : α} (hs : xs[i]? = some s) (hf : f s = true) (hb : ∀ (j : Nat) t, j < i → xs[j]? = some t → f t = false) : firstOf f xs = (i : Int) := by
  rcases firstOf_cases f xs with ⟨_, h2⟩ | ⟨i', s', h1, h2, h3, h4⟩
  · rw [h2 s (List.mem_of_getElem? hs)] at hf; cases hf
  · rw [h1]
    have : i' = i := by
      rcases Nat.lt_trichotomy i i' with h | h | h
      · rw [h4 i s h hs] at hf; cases hf
      · exact h.symm
      · rw [hb i' s' h h2] at h3; cases h3
    rw [this]
theorem firstOf_none {f : α → Bool} {xs : List α} (h : ∀ s ∈ xs, f s = false) : firstOf f xs = -1 := by
  rcases firstOf_cases f xs with ⟨h1, _⟩ | ⟨i, s, _, h2, h3, _⟩
  · exact h1
  · rw [h s (List.mem_of_getElem? h2)] at h3; cases h3
theorem firstOf_no {f : α → Bool} {xs : List α} (h : ∀ (j : Nat) t, j < xs.length → xs[j]? = some t → f t = false) : firstOf f xs = -1 :=
  firstOf_none fun s hs => by
    obtain ⟨j, hj⟩ := List.getElem?_of_mem hs
    exact h j s (List.getElem?_eq_some_iff.1 hj).1 hj
theorem firstOf_bd (f : α → Bool) (xs : List α) : -1 ≤ firstOf f xs ∧ firstOf f xs < (xs.length : Int) := by
  rcases firstOf_cases f xs with ⟨h1, _⟩ | ⟨i, s, h1, h2, _⟩
  · omega
  · have := (List.getElem?_eq_some_iff.1 h2).1; omega

/-- Is the element i right: valid, and its number greater than that of the one before? -/
def upStep (ok : α → Bool) (id : α → Int) (xs : List α) (i : Nat) : Bool :=
  match xs[i]? with
  | none => true
  | some s => ok s && (i == 0 || (match xs[i - 1]? with | some p => decide (id p < id s) | none => true))
def upB (ok : α → Bool) (id : α → Int) (xs : List α) : Bool := (List.range xs.length).all (upStep ok id xs)
variable {ok : α → Bool} {id : α → Int} {xs : List α}
theorem upB_iff : upB ok id xs = true ↔ ∀ i, i < xs.length → upStep ok id xs i = true := by simp [upB]
theorem upB_bad {i : Nat} (h : upStep ok id xs i = false) (hi : i < xs.length) : upB ok id xs = false := by
  by_cases h2 : upB ok id xs = true
  · rw [upB_iff.1 h2 i hi] at h; cases h
  · simpa using h2
theorem upStep_zero {s : α} (hs : xs[0]? = some s) : upStep ok id xs 0 = ok s := by unfold upStep; rw [hs]; simp
theorem upStep_succ {i : Nat} {p s : α} (hp : xs[i]? = some p) (hs : xs[i + 1]? = some s) : upStep ok id xs (i + 1) = (ok s && decide (id p < id s)) := by
  unfold upStep; rw [hs]; simp [hp]
theorem upStep_at {i : Nat} {p s : α} (h : 0 < i) (hp : xs[i - 1]? = some p) (hs : xs[i]? = some s) : upStep ok id xs i = (ok s && decide (id p < id s)) := by
  obtain ⟨j, rfl⟩ : ∃ j, i = j + 1 := ⟨i - 1, by omega⟩
  exact upStep_succ hp hs
theorem upB_ok (h : upB ok id xs = true) {s : α} (hs : s ∈ xs) : ok s = true := by
  obtain ⟨i, hi⟩ := List.getElem?_of_mem hs
  have h1 := upB_iff.1 h i (List.getElem?_eq_some_iff.1 hi).1
  unfold upStep at h1
  rw [hi] at h1
  simp at h1
  exact h1.1
theorem upB_lt (h : upB ok id xs = true) : ∀ (j i : Nat) (s t : α), i < j → xs[i]? = some s → xs[j]? = some t → id s < id t := by
  intro j
  induction j with
  | zero => intro i s t hi; omega
  | succ j ih =>
    intro i s t hij hs ht
    have hl := (List.getElem?_eq_some_iff.1 ht).1
    obtain ⟨p, hp⟩ : ∃ p, xs[j]? = some p := ⟨xs[j]'(by omega), List.getElem?_eq_getElem _⟩
    have hpt : id p < id t := by
      have h1 := upB_iff.1 h (j + 1) hl
      rw [upStep_succ hp ht] at h1
      simp at h1
      exact h1.2
    by_cases e : i = j
    · subst e; rw [hs] at hp; cases hp; exact hpt
    · exact Int.lt_trans (ih i s p (by omega) hs hp) hpt
theorem upB_same (h : upB ok id xs = true) {s t : α} (hs : s ∈ xs) (ht : t ∈ xs) (e : id s = id t) : s = t := by
  obtain ⟨i, hi⟩ := List.getElem?_of_mem hs
  obtain ⟨j, hj⟩ := List.getElem?_of_mem ht
  rcases Nat.lt_trichotomy i j with h1 | h1 | h1
  · have := upB_lt h j i s t h1 hi hj; omega
  · subst h1; rw [hi] at hj; exact Option.some.inj hj
  · have := upB_lt h i j t s h1 hj hi; omega
/-- Where the element with a number stands. -/
theorem upB_first (h : upB ok id xs = true) {i : Nat} {s : α} (hs : xs[i]? = some s) : firstOf (fun t => id t == id s) xs = (i : Int) :=
  firstOf_at hs (by simp) fun j t hj ht => by
    have := upB_lt h i j t s hj ht hs
    simp; omega
theorem filter_snoc' {k : Nat} {s : α} (f : α → Bool) (hs : xs[k]? = some s) : (xs.take (k + 1)).filter f = (xs.take k).filter f ++ (if f s = true then [s] else []) := by
  rw [List.take_add_one, hs, List.filter_append]
  cases h : f s <;> simp [h]
theorem filter_len' (f : α → Bool) (xs : List α) (k : Nat) : ((xs.take k).filter f).length ≤ k := Nat.le_trans (List.length_filter_le _ _) (by rw [List.length_take]; omega)
end
end Go.Proofs.YtidaoijpbdljbabGreatDoor
namespace Go.Proofs.YtidaoijpbdljbabGreatDoor
open Go.RowKit

/-- Lies x in a .. b? -/
def inB (x a b : Int) : Bool := decide (a ≤ x) && decide (x ≤ b)
theorem inB_iff {x a b : Int} : inB x a b = true ↔ a ≤ x ∧ x ≤ b := by simp [inB]
theorem inB_not {x a b : Int} : inB x a b = false ↔ ¬ (a ≤ x ∧ x ≤ b) := by rw [← inB_iff]; simp
/-- A sheet's five numbers. -/
structure Sh where
  id : Int
  row : Int
  col : Int
  scale : Int
  year : Int
/-- Is the sheet valid? -/
def Sh.ok (s : Sh) : Bool := inB s.id 1 999 && (inB s.row 0 99 && (inB s.col 0 99 && (inB s.scale 10 500 && inB s.year 1500 2100)))

set_option maxHeartbeats 400000 in
theorem l1In_any (x a b : Int) (w : World) :
    Calls Tryz.prog 56 #[.int .i64 x, .int .i64 a, .int .i64 b] w fun e w' => e = .returned (.bool (inB x a b)) ∧ w = w' := by
  by_cases h : a ≤ x
  · go_enter Tryz.func56, Tryz.ntmps56
    go_wp2
    go_ret
    exact ⟨ret_bool (by simp [inB, h]), rfl⟩
  · go_enter Tryz.func56, Tryz.ntmps56
    go_wp2
    go_ret
    exact ⟨ret_bool (by simp [inB]; omega), rfl⟩
theorem bel_alloc1 (w : World) (o : Obj) : Below w.heap.size w (w.alloc o) := (Below.refl _ _).alloc (Nat.le_refl _) o

theorem all_snoc (zs : List Int) (k : Nat) (z lo hi : Int) (h : zs[k]? = some z) : ((zs.take (k + 1)).all fun z => inB z lo hi) = (((zs.take k).all fun z => inB z lo hi) && inB z lo hi) := by
  rw [List.take_add_one, h]; simp
set_option maxHeartbeats 400000 in
/-- Are all numbers of a slice in lo .. hi? -/
theorem areInRange_any (b n c : Nat) (zs : List Int) (lo hi : Int) (w : World) (hn : n = zs.length) (hm : n ≤ 1000000) (hc : ∀ (j : Nat) z, zs[j]? = some z → w.cell? ⟨b, j, none⟩ = some (.int .i64 z)) :
    Calls Tryz.prog 28 #[.int .i64 lo, .int .i64 hi, .slice (some ⟨b, 0, none⟩) n c] w fun e w' => e = .returned (.bool (zs.all fun z => inB z lo hi)) ∧ w = w' := by
  have C := Lib.hid hc
  have L := Lib.hid hn
  clear hc hn
  go_enter Tryz.func28, Tryz.ntmps28
  go_wp2
  go_loop [11, 8] (fun i _ => ∃ k : Nat, k ≤ n ∧ i = .int .i64 k ∧ ((zs.take k).all fun z => inB z lo hi) = true) (fun i _ => n - (intOf i).toNat)
  case atStart => exact ⟨0, Nat.zero_le _, rfl, rfl⟩
  case round =>
    obtain ⟨k, hk, rfl, hall⟩ := hrel
    have H := Lib.hid hall
    clear hall
    by_cases hlt : k < n
    · obtain ⟨z, hz⟩ : ∃ z, zs[k]? = some z := ⟨zs[k]'(by have := L.out; omega), List.getElem?_eq_getElem _⟩
      have hcell := C.out k z hz
      have S := Lib.hid (all_snoc zs k z lo hi hz)
      have T := Lib.hid (List.mem_of_getElem? hz)
      clear hz
      by_cases hin : inB z lo hi = true
      · obtain ⟨h1, h2⟩ := inB_iff.1 hin
        have I := Lib.hid hin
        clear hin
        go_wp2
        go_round
        case rel => exact ⟨k + 1, by omega, by go_num, by rw [S.out, H.out, I.out]; rfl⟩
        case measure => simp [intOf]; omega
      · have hin' : inB z lo hi = false := by simpa using hin
        have h1 := inB_not.1 hin'
        have I := Lib.hid hin'
        have hF : (zs.all fun z => inB z lo hi) = false := by
          rw [List.all_eq_false]; exact ⟨z, T.out, by simp [I.out]⟩
        have F := Lib.hid hF
        clear hin hin' hF
        by_cases h2 : z < lo
        · clear h1
          go_wp2
          go_ret
          exact ⟨ret_bool F.out.symm, rfl⟩
        · have h3 : hi < z := by omega
          clear h1
          go_wp2
          go_ret
          exact ⟨ret_bool F.out.symm, rfl⟩
    · obtain rfl : k = n := by omega
      go_wp2
      go_ret
      exact ⟨ret_bool (by rw [← H.out, List.take_of_length_le (by have := L.out; omega)]), rfl⟩

theorem lit1 (W : World) (x : Int) (t : TypeId) (B : Nat) (hB : W.heap.size = B) : ∀ (j : Nat) z, [x][j]? = some z → (W.alloc (.cells #[.int .i64 x] t)).cell? ⟨B, j, none⟩ = some (.int .i64 z) := by
  intro j z hj
  subst hB
  match j, hj with
  | 0, hj => simp at hj; subst hj; simp [World.cell?_alloc_new]
  | j + 1, hj => simp at hj
theorem lit2 (W : World) (x y : Int) (t : TypeId) (B : Nat) (hB : W.heap.size = B) : ∀ (j : Nat) z, [x, y][j]? = some z → (W.alloc (.cells #[.int .i64 x, .int .i64 y] t)).cell? ⟨B, j, none⟩ = some (.int .i64 z) := by
  intro j z hj
  subst hB
  match j, hj with
  | 0, hj => simp at hj; subst hj; simp [World.cell?_alloc_new]
  | 1, hj => simp at hj; subst hj; simp [World.cell?_alloc_new]
  | j + 2, hj => simp at hj
theorem size_alloc (W : World) (o : Obj) : (W.alloc o).heap.size = W.heap.size + 1 := by
  show (W.heap.push o).size = _
  simp

end Go.Proofs.YtidaoijpbdljbabGreatDoor
namespace Go.Proofs.YtidaoijpbdljbabGreatDoor
open Go.RowKit

def lowB (c : UInt8) : Bool := decide (97 ≤ c.toNat) && decide (c.toNat ≤ 122)
/-- Is the text a word? -/
def wordB (s : ByteArray) : Bool := s.data.toList.all lowB && inB s.size 1 10
def dayB (d : Int) : Bool := inB d 0 4000
def VReader.ok (s : VReader) : Bool := inB s.Id 1 999 && (wordB s.Name && (dayB s.Joined && (inB s.Class 1 3 && inB s.Fines 0 10000)))
def rdUp (xs : List VReader) : Bool := upB VReader.ok VReader.Id xs
def areRd (xs : List VReader) : Bool := rdUp xs && decide (xs.length ≤ 10)
/-- Where the reader with an id stands, or -1. -/
def rdFind (xs : List VReader) (id : Int) : Int := if areRd xs = true then firstOf (fun s => s.Id == id) xs else -1

set_option maxHeartbeats 800000 in
theorem l2Word_any (s : ByteArray) (w : World) (hs : s.size ≤ maxLen) :
    Calls Tryz.prog 59 #[.string s] w fun e w' => e = .returned (.bool (wordB s)) ∧ w = w' := by
  unfold maxLen at hs
  go_enter Tryz.func59, Tryz.ntmps59
  go_wp2
  go_loop [3] (fun i => ∃ k : Nat, k ≤ s.size ∧ i = .int .i64 k ∧ (s.data.toList.take k).all lowB = true) (fun i => s.size - (intOf i).toNat)
  case atStart => exact ⟨0, Nat.zero_le _, rfl, rfl⟩
  case round =>
    obtain ⟨k, hk, rfl, hall⟩ := hrel
    have A := Lib.hid hall
    clear hall
    by_cases hlt : k < s.size
    · have T := Lib.hid (take_snoc s k hlt)
      by_cases h1 : 97 ≤ (s[k].toNat : Int)
      · by_cases h2 : (s[k].toNat : Int) ≤ 122
        · have LO := Lib.hid (show (s.data.toList.take (k + 1)).all lowB = true from by
            rw [T.out, List.all_append, A.out]; simp [lowB]; omega)
          go_wp2
          go_round
          case rel => exact ⟨k + 1, by omega, by go_num, LO.out⟩
          case measure => simp [intOf]; omega
        · have NO := Lib.hid (show wordB s = false from by
            have h : s.data.toList.all lowB = false := by
              rw [List.all_eq_false]
              exact ⟨s[k], List.mem_of_getElem? (i := k) (by simp [hlt]; rfl), by simp [lowB]; omega⟩
            unfold wordB; rw [h]; rfl)
          go_wp2
          go_ret
          exact ⟨ret_bool NO.out.symm, rfl⟩
      · have NO := Lib.hid (show wordB s = false from by
          have h : s.data.toList.all lowB = false := by
            rw [List.all_eq_false]
            exact ⟨s[k], List.mem_of_getElem? (i := k) (by simp [hlt]; rfl), by simp [lowB]; omega⟩
          unfold wordB; rw [h]; rfl)
        have h3 : (s[k].toNat : Int) < 97 := by omega
        go_wp2
        go_ret
        exact ⟨ret_bool NO.out.symm, rfl⟩
    · obtain rfl : k = s.size := by omega
      have E := Lib.hid (show wordB s = inB s.size 1 10 from by
        have h := A.out
        rw [take_all] at h
        unfold wordB; rw [h]; rfl)
      go_wp2_with fail
      refine (l1In_any _ _ _ _).mono ?_
      rintro e w' ⟨rfl, rfl⟩
      rw [← E.out]
      go_wp2
      go_ret
      exact ⟨rfl, rfl⟩
theorem l2Day_any (d : Int) (w : World) :
    Calls Tryz.prog 60 #[.int .i64 d] w fun e w' => e = .returned (.bool (dayB d)) ∧ w = w' := by
  go_enter Tryz.func60, Tryz.ntmps60
  go_wp2_with fail
  refine (l1In_any _ _ _ _).mono ?_
  rintro e w' ⟨rfl, rfl⟩
  go_wp2
  go_ret
  exact ⟨rfl, rfl⟩
set_option maxHeartbeats 1600000 in
theorem l3One_any (s : VReader) (w : World) (hs : s.small) :
    Calls Tryz.prog 26 #[.agg #[.int .i64 s.Id, .string s.Name, .int .i64 s.Joined, .int .i64 s.Class, .int .i64 s.Fines]] w fun e w' => e = .returned (.bool s.ok) ∧ Below w.heap.size w w' := by
  obtain ⟨q1, h1⟩ : ∃ q, wordB s.Name = q := ⟨_, rfl⟩
  obtain ⟨q2, h2⟩ : ∃ q, dayB s.Joined = q := ⟨_, rfl⟩
  have H1 := Lib.hid h1
  have H2 := Lib.hid h2
  have SM := Lib.hid hs
  clear h1 h2 hs
  go_enter Tryz.func26, Tryz.ntmps26
  go_wp2_with (first | (go_at_call 56; refine (l1In_any _ _ _ _).mono ?_; rintro e w' ⟨rfl, rfl⟩) | (go_at_call 59; refine (l2Word_any _ _ SM.out).mono ?_; rintro e w' ⟨rfl, rfl⟩; rw [H1.out]) | (go_at_call 60; refine (l2Day_any _ _).mono ?_; rintro e w' ⟨rfl, rfl⟩; rw [H2.out]))
  all_goals go_ret
  all_goals exact ⟨ret_bool (by unfold VReader.ok; rw [H1.out, H2.out]; simp [*]), bel_al1 _ _⟩
end Go.Proofs.YtidaoijpbdljbabGreatDoor
namespace Go.Proofs.YtidaoijpbdljbabGreatDoor
open Go.RowKit

theorem at_of {α : Type} {xs : List α} {len k : Nat} (hl : Hid (len = xs.length)) (hk : k < len) : ∃ s, xs[k]? = some s := ⟨xs[k]'(by have := hl.out; omega), List.getElem?_eq_getElem _⟩
theorem all_succ' {P : Nat → Prop} {k : Nat} (h : ∀ j, j < k → P j) (h1 : P k) : ∀ j, j < k + 1 → P j := by
  intro j hj
  by_cases e : j = k
  · subst e; exact h1
  · exact h j (by omega)
/-- Why an element is right, or not. -/
theorem step_ways {α : Type} {ok : α → Bool} {id : α → Int} {xs : List α} {k : Nat} {s : α} (hs : xs[k]? = some s) :
    (ok s = false ∧ upStep ok id xs k = false) ∨ (ok s = true ∧ k = 0 ∧ upStep ok id xs k = true) ∨ (ok s = true ∧ ∃ j p, k = j + 1 ∧ xs[j]? = some p ∧ ((¬ id s ≤ id p ∧ upStep ok id xs k = true) ∨ (id s ≤ id p ∧ upStep ok id xs k = false))) := by
  match k, hs with
  | 0, hs =>
    rw [upStep_zero hs]
    cases h : ok s
    · exact .inl ⟨rfl, rfl⟩
    · exact .inr (.inl ⟨rfl, rfl, rfl⟩)
  | j + 1, hs =>
    have hl := (List.getElem?_eq_some_iff.1 hs).1
    have hp : xs[j]? = some xs[j] := List.getElem?_eq_getElem (by omega)
    rw [upStep_succ hp hs]
    cases h : ok s
    · exact .inl ⟨rfl, rfl⟩
    · refine .inr (.inr ⟨rfl, j, xs[j], rfl, hp, ?_⟩)
      by_cases h2 : id s ≤ id xs[j]
      · exact .inr ⟨h2, by simp; omega⟩
      · exact .inl ⟨h2, by simp; omega⟩
set_option maxHeartbeats 3200000 in
set_option maxRecDepth 100000 in
theorem l3Good_any (a : Option Addr) (len cap : Nat) (xs : List VReader) (w : World) (h : IsReaderS w a len cap xs) :
    Calls Tryz.prog 55 #[.slice a len cap] w fun e w' => e = .returned (.bool (areRd xs)) ∧ Below w.heap.size w w' := by
  have hm := h.2.2.1
  have hcl := h.2.1
  unfold maxLen at hm
  have S := Lib.hid h
  have L := Lib.hid h.1
  clear h
  go_enter Tryz.func55, Tryz.ntmps55
  go_wp2
  go_loopw [3] (fun i wr => ∃ k : Nat, k ≤ len ∧ i = .int .i64 k ∧ Below w.heap.size w wr ∧ ∀ j, j < k → upStep VReader.ok VReader.Id xs j = true) (fun i _ => len - (intOf i).toNat)
  case atStart => exact ⟨0, Nat.zero_le _, rfl, Below.refl _ _, by omega⟩
  case round =>
    obtain ⟨k, hk, rfl, hbel, hall⟩ := hrel
    have A := Lib.hid hall
    have B := Lib.hid hbel
    clear hall
    by_cases hlt : k < len
    · obtain ⟨s, hs⟩ := at_of L hlt
      obtain ⟨b, o, rfl, hb, hat⟩ := (S.out.below hbel).at (by omega)
      obtain ⟨c0, c1, c2, c3, c4, hsm⟩ := hat k s hs
      have K := Lib.hid hs
      have SM := Lib.hid hsm
      have k0 := cell_regrown c0
      have k1 := cell_regrown c1
      have k2 := cell_regrown c2
      have k3 := cell_regrown c3
      have k4 := cell_regrown c4
      clear hsm c0 c1 c2 c3 c4 hbel
      have hi0 : (0 : Int) ≤ (k : Int) := by omega
      have hi1 : (k : Int) < (len : Int) := by omega
      rcases step_ways (ok := VReader.ok) (id := VReader.Id) hs with ⟨h1, h2⟩ | ⟨h1, rfl, h2⟩ | ⟨h1, j, p, rfl, hp, h2⟩
      · have cQ := below_at (W := wr) (fun W' _ => h1 ▸ l3One_any s W' SM.out)
        have Z := Lib.hid h2
        clear h1 h2 hs hat
        go_wp2
        refine wp_region_quiet_below (by kernel_rfl) (by kernel_rfl) ?_
        repeat (first | go_big_quiet_step (exact cQ _ _) | quiet_step (exact cQ _ _))
        refine wpQuiet_nil ?_
        intro W2 hw2
        have B2 := Lib.hid (Below.then' B.out (below_of_re hw2))
        clear hw2 cQ k0 k1 k2 k3 k4
        go_wp2
        go_ret
        exact ⟨ret_bool (by unfold areRd rdUp; rw [upB_bad Z.out (by have := L.out; omega)]; rfl), B2.out⟩
      · have cQ := below_at (W := wr) (fun W' _ => h1 ▸ l3One_any s W' SM.out)
        have Z := Lib.hid h2
        clear k0 k1 k2 k3 k4
        obtain ⟨c0, c1, c2, c3, c4, _⟩ := hat 0 s hs
        simp only [Nat.zero_mul, Nat.add_zero] at c0 c1 c2 c3 c4
        have k0 := cell_regrown c0
        have k1 := cell_regrown c1
        have k2 := cell_regrown c2
        have k3 := cell_regrown c3
        have k4 := cell_regrown c4
        clear h1 h2 hs hat c0 c1 c2 c3 c4
        go_wp2
        refine wp_region_quiet_below (by kernel_rfl) (by kernel_rfl) ?_
        repeat (first | go_big_quiet_step (exact cQ _ _) | quiet_step (exact cQ _ _))
        refine wpQuiet_nil ?_
        intro W2 hw2
        have B2 := Lib.hid (Below.then' B.out (below_of_re hw2))
        clear hw2 cQ k0 k1 k2 k3 k4
        go_wp2
        go_roundw
        case rel => exact ⟨1, by omega, by go_num, B2.out, all_succ' A.out Z.out⟩
        case measure => simp [intOf]; omega
      · have cQ := below_at (W := wr) (fun W' _ => h1 ▸ l3One_any s W' SM.out)
        obtain ⟨p0, _⟩ := hat j p hp
        have q0 := cell_regrown p0
        have hp0 : (0 : Int) ≤ (j : Int) := by omega
        have hp1 : (j : Int) < (len : Int) := by omega
        clear h1 hs hat hp p0
        rcases h2 with ⟨h2, h3⟩ | ⟨h2, h3⟩
        · have Z := Lib.hid h3
          clear h3
          go_wp2
          refine wp_region_quiet_below (by kernel_rfl) (by kernel_rfl) ?_
          repeat (first | go_big_quiet_step (exact cQ _ _) | quiet_step (exact cQ _ _))
          refine wpQuiet_nil ?_
          intro W2 hw2
          have B2 := Lib.hid (Below.then' B.out (below_of_re hw2))
          clear hw2 cQ k0 k1 k2 k3 k4 q0
          go_wp2
          go_roundw
          case rel => exact ⟨j + 1 + 1, by omega, by go_num, B2.out, all_succ' A.out Z.out⟩
          case measure => simp [intOf]; omega
        · have Z := Lib.hid h3
          clear h3
          go_wp2
          refine wp_region_quiet_below (by kernel_rfl) (by kernel_rfl) ?_
          repeat (first | go_big_quiet_step (exact cQ _ _) | quiet_step (exact cQ _ _))
          refine wpQuiet_nil ?_
          intro W2 hw2
          have B2 := Lib.hid (Below.then' B.out (below_of_re hw2))
          clear hw2 cQ k0 k1 k2 k3 k4 q0
          go_wp2
          go_ret
          exact ⟨ret_bool (by unfold areRd rdUp; rw [upB_bad Z.out (by have := L.out; omega)]; rfl), B2.out⟩
    · obtain rfl : k = len := by omega
      have U := Lib.hid (show areRd xs = decide (k ≤ 10) from by
        unfold areRd rdUp
        rw [upB_iff.2 (fun i hi => A.out i (by have := L.out; omega)), L.out]; rfl)
      clear hbel
      go_wp2
      go_ret
      exact ⟨ret_bool (by rw [U.out]; simp; omega), B.out⟩
set_option maxHeartbeats 3200000 in
set_option maxRecDepth 100000 in
theorem l3Find_any (a : Option Addr) (len cap : Nat) (xs : List VReader) (id : Int) (w : World) (h : IsReaderS w a len cap xs) :
    Calls Tryz.prog 42 #[.slice a len cap, .int .i64 id] w fun e w' => e = .returned (.int .i64 (rdFind xs id)) ∧ Below w.heap.size w w' := by
  have hm := h.2.2.1
  have hcl := h.2.1
  unfold maxLen at hm
  have S := Lib.hid h
  have L := Lib.hid h.1
  clear h
  obtain ⟨q, hq⟩ : ∃ q, areRd xs = q := ⟨_, rfl⟩
  have Q := Lib.hid hq
  clear hq
  go_enter Tryz.func42, Tryz.ntmps42
  go_wp2
  go_loopw [5] (fun i wr => ∃ k : Nat, k ≤ len ∧ i = .int .i64 k ∧ Below w.heap.size w wr ∧ ∀ j t, j < k → xs[j]? = some t → ¬ t.Id = id) (fun i _ => len - (intOf i).toNat)
  case atStart => exact ⟨0, Nat.zero_le _, rfl, Below.refl _ _, fun _ _ h => by omega⟩
  case round =>
    obtain ⟨k, hk, rfl, hbel, hall⟩ := hrel
    have A := Lib.hid hall
    have B := Lib.hid hbel
    clear hall
    by_cases hlt : k < len
    · have hi0 : (0 : Int) ≤ (k : Int) := by omega
      have hi1 : (k : Int) < (len : Int) := by omega
      clear hbel
      go_wp2_with fail
      refine (l3Good_any _ _ _ xs _ (S.out.below B.out)).mono ?_
      rintro e w2 ⟨rfl, hb2⟩
      rw [Q.out]
      have B2 := Lib.hid (Below.then' B.out hb2)
      clear hb2
      cases q
      · go_wp2
        go_ret
        exact ⟨ret_int (by unfold rdFind; rw [Q.out]; rfl), B2.out⟩
      · obtain ⟨s, hs⟩ := at_of L hlt
        obtain ⟨b, o, rfl, hb, hat⟩ := (S.out.below B2.out).at (by omega)
        obtain ⟨c0, _⟩ := hat k s hs
        have HS := Lib.hid hs
        clear hs hat
        by_cases he : s.Id = id
        · have R := Lib.hid (show rdFind xs id = (k : Int) from by
            unfold rdFind; rw [Q.out, if_pos rfl]
            exact firstOf_at HS.out (by simpa using he) (fun j t hj ht => by simpa using A.out j t hj ht))
          have hb1 : (s.Id == id) = true := by simpa using he
          have HE := Lib.hid he
          subst he
          go_wp2
          go_ret
          exact ⟨ret_int R.out.symm, B2.out⟩
        · have hb1 : (s.Id == id) = false := by simpa using he
          have HE := Lib.hid he
          clear he
          go_wp2
          go_roundw
          case rel => exact ⟨k + 1, by omega, by go_num, B2.out, fun j t hj ht => by
            by_cases e : j = k
            · subst e; rw [HS.out] at ht; cases ht; exact HE.out
            · exact A.out j t (by omega) ht⟩
          case measure => simp [intOf]; omega
    · obtain rfl : k = len := by omega
      have R := Lib.hid (show rdFind xs id = -1 from by
        unfold rdFind
        split
        · exact firstOf_no fun j t hj ht => by simpa using A.out j t (by have := L.out; omega) ht
        · rfl)
      clear hbel
      go_wp2
      go_ret
      exact ⟨ret_int R.out.symm, B.out⟩
end Go.Proofs.YtidaoijpbdljbabGreatDoor
namespace Go.Proofs.YtidaoijpbdljbabGreatDoor

/-- The reader with an id, and where it stands. -/
def rdSel (xs : List VReader) (id : Int) : Option (Nat × VReader) := if 0 ≤ rdFind xs id then (xs[(rdFind xs id).toNat]?).map fun s => ((rdFind xs id).toNat, s) else none
theorem rdSel_ways (xs : List VReader) (id : Int) : (rdFind xs id = -1 ∧ rdSel xs id = none) ∨ ∃ (i : Nat) (s : VReader), areRd xs = true ∧ rdFind xs id = (i : Int) ∧ xs[i]? = some s ∧ i < xs.length ∧ s.Id = id ∧ rdSel xs id = some (i, s) := by
  unfold rdSel
  by_cases ha : areRd xs = true
  · rcases firstOf_cases (fun s : VReader => s.Id == id) xs with ⟨h1, _⟩ | ⟨i, s, h1, h2, h3, _⟩
    · have e : rdFind xs id = -1 := by unfold rdFind; rw [if_pos ha, h1]
      exact .inl ⟨e, by rw [e]; rfl⟩
    · have e : rdFind xs id = (i : Int) := by unfold rdFind; rw [if_pos ha, h1]
      refine .inr ⟨i, s, ha, e, h2, (List.getElem?_eq_some_iff.1 h2).1, by simpa using h3, ?_⟩
      rw [e, if_pos (by omega), Int.toNat_natCast, h2]; rfl
  · have e : rdFind xs id = -1 := by unfold rdFind; rw [if_neg ha]
    exact .inl ⟨e, by rw [e]; rfl⟩
def centsB (c : Int) : Bool := inB c 1 10000
/-- The list in which a reader is replaced, and whether it is valid. -/
def rdWith (xs : List VReader) (i : Nat) (r : VReader) : List VReader × Bool := if areRd (xs.set i r) = true then (xs.set i r, true) else ([], false)
def rdFine (xs : List VReader) (id c : Int) : List VReader × Bool :=
  match rdSel xs id with
  | none => ([], false)
  | some (i, s) => if centsB c = true then rdWith xs i ⟨s.Id, s.Name, s.Joined, s.Class, s.Fines + c⟩ else ([], false)
def rdPay (xs : List VReader) (id c : Int) : List VReader × Int × Bool :=
  match rdSel xs id with
  | none => ([], 0, false)
  | some (i, s) => if centsB c = true then ((rdWith xs i ⟨s.Id, s.Name, s.Joined, s.Class, s.Fines - min c s.Fines⟩).1, c - min c s.Fines, (rdWith xs i ⟨s.Id, s.Name, s.Joined, s.Class, s.Fines - min c s.Fines⟩).2) else ([], 0, false)
def ripeB (s : VReader) (day : Int) : Bool := decide (s.Class < 3) && (s.Fines == 0 && decide (365 * s.Class ≤ day - s.Joined))
def rdRaise (xs : List VReader) (id day : Int) : List VReader × Bool :=
  match rdSel xs id with
  | none => ([], false)
  | some (i, s) => if (dayB day && ripeB s day) = true then rdWith xs i ⟨s.Id, s.Name, s.Joined, s.Class + 1, s.Fines⟩ else ([], false)
def rdLast (xs : List VReader) : Int := match xs.getLast? with | some s => s.Id + 1 | none => 1
def rdJoin (xs : List VReader) (nm : ByteArray) (d : Int) : List VReader × Int × Bool :=
  if (areRd xs && areRd (xs ++ [⟨rdLast xs, nm, d, 1, 0⟩])) = true then (xs ++ [⟨rdLast xs, nm, d, 1, 0⟩], rdLast xs, true) else ([], 0, false)
def mayOf (cl : Int) : Int := if cl = 1 then 2 else if cl = 2 then 5 else 10
def rdMay (xs : List VReader) (id home : Int) : Int × Bool :=
  match rdSel xs id with
  | none => (0, false)
  | some (_, s) => if inB home 0 99 = true then (if 500 ≤ s.Fines then 0 else max 0 (mayOf s.Class - home), true) else (0, false)
def IsReader_0 (s : VReader) : Bool := s.ok
def AreReaders_0 (xs : List VReader) : Bool := areRd xs
def FineReader_0 (xs : List VReader) (id c : Int) : List VReader := (rdFine xs id c).1
def FineReader_1 (xs : List VReader) (id c : Int) : Bool := (rdFine xs id c).2
def PayFines_0 (xs : List VReader) (id c : Int) : List VReader := (rdPay xs id c).1
def PayFines_1 (xs : List VReader) (id c : Int) : Int := (rdPay xs id c).2.1
def PayFines_2 (xs : List VReader) (id c : Int) : Bool := (rdPay xs id c).2.2
def RaiseClass_0 (xs : List VReader) (id d : Int) : List VReader := (rdRaise xs id d).1
def RaiseClass_1 (xs : List VReader) (id d : Int) : Bool := (rdRaise xs id d).2
def JoinReader_0 (xs : List VReader) (nm : ByteArray) (d : Int) : List VReader := (rdJoin xs nm d).1
def JoinReader_1 (xs : List VReader) (nm : ByteArray) (d : Int) : Int := (rdJoin xs nm d).2.1
def JoinReader_2 (xs : List VReader) (nm : ByteArray) (d : Int) : Bool := (rdJoin xs nm d).2.2
def MayTake_0 (xs : List VReader) (id h : Int) : Int := (rdMay xs id h).1
def MayTake_1 (xs : List VReader) (id h : Int) : Bool := (rdMay xs id h).2
def RipeReaders_0 (xs : List VReader) (d : Int) : List Int := if (areRd xs && dayB d) = true then (xs.filter fun s => ripeB s d).map VReader.Id else []
def RipeReaders_1 (xs : List VReader) (d : Int) : Bool := areRd xs && dayB d
theorem areRd_len {xs : List VReader} (h : areRd xs = true) : xs.length ≤ 10 := by unfold areRd at h; simp at h; exact h.2
theorem areRd_ok {xs : List VReader} (h : areRd xs = true) {s : VReader} (hs : s ∈ xs) : s.ok = true := by
  unfold areRd at h
  simp only [Bool.and_eq_true] at h
  exact upB_ok h.1 hs
theorem rdOk_iff {s : VReader} : s.ok = true ↔ (1 ≤ s.Id ∧ s.Id ≤ 999) ∧ wordB s.Name = true ∧ (0 ≤ s.Joined ∧ s.Joined ≤ 4000) ∧ (1 ≤ s.Class ∧ s.Class ≤ 3) ∧ (0 ≤ s.Fines ∧ s.Fines ≤ 10000) := by
  unfold VReader.ok dayB; simp only [Bool.and_eq_true, inB_iff]
theorem word_size {s : ByteArray} (h : wordB s = true) : 1 ≤ s.size ∧ s.size ≤ 10 := by
  unfold wordB at h
  simp only [Bool.and_eq_true, inB_iff] at h
  omega
theorem rdOk_small {s : VReader} (h : s.ok = true) : s.small := by
  have := (word_size (rdOk_iff.1 h).2.1).2
  unfold VReader.small maxLen
  omega
theorem rdWith_ok (xs : List VReader) (i : Nat) (r : VReader) : (rdWith xs i r).1.length ≤ 10 ∧ ∀ s ∈ (rdWith xs i r).1, s.ok = true := by
  unfold rdWith
  split
  · rename_i h; exact ⟨areRd_len h, fun s hs => areRd_ok h hs⟩
  · exact ⟨by simp, by simp⟩
theorem rdFine_ok (xs : List VReader) (id c : Int) : (rdFine xs id c).1.length ≤ 10 ∧ ∀ s ∈ (rdFine xs id c).1, s.ok = true := by
  unfold rdFine
  split
  · exact ⟨by simp, by simp⟩
  · split
    · exact rdWith_ok _ _ _
    · exact ⟨by simp, by simp⟩
theorem rdPay_ok (xs : List VReader) (id c : Int) : (rdPay xs id c).1.length ≤ 10 ∧ ∀ s ∈ (rdPay xs id c).1, s.ok = true := by
  unfold rdPay
  split
  · exact ⟨by simp, by simp⟩
  · split
    · exact rdWith_ok _ _ _
    · exact ⟨by simp, by simp⟩
theorem rdRaise_ok (xs : List VReader) (id c : Int) : (rdRaise xs id c).1.length ≤ 10 ∧ ∀ s ∈ (rdRaise xs id c).1, s.ok = true := by
  unfold rdRaise
  split
  · exact ⟨by simp, by simp⟩
  · split
    · exact rdWith_ok _ _ _
    · exact ⟨by simp, by simp⟩
theorem rdJoin_ok (xs : List VReader) (nm : ByteArray) (d : Int) : (rdJoin xs nm d).1.length ≤ 10 ∧ ∀ s ∈ (rdJoin xs nm d).1, s.ok = true := by
  unfold rdJoin
  split
  · rename_i h
    simp only [Bool.and_eq_true] at h
    exact ⟨areRd_len h.2, fun s hs => areRd_ok h.2 hs⟩
  · exact ⟨by simp, by simp⟩
theorem FineReader_0_len (xs : List VReader) (id c : Int) (_ : xs.length ≤ 1048576) (_ : ∀ s ∈ xs, s.sized) : (FineReader_0 xs id c).length ≤ 1000000 := Nat.le_trans (rdFine_ok xs id c).1 (by omega)
theorem FineReader_0_small (xs : List VReader) (id c : Int) (_ : xs.length ≤ 1048576) (_ : ∀ s ∈ xs, s.sized) : ∀ s ∈ FineReader_0 xs id c, s.small := fun s hs => rdOk_small ((rdFine_ok xs id c).2 s hs)
theorem PayFines_0_len (xs : List VReader) (id c : Int) (_ : xs.length ≤ 1048576) (_ : ∀ s ∈ xs, s.sized) : (PayFines_0 xs id c).length ≤ 1000000 := Nat.le_trans (rdPay_ok xs id c).1 (by omega)
theorem PayFines_0_small (xs : List VReader) (id c : Int) (_ : xs.length ≤ 1048576) (_ : ∀ s ∈ xs, s.sized) : ∀ s ∈ PayFines_0 xs id c, s.small := fun s hs => rdOk_small ((rdPay_ok xs id c).2 s hs)
theorem RaiseClass_0_len (xs : List VReader) (id c : Int) (_ : xs.length ≤ 1048576) (_ : ∀ s ∈ xs, s.sized) : (RaiseClass_0 xs id c).length ≤ 1000000 := Nat.le_trans (rdRaise_ok xs id c).1 (by omega)
theorem RaiseClass_0_small (xs : List VReader) (id c : Int) (_ : xs.length ≤ 1048576) (_ : ∀ s ∈ xs, s.sized) : ∀ s ∈ RaiseClass_0 xs id c, s.small := fun s hs => rdOk_small ((rdRaise_ok xs id c).2 s hs)
theorem JoinReader_0_len (xs : List VReader) (nm : ByteArray) (d : Int) (_ : xs.length ≤ 1048576) (_ : ∀ s ∈ xs, s.sized) (_ : nm.size ≤ 1048576) : (JoinReader_0 xs nm d).length ≤ 1000000 := Nat.le_trans (rdJoin_ok xs nm d).1 (by omega)
theorem JoinReader_0_small (xs : List VReader) (nm : ByteArray) (d : Int) (_ : xs.length ≤ 1048576) (_ : ∀ s ∈ xs, s.sized) (_ : nm.size ≤ 1048576) : ∀ s ∈ JoinReader_0 xs nm d, s.small := fun s hs => rdOk_small ((rdJoin_ok xs nm d).2 s hs)
theorem RipeReaders_0_len (xs : List VReader) (d : Int) (_ : xs.length ≤ 1048576) (_ : ∀ s ∈ xs, s.sized) : (RipeReaders_0 xs d).length ≤ 1000000 := by
  unfold RipeReaders_0
  split
  · rename_i h
    simp only [Bool.and_eq_true] at h
    rw [List.length_map]
    have := areRd_len h.1
    exact Nat.le_trans (List.length_filter_le _ _) (by omega)
  · simp
end Go.Proofs.YtidaoijpbdljbabGreatDoor
namespace Go.Proofs.YtidaoijpbdljbabGreatDoor
open Go.RowKit

/-- One number in a range, the list of one just made. -/
theorem areIn1 (lo hi x : Int) (t : TypeId) (w : World) (B : Nat) (hB : w.heap.size = B) :
    Calls Tryz.prog 28 #[.int .i64 lo, .int .i64 hi, .slice (some ⟨B, 0, none⟩) 1 1] (w.alloc (.cells #[.int .i64 x] t)) fun e w' => e = .returned (.bool (inB x lo hi)) ∧ w.alloc (.cells #[.int .i64 x] t) = w' :=
  (areInRange_any B 1 1 [x] lo hi _ rfl (by omega) (lit1 w x t B hB)).mono fun e w' h => ⟨by rw [h.1]; simp, h.2⟩
theorem isDay_any (d : Int) (w : World) :
    Calls Tryz.prog 30 #[.int .i64 d] w fun e w' => e = .returned (.bool (dayB d)) ∧ Below w.heap.size w w' := by
  go_enter Tryz.func30, Tryz.ntmps30
  go_wp2_with fail
  refine (areIn1 _ _ _ _ _ _ (by simp)).mono ?_
  rintro e w' ⟨rfl, rfl⟩
  go_wp2
  go_ret
  exact ⟨rfl, bel_al1 _ _⟩
theorem wordB_no {s : ByteArray} {k : Nat} (hlt : k < s.size) (h : lowB s[k] = false) : wordB s = false := by
  have h : s.data.toList.all lowB = false := by
    rw [List.all_eq_false]
    exact ⟨s[k], List.mem_of_getElem? (i := k) (by simp [hlt]; rfl), by simp [h]⟩
  unfold wordB; rw [h]; rfl
set_option maxHeartbeats 1600000 in
theorem isWord_any (s : ByteArray) (w : World) (hs : s.size ≤ maxLen) :
    Calls Tryz.prog 29 #[.string s] w fun e w' => e = .returned (.bool (wordB s)) ∧ Below w.heap.size w w' := by
  unfold maxLen at hs
  obtain ⟨q, hq⟩ : ∃ q, inB (s.size : Int) 1 10 = q := ⟨_, rfl⟩
  have Q := Lib.hid hq
  clear hq
  go_enter Tryz.func29, Tryz.ntmps29
  go_wp2_with fail
  refine (areIn1 _ _ _ _ _ _ (by simp)).mono ?_
  rintro e w' ⟨rfl, rfl⟩
  rw [Q.out]
  cases q
  · go_wp2
    go_ret
    exact ⟨ret_bool (by unfold wordB; rw [Q.out]; simp), bel_al1 _ _⟩
  · go_wp2
    go_loop [11, 3] (fun i _ => ∃ k : Nat, k ≤ s.size ∧ i = .int .i64 k ∧ (s.data.toList.take k).all lowB = true) (fun i _ => s.size - (intOf i).toNat)
    case atStart => exact ⟨0, Nat.zero_le _, rfl, rfl⟩
    case round =>
      obtain ⟨k, hk, rfl, hall⟩ := hrel
      have A := Lib.hid hall
      clear hall
      by_cases hlt : k < s.size
      · have T := Lib.hid (take_snoc s k hlt)
        by_cases h1 : 97 ≤ (s[k].toNat : Int)
        · by_cases h2 : (s[k].toNat : Int) ≤ 122
          · have LO := Lib.hid (show (s.data.toList.take (k + 1)).all lowB = true from by
              rw [T.out, List.all_append, A.out]; simp [lowB]; omega)
            go_wp2
            go_round
            case rel => exact ⟨k + 1, by omega, by go_num, LO.out⟩
            case measure => simp [intOf]; omega
          · have NO := Lib.hid (wordB_no hlt (by simp [lowB]; omega))
            have h3 : (122 : Int) < (s[k].toNat : Int) := by omega
            go_wp2
            go_ret
            exact ⟨ret_bool NO.out.symm, bel_al1 _ _⟩
        · have NO := Lib.hid (wordB_no hlt (by simp [lowB]; omega))
          have h3 : (s[k].toNat : Int) < 97 := by omega
          go_wp2
          go_ret
          exact ⟨ret_bool NO.out.symm, bel_al1 _ _⟩
      · obtain rfl : k = s.size := by omega
        have E := Lib.hid (show wordB s = true from by
          have h := A.out
          rw [take_all] at h
          unfold wordB; rw [h, Q.out]; rfl)
        go_wp2
        go_ret
        exact ⟨ret_bool E.out.symm, bel_al1 _ _⟩
set_option maxHeartbeats 3200000 in
theorem isRd_any (s : VReader) (w : World) (hs : s.small) :
    Calls Tryz.prog 8 #[.agg #[.int .i64 s.Id, .string s.Name, .int .i64 s.Joined, .int .i64 s.Class, .int .i64 s.Fines]] w fun e w' => e = .returned (.bool s.ok) ∧ Below w.heap.size w w' := by
  obtain ⟨q1, h1⟩ : ∃ q, wordB s.Name = q := ⟨_, rfl⟩
  obtain ⟨q2, h2⟩ : ∃ q, dayB s.Joined = q := ⟨_, rfl⟩
  obtain ⟨q3, h3⟩ : ∃ q, inB s.Id 1 999 = q := ⟨_, rfl⟩
  have H1 := Lib.hid h1
  have H2 := Lib.hid h2
  have H3 := Lib.hid h3
  have SM := Lib.hid hs
  have X0 := Lib.hid (BoxReader.new w 25 s _ rfl)
  have B0 := Lib.hid (bel_al1 w (.cells #[.int .i64 s.Id, .string s.Name, .int .i64 s.Joined, .int .i64 s.Class, .int .i64 s.Fines] 25))
  clear h1 h2 h3 hs
  go_enter Tryz.func8, Tryz.ntmps8
  go_wp2_with fail
  refine (areIn1 _ _ _ _ _ _ (by simp)).mono ?_
  rintro e w' ⟨rfl, rfl⟩
  rw [H3.out]
  cases q3
  · go_wp2
    go_ret
    exact ⟨ret_bool (by unfold VReader.ok; rw [H3.out]; rfl), bel_al2 _ _ _⟩
  go_wp2_with fail
  refine (isWord_any _ _ SM.out).mono ?_
  rintro e w2 ⟨rfl, hb⟩
  rw [H1.out]
  have hb2 := Below.then' (bel_al1 _ _) hb
  have B2 := Lib.hid (Below.then' B0.out hb2)
  have X2 := X0.out.below hb2
  obtain ⟨c0, c1, c2, c3, c4⟩ := X2
  have X2 := Lib.hid (X0.out.below hb2)
  clear hb hb2
  cases q1
  · go_wp2
    go_ret
    exact ⟨ret_bool (by unfold VReader.ok; rw [H3.out, H1.out]; rfl), B2.out⟩
  go_wp2_with fail
  refine (isDay_any _ _).mono ?_
  rintro e w3 ⟨rfl, hb⟩
  rw [H2.out]
  have B3 := Lib.hid (Below.then' B2.out hb)
  clear c0 c1 c2 c3 c4
  obtain ⟨c0, c1, c2, c3, c4⟩ := X2.out.below hb
  have X3 := Lib.hid (X2.out.below hb)
  clear hb
  cases q2
  · go_wp2
    go_ret
    exact ⟨ret_bool (by unfold VReader.ok; rw [H3.out, H1.out, H2.out]; rfl), B3.out⟩
  obtain ⟨q4, h4⟩ : ∃ q, inB s.Class 1 3 = q := ⟨_, rfl⟩
  have H4 := Lib.hid h4
  clear h4
  go_wp2_with fail
  refine (areIn1 _ _ _ _ _ _ rfl).mono ?_
  rintro e w' ⟨rfl, rfl⟩
  rw [H4.out]
  cases q4
  · go_wp2
    go_ret
    exact ⟨ret_bool (by unfold VReader.ok; rw [H3.out, H1.out, H2.out, H4.out]; rfl), Below.then' B3.out (bel_al1 _ _)⟩
  obtain ⟨_, _, _, _, d4⟩ := X3.out.below (bel_al1 w3 (.cells #[.int .i64 s.Class] 3))
  go_wp2_with fail
  refine (areIn1 _ _ _ _ _ _ (size_al _ _)).mono ?_
  rintro e w' ⟨rfl, rfl⟩
  go_wp2
  go_ret
  exact ⟨ret_bool (by unfold VReader.ok; rw [H3.out, H1.out, H2.out, H4.out]; rfl), Below.then' B3.out (bel_al2 _ _ _)⟩
end Go.Proofs.YtidaoijpbdljbabGreatDoor
namespace Go.Proofs.YtidaoijpbdljbabGreatDoor
open Go.RowKit

/-- The slice 'a len cap' holds the integers xs. -/
def IsInts (w : World) (a : Option Addr) (len cap : Nat) (xs : List Int) : Prop :=
  len = xs.length ∧ len ≤ cap ∧ cap ≤ maxLen ∧ (len = 0 ∨ ∃ b o, a = some ⟨b, o, none⟩ ∧ b < w.heap.size ∧ ∀ (k : Nat) z, xs[k]? = some z → w.cell? ⟨b, o + k, none⟩ = some (.int .i64 z))
theorem IsInts.below {w w' : World} {a : Option Addr} {len cap : Nat} {xs : List Int} (h : IsInts w a len cap xs) (hb : Below w.heap.size w w') : IsInts w' a len cap xs := by
  refine ⟨h.1, h.2.1, h.2.2.1, ?_⟩
  rcases h.2.2.2 with h0 | ⟨b, o, rfl, h1, h2⟩
  · exact .inl h0
  · exact .inr ⟨b, o, rfl, Nat.lt_of_lt_of_le h1 hb.size, fun k z hz => (hb.cell (p := ⟨b, o + k, none⟩) h1).trans (h2 k z hz)⟩
theorem IsInts.grown {w w' : World} {a : Option Addr} {len cap : Nat} {xs : List Int} {row : Option Nat} (h : IsInts w a len cap xs) (hg : w.grownBy w' row) (hne : ∀ b o, a = some ⟨b, o, none⟩ → some b ≠ row) : IsInts w' a len cap xs := by
  refine ⟨h.1, h.2.1, h.2.2.1, ?_⟩
  rcases h.2.2.2 with h0 | ⟨b, o, rfl, h1, h2⟩
  · exact .inl h0
  · exact .inr ⟨b, o, rfl, Nat.lt_of_lt_of_le h1 hg.size, fun k z hz => (World.cell?_of_block (w := w) (a := ⟨b, o + k, none⟩) (hg.block b h1 (hne b o rfl))).trans (h2 k z hz)⟩
theorem IsInts.at {w : World} {a : Option Addr} {len cap : Nat} {xs : List Int} (h : IsInts w a len cap xs) (hpos : 0 < len) : ∃ b o, a = some ⟨b, o, none⟩ ∧ b < w.heap.size ∧ ∀ (k : Nat) z, xs[k]? = some z → w.cell? ⟨b, o + k, none⟩ = some (.int .i64 z) := by
  rcases h.2.2.2 with h0 | h1
  · omega
  · exact h1
theorem int_at {xs : List Int} {len k : Nat} (hl : Hid (len = xs.length)) (hk : k < len) : ∃ s, xs[k]? = some s := ⟨xs[k]'(by have := hl.out; omega), List.getElem?_eq_getElem _⟩
def intCells (xs : List Int) : List Value := xs.map (Value.int .i64)
theorem intCells_len (xs : List Int) : (intCells xs).length = xs.length := by simp [intCells]
theorem intCells_snoc (xs : List Int) (z : Int) : intCells (xs ++ [z]) = intCells xs ++ [.int .i64 z] := by simp [intCells]
theorem isInts_own {w : World} {base : Nat} {v : Value} {xs : List Int} (h : w.ownsRow base 3 1 v xs.length (intCells xs)) :
    ∃ a cap, v = .slice a xs.length cap ∧ IsInts w a xs.length cap xs ∧ ∀ b o, a = some ⟨b, o, none⟩ → v.ownBlock = some b := by
  have hlt := h.lt
  rcases h.2 with ⟨rfl, h0⟩ | ⟨g, cap, cur, rfl, hg, hh, hn, hcap, hsz, htake⟩
  · exact ⟨none, 0, by rw [h0], ⟨rfl, by omega, by simp [maxLen], .inl h0⟩, fun _ _ h => by cases h⟩
  · refine ⟨some ⟨g, 0, none⟩, cap, rfl, ⟨rfl, hn, hcap, ?_⟩, fun b o h => by cases h; rfl⟩
    by_cases hz : xs.length = 0
    · exact .inl hz
    · refine .inr ⟨g, 0, rfl, (hlt g rfl).2, fun k z hz => ?_⟩
      have hc := h.cells (g := g) rfl k (.int .i64 z) (by simp [intCells, hz])
      rw [add_plain] at hc; exact hc
theorem ownsRow_grown' {w w' : World} {base : Nat} {e : TypeId} {size n : Nat} {v : Value} {xs : List Value} {row : Option Nat} (h : w.ownsRow base e size v n xs) (hg : w.grownBy w' row) (hne : ∀ k, row = some k → k < base) : w'.ownsRow base e size v n xs := by
  refine ⟨h.1, ?_⟩
  rcases h.2 with h0 | ⟨g, cap, cur, rfl, hb, hh, r⟩
  · exact .inl h0
  · exact .inr ⟨g, cap, cur, rfl, hb, (hg.block g (Array.getElem?_eq_some_iff.1 hh).1 (fun e => by have := hne g e.symm; omega)).trans hh, r⟩
theorem infoInt : (Tryz.prog.info? 3).map (fun i => (i.zero, i.size, i.bytes)) = some (some (.int .i64 0), 1, 8) := by kernel_rfl
/-- A row of integers of the call's own and whether it stands, and the world below as it was. -/
def IntsOk (xs : List Int) (ok : Bool) (w : World) (e : Ending) (w' : World) : Prop := ∃ v, e = .returned (.tuple #[v, .bool ok]) ∧ w'.ownsRow w.heap.size 3 1 v xs.length (intCells xs) ∧ Below w.heap.size w w'


/-- The marks k, k + 1, .. k + n - 1. -/
def marksI (k n : Nat) : List Int := (List.range n).map fun i => ((k + i : Nat) : Int)
theorem marksI_len (k n : Nat) : (marksI k n).length = n := by simp [marksI]
theorem marksI_succ (k n : Nat) : marksI k (n + 1) = marksI k n ++ [((k + n : Nat) : Int)] := by simp [marksI, List.range_succ]
theorem marksI_at (k n i : Nat) (h : i < n) : (marksI k n)[i]? = some ((k + i : Nat) : Int) := by simp [marksI, h]
theorem set_markI {k j : Nat} {L : List Value} (h : j < L.length) : (intCells (marksI k j) ++ L.drop j).set j (.int .i64 ((k + j : Nat) : Int)) = intCells (marksI k (j + 1)) ++ L.drop (j + 1) := by
  have hl : (intCells (marksI k j)).length = j := by rw [intCells_len, marksI_len]
  rw [List.set_append_right _ _ (by omega), hl, Nat.sub_self, List.drop_eq_getElem_cons h, List.set_cons_zero, marksI_succ, intCells_snoc]
  simp
/-- The row v of n values bears the marks from k on; nothing else that was there has turned. -/
def MarkI (base k n : Nat) (v : Value) (w : World) (e : Ending) (w' : World) : Prop := e = .returned (.int .i64 ((k + n : Nat) : Int)) ∧ w'.ownsRow base 3 1 v n (intCells (marksI k n)) ∧ w.grownBy w' v.ownBlock

end Go.Proofs.YtidaoijpbdljbabGreatDoor
namespace Go.Proofs.YtidaoijpbdljbabGreatDoor
open Go.RowKit
def IsReader_Post (z0 : VReader) (w : World) (e : Ending) (w' : World) : Prop :=
  e = .returned (.bool (IsReader_0 z0)) ∧ Below w.heap.size w w'
def AreReaders_Post (z0 : List VReader) (w : World) (e : Ending) (w' : World) : Prop :=
  e = .returned (.bool (AreReaders_0 z0)) ∧ Below w.heap.size w w'
def JoinReader_Post (z0 : List VReader) (z1 : ByteArray) (z2 : Int) (w : World) (e : Ending) (w' : World) : Prop :=
  ∃ v0 : Value, e = .returned (.tuple #[v0, .int .i64 (JoinReader_1 z0 z1 z2), .bool (JoinReader_2 z0 z1 z2)]) ∧ w'.ownsRow w.heap.size 25 5 v0 (JoinReader_0 z0 z1 z2).length (cellsReader (JoinReader_0 z0 z1 z2)) ∧ Below w.heap.size w w'
def MayTake_Post (z0 : List VReader) (z1 : Int) (z2 : Int) (w : World) (e : Ending) (w' : World) : Prop :=
  e = .returned (.tuple #[.int .i64 (MayTake_0 z0 z1 z2), .bool (MayTake_1 z0 z1 z2)]) ∧ Below w.heap.size w w'
def FineReader_Post (z0 : List VReader) (z1 : Int) (z2 : Int) (w : World) (e : Ending) (w' : World) : Prop :=
  ∃ v0 : Value, e = .returned (.tuple #[v0, .bool (FineReader_1 z0 z1 z2)]) ∧ w'.ownsRow w.heap.size 25 5 v0 (FineReader_0 z0 z1 z2).length (cellsReader (FineReader_0 z0 z1 z2)) ∧ Below w.heap.size w w'
def PayFines_Post (z0 : List VReader) (z1 : Int) (z2 : Int) (w : World) (e : Ending) (w' : World) : Prop :=
  ∃ v0 : Value, e = .returned (.tuple #[v0, .int .i64 (PayFines_1 z0 z1 z2), .bool (PayFines_2 z0 z1 z2)]) ∧ w'.ownsRow w.heap.size 25 5 v0 (PayFines_0 z0 z1 z2).length (cellsReader (PayFines_0 z0 z1 z2)) ∧ Below w.heap.size w w'
def RaiseClass_Post (z0 : List VReader) (z1 : Int) (z2 : Int) (w : World) (e : Ending) (w' : World) : Prop :=
  ∃ v0 : Value, e = .returned (.tuple #[v0, .bool (RaiseClass_1 z0 z1 z2)]) ∧ w'.ownsRow w.heap.size 25 5 v0 (RaiseClass_0 z0 z1 z2).length (cellsReader (RaiseClass_0 z0 z1 z2)) ∧ Below w.heap.size w w'
def RipeReaders_Post (z0 : List VReader) (z1 : Int) (w : World) (e : Ending) (w' : World) : Prop :=
  ∃ v0 : Value, e = .returned (.tuple #[v0, .bool (RipeReaders_1 z0 z1)]) ∧ w'.ownsRow w.heap.size 3 1 v0 (RipeReaders_0 z0 z1).length (intCells (RipeReaders_0 z0 z1)) ∧ Below w.heap.size w w'
end Go.Proofs.YtidaoijpbdljbabGreatDoor
