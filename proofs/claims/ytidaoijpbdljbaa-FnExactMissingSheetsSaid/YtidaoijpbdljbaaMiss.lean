/- The missing sheets of a scale: what is asked, and that it is one. -/
import Derived.Test.YtidaoijpbdljbaaStrip3
namespace Go.Proofs.Ytidaoijpbdljbaa

def gapB (xs : List Sh) (r c sc : Int) : Bool := !(xs.any fun s => s.at_ r c sc)
theorem gapB_idx (xs : List Sh) (r c sc : Int) : gapB xs r c sc = true ↔ idxAt xs r c sc < 0 := by
  unfold gapB idxAt
  rcases idxOf_cases (fun s => s.at_ r c sc) xs with ⟨h1, h2⟩ | ⟨i, s, h1, h2, h3, _⟩
  · rw [h1]
    constructor
    · intro _; decide
    · intro _
      simp only [Bool.not_eq_true']
      rw [List.any_eq_false]
      intro x hx
      rw [h2 x hx]; decide
  · rw [h1]
    constructor
    · intro h
      simp only [Bool.not_eq_true'] at h
      rw [List.any_eq_false] at h
      exact absurd h3 (h s (List.mem_of_getElem? h2))
    · intro h; omega
theorem gapB_perm {xs ys : List Sh} {sc : Int} (h : ys.Perm (ofScale sc xs)) (r c : Int) : gapB ys r c sc = gapB xs r c sc := by
  unfold gapB
  congr 1
  rw [Bool.eq_iff_iff, List.any_eq_true, List.any_eq_true]
  constructor
  · rintro ⟨s, h1, h2⟩
    exact ⟨s, ((of_mem h).1 h1).1, h2⟩
  · rintro ⟨s, h1, h2⟩
    exact ⟨s, (of_mem h).2 ⟨h1, (Sh.at_iff.1 h2).2.2⟩, h2⟩
/-- The gaps of a row, n places from a col on. -/
def gapsCol (xs : List Sh) (sc r c : Int) (n : Nat) : List (Int × Int) := (List.range n).flatMap fun (i : Nat) => if gapB xs r (c + (i : Int)) sc = true then [(r, c + (i : Int))] else []
def gapsRow (xs : List Sh) (sc r c : Int) (n m : Nat) : List (Int × Int) := (List.range n).flatMap fun (i : Nat) => gapsCol xs sc (r + (i : Int)) c m
theorem gapsCol_zero (xs : List Sh) (sc r c : Int) : gapsCol xs sc r c 0 = [] := rfl
theorem gapsCol_succ (xs : List Sh) (sc r c : Int) (n : Nat) : gapsCol xs sc r c (n + 1) = gapsCol xs sc r c n ++ (if gapB xs r (c + (n : Int)) sc = true then [(r, c + (n : Int))] else []) := by
  unfold gapsCol; rw [List.range_succ, List.flatMap_append]; simp
theorem gapsRow_zero (xs : List Sh) (sc r c : Int) (m : Nat) : gapsRow xs sc r c 0 m = [] := rfl
theorem gapsRow_succ (xs : List Sh) (sc r c : Int) (n m : Nat) : gapsRow xs sc r c (n + 1) m = gapsRow xs sc r c n m ++ gapsCol xs sc (r + (n : Int)) c m := by
  unfold gapsRow; rw [List.range_succ, List.flatMap_append]; simp
theorem gapsCol_len (xs : List Sh) (sc r c : Int) (n : Nat) : (gapsCol xs sc r c n).length ≤ n := by
  induction n with
  | zero => simp [gapsCol_zero]
  | succ n ih =>
    rw [gapsCol_succ, List.length_append]
    split <;> simp <;> omega
theorem gapsRow_len (xs : List Sh) (sc r c : Int) (n m : Nat) : (gapsRow xs sc r c n m).length ≤ n * m := by
  induction n with
  | zero => simp [gapsRow_zero]
  | succ n ih =>
    rw [gapsRow_succ, List.length_append, Nat.succ_mul]
    have := gapsCol_len xs sc (r + (n : Int)) c m
    omega
theorem gapsRow_perm {xs ys : List Sh} {sc : Int} (h : ys.Perm (ofScale sc xs)) (r c : Int) (n m : Nat) : gapsRow ys sc r c n m = gapsRow xs sc r c n m := by
  unfold gapsRow gapsCol
  simp only [gapB_perm h]
/-- The smallest and the greatest row and col of some sheets. -/
structure Corners (zs : List Sh) (lo hi le ri : Int) : Prop where
  lo1 : ∃ s ∈ zs, s.row = lo
  lo2 : ∀ s ∈ zs, lo ≤ s.row
  hi1 : ∃ s ∈ zs, s.row = hi
  hi2 : ∀ s ∈ zs, s.row ≤ hi
  le1 : ∃ s ∈ zs, s.col = le
  le2 : ∀ s ∈ zs, le ≤ s.col
  ri1 : ∃ s ∈ zs, s.col = ri
  ri2 : ∀ s ∈ zs, s.col ≤ ri
theorem Corners.one {zs : List Sh} {lo hi le ri lo' hi' le' ri' : Int} (h : Corners zs lo hi le ri) (k : Corners zs lo' hi' le' ri') : lo = lo' ∧ hi = hi' ∧ le = le' ∧ ri = ri' := by
  obtain ⟨⟨a, a1, a2⟩, a3, ⟨b, b1, b2⟩, b3, ⟨c, c1, c2⟩, c3, ⟨d, d1, d2⟩, d3⟩ := h
  obtain ⟨⟨a', a1', a2'⟩, a3', ⟨b', b1', b2'⟩, b3', ⟨c', c1', c2'⟩, c3', ⟨d', d1', d2'⟩, d3'⟩ := k
  have := a3 a' a1'; have := a3' a a1
  have := b3 b' b1'; have := b3' b b1
  have := c3 c' c1'; have := c3' c c1
  have := d3 d' d1'; have := d3' d d1
  omega
theorem Corners.perm {ys zs : List Sh} {lo hi le ri : Int} (h : Corners ys lo hi le ri) (hp : ys.Perm zs) : Corners zs lo hi le ri := by
  have m : ∀ s, s ∈ zs ↔ s ∈ ys := fun s => hp.mem_iff.symm
  obtain ⟨⟨a, a1, a2⟩, a3, ⟨b, b1, b2⟩, b3, ⟨c, c1, c2⟩, c3, ⟨d, d1, d2⟩, d3⟩ := h
  exact ⟨⟨a, (m a).2 a1, a2⟩, fun s hs => a3 s ((m s).1 hs), ⟨b, (m b).2 b1, b2⟩, fun s hs => b3 s ((m s).1 hs), ⟨c, (m c).2 c1, c2⟩, fun s hs => c3 s ((m s).1 hs), ⟨d, (m d).2 d1, d2⟩, fun s hs => d3 s ((m s).1 hs)⟩
theorem Corners.first (s : Sh) : Corners [s] s.row s.row s.col s.col := by
  refine ⟨⟨s, by simp, rfl⟩, ?_, ⟨s, by simp, rfl⟩, ?_, ⟨s, by simp, rfl⟩, ?_, ⟨s, by simp, rfl⟩, ?_⟩ <;>
  · intro t ht
    rw [List.mem_singleton.1 ht]
    exact Int.le_refl _
theorem pick_min {zs : List Sh} {f : Sh → Int} {v : Int} (s : Sh) (h1 : ∃ t ∈ zs, f t = v) (h2 : ∀ t ∈ zs, v ≤ f t) : (∃ t ∈ zs ++ [s], f t = min v (f s)) ∧ ∀ t ∈ zs ++ [s], min v (f s) ≤ f t := by
  obtain ⟨t, t1, t2⟩ := h1
  refine ⟨?_, fun u hu => ?_⟩
  · rcases Int.le_total v (f s) with h | h
    · exact ⟨t, List.mem_append_left _ t1, by omega⟩
    · exact ⟨s, by simp, by omega⟩
  · rcases List.mem_append.1 hu with h | h
    · have := h2 u h; omega
    · rw [List.mem_singleton.1 h]; omega
theorem pick_max {zs : List Sh} {f : Sh → Int} {v : Int} (s : Sh) (h1 : ∃ t ∈ zs, f t = v) (h2 : ∀ t ∈ zs, f t ≤ v) : (∃ t ∈ zs ++ [s], f t = max v (f s)) ∧ ∀ t ∈ zs ++ [s], f t ≤ max v (f s) := by
  obtain ⟨t, t1, t2⟩ := h1
  refine ⟨?_, fun u hu => ?_⟩
  · rcases Int.le_total v (f s) with h | h
    · exact ⟨s, by simp, by omega⟩
    · exact ⟨t, List.mem_append_left _ t1, by omega⟩
  · rcases List.mem_append.1 hu with h | h
    · have := h2 u h; omega
    · rw [List.mem_singleton.1 h]; omega
theorem Corners.snoc {zs : List Sh} {lo hi le ri : Int} (h : Corners zs lo hi le ri) (s : Sh) : Corners (zs ++ [s]) (min lo s.row) (max hi s.row) (min le s.col) (max ri s.col) := by
  obtain ⟨a1, a2⟩ := pick_min (f := Sh.row) s h.lo1 h.lo2
  obtain ⟨b1, b2⟩ := pick_max (f := Sh.row) s h.hi1 h.hi2
  obtain ⟨c1, c2⟩ := pick_min (f := Sh.col) s h.le1 h.le2
  obtain ⟨d1, d2⟩ := pick_max (f := Sh.col) s h.ri1 h.ri2
  exact ⟨a1, a2, b1, b2, c1, c2, d1, d2⟩
/-- What is asked of the missing sheets. -/
def MissIs (xs : List Sh) (sc : Int) (L : List (Int × Int)) (ok : Bool) : Prop :=
  ((areSh xs = false ∨ ofScale sc xs = []) ∧ L = [] ∧ ok = false) ∨
  (areSh xs = true ∧ ∃ lo hi le ri, Corners (ofScale sc xs) lo hi le ri ∧
    ((400 < (hi - lo + 1) * (ri - le + 1) - ((ofScale sc xs).length : Int) ∧ L = [] ∧ ok = false) ∨
     (¬ 400 < (hi - lo + 1) * (ri - le + 1) - ((ofScale sc xs).length : Int) ∧ L = gapsRow xs sc lo le (hi - lo + 1).toNat (ri - le + 1).toNat ∧ ok = true)))
theorem miss_one {xs : List Sh} {sc : Int} {L M : List (Int × Int)} {p q : Bool} (h : MissIs xs sc L p) (k : MissIs xs sc M q) : L = M ∧ p = q := by
  rcases h with ⟨h1, rfl, rfl⟩ | ⟨h1, lo, hi, le, ri, hc, hw⟩
  · rcases k with ⟨_, rfl, rfl⟩ | ⟨k1, lo', hi', le', ri', kc, _⟩
    · exact ⟨rfl, rfl⟩
    · rcases h1 with h1 | h1
      · rw [h1] at k1; cases k1
      · obtain ⟨s, hs, _⟩ := kc.lo1; rw [h1] at hs; simp at hs
  · rcases k with ⟨k1, rfl, rfl⟩ | ⟨k1, lo', hi', le', ri', kc, kw⟩
    · rcases k1 with k1 | k1
      · rw [k1] at h1; cases h1
      · obtain ⟨s, hs, _⟩ := hc.lo1; rw [k1] at hs; simp at hs
    · obtain ⟨rfl, rfl, rfl, rfl⟩ := hc.one kc
      rcases hw with ⟨a, rfl, rfl⟩ | ⟨a, rfl, rfl⟩ <;> rcases kw with ⟨b, rfl, rfl⟩ | ⟨b, rfl, rfl⟩
      · exact ⟨rfl, rfl⟩
      · exact absurd a b
      · exact absurd b a
      · exact ⟨rfl, rfl⟩
theorem corners_in {xs : List Sh} {sc lo hi le ri : Int} (ha : areSh xs = true) (h : Corners (ofScale sc xs) lo hi le ri) : (0 ≤ lo ∧ lo ≤ hi ∧ hi ≤ 99) ∧ (0 ≤ le ∧ le ≤ ri ∧ ri ≤ 99) ∧ (10 ≤ sc ∧ sc ≤ 500) := by
  obtain ⟨⟨a, a1, a2⟩, a3, ⟨b, b1, b2⟩, b3, ⟨c, c1, c2⟩, c3, ⟨d, d1, d2⟩, d3⟩ := h
  have ok : ∀ s ∈ ofScale sc xs, s.ok = true := fun s hs => areSh_ok ha (List.mem_filter.1 hs).1
  have hsc : a.scale = sc := by simpa using (List.mem_filter.1 a1).2
  obtain ⟨_, p1, _, p3, _⟩ := Sh.ok_iff.1 (ok a a1)
  obtain ⟨_, q1, _, _⟩ := Sh.ok_iff.1 (ok b b1)
  obtain ⟨_, _, r2, _⟩ := Sh.ok_iff.1 (ok c c1)
  obtain ⟨_, _, t2, _⟩ := Sh.ok_iff.1 (ok d d1)
  have := a3 b b1
  have := c3 d d1
  omega
/-- The model's four numbers after some of the sheets of the scale. -/
def CornersOr (zs : List Sh) (lo hi le ri : Int) : Prop := (zs = [] ∧ lo = 99 ∧ hi = 0 ∧ le = 99 ∧ ri = 0) ∨ Corners zs lo hi le ri
theorem CornersOr.snoc {zs : List Sh} {lo hi le ri : Int} (h : CornersOr zs lo hi le ri) (s : Sh) (hs : s.ok = true) : CornersOr (zs ++ [s]) (min lo s.row) (max hi s.row) (min le s.col) (max ri s.col) := by
  rcases h with ⟨rfl, rfl, rfl, rfl, rfl⟩ | h
  · obtain ⟨_, a, b, _⟩ := Sh.ok_iff.1 hs
    have := Corners.first s
    rw [show min (99 : Int) s.row = s.row from by omega, show max (0 : Int) s.row = s.row from by omega, show min (99 : Int) s.col = s.col from by omega, show max (0 : Int) s.col = s.col from by omega]
    exact .inr this
  · exact .inr (h.snoc s)
theorem CornersOr.bd {zs : List Sh} {lo hi le ri : Int} (h : CornersOr zs lo hi le ri) (ok : ∀ s ∈ zs, s.ok = true) : (0 ≤ lo ∧ lo ≤ 99) ∧ (0 ≤ hi ∧ hi ≤ 99) ∧ (0 ≤ le ∧ le ≤ 99) ∧ (0 ≤ ri ∧ ri ≤ 99) := by
  rcases h with ⟨rfl, rfl, rfl, rfl, rfl⟩ | h
  · omega
  · obtain ⟨⟨a, a1, a2⟩, -, ⟨b, b1, b2⟩, -, ⟨c, c1, c2⟩, -, ⟨d, d1, d2⟩, -⟩ := h
    obtain ⟨_, p1, _, _⟩ := Sh.ok_iff.1 (ok a a1)
    obtain ⟨_, q1, _, _⟩ := Sh.ok_iff.1 (ok b b1)
    obtain ⟨_, _, r2, _⟩ := Sh.ok_iff.1 (ok c c1)
    obtain ⟨_, _, t2, _⟩ := Sh.ok_iff.1 (ok d d1)
    omega
end Go.Proofs.Ytidaoijpbdljbaa
