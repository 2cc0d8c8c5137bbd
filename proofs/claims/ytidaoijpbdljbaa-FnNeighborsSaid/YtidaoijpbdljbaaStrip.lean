/- The longest strip of a scale: what is asked, that it is one, and what a walk over the sorted sheets has at each step. -/
import Derived.Test.YtidaoijpbdljbaaScale
namespace Go.Proofs.Ytidaoijpbdljbaa

/-- n places from a row and a col on are taken. -/
def filled (xs : List Sh) (sc r c : Int) (n : Nat) : Prop := ∀ i : Nat, i < n → ∃ s ∈ xs, s.scale = sc ∧ s.row = r ∧ s.col = c + (i : Int)
def StripIs (xs : List Sh) (sc : Int) (L : List Int) : Prop :=
  ∃ r c : Int, (∀ (i : Nat) v, L[i]? = some v → ∃ s ∈ xs, s.scale = sc ∧ s.row = r ∧ s.col = c + (i : Int) ∧ s.id = v) ∧
    (∀ r' c' n, filled xs sc r' c' n → n ≤ L.length) ∧
    (∀ r' c' n, (r' < r ∨ (r' = r ∧ c' < c)) → filled xs sc r' c' n → n < L.length ∨ n = 0)
theorem places_differ {xs : List Sh} (h : areSh xs = true) {i j : Nat} {s t : Sh} (hij : i < j) (hs : xs[i]? = some s) (ht : xs[j]? = some t) : ¬ (s.row = t.row ∧ s.col = t.col ∧ s.scale = t.scale) := by
  have hj := (List.getElem?_eq_some_iff.1 ht).1
  have hok := (areSh_iff.1 h).2 j hj
  rw [okAt_some ht] at hok
  simp only [Bool.and_eq_true, Bool.not_eq_true'] at hok
  have h2 := take_any_false.1 hok.2.2 i s hij hs
  intro h3
  rw [Sh.at_iff.2 h3] at h2; cases h2
theorem one_place {xs : List Sh} (h : areSh xs = true) {s t : Sh} (hs : s ∈ xs) (ht : t ∈ xs) (hr : s.row = t.row) (hc : s.col = t.col) (hsc : s.scale = t.scale) : s = t := by
  obtain ⟨i, hi⟩ := List.getElem?_of_mem hs
  obtain ⟨j, hj⟩ := List.getElem?_of_mem ht
  rcases Nat.lt_trichotomy i j with h1 | h1 | h1
  · exact absurd ⟨hr, hc, hsc⟩ (places_differ h h1 hi hj)
  · subst h1; rw [hi] at hj; exact Option.some.inj hj
  · exact absurd ⟨hr.symm, hc.symm, hsc.symm⟩ (places_differ h h1 hj hi)
theorem strip_filled {xs : List Sh} {sc r c : Int} {L : List Int} (h : ∀ (i : Nat) v, L[i]? = some v → ∃ s ∈ xs, s.scale = sc ∧ s.row = r ∧ s.col = c + (i : Int) ∧ s.id = v) : filled xs sc r c L.length := by
  intro i hi
  obtain ⟨s, h1, h2, h3, h4, _⟩ := h i L[i] (List.getElem?_eq_getElem hi)
  exact ⟨s, h1, h2, h3, h4⟩
theorem strip_one {xs : List Sh} {sc : Int} {L M : List Int} (h : areSh xs = true) (hL : StripIs xs sc L) (hM : StripIs xs sc M) : L = M := by
  obtain ⟨r, c, a1, a2, a3⟩ := hL
  obtain ⟨r', c', b1, b2, b3⟩ := hM
  have fL := strip_filled a1
  have fM := strip_filled b1
  have e1 := a2 _ _ _ fM
  have e2 := b2 _ _ _ fL
  by_cases h0 : L.length = 0
  · rw [List.length_eq_zero_iff.1 h0, List.length_eq_zero_iff.1 (show M.length = 0 by omega)]
  have hp : r = r' ∧ c = c' := by
    by_cases h1 : r < r' ∨ (r = r' ∧ c < c')
    · rcases b3 _ _ _ h1 fL with h2 | h2 <;> omega
    · by_cases h2 : r' < r ∨ (r' = r ∧ c' < c)
      · rcases a3 _ _ _ h2 fM with h3 | h3 <;> omega
      · omega
  obtain ⟨rfl, rfl⟩ := hp
  refine List.ext_getElem (by omega) fun i hi hi' => ?_
  obtain ⟨s, s1, s2, s3, s4, s5⟩ := a1 i L[i] (List.getElem?_eq_getElem hi)
  obtain ⟨t, t1, t2, t3, t4, t5⟩ := b1 i M[i] (List.getElem?_eq_getElem hi')
  rw [← s5, ← t5, one_place h s1 t1 (by omega) (by omega) (by omega)]

/-- From j to m each stands behind the one before it. -/
def cons (ys : List Sh) (j m : Nat) : Prop := ∀ (t : Nat) a b, j ≤ t → t + 1 < m → ys[t]? = some a → ys[t + 1]? = some b → a.row = b.row ∧ a.col + 1 = b.col
def idsFrom (ys : List Sh) (j m : Nat) : List Int := ((ys.take m).drop j).map Sh.id
theorem idsFrom_len {ys : List Sh} {j m : Nat} (h : m ≤ ys.length) : (idsFrom ys j m).length = m - j := by simp [idsFrom]; omega
theorem idsFrom_snoc {ys : List Sh} {j m : Nat} {s : Sh} (hs : ys[m]? = some s) (h : j ≤ m) : idsFrom ys j (m + 1) = idsFrom ys j m ++ [s.id] := by
  have hm := (List.getElem?_eq_some_iff.1 hs).1
  unfold idsFrom
  rw [List.take_add_one, hs, List.drop_append_of_le_length (by simp; omega)]
  simp
theorem idsFrom_none (ys : List Sh) (j : Nat) : idsFrom ys j j = [] := by simp [idsFrom]
theorem idsFrom_at {ys : List Sh} {j m i : Nat} {v : Int} (h : (idsFrom ys j m)[i]? = some v) : ∃ s, ys[j + i]? = some s ∧ s.id = v ∧ j + i < m := by
  unfold idsFrom at h
  rw [List.getElem?_map, List.getElem?_drop, List.getElem?_take] at h
  by_cases hm : j + i < m
  · rw [if_pos hm] at h
    cases hs : ys[j + i]? with
    | none => rw [hs] at h; cases h
    | some s => rw [hs] at h; exact ⟨s, rfl, by simpa using h, hm⟩
  · rw [if_neg hm] at h; cases h
/-- After k sheets: the strip under way and the longest so far. -/
def StripAt (ys : List Sh) (k : Nat) (strip longest : List Int) : Prop :=
  ∃ j p q, (j < k ∨ k = 0) ∧ j ≤ k ∧ strip = idsFrom ys j k ∧ cons ys j k ∧ (∀ j', j' < k → cons ys j' k → j ≤ j') ∧
    p ≤ q ∧ q ≤ k ∧ longest = idsFrom ys p q ∧ cons ys p q ∧ (∀ p' q', q' ≤ k → cons ys p' q' → q' - p' ≤ q - p) ∧ (∀ p' q', q' < q → cons ys p' q' → q' - p' < q - p)
theorem cons_short {ys : List Sh} {j k m : Nat} (h : cons ys j m) (hk : k ≤ m) : cons ys j k := fun t a b h1 h2 => h t a b h1 (by omega)
theorem stripAt_zero (ys : List Sh) : StripAt ys 0 [] [] :=
  ⟨0, 0, 0, .inr rfl, by omega, by simp [idsFrom], fun t _ _ _ h => by omega, fun _ h => by omega, by omega, by omega, by simp [idsFrom], fun t _ _ _ h => by omega, fun p' q' h _ => by omega, fun p' q' h _ => by omega⟩
/-- The longest, once the strip under way is known. -/
theorem stripAt_long {ys : List Sh} {k j p q : Nat} {longest : List Int} (hk : k < ys.length) (hj : j < k + 1) (hc : cons ys j (k + 1)) (hm : ∀ j', j' < k + 1 → cons ys j' (k + 1) → j ≤ j')
    (h1 : p ≤ q) (h2 : q ≤ k) (h3 : longest = idsFrom ys p q) (h4 : cons ys p q) (h5 : ∀ p' q', q' ≤ k → cons ys p' q' → q' - p' ≤ q - p) (h6 : ∀ p' q', q' < q → cons ys p' q' → q' - p' < q - p) :
    StripAt ys (k + 1) (idsFrom ys j (k + 1)) (if longest.length < (idsFrom ys j (k + 1)).length then idsFrom ys j (k + 1) else longest) := by
  subst h3
  rw [idsFrom_len (by omega), idsFrom_len (by omega)]
  by_cases hl : q - p < k + 1 - j
  · rw [if_pos hl]
    refine ⟨j, j, k + 1, .inl hj, by omega, rfl, hc, hm, by omega, by omega, rfl, hc, fun p' q' hq hcc => ?_, fun p' q' hq hcc => ?_⟩
    · rcases Nat.lt_or_ge q' (k + 1) with h | h
      · have := h5 p' q' (by omega) hcc; omega
      · obtain rfl : q' = k + 1 := by omega
        rcases Nat.lt_or_ge p' (k + 1) with h' | h'
        · have := hm p' h' hcc; omega
        · omega
    · have := h5 p' q' (by omega) hcc; omega
  · rw [if_neg hl]
    refine ⟨j, p, q, .inl hj, by omega, rfl, hc, hm, h1, by omega, rfl, h4, fun p' q' hq hcc => ?_, h6⟩
    rcases Nat.lt_or_ge q' (k + 1) with h | h
    · exact h5 p' q' (by omega) hcc
    · obtain rfl : q' = k + 1 := by omega
      rcases Nat.lt_or_ge p' (k + 1) with h' | h'
      · have := hm p' h' hcc; omega
      · omega
/-- The sheet k goes on with the strip (or is the first). -/
theorem stripAt_on {ys : List Sh} {k : Nat} {s : Sh} {strip longest : List Int} (hs : ys[k]? = some s) (h : StripAt ys k strip longest) (hl : ∀ a, 0 < k → ys[k - 1]? = some a → a.row = s.row ∧ a.col + 1 = s.col) :
    StripAt ys (k + 1) (strip ++ [s.id]) (if longest.length < (strip ++ [s.id]).length then strip ++ [s.id] else longest) := by
  have hk := (List.getElem?_eq_some_iff.1 hs).1
  obtain ⟨j, p, q, h0, h1, rfl, h2, h3, h4, h5, h6, h7, h8, h9⟩ := h
  rw [← idsFrom_snoc hs h1]
  refine stripAt_long hk (by omega) (fun t a b e1 e2 ea eb => ?_) (fun j' e1 e2 => ?_) h4 h5 h6 h7 h8 h9
  · rcases Nat.lt_or_ge (t + 1) k with h | h
    · exact h2 t a b e1 h ea eb
    · obtain rfl : t + 1 = k := by omega
      rw [hs] at eb; cases eb
      exact hl a (by omega) (by simpa using ea)
  · rcases Nat.lt_or_ge j' k with h | h
    · exact h3 j' h (cons_short e2 (by omega))
    · omega
/-- The sheet k begins a strip. -/
theorem stripAt_new {ys : List Sh} {k : Nat} {s a : Sh} {strip longest : List Int} (hs : ys[k]? = some s) (h : StripAt ys k strip longest) (hk0 : 0 < k) (ha : ys[k - 1]? = some a) (hl : ¬ (a.row = s.row ∧ a.col + 1 = s.col)) :
    StripAt ys (k + 1) [s.id] (if longest.length < [s.id].length then [s.id] else longest) := by
  have hk := (List.getElem?_eq_some_iff.1 hs).1
  obtain ⟨j, p, q, h0, h1, rfl, h2, h3, h4, h5, h6, h7, h8, h9⟩ := h
  have e : [s.id] = idsFrom ys k (k + 1) := by rw [idsFrom_snoc hs (Nat.le_refl _), idsFrom_none]; rfl
  rw [e]
  refine stripAt_long hk (by omega) (fun t a b e1 e2 ea eb => by omega) (fun j' e1 e2 => ?_) h4 h5 h6 h7 h8 h9
  rcases Nat.lt_or_ge j' k with h | h
  · exact absurd (e2 (k - 1) a s (by omega) (by omega) ha (by rw [show k - 1 + 1 = k by omega]; exact hs)) hl
  · omega

/-- The sheets of a scale, sorted, each at a place of its own. -/
theorem sorted_places {xs ys : List Sh} {sc : Int} (h : areSh xs = true) (hp : ys.Perm (ofScale sc xs)) (hs : SortedRC ys) {i j : Nat} {s t : Sh} (hij : i < j) (ei : ys[i]? = some s) (ej : ys[j]? = some t) : ltRC s t := by
  have hpw : (ofScale sc xs).Pairwise fun a b => ¬ (a.row = b.row ∧ a.col = b.col) := by
    have h1 : xs.Pairwise fun a b => ¬ (a.row = b.row ∧ a.col = b.col ∧ a.scale = b.scale) := by
      rw [List.pairwise_iff_getElem]
      intro i j hi hj hij
      exact places_differ h hij (List.getElem?_eq_getElem hi) (List.getElem?_eq_getElem hj)
    have h2 : (ofScale sc xs).Pairwise fun a b => ¬ (a.row = b.row ∧ a.col = b.col ∧ a.scale = b.scale) := h1.sublist List.filter_sublist
    refine List.Pairwise.imp_of_mem ?_ h2
    intro a b ha hb hn h3
    have ea : a.scale = sc := by simpa using (List.mem_filter.1 ha).2
    have eb : b.scale = sc := by simpa using (List.mem_filter.1 hb).2
    exact hn ⟨h3.1, h3.2, by rw [ea, eb]⟩
  have hpy : ys.Pairwise fun a b => ¬ (a.row = b.row ∧ a.col = b.col) := (hp.pairwise_iff (fun {a b} hab h3 => hab ⟨h3.1.symm, h3.2.symm⟩)).2 hpw
  have hn := hs i j s t hij ei ej
  rw [List.pairwise_iff_getElem] at hpy
  obtain ⟨hi, rfl⟩ := List.getElem?_eq_some_iff.1 ei
  obtain ⟨hj, rfl⟩ := List.getElem?_eq_some_iff.1 ej
  have := hpy i j hi hj hij
  unfold ltRC at hn ⊢
  omega
theorem of_mem {xs ys : List Sh} {sc : Int} (hp : ys.Perm (ofScale sc xs)) {s : Sh} : s ∈ ys ↔ s ∈ xs ∧ s.scale = sc := by
  rw [hp.mem_iff]; simp [ofScale]
/-- What is taken stands in a row of the sorted list. -/
theorem block_of {xs ys : List Sh} {sc r c : Int} (h : areSh xs = true) (hp : ys.Perm (ofScale sc xs)) (hs : SortedRC ys) : ∀ n : Nat, filled xs sc r c (n + 1) → ∃ p : Nat, ∀ i : Nat, i ≤ n → ∃ t, ys[p + i]? = some t ∧ t.row = r ∧ t.col = c + (i : Int) := by
  intro n
  induction n with
  | zero =>
    intro hf
    obtain ⟨s, h1, h2, h3, h4⟩ := hf 0 (by omega)
    obtain ⟨p, hpp⟩ := List.getElem?_of_mem ((of_mem hp).2 ⟨h1, h2⟩)
    exact ⟨p, fun i hi => ⟨s, by rw [show p + i = p by omega]; exact hpp, h3, by omega⟩⟩
  | succ n ih =>
    intro hf
    obtain ⟨p, hpp⟩ := ih (fun i hi => hf i (by omega))
    obtain ⟨s, h1, h2, h3, h4⟩ := hf (n + 1) (by omega)
    obtain ⟨m, hm⟩ := List.getElem?_of_mem ((of_mem hp).2 ⟨h1, h2⟩)
    obtain ⟨t, t1, t2, t3⟩ := hpp n (Nat.le_refl _)
    have hmgt : p + n < m := by
      rcases Nat.lt_trichotomy (p + n) m with e | e | e
      · exact e
      · subst e; rw [t1] at hm; cases hm; omega
      · have := sorted_places h hp hs e hm t1; unfold ltRC at this; omega
    have hmeq : m = p + (n + 1) := by
      rcases Nat.lt_or_ge (p + (n + 1)) m with e | e
      · have hml := (List.getElem?_eq_some_iff.1 hm).1
        have eu : ys[p + (n + 1)]? = some ys[p + (n + 1)] := List.getElem?_eq_getElem (by omega)
        have l1 := sorted_places h hp hs (show p + n < p + (n + 1) by omega) t1 eu
        have l2 := sorted_places h hp hs e eu hm
        unfold ltRC at l1 l2; omega
      · omega
    subst hmeq
    refine ⟨p, fun i hi => ?_⟩
    rcases Nat.lt_or_ge i (n + 1) with e | e
    · exact hpp i (by omega)
    · obtain rfl : i = n + 1 := by omega
      exact ⟨s, hm, h3, by omega⟩
theorem block_cons {ys : List Sh} {r c : Int} {n p : Nat} (h : ∀ i : Nat, i ≤ n → ∃ t, ys[p + i]? = some t ∧ t.row = r ∧ t.col = c + (i : Int)) (m : Nat) (hm : m ≤ n + 1) : cons ys p (p + m) := by
  intro t a b h1 h2 ea eb
  obtain ⟨x, x1, x2, x3⟩ := h (t - p) (by omega)
  obtain ⟨y, y1, y2, y3⟩ := h (t + 1 - p) (by omega)
  rw [show p + (t - p) = t by omega, ea] at x1
  rw [show p + (t + 1 - p) = t + 1 by omega, eb] at y1
  cases x1; cases y1
  omega
theorem cons_at {ys : List Sh} {p q : Nat} {f : Sh} (h : cons ys p q) (hf : ys[p]? = some f) : ∀ (i : Nat) s, p + i < q → ys[p + i]? = some s → s.row = f.row ∧ s.col = f.col + (i : Int) := by
  intro i
  induction i with
  | zero => intro s _ e; rw [Nat.add_zero, hf] at e; cases e; omega
  | succ i ih =>
    intro s h1 e
    have hl := (List.getElem?_eq_some_iff.1 e).1
    have ea : ys[p + i]? = some ys[p + i] := List.getElem?_eq_getElem (by omega)
    have h2 := ih _ (by omega) ea
    have h3 := h (p + i) _ s (by omega) (by omega) ea e
    omega
/-- The walk's end: the longest is what is asked. -/
theorem strip_end {xs ys : List Sh} {sc : Int} {strip longest : List Int} (h : areSh xs = true) (hp : ys.Perm (ofScale sc xs)) (hs : SortedRC ys) (hS : StripAt ys ys.length strip longest) : StripIs xs sc longest ∧ (0 < longest.length ↔ 0 < ys.length) := by
  obtain ⟨j, p, q, -, -, -, -, -, h4, h5, rfl, h7, h8, h9⟩ := hS
  have hlen : (idsFrom ys p q).length = q - p := idsFrom_len h5
  have hmax : ∀ r' c' n, filled xs sc r' c' n → n ≤ q - p := by
    intro r' c' n hf
    cases n with
    | zero => omega
    | succ n =>
      obtain ⟨p', hb⟩ := block_of h hp hs n hf
      obtain ⟨t, ht, _⟩ := hb n (Nat.le_refl _)
      have := (List.getElem?_eq_some_iff.1 ht).1
      have := h8 p' (p' + (n + 1)) (by omega) (block_cons hb (n + 1) (Nat.le_refl _))
      omega
  have hpos : 0 < q - p ↔ 0 < ys.length := by
    constructor
    · omega
    · intro h0
      have := h8 0 1 (by omega) (fun t _ _ _ h => by omega)
      omega
  refine ⟨?_, by rw [hlen]; exact hpos⟩
  by_cases h0 : q - p = 0
  · refine ⟨0, 0, fun i v e => ?_, fun r' c' n hf => by rw [hlen]; exact hmax _ _ _ hf, fun r' c' n _ hf => .inr (by have := hmax _ _ _ hf; omega)⟩
    have := (List.getElem?_eq_some_iff.1 e).1
    omega
  · have ef : ys[p]? = some ys[p] := List.getElem?_eq_getElem (by omega)
    refine ⟨ys[p].row, ys[p].col, fun i v e => ?_, fun r' c' n hf => by rw [hlen]; exact hmax _ _ _ hf, fun r' c' n hlt hf => ?_⟩
    · obtain ⟨s, e1, e2, e3⟩ := idsFrom_at e
      have := cons_at h7 ef i s e3 e1
      obtain ⟨m1, m2⟩ := (of_mem hp).1 (List.mem_of_getElem? e1)
      exact ⟨s, m1, m2, this.1, this.2, e2⟩
    · rw [hlen]
      cases n with
      | zero => exact .inr rfl
      | succ n =>
        refine .inl ?_
        obtain ⟨p', hb⟩ := block_of h hp hs n hf
        obtain ⟨t, ht, t2, t3⟩ := hb 0 (by omega)
        rw [Nat.add_zero] at ht
        have hpp : p' < p := by
          rcases Nat.lt_trichotomy p' p with e | e | e
          · exact e
          · subst e; rw [ef] at ht; cases ht; omega
          · have := sorted_places h hp hs e ef ht; unfold ltRC at this; omega
        rcases Nat.lt_or_ge (n + 1) (q - p) with e | e
        · exact e
        · have := h9 p' (p' + (q - p)) (by omega) (block_cons hb (q - p) (by omega))
          omega
end Go.Proofs.Ytidaoijpbdljbaa
