/- Reliefs, plain mathematics: squares, neighbors, where water runs, runs, catchments, the first greatest. -/
import Derived.Test.YtodjgeffkfbpiaaSheet
namespace Go.Proofs.Ytodjgeffkfbpiaa

abbrev Sq := Nat × Nat
def colsN (D : List (List Int)) : Nat := (D.headD []).length
/-- It is a relief. -/
def rlB (D : List (List Int)) : Bool := decide (1 ≤ D.length) && (decide (D.length ≤ 8) && (decide (1 ≤ colsN D) && (decide (colsN D ≤ 8) && D.all (fun r => decide (r.length = colsN D) && r.all (fun h => inB h 0 9999)))))
structure RL (D : List (List Int)) : Prop where
  m1 : 1 ≤ D.length
  m8 : D.length ≤ 8
  n1 : 1 ≤ colsN D
  n8 : colsN D ≤ 8
  row : ∀ r ∈ D, r.length = colsN D
  val : ∀ r ∈ D, ∀ h ∈ r, 0 ≤ h ∧ h ≤ 9999
theorem rlB_iff {D : List (List Int)} : rlB D = true ↔ RL D := by
  unfold rlB
  simp only [Bool.and_eq_true, decide_eq_true_eq, List.all_eq_true, inB]
  constructor
  · rintro ⟨h1, h2, h3, h4, h5⟩
    exact ⟨h1, h2, h3, h4, fun r hr => (h5 r hr).1, fun r hr => (h5 r hr).2⟩
  · rintro ⟨h1, h2, h3, h4, h5, h6⟩
    exact ⟨h1, h2, h3, h4, fun r hr => ⟨h5 r hr, h6 r hr⟩⟩
def hA (D : List (List Int)) (p : Sq) : Int := (D.getD p.1 []).getD p.2 0
def inR (D : List (List Int)) (p : Sq) : Prop := p.1 < D.length ∧ p.2 < colsN D
theorem RL.at {D : List (List Int)} (h : RL D) {p : Sq} (hp : inR D p) : ∃ row, D[p.1]? = some row ∧ row.length = colsN D ∧ row[p.2]? = some (hA D p) ∧ 0 ≤ hA D p ∧ hA D p ≤ 9999 := by
  obtain ⟨r, e⟩ : ∃ r, D[p.1]? = some r := ⟨D[p.1]'(hp.1), List.getElem?_eq_getElem _⟩
  have hm : r ∈ D := List.mem_of_getElem? e
  have hl := h.row _ hm
  obtain ⟨x, e2⟩ : ∃ x, r[p.2]? = some x := ⟨r[p.2]'(by rw [hl]; exact hp.2), List.getElem?_eq_getElem _⟩
  have e3 : hA D p = x := by
    unfold hA
    rw [List.getD_eq_getElem?_getD, List.getD_eq_getElem?_getD, e, Option.getD_some, e2, Option.getD_some]
  have hv := h.val _ hm _ (List.mem_of_getElem? e2)
  exact ⟨r, e, hl, by rw [e3]; exact e2, by rw [e3]; exact hv.1, by rw [e3]; exact hv.2⟩
/-- The neighbors: to the north, the east, the south, the west. -/
def nears (D : List (List Int)) (p : Sq) : List Sq :=
  (if 0 < p.1 then [(p.1 - 1, p.2)] else []) ++ ((if p.2 + 1 < colsN D then [(p.1, p.2 + 1)] else []) ++ ((if p.1 + 1 < D.length then [(p.1 + 1, p.2)] else []) ++ (if 0 < p.2 then [(p.1, p.2 - 1)] else [])))
theorem nears_in {D : List (List Int)} {p q : Sq} (hp : inR D p) (hq : q ∈ nears D p) : inR D q := by
  obtain ⟨a, b⟩ := p
  unfold inR at *
  simp only [nears, List.mem_append] at hq hp
  rcases hq with hq | hq | hq | hq <;> (split at hq <;> simp at hq) <;> subst hq <;> simp only [] <;> omega
theorem nears_len (D : List (List Int)) (p : Sq) : (nears D p).length ≤ 4 := by
  unfold nears
  simp only [List.length_append]
  repeat' split
  all_goals simp
def lowerOf (D : List (List Int)) (b q : Sq) : Sq := if hA D q < hA D b then q else b
def nextSq (D : List (List Int)) (p : Sq) : Sq := (nears D p).foldl (lowerOf D) p
theorem fold_lower (D : List (List Int)) : ∀ (l : List Sq) (b : Sq), (l.foldl (lowerOf D) b = b) ∨ (l.foldl (lowerOf D) b ∈ l ∧ hA D (l.foldl (lowerOf D) b) < hA D b) := by
  intro l
  induction l with
  | nil => intro b; exact .inl rfl
  | cons x l ih =>
    intro b
    rw [List.foldl_cons]
    by_cases h : hA D x < hA D b
    · rw [show lowerOf D b x = x from by unfold lowerOf; rw [if_pos h]]
      rcases ih x with e | ⟨e, e2⟩
      · rw [e]; exact .inr ⟨by simp, h⟩
      · exact .inr ⟨List.mem_cons_of_mem _ e, by omega⟩
    · rw [show lowerOf D b x = b from by unfold lowerOf; rw [if_neg h]]
      rcases ih b with e | ⟨e, e2⟩
      · exact .inl e
      · exact .inr ⟨List.mem_cons_of_mem _ e, e2⟩
theorem next_in {D : List (List Int)} {p : Sq} (hp : inR D p) : inR D (nextSq D p) := by
  rcases fold_lower D (nears D p) p with e | ⟨e, _⟩
  · unfold nextSq; rw [e]; exact hp
  · exact nears_in hp e
theorem next_lt {D : List (List Int)} {p : Sq} (h : nextSq D p ≠ p) : hA D (nextSq D p) < hA D p := by
  rcases fold_lower D (nears D p) p with e | ⟨_, e⟩
  · exact absurd e h
  · exact e
/-- The squares over which water runs, told for so many steps at most. -/
def runN (D : List (List Int)) : Nat → Sq → List Sq
  | 0, p => [p]
  | k + 1, p => p :: (if nextSq D p = p then [] else runN D k (nextSq D p))
def runOf (D : List (List Int)) (p : Sq) : List Sq := runN D (hA D p).toNat p
theorem runN_more {D : List (List Int)} (hD : RL D) : ∀ (k j : Nat) (p : Sq), inR D p → (hA D p).toNat ≤ k → (hA D p).toNat ≤ j → runN D k p = runN D j p := by
  intro k
  induction k with
  | zero =>
    intro j p hp h1 h2
    cases j with
    | zero => rfl
    | succ j =>
      have : nextSq D p = p := by
        refine Classical.byContradiction fun hne => ?_
        have := next_lt hne
        obtain ⟨_, _, _, _, h0, _⟩ := hD.at (next_in hp)
        omega
      simp [runN, this]
  | succ k ih =>
    intro j p hp h1 h2
    by_cases hne : nextSq D p = p
    · cases j with
      | zero => simp [runN, hne]
      | succ j => simp [runN, hne]
    · have hl := next_lt hne
      obtain ⟨_, _, _, _, h0, _⟩ := hD.at (next_in hp)
      cases j with
      | zero => omega
      | succ j =>
        simp only [runN, if_neg hne]
        rw [ih j (nextSq D p) (next_in hp) (by omega) (by omega)]
theorem runOf_step {D : List (List Int)} (hD : RL D) {p : Sq} (hp : inR D p) : runOf D p = p :: (if nextSq D p = p then [] else runOf D (nextSq D p)) := by
  unfold runOf
  rw [runN_more hD (hA D p).toNat ((hA D p).toNat + 1) p hp (Nat.le_refl _) (by omega)]
  simp only [runN]
  by_cases hne : nextSq D p = p
  · rw [if_pos hne, if_pos hne]
  · rw [if_neg hne, if_neg hne]
    have hl := next_lt hne
    obtain ⟨_, _, _, _, h0, _⟩ := hD.at (next_in hp)
    rw [runN_more hD (hA D p).toNat (hA D (nextSq D p)).toNat _ (next_in hp) (by omega) (Nat.le_refl _)]
theorem runN_len (D : List (List Int)) : ∀ (k : Nat) (p : Sq), (runN D k p).length ≤ k + 1 := by
  intro k
  induction k with
  | zero => intro p; simp [runN]
  | succ k ih =>
    intro p
    simp only [runN, List.length_cons]
    split
    · simp
    · have := ih (nextSq D p); omega
theorem runOf_len {D : List (List Int)} (hD : RL D) {p : Sq} (hp : inR D p) : (runOf D p).length ≤ 10000 := by
  have := runN_len D (hA D p).toNat p
  obtain ⟨_, _, _, _, h0, h1⟩ := hD.at hp
  unfold runOf
  omega
theorem runN_in {D : List (List Int)} : ∀ (k : Nat) (p : Sq), inR D p → ∀ q ∈ runN D k p, inR D q := by
  intro k
  induction k with
  | zero => intro p hp q hq; simp [runN] at hq; subst hq; exact hp
  | succ k ih =>
    intro p hp q hq
    simp only [runN, List.mem_cons] at hq
    rcases hq with rfl | hq
    · exact hp
    · split at hq
      · simp at hq
      · exact ih _ (next_in hp) q hq
theorem runOf_in {D : List (List Int)} {p : Sq} (hp : inR D p) : ∀ q ∈ runOf D p, inR D q := runN_in _ p hp
/-- All squares. -/
def sqRow (n r : Nat) : List Sq := (List.range n).map fun c => (r, c)
def sqsTo (n k : Nat) : List Sq := (List.range k).flatMap fun r => sqRow n r
def sqs (D : List (List Int)) : List Sq := sqsTo (colsN D) D.length
theorem sqRow_succ (n r : Nat) : sqRow (n + 1) r = sqRow n r ++ [(r, n)] := by simp [sqRow, List.range_succ]
theorem sqsTo_succ (n k : Nat) : sqsTo n (k + 1) = sqsTo n k ++ sqRow n k := by simp [sqsTo, List.range_succ]
theorem sqRow_len (n r : Nat) : (sqRow n r).length = n := by simp [sqRow]
theorem sqsTo_len (n k : Nat) : (sqsTo n k).length = k * n := by
  induction k with
  | zero => simp [sqsTo]
  | succ k ih => rw [sqsTo_succ, List.length_append, ih, sqRow_len, Nat.succ_mul]
theorem mem_sqRow {n r : Nat} {p : Sq} : p ∈ sqRow n r ↔ p.1 = r ∧ p.2 < n := by
  obtain ⟨a, b⟩ := p
  simp [sqRow]
  constructor
  · rintro ⟨h1, h2⟩; exact ⟨h2.symm, h1⟩
  · rintro ⟨h1, h2⟩; exact ⟨h2, h1.symm⟩
theorem mem_sqsTo {n k : Nat} {p : Sq} : p ∈ sqsTo n k ↔ p.1 < k ∧ p.2 < n := by
  simp only [sqsTo, List.mem_flatMap, List.mem_range, mem_sqRow]
  constructor
  · rintro ⟨r, h1, h2, h3⟩; exact ⟨by omega, h3⟩
  · rintro ⟨h1, h2⟩; exact ⟨p.1, h1, rfl, h2⟩
theorem mem_sqs {D : List (List Int)} {p : Sq} : p ∈ sqs D ↔ inR D p := mem_sqsTo
theorem sqs_len {D : List (List Int)} (h : RL D) : (sqs D).length ≤ 64 := by
  unfold sqs
  rw [sqsTo_len]
  exact Nat.mul_le_mul h.m8 h.n8
theorem sqs_head {D : List (List Int)} (h : RL D) : ∃ l, sqs D = (0, 0) :: l := by
  obtain ⟨m, hm⟩ : ∃ m, D.length = m + 1 := ⟨D.length - 1, by have := h.m1; omega⟩
  obtain ⟨n, hn⟩ : ∃ n, colsN D = n + 1 := ⟨colsN D - 1, by have := h.n1; omega⟩
  refine ⟨(sqs D).tail, ?_⟩
  unfold sqs sqsTo sqRow
  rw [hm, hn]
  simp [List.range_succ_eq_map]
def pitB (D : List (List Int)) (p : Sq) : Bool := nextSq D p == p
def pits (D : List (List Int)) : List Sq := (sqs D).filter (pitB D)
/-- How often water runs over a square. -/
def rivTo (D : List (List Int)) (l : List Sq) (q : Sq) : Nat := (l.flatMap (runOf D)).count q
def riv (D : List (List Int)) (q : Sq) : Nat := rivTo D (sqs D) q
theorem rivTo_nil (D : List (List Int)) (q : Sq) : rivTo D [] q = 0 := by simp [rivTo]
theorem rivTo_snoc (D : List (List Int)) (l : List Sq) (p q : Sq) : rivTo D (l ++ [p]) q = rivTo D l q + (runOf D p).count q := by simp [rivTo, List.flatMap_append, List.count_append]
theorem flat_len (D : List (List Int)) (hD : RL D) : ∀ l : List Sq, (∀ p ∈ l, inR D p) → (l.flatMap (runOf D)).length ≤ l.length * 10000 := by
  intro l
  induction l with
  | nil => intro _; simp
  | cons x l ih =>
    intro h
    rw [List.flatMap_cons, List.length_append, List.length_cons]
    have h1 := ih fun p hp => h p (List.mem_cons_of_mem _ hp)
    have h2 := runOf_len hD (h x (by simp))
    omega
theorem rivTo_le (D : List (List Int)) (hD : RL D) (l : List Sq) (hl : ∀ p ∈ l, inR D p) (q : Sq) : rivTo D l q ≤ l.length * 10000 :=
  Nat.le_trans List.count_le_length (flat_len D hD l hl)
/-- The first greatest. -/
def maxS (f : Sq → Int) (b q : Sq) : Sq := if f b < f q then q else b
def maxFrom (f : Sq → Int) (b : Sq) (l : List Sq) : Sq := l.foldl (maxS f) b
def topOf (D : List (List Int)) (f : Sq → Int) : Sq := maxFrom f (0, 0) (sqs D)
theorem top_tail {D : List (List Int)} {f : Sq → Int} {l : List Sq} (h : sqs D = (0, 0) :: l) : topOf D f = maxFrom f (0, 0) l := by
  unfold topOf maxFrom
  rw [h, List.foldl_cons, show maxS f (0, 0) (0, 0) = (0, 0) from by unfold maxS; split <;> rfl]
theorem maxFrom_mem (f : Sq → Int) : ∀ (l : List Sq) (b : Sq), maxFrom f b l = b ∨ maxFrom f b l ∈ l := by
  intro l
  induction l with
  | nil => intro b; exact .inl rfl
  | cons x l ih =>
    intro b
    unfold maxFrom at *
    rw [List.foldl_cons]
    rcases ih (maxS f b x) with e | e
    · rw [e]; unfold maxS; split
      · exact .inr (by simp)
      · exact .inl rfl
    · exact .inr (List.mem_cons_of_mem _ e)
theorem maxFrom_ge (f : Sq → Int) : ∀ (l : List Sq) (b : Sq), f b ≤ f (maxFrom f b l) ∧ ∀ q ∈ l, f q ≤ f (maxFrom f b l) := by
  intro l
  induction l with
  | nil => intro b; exact ⟨Int.le_refl _, by simp⟩
  | cons x l ih =>
    intro b
    unfold maxFrom at *
    rw [List.foldl_cons]
    obtain ⟨h1, h2⟩ := ih (maxS f b x)
    have h3 : f b ≤ f (maxS f b x) ∧ f x ≤ f (maxS f b x) := by unfold maxS; split <;> constructor <;> omega
    refine ⟨by omega, fun q hq => ?_⟩
    rcases List.mem_cons.1 hq with rfl | hq
    · omega
    · exact h2 q hq
theorem top_in {D : List (List Int)} (h : RL D) (f : Sq → Int) : inR D (topOf D f) := by
  rcases maxFrom_mem f (sqs D) (0, 0) with e | e
  · unfold topOf; rw [e]; exact ⟨by have := h.m1; simp only []; omega, by have := h.n1; simp only []; omega⟩
  · exact mem_sqs.1 e
theorem maxFrom_congr {f g : Sq → Int} : ∀ (l : List Sq) (b : Sq), f b = g b → (∀ q ∈ l, f q = g q) → maxFrom f b l = maxFrom g b l := by
  intro l
  induction l with
  | nil => intro b _ _; rfl
  | cons x l ih =>
    intro b h1 h2
    unfold maxFrom at *
    rw [List.foldl_cons, List.foldl_cons]
    have hx := h2 x (by simp)
    have e : maxS f b x = maxS g b x := by unfold maxS; rw [h1, hx]
    rw [e]
    refine ih _ ?_ fun q hq => h2 q (List.mem_cons_of_mem _ hq)
    unfold maxS; split
    · exact hx
    · exact h1
/-- Between a square and that to which water runs. -/
def fall (D : List (List Int)) (p : Sq) : Int := hA D p - hA D (nextSq D p)
theorem fall_nn (D : List (List Int)) (p : Sq) : 0 ≤ fall D p := by
  unfold fall
  by_cases h : nextSq D p = p
  · rw [h]; omega
  · have := next_lt h; omega
theorem fall_zero {D : List (List Int)} {p : Sq} : fall D p = 0 ↔ nextSq D p = p := by
  unfold fall
  constructor
  · intro h
    refine Classical.byContradiction fun hne => ?_
    have := next_lt hne
    omega
  · intro h; rw [h]; omega
/-- The model's search: the best so far and its fall, 0 as long as there is none. -/
def steepS (D : List (List Int)) (s : Sq × Int) (p : Sq) : Sq × Int := if s.2 < fall D p then (p, fall D p) else s
theorem steep_fold (D : List (List Int)) : ∀ (l : List Sq) (s : Sq × Int), 0 ≤ s.2 → (s.2 = fall D s.1) → l.foldl (steepS D) s = (maxFrom (fall D) s.1 l, fall D (maxFrom (fall D) s.1 l)) := by
  intro l
  induction l with
  | nil => rintro ⟨a, b⟩ _ h; simp only [] at h; subst h; rfl
  | cons x l ih =>
    rintro ⟨a, b⟩ h0 h
    simp only [] at h h0
    subst h
    unfold maxFrom at *
    rw [List.foldl_cons, List.foldl_cons]
    by_cases hlt : fall D a < fall D x
    · rw [show steepS D (a, fall D a) x = (x, fall D x) from by unfold steepS; rw [if_pos hlt], show maxS (fall D) a x = x from by unfold maxS; rw [if_pos hlt]]
      exact ih (x, fall D x) (fall_nn D x) rfl
    · rw [show steepS D (a, fall D a) x = (a, fall D a) from by unfold steepS; rw [if_neg hlt], show maxS (fall D) a x = a from by unfold maxS; rw [if_neg hlt]]
      exact ih (a, fall D a) h0 rfl
theorem steep_top {D : List (List Int)} (h : RL D) : (sqs D).foldl (steepS D) ((0, 0), 0) = (topOf D (fall D), fall D (topOf D (fall D))) := by
  obtain ⟨l, hl⟩ := sqs_head h
  rw [top_tail hl, hl, List.foldl_cons]
  have hn := fall_nn D (0, 0)
  have e : steepS D ((0, 0), 0) (0, 0) = ((0, 0), fall D (0, 0)) := by
    unfold steepS
    by_cases hz : (0 : Int) < fall D (0, 0)
    · rw [if_pos hz]
    · rw [if_neg hz, show fall D (0, 0) = 0 from by omega]
  rw [e, steep_fold D l ((0, 0), fall D (0, 0)) hn rfl]
end Go.Proofs.Ytodjgeffkfbpiaa
