/- Texts in one: Fw, Sheet, Ints, Own, IntO, ClaimO, Cl, MarkT. -/
import Derived.Test.YtobpgoiaimlonaaM1
import Derived.Deep.RegionWith
import Derived.Laws.OwnMore
import Derived.Laws.MakeOwn
import Derived.Laws.BytesArg
import Derived.WalkLawsBesides
namespace Go.Proofs.Ytobpgoiaimlonaa

def gI (o : List Int) (v : Nat) : Int := o.getD v 0
theorem gI_some {o : List Int} {v : Nat} {a : Int} (h : o[v]? = some a) : gI o v = a := by unfold gI; rw [List.getD_eq_getElem?_getD, h]; rfl
theorem gI_at {o : List Int} {v : Nat} (h : v < o.length) : o[v]? = some (gI o v) := by
  rw [gI_some (List.getElem?_eq_getElem h)]; exact List.getElem?_eq_getElem h
def gM (D : List (List Int)) (i j : Nat) : Int := gI (D.getD i []) j
theorem gM_some {D : List (List Int)} {i j : Nat} {r : List Int} (h : D[i]? = some r) : gM D i j = gI r j := by unfold gM; rw [List.getD_eq_getElem?_getD, h]; rfl
theorem gI_set (o : List Int) (i v : Nat) (x : Int) (hi : i < o.length) : gI (o.set i x) v = if v = i then x else gI o v := by
  unfold gI
  rw [List.getD_eq_getElem?_getD, List.getD_eq_getElem?_getD]
  by_cases h : v = i
  · subst h; rw [if_pos rfl, List.getElem?_set_self hi]; rfl
  · rw [if_neg h, List.getElem?_set_ne (Ne.symm h)]
theorem gM_set (D : List (List Int)) (i k j : Nat) (r : List Int) (hi : i < D.length) : gM (D.set i r) k j = if k = i then gI r j else gM D k j := by
  by_cases h : k = i
  · subst h; rw [if_pos rfl, gM_some (List.getElem?_set_self hi)]
  · rw [if_neg h]; unfold gM; rw [List.getD_eq_getElem?_getD, List.getD_eq_getElem?_getD, List.getElem?_set_ne (Ne.symm h)]
/-- n rows of n numbers. -/
def SqM (n : Nat) (D : List (List Int)) : Prop := D.length = n ∧ ∀ r ∈ D, r.length = n
theorem SqM.row {n : Nat} {D : List (List Int)} (h : SqM n D) {i : Nat} (hi : i < n) : ∃ r, D[i]? = some r ∧ r.length = n ∧ ∀ j, gM D i j = gI r j := by
  have hl : i < D.length := by rw [h.1]; exact hi
  exact ⟨D[i], List.getElem?_eq_getElem hl, h.2 _ (List.getElem_mem hl), fun j => gM_some (List.getElem?_eq_getElem hl)⟩
theorem SqM.set {n : Nat} {D : List (List Int)} (h : SqM n D) (i : Nat) {r : List Int} (hr : r.length = n) : SqM n (D.set i r) := by
  refine ⟨by rw [List.length_set, h.1], fun x hx => ?_⟩
  rcases List.mem_or_eq_of_mem_set hx with h1 | rfl
  · exact h.2 x h1
  · exact hr
theorem SqM.ext {n : Nat} {D F : List (List Int)} (h : SqM n D) (h' : SqM n F) (he : ∀ i j, i < n → j < n → gM D i j = gM F i j) : D = F := by
  apply List.ext_getElem?
  intro i
  by_cases hi : i < n
  · obtain ⟨r, h1, h2, h3⟩ := h.row hi
    obtain ⟨r', h1', h2', h3'⟩ := h'.row hi
    rw [h1, h1']
    congr 1
    apply List.ext_getElem?
    intro j
    by_cases hj : j < n
    · rw [gI_at (by omega), gI_at (by omega), ← h3, ← h3', he i j hi hj]
    · rw [List.getElem?_eq_none (by omega), List.getElem?_eq_none (by omega)]
  · rw [List.getElem?_eq_none (by rw [h.1]; omega), List.getElem?_eq_none (by rw [h'.1]; omega)]
/-- Heights that keep to a table. -/
def PotM (n : Nat) (D : List (List Int)) (h : Nat → Int) : Prop := ∀ i j, i < n → j < n → h j - h i ≤ gM D i j
/-- What the table is while it is closed: square, 0 from each mark to itself, no number too great or too small. -/
structure Tab (n : Nat) (t : Nat) (D : List (List Int)) : Prop where
  sq : SqM n D
  diag : ∀ i, i < n → gM D i i = 0
  hi : ∀ i j, i < n → j < n → gM D i j ≤ 99990
  lo : ∀ i j, i < n → j < n → -(99990 * (2 : Int) ^ t) ≤ gM D i j
/-- Ways over the marks below v are taken in already. -/
def ClosedTo (n v : Nat) (D : List (List Int)) : Prop := ∀ i j k, i < n → j < n → k < v → gM D i j ≤ gM D i k + gM D k j
/-- The table behind mark v's round. -/
def viaM (v : Nat) (D : List (List Int)) (i j : Nat) : Int := min (gM D i j) (gM D i v + gM D v j)
/-- In mark v's round, the rows below f and, in row f, the places below j are done. -/
def PartM (n v f t : Nat) (D X : List (List Int)) : Prop := SqM n X ∧ ∀ i j, i < n → j < n → gM X i j = if i < f ∨ (i = f ∧ j < t) then viaM v D i j else gM D i j
theorem viaM_row {v : Nat} {D : List (List Int)} (hd : gM D v v = 0) (j : Nat) : viaM v D v j = gM D v j := by unfold viaM; rw [hd]; omega
theorem viaM_col {v : Nat} {D : List (List Int)} (hd : gM D v v = 0) (i : Nat) : viaM v D i v = gM D i v := by unfold viaM; rw [hd]; omega
theorem PartM.start {n v : Nat} {D : List (List Int)} (h : SqM n D) : PartM n v 0 0 D D := ⟨h, fun i j _ _ => by rw [if_neg]; omega⟩
theorem PartM.row {n v f t : Nat} {D X : List (List Int)} (h : PartM n v f t D X) (hd : gM D v v = 0) (hv : v < n) {j : Nat} (hj : j < n) : gM X v j = gM D v j := by
  rw [h.2 v j hv hj]; split
  · exact viaM_row hd j
  · rfl
theorem PartM.col {n v f t : Nat} {D X : List (List Int)} (h : PartM n v f t D X) (hd : gM D v v = 0) (hv : v < n) {i : Nat} (hi : i < n) : gM X i v = gM D i v := by
  rw [h.2 i v hi hv]; split
  · exact viaM_col hd i
  · rfl
/-- One place more. -/
theorem PartM.step {n v f t : Nat} {D X : List (List Int)} (h : PartM n v f t D X) (hd : gM D v v = 0) (hv : v < n) (hf : f < n) (ht : t < n) {r : List Int} (hr : X[f]? = some r) :
    PartM n v f (t + 1) D (X.set f (r.set t (min (gI r t) (gI r v + gM X v t)))) := by
  have hfl : f < X.length := by rw [h.1.1]; exact hf
  have hrl : r.length = n := h.1.2 r (List.mem_of_getElem? hr)
  refine ⟨h.1.set f (by rw [List.length_set]; exact hrl), fun i j hi hj => ?_⟩
  rw [gM_set _ _ _ _ _ hfl]
  by_cases hif : i = f
  · subst hif
    rw [if_pos rfl, gI_set _ _ _ _ (by omega)]
    by_cases hjt : j = t
    · subst hjt
      rw [if_pos rfl, if_pos (Or.inr ⟨rfl, by omega⟩), ← gM_some hr, ← gM_some (j := v) hr, h.col hd hv hi, h.row hd hv hj, h.2 i j hi hj, if_neg (by omega)]
      rfl
    · rw [if_neg hjt, ← gM_some hr, h.2 i j hi hj]
      by_cases c : j < t
      · rw [if_pos (by omega), if_pos (by omega)]
      · rw [if_neg (by omega), if_neg (by omega)]
  · rw [if_neg hif, h.2 i j hi hj]
    by_cases c : i < f
    · rw [if_pos (Or.inl c), if_pos (Or.inl c)]
    · rw [if_neg (by omega), if_neg (by omega)]
theorem PartM.next {n v f : Nat} {D X : List (List Int)} (h : PartM n v f n D X) : PartM n v (f + 1) 0 D X := by
  refine ⟨h.1, fun i j hi hj => ?_⟩
  rw [h.2 i j hi hj]
  by_cases c : i < f + 1
  · rw [if_pos (by omega), if_pos (by omega)]
  · rw [if_neg (by omega), if_neg (by omega)]
theorem PartM.lo {n v f t s : Nat} {D X : List (List Int)} (h : PartM n v f t D X) (T : Tab n s D) (hv : v < n) {i j : Nat} (hi : i < n) (hj : j < n) : -(99990 * (2 : Int) ^ (s + 1)) ≤ gM X i j ∧ gM X i j ≤ 99990 := by
  have h1 := T.lo i j hi hj
  have h2 := T.lo i v hi hv
  have h3 := T.lo v j hv hj
  have h4 := T.hi i j hi hj
  have h5 : (0 : Int) ≤ 2 ^ s := Int.pow_nonneg (by decide)
  rw [h.2 i j hi hj, Int.pow_succ]
  unfold viaM
  split <;> omega
/-- Heights that keep to the table keep to it all through the round. -/
theorem PartM.pot {n v f t : Nat} {D X : List (List Int)} (h : PartM n v f t D X) (hv : v < n) {g : Nat → Int} (hg : PotM n D g) : PotM n X g := by
  intro i j hi hj
  have h1 := hg i j hi hj
  have h2 := hg i v hi hv
  have h3 := hg v j hv hj
  rw [h.2 i j hi hj]
  unfold viaM
  split <;> omega
theorem PartM.le {n v f t : Nat} {D X : List (List Int)} (h : PartM n v f t D X) {i j : Nat} (hi : i < n) (hj : j < n) : gM X i j ≤ gM D i j := by
  rw [h.2 i j hi hj]
  unfold viaM
  split <;> omega
/-- A round at whose end no mark is lower than itself. -/
theorem PartM.done {n v s : Nat} {D X : List (List Int)} (h : PartM n v n 0 D X) (T : Tab n s D) (hv : v < n) (hok : ∀ i, i < n → 0 ≤ gM X i i) : Tab n (s + 1) X := by
  refine ⟨h.1, fun i hi => ?_, fun i j hi hj => (h.lo T hv hi hj).2, fun i j hi hj => (h.lo T hv hi hj).1⟩
  have h1 := hok i hi
  have h2 := h.le hi hi
  rw [T.diag i hi] at h2
  omega
theorem PartM.closed {n v s : Nat} {D X : List (List Int)} (h : PartM n v n 0 D X) (T : Tab n s D) (hv : v < n) (hc : ClosedTo n v D) : ClosedTo n (v + 1) X := by
  have hd := T.diag v hv
  have E : ∀ i j, i < n → j < n → gM X i j = viaM v D i j := fun i j hi hj => by rw [h.2 i j hi hj, if_pos (Or.inl hi)]
  intro i j k hi hj hk
  have hkn : k < n := by omega
  rw [E i j hi hj, E i k hi hkn, E k j hkn hj]
  by_cases hkv : k = v
  · subst hkv
    rw [viaM_col hd, viaM_row hd]
    unfold viaM; omega
  · have h1 := hc i j k hi hj (by omega)
    have h2 := hc i v k hi hv (by omega)
    have h3 := hc v j k hv hj (by omega)
    have h4 := hc v v k hv hv (by omega)
    rw [hd] at h4
    unfold viaM
    omega
/-- One claim's limit, taken into the table. -/
def relaxM (D : List (List Int)) (e : Edge) : List (List Int) := D.set e.1 ((D.getD e.1 []).set e.2.1 (min (gM D e.1 e.2.1) e.2.2))
def baseM (n : Nat) : List (List Int) := (List.range n).map fun i => (List.replicate n 99990).set i 0
def initM (n : Nat) (E : List Edge) : List (List Int) := E.foldl relaxM (baseM n)
/-- Edges between different marks below n, none greater than c or below -c. -/
def FitM (E : List Edge) (n : Nat) (c : Int) : Prop := ∀ u v w, (u, v, w) ∈ E → u < n ∧ v < n ∧ u ≠ v ∧ -c ≤ w ∧ w ≤ c
theorem FitM.fit {E : List Edge} {n : Nat} {c : Int} (h : FitM E n c) : FitE E n c := fun u v w he => ⟨(h u v w he).1, (h u v w he).2.1, (h u v w he).2.2.2.2⟩
theorem baseM_sq (n : Nat) : SqM n (baseM n) := by
  refine ⟨by simp [baseM], fun r hr => ?_⟩
  simp only [baseM, List.mem_map] at hr
  obtain ⟨i, _, rfl⟩ := hr
  simp
theorem baseM_row {n i : Nat} (hi : i < n) : (baseM n)[i]? = some ((List.replicate n 99990).set i 0) := by
  unfold baseM
  rw [List.getElem?_map, List.getElem?_range hi]; rfl
theorem baseM_at {n i j : Nat} (hi : i < n) (hj : j < n) : gM (baseM n) i j = if j = i then 0 else 99990 := by
  rw [gM_some (baseM_row hi), gI_set _ _ _ _ (by simpa using hi)]
  split
  · rfl
  · exact gI_some (by simp [hj])
theorem relaxM_sq {n : Nat} {D : List (List Int)} (h : SqM n D) {e : Edge} (hu : e.1 < n) : SqM n (relaxM D e) := by
  obtain ⟨r, h1, h2, _⟩ := h.row hu
  unfold relaxM
  rw [List.getD_eq_getElem?_getD, h1]
  exact h.set _ (by rw [List.length_set]; exact h2)
theorem relaxM_at {n : Nat} {D : List (List Int)} (h : SqM n D) {u v : Nat} {w : Int} (hu : u < n) (hv : v < n) (i j : Nat) : gM (relaxM D (u, v, w)) i j = if i = u ∧ j = v then min (gM D u v) w else gM D i j := by
  obtain ⟨r, h1, h2, h3⟩ := h.row hu
  unfold relaxM
  simp only []
  rw [List.getD_eq_getElem?_getD, h1, gM_set _ _ _ _ _ (by rw [h.1]; exact hu)]
  by_cases hi : i = u
  · subst hi
    rw [if_pos rfl]
    show gI (r.set v _) j = _
    rw [gI_set _ _ _ _ (by omega)]
    by_cases hj : j = v
    · rw [if_pos hj, if_pos ⟨rfl, hj⟩]
    · rw [if_neg hj, if_neg (fun h => hj h.2), h3 j]
  · rw [if_neg hi, if_neg (fun h => hi h.1)]
theorem initM_facts {n : Nat} {c : Int} (hc : c ≤ 9999) : ∀ (L : List Edge), FitM L n c → ∀ D, SqM n D → (∀ i, i < n → gM D i i = 0) → (∀ i j, i < n → j < n → -99990 ≤ gM D i j ∧ gM D i j ≤ 99990) →
    SqM n (L.foldl relaxM D) ∧ (∀ i, i < n → gM (L.foldl relaxM D) i i = 0) ∧ (∀ i j, i < n → j < n → -99990 ≤ gM (L.foldl relaxM D) i j ∧ gM (L.foldl relaxM D) i j ≤ 99990) ∧
    (∀ h : Nat → Int, PotM n (L.foldl relaxM D) h ↔ (PotM n D h ∧ PotE L h)) := by
  intro L
  induction L with
  | nil => intro _ D h1 h2 h3; exact ⟨h1, h2, h3, fun h => ⟨fun hh => ⟨hh, fun u v w he => by simp at he⟩, fun hh => hh.1⟩⟩
  | cons e L ih =>
    intro hf D h1 h2 h3
    obtain ⟨u, v, w⟩ := e
    obtain ⟨hu, hv, huv, w0, w1⟩ := hf u v w (by simp)
    have sq := relaxM_sq (D := D) (e := (u, v, w)) h1 hu
    have at' := relaxM_at (w := w) h1 hu hv
    obtain ⟨g1, g2, g3, g4⟩ := ih (fun a b x hx => hf a b x (List.mem_cons_of_mem _ hx)) (relaxM D (u, v, w)) sq (fun i hi => by rw [at', if_neg (by omega)]; exact h2 i hi) (fun i j hi hj => by
      have := h3 i j hi hj
      have := h3 u v hu hv
      rw [at']; split <;> omega)
    rw [List.foldl_cons]
    refine ⟨g1, g2, g3, fun h => ?_⟩
    rw [g4 h]
    constructor
    · rintro ⟨p1, p2⟩
      refine ⟨fun i j hi hj => ?_, fun a b x hx => ?_⟩
      · have := p1 i j hi hj
        rw [at'] at this
        split at this
        · rename_i hh; obtain ⟨rfl, rfl⟩ := hh; omega
        · exact this
      · rw [List.mem_cons] at hx
        rcases hx with hx | hx
        · injection hx with e1 e2
          injection e2 with e2 e3
          subst e1 e2 e3
          have := p1 a b hu hv
          rw [at', if_pos ⟨rfl, rfl⟩] at this
          omega
        · exact p2 a b x hx
    · rintro ⟨p1, p2⟩
      refine ⟨fun i j hi hj => ?_, fun a b x hx => p2 a b x (List.mem_cons_of_mem _ hx)⟩
      rw [at']
      split
      · rename_i hh; obtain ⟨rfl, rfl⟩ := hh
        have := p1 i j hi hj
        have := p2 i j w (by simp)
        omega
      · exact p1 i j hi hj
/-- The table of the claims' own limits. -/
theorem initM_tab {n : Nat} {E : List Edge} (hf : FitM E n 9999) : Tab n 0 (initM n E) ∧ ∀ h : Nat → Int, PotM n (initM n E) h ↔ ((∀ i j, i < n → j < n → h j - h i ≤ 99990) ∧ PotE E h) := by
  obtain ⟨g1, g2, g3, g4⟩ := initM_facts (Int.le_refl _) E hf (baseM n) (baseM_sq n) (fun i hi => by rw [baseM_at hi hi, if_pos rfl]) (fun i j hi hj => by rw [baseM_at hi hj]; split <;> omega)
  refine ⟨⟨g1, g2, fun i j hi hj => (g3 i j hi hj).2, fun i j hi hj => by have := (g3 i j hi hj).1; show -(99990 * (2 : Int) ^ 0) ≤ gM (E.foldl relaxM (baseM n)) i j; rw [Int.pow_zero]; omega⟩, fun h => ?_⟩
  show PotM n (E.foldl relaxM (baseM n)) h ↔ _
  rw [g4 h]
  constructor
  · rintro ⟨p1, p2⟩
    refine ⟨fun i j hi hj => ?_, p2⟩
    have := p1 i j hi hj
    rw [baseM_at hi hj] at this
    split at this <;> omega
  · rintro ⟨p1, p2⟩
    refine ⟨fun i j hi hj => ?_, p2⟩
    rw [baseM_at hi hj]
    split
    · rename_i e; subst e; omega
    · exact p1 i j hi hj
theorem walk_lo {E : List Edge} {c : Int} (hf : ∀ u v w, (u, v, w) ∈ E → -c ≤ w) {k v : Nat} {a : Int} {l : Nat} (hw : WalkE E k v a l) : -(c * l) ≤ a := by
  induction hw with
  | nil => simp
  | snoc _ he ih =>
    have := hf _ _ _ he
    rw [Int.natCast_add, Int.mul_add]; simp; omega
theorem upper (h : Nat → Int) : ∀ n, ∃ M, ∀ v, v < n → h v ≤ M := by
  intro n
  induction n with
  | zero => exact ⟨0, fun v hv => by omega⟩
  | succ n ih =>
    obtain ⟨M, hM⟩ := ih
    refine ⟨max M (h n), fun v hv => ?_⟩
    by_cases e : v = n
    · subst e; omega
    · have := hM v (by omega); omega
/-- Where heights keep to the edges, others do that lie close together. -/
theorem pot_close {E : List Edge} {n : Nat} (hf : FitM E n 9999) (hn : n ≤ 10) {h : Nat → Int} (hp : PotE E h) : ∃ g : Nat → Int, PotE E g ∧ ∀ i j, i < n → j < n → g j - g i ≤ 99990 := by
  obtain ⟨M, hM⟩ := upper h n
  let E' : List Edge := E ++ (List.range n).map fun v => (n, v, 0)
  have mem : ∀ u v w, (u, v, w) ∈ E' ↔ (u, v, w) ∈ E ∨ (u = n ∧ v < n ∧ w = 0) := by
    intro u v w
    simp only [E', List.mem_append, List.mem_map, List.mem_range, Prod.mk.injEq]
    constructor
    · rintro (h1 | ⟨a, h1, rfl, rfl, rfl⟩)
      · exact .inl h1
      · exact .inr ⟨rfl, h1, rfl⟩
    · rintro (h1 | ⟨rfl, h1, rfl⟩)
      · exact .inl h1
      · exact .inr ⟨v, h1, rfl, rfl, rfl⟩
  have hp' : PotE E' fun v => if v = n then M else h v := by
    intro u v w he
    rcases (mem u v w).1 he with h1 | ⟨rfl, h1, rfl⟩
    · have h2 := hf u v w h1
      have h3 := hp u v w h1
      simp only []
      rw [if_neg (by omega), if_neg (by omega)]
      exact h3
    · have := hM v h1
      have e1 : ¬ v = u := by omega
      simp only [if_neg e1, if_true]
      omega
  have hf' : FitE E' (n + 1) 9999 := by
    intro u v w he
    rcases (mem u v w).1 he with h1 | ⟨rfl, h1, rfl⟩
    · have h2 := hf u v w h1; omega
    · omega
  have hlo : ∀ u v w, (u, v, w) ∈ E' → -9999 ≤ w := by
    intro u v w he
    rcases (mem u v w).1 he with h1 | ⟨_, _, rfl⟩
    · have h2 := hf u v w h1; omega
    · omega
  have W : ∀ v, v < n → WalkE E' n v (0 + 0) (0 + 1) := fun v hv => .snoc .nil ((mem n v 0).2 (.inr ⟨rfl, hv, rfl⟩))
  have each : ∀ v : Nat, ∃ b : Int, v < n → ∃ m, BestE E' n v b m := fun v => by
    by_cases hv : v < n
    · obtain ⟨b, m, hb⟩ := best_of hp' (W v hv)
      exact ⟨b, fun _ => ⟨m, hb⟩⟩
    · exact ⟨0, fun h => absurd h hv⟩
  obtain ⟨g, hg⟩ := Classical.axiomOfChoice each
  have bd : ∀ v, v < n → -99990 ≤ g v ∧ g v ≤ 0 := fun v hv => by
    obtain ⟨m, hb⟩ := hg v hv
    have h1 := best_len hf' (show n < n + 1 by omega) _ _ _ hb
    have h2 := walk_lo hlo hb.1
    have h3 := hb.2.1 _ _ (W v hv)
    exact ⟨by omega, by omega⟩
  refine ⟨g, fun u v w he => ?_, fun i j hi hj => ?_⟩
  · obtain ⟨hu, hv, _⟩ := hf u v w he
    obtain ⟨m, hb⟩ := hg u hu
    obtain ⟨m', hb'⟩ := hg v hv
    have := hb'.2.1 _ _ (hb.1.snoc ((mem u v w).2 (.inl he)))
    omega
  · have := bd i hi
    have := bd j hj
    omega
/-! The model's rounds. -/
/-- At most so many rounds, to the first one without a change. -/
def reachE (E : List Edge) : Nat → List Int → List Int × Bool
  | 0, o => (o, false)
  | r + 1, o => if roundE E o = o then (o, true) else reachE E r (roundE E o)
def startD (n k : Nat) : List Int := (List.replicate n farD).set k 0
theorem rounds_in (E : List Edge) (r : Nat) (o : List Int) : roundsE E r (roundE E o) = roundsE E (r + 1) o := by
  induction r with
  | zero => rfl
  | succ r ih => show roundE E (roundsE E r (roundE E o)) = _; rw [ih]; rfl
theorem reachE_yes {E : List Edge} : ∀ (r j : Nat) (o : List Int), j < r → roundE E (roundsE E j o) = roundsE E j o → (reachE E r o).2 = true := by
  intro r
  induction r with
  | zero => intro j o h; omega
  | succ r ih =>
    intro j o h hs
    unfold reachE
    by_cases h0 : roundE E o = o
    · rw [if_pos h0]
    · rw [if_neg h0]
      cases j with
      | zero => exact absurd hs h0
      | succ j => exact ih j _ (by omega) (by rw [rounds_in]; exact hs)
theorem reachE_ends {E : List Edge} : ∀ (r : Nat) (o : List Int), (reachE E r o).2 = true → ∃ j, (reachE E r o).1 = roundsE E j o ∧ roundE E (reachE E r o).1 = (reachE E r o).1 := by
  intro r
  induction r with
  | zero => intro o h; cases h
  | succ r ih =>
    intro o h
    unfold reachE at h ⊢
    by_cases h0 : roundE E o = o
    · rw [if_pos h0]; exact ⟨0, rfl, h0⟩
    · rw [if_neg h0] at h ⊢
      obtain ⟨j, h1, h2⟩ := ih _ h
      exact ⟨j + 1, by rw [h1, rounds_in], h2⟩
theorem startD_inv {E : List Edge} {n k : Nat} (hk : k < n) : InvE E k n (startD n k) := by
  have at' : ∀ v, gD (startD n k) v = if v = k then 0 else farD := fun v => by
    unfold startD
    rw [gD_set _ _ _ _ (by simpa using hk)]
    split
    · rfl
    · by_cases hv : v < n
      · exact gD_some (by simp [hv])
      · exact gD_none (by simpa using hv)
  refine ⟨by simp [startD], fun v hv => ?_, by rw [at', if_pos rfl]; omega, fun v => by rw [at']; unfold farD; split <;> omega⟩
  rw [at'] at hv ⊢
  split at hv
  · rename_i e; subst e; rw [if_pos rfl]; exact ⟨0, .nil⟩
  · unfold farD at hv; omega
def reachN (n : Nat) (E : List Edge) (k : Nat) : List Int × Bool := reachE E (n + 1) (startD n k)
theorem reach_yes {E : List Edge} {n k : Nat} (hf : FitM E n 9999) (hn : n ≤ 10) (hk : k < n) {h : Nat → Int} (hp : PotE E h) : (reachN n E k).2 = true :=
  reachE_yes _ (n - 1) _ (by omega) (stable_round (sound_stable hp hf.fit hk (by omega) (by unfold farD; omega) (startD_inv hk) (by omega)))
theorem reach_ends {E : List Edge} {n k : Nat} (hf : FitM E n 9999) (hk : k < n) (h : (reachN n E k).2 = true) : InvE E k n (reachN n E k).1 ∧ StableE E (reachN n E k).1 := by
  obtain ⟨j, h1, h2⟩ := reachE_ends _ _ h
  have hi : InvE E k n (reachN n E k).1 := by
    show InvE E k n (reachE E (n + 1) (startD n k)).1
    rw [h1]; exact (startD_inv hk).rounds j
  exact ⟨hi, round_stable hf.fit hi.1 h2⟩
/-- Where the rounds end from each mark, heights keep to the edges. -/
theorem pot_of_reach {E : List Edge} {n : Nat} (hf : FitM E n 9999) (hall : ∀ k, k < n → (reachN n E k).2 = true) : ∃ h : Nat → Int, PotE E h := by
  have H : ∀ m, m ≤ n → ∀ v, ∃ a : Int, a ≤ farD ∧ (∀ k, k < m → a ≤ gD (reachN n E k).1 v) ∧ (a = farD ∨ ∃ k, k < m ∧ a = gD (reachN n E k).1 v) := by
    intro m
    induction m with
    | zero => intro _ v; exact ⟨farD, by omega, fun k hk => by omega, .inl rfl⟩
    | succ m ih =>
      intro hm v
      obtain ⟨a, h1, h2, h3⟩ := ih (by omega) v
      refine ⟨min a (gD (reachN n E m).1 v), by omega, fun k hk => ?_, ?_⟩
      · by_cases e : k = m
        · subst e; omega
        · have := h2 k (by omega); omega
      · by_cases c : a ≤ gD (reachN n E m).1 v
        · rw [Int.min_eq_left c]
          rcases h3 with h3 | ⟨k, hk, e⟩
          · exact .inl h3
          · exact .inr ⟨k, by omega, e⟩
        · rw [Int.min_eq_right (by omega)]; exact .inr ⟨m, by omega, rfl⟩
  obtain ⟨h, hh⟩ := Classical.axiomOfChoice (H n (Nat.le_refl _))
  refine ⟨h, fun u v w he => ?_⟩
  obtain ⟨hu, hv, _, _, hw⟩ := hf u v w he
  obtain ⟨_, h2, h3⟩ := hh u
  obtain ⟨_, g2, _⟩ := hh v
  have own : h u ≤ 0 := Int.le_trans (h2 u hu) (reach_ends hf hu (hall u hu)).1.2.2.1
  rcases h3 with h3 | ⟨k, hk, e⟩
  · unfold farD at h3; omega
  · have h5 := (reach_ends hf hk (hall k hk)).2 u v w he (by rw [← e]; unfold farD; omega)
    have := g2 k hk
    omega
def soundN (n : Nat) (E : List Edge) : Bool := (List.range n).all fun k => (reachN n E k).2
theorem soundN_iff {E : List Edge} {n : Nat} (hf : FitM E n 9999) (hn : n ≤ 10) : soundN n E = true ↔ ∃ h : Nat → Int, PotE E h := by
  unfold soundN
  rw [List.all_eq_true]
  constructor
  · intro h
    exact pot_of_reach hf fun k hk => h k (List.mem_range.2 hk)
  · rintro ⟨h, hp⟩ k hk
    exact reach_yes hf hn (List.mem_range.1 hk) hp
/-- The closed table of the claims. -/
structure RiseM (n : Nat) (E : List Edge) (D : List (List Int)) : Prop where
  tab : Tab n n D
  closed : ClosedTo n n D
  le : ∀ i j, i < n → j < n → gM D i j ≤ gM (initM n E) i j
  pot : ∀ g, PotM n (initM n E) g → PotM n D g
theorem RiseM.potE {n : Nat} {E : List Edge} {D : List (List Int)} (h : RiseM n E D) (hf : FitM E n 9999) {k : Nat} (hk : k < n) : PotE E fun v => gM D k v := by
  have hi : PotM n D fun v => gM D k v := fun i j hi hj => by
    have := h.closed k j i hk hj hi
    simp only []; omega
  have h2 : PotM n (initM n E) fun v => gM D k v := fun i j hi' hj => Int.le_trans (hi i j hi' hj) (h.le i j hi' hj)
  exact (((initM_tab hf).2 _).1 h2).2
theorem RiseM.sound {n : Nat} {E : List Edge} {D : List (List Int)} (h : RiseM n E D) (hf : FitM E n 9999) (hn : 1 ≤ n ∧ n ≤ 10) : soundN n E = true :=
  (soundN_iff hf hn.2).2 ⟨_, h.potE hf (show 0 < n by omega)⟩
/-- A mark that is lower than itself: the claims contradict one another. -/
theorem no_sound {n : Nat} {E : List Edge} {X : List (List Int)} (hf : FitM E n 9999) (hn : n ≤ 10) (hp : ∀ g, PotM n (initM n E) g → PotM n X g) {f : Nat} (hff : f < n) (hneg : gM X f f < 0) : soundN n E = false := by
  cases hs : soundN n E with
  | false => rfl
  | true =>
    obtain ⟨h, hh⟩ := (soundN_iff hf hn).1 hs
    obtain ⟨g, g1, g2⟩ := pot_close hf hn hh
    have := hp g (((initM_tab hf).2 g).2 ⟨g2, g1⟩) f f hff hff
    omega
theorem WalkE.trans {E : List Edge} {k u v : Nat} {a b : Int} {l m : Nat} (h1 : WalkE E k u a l) (h2 : WalkE E u v b m) : WalkE E k v (a + b) (l + m) := by
  induction h2 with
  | nil => simpa using h1
  | snoc _ he ih => have := ih.snoc he; rwa [Int.add_assoc, Nat.add_assoc] at this
/-- Where a way leads from each mark to each other one, the table has what the rounds have. -/
theorem RiseM.reach {n : Nat} {E : List Edge} {D : List (List Int)} (h : RiseM n E D) (hf : FitM E n 9999) (hn : 1 ≤ n ∧ n ≤ 10) (hc : ∀ u v, u < n → v < n → ∃ a l, WalkE E u v a l) {k v : Nat} (hk : k < n) (hv : v < n) : gD (reachN n E k).1 v = gM D k v := by
  have hs := (soundN_iff hf hn.2).1 (h.sound hf hn)
  obtain ⟨q, hq⟩ := hs
  obtain ⟨hi, hst⟩ := reach_ends hf hk (reach_yes hf hn.2 hk hq)
  generalize (reachN n E k).1 = o at hi hst
  have hd := h.tab.diag k hk
  have up : ∀ x, x < n → gM D k x ≤ gD o x := fun x hx => by
    by_cases hfar : gD o x < farD
    · obtain ⟨l, hw⟩ := hi.2.1 x hfar
      have := walk_pot (h.potE hf hk) hw
      omega
    · have := h.tab.hi k x hk hx
      unfold farD at hfar
      omega
  have near : ∀ x, x < n → gD o x < farD := fun x hx => by
    obtain ⟨a, l, hw⟩ := hc k x hk hx
    obtain ⟨b, m, hb⟩ := best_of hq hw
    have h1 := best_len hf.fit hk _ _ _ hb
    have := (stable_walk hf.fit (by omega) (by unfold farD; omega) hi hst hb.1 (by omega)).2
    unfold farD; omega
  have hp : PotE E fun x => gD o x := fun a b w he => by
    have := hst a b w he (near a (hf a b w he).1)
    simp only []; omega
  have hp2 : PotM n (initM n E) fun x => gD o x := ((initM_tab hf).2 _).2 ⟨fun i j hi' hj => by
    obtain ⟨a, l, hw⟩ := hc i j hi' hj
    obtain ⟨b, m, hb⟩ := best_of hq hw
    have h1 := best_len hf.fit hi' _ _ _ hb
    have h2 := walk_bd hf.fit hb.1
    have h3 := walk_pot hp hb.1
    omega, hp⟩
  have h1 := h.pot _ hp2 k v hk hv
  have h2 := hi.2.2.1
  have h3 := up v hv
  omega
end Go.Proofs.Ytobpgoiaimlonaa
namespace Go.Proofs.Ytobpgoiaimlonaa
open Go.RowKit

/-- Lies x in a .. b? -/
def inB (x a b : Int) : Bool := decide (a ≤ x) && decide (x ≤ b)
theorem inB_iff {x a b : Int} : inB x a b = true ↔ a ≤ x ∧ x ≤ b := by simp [inB]
theorem inB_not {x a b : Int} : inB x a b = false ↔ ¬ (a ≤ x ∧ x ≤ b) := by rw [← inB_iff]; simp
/-- A sheet's five numbers. -/
structure Sh where
  id : Int
  row : Int
  col : Int
  scale : Int
  year : Int
/-- Is the sheet valid? -/
def Sh.ok (s : Sh) : Bool := inB s.id 1 999 && (inB s.row 0 99 && (inB s.col 0 99 && (inB s.scale 10 500 && inB s.year 1500 2100)))

set_option maxHeartbeats 400000 in
theorem l1In_any (x a b : Int) (w : World) :
    Calls Try.prog 62 #[.int .i64 x, .int .i64 a, .int .i64 b] w fun e w' => e = .returned (.bool (inB x a b)) ∧ w = w' := by
  by_cases h : a ≤ x
  · go_enter Try.func62, Try.ntmps62
    go_wp2
    go_ret
    exact ⟨ret_bool (by simp [inB, h]), rfl⟩
  · go_enter Try.func62, Try.ntmps62
    go_wp2
    go_ret
    exact ⟨ret_bool (by simp [inB]; omega), rfl⟩
theorem bel_alloc1 (w : World) (o : Obj) : Below w.heap.size w (w.alloc o) := (Below.refl _ _).alloc (Nat.le_refl _) o

theorem all_snoc (zs : List Int) (k : Nat) (z lo hi : Int) (h : zs[k]? = some z) : ((zs.take (k + 1)).all fun z => inB z lo hi) = (((zs.take k).all fun z => inB z lo hi) && inB z lo hi) := by
  rw [List.take_add_one, h]; simp
set_option maxHeartbeats 400000 in
/-- Are all numbers of a slice in lo .. hi? -/
theorem areInRange_any (b n c : Nat) (zs : List Int) (lo hi : Int) (w : World) (hn : n = zs.length) (hm : n ≤ 1000000) (hc : ∀ (j : Nat) z, zs[j]? = some z → w.cell? ⟨b, j, none⟩ = some (.int .i64 z)) :
    Calls Try.prog 66 #[.int .i64 lo, .int .i64 hi, .slice (some ⟨b, 0, none⟩) n c] w fun e w' => e = .returned (.bool (zs.all fun z => inB z lo hi)) ∧ w = w' := by
  have C := Lib.hid hc
  have L := Lib.hid hn
  clear hc hn
  go_enter Try.func66, Try.ntmps66
  go_wp2
  go_loop [11, 8] (fun i _ => ∃ k : Nat, k ≤ n ∧ i = .int .i64 k ∧ ((zs.take k).all fun z => inB z lo hi) = true) (fun i _ => n - (intOf i).toNat)
  case atStart => exact ⟨0, Nat.zero_le _, rfl, rfl⟩
  case round =>
    obtain ⟨k, hk, rfl, hall⟩ := hrel
    have H := Lib.hid hall
    clear hall
    by_cases hlt : k < n
    · obtain ⟨z, hz⟩ : ∃ z, zs[k]? = some z := ⟨zs[k]'(by have := L.out; omega), List.getElem?_eq_getElem _⟩
      have hcell := C.out k z hz
      have S := Lib.hid (all_snoc zs k z lo hi hz)
      have T := Lib.hid (List.mem_of_getElem? hz)
      clear hz
      by_cases hin : inB z lo hi = true
      · obtain ⟨h1, h2⟩ := inB_iff.1 hin
        have I := Lib.hid hin
        clear hin
        go_wp2
        go_round
        case rel => exact ⟨k + 1, by omega, by go_num, by rw [S.out, H.out, I.out]; rfl⟩
        case measure => simp [intOf]; omega
      · have hin' : inB z lo hi = false := by simpa using hin
        have h1 := inB_not.1 hin'
        have I := Lib.hid hin'
        have hF : (zs.all fun z => inB z lo hi) = false := by
          rw [List.all_eq_false]; exact ⟨z, T.out, by simp [I.out]⟩
        have F := Lib.hid hF
        clear hin hin' hF
        by_cases h2 : z < lo
        · clear h1
          go_wp2
          go_ret
          exact ⟨ret_bool F.out.symm, rfl⟩
        · have h3 : hi < z := by omega
          clear h1
          go_wp2
          go_ret
          exact ⟨ret_bool F.out.symm, rfl⟩
    · obtain rfl : k = n := by omega
      go_wp2
      go_ret
      exact ⟨ret_bool (by rw [← H.out, List.take_of_length_le (by have := L.out; omega)]), rfl⟩

theorem lit1 (W : World) (x : Int) (t : TypeId) (B : Nat) (hB : W.heap.size = B) : ∀ (j : Nat) z, [x][j]? = some z → (W.alloc (.cells #[.int .i64 x] t)).cell? ⟨B, j, none⟩ = some (.int .i64 z) := by
  intro j z hj
  subst hB
  match j, hj with
  | 0, hj => simp at hj; subst hj; simp [World.cell?_alloc_new]
  | j + 1, hj => simp at hj
theorem lit2 (W : World) (x y : Int) (t : TypeId) (B : Nat) (hB : W.heap.size = B) : ∀ (j : Nat) z, [x, y][j]? = some z → (W.alloc (.cells #[.int .i64 x, .int .i64 y] t)).cell? ⟨B, j, none⟩ = some (.int .i64 z) := by
  intro j z hj
  subst hB
  match j, hj with
  | 0, hj => simp at hj; subst hj; simp [World.cell?_alloc_new]
  | 1, hj => simp at hj; subst hj; simp [World.cell?_alloc_new]
  | j + 2, hj => simp at hj
theorem size_alloc (W : World) (o : Obj) : (W.alloc o).heap.size = W.heap.size + 1 := by
  show (W.heap.push o).size = _
  simp

end Go.Proofs.Ytobpgoiaimlonaa
namespace Go.Proofs.Ytobpgoiaimlonaa
open Go.RowKit

/-- The slice 'a len cap' holds the integers xs. -/
def IsInts (w : World) (a : Option Addr) (len cap : Nat) (xs : List Int) : Prop :=
  len = xs.length ∧ len ≤ cap ∧ cap ≤ maxLen ∧ (len = 0 ∨ ∃ b o, a = some ⟨b, o, none⟩ ∧ b < w.heap.size ∧ ∀ (k : Nat) z, xs[k]? = some z → w.cell? ⟨b, o + k, none⟩ = some (.int .i64 z))
theorem IsInts.below {w w' : World} {a : Option Addr} {len cap : Nat} {xs : List Int} (h : IsInts w a len cap xs) (hb : Below w.heap.size w w') : IsInts w' a len cap xs := by
  refine ⟨h.1, h.2.1, h.2.2.1, ?_⟩
  rcases h.2.2.2 with h0 | ⟨b, o, rfl, h1, h2⟩
  · exact .inl h0
  · exact .inr ⟨b, o, rfl, Nat.lt_of_lt_of_le h1 hb.size, fun k z hz => (hb.cell (p := ⟨b, o + k, none⟩) h1).trans (h2 k z hz)⟩
theorem IsInts.grown {w w' : World} {a : Option Addr} {len cap : Nat} {xs : List Int} {row : Option Nat} (h : IsInts w a len cap xs) (hg : w.grownBy w' row) (hne : ∀ b o, a = some ⟨b, o, none⟩ → some b ≠ row) : IsInts w' a len cap xs := by
  refine ⟨h.1, h.2.1, h.2.2.1, ?_⟩
  rcases h.2.2.2 with h0 | ⟨b, o, rfl, h1, h2⟩
  · exact .inl h0
  · exact .inr ⟨b, o, rfl, Nat.lt_of_lt_of_le h1 hg.size, fun k z hz => (World.cell?_of_block (w := w) (a := ⟨b, o + k, none⟩) (hg.block b h1 (hne b o rfl))).trans (h2 k z hz)⟩
theorem IsInts.at {w : World} {a : Option Addr} {len cap : Nat} {xs : List Int} (h : IsInts w a len cap xs) (hpos : 0 < len) : ∃ b o, a = some ⟨b, o, none⟩ ∧ b < w.heap.size ∧ ∀ (k : Nat) z, xs[k]? = some z → w.cell? ⟨b, o + k, none⟩ = some (.int .i64 z) := by
  rcases h.2.2.2 with h0 | h1
  · omega
  · exact h1
theorem int_at {xs : List Int} {len k : Nat} (hl : Hid (len = xs.length)) (hk : k < len) : ∃ s, xs[k]? = some s := ⟨xs[k]'(by have := hl.out; omega), List.getElem?_eq_getElem _⟩
def intCells (xs : List Int) : List Value := xs.map (Value.int .i64)
theorem intCells_len (xs : List Int) : (intCells xs).length = xs.length := by simp [intCells]
theorem intCells_snoc (xs : List Int) (z : Int) : intCells (xs ++ [z]) = intCells xs ++ [.int .i64 z] := by simp [intCells]
theorem isInts_own {w : World} {base : Nat} {v : Value} {xs : List Int} (h : w.ownsRow base 3 1 v xs.length (intCells xs)) :
    ∃ a cap, v = .slice a xs.length cap ∧ IsInts w a xs.length cap xs ∧ ∀ b o, a = some ⟨b, o, none⟩ → v.ownBlock = some b := by
  have hlt := h.lt
  rcases h.2 with ⟨rfl, h0⟩ | ⟨g, cap, cur, rfl, hg, hh, hn, hcap, hsz, htake⟩
  · exact ⟨none, 0, by rw [h0], ⟨rfl, by omega, by simp [maxLen], .inl h0⟩, fun _ _ h => by cases h⟩
  · refine ⟨some ⟨g, 0, none⟩, cap, rfl, ⟨rfl, hn, hcap, ?_⟩, fun b o h => by cases h; rfl⟩
    by_cases hz : xs.length = 0
    · exact .inl hz
    · refine .inr ⟨g, 0, rfl, (hlt g rfl).2, fun k z hz => ?_⟩
      have hc := h.cells (g := g) rfl k (.int .i64 z) (by simp [intCells, hz])
      rw [add_plain] at hc; exact hc
theorem ownsRow_grown' {w w' : World} {base : Nat} {e : TypeId} {size n : Nat} {v : Value} {xs : List Value} {row : Option Nat} (h : w.ownsRow base e size v n xs) (hg : w.grownBy w' row) (hne : ∀ k, row = some k → k < base) : w'.ownsRow base e size v n xs := by
  refine ⟨h.1, ?_⟩
  rcases h.2 with h0 | ⟨g, cap, cur, rfl, hb, hh, r⟩
  · exact .inl h0
  · exact .inr ⟨g, cap, cur, rfl, hb, (hg.block g (Array.getElem?_eq_some_iff.1 hh).1 (fun e => by have := hne g e.symm; omega)).trans hh, r⟩
theorem infoInt : (Try.prog.info? 3).map (fun i => (i.zero, i.size, i.bytes)) = some (some (.int .i64 0), 1, 8) := by kernel_rfl
/-- A row of integers of the call's own and whether it stands, and the world below as it was. -/
def IntsOk (xs : List Int) (ok : Bool) (w : World) (e : Ending) (w' : World) : Prop := ∃ v, e = .returned (.tuple #[v, .bool ok]) ∧ w'.ownsRow w.heap.size 3 1 v xs.length (intCells xs) ∧ Below w.heap.size w w'

set_option maxHeartbeats 1600000 in
set_option maxRecDepth 100000 in
theorem eqIntS_yes (a : Option Addr) (len cap : Nat) (a' : Option Addr) (len' cap' : Nat) (xs : List Int) (w : World) (h : IsInts w a len cap xs) (h' : IsInts w a' len' cap' xs) :
    Calls Try.prog 39 #[.slice a len cap, .slice a' len' cap'] w fun e w' => e = .returned (.bool true) ∧ Below w.heap.size w w' := by
  obtain rfl := h.1
  obtain rfl := h'.1
  have hm := h.2.2.1
  have hcl := h.2.1
  unfold maxLen at hm
  have S := Lib.hid h
  have S' := Lib.hid h'
  clear h h'
  go_enter Try.func39, Try.ntmps39
  go_wp2
  go_loopw [5] (fun i wr => ∃ k : Nat, k ≤ xs.length ∧ i = .int .i64 k ∧ Below w.heap.size w wr) (fun i _ => xs.length - (intOf i).toNat)
  case atStart => exact ⟨0, Nat.zero_le _, rfl, Below.refl _ _⟩
  case round =>
    obtain ⟨k, hk, rfl, hbel⟩ := hrel
    have B := Lib.hid hbel
    by_cases hlt : k < xs.length
    · obtain ⟨z, hz⟩ : ∃ z, xs[k]? = some z := ⟨xs[k]'hlt, List.getElem?_eq_getElem _⟩
      obtain ⟨b, o, rfl, hb, hat⟩ := (S.out.below hbel).at (by omega)
      obtain ⟨b', o', rfl, hb', hat'⟩ := (S'.out.below hbel).at (by omega)
      have c0 := hat k z hz
      have d0 := hat' k z hz
      have hi0 : (0 : Int) ≤ (k : Int) := by omega
      have hi1 : (k : Int) < (xs.length : Int) := by omega
      clear hbel hz hat hat'
      go_wp2
      go_quiet (fail)
      have B1 := Lib.hid (Below.then' B.out (bel_drawn wr nq))
      go_wp2
      go_roundw
      case rel => exact ⟨k + 1, by omega, by go_num, B1.out⟩
      case measure => simp [intOf]; omega
    · obtain rfl : k = xs.length := by omega
      clear hbel
      go_wp2
      go_ret
      exact ⟨rfl, B.out⟩

/-- The marks k, k + 1, .. k + n - 1. -/
def marksI (k n : Nat) : List Int := (List.range n).map fun i => ((k + i : Nat) : Int)
theorem marksI_len (k n : Nat) : (marksI k n).length = n := by simp [marksI]
theorem marksI_succ (k n : Nat) : marksI k (n + 1) = marksI k n ++ [((k + n : Nat) : Int)] := by simp [marksI, List.range_succ]
theorem marksI_at (k n i : Nat) (h : i < n) : (marksI k n)[i]? = some ((k + i : Nat) : Int) := by simp [marksI, h]
theorem set_markI {k j : Nat} {L : List Value} (h : j < L.length) : (intCells (marksI k j) ++ L.drop j).set j (.int .i64 ((k + j : Nat) : Int)) = intCells (marksI k (j + 1)) ++ L.drop (j + 1) := by
  have hl : (intCells (marksI k j)).length = j := by rw [intCells_len, marksI_len]
  rw [List.set_append_right _ _ (by omega), hl, Nat.sub_self, List.drop_eq_getElem_cons h, List.set_cons_zero, marksI_succ, intCells_snoc]
  simp
/-- The row v of n values bears the marks from k on; nothing else that was there has turned. -/
def MarkI (base k n : Nat) (v : Value) (w : World) (e : Ending) (w' : World) : Prop := e = .returned (.int .i64 ((k + n : Nat) : Int)) ∧ w'.ownsRow base 3 1 v n (intCells (marksI k n)) ∧ w.grownBy w' v.ownBlock
set_option maxHeartbeats 1600000 in
set_option maxRecDepth 100000 in
theorem markIntS_any (base : Nat) (v : Value) (n k : Nat) (L : List Value) (w : World) (hown : w.ownsRow base 3 1 v n L) (hk : k ≤ 1000000000) (hn : n ≤ 1000000000) :
    Calls Try.prog 43 #[v, .int .i64 (k : Int)] w (MarkI base k n v w) := by
  have hlen : L.length = n := by have := hown.1; omega
  rcases hown.2 with ⟨rfl, rfl⟩ | ⟨g, cap, cur, rfl, hg, hh, hncap, hcap, _⟩
  · have hL : L = [] := List.length_eq_zero_iff.1 hlen
    subst hL
    have H := Lib.hid hown
    clear hown
    go_enter Try.func43, Try.ntmps43
    go_wp2
    refine wp_loop_rounds 1 ?_
    rw [rounds_succ]
    go_wp2
    go_ret
    exact ⟨rfl, H.out, World.grownBy.refl _ _⟩
  clear hh
  have H := Lib.hid hown
  have L0 := Lib.hid hlen
  unfold maxLen at hcap
  clear hown hlen
  go_enter Try.func43, Try.ntmps43
  go_wp2
  go_loopw [1, 5] (fun q i wr => ∃ j : Nat, j ≤ n ∧ i = .int .i64 j ∧ q = .int .i64 ((k + j : Nat) : Int) ∧ wr.ownsRow base 3 1 (.slice (some ⟨g, 0, none⟩) n cap) n (intCells (marksI k j) ++ L.drop j) ∧ w.grownBy wr (some g)) (fun _ i _ => n - (intOf i).toNat)
  case atStart => exact ⟨0, Nat.zero_le _, rfl, rfl, by simpa [marksI, intCells] using H.out, World.grownBy.refl _ _⟩
  case round =>
    obtain ⟨j, hj, rfl, rfl, hrow, hgr⟩ := hrel
    have R := Lib.hid hrow
    have G := Lib.hid hgr
    clear hrow hgr
    by_cases hlt : j < n
    · have hfr := R.out.frozenAt j
      obtain ⟨u, hu⟩ : ∃ u, wr.cell? ⟨g, j, none⟩ = some u := by
        have hlt2 : j < (intCells (marksI k j) ++ L.drop j).length := by rw [List.length_append, intCells_len, marksI_len, List.length_drop, L0.out]; omega
        have h := R.out.cells (g := g) rfl j _ (List.getElem?_eq_getElem hlt2)
        rw [add_plain, Nat.zero_add] at h
        exact ⟨_, h⟩
      go_wp2
      go_roundw
      case rel => exact ⟨j + 1, by omega, by go_num, by go_num, by
        have h := (R.out.stored j (.int .i64 ((k + j : Nat) : Int))).1
        rw [set_markI (by rw [L0.out]; exact hlt)] at h
        simpa using h, grown_trans G.out (by simpa using (R.out.stored j (.int .i64 ((k + j : Nat) : Int))).2)⟩
      case measure => simp [intOf]; omega
    · obtain rfl : j = n := by omega
      go_wp2
      go_ret
      refine ⟨rfl, ?_, G.out⟩
      have h := R.out
      rw [List.drop_of_length_le (by rw [L0.out]; omega), List.append_nil] at h
      exact h

set_option maxHeartbeats 1600000 in
set_option maxRecDepth 100000 in
theorem heldIntS_any (a : Option Addr) (n cap k : Nat) (w : World) (h : IsInts w a n cap (marksI k n)) (hk : k ≤ 1000000000) (hn : n ≤ 1000000000) :
    Calls Try.prog 44 #[.slice a n cap, .int .i64 (k : Int)] w fun e w' => e = .returned (.int .i64 ((k + n : Nat) : Int)) ∧ w = w' := by
  have hm := h.2.2.1
  have hcl := h.2.1
  unfold maxLen at hm
  have S := Lib.hid h
  clear h
  go_enter Try.func44, Try.ntmps44
  go_wp2
  go_loop [1, 5] (fun q i => ∃ j : Nat, j ≤ n ∧ i = .int .i64 j ∧ q = .int .i64 ((k + j : Nat) : Int)) (fun _ i => n - (intOf i).toNat)
  case atStart => exact ⟨0, Nat.zero_le _, rfl, rfl⟩
  case round =>
    obtain ⟨j, hj, rfl, rfl⟩ := hrel
    by_cases hlt : j < n
    · obtain ⟨b, o, rfl, hb, hat⟩ := S.out.at (by omega)
      have c0 := hat j _ (marksI_at k n j hlt)
      have hj0 : (0 : Int) ≤ (j : Int) := by omega
      have hj1 : (j : Int) < (n : Int) := by omega
      clear hat
      go_wp2
      go_round
      case rel => exact ⟨j + 1, by omega, by go_num, by go_num⟩
      case measure => simp [intOf]; omega
    · obtain rfl : j = n := by omega
      go_wp2
      go_ret
      exact ⟨rfl, rfl⟩
end Go.Proofs.Ytobpgoiaimlonaa
namespace Go.Proofs.Ytobpgoiaimlonaa
open Go.RowKit

/-- From w to w' no block outside lo .. hi has turned. -/
structure Turned (lo hi : Nat) (w w' : World) : Prop where
  os : w'.os = w.os
  tape : w'.tape = w.tape
  output : w'.output = w.output
  size : w.heap.size ≤ w'.heap.size
  block : ∀ k, k < w.heap.size → (k < lo ∨ hi ≤ k) → w'.heap[k]? = w.heap[k]?
theorem Turned.refl (lo hi : Nat) (w : World) : Turned lo hi w w := ⟨rfl, rfl, rfl, Nat.le_refl _, fun _ _ _ => rfl⟩
theorem Turned.trans {lo hi : Nat} {a b c : World} (h : Turned lo hi a b) (k : Turned lo hi b c) : Turned lo hi a c :=
  ⟨k.os.trans h.os, k.tape.trans h.tape, k.output.trans h.output, Nat.le_trans h.size k.size, fun j hj ho => (k.block j (Nat.lt_of_lt_of_le hj h.size) ho).trans (h.block j hj ho)⟩
theorem Turned.of_below {lo hi : Nat} {w w' : World} (h : Below w.heap.size w w') : Turned lo hi w w' := ⟨h.os, h.tape, h.output, h.size, fun k hk _ => h.block k hk⟩
theorem Turned.of_grown {lo hi : Nat} {w w' : World} {row : Option Nat} (h : w.grownBy w' row) (hr : ∀ k, row = some k → lo ≤ k ∧ k < hi) : Turned lo hi w w' :=
  ⟨h.os, h.tape, h.output, h.size, fun k hk ho => h.block k hk (fun e => by have := hr k e.symm; omega)⟩
theorem Turned.below {lo hi B : Nat} {w0 w w' : World} (b : Below B w0 w) (h : Turned lo hi w w') (hB : B ≤ lo) (hw : B ≤ w.heap.size) : Below B w0 w' :=
  b.trans ⟨h.os, h.tape, h.output, h.size, fun k hk => h.block k (by omega) (.inl (by omega))⟩
theorem Turned.mono {lo hi lo' hi' : Nat} {w w' : World} (h : Turned lo hi w w') (h1 : lo' ≤ lo) (h2 : hi ≤ hi') : Turned lo' hi' w w' := ⟨h.os, h.tape, h.output, h.size, fun k hk ho => h.block k hk (by omega)⟩
theorem Turned.setCell {lo hi : Nat} {a w : World} (h : Turned lo hi a w) {p : Addr} (h1 : lo ≤ p.block) (h2 : p.block < hi) (u : Value) : Turned lo hi a (w.setCell p u) :=
  h.trans ⟨rfl, rfl, rfl, by simp [World.setCell], fun k _ ho => Below.heap_setCell _ _ _ _ (by omega)⟩
theorem Turned.alloc {lo hi : Nat} {a w : World} (h : Turned lo hi a w) (o : Obj) : Turned lo hi a (w.alloc o) := h.trans (Turned.of_below (bel_al1 w o))

/-- A row of the call's own that lies in lo .. hi. -/
def OwnIn (lo hi : Nat) (w : World) (e : TypeId) (size : Nat) (v : Value) (n : Nat) (L : List Value) : Prop := w.ownsRow lo e size v n L ∧ ∀ b, v.ownBlock = some b → b < hi
section
variable {lo hi : Nat} {w w' : World} {e : TypeId} {size n : Nat} {v : Value} {L : List Value}
theorem OwnIn.row (h : OwnIn lo hi w e size v n L) : w.ownsRow lo e size v n L := h.1
theorem OwnIn.lt (h : OwnIn lo hi w e size v n L) {b : Nat} (hb : v.ownBlock = some b) : lo ≤ b ∧ b < hi ∧ b < w.heap.size := ⟨(h.1.lt b hb).1, h.2 b hb, (h.1.lt b hb).2⟩
theorem OwnIn.keep (h : OwnIn lo hi w e size v n L) (hk : ∀ b, v.ownBlock = some b → w'.heap[b]? = w.heap[b]?) : OwnIn lo hi w' e size v n L := by
  refine ⟨⟨h.1.1, ?_⟩, h.2⟩
  rcases h.1.2 with h0 | ⟨g, cap, cur, rfl, hg, hh, r⟩
  · exact .inl h0
  · exact .inr ⟨g, cap, cur, rfl, hg, (hk g rfl).trans hh, r⟩
theorem OwnIn.turned (h : OwnIn lo hi w e size v n L) {lo' hi' : Nat} (t : Turned lo' hi' w w') (hd : hi ≤ lo' ∨ hi' ≤ lo) : OwnIn lo hi w' e size v n L :=
  h.keep fun b hb => t.block b (h.lt hb).2.2 (by have := h.lt hb; omega)
theorem OwnIn.below (h : OwnIn lo hi w e size v n L) (hb : Below w.heap.size w w') : OwnIn lo hi w' e size v n L := h.keep fun b hv => hb.block b (h.lt hv).2.2
theorem OwnIn.mono (h : OwnIn lo hi w e size v n L) {lo' hi' : Nat} (h1 : lo' ≤ lo) (h2 : hi ≤ hi') : OwnIn lo' hi' w e size v n L :=
  ⟨ownsRow_base h.1 h1, fun b hb => Nat.lt_of_lt_of_le (h.2 b hb) h2⟩
theorem OwnIn.of_row {base : Nat} (h : w.ownsRow base e size v n L) (hl : lo ≤ base) (hh : w.heap.size ≤ hi) : OwnIn lo hi w e size v n L :=
  ⟨ownsRow_base h hl, fun b hb => Nat.lt_of_lt_of_le (h.lt b hb).2 hh⟩
end
theorem isInts_ownIn {lo hi : Nat} {w : World} {v : Value} {xs : List Int} (h : OwnIn lo hi w 3 1 v xs.length (intCells xs)) : ∃ a cap, v = .slice a xs.length cap ∧ IsInts w a xs.length cap xs := by
  obtain ⟨a, c, e, hi, _⟩ := isInts_own h.1
  exact ⟨a, c, e, hi⟩

/-- A slice's three parts. -/
structure Hd where
  a : Option Addr
  n : Nat
  c : Nat
def Hd.v (h : Hd) : Value := .slice h.a h.n h.c
def Hd.blk (h : Hd) : Option Nat := h.v.ownBlock
/-- A row of integers of the call's own, by its parts. -/
def HInts (lo hi : Nat) (w : World) (h : Hd) (zs : List Int) : Prop := OwnIn lo hi w 3 1 (.slice h.a h.n h.c) zs.length (intCells zs)
theorem HInts.is {lo hi : Nat} {w : World} {h : Hd} {zs : List Int} (H : HInts lo hi w h zs) : IsInts w h.a h.n h.c zs ∧ h.n = zs.length := by
  obtain ⟨a, c, e, hi⟩ := isInts_ownIn H
  simp only [Value.slice.injEq] at e
  obtain ⟨rfl, e2, rfl⟩ := e
  rw [e2]; exact ⟨hi, rfl⟩
end Go.Proofs.Ytobpgoiaimlonaa
namespace Go.Proofs.Ytobpgoiaimlonaa
open Go.RowKit

def OwnIntS (lo hi : Nat) (w : World) (v : Value) (xs : List Int) : Prop := OwnIn lo hi w 3 1 v xs.length (intCells xs)
section
variable {lo hi lo' hi' : Nat} {w w' : World} {v : Value} {xs : List Int}
theorem OwnIntS.form (h : OwnIntS lo hi w v xs) : ∃ a c, v = .slice a xs.length c := by
  obtain ⟨a, c, e, _⟩ := isInts_ownIn h
  exact ⟨a, c, e⟩
theorem OwnIntS.is {a : Option Addr} {n c : Nat} (h : OwnIntS lo hi w (.slice a n c) xs) : IsInts w a n c xs := by
  obtain ⟨a', c', e, hi⟩ := isInts_ownIn h
  simp only [Value.slice.injEq] at e
  obtain ⟨rfl, rfl, rfl⟩ := e
  exact hi
theorem OwnIntS.below (h : OwnIntS lo hi w v xs) (hb : Below w.heap.size w w') : OwnIntS lo hi w' v xs := OwnIn.below h hb
theorem OwnIntS.turned (h : OwnIntS lo hi w v xs) (t : Turned lo' hi' w w') (hd : hi ≤ lo' ∨ hi' ≤ lo) : OwnIntS lo hi w' v xs := OwnIn.turned h t hd
theorem OwnIntS.mono (h : OwnIntS lo hi w v xs) (h1 : lo' ≤ lo) (h2 : hi ≤ hi') : OwnIntS lo' hi' w v xs := OwnIn.mono h h1 h2
theorem nil_OwnIntS (lo hi : Nat) (w : World) : OwnIntS lo hi w (.slice none 0 0) [] := ⟨⟨by simp [intCells], .inl ⟨rfl, rfl⟩⟩, fun b h => by cases h⟩
end
def condInt (xs : List Int) : Prop := xs.length ≤ 1048576
def cntInt (xs : List Int) : Nat := xs.length
def mkInt (k : Nat) (xs : List Int) : List Int := marksI k xs.length
theorem cntInt_cond {xs : List Int} (h : condInt xs) : cntInt xs ≤ 10000000 := Nat.le_trans h (by decide)
/-- A row of the call's own, by its parts, and the world below as it was. -/
def HPost (xs : List Int) (w : World) (e : Ending) (w' : World) : Prop := ∃ h : Hd, e = .returned (.slice h.a h.n h.c) ∧ HInts w.heap.size w'.heap.size w' h xs ∧ Below w.heap.size w w'
set_option maxHeartbeats 3200000 in
set_option maxRecDepth 100000 in
theorem toIntS_h (a : Option Addr) (len cap : Nat) (xs : List Int) (w : World) (h : IsInts w a len cap xs) (hsz : xs.length ≤ 1048576) :
    Calls Try.prog 38 #[.slice a len cap] w (HPost xs w) := by
  obtain rfl := h.1
  obtain ⟨i0, hi, hz0, hz1, hz2⟩ := info_parts infoInt
  have S := Lib.hid h
  clear h
  go_enter Try.func38, Try.ntmps38
  go_wp2_with (refine wpList_make_full _ rfl _ _ 25 rfl w.heap.size 3 i0 (.int .i64 0) 1 Try.underlying25 hi hz0 hz1 .i64 .i64 _ _ xs.length rfl rfl rfl rfl (by rw [hz2]; omega) (by unfold maxLen; omega) (Nat.le_refl _) ?_; intro w1 hown hgrow)
  have hb1 : Below w.heap.size w w1 := (Below.refl _ _).grown hgrow (Nat.le_refl _) (fun k e => by cases e)
  have hg1 := (hown.lt w.heap.size rfl).2
  have H1 := Lib.hid hown
  clear hown hgrow
  go_loopw [4] (fun i wr => ∃ (k : Nat) (D : List Value), k ≤ xs.length ∧ D.length = xs.length - k ∧ i = .int .i64 k ∧ Below w.heap.size w wr ∧ wr.ownsRow w.heap.size 3 1 (.slice (some ⟨w.heap.size, 0, none⟩) xs.length xs.length) xs.length (intCells (xs.take k) ++ D)) (fun i _ => xs.length - (intOf i).toNat)
  case atStart => exact ⟨0, (madeCells (Value.int .i64 0).cells (xs.length * 1)).toList, Nat.zero_le _, by have := H1.out.1; omega, rfl, hb1, by simpa [intCells] using H1.out⟩
  case round =>
    obtain ⟨k, D, hk, hD, rfl, hbel, hown⟩ := hrel
    have O := Lib.hid hown
    have B := Lib.hid hbel
    by_cases hlt : k < xs.length
    · obtain ⟨z, hz⟩ : ∃ z, xs[k]? = some z := ⟨xs[k]'hlt, List.getElem?_eq_getElem _⟩
      obtain ⟨b, o, rfl, hb, hat⟩ := (S.out.below hbel).at (by omega)
      have c0 := hat k z hz
      have Z := Lib.hid hz
      have HD := Lib.hid hD
      have hm := S.out.2.2.1
      unfold maxLen at hm
      have f0 := O.out.frozenAt k
      obtain ⟨u0, d0⟩ := own_cell O.out k (by rw [List.length_append, intCells_len, List.length_take]; omega)
      clear hbel hown hz hat hD
      go_wp2
      go_roundw
      case rel =>
        have h5 := O.out.stored k (.int .i64 z)
        refine ⟨k + 1, D.tail, by omega, by rw [List.length_tail, HD.out]; omega, by go_num, B.out.grown h5.2 B.out.size (fun j e => by cases e; exact Nat.le_refl _), ?_⟩
        have hl : (intCells (xs.take k)).length = k := by rw [intCells_len, List.length_take]; omega
        have h6 := h5.1
        obtain ⟨d, D', rfl⟩ : ∃ d D', D = d :: D' := by
          cases D with
          | nil => have := HD.out; simp at this; omega
          | cons d D' => exact ⟨d, D', rfl⟩
        rw [List.set_append_right _ _ (by omega), hl, Nat.sub_self, List.set_cons_zero] at h6
        rw [List.take_add_one, Z.out, show (some z).toList = [z] from rfl, intCells_snoc, List.append_assoc]
        exact h6
      case measure => simp [intOf]; omega
    · obtain rfl : k = xs.length := by omega
      have hD0 : D = [] := List.length_eq_zero_iff.1 (by omega)
      subst hD0
      clear hown hbel hD
      have hm := S.out.2.2.1
      unfold maxLen at hm
      go_wp2
      go_ret
      refine ⟨⟨some ⟨w.heap.size, 0, none⟩, xs.length, xs.length⟩, rfl, ?_, B.out⟩
      have h := O.out
      rw [List.append_nil, List.take_of_length_le (Nat.le_refl _)] at h
      exact OwnIn.of_row h (Nat.le_refl _) (Nat.le_refl _)
/-- What one row's marks leave. -/
def IntSMarked (lo hi : Nat) (v : Value) (xs : List Int) (k : Nat) (w : World) (e : Ending) (w' : World) : Prop := e = .returned (.int .i64 ((k + cntInt xs : Nat) : Int)) ∧ OwnIntS lo hi w' v (mkInt k xs) ∧ Turned lo hi w w'
theorem markIntS_o (lo hi : Nat) (v : Value) (xs : List Int) (k : Nat) (w : World) (h : OwnIntS lo hi w v xs) (hk : k + cntInt xs ≤ 100000000) :
    Calls Try.prog 43 #[v, .int .i64 (k : Int)] w (IntSMarked lo hi v xs k w) :=
  (markIntS_any lo v xs.length k (intCells xs) w h.1 (by unfold cntInt at hk; omega) (by unfold cntInt at hk; omega)).mono fun e w' ⟨h1, h2, h3⟩ =>
    ⟨h1, ⟨by unfold mkInt; rw [marksI_len]; exact h2, h.2⟩, Turned.of_grown h3 fun b hb => ⟨(h.lt hb).1, (h.lt hb).2.1⟩⟩
theorem heldIntS_o (a : Option Addr) (n c : Nat) (xs : List Int) (k : Nat) (w : World) (h : IsInts w a n c (mkInt k xs)) (hk : k + cntInt xs ≤ 100000000) :
    Calls Try.prog 44 #[.slice a n c, .int .i64 (k : Int)] w fun e w' => e = .returned (.int .i64 ((k + cntInt xs : Nat) : Int)) ∧ Below w.heap.size w w' := by
  have e : n = xs.length := by rw [h.1]; unfold mkInt; rw [marksI_len]
  subst e
  exact (heldIntS_any a xs.length c k w h (by unfold cntInt at hk; omega) (by unfold cntInt at hk; omega)).mono fun e w' ⟨h1, h2⟩ => ⟨h1, h2 ▸ Below.refl _ _⟩
end Go.Proofs.Ytobpgoiaimlonaa
namespace Go.Proofs.Ytobpgoiaimlonaa
open Go.RowKit
def OwnClaimS (lo hi : Nat) (w : World) (v : Value) (xs : List VClaim) : Prop := OwnIn lo hi w 38 4 v xs.length (cellsClaim xs)
section
variable {lo hi lo' hi' : Nat} {w w' : World} {v : Value} {xs : List VClaim}
theorem OwnClaimS.form (h : OwnClaimS lo hi w v xs) : ∃ a c, v = .slice a xs.length c := by
  obtain ⟨a, c, e, _⟩ := isClaimS_own h.1
  exact ⟨a, c, e⟩
theorem OwnClaimS.is {a : Option Addr} {n c : Nat} (h : OwnClaimS lo hi w (.slice a n c) xs) : IsClaimS w a n c xs := by
  obtain ⟨a', c', e, hi, _⟩ := isClaimS_own h.1
  simp only [Value.slice.injEq] at e
  obtain ⟨rfl, rfl, rfl⟩ := e
  exact hi
theorem OwnClaimS.below (h : OwnClaimS lo hi w v xs) (hb : Below w.heap.size w w') : OwnClaimS lo hi w' v xs := OwnIn.below h hb
theorem OwnClaimS.turned (h : OwnClaimS lo hi w v xs) (t : Turned lo' hi' w w') (hd : hi ≤ lo' ∨ hi' ≤ lo) : OwnClaimS lo hi w' v xs := OwnIn.turned h t hd
theorem OwnClaimS.mono (h : OwnClaimS lo hi w v xs) (h1 : lo' ≤ lo) (h2 : hi ≤ hi') : OwnClaimS lo' hi' w v xs := OwnIn.mono h h1 h2
theorem nil_OwnClaimS (lo hi : Nat) (w : World) : OwnClaimS lo hi w (.slice none 0 0) [] := ⟨⟨by simp [cellsClaim], .inl ⟨rfl, rfl⟩⟩, fun b h => by cases h⟩
end
def condClaim (xs : List VClaim) : Prop := xs.length ≤ 1048576
def cntClaim (xs : List VClaim) : Nat := xs.length * 4
def mkClaim (k : Nat) (xs : List VClaim) : List VClaim := marksClaim k xs.length
theorem cntClaim_cond {xs : List VClaim} (h : condClaim xs) : cntClaim xs ≤ 4194304 := by unfold condClaim at h; unfold cntClaim; omega
def ClaimOPost (xs : List VClaim) (w : World) (e : Ending) (w' : World) : Prop := ∃ v, e = .returned v ∧ OwnClaimS w.heap.size w'.heap.size w' v xs ∧ Below w.heap.size w w'
theorem szClaimS_o (a : Option Addr) (len cap : Nat) (xs : List VClaim) (left : Int) (w : World) (h : IsClaimS w a len cap xs) (h0 : 0 ≤ left) (h1 : left ≤ 1048576) :
    Calls Try.prog 31 #[.slice a len cap, .int .i64 left] w fun e w' => ∃ z : Int, e = .returned (.int .i64 z) ∧ z ≤ left ∧ (0 ≤ z → condClaim xs) ∧ Below w.heap.size w w' :=
  (szClaimS_any a len cap xs left w h h0 h1).mono fun e w' ⟨z, h2, h3, h4, h5⟩ => ⟨z, h2, h3, fun hz => by have := h4 hz; have := h.1; unfold condClaim; omega, h5⟩
theorem toClaimS_o (a : Option Addr) (len cap : Nat) (xs : List VClaim) (w : World) (h : IsClaimS w a len cap xs) (hsz : condClaim xs) :
    Calls Try.prog 33 #[.slice a len cap] w (ClaimOPost xs w) :=
  (toClaimS_any a len cap xs w h (by have := h.1; unfold condClaim at hsz; omega)).mono fun e w' ⟨v, h1, h2, h3⟩ => ⟨v, h1, OwnIn.of_row h2 (Nat.le_refl _) (Nat.le_refl _), h3⟩
def ClaimSMarked (lo hi : Nat) (v : Value) (xs : List VClaim) (k : Nat) (w : World) (e : Ending) (w' : World) : Prop := e = .returned (.int .i64 ((k + cntClaim xs : Nat) : Int)) ∧ OwnClaimS lo hi w' v (mkClaim k xs) ∧ Turned lo hi w w'
theorem markClaimS_o (lo hi : Nat) (v : Value) (xs : List VClaim) (k : Nat) (w : World) (h : OwnClaimS lo hi w v xs) (hk : 1 ≤ k ∧ k ≤ 1000000 ∧ cntClaim xs ≤ 4194304) :
    Calls Try.prog 42 #[v, .int .i64 (k : Int)] w (ClaimSMarked lo hi v xs k w) :=
  (markClaimS_any lo v xs.length k (cellsClaim xs) w h.1 (by omega) (by omega) (by unfold cntClaim at hk; omega)).mono fun e w' ⟨h1, h2, h3⟩ =>
    ⟨h1, ⟨by unfold mkClaim; rw [marksClaim_len]; exact h2, h.2⟩, Turned.of_grown h3 fun b hb => ⟨(h.lt hb).1, (h.lt hb).2.1⟩⟩
end Go.Proofs.Ytobpgoiaimlonaa
namespace Go.Proofs.Ytobpgoiaimlonaa
open Go.RowKit

/-- Is a claim valid for n marks? -/
def clB (n : Int) (x : VClaim) : Bool := decide (0 ≤ x.Low) && (decide (x.Low < n) && (decide (0 ≤ x.High) && (decide (x.High < n) && (!(x.Low == x.High) && (inB x.Most (-9999) 9999 && inB x.Least (-9999) x.Most)))))
theorem clB_iff {n : Int} {x : VClaim} : clB n x = true ↔ 0 ≤ x.Low ∧ x.Low < n ∧ 0 ≤ x.High ∧ x.High < n ∧ ¬ x.Low = x.High ∧ (-9999 ≤ x.Most ∧ x.Most ≤ 9999) ∧ (-9999 ≤ x.Least ∧ x.Least ≤ x.Most) := by
  simp [clB, inB]
def areCl (n : Int) (xs : List VClaim) : Bool := xs.all (clB n) && (inB n 1 10 && decide (xs.length ≤ 24))
theorem areCl_iff {n : Int} {xs : List VClaim} : areCl n xs = true ↔ (∀ x ∈ xs, clB n x = true) ∧ (1 ≤ n ∧ n ≤ 10) ∧ xs.length ≤ 24 := by
  simp [areCl, inB]
/-- Are the numbers heights for n marks? -/
def hgtB (n : Int) (hs : List Int) : Bool := hs.all (fun h => inB h (-200000) 200000) && decide ((hs.length : Int) = n)
def atI (hs : List Int) (k : Int) : Int := hs.getD k.toNat 0
theorem atI_some {hs : List Int} {k : Nat} {a : Int} (h : hs[k]? = some a) : atI hs (k : Int) = a := by unfold atI; rw [List.getD_eq_getElem?_getD, Int.toNat_natCast, h]; rfl
def holdsB (hs : List Int) (x : VClaim) : Bool := inB (atI hs x.High - atI hs x.Low) x.Least x.Most
/-- The places below k of the claims that do not hold. -/
def brokenTo (hs : List Int) (xs : List VClaim) : Nat → List Int
  | 0 => []
  | k + 1 => brokenTo hs xs k ++ (match xs[k]? with | some x => if holdsB hs x = true then [] else [(k : Int)] | none => [])
def broken (hs : List Int) (xs : List VClaim) : List Int := brokenTo hs xs xs.length
theorem brokenTo_succ {hs : List Int} {xs : List VClaim} {k : Nat} {x : VClaim} (hx : xs[k]? = some x) : brokenTo hs xs (k + 1) = brokenTo hs xs k ++ (if holdsB hs x = true then [] else [(k : Int)]) := by rw [brokenTo, hx]
theorem brokenTo_len (hs : List Int) (xs : List VClaim) : ∀ k, (brokenTo hs xs k).length ≤ k := by
  intro k
  induction k with
  | zero => simp [brokenTo]
  | succ k ih =>
    rw [brokenTo, List.length_append]
    cases xs[k]? with
    | none => simp; omega
    | some x => simp only []; split <;> simp <;> omega
def AreClaims_0 (n : Int) (xs : List VClaim) : Bool := areCl n xs
def DoHeightsFit_1 (n : Int) (xs : List VClaim) (hs : List Int) : Bool := areCl n xs && hgtB n hs
def DoHeightsFit_0 (n : Int) (xs : List VClaim) (hs : List Int) : Bool := (areCl n xs && hgtB n hs) && (decide (atI hs 0 = 0) && decide ((broken hs xs).length = 0))
def BrokenClaims_1 (n : Int) (xs : List VClaim) (hs : List Int) : Bool := areCl n xs && hgtB n hs
def BrokenClaims_0 (n : Int) (xs : List VClaim) (hs : List Int) : List Int := if (areCl n xs && hgtB n hs) = true then broken hs xs else []
/-- The edges of claims, in the order in which the model relaxes them. -/
def clE (xs : List VClaim) : List Edge := xs.flatMap fun x => [(x.Low.toNat, x.High.toNat, x.Most), (x.High.toNat, x.Low.toNat, -x.Least)]
def reachL (n : Nat) (xs : List VClaim) (k : Nat) : List Int × Bool := reachN n (clE xs) k
def soundB (n : Nat) (xs : List VClaim) : Bool := soundN n (clE xs)
def AreSoundClaims_1 (n : Int) (xs : List VClaim) : Bool := areCl n xs
def AreSoundClaims_0 (n : Int) (xs : List VClaim) : Bool := areCl n xs && soundB n.toNat xs
/-! Contours. -/
def ctB (a b s : Int) : Bool := inB a (-200000) 200000 && (inB b (-200000) 200000 && inB s 1 1000)
def ContoursBetween_0 (a b s : Int) : Int := if ctB a b s = true then (max a b) / s - (min a b) / s else 0
def ContoursBetween_1 (a b s : Int) : Bool := ctB a b s
def claimOf (l h c s : Int) : VClaim := ⟨l, h, max 0 ((c - 1) * s + 1), (c + 1) * s - 1⟩
def coB (l h c s : Int) : Bool := (inB c 0 9 && inB s 1 1000) && clB 10 (claimOf l h c s)
def ClaimOfContours_0 (l h c s : Int) : VClaim := if coB l h c s = true then claimOf l h c s else ⟨0, 0, 0, 0⟩
def ClaimOfContours_1 (l h c s : Int) : Bool := coB l h c s
end Go.Proofs.Ytobpgoiaimlonaa
namespace Go.Proofs.Ytobpgoiaimlonaa
open Go.RowKit

def markGo : Nat → Nat → ByteArray → ByteArray
  | 0, _, out => out
  | f + 1, k, out => if k = 0 then out else markGo f (k / 10) (strOfNums [48 + ((k % 10 : Nat) : Int)] ++ out)
theorem markGo_zero (f : Nat) (out : ByteArray) : markGo f 0 out = out := by cases f <;> rfl
/-- The text that marks number k. -/
def markOf (k : Nat) : ByteArray := ⟨#[109]⟩ ++ markGo k k ByteArray.empty
theorem numStr_size (x : Int) : (strOfNums [x]).size = 1 := by simp [strOfNums, ByteArray.size]
theorem str_one (x : Int) (W : World) : (convert 22 9 (.slice (some ⟨W.heap.size, 0, none⟩) 1 1)).run Try.prog (W.alloc (.cells #[.int .u8 x] 5)) = .ok (.string (strOfNums [x])) (W.alloc (.cells #[.int .u8 x] 5)) :=
  run_convert_bytes_arg (P := Try.prog) _ 22 5 Try.underlying22 Try.underlying5 _ 0 1 1 [x] (by simp) (fun i hi => by
    rw [World.cell?_alloc_new]
    obtain rfl : i = 0 := by omega
    rfl) 9 Try.underlying9
theorem mark_eq {a b : Nat} (h : a = b) : Value.string (markOf a) = .string (markOf b) := by rw [h]
theorem markGo_size : ∀ (f k : Nat) (out : ByteArray), (markGo f k out).size ≤ out.size + f
  | 0, _, _ => Nat.le_refl _
  | f + 1, k, out => by
    unfold markGo
    split
    · omega
    · refine Nat.le_trans (markGo_size f _ _) ?_
      rw [ByteArray.size_append, numStr_size]; omega
theorem markOf_size (k : Nat) (h : k ≤ 100000000) : (markOf k).size ≤ maxLen := by
  unfold markOf
  rw [ByteArray.size_append]
  have := markGo_size k k ByteArray.empty
  have e : (⟨#[109]⟩ : ByteArray).size = 1 := rfl
  have e2 : ByteArray.empty.size = 0 := rfl
  unfold maxLen
  omega
end Go.Proofs.Ytobpgoiaimlonaa
