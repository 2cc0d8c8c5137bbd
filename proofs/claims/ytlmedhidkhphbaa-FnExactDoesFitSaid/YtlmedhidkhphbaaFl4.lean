/- Storing all: the order of the flats, and that what lies in a drawer stays there. Plain mathematics. -/
import Derived.Test.YtlmedhidkhphbaaFl3
namespace Go.Proofs.Ytlmedhidkhphbaa

/-! One order, whatever the way to it. -/
section
variable {α : Type}
theorem perm_sorted (r : α → α → Prop) (ha : ∀ x y, r x y → ¬ r y x) : ∀ (l k : List α), l.Perm k → l.Pairwise r → k.Pairwise r → l = k
  | [], k, hp, _, _ => (List.nil_perm.1 hp).symm
  | x :: l, k, hp, h1, h2 => by
    cases k with
    | nil => exact absurd hp (by simp)
    | cons y k =>
      rw [List.pairwise_cons] at h1 h2
      have e : x = y := by
        have hx : x ∈ y :: k := hp.mem_iff.1 (by simp)
        have hy : y ∈ x :: l := hp.mem_iff.2 (by simp)
        rcases List.mem_cons.1 hx with e | hx
        · exact e
        · rcases List.mem_cons.1 hy with e | hy
          · exact e.symm
          · exact absurd (h1.1 y hy) (ha _ _ (h2.1 x hx))
      subst e
      rw [perm_sorted r ha l k (List.Perm.cons_inv hp) h1.2 h2.2]
end
/-- f comes before g: it is greater, or as great with a lower number. -/
def bef (f g : VFlat) : Prop := areaF g < areaF f ∨ (areaF f = areaF g ∧ f.Id < g.Id)
theorem bef_asym (f g : VFlat) (h : bef f g) : ¬ bef g f := by unfold bef at *; omega
theorem insF_perm (f : VFlat) (l : List VFlat) : (insF f l).Perm (f :: l) := by
  induction l with
  | nil => exact List.Perm.refl _
  | cons x l ih =>
    unfold insF
    split
    · exact List.Perm.refl _
    · exact (List.Perm.cons x ih).trans (List.Perm.swap f x l)
theorem insF_sorted {f : VFlat} {l : List VFlat} (h : l.Pairwise bef) (hi : ∀ x ∈ l, x.Id < f.Id) : (insF f l).Pairwise bef := by
  induction l with
  | nil => simp [insF]
  | cons x l ih =>
    rw [List.pairwise_cons] at h
    unfold insF
    split
    · rename_i hlt
      rw [List.pairwise_cons, List.pairwise_cons]
      refine ⟨fun y hy => ?_, h⟩
      rcases List.mem_cons.1 hy with rfl | hy
      · exact .inl hlt
      · have := h.1 y hy
        unfold bef at this ⊢
        omega
    · rename_i hlt
      rw [List.pairwise_cons]
      refine ⟨fun y hy => ?_, ih h.2 fun y hy => hi y (by simp [hy])⟩
      rcases List.mem_cons.1 ((insF_perm f l).mem_iff.1 hy) with rfl | hy
      · have := hi x (by simp)
        unfold bef
        omega
      · exact h.1 y hy
theorem orderF_snoc (fs : List VFlat) (f : VFlat) : orderF (fs ++ [f]) = insF f (orderF fs) := by
  unfold orderF; rw [List.foldl_append]; rfl
theorem foldF_perm (fs l : List VFlat) : (fs.foldl (fun l f => insF f l) l).Perm (fs ++ l) := by
  induction fs generalizing l with
  | nil => exact List.Perm.refl _
  | cons f fs ih =>
    rw [List.foldl_cons]
    refine (ih _).trans ?_
    refine ((insF_perm f l).append_left fs).trans ?_
    exact List.perm_middle
theorem orderF_perm (fs : List VFlat) : (orderF fs).Perm fs := by
  have := foldF_perm fs []
  rwa [List.append_nil] at this
theorem foldF_sorted (fs l : List VFlat) (hf : fs.Pairwise fun f g => f.Id < g.Id) (hl : l.Pairwise bef) (hlf : ∀ x ∈ l, ∀ f ∈ fs, x.Id < f.Id) : (fs.foldl (fun l f => insF f l) l).Pairwise bef := by
  induction fs generalizing l with
  | nil => exact hl
  | cons f fs ih =>
    rw [List.foldl_cons]
    rw [List.pairwise_cons] at hf
    refine ih _ hf.2 (insF_sorted hl fun x hx => hlf x hx f (by simp)) fun x hx g hg => ?_
    rcases List.mem_cons.1 ((insF_perm f l).mem_iff.1 hx) with rfl | hx
    · exact hf.1 g hg
    · exact hlf x hx g (by simp [hg])
theorem orderF_sorted {fs : List VFlat} (hf : fs.Pairwise fun f g => f.Id < g.Id) : (orderF fs).Pairwise bef := foldF_sorted fs [] hf List.Pairwise.nil (by simp)
theorem up_pairwise {fs : List VFlat} (h : upB VFlat.ok VFlat.Id fs = true) : fs.Pairwise fun f g => f.Id < g.Id := by
  rw [List.pairwise_iff_getElem]
  intro i j hi hj hij
  exact upB_lt h j i _ _ hij (List.getElem?_eq_getElem hi) (List.getElem?_eq_getElem hj)
/-- All flats in order, cut down to some of them, are these in order. -/
theorem order_filter {fs ys : List VFlat} (h : upB VFlat.ok VFlat.Id fs = true) (hp : ys.Perm fs) (hs : ys.Pairwise bef) (p : VFlat → Bool) : ys.filter p = orderF (fs.filter p) :=
  perm_sorted bef bef_asym _ _ ((hp.filter p).trans (orderF_perm _).symm) (List.Pairwise.filter p hs) (orderF_sorted (List.Pairwise.filter p (up_pairwise h)))

/-! What is stored stays. -/
theorem setF_len (ds : List VDrawer) (i : Nat) (g : List Int → List Int) : (setF ds i g).length = ds.length := by
  unfold setF; split <;> simp
theorem setF_at (ds : List VDrawer) (i : Nat) (g : List Int → List Int) (j : Nat) : (setF ds i g)[j]? = (ds[j]?).map fun d => if j = i then withF d (g d.Flats) else d := by
  unfold setF
  cases h : ds[i]? with
  | none =>
    cases h2 : ds[j]? with
    | none => rfl
    | some d =>
      have : j ≠ i := fun e => by subst e; rw [h] at h2; cases h2
      simp [this]
  | some d =>
    have hi := (List.getElem?_eq_some_iff.1 h).1
    by_cases e : j = i
    · subst e; rw [List.getElem?_set_self hi, h]; simp
    · simp only [e, if_false]
      rw [List.getElem?_set_ne (Ne.symm e)]
      cases ds[j]? <;> rfl
theorem held_put {ds : List VDrawer} {i : Nat} {flat id : Int} (h : 0 ≤ holdI ds id) : 0 ≤ holdI (putAt ds i flat) id := by
  by_cases h2 : 0 ≤ holdI (putAt ds i flat) id
  · exact h2
  · have hn := hold_neg.1 (show holdI (putAt ds i flat) id < 0 by omega)
    obtain ⟨j, d, _, hj, _, hm⟩ := hold_at h
    have hj2 : (putAt ds i flat)[j]? = some (if j = i then withF d (insAt flat d.Flats) else d) := by
      unfold putAt; rw [setF_at, hj]; rfl
    have := hn _ (List.mem_of_getElem? hj2)
    split at this
    · exact absurd (insAt_mem.2 (.inr hm)) this
    · exact absurd hm this
theorem put_good {fs : List VFlat} {ds : List VDrawer} {flat id : Int} (h : putB fs ds flat id = true) : goodB fs (PutFlat_0 fs ds flat id) = true := by
  unfold PutFlat_0
  rw [if_pos h]
  unfold putB at h
  simp only [Bool.and_eq_true] at h
  exact h.2.2
theorem mem_leastBy (f : Int → Int) (l : List Int) (b : Int) : leastBy f l b ∈ b :: l := by
  induction l generalizing b with
  | nil => simp [leastBy]
  | cons x l ih =>
    have := ih (if f x < f b then x else b)
    unfold leastBy
    rcases List.mem_cons.1 this with h | h
    · rw [h]; split <;> simp
    · simp [h]
theorem tight_put {fs : List VFlat} {ds : List VDrawer} {flat : Int} (h : TightestFor_1 fs ds flat = true) : putB fs ds flat (TightestFor_0 fs ds flat) = true := by
  have hm : TightestFor_0 fs ds flat ∈ DrawersFor_0 fs ds flat := by
    unfold TightestFor_1 at h
    unfold TightestFor_0
    cases e : DrawersFor_0 fs ds flat with
    | nil => rw [e] at h; simp at h
    | cons x l => exact mem_leastBy _ l x
  unfold DrawersFor_0 at hm
  split at hm
  · obtain ⟨d, hd, e⟩ := List.mem_map.1 hm
    rw [← e]
    exact (List.mem_filter.1 hd).2
  · simp at hm
theorem tight_loose {fs : List VFlat} {ds : List VDrawer} {flat : Int} (h : TightestFor_1 fs ds flat = true) : holdI ds flat < 0 := by
  have := tight_put h
  unfold putB looseB at this
  simp only [Bool.and_eq_true, decide_eq_true_eq] at this
  exact this.1.2.2
theorem store_good {fs : List VFlat} {ds : List VDrawer} (h : goodB fs ds = true) (f : VFlat) : goodB fs (storeF fs ds f) = true := by
  unfold storeF
  split
  · exact put_good (tight_put ‹_›)
  · exact h
theorem store_held {fs : List VFlat} {ds : List VDrawer} {id : Int} (h : 0 ≤ holdI ds id) (f : VFlat) : 0 ≤ holdI (storeF fs ds f) id := by
  unfold storeF
  split
  · unfold PutFlat_0
    rw [if_pos (tight_put ‹_›)]
    exact held_put h
  · exact h
theorem store_id {fs : List VFlat} {ds : List VDrawer} {f : VFlat} (h : 0 ≤ holdI ds f.Id) : storeF fs ds f = ds := by
  unfold storeF
  split
  · have := tight_loose ‹_›
    omega
  · rfl
/-- Flats that lie in a drawer are passed over. -/
theorem store_filter (fs : List VFlat) (p : VFlat → Bool) (ys : List VFlat) (ds : List VDrawer) (h : ∀ f ∈ ys, p f = false → 0 ≤ holdI ds f.Id) : ys.foldl (storeF fs) ds = (ys.filter p).foldl (storeF fs) ds := by
  induction ys generalizing ds with
  | nil => rfl
  | cons f ys ih =>
    rw [List.foldl_cons, List.filter_cons]
    by_cases hp : p f = true
    · rw [if_pos hp, List.foldl_cons]
      exact ih _ fun g hg hpg => store_held (h g (by simp [hg]) hpg) f
    · rw [if_neg hp, store_id (h f (by simp) (by simpa using hp))]
      exact ih _ fun g hg hpg => h g (by simp [hg]) hpg
theorem foldl_good {fs : List VFlat} (ys : List VFlat) {ds : List VDrawer} (h : goodB fs ds = true) : goodB fs (ys.foldl (storeF fs) ds) = true := by
  induction ys generalizing ds with
  | nil => exact h
  | cons f ys ih => exact ih (store_good h f)
/-- All flats in order, stored one by one. -/
theorem stored_all {fs : List VFlat} {ds : List VDrawer} (hg : goodB fs ds = true) {ys : List VFlat} (hp : ys.Perm fs) (hs : ys.Pairwise bef) : ys.foldl (storeF fs) ds = storedL fs ds := by
  unfold storedL
  rw [← order_filter (good_iff.1 hg).flats hp hs, store_filter fs (fun f => decide (holdI ds f.Id < 0)) ys ds]
  intro f _ hf
  simpa using hf
end Go.Proofs.Ytlmedhidkhphbaa
