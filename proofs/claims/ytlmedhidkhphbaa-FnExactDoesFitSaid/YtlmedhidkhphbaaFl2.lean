/- Drawers and flats: sums of grams, and what it is to be right. Plain mathematics. -/
import Derived.Test.YtlmedhidkhphbaaFl
namespace Go.Proofs.Ytlmedhidkhphbaa

theorem hasB_same {l k : List Int} (h : ∀ x, x ∈ l ↔ x ∈ k) (x : Int) : hasB x l = hasB x k := by
  rw [Bool.eq_iff_iff, hasB_iff, hasB_iff]; exact h x
theorem gramsL_same {l k : List Int} (h : ∀ x, x ∈ l ↔ x ∈ k) (fs : List VFlat) : gramsL fs l = gramsL fs k := by
  unfold gramsL
  congr 2
  exact List.filter_congr fun f _ => hasB_same h f.Id
theorem gramsL_nil (fs : List VFlat) : gramsL fs [] = 0 := by
  have : (fs.filter fun f => hasB f.Id []) = [] := List.filter_eq_nil_iff.2 fun f _ => by simp [hasB]
  unfold gramsL; rw [this]; rfl
/-- No two flats have one id. -/
def Apart (fs : List VFlat) : Prop := fs.Pairwise fun f g => f.Id ≠ g.Id
theorem apart_up {fs : List VFlat} (h : upB VFlat.ok VFlat.Id fs = true) : Apart fs := by
  unfold Apart
  rw [List.pairwise_iff_getElem]
  intro i j hi hj hij e
  have := upB_lt h j i _ _ hij (List.getElem?_eq_getElem hi) (List.getElem?_eq_getElem hj)
  omega
theorem gramsL_none {fs : List VFlat} {id : Int} (ids : List Int) (h : ∀ f ∈ fs, f.Id ≠ id) : gramsL fs (id :: ids) = gramsL fs ids := by
  unfold gramsL
  congr 2
  refine List.filter_congr fun f hf => ?_
  have := h f hf
  rw [Bool.eq_iff_iff, hasB_iff, hasB_iff]
  simp [this]
theorem gramsL_cons {fs : List VFlat} (hp : Apart fs) {f : VFlat} (hf : f ∈ fs) {ids : List Int} (hn : f.Id ∉ ids) : gramsL fs (f.Id :: ids) = f.Grams + gramsL fs ids := by
  induction fs with
  | nil => simp at hf
  | cons x l ih =>
    unfold Apart at hp
    rw [List.pairwise_cons] at hp
    have step : ∀ ids, gramsL (x :: l) ids = (if hasB x.Id ids = true then x.Grams else 0) + gramsL l ids := fun ids => by
      unfold gramsL
      by_cases h : hasB x.Id ids = true
      · simp [h, sumI]
      · simp [h]
    rw [step, step]
    by_cases e : f = x
    · subst e
      have h1 : hasB f.Id (f.Id :: ids) = true := hasB_iff.2 (by simp)
      have h2 : ¬ hasB f.Id ids = true := fun h => hn (hasB_iff.1 h)
      rw [if_pos h1, if_neg h2, gramsL_none ids (fun g hg => fun e => hp.1 g hg e.symm)]
      omega
    · have hfl : f ∈ l := by
        rcases List.mem_cons.1 hf with h | h
        · exact absurd h e
        · exact h
      have hx : x.Id ≠ f.Id := hp.1 f hfl
      have h1 : hasB x.Id (f.Id :: ids) = hasB x.Id ids := by
        rw [Bool.eq_iff_iff, hasB_iff, hasB_iff]; simp [hx]
      rw [h1, ih hp.2 hfl]
      omega
theorem flatOf_some {fs : List VFlat} {id : Int} {f : VFlat} (h : flatOf fs id = some f) : f ∈ fs ∧ f.Id = id := by
  unfold flatOf at h
  exact ⟨List.mem_of_find?_eq_some h, by simpa using List.find?_some h⟩
theorem flatOf_mem {fs : List VFlat} (hp : Apart fs) {f : VFlat} (hf : f ∈ fs) : flatOf fs f.Id = some f := by
  unfold flatOf
  induction fs with
  | nil => simp at hf
  | cons x l ih =>
    unfold Apart at hp
    rw [List.pairwise_cons] at hp
    rcases List.mem_cons.1 hf with rfl | h
    · simp
    · have : ¬ x.Id = f.Id := hp.1 f h
      rw [List.find?_cons_of_neg (by simpa using this)]
      exact ih hp.2 h
/-- The grams of a flat, told by its id. -/
def gramsId (fs : List VFlat) (id : Int) : Int := match flatOf fs id with | none => 0 | some f => f.Grams
def gramsS (fs : List VFlat) (ids : List Int) : Int := sumI (ids.map (gramsId fs))
theorem gramsS_cons (fs : List VFlat) (id : Int) (ids : List Int) : gramsS fs (id :: ids) = gramsId fs id + gramsS fs ids := rfl
theorem gramsS_take {fs : List VFlat} {ids : List Int} {k : Nat} {id : Int} (h : ids[k]? = some id) : gramsS fs (ids.take (k + 1)) = gramsS fs (ids.take k) + gramsId fs id := by
  unfold gramsS
  rw [List.take_add_one, h, List.map_append, sumI_app]
  simp [sumI]
theorem gramsL_sum {fs : List VFlat} (hp : Apart fs) {ids : List Int} (hn : ids.Nodup) (hf : ∀ id ∈ ids, ∃ f, flatOf fs id = some f) : gramsL fs ids = gramsS fs ids := by
  induction ids with
  | nil => rw [gramsL_nil]; rfl
  | cons id l ih =>
    rw [List.nodup_cons] at hn
    obtain ⟨f, h1⟩ := hf id (by simp)
    obtain ⟨h2, rfl⟩ := flatOf_some h1
    rw [gramsL_cons hp h2 hn.1, gramsS_cons, ih hn.2 fun i hi => hf i (by simp [hi])]
    unfold gramsId
    rw [h1]
theorem idsB_nodup {zs : List Int} (h : upB idOk (fun z => z) zs = true) : zs.Nodup := by
  unfold List.Nodup
  rw [List.pairwise_iff_getElem]
  intro i j hi hj hij e
  have := upB_lt h j i _ _ hij (List.getElem?_eq_getElem hi) (List.getElem?_eq_getElem hj)
  omega
/-- What the model reckons: the grams of all, or -1 if one is unknown or does not fit. -/
def gramsM (fs : List VFlat) (d : VDrawer) : Int := if d.Flats.all (fitsId fs d) then gramsS fs d.Flats else -1
theorem fitsId_some {fs : List VFlat} {d : VDrawer} {id : Int} (h : fitsId fs d id = true) : ∃ f, flatOf fs id = some f ∧ fitsB f d = true := by
  unfold fitsId at h
  cases e : flatOf fs id with
  | none => rw [e] at h; cases h
  | some f => rw [e] at h; exact ⟨f, rfl, h⟩
theorem grams_bd {fs : List VFlat} (h : ∀ f ∈ fs, VFlat.ok f = true) (id : Int) : 0 ≤ gramsId fs id ∧ gramsId fs id ≤ 5000 := by
  unfold gramsId
  cases e : flatOf fs id with
  | none => simp
  | some f =>
    have h1 := h f (flatOf_some e).1
    unfold VFlat.ok at h1
    simp [inB_iff] at h1
    simp
    omega
theorem gramsS_bd {fs : List VFlat} (h : ∀ f ∈ fs, VFlat.ok f = true) (ids : List Int) : 0 ≤ gramsS fs ids ∧ gramsS fs ids ≤ 5000 * (ids.length : Int) := by
  induction ids with
  | nil => simp [gramsS, sumI]
  | cons id l ih =>
    rw [gramsS_cons]
    have := grams_bd h id
    simp only [List.length_cons]
    omega
theorem gramsL_bd {fs : List VFlat} (h : ∀ f ∈ fs, VFlat.ok f = true) (ids : List Int) : 0 ≤ gramsL fs ids ∧ gramsL fs ids ≤ 5000 * (fs.length : Int) := by
  unfold gramsL
  have : ∀ l : List VFlat, (∀ f ∈ l, VFlat.ok f = true) → 0 ≤ sumI (l.map VFlat.Grams) ∧ sumI (l.map VFlat.Grams) ≤ 5000 * (l.length : Int) := by
    intro l
    induction l with
    | nil => intro _; simp [sumI]
    | cons x l ih =>
      intro hl
      have h1 := hl x (by simp)
      unfold VFlat.ok at h1
      simp [inB_iff] at h1
      have := ih fun f hf => hl f (by simp [hf])
      simp only [List.map_cons, sumI, List.length_cons]
      omega
  have h2 := this (fs.filter fun f => hasB f.Id ids) fun f hf => h f (List.mem_filter.1 hf).1
  have h3 := List.length_filter_le (fun f : VFlat => hasB f.Id ids) fs
  omega
theorem right_model {fs : List VFlat} (hf : upB VFlat.ok VFlat.Id fs = true) {d : VDrawer} (hd : VDrawer.ok d = true) : inB (gramsM fs d) 0 d.Holds = rightB fs d := by
  have hids : upB idOk (fun z => z) d.Flats = true := by
    unfold VDrawer.ok idsB at hd
    simp at hd
    exact hd.2.2.2.2.1
  unfold gramsM rightB
  by_cases ha : d.Flats.all (fitsId fs d) = true
  · rw [if_pos ha, ha, Bool.true_and, gramsL_sum (apart_up hf) (idsB_nodup hids) fun id hid => by
      obtain ⟨f, h, _⟩ := fitsId_some (List.all_eq_true.1 ha id hid)
      exact ⟨f, h⟩]
    have := (gramsS_bd (fun f h => upB_ok hf h) d.Flats).1
    rw [Bool.eq_iff_iff, inB_iff]
    simp
    omega
  · rw [if_neg ha]
    have : d.Flats.all (fitsId fs d) = false := by simpa using ha
    rw [this]
    rw [Bool.eq_iff_iff, inB_iff]
    simp
end Go.Proofs.Ytlmedhidkhphbaa
