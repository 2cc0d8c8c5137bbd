/- Texts in one: Fl2, Fl3, Fl4, IntO, FlatO, DrawerT2, Fd, Sw. -/
import Derived.Test.YtlmedhidkhphbaaM2
import Derived.Laws.MakeOwn
import Derived.Deep.RegionWith
import Derived.Test.YtlmedhidkhphbaaM1
namespace Go.Proofs.Ytlmedhidkhphbaa

theorem hasB_same {l k : List Int} (h : ∀ x, x ∈ l ↔ x ∈ k) (x : Int) : hasB x l = hasB x k := by
  rw [Bool.eq_iff_iff, hasB_iff, hasB_iff]; exact h x
theorem gramsL_same {l k : List Int} (h : ∀ x, x ∈ l ↔ x ∈ k) (fs : List VFlat) : gramsL fs l = gramsL fs k := by
  unfold gramsL
  congr 2
  exact List.filter_congr fun f _ => hasB_same h f.Id
theorem gramsL_nil (fs : List VFlat) : gramsL fs [] = 0 := by
  have : (fs.filter fun f => hasB f.Id []) = [] := List.filter_eq_nil_iff.2 fun f _ => by simp [hasB]
  unfold gramsL; rw [this]; rfl
/-- No two flats have one id. -/
def Apart (fs : List VFlat) : Prop := fs.Pairwise fun f g => f.Id ≠ g.Id
theorem apart_up {fs : List VFlat} (h : upB VFlat.ok VFlat.Id fs = true) : Apart fs := by
  unfold Apart
  rw [List.pairwise_iff_getElem]
  intro i j hi hj hij e
  have := upB_lt h j i _ _ hij (List.getElem?_eq_getElem hi) (List.getElem?_eq_getElem hj)
  omega
theorem gramsL_none {fs : List VFlat} {id : Int} (ids : List Int) (h : ∀ f ∈ fs, f.Id ≠ id) : gramsL fs (id :: ids) = gramsL fs ids := by
  unfold gramsL
  congr 2
  refine List.filter_congr fun f hf => ?_
  have := h f hf
  rw [Bool.eq_iff_iff, hasB_iff, hasB_iff]
  simp [this]
theorem gramsL_cons {fs : List VFlat} (hp : Apart fs) {f : VFlat} (hf : f ∈ fs) {ids : List Int} (hn : f.Id ∉ ids) : gramsL fs (f.Id :: ids) = f.Grams + gramsL fs ids := by
  induction fs with
  | nil => simp at hf
  | cons x l ih =>
    unfold Apart at hp
    rw [List.pairwise_cons] at hp
    have step : ∀ ids, gramsL (x :: l) ids = (if hasB x.Id ids = true then x.Grams else 0) + gramsL l ids := fun ids => by
      unfold gramsL
      by_cases h : hasB x.Id ids = true
      · simp [h, sumI]
      · simp [h]
    rw [step, step]
    by_cases e : f = x
    · subst e
      have h1 : hasB f.Id (f.Id :: ids) = true := hasB_iff.2 (by simp)
      have h2 : ¬ hasB f.Id ids = true := fun h => hn (hasB_iff.1 h)
      rw [if_pos h1, if_neg h2, gramsL_none ids (fun g hg => fun e => hp.1 g hg e.symm)]
      omega
    · have hfl : f ∈ l := by
        rcases List.mem_cons.1 hf with h | h
        · exact absurd h e
        · exact h
      have hx : x.Id ≠ f.Id := hp.1 f hfl
      have h1 : hasB x.Id (f.Id :: ids) = hasB x.Id ids := by
        rw [Bool.eq_iff_iff, hasB_iff, hasB_iff]; simp [hx]
      rw [h1, ih hp.2 hfl]
      omega
theorem flatOf_some {fs : List VFlat} {id : Int} {f : VFlat} (h : flatOf fs id = some f) : f ∈ fs ∧ f.Id = id := by
  unfold flatOf at h
  exact ⟨List.mem_of_find?_eq_some h, by simpa using List.find?_some h⟩
theorem flatOf_mem {fs : List VFlat} (hp : Apart fs) {f : VFlat} (hf : f ∈ fs) : flatOf fs f.Id = some f := by
  unfold flatOf
  induction fs with
  | nil => simp at hf
  | cons x l ih =>
    unfold Apart at hp
    rw [List.pairwise_cons] at hp
    rcases List.mem_cons.1 hf with rfl | h
    · simp
    · have : ¬ x.Id = f.Id := hp.1 f h
      rw [List.find?_cons_of_neg (by simpa using this)]
      exact ih hp.2 h
/-- The grams of a flat, told by its id. -/
def gramsId (fs : List VFlat) (id : Int) : Int := match flatOf fs id with | none => 0 | some f => f.Grams
def gramsS (fs : List VFlat) (ids : List Int) : Int := sumI (ids.map (gramsId fs))
theorem gramsS_cons (fs : List VFlat) (id : Int) (ids : List Int) : gramsS fs (id :: ids) = gramsId fs id + gramsS fs ids := rfl
theorem gramsS_take {fs : List VFlat} {ids : List Int} {k : Nat} {id : Int} (h : ids[k]? = some id) : gramsS fs (ids.take (k + 1)) = gramsS fs (ids.take k) + gramsId fs id := by
  unfold gramsS
  rw [List.take_add_one, h, List.map_append, sumI_app]
  simp [sumI]
theorem gramsL_sum {fs : List VFlat} (hp : Apart fs) {ids : List Int} (hn : ids.Nodup) (hf : ∀ id ∈ ids, ∃ f, flatOf fs id = some f) : gramsL fs ids = gramsS fs ids := by
  induction ids with
  | nil => rw [gramsL_nil]; rfl
  | cons id l ih =>
    rw [List.nodup_cons] at hn
    obtain ⟨f, h1⟩ := hf id (by simp)
    obtain ⟨h2, rfl⟩ := flatOf_some h1
    rw [gramsL_cons hp h2 hn.1, gramsS_cons, ih hn.2 fun i hi => hf i (by simp [hi])]
    unfold gramsId
    rw [h1]
theorem idsB_nodup {zs : List Int} (h : upB idOk (fun z => z) zs = true) : zs.Nodup := by
  unfold List.Nodup
  rw [List.pairwise_iff_getElem]
  intro i j hi hj hij e
  have := upB_lt h j i _ _ hij (List.getElem?_eq_getElem hi) (List.getElem?_eq_getElem hj)
  omega
/-- What the model reckons: the grams of all, or -1 if one is unknown or does not fit. -/
def gramsM (fs : List VFlat) (d : VDrawer) : Int := if d.Flats.all (fitsId fs d) then gramsS fs d.Flats else -1
theorem fitsId_some {fs : List VFlat} {d : VDrawer} {id : Int} (h : fitsId fs d id = true) : ∃ f, flatOf fs id = some f ∧ fitsB f d = true := by
  unfold fitsId at h
  cases e : flatOf fs id with
  | none => rw [e] at h; cases h
  | some f => rw [e] at h; exact ⟨f, rfl, h⟩
theorem grams_bd {fs : List VFlat} (h : ∀ f ∈ fs, VFlat.ok f = true) (id : Int) : 0 ≤ gramsId fs id ∧ gramsId fs id ≤ 5000 := by
  unfold gramsId
  cases e : flatOf fs id with
  | none => simp
  | some f =>
    have h1 := h f (flatOf_some e).1
    unfold VFlat.ok at h1
    simp [inB_iff] at h1
    simp
    omega
theorem gramsS_bd {fs : List VFlat} (h : ∀ f ∈ fs, VFlat.ok f = true) (ids : List Int) : 0 ≤ gramsS fs ids ∧ gramsS fs ids ≤ 5000 * (ids.length : Int) := by
  induction ids with
  | nil => simp [gramsS, sumI]
  | cons id l ih =>
    rw [gramsS_cons]
    have := grams_bd h id
    simp only [List.length_cons]
    omega
theorem gramsL_bd {fs : List VFlat} (h : ∀ f ∈ fs, VFlat.ok f = true) (ids : List Int) : 0 ≤ gramsL fs ids ∧ gramsL fs ids ≤ 5000 * (fs.length : Int) := by
  unfold gramsL
  have : ∀ l : List VFlat, (∀ f ∈ l, VFlat.ok f = true) → 0 ≤ sumI (l.map VFlat.Grams) ∧ sumI (l.map VFlat.Grams) ≤ 5000 * (l.length : Int) := by
    intro l
    induction l with
    | nil => intro _; simp [sumI]
    | cons x l ih =>
      intro hl
      have h1 := hl x (by simp)
      unfold VFlat.ok at h1
      simp [inB_iff] at h1
      have := ih fun f hf => hl f (by simp [hf])
      simp only [List.map_cons, sumI, List.length_cons]
      omega
  have h2 := this (fs.filter fun f => hasB f.Id ids) fun f hf => h f (List.mem_filter.1 hf).1
  have h3 := List.length_filter_le (fun f : VFlat => hasB f.Id ids) fs
  omega
theorem right_model {fs : List VFlat} (hf : upB VFlat.ok VFlat.Id fs = true) {d : VDrawer} (hd : VDrawer.ok d = true) : inB (gramsM fs d) 0 d.Holds = rightB fs d := by
  have hids : upB idOk (fun z => z) d.Flats = true := by
    unfold VDrawer.ok idsB at hd
    simp at hd
    exact hd.2.2.2.2.1
  unfold gramsM rightB
  by_cases ha : d.Flats.all (fitsId fs d) = true
  · rw [if_pos ha, ha, Bool.true_and, gramsL_sum (apart_up hf) (idsB_nodup hids) fun id hid => by
      obtain ⟨f, h, _⟩ := fitsId_some (List.all_eq_true.1 ha id hid)
      exact ⟨f, h⟩]
    have := (gramsS_bd (fun f h => upB_ok hf h) d.Flats).1
    rw [Bool.eq_iff_iff, inB_iff]
    simp
    omega
  · rw [if_neg ha]
    have : d.Flats.all (fitsId fs d) = false := by simpa using ha
    rw [this]
    rw [Bool.eq_iff_iff, inB_iff]
    simp
end Go.Proofs.Ytlmedhidkhphbaa
namespace Go.Proofs.Ytlmedhidkhphbaa

structure Good (fs : List VFlat) (ds : List VDrawer) : Prop where
  flats : upB VFlat.ok VFlat.Id fs = true
  fl : fs.length ≤ 20
  up : upB VDrawer.ok VDrawer.Id ds = true
  dl : ds.length ≤ 8
  right : ∀ (i : Nat) d, ds[i]? = some d → rightB fs d = true
  apart : ∀ (i j : Nat) d e id, i < j → ds[i]? = some d → ds[j]? = some e → id ∈ d.Flats → id ∉ e.Flats
theorem hold_neg {ds : List VDrawer} {id : Int} : holdI ds id < 0 ↔ ∀ d ∈ ds, id ∉ d.Flats := by
  unfold holdI
  rcases find_first (fun d : VDrawer => hasB id d.Flats) ds with ⟨h1, h2⟩ | ⟨i, d, h1, h2, _, h4⟩
  · rw [h1]
    refine ⟨fun _ d hd hm => ?_, fun _ => by omega⟩
    have := List.find?_eq_none.1 h2 d hd
    exact this (hasB_iff.2 hm)
  · rw [h1]
    refine ⟨fun h => by omega, fun h => ?_⟩
    exact absurd (hasB_iff.1 h4) (h d (List.mem_of_getElem? h2))
theorem hold_at {ds : List VDrawer} {id : Int} (h : 0 ≤ holdI ds id) : ∃ (i : Nat) (d : VDrawer), holdI ds id = (i : Int) ∧ ds[i]? = some d ∧ ds.find? (fun d => hasB id d.Flats) = some d ∧ id ∈ d.Flats := by
  unfold holdI at h ⊢
  rcases find_first (fun d : VDrawer => hasB id d.Flats) ds with ⟨h1, h2⟩ | ⟨i, d, h1, h2, h3, h4⟩
  · omega
  · exact ⟨i, d, h1, h2, h3, hasB_iff.1 h4⟩
theorem hold_no {ds : List VDrawer} {id : Int} (h : holdI ds id < 0) : holdI ds id = -1 ∧ ds.find? (fun d => hasB id d.Flats) = none := by
  unfold holdI at h ⊢
  rcases find_first (fun d : VDrawer => hasB id d.Flats) ds with ⟨h1, h2⟩ | ⟨i, d, h1, _⟩
  · exact ⟨h1, h2⟩
  · omega
theorem draw_at {ds : List VDrawer} {id : Int} (h : 0 ≤ drawI ds id) : ∃ (i : Nat) (d : VDrawer), drawI ds id = (i : Int) ∧ ds[i]? = some d ∧ ds.find? (fun d => d.Id == id) = some d ∧ d.Id = id := by
  unfold drawI at h ⊢
  rcases find_first (fun d : VDrawer => d.Id == id) ds with ⟨h1, h2⟩ | ⟨i, d, h1, h2, h3, h4⟩
  · omega
  · exact ⟨i, d, h1, h2, h3, by simpa using h4⟩
theorem draw_no {ds : List VDrawer} {id : Int} (h : drawI ds id < 0) : drawI ds id = -1 ∧ ds.find? (fun d => d.Id == id) = none := by
  unfold drawI at h ⊢
  rcases find_first (fun d : VDrawer => d.Id == id) ds with ⟨h1, h2⟩ | ⟨i, d, h1, _⟩
  · exact ⟨h1, h2⟩
  · omega
theorem draw_up {ds : List VDrawer} (h : upB VDrawer.ok VDrawer.Id ds = true) {i : Nat} {d : VDrawer} (hd : ds[i]? = some d) : drawI ds d.Id = (i : Int) := upB_first h hd
theorem flat_at {fs : List VFlat} {id : Int} (h : 0 ≤ flatI fs id) : ∃ (i : Nat) (f : VFlat), flatI fs id = (i : Int) ∧ fs[i]? = some f ∧ flatOf fs id = some f ∧ f.Id = id := by
  unfold flatI flatOf at *
  rcases find_first (fun f : VFlat => f.Id == id) fs with ⟨h1, h2⟩ | ⟨i, d, h1, h2, h3, h4⟩
  · omega
  · exact ⟨i, d, h1, h2, h3, by simpa using h4⟩
theorem flat_no {fs : List VFlat} {id : Int} (h : flatI fs id < 0) : flatI fs id = -1 ∧ flatOf fs id = none := by
  unfold flatI flatOf at *
  rcases find_first (fun f : VFlat => f.Id == id) fs with ⟨h1, h2⟩ | ⟨i, d, h1, _⟩
  · exact ⟨h1, h2⟩
  · omega
theorem flat_of {fs : List VFlat} {id : Int} {f : VFlat} (h : flatOf fs id = some f) : 0 ≤ flatI fs id := by
  by_cases h2 : 0 ≤ flatI fs id
  · exact h2
  · rw [(flat_no (by omega)).2] at h; cases h
theorem apartB_iff {ds : List VDrawer} {i : Nat} {d : VDrawer} : apartB ds i d = true ↔ ∀ id ∈ d.Flats, ∀ e ∈ ds.take i, id ∉ e.Flats := by
  unfold apartB
  rw [List.all_eq_true]
  constructor
  · intro h id hid
    have := h id hid
    simp only [decide_eq_true_eq] at this
    exact hold_neg.1 this
  · intro h id hid
    simp only [decide_eq_true_eq]
    exact hold_neg.2 (h id hid)
theorem take_mem {α : Type} {l : List α} {i : Nat} {e : α} : e ∈ l.take i ↔ ∃ j : Nat, j < i ∧ l[j]? = some e := by
  constructor
  · intro h
    obtain ⟨j, hj⟩ := List.getElem?_of_mem h
    rw [List.getElem?_take] at hj
    split at hj
    · exact ⟨j, ‹_›, hj⟩
    · cases hj
  · rintro ⟨j, h1, h2⟩
    exact List.mem_of_getElem? (i := j) (by rw [List.getElem?_take, if_pos h1]; exact h2)
theorem good_iff {fs : List VFlat} {ds : List VDrawer} : goodB fs ds = true ↔ Good fs ds := by
  unfold goodB flatsB listB
  simp only [Bool.and_eq_true, decide_eq_true_eq, List.all_eq_true, List.mem_range]
  constructor
  · rintro ⟨⟨h1, h2⟩, ⟨h3, h4⟩, h5⟩
    have hr : ∀ (i : Nat) d, ds[i]? = some d → rightB fs d = true ∧ apartB ds i d = true := fun i d hd => by
      have := h5 i (List.getElem?_eq_some_iff.1 hd).1
      unfold rightAt at this
      rw [hd] at this
      simpa using this
    refine ⟨h1, h2, h3, h4, fun i d hd => (hr i d hd).1, fun i j d e id hij hd he hm => ?_⟩
    intro hm2
    exact (apartB_iff.1 (hr j e he).2) id hm2 d (take_mem.2 ⟨i, hij, hd⟩) hm
  · rintro ⟨h1, h2, h3, h4, h5, h6⟩
    refine ⟨⟨h1, h2⟩, ⟨h3, h4⟩, fun i hi => ?_⟩
    unfold rightAt
    cases hd : ds[i]? with
    | none => rfl
    | some d =>
      simp only [Bool.and_eq_true]
      refine ⟨h5 i d hd, apartB_iff.2 fun id hid e he hm => ?_⟩
      obtain ⟨j, hj, he⟩ := take_mem.1 he
      exact h6 j i e d id hj he hd hm hid
theorem good_ids {fs : List VFlat} {ds : List VDrawer} (h : Good fs ds) {i : Nat} {d : VDrawer} (hd : ds[i]? = some d) : upB idOk (fun z => z) d.Flats = true ∧ d.Flats.length ≤ 12 := by
  have := upB_ok h.up (List.mem_of_getElem? hd)
  unfold VDrawer.ok idsB at this
  simp at this
  exact this.2.2.2.2
theorem good_id {fs : List VFlat} {ds : List VDrawer} (h : Good fs ds) {i : Nat} {d : VDrawer} (hd : ds[i]? = some d) : 1 ≤ d.Id ∧ d.Id ≤ 99 := by
  have := upB_ok h.up (List.mem_of_getElem? hd)
  unfold VDrawer.ok at this
  simp [inB_iff] at this
  exact this.1
/-- A flat that a drawer has is one of the flats. -/
theorem good_has {fs : List VFlat} {ds : List VDrawer} (h : Good fs ds) {i : Nat} {d : VDrawer} (hd : ds[i]? = some d) {id : Int} (hm : id ∈ d.Flats) : ∃ f, flatOf fs id = some f ∧ fitsB f d = true := by
  have := h.right i d hd
  unfold rightB at this
  simp only [Bool.and_eq_true, List.all_eq_true] at this
  exact fitsId_some (this.1 id hm)

/-! Numbers in ascending order. -/
theorem up_take_lt {zs : List Int} {n : Int} {k : Nat} (h1 : ∀ (j : Nat) z, j < k → zs[j]? = some z → z < n) (h2 : ∀ z, zs[k]? = some z → ¬ z < n) : zs.takeWhile (fun z => decide (z < n)) = zs.take k ∧ zs.dropWhile (fun z => decide (z < n)) = zs.drop k := by
  have e : zs = zs.take k ++ zs.drop k := (List.take_append_drop k zs).symm
  have ha : ∀ z ∈ zs.take k, decide (z < n) = true := fun z hz => by
    obtain ⟨j, hj, hz⟩ := take_mem.1 hz
    simpa using h1 j z hj hz
  have hd : (zs.drop k).takeWhile (fun z => decide (z < n)) = [] ∧ (zs.drop k).dropWhile (fun z => decide (z < n)) = zs.drop k := by
    cases hz : zs.drop k with
    | nil => exact ⟨rfl, rfl⟩
    | cons z l =>
      have : zs[k]? = some z := by
        have := congrArg (fun l : List Int => l[0]?) hz
        simpa using this
      have h3 := h2 z this
      simp [h3]
  constructor
  · conv => lhs; rw [e]
    rw [List.takeWhile_append_of_pos ha, hd.1, List.append_nil]
  · conv => lhs; rw [e]
    rw [List.dropWhile_append_of_pos ha, hd.2]
theorem insAt_at {zs : List Int} {n : Int} {k : Nat} (h1 : ∀ (j : Nat) z, j < k → zs[j]? = some z → z < n) (h2 : ∀ z, zs[k]? = some z → ¬ z < n) : insAt n zs = zs.take k ++ n :: zs.drop k := by
  obtain ⟨e1, e2⟩ := up_take_lt h1 h2
  unfold insAt
  rw [e1, e2]
theorem insAt_len (n : Int) (zs : List Int) : (insAt n zs).length = zs.length + 1 := by
  unfold insAt
  rw [List.length_append, List.length_cons]
  have := congrArg List.length (List.takeWhile_append_dropWhile (p := fun z => decide (z < n)) (l := zs))
  rw [List.length_append] at this
  omega
theorem insAt_mem {n x : Int} {zs : List Int} : x ∈ insAt n zs ↔ x = n ∨ x ∈ zs := by
  unfold insAt
  rw [List.mem_append, List.mem_cons]
  have : x ∈ zs ↔ x ∈ zs.takeWhile (fun z => decide (z < n)) ∨ x ∈ zs.dropWhile (fun z => decide (z < n)) := by
    rw [← List.mem_append, List.takeWhile_append_dropWhile]
  rw [this]
  constructor
  · rintro (h | h | h)
    · exact .inr (.inl h)
    · exact .inl h
    · exact .inr (.inr h)
  · rintro (h | h | h)
    · exact .inr (.inl h)
    · exact .inl h
    · exact .inr (.inr h)
theorem without_ins {n : Int} {zs : List Int} (h : n ∉ zs) : without n (insAt n zs) = zs := by
  unfold without insAt
  rw [List.filter_append, List.filter_cons]
  have keep : ∀ l : List Int, (∀ x ∈ l, x ∈ zs) → l.filter (fun z => !(z == n)) = l := fun l hl => by
    rw [List.filter_eq_self]
    intro a ha
    have : a ≠ n := fun e => h (e ▸ hl a ha)
    simpa using this
  rw [keep _ (fun x hx => (List.takeWhile_sublist _).subset hx), keep _ (fun x hx => (List.dropWhile_sublist _).subset hx)]
  simp [List.takeWhile_append_dropWhile]
end Go.Proofs.Ytlmedhidkhphbaa
namespace Go.Proofs.Ytlmedhidkhphbaa

/-! One order, whatever the way to it. -/
section
variable {α : Type}
theorem perm_sorted (r : α → α → Prop) (ha : ∀ x y, r x y → ¬ r y x) : ∀ (l k : List α), l.Perm k → l.Pairwise r → k.Pairwise r → l = k
  | [], k, hp, _, _ => (List.nil_perm.1 hp).symm
  | x :: l, k, hp, h1, h2 => by
    cases k with
    | nil => exact absurd hp (by simp)
    | cons y k =>
      rw [List.pairwise_cons] at h1 h2
      have e : x = y := by
        have hx : x ∈ y :: k := hp.mem_iff.1 (by simp)
        have hy : y ∈ x :: l := hp.mem_iff.2 (by simp)
        rcases List.mem_cons.1 hx with e | hx
        · exact e
        · rcases List.mem_cons.1 hy with e | hy
          · exact e.symm
          · exact absurd (h1.1 y hy) (ha _ _ (h2.1 x hx))
      subst e
      rw [perm_sorted r ha l k (List.Perm.cons_inv hp) h1.2 h2.2]
end
/-- f comes before g: it is greater, or as great with a lower number. -/
def bef (f g : VFlat) : Prop := areaF g < areaF f ∨ (areaF f = areaF g ∧ f.Id < g.Id)
theorem bef_asym (f g : VFlat) (h : bef f g) : ¬ bef g f := by unfold bef at *; omega
theorem insF_perm (f : VFlat) (l : List VFlat) : (insF f l).Perm (f :: l) := by
  induction l with
  | nil => exact List.Perm.refl _
  | cons x l ih =>
    unfold insF
    split
    · exact List.Perm.refl _
    · exact (List.Perm.cons x ih).trans (List.Perm.swap f x l)
theorem insF_sorted {f : VFlat} {l : List VFlat} (h : l.Pairwise bef) (hi : ∀ x ∈ l, x.Id < f.Id) : (insF f l).Pairwise bef := by
  induction l with
  | nil => simp [insF]
  | cons x l ih =>
    rw [List.pairwise_cons] at h
    unfold insF
    split
    · rename_i hlt
      rw [List.pairwise_cons, List.pairwise_cons]
      refine ⟨fun y hy => ?_, h⟩
      rcases List.mem_cons.1 hy with rfl | hy
      · exact .inl hlt
      · have := h.1 y hy
        unfold bef at this ⊢
        omega
    · rename_i hlt
      rw [List.pairwise_cons]
      refine ⟨fun y hy => ?_, ih h.2 fun y hy => hi y (by simp [hy])⟩
      rcases List.mem_cons.1 ((insF_perm f l).mem_iff.1 hy) with rfl | hy
      · have := hi x (by simp)
        unfold bef
        omega
      · exact h.1 y hy
theorem orderF_snoc (fs : List VFlat) (f : VFlat) : orderF (fs ++ [f]) = insF f (orderF fs) := by
  unfold orderF; rw [List.foldl_append]; rfl
theorem foldF_perm (fs l : List VFlat) : (fs.foldl (fun l f => insF f l) l).Perm (fs ++ l) := by
  induction fs generalizing l with
  | nil => exact List.Perm.refl _
  | cons f fs ih =>
    rw [List.foldl_cons]
    refine (ih _).trans ?_
    refine ((insF_perm f l).append_left fs).trans ?_
    exact List.perm_middle
theorem orderF_perm (fs : List VFlat) : (orderF fs).Perm fs := by
  have := foldF_perm fs []
  rwa [List.append_nil] at this
theorem foldF_sorted (fs l : List VFlat) (hf : fs.Pairwise fun f g => f.Id < g.Id) (hl : l.Pairwise bef) (hlf : ∀ x ∈ l, ∀ f ∈ fs, x.Id < f.Id) : (fs.foldl (fun l f => insF f l) l).Pairwise bef := by
  induction fs generalizing l with
  | nil => exact hl
  | cons f fs ih =>
    rw [List.foldl_cons]
    rw [List.pairwise_cons] at hf
    refine ih _ hf.2 (insF_sorted hl fun x hx => hlf x hx f (by simp)) fun x hx g hg => ?_
    rcases List.mem_cons.1 ((insF_perm f l).mem_iff.1 hx) with rfl | hx
    · exact hf.1 g hg
    · exact hlf x hx g (by simp [hg])
theorem orderF_sorted {fs : List VFlat} (hf : fs.Pairwise fun f g => f.Id < g.Id) : (orderF fs).Pairwise bef := foldF_sorted fs [] hf List.Pairwise.nil (by simp)
theorem up_pairwise {fs : List VFlat} (h : upB VFlat.ok VFlat.Id fs = true) : fs.Pairwise fun f g => f.Id < g.Id := by
  rw [List.pairwise_iff_getElem]
  intro i j hi hj hij
  exact upB_lt h j i _ _ hij (List.getElem?_eq_getElem hi) (List.getElem?_eq_getElem hj)
/-- All flats in order, cut down to some of them, are these in order. -/
theorem order_filter {fs ys : List VFlat} (h : upB VFlat.ok VFlat.Id fs = true) (hp : ys.Perm fs) (hs : ys.Pairwise bef) (p : VFlat → Bool) : ys.filter p = orderF (fs.filter p) :=
  perm_sorted bef bef_asym _ _ ((hp.filter p).trans (orderF_perm _).symm) (List.Pairwise.filter p hs) (orderF_sorted (List.Pairwise.filter p (up_pairwise h)))

/-! What is stored stays. -/
theorem setF_len (ds : List VDrawer) (i : Nat) (g : List Int → List Int) : (setF ds i g).length = ds.length := by
  unfold setF; split <;> simp
theorem setF_at (ds : List VDrawer) (i : Nat) (g : List Int → List Int) (j : Nat) : (setF ds i g)[j]? = (ds[j]?).map fun d => if j = i then withF d (g d.Flats) else d := by
  unfold setF
  cases h : ds[i]? with
  | none =>
    cases h2 : ds[j]? with
    | none => rfl
    | some d =>
      have : j ≠ i := fun e => by subst e; rw [h] at h2; cases h2
      simp [this]
  | some d =>
    have hi := (List.getElem?_eq_some_iff.1 h).1
    by_cases e : j = i
    · subst e; rw [List.getElem?_set_self hi, h]; simp
    · simp only [e, if_false]
      rw [List.getElem?_set_ne (Ne.symm e)]
      cases ds[j]? <;> rfl
theorem held_put {ds : List VDrawer} {i : Nat} {flat id : Int} (h : 0 ≤ holdI ds id) : 0 ≤ holdI (putAt ds i flat) id := by
  by_cases h2 : 0 ≤ holdI (putAt ds i flat) id
  · exact h2
  · have hn := hold_neg.1 (show holdI (putAt ds i flat) id < 0 by omega)
    obtain ⟨j, d, _, hj, _, hm⟩ := hold_at h
    have hj2 : (putAt ds i flat)[j]? = some (if j = i then withF d (insAt flat d.Flats) else d) := by
      unfold putAt; rw [setF_at, hj]; rfl
    have := hn _ (List.mem_of_getElem? hj2)
    split at this
    · exact absurd (insAt_mem.2 (.inr hm)) this
    · exact absurd hm this
theorem put_good {fs : List VFlat} {ds : List VDrawer} {flat id : Int} (h : putB fs ds flat id = true) : goodB fs (PutFlat_0 fs ds flat id) = true := by
  unfold PutFlat_0
  rw [if_pos h]
  unfold putB at h
  simp only [Bool.and_eq_true] at h
  exact h.2.2
theorem mem_leastBy (f : Int → Int) (l : List Int) (b : Int) : leastBy f l b ∈ b :: l := by
  induction l generalizing b with
  | nil => simp [leastBy]
  | cons x l ih =>
    have := ih (if f x < f b then x else b)
    unfold leastBy
    rcases List.mem_cons.1 this with h | h
    · rw [h]; split <;> simp
    · simp [h]
theorem tight_put {fs : List VFlat} {ds : List VDrawer} {flat : Int} (h : TightestFor_1 fs ds flat = true) : putB fs ds flat (TightestFor_0 fs ds flat) = true := by
  have hm : TightestFor_0 fs ds flat ∈ DrawersFor_0 fs ds flat := by
    unfold TightestFor_1 at h
    unfold TightestFor_0
    cases e : DrawersFor_0 fs ds flat with
    | nil => rw [e] at h; simp at h
    | cons x l => exact mem_leastBy _ l x
  unfold DrawersFor_0 at hm
  split at hm
  · obtain ⟨d, hd, e⟩ := List.mem_map.1 hm
    rw [← e]
    exact (List.mem_filter.1 hd).2
  · simp at hm
theorem tight_loose {fs : List VFlat} {ds : List VDrawer} {flat : Int} (h : TightestFor_1 fs ds flat = true) : holdI ds flat < 0 := by
  have := tight_put h
  unfold putB looseB at this
  simp only [Bool.and_eq_true, decide_eq_true_eq] at this
  exact this.1.2.2
theorem store_good {fs : List VFlat} {ds : List VDrawer} (h : goodB fs ds = true) (f : VFlat) : goodB fs (storeF fs ds f) = true := by
  unfold storeF
  split
  · exact put_good (tight_put ‹_›)
  · exact h
theorem store_held {fs : List VFlat} {ds : List VDrawer} {id : Int} (h : 0 ≤ holdI ds id) (f : VFlat) : 0 ≤ holdI (storeF fs ds f) id := by
  unfold storeF
  split
  · unfold PutFlat_0
    rw [if_pos (tight_put ‹_›)]
    exact held_put h
  · exact h
theorem store_id {fs : List VFlat} {ds : List VDrawer} {f : VFlat} (h : 0 ≤ holdI ds f.Id) : storeF fs ds f = ds := by
  unfold storeF
  split
  · have := tight_loose ‹_›
    omega
  · rfl
/-- Flats that lie in a drawer are passed over. -/
theorem store_filter (fs : List VFlat) (p : VFlat → Bool) (ys : List VFlat) (ds : List VDrawer) (h : ∀ f ∈ ys, p f = false → 0 ≤ holdI ds f.Id) : ys.foldl (storeF fs) ds = (ys.filter p).foldl (storeF fs) ds := by
  induction ys generalizing ds with
  | nil => rfl
  | cons f ys ih =>
    rw [List.foldl_cons, List.filter_cons]
    by_cases hp : p f = true
    · rw [if_pos hp, List.foldl_cons]
      exact ih _ fun g hg hpg => store_held (h g (by simp [hg]) hpg) f
    · rw [if_neg hp, store_id (h f (by simp) (by simpa using hp))]
      exact ih _ fun g hg hpg => h g (by simp [hg]) hpg
theorem foldl_good {fs : List VFlat} (ys : List VFlat) {ds : List VDrawer} (h : goodB fs ds = true) : goodB fs (ys.foldl (storeF fs) ds) = true := by
  induction ys generalizing ds with
  | nil => exact h
  | cons f ys ih => exact ih (store_good h f)
/-- All flats in order, stored one by one. -/
theorem stored_all {fs : List VFlat} {ds : List VDrawer} (hg : goodB fs ds = true) {ys : List VFlat} (hp : ys.Perm fs) (hs : ys.Pairwise bef) : ys.foldl (storeF fs) ds = storedL fs ds := by
  unfold storedL
  rw [← order_filter (good_iff.1 hg).flats hp hs, store_filter fs (fun f => decide (holdI ds f.Id < 0)) ys ds]
  intro f _ hf
  simpa using hf
end Go.Proofs.Ytlmedhidkhphbaa
namespace Go.Proofs.Ytlmedhidkhphbaa
open Go.RowKit

def OwnIntS (lo hi : Nat) (w : World) (v : Value) (xs : List Int) : Prop := OwnIn lo hi w 3 1 v xs.length (intCells xs)
section
variable {lo hi lo' hi' : Nat} {w w' : World} {v : Value} {xs : List Int}
theorem OwnIntS.form (h : OwnIntS lo hi w v xs) : ∃ a c, v = .slice a xs.length c := by
  obtain ⟨a, c, e, _⟩ := isInts_ownIn h
  exact ⟨a, c, e⟩
theorem OwnIntS.is {a : Option Addr} {n c : Nat} (h : OwnIntS lo hi w (.slice a n c) xs) : IsInts w a n c xs := by
  obtain ⟨a', c', e, hi⟩ := isInts_ownIn h
  simp only [Value.slice.injEq] at e
  obtain ⟨rfl, rfl, rfl⟩ := e
  exact hi
theorem OwnIntS.below (h : OwnIntS lo hi w v xs) (hb : Below w.heap.size w w') : OwnIntS lo hi w' v xs := OwnIn.below h hb
theorem OwnIntS.turned (h : OwnIntS lo hi w v xs) (t : Turned lo' hi' w w') (hd : hi ≤ lo' ∨ hi' ≤ lo) : OwnIntS lo hi w' v xs := OwnIn.turned h t hd
theorem OwnIntS.mono (h : OwnIntS lo hi w v xs) (h1 : lo' ≤ lo) (h2 : hi ≤ hi') : OwnIntS lo' hi' w v xs := OwnIn.mono h h1 h2
theorem nil_OwnIntS (lo hi : Nat) (w : World) : OwnIntS lo hi w (.slice none 0 0) [] := ⟨⟨by simp [intCells], .inl ⟨rfl, rfl⟩⟩, fun b h => by cases h⟩
end
def condInt (xs : List Int) : Prop := xs.length ≤ 1048576
def cntInt (xs : List Int) : Nat := xs.length
def mkInt (k : Nat) (xs : List Int) : List Int := marksI k xs.length
theorem cntInt_cond {xs : List Int} (h : condInt xs) : cntInt xs ≤ 10000000 := Nat.le_trans h (by decide)
/-- A row of the call's own, by its parts, and the world below as it was. -/
def HPost (xs : List Int) (w : World) (e : Ending) (w' : World) : Prop := ∃ h : Hd, e = .returned (.slice h.a h.n h.c) ∧ HInts w.heap.size w'.heap.size w' h xs ∧ Below w.heap.size w w'
set_option maxHeartbeats 3200000 in
set_option maxRecDepth 100000 in
theorem toIntS_h (a : Option Addr) (len cap : Nat) (xs : List Int) (w : World) (h : IsInts w a len cap xs) (hsz : xs.length ≤ 1048576) :
    Calls Try.prog 98 #[.slice a len cap] w (HPost xs w) := by
  obtain rfl := h.1
  obtain ⟨i0, hi, hz0, hz1, hz2⟩ := info_parts infoInt
  have S := Lib.hid h
  clear h
  go_enter Try.func98, Try.ntmps98
  go_wp2_with (refine wpList_make_full _ rfl _ _ 31 rfl w.heap.size 3 i0 (.int .i64 0) 1 Try.underlying31 hi hz0 hz1 .i64 .i64 _ _ xs.length rfl rfl rfl rfl (by rw [hz2]; omega) (by unfold maxLen; omega) (Nat.le_refl _) ?_; intro w1 hown hgrow)
  have hb1 : Below w.heap.size w w1 := (Below.refl _ _).grown hgrow (Nat.le_refl _) (fun k e => by cases e)
  have hg1 := (hown.lt w.heap.size rfl).2
  have H1 := Lib.hid hown
  clear hown hgrow
  go_loopw [4] (fun i wr => ∃ (k : Nat) (D : List Value), k ≤ xs.length ∧ D.length = xs.length - k ∧ i = .int .i64 k ∧ Below w.heap.size w wr ∧ wr.ownsRow w.heap.size 3 1 (.slice (some ⟨w.heap.size, 0, none⟩) xs.length xs.length) xs.length (intCells (xs.take k) ++ D)) (fun i _ => xs.length - (intOf i).toNat)
  case atStart => exact ⟨0, (madeCells (Value.int .i64 0).cells (xs.length * 1)).toList, Nat.zero_le _, by have := H1.out.1; omega, rfl, hb1, by simpa [intCells] using H1.out⟩
  case round =>
    obtain ⟨k, D, hk, hD, rfl, hbel, hown⟩ := hrel
    have O := Lib.hid hown
    have B := Lib.hid hbel
    by_cases hlt : k < xs.length
    · obtain ⟨z, hz⟩ : ∃ z, xs[k]? = some z := ⟨xs[k]'hlt, List.getElem?_eq_getElem _⟩
      obtain ⟨b, o, rfl, hb, hat⟩ := (S.out.below hbel).at (by omega)
      have c0 := hat k z hz
      have Z := Lib.hid hz
      have HD := Lib.hid hD
      have hm := S.out.2.2.1
      unfold maxLen at hm
      have f0 := O.out.frozenAt k
      obtain ⟨u0, d0⟩ := own_cell O.out k (by rw [List.length_append, intCells_len, List.length_take]; omega)
      clear hbel hown hz hat hD
      go_wp2
      go_roundw
      case rel =>
        have h5 := O.out.stored k (.int .i64 z)
        refine ⟨k + 1, D.tail, by omega, by rw [List.length_tail, HD.out]; omega, by go_num, B.out.grown h5.2 B.out.size (fun j e => by cases e; exact Nat.le_refl _), ?_⟩
        have hl : (intCells (xs.take k)).length = k := by rw [intCells_len, List.length_take]; omega
        have h6 := h5.1
        obtain ⟨d, D', rfl⟩ : ∃ d D', D = d :: D' := by
          cases D with
          | nil => have := HD.out; simp at this; omega
          | cons d D' => exact ⟨d, D', rfl⟩
        rw [List.set_append_right _ _ (by omega), hl, Nat.sub_self, List.set_cons_zero] at h6
        rw [List.take_add_one, Z.out, show (some z).toList = [z] from rfl, intCells_snoc, List.append_assoc]
        exact h6
      case measure => simp [intOf]; omega
    · obtain rfl : k = xs.length := by omega
      have hD0 : D = [] := List.length_eq_zero_iff.1 (by omega)
      subst hD0
      clear hown hbel hD
      have hm := S.out.2.2.1
      unfold maxLen at hm
      go_wp2
      go_ret
      refine ⟨⟨some ⟨w.heap.size, 0, none⟩, xs.length, xs.length⟩, rfl, ?_, B.out⟩
      have h := O.out
      rw [List.append_nil, List.take_of_length_le (Nat.le_refl _)] at h
      exact OwnIn.of_row h (Nat.le_refl _) (Nat.le_refl _)
/-- What one row's marks leave. -/
def IntSMarked (lo hi : Nat) (v : Value) (xs : List Int) (k : Nat) (w : World) (e : Ending) (w' : World) : Prop := e = .returned (.int .i64 ((k + cntInt xs : Nat) : Int)) ∧ OwnIntS lo hi w' v (mkInt k xs) ∧ Turned lo hi w w'
theorem markIntS_o (lo hi : Nat) (v : Value) (xs : List Int) (k : Nat) (w : World) (h : OwnIntS lo hi w v xs) (hk : k + cntInt xs ≤ 100000000) :
    Calls Try.prog 51 #[v, .int .i64 (k : Int)] w (IntSMarked lo hi v xs k w) :=
  (markIntS_any lo v xs.length k (intCells xs) w h.1 (by unfold cntInt at hk; omega) (by unfold cntInt at hk; omega)).mono fun e w' ⟨h1, h2, h3⟩ =>
    ⟨h1, ⟨by unfold mkInt; rw [marksI_len]; exact h2, h.2⟩, Turned.of_grown h3 fun b hb => ⟨(h.lt hb).1, (h.lt hb).2.1⟩⟩
theorem heldIntS_o (a : Option Addr) (n c : Nat) (xs : List Int) (k : Nat) (w : World) (h : IsInts w a n c (mkInt k xs)) (hk : k + cntInt xs ≤ 100000000) :
    Calls Try.prog 52 #[.slice a n c, .int .i64 (k : Int)] w fun e w' => e = .returned (.int .i64 ((k + cntInt xs : Nat) : Int)) ∧ Below w.heap.size w w' := by
  have e : n = xs.length := by rw [h.1]; unfold mkInt; rw [marksI_len]
  subst e
  exact (heldIntS_any a xs.length c k w h (by unfold cntInt at hk; omega) (by unfold cntInt at hk; omega)).mono fun e w' ⟨h1, h2⟩ => ⟨h1, h2 ▸ Below.refl _ _⟩
set_option maxHeartbeats 400000 in
theorem szIntS_left (a : Option Addr) (len cap : Nat) (xs : List Int) (left : Int) (w : World) (h : IsInts w a len cap xs) (h0 : 0 ≤ left) (h1 : left ≤ 1048576) :
    Calls Try.prog 97 #[.slice a len cap, .int .i64 left] w fun e w' => (∃ z : Int, e = .returned (.int .i64 z) ∧ (z < 0 ∨ (z = left - (xs.length : Int) ∧ 0 ≤ z))) ∧ w = w' := by
  obtain rfl := h.1
  have hl : xs.length ≤ maxLen := Nat.le_trans h.2.1 h.2.2.1
  unfold maxLen at hl
  clear h
  by_cases hlt : left < (xs.length : Int)
  · have hn : left - (xs.length : Int) < 0 := by omega
    go_enter Try.func97, Try.ntmps97
    go_wp2
    go_ret
    exact ⟨⟨-1, rfl, .inl (by omega)⟩, rfl⟩
  · have hn : 0 ≤ left - (xs.length : Int) := by omega
    go_enter Try.func97, Try.ntmps97
    go_wp2
    go_ret
    exact ⟨⟨_, rfl, .inr ⟨rfl, hn⟩⟩, rfl⟩
end Go.Proofs.Ytlmedhidkhphbaa
namespace Go.Proofs.Ytlmedhidkhphbaa
open Go.RowKit
def OwnFlatS (lo hi : Nat) (w : World) (v : Value) (xs : List VFlat) : Prop := OwnIn lo hi w 40 4 v xs.length (cellsFlat xs)
section
variable {lo hi lo' hi' : Nat} {w w' : World} {v : Value} {xs : List VFlat}
theorem OwnFlatS.form (h : OwnFlatS lo hi w v xs) : ∃ a c, v = .slice a xs.length c := by
  obtain ⟨a, c, e, _⟩ := isFlatS_own h.1
  exact ⟨a, c, e⟩
theorem OwnFlatS.is {a : Option Addr} {n c : Nat} (h : OwnFlatS lo hi w (.slice a n c) xs) : IsFlatS w a n c xs := by
  obtain ⟨a', c', e, hi, _⟩ := isFlatS_own h.1
  simp only [Value.slice.injEq] at e
  obtain ⟨rfl, rfl, rfl⟩ := e
  exact hi
theorem OwnFlatS.below (h : OwnFlatS lo hi w v xs) (hb : Below w.heap.size w w') : OwnFlatS lo hi w' v xs := OwnIn.below h hb
theorem OwnFlatS.turned (h : OwnFlatS lo hi w v xs) (t : Turned lo' hi' w w') (hd : hi ≤ lo' ∨ hi' ≤ lo) : OwnFlatS lo hi w' v xs := OwnIn.turned h t hd
theorem OwnFlatS.mono (h : OwnFlatS lo hi w v xs) (h1 : lo' ≤ lo) (h2 : hi ≤ hi') : OwnFlatS lo' hi' w v xs := OwnIn.mono h h1 h2
theorem nil_OwnFlatS (lo hi : Nat) (w : World) : OwnFlatS lo hi w (.slice none 0 0) [] := ⟨⟨by simp [cellsFlat], .inl ⟨rfl, rfl⟩⟩, fun b h => by cases h⟩
end
def condFlat (xs : List VFlat) : Prop := xs.length ≤ 1048576
def cntFlat (xs : List VFlat) : Nat := xs.length * 4
def mkFlat (k : Nat) (xs : List VFlat) : List VFlat := marksFlat k xs.length
theorem cntFlat_cond {xs : List VFlat} (h : condFlat xs) : cntFlat xs ≤ 4194304 := by unfold condFlat at h; unfold cntFlat; omega
def FlatOPost (xs : List VFlat) (w : World) (e : Ending) (w' : World) : Prop := ∃ v, e = .returned v ∧ OwnFlatS w.heap.size w'.heap.size w' v xs ∧ Below w.heap.size w w'
theorem szFlatS_o (a : Option Addr) (len cap : Nat) (xs : List VFlat) (left : Int) (w : World) (h : IsFlatS w a len cap xs) (h0 : 0 ≤ left) (h1 : left ≤ 1048576) :
    Calls Try.prog 34 #[.slice a len cap, .int .i64 left] w fun e w' => ∃ z : Int, e = .returned (.int .i64 z) ∧ z ≤ left ∧ (0 ≤ z → condFlat xs) ∧ Below w.heap.size w w' :=
  (szFlatS_any a len cap xs left w h h0 h1).mono fun e w' ⟨z, h2, h3, h4, h5⟩ => ⟨z, h2, h3, fun hz => by have := h4 hz; have := h.1; unfold condFlat; omega, h5⟩
theorem toFlatS_o (a : Option Addr) (len cap : Nat) (xs : List VFlat) (w : World) (h : IsFlatS w a len cap xs) (hsz : condFlat xs) :
    Calls Try.prog 35 #[.slice a len cap] w (FlatOPost xs w) :=
  (toFlatS_any a len cap xs w h (by have := h.1; unfold condFlat at hsz; omega)).mono fun e w' ⟨v, h1, h2, h3⟩ => ⟨v, h1, OwnIn.of_row h2 (Nat.le_refl _) (Nat.le_refl _), h3⟩
def FlatSMarked (lo hi : Nat) (v : Value) (xs : List VFlat) (k : Nat) (w : World) (e : Ending) (w' : World) : Prop := e = .returned (.int .i64 ((k + cntFlat xs : Nat) : Int)) ∧ OwnFlatS lo hi w' v (mkFlat k xs) ∧ Turned lo hi w w'
theorem markFlatS_o (lo hi : Nat) (v : Value) (xs : List VFlat) (k : Nat) (w : World) (h : OwnFlatS lo hi w v xs) (hk : 1 ≤ k ∧ k ≤ 1000000 ∧ cntFlat xs ≤ 4194304) :
    Calls Try.prog 46 #[v, .int .i64 (k : Int)] w (FlatSMarked lo hi v xs k w) :=
  (markFlatS_any lo v xs.length k (cellsFlat xs) w h.1 (by omega) (by omega) (by unfold cntFlat at hk; omega)).mono fun e w' ⟨h1, h2, h3⟩ =>
    ⟨h1, ⟨by unfold mkFlat; rw [marksFlat_len]; exact h2, h.2⟩, Turned.of_grown h3 fun b hb => ⟨(h.lt hb).1, (h.lt hb).2.1⟩⟩
end Go.Proofs.Ytlmedhidkhphbaa
namespace Go.Proofs.Ytlmedhidkhphbaa
open Go.RowKit

def condDrawer1 (x : VDrawer) : Prop := x.Flats.length ≤ 1048576
def sizeDrawer : List VDrawer → Nat
  | [] => 0
  | x :: l => 1 + x.Flats.length + sizeDrawer l
theorem sizeDrawer_app (a b : List VDrawer) : sizeDrawer (a ++ b) = sizeDrawer a + sizeDrawer b := by
  induction a with
  | nil => simp [sizeDrawer]
  | cons x l ih => simp [sizeDrawer, ih]; omega
def condDrawer (xs : List VDrawer) : Prop := sizeDrawer xs ≤ 1048576
def cntDrawer : List VDrawer → Nat
  | [] => 0
  | x :: l => 4 + x.Flats.length + cntDrawer l
theorem cntDrawer_app (a b : List VDrawer) : cntDrawer (a ++ b) = cntDrawer a + cntDrawer b := by
  induction a with
  | nil => simp [cntDrawer]
  | cons x l ih => simp [cntDrawer, ih]; omega
theorem cntDrawer_size (xs : List VDrawer) : cntDrawer xs ≤ 4 * sizeDrawer xs := by
  induction xs with
  | nil => simp [cntDrawer, sizeDrawer]
  | cons x l ih => simp [cntDrawer, sizeDrawer]; omega
theorem sizeDrawer_len (xs : List VDrawer) : xs.length ≤ sizeDrawer xs := by
  induction xs with
  | nil => simp [sizeDrawer]
  | cons x l ih => simp [sizeDrawer]; omega
theorem cntDrawer_cond {xs : List VDrawer} (h : condDrawer xs) : cntDrawer xs ≤ 4194304 := by
  have := cntDrawer_size xs
  unfold condDrawer at h
  omega
theorem condDrawer_len {xs : List VDrawer} (h : condDrawer xs) : xs.length ≤ 1048576 := Nat.le_trans (sizeDrawer_len xs) h
theorem condDrawer_at {xs : List VDrawer} (h : condDrawer xs) {k : Nat} {x : VDrawer} (hx : xs[k]? = some x) : x.Flats.length ≤ 1048576 := by
  unfold condDrawer at h
  have hk := (List.getElem?_eq_some_iff.1 hx).1
  have e : xs = xs.take k ++ x :: xs.drop (k + 1) := by
    have h2 := List.take_append_drop k xs
    rw [List.drop_eq_getElem_cons hk] at h2
    have : xs[k] = x := by rw [List.getElem?_eq_getElem hk] at hx; simpa using hx
    rw [this] at h2; exact h2.symm
  rw [e, sizeDrawer_app] at h
  simp [sizeDrawer] at h
  omega
theorem sizeDrawer_take {xs : List VDrawer} {k : Nat} {x : VDrawer} (hx : xs[k]? = some x) : sizeDrawer (xs.take (k + 1)) = sizeDrawer (xs.take k) + (1 + x.Flats.length) := by
  rw [List.take_add_one, hx, sizeDrawer_app]
  simp [sizeDrawer]
theorem cntDrawer_take {xs : List VDrawer} {k : Nat} {x : VDrawer} (hx : xs[k]? = some x) : cntDrawer (xs.take (k + 1)) = cntDrawer (xs.take k) + (4 + x.Flats.length) := by
  rw [List.take_add_one, hx, cntDrawer_app]
  simp [cntDrawer]
theorem cntDrawer_take_le (xs : List VDrawer) (k : Nat) : cntDrawer (xs.take k) ≤ cntDrawer xs := by
  conv => rhs; rw [← List.take_append_drop k xs, cntDrawer_app]
  omega
/-- The marks of one, from k on. -/
def mkDrawer1 (k : Nat) (x : VDrawer) : VDrawer := ⟨((k : Nat) : Int), ((k + 1 : Nat) : Int), ((k + 2 : Nat) : Int), ((k + 3 : Nat) : Int), marksI (k + 4) x.Flats.length⟩
def mkDrawer : Nat → List VDrawer → List VDrawer
  | _, [] => []
  | k, x :: l => mkDrawer1 k x :: mkDrawer (k + (4 + x.Flats.length)) l
theorem mkDrawer_app (k : Nat) (a b : List VDrawer) : mkDrawer k (a ++ b) = mkDrawer k a ++ mkDrawer (k + cntDrawer a) b := by
  induction a generalizing k with
  | nil => simp [mkDrawer, cntDrawer]
  | cons x l ih =>
    simp only [List.cons_append, mkDrawer, ih, cntDrawer]
    rw [show k + (4 + x.Flats.length) + cntDrawer l = k + (4 + x.Flats.length + cntDrawer l) by omega]
theorem mkDrawer_len (k : Nat) (xs : List VDrawer) : (mkDrawer k xs).length = xs.length := by
  induction xs generalizing k with
  | nil => rfl
  | cons x l ih => simp [mkDrawer, ih]
theorem mkDrawer_take {xs : List VDrawer} {j : Nat} {x : VDrawer} (hx : xs[j]? = some x) (k : Nat) : mkDrawer k (xs.take (j + 1)) = mkDrawer k (xs.take j) ++ [mkDrawer1 (k + cntDrawer (xs.take j)) x] := by
  rw [List.take_add_one, hx, mkDrawer_app]
  rfl
theorem mkDrawer_at {xs : List VDrawer} {j : Nat} {x : VDrawer} (hx : xs[j]? = some x) (k : Nat) : (mkDrawer k xs)[j]? = some (mkDrawer1 (k + cntDrawer (xs.take j)) x) := by
  have hj := (List.getElem?_eq_some_iff.1 hx).1
  have e : xs = xs.take j ++ x :: xs.drop (j + 1) := by
    have h2 := List.take_append_drop j xs
    rw [List.drop_eq_getElem_cons hj] at h2
    have : xs[j] = x := by rw [List.getElem?_eq_getElem hj] at hx; simpa using hx
    rw [this] at h2; exact h2.symm
  have hl : (mkDrawer k (xs.take j)).length = j := by rw [mkDrawer_len, List.length_take]; omega
  conv => lhs; rw [e, mkDrawer_app]
  rw [List.getElem?_append_right (by omega), hl, Nat.sub_self]
  rfl
/-- A copy of one. -/
def DrawerPost (x : VDrawer) (w : World) (e : Ending) (w' : World) : Prop := ∃ h : Hd, e = .returned (.agg #[.int .i64 x.Id, .int .i64 x.Wide, .int .i64 x.High, .int .i64 x.Holds, .slice h.a h.n h.c]) ∧ HInts w.heap.size w'.heap.size w' h x.Flats ∧ Below w.heap.size w w'
def DrawerOPost (xs : List VDrawer) (w : World) (e : Ending) (w' : World) : Prop := ∃ v, e = .returned v ∧ OwnDrawerS w.heap.size w'.heap.size w' v xs ∧ Below w.heap.size w w'
set_option maxHeartbeats 3200000 in
set_option maxRecDepth 100000 in
theorem toDrawer_any (x : VDrawer) (h : Hd) (w : World) (hi : IsInts w h.a h.n h.c x.Flats) (hsz : x.Flats.length ≤ 1048576) :
    Calls Try.prog 42 #[.agg #[.int .i64 x.Id, .int .i64 x.Wide, .int .i64 x.High, .int .i64 x.Holds, .slice h.a h.n h.c]] w (DrawerPost x w) := by
  have b0 := bel_al3 w (.cells #[.int .i64 x.Id, .int .i64 x.Wide, .int .i64 x.High, .int .i64 x.Holds, .slice h.a h.n h.c] 59) (.cells #[.int .i64 0, .int .i64 0, .int .i64 0, .int .i64 0, .slice none 0 0] 42) (.cells #[.int .i64 x.Id, .int .i64 x.Wide, .int .i64 x.High, .int .i64 x.Holds, .slice none 0 0] 42)
  have S := Lib.hid (hi.below b0)
  have B0 := Lib.hid b0
  have Z1 := Lib.hid ((HBDrawer.new (w.alloc (.cells #[.int .i64 x.Id, .int .i64 x.Wide, .int .i64 x.High, .int .i64 x.Holds, .slice h.a h.n h.c] 59)) ⟨⟨0, 0, 0, 0, []⟩, ⟨none, 0, 0⟩⟩ (w.heap.size + 1) (size_al _ _)).alloc (.cells #[.int .i64 x.Id, .int .i64 x.Wide, .int .i64 x.High, .int .i64 x.Holds, .slice none 0 0] 42))
  have Z2 := Lib.hid (HBDrawer.new ((w.alloc (.cells #[.int .i64 x.Id, .int .i64 x.Wide, .int .i64 x.High, .int .i64 x.Holds, .slice h.a h.n h.c] 59)).alloc (.cells #[.int .i64 0, .int .i64 0, .int .i64 0, .int .i64 0, .slice none 0 0] 42)) ⟨⟨x.Id, x.Wide, x.High, x.Holds, []⟩, ⟨none, 0, 0⟩⟩ (w.heap.size + 1 + 1) (by rw [size_al, size_al]))
  have Y := Lib.hid (show w.heap.size + 3 = _ from (by rw [size_al, size_al, size_al] : (((w.alloc (.cells #[.int .i64 x.Id, .int .i64 x.Wide, .int .i64 x.High, .int .i64 x.Holds, .slice h.a h.n h.c] 59)).alloc (.cells #[.int .i64 0, .int .i64 0, .int .i64 0, .int .i64 0, .slice none 0 0] 42)).alloc (.cells #[.int .i64 x.Id, .int .i64 x.Wide, .int .i64 x.High, .int .i64 x.Holds, .slice none 0 0] 42)).heap.size = w.heap.size + 3).symm)
  clear hi b0
  go_enter Try.func42, Try.ntmps42
  go_wp2_with fail
  refine (toIntS_h _ _ _ x.Flats _ S.out hsz).mono ?_
  rintro e w4 ⟨h', rfl, H', hb⟩
  have y1 := Z1.out.below hb
  have y2 := Z2.out.below hb
  have hl : w.heap.size ≤ w4.heap.size := Nat.le_trans B0.out.size hb.size
  have B4 := Lib.hid (Below.then' B0.out hb)
  have HH := Lib.hid H'
  have Y2 := Lib.hid (y2.setS x.Flats h')
  have Y1 := Lib.hid (y1.other (j := 4) (b' := w.heap.size + 1 + 1) (by omega) (.slice h'.a h'.n h'.c))
  obtain ⟨d0, d1, d2, d3, d4⟩ := y2.cells
  have f0 := y1.free 0
  have f1 := y1.free 1
  have f2 := y1.free 2
  have f3 := y1.free 3
  have f4 := y1.free 4
  have g4 := y2.free 4
  obtain ⟨c0, c1, c2, c3, c4⟩ := y1.cells
  clear hb H' y1 y2
  go_wp2
  refine bodyPost_ret (resultsDrawer1 rfl rfl (Y1.out.setAll ⟨x, h'⟩)) rfl ⟨h', rfl, ?_, ?_⟩
  · have y0 := Y.out
    have H := HH.out
    refine (H.turned (lo' := w.heap.size + 1) (hi' := w.heap.size + 3) ?_ (.inr (by omega))).mono (by omega) (by simp)
    exact ((((((Turned.refl (w.heap.size + 1) (w.heap.size + 3) w4).setCell (by simp; try omega) (by simp; try omega) _).setCell (by simp; try omega) (by simp; try omega) _).setCell (by simp; try omega) (by simp; try omega) _).setCell (by simp; try omega) (by simp; try omega) _).setCell (by simp; try omega) (by simp; try omega) _).setCell (by simp; try omega) (by simp; try omega) _
  · exact ((((((B4.out).setCell (by simp; try omega) _).setCell (by simp; try omega) _).setCell (by simp; try omega) _).setCell (by simp; try omega) _).setCell (by simp; try omega) _).setCell (by simp; try omega) _

set_option maxHeartbeats 6400000 in
set_option maxRecDepth 100000 in
theorem toDrawerS_o (a : Option Addr) (len cap : Nat) (xs : List VDrawer) (w : World) (h : IsDrawerS w a len cap xs) (hsz : condDrawer xs) :
    Calls Try.prog 38 #[.slice a len cap] w (DrawerOPost xs w) := by
  obtain rfl := h.1
  obtain ⟨i0, hi, hz0, hz1, hz2⟩ := info_parts infoDrawer
  have S := Lib.hid h
  have C := Lib.hid hsz
  have hx := condDrawer_len hsz
  clear h hsz
  go_enter Try.func38, Try.ntmps38
  go_wp2_with (refine wpList_make_full _ rfl _ _ 25 rfl w.heap.size 42 i0 (.agg #[.int .i64 0, .int .i64 0, .int .i64 0, .int .i64 0, .slice none 0 0]) 5 Try.underlying25 hi hz0 hz1 .i64 .i64 _ _ xs.length rfl rfl rfl rfl (by rw [hz2]; omega) (by unfold maxLen; omega) (Nat.le_refl _) ?_; intro w1 hown hgrow)
  have hb1 : Below w.heap.size w w1 := (Below.refl _ _).grown hgrow (Nat.le_refl _) (fun k e => by cases e)
  have H1 := Lib.hid hown
  have hg1 := (hown.lt w.heap.size rfl).2
  clear hown hgrow
  go_loopw [4] (fun i wr => ∃ (k : Nat) (ps : List PDrawer), k ≤ xs.length ∧ i = .int .i64 k ∧ ps.map PDrawer.x = xs.take k ∧ Below w.heap.size w wr ∧ w.heap.size < wr.heap.size ∧ wr.ownsRow w.heap.size 42 5 (.slice (some ⟨w.heap.size, 0, none⟩) xs.length xs.length) xs.length (cellsDrawer ps ++ (zerosDrawer xs.length).drop (k * 5)) ∧ InnerDrawer w.heap.size wr.heap.size wr (some w.heap.size) ps) (fun i _ => xs.length - (intOf i).toNat)
  case atStart => exact ⟨0, [], Nat.zero_le _, rfl, rfl, hb1, hg1, by have h := H1.out; rw [madeDrawer] at h; simpa [cellsDrawer] using h, nil_InnerDrawer _ _ _ _⟩
  case round =>
    obtain ⟨k, ps, hk, rfl, hps, hbel, hgw, hown, hinn⟩ := hrel
    have O := Lib.hid hown
    have B := Lib.hid hbel
    have N := Lib.hid hinn
    have PS := Lib.hid hps
    have hpl : ps.length = k := by have := congrArg List.length PS.out; rw [List.length_map, List.length_take] at this; omega
    have PL := Lib.hid hpl
    clear hps hinn hpl
    by_cases hlt : k < xs.length
    · obtain ⟨x, hx1⟩ : ∃ x, xs[k]? = some x := ⟨xs[k]'hlt, List.getElem?_eq_getElem _⟩
      obtain ⟨b, o, rfl, hb, hat⟩ := (S.out.below hbel).at (by omega)
      obtain ⟨hd, c0, c1, c2, c3, c4, hi4⟩ := hat k x hx1
      have K := Lib.hid hx1
      have I4 := Lib.hid hi4
      have hm := S.out.2.2.1
      unfold maxLen at hm
      clear hown hbel hx1 hat hi4
      go_wp2_with fail
      refine (toDrawer_any x hd _ I4.out (condDrawer_at C.out K.out)).mono ?_
      rintro e w2 ⟨h', rfl, H', hb2⟩
      have O2 := Lib.hid (ownsRow_below O.out hb2)
      have B2 := Lib.hid (Below.then' B.out hb2)
      have N2 := Lib.hid (N.out.below hb2)
      have HH := Lib.hid H'
      have hs2 := hb2.size
      clear hb2 H' c0 c1 c2 c3 c4
      have f0 := O2.out.frozenAt (k * 5)
      have f1 := O2.out.frozenAt (k * 5 + 1)
      have f2 := O2.out.frozenAt (k * 5 + 2)
      have f3 := O2.out.frozenAt (k * 5 + 3)
      have f4 := O2.out.frozenAt (k * 5 + 4)
      obtain ⟨u0, d0⟩ := own_cell O2.out (k * 5) (by have := PL.out; rw [List.length_append, cellsDrawer_len, List.length_drop, zerosDrawer_len]; omega)
      obtain ⟨u1, d1⟩ := own_cell O2.out (k * 5 + 1) (by have := PL.out; rw [List.length_append, cellsDrawer_len, List.length_drop, zerosDrawer_len]; omega)
      obtain ⟨u2, d2⟩ := own_cell O2.out (k * 5 + 2) (by have := PL.out; rw [List.length_append, cellsDrawer_len, List.length_drop, zerosDrawer_len]; omega)
      obtain ⟨u3, d3⟩ := own_cell O2.out (k * 5 + 3) (by have := PL.out; rw [List.length_append, cellsDrawer_len, List.length_drop, zerosDrawer_len]; omega)
      obtain ⟨u4, d4⟩ := own_cell O2.out (k * 5 + 4) (by have := PL.out; rw [List.length_append, cellsDrawer_len, List.length_drop, zerosDrawer_len]; omega)
      go_wp2
      go_roundw
      case rel =>
        have h5 := storedDrawer O2.out (by rw [cellsDrawer_len, PL.out]) (by rw [zerosDrawer_len]; omega) (.int .i64 x.Id) (.int .i64 x.Wide) (.int .i64 x.High) (.int .i64 x.Holds) (.slice h'.a h'.n h'.c)
        refine ⟨k + 1, ps ++ [⟨x, h'⟩], by omega, by go_num, ?_, B2.out.grown h5.2 B2.out.size (fun j e => by cases e; exact Nat.le_refl _), Nat.lt_of_lt_of_le (by omega) h5.2.size, ?_, ?_⟩
        · rw [List.map_append, PS.out, List.take_add_one, K.out]; rfl
        · rw [cellsDrawer_snoc, List.append_assoc, show (k + 1) * 5 = k * 5 + 5 by omega]
          exact h5.1
        · have H2 := OwnIn.turned HH.out (Turned.of_grown (lo := w.heap.size) (hi := w.heap.size + 1) h5.2 (fun b e => by cases e; omega)) (.inr (by omega))
          exact ((N2.out.grown h5.2).snoc (p := ⟨x, h'⟩) H2 (by omega) (by omega) (fun b e => by cases e; omega)).mono (Nat.le_refl _) h5.2.size
      case measure => simp [intOf]; omega
    · obtain rfl : k = xs.length := by omega
      clear hown hbel
      have hm := S.out.2.2.1
      unfold maxLen at hm
      go_wp2
      go_ret
      refine ⟨_, rfl, ⟨ps, by rw [PS.out, List.take_of_length_le (Nat.le_refl _)], OwnIn.of_row ?_ (Nat.le_refl _) (Nat.le_refl _), N.out⟩, B.out⟩
      have h := O.out
      rw [List.drop_of_length_le (by rw [zerosDrawer_len]; omega), List.append_nil] at h
      rw [PL.out]
      exact h
set_option maxHeartbeats 3200000 in
theorem szDrawer_any (x : VDrawer) (h : Hd) (left : Int) (w : World) (hi : IsInts w h.a h.n h.c x.Flats) (h0 : 0 ≤ left) (h1 : left ≤ 1048576) :
    Calls Try.prog 40 #[.agg #[.int .i64 x.Id, .int .i64 x.Wide, .int .i64 x.High, .int .i64 x.Holds, .slice h.a h.n h.c], .int .i64 left] w fun e w' => (∃ z : Int, e = .returned (.int .i64 z) ∧ (z < 0 ∨ (z = left - (x.Flats.length : Int) ∧ 0 ≤ z))) ∧ Below w.heap.size w w' := by
  have b0 := bel_al1 w (.cells #[.int .i64 x.Id, .int .i64 x.Wide, .int .i64 x.High, .int .i64 x.Holds, .slice h.a h.n h.c] 59)
  have S := Lib.hid (hi.below b0)
  have B0 := Lib.hid b0
  clear hi b0
  go_enter Try.func40, Try.ntmps40
  go_wp2_with fail
  refine (szIntS_left _ _ _ x.Flats left _ S.out h0 h1).mono ?_
  rintro e w2 ⟨⟨z, rfl, hz⟩, rfl⟩
  by_cases hn : z < 0
  · go_wp2
    go_ret
    exact ⟨⟨-1, rfl, .inl (by omega)⟩, B0.out⟩
  · go_wp2
    go_ret
    exact ⟨⟨z, rfl, hz⟩, B0.out⟩
set_option maxHeartbeats 3200000 in
theorem szDrawerS_o (a : Option Addr) (len cap : Nat) (xs : List VDrawer) (left : Int) (w : World) (h : IsDrawerS w a len cap xs) (h0 : 0 ≤ left) (h1 : left ≤ 1048576) :
    Calls Try.prog 37 #[.slice a len cap, .int .i64 left] w fun e w' => ∃ z : Int, e = .returned (.int .i64 z) ∧ z ≤ left ∧ (0 ≤ z → condDrawer xs) ∧ Below w.heap.size w w' := by
  obtain rfl := h.1
  have hm := h.2.2.1
  have hcl := h.2.1
  unfold maxLen at hm
  have S := Lib.hid h
  clear h
  by_cases hlt : left < (xs.length : Int)
  · have hn : left - (xs.length : Int) < 0 := by omega
    go_enter Try.func37, Try.ntmps37
    go_wp2
    go_ret
    exact ⟨-1, rfl, by omega, by omega, Below.refl _ _⟩
  · have hn : ¬ left - (xs.length : Int) < 0 := by omega
    have hn2 : 0 ≤ left - (xs.length : Int) := by omega
    obtain ⟨l0, hl0⟩ : ∃ l0, left - (xs.length : Int) = l0 := ⟨_, rfl⟩
    have b0 : 0 ≤ l0 := by omega
    have b1 : l0 ≤ left := by omega
    have L0 := Lib.hid hl0
    clear hl0
    go_enter Try.func37, Try.ntmps37
    go_wp2
    go_loopw [1, 5] (fun l i wr => ∃ (k : Nat) (y : Int), k ≤ xs.length ∧ i = .int .i64 k ∧ l = .int .i64 y ∧ 0 ≤ y ∧ y ≤ left ∧ y + ((xs.length - k : Nat) : Int) + (sizeDrawer (xs.take k) : Int) = left ∧ Below w.heap.size w wr) (fun _ i _ => xs.length - (intOf i).toNat)
    case atStart => exact ⟨0, l0, Nat.zero_le _, rfl, by rw [L0.out], b0, b1, by have := L0.out; simp [sizeDrawer]; omega, Below.refl _ _⟩
    case round =>
      obtain ⟨k, y, hk, rfl, rfl, y0, y1, hsum, hbel⟩ := hrel
      have SM := Lib.hid hsum
      have B := Lib.hid hbel
      clear hsum
      by_cases hlt2 : k < xs.length
      · obtain ⟨x, hx⟩ : ∃ x, xs[k]? = some x := ⟨xs[k]'hlt2, List.getElem?_eq_getElem _⟩
        obtain ⟨b, o, rfl, hb, hat⟩ := (S.out.below hbel).at (by omega)
        obtain ⟨hd, c0, c1, c2, c3, c4, hi4⟩ := hat k x hx
        have I4 := Lib.hid hi4
        have K := Lib.hid hx
        have hi0 : (0 : Int) ≤ (k : Int) := by omega
        have hi1 : (k : Int) < (xs.length : Int) := by omega
        clear hbel hx hat hi4
        go_wp2_with fail
        refine (szDrawer_any x hd y _ I4.out y0 (by omega)).mono ?_
        rintro e w2 ⟨⟨z, rfl, hz⟩, hb2⟩
        have B2 := Lib.hid (Below.then' B.out hb2)
        have Z := Lib.hid hz
        clear hb2 hz
        by_cases hz0 : z < 0
        · go_wp2
          go_ret
          exact ⟨-1, rfl, by omega, by omega, B2.out⟩
        · go_wp2
          go_roundw
          case rel =>
            have h3 : z = y - (x.Flats.length : Int) := by rcases Z.out with h | h <;> omega
            have h4 := SM.out
            have h5 := sizeDrawer_take K.out
            exact ⟨k + 1, z, by omega, by go_num, rfl, by omega, by omega, by omega, B2.out⟩
          case measure => simp [intOf]; omega
      · obtain rfl : k = xs.length := by omega
        clear hbel
        go_wp2
        go_ret
        refine ⟨y, rfl, by omega, fun _ => ?_, B.out⟩
        have h4 := SM.out
        rw [List.take_of_length_le (Nat.le_refl _)] at h4
        unfold condDrawer
        omega
set_option maxHeartbeats 3200000 in
set_option maxRecDepth 100000 in
theorem eqDrawer_yes (x : VDrawer) (h h' : Hd) (w : World) (hi : IsInts w h.a h.n h.c x.Flats) (hi' : IsInts w h'.a h'.n h'.c x.Flats) :
    Calls Try.prog 43 #[.agg #[.int .i64 x.Id, .int .i64 x.Wide, .int .i64 x.High, .int .i64 x.Holds, .slice h.a h.n h.c], .agg #[.int .i64 x.Id, .int .i64 x.Wide, .int .i64 x.High, .int .i64 x.Holds, .slice h'.a h'.n h'.c]] w fun e w' => e = .returned (.bool true) ∧ Below w.heap.size w w' := by
  have b0 := bel_al2 w (.cells #[.int .i64 x.Id, .int .i64 x.Wide, .int .i64 x.High, .int .i64 x.Holds, .slice h.a h.n h.c] 42) (.cells #[.int .i64 x.Id, .int .i64 x.Wide, .int .i64 x.High, .int .i64 x.Holds, .slice h'.a h'.n h'.c] 42)
  have S := Lib.hid (hi.below b0)
  have S' := Lib.hid (hi'.below b0)
  have B0 := Lib.hid b0
  clear hi hi' b0
  go_enter Try.func43, Try.ntmps43
  go_wp2_with fail
  first
    | (refine (eqIntS_yes _ _ _ _ _ _ x.Flats _ S.out S'.out).mono ?_; rintro e w2 ⟨rfl, hb⟩; have B2 := Lib.hid (Below.then' B0.out hb); clear hb; go_wp2; go_ret; exact ⟨rfl, B2.out⟩)
    | (go_region_with (go_at_call 50; refine (eqIntS_yes _ _ _ _ _ _ x.Flats _ (S.out.below (bel_drew' (Below.refl _ _))) (S'.out.below (bel_drew' (Below.refl _ _)))).mono ?_; rintro e w2 ⟨rfl, hb⟩; have B2 := Lib.hid (Below.then' (bel_drew' B0.out) hb); clear hb)
       all_goals go_wp2
       all_goals go_ret
       all_goals exact ⟨rfl, B2.out⟩)
set_option maxHeartbeats 6400000 in
set_option maxRecDepth 100000 in
theorem eqDrawerS_yes (a : Option Addr) (len cap : Nat) (a' : Option Addr) (len' cap' : Nat) (xs : List VDrawer) (w : World) (h : IsDrawerS w a len cap xs) (h' : IsDrawerS w a' len' cap' xs) :
    Calls Try.prog 39 #[.slice a len cap, .slice a' len' cap'] w fun e w' => e = .returned (.bool true) ∧ Below w.heap.size w w' := by
  obtain rfl := h.1
  obtain rfl := h'.1
  have hm := h.2.2.1
  have hcl := h.2.1
  unfold maxLen at hm
  have S := Lib.hid h
  have S' := Lib.hid h'
  clear h h'
  go_enter Try.func39, Try.ntmps39
  go_wp2
  go_loopw [5] (fun i wr => ∃ k : Nat, k ≤ xs.length ∧ i = .int .i64 k ∧ Below w.heap.size w wr) (fun i _ => xs.length - (intOf i).toNat)
  case atStart => exact ⟨0, Nat.zero_le _, rfl, Below.refl _ _⟩
  case round =>
    obtain ⟨k, hk, rfl, hbel⟩ := hrel
    have B := Lib.hid hbel
    by_cases hlt : k < xs.length
    · obtain ⟨x, hx⟩ : ∃ x, xs[k]? = some x := ⟨xs[k]'hlt, List.getElem?_eq_getElem _⟩
      obtain ⟨b, o, rfl, hb, hat⟩ := (S.out.below hbel).at (by omega)
      obtain ⟨b', o', rfl, hb', hat'⟩ := (S'.out.below hbel).at (by omega)
      obtain ⟨hd, c0, c1, c2, c3, c4, hi4⟩ := hat k x hx
      obtain ⟨hd', d0, d1, d2, d3, d4, hi4'⟩ := hat' k x hx
      have I4 := Lib.hid hi4
      have I4' := Lib.hid hi4'
      have hi0 : (0 : Int) ≤ (k : Int) := by omega
      have hi1 : (k : Int) < (xs.length : Int) := by omega
      clear hbel hx hat hat' hi4 hi4'
      go_wp2
      go_region_with (go_at_call 43; refine (eqDrawer_yes x hd hd' _ (I4.out.below (bel_drew' (Below.refl _ _))) (I4'.out.below (bel_drew' (Below.refl _ _)))).mono ?_; rintro e w1 ⟨rfl, hb1⟩; have B1 := Lib.hid (Below.then' (bel_drew' B.out) hb1); clear hb1)
      all_goals go_wp2
      all_goals go_roundw
      all_goals first
        | exact ⟨k + 1, by omega, by go_num, B1.out⟩
        | (simp [intOf]; omega)
    · obtain rfl : k = xs.length := by omega
      clear hbel
      go_wp2
      go_ret
      exact ⟨rfl, B.out⟩
theorem markIntS_Drawer (lo : Nat) (h : Hd) (zs : List Int) (kk : Nat) (y : Int) (w : World) (hy : ((kk : Nat) : Int) = y) (hown : w.ownsRow lo 3 1 (.slice h.a h.n h.c) zs.length (intCells zs)) (hk : kk ≤ 1000000000) (hn : zs.length ≤ 1000000000) :
    Calls Try.prog 51 #[.slice h.a h.n h.c, .int .i64 y] w fun e w' => (∃ u : Int, e = .returned (.int .i64 u) ∧ u = y + (zs.length : Int)) ∧ w'.ownsRow lo 3 1 (.slice h.a h.n h.c) zs.length (intCells (marksI kk zs.length)) ∧ w.grownBy w' h.blk := by
  rw [← hy]
  exact (markIntS_any lo _ zs.length kk (intCells zs) w hown hk hn).mono fun e w' ⟨h1, h2, h3⟩ => ⟨⟨_, h1, by omega⟩, h2, h3⟩
/-- What one row's marks leave. -/
def DrawerSMarked (lo hi : Nat) (v : Value) (xs : List VDrawer) (k : Nat) (w : World) (e : Ending) (w' : World) : Prop := e = .returned (.int .i64 ((k + cntDrawer xs : Nat) : Int)) ∧ OwnDrawerS lo hi w' v (mkDrawer k xs) ∧ Turned lo hi w w'
set_option maxHeartbeats 6400000 in
set_option maxRecDepth 100000 in
theorem markDrawerS_o (lo hi : Nat) (v : Value) (xs : List VDrawer) (k : Nat) (w : World) (h : OwnDrawerS lo hi w v xs) (hk : k + cntDrawer xs ≤ 100000000) :
    Calls Try.prog 47 #[v, .int .i64 (k : Int)] w (DrawerSMarked lo hi v xs k w) := by
  obtain ⟨ps, hps, hraw⟩ := h
  have hpl : ps.length = xs.length := by rw [← hps, List.length_map]
  have hraw0 := hraw
  rcases hraw0.1.1.2 with ⟨rfl, h0⟩ | ⟨g, cap, cur, rfl, hg, hh, hncap, hcap, _⟩
  · have hx : xs = [] := List.length_eq_zero_iff.1 (by omega)
    subst hx
    have H := Lib.hid hraw
    have hp0 : ps = [] := List.length_eq_zero_iff.1 (by omega)
    have P0 := Lib.hid hp0
    clear hraw hraw0 hps hpl hp0 h0
    go_enter Try.func47, Try.ntmps47
    go_wp2
    refine wp_loop_rounds 1 ?_
    rw [rounds_succ]
    go_wp2
    go_ret
    exact ⟨rfl, ⟨ps, by rw [P0.out]; rfl, H.out⟩, Turned.refl _ _ _⟩
  clear hh hraw0
  have glt := (hraw.1.lt (b := g) rfl)
  have H := Lib.hid hraw
  have PS := Lib.hid hps
  rw [hpl]
  rw [hpl] at hncap H
  unfold maxLen at hcap
  have PL := Lib.hid hpl
  have HK := Lib.hid hk
  clear hraw hps hpl hk
  go_enter Try.func47, Try.ntmps47
  go_wp2
  go_loopw [1, 5] (fun q i wr => ∃ (j : Nat) (ps : List PDrawer), j ≤ xs.length ∧ i = .int .i64 j ∧ q = .int .i64 ((k + cntDrawer (xs.take j) : Nat) : Int) ∧ ps.map PDrawer.x = mkDrawer k (xs.take j) ++ xs.drop j ∧ RawDrawer lo hi wr (.slice (some ⟨g, 0, none⟩) xs.length cap) ps ∧ Turned lo hi w wr) (fun _ i _ => xs.length - (intOf i).toNat)
  case atStart => exact ⟨0, ps, Nat.zero_le _, rfl, by simp [cntDrawer], by rw [PS.out]; simp [mkDrawer], H.out, Turned.refl _ _ _⟩
  case round =>
    obtain ⟨j, ps, hj, rfl, rfl, hps, hraw, htn⟩ := hrel
    have R := Lib.hid hraw
    have T0 := Lib.hid htn
    have PS := Lib.hid hps
    clear hraw htn hps
    by_cases hlt : j < xs.length
    · obtain ⟨x, hx⟩ : ∃ x, xs[j]? = some x := ⟨xs[j]'hlt, List.getElem?_eq_getElem _⟩
      have hml : (mkDrawer k (xs.take j)).length = j := by rw [mkDrawer_len, List.length_take]; omega
      obtain ⟨p, hp, hpx⟩ : ∃ p, ps[j]? = some p ∧ p.x = x := by
        have h1 := congrArg (fun l : List VDrawer => l[j]?) PS.out
        simp only [List.getElem?_map] at h1
        rw [List.getElem?_append_right (by omega), hml, Nat.sub_self, List.getElem?_drop, Nat.add_zero, hx] at h1
        cases hq : ps[j]? with
        | none => rw [hq] at h1; cases h1
        | some p => rw [hq] at h1; exact ⟨p, rfl, by simpa using h1⟩
      obtain ⟨px, hp'⟩ := p
      obtain rfl : px = x := hpx
      obtain ⟨c0, c1, c2, c3, c4, _⟩ := R.out.elem hp
      have hcl := cntDrawer_take_le xs (j + 1)
      rw [cntDrawer_take hx] at hcl
      obtain ⟨y, hy⟩ : ∃ y : Int, ((k + cntDrawer (xs.take j) : Nat) : Int) = y := ⟨_, rfl⟩
      have y0 : 0 ≤ y := by omega
      have y1 : y ≤ 100000000 := by have := HK.out; omega
      have hx2 : px.Flats.length ≤ 100000000 := by have := HK.out; omega
      rw [hy]
      have HY := Lib.hid hy
      have K := Lib.hid hx
      have KP := Lib.hid hp
      have ML := Lib.hid hml
      have CL := Lib.hid hcl
      have f0 := R.out.free (j * 5)
      have f1 := R.out.free (j * 5 + 1)
      have f2 := R.out.free (j * 5 + 2)
      have f3 := R.out.free (j * 5 + 3)
      have i0 : (0 : Int) ≤ (j : Int) := by omega
      have i1 : (j : Int) < (xs.length : Int) := by omega
      have SI := Lib.hid (R.out.setInts KP.out y (y + 1) (y + 1 + 1) (y + 1 + 1 + 1))
      clear hy hx hp hml hcl
      have hset : (ps.set j ⟨⟨y, (y + 1), (y + 1 + 1), (y + 1 + 1 + 1), px.Flats⟩, hp'⟩)[j]? = some ⟨⟨y, (y + 1), (y + 1 + 1), (y + 1 + 1 + 1), px.Flats⟩, hp'⟩ := List.getElem?_set_self (List.getElem?_eq_some_iff.1 KP.out).1
      have HS := Lib.hid hset
      clear hset
      go_wp2_with fail
      refine (markIntS_Drawer lo hp' px.Flats (k + cntDrawer (xs.take j) + 4) (y + 1 + 1 + 1 + 1) _ (by have := HY.out; omega) (SI.out.1.2.1 j _ HS.out).1 (by have := HK.out; have := CL.out; omega) (by omega)).mono ?_
      rintro e w2 ⟨⟨u, rfl, hu⟩, hown2, hg2⟩
      have U := Lib.hid hu
      have R2 := Lib.hid (SI.out.1.inner HS.out (zs := marksI (k + cntDrawer (xs.take j) + 4) px.Flats.length) (by rw [marksI_len]) hown2 hg2)
      have T2 := Lib.hid ((T0.out.trans (Turned.of_grown SI.out.2 (fun b e => by cases e; omega))).trans (Turned.of_grown hg2 (fun b e => by have := (SI.out.1.2.1 j _ HS.out).lt e; omega)))
      clear hu hown2 hg2 c0 c1 c2 c3 c4 f0 f1 f2 f3
      go_wp2
      go_roundw
      case rel =>
        have hcnt := cntDrawer_take K.out
        refine ⟨j + 1, _, by omega, by go_num, int_eq (by have := U.out; have := HY.out; omega), ?_, R2.out, T2.out⟩
        rw [List.set_set, List.map_set, PS.out, mkDrawer_take K.out, List.set_append_right _ _ (by rw [ML.out]; exact Nat.le_refl _), ML.out, Nat.sub_self, List.append_assoc]
        refine congrArg (fun l => mkDrawer k (xs.take j) ++ l) ?_
        rw [List.drop_eq_getElem_cons hlt, List.set_cons_zero]
        refine cons_congr ?_ rfl
        have hy := HY.out
        unfold mkDrawer1
        simp only [VDrawer.mk.injEq]
        first | exact ⟨by omega, by omega, by omega, by omega, trivial⟩ | exact ⟨by omega, by omega, by omega, by omega, rfl⟩ | exact ⟨by omega, by omega, by omega, by omega⟩
      case measure => simp [intOf]; omega
    · obtain rfl : j = xs.length := by omega
      go_wp2
      go_ret
      refine ⟨?_, ⟨ps, ?_, R.out⟩, T0.out⟩
      · rw [List.take_of_length_le (Nat.le_refl _)]; rfl
      · have h := PS.out
        rw [List.take_of_length_le (Nat.le_refl _), List.drop_of_length_le (Nat.le_refl _), List.append_nil] at h
        exact h
theorem heldIntS_Drawer (h : Hd) (kk n0 : Nat) (y : Int) (w : World) (hy : ((kk : Nat) : Int) = y) (hi : IsInts w h.a h.n h.c (marksI kk n0)) (hk : kk ≤ 1000000000) (hn : n0 ≤ 1000000000) :
    Calls Try.prog 52 #[.slice h.a h.n h.c, .int .i64 y] w fun e w' => (∃ u : Int, e = .returned (.int .i64 u) ∧ u = y + (n0 : Int)) ∧ w = w' := by
  rw [← hy]
  have e : h.n = n0 := by rw [hi.1, marksI_len]
  rw [e] at hi
  rw [e]
  exact (heldIntS_any h.a n0 h.c kk w hi hk hn).mono fun e w' ⟨h1, h2⟩ => ⟨⟨_, h1, by omega⟩, h2⟩
set_option maxHeartbeats 6400000 in
set_option maxRecDepth 100000 in
theorem heldDrawerS_o (a : Option Addr) (n c : Nat) (xs : List VDrawer) (k : Nat) (w : World) (h : IsDrawerS w a n c (mkDrawer k xs)) (hk : k + cntDrawer xs ≤ 100000000) :
    Calls Try.prog 48 #[.slice a n c, .int .i64 (k : Int)] w fun e w' => e = .returned (.int .i64 ((k + cntDrawer xs : Nat) : Int)) ∧ Below w.heap.size w w' := by
  have hn : n = xs.length := by rw [h.1, mkDrawer_len]
  subst hn
  have hm := h.2.2.1
  have hcl := h.2.1
  unfold maxLen at hm
  have S := Lib.hid h
  have HK := Lib.hid hk
  clear h hk
  go_enter Try.func48, Try.ntmps48
  go_wp2
  go_loopw [1, 5] (fun q i wr => ∃ j : Nat, j ≤ xs.length ∧ i = .int .i64 j ∧ q = .int .i64 ((k + cntDrawer (xs.take j) : Nat) : Int) ∧ Below w.heap.size w wr) (fun _ i _ => xs.length - (intOf i).toNat)
  case atStart => exact ⟨0, Nat.zero_le _, rfl, by simp [cntDrawer], Below.refl _ _⟩
  case round =>
    obtain ⟨j, hj, rfl, rfl, hbel⟩ := hrel
    have B := Lib.hid hbel
    by_cases hlt : j < xs.length
    · obtain ⟨x, hx⟩ : ∃ x, xs[j]? = some x := ⟨xs[j]'hlt, List.getElem?_eq_getElem _⟩
      obtain ⟨b, o, rfl, hb, hat⟩ := (S.out.below hbel).at (by omega)
      obtain ⟨hd, e0, e1, e2, e3, e4, hi4⟩ := hat j _ (mkDrawer_at hx k)
      have hcl := cntDrawer_take_le xs (j + 1)
      rw [cntDrawer_take hx] at hcl
      obtain ⟨y, hy⟩ : ∃ y : Int, ((k + cntDrawer (xs.take j) : Nat) : Int) = y := ⟨_, rfl⟩
      have y0 : 0 ≤ y := by omega
      have y1 : y ≤ 100000000 := by have := HK.out; omega
      have hx2 : x.Flats.length ≤ 100000000 := by have := HK.out; omega
      rw [hy]
      have HY := Lib.hid hy
      have K := Lib.hid hx
      have CL := Lib.hid hcl
      have I4 := Lib.hid hi4
      have c0 : wr.cell? ⟨b, o + j * 5, none⟩ = some (.int .i64 y) := e0.trans (congrArg some (int_eq (by simp only [mkDrawer1]; have := HY.out; omega)))
      have c1 : wr.cell? ⟨b, o + j * 5 + 1, none⟩ = some (.int .i64 (y + 1)) := e1.trans (congrArg some (int_eq (by simp only [mkDrawer1]; have := HY.out; omega)))
      have c2 : wr.cell? ⟨b, o + j * 5 + 2, none⟩ = some (.int .i64 (y + 1 + 1)) := e2.trans (congrArg some (int_eq (by simp only [mkDrawer1]; have := HY.out; omega)))
      have c3 : wr.cell? ⟨b, o + j * 5 + 3, none⟩ = some (.int .i64 (y + 1 + 1 + 1)) := e3.trans (congrArg some (int_eq (by simp only [mkDrawer1]; have := HY.out; omega)))
      have c4 := e4
      have i0 : (0 : Int) ≤ (j : Int) := by omega
      have i1 : (j : Int) < (xs.length : Int) := by omega
      clear hy hx hcl hi4 hat hbel e0 e1 e2 e3 e4
      go_wp2_with fail
      refine (heldIntS_Drawer hd (k + cntDrawer (xs.take j) + 4) x.Flats.length (y + 1 + 1 + 1 + 1) _ (by have := HY.out; omega) I4.out (by have := HK.out; have := CL.out; omega) (by omega)).mono ?_
      rintro e w2 ⟨⟨u, rfl, hu⟩, rfl⟩
      have hu0 : 0 ≤ u := by omega
      have U := Lib.hid hu
      clear hu c0 c1 c2 c3 c4
      go_wp2
      go_roundw
      case rel =>
        have hcnt := cntDrawer_take K.out
        exact ⟨j + 1, by omega, by go_num, int_eq (by have := U.out; have := HY.out; omega), B.out⟩
      case measure => simp [intOf]; omega
    · obtain rfl : j = xs.length := by omega
      clear hbel
      go_wp2
      go_ret
      exact ⟨by rw [List.take_of_length_le (Nat.le_refl _)]; rfl, B.out⟩
end Go.Proofs.Ytlmedhidkhphbaa

namespace Go.Proofs.Ytlmedhidkhphbaa
open Go.RowKit
theorem el_at {α : Type} {xs : List α} {len k : Nat} (hl : Hid (len = xs.length)) (hk : k < len) : ∃ s, xs[k]? = some s := ⟨xs[k]'(by have := hl.out; omega), List.getElem?_eq_getElem _⟩
theorem all_more {P : Nat → Prop} {k : Nat} (h : ∀ j, j < k → P j) (h1 : P k) : ∀ j, j < k + 1 → P j := by
  intro j hj
  by_cases e : j = k
  · subst e; exact h1
  · exact h j (by omega)
theorem up_ways {α : Type} {ok : α → Bool} {id : α → Int} {xs : List α} {k : Nat} {s : α} (hs : xs[k]? = some s) :
    (ok s = false ∧ upStep ok id xs k = false) ∨ (ok s = true ∧ k = 0 ∧ upStep ok id xs k = true) ∨ (ok s = true ∧ ∃ j p, k = j + 1 ∧ xs[j]? = some p ∧ ((¬ id s ≤ id p ∧ upStep ok id xs k = true) ∨ (id s ≤ id p ∧ upStep ok id xs k = false))) := by
  match k, hs with
  | 0, hs =>
    rw [upStep_zero hs]
    cases h : ok s
    · exact .inl ⟨rfl, rfl⟩
    · exact .inr (.inl ⟨rfl, rfl, rfl⟩)
  | j + 1, hs =>
    have hl := (List.getElem?_eq_some_iff.1 hs).1
    have hp : xs[j]? = some xs[j] := List.getElem?_eq_getElem (by omega)
    rw [upStep_succ hp hs]
    cases h : ok s
    · exact .inl ⟨rfl, rfl⟩
    · refine .inr (.inr ⟨rfl, j, xs[j], rfl, hp, ?_⟩)
      by_cases h2 : id s ≤ id xs[j]
      · exact .inr ⟨h2, by simp; omega⟩
      · exact .inl ⟨h2, by simp; omega⟩
/-- A call of a function value enters the function. -/
theorem enters_fn {P : Program} {K : FuncId} {fn : Func} (hf : P.funcs[K]? = some fn) (h1 : (fn.name == "runtime.NumGoroutine") = false) (h2 : fn.body.isNone = false) : ∀ args W, (callFunc K args).run P W = .ok (.enter K args) W := by
  intro args W
  have h1' : ¬ fn.name = "runtime.NumGoroutine" := by simpa using h1
  have h2' : ¬ fn.body = none := by intro h; rw [h] at h2; cases h2
  simp [callFunc, go_sem, hf, h1', h2']
theorem cell_box (w : World) (v : Value) (t : TypeId) (B : Nat) (hB : w.heap.size = B) : (w.alloc (.cells #[v] t)).cell? ⟨B, 0, none⟩ = some v := by
  subst hB
  simp [World.cell?_alloc_new]
theorem cell_stay {w w' : World} {b o : Nat} {v : Value} (h : w.cell? ⟨b, o, none⟩ = some v) (hb : Below w.heap.size w w') : w'.cell? ⟨b, o, none⟩ = some v := (hb.cell (p := ⟨b, o, none⟩) (World.lt_of_cell h)).trans h
end Go.Proofs.Ytlmedhidkhphbaa
