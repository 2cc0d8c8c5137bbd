/- Drawers that are right, part by part; what a put and a take make of them. Plain mathematics. -/
import Derived.Test.YtlmedhidkhphbaaFl2
namespace Go.Proofs.Ytlmedhidkhphbaa

structure Good (fs : List VFlat) (ds : List VDrawer) : Prop where
  flats : upB VFlat.ok VFlat.Id fs = true
  fl : fs.length ≤ 20
  up : upB VDrawer.ok VDrawer.Id ds = true
  dl : ds.length ≤ 8
  right : ∀ (i : Nat) d, ds[i]? = some d → rightB fs d = true
  apart : ∀ (i j : Nat) d e id, i < j → ds[i]? = some d → ds[j]? = some e → id ∈ d.Flats → id ∉ e.Flats
theorem hold_neg {ds : List VDrawer} {id : Int} : holdI ds id < 0 ↔ ∀ d ∈ ds, id ∉ d.Flats := by
  unfold holdI
  rcases find_first (fun d : VDrawer => hasB id d.Flats) ds with ⟨h1, h2⟩ | ⟨i, d, h1, h2, _, h4⟩
  · rw [h1]
    refine ⟨fun _ d hd hm => ?_, fun _ => by omega⟩
    have := List.find?_eq_none.1 h2 d hd
    exact this (hasB_iff.2 hm)
  · rw [h1]
    refine ⟨fun h => by omega, fun h => ?_⟩
    exact absurd (hasB_iff.1 h4) (h d (List.mem_of_getElem? h2))
theorem hold_at {ds : List VDrawer} {id : Int} (h : 0 ≤ holdI ds id) : ∃ (i : Nat) (d : VDrawer), holdI ds id = (i : Int) ∧ ds[i]? = some d ∧ ds.find? (fun d => hasB id d.Flats) = some d ∧ id ∈ d.Flats := by
  unfold holdI at h ⊢
  rcases find_first (fun d : VDrawer => hasB id d.Flats) ds with ⟨h1, h2⟩ | ⟨i, d, h1, h2, h3, h4⟩
  · omega
  · exact ⟨i, d, h1, h2, h3, hasB_iff.1 h4⟩
theorem hold_no {ds : List VDrawer} {id : Int} (h : holdI ds id < 0) : holdI ds id = -1 ∧ ds.find? (fun d => hasB id d.Flats) = none := by
  unfold holdI at h ⊢
  rcases find_first (fun d : VDrawer => hasB id d.Flats) ds with ⟨h1, h2⟩ | ⟨i, d, h1, _⟩
  · exact ⟨h1, h2⟩
  · omega
theorem draw_at {ds : List VDrawer} {id : Int} (h : 0 ≤ drawI ds id) : ∃ (i : Nat) (d : VDrawer), drawI ds id = (i : Int) ∧ ds[i]? = some d ∧ ds.find? (fun d => d.Id == id) = some d ∧ d.Id = id := by
  unfold drawI at h ⊢
  rcases find_first (fun d : VDrawer => d.Id == id) ds with ⟨h1, h2⟩ | ⟨i, d, h1, h2, h3, h4⟩
  · omega
  · exact ⟨i, d, h1, h2, h3, by simpa using h4⟩
theorem draw_no {ds : List VDrawer} {id : Int} (h : drawI ds id < 0) : drawI ds id = -1 ∧ ds.find? (fun d => d.Id == id) = none := by
  unfold drawI at h ⊢
  rcases find_first (fun d : VDrawer => d.Id == id) ds with ⟨h1, h2⟩ | ⟨i, d, h1, _⟩
  · exact ⟨h1, h2⟩
  · omega
theorem draw_up {ds : List VDrawer} (h : upB VDrawer.ok VDrawer.Id ds = true) {i : Nat} {d : VDrawer} (hd : ds[i]? = some d) : drawI ds d.Id = (i : Int) := upB_first h hd
theorem flat_at {fs : List VFlat} {id : Int} (h : 0 ≤ flatI fs id) : ∃ (i : Nat) (f : VFlat), flatI fs id = (i : Int) ∧ fs[i]? = some f ∧ flatOf fs id = some f ∧ f.Id = id := by
  unfold flatI flatOf at *
  rcases find_first (fun f : VFlat => f.Id == id) fs with ⟨h1, h2⟩ | ⟨i, d, h1, h2, h3, h4⟩
  · omega
  · exact ⟨i, d, h1, h2, h3, by simpa using h4⟩
theorem flat_no {fs : List VFlat} {id : Int} (h : flatI fs id < 0) : flatI fs id = -1 ∧ flatOf fs id = none := by
  unfold flatI flatOf at *
  rcases find_first (fun f : VFlat => f.Id == id) fs with ⟨h1, h2⟩ | ⟨i, d, h1, _⟩
  · exact ⟨h1, h2⟩
  · omega
theorem flat_of {fs : List VFlat} {id : Int} {f : VFlat} (h : flatOf fs id = some f) : 0 ≤ flatI fs id := by
  by_cases h2 : 0 ≤ flatI fs id
  · exact h2
  · rw [(flat_no (by omega)).2] at h; cases h
theorem apartB_iff {ds : List VDrawer} {i : Nat} {d : VDrawer} : apartB ds i d = true ↔ ∀ id ∈ d.Flats, ∀ e ∈ ds.take i, id ∉ e.Flats := by
  unfold apartB
  rw [List.all_eq_true]
  constructor
  · intro h id hid
    have := h id hid
    simp only [decide_eq_true_eq] at this
    exact hold_neg.1 this
  · intro h id hid
    simp only [decide_eq_true_eq]
    exact hold_neg.2 (h id hid)
theorem take_mem {α : Type} {l : List α} {i : Nat} {e : α} : e ∈ l.take i ↔ ∃ j : Nat, j < i ∧ l[j]? = some e := by
  constructor
  · intro h
    obtain ⟨j, hj⟩ := List.getElem?_of_mem h
    rw [List.getElem?_take] at hj
    split at hj
    · exact ⟨j, ‹_›, hj⟩
    · cases hj
  · rintro ⟨j, h1, h2⟩
    exact List.mem_of_getElem? (i := j) (by rw [List.getElem?_take, if_pos h1]; exact h2)
theorem good_iff {fs : List VFlat} {ds : List VDrawer} : goodB fs ds = true ↔ Good fs ds := by
  unfold goodB flatsB listB
  simp only [Bool.and_eq_true, decide_eq_true_eq, List.all_eq_true, List.mem_range]
  constructor
  · rintro ⟨⟨h1, h2⟩, ⟨h3, h4⟩, h5⟩
    have hr : ∀ (i : Nat) d, ds[i]? = some d → rightB fs d = true ∧ apartB ds i d = true := fun i d hd => by
      have := h5 i (List.getElem?_eq_some_iff.1 hd).1
      unfold rightAt at this
      rw [hd] at this
      simpa using this
    refine ⟨h1, h2, h3, h4, fun i d hd => (hr i d hd).1, fun i j d e id hij hd he hm => ?_⟩
    intro hm2
    exact (apartB_iff.1 (hr j e he).2) id hm2 d (take_mem.2 ⟨i, hij, hd⟩) hm
  · rintro ⟨h1, h2, h3, h4, h5, h6⟩
    refine ⟨⟨h1, h2⟩, ⟨h3, h4⟩, fun i hi => ?_⟩
    unfold rightAt
    cases hd : ds[i]? with
    | none => rfl
    | some d =>
      simp only [Bool.and_eq_true]
      refine ⟨h5 i d hd, apartB_iff.2 fun id hid e he hm => ?_⟩
      obtain ⟨j, hj, he⟩ := take_mem.1 he
      exact h6 j i e d id hj he hd hm hid
theorem good_ids {fs : List VFlat} {ds : List VDrawer} (h : Good fs ds) {i : Nat} {d : VDrawer} (hd : ds[i]? = some d) : upB idOk (fun z => z) d.Flats = true ∧ d.Flats.length ≤ 12 := by
  have := upB_ok h.up (List.mem_of_getElem? hd)
  unfold VDrawer.ok idsB at this
  simp at this
  exact this.2.2.2.2
theorem good_id {fs : List VFlat} {ds : List VDrawer} (h : Good fs ds) {i : Nat} {d : VDrawer} (hd : ds[i]? = some d) : 1 ≤ d.Id ∧ d.Id ≤ 99 := by
  have := upB_ok h.up (List.mem_of_getElem? hd)
  unfold VDrawer.ok at this
  simp [inB_iff] at this
  exact this.1
/-- A flat that a drawer has is one of the flats. -/
theorem good_has {fs : List VFlat} {ds : List VDrawer} (h : Good fs ds) {i : Nat} {d : VDrawer} (hd : ds[i]? = some d) {id : Int} (hm : id ∈ d.Flats) : ∃ f, flatOf fs id = some f ∧ fitsB f d = true := by
  have := h.right i d hd
  unfold rightB at this
  simp only [Bool.and_eq_true, List.all_eq_true] at this
  exact fitsId_some (this.1 id hm)

/-! Numbers in ascending order. -/
theorem up_take_lt {zs : List Int} {n : Int} {k : Nat} (h1 : ∀ (j : Nat) z, j < k → zs[j]? = some z → z < n) (h2 : ∀ z, zs[k]? = some z → ¬ z < n) : zs.takeWhile (fun z => decide (z < n)) = zs.take k ∧ zs.dropWhile (fun z => decide (z < n)) = zs.drop k := by
  have e : zs = zs.take k ++ zs.drop k := (List.take_append_drop k zs).symm
  have ha : ∀ z ∈ zs.take k, decide (z < n) = true := fun z hz => by
    obtain ⟨j, hj, hz⟩ := take_mem.1 hz
    simpa using h1 j z hj hz
  have hd : (zs.drop k).takeWhile (fun z => decide (z < n)) = [] ∧ (zs.drop k).dropWhile (fun z => decide (z < n)) = zs.drop k := by
    cases hz : zs.drop k with
    | nil => exact ⟨rfl, rfl⟩
    | cons z l =>
      have : zs[k]? = some z := by
        have := congrArg (fun l : List Int => l[0]?) hz
        simpa using this
      have h3 := h2 z this
      simp [h3]
  constructor
  · conv => lhs; rw [e]
    rw [List.takeWhile_append_of_pos ha, hd.1, List.append_nil]
  · conv => lhs; rw [e]
    rw [List.dropWhile_append_of_pos ha, hd.2]
theorem insAt_at {zs : List Int} {n : Int} {k : Nat} (h1 : ∀ (j : Nat) z, j < k → zs[j]? = some z → z < n) (h2 : ∀ z, zs[k]? = some z → ¬ z < n) : insAt n zs = zs.take k ++ n :: zs.drop k := by
  obtain ⟨e1, e2⟩ := up_take_lt h1 h2
  unfold insAt
  rw [e1, e2]
theorem insAt_len (n : Int) (zs : List Int) : (insAt n zs).length = zs.length + 1 := by
  unfold insAt
  rw [List.length_append, List.length_cons]
  have := congrArg List.length (List.takeWhile_append_dropWhile (p := fun z => decide (z < n)) (l := zs))
  rw [List.length_append] at this
  omega
theorem insAt_mem {n x : Int} {zs : List Int} : x ∈ insAt n zs ↔ x = n ∨ x ∈ zs := by
  unfold insAt
  rw [List.mem_append, List.mem_cons]
  have : x ∈ zs ↔ x ∈ zs.takeWhile (fun z => decide (z < n)) ∨ x ∈ zs.dropWhile (fun z => decide (z < n)) := by
    rw [← List.mem_append, List.takeWhile_append_dropWhile]
  rw [this]
  constructor
  · rintro (h | h | h)
    · exact .inr (.inl h)
    · exact .inl h
    · exact .inr (.inr h)
  · rintro (h | h | h)
    · exact .inr (.inl h)
    · exact .inl h
    · exact .inr (.inr h)
theorem without_ins {n : Int} {zs : List Int} (h : n ∉ zs) : without n (insAt n zs) = zs := by
  unfold without insAt
  rw [List.filter_append, List.filter_cons]
  have keep : ∀ l : List Int, (∀ x ∈ l, x ∈ zs) → l.filter (fun z => !(z == n)) = l := fun l hl => by
    rw [List.filter_eq_self]
    intro a ha
    have : a ≠ n := fun e => h (e ▸ hl a ha)
    simpa using this
  rw [keep _ (fun x hx => (List.takeWhile_sublist _).subset hx), keep _ (fun x hx => (List.dropWhile_sublist _).subset hx)]
  simp [List.takeWhile_append_dropWhile]
end Go.Proofs.Ytlmedhidkhphbaa
