/- Texts in one: IntST, IntO, IntST2, Wd, Aro, IntA2R, Wi, IsReliefP. -/
import Derived.Test.YtodjgeffkfbpiaaM2
import Derived.Test.YtodjgeffkfbpiaaM1
import Derived.Deep.RegionWith
import Derived.Laws.OwnMore
import Derived.Handy
import Derived.Laws.IdiomRangeMap
import Derived.Laws.MakeOwn
namespace Go.Proofs.Ytodjgeffkfbpiaa
open Go.RowKit Go.ChangeShapes Go.WideShapes Go.Deep

abbrev VIntS := List Int
/-- Its value and where its slice lies. -/
structure PIntS where
  x : VIntS
  h : Hd
def PIntS.vals (p : PIntS) : List Value := [.slice p.h.a p.h.n p.h.c]
theorem PIntS.vals_len (p : PIntS) : p.vals.length = 1 := rfl
theorem PIntS.vals_one (p : PIntS) : ∀ u ∈ p.vals, u.oneCell' = true := by
  intro u hu
  simp [PIntS.vals] at hu
  rcases hu with rfl <;> rfl
/-- It lies at block b from offset o on, its slice's parts in h. -/
def IntSAt (w : World) (b o : Nat) (x : VIntS) (h : Hd) : Prop :=
  w.cell? ⟨b, o, none⟩ = some (.slice h.a h.n h.c) ∧ IsInts w h.a h.n h.c x
def IsIntSS (w : World) (a : Option Addr) (len cap : Nat) (xs : List VIntS) : Prop :=
  len = xs.length ∧ len ≤ cap ∧ cap ≤ maxLen ∧ (len = 0 ∨ ∃ b o, a = some ⟨b, o, none⟩ ∧ b < w.heap.size ∧ ∀ (k : Nat) x, xs[k]? = some x → ∃ h, IntSAt w b (o + k) x h)
theorem IntSAt.below {w w' : World} {b o : Nat} {x : VIntS} {h : Hd} (H : IntSAt w b o x h) (hb : Below w.heap.size w w') (hlt : b < w.heap.size) : IntSAt w' b o x h :=
  ⟨(hb.cell (p := ⟨b, o, none⟩) hlt).trans H.1, H.2.below hb⟩
theorem IsIntSS.below {w w' : World} {a : Option Addr} {len cap : Nat} {xs : List VIntS} (h : IsIntSS w a len cap xs) (hb : Below w.heap.size w w') : IsIntSS w' a len cap xs := by
  refine ⟨h.1, h.2.1, h.2.2.1, ?_⟩
  rcases h.2.2.2 with h0 | ⟨b, o, rfl, h1, h2⟩
  · exact .inl h0
  · exact .inr ⟨b, o, rfl, Nat.lt_of_lt_of_le h1 hb.size, fun k x hx => by
      obtain ⟨h, hh⟩ := h2 k x hx
      exact ⟨h, hh.below hb h1⟩⟩
theorem IsIntSS.at {w : World} {a : Option Addr} {len cap : Nat} {xs : List VIntS} (h : IsIntSS w a len cap xs) (hpos : 0 < len) : ∃ b o, a = some ⟨b, o, none⟩ ∧ b < w.heap.size ∧ ∀ (k : Nat) x, xs[k]? = some x → ∃ h, IntSAt w b (o + k) x h := by
  rcases h.2.2.2 with h0 | h1
  · omega
  · exact h1
theorem nil_IsIntSS (w : World) : IsIntSS w none 0 0 [] := ⟨rfl, Nat.le_refl _, by simp [maxLen], .inl rfl⟩
/-- The first elements of a slice. -/
theorem IsIntSS.take {w : World} {a : Option Addr} {len cap : Nat} {xs : List VIntS} (h : IsIntSS w a len cap xs) {k : Nat} (hk : k ≤ len) : IsIntSS w a k cap (xs.take k) := by
  refine ⟨by rw [List.length_take, ← h.1]; omega, Nat.le_trans hk h.2.1, h.2.2.1, ?_⟩
  by_cases h0 : k = 0
  · exact .inl h0
  · obtain ⟨b, o, e, h1, h2⟩ := h.at (by omega)
    refine .inr ⟨b, o, e, h1, fun j x hj => h2 j x ?_⟩
    rw [List.getElem?_take] at hj
    split at hj
    · exact hj
    · cases hj
set_option maxRecDepth 100000 in
theorem open_IntSS {H : Type} {enc : TypeId × Value → H} {W : World} {base : Nat} {held : Bool} {a : Option Addr} {len cap : Nat} {d : DataW H} {p : List MemPlace}
    (h : DataW.Trod enc Try.prog W base (fun _ => true) held 24 (.slice a len cap) d p) : ∃ xs : List VIntS, IsIntSS W a len cap xs := by
  obtain ⟨fuel, hf⟩ := h
  rcases open_slice Try.underlying24 hf with ⟨hcs, _⟩ | ⟨y, l, cp, m, n, D, Pl, hcs, hb, hl, hm, hmm, _, hi⟩
  · simp [Value.cells] at hcs
    obtain ⟨rfl, rfl, rfl⟩ := hcs
    exact ⟨[], nil_IsIntSS W⟩
  · simp [Value.cells] at hcs
    obtain ⟨rfl, rfl, rfl⟩ := hcs
    simp at hmm
    subst hmm
    obtain ⟨b, o, spot⟩ := y
    have hC : Try.prog.cellsOf 38 = 1 := by kernel_rfl
    have each : ∀ i, i < len → ∃ (x : VIntS) (h : Hd), W.cell? ((⟨b, o, spot⟩ : Addr).add i) = some (.slice h.a h.n h.c) ∧ IsInts W h.a h.n h.c x := by
      intro i hlt
      obtain ⟨cs', hc, ht'⟩ := hi i (by omega)
      rw [hC] at hc
      obtain ⟨_, hcl, hat⟩ := World.cells?_some hc
      obtain ⟨c, rfl⟩ : ∃ c, cs' = [c] := List.length_eq_one_iff.1 hcl
      obtain ⟨hd, zs, rfl, hz⟩ := trod_ints Try.underlying38 Try.underlying3 (by kernel_rfl) ht'
      refine ⟨zs, hd, ?_, hz⟩
      have h1 := hat 0 (by simp)
      rw [Nat.mul_one] at h1
      rw [Go.Deep.add_add] at h1
      simpa using h1
    by_cases h0 : len = 0
    · subst h0
      exact ⟨[], rfl, hl, hm, .inl rfl⟩
    · obtain ⟨_, _, h1, _⟩ := each 0 (by omega)
      have hspot : spot = none := by simpa [Addr.add] using World.cell?_spot h1
      subst hspot
      obtain ⟨f, hf⟩ := Classical.axiomOfChoice (r := fun (i : Fin len) (x : VIntS) => ∃ h : Hd, W.cell? ((⟨b, o, none⟩ : Addr).add i.1) = some (.slice h.a h.n h.c) ∧ IsInts W h.a h.n h.c x) (fun i => each i.1 i.2)
      refine ⟨(List.finRange len).map f, by simp, hl, hm, .inr ⟨b, o, rfl, ?_, fun k x hx => ?_⟩⟩
      · rw [add_plain] at h1
        exact World.lt_of_cell h1
      · obtain ⟨hk, e2⟩ := List.getElem?_eq_some_iff.1 hx
        have hk' : k < len := by simpa using hk
        simp at e2
        subst e2
        obtain ⟨h, h2, h3⟩ := hf ⟨k, hk'⟩
        rw [add_plain] at h2
        exact ⟨h, h2, h3⟩
def cellsIntS (ps : List PIntS) : List Value := ps.flatMap PIntS.vals
theorem cellsIntS_len (ps : List PIntS) : (cellsIntS ps).length = ps.length := by
  induction ps with
  | nil => rfl
  | cons x l ih => simp [cellsIntS, PIntS.vals_len] at *; omega
theorem cellsIntS_append (xs ys : List PIntS) : cellsIntS (xs ++ ys) = cellsIntS xs ++ cellsIntS ys := by simp [cellsIntS]
theorem cellsIntS_snoc (xs : List PIntS) (s : PIntS) : cellsIntS (xs ++ [s]) = cellsIntS xs ++ s.vals := by simp [cellsIntS]
theorem cellsIntS_at {xs : List PIntS} {k : Nat} {s : PIntS} (h : xs[k]? = some s) (j : Nat) (hj : j < 1) : (cellsIntS xs)[k + j]? = s.vals[j]? := by
  have hk : k < xs.length := (List.getElem?_eq_some_iff.1 h).1
  have e : xs = xs.take k ++ s :: xs.drop (k + 1) := by
    have h2 := List.take_append_drop k xs
    rw [List.drop_eq_getElem_cons hk] at h2
    have : xs[k] = s := by rw [List.getElem?_eq_getElem hk] at h; simpa using h
    rw [this] at h2; exact h2.symm
  have hl : (cellsIntS (xs.take k)).length = k := by rw [cellsIntS_len, List.length_take]; omega
  rw [e, show cellsIntS (xs.take k ++ s :: xs.drop (k + 1)) = cellsIntS (xs.take k) ++ (s.vals ++ cellsIntS (xs.drop (k + 1))) from by simp [cellsIntS], List.getElem?_append_right (by omega), hl, show k + j - k = j from by omega, List.getElem?_append_left (by rw [PIntS.vals_len]; exact hj)]
theorem cellsIntS_drop (xs : List PIntS) (i : Nat) : (cellsIntS xs).drop (i) = cellsIntS (xs.drop i) := by
  by_cases h : i ≤ xs.length
  · have e : cellsIntS xs = cellsIntS (xs.take i) ++ cellsIntS (xs.drop i) := by
      unfold cellsIntS
      rw [← List.flatMap_append, List.take_append_drop]
    have hl : (cellsIntS (xs.take i)).length = i := by rw [cellsIntS_len, List.length_take]; omega
    rw [e, List.drop_append_of_le_length (by omega), List.drop_of_length_le (by omega), List.nil_append]
  · rw [List.drop_of_length_le (show xs.length ≤ i by omega), List.drop_of_length_le (by rw [cellsIntS_len]; omega)]; rfl
theorem cellsIntS_take (xs : List PIntS) (i : Nat) : cellsIntS xs = cellsIntS (xs.take i) ++ (cellsIntS xs).drop (i) := by
  rw [cellsIntS_drop]
  unfold cellsIntS
  rw [← List.flatMap_append, List.take_append_drop]
theorem cellsIntS_set (xs : List PIntS) (i : Nat) (r : PIntS) (h : i < xs.length) : cellsIntS (xs.set i r) = cellsIntS (xs.take i) ++ (r.vals ++ (cellsIntS xs).drop (i + 1)) := by
  rw [List.set_eq_take_append_cons_drop, if_pos h, show i + 1 = (i + 1) by omega, cellsIntS_drop]
  simp [cellsIntS]
theorem one_IntS (xs : List PIntS) : ∀ u ∈ cellsIntS xs, u.oneCell' = true := by
  intro u hu
  obtain ⟨s, _, hs⟩ := List.mem_flatMap.1 hu
  exact s.vals_one u hs
theorem infoIntS : (Try.prog.info? 38).map (fun i => (i.zero, i.size, i.bytes)) = some (some (.slice none 0 0), 1, 24) := by kernel_rfl
def zerosIntS (n : Nat) : List Value := (List.replicate n [.slice none 0 0]).flatten
theorem zerosIntS_succ (n : Nat) : zerosIntS (n + 1) = .slice none 0 0 :: zerosIntS n := by
  unfold zerosIntS; rw [List.replicate_succ]; rfl
theorem zerosIntS_len (n : Nat) : (zerosIntS n).length = n := by
  induction n with
  | zero => rfl
  | succ n ih => rw [zerosIntS_succ]; simp [ih]
theorem zerosIntS_at (n j : Nat) (h : j < n) : (zerosIntS n)[j]? = [.slice none 0 0][j % 1]? := by
  induction n generalizing j with
  | zero => omega
  | succ n ih =>
    rw [zerosIntS_succ]
    by_cases hj : j < 1
    · rw [Nat.mod_eq_of_lt hj]
      rcases (show j = 0 by omega) with rfl <;> rfl
    · obtain ⟨i, rfl⟩ : ∃ i, j = i + 1 := ⟨j - 1, by omega⟩
      rw [Nat.add_mod_right, ← ih i (by omega)]
      rfl
theorem madeIntS (n : Nat) : (madeCells (.slice none 0 0 : Value).cells (n)).toList = zerosIntS n := by
  apply List.ext_getElem?
  intro j
  rw [Array.getElem?_toList]
  by_cases h : j < n
  · rw [zerosIntS_at n j h]
    have hm : j % 1 < 1 := Nat.mod_lt _ (by decide)
    simp only [madeCells, Value.cells]
    rw [Array.getElem?_eq_getElem (by simpa using h)]
    rcases (show j % 1 = 0 by omega) with e <;> simp [e]
  · rw [List.getElem?_eq_none (by rw [zerosIntS_len]; omega)]
    simp [madeCells, h]
theorem setIntS (A L : List Value) (v0 : Value) (o : Nat) (hA : A.length = o) (hL : o + 1 ≤ L.length) :
    ((A ++ L.drop o).set (o) v0) = A ++ v0 :: L.drop (o + 1) := by
  subst hA
  obtain ⟨a0, e⟩ : ∃ a0, L.drop A.length = a0 :: L.drop (A.length + 1) := ⟨_, by rw [List.drop_eq_getElem_cons (show A.length < L.length by omega)]⟩
  rw [e]
  generalize L.drop (A.length + 1) = D
  simp [List.set_append_right]
theorem storedIntS {w : World} {base n c g o : Nat} {e : TypeId} {size : Nat} {A L : List Value} (h : w.ownsRow base e size (.slice (some ⟨g, 0, none⟩) n c) n (A ++ L.drop o)) (hA : A.length = o) (hL : o + 1 ≤ L.length) (v0 : Value) :
    (w.setCell ⟨g, o, none⟩ v0).ownsRow base e size (.slice (some ⟨g, 0, none⟩) n c) n (A ++ v0 :: L.drop (o + 1)) ∧ w.grownBy (w.setCell ⟨g, o, none⟩ v0) (some g) := by
  have h0 := h.stored (o) v0
  refine ⟨?_, h0.2⟩
  have := h0.1
  rw [setIntS A L v0 o hA hL] at this
  exact this
/-- The slices inside: each owned, in blocks of their own, none in the block g0 of the row itself. -/
def InnerIntS (lo hi : Nat) (w : World) (g0 : Option Nat) (ps : List PIntS) : Prop :=
  (∀ (k : Nat) p, ps[k]? = some p → HInts lo hi w p.h p.x) ∧ (∀ (k : Nat) p b, ps[k]? = some p → p.h.blk = some b → g0 ≠ some b) ∧
  (∀ (i j : Nat) p q b, i ≠ j → ps[i]? = some p → ps[j]? = some q → p.h.blk = some b → q.h.blk ≠ some b)
/-- A row of the call's own in lo .. hi, the slices inside too. -/
def RawIntS (lo hi : Nat) (w : World) (v : Value) (ps : List PIntS) : Prop := OwnIn lo hi w 38 1 v ps.length (cellsIntS ps) ∧ InnerIntS lo hi w v.ownBlock ps
def OwnIntSS (lo hi : Nat) (w : World) (v : Value) (xs : List VIntS) : Prop := ∃ ps : List PIntS, ps.map PIntS.x = xs ∧ RawIntS lo hi w v ps
section
variable {lo hi lo' hi' : Nat} {w w' : World} {v : Value} {g0 : Option Nat} {ps : List PIntS} {xs : List VIntS}
theorem nil_InnerIntS (lo hi : Nat) (w : World) (g0 : Option Nat) : InnerIntS lo hi w g0 [] := ⟨fun k p h => by simp at h, fun k p b h => by simp at h, fun i j p q b _ h => by simp at h⟩
theorem InnerIntS.keep (h : InnerIntS lo hi w g0 ps) (hk : ∀ b, lo ≤ b → b < hi → b < w.heap.size → g0 ≠ some b → w'.heap[b]? = w.heap[b]?) : InnerIntS lo hi w' g0 ps :=
  ⟨fun k p hp => (h.1 k p hp).keep fun b hb => by
    have := (h.1 k p hp).lt hb
    exact hk b this.1 this.2.1 this.2.2 (h.2.1 k p b hp hb), h.2.1, h.2.2⟩
theorem InnerIntS.mono (h : InnerIntS lo hi w g0 ps) (h1 : lo' ≤ lo) (h2 : hi ≤ hi') : InnerIntS lo' hi' w g0 ps := ⟨fun k p hp => (h.1 k p hp).mono h1 h2, h.2.1, h.2.2⟩
theorem InnerIntS.below (h : InnerIntS lo hi w g0 ps) (hb : Below w.heap.size w w') : InnerIntS lo hi w' g0 ps := h.keep fun b _ _ hs _ => hb.block b hs
theorem InnerIntS.grown (h : InnerIntS lo hi w g0 ps) (hg : w.grownBy w' g0) : InnerIntS lo hi w' g0 ps := h.keep fun b _ _ hs hne => hg.block b hs (fun e => hne e.symm)
/-- One more, its slice in newer memory. -/
theorem InnerIntS.snoc (h : InnerIntS lo hi w g0 ps) {p : PIntS} (hp : HInts hi hi' w p.h p.x) (hl : lo ≤ hi) (hh : hi ≤ hi') (hg : ∀ b, g0 = some b → b < hi) : InnerIntS lo hi' w g0 (ps ++ [p]) := by
  have old : ∀ k q, k < ps.length → (ps ++ [p])[k]? = some q → ps[k]? = some q := fun k q hk hq => by rwa [List.getElem?_append_left hk] at hq
  have new : ∀ k q, ¬ k < ps.length → (ps ++ [p])[k]? = some q → k = ps.length ∧ q = p := fun k q hk hq => by
    have hl := (List.getElem?_eq_some_iff.1 hq).1
    rw [List.length_append, List.length_singleton] at hl
    have e : k = ps.length := by omega
    subst e
    simp at hq
    exact ⟨rfl, hq.symm⟩
  refine ⟨fun k q hq => ?_, fun k q b hq hb => ?_, fun i j q r b hij hq hr hb hc => ?_⟩
  · by_cases hk : k < ps.length
    · exact (h.1 k q (old k q hk hq)).mono (Nat.le_refl _) hh
    · obtain ⟨_, rfl⟩ := new k q hk hq
      exact hp.mono hl (Nat.le_refl _)
  · by_cases hk : k < ps.length
    · exact h.2.1 k q b (old k q hk hq) hb
    · obtain ⟨_, rfl⟩ := new k q hk hq
      intro e
      have := hg b e
      have := (hp.lt hb).1
      omega
  · by_cases hi : i < ps.length
    · by_cases hj : j < ps.length
      · exact h.2.2 i j q r b hij (old i q hi hq) (old j r hj hr) hb hc
      · obtain ⟨_, rfl⟩ := new j r hj hr
        have := ((h.1 i q (old i q hi hq)).lt hb).2.1
        have := (hp.lt hc).1
        omega
    · obtain ⟨ei, rfl⟩ := new i q hi hq
      by_cases hj : j < ps.length
      · have := ((h.1 j r (old j r hj hr)).lt hc).2.1
        have := (hp.lt hb).1
        omega
      · obtain ⟨ej, _⟩ := new j r hj hr
        omega
/-- One replaced: its slice as it lay, or in newer memory. -/
theorem InnerIntS.set (h : InnerIntS lo hi w g0 ps) {k : Nat} {p q : PIntS} (hp : ps[k]? = some p) (hq : HInts lo hi' w q.h q.x) (hh : hi ≤ hi') (hn : ∀ b, q.h.blk = some b → p.h.blk = some b ∨ (hi ≤ b ∧ ∀ b', g0 = some b' → b' < hi)) : InnerIntS lo hi' w g0 (ps.set k q) := by
  have hkl := (List.getElem?_eq_some_iff.1 hp).1
  have get : ∀ i r, (ps.set k q)[i]? = some r → (i = k ∧ r = q) ∨ (i ≠ k ∧ ps[i]? = some r) := fun i r hr => by
    by_cases e : i = k
    · subst e; rw [List.getElem?_set_self hkl] at hr; exact .inl ⟨rfl, (Option.some.inj hr).symm⟩
    · rw [List.getElem?_set_ne (Ne.symm e)] at hr; exact .inr ⟨e, hr⟩
  refine ⟨fun i r hr => ?_, fun i r b hr hb => ?_, fun i j r s b hij hr hs hb hc => ?_⟩
  · rcases get i r hr with ⟨_, rfl⟩ | ⟨_, hr⟩
    · exact hq
    · exact (h.1 i r hr).mono (Nat.le_refl _) hh
  · rcases get i r hr with ⟨_, rfl⟩ | ⟨_, hr⟩
    · rcases hn b hb with h1 | ⟨h1, h2⟩
      · exact h.2.1 k p b hp h1
      · intro e; have := h2 b e; omega
    · exact h.2.1 i r b hr hb
  · rcases get i r hr with ⟨ei, e1⟩ | ⟨ei, hr2⟩
    · rw [e1] at hb
      rcases get j s hs with ⟨ej, _⟩ | ⟨ej, hs2⟩
      · omega
      · rcases hn b hb with h1 | ⟨h1, _⟩
        · exact h.2.2 k j p s b (Ne.symm ej) hp hs2 h1 hc
        · have := ((h.1 j s hs2).lt hc).2.1; omega
    · rcases get j s hs with ⟨ej, e2⟩ | ⟨ej, hs2⟩
      · rw [e2] at hc
        rcases hn b hc with h1 | ⟨h1, _⟩
        · exact h.2.2 i k r p b ei hr2 hp hb h1
        · have := ((h.1 i r hr2).lt hb).2.1; omega
      · exact h.2.2 i j r s b hij hr2 hs2 hb hc
theorem RawIntS.keep (h : RawIntS lo hi w v ps) (hk : ∀ b, lo ≤ b → b < hi → b < w.heap.size → w'.heap[b]? = w.heap[b]?) : RawIntS lo hi w' v ps :=
  ⟨h.1.keep fun b hb => by have := h.1.lt hb; exact hk b this.1 this.2.1 this.2.2, h.2.keep fun b h1 h2 h3 _ => hk b h1 h2 h3⟩
theorem OwnIntSS.keep (h : OwnIntSS lo hi w v xs) (hk : ∀ b, lo ≤ b → b < hi → b < w.heap.size → w'.heap[b]? = w.heap[b]?) : OwnIntSS lo hi w' v xs := by
  obtain ⟨ps, e, h⟩ := h
  exact ⟨ps, e, h.keep hk⟩
theorem OwnIntSS.below (h : OwnIntSS lo hi w v xs) (hb : Below w.heap.size w w') : OwnIntSS lo hi w' v xs := h.keep fun b _ _ hs => hb.block b hs
theorem OwnIntSS.turned (h : OwnIntSS lo hi w v xs) (t : Turned lo' hi' w w') (hd : hi ≤ lo' ∨ hi' ≤ lo) : OwnIntSS lo hi w' v xs := h.keep fun b h1 h2 hs => t.block b hs (by omega)
theorem RawIntS.mono (h : RawIntS lo hi w v ps) (h1 : lo' ≤ lo) (h2 : hi ≤ hi') : RawIntS lo' hi' w v ps := ⟨h.1.mono h1 h2, h.2.mono h1 h2⟩
theorem OwnIntSS.mono (h : OwnIntSS lo hi w v xs) (h1 : lo' ≤ lo) (h2 : hi ≤ hi') : OwnIntSS lo' hi' w v xs := by
  obtain ⟨ps, e, h⟩ := h
  exact ⟨ps, e, h.mono h1 h2⟩
theorem nil_OwnIntSS (lo hi : Nat) (w : World) : OwnIntSS lo hi w (.slice none 0 0) [] := ⟨[], rfl, ⟨⟨by simp [cellsIntS], .inl ⟨rfl, rfl⟩⟩, fun b h => by cases h⟩, nil_InnerIntS _ _ _ _⟩
theorem OwnIntSS.form (h : OwnIntSS lo hi w v xs) : ∃ a c, v = .slice a xs.length c := by
  obtain ⟨ps, e, h⟩ := h
  have el : ps.length = xs.length := by rw [← e, List.length_map]
  rcases h.1.1.2 with ⟨rfl, h0⟩ | ⟨g, cap, cur, rfl, _⟩
  · exact ⟨none, 0, by rw [← el, h0]⟩
  · exact ⟨_, cap, by rw [← el]⟩
/-- An owned row's element as it lies. -/
theorem RawIntS.elem {g n c : Nat} (h : RawIntS lo hi w (.slice (some ⟨g, 0, none⟩) n c) ps) {k : Nat} {p : PIntS} (hp : ps[k]? = some p) : IntSAt w g (k) p.x p.h := by
  have each : ∀ j u, j < 1 → p.vals[j]? = some u → w.cell? ⟨g, k + j, none⟩ = some u := fun j u hj hu => by
    have hc := h.1.1.cells (g := g) rfl (k + j) u ((cellsIntS_at hp j hj).trans hu)
    rw [add_plain, Nat.zero_add] at hc; exact hc
  exact ⟨each 0 _ (by decide) rfl, (h.2.1 k p hp).is.1⟩
theorem RawIntS.len {a : Option Addr} {n c : Nat} (h : RawIntS lo hi w (.slice a n c) ps) : n = ps.length ∧ n ≤ c ∧ c ≤ maxLen := by
  rcases h.1.1.2 with ⟨e, h0⟩ | ⟨g, cap, cur, e, _, _, h1, h2, _⟩
  · cases e; exact ⟨h0.symm, Nat.le_refl _, by simp [maxLen]⟩
  · cases e; exact ⟨rfl, h1, h2⟩
theorem RawIntS.row {g n c : Nat} (h : RawIntS lo hi w (.slice (some ⟨g, 0, none⟩) n c) ps) : w.ownsRow lo 38 1 (.slice (some ⟨g, 0, none⟩) n c) n (cellsIntS ps) := by
  have := h.1.1
  rw [← h.len.1] at this
  exact this
theorem RawIntS.free {g n c : Nat} (h : RawIntS lo hi w (.slice (some ⟨g, 0, none⟩) n c) ps) (j : Nat) : w.frozen? ⟨g, j, none⟩ = false := h.row.frozenAt j
theorem RawIntS.is {a : Option Addr} {n c : Nat} (h : RawIntS lo hi w (.slice a n c) ps) : IsIntSS w a n c (ps.map PIntS.x) := by
  have hl := h.len
  refine ⟨by rw [List.length_map]; exact hl.1, hl.2.1, hl.2.2, ?_⟩
  rcases h.1.1.2 with ⟨e, h0⟩ | ⟨g, cap, cur, e, _, _, h1, h2, _⟩
  · exact .inl (by omega)
  · cases e
    refine .inr ⟨g, 0, rfl, (h.1.lt rfl).2.2, fun k x hx => ?_⟩
    rw [List.getElem?_map] at hx
    cases hp : ps[k]? with
    | none => rw [hp] at hx; cases hx
    | some p =>
      rw [hp] at hx
      cases hx
      exact ⟨p.h, by simpa using h.elem hp⟩
theorem OwnIntSS.is {a : Option Addr} {n c : Nat} (h : OwnIntSS lo hi w (.slice a n c) xs) : IsIntSS w a n c xs := by
  obtain ⟨ps, rfl, h⟩ := h
  exact h.is
/-- A slice's elements with their parts, as the source of an append. -/
theorem IsIntSS.src {a : Option Addr} {n c : Nat} (h : IsIntSS w a n c xs) : ∃ ps : List PIntS, ps.map PIntS.x = xs ∧ SrcAt w a n 1 (cellsIntS ps) ∧ ∀ (k : Nat) p, ps[k]? = some p → IsInts w p.h.a p.h.n p.h.c p.x := by
  by_cases h0 : n = 0
  · have : xs = [] := List.length_eq_zero_iff.1 (by rw [← h.1, h0])
    subst this
    exact ⟨[], rfl, ⟨by simp [cellsIntS, h0], .inl h0⟩, fun k p hp => by simp at hp⟩
  · obtain ⟨b, o, e, hb, hat⟩ := h.at (by omega)
    have each : ∀ i : Fin xs.length, ∃ hd : Hd, IntSAt w b (o + i.1) xs[i.1] hd := fun i => hat i.1 _ (List.getElem?_eq_getElem i.2)
    obtain ⟨pick, hpick⟩ := Classical.axiomOfChoice each
    refine ⟨(List.finRange xs.length).map fun i => ⟨xs[i.1], pick i⟩, ?_, ⟨?_, .inr ⟨_, e, fun j u hj => ?_⟩⟩, fun k p hp => ?_⟩
    · apply List.ext_getElem
      · simp
      · intro i h1 h2; simp
    · rw [cellsIntS_len, List.length_map, List.length_finRange, h.1, Nat.mul_one]
    · rw [add_plain]
      have hl := (List.getElem?_eq_some_iff.1 hj).1
      rw [cellsIntS_len, List.length_map, List.length_finRange] at hl
      obtain ⟨k, r, rfl, hr⟩ : ∃ k r, j = k + r ∧ r < 1 := ⟨j / 1, j % 1, by omega, Nat.mod_lt _ (by decide)⟩
      have hk : k < xs.length := by omega
      have hs : ((List.finRange xs.length).map fun i => (⟨xs[i.1], pick i⟩ : PIntS))[k]? = some ⟨xs[k], pick ⟨k, hk⟩⟩ := by simp [hk]
      have hu := cellsIntS_at hs r hr
      rw [hj] at hu
      have ha := hpick ⟨k, hk⟩
      rw [← Nat.add_assoc]
      rcases (show r = 0 by omega) with rfl
      · rw [hu]; exact ha.1
    · obtain ⟨hk, e2⟩ := List.getElem?_eq_some_iff.1 hp
      have hk' : k < xs.length := by simpa using hk
      simp at e2
      subst e2
      exact (hpick ⟨k, hk'⟩).2
end
theorem set_sliceIntS (ps : List PIntS) (k : Nat) (p : PIntS) (hp : ps[k]? = some p) (zs : List Int) (h' : Hd) : (cellsIntS ps).set (k ) (.slice h'.a h'.n h'.c) = cellsIntS (ps.set k ⟨zs, h'⟩) := by
  have hk := (List.getElem?_eq_some_iff.1 hp).1
  rw [cellsIntS_set ps k _ hk]
  have e : cellsIntS ps = cellsIntS (ps.take k) ++ (p.vals ++ (cellsIntS ps).drop (k + 1)) := by
    have h1 := cellsIntS_set ps k p hk
    rw [show ps.set k p = ps from by
      apply List.ext_getElem?
      intro j
      by_cases e : j = k
      · subst e; rw [List.getElem?_set_self hk, hp]
      · rw [List.getElem?_set_ne (Ne.symm e)]] at h1
    exact h1
  have hl : (cellsIntS (ps.take k)).length = k := by rw [cellsIntS_len, List.length_take]; omega
  generalize (cellsIntS ps).drop (k + 1) = D at e ⊢
  rw [e, List.set_append_right _ _ (by rw [hl]; exact Nat.le_refl _), hl, Nat.sub_self]
  simp [PIntS.vals]
/-- Another slice in the place of an element's. -/
theorem RawIntS.setSlice {lo hi hi' : Nat} {w : World} {g n c : Nat} {ps : List PIntS} (h : RawIntS lo hi w (.slice (some ⟨g, 0, none⟩) n c) ps) {k : Nat} {p : PIntS} (hp : ps[k]? = some p) {h' : Hd} {zs : List Int} (H : HInts lo hi' w h' zs) (hh : hi ≤ hi') (hn : ∀ b, h'.blk = some b → p.h.blk = some b ∨ hi ≤ b) :
    RawIntS lo hi' (w.setCell ⟨g, k , none⟩ (.slice h'.a h'.n h'.c)) (.slice (some ⟨g, 0, none⟩) n c) (ps.set k ⟨zs, h'⟩) ∧ w.grownBy (w.setCell ⟨g, k , none⟩ (.slice h'.a h'.n h'.c)) (some g) := by
  obtain ⟨rfl, _, _⟩ := h.len
  have s0 := h.1.1.stored (k ) (.slice h'.a h'.n h'.c)
  have G := s0.2
  have hg : g < hi := (h.1.lt rfl).2.1
  have H2 : HInts lo hi' (w.setCell ⟨g, k , none⟩ (.slice h'.a h'.n h'.c)) h' zs := H.keep fun b hb => G.block b (H.lt hb).2.2 (fun e => by
    cases e
    rcases hn g hb with h1 | h1
    · exact h.2.2.1 k p g hp h1 rfl
    · omega)
  refine ⟨⟨⟨?_, fun b hb => Nat.lt_of_lt_of_le (h.1.2 b hb) hh⟩, ?_⟩, G⟩
  · have h1 := s0.1
    rw [set_sliceIntS ps k p hp zs h'] at h1
    rw [List.length_set]
    exact h1
  · exact (h.2.grown G).set hp H2 hh (fun b hb => (hn b hb).imp id fun h1 => ⟨h1, fun b' e => by cases e; exact hg⟩)
/-- What an element's slice holds has turned; nothing else has. -/
theorem RawIntS.inner {lo hi : Nat} {w w' : World} {v : Value} {ps : List PIntS} (h : RawIntS lo hi w v ps) {k : Nat} {p : PIntS} (hp : ps[k]? = some p) {zs : List Int} (hl : zs.length = p.x.length) (hz : w'.ownsRow lo 3 1 (.slice p.h.a p.h.n p.h.c) p.x.length (intCells zs)) (hg : w.grownBy w' p.h.blk) :
    RawIntS lo hi w' v (ps.set k ⟨zs, p.h⟩) := by
  have hk := (List.getElem?_eq_some_iff.1 hp).1
  have hI := h.2.1 k p hp
  have H2 : HInts lo hi w' p.h zs := ⟨by rw [hl]; exact hz, hI.2⟩
  have O2 : OwnIn lo hi w' 38 1 v ps.length (cellsIntS ps) := h.1.keep fun b hb => hg.block b (h.1.lt hb).2.2 (fun e => h.2.2.1 k p b hp e.symm hb)
  refine ⟨?_, ?_⟩
  · rw [List.length_set, show cellsIntS (ps.set k ⟨zs, p.h⟩) = cellsIntS ps from by
      have h1 := cellsIntS_set ps k p hk
      rw [show ps.set k p = ps from by
        apply List.ext_getElem?
        intro j
        by_cases e : j = k
        · subst e; rw [List.getElem?_set_self hk, hp]
        · rw [List.getElem?_set_ne (Ne.symm e)]] at h1
      exact (cellsIntS_set ps k ⟨zs, p.h⟩ hk).trans h1.symm]
    exact O2
  · have get : ∀ i r, (ps.set k ⟨zs, p.h⟩)[i]? = some r → (i = k ∧ r = ⟨zs, p.h⟩) ∨ (i ≠ k ∧ ps[i]? = some r) := fun i r hr => by
      by_cases e : i = k
      · subst e; rw [List.getElem?_set_self hk] at hr; exact .inl ⟨rfl, (Option.some.inj hr).symm⟩
      · rw [List.getElem?_set_ne (Ne.symm e)] at hr; exact .inr ⟨e, hr⟩
    refine ⟨fun i r hr => ?_, fun i r b hr hb => ?_, fun i j r s b hij hr hs hb hc => ?_⟩
    · rcases get i r hr with ⟨_, rfl⟩ | ⟨ei, hr⟩
      · exact H2
      · exact (h.2.1 i r hr).keep fun b hb => hg.block b ((h.2.1 i r hr).lt hb).2.2 (fun e => h.2.2.2 i k r p b ei hr hp hb e.symm)
    · rcases get i r hr with ⟨_, rfl⟩ | ⟨_, hr⟩
      · exact h.2.2.1 k p b hp hb
      · exact h.2.2.1 i r b hr hb
    · rcases get i r hr with ⟨ei, rfl⟩ | ⟨ei, hr⟩
      · rcases get j s hs with ⟨ej, _⟩ | ⟨ej, hs⟩
        · omega
        · exact h.2.2.2 k j p s b (Ne.symm ej) hp hs hb hc
      · rcases get j s hs with ⟨ej, rfl⟩ | ⟨ej, hs⟩
        · exact h.2.2.2 i k r p b ei hr hp hb hc
        · exact h.2.2.2 i j r s b hij hr hs hb hc
end Go.Proofs.Ytodjgeffkfbpiaa
namespace Go.Proofs.Ytodjgeffkfbpiaa
open Go.RowKit

def OwnIntS (lo hi : Nat) (w : World) (v : Value) (xs : List Int) : Prop := OwnIn lo hi w 3 1 v xs.length (intCells xs)
section
variable {lo hi lo' hi' : Nat} {w w' : World} {v : Value} {xs : List Int}
theorem OwnIntS.form (h : OwnIntS lo hi w v xs) : ∃ a c, v = .slice a xs.length c := by
  obtain ⟨a, c, e, _⟩ := isInts_ownIn h
  exact ⟨a, c, e⟩
theorem OwnIntS.is {a : Option Addr} {n c : Nat} (h : OwnIntS lo hi w (.slice a n c) xs) : IsInts w a n c xs := by
  obtain ⟨a', c', e, hi⟩ := isInts_ownIn h
  simp only [Value.slice.injEq] at e
  obtain ⟨rfl, rfl, rfl⟩ := e
  exact hi
theorem OwnIntS.below (h : OwnIntS lo hi w v xs) (hb : Below w.heap.size w w') : OwnIntS lo hi w' v xs := OwnIn.below h hb
theorem OwnIntS.turned (h : OwnIntS lo hi w v xs) (t : Turned lo' hi' w w') (hd : hi ≤ lo' ∨ hi' ≤ lo) : OwnIntS lo hi w' v xs := OwnIn.turned h t hd
theorem OwnIntS.mono (h : OwnIntS lo hi w v xs) (h1 : lo' ≤ lo) (h2 : hi ≤ hi') : OwnIntS lo' hi' w v xs := OwnIn.mono h h1 h2
theorem nil_OwnIntS (lo hi : Nat) (w : World) : OwnIntS lo hi w (.slice none 0 0) [] := ⟨⟨by simp [intCells], .inl ⟨rfl, rfl⟩⟩, fun b h => by cases h⟩
end
def condInt (xs : List Int) : Prop := xs.length ≤ 1048576
def cntInt (xs : List Int) : Nat := xs.length
def mkInt (k : Nat) (xs : List Int) : List Int := marksI k xs.length
theorem cntInt_cond {xs : List Int} (h : condInt xs) : cntInt xs ≤ 10000000 := Nat.le_trans h (by decide)
/-- A row of the call's own, by its parts, and the world below as it was. -/
def HPost (xs : List Int) (w : World) (e : Ending) (w' : World) : Prop := ∃ h : Hd, e = .returned (.slice h.a h.n h.c) ∧ HInts w.heap.size w'.heap.size w' h xs ∧ Below w.heap.size w w'
set_option maxHeartbeats 3200000 in
set_option maxRecDepth 100000 in
theorem toIntS_h (a : Option Addr) (len cap : Nat) (xs : List Int) (w : World) (h : IsInts w a len cap xs) (hsz : xs.length ≤ 1048576) :
    Calls Try.prog 80 #[.slice a len cap] w (HPost xs w) := by
  obtain rfl := h.1
  obtain ⟨i0, hi, hz0, hz1, hz2⟩ := info_parts infoInt
  have S := Lib.hid h
  clear h
  go_enter Try.func80, Try.ntmps80
  go_wp2_with (refine wpList_make_full _ rfl _ _ 38 rfl w.heap.size 3 i0 (.int .i64 0) 1 Try.underlying38 hi hz0 hz1 .i64 .i64 _ _ xs.length rfl rfl rfl rfl (by rw [hz2]; omega) (by unfold maxLen; omega) (Nat.le_refl _) ?_; intro w1 hown hgrow)
  have hb1 : Below w.heap.size w w1 := (Below.refl _ _).grown hgrow (Nat.le_refl _) (fun k e => by cases e)
  have hg1 := (hown.lt w.heap.size rfl).2
  have H1 := Lib.hid hown
  clear hown hgrow
  go_loopw [4] (fun i wr => ∃ (k : Nat) (D : List Value), k ≤ xs.length ∧ D.length = xs.length - k ∧ i = .int .i64 k ∧ Below w.heap.size w wr ∧ wr.ownsRow w.heap.size 3 1 (.slice (some ⟨w.heap.size, 0, none⟩) xs.length xs.length) xs.length (intCells (xs.take k) ++ D)) (fun i _ => xs.length - (intOf i).toNat)
  case atStart => exact ⟨0, (madeCells (Value.int .i64 0).cells (xs.length * 1)).toList, Nat.zero_le _, by have := H1.out.1; omega, rfl, hb1, by simpa [intCells] using H1.out⟩
  case round =>
    obtain ⟨k, D, hk, hD, rfl, hbel, hown⟩ := hrel
    have O := Lib.hid hown
    have B := Lib.hid hbel
    by_cases hlt : k < xs.length
    · obtain ⟨z, hz⟩ : ∃ z, xs[k]? = some z := ⟨xs[k]'hlt, List.getElem?_eq_getElem _⟩
      obtain ⟨b, o, rfl, hb, hat⟩ := (S.out.below hbel).at (by omega)
      have c0 := hat k z hz
      have Z := Lib.hid hz
      have HD := Lib.hid hD
      have hm := S.out.2.2.1
      unfold maxLen at hm
      have f0 := O.out.frozenAt k
      obtain ⟨u0, d0⟩ := own_cell O.out k (by rw [List.length_append, intCells_len, List.length_take]; omega)
      clear hbel hown hz hat hD
      go_wp2
      go_roundw
      case rel =>
        have h5 := O.out.stored k (.int .i64 z)
        refine ⟨k + 1, D.tail, by omega, by rw [List.length_tail, HD.out]; omega, by go_num, B.out.grown h5.2 B.out.size (fun j e => by cases e; exact Nat.le_refl _), ?_⟩
        have hl : (intCells (xs.take k)).length = k := by rw [intCells_len, List.length_take]; omega
        have h6 := h5.1
        obtain ⟨d, D', rfl⟩ : ∃ d D', D = d :: D' := by
          cases D with
          | nil => have := HD.out; simp at this; omega
          | cons d D' => exact ⟨d, D', rfl⟩
        rw [List.set_append_right _ _ (by omega), hl, Nat.sub_self, List.set_cons_zero] at h6
        rw [List.take_add_one, Z.out, show (some z).toList = [z] from rfl, intCells_snoc, List.append_assoc]
        exact h6
      case measure => simp [intOf]; omega
    · obtain rfl : k = xs.length := by omega
      have hD0 : D = [] := List.length_eq_zero_iff.1 (by omega)
      subst hD0
      clear hown hbel hD
      have hm := S.out.2.2.1
      unfold maxLen at hm
      go_wp2
      go_ret
      refine ⟨⟨some ⟨w.heap.size, 0, none⟩, xs.length, xs.length⟩, rfl, ?_, B.out⟩
      have h := O.out
      rw [List.append_nil, List.take_of_length_le (Nat.le_refl _)] at h
      exact OwnIn.of_row h (Nat.le_refl _) (Nat.le_refl _)
/-- What one row's marks leave. -/
def IntSMarked (lo hi : Nat) (v : Value) (xs : List Int) (k : Nat) (w : World) (e : Ending) (w' : World) : Prop := e = .returned (.int .i64 ((k + cntInt xs : Nat) : Int)) ∧ OwnIntS lo hi w' v (mkInt k xs) ∧ Turned lo hi w w'
theorem markIntS_o (lo hi : Nat) (v : Value) (xs : List Int) (k : Nat) (w : World) (h : OwnIntS lo hi w v xs) (hk : k + cntInt xs ≤ 100000000) :
    Calls Try.prog 83 #[v, .int .i64 (k : Int)] w (IntSMarked lo hi v xs k w) :=
  (markIntS_any lo v xs.length k (intCells xs) w h.1 (by unfold cntInt at hk; omega) (by unfold cntInt at hk; omega)).mono fun e w' ⟨h1, h2, h3⟩ =>
    ⟨h1, ⟨by unfold mkInt; rw [marksI_len]; exact h2, h.2⟩, Turned.of_grown h3 fun b hb => ⟨(h.lt hb).1, (h.lt hb).2.1⟩⟩
theorem heldIntS_o (a : Option Addr) (n c : Nat) (xs : List Int) (k : Nat) (w : World) (h : IsInts w a n c (mkInt k xs)) (hk : k + cntInt xs ≤ 100000000) :
    Calls Try.prog 84 #[.slice a n c, .int .i64 (k : Int)] w fun e w' => e = .returned (.int .i64 ((k + cntInt xs : Nat) : Int)) ∧ Below w.heap.size w w' := by
  have e : n = xs.length := by rw [h.1]; unfold mkInt; rw [marksI_len]
  subst e
  exact (heldIntS_any a xs.length c k w h (by unfold cntInt at hk; omega) (by unfold cntInt at hk; omega)).mono fun e w' ⟨h1, h2⟩ => ⟨h1, h2 ▸ Below.refl _ _⟩
set_option maxHeartbeats 400000 in
theorem szIntS_left (a : Option Addr) (len cap : Nat) (xs : List Int) (left : Int) (w : World) (h : IsInts w a len cap xs) (h0 : 0 ≤ left) (h1 : left ≤ 1048576) :
    Calls Try.prog 79 #[.slice a len cap, .int .i64 left] w fun e w' => (∃ z : Int, e = .returned (.int .i64 z) ∧ (z < 0 ∨ (z = left - (xs.length : Int) ∧ 0 ≤ z))) ∧ w = w' := by
  obtain rfl := h.1
  have hl : xs.length ≤ maxLen := Nat.le_trans h.2.1 h.2.2.1
  unfold maxLen at hl
  clear h
  by_cases hlt : left < (xs.length : Int)
  · have hn : left - (xs.length : Int) < 0 := by omega
    go_enter Try.func79, Try.ntmps79
    go_wp2
    go_ret
    exact ⟨⟨-1, rfl, .inl (by omega)⟩, rfl⟩
  · have hn : 0 ≤ left - (xs.length : Int) := by omega
    go_enter Try.func79, Try.ntmps79
    go_wp2
    go_ret
    exact ⟨⟨_, rfl, .inr ⟨rfl, hn⟩⟩, rfl⟩
end Go.Proofs.Ytodjgeffkfbpiaa
namespace Go.Proofs.Ytodjgeffkfbpiaa
open Go.RowKit

def condIntS1 (x : VIntS) : Prop := x.length ≤ 1048576
def sizeIntS : List VIntS → Nat
  | [] => 0
  | x :: l => 1 + x.length + sizeIntS l
theorem sizeIntS_app (a b : List VIntS) : sizeIntS (a ++ b) = sizeIntS a + sizeIntS b := by
  induction a with
  | nil => simp [sizeIntS]
  | cons x l ih => simp [sizeIntS, ih]; omega
def condIntS (xs : List VIntS) : Prop := sizeIntS xs ≤ 1048576
def cntIntS : List VIntS → Nat
  | [] => 0
  | x :: l => x.length + cntIntS l
theorem cntIntS_app (a b : List VIntS) : cntIntS (a ++ b) = cntIntS a + cntIntS b := by
  induction a with
  | nil => simp [cntIntS]
  | cons x l ih => simp [cntIntS, ih]; omega
theorem cntIntS_size (xs : List VIntS) : cntIntS xs ≤ sizeIntS xs := by
  induction xs with
  | nil => simp [cntIntS, sizeIntS]
  | cons x l ih => simp [cntIntS, sizeIntS]; omega
theorem sizeIntS_len (xs : List VIntS) : xs.length ≤ sizeIntS xs := by
  induction xs with
  | nil => simp [sizeIntS]
  | cons x l ih => simp [sizeIntS]; omega
theorem cntIntS_cond {xs : List VIntS} (h : condIntS xs) : cntIntS xs ≤ 1048576 := by
  have := cntIntS_size xs
  unfold condIntS at h
  omega
theorem condIntS_len {xs : List VIntS} (h : condIntS xs) : xs.length ≤ 1048576 := Nat.le_trans (sizeIntS_len xs) h
theorem condIntS_at {xs : List VIntS} (h : condIntS xs) {k : Nat} {x : VIntS} (hx : xs[k]? = some x) : x.length ≤ 1048576 := by
  unfold condIntS at h
  have hk := (List.getElem?_eq_some_iff.1 hx).1
  have e : xs = xs.take k ++ x :: xs.drop (k + 1) := by
    have h2 := List.take_append_drop k xs
    rw [List.drop_eq_getElem_cons hk] at h2
    have : xs[k] = x := by rw [List.getElem?_eq_getElem hk] at hx; simpa using hx
    rw [this] at h2; exact h2.symm
  rw [e, sizeIntS_app] at h
  simp [sizeIntS] at h
  omega
theorem sizeIntS_take {xs : List VIntS} {k : Nat} {x : VIntS} (hx : xs[k]? = some x) : sizeIntS (xs.take (k + 1)) = sizeIntS (xs.take k) + (1 + x.length) := by
  rw [List.take_add_one, hx, sizeIntS_app]
  simp [sizeIntS]
theorem cntIntS_take {xs : List VIntS} {k : Nat} {x : VIntS} (hx : xs[k]? = some x) : cntIntS (xs.take (k + 1)) = cntIntS (xs.take k) + (x.length) := by
  rw [List.take_add_one, hx, cntIntS_app]
  simp [cntIntS]
theorem cntIntS_take_le (xs : List VIntS) (k : Nat) : cntIntS (xs.take k) ≤ cntIntS xs := by
  conv => rhs; rw [← List.take_append_drop k xs, cntIntS_app]
  omega
/-- The marks of one, from k on. -/
def mkIntS1 (k : Nat) (x : VIntS) : VIntS := marksI k x.length
def mkIntS : Nat → List VIntS → List VIntS
  | _, [] => []
  | k, x :: l => mkIntS1 k x :: mkIntS (k + (x.length)) l
theorem mkIntS_app (k : Nat) (a b : List VIntS) : mkIntS k (a ++ b) = mkIntS k a ++ mkIntS (k + cntIntS a) b := by
  induction a generalizing k with
  | nil => simp [mkIntS, cntIntS]
  | cons x l ih =>
    simp only [List.cons_append, mkIntS, ih, cntIntS]
    rw [show k + (x.length) + cntIntS l = k + (x.length + cntIntS l) by omega]
theorem mkIntS_len (k : Nat) (xs : List VIntS) : (mkIntS k xs).length = xs.length := by
  induction xs generalizing k with
  | nil => rfl
  | cons x l ih => simp [mkIntS, ih]
theorem mkIntS_take {xs : List VIntS} {j : Nat} {x : VIntS} (hx : xs[j]? = some x) (k : Nat) : mkIntS k (xs.take (j + 1)) = mkIntS k (xs.take j) ++ [mkIntS1 (k + cntIntS (xs.take j)) x] := by
  rw [List.take_add_one, hx, mkIntS_app]
  rfl
theorem mkIntS_at {xs : List VIntS} {j : Nat} {x : VIntS} (hx : xs[j]? = some x) (k : Nat) : (mkIntS k xs)[j]? = some (mkIntS1 (k + cntIntS (xs.take j)) x) := by
  have hj := (List.getElem?_eq_some_iff.1 hx).1
  have e : xs = xs.take j ++ x :: xs.drop (j + 1) := by
    have h2 := List.take_append_drop j xs
    rw [List.drop_eq_getElem_cons hj] at h2
    have : xs[j] = x := by rw [List.getElem?_eq_getElem hj] at hx; simpa using hx
    rw [this] at h2; exact h2.symm
  have hl : (mkIntS k (xs.take j)).length = j := by rw [mkIntS_len, List.length_take]; omega
  conv => lhs; rw [e, mkIntS_app]
  rw [List.getElem?_append_right (by omega), hl, Nat.sub_self]
  rfl
/-- A copy of one. -/
def IntSPost (x : VIntS) (w : World) (e : Ending) (w' : World) : Prop := ∃ h : Hd, e = .returned (.slice h.a h.n h.c) ∧ HInts w.heap.size w'.heap.size w' h x ∧ Below w.heap.size w w'
def IntSOPost (xs : List VIntS) (w : World) (e : Ending) (w' : World) : Prop := ∃ v, e = .returned v ∧ OwnIntSS w.heap.size w'.heap.size w' v xs ∧ Below w.heap.size w w'
set_option maxHeartbeats 6400000 in
set_option maxRecDepth 100000 in
theorem toIntSS_o (a : Option Addr) (len cap : Nat) (xs : List VIntS) (w : World) (h : IsIntSS w a len cap xs) (hsz : condIntS xs) :
    Calls Try.prog 47 #[.slice a len cap] w (IntSOPost xs w) := by
  obtain rfl := h.1
  obtain ⟨i0, hi, hz0, hz1, hz2⟩ := info_parts infoIntS
  have S := Lib.hid h
  have C := Lib.hid hsz
  have hx := condIntS_len hsz
  clear h hsz
  go_enter Try.func47, Try.ntmps47
  go_wp2_with (refine wpList_make_full _ rfl _ _ 24 rfl w.heap.size 38 i0 (.slice none 0 0) 1 Try.underlying24 hi hz0 hz1 .i64 .i64 _ _ xs.length rfl rfl rfl rfl (by rw [hz2]; omega) (by unfold maxLen; omega) (Nat.le_refl _) ?_; intro w1 hown hgrow)
  have hb1 : Below w.heap.size w w1 := (Below.refl _ _).grown hgrow (Nat.le_refl _) (fun k e => by cases e)
  have H1 := Lib.hid hown
  have hg1 := (hown.lt w.heap.size rfl).2
  clear hown hgrow
  go_loopw [4] (fun i wr => ∃ (k : Nat) (ps : List PIntS), k ≤ xs.length ∧ i = .int .i64 k ∧ ps.map PIntS.x = xs.take k ∧ Below w.heap.size w wr ∧ w.heap.size < wr.heap.size ∧ wr.ownsRow w.heap.size 38 1 (.slice (some ⟨w.heap.size, 0, none⟩) xs.length xs.length) xs.length (cellsIntS ps ++ (zerosIntS xs.length).drop (k)) ∧ InnerIntS w.heap.size wr.heap.size wr (some w.heap.size) ps) (fun i _ => xs.length - (intOf i).toNat)
  case atStart => exact ⟨0, [], Nat.zero_le _, rfl, rfl, hb1, hg1, by have h := H1.out; rw [madeIntS] at h; simpa [cellsIntS] using h, nil_InnerIntS _ _ _ _⟩
  case round =>
    obtain ⟨k, ps, hk, rfl, hps, hbel, hgw, hown, hinn⟩ := hrel
    have O := Lib.hid hown
    have B := Lib.hid hbel
    have N := Lib.hid hinn
    have PS := Lib.hid hps
    have hpl : ps.length = k := by have := congrArg List.length PS.out; rw [List.length_map, List.length_take] at this; omega
    have PL := Lib.hid hpl
    clear hps hinn hpl
    by_cases hlt : k < xs.length
    · obtain ⟨x, hx1⟩ : ∃ x, xs[k]? = some x := ⟨xs[k]'hlt, List.getElem?_eq_getElem _⟩
      obtain ⟨b, o, rfl, hb, hat⟩ := (S.out.below hbel).at (by omega)
      obtain ⟨hd, c0, hi4⟩ := hat k x hx1
      have K := Lib.hid hx1
      have I4 := Lib.hid hi4
      have hm := S.out.2.2.1
      unfold maxLen at hm
      clear hown hbel hx1 hat hi4
      go_wp2_with fail
      refine (toIntS_h hd.a hd.n hd.c x _ I4.out (condIntS_at C.out K.out)).mono ?_
      rintro e w2 ⟨h', rfl, H', hb2⟩
      have O2 := Lib.hid (ownsRow_below O.out hb2)
      have B2 := Lib.hid (Below.then' B.out hb2)
      have N2 := Lib.hid (N.out.below hb2)
      have HH := Lib.hid H'
      have hs2 := hb2.size
      clear hb2 H' c0
      have f0 := O2.out.frozenAt (k)
      obtain ⟨u0, d0⟩ := own_cell O2.out (k) (by have := PL.out; rw [List.length_append, cellsIntS_len, List.length_drop, zerosIntS_len]; omega)
      go_wp2
      go_roundw
      case rel =>
        have h5 := storedIntS O2.out (by rw [cellsIntS_len, PL.out]) (by rw [zerosIntS_len]; omega) (.slice h'.a h'.n h'.c)
        refine ⟨k + 1, ps ++ [⟨x, h'⟩], by omega, by go_num, ?_, B2.out.grown h5.2 B2.out.size (fun j e => by cases e; exact Nat.le_refl _), Nat.lt_of_lt_of_le (by omega) h5.2.size, ?_, ?_⟩
        · rw [List.map_append, PS.out, List.take_add_one, K.out]; rfl
        · rw [cellsIntS_snoc, List.append_assoc]
          exact h5.1
        · have H2 := OwnIn.turned HH.out (Turned.of_grown (lo := w.heap.size) (hi := w.heap.size + 1) h5.2 (fun b e => by cases e; omega)) (.inr (by omega))
          exact ((N2.out.grown h5.2).snoc (p := ⟨x, h'⟩) H2 (by omega) (by omega) (fun b e => by cases e; omega)).mono (Nat.le_refl _) h5.2.size
      case measure => simp [intOf]; omega
    · obtain rfl : k = xs.length := by omega
      clear hown hbel
      have hm := S.out.2.2.1
      unfold maxLen at hm
      go_wp2
      go_ret
      refine ⟨_, rfl, ⟨ps, by rw [PS.out, List.take_of_length_le (Nat.le_refl _)], OwnIn.of_row ?_ (Nat.le_refl _) (Nat.le_refl _), N.out⟩, B.out⟩
      have h := O.out
      rw [List.drop_of_length_le (by rw [zerosIntS_len]; omega), List.append_nil] at h
      rw [PL.out]
      exact h
set_option maxHeartbeats 3200000 in
theorem szIntSS_o (a : Option Addr) (len cap : Nat) (xs : List VIntS) (left : Int) (w : World) (h : IsIntSS w a len cap xs) (h0 : 0 ≤ left) (h1 : left ≤ 1048576) :
    Calls Try.prog 46 #[.slice a len cap, .int .i64 left] w fun e w' => ∃ z : Int, e = .returned (.int .i64 z) ∧ z ≤ left ∧ (0 ≤ z → condIntS xs) ∧ Below w.heap.size w w' := by
  obtain rfl := h.1
  have hm := h.2.2.1
  have hcl := h.2.1
  unfold maxLen at hm
  have S := Lib.hid h
  clear h
  by_cases hlt : left < (xs.length : Int)
  · have hn : left - (xs.length : Int) < 0 := by omega
    go_enter Try.func46, Try.ntmps46
    go_wp2
    go_ret
    exact ⟨-1, rfl, by omega, by omega, Below.refl _ _⟩
  · have hn : ¬ left - (xs.length : Int) < 0 := by omega
    have hn2 : 0 ≤ left - (xs.length : Int) := by omega
    obtain ⟨l0, hl0⟩ : ∃ l0, left - (xs.length : Int) = l0 := ⟨_, rfl⟩
    have b0 : 0 ≤ l0 := by omega
    have b1 : l0 ≤ left := by omega
    have L0 := Lib.hid hl0
    clear hl0
    go_enter Try.func46, Try.ntmps46
    go_wp2
    go_loopw [1, 5] (fun l i wr => ∃ (k : Nat) (y : Int), k ≤ xs.length ∧ i = .int .i64 k ∧ l = .int .i64 y ∧ 0 ≤ y ∧ y ≤ left ∧ y + ((xs.length - k : Nat) : Int) + (sizeIntS (xs.take k) : Int) = left ∧ Below w.heap.size w wr) (fun _ i _ => xs.length - (intOf i).toNat)
    case atStart => exact ⟨0, l0, Nat.zero_le _, rfl, by rw [L0.out], b0, b1, by have := L0.out; simp [sizeIntS]; omega, Below.refl _ _⟩
    case round =>
      obtain ⟨k, y, hk, rfl, rfl, y0, y1, hsum, hbel⟩ := hrel
      have SM := Lib.hid hsum
      have B := Lib.hid hbel
      clear hsum
      by_cases hlt2 : k < xs.length
      · obtain ⟨x, hx⟩ : ∃ x, xs[k]? = some x := ⟨xs[k]'hlt2, List.getElem?_eq_getElem _⟩
        obtain ⟨b, o, rfl, hb, hat⟩ := (S.out.below hbel).at (by omega)
        obtain ⟨hd, c0, hi4⟩ := hat k x hx
        have I4 := Lib.hid hi4
        have K := Lib.hid hx
        have hi0 : (0 : Int) ≤ (k : Int) := by omega
        have hi1 : (k : Int) < (xs.length : Int) := by omega
        clear hbel hx hat hi4
        go_wp2_with fail
        refine (szIntS_left _ _ _ x y _ I4.out y0 (by omega)).mono ?_
        rintro e w2 ⟨⟨z, rfl, hz⟩, rfl⟩
        have B2 := B
        have Z := Lib.hid hz
        clear hz c0
        by_cases hz0 : z < 0
        · go_wp2
          go_ret
          exact ⟨-1, rfl, by omega, by omega, B2.out⟩
        · go_wp2
          go_roundw
          case rel =>
            have h3 : z = y - (x.length : Int) := by rcases Z.out with h | h <;> omega
            have h4 := SM.out
            have h5 := sizeIntS_take K.out
            exact ⟨k + 1, z, by omega, by go_num, rfl, by omega, by omega, by omega, B2.out⟩
          case measure => simp [intOf]; omega
      · obtain rfl : k = xs.length := by omega
        clear hbel
        go_wp2
        go_ret
        refine ⟨y, rfl, by omega, fun _ => ?_, B.out⟩
        have h4 := SM.out
        rw [List.take_of_length_le (Nat.le_refl _)] at h4
        unfold condIntS
        omega
set_option maxHeartbeats 6400000 in
set_option maxRecDepth 100000 in
theorem eqIntSS_yes (a : Option Addr) (len cap : Nat) (a' : Option Addr) (len' cap' : Nat) (xs : List VIntS) (w : World) (h : IsIntSS w a len cap xs) (h' : IsIntSS w a' len' cap' xs) :
    Calls Try.prog 48 #[.slice a len cap, .slice a' len' cap'] w fun e w' => e = .returned (.bool true) ∧ Below w.heap.size w w' := by
  obtain rfl := h.1
  obtain rfl := h'.1
  have hm := h.2.2.1
  have hcl := h.2.1
  unfold maxLen at hm
  have S := Lib.hid h
  have S' := Lib.hid h'
  clear h h'
  go_enter Try.func48, Try.ntmps48
  go_wp2
  go_loopw [5] (fun i wr => ∃ k : Nat, k ≤ xs.length ∧ i = .int .i64 k ∧ Below w.heap.size w wr) (fun i _ => xs.length - (intOf i).toNat)
  case atStart => exact ⟨0, Nat.zero_le _, rfl, Below.refl _ _⟩
  case round =>
    obtain ⟨k, hk, rfl, hbel⟩ := hrel
    have B := Lib.hid hbel
    by_cases hlt : k < xs.length
    · obtain ⟨x, hx⟩ : ∃ x, xs[k]? = some x := ⟨xs[k]'hlt, List.getElem?_eq_getElem _⟩
      obtain ⟨b, o, rfl, hb, hat⟩ := (S.out.below hbel).at (by omega)
      obtain ⟨b', o', rfl, hb', hat'⟩ := (S'.out.below hbel).at (by omega)
      obtain ⟨hd, c0, hi4⟩ := hat k x hx
      obtain ⟨hd', d0, hi4'⟩ := hat' k x hx
      have I4 := Lib.hid hi4
      have I4' := Lib.hid hi4'
      have hi0 : (0 : Int) ≤ (k : Int) := by omega
      have hi1 : (k : Int) < (xs.length : Int) := by omega
      clear hbel hx hat hat' hi4 hi4'
      go_wp2
      go_region_with (go_at_call 81; refine (eqIntS_yes _ _ _ _ _ _ x _ (I4.out.below (bel_drew' (Below.refl _ _))) (I4'.out.below (bel_drew' (Below.refl _ _)))).mono ?_; rintro e w1 ⟨rfl, hb1⟩; have B1 := Lib.hid (Below.then' (bel_drew' B.out) hb1); clear hb1)
      all_goals go_wp2
      all_goals go_roundw
      all_goals first
        | exact ⟨k + 1, by omega, by go_num, B1.out⟩
        | (simp [intOf]; omega)
    · obtain rfl : k = xs.length := by omega
      clear hbel
      go_wp2
      go_ret
      exact ⟨rfl, B.out⟩
theorem markIntS_IntS (lo : Nat) (h : Hd) (zs : List Int) (kk : Nat) (y : Int) (w : World) (hy : ((kk : Nat) : Int) = y) (hown : w.ownsRow lo 3 1 (.slice h.a h.n h.c) zs.length (intCells zs)) (hk : kk ≤ 1000000000) (hn : zs.length ≤ 1000000000) :
    Calls Try.prog 83 #[.slice h.a h.n h.c, .int .i64 y] w fun e w' => (∃ u : Int, e = .returned (.int .i64 u) ∧ u = y + (zs.length : Int)) ∧ w'.ownsRow lo 3 1 (.slice h.a h.n h.c) zs.length (intCells (marksI kk zs.length)) ∧ w.grownBy w' h.blk := by
  rw [← hy]
  exact (markIntS_any lo _ zs.length kk (intCells zs) w hown hk hn).mono fun e w' ⟨h1, h2, h3⟩ => ⟨⟨_, h1, by omega⟩, h2, h3⟩
/-- What one row's marks leave. -/
def IntSSMarked (lo hi : Nat) (v : Value) (xs : List VIntS) (k : Nat) (w : World) (e : Ending) (w' : World) : Prop := e = .returned (.int .i64 ((k + cntIntS xs : Nat) : Int)) ∧ OwnIntSS lo hi w' v (mkIntS k xs) ∧ Turned lo hi w w'
set_option maxHeartbeats 6400000 in
set_option maxRecDepth 100000 in
theorem markIntSS_o (lo hi : Nat) (v : Value) (xs : List VIntS) (k : Nat) (w : World) (h : OwnIntSS lo hi w v xs) (hk : k + cntIntS xs ≤ 100000000) :
    Calls Try.prog 50 #[v, .int .i64 (k : Int)] w (IntSSMarked lo hi v xs k w) := by
  obtain ⟨ps, hps, hraw⟩ := h
  have hpl : ps.length = xs.length := by rw [← hps, List.length_map]
  have hraw0 := hraw
  rcases hraw0.1.1.2 with ⟨rfl, h0⟩ | ⟨g, cap, cur, rfl, hg, hh, hncap, hcap, _⟩
  · have hx : xs = [] := List.length_eq_zero_iff.1 (by omega)
    subst hx
    have H := Lib.hid hraw
    have hp0 : ps = [] := List.length_eq_zero_iff.1 (by omega)
    have P0 := Lib.hid hp0
    clear hraw hraw0 hps hpl hp0 h0
    go_enter Try.func50, Try.ntmps50
    go_wp2
    refine wp_loop_rounds 1 ?_
    rw [rounds_succ]
    go_wp2
    go_ret
    exact ⟨rfl, ⟨ps, by rw [P0.out]; rfl, H.out⟩, Turned.refl _ _ _⟩
  clear hh hraw0
  have glt := (hraw.1.lt (b := g) rfl)
  have H := Lib.hid hraw
  have PS := Lib.hid hps
  rw [hpl]
  rw [hpl] at hncap H
  unfold maxLen at hcap
  have PL := Lib.hid hpl
  have HK := Lib.hid hk
  clear hraw hps hpl hk
  go_enter Try.func50, Try.ntmps50
  go_wp2
  go_loopw [1, 5] (fun q i wr => ∃ (j : Nat) (ps : List PIntS), j ≤ xs.length ∧ i = .int .i64 j ∧ q = .int .i64 ((k + cntIntS (xs.take j) : Nat) : Int) ∧ ps.map PIntS.x = mkIntS k (xs.take j) ++ xs.drop j ∧ RawIntS lo hi wr (.slice (some ⟨g, 0, none⟩) xs.length cap) ps ∧ Turned lo hi w wr) (fun _ i _ => xs.length - (intOf i).toNat)
  case atStart => exact ⟨0, ps, Nat.zero_le _, rfl, by simp [cntIntS], by rw [PS.out]; simp [mkIntS], H.out, Turned.refl _ _ _⟩
  case round =>
    obtain ⟨j, ps, hj, rfl, rfl, hps, hraw, htn⟩ := hrel
    have R := Lib.hid hraw
    have T0 := Lib.hid htn
    have PS := Lib.hid hps
    clear hraw htn hps
    by_cases hlt : j < xs.length
    · obtain ⟨x, hx⟩ : ∃ x, xs[j]? = some x := ⟨xs[j]'hlt, List.getElem?_eq_getElem _⟩
      have hml : (mkIntS k (xs.take j)).length = j := by rw [mkIntS_len, List.length_take]; omega
      obtain ⟨p, hp, hpx⟩ : ∃ p, ps[j]? = some p ∧ p.x = x := by
        have h1 := congrArg (fun l : List VIntS => l[j]?) PS.out
        simp only [List.getElem?_map] at h1
        rw [List.getElem?_append_right (by omega), hml, Nat.sub_self, List.getElem?_drop, Nat.add_zero, hx] at h1
        cases hq : ps[j]? with
        | none => rw [hq] at h1; cases h1
        | some p => rw [hq] at h1; exact ⟨p, rfl, by simpa using h1⟩
      obtain ⟨px, hp'⟩ := p
      obtain rfl : px = x := hpx
      obtain ⟨c0, _⟩ := R.out.elem hp
      have hcl := cntIntS_take_le xs (j + 1)
      rw [cntIntS_take hx] at hcl
      obtain ⟨y, hy⟩ : ∃ y : Int, ((k + cntIntS (xs.take j) : Nat) : Int) = y := ⟨_, rfl⟩
      have y0 : 0 ≤ y := by omega
      have y1 : y ≤ 100000000 := by have := HK.out; omega
      have hx2 : px.length ≤ 100000000 := by have := HK.out; omega
      rw [hy]
      have HY := Lib.hid hy
      have K := Lib.hid hx
      have KP := Lib.hid hp
      have ML := Lib.hid hml
      have CL := Lib.hid hcl

      have i0 : (0 : Int) ≤ (j : Int) := by omega
      have i1 : (j : Int) < (xs.length : Int) := by omega
      clear hy hx hp hml hcl
      go_wp2_with fail
      refine (markIntS_IntS lo hp' px (k + cntIntS (xs.take j)) y _ HY.out (R.out.2.1 j _ KP.out).1 (by have := HK.out; have := CL.out; omega) (by omega)).mono ?_
      rintro e w2 ⟨⟨u, rfl, hu⟩, hown2, hg2⟩
      have U := Lib.hid hu
      have R2 := Lib.hid (R.out.inner KP.out (zs := marksI (k + cntIntS (xs.take j)) px.length) (by rw [marksI_len]) hown2 hg2)
      have T2 := Lib.hid (T0.out.trans (Turned.of_grown hg2 (fun b e => by have := (R.out.2.1 j _ KP.out).lt e; omega)))
      clear hu hown2 hg2 c0
      go_wp2
      go_roundw
      case rel =>
        have hcnt := cntIntS_take K.out
        refine ⟨j + 1, _, by omega, by go_num, int_eq (by have := U.out; have := HY.out; omega), ?_, R2.out, T2.out⟩
        rw [List.map_set, PS.out, mkIntS_take K.out, List.set_append_right _ _ (by rw [ML.out]; exact Nat.le_refl _), ML.out, Nat.sub_self, List.append_assoc]
        refine congrArg (fun l => mkIntS k (xs.take j) ++ l) ?_
        rw [List.drop_eq_getElem_cons hlt, List.set_cons_zero]
        refine cons_congr ?_ rfl
        rfl
      case measure => simp [intOf]; omega
    · obtain rfl : j = xs.length := by omega
      go_wp2
      go_ret
      refine ⟨?_, ⟨ps, ?_, R.out⟩, T0.out⟩
      · rw [List.take_of_length_le (Nat.le_refl _)]; rfl
      · have h := PS.out
        rw [List.take_of_length_le (Nat.le_refl _), List.drop_of_length_le (Nat.le_refl _), List.append_nil] at h
        exact h
theorem heldIntS_IntS (h : Hd) (kk n0 : Nat) (y : Int) (w : World) (hy : ((kk : Nat) : Int) = y) (hi : IsInts w h.a h.n h.c (marksI kk n0)) (hk : kk ≤ 1000000000) (hn : n0 ≤ 1000000000) :
    Calls Try.prog 84 #[.slice h.a h.n h.c, .int .i64 y] w fun e w' => (∃ u : Int, e = .returned (.int .i64 u) ∧ u = y + (n0 : Int)) ∧ w = w' := by
  rw [← hy]
  have e : h.n = n0 := by rw [hi.1, marksI_len]
  rw [e] at hi
  rw [e]
  exact (heldIntS_any h.a n0 h.c kk w hi hk hn).mono fun e w' ⟨h1, h2⟩ => ⟨⟨_, h1, by omega⟩, h2⟩
set_option maxHeartbeats 6400000 in
set_option maxRecDepth 100000 in
theorem heldIntSS_o (a : Option Addr) (n c : Nat) (xs : List VIntS) (k : Nat) (w : World) (h : IsIntSS w a n c (mkIntS k xs)) (hk : k + cntIntS xs ≤ 100000000) :
    Calls Try.prog 53 #[.slice a n c, .int .i64 (k : Int)] w fun e w' => e = .returned (.int .i64 ((k + cntIntS xs : Nat) : Int)) ∧ Below w.heap.size w w' := by
  have hn : n = xs.length := by rw [h.1, mkIntS_len]
  subst hn
  have hm := h.2.2.1
  have hcl := h.2.1
  unfold maxLen at hm
  have S := Lib.hid h
  have HK := Lib.hid hk
  clear h hk
  go_enter Try.func53, Try.ntmps53
  go_wp2
  go_loopw [1, 5] (fun q i wr => ∃ j : Nat, j ≤ xs.length ∧ i = .int .i64 j ∧ q = .int .i64 ((k + cntIntS (xs.take j) : Nat) : Int) ∧ Below w.heap.size w wr) (fun _ i _ => xs.length - (intOf i).toNat)
  case atStart => exact ⟨0, Nat.zero_le _, rfl, by simp [cntIntS], Below.refl _ _⟩
  case round =>
    obtain ⟨j, hj, rfl, rfl, hbel⟩ := hrel
    have B := Lib.hid hbel
    by_cases hlt : j < xs.length
    · obtain ⟨x, hx⟩ : ∃ x, xs[j]? = some x := ⟨xs[j]'hlt, List.getElem?_eq_getElem _⟩
      obtain ⟨b, o, rfl, hb, hat⟩ := (S.out.below hbel).at (by omega)
      obtain ⟨hd, e0, hi4⟩ := hat j _ (mkIntS_at hx k)
      have hcl := cntIntS_take_le xs (j + 1)
      rw [cntIntS_take hx] at hcl
      obtain ⟨y, hy⟩ : ∃ y : Int, ((k + cntIntS (xs.take j) : Nat) : Int) = y := ⟨_, rfl⟩
      have y0 : 0 ≤ y := by omega
      have y1 : y ≤ 100000000 := by have := HK.out; omega
      have hx2 : x.length ≤ 100000000 := by have := HK.out; omega
      rw [hy]
      have HY := Lib.hid hy
      have K := Lib.hid hx
      have CL := Lib.hid hcl
      have I4 := Lib.hid hi4

      have c0 := e0
      have i0 : (0 : Int) ≤ (j : Int) := by omega
      have i1 : (j : Int) < (xs.length : Int) := by omega
      clear hy hx hcl hi4 hat hbel e0
      go_wp2_with fail
      refine (heldIntS_IntS hd (k + cntIntS (xs.take j)) x.length y _ HY.out I4.out (by have := HK.out; have := CL.out; omega) (by omega)).mono ?_
      rintro e w2 ⟨⟨u, rfl, hu⟩, rfl⟩
      have hu0 : 0 ≤ u := by omega
      have U := Lib.hid hu
      clear hu c0
      go_wp2
      go_roundw
      case rel =>
        have hcnt := cntIntS_take K.out
        exact ⟨j + 1, by omega, by go_num, int_eq (by have := U.out; have := HY.out; omega), B.out⟩
      case measure => simp [intOf]; omega
    · obtain rfl : j = xs.length := by omega
      clear hbel
      go_wp2
      go_ret
      exact ⟨by rw [List.take_of_length_le (Nat.le_refl _)]; rfl, B.out⟩
end Go.Proofs.Ytodjgeffkfbpiaa
namespace Go.Proofs.Ytodjgeffkfbpiaa
open Go.RowKit

def vsq (p : Sq) : VIntA2 := ⟨(p.1 : Int), (p.2 : Int)⟩
def sqZ (r c : Int) : Sq := (r.toNat, c.toNat)
/-- It is a relief and has the square. -/
def hasB (D : List VIntS) (r c : Int) : Bool := rlB D && (decide (0 ≤ r) && (decide (r < (D.length : Int)) && (decide (0 ≤ c) && decide (c < (colsN D : Int)))))
theorem hasB_yes {D : List VIntS} {r c : Int} (h : hasB D r c = true) : RL D ∧ ∃ p : Sq, inR D p ∧ r = (p.1 : Int) ∧ c = (p.2 : Int) := by
  unfold hasB at h
  simp only [Bool.and_eq_true, decide_eq_true_eq] at h
  obtain ⟨h1, h2, h3, h4, h5⟩ := h
  exact ⟨rlB_iff.1 h1, (r.toNat, c.toNat), ⟨by simp only []; omega, by simp only []; omega⟩, by simp only []; omega, by simp only []; omega⟩
theorem sqZ_nat (p : Sq) : sqZ (p.1 : Int) (p.2 : Int) = p := by
  obtain ⟨a, b⟩ := p
  simp [sqZ]
theorem hasB_nat {D : List VIntS} (hD : RL D) {p : Sq} (hp : inR D p) : hasB D (p.1 : Int) (p.2 : Int) = true := by
  unfold hasB
  simp only [Bool.and_eq_true, decide_eq_true_eq]
  have h1 := hp.1
  have h2 := hp.2
  exact ⟨rlB_iff.2 hD, by omega, by omega, by omega, by omega⟩
def runsB (D : List VIntS) (r c : Int) : Bool := hasB D r c && !(nextSq D (sqZ r c) == sqZ r c)
def gridOf (D : List VIntS) (L : Sq → Int) : List VIntS := (List.range D.length).map fun r => (List.range (colsN D)).map fun c => L (r, c)
theorem gridOf_len (D : List VIntS) (L : Sq → Int) : (gridOf D L).length = D.length := by simp [gridOf]
theorem gridOf_at (D : List VIntS) (L : Sq → Int) {r : Nat} (h : r < D.length) : (gridOf D L)[r]? = some ((List.range (colsN D)).map fun c => L (r, c)) := by simp [gridOf, h]
theorem gridOf_congr {D : List VIntS} {L M : Sq → Int} (h : ∀ p, inR D p → L p = M p) : gridOf D L = gridOf D M := by
  unfold gridOf
  refine List.map_congr_left fun r hr => List.map_congr_left fun c hc => h (r, c) ⟨by simpa using hr, by simpa using hc⟩
/-- Lakes so far: how many squares, and the sum. -/
def lakeS (D : List VIntS) (L : Sq → Int) (s : Int × Int) (p : Sq) : Int × Int := if 0 < L p - hA D p then (s.1 + 1, s.2 + (L p - hA D p)) else s
def lakesOf (D : List VIntS) (L : Sq → Int) : Int × Int := (sqs D).foldl (lakeS D L) (0, 0)
theorem lake_bd {D : List VIntS} (hD : RL D) {L : Sq → Int} (hL : ∀ p, inR D p → L p ≤ 9999) : ∀ (l : List Sq), (∀ p ∈ l, inR D p) → ∀ (s : Int × Int) (k : Nat), 0 ≤ s.1 ∧ s.1 ≤ k ∧ 0 ≤ s.2 ∧ s.2 ≤ k * 9999 →
    0 ≤ (l.foldl (lakeS D L) s).1 ∧ (l.foldl (lakeS D L) s).1 ≤ (k + l.length : Nat) ∧ 0 ≤ (l.foldl (lakeS D L) s).2 ∧ (l.foldl (lakeS D L) s).2 ≤ (k + l.length : Nat) * 9999 := by
  intro l
  induction l with
  | nil => intro _ s k h; simpa using h
  | cons x l ih =>
    intro hl s k h
    rw [List.foldl_cons]
    have hx := hl x (by simp)
    have h1 := hL x hx
    obtain ⟨_, _, _, _, h2, _⟩ := hD.at hx
    have := ih (fun p hp => hl p (List.mem_cons_of_mem _ hp)) (lakeS D L s x) (k + 1) (by
      unfold lakeS
      split
      · refine ⟨by simp only []; omega, by simp only []; omega, by simp only []; omega, by simp only []; omega⟩
      · omega)
    simp only [List.length_cons] at this ⊢
    omega
theorem lake_congr {D : List VIntS} {L M : Sq → Int} : ∀ (l : List Sq), (∀ p ∈ l, L p = M p) → ∀ s, l.foldl (lakeS D L) s = l.foldl (lakeS D M) s := by
  intro l
  induction l with
  | nil => intro _ s; rfl
  | cons x l ih =>
    intro h s
    rw [List.foldl_cons, List.foldl_cons, show lakeS D L s x = lakeS D M s x from by unfold lakeS; rw [h x (by simp)]]
    exact ih (fun p hp => h p (List.mem_cons_of_mem _ hp)) _
def rivI (D : List VIntS) (q : Sq) : Int := (riv D q : Int)
def steepB (D : List VIntS) : Bool := rlB D && !(fall D (topOf D (fall D)) == 0)
def IsRelief_0 (D : List VIntS) : Bool := rlB D
def NextSquare_0 (D : List VIntS) (r c : Int) : Int := if runsB D r c = true then ((nextSq D (sqZ r c)).1 : Int) else 0
def NextSquare_1 (D : List VIntS) (r c : Int) : Int := if runsB D r c = true then ((nextSq D (sqZ r c)).2 : Int) else 0
def NextSquare_2 (D : List VIntS) (r c : Int) : Bool := runsB D r c
def RunOff_0 (D : List VIntS) (r c : Int) : List VIntA2 := if hasB D r c = true then (runOf D (sqZ r c)).map vsq else []
def RunOff_1 (D : List VIntS) (r c : Int) : Bool := hasB D r c
def PitsOf_0 (D : List VIntS) : List VIntA2 := if rlB D = true then (pits D).map vsq else []
def PitsOf_1 (D : List VIntS) : Bool := rlB D
def Catchment_0 (D : List VIntS) (r c : Int) : Int := if hasB D r c = true then rivI D (sqZ r c) else 0
def Catchment_1 (D : List VIntS) (r c : Int) : Bool := hasB D r c
def GreatestRiver_0 (D : List VIntS) : Int := if rlB D = true then ((topOf D (rivI D)).1 : Int) else 0
def GreatestRiver_1 (D : List VIntS) : Int := if rlB D = true then ((topOf D (rivI D)).2 : Int) else 0
def GreatestRiver_2 (D : List VIntS) : Bool := rlB D
def LevelAt_0 (D : List VIntS) (r c : Int) : Int := if hasB D r c = true then lev D (sqZ r c) else 0
def LevelAt_1 (D : List VIntS) (r c : Int) : Bool := hasB D r c
def FilledRelief_0 (D : List VIntS) : List VIntS := if rlB D = true then gridOf D (lev D) else []
def FilledRelief_1 (D : List VIntS) : Bool := rlB D
def LakesOf_0 (D : List VIntS) : Int := if rlB D = true then (lakesOf D (lev D)).1 else 0
def LakesOf_1 (D : List VIntS) : Int := if rlB D = true then (lakesOf D (lev D)).2 else 0
def LakesOf_2 (D : List VIntS) : Bool := rlB D
def SteepestSquare_0 (D : List VIntS) : Int := if steepB D = true then ((topOf D (fall D)).1 : Int) else 0
def SteepestSquare_1 (D : List VIntS) : Int := if steepB D = true then ((topOf D (fall D)).2 : Int) else 0
def SteepestSquare_2 (D : List VIntS) : Int := if steepB D = true then fall D (topOf D (fall D)) else 0
def SteepestSquare_3 (D : List VIntS) : Bool := steepB D
theorem RunOff_0_cnt (D : List VIntS) (r c : Int) (_ : condIntS D) : cntIntA2 (RunOff_0 D r c) ≤ 1000000 := by
  unfold RunOff_0 cntIntA2
  split
  · rename_i h
    obtain ⟨hD, p, hp, rfl, rfl⟩ := hasB_yes h
    rw [sqZ_nat, List.length_map]
    have := runOf_len hD hp
    omega
  · simp
theorem PitsOf_0_cnt (D : List VIntS) (_ : condIntS D) : cntIntA2 (PitsOf_0 D) ≤ 1000000 := by
  unfold PitsOf_0 cntIntA2
  split
  · rename_i h
    rw [List.length_map]
    have h1 : (pits D).length ≤ (sqs D).length := List.length_filter_le _ _
    have h2 := sqs_len (rlB_iff.1 h)
    omega
  · simp
theorem cntIntS_le : ∀ (xs : List VIntS) (k : Nat), (∀ x ∈ xs, x.length ≤ k) → cntIntS xs ≤ xs.length * k := by
  intro xs k
  induction xs with
  | nil => intro _; simp [cntIntS]
  | cons x l ih =>
    intro h
    have h1 := ih fun y hy => h y (List.mem_cons_of_mem _ hy)
    have h2 := h x (by simp)
    simp only [cntIntS, List.length_cons, Nat.succ_mul]
    omega
theorem FilledRelief_0_cnt (D : List VIntS) (_ : condIntS D) : cntIntS (FilledRelief_0 D) ≤ 1000000 := by
  unfold FilledRelief_0
  split
  · rename_i h
    have hD := rlB_iff.1 h
    have h1 := cntIntS_le (gridOf D (lev D)) 8 (fun x hx => by
      simp only [gridOf, List.mem_map] at hx
      obtain ⟨r, _, rfl⟩ := hx
      have := hD.n8
      simpa using this)
    rw [gridOf_len] at h1
    have := hD.m8
    omega
  · simp [cntIntS]
end Go.Proofs.Ytodjgeffkfbpiaa
namespace Go.Proofs.Ytodjgeffkfbpiaa
open Go.RowKit
theorem areOne (lo hi x : Int) (t : TypeId) (w : World) (B : Nat) (hB : w.heap.size = B) :
    Calls Try.prog 58 #[.int .i64 lo, .int .i64 hi, .slice (some ⟨B, 0, none⟩) 1 1] (w.alloc (.cells #[.int .i64 x] t)) fun e w' => e = .returned (.bool (inB x lo hi)) ∧ w.alloc (.cells #[.int .i64 x] t) = w' :=
  (areInRange_any B 1 1 [x] lo hi _ rfl (by omega) (lit1 w x t B hB)).mono fun e w' h => ⟨by rw [h.1]; simp, h.2⟩
theorem areTwo (lo hi x y : Int) (t : TypeId) (w : World) (B : Nat) (hB : w.heap.size = B) :
    Calls Try.prog 58 #[.int .i64 lo, .int .i64 hi, .slice (some ⟨B, 0, none⟩) 2 2] (w.alloc (.cells #[.int .i64 x, .int .i64 y] t)) fun e w' => e = .returned (.bool (inB x lo hi && inB y lo hi)) ∧ w.alloc (.cells #[.int .i64 x, .int .i64 y] t) = w' :=
  (areInRange_any B 2 2 [x, y] lo hi _ rfl (by omega) (lit2 w x y t B hB)).mono fun e w' h => ⟨by rw [h.1]; simp, h.2⟩
theorem lit4 (w : World) (x y u v : Int) (t : TypeId) (B : Nat) (hB : w.heap.size = B) : ∀ (k : Nat) z, [x, y, u, v][k]? = some z → (w.alloc (.cells #[.int .i64 x, .int .i64 y, .int .i64 u, .int .i64 v] t)).cell? ⟨B, k, none⟩ = some (.int .i64 z) := by
  subst hB
  intro k z h
  match k, h with
  | 0, h => simp at h; subst h; simp [World.cell?_alloc_new]
  | 1, h => simp at h; subst h; simp [World.cell?_alloc_new]
  | 2, h => simp at h; subst h; simp [World.cell?_alloc_new]
  | 3, h => simp at h; subst h; simp [World.cell?_alloc_new]
  | k + 4, h => simp at h
theorem areFour (lo hi x y u v : Int) (t : TypeId) (w : World) (B : Nat) (hB : w.heap.size = B) :
    Calls Try.prog 58 #[.int .i64 lo, .int .i64 hi, .slice (some ⟨B, 0, none⟩) 4 4] (w.alloc (.cells #[.int .i64 x, .int .i64 y, .int .i64 u, .int .i64 v] t)) fun e w' => e = .returned (.bool (inB x lo hi && (inB y lo hi && (inB u lo hi && inB v lo hi)))) ∧ w.alloc (.cells #[.int .i64 x, .int .i64 y, .int .i64 u, .int .i64 v] t) = w' :=
  (areInRange_any B 4 4 [x, y, u, v] lo hi _ rfl (by omega) (lit4 w x y u v t B hB)).mono fun e w' h => ⟨by rw [h.1]; simp, h.2⟩
end Go.Proofs.Ytodjgeffkfbpiaa
namespace Go.Proofs.Ytodjgeffkfbpiaa
open Go.RowKit
theorem resultsIntA21 {fn : Func} {tm : Array Value} {a b : Nat} {w : World} {s : VIntA2} (hf : fn.results = #[.cell a 34]) (ha : tm.getD a undef = .pointer (some ⟨b, 0, none⟩)) (h : HBIntA2 w b s) :
    (results fn tm).run Try.prog w = .ok (.agg #[.int .i64 s.E0, .int .i64 s.E1]) w := by
  obtain ⟨h0, h1⟩ := h.cells
  simp only [Array.getD_eq_getD_getElem?] at ha
  simp [results, hf, ha, go_sem, h0, h1]
theorem resultsIntA22 {fn : Func} {tm : Array Value} {a b c : Nat} {w : World} {s : VIntA2} {v : Value} (hf : fn.results = #[.cell a 34, .tmp c]) (ha : tm.getD a undef = .pointer (some ⟨b, 0, none⟩)) (hc : tm.getD c undef = v) (h : HBIntA2 w b s) :
    (results fn tm).run Try.prog w = .ok (.tuple #[.agg #[.int .i64 s.E0, .int .i64 s.E1], v]) w := by
  obtain ⟨h0, h1⟩ := h.cells
  simp only [Array.getD_eq_getD_getElem?] at ha hc
  simp [results, hf, ha, hc, go_sem, h0, h1]
end Go.Proofs.Ytodjgeffkfbpiaa
namespace Go.Proofs.Ytodjgeffkfbpiaa
open Go.RowKit

/-- A row of a relief as it lies. -/
theorem relief_row {w : World} {a : Option Addr} {len cap : Nat} {D : List VIntS} (h : IsIntSS w a len cap D) (hD : RL D) {r : Nat} (hr : r < D.length) :
    ∃ b o b' o' c', a = some ⟨b, o, none⟩ ∧ b < w.heap.size ∧ b' < w.heap.size ∧ w.cell? ⟨b, o + r, none⟩ = some (.slice (some ⟨b', o', none⟩) (colsN D) c') ∧ colsN D ≤ c' ∧ c' ≤ 9223372036854775807 ∧ ∀ c, c < colsN D → w.cell? ⟨b', o' + c, none⟩ = some (.int .i64 (hA D (r, c))) := by
  obtain ⟨b, o, e, hb, hat⟩ := h.at (by have := h.1; omega)
  obtain ⟨row, e1, hl, _⟩ := hD.at (p := (r, 0)) ⟨hr, hD.n1⟩
  obtain ⟨hd, hc, hi⟩ := hat r row e1
  have hn1 := hD.n1
  obtain ⟨b', o', e2, hb', hz⟩ := hi.at (by rw [hi.1, hl]; omega)
  refine ⟨b, o, b', o', hd.c, e, hb, hb', ?_, ?_, ?_, fun c hlt => ?_⟩
  · rw [hc, e2, hi.1, hl]
  · rw [← hl, ← hi.1]; exact hi.2.1
  · have := hi.2.2.1; unfold maxLen at this; exact this
  · obtain ⟨row2, e3, _, e4, _⟩ := hD.at (p := (r, c)) ⟨hr, hlt⟩
    have : row2 = row := by
      have := e3.symm.trans e1
      simpa using this
    subst this
    exact hz c _ e4
theorem relief_row0 {w : World} {a : Option Addr} {len cap : Nat} {D : List VIntS} (h : IsIntSS w a len cap D) (hD : RL D) :
    ∃ b o b' o' c', a = some ⟨b, o, none⟩ ∧ b < w.heap.size ∧ w.cell? ⟨b, o, none⟩ = some (.slice (some ⟨b', o', none⟩) (colsN D) c') := by
  obtain ⟨b, o, b', o', c', e, h1, _, h3, _⟩ := relief_row h hD (r := 0) (by have := hD.m1; omega)
  exact ⟨b, o, b', o', c', e, h1, h3⟩
set_option maxHeartbeats 3200000 in
theorem heightOf_any (a : Option Addr) (len cap : Nat) (D : List VIntS) (r c : Nat) (w : World) (h : IsIntSS w a len cap D) (hD : RL D) (hr : r < D.length) (hc : c < colsN D) :
    Calls Try.prog 76 #[.slice a len cap, .agg #[.int .i64 (r : Int), .int .i64 (c : Int)]] w fun e w' => e = .returned (.int .i64 (hA D (r, c))) ∧ Below w.heap.size w w' := by
  have hm := h.2.2.1
  have hcl := h.2.1
  unfold maxLen at hm
  have B0 := Lib.hid (bel_al1 w (.cells #[.int .i64 (r : Int), .int .i64 (c : Int)] 34))
  have L := Lib.hid h.1
  obtain ⟨b, o, b', o', c', rfl, hb, hb', g0, hc1, hc2, g1⟩ := relief_row (h.below B0.out) hD hr
  have g2 := g1 c hc
  obtain ⟨c0, c1⟩ := BoxIntA2.new w 34 ⟨(r : Int), (c : Int)⟩ _ rfl
  simp only [] at c0 c1
  have i0 : (0 : Int) ≤ (r : Int) := by omega
  have i1 : (r : Int) < (len : Int) := by have := L.out; omega
  have i2 : (0 : Int) ≤ (c : Int) := by omega
  have i3 : (c : Int) < (colsN D : Int) := by omega
  clear h g1 hD hr hc
  go_enter Try.func76, Try.ntmps76
  go_wp2
  go_quiet (fail)
  go_wp2
  go_ret
  exact ⟨rfl, Below.then' B0.out (bel_drawn _ _)⟩
set_option maxHeartbeats 3200000 in
theorem isInRelief_any (a : Option Addr) (len cap : Nat) (D : List VIntS) (r c : Int) (w : World) (h : IsIntSS w a len cap D) (hD : RL D) :
    Calls Try.prog 85 #[.slice a len cap, .int .i64 r, .int .i64 c] w fun e w' => e = .returned (.bool (inB r 0 ((D.length : Int) - 1) && inB c 0 ((colsN D : Int) - 1))) ∧ Below w.heap.size w w' := by
  have hm := h.2.2.1
  have hcl := h.2.1
  unfold maxLen at hm
  obtain rfl := h.1
  have hm8 := hD.m8
  have hm1 := hD.m1
  have hn8 := hD.n8
  have hn1 := hD.n1
  have w1 : IntKind.i64.wrap ((D.length : Int) - 1) = (D.length : Int) - 1 := IntWalk.i64_in _ (by omega)
  have w2 : IntKind.i64.wrap ((colsN D : Int) - 1) = (colsN D : Int) - 1 := IntWalk.i64_in _ (by omega)
  obtain ⟨q1, e1⟩ : ∃ q, inB r 0 ((D.length : Int) - 1) = q := ⟨_, rfl⟩
  obtain ⟨q2, e2⟩ : ∃ q, inB c 0 ((colsN D : Int) - 1) = q := ⟨_, rfl⟩
  rw [e1, e2]
  have E1 := Lib.hid e1
  have E2 := Lib.hid e2
  have HD := Lib.hid hD
  have B0 := Lib.hid (bel_al1 w (.cells #[.int .i64 r] 3))
  have S := Lib.hid (h.below B0.out)
  clear h e1 e2 hD
  go_enter Try.func85, Try.ntmps85
  go_wp2_with fail
  refine (areOne 0 _ r _ _ _ (by simp)).mono ?_
  rintro e w' ⟨rfl, rfl⟩
  rw [E1.out]
  obtain ⟨b, o, b', o', c', rfl, hb, g0⟩ := relief_row0 S.out HD.out
  cases q1
  · go_wp2
    go_ret
    exact ⟨rfl, B0.out⟩
  · have B1 := Lib.hid (Below.then' B0.out (bel_al1 (w.alloc (.cells #[.int .i64 r] 3)) (.cells #[.int .i64 c] 3)))
    go_wp2_with fail
    refine (areOne 0 _ c _ _ _ (by simp)).mono ?_
    rintro e w' ⟨rfl, rfl⟩
    rw [E2.out]
    go_wp2
    go_ret
    exact ⟨rfl, B1.out⟩
end Go.Proofs.Ytodjgeffkfbpiaa
namespace Go.Proofs.Ytodjgeffkfbpiaa
open Go.RowKit
def IsRelief_Post (z0 : List VIntS) (w : World) (e : Ending) (w' : World) : Prop :=
  e = .returned (.bool (IsRelief_0 z0)) ∧ Below w.heap.size w w'
end Go.Proofs.Ytodjgeffkfbpiaa
