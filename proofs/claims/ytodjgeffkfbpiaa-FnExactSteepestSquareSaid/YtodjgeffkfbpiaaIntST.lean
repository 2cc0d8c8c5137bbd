/- Slices of slices of integers: its value; read from an argument; rows of it that a call owns. (made by gen2.py, then by hand) -/
import Derived.Test.YtodjgeffkfbpiaaOpen3
import Derived.Test.YtodjgeffkfbpiaaAppL
import Derived.Test.YtodjgeffkfbpiaaReg
import Derived.Deep.RegionWith
import Derived.Laws.OwnMore
import Derived.Handy
import Derived.Laws.IdiomRangeMap
namespace Go.Proofs.Ytodjgeffkfbpiaa
open Go.RowKit Go.ChangeShapes Go.WideShapes Go.Deep

abbrev VIntS := List Int
/-- Its value and where its slice lies. -/
structure PIntS where
  x : VIntS
  h : Hd
def PIntS.vals (p : PIntS) : List Value := [.slice p.h.a p.h.n p.h.c]
theorem PIntS.vals_len (p : PIntS) : p.vals.length = 1 := rfl
theorem PIntS.vals_one (p : PIntS) : ∀ u ∈ p.vals, u.oneCell' = true := by
  intro u hu
  simp [PIntS.vals] at hu
  rcases hu with rfl <;> rfl
/-- It lies at block b from offset o on, its slice's parts in h. -/
def IntSAt (w : World) (b o : Nat) (x : VIntS) (h : Hd) : Prop :=
  w.cell? ⟨b, o, none⟩ = some (.slice h.a h.n h.c) ∧ IsInts w h.a h.n h.c x
def IsIntSS (w : World) (a : Option Addr) (len cap : Nat) (xs : List VIntS) : Prop :=
  len = xs.length ∧ len ≤ cap ∧ cap ≤ maxLen ∧ (len = 0 ∨ ∃ b o, a = some ⟨b, o, none⟩ ∧ b < w.heap.size ∧ ∀ (k : Nat) x, xs[k]? = some x → ∃ h, IntSAt w b (o + k) x h)
theorem IntSAt.below {w w' : World} {b o : Nat} {x : VIntS} {h : Hd} (H : IntSAt w b o x h) (hb : Below w.heap.size w w') (hlt : b < w.heap.size) : IntSAt w' b o x h :=
  ⟨(hb.cell (p := ⟨b, o, none⟩) hlt).trans H.1, H.2.below hb⟩
theorem IsIntSS.below {w w' : World} {a : Option Addr} {len cap : Nat} {xs : List VIntS} (h : IsIntSS w a len cap xs) (hb : Below w.heap.size w w') : IsIntSS w' a len cap xs := by
  refine ⟨h.1, h.2.1, h.2.2.1, ?_⟩
  rcases h.2.2.2 with h0 | ⟨b, o, rfl, h1, h2⟩
  · exact .inl h0
  · exact .inr ⟨b, o, rfl, Nat.lt_of_lt_of_le h1 hb.size, fun k x hx => by
      obtain ⟨h, hh⟩ := h2 k x hx
      exact ⟨h, hh.below hb h1⟩⟩
theorem IsIntSS.at {w : World} {a : Option Addr} {len cap : Nat} {xs : List VIntS} (h : IsIntSS w a len cap xs) (hpos : 0 < len) : ∃ b o, a = some ⟨b, o, none⟩ ∧ b < w.heap.size ∧ ∀ (k : Nat) x, xs[k]? = some x → ∃ h, IntSAt w b (o + k) x h := by
  rcases h.2.2.2 with h0 | h1
  · omega
  · exact h1
theorem nil_IsIntSS (w : World) : IsIntSS w none 0 0 [] := ⟨rfl, Nat.le_refl _, by simp [maxLen], .inl rfl⟩
/-- The first elements of a slice. -/
theorem IsIntSS.take {w : World} {a : Option Addr} {len cap : Nat} {xs : List VIntS} (h : IsIntSS w a len cap xs) {k : Nat} (hk : k ≤ len) : IsIntSS w a k cap (xs.take k) := by
  refine ⟨by rw [List.length_take, ← h.1]; omega, Nat.le_trans hk h.2.1, h.2.2.1, ?_⟩
  by_cases h0 : k = 0
  · exact .inl h0
  · obtain ⟨b, o, e, h1, h2⟩ := h.at (by omega)
    refine .inr ⟨b, o, e, h1, fun j x hj => h2 j x ?_⟩
    rw [List.getElem?_take] at hj
    split at hj
    · exact hj
    · cases hj
set_option maxRecDepth 100000 in
theorem open_IntSS {H : Type} {enc : TypeId × Value → H} {W : World} {base : Nat} {held : Bool} {a : Option Addr} {len cap : Nat} {d : DataW H} {p : List MemPlace}
    (h : DataW.Trod enc Try.prog W base (fun _ => true) held 24 (.slice a len cap) d p) : ∃ xs : List VIntS, IsIntSS W a len cap xs := by
  obtain ⟨fuel, hf⟩ := h
  rcases open_slice Try.underlying24 hf with ⟨hcs, _⟩ | ⟨y, l, cp, m, n, D, Pl, hcs, hb, hl, hm, hmm, _, hi⟩
  · simp [Value.cells] at hcs
    obtain ⟨rfl, rfl, rfl⟩ := hcs
    exact ⟨[], nil_IsIntSS W⟩
  · simp [Value.cells] at hcs
    obtain ⟨rfl, rfl, rfl⟩ := hcs
    simp at hmm
    subst hmm
    obtain ⟨b, o, spot⟩ := y
    have hC : Try.prog.cellsOf 38 = 1 := by kernel_rfl
    have each : ∀ i, i < len → ∃ (x : VIntS) (h : Hd), W.cell? ((⟨b, o, spot⟩ : Addr).add i) = some (.slice h.a h.n h.c) ∧ IsInts W h.a h.n h.c x := by
      intro i hlt
      obtain ⟨cs', hc, ht'⟩ := hi i (by omega)
      rw [hC] at hc
      obtain ⟨_, hcl, hat⟩ := World.cells?_some hc
      obtain ⟨c, rfl⟩ : ∃ c, cs' = [c] := List.length_eq_one_iff.1 hcl
      obtain ⟨hd, zs, rfl, hz⟩ := trod_ints Try.underlying38 Try.underlying3 (by kernel_rfl) ht'
      refine ⟨zs, hd, ?_, hz⟩
      have h1 := hat 0 (by simp)
      rw [Nat.mul_one] at h1
      rw [Go.Deep.add_add] at h1
      simpa using h1
    by_cases h0 : len = 0
    · subst h0
      exact ⟨[], rfl, hl, hm, .inl rfl⟩
    · obtain ⟨_, _, h1, _⟩ := each 0 (by omega)
      have hspot : spot = none := by simpa [Addr.add] using World.cell?_spot h1
      subst hspot
      obtain ⟨f, hf⟩ := Classical.axiomOfChoice (r := fun (i : Fin len) (x : VIntS) => ∃ h : Hd, W.cell? ((⟨b, o, none⟩ : Addr).add i.1) = some (.slice h.a h.n h.c) ∧ IsInts W h.a h.n h.c x) (fun i => each i.1 i.2)
      refine ⟨(List.finRange len).map f, by simp, hl, hm, .inr ⟨b, o, rfl, ?_, fun k x hx => ?_⟩⟩
      · rw [add_plain] at h1
        exact World.lt_of_cell h1
      · obtain ⟨hk, e2⟩ := List.getElem?_eq_some_iff.1 hx
        have hk' : k < len := by simpa using hk
        simp at e2
        subst e2
        obtain ⟨h, h2, h3⟩ := hf ⟨k, hk'⟩
        rw [add_plain] at h2
        exact ⟨h, h2, h3⟩
def cellsIntS (ps : List PIntS) : List Value := ps.flatMap PIntS.vals
theorem cellsIntS_len (ps : List PIntS) : (cellsIntS ps).length = ps.length := by
  induction ps with
  | nil => rfl
  | cons x l ih => simp [cellsIntS, PIntS.vals_len] at *; omega
theorem cellsIntS_append (xs ys : List PIntS) : cellsIntS (xs ++ ys) = cellsIntS xs ++ cellsIntS ys := by simp [cellsIntS]
theorem cellsIntS_snoc (xs : List PIntS) (s : PIntS) : cellsIntS (xs ++ [s]) = cellsIntS xs ++ s.vals := by simp [cellsIntS]
theorem cellsIntS_at {xs : List PIntS} {k : Nat} {s : PIntS} (h : xs[k]? = some s) (j : Nat) (hj : j < 1) : (cellsIntS xs)[k + j]? = s.vals[j]? := by
  have hk : k < xs.length := (List.getElem?_eq_some_iff.1 h).1
  have e : xs = xs.take k ++ s :: xs.drop (k + 1) := by
    have h2 := List.take_append_drop k xs
    rw [List.drop_eq_getElem_cons hk] at h2
    have : xs[k] = s := by rw [List.getElem?_eq_getElem hk] at h; simpa using h
    rw [this] at h2; exact h2.symm
  have hl : (cellsIntS (xs.take k)).length = k := by rw [cellsIntS_len, List.length_take]; omega
  rw [e, show cellsIntS (xs.take k ++ s :: xs.drop (k + 1)) = cellsIntS (xs.take k) ++ (s.vals ++ cellsIntS (xs.drop (k + 1))) from by simp [cellsIntS], List.getElem?_append_right (by omega), hl, show k + j - k = j from by omega, List.getElem?_append_left (by rw [PIntS.vals_len]; exact hj)]
theorem cellsIntS_drop (xs : List PIntS) (i : Nat) : (cellsIntS xs).drop (i) = cellsIntS (xs.drop i) := by
  by_cases h : i ≤ xs.length
  · have e : cellsIntS xs = cellsIntS (xs.take i) ++ cellsIntS (xs.drop i) := by
      unfold cellsIntS
      rw [← List.flatMap_append, List.take_append_drop]
    have hl : (cellsIntS (xs.take i)).length = i := by rw [cellsIntS_len, List.length_take]; omega
    rw [e, List.drop_append_of_le_length (by omega), List.drop_of_length_le (by omega), List.nil_append]
  · rw [List.drop_of_length_le (show xs.length ≤ i by omega), List.drop_of_length_le (by rw [cellsIntS_len]; omega)]; rfl
theorem cellsIntS_take (xs : List PIntS) (i : Nat) : cellsIntS xs = cellsIntS (xs.take i) ++ (cellsIntS xs).drop (i) := by
  rw [cellsIntS_drop]
  unfold cellsIntS
  rw [← List.flatMap_append, List.take_append_drop]
theorem cellsIntS_set (xs : List PIntS) (i : Nat) (r : PIntS) (h : i < xs.length) : cellsIntS (xs.set i r) = cellsIntS (xs.take i) ++ (r.vals ++ (cellsIntS xs).drop (i + 1)) := by
  rw [List.set_eq_take_append_cons_drop, if_pos h, show i + 1 = (i + 1) by omega, cellsIntS_drop]
  simp [cellsIntS]
theorem one_IntS (xs : List PIntS) : ∀ u ∈ cellsIntS xs, u.oneCell' = true := by
  intro u hu
  obtain ⟨s, _, hs⟩ := List.mem_flatMap.1 hu
  exact s.vals_one u hs
theorem infoIntS : (Try.prog.info? 38).map (fun i => (i.zero, i.size, i.bytes)) = some (some (.slice none 0 0), 1, 24) := by kernel_rfl
def zerosIntS (n : Nat) : List Value := (List.replicate n [.slice none 0 0]).flatten
theorem zerosIntS_succ (n : Nat) : zerosIntS (n + 1) = .slice none 0 0 :: zerosIntS n := by
  unfold zerosIntS; rw [List.replicate_succ]; rfl
theorem zerosIntS_len (n : Nat) : (zerosIntS n).length = n := by
  induction n with
  | zero => rfl
  | succ n ih => rw [zerosIntS_succ]; simp [ih]
theorem zerosIntS_at (n j : Nat) (h : j < n) : (zerosIntS n)[j]? = [.slice none 0 0][j % 1]? := by
  induction n generalizing j with
  | zero => omega
  | succ n ih =>
    rw [zerosIntS_succ]
    by_cases hj : j < 1
    · rw [Nat.mod_eq_of_lt hj]
      rcases (show j = 0 by omega) with rfl <;> rfl
    · obtain ⟨i, rfl⟩ : ∃ i, j = i + 1 := ⟨j - 1, by omega⟩
      rw [Nat.add_mod_right, ← ih i (by omega)]
      rfl
theorem madeIntS (n : Nat) : (madeCells (.slice none 0 0 : Value).cells (n)).toList = zerosIntS n := by
  apply List.ext_getElem?
  intro j
  rw [Array.getElem?_toList]
  by_cases h : j < n
  · rw [zerosIntS_at n j h]
    have hm : j % 1 < 1 := Nat.mod_lt _ (by decide)
    simp only [madeCells, Value.cells]
    rw [Array.getElem?_eq_getElem (by simpa using h)]
    rcases (show j % 1 = 0 by omega) with e <;> simp [e]
  · rw [List.getElem?_eq_none (by rw [zerosIntS_len]; omega)]
    simp [madeCells, h]
theorem setIntS (A L : List Value) (v0 : Value) (o : Nat) (hA : A.length = o) (hL : o + 1 ≤ L.length) :
    ((A ++ L.drop o).set (o) v0) = A ++ v0 :: L.drop (o + 1) := by
  subst hA
  obtain ⟨a0, e⟩ : ∃ a0, L.drop A.length = a0 :: L.drop (A.length + 1) := ⟨_, by rw [List.drop_eq_getElem_cons (show A.length < L.length by omega)]⟩
  rw [e]
  generalize L.drop (A.length + 1) = D
  simp [List.set_append_right]
theorem storedIntS {w : World} {base n c g o : Nat} {e : TypeId} {size : Nat} {A L : List Value} (h : w.ownsRow base e size (.slice (some ⟨g, 0, none⟩) n c) n (A ++ L.drop o)) (hA : A.length = o) (hL : o + 1 ≤ L.length) (v0 : Value) :
    (w.setCell ⟨g, o, none⟩ v0).ownsRow base e size (.slice (some ⟨g, 0, none⟩) n c) n (A ++ v0 :: L.drop (o + 1)) ∧ w.grownBy (w.setCell ⟨g, o, none⟩ v0) (some g) := by
  have h0 := h.stored (o) v0
  refine ⟨?_, h0.2⟩
  have := h0.1
  rw [setIntS A L v0 o hA hL] at this
  exact this
/-- The slices inside: each owned, in blocks of their own, none in the block g0 of the row itself. -/
def InnerIntS (lo hi : Nat) (w : World) (g0 : Option Nat) (ps : List PIntS) : Prop :=
  (∀ (k : Nat) p, ps[k]? = some p → HInts lo hi w p.h p.x) ∧ (∀ (k : Nat) p b, ps[k]? = some p → p.h.blk = some b → g0 ≠ some b) ∧
  (∀ (i j : Nat) p q b, i ≠ j → ps[i]? = some p → ps[j]? = some q → p.h.blk = some b → q.h.blk ≠ some b)
/-- A row of the call's own in lo .. hi, the slices inside too. -/
def RawIntS (lo hi : Nat) (w : World) (v : Value) (ps : List PIntS) : Prop := OwnIn lo hi w 38 1 v ps.length (cellsIntS ps) ∧ InnerIntS lo hi w v.ownBlock ps
def OwnIntSS (lo hi : Nat) (w : World) (v : Value) (xs : List VIntS) : Prop := ∃ ps : List PIntS, ps.map PIntS.x = xs ∧ RawIntS lo hi w v ps
section
variable {lo hi lo' hi' : Nat} {w w' : World} {v : Value} {g0 : Option Nat} {ps : List PIntS} {xs : List VIntS}
theorem nil_InnerIntS (lo hi : Nat) (w : World) (g0 : Option Nat) : InnerIntS lo hi w g0 [] := ⟨fun k p h => by simp at h, fun k p b h => by simp at h, fun i j p q b _ h => by simp at h⟩
theorem InnerIntS.keep (h : InnerIntS lo hi w g0 ps) (hk : ∀ b, lo ≤ b → b < hi → b < w.heap.size → g0 ≠ some b → w'.heap[b]? = w.heap[b]?) : InnerIntS lo hi w' g0 ps :=
  ⟨fun k p hp => (h.1 k p hp).keep fun b hb => by
    have := (h.1 k p hp).lt hb
    exact hk b this.1 this.2.1 this.2.2 (h.2.1 k p b hp hb), h.2.1, h.2.2⟩
theorem InnerIntS.mono (h : InnerIntS lo hi w g0 ps) (h1 : lo' ≤ lo) (h2 : hi ≤ hi') : InnerIntS lo' hi' w g0 ps := ⟨fun k p hp => (h.1 k p hp).mono h1 h2, h.2.1, h.2.2⟩
theorem InnerIntS.below (h : InnerIntS lo hi w g0 ps) (hb : Below w.heap.size w w') : InnerIntS lo hi w' g0 ps := h.keep fun b _ _ hs _ => hb.block b hs
theorem InnerIntS.grown (h : InnerIntS lo hi w g0 ps) (hg : w.grownBy w' g0) : InnerIntS lo hi w' g0 ps := h.keep fun b _ _ hs hne => hg.block b hs (fun e => hne e.symm)
/-- One more, its slice in newer memory. -/
theorem InnerIntS.snoc (h : InnerIntS lo hi w g0 ps) {p : PIntS} (hp : HInts hi hi' w p.h p.x) (hl : lo ≤ hi) (hh : hi ≤ hi') (hg : ∀ b, g0 = some b → b < hi) : InnerIntS lo hi' w g0 (ps ++ [p]) := by
  have old : ∀ k q, k < ps.length → (ps ++ [p])[k]? = some q → ps[k]? = some q := fun k q hk hq => by rwa [List.getElem?_append_left hk] at hq
  have new : ∀ k q, ¬ k < ps.length → (ps ++ [p])[k]? = some q → k = ps.length ∧ q = p := fun k q hk hq => by
    have hl := (List.getElem?_eq_some_iff.1 hq).1
    rw [List.length_append, List.length_singleton] at hl
    have e : k = ps.length := by omega
    subst e
    simp at hq
    exact ⟨rfl, hq.symm⟩
  refine ⟨fun k q hq => ?_, fun k q b hq hb => ?_, fun i j q r b hij hq hr hb hc => ?_⟩
  · by_cases hk : k < ps.length
    · exact (h.1 k q (old k q hk hq)).mono (Nat.le_refl _) hh
    · obtain ⟨_, rfl⟩ := new k q hk hq
      exact hp.mono hl (Nat.le_refl _)
  · by_cases hk : k < ps.length
    · exact h.2.1 k q b (old k q hk hq) hb
    · obtain ⟨_, rfl⟩ := new k q hk hq
      intro e
      have := hg b e
      have := (hp.lt hb).1
      omega
  · by_cases hi : i < ps.length
    · by_cases hj : j < ps.length
      · exact h.2.2 i j q r b hij (old i q hi hq) (old j r hj hr) hb hc
      · obtain ⟨_, rfl⟩ := new j r hj hr
        have := ((h.1 i q (old i q hi hq)).lt hb).2.1
        have := (hp.lt hc).1
        omega
    · obtain ⟨ei, rfl⟩ := new i q hi hq
      by_cases hj : j < ps.length
      · have := ((h.1 j r (old j r hj hr)).lt hc).2.1
        have := (hp.lt hb).1
        omega
      · obtain ⟨ej, _⟩ := new j r hj hr
        omega
/-- One replaced: its slice as it lay, or in newer memory. -/
theorem InnerIntS.set (h : InnerIntS lo hi w g0 ps) {k : Nat} {p q : PIntS} (hp : ps[k]? = some p) (hq : HInts lo hi' w q.h q.x) (hh : hi ≤ hi') (hn : ∀ b, q.h.blk = some b → p.h.blk = some b ∨ (hi ≤ b ∧ ∀ b', g0 = some b' → b' < hi)) : InnerIntS lo hi' w g0 (ps.set k q) := by
  have hkl := (List.getElem?_eq_some_iff.1 hp).1
  have get : ∀ i r, (ps.set k q)[i]? = some r → (i = k ∧ r = q) ∨ (i ≠ k ∧ ps[i]? = some r) := fun i r hr => by
    by_cases e : i = k
    · subst e; rw [List.getElem?_set_self hkl] at hr; exact .inl ⟨rfl, (Option.some.inj hr).symm⟩
    · rw [List.getElem?_set_ne (Ne.symm e)] at hr; exact .inr ⟨e, hr⟩
  refine ⟨fun i r hr => ?_, fun i r b hr hb => ?_, fun i j r s b hij hr hs hb hc => ?_⟩
  · rcases get i r hr with ⟨_, rfl⟩ | ⟨_, hr⟩
    · exact hq
    · exact (h.1 i r hr).mono (Nat.le_refl _) hh
  · rcases get i r hr with ⟨_, rfl⟩ | ⟨_, hr⟩
    · rcases hn b hb with h1 | ⟨h1, h2⟩
      · exact h.2.1 k p b hp h1
      · intro e; have := h2 b e; omega
    · exact h.2.1 i r b hr hb
  · rcases get i r hr with ⟨ei, e1⟩ | ⟨ei, hr2⟩
    · rw [e1] at hb
      rcases get j s hs with ⟨ej, _⟩ | ⟨ej, hs2⟩
      · omega
      · rcases hn b hb with h1 | ⟨h1, _⟩
        · exact h.2.2 k j p s b (Ne.symm ej) hp hs2 h1 hc
        · have := ((h.1 j s hs2).lt hc).2.1; omega
    · rcases get j s hs with ⟨ej, e2⟩ | ⟨ej, hs2⟩
      · rw [e2] at hc
        rcases hn b hc with h1 | ⟨h1, _⟩
        · exact h.2.2 i k r p b ei hr2 hp hb h1
        · have := ((h.1 i r hr2).lt hb).2.1; omega
      · exact h.2.2 i j r s b hij hr2 hs2 hb hc
theorem RawIntS.keep (h : RawIntS lo hi w v ps) (hk : ∀ b, lo ≤ b → b < hi → b < w.heap.size → w'.heap[b]? = w.heap[b]?) : RawIntS lo hi w' v ps :=
  ⟨h.1.keep fun b hb => by have := h.1.lt hb; exact hk b this.1 this.2.1 this.2.2, h.2.keep fun b h1 h2 h3 _ => hk b h1 h2 h3⟩
theorem OwnIntSS.keep (h : OwnIntSS lo hi w v xs) (hk : ∀ b, lo ≤ b → b < hi → b < w.heap.size → w'.heap[b]? = w.heap[b]?) : OwnIntSS lo hi w' v xs := by
  obtain ⟨ps, e, h⟩ := h
  exact ⟨ps, e, h.keep hk⟩
theorem OwnIntSS.below (h : OwnIntSS lo hi w v xs) (hb : Below w.heap.size w w') : OwnIntSS lo hi w' v xs := h.keep fun b _ _ hs => hb.block b hs
theorem OwnIntSS.turned (h : OwnIntSS lo hi w v xs) (t : Turned lo' hi' w w') (hd : hi ≤ lo' ∨ hi' ≤ lo) : OwnIntSS lo hi w' v xs := h.keep fun b h1 h2 hs => t.block b hs (by omega)
theorem RawIntS.mono (h : RawIntS lo hi w v ps) (h1 : lo' ≤ lo) (h2 : hi ≤ hi') : RawIntS lo' hi' w v ps := ⟨h.1.mono h1 h2, h.2.mono h1 h2⟩
theorem OwnIntSS.mono (h : OwnIntSS lo hi w v xs) (h1 : lo' ≤ lo) (h2 : hi ≤ hi') : OwnIntSS lo' hi' w v xs := by
  obtain ⟨ps, e, h⟩ := h
  exact ⟨ps, e, h.mono h1 h2⟩
theorem nil_OwnIntSS (lo hi : Nat) (w : World) : OwnIntSS lo hi w (.slice none 0 0) [] := ⟨[], rfl, ⟨⟨by simp [cellsIntS], .inl ⟨rfl, rfl⟩⟩, fun b h => by cases h⟩, nil_InnerIntS _ _ _ _⟩
theorem OwnIntSS.form (h : OwnIntSS lo hi w v xs) : ∃ a c, v = .slice a xs.length c := by
  obtain ⟨ps, e, h⟩ := h
  have el : ps.length = xs.length := by rw [← e, List.length_map]
  rcases h.1.1.2 with ⟨rfl, h0⟩ | ⟨g, cap, cur, rfl, _⟩
  · exact ⟨none, 0, by rw [← el, h0]⟩
  · exact ⟨_, cap, by rw [← el]⟩
/-- An owned row's element as it lies. -/
theorem RawIntS.elem {g n c : Nat} (h : RawIntS lo hi w (.slice (some ⟨g, 0, none⟩) n c) ps) {k : Nat} {p : PIntS} (hp : ps[k]? = some p) : IntSAt w g (k) p.x p.h := by
  have each : ∀ j u, j < 1 → p.vals[j]? = some u → w.cell? ⟨g, k + j, none⟩ = some u := fun j u hj hu => by
    have hc := h.1.1.cells (g := g) rfl (k + j) u ((cellsIntS_at hp j hj).trans hu)
    rw [add_plain, Nat.zero_add] at hc; exact hc
  exact ⟨each 0 _ (by decide) rfl, (h.2.1 k p hp).is.1⟩
theorem RawIntS.len {a : Option Addr} {n c : Nat} (h : RawIntS lo hi w (.slice a n c) ps) : n = ps.length ∧ n ≤ c ∧ c ≤ maxLen := by
  rcases h.1.1.2 with ⟨e, h0⟩ | ⟨g, cap, cur, e, _, _, h1, h2, _⟩
  · cases e; exact ⟨h0.symm, Nat.le_refl _, by simp [maxLen]⟩
  · cases e; exact ⟨rfl, h1, h2⟩
theorem RawIntS.row {g n c : Nat} (h : RawIntS lo hi w (.slice (some ⟨g, 0, none⟩) n c) ps) : w.ownsRow lo 38 1 (.slice (some ⟨g, 0, none⟩) n c) n (cellsIntS ps) := by
  have := h.1.1
  rw [← h.len.1] at this
  exact this
theorem RawIntS.free {g n c : Nat} (h : RawIntS lo hi w (.slice (some ⟨g, 0, none⟩) n c) ps) (j : Nat) : w.frozen? ⟨g, j, none⟩ = false := h.row.frozenAt j
theorem RawIntS.is {a : Option Addr} {n c : Nat} (h : RawIntS lo hi w (.slice a n c) ps) : IsIntSS w a n c (ps.map PIntS.x) := by
  have hl := h.len
  refine ⟨by rw [List.length_map]; exact hl.1, hl.2.1, hl.2.2, ?_⟩
  rcases h.1.1.2 with ⟨e, h0⟩ | ⟨g, cap, cur, e, _, _, h1, h2, _⟩
  · exact .inl (by omega)
  · cases e
    refine .inr ⟨g, 0, rfl, (h.1.lt rfl).2.2, fun k x hx => ?_⟩
    rw [List.getElem?_map] at hx
    cases hp : ps[k]? with
    | none => rw [hp] at hx; cases hx
    | some p =>
      rw [hp] at hx
      cases hx
      exact ⟨p.h, by simpa using h.elem hp⟩
theorem OwnIntSS.is {a : Option Addr} {n c : Nat} (h : OwnIntSS lo hi w (.slice a n c) xs) : IsIntSS w a n c xs := by
  obtain ⟨ps, rfl, h⟩ := h
  exact h.is
/-- A slice's elements with their parts, as the source of an append. -/
theorem IsIntSS.src {a : Option Addr} {n c : Nat} (h : IsIntSS w a n c xs) : ∃ ps : List PIntS, ps.map PIntS.x = xs ∧ SrcAt w a n 1 (cellsIntS ps) ∧ ∀ (k : Nat) p, ps[k]? = some p → IsInts w p.h.a p.h.n p.h.c p.x := by
  by_cases h0 : n = 0
  · have : xs = [] := List.length_eq_zero_iff.1 (by rw [← h.1, h0])
    subst this
    exact ⟨[], rfl, ⟨by simp [cellsIntS, h0], .inl h0⟩, fun k p hp => by simp at hp⟩
  · obtain ⟨b, o, e, hb, hat⟩ := h.at (by omega)
    have each : ∀ i : Fin xs.length, ∃ hd : Hd, IntSAt w b (o + i.1) xs[i.1] hd := fun i => hat i.1 _ (List.getElem?_eq_getElem i.2)
    obtain ⟨pick, hpick⟩ := Classical.axiomOfChoice each
    refine ⟨(List.finRange xs.length).map fun i => ⟨xs[i.1], pick i⟩, ?_, ⟨?_, .inr ⟨_, e, fun j u hj => ?_⟩⟩, fun k p hp => ?_⟩
    · apply List.ext_getElem
      · simp
      · intro i h1 h2; simp
    · rw [cellsIntS_len, List.length_map, List.length_finRange, h.1, Nat.mul_one]
    · rw [add_plain]
      have hl := (List.getElem?_eq_some_iff.1 hj).1
      rw [cellsIntS_len, List.length_map, List.length_finRange] at hl
      obtain ⟨k, r, rfl, hr⟩ : ∃ k r, j = k + r ∧ r < 1 := ⟨j / 1, j % 1, by omega, Nat.mod_lt _ (by decide)⟩
      have hk : k < xs.length := by omega
      have hs : ((List.finRange xs.length).map fun i => (⟨xs[i.1], pick i⟩ : PIntS))[k]? = some ⟨xs[k], pick ⟨k, hk⟩⟩ := by simp [hk]
      have hu := cellsIntS_at hs r hr
      rw [hj] at hu
      have ha := hpick ⟨k, hk⟩
      rw [← Nat.add_assoc]
      rcases (show r = 0 by omega) with rfl
      · rw [hu]; exact ha.1
    · obtain ⟨hk, e2⟩ := List.getElem?_eq_some_iff.1 hp
      have hk' : k < xs.length := by simpa using hk
      simp at e2
      subst e2
      exact (hpick ⟨k, hk'⟩).2
end
theorem set_sliceIntS (ps : List PIntS) (k : Nat) (p : PIntS) (hp : ps[k]? = some p) (zs : List Int) (h' : Hd) : (cellsIntS ps).set (k ) (.slice h'.a h'.n h'.c) = cellsIntS (ps.set k ⟨zs, h'⟩) := by
  have hk := (List.getElem?_eq_some_iff.1 hp).1
  rw [cellsIntS_set ps k _ hk]
  have e : cellsIntS ps = cellsIntS (ps.take k) ++ (p.vals ++ (cellsIntS ps).drop (k + 1)) := by
    have h1 := cellsIntS_set ps k p hk
    rw [show ps.set k p = ps from by
      apply List.ext_getElem?
      intro j
      by_cases e : j = k
      · subst e; rw [List.getElem?_set_self hk, hp]
      · rw [List.getElem?_set_ne (Ne.symm e)]] at h1
    exact h1
  have hl : (cellsIntS (ps.take k)).length = k := by rw [cellsIntS_len, List.length_take]; omega
  generalize (cellsIntS ps).drop (k + 1) = D at e ⊢
  rw [e, List.set_append_right _ _ (by rw [hl]; exact Nat.le_refl _), hl, Nat.sub_self]
  simp [PIntS.vals]
/-- Another slice in the place of an element's. -/
theorem RawIntS.setSlice {lo hi hi' : Nat} {w : World} {g n c : Nat} {ps : List PIntS} (h : RawIntS lo hi w (.slice (some ⟨g, 0, none⟩) n c) ps) {k : Nat} {p : PIntS} (hp : ps[k]? = some p) {h' : Hd} {zs : List Int} (H : HInts lo hi' w h' zs) (hh : hi ≤ hi') (hn : ∀ b, h'.blk = some b → p.h.blk = some b ∨ hi ≤ b) :
    RawIntS lo hi' (w.setCell ⟨g, k , none⟩ (.slice h'.a h'.n h'.c)) (.slice (some ⟨g, 0, none⟩) n c) (ps.set k ⟨zs, h'⟩) ∧ w.grownBy (w.setCell ⟨g, k , none⟩ (.slice h'.a h'.n h'.c)) (some g) := by
  obtain ⟨rfl, _, _⟩ := h.len
  have s0 := h.1.1.stored (k ) (.slice h'.a h'.n h'.c)
  have G := s0.2
  have hg : g < hi := (h.1.lt rfl).2.1
  have H2 : HInts lo hi' (w.setCell ⟨g, k , none⟩ (.slice h'.a h'.n h'.c)) h' zs := H.keep fun b hb => G.block b (H.lt hb).2.2 (fun e => by
    cases e
    rcases hn g hb with h1 | h1
    · exact h.2.2.1 k p g hp h1 rfl
    · omega)
  refine ⟨⟨⟨?_, fun b hb => Nat.lt_of_lt_of_le (h.1.2 b hb) hh⟩, ?_⟩, G⟩
  · have h1 := s0.1
    rw [set_sliceIntS ps k p hp zs h'] at h1
    rw [List.length_set]
    exact h1
  · exact (h.2.grown G).set hp H2 hh (fun b hb => (hn b hb).imp id fun h1 => ⟨h1, fun b' e => by cases e; exact hg⟩)
/-- What an element's slice holds has turned; nothing else has. -/
theorem RawIntS.inner {lo hi : Nat} {w w' : World} {v : Value} {ps : List PIntS} (h : RawIntS lo hi w v ps) {k : Nat} {p : PIntS} (hp : ps[k]? = some p) {zs : List Int} (hl : zs.length = p.x.length) (hz : w'.ownsRow lo 3 1 (.slice p.h.a p.h.n p.h.c) p.x.length (intCells zs)) (hg : w.grownBy w' p.h.blk) :
    RawIntS lo hi w' v (ps.set k ⟨zs, p.h⟩) := by
  have hk := (List.getElem?_eq_some_iff.1 hp).1
  have hI := h.2.1 k p hp
  have H2 : HInts lo hi w' p.h zs := ⟨by rw [hl]; exact hz, hI.2⟩
  have O2 : OwnIn lo hi w' 38 1 v ps.length (cellsIntS ps) := h.1.keep fun b hb => hg.block b (h.1.lt hb).2.2 (fun e => h.2.2.1 k p b hp e.symm hb)
  refine ⟨?_, ?_⟩
  · rw [List.length_set, show cellsIntS (ps.set k ⟨zs, p.h⟩) = cellsIntS ps from by
      have h1 := cellsIntS_set ps k p hk
      rw [show ps.set k p = ps from by
        apply List.ext_getElem?
        intro j
        by_cases e : j = k
        · subst e; rw [List.getElem?_set_self hk, hp]
        · rw [List.getElem?_set_ne (Ne.symm e)]] at h1
      exact (cellsIntS_set ps k ⟨zs, p.h⟩ hk).trans h1.symm]
    exact O2
  · have get : ∀ i r, (ps.set k ⟨zs, p.h⟩)[i]? = some r → (i = k ∧ r = ⟨zs, p.h⟩) ∨ (i ≠ k ∧ ps[i]? = some r) := fun i r hr => by
      by_cases e : i = k
      · subst e; rw [List.getElem?_set_self hk] at hr; exact .inl ⟨rfl, (Option.some.inj hr).symm⟩
      · rw [List.getElem?_set_ne (Ne.symm e)] at hr; exact .inr ⟨e, hr⟩
    refine ⟨fun i r hr => ?_, fun i r b hr hb => ?_, fun i j r s b hij hr hs hb hc => ?_⟩
    · rcases get i r hr with ⟨_, rfl⟩ | ⟨ei, hr⟩
      · exact H2
      · exact (h.2.1 i r hr).keep fun b hb => hg.block b ((h.2.1 i r hr).lt hb).2.2 (fun e => h.2.2.2 i k r p b ei hr hp hb e.symm)
    · rcases get i r hr with ⟨_, rfl⟩ | ⟨_, hr⟩
      · exact h.2.2.1 k p b hp hb
      · exact h.2.2.1 i r b hr hb
    · rcases get i r hr with ⟨ei, rfl⟩ | ⟨ei, hr⟩
      · rcases get j s hs with ⟨ej, _⟩ | ⟨ej, hs⟩
        · omega
        · exact h.2.2.2 k j p s b (Ne.symm ej) hp hs hb hc
      · rcases get j s hs with ⟨ej, rfl⟩ | ⟨ej, hs⟩
        · exact h.2.2.2 i k r p b ei hr hp hb hc
        · exact h.2.2.2 i j r s b hij hr hs hb hc
end Go.Proofs.Ytodjgeffkfbpiaa
