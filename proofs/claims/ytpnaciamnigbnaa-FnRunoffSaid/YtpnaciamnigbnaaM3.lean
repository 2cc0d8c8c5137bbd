/- Texts in one: IntST, IntO, IntST2, Wd, Wm, Lm, Vh, ArrEq. -/
import Derived.Test.YtpnaciamnigbnaaM2
import Derived.Test.YtpnaciamnigbnaaM1
import Derived.Deep.RegionWith
import Derived.Laws.OwnMore
import Derived.Handy
import Derived.Laws.IdiomRangeMap
import Derived.Laws.MakeOwn
import Derived.BigQuiet
import Derived.Deep.QuietTactic
import Derived.Laws.StructEq
namespace Go.Proofs.Ytpnaciamnigbnaa
open Go.RowKit Go.ChangeShapes Go.WideShapes Go.Deep

abbrev VIntS := List Int
/-- Its value and where its slice lies. -/
structure PIntS where
  x : VIntS
  h : Hd
def PIntS.vals (p : PIntS) : List Value := [.slice p.h.a p.h.n p.h.c]
theorem PIntS.vals_len (p : PIntS) : p.vals.length = 1 := rfl
theorem PIntS.vals_one (p : PIntS) : ∀ u ∈ p.vals, u.oneCell' = true := by
  intro u hu
  simp [PIntS.vals] at hu
  rcases hu with rfl <;> rfl
/-- It lies at block b from offset o on, its slice's parts in h. -/
def IntSAt (w : World) (b o : Nat) (x : VIntS) (h : Hd) : Prop :=
  w.cell? ⟨b, o, none⟩ = some (.slice h.a h.n h.c) ∧ IsInts w h.a h.n h.c x
def IsIntSS (w : World) (a : Option Addr) (len cap : Nat) (xs : List VIntS) : Prop :=
  len = xs.length ∧ len ≤ cap ∧ cap ≤ maxLen ∧ (len = 0 ∨ ∃ b o, a = some ⟨b, o, none⟩ ∧ b < w.heap.size ∧ ∀ (k : Nat) x, xs[k]? = some x → ∃ h, IntSAt w b (o + k) x h)
theorem IntSAt.below {w w' : World} {b o : Nat} {x : VIntS} {h : Hd} (H : IntSAt w b o x h) (hb : Below w.heap.size w w') (hlt : b < w.heap.size) : IntSAt w' b o x h :=
  ⟨(hb.cell (p := ⟨b, o, none⟩) hlt).trans H.1, H.2.below hb⟩
theorem IsIntSS.below {w w' : World} {a : Option Addr} {len cap : Nat} {xs : List VIntS} (h : IsIntSS w a len cap xs) (hb : Below w.heap.size w w') : IsIntSS w' a len cap xs := by
  refine ⟨h.1, h.2.1, h.2.2.1, ?_⟩
  rcases h.2.2.2 with h0 | ⟨b, o, rfl, h1, h2⟩
  · exact .inl h0
  · exact .inr ⟨b, o, rfl, Nat.lt_of_lt_of_le h1 hb.size, fun k x hx => by
      obtain ⟨h, hh⟩ := h2 k x hx
      exact ⟨h, hh.below hb h1⟩⟩
theorem IsIntSS.at {w : World} {a : Option Addr} {len cap : Nat} {xs : List VIntS} (h : IsIntSS w a len cap xs) (hpos : 0 < len) : ∃ b o, a = some ⟨b, o, none⟩ ∧ b < w.heap.size ∧ ∀ (k : Nat) x, xs[k]? = some x → ∃ h, IntSAt w b (o + k) x h := by
  rcases h.2.2.2 with h0 | h1
  · omega
  · exact h1
theorem nil_IsIntSS (w : World) : IsIntSS w none 0 0 [] := ⟨rfl, Nat.le_refl _, by simp [maxLen], .inl rfl⟩
/-- The first elements of a slice. -/
theorem IsIntSS.take {w : World} {a : Option Addr} {len cap : Nat} {xs : List VIntS} (h : IsIntSS w a len cap xs) {k : Nat} (hk : k ≤ len) : IsIntSS w a k cap (xs.take k) := by
  refine ⟨by rw [List.length_take, ← h.1]; omega, Nat.le_trans hk h.2.1, h.2.2.1, ?_⟩
  by_cases h0 : k = 0
  · exact .inl h0
  · obtain ⟨b, o, e, h1, h2⟩ := h.at (by omega)
    refine .inr ⟨b, o, e, h1, fun j x hj => h2 j x ?_⟩
    rw [List.getElem?_take] at hj
    split at hj
    · exact hj
    · cases hj
set_option maxRecDepth 100000 in
theorem open_IntSS {H : Type} {enc : TypeId × Value → H} {W : World} {base : Nat} {held : Bool} {a : Option Addr} {len cap : Nat} {d : DataW H} {p : List MemPlace}
    (h : DataW.Trod enc Try.prog W base (fun _ => true) held 24 (.slice a len cap) d p) : ∃ xs : List VIntS, IsIntSS W a len cap xs := by
  obtain ⟨fuel, hf⟩ := h
  rcases open_slice Try.underlying24 hf with ⟨hcs, _⟩ | ⟨y, l, cp, m, n, D, Pl, hcs, hb, hl, hm, hmm, _, hi⟩
  · simp [Value.cells] at hcs
    obtain ⟨rfl, rfl, rfl⟩ := hcs
    exact ⟨[], nil_IsIntSS W⟩
  · simp [Value.cells] at hcs
    obtain ⟨rfl, rfl, rfl⟩ := hcs
    simp at hmm
    subst hmm
    obtain ⟨b, o, spot⟩ := y
    have hC : Try.prog.cellsOf 38 = 1 := by kernel_rfl
    have each : ∀ i, i < len → ∃ (x : VIntS) (h : Hd), W.cell? ((⟨b, o, spot⟩ : Addr).add i) = some (.slice h.a h.n h.c) ∧ IsInts W h.a h.n h.c x := by
      intro i hlt
      obtain ⟨cs', hc, ht'⟩ := hi i (by omega)
      rw [hC] at hc
      obtain ⟨_, hcl, hat⟩ := World.cells?_some hc
      obtain ⟨c, rfl⟩ : ∃ c, cs' = [c] := List.length_eq_one_iff.1 hcl
      obtain ⟨hd, zs, rfl, hz⟩ := trod_ints Try.underlying38 Try.underlying3 (by kernel_rfl) ht'
      refine ⟨zs, hd, ?_, hz⟩
      have h1 := hat 0 (by simp)
      rw [Nat.mul_one] at h1
      rw [Go.Deep.add_add] at h1
      simpa using h1
    by_cases h0 : len = 0
    · subst h0
      exact ⟨[], rfl, hl, hm, .inl rfl⟩
    · obtain ⟨_, _, h1, _⟩ := each 0 (by omega)
      have hspot : spot = none := by simpa [Addr.add] using World.cell?_spot h1
      subst hspot
      obtain ⟨f, hf⟩ := Classical.axiomOfChoice (r := fun (i : Fin len) (x : VIntS) => ∃ h : Hd, W.cell? ((⟨b, o, none⟩ : Addr).add i.1) = some (.slice h.a h.n h.c) ∧ IsInts W h.a h.n h.c x) (fun i => each i.1 i.2)
      refine ⟨(List.finRange len).map f, by simp, hl, hm, .inr ⟨b, o, rfl, ?_, fun k x hx => ?_⟩⟩
      · rw [add_plain] at h1
        exact World.lt_of_cell h1
      · obtain ⟨hk, e2⟩ := List.getElem?_eq_some_iff.1 hx
        have hk' : k < len := by simpa using hk
        simp at e2
        subst e2
        obtain ⟨h, h2, h3⟩ := hf ⟨k, hk'⟩
        rw [add_plain] at h2
        exact ⟨h, h2, h3⟩
def cellsIntS (ps : List PIntS) : List Value := ps.flatMap PIntS.vals
theorem cellsIntS_len (ps : List PIntS) : (cellsIntS ps).length = ps.length := by
  induction ps with
  | nil => rfl
  | cons x l ih => simp [cellsIntS, PIntS.vals_len] at *; omega
theorem cellsIntS_append (xs ys : List PIntS) : cellsIntS (xs ++ ys) = cellsIntS xs ++ cellsIntS ys := by simp [cellsIntS]
theorem cellsIntS_snoc (xs : List PIntS) (s : PIntS) : cellsIntS (xs ++ [s]) = cellsIntS xs ++ s.vals := by simp [cellsIntS]
theorem cellsIntS_at {xs : List PIntS} {k : Nat} {s : PIntS} (h : xs[k]? = some s) (j : Nat) (hj : j < 1) : (cellsIntS xs)[k + j]? = s.vals[j]? := by
  have hk : k < xs.length := (List.getElem?_eq_some_iff.1 h).1
  have e : xs = xs.take k ++ s :: xs.drop (k + 1) := by
    have h2 := List.take_append_drop k xs
    rw [List.drop_eq_getElem_cons hk] at h2
    have : xs[k] = s := by rw [List.getElem?_eq_getElem hk] at h; simpa using h
    rw [this] at h2; exact h2.symm
  have hl : (cellsIntS (xs.take k)).length = k := by rw [cellsIntS_len, List.length_take]; omega
  rw [e, show cellsIntS (xs.take k ++ s :: xs.drop (k + 1)) = cellsIntS (xs.take k) ++ (s.vals ++ cellsIntS (xs.drop (k + 1))) from by simp [cellsIntS], List.getElem?_append_right (by omega), hl, show k + j - k = j from by omega, List.getElem?_append_left (by rw [PIntS.vals_len]; exact hj)]
theorem cellsIntS_drop (xs : List PIntS) (i : Nat) : (cellsIntS xs).drop (i) = cellsIntS (xs.drop i) := by
  by_cases h : i ≤ xs.length
  · have e : cellsIntS xs = cellsIntS (xs.take i) ++ cellsIntS (xs.drop i) := by
      unfold cellsIntS
      rw [← List.flatMap_append, List.take_append_drop]
    have hl : (cellsIntS (xs.take i)).length = i := by rw [cellsIntS_len, List.length_take]; omega
    rw [e, List.drop_append_of_le_length (by omega), List.drop_of_length_le (by omega), List.nil_append]
  · rw [List.drop_of_length_le (show xs.length ≤ i by omega), List.drop_of_length_le (by rw [cellsIntS_len]; omega)]; rfl
theorem cellsIntS_take (xs : List PIntS) (i : Nat) : cellsIntS xs = cellsIntS (xs.take i) ++ (cellsIntS xs).drop (i) := by
  rw [cellsIntS_drop]
  unfold cellsIntS
  rw [← List.flatMap_append, List.take_append_drop]
theorem cellsIntS_set (xs : List PIntS) (i : Nat) (r : PIntS) (h : i < xs.length) : cellsIntS (xs.set i r) = cellsIntS (xs.take i) ++ (r.vals ++ (cellsIntS xs).drop (i + 1)) := by
  rw [List.set_eq_take_append_cons_drop, if_pos h, show i + 1 = (i + 1) by omega, cellsIntS_drop]
  simp [cellsIntS]
theorem one_IntS (xs : List PIntS) : ∀ u ∈ cellsIntS xs, u.oneCell' = true := by
  intro u hu
  obtain ⟨s, _, hs⟩ := List.mem_flatMap.1 hu
  exact s.vals_one u hs
theorem infoIntS : (Try.prog.info? 38).map (fun i => (i.zero, i.size, i.bytes)) = some (some (.slice none 0 0), 1, 24) := by kernel_rfl
def zerosIntS (n : Nat) : List Value := (List.replicate n [.slice none 0 0]).flatten
theorem zerosIntS_succ (n : Nat) : zerosIntS (n + 1) = .slice none 0 0 :: zerosIntS n := by
  unfold zerosIntS; rw [List.replicate_succ]; rfl
theorem zerosIntS_len (n : Nat) : (zerosIntS n).length = n := by
  induction n with
  | zero => rfl
  | succ n ih => rw [zerosIntS_succ]; simp [ih]
theorem zerosIntS_at (n j : Nat) (h : j < n) : (zerosIntS n)[j]? = [.slice none 0 0][j % 1]? := by
  induction n generalizing j with
  | zero => omega
  | succ n ih =>
    rw [zerosIntS_succ]
    by_cases hj : j < 1
    · rw [Nat.mod_eq_of_lt hj]
      rcases (show j = 0 by omega) with rfl <;> rfl
    · obtain ⟨i, rfl⟩ : ∃ i, j = i + 1 := ⟨j - 1, by omega⟩
      rw [Nat.add_mod_right, ← ih i (by omega)]
      rfl
theorem madeIntS (n : Nat) : (madeCells (.slice none 0 0 : Value).cells (n)).toList = zerosIntS n := by
  apply List.ext_getElem?
  intro j
  rw [Array.getElem?_toList]
  by_cases h : j < n
  · rw [zerosIntS_at n j h]
    have hm : j % 1 < 1 := Nat.mod_lt _ (by decide)
    simp only [madeCells, Value.cells]
    rw [Array.getElem?_eq_getElem (by simpa using h)]
    rcases (show j % 1 = 0 by omega) with e <;> simp [e]
  · rw [List.getElem?_eq_none (by rw [zerosIntS_len]; omega)]
    simp [madeCells, h]
theorem setIntS (A L : List Value) (v0 : Value) (o : Nat) (hA : A.length = o) (hL : o + 1 ≤ L.length) :
    ((A ++ L.drop o).set (o) v0) = A ++ v0 :: L.drop (o + 1) := by
  subst hA
  obtain ⟨a0, e⟩ : ∃ a0, L.drop A.length = a0 :: L.drop (A.length + 1) := ⟨_, by rw [List.drop_eq_getElem_cons (show A.length < L.length by omega)]⟩
  rw [e]
  generalize L.drop (A.length + 1) = D
  simp [List.set_append_right]
theorem storedIntS {w : World} {base n c g o : Nat} {e : TypeId} {size : Nat} {A L : List Value} (h : w.ownsRow base e size (.slice (some ⟨g, 0, none⟩) n c) n (A ++ L.drop o)) (hA : A.length = o) (hL : o + 1 ≤ L.length) (v0 : Value) :
    (w.setCell ⟨g, o, none⟩ v0).ownsRow base e size (.slice (some ⟨g, 0, none⟩) n c) n (A ++ v0 :: L.drop (o + 1)) ∧ w.grownBy (w.setCell ⟨g, o, none⟩ v0) (some g) := by
  have h0 := h.stored (o) v0
  refine ⟨?_, h0.2⟩
  have := h0.1
  rw [setIntS A L v0 o hA hL] at this
  exact this
/-- The slices inside: each owned, in blocks of their own, none in the block g0 of the row itself. -/
def InnerIntS (lo hi : Nat) (w : World) (g0 : Option Nat) (ps : List PIntS) : Prop :=
  (∀ (k : Nat) p, ps[k]? = some p → HInts lo hi w p.h p.x) ∧ (∀ (k : Nat) p b, ps[k]? = some p → p.h.blk = some b → g0 ≠ some b) ∧
  (∀ (i j : Nat) p q b, i ≠ j → ps[i]? = some p → ps[j]? = some q → p.h.blk = some b → q.h.blk ≠ some b)
/-- A row of the call's own in lo .. hi, the slices inside too. -/
def RawIntS (lo hi : Nat) (w : World) (v : Value) (ps : List PIntS) : Prop := OwnIn lo hi w 38 1 v ps.length (cellsIntS ps) ∧ InnerIntS lo hi w v.ownBlock ps
def OwnIntSS (lo hi : Nat) (w : World) (v : Value) (xs : List VIntS) : Prop := ∃ ps : List PIntS, ps.map PIntS.x = xs ∧ RawIntS lo hi w v ps
section
variable {lo hi lo' hi' : Nat} {w w' : World} {v : Value} {g0 : Option Nat} {ps : List PIntS} {xs : List VIntS}
theorem nil_InnerIntS (lo hi : Nat) (w : World) (g0 : Option Nat) : InnerIntS lo hi w g0 [] := ⟨fun k p h => by simp at h, fun k p b h => by simp at h, fun i j p q b _ h => by simp at h⟩
theorem InnerIntS.keep (h : InnerIntS lo hi w g0 ps) (hk : ∀ b, lo ≤ b → b < hi → b < w.heap.size → g0 ≠ some b → w'.heap[b]? = w.heap[b]?) : InnerIntS lo hi w' g0 ps :=
  ⟨fun k p hp => (h.1 k p hp).keep fun b hb => by
    have := (h.1 k p hp).lt hb
    exact hk b this.1 this.2.1 this.2.2 (h.2.1 k p b hp hb), h.2.1, h.2.2⟩
theorem InnerIntS.mono (h : InnerIntS lo hi w g0 ps) (h1 : lo' ≤ lo) (h2 : hi ≤ hi') : InnerIntS lo' hi' w g0 ps := ⟨fun k p hp => (h.1 k p hp).mono h1 h2, h.2.1, h.2.2⟩
theorem InnerIntS.below (h : InnerIntS lo hi w g0 ps) (hb : Below w.heap.size w w') : InnerIntS lo hi w' g0 ps := h.keep fun b _ _ hs _ => hb.block b hs
theorem InnerIntS.grown (h : InnerIntS lo hi w g0 ps) (hg : w.grownBy w' g0) : InnerIntS lo hi w' g0 ps := h.keep fun b _ _ hs hne => hg.block b hs (fun e => hne e.symm)
/-- One more, its slice in newer memory. -/
theorem InnerIntS.snoc (h : InnerIntS lo hi w g0 ps) {p : PIntS} (hp : HInts hi hi' w p.h p.x) (hl : lo ≤ hi) (hh : hi ≤ hi') (hg : ∀ b, g0 = some b → b < hi) : InnerIntS lo hi' w g0 (ps ++ [p]) := by
  have old : ∀ k q, k < ps.length → (ps ++ [p])[k]? = some q → ps[k]? = some q := fun k q hk hq => by rwa [List.getElem?_append_left hk] at hq
  have new : ∀ k q, ¬ k < ps.length → (ps ++ [p])[k]? = some q → k = ps.length ∧ q = p := fun k q hk hq => by
    have hl := (List.getElem?_eq_some_iff.1 hq).1
    rw [List.length_append, List.length_singleton] at hl
    have e : k = ps.length := by omega
    subst e
    simp at hq
    exact ⟨rfl, hq.symm⟩
  refine ⟨fun k q hq => ?_, fun k q b hq hb => ?_, fun i j q r b hij hq hr hb hc => ?_⟩
  · by_cases hk : k < ps.length
    · exact (h.1 k q (old k q hk hq)).mono (Nat.le_refl _) hh
    · obtain ⟨_, rfl⟩ := new k q hk hq
      exact hp.mono hl (Nat.le_refl _)
  · by_cases hk : k < ps.length
    · exact h.2.1 k q b (old k q hk hq) hb
    · obtain ⟨_, rfl⟩ := new k q hk hq
      intro e
      have := hg b e
      have := (hp.lt hb).1
      omega
  · by_cases hi : i < ps.length
    · by_cases hj : j < ps.length
      · exact h.2.2 i j q r b hij (old i q hi hq) (old j r hj hr) hb hc
      · obtain ⟨_, rfl⟩ := new j r hj hr
        have := ((h.1 i q (old i q hi hq)).lt hb).2.1
        have := (hp.lt hc).1
        omega
    · obtain ⟨ei, rfl⟩ := new i q hi hq
      by_cases hj : j < ps.length
      · have := ((h.1 j r (old j r hj hr)).lt hc).2.1
        have := (hp.lt hb).1
        omega
      · obtain ⟨ej, _⟩ := new j r hj hr
        omega
/-- One replaced: its slice as it lay, or in newer memory. -/
theorem InnerIntS.set (h : InnerIntS lo hi w g0 ps) {k : Nat} {p q : PIntS} (hp : ps[k]? = some p) (hq : HInts lo hi' w q.h q.x) (hh : hi ≤ hi') (hn : ∀ b, q.h.blk = some b → p.h.blk = some b ∨ (hi ≤ b ∧ ∀ b', g0 = some b' → b' < hi)) : InnerIntS lo hi' w g0 (ps.set k q) := by
  have hkl := (List.getElem?_eq_some_iff.1 hp).1
  have get : ∀ i r, (ps.set k q)[i]? = some r → (i = k ∧ r = q) ∨ (i ≠ k ∧ ps[i]? = some r) := fun i r hr => by
    by_cases e : i = k
    · subst e; rw [List.getElem?_set_self hkl] at hr; exact .inl ⟨rfl, (Option.some.inj hr).symm⟩
    · rw [List.getElem?_set_ne (Ne.symm e)] at hr; exact .inr ⟨e, hr⟩
  refine ⟨fun i r hr => ?_, fun i r b hr hb => ?_, fun i j r s b hij hr hs hb hc => ?_⟩
  · rcases get i r hr with ⟨_, rfl⟩ | ⟨_, hr⟩
    · exact hq
    · exact (h.1 i r hr).mono (Nat.le_refl _) hh
  · rcases get i r hr with ⟨_, rfl⟩ | ⟨_, hr⟩
    · rcases hn b hb with h1 | ⟨h1, h2⟩
      · exact h.2.1 k p b hp h1
      · intro e; have := h2 b e; omega
    · exact h.2.1 i r b hr hb
  · rcases get i r hr with ⟨ei, e1⟩ | ⟨ei, hr2⟩
    · rw [e1] at hb
      rcases get j s hs with ⟨ej, _⟩ | ⟨ej, hs2⟩
      · omega
      · rcases hn b hb with h1 | ⟨h1, _⟩
        · exact h.2.2 k j p s b (Ne.symm ej) hp hs2 h1 hc
        · have := ((h.1 j s hs2).lt hc).2.1; omega
    · rcases get j s hs with ⟨ej, e2⟩ | ⟨ej, hs2⟩
      · rw [e2] at hc
        rcases hn b hc with h1 | ⟨h1, _⟩
        · exact h.2.2 i k r p b ei hr2 hp hb h1
        · have := ((h.1 i r hr2).lt hb).2.1; omega
      · exact h.2.2 i j r s b hij hr2 hs2 hb hc
theorem RawIntS.keep (h : RawIntS lo hi w v ps) (hk : ∀ b, lo ≤ b → b < hi → b < w.heap.size → w'.heap[b]? = w.heap[b]?) : RawIntS lo hi w' v ps :=
  ⟨h.1.keep fun b hb => by have := h.1.lt hb; exact hk b this.1 this.2.1 this.2.2, h.2.keep fun b h1 h2 h3 _ => hk b h1 h2 h3⟩
theorem OwnIntSS.keep (h : OwnIntSS lo hi w v xs) (hk : ∀ b, lo ≤ b → b < hi → b < w.heap.size → w'.heap[b]? = w.heap[b]?) : OwnIntSS lo hi w' v xs := by
  obtain ⟨ps, e, h⟩ := h
  exact ⟨ps, e, h.keep hk⟩
theorem OwnIntSS.below (h : OwnIntSS lo hi w v xs) (hb : Below w.heap.size w w') : OwnIntSS lo hi w' v xs := h.keep fun b _ _ hs => hb.block b hs
theorem OwnIntSS.turned (h : OwnIntSS lo hi w v xs) (t : Turned lo' hi' w w') (hd : hi ≤ lo' ∨ hi' ≤ lo) : OwnIntSS lo hi w' v xs := h.keep fun b h1 h2 hs => t.block b hs (by omega)
theorem RawIntS.mono (h : RawIntS lo hi w v ps) (h1 : lo' ≤ lo) (h2 : hi ≤ hi') : RawIntS lo' hi' w v ps := ⟨h.1.mono h1 h2, h.2.mono h1 h2⟩
theorem OwnIntSS.mono (h : OwnIntSS lo hi w v xs) (h1 : lo' ≤ lo) (h2 : hi ≤ hi') : OwnIntSS lo' hi' w v xs := by
  obtain ⟨ps, e, h⟩ := h
  exact ⟨ps, e, h.mono h1 h2⟩
theorem nil_OwnIntSS (lo hi : Nat) (w : World) : OwnIntSS lo hi w (.slice none 0 0) [] := ⟨[], rfl, ⟨⟨by simp [cellsIntS], .inl ⟨rfl, rfl⟩⟩, fun b h => by cases h⟩, nil_InnerIntS _ _ _ _⟩
theorem OwnIntSS.form (h : OwnIntSS lo hi w v xs) : ∃ a c, v = .slice a xs.length c := by
  obtain ⟨ps, e, h⟩ := h
  have el : ps.length = xs.length := by rw [← e, List.length_map]
  rcases h.1.1.2 with ⟨rfl, h0⟩ | ⟨g, cap, cur, rfl, _⟩
  · exact ⟨none, 0, by rw [← el, h0]⟩
  · exact ⟨_, cap, by rw [← el]⟩
/-- An owned row's element as it lies. -/
theorem RawIntS.elem {g n c : Nat} (h : RawIntS lo hi w (.slice (some ⟨g, 0, none⟩) n c) ps) {k : Nat} {p : PIntS} (hp : ps[k]? = some p) : IntSAt w g (k) p.x p.h := by
  have each : ∀ j u, j < 1 → p.vals[j]? = some u → w.cell? ⟨g, k + j, none⟩ = some u := fun j u hj hu => by
    have hc := h.1.1.cells (g := g) rfl (k + j) u ((cellsIntS_at hp j hj).trans hu)
    rw [add_plain, Nat.zero_add] at hc; exact hc
  exact ⟨each 0 _ (by decide) rfl, (h.2.1 k p hp).is.1⟩
theorem RawIntS.len {a : Option Addr} {n c : Nat} (h : RawIntS lo hi w (.slice a n c) ps) : n = ps.length ∧ n ≤ c ∧ c ≤ maxLen := by
  rcases h.1.1.2 with ⟨e, h0⟩ | ⟨g, cap, cur, e, _, _, h1, h2, _⟩
  · cases e; exact ⟨h0.symm, Nat.le_refl _, by simp [maxLen]⟩
  · cases e; exact ⟨rfl, h1, h2⟩
theorem RawIntS.row {g n c : Nat} (h : RawIntS lo hi w (.slice (some ⟨g, 0, none⟩) n c) ps) : w.ownsRow lo 38 1 (.slice (some ⟨g, 0, none⟩) n c) n (cellsIntS ps) := by
  have := h.1.1
  rw [← h.len.1] at this
  exact this
theorem RawIntS.free {g n c : Nat} (h : RawIntS lo hi w (.slice (some ⟨g, 0, none⟩) n c) ps) (j : Nat) : w.frozen? ⟨g, j, none⟩ = false := h.row.frozenAt j
theorem RawIntS.is {a : Option Addr} {n c : Nat} (h : RawIntS lo hi w (.slice a n c) ps) : IsIntSS w a n c (ps.map PIntS.x) := by
  have hl := h.len
  refine ⟨by rw [List.length_map]; exact hl.1, hl.2.1, hl.2.2, ?_⟩
  rcases h.1.1.2 with ⟨e, h0⟩ | ⟨g, cap, cur, e, _, _, h1, h2, _⟩
  · exact .inl (by omega)
  · cases e
    refine .inr ⟨g, 0, rfl, (h.1.lt rfl).2.2, fun k x hx => ?_⟩
    rw [List.getElem?_map] at hx
    cases hp : ps[k]? with
    | none => rw [hp] at hx; cases hx
    | some p =>
      rw [hp] at hx
      cases hx
      exact ⟨p.h, by simpa using h.elem hp⟩
theorem OwnIntSS.is {a : Option Addr} {n c : Nat} (h : OwnIntSS lo hi w (.slice a n c) xs) : IsIntSS w a n c xs := by
  obtain ⟨ps, rfl, h⟩ := h
  exact h.is
/-- A slice's elements with their parts, as the source of an append. -/
theorem IsIntSS.src {a : Option Addr} {n c : Nat} (h : IsIntSS w a n c xs) : ∃ ps : List PIntS, ps.map PIntS.x = xs ∧ SrcAt w a n 1 (cellsIntS ps) ∧ ∀ (k : Nat) p, ps[k]? = some p → IsInts w p.h.a p.h.n p.h.c p.x := by
  by_cases h0 : n = 0
  · have : xs = [] := List.length_eq_zero_iff.1 (by rw [← h.1, h0])
    subst this
    exact ⟨[], rfl, ⟨by simp [cellsIntS, h0], .inl h0⟩, fun k p hp => by simp at hp⟩
  · obtain ⟨b, o, e, hb, hat⟩ := h.at (by omega)
    have each : ∀ i : Fin xs.length, ∃ hd : Hd, IntSAt w b (o + i.1) xs[i.1] hd := fun i => hat i.1 _ (List.getElem?_eq_getElem i.2)
    obtain ⟨pick, hpick⟩ := Classical.axiomOfChoice each
    refine ⟨(List.finRange xs.length).map fun i => ⟨xs[i.1], pick i⟩, ?_, ⟨?_, .inr ⟨_, e, fun j u hj => ?_⟩⟩, fun k p hp => ?_⟩
    · apply List.ext_getElem
      · simp
      · intro i h1 h2; simp
    · rw [cellsIntS_len, List.length_map, List.length_finRange, h.1, Nat.mul_one]
    · rw [add_plain]
      have hl := (List.getElem?_eq_some_iff.1 hj).1
      rw [cellsIntS_len, List.length_map, List.length_finRange] at hl
      obtain ⟨k, r, rfl, hr⟩ : ∃ k r, j = k + r ∧ r < 1 := ⟨j / 1, j % 1, by omega, Nat.mod_lt _ (by decide)⟩
      have hk : k < xs.length := by omega
      have hs : ((List.finRange xs.length).map fun i => (⟨xs[i.1], pick i⟩ : PIntS))[k]? = some ⟨xs[k], pick ⟨k, hk⟩⟩ := by simp [hk]
      have hu := cellsIntS_at hs r hr
      rw [hj] at hu
      have ha := hpick ⟨k, hk⟩
      rw [← Nat.add_assoc]
      rcases (show r = 0 by omega) with rfl
      · rw [hu]; exact ha.1
    · obtain ⟨hk, e2⟩ := List.getElem?_eq_some_iff.1 hp
      have hk' : k < xs.length := by simpa using hk
      simp at e2
      subst e2
      exact (hpick ⟨k, hk'⟩).2
end
theorem set_sliceIntS (ps : List PIntS) (k : Nat) (p : PIntS) (hp : ps[k]? = some p) (zs : List Int) (h' : Hd) : (cellsIntS ps).set (k ) (.slice h'.a h'.n h'.c) = cellsIntS (ps.set k ⟨zs, h'⟩) := by
  have hk := (List.getElem?_eq_some_iff.1 hp).1
  rw [cellsIntS_set ps k _ hk]
  have e : cellsIntS ps = cellsIntS (ps.take k) ++ (p.vals ++ (cellsIntS ps).drop (k + 1)) := by
    have h1 := cellsIntS_set ps k p hk
    rw [show ps.set k p = ps from by
      apply List.ext_getElem?
      intro j
      by_cases e : j = k
      · subst e; rw [List.getElem?_set_self hk, hp]
      · rw [List.getElem?_set_ne (Ne.symm e)]] at h1
    exact h1
  have hl : (cellsIntS (ps.take k)).length = k := by rw [cellsIntS_len, List.length_take]; omega
  generalize (cellsIntS ps).drop (k + 1) = D at e ⊢
  rw [e, List.set_append_right _ _ (by rw [hl]; exact Nat.le_refl _), hl, Nat.sub_self]
  simp [PIntS.vals]
/-- Another slice in the place of an element's. -/
theorem RawIntS.setSlice {lo hi hi' : Nat} {w : World} {g n c : Nat} {ps : List PIntS} (h : RawIntS lo hi w (.slice (some ⟨g, 0, none⟩) n c) ps) {k : Nat} {p : PIntS} (hp : ps[k]? = some p) {h' : Hd} {zs : List Int} (H : HInts lo hi' w h' zs) (hh : hi ≤ hi') (hn : ∀ b, h'.blk = some b → p.h.blk = some b ∨ hi ≤ b) :
    RawIntS lo hi' (w.setCell ⟨g, k , none⟩ (.slice h'.a h'.n h'.c)) (.slice (some ⟨g, 0, none⟩) n c) (ps.set k ⟨zs, h'⟩) ∧ w.grownBy (w.setCell ⟨g, k , none⟩ (.slice h'.a h'.n h'.c)) (some g) := by
  obtain ⟨rfl, _, _⟩ := h.len
  have s0 := h.1.1.stored (k ) (.slice h'.a h'.n h'.c)
  have G := s0.2
  have hg : g < hi := (h.1.lt rfl).2.1
  have H2 : HInts lo hi' (w.setCell ⟨g, k , none⟩ (.slice h'.a h'.n h'.c)) h' zs := H.keep fun b hb => G.block b (H.lt hb).2.2 (fun e => by
    cases e
    rcases hn g hb with h1 | h1
    · exact h.2.2.1 k p g hp h1 rfl
    · omega)
  refine ⟨⟨⟨?_, fun b hb => Nat.lt_of_lt_of_le (h.1.2 b hb) hh⟩, ?_⟩, G⟩
  · have h1 := s0.1
    rw [set_sliceIntS ps k p hp zs h'] at h1
    rw [List.length_set]
    exact h1
  · exact (h.2.grown G).set hp H2 hh (fun b hb => (hn b hb).imp id fun h1 => ⟨h1, fun b' e => by cases e; exact hg⟩)
/-- What an element's slice holds has turned; nothing else has. -/
theorem RawIntS.inner {lo hi : Nat} {w w' : World} {v : Value} {ps : List PIntS} (h : RawIntS lo hi w v ps) {k : Nat} {p : PIntS} (hp : ps[k]? = some p) {zs : List Int} (hl : zs.length = p.x.length) (hz : w'.ownsRow lo 3 1 (.slice p.h.a p.h.n p.h.c) p.x.length (intCells zs)) (hg : w.grownBy w' p.h.blk) :
    RawIntS lo hi w' v (ps.set k ⟨zs, p.h⟩) := by
  have hk := (List.getElem?_eq_some_iff.1 hp).1
  have hI := h.2.1 k p hp
  have H2 : HInts lo hi w' p.h zs := ⟨by rw [hl]; exact hz, hI.2⟩
  have O2 : OwnIn lo hi w' 38 1 v ps.length (cellsIntS ps) := h.1.keep fun b hb => hg.block b (h.1.lt hb).2.2 (fun e => h.2.2.1 k p b hp e.symm hb)
  refine ⟨?_, ?_⟩
  · rw [List.length_set, show cellsIntS (ps.set k ⟨zs, p.h⟩) = cellsIntS ps from by
      have h1 := cellsIntS_set ps k p hk
      rw [show ps.set k p = ps from by
        apply List.ext_getElem?
        intro j
        by_cases e : j = k
        · subst e; rw [List.getElem?_set_self hk, hp]
        · rw [List.getElem?_set_ne (Ne.symm e)]] at h1
      exact (cellsIntS_set ps k ⟨zs, p.h⟩ hk).trans h1.symm]
    exact O2
  · have get : ∀ i r, (ps.set k ⟨zs, p.h⟩)[i]? = some r → (i = k ∧ r = ⟨zs, p.h⟩) ∨ (i ≠ k ∧ ps[i]? = some r) := fun i r hr => by
      by_cases e : i = k
      · subst e; rw [List.getElem?_set_self hk] at hr; exact .inl ⟨rfl, (Option.some.inj hr).symm⟩
      · rw [List.getElem?_set_ne (Ne.symm e)] at hr; exact .inr ⟨e, hr⟩
    refine ⟨fun i r hr => ?_, fun i r b hr hb => ?_, fun i j r s b hij hr hs hb hc => ?_⟩
    · rcases get i r hr with ⟨_, rfl⟩ | ⟨ei, hr⟩
      · exact H2
      · exact (h.2.1 i r hr).keep fun b hb => hg.block b ((h.2.1 i r hr).lt hb).2.2 (fun e => h.2.2.2 i k r p b ei hr hp hb e.symm)
    · rcases get i r hr with ⟨_, rfl⟩ | ⟨_, hr⟩
      · exact h.2.2.1 k p b hp hb
      · exact h.2.2.1 i r b hr hb
    · rcases get i r hr with ⟨ei, rfl⟩ | ⟨ei, hr⟩
      · rcases get j s hs with ⟨ej, _⟩ | ⟨ej, hs⟩
        · omega
        · exact h.2.2.2 k j p s b (Ne.symm ej) hp hs hb hc
      · rcases get j s hs with ⟨ej, rfl⟩ | ⟨ej, hs⟩
        · exact h.2.2.2 i k r p b ei hr hp hb hc
        · exact h.2.2.2 i j r s b hij hr hs hb hc
end Go.Proofs.Ytpnaciamnigbnaa
namespace Go.Proofs.Ytpnaciamnigbnaa
open Go.RowKit

def OwnIntS (lo hi : Nat) (w : World) (v : Value) (xs : List Int) : Prop := OwnIn lo hi w 3 1 v xs.length (intCells xs)
section
variable {lo hi lo' hi' : Nat} {w w' : World} {v : Value} {xs : List Int}
theorem OwnIntS.form (h : OwnIntS lo hi w v xs) : ∃ a c, v = .slice a xs.length c := by
  obtain ⟨a, c, e, _⟩ := isInts_ownIn h
  exact ⟨a, c, e⟩
theorem OwnIntS.is {a : Option Addr} {n c : Nat} (h : OwnIntS lo hi w (.slice a n c) xs) : IsInts w a n c xs := by
  obtain ⟨a', c', e, hi⟩ := isInts_ownIn h
  simp only [Value.slice.injEq] at e
  obtain ⟨rfl, rfl, rfl⟩ := e
  exact hi
theorem OwnIntS.below (h : OwnIntS lo hi w v xs) (hb : Below w.heap.size w w') : OwnIntS lo hi w' v xs := OwnIn.below h hb
theorem OwnIntS.turned (h : OwnIntS lo hi w v xs) (t : Turned lo' hi' w w') (hd : hi ≤ lo' ∨ hi' ≤ lo) : OwnIntS lo hi w' v xs := OwnIn.turned h t hd
theorem OwnIntS.mono (h : OwnIntS lo hi w v xs) (h1 : lo' ≤ lo) (h2 : hi ≤ hi') : OwnIntS lo' hi' w v xs := OwnIn.mono h h1 h2
theorem nil_OwnIntS (lo hi : Nat) (w : World) : OwnIntS lo hi w (.slice none 0 0) [] := ⟨⟨by simp [intCells], .inl ⟨rfl, rfl⟩⟩, fun b h => by cases h⟩
end
def condInt (xs : List Int) : Prop := xs.length ≤ 1048576
def cntInt (xs : List Int) : Nat := xs.length
def mkInt (k : Nat) (xs : List Int) : List Int := marksI k xs.length
theorem cntInt_cond {xs : List Int} (h : condInt xs) : cntInt xs ≤ 10000000 := Nat.le_trans h (by decide)
/-- A row of the call's own, by its parts, and the world below as it was. -/
def HPost (xs : List Int) (w : World) (e : Ending) (w' : World) : Prop := ∃ h : Hd, e = .returned (.slice h.a h.n h.c) ∧ HInts w.heap.size w'.heap.size w' h xs ∧ Below w.heap.size w w'
/-- What one row's marks leave. -/
def IntSMarked (lo hi : Nat) (v : Value) (xs : List Int) (k : Nat) (w : World) (e : Ending) (w' : World) : Prop := e = .returned (.int .i64 ((k + cntInt xs : Nat) : Int)) ∧ OwnIntS lo hi w' v (mkInt k xs) ∧ Turned lo hi w w'
end Go.Proofs.Ytpnaciamnigbnaa
namespace Go.Proofs.Ytpnaciamnigbnaa
open Go.RowKit

def condIntS1 (x : VIntS) : Prop := x.length ≤ 1048576
def sizeIntS : List VIntS → Nat
  | [] => 0
  | x :: l => 1 + x.length + sizeIntS l
theorem sizeIntS_app (a b : List VIntS) : sizeIntS (a ++ b) = sizeIntS a + sizeIntS b := by
  induction a with
  | nil => simp [sizeIntS]
  | cons x l ih => simp [sizeIntS, ih]; omega
def condIntS (xs : List VIntS) : Prop := sizeIntS xs ≤ 1048576
def cntIntS : List VIntS → Nat
  | [] => 0
  | x :: l => x.length + cntIntS l
theorem cntIntS_app (a b : List VIntS) : cntIntS (a ++ b) = cntIntS a + cntIntS b := by
  induction a with
  | nil => simp [cntIntS]
  | cons x l ih => simp [cntIntS, ih]; omega
theorem cntIntS_size (xs : List VIntS) : cntIntS xs ≤ sizeIntS xs := by
  induction xs with
  | nil => simp [cntIntS, sizeIntS]
  | cons x l ih => simp [cntIntS, sizeIntS]; omega
theorem sizeIntS_len (xs : List VIntS) : xs.length ≤ sizeIntS xs := by
  induction xs with
  | nil => simp [sizeIntS]
  | cons x l ih => simp [sizeIntS]; omega
theorem cntIntS_cond {xs : List VIntS} (h : condIntS xs) : cntIntS xs ≤ 1048576 := by
  have := cntIntS_size xs
  unfold condIntS at h
  omega
theorem condIntS_len {xs : List VIntS} (h : condIntS xs) : xs.length ≤ 1048576 := Nat.le_trans (sizeIntS_len xs) h
theorem condIntS_at {xs : List VIntS} (h : condIntS xs) {k : Nat} {x : VIntS} (hx : xs[k]? = some x) : x.length ≤ 1048576 := by
  unfold condIntS at h
  have hk := (List.getElem?_eq_some_iff.1 hx).1
  have e : xs = xs.take k ++ x :: xs.drop (k + 1) := by
    have h2 := List.take_append_drop k xs
    rw [List.drop_eq_getElem_cons hk] at h2
    have : xs[k] = x := by rw [List.getElem?_eq_getElem hk] at hx; simpa using hx
    rw [this] at h2; exact h2.symm
  rw [e, sizeIntS_app] at h
  simp [sizeIntS] at h
  omega
theorem sizeIntS_take {xs : List VIntS} {k : Nat} {x : VIntS} (hx : xs[k]? = some x) : sizeIntS (xs.take (k + 1)) = sizeIntS (xs.take k) + (1 + x.length) := by
  rw [List.take_add_one, hx, sizeIntS_app]
  simp [sizeIntS]
theorem cntIntS_take {xs : List VIntS} {k : Nat} {x : VIntS} (hx : xs[k]? = some x) : cntIntS (xs.take (k + 1)) = cntIntS (xs.take k) + (x.length) := by
  rw [List.take_add_one, hx, cntIntS_app]
  simp [cntIntS]
theorem cntIntS_take_le (xs : List VIntS) (k : Nat) : cntIntS (xs.take k) ≤ cntIntS xs := by
  conv => rhs; rw [← List.take_append_drop k xs, cntIntS_app]
  omega
/-- The marks of one, from k on. -/
def mkIntS1 (k : Nat) (x : VIntS) : VIntS := marksI k x.length
def mkIntS : Nat → List VIntS → List VIntS
  | _, [] => []
  | k, x :: l => mkIntS1 k x :: mkIntS (k + (x.length)) l
theorem mkIntS_app (k : Nat) (a b : List VIntS) : mkIntS k (a ++ b) = mkIntS k a ++ mkIntS (k + cntIntS a) b := by
  induction a generalizing k with
  | nil => simp [mkIntS, cntIntS]
  | cons x l ih =>
    simp only [List.cons_append, mkIntS, ih, cntIntS]
    rw [show k + (x.length) + cntIntS l = k + (x.length + cntIntS l) by omega]
theorem mkIntS_len (k : Nat) (xs : List VIntS) : (mkIntS k xs).length = xs.length := by
  induction xs generalizing k with
  | nil => rfl
  | cons x l ih => simp [mkIntS, ih]
theorem mkIntS_take {xs : List VIntS} {j : Nat} {x : VIntS} (hx : xs[j]? = some x) (k : Nat) : mkIntS k (xs.take (j + 1)) = mkIntS k (xs.take j) ++ [mkIntS1 (k + cntIntS (xs.take j)) x] := by
  rw [List.take_add_one, hx, mkIntS_app]
  rfl
theorem mkIntS_at {xs : List VIntS} {j : Nat} {x : VIntS} (hx : xs[j]? = some x) (k : Nat) : (mkIntS k xs)[j]? = some (mkIntS1 (k + cntIntS (xs.take j)) x) := by
  have hj := (List.getElem?_eq_some_iff.1 hx).1
  have e : xs = xs.take j ++ x :: xs.drop (j + 1) := by
    have h2 := List.take_append_drop j xs
    rw [List.drop_eq_getElem_cons hj] at h2
    have : xs[j] = x := by rw [List.getElem?_eq_getElem hj] at hx; simpa using hx
    rw [this] at h2; exact h2.symm
  have hl : (mkIntS k (xs.take j)).length = j := by rw [mkIntS_len, List.length_take]; omega
  conv => lhs; rw [e, mkIntS_app]
  rw [List.getElem?_append_right (by omega), hl, Nat.sub_self]
  rfl
/-- A copy of one. -/
def IntSPost (x : VIntS) (w : World) (e : Ending) (w' : World) : Prop := ∃ h : Hd, e = .returned (.slice h.a h.n h.c) ∧ HInts w.heap.size w'.heap.size w' h x ∧ Below w.heap.size w w'
def IntSOPost (xs : List VIntS) (w : World) (e : Ending) (w' : World) : Prop := ∃ v, e = .returned v ∧ OwnIntSS w.heap.size w'.heap.size w' v xs ∧ Below w.heap.size w w'
/-- What one row's marks leave. -/
def IntSSMarked (lo hi : Nat) (v : Value) (xs : List VIntS) (k : Nat) (w : World) (e : Ending) (w' : World) : Prop := e = .returned (.int .i64 ((k + cntIntS xs : Nat) : Int)) ∧ OwnIntSS lo hi w' v (mkIntS k xs) ∧ Turned lo hi w w'
end Go.Proofs.Ytpnaciamnigbnaa
namespace Go.Proofs.Ytpnaciamnigbnaa
open Go.RowKit

def vsq (p : Sq) : VIntA2 := ⟨(p.1 : Int), (p.2 : Int)⟩
def sqZ (r c : Int) : Sq := (r.toNat, c.toNat)
/-- It is a relief and has the square. -/
def hasB (D : List VIntS) (r c : Int) : Bool := rlB D && (decide (0 ≤ r) && (decide (r < (D.length : Int)) && (decide (0 ≤ c) && decide (c < (colsN D : Int)))))
theorem hasB_yes {D : List VIntS} {r c : Int} (h : hasB D r c = true) : RL D ∧ ∃ p : Sq, inR D p ∧ r = (p.1 : Int) ∧ c = (p.2 : Int) := by
  unfold hasB at h
  simp only [Bool.and_eq_true, decide_eq_true_eq] at h
  obtain ⟨h1, h2, h3, h4, h5⟩ := h
  exact ⟨rlB_iff.1 h1, (r.toNat, c.toNat), ⟨by simp only []; omega, by simp only []; omega⟩, by simp only []; omega, by simp only []; omega⟩
theorem sqZ_nat (p : Sq) : sqZ (p.1 : Int) (p.2 : Int) = p := by
  obtain ⟨a, b⟩ := p
  simp [sqZ]
theorem hasB_nat {D : List VIntS} (hD : RL D) {p : Sq} (hp : inR D p) : hasB D (p.1 : Int) (p.2 : Int) = true := by
  unfold hasB
  simp only [Bool.and_eq_true, decide_eq_true_eq]
  have h1 := hp.1
  have h2 := hp.2
  exact ⟨rlB_iff.2 hD, by omega, by omega, by omega, by omega⟩
def runsB (D : List VIntS) (r c : Int) : Bool := hasB D r c && !(nextSq D (sqZ r c) == sqZ r c)
def gridOf (D : List VIntS) (L : Sq → Int) : List VIntS := (List.range D.length).map fun r => (List.range (colsN D)).map fun c => L (r, c)
theorem gridOf_len (D : List VIntS) (L : Sq → Int) : (gridOf D L).length = D.length := by simp [gridOf]
theorem gridOf_at (D : List VIntS) (L : Sq → Int) {r : Nat} (h : r < D.length) : (gridOf D L)[r]? = some ((List.range (colsN D)).map fun c => L (r, c)) := by simp [gridOf, h]
theorem gridOf_congr {D : List VIntS} {L M : Sq → Int} (h : ∀ p, inR D p → L p = M p) : gridOf D L = gridOf D M := by
  unfold gridOf
  refine List.map_congr_left fun r hr => List.map_congr_left fun c hc => h (r, c) ⟨by simpa using hr, by simpa using hc⟩
/-- Lakes so far: how many squares, and the sum. -/
def lakeS (D : List VIntS) (L : Sq → Int) (s : Int × Int) (p : Sq) : Int × Int := if 0 < L p - hA D p then (s.1 + 1, s.2 + (L p - hA D p)) else s
def lakesOf (D : List VIntS) (L : Sq → Int) : Int × Int := (sqs D).foldl (lakeS D L) (0, 0)
theorem lake_bd {D : List VIntS} (hD : RL D) {L : Sq → Int} (hL : ∀ p, inR D p → L p ≤ 9999) : ∀ (l : List Sq), (∀ p ∈ l, inR D p) → ∀ (s : Int × Int) (k : Nat), 0 ≤ s.1 ∧ s.1 ≤ k ∧ 0 ≤ s.2 ∧ s.2 ≤ k * 9999 →
    0 ≤ (l.foldl (lakeS D L) s).1 ∧ (l.foldl (lakeS D L) s).1 ≤ (k + l.length : Nat) ∧ 0 ≤ (l.foldl (lakeS D L) s).2 ∧ (l.foldl (lakeS D L) s).2 ≤ (k + l.length : Nat) * 9999 := by
  intro l
  induction l with
  | nil => intro _ s k h; simpa using h
  | cons x l ih =>
    intro hl s k h
    rw [List.foldl_cons]
    have hx := hl x (by simp)
    have h1 := hL x hx
    obtain ⟨_, _, _, _, h2, _⟩ := hD.at hx
    have := ih (fun p hp => hl p (List.mem_cons_of_mem _ hp)) (lakeS D L s x) (k + 1) (by
      unfold lakeS
      split
      · refine ⟨by simp only []; omega, by simp only []; omega, by simp only []; omega, by simp only []; omega⟩
      · omega)
    simp only [List.length_cons] at this ⊢
    omega
theorem lake_congr {D : List VIntS} {L M : Sq → Int} : ∀ (l : List Sq), (∀ p ∈ l, L p = M p) → ∀ s, l.foldl (lakeS D L) s = l.foldl (lakeS D M) s := by
  intro l
  induction l with
  | nil => intro _ s; rfl
  | cons x l ih =>
    intro h s
    rw [List.foldl_cons, List.foldl_cons, show lakeS D L s x = lakeS D M s x from by unfold lakeS; rw [h x (by simp)]]
    exact ih (fun p hp => h p (List.mem_cons_of_mem _ hp)) _
def rivI (D : List VIntS) (q : Sq) : Int := (riv D q : Int)
def steepB (D : List VIntS) : Bool := rlB D && !(fall D (topOf D (fall D)) == 0)
def IsRelief_0 (D : List VIntS) : Bool := rlB D
def NextSquare_0 (D : List VIntS) (r c : Int) : Int := if runsB D r c = true then ((nextSq D (sqZ r c)).1 : Int) else 0
def NextSquare_1 (D : List VIntS) (r c : Int) : Int := if runsB D r c = true then ((nextSq D (sqZ r c)).2 : Int) else 0
def NextSquare_2 (D : List VIntS) (r c : Int) : Bool := runsB D r c
def RunOff_0 (D : List VIntS) (r c : Int) : List VIntA2 := if hasB D r c = true then (runOf D (sqZ r c)).map vsq else []
def RunOff_1 (D : List VIntS) (r c : Int) : Bool := hasB D r c
def PitsOf_0 (D : List VIntS) : List VIntA2 := if rlB D = true then (pits D).map vsq else []
def PitsOf_1 (D : List VIntS) : Bool := rlB D
def Catchment_0 (D : List VIntS) (r c : Int) : Int := if hasB D r c = true then rivI D (sqZ r c) else 0
def Catchment_1 (D : List VIntS) (r c : Int) : Bool := hasB D r c
def GreatestRiver_0 (D : List VIntS) : Int := if rlB D = true then ((topOf D (rivI D)).1 : Int) else 0
def GreatestRiver_1 (D : List VIntS) : Int := if rlB D = true then ((topOf D (rivI D)).2 : Int) else 0
def GreatestRiver_2 (D : List VIntS) : Bool := rlB D
def LevelAt_0 (D : List VIntS) (r c : Int) : Int := if hasB D r c = true then lev D (sqZ r c) else 0
def LevelAt_1 (D : List VIntS) (r c : Int) : Bool := hasB D r c
def FilledRelief_0 (D : List VIntS) : List VIntS := if rlB D = true then gridOf D (lev D) else []
def FilledRelief_1 (D : List VIntS) : Bool := rlB D
def LakesOf_0 (D : List VIntS) : Int := if rlB D = true then (lakesOf D (lev D)).1 else 0
def LakesOf_1 (D : List VIntS) : Int := if rlB D = true then (lakesOf D (lev D)).2 else 0
def LakesOf_2 (D : List VIntS) : Bool := rlB D
def SteepestSquare_0 (D : List VIntS) : Int := if steepB D = true then ((topOf D (fall D)).1 : Int) else 0
def SteepestSquare_1 (D : List VIntS) : Int := if steepB D = true then ((topOf D (fall D)).2 : Int) else 0
def SteepestSquare_2 (D : List VIntS) : Int := if steepB D = true then fall D (topOf D (fall D)) else 0
def SteepestSquare_3 (D : List VIntS) : Bool := steepB D
theorem RunOff_0_cnt (D : List VIntS) (r c : Int) (_ : condIntS D) : cntIntA2 (RunOff_0 D r c) ≤ 1000000 := by
  unfold RunOff_0 cntIntA2
  split
  · rename_i h
    obtain ⟨hD, p, hp, rfl, rfl⟩ := hasB_yes h
    rw [sqZ_nat, List.length_map]
    have := runOf_len hD hp
    omega
  · simp
theorem PitsOf_0_cnt (D : List VIntS) (_ : condIntS D) : cntIntA2 (PitsOf_0 D) ≤ 1000000 := by
  unfold PitsOf_0 cntIntA2
  split
  · rename_i h
    rw [List.length_map]
    have h1 : (pits D).length ≤ (sqs D).length := List.length_filter_le _ _
    have h2 := sqs_len (rlB_iff.1 h)
    omega
  · simp
theorem cntIntS_le : ∀ (xs : List VIntS) (k : Nat), (∀ x ∈ xs, x.length ≤ k) → cntIntS xs ≤ xs.length * k := by
  intro xs k
  induction xs with
  | nil => intro _; simp [cntIntS]
  | cons x l ih =>
    intro h
    have h1 := ih fun y hy => h y (List.mem_cons_of_mem _ hy)
    have h2 := h x (by simp)
    simp only [cntIntS, List.length_cons, Nat.succ_mul]
    omega
theorem FilledRelief_0_cnt (D : List VIntS) (_ : condIntS D) : cntIntS (FilledRelief_0 D) ≤ 1000000 := by
  unfold FilledRelief_0
  split
  · rename_i h
    have hD := rlB_iff.1 h
    have h1 := cntIntS_le (gridOf D (lev D)) 8 (fun x hx => by
      simp only [gridOf, List.mem_map] at hx
      obtain ⟨r, _, rfl⟩ := hx
      have := hD.n8
      simpa using this)
    rw [gridOf_len] at h1
    have := hD.m8
    omega
  · simp [cntIntS]
end Go.Proofs.Ytpnaciamnigbnaa
namespace Go.Proofs.Ytpnaciamnigbnaa

theorem run_cons {D : List VIntS} (hD : RL D) {p : Sq} (hp : inR D p) : (nextSq D p = p ∧ runOf D p = [p]) ∨ (nextSq D p ≠ p ∧ runOf D p = p :: runOf D (nextSq D p)) := by
  by_cases h : nextSq D p = p
  · exact .inl ⟨h, by rw [runOf_step hD hp, if_pos h]⟩
  · exact .inr ⟨h, by rw [runOf_step hD hp, if_neg h]⟩
theorem run_head {D : List VIntS} (hD : RL D) {p : Sq} (hp : inR D p) : (runOf D p)[0]? = some p := by
  rcases run_cons hD hp with ⟨_, e⟩ | ⟨_, e⟩ <;> rw [e] <;> rfl
/-- By the height of its first square. -/
theorem run_ind {D : List VIntS} (hD : RL D) (P : Sq → Prop) (h : ∀ p, inR D p → (nextSq D p ≠ p → P (nextSq D p)) → P p) : ∀ (n : Nat) (p : Sq), inR D p → (hA D p).toNat ≤ n → P p := by
  intro n
  induction n with
  | zero =>
    intro p hp hn
    refine h p hp (fun hne => ?_)
    have h1 := next_lt hne
    obtain ⟨_, _, _, _, h2, _⟩ := hD.at (next_in hp)
    omega
  | succ n ih =>
    intro p hp hn
    refine h p hp (fun hne => ih _ (next_in hp) ?_)
    have h1 := next_lt hne
    obtain ⟨_, _, _, _, h2, _⟩ := hD.at (next_in hp)
    omega
theorem run_all {D : List VIntS} (hD : RL D) (P : Sq → Prop) (h : ∀ p, inR D p → (nextSq D p ≠ p → P (nextSq D p)) → P p) {p : Sq} (hp : inR D p) : P p := run_ind hD P h _ p hp (Nat.le_refl _)
/-- Each square of a run: the next one is where the water runs to; the last is a pit. -/
theorem run_at {D : List VIntS} (hD : RL D) {p : Sq} (hp : inR D p) : ∀ i q, (runOf D p)[i]? = some q → (i + 1 < (runOf D p).length → nextSq D q ≠ q ∧ (runOf D p)[i + 1]? = some (nextSq D q)) ∧ ((runOf D p).length ≤ i + 1 → nextSq D q = q) := by
  refine run_all hD (fun p => ∀ i q, (runOf D p)[i]? = some q → (i + 1 < (runOf D p).length → nextSq D q ≠ q ∧ (runOf D p)[i + 1]? = some (nextSq D q)) ∧ ((runOf D p).length ≤ i + 1 → nextSq D q = q)) (fun p hp ih i q hq => ?_) hp
  rcases run_cons hD hp with ⟨h1, e⟩ | ⟨h1, e⟩
  · rw [e] at hq ⊢
    cases i with
    | zero =>
      simp at hq
      subst hq
      exact ⟨fun h => by simp at h, fun _ => h1⟩
    | succ i => simp at hq
  · rw [e] at hq ⊢
    have ih := ih h1
    cases i with
    | zero =>
      simp at hq
      subst hq
      have h0 := run_head hD (next_in hp)
      refine ⟨fun _ => ⟨h1, by simpa using h0⟩, fun h => ?_⟩
      have := (List.getElem?_eq_some_iff.1 h0).1
      simp only [List.length_cons] at h
      omega
    | succ i =>
      rw [List.getElem?_cons_succ] at hq
      have := ih i q hq
      simp only [List.length_cons, List.getElem?_cons_succ]
      exact ⟨fun h => this.1 (by omega), fun h => this.2 (by omega)⟩
theorem run_low {D : List VIntS} (hD : RL D) {p : Sq} (hp : inR D p) : ∀ q ∈ runOf D p, hA D q ≤ hA D p := by
  refine run_all hD (fun p => ∀ q ∈ runOf D p, hA D q ≤ hA D p) (fun p hp ih q hq => ?_) hp
  rcases run_cons hD hp with ⟨h1, e⟩ | ⟨h1, e⟩
  · rw [e] at hq
    rw [List.mem_singleton.1 hq]; exact Int.le_refl _
  · rw [e] at hq
    rcases List.mem_cons.1 hq with h | h
    · rw [h]; exact Int.le_refl _
    · have := ih h1 q h
      have := next_lt h1
      omega
/-- No square twice. -/
theorem run_nodup {D : List VIntS} (hD : RL D) {p : Sq} (hp : inR D p) : (runOf D p).Nodup := by
  refine run_all hD (fun p => (runOf D p).Nodup) (fun p hp ih => ?_) hp
  rcases run_cons hD hp with ⟨h1, e⟩ | ⟨h1, e⟩
  · rw [e]; simp
  · rw [e, List.nodup_cons]
    refine ⟨fun hm => ?_, ih h1⟩
    have := run_low hD (next_in hp) p hm
    have := next_lt h1
    omega
theorem run_apart {D : List VIntS} (hD : RL D) {p : Sq} (hp : inR D p) {i k : Nat} {q r : Sq} (hq : (runOf D p)[i]? = some q) (hr : (runOf D p)[k]? = some r) (h : k < i) : r ≠ q := by
  intro e
  subst e
  obtain ⟨h1, e1⟩ := List.getElem?_eq_some_iff.1 hq
  obtain ⟨h2, e2⟩ := List.getElem?_eq_some_iff.1 hr
  exact (List.pairwise_iff_getElem.1 (run_nodup hD hp)) k i h2 h1 h (e2.trans e1.symm)
theorem run_pits {D : List VIntS} (hD : RL D) {p : Sq} (hp : inR D p) : (runOf D p).countP (pitB D) = 1 := by
  refine run_all hD (fun p => (runOf D p).countP (pitB D) = 1) (fun p hp ih => ?_) hp
  rcases run_cons hD hp with ⟨h1, e⟩ | ⟨h1, e⟩
  · rw [e]; simp [pitB, h1]
  · rw [e, List.countP_cons, ih h1]; simp [pitB, h1]
theorem nodup_sqRow (n r : Nat) : (sqRow n r).Nodup := by
  unfold sqRow
  rw [List.Nodup, List.pairwise_map]
  exact List.nodup_range.imp (fun h e => h (by simpa using e))
theorem nodup_sqsTo (n k : Nat) : (sqsTo n k).Nodup := by
  induction k with
  | zero => simp [sqsTo]
  | succ k ih =>
    rw [sqsTo_succ, List.nodup_append]
    refine ⟨ih, nodup_sqRow n k, fun a ha b hb e => ?_⟩
    have h1 := mem_sqsTo.1 ha
    have h2 := mem_sqRow.1 hb
    rw [e] at h1
    omega
theorem sum_count (f : Sq → Bool) : ∀ (l : List Sq), l.Nodup → ∀ (m : List Sq), (∀ q ∈ m, f q = true → q ∈ l) → (∀ q ∈ l, f q = true) → (l.map fun q => m.count q).sum = m.countP f := by
  intro l
  induction l with
  | nil =>
    intro _ m hm _
    simp only [List.map_nil, List.sum_nil]
    symm
    rw [List.countP_eq_zero]
    intro q hq h
    have := hm q hq h
    simp at this
  | cons x l ih =>
    intro hn m hm hl
    rw [List.nodup_cons] at hn
    rw [List.map_cons, List.sum_cons]
    have h1 := ih hn.2 (m.filter (fun q => !(q == x))) (fun q hq hf => by
      rw [List.mem_filter] at hq
      have h2 := hm q hq.1 hf
      rcases List.mem_cons.1 h2 with e | e
      · rw [e] at hq; simp at hq
      · exact e) (fun q hq => hl q (List.mem_cons_of_mem _ hq))
    have h2 : (l.map fun q => (m.filter (fun q => !(q == x))).count q) = l.map fun q => m.count q := by
      refine List.map_congr_left fun q hq => ?_
      rw [List.count_filter]
      have : q ≠ x := fun e => hn.1 (e ▸ hq)
      simp [this]
    rw [h2] at h1
    rw [h1, List.countP_filter]
    have h3 : ∀ m : List Sq, (∀ q ∈ m, True) → m.count x + m.countP (fun a => f a && !(a == x)) = m.countP f := by
      intro m _
      induction m with
      | nil => rfl
      | cons y m ihm =>
        rw [List.count_cons, List.countP_cons, List.countP_cons]
        have := ihm (fun _ _ => trivial)
        by_cases e : y = x
        · subst e
          have := hl y (by simp)
          simp [this]; omega
        · cases hf : f y <;> simp [e] <;> omega
    exact h3 m (fun _ _ => trivial)
theorem count_flat (f : Sq → Bool) (g : Sq → List Sq) : ∀ l : List Sq, (l.flatMap g).countP f = (l.map fun p => (g p).countP f).sum := by
  intro l
  induction l with
  | nil => rfl
  | cons x l ih => simp [List.countP_append, ih]
theorem sum_ones (l : List Sq) : (l.map fun _ => (1 : Nat)).sum = l.length := by
  induction l with
  | nil => rfl
  | cons x l ih => rw [List.map_cons, List.sum_cons, ih, List.length_cons]; omega
/-- The pits' catchments together are all squares. -/
theorem pits_sum {D : List VIntS} (hD : RL D) : ((pits D).map fun q => riv D q).sum = (sqs D).length := by
  have hn : (pits D).Nodup := (nodup_sqsTo _ _).filter _
  have hin : ∀ p ∈ sqs D, inR D p := fun p hp => mem_sqs.1 hp
  have h1 := sum_count (pitB D) (pits D) hn ((sqs D).flatMap (runOf D)) (fun q hq hf => by
    obtain ⟨p, hp, hq⟩ := List.mem_flatMap.1 hq
    exact List.mem_filter.2 ⟨mem_sqs.2 (runOf_in (hin p hp) q hq), hf⟩) (fun q hq => (List.mem_filter.1 hq).2)
  rw [count_flat] at h1
  rw [show ((sqs D).map fun p => (runOf D p).countP (pitB D)) = (sqs D).map fun _ => 1 from List.map_congr_left fun p hp => run_pits hD (hin p hp)] at h1
  rw [show ((pits D).map fun q => riv D q) = (pits D).map fun q => ((sqs D).flatMap (runOf D)).count q from rfl, h1]
  exact sum_ones _
theorem pit_one {D : List VIntS} (hD : RL D) {q : Sq} (hq : q ∈ pits D) : 1 ≤ riv D q := by
  have h1 := (List.mem_filter.1 hq)
  unfold riv rivTo
  refine List.one_le_count_iff.2 (List.mem_flatMap.2 ⟨q, h1.1, ?_⟩)
  exact List.mem_of_getElem? (run_head hD (mem_sqs.1 h1.1))
/-- A grid of the relief's form, its numbers heights: a relief. -/
theorem grid_cols {D : List VIntS} (hD : RL D) (L : Sq → Int) : colsN (gridOf D L) = colsN D := by
  have h := gridOf_at D L (show 0 < D.length from hD.m1)
  unfold colsN at h ⊢
  rw [List.headD_eq_head?_getD, List.head?_eq_getElem?, h]
  simp
theorem grid_hA {D : List VIntS} (L : Sq → Int) {p : Sq} (hp : inR D p) : hA (gridOf D L) p = L p := by
  obtain ⟨x, y⟩ := p
  obtain ⟨h1, h2⟩ := hp
  simp only [] at h1 h2
  unfold hA
  rw [List.getD_eq_getElem?_getD, List.getD_eq_getElem?_getD]
  simp only []
  rw [gridOf_at D L h1]
  simp [h2]
theorem grid_in {D : List VIntS} (hD : RL D) (L : Sq → Int) (p : Sq) : inR (gridOf D L) p ↔ inR D p := by
  unfold inR
  rw [gridOf_len, grid_cols hD]
theorem grid_nears {D : List VIntS} (hD : RL D) (L : Sq → Int) (p : Sq) : nears (gridOf D L) p = nears D p := by
  unfold nears
  rw [gridOf_len, grid_cols hD]
theorem grid_sqs {D : List VIntS} (hD : RL D) (L : Sq → Int) : sqs (gridOf D L) = sqs D := by
  unfold sqs
  rw [gridOf_len, grid_cols hD]
theorem grid_RL {D : List VIntS} (hD : RL D) {L : Sq → Int} (hL : ∀ p, inR D p → 0 ≤ L p ∧ L p ≤ 9999) : RL (gridOf D L) := by
  have hc := grid_cols hD L
  refine ⟨by rw [gridOf_len]; exact hD.m1, by rw [gridOf_len]; exact hD.m8, by rw [hc]; exact hD.n1, by rw [hc]; exact hD.n8, fun r hr => ?_, fun r hr h hh => ?_⟩
  · rw [hc]
    simp only [gridOf, List.mem_map] at hr
    obtain ⟨i, _, rfl⟩ := hr
    simp
  · simp only [gridOf, List.mem_map, List.mem_range] at hr
    obtain ⟨i, hi, rfl⟩ := hr
    simp only [List.mem_map, List.mem_range] at hh
    obtain ⟨j, hj, rfl⟩ := hh
    exact hL (i, j) ⟨hi, hj⟩
theorem lev_low {D : List VIntS} (hD : RL D) {p : Sq} (hp : inR D p) : 0 ≤ hA D p ∧ hA D p ≤ lev D p ∧ lev D p ≤ 9999 := by
  obtain ⟨_, _, _, _, h0, _⟩ := hD.at hp
  exact ⟨h0, (lev_is hD).low p hp, (lev_is hD).top p hp⟩
/-- What is filled is a relief. -/
theorem full_RL {D : List VIntS} (hD : RL D) : RL (gridOf D (lev D)) := grid_RL hD fun p hp => by have := lev_low hD hp; omega
/-- Its levels are its heights. -/
theorem full_lev {D : List VIntS} (hD : RL D) {p : Sq} (hp : inR D p) : lev (gridOf D (lev D)) p = lev D p := by
  have h := lev_is hD
  have hF := full_RL hD
  have key : IsLv (gridOf D (lev D)) (lev D) := by
    refine ⟨⟨fun q hq he => ?_, fun q hq r hr => ?_⟩, fun q hq => ?_, fun q hq => ?_, fun G hG ht q hq => ?_⟩
    · rw [grid_hA _ ((grid_in hD _ q).1 hq)]; exact Int.le_refl _
    · rw [grid_hA _ ((grid_in hD _ q).1 hq)]; omega
    · rw [grid_hA _ ((grid_in hD _ q).1 hq)]; exact Int.le_refl _
    · exact (lev_low hD ((grid_in hD _ q).1 hq)).2.2
    · have hq' := (grid_in hD _ q).1 hq
      have h2 := h.most (fun r => max (G r) (lev D r)) ⟨fun r hr he => ?_, fun r hr s hs => ?_⟩ (fun r hr => ?_) q hq'
      · omega
      · have h3 := hG.edge r ((grid_in hD _ r).2 hr) (by rw [grid_nears hD]; exact he)
        rw [grid_hA _ hr] at h3
        have h4 := h.sub.edge r hr he
        omega
      · have h3 := hG.near r ((grid_in hD _ r).2 hr) s (by rw [grid_nears hD]; exact hs)
        rw [grid_hA _ hr] at h3
        have h4 := h.sub.near r hr s hs
        omega
      · have h3 := ht r ((grid_in hD _ r).2 hr)
        have h4 := h.top r hr
        omega
  exact (lev_eq hF key ((grid_in hD _ p).2 hp)).symm
/-- Filled again it is as it was. -/
theorem full_full {D : List VIntS} (hD : RL D) : gridOf (gridOf D (lev D)) (lev (gridOf D (lev D))) = gridOf D (lev D) := by
  have h1 : ∀ M : Sq → Int, gridOf (gridOf D (lev D)) M = gridOf D M := fun M => by
    unfold gridOf
    rw [show colsN ((List.range D.length).map fun r => (List.range (colsN D)).map fun c => lev D (r, c)) = colsN D from grid_cols hD (lev D)]
    simp
  rw [h1]
  exact gridOf_congr fun p hp => full_lev hD hp
theorem lake_same (D : List VIntS) (L : Sq → Int) : ∀ (l : List Sq) (s : Int × Int), (∀ p ∈ l, L p = hA D p) → l.foldl (lakeS D L) s = s := by
  intro l
  induction l with
  | nil => intro s _; rfl
  | cons x l ih =>
    intro s h
    rw [List.foldl_cons, show lakeS D L s x = s from by unfold lakeS; rw [if_neg (by have := h x (by simp); omega)]]
    exact ih s (fun p hp => h p (List.mem_cons_of_mem _ hp))
/-- No lakes are left. -/
theorem full_lakes {D : List VIntS} (hD : RL D) : lakesOf (gridOf D (lev D)) (lev (gridOf D (lev D))) = (0, 0) := by
  unfold lakesOf
  refine lake_same _ _ _ _ (fun p hp => ?_)
  have hp' : inR D p := (grid_in hD _ p).1 (mem_sqs.1 hp)
  rw [full_lev hD hp', grid_hA _ hp']
/-- The lakes' sum is what all squares are lifted by, and no less than their number. -/
theorem lake_lift {D : List VIntS} {L : Sq → Int} : ∀ (l : List Sq) (s : Int × Int), (∀ p ∈ l, hA D p ≤ L p) → (l.foldl (lakeS D L) s).2 = s.2 + (l.map fun p => L p - hA D p).sum ∧ (l.foldl (lakeS D L) s).1 - s.1 ≤ (l.foldl (lakeS D L) s).2 - s.2 := by
  intro l
  induction l with
  | nil => intro s _; simp
  | cons x l ih =>
    intro s h
    have h1 := ih (lakeS D L s x) (fun p hp => h p (List.mem_cons_of_mem _ hp))
    have h2 := h x (by simp)
    rw [List.foldl_cons, List.map_cons, List.sum_cons]
    unfold lakeS at h1 ⊢
    split at h1
    · rename_i h3
      rw [if_pos h3]
      simp only [] at h1
      omega
    · rename_i h3
      rw [if_neg h3]
      omega
end Go.Proofs.Ytpnaciamnigbnaa
namespace Go.Proofs.Ytpnaciamnigbnaa
open Go.RowKit

theorem sum_sub {α : Type} (f g : α → Int) (l : List α) : (l.map fun x => f x - g x).sum = (l.map f).sum - (l.map g).sum := by
  induction l with
  | nil => simp
  | cons x l ih => simp only [List.map_cons, List.sum_cons, ih]; omega
theorem row_hA {D : List VIntS} (hD : RL D) {r : Nat} {x : VIntS} (hx : D[r]? = some x) : x = (List.range (colsN D)).map fun c => hA D (r, c) := by
  have hr : r < D.length := (List.getElem?_eq_some_iff.1 hx).1
  have hl := hD.row x (List.mem_of_getElem? hx)
  apply List.ext_getElem?
  intro c
  by_cases hc : c < colsN D
  · obtain ⟨row, e1, _, e3, _⟩ := hD.at (p := (r, c)) ⟨hr, hc⟩
    simp only [] at e1 e3
    rw [hx] at e1
    cases e1
    rw [e3]
    simp [hc]
  · rw [List.getElem?_eq_none (by omega), List.getElem?_eq_none (by simp; omega)]
def liftTo (D : List VIntS) (k : Nat) : Int := ((sqsTo (colsN D) k).map fun p => lev D p - hA D p).sum
theorem liftTo_succ {D : List VIntS} (hD : RL D) {k : Nat} {x y : VIntS} (hx : D[k]? = some x) (hy : (gridOf D (lev D))[k]? = some y) : liftTo D (k + 1) = liftTo D k + y.sum - x.sum := by
  have hr : k < D.length := (List.getElem?_eq_some_iff.1 hx).1
  have hy2 : y = (List.range (colsN D)).map fun c => lev D (k, c) := by
    rw [gridOf_at D (lev D) hr] at hy; exact (Option.some.inj hy).symm
  unfold liftTo
  rw [sqsTo_succ, List.map_append, List.sum_append, show sqRow (colsN D) k = (List.range (colsN D)).map fun c => (k, c) from rfl, List.map_map]
  have e : ((fun p => lev D p - hA D p) ∘ fun c => (k, c)) = fun c => lev D (k, c) - hA D (k, c) := rfl
  rw [e, sum_sub (fun c => lev D (k, c)) (fun c => hA D (k, c)), ← hy2, ← row_hA hD hx]
  omega
theorem lift_all {D : List VIntS} (hD : RL D) : (lakesOf D (lev D)).2 = liftTo D D.length ∧ (lakesOf D (lev D)).1 ≤ (lakesOf D (lev D)).2 := by
  have h := lake_lift (D := D) (L := lev D) (sqs D) (0, 0) (fun p hp => (lev_low hD (mem_sqs.1 hp)).2.1)
  unfold lakesOf
  have h1 := h.1
  have h2 := h.2
  simp only [Int.zero_add, Int.sub_zero] at h1 h2
  exact ⟨h1, h2⟩
theorem sum_bdI (A : Int) : ∀ (l : List Int), (∀ z ∈ l, 0 ≤ z ∧ z ≤ A) → 0 ≤ l.sum ∧ l.sum ≤ A * l.length := by
  intro l
  induction l with
  | nil => intro _; simp
  | cons x l ih =>
    intro h
    have h1 := ih fun z hz => h z (List.mem_cons_of_mem _ hz)
    have h2 := h x (by simp)
    have e : A * ((x :: l).length : Int) = A * (l.length : Int) + A := by rw [List.length_cons, Int.natCast_succ, Int.mul_add, Int.mul_one]
    rw [List.sum_cons]
    omega
theorem liftTo_bd {D : List VIntS} (hD : RL D) {k : Nat} (hk : k ≤ D.length) : 0 ≤ liftTo D k ∧ liftTo D k ≤ 639936 := by
  have h := sum_bdI 9999 ((sqsTo (colsN D) k).map fun p => lev D p - hA D p) (fun z hz => by
    obtain ⟨p, hp, rfl⟩ := List.mem_map.1 hz
    have hin : inR D p := by have := mem_sqsTo.1 hp; exact ⟨by omega, this.2⟩
    have := lev_low hD hin
    omega)
  rw [List.length_map, sqsTo_len] at h
  have : k * colsN D ≤ 8 * 8 := Nat.mul_le_mul (Nat.le_trans hk hD.m8) hD.n8
  unfold liftTo
  omega
theorem full_row {D : List VIntS} (hD : RL D) {y : VIntS} (hy : y ∈ gridOf D (lev D)) : y.length ≤ 8 ∧ ∀ z ∈ y, 0 ≤ z ∧ z ≤ 9999 := by
  have hF := full_RL hD
  have h1 := hF.row y hy
  have h2 := hF.n8
  exact ⟨by omega, hF.val y hy⟩
theorem steep_next {D : List VIntS} (h : steepB D = true) : RL D ∧ inR D (topOf D (fall D)) ∧ inR D (nextSq D (topOf D (fall D))) ∧ runsB D ((topOf D (fall D)).1 : Int) ((topOf D (fall D)).2 : Int) = true := by
  unfold steepB at h
  simp only [Bool.and_eq_true, Bool.not_eq_true', beq_eq_false_iff_ne] at h
  have hD := rlB_iff.1 h.1
  have ht := top_in hD (fall D)
  refine ⟨hD, ht, next_in ht, ?_⟩
  unfold runsB
  rw [hasB_nat hD ht, sqZ_nat]
  simp only [Bool.true_and, Bool.not_eq_true', beq_eq_false_iff_ne]
  intro e
  apply h.2
  show hA D (topOf D (fall D)) - hA D (nextSq D (topOf D (fall D))) = 0
  rw [e]; omega
theorem lev_at {D : List VIntS} {r c : Int} (h : hasB D r c = true) : RL D ∧ ∃ p : Sq, inR D p ∧ r = (p.1 : Int) ∧ c = (p.2 : Int) ∧ hA D p ≤ LevelAt_0 D r c := by
  obtain ⟨hD, p, hp, rfl, rfl⟩ := hasB_yes h
  refine ⟨hD, p, hp, rfl, rfl, ?_⟩
  unfold LevelAt_0
  rw [if_pos h, sqZ_nat]
  exact (lev_low hD hp).2.1
end Go.Proofs.Ytpnaciamnigbnaa
namespace Go.Proofs.Ytpnaciamnigbnaa
open Go.RowKit

theorem ret_boolV {p q : Bool} (h : p = q) : Ending.returned (.bool p) = .returned (.bool q) := by rw [h]
theorem vBigV_any (a : Option Addr) (len cap : Nat) (w : World) :
    Calls Try.prog 16 #[.slice a len cap] w fun e w' => e = .returned (.bool (decide (65536 < len))) ∧ w = w' := by
  by_cases h : 65536 < len
  · go_enter Try.func16, Try.ntmps16
    go_wp2
    go_ret
    exact ⟨ret_boolV (by simp; omega), rfl⟩
  · go_enter Try.func16, Try.ntmps16
    go_wp2
    go_ret
    exact ⟨ret_boolV (by simp; omega), rfl⟩
theorem bnnV (q : Bool) : (q != q) = false := by cases q <;> rfl
set_option maxHeartbeats 1600000 in
set_option maxRecDepth 100000 in
theorem vInts_yes (a : Option Addr) (len cap : Nat) (a' : Option Addr) (len' cap' : Nat) (xs : List Int) (w : World) (h : IsInts w a len cap xs) (h' : IsInts w a' len' cap' xs) :
    Calls Try.prog 101 #[.slice a len cap, .slice a' len' cap'] w fun e w' => e = .returned (.bool true) ∧ Below w.heap.size w w' := by
  obtain rfl := h.1
  obtain rfl := h'.1
  have hm := h.2.2.1
  have hcl := h.2.1
  unfold maxLen at hm
  have S := Lib.hid h
  have S' := Lib.hid h'
  clear h h'
  go_enter Try.func101, Try.ntmps101
  go_wp2
  go_loopw [5] (fun i wr => ∃ k : Nat, k ≤ xs.length ∧ i = .int .i64 k ∧ Below w.heap.size w wr) (fun i _ => xs.length - (intOf i).toNat)
  case atStart => exact ⟨0, Nat.zero_le _, rfl, Below.refl _ _⟩
  case round =>
    obtain ⟨k, hk, rfl, hbel⟩ := hrel
    have B := Lib.hid hbel
    by_cases hlt : k < xs.length
    · obtain ⟨s, hs⟩ : ∃ s, xs[k]? = some s := ⟨xs[k]'hlt, List.getElem?_eq_getElem _⟩
      obtain ⟨b, o, rfl, hb, hat⟩ := (S.out.below hbel).at (by omega)
      obtain ⟨b', o', rfl, hb', hat'⟩ := (S'.out.below hbel).at (by omega)
      have c0 := hat k s hs
      have d0 := hat' k s hs
      have hi0 : (0 : Int) ≤ (k : Int) := by omega
      have hi1 : (k : Int) < (xs.length : Int) := by omega
      clear hbel hs hat hat'
      go_wp2
      go_quiet (fail)
      have B1 := Lib.hid (Below.then' B.out (bel_drawn wr nq))
      go_wp2
      go_roundw
      case rel => exact ⟨k + 1, by omega, by go_num, B1.out⟩
      case measure => simp [intOf]; omega
    · obtain rfl : k = xs.length := by omega
      clear hbel
      go_wp2
      go_ret
      exact ⟨rfl, B.out⟩
set_option maxHeartbeats 3200000 in
set_option maxRecDepth 100000 in
theorem vGrid_yes (a : Option Addr) (len cap : Nat) (a' : Option Addr) (len' cap' : Nat) (D : List VIntS) (w : World) (h : IsIntSS w a len cap D) (h' : IsIntSS w a' len' cap' D) :
    Calls Try.prog 37 #[.slice a len cap, .slice a' len' cap'] w fun e w' => e = .returned (.bool true) ∧ Below w.heap.size w w' := by
  obtain rfl := h.1
  obtain rfl := h'.1
  have hm := h.2.2.1
  have hcl := h.2.1
  unfold maxLen at hm
  have S := Lib.hid h
  have S' := Lib.hid h'
  clear h h'
  go_enter Try.func37, Try.ntmps37
  go_wp2
  go_loopw [5] (fun i wr => ∃ k : Nat, k ≤ D.length ∧ i = .int .i64 k ∧ Below w.heap.size w wr) (fun i _ => D.length - (intOf i).toNat)
  case atStart => exact ⟨0, Nat.zero_le _, rfl, Below.refl _ _⟩
  case round =>
    obtain ⟨k, hk, rfl, hbel⟩ := hrel
    have B := Lib.hid hbel
    by_cases hlt : k < D.length
    · obtain ⟨x, hx⟩ : ∃ s, D[k]? = some s := ⟨D[k]'hlt, List.getElem?_eq_getElem _⟩
      obtain ⟨b, o, rfl, hb, hat⟩ := (S.out.below hbel).at (by omega)
      obtain ⟨b', o', rfl, hb', hat'⟩ := (S'.out.below hbel).at (by omega)
      obtain ⟨hd, g0, g1⟩ := hat k x hx
      obtain ⟨hd', g0', g1'⟩ := hat' k x hx
      have k0 := cell_regrown g0
      have k1 := cell_regrown g0'
      have I1 := Lib.hid g1
      have I2 := Lib.hid g1'
      have cV := below_at (W := wr) (fun W' hW => vInts_yes _ _ _ _ _ _ x W' (I1.out.below hW) (I2.out.below hW))
      have hi0 : (0 : Int) ≤ (k : Int) := by omega
      have hi1 : (k : Int) < (D.length : Int) := by omega
      clear hbel hx hat hat' g0 g0' g1 g1'
      go_wp2
      refine wp_region_quiet_below (by kernel_rfl) (by kernel_rfl) ?_
      repeat (first | go_big_quiet_step (with_reducible exact cV _ _) | quiet_step (with_reducible exact cV _ _))
      refine wpQuiet_nil ?_
      intro W2 hw2
      have B1 := Lib.hid (Below.then' B.out (below_of_re hw2))
      clear hw2 cV k0 k1
      go_wp2
      go_roundw
      case rel => exact ⟨k + 1, by omega, by go_num, B1.out⟩
      case measure => simp [intOf]; omega
    · obtain rfl : k = D.length := by omega
      clear hbel
      go_wp2
      go_ret
      exact ⟨rfl, B.out⟩
theorem sum_take {zs : List Int} {k : Nat} {z : Int} (h : zs[k]? = some z) : (zs.take (k + 1)).sum = (zs.take k).sum + z := by
  rw [List.take_add_one, h, List.sum_append]; simp
theorem sum_bd {zs : List Int} {A : Int} (hA : 0 ≤ A) (h : ∀ z ∈ zs, 0 ≤ z ∧ z ≤ A) : ∀ k, 0 ≤ (zs.take k).sum ∧ (zs.take k).sum ≤ A * k := by
  intro k
  induction k with
  | zero => simp
  | succ k ih =>
    cases hz : zs[k]? with
    | none => 
      rw [List.take_add_one, hz, Option.toList_none, List.append_nil]
      have : A * ((k + 1 : Nat) : Int) = A * (k : Int) + A := by rw [Int.natCast_succ, Int.mul_add, Int.mul_one]
      omega
    | some z =>
      rw [sum_take hz]
      have := h z (List.mem_of_getElem? hz)
      have : A * ((k + 1 : Nat) : Int) = A * (k : Int) + A := by rw [Int.natCast_succ, Int.mul_add, Int.mul_one]
      omega
set_option maxHeartbeats 1600000 in
set_option maxRecDepth 100000 in
theorem vSum_any (a : Option Addr) (len cap : Nat) (zs : List Int) (w : World) (h : IsInts w a len cap zs) (hl : zs.length ≤ 100) (hb : ∀ z ∈ zs, 0 ≤ z ∧ z ≤ 9999) :
    Calls Try.prog 40 #[.slice a len cap] w fun e w' => e = .returned (.int .i64 zs.sum) ∧ w = w' := by
  obtain rfl := h.1
  have hm := h.2.2.1
  have hcl := h.2.1
  unfold maxLen at hm
  have S := Lib.hid h
  have HB := Lib.hid hb
  clear h hb
  go_enter Try.func40, Try.ntmps40
  go_wp2
  go_loop [4, 3] (fun i s => ∃ k : Nat, k ≤ zs.length ∧ i = .int .i64 k ∧ s = .int .i64 (zs.take k).sum) (fun i _ => zs.length - (intOf i).toNat)
  case atStart => exact ⟨0, Nat.zero_le _, rfl, rfl⟩
  case round =>
    obtain ⟨k, hk, rfl, rfl⟩ := hrel
    by_cases hlt : k < zs.length
    · obtain ⟨z, hz⟩ : ∃ s, zs[k]? = some s := ⟨zs[k]'hlt, List.getElem?_eq_getElem _⟩
      obtain ⟨b, o, rfl, hb, hat⟩ := S.out.at (by omega)
      have c0 := hat k z hz
      have SB := sum_bd (by omega) HB.out k
      have ZB := HB.out z (List.mem_of_getElem? hz)
      have ST := Lib.hid (sum_take hz)
      obtain ⟨s, hs⟩ : ∃ s, (zs.take k).sum = s := ⟨_, rfl⟩
      rw [hs] at SB ST
      rw [hs]
      have v1 : IntKind.i64.wrap (s + z) = s + z := IntWalk.i64_in _ (by omega)
      have hi0 : (0 : Int) ≤ (k : Int) := by omega
      have hi1 : (k : Int) < (zs.length : Int) := by omega
      clear hz hat hs
      go_wp2
      go_round
      case rel => exact ⟨k + 1, by omega, by go_num, by rw [ST.out]⟩
      case measure => simp [intOf]; omega
    · obtain rfl : k = zs.length := by omega
      go_wp2
      go_ret
      exact ⟨rfl, rfl⟩
end Go.Proofs.Ytpnaciamnigbnaa
namespace Go.Proofs.Ytpnaciamnigbnaa
open Go.RowKit

section
variable {P : Program}
theorem run_all_in {σ : Type} (y dn : σ) (g : Nat → Bool) (f : Nat → σ → Sem (ForInStep σ)) (n : Nat) (w : World)
    (hf : ∀ i, i < n → (f i y).run P w = .ok (if g i = true then .yield y else .done dn) w) :
    ∀ m k, k + m = n → (forIn (List.range' k m) y f).run P w = .ok (if (List.range' k m).all g = true then y else dn) w := by
  intro m
  induction m with
  | zero => intro k _; simp
  | succ m ih =>
    intro k h
    rw [List.range'_succ]
    simp only [List.forIn_cons, Sem.run_bind, hf k (by omega), Result.andThen_ok, List.all_cons]
    by_cases hg : g k = true
    · simp only [hg, if_true, Bool.true_and]
      exact ih (k + 1) (by omega)
    · have hg' : g k = false := by simpa using hg
      simp [hg']
theorem run_equalIn_arr (d : Nat) (t e : TypeId) (n sz : Nat) (xs ys : Array Value) (w : World) (hu : P.underlying t = some (.array n e)) (hsz : ∀ w : World, (sizeOf e).run P w = .ok sz w) (g : Nat → Bool)
    (each : ∀ i, i < n → ∃ a b, (part e xs (i * sz)).run P w = .ok a w ∧ (part e ys (i * sz)).run P w = .ok b w ∧ (Op.equalIn d e a b).run P w = .ok (g i) w) :
    (Op.equalIn (d + 1) t (.agg xs) (.agg ys)).run P w = .ok ((List.range n).all g) w := by
  simp only [Op.equalIn, Sem.run_bind, run_underlying hu, Result.andThen_ok, hsz]
  simp only [Std.Legacy.Range.forIn_eq_forIn_range', Std.Legacy.Range.size]
  rw [show (n - 0 + 1 - 1) / 1 = n from by simp]
  rw [run_all_in (none, ()) (some false, ()) g _ n w (fun i hi => by
    obtain ⟨a, b, h1, h2, h3⟩ := each i hi
    simp only [Sem.run_bind, h1, h2, h3, Result.andThen_ok]
    cases g i <;> simp) n 0 (by omega)]
  rw [List.range_eq_range', Result.andThen_ok]
  by_cases h : (List.range' 0 n).all g = true
  · rw [if_pos h, h]; simp
  · rw [if_neg h, show (List.range' 0 n).all g = false from by simpa using h]; simp
theorem part_int {e : TypeId} {k : IntKind} (hu : P.underlying e = some (.int k)) (xs : List Int) (i : Nat) (x : Int) (hx : xs[i]? = some x) (w : World) : (part e (intCells xs).toArray (i * 1)).run P w = .ok (.int .i64 x) w := by
  have hagg : (isAgg e).run P w = .ok false w := by
    unfold isAgg
    rw [Sem.run_bind, run_underlying hu w]
    simp
  have hc : (intCells xs).toArray[i * 1]? = some (.int .i64 x) := by simp [intCells, hx]
  unfold part
  simp only [Sem.run_bind, hagg, Result.andThen_ok, hc]
  simp
/-- An array of integers equals another one exactly if all of them are equal. -/
theorem run_equalIn_ints (d : Nat) (t e : TypeId) (k : IntKind) (n : Nat) (xs ys : List Int) (w : World) (hu : P.underlying t = some (.array n e)) (he : P.underlying e = some (.int k)) (hsz : ∀ w : World, (sizeOf e).run P w = .ok 1 w) (hx : xs.length = n) (hy : ys.length = n) :
    (Op.equalIn (d + 2) t (.agg (intCells xs).toArray) (.agg (intCells ys).toArray)).run P w = .ok (xs == ys) w := by
  rw [run_equalIn_arr (d + 1) t e n 1 _ _ w hu hsz (fun i => xs.getD i 0 == ys.getD i 0) (fun i hi => by
    have h1 : xs[i]? = some (xs.getD i 0) := by rw [List.getD_eq_getElem?_getD, List.getElem?_eq_getElem (by omega)]; rfl
    have h2 : ys[i]? = some (ys.getD i 0) := by rw [List.getD_eq_getElem?_getD, List.getElem?_eq_getElem (by omega)]; rfl
    exact ⟨_, _, part_int he xs i _ h1 w, part_int he ys i _ h2 w, run_equalIn_int w d e .i64 k _ _ he⟩)]
  congr 1
  rw [Bool.eq_iff_iff, List.all_eq_true, beq_iff_eq]
  constructor
  · intro h
    apply List.ext_getElem (by omega)
    intro i h1 h2
    have := h i (by simp; omega)
    simp only [beq_iff_eq, List.getD_eq_getElem?_getD, List.getElem?_eq_getElem h1, List.getElem?_eq_getElem h2, Option.getD_some] at this
    exact this
  · rintro rfl i _
    simp
end
theorem size_int (w : World) : (sizeOf 3).run Try.prog w = .ok 1 w := by
  obtain ⟨i0, hi, _, hz1, _⟩ := info_parts infoInt
  simp [sizeOf, typeInfo, hi, hz1]
/-- Two pairs. -/
theorem eqA2 (w : World) (a b c d : Int) : (binOp .neq 34 (.agg #[.int .i64 a, .int .i64 b]) (.agg #[.int .i64 c, .int .i64 d])).run Try.prog w = .ok (.bool (!(a == c && b == d))) w := by
  rw [run_neq_struct]
  have h := run_equalIn_ints (P := Try.prog) 9998 34 3 .i64 2 [a, b] [c, d] w Try.underlying34 Try.underlying3 size_int rfl rfl
  have e1 : (intCells [a, b]).toArray = #[.int .i64 a, .int .i64 b] := rfl
  have e2 : (intCells [c, d]).toArray = #[.int .i64 c, .int .i64 d] := rfl
  rw [e1, e2] at h
  rw [h, Result.andThen_ok]
  simp
end Go.Proofs.Ytpnaciamnigbnaa
