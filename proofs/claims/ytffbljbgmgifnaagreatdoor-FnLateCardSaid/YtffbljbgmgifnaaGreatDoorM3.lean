/- Texts in one: AppL2, Sw, Wh, PutL, Lo, LawsR, LoM, LoM2. -/
import Derived.Test.YtffbljbgmgifnaaGreatDoorM1
import Derived.Deep.RegionLaw
import Derived.Test.YtffbljbgmgifnaaGreatDoorM2
namespace Go.Proofs.YtffbljbgmgifnaaGreatDoor
open Go.RowKit

theorem wp_append_list {P : Program} {w : World} {o : Oper} {a : Act} {K : Act → World → Prop} {Q : Exit → Act → World → Prop} (s x : Operand) (t : TypeId)
    (ho : o.op = .call { callee := .builtin .append, args := #[s, x], argTypes := #[t, t] })
    (base : Nat) (e : TypeId) (i : TypeInfo) (z : Value) (size bytes : Nat) (ht : P.underlying t = some (.slice e)) (hi : P.info? e = some i) (hz : i.zero = some z)
    (hsize : i.size = size) (hby : i.bytes = bytes) (hzs : z.cells.size = size) (hsz : 0 < size)
    (v : Value) (n : Nat) (xs : List Value) (hs : a.eval s = v) (hown : w.ownsRow base e size v n xs)
    (ad : Option Addr) (m c : Nat) (news : List Value) (hx : a.eval x = .slice ad m c) (hsrc : SrcAt w ad m size news) (h1 : ∀ u ∈ news, u.oneCell' = true)
    (h63 : n + m ≤ maxLen) (hbytes : (n + m) * bytes ≤ 140737488355328) (hbase : base ≤ w.heap.size)
    (h : ∀ v' w', w'.ownsRow base e size v' (n + m) (xs ++ news) → w.grownBy w' v.ownBlock → K (a.put o.dst v') w') : Oper.wp P o a w K Q := by
  obtain ⟨hl, hc⟩ := hsrc
  cases ad with
  | some ad =>
    refine wp_append_own w s x t ho base e i z size bytes ht hi hz hsize hby hzs hsz v n xs hs hown ad m c news hx hl ?_ h1 h63 hbytes hbase (fun v' w' a b _ => h v' w' a b)
    rcases hc with rfl | ⟨ad', e', hc⟩
    · have : news = [] := List.eq_nil_of_length_eq_zero (by simpa using hl)
      subst this
      intro j u hj; simp at hj
    · cases e'; exact hc
  | none =>
    have hm : m = 0 := by
      rcases hc with h0 | ⟨_, e', _⟩
      · exact h0
      · cases e'
    subst hm
    have hn : news = [] := List.eq_nil_of_length_eq_zero (by simpa using hl)
    subst hn
    have hrun := append_nothing (P := P) (w := w) (ty := o.type) ht hi hown c
    unfold Oper.wp
    simp [execOp, ho, resolve, invoke, builtin, hs, hx, hrun, Result.andThen]
    exact h v w (by simpa using hown) (World.grownBy.refl w _)
/-- The same as a step of a region that draws its order. -/
theorem step_append_list {P : Program} {w : World} {ops : Array Oper} {o : Oper} {a : Act} {K : Act → World → Prop} {Q : Exit → Act → World → Prop} {E : Prop} (hgd : o.guard = none) (s x : Operand) (t : TypeId)
    (ho : o.op = .call { callee := .builtin .append, args := #[s, x], argTypes := #[t, t] })
    (base : Nat) (e : TypeId) (i : TypeInfo) (z : Value) (size bytes : Nat) (ht : P.underlying t = some (.slice e)) (hi : P.info? e = some i) (hz : i.zero = some z)
    (hsize : i.size = size) (hby : i.bytes = bytes) (hzs : z.cells.size = size) (hsz : 0 < size)
    (v : Value) (n : Nat) (xs : List Value) (hs : a.eval s = v) (hown : w.ownsRow base e size v n xs)
    (ad : Option Addr) (m c : Nat) (news : List Value) (hx : a.eval x = .slice ad m c) (hsrc : SrcAt w ad m size news) (h1 : ∀ u ∈ news, u.oneCell' = true)
    (h63 : n + m ≤ maxLen) (hbytes : (n + m) * bytes ≤ 140737488355328) (hbase : base ≤ w.heap.size)
    (h : ∀ v' w', w'.ownsRow base e size v' (n + m) (xs ++ news) → w.grownBy w' v.ownBlock → K (a.put o.dst v') w') :
    if Region.wanted o (yielded ops a.tmps) = true then Oper.wp P o a w K Q else E := by
  have hw : Region.wanted o (yielded ops a.tmps) = true := by simp [Region.wanted, hgd]
  rw [if_pos hw]
  exact wp_append_list s x t ho base e i z size bytes ht hi hz hsize hby hzs hsz v n xs hs hown ad m c news hx hsrc h1 h63 hbytes hbase h
/-- The same, and what was no nil slice stays none. -/
theorem step_append_some {P : Program} {w : World} {ops : Array Oper} {o : Oper} {a : Act} {K : Act → World → Prop} {Q : Exit → Act → World → Prop} {E : Prop} (hgd : o.guard = none) (s x : Operand) (t : TypeId)
    (ho : o.op = .call { callee := .builtin .append, args := #[s, x], argTypes := #[t, t] })
    (base : Nat) (e : TypeId) (i : TypeInfo) (z : Value) (size bytes : Nat) (ht : P.underlying t = some (.slice e)) (hi : P.info? e = some i) (hz : i.zero = some z)
    (hsize : i.size = size) (hby : i.bytes = bytes) (hzs : z.cells.size = size) (hsz : 0 < size)
    (v : Value) (hs : a.eval s = v) (g cp : Nat) (n : Nat) (xs : List Value) (hv : v = .slice (some ⟨g, 0, none⟩) n cp) (hown : w.ownsRow base e size (.slice (some ⟨g, 0, none⟩) n cp) n xs)
    (u : Value) (hx : a.eval x = u) (ad : Addr) (m c : Nat) (news : List Value) (hu : u = .slice (some ad) m c) (hsrc : SrcAt w (some ad) m size news) (h1 : ∀ u ∈ news, u.oneCell' = true)
    (h63 : n + m ≤ maxLen) (hbytes : (n + m) * bytes ≤ 140737488355328) (hbase : base ≤ w.heap.size)
    (h : ∀ g' cp' w', w'.ownsRow base e size (.slice (some ⟨g', 0, none⟩) (n + m) cp') (n + m) (xs ++ news) → w.grownBy w' (some g) → n + m ≤ cp' → cp' ≤ 9223372036854775807 → base ≤ g' → g' < w'.heap.size → K (a.put o.dst (.slice (some ⟨g', 0, none⟩) (n + m) cp')) w') :
    if Region.wanted o (yielded ops a.tmps) = true then Oper.wp P o a w K Q else E := by
  have hw : Region.wanted o (yielded ops a.tmps) = true := by simp [Region.wanted, hgd]
  rw [if_pos hw]
  subst hv hu
  obtain ⟨hl, hc⟩ := hsrc
  refine wp_append_own w s x t ho base e i z size bytes ht hi hz hsize hby hzs hsz _ n xs hs hown ad m c news hx hl ?_ h1 h63 hbytes hbase (fun v' w' a b hn => ?_)
  · rcases hc with rfl | ⟨ad', e', hc⟩
    · have : news = [] := List.eq_nil_of_length_eq_zero (by simpa using hl)
      subst this
      intro j u hj; simp at hj
    · cases e'; exact hc
  · rcases a.2 with ⟨e1, _⟩ | ⟨g', c', _, e', hg, _, hn', hc', _⟩
    · exact absurd (hn.1 e1).1 (by simp)
    · subst e'
      exact h g' c' w' a b hn' hc' hg (a.lt g' rfl).2
end Go.Proofs.YtffbljbgmgifnaaGreatDoor
namespace Go.Proofs.YtffbljbgmgifnaaGreatDoor
open Go.RowKit
theorem el_at {α : Type} {xs : List α} {len k : Nat} (hl : Hid (len = xs.length)) (hk : k < len) : ∃ s, xs[k]? = some s := ⟨xs[k]'(by have := hl.out; omega), List.getElem?_eq_getElem _⟩
theorem all_more {P : Nat → Prop} {k : Nat} (h : ∀ j, j < k → P j) (h1 : P k) : ∀ j, j < k + 1 → P j := by
  intro j hj
  by_cases e : j = k
  · subst e; exact h1
  · exact h j (by omega)
theorem up_ways {α : Type} {ok : α → Bool} {id : α → Int} {xs : List α} {k : Nat} {s : α} (hs : xs[k]? = some s) :
    (ok s = false ∧ upStep ok id xs k = false) ∨ (ok s = true ∧ k = 0 ∧ upStep ok id xs k = true) ∨ (ok s = true ∧ ∃ j p, k = j + 1 ∧ xs[j]? = some p ∧ ((¬ id s ≤ id p ∧ upStep ok id xs k = true) ∨ (id s ≤ id p ∧ upStep ok id xs k = false))) := by
  match k, hs with
  | 0, hs =>
    rw [upStep_zero hs]
    cases h : ok s
    · exact .inl ⟨rfl, rfl⟩
    · exact .inr (.inl ⟨rfl, rfl, rfl⟩)
  | j + 1, hs =>
    have hl := (List.getElem?_eq_some_iff.1 hs).1
    have hp : xs[j]? = some xs[j] := List.getElem?_eq_getElem (by omega)
    rw [upStep_succ hp hs]
    cases h : ok s
    · exact .inl ⟨rfl, rfl⟩
    · refine .inr (.inr ⟨rfl, j, xs[j], rfl, hp, ?_⟩)
      by_cases h2 : id s ≤ id xs[j]
      · exact .inr ⟨h2, by simp; omega⟩
      · exact .inl ⟨h2, by simp; omega⟩
/-- A call of a function value enters the function. -/
theorem enters_fn {P : Program} {K : FuncId} {fn : Func} (hf : P.funcs[K]? = some fn) (h1 : (fn.name == "runtime.NumGoroutine") = false) (h2 : fn.body.isNone = false) : ∀ args W, (callFunc K args).run P W = .ok (.enter K args) W := by
  intro args W
  have h1' : ¬ fn.name = "runtime.NumGoroutine" := by simpa using h1
  have h2' : ¬ fn.body = none := by intro h; rw [h] at h2; cases h2
  simp [callFunc, go_sem, hf, h1', h2']
theorem cell_box (w : World) (v : Value) (t : TypeId) (B : Nat) (hB : w.heap.size = B) : (w.alloc (.cells #[v] t)).cell? ⟨B, 0, none⟩ = some v := by
  subst hB
  simp [World.cell?_alloc_new]
theorem cell_stay {w w' : World} {b o : Nat} {v : Value} (h : w.cell? ⟨b, o, none⟩ = some v) (hb : Below w.heap.size w w') : w'.cell? ⟨b, o, none⟩ = some v := (hb.cell (p := ⟨b, o, none⟩) (World.lt_of_cell h)).trans h
end Go.Proofs.YtffbljbgmgifnaaGreatDoor
namespace Go.Proofs.YtffbljbgmgifnaaGreatDoor
open Go.RowKit
/-- A row of integers of the call's own, and the world below as it was. -/
def IdsOwn (xs : List Int) (w : World) (e : Ending) (w' : World) : Prop := ∃ v, e = .returned v ∧ w'.ownsRow w.heap.size 3 1 v xs.length (intCells xs) ∧ Below w.heap.size w w'
theorem where_more {α : Type} {xs : List α} {k : Nat} {s : α} (f : α → Bool) (g : α → Int) (hs : xs[k]? = some s) : ((xs.take (k + 1)).filter f).map g = ((xs.take k).filter f).map g ++ (if f s = true then [g s] else []) := by
  rw [List.take_add_one, hs, List.filter_append, List.map_append]
  cases h : f s <;> simp [h]
theorem where_len {α : Type} (f : α → Bool) (g : α → Int) (xs : List α) (k : Nat) : (((xs.take k).filter f).map g).length ≤ k := by
  rw [List.length_map]
  exact Nat.le_trans (List.length_filter_le _ _) (by rw [List.length_take]; omega)
theorem nil_ids (w : World) (base : Nat) : w.ownsRow base 3 1 (.slice none 0 0) ([] : List Int).length (intCells []) := ⟨by simp [intCells], .inl ⟨rfl, rfl⟩⟩
theorem made_ids (w : World) : (w.alloc (.cells #[] 3)).ownsRow w.heap.size 3 1 (.slice (some ⟨w.heap.size, 0, none⟩) 0 0) ([] : List Int).length (intCells []) :=
  World.ownsRow_made (base := w.heap.size) (e := 3) (size := 1) w #[] 0 (Nat.le_refl _) (Nat.zero_le _) rfl
theorem wh_al1 (w : World) (o : Obj) : Below w.heap.size w (w.alloc o) := (Below.refl _ _).alloc (Nat.le_refl _) _
theorem cell_box' (w : World) (v : Value) (t : TypeId) (B : Nat) (hB : w.heap.size = B) : (w.alloc (.cells #[v] t)).cell? ⟨B, 0, none⟩ = some v := by
  subst hB
  simp [World.cell?_alloc_new]
theorem cell_stay' {w w' : World} {b o : Nat} {v : Value} (h : w.cell? ⟨b, o, none⟩ = some v) (hb : Below w.heap.size w w') : w'.cell? ⟨b, o, none⟩ = some v := (hb.cell (p := ⟨b, o, none⟩) (World.lt_of_cell h)).trans h
/-- A call of a function value enters the function. -/
theorem enters_fn' {P : Program} {K : FuncId} {fn : Func} (hf : P.funcs[K]? = some fn) (h1 : (fn.name == "runtime.NumGoroutine") = false) (h2 : fn.body.isNone = false) : ∀ args W, (callFunc K args).run P W = .ok (.enter K args) W := by
  intro args W
  have h1' : ¬ fn.name = "runtime.NumGoroutine" := by simpa using h1
  have h2' : ¬ fn.body = none := by intro h; rw [h] at h2; cases h2
  simp [callFunc, go_sem, hf, h1', h2']
end Go.Proofs.YtffbljbgmgifnaaGreatDoor
namespace Go.Proofs.YtffbljbgmgifnaaGreatDoor
open Go.RowKit

/-- A number put to its place, once. -/
def putN (n : Int) : List Int → List Int
  | [] => [n]
  | z :: l => if z < n then z :: putN n l else if z = n then z :: l else n :: z :: l
theorem putN_len (n : Int) (zs : List Int) : (putN n zs).length ≤ zs.length + 1 := by
  induction zs with
  | nil => simp [putN]
  | cons z l ih => unfold putN; split <;> (try split) <;> simp_all
theorem mem_putN {n x : Int} {zs : List Int} : x ∈ putN n zs ↔ x = n ∨ x ∈ zs := by
  induction zs with
  | nil => simp [putN]
  | cons z l ih =>
      unfold putN
      by_cases h1 : z < n
      · rw [if_pos h1, List.mem_cons, List.mem_cons, ih]
        constructor
        · rintro (h | h | h)
          · exact .inr (.inl h)
          · exact .inl h
          · exact .inr (.inr h)
        · rintro (h | h | h)
          · exact .inr (.inl h)
          · exact .inl h
          · exact .inr (.inr h)
      · rw [if_neg h1]
        by_cases h2 : z = n
        · rw [if_pos h2]
          subst h2
          simp
        · rw [if_neg h2]
          simp
/-- What stands before all keeps it so. -/
theorem putN_rises {n : Int} {zs : List Int} (h : List.Pairwise (· < ·) zs) : List.Pairwise (· < ·) (putN n zs) := by
  induction zs with
  | nil => simp [putN]
  | cons z l ih =>
      have hp := List.pairwise_cons.1 h
      unfold putN
      by_cases h1 : z < n
      · rw [if_pos h1]
        refine List.pairwise_cons.2 ⟨fun y hy => ?_, ih hp.2⟩
        rcases mem_putN.1 hy with rfl | hy
        · exact h1
        · exact hp.1 y hy
      · rw [if_neg h1]
        by_cases h2 : z = n
        · rw [if_pos h2]; exact h
        · rw [if_neg h2]
          refine List.pairwise_cons.2 ⟨fun y hy => ?_, h⟩
          rcases List.mem_cons.1 hy with rfl | hy
          · omega
          · have := hp.1 y hy; omega
/-- Where the loop ends. -/
theorem putN_at {n : Int} : ∀ {zs : List Int} {k : Nat}, (∀ (j : Nat) z, j < k → zs[j]? = some z → z < n) → (∀ z, zs[k]? = some z → ¬ z < n) → k ≤ zs.length → putN n zs = if zs[k]? = some n then zs else zs.take k ++ n :: zs.drop k := by
  intro zs
  induction zs with
  | nil => intro k _ _ hk; simp at hk; subst hk; simp [putN]
  | cons z l ih =>
      intro k h1 h2 hk
      cases k with
      | zero =>
          have := h2 z rfl
          unfold putN
          rw [if_neg this]
          by_cases e : z = n
          · rw [if_pos e, if_pos (by simp [e])]
          · rw [if_neg e, if_neg (by simpa using e)]
            rfl
      | succ k =>
          have hz := h1 0 z (by omega) rfl
          unfold putN
          rw [if_pos hz, ih (k := k) (fun j y hj hy => h1 (j + 1) y (by omega) (by simpa using hy)) (fun y hy => h2 y (by simpa using hy)) (by simp at hk; omega)]
          rw [List.getElem?_cons_succ]
          by_cases e : l[k]? = some n
          · rw [if_pos e, if_pos e]
          · rw [if_neg e, if_neg e]
            rfl
theorem one_intsN (zs : List Int) : ∀ u ∈ intCells zs, u.oneCell' = true := by
  intro u hu
  obtain ⟨z, _, rfl⟩ := List.mem_map.1 hu
  rfl
theorem srcIntsN {w : World} {a : Option Addr} {len cap : Nat} {zs : List Int} (h : IsInts w a len cap zs) : SrcAt w a len 1 (intCells zs) := by
  refine ⟨by rw [intCells_len, h.1, Nat.mul_one], ?_⟩
  rcases h.2.2.2 with h0 | ⟨b, o, rfl, hb, hat⟩
  · exact .inl h0
  · refine .inr ⟨_, rfl, fun j u hj => ?_⟩
    rw [add_plain]
    unfold intCells at hj
    rw [List.getElem?_map] at hj
    cases hz : zs[j]? with
    | none => rw [hz] at hj; cases hj
    | some z => rw [hz] at hj; cases hj; exact hat j z hz
theorem srcInts_takeN {w : World} {a : Option Addr} {len cap k : Nat} {zs : List Int} (h : IsInts w a len cap zs) (hk : k ≤ len) : SrcAt w a k 1 (intCells (zs.take k)) := by
  refine srcIntsN (cap := cap) ⟨by rw [List.length_take, h.1.symm, Nat.min_eq_left hk], by have := h.2.1; omega, h.2.2.1, ?_⟩
  rcases h.2.2.2 with h0 | ⟨b, o, rfl, hb, hat⟩
  · exact .inl (by omega)
  · refine .inr ⟨b, o, rfl, hb, fun j s hs => hat j s ?_⟩
    rw [List.getElem?_take] at hs
    split at hs
    · exact hs
    · cases hs
theorem srcInts_dropN {w : World} {b o : Nat} {len cap k : Nat} {zs : List Int} (h : IsInts w (some ⟨b, o, none⟩) len cap zs) (hk : k ≤ len) : SrcAt w (some ⟨b, o + k, none⟩) (len - k) 1 (intCells (zs.drop k)) := by
  refine srcIntsN (cap := cap - k) ⟨by rw [List.length_drop, h.1.symm], by have := h.2.1; omega, by have := h.2.2.1; omega, ?_⟩
  rcases h.2.2.2 with h0 | ⟨b', o', e, hb, hat⟩
  · exact .inl (by omega)
  · cases e
    refine .inr ⟨b, _, rfl, hb, fun j s hs => ?_⟩
    rw [List.getElem?_drop] at hs
    have := hat (k + j) s hs
    rwa [← Nat.add_assoc] at this
theorem made_intsN (w : World) (base : Nat) (h : base ≤ w.heap.size) : (w.alloc (.cells #[] 3)).ownsRow base 3 1 (.slice (some ⟨w.heap.size, 0, none⟩) 0 0) 0 [] :=
  World.ownsRow_made (base := base) (e := 3) (size := 1) w #[] 0 h (Nat.zero_le _) rfl
theorem ints_putN {w : World} {base g n c : Nat} {xs : List Int} (h : w.ownsRow base 3 1 (.slice (some ⟨g, 0, none⟩) n c) n (intCells xs)) (hn : n = xs.length) : IsInts w (some ⟨g, 0, none⟩) n c xs := by
  subst hn
  obtain ⟨a, c', e, h', _⟩ := isInts_own h
  cases e
  exact h'
theorem step_append_optN {P : Program} {w : World} {ops : Array Oper} {o : Oper} {a : Act} {K : Act → World → Prop} {Q : Exit → Act → World → Prop} {E : Prop} (hgd : o.guard = none) (s x : Operand) (t : TypeId)
    (ho : o.op = .call { callee := .builtin .append, args := #[s, x], argTypes := #[t, t] })
    (base : Nat) (e : TypeId) (i : TypeInfo) (z : Value) (size bytes : Nat) (ht : P.underlying t = some (.slice e)) (hi : P.info? e = some i) (hz : i.zero = some z)
    (hsize : i.size = size) (hby : i.bytes = bytes) (hzs : z.cells.size = size) (hsz : 0 < size)
    (v : Value) (hs : a.eval s = v) (n : Nat) (xs : List Value) (hown : w.ownsRow base e size v n xs)
    (u : Value) (hx : a.eval x = u) (ad : Option Addr) (m c : Nat) (news : List Value) (hu : u = .slice ad m c) (hsrc : SrcAt w ad m size news) (h1 : ∀ u ∈ news, u.oneCell' = true)
    (h63 : n + m ≤ maxLen) (hbytes : (n + m) * bytes ≤ 140737488355328) (hbase : base ≤ w.heap.size)
    (h : ∀ v' w', w'.ownsRow base e size v' (n + m) (xs ++ news) → w.grownBy w' v.ownBlock → K (a.put o.dst v') w') :
    if Region.wanted o (yielded ops a.tmps) = true then Oper.wp P o a w K Q else E := by
  subst hu
  exact step_append_list hgd s x t ho base e i z size bytes ht hi hz hsize hby hzs hsz v n xs hs hown ad m c news hx hsrc h1 h63 hbytes hbase h
def ReadsIntsN (zs : List Int) (w : World) (e : Ending) (w' : World) : Prop := ∃ h : Hd, e = .returned (.slice h.a h.n h.c) ∧ IsInts w' h.a h.n h.c zs ∧ Below w.heap.size w w'
theorem belDAN {w W : World} (h : Below w.heap.size w W) (o : Obj) : Below w.heap.size w (W.drew.alloc o) := Below.then' (bel_drew' h) (bel_al1 _ o)
theorem belDAAN {w W : World} (h : Below w.heap.size w W) (o o' : Obj) : Below w.heap.size w ((W.drew.alloc o).alloc o') := Below.then' (belDAN h o) (bel_al1 _ o')
theorem madeLaterN (W : World) (o : Obj) : ((W.drew.alloc o).alloc (.cells #[] 3)).ownsRow W.heap.size 3 1 (.slice (some ⟨W.heap.size + 1, 0, none⟩) 0 0) 0 [] := by
  have h := made_intsN (W.drew.alloc o) W.heap.size (by rw [size_al]; exact Nat.le_succ _)
  rw [size_al] at h
  exact h
theorem lit_LN {W w5 : World} {n : Int} {o : Obj} (hg : ((W.drew.alloc (.cells #[.int .i64 n] 3)).alloc o).grownBy w5 (some (W.heap.size + 1))) : w5.cell? ⟨W.heap.size, 0, none⟩ = some (.int .i64 n) := by
  have h1 : (W.drew.alloc (.cells #[.int .i64 n] 3)).cell? ⟨W.heap.size, 0, none⟩ = some (.int .i64 n) := cell_box W.drew (.int .i64 n) 3 _ rfl
  have hl := World.lt_of_cell h1
  have h2 := ((bel_al1 (W.drew.alloc (.cells #[.int .i64 n] 3)) o).cell (p := ⟨W.heap.size, 0, none⟩) hl).trans h1
  exact (World.cell?_of_block (a := ⟨W.heap.size, 0, none⟩) (hg.block W.heap.size (World.lt_of_cell h2) (fun e => by have := Option.some.inj e; omega))).trans h2
theorem lit_MN {W w5 : World} {n : Int} {o : Obj} (hg : ((W.drew.alloc o).alloc (.cells #[.int .i64 n] 3)).grownBy w5 (some W.heap.size)) : w5.cell? ⟨W.heap.size + 1, 0, none⟩ = some (.int .i64 n) := by
  have h1 : ((W.drew.alloc o).alloc (.cells #[.int .i64 n] 3)).cell? ⟨W.heap.size + 1, 0, none⟩ = some (.int .i64 n) := cell_box (W.drew.alloc o) (.int .i64 n) 3 _ (size_al _ _)
  exact (World.cell?_of_block (a := ⟨W.heap.size + 1, 0, none⟩) (hg.block (W.heap.size + 1) (World.lt_of_cell h1) (fun e => by have := Option.some.inj e; omega))).trans h1
theorem src_oneN {w : World} {b : Nat} {n : Int} (h : w.cell? ⟨b, 0, none⟩ = some (.int .i64 n)) : SrcAt w (some ⟨b, 0, none⟩) 1 1 [.int .i64 n] :=
  ⟨rfl, .inr ⟨_, rfl, fun j u hj => by
    match j, hj with
    | 0, hj => simp at hj; subst hj; simpa [Addr.add] using h
    | j + 1, hj => simp at hj⟩⟩
theorem one_intN (n : Int) : ∀ u ∈ [Value.int .i64 n], u.oneCell' = true := by intro u hu; simp at hu; subst hu; rfl
/-- The row that three appends make. -/
theorem three_intsN (zs : List Int) (k : Nat) (n : Int) : [] ++ intCells (zs.take k) ++ [Value.int .i64 n] ++ intCells (zs.drop k) = intCells (zs.take k ++ n :: zs.drop k) := by simp [intCells]
set_option maxHeartbeats 25600000 in
set_option maxRecDepth 100000 in
theorem l1PutN_any (a : Option Addr) (len cap : Nat) (zs : List Int) (n : Int) (w : World) (h : IsInts w a len cap zs) (hx : zs.length ≤ 1000) :
    Calls Tryz.prog 35 #[.slice a len cap, .int .i64 n] w (ReadsIntsN (putN n zs) w) := by
  obtain ⟨i1, hi1, hy0, hy1, hy2⟩ := info_parts infoInt
  have hm := h.2.2.1
  have hcl := h.2.1
  unfold maxLen at hm
  have S := Lib.hid h
  have L := Lib.hid h.1
  have hl10 : len ≤ 1000 := by have := h.1; omega
  clear h
  go_enter Tryz.func35, Tryz.ntmps35
  go_wp2
  go_loop [5] (fun i => ∃ k : Nat, k ≤ len ∧ i = .int .i64 k ∧ ∀ (j : Nat) z, j < k → zs[j]? = some z → z < n) (fun i => len - (intOf i).toNat)
  case atStart => exact ⟨0, Nat.zero_le _, rfl, fun _ _ h => by omega⟩
  case round =>
    obtain ⟨k, hk, rfl, hall⟩ := hrel
    have A := Lib.hid hall
    clear hall
    have k0 : (0 : Int) ≤ (k : Int) := by omega
    have kl : (k : Int) ≤ (len : Int) := by omega
    have kc : k ≤ cap := by omega
    have kc2 : (k : Int) ≤ (cap : Int) := by omega
    by_cases hlt : k < len
    · obtain ⟨z, hz⟩ := el_at L hlt
      obtain ⟨b, o, rfl, hb, hat⟩ := S.out.at (by omega)
      have c0 := hat k z hz
      have AT := Lib.hid hat
      have Z := Lib.hid hz
      have hi1' : (k : Int) < (len : Int) := by omega
      clear hz hat
      by_cases hzn : z < n
      · go_wp2
        go_round
        case rel => exact ⟨k + 1, by omega, by go_num, fun j y hj hy => by
          by_cases e : j = k
          · subst e; rw [Z.out] at hy; cases hy; exact hzn
          · exact A.out j y (by omega) hy⟩
        case measure => simp [intOf]; omega
      · have PA := Lib.hid (putN_at A.out (fun y hy => by rw [Z.out] at hy; cases hy; exact hzn) (by have := L.out; omega) : putN n zs = if zs[k]? = some n then zs else zs.take k ++ n :: zs.drop k)
        by_cases hze : z = n
        · have E := Lib.hid (show putN n zs = zs from by rw [PA.out, Z.out, if_pos (by rw [hze])])
          have hb1 : (z == n) = true := by simpa using hze
          subst hze
          go_wp2
          go_ret
          exact ⟨⟨_, len, cap⟩, rfl, by rw [E.out]; exact S.out, Below.refl _ _⟩
        · have E := Lib.hid (show putN n zs = zs.take k ++ n :: zs.drop k from by rw [PA.out, Z.out, if_neg (fun e => hze (Option.some.inj e))])
          have hb1 : (z == n) = false := by simpa using hze
          have hcj : ¬ cap = k := by omega
          clear PA
          go_wp2_with fail
          refine wp_world (fun W => Below w.heap.size w W) (by first | exact Below.refl _ _ | exact bel_drawn _ _) ?_
          intro W hbw
          have BW := Lib.hid hbw
          have hW0 := hbw.size
          clear hbw c0
          have hj' : k ≤ len := hk
          go_region_law (first
            | (refine step_append_some (by rfl) (.tmp 33) (.tmp 36) 27 (by rfl) W.heap.size 3 i1 (.int .i64 0) 1 8 Tryz.underlying27 hi1 hy0 hy1 hy2 (by rfl) (by decide) _ (by simp [Act.eval]; rfl) _ _ 0 [] (by rfl) (by first | exact made_intsN W.drew W.heap.size (Nat.le_refl _) | exact (made_intsN W.drew W.heap.size (Nat.le_refl _)).alloc (.cells #[.int .i64 n] 3) | exact madeLaterN W (.cells #[.int .i64 n] 3)) _ (by simp [Act.eval]; rfl) _ k _ (intCells (zs.take k)) (by rfl) (by first | exact srcInts_takeN (S.out.below (belDAN BW.out _)) hj' | exact srcInts_takeN (S.out.below (belDAAN BW.out _ _)) hj') (one_intsN _) (by unfold maxLen; omega) (by omega) (by first | exact (belDAN (Below.refl W.heap.size W) _).size | exact (belDAAN (Below.refl W.heap.size W) _ _).size) ?_; intro g5 c5 w5 hown5 hgrow5 hn5 hc5 hg5 hl5; rw [Nat.zero_add, List.nil_append] at hown5; have O5 := Lib.hid hown5; have hs5 : W.heap.size ≤ w5.heap.size := by omega
               have B5 := Lib.hid (show Below w.heap.size w w5 from by first | exact (belDAN BW.out _).grown hgrow5 (belDAN BW.out _).size (fun j e => by cases e; omega) | exact (belDAAN BW.out _ _).grown hgrow5 (belDAAN BW.out _ _).size (fun j e => by cases e; omega))
               try have N5 := Lib.hid (lit_LN hgrow5)
               try have N5 := Lib.hid (lit_MN hgrow5)
               clear hown5 hgrow5)
            | (refine step_append_some (by rfl) (.tmp 37) (.tmp 39) 27 (by rfl) W.heap.size 3 i1 (.int .i64 0) 1 8 Tryz.underlying27 hi1 hy0 hy1 hy2 (by rfl) (by decide) _ (by simp [Act.eval]; rfl) g5 c5 k (intCells (zs.take k)) (by rfl) (by first | exact O5.out | exact O5.out.alloc _) _ (by simp [Act.eval]; rfl) _ 1 1 [.int .i64 n] (by rfl) (by first | exact src_oneN N5.out | exact src_oneN (cell_box w5 (.int .i64 n) 3 _ rfl)) (one_intN n) (by unfold maxLen; omega) (by omega) (by first | exact hs5 | exact Nat.le_trans hs5 (bel_al1 w5 _).size) ?_; intro g6 c6 w6 hown6 hgrow6 hn6 hc6 hg6 hl6; have O6 := Lib.hid hown6; have hs6 : W.heap.size ≤ w6.heap.size := by omega
               have B6 := Lib.hid (show Below w.heap.size w w6 from by first | exact B5.out.grown hgrow6 B5.out.size (fun j e => by cases e; omega) | exact (Below.then' B5.out (bel_al1 _ _)).grown hgrow6 (Below.then' B5.out (bel_al1 _ _)).size (fun j e => by cases e; omega))
               clear hown6 hgrow6)
            | (refine step_append_some (by rfl) (.tmp 40) (.tmp 43) 27 (by rfl) W.heap.size 3 i1 (.int .i64 0) 1 8 Tryz.underlying27 hi1 hy0 hy1 hy2 (by rfl) (by decide) _ (by simp [Act.eval]; rfl) g6 c6 (k + 1) (intCells (zs.take k) ++ [.int .i64 n]) (by rfl) O6.out _ (by simp [Act.eval]; rfl) _ (len - k) _ (intCells (zs.drop k)) (by rfl) (srcInts_dropN (S.out.below B6.out) hj') (one_intsN _) (by unfold maxLen; omega) (by omega) hs6 ?_; intro g7 c7 w7 hown7 hgrow7 hn7 hc7 hg7 hl7
               have O7 := Lib.hid hown7
               have B7 := Lib.hid (show Below w.heap.size w w7 from B6.out.grown hgrow7 B6.out.size (fun j e => by cases e; omega))
               clear hown7 hgrow7))
          all_goals go_wp2
          all_goals go_ret
          all_goals exact ⟨⟨_, _, _⟩, rfl, by
            rw [E.out]
            have h := O7.out
            rw [show intCells (zs.take k) ++ [Value.int .i64 n] ++ intCells (zs.drop k) = intCells (zs.take k ++ n :: zs.drop k) from by simp [intCells]] at h
            exact ints_putN h (by have := L.out; show k + 1 + (len - k) = _; rw [List.length_append, List.length_take, List.length_cons, List.length_drop]; omega), B7.out⟩
    · obtain rfl : k = len := by omega
      have E := Lib.hid (show putN n zs = zs ++ [n] from by
        have hz : zs.length ≤ k := by have := L.out; omega
        have h := putN_at (zs := zs) (k := k) A.out (fun y hy => by rw [List.getElem?_eq_none hz] at hy; cases hy) (by have := L.out; omega)
        rw [h, if_neg (by rw [List.getElem?_eq_none hz]; simp), List.take_of_length_le hz, List.drop_of_length_le hz])
      have TK := Lib.hid (show zs.take k = zs from List.take_of_length_le (by have := L.out; omega))
      have hj' : k ≤ k := Nat.le_refl _
      go_wp2_with fail
      refine wp_world (fun W => Below w.heap.size w W) (by first | exact Below.refl _ _ | exact bel_drawn _ _) ?_
      intro W hbw
      have BW := Lib.hid hbw
      have hW0 := hbw.size
      clear hbw
      by_cases hcj : cap = k
      all_goals rcases a with _ | p
      all_goals
          go_region_law (first
            | (refine step_append_optN (by rfl) (.tmp 33) (.tmp 36) 27 (by rfl) W.heap.size 3 i1 (.int .i64 0) 1 8 Tryz.underlying27 hi1 hy0 hy1 hy2 (by rfl) (by decide) _ (by simp [Act.eval] <;> rfl) 0 [] (by first | exact made_intsN W.drew W.heap.size (Nat.le_refl _) | exact (made_intsN W.drew W.heap.size (Nat.le_refl _)).alloc (.cells #[.int .i64 n] 3) | exact madeLaterN W (.cells #[.int .i64 n] 3)) _ (by simp [Act.eval] <;> rfl) _ k _ (intCells (zs.take k)) (by rfl) (by first | exact srcInts_takeN (S.out.below (belDAN BW.out _)) hj' | exact srcInts_takeN (S.out.below (belDAAN BW.out _ _)) hj') (one_intsN _) (by unfold maxLen; omega) (by omega) (by first | exact (belDAN (Below.refl W.heap.size W) _).size | exact (belDAAN (Below.refl W.heap.size W) _ _).size) ?_; intro v5 w5 hown5 hgrow5; rw [Nat.zero_add, List.nil_append] at hown5; have O5 := Lib.hid hown5
               have B5W := Lib.hid (show Below W.heap.size W w5 from by first | exact (belDAN (Below.refl _ W) _).grown hgrow5 (belDAN (Below.refl _ W) _).size (fun j e => by have := own_is e; omega) | exact (belDAAN (Below.refl _ W) _ _).grown hgrow5 (belDAAN (Below.refl _ W) _ _).size (fun j e => by have := own_is e; omega))
               have hs5 : W.heap.size ≤ w5.heap.size := B5W.out.size
               have B5 := Lib.hid (Below.then' BW.out B5W.out)
               try have N5 := Lib.hid (lit_LN hgrow5)
               try have N5 := Lib.hid (lit_MN hgrow5)
               clear hown5 hgrow5)
            | (refine step_append_optN (by rfl) (.tmp 37) (.tmp 39) 27 (by rfl) W.heap.size 3 i1 (.int .i64 0) 1 8 Tryz.underlying27 hi1 hy0 hy1 hy2 (by rfl) (by decide) _ (by simp [Act.eval] <;> rfl) k (intCells (zs.take k)) (by first | exact O5.out | exact O5.out.alloc _) _ (by simp [Act.eval] <;> rfl) _ 1 1 [.int .i64 n] (by rfl) (by first | exact src_oneN N5.out | exact src_oneN (cell_box w5 (.int .i64 n) 3 _ rfl)) (one_intN n) (by unfold maxLen; omega) (by omega) (by first | exact hs5 | exact Nat.le_trans hs5 (bel_al1 w5 _).size) ?_; intro v6 w6 hown6 hgrow6; have O6 := Lib.hid hown6
               have B6 := Lib.hid (show Below w.heap.size w w6 from by first | exact B5.out.grown hgrow6 B5.out.size (fun j e => Nat.le_trans hW0 (O5.out.lt j e).1) | exact (Below.then' B5.out (bel_al1 _ _)).grown hgrow6 (Below.then' B5.out (bel_al1 _ _)).size (fun j e => Nat.le_trans hW0 (O5.out.lt j e).1))
               have hs6 : W.heap.size ≤ w6.heap.size := by first | exact (B5W.out.grown hgrow6 B5W.out.size (fun j e => (O5.out.lt j e).1)).size | exact ((Below.then' B5W.out (bel_al1 _ _)).grown hgrow6 (Below.then' B5W.out (bel_al1 _ _)).size (fun j e => (O5.out.lt j e).1)).size
               clear hown6 hgrow6)
            | (refine step_append_optN (by rfl) (.tmp 40) (.tmp 43) 27 (by rfl) W.heap.size 3 i1 (.int .i64 0) 1 8 Tryz.underlying27 hi1 hy0 hy1 hy2 (by rfl) (by decide) _ (by simp [Act.eval] <;> rfl) (k + 1) (intCells (zs.take k) ++ [.int .i64 n]) O6.out _ (by simp [Act.eval] <;> rfl) _ 0 _ [] (by rfl) ⟨rfl, .inl rfl⟩ (by simp) (by unfold maxLen; omega) (by omega) hs6 ?_; intro v7 w7 hown7 hgrow7
               have O7 := Lib.hid hown7
               have B7 := Lib.hid (show Below w.heap.size w w7 from B6.out.grown hgrow7 B6.out.size (fun j e => Nat.le_trans hW0 (O6.out.lt j e).1))
               clear hown7 hgrow7))
          all_goals go_wp2
          all_goals go_ret
          all_goals
            have h := O7.out
            rw [TK.out, show intCells zs ++ [Value.int .i64 n] ++ [] = intCells (zs ++ [n]) from by simp [intCells], show k + 1 + 0 = (zs ++ [n]).length from by have := L.out; rw [List.length_append, List.length_singleton]; omega] at h
            obtain ⟨a', c', e', h', _⟩ := isInts_own h
            rw [e']
            exact ⟨⟨a', (zs ++ [n]).length, c'⟩, rfl, by rw [E.out]; exact h', B7.out⟩
end Go.Proofs.YtffbljbgmgifnaaGreatDoor
namespace Go.Proofs.YtffbljbgmgifnaaGreatDoor
open Go.RowKit

def idB (n : Int) : Bool := inB n 1 999
def backLo (l : VLoan) : Bool := l.Back == -1 || inB l.Back l.Out 4000
def VLoan.ok (l : VLoan) : Bool := idB l.Sheet && (idB l.Reader && (dayB l.Out && (inB l.Due l.Out 4000 && backLo l)))
theorem loOk_iff {l : VLoan} : l.ok = true ↔ (1 ≤ l.Sheet ∧ l.Sheet ≤ 999) ∧ (1 ≤ l.Reader ∧ l.Reader ≤ 999) ∧ (0 ≤ l.Out ∧ l.Out ≤ 4000) ∧ (l.Out ≤ l.Due ∧ l.Due ≤ 4000) ∧ (l.Back = -1 ∨ (l.Out ≤ l.Back ∧ l.Back ≤ 4000)) := by
  simp [VLoan.ok, idB, backLo, dayB, inB]
/-- Open on a day. -/
def openOn (d : Int) (l : VLoan) : Bool := decide (l.Out ≤ d) && (l.Back == -1 || decide (d < l.Back))
def lateOn (d : Int) (l : VLoan) : Bool := openOn d l && decide (l.Due < d)
/-- An earlier one b stands in the way of l. -/
def wayB (l b : VLoan) : Bool := b.Sheet == l.Sheet && (decide (b.Back < 0) || decide (l.Out < b.Back))
def loAt (xs : List VLoan) (i : Nat) : VLoan := (xs[i]?).getD ⟨0, 0, 0, 0, 0⟩
theorem loAt_some {xs : List VLoan} {i : Nat} {l : VLoan} (h : xs[i]? = some l) : loAt xs i = l := by unfold loAt; rw [h]; rfl
/-- The loan at place i fits behind those before it. -/
def fitLo (xs : List VLoan) (i : Nat) : Bool := (loAt xs i).ok && ((i == 0 || decide ((loAt xs (i - 1)).Out ≤ (loAt xs i).Out)) && !(xs.take i).any (wayB (loAt xs i)))
def areLo (xs : List VLoan) : Bool := decide (xs.length ≤ 15) && (List.range xs.length).all (fitLo xs)
theorem areLo_len {xs : List VLoan} (h : areLo xs = true) : xs.length ≤ 15 := by simp [areLo] at h; exact h.1
theorem areLo_fits {xs : List VLoan} (h : areLo xs = true) {i : Nat} (hi : i < xs.length) : fitLo xs i = true := by
  simp only [areLo, Bool.and_eq_true, List.all_eq_true, List.mem_range] at h; exact h.2 i hi
/-- As far as k all fit. -/
def upTo (xs : List VLoan) (k : Nat) : Prop := ∀ i, i < k → fitLo xs i = true
theorem upTo_zero (xs : List VLoan) : upTo xs 0 := fun i h => absurd h (by omega)
theorem upTo_snoc {xs : List VLoan} {k : Nat} (h : upTo xs k) (hk : fitLo xs k = true) : upTo xs (k + 1) := fun i hi => by
  by_cases e : i = k
  · rw [e]; exact hk
  · exact h i (by omega)
theorem areLo_all {xs : List VLoan} (h : upTo xs xs.length) (hl : xs.length ≤ 15) : areLo xs = true := by
  simp only [areLo, Bool.and_eq_true, List.all_eq_true, List.mem_range, decide_eq_true_eq]; exact ⟨hl, h⟩
theorem areLo_no {xs : List VLoan} {k : Nat} (hk : k < xs.length) (h : fitLo xs k = false) : areLo xs = false := by
  cases e : areLo xs with
  | false => rfl
  | true => rw [areLo_fits e hk] at h; cases h
theorem areLo_long {xs : List VLoan} (h : ¬ xs.length ≤ 15) : areLo xs = false := by simp [areLo, h]
theorem fits_ok {xs : List VLoan} {i : Nat} {l : VLoan} (hs : xs[i]? = some l) (h : fitLo xs i = true) : l.ok = true := by
  simp only [fitLo, Bool.and_eq_true, loAt_some hs] at h; exact h.1
theorem fits_way {xs : List VLoan} {i : Nat} {l : VLoan} (hs : xs[i]? = some l) (h : fitLo xs i = true) : (xs.take i).any (wayB l) = false := by
  simp only [fitLo, Bool.and_eq_true, loAt_some hs] at h; simpa using h.2.2
theorem fits_ord {xs : List VLoan} {i : Nat} {l b : VLoan} (hs : xs[i + 1]? = some l) (hb : xs[i]? = some b) (h : fitLo xs (i + 1) = true) : b.Out ≤ l.Out := by
  simp only [fitLo, Bool.and_eq_true, loAt_some hs, Nat.add_sub_cancel, loAt_some hb] at h; simpa using h.2.1
theorem areLo_ok {xs : List VLoan} (h : areLo xs = true) {l : VLoan} (hm : l ∈ xs) : l.ok = true := by
  obtain ⟨i, hi⟩ := List.getElem?_of_mem hm
  exact fits_ok hi (areLo_fits h (List.getElem?_eq_some_iff.1 hi).1)
/-- In order as far as all fit. -/
theorem upTo_ord {xs : List VLoan} {k : Nat} (h : upTo xs k) : ∀ (j i : Nat) {a b : VLoan}, i ≤ j → j < k → xs[i]? = some a → xs[j]? = some b → a.Out ≤ b.Out := by
  intro j
  induction j with
  | zero => intro i a b hi _ ha hb; obtain rfl : i = 0 := (by omega); rw [ha] at hb; cases hb; exact Int.le_refl _
  | succ j ih =>
    intro i a b hi hj ha hb
    by_cases e : i = j + 1
    · subst e; rw [ha] at hb; cases hb; exact Int.le_refl _
    · have hj' : j < xs.length := by have := (List.getElem?_eq_some_iff.1 hb).1; omega
      have hc : xs[j]? = some xs[j] := List.getElem?_eq_getElem _
      have h1 := ih i (a := a) (b := xs[j]) (by omega) (by omega) ha hc
      have h2 := fits_ord hb hc (h (j + 1) hj)
      omega
theorem upTo_oks {xs : List VLoan} {k : Nat} (h : upTo xs k) : ∀ b ∈ xs.take k, b.ok = true := by
  intro b hb
  obtain ⟨i, hi⟩ := List.getElem?_of_mem hb
  rw [List.getElem?_take] at hi
  split at hi
  · exact fits_ok hi (h i (by omega))
  · cases hi
/-- An open one among those before is one that stands in the way. -/
theorem way_open {l b : VLoan} (hb : b.ok = true) (ho : b.Out ≤ l.Out) : (b.Sheet == l.Sheet && openOn l.Out b) = wayB l b := by
  have h := (loOk_iff.1 hb)
  unfold openOn wayB
  have e1 : decide (b.Out ≤ l.Out) = true := by simpa using ho
  have e2 : (b.Back == -1) = decide (b.Back < 0) := by rw [Bool.eq_iff_iff]; simp; omega
  rw [e1, e2]; rfl
theorem first_nn {α : Type} (f : α → Bool) (xs : List α) : decide (0 ≤ firstOf f xs) = xs.any f := by
  rw [Bool.eq_iff_iff, decide_eq_true_eq, List.any_eq_true]
  rcases firstOf_cases f xs with ⟨h1, h2⟩ | ⟨i, s, h1, h2, h3, _⟩
  · rw [h1]
    constructor
    · intro h; omega
    · rintro ⟨s, hs, e⟩; rw [h2 s hs] at e; cases e
  · rw [h1]; exact ⟨fun _ => ⟨s, List.mem_of_getElem? h2, h3⟩, fun _ => by omega⟩
theorem any_same {α : Type} {f g : α → Bool} {xs : List α} (h : ∀ x ∈ xs, f x = g x) : xs.any f = xs.any g := by
  rw [Bool.eq_iff_iff, List.any_eq_true, List.any_eq_true]
  exact ⟨fun ⟨x, hx, e⟩ => ⟨x, hx, (h x hx) ▸ e⟩, fun ⟨x, hx, e⟩ => ⟨x, hx, (h x hx).symm ▸ e⟩⟩
/-- The search for an open one among those before tells what the rule asks. -/
theorem way_first {xs : List VLoan} {i : Nat} {l : VLoan} (h : upTo xs i) (hs : xs[i]? = some l) (ho : ∀ b, xs[i - 1]? = some b → 0 < i → b.Out ≤ l.Out) :
    decide (0 ≤ firstOf (fun b : VLoan => b.Sheet == l.Sheet && openOn l.Out b) (xs.take i)) = (xs.take i).any (wayB l) := by
  rw [first_nn]
  have hi := (List.getElem?_eq_some_iff.1 hs).1
  refine any_same fun b hb => way_open (upTo_oks h b hb) ?_
  obtain ⟨j, hj⟩ := List.getElem?_of_mem hb
  rw [List.getElem?_take] at hj
  split at hj
  · rename_i hji
    have hc : xs[i - 1]? = some (xs[i - 1]'(by omega)) := List.getElem?_eq_getElem _
    have h1 := upTo_ord h (i - 1) j (by omega) (by omega) hj hc
    have h2 := ho _ hc (by omega)
    omega
  · cases hj
theorem fits_is {xs : List VLoan} {i : Nat} {l : VLoan} (hs : xs[i]? = some l) : fitLo xs i = (l.ok && ((i == 0 || decide ((loAt xs (i - 1)).Out ≤ l.Out)) && !(xs.take i).any (wayB l))) := by
  unfold fitLo; rw [loAt_some hs]
/-- A list that is valid with one more was so without. -/
theorem fits_more (xs ys : List VLoan) {i : Nat} (hi : i < xs.length) : fitLo (xs ++ ys) i = fitLo xs i := by
  have e : ∀ j, j < xs.length → loAt (xs ++ ys) j = loAt xs j := fun j hj => by unfold loAt; rw [List.getElem?_append_left hj]
  unfold fitLo
  rw [e i hi, List.take_append_of_le_length (by omega)]
  by_cases h0 : i = 0
  · subst h0; rfl
  · rw [e (i - 1) (by omega)]
theorem areLo_front {xs ys : List VLoan} (h : areLo (xs ++ ys) = true) : areLo xs = true := by
  have hl := areLo_len h
  rw [List.length_append] at hl
  refine areLo_all (fun i hi => ?_) (by omega)
  rw [← fits_more xs ys hi]
  exact areLo_fits h (by rw [List.length_append]; omega)
/-- No two loans of a sheet are open on one day. -/
theorem open_one {xs : List VLoan} (h : areLo xs = true) {i j : Nat} {a b : VLoan} {d : Int} (hij : i < j) (ha : xs[i]? = some a) (hb : xs[j]? = some b) (oa : openOn d a = true) (ob : openOn d b = true) : ¬ a.Sheet = b.Sheet := by
  intro e
  have hw := fits_way hb (areLo_fits h (List.getElem?_eq_some_iff.1 hb).1)
  rw [List.any_eq_false] at hw
  have hm : a ∈ xs.take j := List.mem_of_getElem? (by rw [List.getElem?_take, if_pos hij]; exact ha)
  apply hw a hm
  have k := loOk_iff.1 (areLo_ok h (List.mem_of_getElem? ha))
  simp [openOn] at oa ob
  simp [wayB]
  refine ⟨e, ?_⟩
  omega

/-- The loan of a sheet that is not returned: where it stands, or -1. -/
def lentAt (xs : List VLoan) (s : Int) : Int := firstOf (fun l : VLoan => l.Sheet == s && decide (l.Back < 0)) xs
theorem first_same {α : Type} {f g : α → Bool} {xs : List α} (h : ∀ x ∈ xs, f x = g x) : firstOf f xs = firstOf g xs := by
  rcases firstOf_cases f xs with ⟨h1, h2⟩ | ⟨i, s, h1, h2, h3, h4⟩
  · rw [h1]; exact (firstOf_none fun s hs => by rw [← h s hs]; exact h2 s hs).symm
  · rw [h1]
    exact (firstOf_at h2 (by rw [← h s (List.mem_of_getElem? h2)]; exact h3) fun j t hj ht => by rw [← h t (List.mem_of_getElem? ht)]; exact h4 j t hj ht).symm
theorem lent_is {xs : List VLoan} (h : areLo xs = true) (s : Int) : firstOf (fun l : VLoan => l.Sheet == s && l.Back == -1) xs = lentAt xs s := by
  refine first_same fun l hl => ?_
  have k := loOk_iff.1 (areLo_ok h hl)
  have e : (l.Back == -1) = decide (l.Back < 0) := by rw [Bool.eq_iff_iff]; simp; omega
  rw [e]
theorem lent_cases (xs : List VLoan) (s : Int) : (lentAt xs s = -1) ∨ ∃ (i : Nat) (l : VLoan), lentAt xs s = (i : Int) ∧ xs[i]? = some l ∧ l.Sheet = s ∧ l.Back < 0 := by
  rcases firstOf_cases (fun l : VLoan => l.Sheet == s && decide (l.Back < 0)) xs with ⟨h1, _⟩ | ⟨i, l, h1, h2, h3, _⟩
  · exact .inl h1
  · simp at h3; exact .inr ⟨i, l, h1, h2, h3.1, h3.2⟩
def endL (l : VLoan) (d : Int) : Int := if l.Back < 0 then d else min d l.Back
def fineL (l : VLoan) (d : Int) : Int := min 1000 (10 * max 0 (endL l d - l.Due))
theorem fineL_bd (l : VLoan) (d : Int) : 0 ≤ fineL l d ∧ fineL l d ≤ 1000 := by unfold fineL; omega

def AreLoans_0 (xs : List VLoan) : Bool := areLo xs
def lentL (sheet reader day days : Int) : VLoan := ⟨sheet, reader, day, day + days, -1⟩
def daysB (n : Int) : Bool := inB n 1 60
def LendSheet_1 (xs : List VLoan) (sheet reader day days : Int) : Bool := areLo xs && (dayB day && (daysB days && areLo (xs ++ [lentL sheet reader day days])))
def LendSheet_0 (xs : List VLoan) (sheet reader day days : Int) : List VLoan := if LendSheet_1 xs sheet reader day days = true then xs ++ [lentL sheet reader day days] else []
def cameL (l : VLoan) (d : Int) : VLoan := { l with Back := d }
def retL (xs : List VLoan) (s d : Int) : List VLoan := xs.set (lentAt xs s).toNat (cameL (loAt xs (lentAt xs s).toNat) d)
def ReturnSheet_2 (xs : List VLoan) (s d : Int) : Bool := areLo xs && (decide (0 ≤ lentAt xs s) && (dayB d && areLo (retL xs s d)))
def ReturnSheet_0 (xs : List VLoan) (s d : Int) : List VLoan := if ReturnSheet_2 xs s d = true then retL xs s d else []
def ReturnSheet_1 (xs : List VLoan) (s d : Int) : Int := if ReturnSheet_2 xs s d = true then fineL (cameL (loAt xs (lentAt xs s).toNat) d) d else 0
def longL (l : VLoan) (n : Int) : VLoan := { l with Due := l.Due + n }
def proL (xs : List VLoan) (s n : Int) : List VLoan := xs.set (lentAt xs s).toNat (longL (loAt xs (lentAt xs s).toNat) n)
def mayPro (l : VLoan) (d : Int) : Bool := decide (d ≤ l.Due) && decide (l.Out ≤ d)
def ProlongLoan_1 (xs : List VLoan) (s d n : Int) : Bool := areLo xs && (decide (0 ≤ lentAt xs s) && (dayB d && (daysB n && (mayPro (loAt xs (lentAt xs s).toNat) d && areLo (proL xs s n)))))
def ProlongLoan_0 (xs : List VLoan) (s d n : Int) : List VLoan := if ProlongLoan_1 xs s d n = true then proL xs s n else []
def sheetsOf (f : VLoan → Bool) (xs : List VLoan) : List Int := ((xs.filter f).map VLoan.Sheet).foldl (fun out n => putN n out) []
def OpenLoans_1 (xs : List VLoan) (r d : Int) : Bool := areLo xs && (idB r && dayB d)
def OpenLoans_0 (xs : List VLoan) (r d : Int) : List Int := if OpenLoans_1 xs r d = true then sheetsOf (fun l => l.Reader == r && openOn d l) xs else []
def LateOn_1 (xs : List VLoan) (d : Int) : Bool := areLo xs && dayB d
def LateOn_0 (xs : List VLoan) (d : Int) : List Int := if LateOn_1 xs d = true then sheetsOf (lateOn d) xs else []
/-- Where the last loan of a sheet stands, or -1. -/
def lastL (s : Int) : List VLoan → Int
  | [] => -1
  | l :: t => if lastL s t < 0 then (if l.Sheet = s then 0 else -1) else lastL s t + 1
theorem lastL_snoc (s : Int) (ys : List VLoan) (l : VLoan) : lastL s (ys ++ [l]) = if l.Sheet = s then (ys.length : Int) else lastL s ys := by
  induction ys with
  | nil => simp [lastL]
  | cons y t ih =>
    rw [List.cons_append]
    unfold lastL
    rw [ih]
    by_cases e : l.Sheet = s
    · rw [if_pos e, if_pos e, if_neg (by omega), List.length_cons]; omega
    · rw [if_neg e, if_neg e]
theorem lastL_bd (s : Int) (ys : List VLoan) : -1 ≤ lastL s ys ∧ lastL s ys < (ys.length : Int) := by
  induction ys with
  | nil => simp [lastL]
  | cons y t ih =>
    unfold lastL
    rw [List.length_cons]
    split
    · split <;> omega
    · omega
def FineOn_1 (xs : List VLoan) (s d : Int) : Bool := areLo xs && (dayB d && decide (0 ≤ lastL s xs))
def FineOn_0 (xs : List VLoan) (s d : Int) : Int := if FineOn_1 xs s d = true then fineL (loAt xs (lastL s xs).toNat) d else 0
/-- Who has the sheet: the last open one. -/
def whoL (s d : Int) (xs : List VLoan) : Int := xs.foldl (fun who l => if l.Sheet = s ∧ openOn d l = true then l.Reader else who) 0
def WhoHas_1 (xs : List VLoan) (s d : Int) : Bool := areLo xs && (idB s && dayB d)
def WhoHas_0 (xs : List VLoan) (s d : Int) : Int := if WhoHas_1 xs s d = true then whoL s d xs else 0
def lentD (s d : Int) (l : VLoan) : Int := if l.Sheet = s ∧ l.Out ≤ d then endL l d - l.Out else 0
def daysL (s d : Int) (xs : List VLoan) : Int := xs.foldl (fun n l => n + lentD s d l) 0
def DaysLent_1 (xs : List VLoan) (s d : Int) : Bool := areLo xs && (idB s && dayB d)
def DaysLent_0 (xs : List VLoan) (s d : Int) : Int := if DaysLent_1 xs s d = true then daysL s d xs else 0
def timesL (xs : List VLoan) (s : Int) : Int := ((xs.filter fun l => l.Sheet == s).length : Int)
/-- The one sheet goes before the other: lent more often, or as often and smaller. -/
def favB (xs : List VLoan) (x m : VLoan) : Bool := decide (timesL xs m.Sheet < timesL xs x.Sheet) || (decide (timesL xs m.Sheet = timesL xs x.Sheet) && decide (x.Sheet < m.Sheet))
def favL (xs : List VLoan) : VLoan := pickB (favB xs) ⟨0, 0, 0, 0, 0⟩ xs
def FavoriteSheet_1 (xs : List VLoan) : Bool := areLo xs && decide (0 < xs.length)
def FavoriteSheet_0 (xs : List VLoan) : Int := if FavoriteSheet_1 xs = true then (favL xs).Sheet else 0

theorem LendSheet_0_len (xs : List VLoan) (s r d n : Int) (_ : xs.length ≤ 1048576) : (LendSheet_0 xs s r d n).length ≤ 1000000 := by
  unfold LendSheet_0
  split
  · rename_i hh
    simp only [LendSheet_1, Bool.and_eq_true] at hh
    have := areLo_len hh.2.2.2
    omega
  · simp
theorem ReturnSheet_0_len (xs : List VLoan) (s d : Int) (_ : xs.length ≤ 1048576) : (ReturnSheet_0 xs s d).length ≤ 1000000 := by
  unfold ReturnSheet_0
  split
  · rename_i hh
    simp only [ReturnSheet_2, Bool.and_eq_true] at hh
    have := areLo_len hh.2.2.2
    omega
  · simp
theorem ProlongLoan_0_len (xs : List VLoan) (s d n : Int) (_ : xs.length ≤ 1048576) : (ProlongLoan_0 xs s d n).length ≤ 1000000 := by
  unfold ProlongLoan_0
  split
  · rename_i hh
    simp only [ProlongLoan_1, Bool.and_eq_true] at hh
    have := areLo_len hh.2.2.2.2.2
    omega
  · simp
theorem putAll_len (zs : List Int) : ∀ out : List Int, (zs.foldl (fun out n => putN n out) out).length ≤ out.length + zs.length := by
  induction zs with
  | nil => intro out; simp
  | cons z l ih =>
    intro out
    rw [List.foldl_cons, List.length_cons]
    have h1 := ih (putN z out)
    have h2 := putN_len z out
    omega
theorem sheetsOf_len (f : VLoan → Bool) (xs : List VLoan) : (sheetsOf f xs).length ≤ xs.length := by
  unfold sheetsOf
  have h1 := putAll_len ((xs.filter f).map VLoan.Sheet) []
  rw [List.length_map] at h1
  have h2 := List.length_filter_le f xs
  simp at h1
  omega
theorem OpenLoans_0_len (xs : List VLoan) (r d : Int) (_ : xs.length ≤ 1048576) : (OpenLoans_0 xs r d).length ≤ 1000000 := by
  unfold OpenLoans_0
  split
  · rename_i hh
    simp only [OpenLoans_1, Bool.and_eq_true] at hh
    have := areLo_len hh.1
    have := sheetsOf_len (fun l => l.Reader == r && openOn d l) xs
    omega
  · simp
theorem LateOn_0_len (xs : List VLoan) (d : Int) (_ : xs.length ≤ 1048576) : (LateOn_0 xs d).length ≤ 1000000 := by
  unfold LateOn_0
  split
  · rename_i hh
    simp only [LateOn_1, Bool.and_eq_true] at hh
    have := areLo_len hh.1
    have := sheetsOf_len (lateOn d) xs
    omega
  · simp
theorem putAll_rises (zs : List Int) : ∀ out : List Int, List.Pairwise (· < ·) out → List.Pairwise (· < ·) (zs.foldl (fun out n => putN n out) out) := by
  induction zs with
  | nil => intro out h; exact h
  | cons z l ih => intro out h; exact ih _ (putN_rises h)
theorem putAll_mem (zs : List Int) (x : Int) : ∀ out : List Int, x ∈ zs.foldl (fun out n => putN n out) out ↔ x ∈ out ∨ x ∈ zs := by
  induction zs with
  | nil => intro out; simp
  | cons z l ih =>
    intro out
    rw [List.foldl_cons, ih, mem_putN, List.mem_cons]
    constructor
    · rintro ((h | h) | h)
      · exact .inr (.inl h)
      · exact .inl h
      · exact .inr (.inr h)
    · rintro (h | h | h)
      · exact .inl (.inr h)
      · exact .inl (.inl h)
      · exact .inr h
theorem asc_ext : ∀ (xs ys : List Int), List.Pairwise (· < ·) xs → List.Pairwise (· < ·) ys → (∀ v, v ∈ xs ↔ v ∈ ys) → xs = ys := by
  intro xs
  induction xs with
  | nil =>
    intro ys _ _ h
    cases ys with
    | nil => rfl
    | cons y l => have := (h y).2 (by simp); simp at this
  | cons x l ih =>
    intro ys h1 h2 h
    cases ys with
    | nil => have := (h x).1 (by simp); simp at this
    | cons y m =>
      have p1 := List.pairwise_cons.1 h1
      have p2 := List.pairwise_cons.1 h2
      have e : x = y := by
        have a1 := (h x).1 (by simp)
        have a2 := (h y).2 (by simp)
        rw [List.mem_cons] at a1 a2
        rcases a1 with a1 | a1
        · exact a1
        · rcases a2 with a2 | a2
          · exact a2.symm
          · have := p1.1 y a2; have := p2.1 x a1; omega
      subst e
      congr 1
      refine ih m p1.2 p2.2 fun v => ?_
      have hv := h v
      rw [List.mem_cons, List.mem_cons] at hv
      constructor
      · intro hm
        have := p1.1 v hm
        rcases hv.1 (.inr hm) with e | e
        · omega
        · exact e
      · intro hm
        have := p2.1 v hm
        rcases hv.2 (.inr hm) with e | e
        · omega
        · exact e
/-- Numbers that are all different, sorted, are the numbers put to their places one by one. -/
theorem sort_put {zs : List Int} (h : zs.Nodup) : (zs.mergeSort fun x y => decide (x ≤ y)) = zs.foldl (fun out n => putN n out) [] := by
  have hp := List.mergeSort_perm zs (fun x y : Int => decide (x ≤ y))
  have hs := List.pairwise_mergeSort (le := fun x y : Int => decide (x ≤ y)) (fun a b c => by simp; omega) (fun a b => by simp; omega) zs
  have hn : (zs.mergeSort fun x y => decide (x ≤ y)).Nodup := hp.nodup_iff.2 h
  refine asc_ext _ _ ?_ (putAll_rises zs [] List.Pairwise.nil) fun v => ?_
  · have := hs.and hn
    exact this.imp fun ⟨a, b⟩ => by
      have h1 := of_decide_eq_true a
      omega
  · rw [putAll_mem, hp.mem_iff]; simp
theorem sheets_nodup {xs : List VLoan} (h : areLo xs = true) {f : VLoan → Bool} {d : Int} (hf : ∀ l ∈ xs, f l = true → openOn d l = true) : ((xs.filter f).map VLoan.Sheet).Nodup := by
  have hp : List.Pairwise (fun a b : VLoan => f a = true → f b = true → ¬ a.Sheet = b.Sheet) xs := by
    rw [List.pairwise_iff_getElem]
    intro i j hi hj hij fa fb
    exact open_one h hij (List.getElem?_eq_getElem hi) (List.getElem?_eq_getElem hj) (hf _ (List.getElem_mem hi) fa) (hf _ (List.getElem_mem hj) fb)
  have h2 : List.Pairwise (fun a b : VLoan => ¬ a.Sheet = b.Sheet) (xs.filter f) := by
    have h3 := hp.filter f
    rw [List.pairwise_iff_getElem] at h3 ⊢
    intro i j hi hj hij
    exact h3 i j hi hj hij (List.mem_filter.1 (List.getElem_mem hi)).2 (List.mem_filter.1 (List.getElem_mem hj)).2
  exact List.pairwise_map.2 h2
theorem sheets_sorted {xs : List VLoan} (h : areLo xs = true) {f : VLoan → Bool} {d : Int} (hf : ∀ l ∈ xs, f l = true → openOn d l = true) : (((xs.filter f).map VLoan.Sheet).mergeSort fun x y => decide (x ≤ y)) = sheetsOf f xs := sort_put (sheets_nodup h hf)
/-- Who has the sheet, by the first open one. -/
theorem whoL_none {xs : List VLoan} {s d : Int} (h : ∀ l ∈ xs, (l.Sheet == s && openOn d l) = false) : whoL s d xs = 0 := by
  unfold whoL
  have : ∀ (ys : List VLoan) (z : Int), (∀ l ∈ ys, (l.Sheet == s && openOn d l) = false) → ys.foldl (fun who l => if l.Sheet = s ∧ openOn d l = true then l.Reader else who) z = z := by
    intro ys
    induction ys with
    | nil => intro z _; rfl
    | cons y t ih =>
      intro z hy
      have h1 := hy y (by simp)
      rw [List.foldl_cons, if_neg (by rintro ⟨e1, e2⟩; simp [e1, e2] at h1)]
      exact ih z fun l hl => hy l (List.mem_cons_of_mem _ hl)
  exact this xs 0 h
theorem whoL_some {xs : List VLoan} (ha : areLo xs = true) {s d : Int} {i : Nat} {l : VLoan} (hi : xs[i]? = some l) (hl : (l.Sheet == s && openOn d l) = true) : whoL s d xs = l.Reader := by
  simp at hl
  have hil := (List.getElem?_eq_some_iff.1 hi).1
  have key : ∀ k, i < k → k ≤ xs.length → whoL s d (xs.take k) = l.Reader := by
    intro k
    induction k with
    | zero => intro h; omega
    | succ k ih =>
      intro h1 h2
      obtain ⟨b, hb⟩ : ∃ b, xs[k]? = some b := ⟨xs[k], List.getElem?_eq_getElem _⟩
      rw [take_one hb]
      unfold whoL
      rw [List.foldl_append, List.foldl_cons, List.foldl_nil]
      by_cases e : i = k
      · subst e
        rw [hi] at hb; cases hb
        rw [if_pos hl]
      · have hn : ¬ (b.Sheet = s ∧ openOn d b = true) := by
          rintro ⟨e1, e2⟩
          exact open_one ha (show i < k by omega) hi hb hl.2 e2 (by rw [hl.1, e1])
        rw [if_neg hn]
        exact ih (by omega) (by omega)
  have := key xs.length hil (Nat.le_refl _)
  rwa [List.take_length] at this
end Go.Proofs.YtffbljbgmgifnaaGreatDoor
namespace Go.Proofs.YtffbljbgmgifnaaGreatDoor
open Go.RowKit

set_option maxHeartbeats 800000 in
theorem rBig_any (a : Option Addr) (len cap : Nat) (w : World) :
    Calls Tryz.prog 4 #[.slice a len cap] w fun e w' => e = .returned (.bool (decide (65536 < len))) ∧ w = w' := by
  by_cases h : 65536 < len
  · go_enter Tryz.func4, Tryz.ntmps4
    go_wp2
    go_ret
    exact ⟨ret_bool (by simp; omega), rfl⟩
  · go_enter Tryz.func4, Tryz.ntmps4
    go_wp2
    go_ret
    exact ⟨ret_bool (by simp; omega), rfl⟩
theorem bnn (q : Bool) : (q != q) = false := by cases q <;> rfl
set_option maxHeartbeats 1600000 in
set_option maxRecDepth 100000 in
theorem rInts_yes (a : Option Addr) (len cap : Nat) (a' : Option Addr) (len' cap' : Nat) (xs : List Int) (w : World) (h : IsInts w a len cap xs) (h' : IsInts w a' len' cap' xs) :
    Calls Tryz.prog 8 #[.slice a len cap, .slice a' len' cap'] w fun e w' => e = .returned (.bool true) ∧ Below w.heap.size w w' := by
  obtain rfl := h.1
  obtain rfl := h'.1
  have hm := h.2.2.1
  have hcl := h.2.1
  unfold maxLen at hm
  have S := Lib.hid h
  have S' := Lib.hid h'
  clear h h'
  go_enter Tryz.func8, Tryz.ntmps8
  go_wp2
  go_loopw [5] (fun i wr => ∃ k : Nat, k ≤ xs.length ∧ i = .int .i64 k ∧ Below w.heap.size w wr) (fun i _ => xs.length - (intOf i).toNat)
  case atStart => exact ⟨0, Nat.zero_le _, rfl, Below.refl _ _⟩
  case round =>
    obtain ⟨k, hk, rfl, hbel⟩ := hrel
    have B := Lib.hid hbel
    by_cases hlt : k < xs.length
    · obtain ⟨s, hs⟩ : ∃ s, xs[k]? = some s := ⟨xs[k]'hlt, List.getElem?_eq_getElem _⟩
      obtain ⟨b, o, rfl, hb, hat⟩ := (S.out.below hbel).at (by omega)
      obtain ⟨b', o', rfl, hb', hat'⟩ := (S'.out.below hbel).at (by omega)
      have c0 := hat k s hs
      have d0 := hat' k s hs
      have hi0 : (0 : Int) ≤ (k : Int) := by omega
      have hi1 : (k : Int) < (xs.length : Int) := by omega
      clear hbel hs hat hat'
      go_wp2
      go_quiet (fail)
      have B1 := Lib.hid (Below.then' B.out (bel_drawn wr nq))
      go_wp2
      go_roundw
      case rel => exact ⟨k + 1, by omega, by go_num, B1.out⟩
      case measure => simp [intOf]; omega
    · obtain rfl : k = xs.length := by omega
      clear hbel
      go_wp2
      go_ret
      exact ⟨rfl, B.out⟩
def hasB (x : Int) (xs : List Int) : Bool := xs.any fun y => y == x
theorem hasB_iff {x : Int} {xs : List Int} : hasB x xs = true ↔ x ∈ xs := by
  unfold hasB; rw [List.any_eq_true]
  constructor
  · rintro ⟨y, h1, h2⟩; rw [← (by simpa using h2 : y = x)]; exact h1
  · intro h; exact ⟨x, h, by simp⟩
set_option maxHeartbeats 1600000 in
set_option maxRecDepth 100000 in
theorem rHas_any (a : Option Addr) (len cap : Nat) (xs : List Int) (x : Int) (w : World) (h : IsInts w a len cap xs) :
    Calls Tryz.prog 15 #[.slice a len cap, .int .i64 x] w fun e w' => e = .returned (.bool (hasB x xs)) ∧ w = w' := by
  obtain rfl := h.1
  have hm := h.2.2.1
  have hcl := h.2.1
  unfold maxLen at hm
  have S := Lib.hid h
  clear h
  go_enter Tryz.func15, Tryz.ntmps15
  go_wp2
  go_loop [5] (fun i => ∃ k : Nat, k ≤ xs.length ∧ i = .int .i64 k ∧ ∀ j y, j < k → xs[j]? = some y → ¬ y = x) (fun i => xs.length - (intOf i).toNat)
  case atStart => exact ⟨0, Nat.zero_le _, rfl, fun _ _ h => by omega⟩
  case round =>
    obtain ⟨k, hk, rfl, hno⟩ := hrel
    have NO := Lib.hid hno
    clear hno
    by_cases hlt : k < xs.length
    · obtain ⟨s, hs⟩ : ∃ s, xs[k]? = some s := ⟨xs[k]'hlt, List.getElem?_eq_getElem _⟩
      obtain ⟨b, o, rfl, hb, hat⟩ := S.out.at (by omega)
      have c0 := hat k s hs
      have hi0 : (0 : Int) ≤ (k : Int) := by omega
      have hi1 : (k : Int) < (xs.length : Int) := by omega
      have HS := Lib.hid hs
      clear hs hat
      by_cases he : s = x
      · have Y := Lib.hid (show hasB x xs = true from hasB_iff.2 (he ▸ List.mem_of_getElem? HS.out))
        have hb1 : (s == x) = true := by simpa using he
        subst he
        go_wp2
        go_ret
        exact ⟨ret_bool Y.out.symm, rfl⟩
      · have hb1 : (s == x) = false := by simpa using he
        have HE := Lib.hid he
        clear he
        go_wp2
        go_round
        case rel => exact ⟨k + 1, by omega, by go_num, fun j y hj hy => by
          by_cases e : j = k
          · subst e; rw [HS.out] at hy; cases hy; exact HE.out
          · exact NO.out j y (by omega) hy⟩
        case measure => simp [intOf]; omega
    · obtain rfl : k = xs.length := by omega
      have Y := Lib.hid (show hasB x xs = false from by
        rw [← Bool.not_eq_true, hasB_iff]
        intro h
        obtain ⟨j, hj⟩ := List.getElem?_of_mem h
        exact NO.out j x (List.getElem?_eq_some_iff.1 hj).1 hj rfl)
      go_wp2
      go_ret
      exact ⟨ret_bool Y.out.symm, rfl⟩
end Go.Proofs.YtffbljbgmgifnaaGreatDoor
namespace Go.Proofs.YtffbljbgmgifnaaGreatDoor
open Go.RowKit

theorem open_way {l b : VLoan} {d : Int} (hd : l.Out = d) (ho : openOn d b = true) (hs : b.Sheet = l.Sheet) : wayB l b = true := by
  simp [openOn] at ho
  simp [wayB, hs, hd]
  omega
theorem lend_parts {xs : List VLoan} {sh rd d n : Int} (h : LendSheet_1 xs sh rd d n = true) : areLo xs = true ∧ dayB d = true ∧ areLo (xs ++ [lentL sh rd d n]) = true ∧ idB sh = true ∧ idB rd = true := by
  simp only [LendSheet_1, Bool.and_eq_true] at h
  obtain ⟨h1, h2, _, h4⟩ := h
  have k := loOk_iff.1 (areLo_ok h4 (show lentL sh rd d n ∈ xs ++ [lentL sh rd d n] from by simp))
  refine ⟨h1, h2, h4, ?_, ?_⟩
  · unfold idB; rw [inB_iff]; exact k.1
  · unfold idB; rw [inB_iff]; exact k.2.1
theorem lend_free {xs : List VLoan} {sh rd d n : Int} (h : LendSheet_1 xs sh rd d n = true) : WhoHas_1 xs sh d = true ∧ WhoHas_0 xs sh d = 0 := by
  obtain ⟨h1, h2, h4, h5, _⟩ := lend_parts h
  have e : WhoHas_1 xs sh d = true := by unfold WhoHas_1; rw [h1, h5, h2]; rfl
  refine ⟨e, ?_⟩
  unfold WhoHas_0
  rw [e, if_pos rfl]
  refine whoL_none fun b hb => ?_
  have hat : (xs ++ [lentL sh rd d n])[xs.length]? = some (lentL sh rd d n) := by simp
  have hw := fits_way hat (areLo_fits h4 (by simp))
  rw [List.take_append_of_le_length (Nat.le_refl _), List.take_of_length_le (Nat.le_refl _), List.any_eq_false] at hw
  cases hq : (b.Sheet == sh && openOn d b) with
  | false => rfl
  | true =>
    simp only [Bool.and_eq_true, beq_iff_eq] at hq
    exact absurd (open_way (l := lentL sh rd d n) rfl hq.2 hq.1) (hw b hb)
theorem lent_open {sh rd d n : Int} : openOn d (lentL sh rd d n) = true := by simp [openOn, lentL]
theorem lend_has {xs : List VLoan} {sh rd d n : Int} (h : LendSheet_1 xs sh rd d n = true) : WhoHas_1 (LendSheet_0 xs sh rd d n) sh d = true ∧ WhoHas_0 (LendSheet_0 xs sh rd d n) sh d = rd ∧ OpenLoans_1 (LendSheet_0 xs sh rd d n) rd d = true ∧ sh ∈ OpenLoans_0 (LendSheet_0 xs sh rd d n) rd d := by
  obtain ⟨_, h2, h4, h5, h6⟩ := lend_parts h
  have e0 : LendSheet_0 xs sh rd d n = xs ++ [lentL sh rd d n] := by unfold LendSheet_0; rw [h, if_pos rfl]
  rw [e0]
  have hat : (xs ++ [lentL sh rd d n])[xs.length]? = some (lentL sh rd d n) := by simp
  have e1 : WhoHas_1 (xs ++ [lentL sh rd d n]) sh d = true := by unfold WhoHas_1; rw [h4, h5, h2]; rfl
  have e2 : OpenLoans_1 (xs ++ [lentL sh rd d n]) rd d = true := by unfold OpenLoans_1; rw [h4, h6, h2]; rfl
  refine ⟨e1, ?_, e2, ?_⟩
  · unfold WhoHas_0
    rw [e1, if_pos rfl, whoL_some h4 hat (by rw [lent_open]; simp [lentL])]; rfl
  · unfold OpenLoans_0
    rw [e2, if_pos rfl]
    unfold sheetsOf
    rw [putAll_mem]
    refine .inr (List.mem_map.2 ⟨lentL sh rd d n, List.mem_filter.2 ⟨by simp, by rw [lent_open]; simp [lentL]⟩, rfl⟩)
/-- The last loan of a sheet stands where none of the sheet stands behind it. -/
theorem lastL_is {s : Int} : ∀ (ys : List VLoan) (i : Nat) (l : VLoan), ys[i]? = some l → l.Sheet = s → (∀ (j : Nat) b, i < j → ys[j]? = some b → ¬ b.Sheet = s) → lastL s ys = (i : Int) := by
  intro ys
  induction ys with
  | nil => intro i l h; simp at h
  | cons y t ih =>
    intro i l hi hl hn
    have key : ∀ (t : List VLoan), (∀ (j : Nat) b, t[j]? = some b → ¬ b.Sheet = s) → lastL s t = -1 := by
      intro t
      induction t with
      | nil => intro _; rfl
      | cons z u ih2 =>
        intro h
        unfold lastL
        rw [ih2 fun j b hb => h (j + 1) b (by simpa using hb), if_pos (by omega), if_neg (h 0 z rfl)]
    cases i with
    | zero =>
      simp at hi; subst hi
      unfold lastL
      rw [key t fun j b hb => hn (j + 1) b (by omega) (by simpa using hb), if_pos (by omega), if_pos hl]; rfl
    | succ i =>
      unfold lastL
      rw [ih i l (by simpa using hi) hl fun j b hj hb => hn (j + 1) b (by omega) (by simpa using hb), if_neg (by omega)]
      omega
theorem ret_parts {xs : List VLoan} {s d : Int} (h : ReturnSheet_2 xs s d = true) : ∃ (i : Nat) (l : VLoan), areLo xs = true ∧ dayB d = true ∧ lentAt xs s = (i : Int) ∧ xs[i]? = some l ∧ l.Sheet = s ∧ l.Back < 0 ∧ areLo (xs.set i (cameL l d)) = true ∧ ReturnSheet_0 xs s d = xs.set i (cameL l d) ∧ ReturnSheet_1 xs s d = fineL (cameL l d) d := by
  have hh := h
  simp only [ReturnSheet_2, Bool.and_eq_true, decide_eq_true_eq] at h
  obtain ⟨h1, h2, h3, h4⟩ := h
  rcases lent_cases xs s with hn | ⟨i, l, hn, hl, hs, hb⟩
  · rw [hn] at h2; omega
  · have e : retL xs s d = xs.set i (cameL l d) := by unfold retL; rw [hn, Int.toNat_natCast, loAt_some hl]
    refine ⟨i, l, h1, h3, hn, hl, hs, hb, by rw [← e]; exact h4, ?_, ?_⟩
    · unfold ReturnSheet_0; rw [hh, if_pos rfl, e]
    · unfold ReturnSheet_1; rw [hh, if_pos rfl, hn, Int.toNat_natCast, loAt_some hl]
theorem ret_free {xs : List VLoan} {s d : Int} (h : ReturnSheet_2 xs s d = true) : WhoHas_1 (ReturnSheet_0 xs s d) s d = true ∧ WhoHas_0 (ReturnSheet_0 xs s d) s d = 0 ∧ FineOn_1 (ReturnSheet_0 xs s d) s d = true ∧ FineOn_0 (ReturnSheet_0 xs s d) s d = ReturnSheet_1 xs s d := by
  obtain ⟨i, l, h1, h2, hn, hl, hs, hb, h4, e0, e1⟩ := ret_parts h
  rw [e0, e1]
  have hil := (List.getElem?_eq_some_iff.1 hl).1
  have hd' : 0 ≤ d ∧ d ≤ 4000 := inB_iff.1 h2
  have kl := loOk_iff.1 (areLo_ok h1 (List.mem_of_getElem? hl))
  have hat : (xs.set i (cameL l d))[i]? = some (cameL l d) := List.getElem?_set_self hil
  have kc := loOk_iff.1 (areLo_ok h4 (List.mem_of_getElem? hat))
  have hid : idB s = true := by unfold idB; rw [inB_iff, ← hs]; exact kl.1
  have hod : l.Out ≤ d := by
    have h5 := kc.2.2.2.2
    have h6 : (cameL l d).Back = d := rfl
    have h7 : (cameL l d).Out = l.Out := rfl
    rw [h6, h7] at h5
    omega
  have lo : openOn d l = true := by simp [openOn]; omega
  have ew : WhoHas_1 (xs.set i (cameL l d)) s d = true := by unfold WhoHas_1; rw [h4, hid, h2]; rfl
  have hlast : lastL s (xs.set i (cameL l d)) = (i : Int) := by
    refine lastL_is _ i _ hat hs fun j b hj hb' e => ?_
    rw [List.getElem?_set_ne (by omega)] at hb'
    have hw := fits_way hb' (areLo_fits h1 (List.getElem?_eq_some_iff.1 hb').1)
    rw [List.any_eq_false] at hw
    refine hw l (List.mem_of_getElem? (i := i) (by rw [List.getElem?_take, if_pos hj]; exact hl)) ?_
    simp [wayB, hs, e, hb]
  have ef : FineOn_1 (xs.set i (cameL l d)) s d = true := by unfold FineOn_1; rw [h4, h2, hlast, decide_eq_true (by omega : (0 : Int) ≤ (i : Int))]; rfl
  refine ⟨ew, ?_, ef, ?_⟩
  · unfold WhoHas_0
    rw [ew, if_pos rfl]
    refine whoL_none fun b hb' => ?_
    obtain ⟨j, hj⟩ := List.getElem?_of_mem hb'
    cases hq : (b.Sheet == s && openOn d b) with
    | false => rfl
    | true =>
      simp only [Bool.and_eq_true, beq_iff_eq] at hq
      by_cases e : j = i
      · subst e
        rw [hat] at hj; cases hj
        have h8 := hq.2
        simp [openOn, cameL] at h8
        omega
      · rw [List.getElem?_set_ne (by omega)] at hj
        rcases Nat.lt_or_gt_of_ne e with hlt | hgt
        · exact absurd (hq.1.trans hs.symm) (open_one h1 hlt hj hl hq.2 lo)
        · exact absurd (hs.trans hq.1.symm) (open_one h1 hgt hl hj lo hq.2)
  · unfold FineOn_0
    rw [ef, if_pos rfl, hlast, Int.toNat_natCast, loAt_some hat]
end Go.Proofs.YtffbljbgmgifnaaGreatDoor
namespace Go.Proofs.YtffbljbgmgifnaaGreatDoor
open Go.RowKit

theorem late_who {xs : List VLoan} {d x : Int} (h : LateOn_1 xs d = true) (hx : x ∈ LateOn_0 xs d) : WhoHas_1 xs x d = true ∧ ¬ WhoHas_0 xs x d = 0 := by
  have h1 : areLo xs = true ∧ dayB d = true := by simpa [LateOn_1] using h
  unfold LateOn_0 at hx
  rw [h, if_pos rfl] at hx
  unfold sheetsOf at hx
  rw [putAll_mem] at hx
  have hx2 : x ∈ (xs.filter (lateOn d)).map VLoan.Sheet := hx.elim (fun e => by simp at e) id
  obtain ⟨l, hl, rfl⟩ := List.mem_map.1 hx2
  obtain ⟨hlm, hla⟩ := List.mem_filter.1 hl
  have ho : openOn d l = true := by unfold lateOn at hla; simp only [Bool.and_eq_true] at hla; exact hla.1
  obtain ⟨i, hi⟩ := List.getElem?_of_mem hlm
  have k := loOk_iff.1 (areLo_ok h1.1 hlm)
  have e : WhoHas_1 xs l.Sheet d = true := by
    have hid : idB l.Sheet = true := by unfold idB; rw [inB_iff]; exact k.1
    unfold WhoHas_1; rw [h1.1, hid, h1.2]; rfl
  refine ⟨e, ?_⟩
  unfold WhoHas_0
  rw [e, if_pos rfl, whoL_some h1.1 hi (by rw [ho]; simp)]
  omega
theorem pro_parts {xs : List VLoan} {s d n : Int} (h : ProlongLoan_1 xs s d n = true) : ∃ (i : Nat) (l : VLoan), areLo xs = true ∧ dayB d = true ∧ 1 ≤ n ∧ xs[i]? = some l ∧ l.Sheet = s ∧ l.Back < 0 ∧ d ≤ l.Due ∧ l.Out ≤ d ∧ areLo (xs.set i (longL l n)) = true ∧ ProlongLoan_0 xs s d n = xs.set i (longL l n) := by
  have hh := h
  simp only [ProlongLoan_1, Bool.and_eq_true, decide_eq_true_eq] at h
  obtain ⟨h1, h2, h3, h4, h5, h6⟩ := h
  rcases lent_cases xs s with hn | ⟨i, l, hn, hl, hs, hb⟩
  · rw [hn] at h2; omega
  · have e : proL xs s n = xs.set i (longL l n) := by unfold proL; rw [hn, Int.toNat_natCast, loAt_some hl]
    rw [hn, Int.toNat_natCast, loAt_some hl] at h5
    have h7 : d ≤ l.Due ∧ l.Out ≤ d := by simpa [mayPro] using h5
    have h8 : 1 ≤ n ∧ n ≤ 60 := inB_iff.1 h4
    exact ⟨i, l, h1, h3, h8.1, hl, hs, hb, h7.1, h7.2, by rw [← e]; exact h6, by unfold ProlongLoan_0; rw [hh, if_pos rfl, e]⟩
theorem pro_late {xs : List VLoan} {s d n : Int} (h : ProlongLoan_1 xs s d n = true) : LateOn_1 (ProlongLoan_0 xs s d n) d = true ∧ (¬ s ∈ LateOn_0 (ProlongLoan_0 xs s d n) d) ∧ FineOn_1 (ProlongLoan_0 xs s d n) s d = true ∧ FineOn_0 (ProlongLoan_0 xs s d n) s d = 0 := by
  obtain ⟨i, l, h1, h2, hn, hl, hs, hb, hd1, hd2, h4, e0⟩ := pro_parts h
  rw [e0]
  have hil := (List.getElem?_eq_some_iff.1 hl).1
  have kl := loOk_iff.1 (areLo_ok h1 (List.mem_of_getElem? hl))
  have hat : (xs.set i (longL l n))[i]? = some (longL l n) := List.getElem?_set_self hil
  have lo : openOn d l = true := by simp [openOn]; omega
  have el : LateOn_1 (xs.set i (longL l n)) d = true := by unfold LateOn_1; rw [h4, h2]; rfl
  have hlast : lastL s (xs.set i (longL l n)) = (i : Int) := by
    refine lastL_is _ i _ hat hs fun j b hj hb' e => ?_
    rw [List.getElem?_set_ne (by omega)] at hb'
    have hw := fits_way hb' (areLo_fits h1 (List.getElem?_eq_some_iff.1 hb').1)
    rw [List.any_eq_false] at hw
    refine hw l (List.mem_of_getElem? (i := i) (by rw [List.getElem?_take, if_pos hj]; exact hl)) ?_
    simp [wayB, hs, e, hb]
  have ef : FineOn_1 (xs.set i (longL l n)) s d = true := by unfold FineOn_1; rw [h4, h2, hlast, decide_eq_true (by omega : (0 : Int) ≤ (i : Int))]; rfl
  refine ⟨el, ?_, ef, ?_⟩
  · intro hx
    unfold LateOn_0 at hx
    rw [el, if_pos rfl] at hx
    unfold sheetsOf at hx
    rw [putAll_mem] at hx
    have hx2 : s ∈ ((xs.set i (longL l n)).filter (lateOn d)).map VLoan.Sheet := hx.elim (fun e => by simp at e) id
    obtain ⟨b, hbm, hbs⟩ := List.mem_map.1 hx2
    obtain ⟨hb1, hb2⟩ := List.mem_filter.1 hbm
    simp only [lateOn, Bool.and_eq_true, decide_eq_true_eq] at hb2
    obtain ⟨j, hj⟩ := List.getElem?_of_mem hb1
    by_cases e : j = i
    · subst e
      rw [hat] at hj; cases hj
      have h9 := hb2.2
      simp [longL] at h9
      omega
    · rw [List.getElem?_set_ne (by omega)] at hj
      rcases Nat.lt_or_gt_of_ne e with hlt | hgt
      · exact open_one h1 hlt hj hl hb2.1 lo (hbs.trans hs.symm)
      · exact open_one h1 hgt hl hj lo hb2.1 (hs.trans hbs.symm)
  · unfold FineOn_0
    rw [ef, if_pos rfl, hlast, Int.toNat_natCast, loAt_some hat]
    have e1 : (longL l n).Back = l.Back := rfl
    have e2 : (longL l n).Due = l.Due + n := rfl
    unfold fineL endL
    rw [e1, e2, if_pos hb]
    omega
theorem lentD_next {l : VLoan} (h : l.ok = true) (s d : Int) : lentD s (d + 1) l = lentD s d l + if l.Sheet = s ∧ openOn d l = true then 1 else 0 := by
  have k := loOk_iff.1 h
  have ho : openOn d l = true ↔ l.Out ≤ d ∧ (l.Back = -1 ∨ d < l.Back) := by simp [openOn]
  have hi : (if l.Sheet = s ∧ openOn d l = true then (1 : Int) else 0) = if l.Sheet = s ∧ l.Out ≤ d ∧ (l.Back = -1 ∨ d < l.Back) then 1 else 0 := by
    by_cases e : openOn d l = true
    · have k2 := ho.1 e; simp only [e, k2.1, k2.2, and_true]
    · have k2 : ¬ (l.Out ≤ d ∧ (l.Back = -1 ∨ d < l.Back)) := fun x => e (ho.2 x)
      rw [if_neg (fun x => e x.2), if_neg (fun x => k2 x.2)]
  rw [hi]
  unfold lentD endL
  by_cases hs : l.Sheet = s
  · simp only [hs, true_and]
    repeat' split
    all_goals omega
  · simp only [hs, false_and, if_false]
    omega
theorem days_next {xs : List VLoan} {s d : Int} (h : areLo xs = true) : daysL s d xs ≤ daysL s (d + 1) xs ∧ daysL s (d + 1) xs ≤ daysL s d xs + 1 := by
  have step : ∀ (z : Int) (k : Nat) (l : VLoan), xs[k]? = some l → daysL s z (xs.take (k + 1)) = daysL s z (xs.take k) + lentD s z l := fun z k l hl => by
    unfold daysL; rw [take_one hl, List.foldl_append]; rfl
  have key : ∀ k, k ≤ xs.length → ∃ c : Int, daysL s (d + 1) (xs.take k) = daysL s d (xs.take k) + c ∧ 0 ≤ c ∧ c ≤ 1 ∧ (c = 1 → ∃ (j : Nat) (l : VLoan), j < k ∧ xs[j]? = some l ∧ l.Sheet = s ∧ openOn d l = true) := by
    intro k
    induction k with
    | zero => intro _; exact ⟨0, by simp [daysL], by omega, by omega, fun e => by omega⟩
    | succ k ih =>
      intro hk
      obtain ⟨c, h1, h2, h3, h4⟩ := ih (by omega)
      have hl : xs[k]? = some (xs[k]'(by omega)) := List.getElem?_eq_getElem _
      have hok := areLo_ok h (List.mem_of_getElem? hl)
      rw [step _ _ _ hl, step _ _ _ hl, lentD_next hok]
      by_cases ho : (xs[k]'(by omega)).Sheet = s ∧ openOn d (xs[k]'(by omega)) = true
      · rw [if_pos ho]
        have hc : c = 0 := by
          rcases (show c = 0 ∨ c = 1 by omega) with e | e
          · exact e
          · obtain ⟨j, l, hj, hjl, hjs, hjo⟩ := h4 e
            exact absurd (hjs.trans ho.1.symm) (open_one h hj hjl hl hjo ho.2)
        exact ⟨1, by omega, by omega, by omega, fun _ => ⟨k, _, by omega, hl, ho.1, ho.2⟩⟩
      · rw [if_neg ho]
        exact ⟨c, by omega, h2, h3, fun e => by obtain ⟨j, l, hj, r⟩ := h4 e; exact ⟨j, l, by omega, r⟩⟩
  obtain ⟨c, h1, h2, h3, _⟩ := key xs.length (Nat.le_refl _)
  rw [List.take_of_length_le (Nat.le_refl _)] at h1
  omega
theorem next_day {xs : List VLoan} {s d : Int} (h : DaysLent_1 xs s d = true) (hd : d < 4000) : DaysLent_1 xs s (d + 1) = true ∧ DaysLent_0 xs s d ≤ DaysLent_0 xs s (d + 1) ∧ DaysLent_0 xs s (d + 1) ≤ DaysLent_0 xs s d + 1 := by
  have h1 : areLo xs = true ∧ idB s = true ∧ dayB d = true := by simpa [DaysLent_1] using h
  have hd' : 0 ≤ d ∧ d ≤ 4000 := inB_iff.1 h1.2.2
  have hd2 : dayB (d + 1) = true := by unfold dayB; rw [inB_iff]; omega
  have e : DaysLent_1 xs s (d + 1) = true := by unfold DaysLent_1; rw [h1.1, h1.2.1, hd2]; rfl
  refine ⟨e, ?_⟩
  unfold DaysLent_0
  rw [h, e, if_pos rfl, if_pos rfl]
  exact days_next h1.1
end Go.Proofs.YtffbljbgmgifnaaGreatDoor
