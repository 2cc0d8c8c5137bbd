/- A number put to its place in a rising list, in the model: l1Put (without drawers: XDs5 has the same for them). -/
import Derived.Test.YtffbljbgmgifnaaDoorOwn
import Derived.Test.YtffbljbgmgifnaaDoorAppL2
import Derived.Test.YtffbljbgmgifnaaDoorInts
import Derived.Test.YtffbljbgmgifnaaDoorReg
import Derived.Test.YtffbljbgmgifnaaDoorSw
import Derived.Test.YtffbljbgmgifnaaDoorWh
namespace Go.Proofs.YtffbljbgmgifnaaDoor
open Go.RowKit

/-- A number put to its place, once. -/
def putN (n : Int) : List Int → List Int
  | [] => [n]
  | z :: l => if z < n then z :: putN n l else if z = n then z :: l else n :: z :: l
theorem putN_len (n : Int) (zs : List Int) : (putN n zs).length ≤ zs.length + 1 := by
  induction zs with
  | nil => simp [putN]
  | cons z l ih => unfold putN; split <;> (try split) <;> simp_all
theorem mem_putN {n x : Int} {zs : List Int} : x ∈ putN n zs ↔ x = n ∨ x ∈ zs := by
  induction zs with
  | nil => simp [putN]
  | cons z l ih =>
      unfold putN
      by_cases h1 : z < n
      · rw [if_pos h1, List.mem_cons, List.mem_cons, ih]
        constructor
        · rintro (h | h | h)
          · exact .inr (.inl h)
          · exact .inl h
          · exact .inr (.inr h)
        · rintro (h | h | h)
          · exact .inr (.inl h)
          · exact .inl h
          · exact .inr (.inr h)
      · rw [if_neg h1]
        by_cases h2 : z = n
        · rw [if_pos h2]
          subst h2
          simp
        · rw [if_neg h2]
          simp
/-- What stands before all keeps it so. -/
theorem putN_rises {n : Int} {zs : List Int} (h : List.Pairwise (· < ·) zs) : List.Pairwise (· < ·) (putN n zs) := by
  induction zs with
  | nil => simp [putN]
  | cons z l ih =>
      have hp := List.pairwise_cons.1 h
      unfold putN
      by_cases h1 : z < n
      · rw [if_pos h1]
        refine List.pairwise_cons.2 ⟨fun y hy => ?_, ih hp.2⟩
        rcases mem_putN.1 hy with rfl | hy
        · exact h1
        · exact hp.1 y hy
      · rw [if_neg h1]
        by_cases h2 : z = n
        · rw [if_pos h2]; exact h
        · rw [if_neg h2]
          refine List.pairwise_cons.2 ⟨fun y hy => ?_, h⟩
          rcases List.mem_cons.1 hy with rfl | hy
          · omega
          · have := hp.1 y hy; omega
/-- Where the loop ends. -/
theorem putN_at {n : Int} : ∀ {zs : List Int} {k : Nat}, (∀ (j : Nat) z, j < k → zs[j]? = some z → z < n) → (∀ z, zs[k]? = some z → ¬ z < n) → k ≤ zs.length → putN n zs = if zs[k]? = some n then zs else zs.take k ++ n :: zs.drop k := by
  intro zs
  induction zs with
  | nil => intro k _ _ hk; simp at hk; subst hk; simp [putN]
  | cons z l ih =>
      intro k h1 h2 hk
      cases k with
      | zero =>
          have := h2 z rfl
          unfold putN
          rw [if_neg this]
          by_cases e : z = n
          · rw [if_pos e, if_pos (by simp [e])]
          · rw [if_neg e, if_neg (by simpa using e)]
            rfl
      | succ k =>
          have hz := h1 0 z (by omega) rfl
          unfold putN
          rw [if_pos hz, ih (k := k) (fun j y hj hy => h1 (j + 1) y (by omega) (by simpa using hy)) (fun y hy => h2 y (by simpa using hy)) (by simp at hk; omega)]
          rw [List.getElem?_cons_succ]
          by_cases e : l[k]? = some n
          · rw [if_pos e, if_pos e]
          · rw [if_neg e, if_neg e]
            rfl
theorem one_intsN (zs : List Int) : ∀ u ∈ intCells zs, u.oneCell' = true := by
  intro u hu
  obtain ⟨z, _, rfl⟩ := List.mem_map.1 hu
  rfl
theorem srcIntsN {w : World} {a : Option Addr} {len cap : Nat} {zs : List Int} (h : IsInts w a len cap zs) : SrcAt w a len 1 (intCells zs) := by
  refine ⟨by rw [intCells_len, h.1, Nat.mul_one], ?_⟩
  rcases h.2.2.2 with h0 | ⟨b, o, rfl, hb, hat⟩
  · exact .inl h0
  · refine .inr ⟨_, rfl, fun j u hj => ?_⟩
    rw [add_plain]
    unfold intCells at hj
    rw [List.getElem?_map] at hj
    cases hz : zs[j]? with
    | none => rw [hz] at hj; cases hj
    | some z => rw [hz] at hj; cases hj; exact hat j z hz
theorem srcInts_takeN {w : World} {a : Option Addr} {len cap k : Nat} {zs : List Int} (h : IsInts w a len cap zs) (hk : k ≤ len) : SrcAt w a k 1 (intCells (zs.take k)) := by
  refine srcIntsN (cap := cap) ⟨by rw [List.length_take, h.1.symm, Nat.min_eq_left hk], by have := h.2.1; omega, h.2.2.1, ?_⟩
  rcases h.2.2.2 with h0 | ⟨b, o, rfl, hb, hat⟩
  · exact .inl (by omega)
  · refine .inr ⟨b, o, rfl, hb, fun j s hs => hat j s ?_⟩
    rw [List.getElem?_take] at hs
    split at hs
    · exact hs
    · cases hs
theorem srcInts_dropN {w : World} {b o : Nat} {len cap k : Nat} {zs : List Int} (h : IsInts w (some ⟨b, o, none⟩) len cap zs) (hk : k ≤ len) : SrcAt w (some ⟨b, o + k, none⟩) (len - k) 1 (intCells (zs.drop k)) := by
  refine srcIntsN (cap := cap - k) ⟨by rw [List.length_drop, h.1.symm], by have := h.2.1; omega, by have := h.2.2.1; omega, ?_⟩
  rcases h.2.2.2 with h0 | ⟨b', o', e, hb, hat⟩
  · exact .inl (by omega)
  · cases e
    refine .inr ⟨b, _, rfl, hb, fun j s hs => ?_⟩
    rw [List.getElem?_drop] at hs
    have := hat (k + j) s hs
    rwa [← Nat.add_assoc] at this
theorem made_intsN (w : World) (base : Nat) (h : base ≤ w.heap.size) : (w.alloc (.cells #[] 3)).ownsRow base 3 1 (.slice (some ⟨w.heap.size, 0, none⟩) 0 0) 0 [] :=
  World.ownsRow_made (base := base) (e := 3) (size := 1) w #[] 0 h (Nat.zero_le _) rfl
theorem ints_putN {w : World} {base g n c : Nat} {xs : List Int} (h : w.ownsRow base 3 1 (.slice (some ⟨g, 0, none⟩) n c) n (intCells xs)) (hn : n = xs.length) : IsInts w (some ⟨g, 0, none⟩) n c xs := by
  subst hn
  obtain ⟨a, c', e, h', _⟩ := isInts_own h
  cases e
  exact h'
theorem step_append_optN {P : Program} {w : World} {ops : Array Oper} {o : Oper} {a : Act} {K : Act → World → Prop} {Q : Exit → Act → World → Prop} {E : Prop} (hgd : o.guard = none) (s x : Operand) (t : TypeId)
    (ho : o.op = .call { callee := .builtin .append, args := #[s, x], argTypes := #[t, t] })
    (base : Nat) (e : TypeId) (i : TypeInfo) (z : Value) (size bytes : Nat) (ht : P.underlying t = some (.slice e)) (hi : P.info? e = some i) (hz : i.zero = some z)
    (hsize : i.size = size) (hby : i.bytes = bytes) (hzs : z.cells.size = size) (hsz : 0 < size)
    (v : Value) (hs : a.eval s = v) (n : Nat) (xs : List Value) (hown : w.ownsRow base e size v n xs)
    (u : Value) (hx : a.eval x = u) (ad : Option Addr) (m c : Nat) (news : List Value) (hu : u = .slice ad m c) (hsrc : SrcAt w ad m size news) (h1 : ∀ u ∈ news, u.oneCell' = true)
    (h63 : n + m ≤ maxLen) (hbytes : (n + m) * bytes ≤ 140737488355328) (hbase : base ≤ w.heap.size)
    (h : ∀ v' w', w'.ownsRow base e size v' (n + m) (xs ++ news) → w.grownBy w' v.ownBlock → K (a.put o.dst v') w') :
    if Region.wanted o (yielded ops a.tmps) = true then Oper.wp P o a w K Q else E := by
  subst hu
  exact step_append_list hgd s x t ho base e i z size bytes ht hi hz hsize hby hzs hsz v n xs hs hown ad m c news hx hsrc h1 h63 hbytes hbase h
def ReadsIntsN (zs : List Int) (w : World) (e : Ending) (w' : World) : Prop := ∃ h : Hd, e = .returned (.slice h.a h.n h.c) ∧ IsInts w' h.a h.n h.c zs ∧ Below w.heap.size w w'
theorem belDAN {w W : World} (h : Below w.heap.size w W) (o : Obj) : Below w.heap.size w (W.drew.alloc o) := Below.then' (bel_drew' h) (bel_al1 _ o)
theorem belDAAN {w W : World} (h : Below w.heap.size w W) (o o' : Obj) : Below w.heap.size w ((W.drew.alloc o).alloc o') := Below.then' (belDAN h o) (bel_al1 _ o')
theorem madeLaterN (W : World) (o : Obj) : ((W.drew.alloc o).alloc (.cells #[] 3)).ownsRow W.heap.size 3 1 (.slice (some ⟨W.heap.size + 1, 0, none⟩) 0 0) 0 [] := by
  have h := made_intsN (W.drew.alloc o) W.heap.size (by rw [size_al]; exact Nat.le_succ _)
  rw [size_al] at h
  exact h
theorem lit_LN {W w5 : World} {n : Int} {o : Obj} (hg : ((W.drew.alloc (.cells #[.int .i64 n] 3)).alloc o).grownBy w5 (some (W.heap.size + 1))) : w5.cell? ⟨W.heap.size, 0, none⟩ = some (.int .i64 n) := by
  have h1 : (W.drew.alloc (.cells #[.int .i64 n] 3)).cell? ⟨W.heap.size, 0, none⟩ = some (.int .i64 n) := cell_box W.drew (.int .i64 n) 3 _ rfl
  have hl := World.lt_of_cell h1
  have h2 := ((bel_al1 (W.drew.alloc (.cells #[.int .i64 n] 3)) o).cell (p := ⟨W.heap.size, 0, none⟩) hl).trans h1
  exact (World.cell?_of_block (a := ⟨W.heap.size, 0, none⟩) (hg.block W.heap.size (World.lt_of_cell h2) (fun e => by have := Option.some.inj e; omega))).trans h2
theorem lit_MN {W w5 : World} {n : Int} {o : Obj} (hg : ((W.drew.alloc o).alloc (.cells #[.int .i64 n] 3)).grownBy w5 (some W.heap.size)) : w5.cell? ⟨W.heap.size + 1, 0, none⟩ = some (.int .i64 n) := by
  have h1 : ((W.drew.alloc o).alloc (.cells #[.int .i64 n] 3)).cell? ⟨W.heap.size + 1, 0, none⟩ = some (.int .i64 n) := cell_box (W.drew.alloc o) (.int .i64 n) 3 _ (size_al _ _)
  exact (World.cell?_of_block (a := ⟨W.heap.size + 1, 0, none⟩) (hg.block (W.heap.size + 1) (World.lt_of_cell h1) (fun e => by have := Option.some.inj e; omega))).trans h1
theorem src_oneN {w : World} {b : Nat} {n : Int} (h : w.cell? ⟨b, 0, none⟩ = some (.int .i64 n)) : SrcAt w (some ⟨b, 0, none⟩) 1 1 [.int .i64 n] :=
  ⟨rfl, .inr ⟨_, rfl, fun j u hj => by
    match j, hj with
    | 0, hj => simp at hj; subst hj; simpa [Addr.add] using h
    | j + 1, hj => simp at hj⟩⟩
theorem one_intN (n : Int) : ∀ u ∈ [Value.int .i64 n], u.oneCell' = true := by intro u hu; simp at hu; subst hu; rfl
/-- The row that three appends make. -/
theorem three_intsN (zs : List Int) (k : Nat) (n : Int) : [] ++ intCells (zs.take k) ++ [Value.int .i64 n] ++ intCells (zs.drop k) = intCells (zs.take k ++ n :: zs.drop k) := by simp [intCells]
end Go.Proofs.YtffbljbgmgifnaaDoor
