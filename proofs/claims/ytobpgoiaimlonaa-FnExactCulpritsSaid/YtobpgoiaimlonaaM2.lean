/- Texts in one: ClaimL, AppL2, Ints, Wh, Ccat, Bf, Fw, Sheet. -/
import Derived.Test.YtobpgoiaimlonaaM1
import Derived.Lib.SliceRun
import Derived.Deep.RegionLaw
import Derived.Laws.OwnMore
import Derived.Lib.AppendZerosOnto
import Derived.Lib.AppendZeros
import Derived.OwnWalk
import Derived.Deep.RegionHeld3
import Derived.Deep.RegionWith
namespace Go.Proofs.Ytobpgoiaimlonaa
open Go.RowKit
theorem list_atClaim {xs : List VClaim} {len k : Nat} (hl : Hid (len = xs.length)) (hk : k < len) : ∃ s, xs[k]? = some s := ⟨xs[k]'(by have := hl.out; omega), List.getElem?_eq_getElem _⟩
theorem made_ownClaim (w : World) (base : Nat) (h : base ≤ w.heap.size) : (w.alloc (.cells #[] 38)).ownsRow base 38 4 (.slice (some ⟨w.heap.size, 0, none⟩) 0 0) ([] : List VClaim).length (cellsClaim []) :=
  World.ownsRow_made (base := base) (e := 38) (size := 4) w #[] 0 h (Nat.zero_le _) rfl
theorem one_Claim (xs : List VClaim) : ∀ u ∈ cellsClaim xs, u.oneCell' = true := by
  intro u hu
  obtain ⟨s, _, hs⟩ := List.mem_flatMap.1 hu
  exact s.vals_one u hs
set_option maxHeartbeats 1600000 in
set_option maxRecDepth 100000 in
/-- The index of the first element that a function value likes. -/
theorem idxClaim_any (K : FuncId) (caps : Array Value) (f : VClaim → Bool) (a : Option Addr) (len cap : Nat) (xs : List VClaim) (w : World) (h : IsClaimS w a len cap xs)
    (hcall : ∀ args W, (callFunc K args).run Try.prog W = .ok (.enter K args) W)
    (hf : ∀ W s, s ∈ xs → Below w.heap.size w W → Calls Try.prog K (#[.agg #[.int .i64 s.Low, .int .i64 s.High, .int .i64 s.Least, .int .i64 s.Most]] ++ caps) W fun e w' => e = .returned (.bool (f s)) ∧ Below W.heap.size W w') :
    Calls Try.prog 88 #[.slice a len cap, .func (.func K) #[] caps] w fun e w' => e = .returned (.int .i64 (firstOf f xs)) ∧ Below w.heap.size w w' := by
  have hm := h.2.2.1
  have hcl := h.2.1
  unfold maxLen at hm
  have S := Lib.hid h
  have L := Lib.hid h.1
  have F := Lib.hid hf
  clear h hf
  go_enter Try.func88, Try.ntmps88
  go_wp2
  go_loopw [8, 5] (fun i _ wr => ∃ k : Nat, k ≤ len ∧ i = .int .i64 k ∧ Below w.heap.size w wr ∧ ∀ (j : Nat) t, j < k → xs[j]? = some t → f t = false) (fun i _ _ => len - (intOf i).toNat)
  case atStart => exact ⟨0, Nat.zero_le _, rfl, Below.refl _ _, by omega⟩
  case round =>
    obtain ⟨k, hk, rfl, hbel, hall⟩ := hrel
    have A := Lib.hid hall
    have B := Lib.hid hbel
    clear hall
    by_cases hlt : k < len
    · obtain ⟨s, hs⟩ := list_atClaim L hlt
      obtain ⟨b, o, rfl, hb, hat⟩ := (S.out.below hbel).at (by omega)
      obtain ⟨c0, c1, c2, c3⟩ := hat k s hs
      have X := Lib.hid hs
      clear hs hat hbel
      go_wp2_with fail
      refine (F.out wr s (List.mem_of_getElem? X.out) B.out).mono ?_
      rintro e w1 ⟨rfl, hb1⟩
      have B1 := Lib.hid (Below.then' B.out hb1)
      clear hb1
      by_cases hfs : f s = true
      · have FS := Lib.hid hfs
        rw [hfs]
        clear hfs
        go_wp2
        go_ret
        exact ⟨ret_int (firstOf_at X.out FS.out A.out).symm, B1.out⟩
      · have hfs' : f s = false := by simpa using hfs
        have FS := Lib.hid hfs'
        rw [hfs']
        clear hfs hfs'
        go_wp2
        go_roundw
        case rel => exact ⟨k + 1, by omega, by go_num, B1.out, fun j t hj ht => by
          by_cases e : j = k
          · subst e; rw [X.out] at ht; cases ht; exact FS.out
          · exact A.out j t (by omega) ht⟩
        case measure => simp [intOf]; omega
    · obtain rfl : k = len := by omega
      clear hbel
      go_wp2
      go_ret
      exact ⟨ret_int (firstOf_no fun j t hj ht => A.out j t (by have := L.out; omega) ht).symm, B.out⟩
/-- A call of a function value enters the function. -/
theorem callf_ofClaim {P : Program} {K : FuncId} {fn : Func} (hf : P.funcs[K]? = some fn) (h1 : (fn.name == "runtime.NumGoroutine") = false) (h2 : fn.body.isNone = false) : ∀ args W, (callFunc K args).run P W = .ok (.enter K args) W := by
  intro args W
  have h1' : ¬ fn.name = "runtime.NumGoroutine" := by simpa using h1
  have h2' : ¬ fn.body = none := by intro h; rw [h] at h2; cases h2
  simp [callFunc, go_sem, hf, h1', h2']
end Go.Proofs.Ytobpgoiaimlonaa
namespace Go.Proofs.Ytobpgoiaimlonaa
open Go.RowKit

theorem wp_append_list {P : Program} {w : World} {o : Oper} {a : Act} {K : Act → World → Prop} {Q : Exit → Act → World → Prop} (s x : Operand) (t : TypeId)
    (ho : o.op = .call { callee := .builtin .append, args := #[s, x], argTypes := #[t, t] })
    (base : Nat) (e : TypeId) (i : TypeInfo) (z : Value) (size bytes : Nat) (ht : P.underlying t = some (.slice e)) (hi : P.info? e = some i) (hz : i.zero = some z)
    (hsize : i.size = size) (hby : i.bytes = bytes) (hzs : z.cells.size = size) (hsz : 0 < size)
    (v : Value) (n : Nat) (xs : List Value) (hs : a.eval s = v) (hown : w.ownsRow base e size v n xs)
    (ad : Option Addr) (m c : Nat) (news : List Value) (hx : a.eval x = .slice ad m c) (hsrc : SrcAt w ad m size news) (h1 : ∀ u ∈ news, u.oneCell' = true)
    (h63 : n + m ≤ maxLen) (hbytes : (n + m) * bytes ≤ 140737488355328) (hbase : base ≤ w.heap.size)
    (h : ∀ v' w', w'.ownsRow base e size v' (n + m) (xs ++ news) → w.grownBy w' v.ownBlock → K (a.put o.dst v') w') : Oper.wp P o a w K Q := by
  obtain ⟨hl, hc⟩ := hsrc
  cases ad with
  | some ad =>
    refine wp_append_own w s x t ho base e i z size bytes ht hi hz hsize hby hzs hsz v n xs hs hown ad m c news hx hl ?_ h1 h63 hbytes hbase (fun v' w' a b _ => h v' w' a b)
    rcases hc with rfl | ⟨ad', e', hc⟩
    · have : news = [] := List.eq_nil_of_length_eq_zero (by simpa using hl)
      subst this
      intro j u hj; simp at hj
    · cases e'; exact hc
  | none =>
    have hm : m = 0 := by
      rcases hc with h0 | ⟨_, e', _⟩
      · exact h0
      · cases e'
    subst hm
    have hn : news = [] := List.eq_nil_of_length_eq_zero (by simpa using hl)
    subst hn
    have hrun := append_nothing (P := P) (w := w) (ty := o.type) ht hi hown c
    unfold Oper.wp
    simp [execOp, ho, resolve, invoke, builtin, hs, hx, hrun, Result.andThen]
    exact h v w (by simpa using hown) (World.grownBy.refl w _)
/-- The same as a step of a region that draws its order. -/
theorem step_append_list {P : Program} {w : World} {ops : Array Oper} {o : Oper} {a : Act} {K : Act → World → Prop} {Q : Exit → Act → World → Prop} {E : Prop} (hgd : o.guard = none) (s x : Operand) (t : TypeId)
    (ho : o.op = .call { callee := .builtin .append, args := #[s, x], argTypes := #[t, t] })
    (base : Nat) (e : TypeId) (i : TypeInfo) (z : Value) (size bytes : Nat) (ht : P.underlying t = some (.slice e)) (hi : P.info? e = some i) (hz : i.zero = some z)
    (hsize : i.size = size) (hby : i.bytes = bytes) (hzs : z.cells.size = size) (hsz : 0 < size)
    (v : Value) (n : Nat) (xs : List Value) (hs : a.eval s = v) (hown : w.ownsRow base e size v n xs)
    (ad : Option Addr) (m c : Nat) (news : List Value) (hx : a.eval x = .slice ad m c) (hsrc : SrcAt w ad m size news) (h1 : ∀ u ∈ news, u.oneCell' = true)
    (h63 : n + m ≤ maxLen) (hbytes : (n + m) * bytes ≤ 140737488355328) (hbase : base ≤ w.heap.size)
    (h : ∀ v' w', w'.ownsRow base e size v' (n + m) (xs ++ news) → w.grownBy w' v.ownBlock → K (a.put o.dst v') w') :
    if Region.wanted o (yielded ops a.tmps) = true then Oper.wp P o a w K Q else E := by
  have hw : Region.wanted o (yielded ops a.tmps) = true := by simp [Region.wanted, hgd]
  rw [if_pos hw]
  exact wp_append_list s x t ho base e i z size bytes ht hi hz hsize hby hzs hsz v n xs hs hown ad m c news hx hsrc h1 h63 hbytes hbase h
/-- The same, and what was no nil slice stays none. -/
theorem step_append_some {P : Program} {w : World} {ops : Array Oper} {o : Oper} {a : Act} {K : Act → World → Prop} {Q : Exit → Act → World → Prop} {E : Prop} (hgd : o.guard = none) (s x : Operand) (t : TypeId)
    (ho : o.op = .call { callee := .builtin .append, args := #[s, x], argTypes := #[t, t] })
    (base : Nat) (e : TypeId) (i : TypeInfo) (z : Value) (size bytes : Nat) (ht : P.underlying t = some (.slice e)) (hi : P.info? e = some i) (hz : i.zero = some z)
    (hsize : i.size = size) (hby : i.bytes = bytes) (hzs : z.cells.size = size) (hsz : 0 < size)
    (v : Value) (hs : a.eval s = v) (g cp : Nat) (n : Nat) (xs : List Value) (hv : v = .slice (some ⟨g, 0, none⟩) n cp) (hown : w.ownsRow base e size (.slice (some ⟨g, 0, none⟩) n cp) n xs)
    (u : Value) (hx : a.eval x = u) (ad : Addr) (m c : Nat) (news : List Value) (hu : u = .slice (some ad) m c) (hsrc : SrcAt w (some ad) m size news) (h1 : ∀ u ∈ news, u.oneCell' = true)
    (h63 : n + m ≤ maxLen) (hbytes : (n + m) * bytes ≤ 140737488355328) (hbase : base ≤ w.heap.size)
    (h : ∀ g' cp' w', w'.ownsRow base e size (.slice (some ⟨g', 0, none⟩) (n + m) cp') (n + m) (xs ++ news) → w.grownBy w' (some g) → n + m ≤ cp' → cp' ≤ 9223372036854775807 → base ≤ g' → g' < w'.heap.size → K (a.put o.dst (.slice (some ⟨g', 0, none⟩) (n + m) cp')) w') :
    if Region.wanted o (yielded ops a.tmps) = true then Oper.wp P o a w K Q else E := by
  have hw : Region.wanted o (yielded ops a.tmps) = true := by simp [Region.wanted, hgd]
  rw [if_pos hw]
  subst hv hu
  obtain ⟨hl, hc⟩ := hsrc
  refine wp_append_own w s x t ho base e i z size bytes ht hi hz hsize hby hzs hsz _ n xs hs hown ad m c news hx hl ?_ h1 h63 hbytes hbase (fun v' w' a b hn => ?_)
  · rcases hc with rfl | ⟨ad', e', hc⟩
    · have : news = [] := List.eq_nil_of_length_eq_zero (by simpa using hl)
      subst this
      intro j u hj; simp at hj
    · cases e'; exact hc
  · rcases a.2 with ⟨e1, _⟩ | ⟨g', c', _, e', hg, _, hn', hc', _⟩
    · exact absurd (hn.1 e1).1 (by simp)
    · subst e'
      exact h g' c' w' a b hn' hc' hg (a.lt g' rfl).2
end Go.Proofs.Ytobpgoiaimlonaa
namespace Go.Proofs.Ytobpgoiaimlonaa
open Go.RowKit

/-- The slice 'a len cap' holds the integers xs. -/
def IsInts (w : World) (a : Option Addr) (len cap : Nat) (xs : List Int) : Prop :=
  len = xs.length ∧ len ≤ cap ∧ cap ≤ maxLen ∧ (len = 0 ∨ ∃ b o, a = some ⟨b, o, none⟩ ∧ b < w.heap.size ∧ ∀ (k : Nat) z, xs[k]? = some z → w.cell? ⟨b, o + k, none⟩ = some (.int .i64 z))
theorem IsInts.below {w w' : World} {a : Option Addr} {len cap : Nat} {xs : List Int} (h : IsInts w a len cap xs) (hb : Below w.heap.size w w') : IsInts w' a len cap xs := by
  refine ⟨h.1, h.2.1, h.2.2.1, ?_⟩
  rcases h.2.2.2 with h0 | ⟨b, o, rfl, h1, h2⟩
  · exact .inl h0
  · exact .inr ⟨b, o, rfl, Nat.lt_of_lt_of_le h1 hb.size, fun k z hz => (hb.cell (p := ⟨b, o + k, none⟩) h1).trans (h2 k z hz)⟩
theorem IsInts.grown {w w' : World} {a : Option Addr} {len cap : Nat} {xs : List Int} {row : Option Nat} (h : IsInts w a len cap xs) (hg : w.grownBy w' row) (hne : ∀ b o, a = some ⟨b, o, none⟩ → some b ≠ row) : IsInts w' a len cap xs := by
  refine ⟨h.1, h.2.1, h.2.2.1, ?_⟩
  rcases h.2.2.2 with h0 | ⟨b, o, rfl, h1, h2⟩
  · exact .inl h0
  · exact .inr ⟨b, o, rfl, Nat.lt_of_lt_of_le h1 hg.size, fun k z hz => (World.cell?_of_block (w := w) (a := ⟨b, o + k, none⟩) (hg.block b h1 (hne b o rfl))).trans (h2 k z hz)⟩
theorem IsInts.at {w : World} {a : Option Addr} {len cap : Nat} {xs : List Int} (h : IsInts w a len cap xs) (hpos : 0 < len) : ∃ b o, a = some ⟨b, o, none⟩ ∧ b < w.heap.size ∧ ∀ (k : Nat) z, xs[k]? = some z → w.cell? ⟨b, o + k, none⟩ = some (.int .i64 z) := by
  rcases h.2.2.2 with h0 | h1
  · omega
  · exact h1
theorem int_at {xs : List Int} {len k : Nat} (hl : Hid (len = xs.length)) (hk : k < len) : ∃ s, xs[k]? = some s := ⟨xs[k]'(by have := hl.out; omega), List.getElem?_eq_getElem _⟩
def intCells (xs : List Int) : List Value := xs.map (Value.int .i64)
theorem intCells_len (xs : List Int) : (intCells xs).length = xs.length := by simp [intCells]
theorem intCells_snoc (xs : List Int) (z : Int) : intCells (xs ++ [z]) = intCells xs ++ [.int .i64 z] := by simp [intCells]
theorem isInts_own {w : World} {base : Nat} {v : Value} {xs : List Int} (h : w.ownsRow base 3 1 v xs.length (intCells xs)) :
    ∃ a cap, v = .slice a xs.length cap ∧ IsInts w a xs.length cap xs ∧ ∀ b o, a = some ⟨b, o, none⟩ → v.ownBlock = some b := by
  have hlt := h.lt
  rcases h.2 with ⟨rfl, h0⟩ | ⟨g, cap, cur, rfl, hg, hh, hn, hcap, hsz, htake⟩
  · exact ⟨none, 0, by rw [h0], ⟨rfl, by omega, by simp [maxLen], .inl h0⟩, fun _ _ h => by cases h⟩
  · refine ⟨some ⟨g, 0, none⟩, cap, rfl, ⟨rfl, hn, hcap, ?_⟩, fun b o h => by cases h; rfl⟩
    by_cases hz : xs.length = 0
    · exact .inl hz
    · refine .inr ⟨g, 0, rfl, (hlt g rfl).2, fun k z hz => ?_⟩
      have hc := h.cells (g := g) rfl k (.int .i64 z) (by simp [intCells, hz])
      rw [add_plain] at hc; exact hc
theorem ownsRow_grown' {w w' : World} {base : Nat} {e : TypeId} {size n : Nat} {v : Value} {xs : List Value} {row : Option Nat} (h : w.ownsRow base e size v n xs) (hg : w.grownBy w' row) (hne : ∀ k, row = some k → k < base) : w'.ownsRow base e size v n xs := by
  refine ⟨h.1, ?_⟩
  rcases h.2 with h0 | ⟨g, cap, cur, rfl, hb, hh, r⟩
  · exact .inl h0
  · exact .inr ⟨g, cap, cur, rfl, hb, (hg.block g (Array.getElem?_eq_some_iff.1 hh).1 (fun e => by have := hne g e.symm; omega)).trans hh, r⟩
theorem infoInt : (Try.prog.info? 3).map (fun i => (i.zero, i.size, i.bytes)) = some (some (.int .i64 0), 1, 8) := by kernel_rfl
/-- A row of integers of the call's own and whether it stands, and the world below as it was. -/
def IntsOk (xs : List Int) (ok : Bool) (w : World) (e : Ending) (w' : World) : Prop := ∃ v, e = .returned (.tuple #[v, .bool ok]) ∧ w'.ownsRow w.heap.size 3 1 v xs.length (intCells xs) ∧ Below w.heap.size w w'

set_option maxHeartbeats 1600000 in
set_option maxRecDepth 100000 in
theorem eqIntS_yes (a : Option Addr) (len cap : Nat) (a' : Option Addr) (len' cap' : Nat) (xs : List Int) (w : World) (h : IsInts w a len cap xs) (h' : IsInts w a' len' cap' xs) :
    Calls Try.prog 39 #[.slice a len cap, .slice a' len' cap'] w fun e w' => e = .returned (.bool true) ∧ Below w.heap.size w w' := by
  obtain rfl := h.1
  obtain rfl := h'.1
  have hm := h.2.2.1
  have hcl := h.2.1
  unfold maxLen at hm
  have S := Lib.hid h
  have S' := Lib.hid h'
  clear h h'
  go_enter Try.func39, Try.ntmps39
  go_wp2
  go_loopw [5] (fun i wr => ∃ k : Nat, k ≤ xs.length ∧ i = .int .i64 k ∧ Below w.heap.size w wr) (fun i _ => xs.length - (intOf i).toNat)
  case atStart => exact ⟨0, Nat.zero_le _, rfl, Below.refl _ _⟩
  case round =>
    obtain ⟨k, hk, rfl, hbel⟩ := hrel
    have B := Lib.hid hbel
    by_cases hlt : k < xs.length
    · obtain ⟨z, hz⟩ : ∃ z, xs[k]? = some z := ⟨xs[k]'hlt, List.getElem?_eq_getElem _⟩
      obtain ⟨b, o, rfl, hb, hat⟩ := (S.out.below hbel).at (by omega)
      obtain ⟨b', o', rfl, hb', hat'⟩ := (S'.out.below hbel).at (by omega)
      have c0 := hat k z hz
      have d0 := hat' k z hz
      have hi0 : (0 : Int) ≤ (k : Int) := by omega
      have hi1 : (k : Int) < (xs.length : Int) := by omega
      clear hbel hz hat hat'
      go_wp2
      go_quiet (fail)
      have B1 := Lib.hid (Below.then' B.out (bel_drawn wr nq))
      go_wp2
      go_roundw
      case rel => exact ⟨k + 1, by omega, by go_num, B1.out⟩
      case measure => simp [intOf]; omega
    · obtain rfl : k = xs.length := by omega
      clear hbel
      go_wp2
      go_ret
      exact ⟨rfl, B.out⟩

/-- The marks k, k + 1, .. k + n - 1. -/
def marksI (k n : Nat) : List Int := (List.range n).map fun i => ((k + i : Nat) : Int)
theorem marksI_len (k n : Nat) : (marksI k n).length = n := by simp [marksI]
theorem marksI_succ (k n : Nat) : marksI k (n + 1) = marksI k n ++ [((k + n : Nat) : Int)] := by simp [marksI, List.range_succ]
theorem marksI_at (k n i : Nat) (h : i < n) : (marksI k n)[i]? = some ((k + i : Nat) : Int) := by simp [marksI, h]
theorem set_markI {k j : Nat} {L : List Value} (h : j < L.length) : (intCells (marksI k j) ++ L.drop j).set j (.int .i64 ((k + j : Nat) : Int)) = intCells (marksI k (j + 1)) ++ L.drop (j + 1) := by
  have hl : (intCells (marksI k j)).length = j := by rw [intCells_len, marksI_len]
  rw [List.set_append_right _ _ (by omega), hl, Nat.sub_self, List.drop_eq_getElem_cons h, List.set_cons_zero, marksI_succ, intCells_snoc]
  simp
/-- The row v of n values bears the marks from k on; nothing else that was there has turned. -/
def MarkI (base k n : Nat) (v : Value) (w : World) (e : Ending) (w' : World) : Prop := e = .returned (.int .i64 ((k + n : Nat) : Int)) ∧ w'.ownsRow base 3 1 v n (intCells (marksI k n)) ∧ w.grownBy w' v.ownBlock
set_option maxHeartbeats 1600000 in
set_option maxRecDepth 100000 in
theorem markIntS_any (base : Nat) (v : Value) (n k : Nat) (L : List Value) (w : World) (hown : w.ownsRow base 3 1 v n L) (hk : k ≤ 1000000000) (hn : n ≤ 1000000000) :
    Calls Try.prog 43 #[v, .int .i64 (k : Int)] w (MarkI base k n v w) := by
  have hlen : L.length = n := by have := hown.1; omega
  rcases hown.2 with ⟨rfl, rfl⟩ | ⟨g, cap, cur, rfl, hg, hh, hncap, hcap, _⟩
  · have hL : L = [] := List.length_eq_zero_iff.1 hlen
    subst hL
    have H := Lib.hid hown
    clear hown
    go_enter Try.func43, Try.ntmps43
    go_wp2
    refine wp_loop_rounds 1 ?_
    rw [rounds_succ]
    go_wp2
    go_ret
    exact ⟨rfl, H.out, World.grownBy.refl _ _⟩
  clear hh
  have H := Lib.hid hown
  have L0 := Lib.hid hlen
  unfold maxLen at hcap
  clear hown hlen
  go_enter Try.func43, Try.ntmps43
  go_wp2
  go_loopw [1, 5] (fun q i wr => ∃ j : Nat, j ≤ n ∧ i = .int .i64 j ∧ q = .int .i64 ((k + j : Nat) : Int) ∧ wr.ownsRow base 3 1 (.slice (some ⟨g, 0, none⟩) n cap) n (intCells (marksI k j) ++ L.drop j) ∧ w.grownBy wr (some g)) (fun _ i _ => n - (intOf i).toNat)
  case atStart => exact ⟨0, Nat.zero_le _, rfl, rfl, by simpa [marksI, intCells] using H.out, World.grownBy.refl _ _⟩
  case round =>
    obtain ⟨j, hj, rfl, rfl, hrow, hgr⟩ := hrel
    have R := Lib.hid hrow
    have G := Lib.hid hgr
    clear hrow hgr
    by_cases hlt : j < n
    · have hfr := R.out.frozenAt j
      obtain ⟨u, hu⟩ : ∃ u, wr.cell? ⟨g, j, none⟩ = some u := by
        have hlt2 : j < (intCells (marksI k j) ++ L.drop j).length := by rw [List.length_append, intCells_len, marksI_len, List.length_drop, L0.out]; omega
        have h := R.out.cells (g := g) rfl j _ (List.getElem?_eq_getElem hlt2)
        rw [add_plain, Nat.zero_add] at h
        exact ⟨_, h⟩
      go_wp2
      go_roundw
      case rel => exact ⟨j + 1, by omega, by go_num, by go_num, by
        have h := (R.out.stored j (.int .i64 ((k + j : Nat) : Int))).1
        rw [set_markI (by rw [L0.out]; exact hlt)] at h
        simpa using h, grown_trans G.out (by simpa using (R.out.stored j (.int .i64 ((k + j : Nat) : Int))).2)⟩
      case measure => simp [intOf]; omega
    · obtain rfl : j = n := by omega
      go_wp2
      go_ret
      refine ⟨rfl, ?_, G.out⟩
      have h := R.out
      rw [List.drop_of_length_le (by rw [L0.out]; omega), List.append_nil] at h
      exact h

set_option maxHeartbeats 1600000 in
set_option maxRecDepth 100000 in
theorem heldIntS_any (a : Option Addr) (n cap k : Nat) (w : World) (h : IsInts w a n cap (marksI k n)) (hk : k ≤ 1000000000) (hn : n ≤ 1000000000) :
    Calls Try.prog 44 #[.slice a n cap, .int .i64 (k : Int)] w fun e w' => e = .returned (.int .i64 ((k + n : Nat) : Int)) ∧ w = w' := by
  have hm := h.2.2.1
  have hcl := h.2.1
  unfold maxLen at hm
  have S := Lib.hid h
  clear h
  go_enter Try.func44, Try.ntmps44
  go_wp2
  go_loop [1, 5] (fun q i => ∃ j : Nat, j ≤ n ∧ i = .int .i64 j ∧ q = .int .i64 ((k + j : Nat) : Int)) (fun _ i => n - (intOf i).toNat)
  case atStart => exact ⟨0, Nat.zero_le _, rfl, rfl⟩
  case round =>
    obtain ⟨j, hj, rfl, rfl⟩ := hrel
    by_cases hlt : j < n
    · obtain ⟨b, o, rfl, hb, hat⟩ := S.out.at (by omega)
      have c0 := hat j _ (marksI_at k n j hlt)
      have hj0 : (0 : Int) ≤ (j : Int) := by omega
      have hj1 : (j : Int) < (n : Int) := by omega
      clear hat
      go_wp2
      go_round
      case rel => exact ⟨j + 1, by omega, by go_num, by go_num⟩
      case measure => simp [intOf]; omega
    · obtain rfl : j = n := by omega
      go_wp2
      go_ret
      exact ⟨rfl, rfl⟩
end Go.Proofs.Ytobpgoiaimlonaa
namespace Go.Proofs.Ytobpgoiaimlonaa
open Go.RowKit
/-- A row of integers of the call's own, and the world below as it was. -/
def IdsOwn (xs : List Int) (w : World) (e : Ending) (w' : World) : Prop := ∃ v, e = .returned v ∧ w'.ownsRow w.heap.size 3 1 v xs.length (intCells xs) ∧ Below w.heap.size w w'
theorem where_more {α : Type} {xs : List α} {k : Nat} {s : α} (f : α → Bool) (g : α → Int) (hs : xs[k]? = some s) : ((xs.take (k + 1)).filter f).map g = ((xs.take k).filter f).map g ++ (if f s = true then [g s] else []) := by
  rw [List.take_add_one, hs, List.filter_append, List.map_append]
  cases h : f s <;> simp [h]
theorem where_len {α : Type} (f : α → Bool) (g : α → Int) (xs : List α) (k : Nat) : (((xs.take k).filter f).map g).length ≤ k := by
  rw [List.length_map]
  exact Nat.le_trans (List.length_filter_le _ _) (by rw [List.length_take]; omega)
theorem nil_ids (w : World) (base : Nat) : w.ownsRow base 3 1 (.slice none 0 0) ([] : List Int).length (intCells []) := ⟨by simp [intCells], .inl ⟨rfl, rfl⟩⟩
theorem made_ids (w : World) : (w.alloc (.cells #[] 3)).ownsRow w.heap.size 3 1 (.slice (some ⟨w.heap.size, 0, none⟩) 0 0) ([] : List Int).length (intCells []) :=
  World.ownsRow_made (base := w.heap.size) (e := 3) (size := 1) w #[] 0 (Nat.le_refl _) (Nat.zero_le _) rfl
theorem wh_al1 (w : World) (o : Obj) : Below w.heap.size w (w.alloc o) := (Below.refl _ _).alloc (Nat.le_refl _) _
theorem cell_box' (w : World) (v : Value) (t : TypeId) (B : Nat) (hB : w.heap.size = B) : (w.alloc (.cells #[v] t)).cell? ⟨B, 0, none⟩ = some v := by
  subst hB
  simp [World.cell?_alloc_new]
theorem cell_stay' {w w' : World} {b o : Nat} {v : Value} (h : w.cell? ⟨b, o, none⟩ = some v) (hb : Below w.heap.size w w') : w'.cell? ⟨b, o, none⟩ = some v := (hb.cell (p := ⟨b, o, none⟩) (World.lt_of_cell h)).trans h
/-- A call of a function value enters the function. -/
theorem enters_fn' {P : Program} {K : FuncId} {fn : Func} (hf : P.funcs[K]? = some fn) (h1 : (fn.name == "runtime.NumGoroutine") = false) (h2 : fn.body.isNone = false) : ∀ args W, (callFunc K args).run P W = .ok (.enter K args) W := by
  intro args W
  have h1' : ¬ fn.name = "runtime.NumGoroutine" := by simpa using h1
  have h2' : ¬ fn.body = none := by intro h; rw [h] at h2; cases h2
  simp [callFunc, go_sem, hf, h1', h2']
end Go.Proofs.Ytobpgoiaimlonaa
namespace Go.Proofs.Ytobpgoiaimlonaa
open Go.RowKit

theorem zeroClaim : (Value.agg #[.int .i64 0, .int .i64 0, .int .i64 0, .int .i64 0]).cells = #[.int .i64 0, .int .i64 0, .int .i64 0, .int .i64 0] := rfl
/-- Memory for so many claims, none of them there yet. -/
def GrowPost (w : World) (e : Ending) (w' : World) : Prop := ∃ v, e = .returned v ∧ w'.ownsRow w.heap.size 38 4 v 0 [] ∧ Below w.heap.size w w'
set_option maxHeartbeats 3200000 in
set_option maxRecDepth 100000 in
theorem growClaim_any (k : Nat) (hk : k ≤ 1000) (w : World) :
    Calls Try.prog 91 #[.slice none 0 0, .int .i64 (k : Int)] w (GrowPost w) := by
  obtain ⟨i0, hi, hz0, hz1, hz2⟩ := info_parts infoClaim
  by_cases h0 : k = 0
  · subst h0
    go_enter Try.func91, Try.ntmps91
    go_wp2
    go_ret
    exact ⟨_, rfl, ⟨rfl, .inl ⟨rfl, rfl⟩⟩, Below.refl _ _⟩
  · obtain ⟨G, hG⟩ : ∃ G, grownCap w (0 + k) 0 38 = G := ⟨_, rfl⟩
    have hge : 0 + k ≤ G := hG ▸ grownCap_ge w (0 + k) 0 38
    have hml : G ≤ maxLen := hG ▸ grownCap_le_maxLen w (0 + k) 0 38 (by unfold maxLen; omega)
    obtain ⟨ROW, hROW⟩ : ∃ ROW : Array Value, ([] : List Value).toArray ++ Builtin.zeroCells (Value.agg #[.int .i64 0, .int .i64 0, .int .i64 0, .int .i64 0]).cells k ++ Builtin.zeroCells (Value.agg #[.int .i64 0, .int .i64 0, .int .i64 0, .int .i64 0]).cells (G - (0 + k)) = ROW := ⟨_, rfl⟩
    have hsz : ROW.size = G * 4 := by
      rw [← hROW]
      simp [size_zeroCells, Value.cells]
      omega
    have hrz : ∀ ty, (Builtin.append_ #[24, 3] ty #[.slice none 0 0, .int .i64 (k : Int)]).run Try.prog w = .ok (.slice (some ⟨w.heap.size, 0, none⟩) k G) (w.drew.alloc (.cells ROW 38)) := fun ty => by
      have h := Lib.run_append_grow_zeros w 24 3 ty 38 i0 _ .i64 .i64 Try.underlying24 Try.underlying3 hi hz0 none 0 0 [] (run_firstCells_none _ _ _ _ _) k (by omega) (by rw [hz1]; decide) (by omega) (by omega) (by rw [hz2]; omega) (growslice_fits (by omega) (by rw [hz2]; omega))
      rw [hG] at h
      rw [hROW, Nat.zero_add] at h
      exact h
    have OW := Lib.hid (show (w.alloc (.cells ROW 38)).drew.ownsRow w.heap.size 38 4 (.slice (some ⟨w.heap.size, 0, none⟩) 0 G) 0 [] from ⟨rfl, .inr ⟨w.heap.size, G, ROW, rfl, Nat.le_refl _, heap_alloc_new w _, Nat.zero_le _, hml, hsz, rfl⟩⟩)
    have BW := Lib.hid (show Below w.heap.size w (w.alloc (.cells ROW 38)).drew from bel_drew' (bel_al1 _ _))
    have hk1 : (0 : Int) < (k : Int) := by omega
    have hk2 : ¬ (k : Int) < 0 := by omega
    have hgk : ¬ (G : Int) < 0 := by omega
    have hge2 : k ≤ G := by omega
    clear hG hROW hsz hge h0
    unfold maxLen at hml
    go_enter Try.func91, Try.ntmps91
    go_wp2_with (at_builtin; refine Lib.wpList_append_run _ rfl _ _ _ _ rfl _ _ rfl rfl _ _ (hrz _) ?_)
    go_ret
    exact ⟨_, rfl, OW.out, BW.out⟩
/-- How far the two lists are taken in. -/
def Taken2 (xs1 xs2 : List VClaim) (k : Nat) (L : List VClaim) : Prop := (k = 0 ∧ L = []) ∨ (k = 1 ∧ L = xs1) ∨ (k = 2 ∧ L = xs1 ++ xs2)
set_option maxHeartbeats 6400000 in
set_option maxRecDepth 100000 in
theorem concat2_any (bl : Nat) (a1 : Option Addr) (n1 c1 : Nat) (xs1 : List VClaim) (a2 : Option Addr) (n2 c2 : Nat) (xs2 : List VClaim) (w : World) (h0 : w.cell? ⟨bl, 0, none⟩ = some (.slice a1 n1 c1)) (h1 : w.cell? ⟨bl, 1, none⟩ = some (.slice a2 n2 c2)) (hs1 : IsClaimS w a1 n1 c1 xs1) (hs2 : IsClaimS w a2 n2 c2 xs2) (hb : xs1.length + xs2.length ≤ 1000) :
    Calls Try.prog 82 #[.slice (some ⟨bl, 0, none⟩) 2 2] w (ClaimRow (xs1 ++ xs2) w) := by
  obtain ⟨i0, hi, hz0, hz1, hz2⟩ := info_parts infoClaim
  have e1 := hs1.1
  have e2 := hs2.1
  subst e1 e2
  have C0 := Lib.hid h0
  have C1 := Lib.hid h1
  have S1 := Lib.hid hs1
  have S2 := Lib.hid hs2
  have HB := Lib.hid hb
  have v1 : IntKind.i64.wrap ((0 : Int) + (xs1.length : Int)) = (xs1.length : Int) := by rw [Int.zero_add]; exact IntWalk.i64_in _ (by omega)
  have v2 : IntKind.i64.wrap ((xs1.length : Int) + (xs2.length : Int)) = ((xs1.length + xs2.length : Nat) : Int) := by rw [IntWalk.i64_in _ (by omega)]; omega
  have v3 : IntKind.i64.wrap (xs1.length : Int) = (xs1.length : Int) := IntWalk.i64_in _ (by omega)
  clear hs1 hs2
  go_enter Try.func82, Try.ntmps82
  go_wp2
  go_loop [11, 3] (fun i s => ∃ k : Nat, k ≤ 2 ∧ i = .int .i64 k ∧ ((k = 0 ∧ s = .int .i64 0) ∨ (k = 1 ∧ s = .int .i64 (xs1.length : Int)) ∨ (k = 2 ∧ s = .int .i64 ((xs1.length + xs2.length : Nat) : Int)))) (fun i _ => 2 - (intOf i).toNat)
  case atStart => exact ⟨0, by omega, rfl, .inl ⟨rfl, rfl⟩⟩
  case round =>
    obtain ⟨k, hk, rfl, hs⟩ := hrel
    rcases hs with ⟨rfl, rfl⟩ | ⟨rfl, rfl⟩ | ⟨rfl, rfl⟩
    · have d1 : ¬ (xs1.length : Int) < 0 := by omega
      go_wp2
      go_round
      case rel => exact ⟨1, by omega, rfl, .inr (.inl ⟨rfl, rfl⟩)⟩
      case measure => simp [intOf]
    · have d1 : ¬ ((xs1.length + xs2.length : Nat) : Int) < 0 := by omega
      go_wp2
      go_round
      case rel => exact ⟨2, by omega, rfl, .inr (.inr ⟨rfl, by first | rfl | simp⟩)⟩
      case measure => simp [intOf]
    · obtain ⟨m, hm⟩ : ∃ m, xs1.length + xs2.length = m := ⟨_, rfl⟩
      have HM := Lib.hid hm
      have hm2 : m ≤ 1000 := by omega
      rw [hm]
      clear v1 v2 v3 hm hb
      go_wp2_with fail
      refine (growClaim_any m hm2 _).mono ?_
      rintro e w1 ⟨v, rfl, hown, hbl⟩
      have O1 := Lib.hid hown
      have B1 := Lib.hid hbl
      clear hown hbl
      go_wp2
      go_loopw [27, 6] (fun i o wr => ∃ (k : Nat) (L : List VClaim), k ≤ 2 ∧ i = .int .i64 k ∧ Taken2 xs1 xs2 k L ∧ wr.ownsRow w.heap.size 38 4 o L.length (cellsClaim L) ∧ Below w.heap.size w wr) (fun i _ _ => 2 - (intOf i).toNat)
      case atStart => exact ⟨0, [], by omega, rfl, .inl ⟨rfl, rfl⟩, O1.out, B1.out⟩
      case round =>
        obtain ⟨k, L, hk, rfl, ht, hown, hbel⟩ := hrel
        have O := Lib.hid hown
        have B := Lib.hid hbel
        have hsz := hbel.size
        rcases ht with ⟨rfl, rfl⟩ | ⟨rfl, rfl⟩ | ⟨rfl, rfl⟩
        · have SRC := srcClaim (S1.out.below hbel)
          have g0 := cell_stay' C0.out hbel
          have hb1 : xs1.length ≤ 1000 := by have := HB.out; omega
          clear hbel
          go_wp2_with (at_builtin; refine wpList_append_list rfl _ _ 24 rfl w.heap.size 38 i0 (.agg #[.int .i64 0, .int .i64 0, .int .i64 0, .int .i64 0]) 4 32 Try.underlying24 hi hz0 hz1 hz2 rfl (by decide) _ _ _ rfl hown _ xs1.length c1 (cellsClaim xs1) rfl SRC (one_Claim xs1) (by simp; unfold maxLen; omega) (by simp; omega) hsz ?_; intro v1 w2 hown1 hgrow1)
          go_roundw
          case rel => exact ⟨1, xs1, by omega, rfl, .inr (.inl ⟨rfl, rfl⟩), by have h := hown1; rw [show cellsClaim [] = [] from rfl, List.nil_append] at h; simpa using h, B.out.grown hgrow1 hsz (fun k e => (O.out.lt k e).1)⟩
          case measure => simp [intOf]
        · have SRC := srcClaim (S2.out.below hbel)
          have g0 := cell_stay' C1.out hbel
          have hb1 : L.length + xs2.length ≤ 1000 := by have := HB.out; omega
          clear hbel
          go_wp2_with (at_builtin; refine wpList_append_list rfl _ _ 24 rfl w.heap.size 38 i0 (.agg #[.int .i64 0, .int .i64 0, .int .i64 0, .int .i64 0]) 4 32 Try.underlying24 hi hz0 hz1 hz2 rfl (by decide) _ _ _ rfl hown _ xs2.length c2 (cellsClaim xs2) rfl SRC (one_Claim xs2) (by unfold maxLen; omega) (by omega) hsz ?_; intro v1 w2 hown1 hgrow1)
          go_roundw
          case rel => exact ⟨2, L ++ xs2, by omega, rfl, .inr (.inr ⟨rfl, rfl⟩), by rw [List.length_append, cellsClaim_append]; exact hown1, B.out.grown hgrow1 hsz (fun k e => (O.out.lt k e).1)⟩
          case measure => simp [intOf]
        · clear hown hbel
          go_wp2
          go_ret
          exact ⟨_, rfl, O.out, B.out⟩
theorem takeC {w : World} {a : Option Addr} {len cap : Nat} {xs : List VClaim} (h : IsClaimS w a len cap xs) {k : Nat} (hk : k ≤ len) : IsClaimS w a k cap (xs.take k) := by
  refine ⟨by rw [List.length_take, ← h.1]; omega, Nat.le_trans hk h.2.1, h.2.2.1, ?_⟩
  by_cases h0 : k = 0
  · exact .inl h0
  · obtain ⟨b, o, e, h1, h2⟩ := h.at (by omega)
    refine .inr ⟨b, o, e, h1, fun j x hj => h2 j x ?_⟩
    rw [List.getElem?_take] at hj
    split at hj
    · exact hj
    · cases hj
theorem dropC {w : World} {b o : Nat} {len cap : Nat} {xs : List VClaim} (h : IsClaimS w (some ⟨b, o, none⟩) len cap xs) {k : Nat} (hk : k ≤ len) : IsClaimS w (some ⟨b, o + k * 4, none⟩) (len - k) (cap - k) (xs.drop k) := by
  refine ⟨by rw [List.length_drop, ← h.1], by have := h.2.1; omega, by have := h.2.2.1; omega, ?_⟩
  by_cases h0 : len - k = 0
  · exact .inl h0
  · obtain ⟨b', o', e, h1, h2⟩ := h.at (by omega)
    cases e
    refine .inr ⟨b, _, rfl, h1, fun j x hj => ?_⟩
    rw [List.getElem?_drop] at hj
    have := h2 (k + j) x hj
    rwa [show o + k * 4 + j * 4 = o + (k + j) * 4 from by omega]
theorem emptyC (w : World) (a : Option Addr) (c : Nat) (hc : c ≤ maxLen) : IsClaimS w a 0 c [] := ⟨rfl, Nat.zero_le _, hc, .inl rfl⟩
end Go.Proofs.Ytobpgoiaimlonaa
namespace Go.Proofs.Ytobpgoiaimlonaa

abbrev Edge := Nat × Nat × Int
def farD : Int := 1000000
def gD (o : List Int) (v : Nat) : Int := o.getD v farD
theorem gD_some {o : List Int} {v : Nat} {a : Int} (h : o[v]? = some a) : gD o v = a := by unfold gD; rw [List.getD_eq_getElem?_getD, h]; rfl
theorem gD_none {o : List Int} {v : Nat} (h : ¬ v < o.length) : gD o v = farD := by unfold gD; rw [List.getD_eq_getElem?_getD, List.getElem?_eq_none (by omega)]; rfl
theorem gD_set (o : List Int) (i v : Nat) (x : Int) (hi : i < o.length) : gD (o.set i x) v = if v = i then x else gD o v := by
  unfold gD
  rw [List.getD_eq_getElem?_getD, List.getD_eq_getElem?_getD]
  by_cases h : v = i
  · subst h; rw [if_pos rfl, List.getElem?_set_self hi]; rfl
  · rw [if_neg h, List.getElem?_set_ne (Ne.symm h)]
def relaxE (o : List Int) (e : Edge) : List Int := if gD o e.1 < farD ∧ gD o e.1 + e.2.2 < gD o e.2.1 then o.set e.2.1 (gD o e.1 + e.2.2) else o
def roundE (E : List Edge) (o : List Int) : List Int := E.foldl relaxE o
theorem relax_len (o : List Int) (e : Edge) : (relaxE o e).length = o.length := by unfold relaxE; split <;> simp
theorem round_len (E : List Edge) (o : List Int) : (roundE E o).length = o.length := by
  unfold roundE
  induction E generalizing o with
  | nil => rfl
  | cons e l ih => rw [List.foldl_cons, ih, relax_len]
theorem relax_le (o : List Int) (e : Edge) (v : Nat) : gD (relaxE o e) v ≤ gD o v := by
  unfold relaxE
  split
  · rename_i h
    by_cases hl : e.2.1 < o.length
    · rw [gD_set _ _ _ _ hl]
      split
      · rename_i h2; subst h2; omega
      · omega
    · rw [List.set_eq_of_length_le (by omega)]; omega
  · omega
theorem round_le (E : List Edge) (o : List Int) (v : Nat) : gD (roundE E o) v ≤ gD o v := by
  unfold roundE
  induction E generalizing o with
  | nil => exact Int.le_refl _
  | cons e l ih => rw [List.foldl_cons]; exact Int.le_trans (ih _) (relax_le o e v)
/-- A way along edges from k: its end, its sum, how many edges. -/
inductive WalkE (E : List Edge) (k : Nat) : Nat → Int → Nat → Prop
  | nil : WalkE E k k 0 0
  | snoc {u v : Nat} {a w : Int} {l : Nat} : WalkE E k u a l → (u, v, w) ∈ E → WalkE E k v (a + w) (l + 1)
def PotE (E : List Edge) (h : Nat → Int) : Prop := ∀ u v w, (u, v, w) ∈ E → h v - h u ≤ w
theorem walk_pot {E : List Edge} {h : Nat → Int} (hp : PotE E h) {k v : Nat} {a : Int} {l : Nat} (hw : WalkE E k v a l) : h v - h k ≤ a := by
  induction hw with
  | nil => omega
  | snoc _ he ih => have := hp _ _ _ he; omega
/-- All edges run between marks below n, and none is greater than c. -/
def FitE (E : List Edge) (n : Nat) (c : Int) : Prop := ∀ u v w, (u, v, w) ∈ E → u < n ∧ v < n ∧ w ≤ c
theorem walk_lt {E : List Edge} {n : Nat} {c : Int} (hf : FitE E n c) {k v : Nat} {a : Int} {l : Nat} (hk : k < n) (hw : WalkE E k v a l) : v < n := by
  cases hw with
  | nil => exact hk
  | snoc _ he => exact (hf _ _ _ he).2.1
theorem walk_bd {E : List Edge} {n : Nat} {c : Int} (hf : FitE E n c) {k v : Nat} {a : Int} {l : Nat} (hw : WalkE E k v a l) : a ≤ c * l := by
  induction hw with
  | nil => simp
  | snoc _ he ih =>
    have := (hf _ _ _ he).2.2
    rw [Int.natCast_add, Int.mul_add]; simp; omega
theorem nat_least (P : Nat → Prop) (h : ∃ m, P m) : ∃ m, P m ∧ ∀ j, P j → m ≤ j := by
  obtain ⟨m, hm⟩ := h
  induction m using Nat.strongRecOn with
  | ind m ih =>
    by_cases hh : ∃ j, j < m ∧ P j
    · obtain ⟨j, hj, pj⟩ := hh
      exact ih j hj pj
    · exact ⟨m, hm, fun j hj => Nat.le_of_not_lt fun hlt => hh ⟨j, hlt, hj⟩⟩
/-- The least sum of a way to v, and the fewest edges of such a way. -/
def BestE (E : List Edge) (k v : Nat) (a : Int) (l : Nat) : Prop := WalkE E k v a l ∧ (∀ b m, WalkE E k v b m → a ≤ b) ∧ ∀ m, WalkE E k v a m → l ≤ m
theorem best_of {E : List Edge} {h : Nat → Int} (hp : PotE E h) {k v : Nat} {a : Int} {l : Nat} (hw : WalkE E k v a l) : ∃ b m, BestE E k v b m := by
  obtain ⟨d, ⟨b, m, hb, hd⟩, hmin⟩ := nat_least (fun d => ∃ b m, WalkE E k v b m ∧ b = h v - h k + (d : Int)) ⟨(a - (h v - h k)).toNat, a, l, hw, by have := walk_pot hp hw; omega⟩
  have least : ∀ b' m', WalkE E k v b' m' → b ≤ b' := fun b' m' hw' => by
    have h1 := walk_pot hp hw'
    have := hmin (b' - (h v - h k)).toNat ⟨b', m', hw', by omega⟩
    omega
  obtain ⟨m', hm', hmin'⟩ := nat_least (fun m => WalkE E k v b m) ⟨m, hb⟩
  exact ⟨b, m', hm', least, hmin'⟩
theorem best_same {E : List Edge} {k v : Nat} {a b : Int} {l m : Nat} (h1 : BestE E k v a l) (h2 : BestE E k v b m) : a = b ∧ l = m := by
  have e : a = b := by have := h1.2.1 _ _ h2.1; have := h2.2.1 _ _ h1.1; omega
  subst e
  exact ⟨rfl, by have := h1.2.2 _ h2.1; have := h2.2.2 _ h1.1; omega⟩
theorem best_pred {E : List Edge} {k v : Nat} {a : Int} {l : Nat} (h : BestE E k v a (l + 1)) : ∃ u b w, (u, v, w) ∈ E ∧ a = b + w ∧ BestE E k u b l := by
  obtain ⟨hw, h1, h2⟩ := h
  generalize hm : l + 1 = m at hw h2
  cases hw with
  | nil => omega
  | snoc hu he =>
    rename_i u b w l'
    obtain rfl : l = l' := by omega
    refine ⟨u, b, w, he, rfl, hu, fun b' m' hb' => ?_, fun m' hm' => ?_⟩
    · have := h1 _ _ (hb'.snoc he); omega
    · have := h2 _ (hm'.snoc he); omega
theorem nodup_lt : ∀ (n : Nat) (L : List Nat), L.Nodup → (∀ u ∈ L, u < n) → L.length ≤ n := by
  intro n
  induction n with
  | zero =>
    intro L _ h
    cases L with
    | nil => simp
    | cons x l => have := h x (by simp); omega
  | succ n ih =>
    intro L hn h
    by_cases hm : n ∈ L
    · have h1 := ih (L.erase n) (hn.erase n) (fun u hu => by
        have h2 := h u (List.mem_of_mem_erase hu)
        have h3 : u ≠ n := fun e => by subst e; exact (hn.not_mem_erase) hu
        omega)
      rw [List.length_erase_of_mem hm] at h1
      omega
    · have := ih L hn (fun u hu => by have h2 := h u hu; have h3 : u ≠ n := fun e => hm (e ▸ hu); omega)
      omega
theorem best_len {E : List Edge} {n : Nat} {c : Int} (hf : FitE E n c) {k : Nat} (hk : k < n) : ∀ (l : Nat) (v : Nat) (a : Int), BestE E k v a l → l + 1 ≤ n := by
  have H : ∀ (l : Nat) (v : Nat) (a : Int), BestE E k v a l → ∃ L : List Nat, L.length = l + 1 ∧ L.Nodup ∧ (∀ u ∈ L, u < n) ∧ ∀ u ∈ L, ∃ b m, BestE E k u b m ∧ m ≤ l := by
    intro l
    induction l with
    | zero =>
      intro v a h
      exact ⟨[v], rfl, by simp, fun u hu => by simp at hu; subst hu; exact walk_lt hf hk h.1, fun u hu => by simp at hu; subst hu; exact ⟨a, 0, h, Nat.le_refl _⟩⟩
    | succ l ih =>
      intro v a h
      obtain ⟨u, b, w, _, _, hu⟩ := best_pred h
      obtain ⟨L, h1, h2, h3, h4⟩ := ih u b hu
      refine ⟨v :: L, by simp [h1], ?_, ?_, ?_⟩
      · rw [List.nodup_cons]
        refine ⟨fun hv => ?_, h2⟩
        obtain ⟨b', m', hb', hm'⟩ := h4 v hv
        have := (best_same h hb').2
        omega
      · intro x hx
        rw [List.mem_cons] at hx
        rcases hx with rfl | hx
        · exact walk_lt hf hk h.1
        · exact h3 x hx
      · intro x hx
        rw [List.mem_cons] at hx
        rcases hx with rfl | hx
        · exact ⟨a, l + 1, h, Nat.le_refl _⟩
        · obtain ⟨b', m', hb', hm'⟩ := h4 x hx
          exact ⟨b', m', hb', by omega⟩
  intro l v a h
  obtain ⟨L, h1, h2, h3, _⟩ := H l v a h
  have := nodup_lt n L h2 h3
  omega
/-- What the numbers are while edges are relaxed from k. -/
def InvE (E : List Edge) (k n : Nat) (o : List Int) : Prop := o.length = n ∧ (∀ v, gD o v < farD → ∃ l, WalkE E k v (gD o v) l) ∧ gD o k ≤ 0 ∧ ∀ v, gD o v ≤ farD
theorem InvE.relax {E : List Edge} {k n : Nat} {o : List Int} (h : InvE E k n o) {e : Edge} (he : e ∈ E) : InvE E k n (relaxE o e) := by
  obtain ⟨h1, h2, h3, h4⟩ := h
  refine ⟨by rw [relax_len, h1], fun v hv => ?_, Int.le_trans (relax_le o e k) h3, fun v => Int.le_trans (relax_le o e v) (h4 v)⟩
  unfold relaxE at hv ⊢
  split at hv
  · rename_i hc
    rw [if_pos hc]
    by_cases hl : e.2.1 < o.length
    · rw [gD_set _ _ _ _ hl] at hv ⊢
      split at hv
      · rename_i hve
        rw [if_pos hve]
        subst hve
        obtain ⟨l, hw⟩ := h2 e.1 hc.1
        exact ⟨l + 1, hw.snoc he⟩
      · rename_i hve
        rw [if_neg hve]
        exact h2 v hv
    · rw [List.set_eq_of_length_le (by omega)] at hv ⊢
      exact h2 v hv
  · rename_i hc
    rw [if_neg hc]
    exact h2 v hv
theorem InvE.fold {E : List Edge} {k n : Nat} : ∀ (L : List Edge), (∀ e ∈ L, e ∈ E) → ∀ o, InvE E k n o → InvE E k n (L.foldl relaxE o) := by
  intro L
  induction L with
  | nil => intro _ o h; exact h
  | cons e l ih => intro hs o h; rw [List.foldl_cons]; exact ih (fun x hx => hs x (List.mem_cons_of_mem _ hx)) _ (h.relax (hs e (by simp)))
theorem InvE.round {E : List Edge} {k n : Nat} {o : List Int} (h : InvE E k n o) : InvE E k n (roundE E o) := InvE.fold E (fun _ h => h) o h
theorem fold_le (L : List Edge) (o : List Int) (v : Nat) : gD (L.foldl relaxE o) v ≤ gD o v := round_le L o v
theorem fold_len (L : List Edge) (o : List Int) : (L.foldl relaxE o).length = o.length := round_len L o
theorem round_edge {E : List Edge} {o : List Int} {u v : Nat} {w b : Int} (he : (u, v, w) ∈ E) (hv : v < o.length) (hb : gD o u ≤ b) (hbf : b < farD) : gD (roundE E o) v ≤ b + w := by
  obtain ⟨L, R, rfl⟩ := List.append_of_mem he
  unfold roundE
  rw [List.foldl_append, List.foldl_cons]
  refine Int.le_trans (fold_le R _ v) ?_
  generalize hq : L.foldl relaxE o = q
  have h1 : gD q u ≤ b := by rw [← hq]; exact Int.le_trans (fold_le L o u) hb
  have hl : v < q.length := by rw [← hq, fold_len]; exact hv
  unfold relaxE
  split
  · rw [gD_set _ _ _ _ hl, if_pos rfl]; simp only []; omega
  · rename_i hc
    simp only [not_and] at hc
    have := hc (by omega)
    omega
def roundsE (E : List Edge) : Nat → List Int → List Int
  | 0, o => o
  | r + 1, o => roundE E (roundsE E r o)
theorem InvE.rounds {E : List Edge} {k n : Nat} {o : List Int} (h : InvE E k n o) : ∀ r, InvE E k n (roundsE E r o) := by
  intro r
  induction r with
  | zero => exact h
  | succ r ih => exact ih.round
theorem rounds_best {E : List Edge} {k n : Nat} {c : Int} {o : List Int} (hf : FitE E n c) (hk : k < n) (hc0 : 0 ≤ c) (hc : c * n < farD) (hi : InvE E k n o) : ∀ (r l : Nat) (v : Nat) (a : Int), BestE E k v a l → l ≤ r → gD (roundsE E r o) v ≤ a := by
  intro r
  induction r with
  | zero =>
    intro l v a h hl
    obtain rfl : l = 0 := by omega
    cases h.1 with
    | nil => exact hi.2.2.1
  | succ r ih =>
    intro l v a h hl
    show gD (roundE E (roundsE E r o)) v ≤ a
    by_cases hlr : l ≤ r
    · exact Int.le_trans (round_le _ _ _) (ih l v a h hlr)
    · obtain rfl : l = r + 1 := by omega
      obtain ⟨u, b, w, he, rfl, hu⟩ := best_pred h
      have hbl := best_len hf hk _ _ _ hu
      have hbd := walk_bd hf hu.1
      have hm : c * (r : Int) ≤ c * (n : Int) := Int.mul_le_mul_of_nonneg_left (by omega) hc0
      exact round_edge he (by rw [(hi.rounds r).1]; exact (hf _ _ _ he).2.1) (ih r u b hu (Nat.le_refl _)) (by omega)
/-- No edge makes a number smaller. -/
def StableE (E : List Edge) (o : List Int) : Prop := ∀ u v w, (u, v, w) ∈ E → gD o u < farD → gD o v ≤ gD o u + w
theorem stable_round {E : List Edge} {o : List Int} (h : StableE E o) : roundE E o = o := by
  have H : ∀ L : List Edge, (∀ e ∈ L, e ∈ E) → L.foldl relaxE o = o := by
    intro L
    induction L with
    | nil => intro _; rfl
    | cons e l ih =>
      intro hs
      have e1 : relaxE o e = o := by
        unfold relaxE
        rw [if_neg]
        rintro ⟨h1, h2⟩
        have := h e.1 e.2.1 e.2.2 (hs e (by simp)) h1
        omega
      rw [List.foldl_cons, e1]
      exact ih fun x hx => hs x (List.mem_cons_of_mem _ hx)
  exact H E fun _ h => h
theorem round_stable {E : List Edge} {n : Nat} {c : Int} {o : List Int} (hf : FitE E n c) (hn : o.length = n) (h : roundE E o = o) : StableE E o := by
  intro u v w he hu
  have := round_edge he (by rw [hn]; exact (hf _ _ _ he).2.1) (Int.le_refl _) hu
  rw [h] at this
  exact this
/-- Where heights fit, n - 1 rounds are enough. -/
theorem sound_stable {E : List Edge} {k n : Nat} {c : Int} {o : List Int} {h : Nat → Int} (hp : PotE E h) (hf : FitE E n c) (hk : k < n) (hc0 : 0 ≤ c) (hc : c * n < farD) (hi : InvE E k n o) {r : Nat} (hr : n ≤ r + 1) : StableE E (roundsE E r o) := by
  intro u v w he hu
  obtain ⟨l, hw⟩ := (hi.rounds r).2.1 u hu
  obtain ⟨b, m, hb⟩ := best_of hp (hw.snoc he)
  have h1 := best_len hf hk _ _ _ hb
  have h2 := rounds_best hf hk hc0 hc hi r m v b hb (by omega)
  have h3 := hb.2.1 _ _ (hw.snoc he)
  omega
/-- The numbers at the end are the least sums. -/
theorem stable_walk {E : List Edge} {k n : Nat} {c : Int} {o : List Int} (hf : FitE E n c) (hc0 : 0 ≤ c) (hc : c * n < farD) (hi : InvE E k n o) (hs : StableE E o) {v : Nat} {a : Int} {l : Nat} (hw : WalkE E k v a l) (hl : (l : Int) ≤ n) : gD o v ≤ a ∧ gD o v ≤ c * l := by
  induction hw with
  | nil => exact ⟨hi.2.2.1, by simpa using hi.2.2.1⟩
  | snoc hu he ih =>
    rename_i u v' a' w l'
    obtain ⟨h1, h2⟩ := ih (by omega)
    have hm : c * (l' : Int) ≤ c * (n : Int) := Int.mul_le_mul_of_nonneg_left (by omega) hc0
    have h3 := hs _ _ _ he (by omega)
    have h4 := (hf _ _ _ he).2.2
    refine ⟨by omega, ?_⟩
    rw [Int.natCast_add, Int.mul_add]; simp; omega
end Go.Proofs.Ytobpgoiaimlonaa
namespace Go.Proofs.Ytobpgoiaimlonaa

def gI (o : List Int) (v : Nat) : Int := o.getD v 0
theorem gI_some {o : List Int} {v : Nat} {a : Int} (h : o[v]? = some a) : gI o v = a := by unfold gI; rw [List.getD_eq_getElem?_getD, h]; rfl
theorem gI_at {o : List Int} {v : Nat} (h : v < o.length) : o[v]? = some (gI o v) := by
  rw [gI_some (List.getElem?_eq_getElem h)]; exact List.getElem?_eq_getElem h
def gM (D : List (List Int)) (i j : Nat) : Int := gI (D.getD i []) j
theorem gM_some {D : List (List Int)} {i j : Nat} {r : List Int} (h : D[i]? = some r) : gM D i j = gI r j := by unfold gM; rw [List.getD_eq_getElem?_getD, h]; rfl
theorem gI_set (o : List Int) (i v : Nat) (x : Int) (hi : i < o.length) : gI (o.set i x) v = if v = i then x else gI o v := by
  unfold gI
  rw [List.getD_eq_getElem?_getD, List.getD_eq_getElem?_getD]
  by_cases h : v = i
  · subst h; rw [if_pos rfl, List.getElem?_set_self hi]; rfl
  · rw [if_neg h, List.getElem?_set_ne (Ne.symm h)]
theorem gM_set (D : List (List Int)) (i k j : Nat) (r : List Int) (hi : i < D.length) : gM (D.set i r) k j = if k = i then gI r j else gM D k j := by
  by_cases h : k = i
  · subst h; rw [if_pos rfl, gM_some (List.getElem?_set_self hi)]
  · rw [if_neg h]; unfold gM; rw [List.getD_eq_getElem?_getD, List.getD_eq_getElem?_getD, List.getElem?_set_ne (Ne.symm h)]
/-- n rows of n numbers. -/
def SqM (n : Nat) (D : List (List Int)) : Prop := D.length = n ∧ ∀ r ∈ D, r.length = n
theorem SqM.row {n : Nat} {D : List (List Int)} (h : SqM n D) {i : Nat} (hi : i < n) : ∃ r, D[i]? = some r ∧ r.length = n ∧ ∀ j, gM D i j = gI r j := by
  have hl : i < D.length := by rw [h.1]; exact hi
  exact ⟨D[i], List.getElem?_eq_getElem hl, h.2 _ (List.getElem_mem hl), fun j => gM_some (List.getElem?_eq_getElem hl)⟩
theorem SqM.set {n : Nat} {D : List (List Int)} (h : SqM n D) (i : Nat) {r : List Int} (hr : r.length = n) : SqM n (D.set i r) := by
  refine ⟨by rw [List.length_set, h.1], fun x hx => ?_⟩
  rcases List.mem_or_eq_of_mem_set hx with h1 | rfl
  · exact h.2 x h1
  · exact hr
theorem SqM.ext {n : Nat} {D F : List (List Int)} (h : SqM n D) (h' : SqM n F) (he : ∀ i j, i < n → j < n → gM D i j = gM F i j) : D = F := by
  apply List.ext_getElem?
  intro i
  by_cases hi : i < n
  · obtain ⟨r, h1, h2, h3⟩ := h.row hi
    obtain ⟨r', h1', h2', h3'⟩ := h'.row hi
    rw [h1, h1']
    congr 1
    apply List.ext_getElem?
    intro j
    by_cases hj : j < n
    · rw [gI_at (by omega), gI_at (by omega), ← h3, ← h3', he i j hi hj]
    · rw [List.getElem?_eq_none (by omega), List.getElem?_eq_none (by omega)]
  · rw [List.getElem?_eq_none (by rw [h.1]; omega), List.getElem?_eq_none (by rw [h'.1]; omega)]
/-- Heights that keep to a table. -/
def PotM (n : Nat) (D : List (List Int)) (h : Nat → Int) : Prop := ∀ i j, i < n → j < n → h j - h i ≤ gM D i j
/-- What the table is while it is closed: square, 0 from each mark to itself, no number too great or too small. -/
structure Tab (n : Nat) (t : Nat) (D : List (List Int)) : Prop where
  sq : SqM n D
  diag : ∀ i, i < n → gM D i i = 0
  hi : ∀ i j, i < n → j < n → gM D i j ≤ 99990
  lo : ∀ i j, i < n → j < n → -(99990 * (2 : Int) ^ t) ≤ gM D i j
/-- Ways over the marks below v are taken in already. -/
def ClosedTo (n v : Nat) (D : List (List Int)) : Prop := ∀ i j k, i < n → j < n → k < v → gM D i j ≤ gM D i k + gM D k j
/-- The table behind mark v's round. -/
def viaM (v : Nat) (D : List (List Int)) (i j : Nat) : Int := min (gM D i j) (gM D i v + gM D v j)
/-- In mark v's round, the rows below f and, in row f, the places below j are done. -/
def PartM (n v f t : Nat) (D X : List (List Int)) : Prop := SqM n X ∧ ∀ i j, i < n → j < n → gM X i j = if i < f ∨ (i = f ∧ j < t) then viaM v D i j else gM D i j
theorem viaM_row {v : Nat} {D : List (List Int)} (hd : gM D v v = 0) (j : Nat) : viaM v D v j = gM D v j := by unfold viaM; rw [hd]; omega
theorem viaM_col {v : Nat} {D : List (List Int)} (hd : gM D v v = 0) (i : Nat) : viaM v D i v = gM D i v := by unfold viaM; rw [hd]; omega
theorem PartM.start {n v : Nat} {D : List (List Int)} (h : SqM n D) : PartM n v 0 0 D D := ⟨h, fun i j _ _ => by rw [if_neg]; omega⟩
theorem PartM.row {n v f t : Nat} {D X : List (List Int)} (h : PartM n v f t D X) (hd : gM D v v = 0) (hv : v < n) {j : Nat} (hj : j < n) : gM X v j = gM D v j := by
  rw [h.2 v j hv hj]; split
  · exact viaM_row hd j
  · rfl
theorem PartM.col {n v f t : Nat} {D X : List (List Int)} (h : PartM n v f t D X) (hd : gM D v v = 0) (hv : v < n) {i : Nat} (hi : i < n) : gM X i v = gM D i v := by
  rw [h.2 i v hi hv]; split
  · exact viaM_col hd i
  · rfl
/-- One place more. -/
theorem PartM.step {n v f t : Nat} {D X : List (List Int)} (h : PartM n v f t D X) (hd : gM D v v = 0) (hv : v < n) (hf : f < n) (ht : t < n) {r : List Int} (hr : X[f]? = some r) :
    PartM n v f (t + 1) D (X.set f (r.set t (min (gI r t) (gI r v + gM X v t)))) := by
  have hfl : f < X.length := by rw [h.1.1]; exact hf
  have hrl : r.length = n := h.1.2 r (List.mem_of_getElem? hr)
  refine ⟨h.1.set f (by rw [List.length_set]; exact hrl), fun i j hi hj => ?_⟩
  rw [gM_set _ _ _ _ _ hfl]
  by_cases hif : i = f
  · subst hif
    rw [if_pos rfl, gI_set _ _ _ _ (by omega)]
    by_cases hjt : j = t
    · subst hjt
      rw [if_pos rfl, if_pos (Or.inr ⟨rfl, by omega⟩), ← gM_some hr, ← gM_some (j := v) hr, h.col hd hv hi, h.row hd hv hj, h.2 i j hi hj, if_neg (by omega)]
      rfl
    · rw [if_neg hjt, ← gM_some hr, h.2 i j hi hj]
      by_cases c : j < t
      · rw [if_pos (by omega), if_pos (by omega)]
      · rw [if_neg (by omega), if_neg (by omega)]
  · rw [if_neg hif, h.2 i j hi hj]
    by_cases c : i < f
    · rw [if_pos (Or.inl c), if_pos (Or.inl c)]
    · rw [if_neg (by omega), if_neg (by omega)]
theorem PartM.next {n v f : Nat} {D X : List (List Int)} (h : PartM n v f n D X) : PartM n v (f + 1) 0 D X := by
  refine ⟨h.1, fun i j hi hj => ?_⟩
  rw [h.2 i j hi hj]
  by_cases c : i < f + 1
  · rw [if_pos (by omega), if_pos (by omega)]
  · rw [if_neg (by omega), if_neg (by omega)]
theorem PartM.lo {n v f t s : Nat} {D X : List (List Int)} (h : PartM n v f t D X) (T : Tab n s D) (hv : v < n) {i j : Nat} (hi : i < n) (hj : j < n) : -(99990 * (2 : Int) ^ (s + 1)) ≤ gM X i j ∧ gM X i j ≤ 99990 := by
  have h1 := T.lo i j hi hj
  have h2 := T.lo i v hi hv
  have h3 := T.lo v j hv hj
  have h4 := T.hi i j hi hj
  have h5 : (0 : Int) ≤ 2 ^ s := Int.pow_nonneg (by decide)
  rw [h.2 i j hi hj, Int.pow_succ]
  unfold viaM
  split <;> omega
/-- Heights that keep to the table keep to it all through the round. -/
theorem PartM.pot {n v f t : Nat} {D X : List (List Int)} (h : PartM n v f t D X) (hv : v < n) {g : Nat → Int} (hg : PotM n D g) : PotM n X g := by
  intro i j hi hj
  have h1 := hg i j hi hj
  have h2 := hg i v hi hv
  have h3 := hg v j hv hj
  rw [h.2 i j hi hj]
  unfold viaM
  split <;> omega
theorem PartM.le {n v f t : Nat} {D X : List (List Int)} (h : PartM n v f t D X) {i j : Nat} (hi : i < n) (hj : j < n) : gM X i j ≤ gM D i j := by
  rw [h.2 i j hi hj]
  unfold viaM
  split <;> omega
/-- A round at whose end no mark is lower than itself. -/
theorem PartM.done {n v s : Nat} {D X : List (List Int)} (h : PartM n v n 0 D X) (T : Tab n s D) (hv : v < n) (hok : ∀ i, i < n → 0 ≤ gM X i i) : Tab n (s + 1) X := by
  refine ⟨h.1, fun i hi => ?_, fun i j hi hj => (h.lo T hv hi hj).2, fun i j hi hj => (h.lo T hv hi hj).1⟩
  have h1 := hok i hi
  have h2 := h.le hi hi
  rw [T.diag i hi] at h2
  omega
theorem PartM.closed {n v s : Nat} {D X : List (List Int)} (h : PartM n v n 0 D X) (T : Tab n s D) (hv : v < n) (hc : ClosedTo n v D) : ClosedTo n (v + 1) X := by
  have hd := T.diag v hv
  have E : ∀ i j, i < n → j < n → gM X i j = viaM v D i j := fun i j hi hj => by rw [h.2 i j hi hj, if_pos (Or.inl hi)]
  intro i j k hi hj hk
  have hkn : k < n := by omega
  rw [E i j hi hj, E i k hi hkn, E k j hkn hj]
  by_cases hkv : k = v
  · subst hkv
    rw [viaM_col hd, viaM_row hd]
    unfold viaM; omega
  · have h1 := hc i j k hi hj (by omega)
    have h2 := hc i v k hi hv (by omega)
    have h3 := hc v j k hv hj (by omega)
    have h4 := hc v v k hv hv (by omega)
    rw [hd] at h4
    unfold viaM
    omega
/-- One claim's limit, taken into the table. -/
def relaxM (D : List (List Int)) (e : Edge) : List (List Int) := D.set e.1 ((D.getD e.1 []).set e.2.1 (min (gM D e.1 e.2.1) e.2.2))
def baseM (n : Nat) : List (List Int) := (List.range n).map fun i => (List.replicate n 99990).set i 0
def initM (n : Nat) (E : List Edge) : List (List Int) := E.foldl relaxM (baseM n)
/-- Edges between different marks below n, none greater than c or below -c. -/
def FitM (E : List Edge) (n : Nat) (c : Int) : Prop := ∀ u v w, (u, v, w) ∈ E → u < n ∧ v < n ∧ u ≠ v ∧ -c ≤ w ∧ w ≤ c
theorem FitM.fit {E : List Edge} {n : Nat} {c : Int} (h : FitM E n c) : FitE E n c := fun u v w he => ⟨(h u v w he).1, (h u v w he).2.1, (h u v w he).2.2.2.2⟩
theorem baseM_sq (n : Nat) : SqM n (baseM n) := by
  refine ⟨by simp [baseM], fun r hr => ?_⟩
  simp only [baseM, List.mem_map] at hr
  obtain ⟨i, _, rfl⟩ := hr
  simp
theorem baseM_row {n i : Nat} (hi : i < n) : (baseM n)[i]? = some ((List.replicate n 99990).set i 0) := by
  unfold baseM
  rw [List.getElem?_map, List.getElem?_range hi]; rfl
theorem baseM_at {n i j : Nat} (hi : i < n) (hj : j < n) : gM (baseM n) i j = if j = i then 0 else 99990 := by
  rw [gM_some (baseM_row hi), gI_set _ _ _ _ (by simpa using hi)]
  split
  · rfl
  · exact gI_some (by simp [hj])
theorem relaxM_sq {n : Nat} {D : List (List Int)} (h : SqM n D) {e : Edge} (hu : e.1 < n) : SqM n (relaxM D e) := by
  obtain ⟨r, h1, h2, _⟩ := h.row hu
  unfold relaxM
  rw [List.getD_eq_getElem?_getD, h1]
  exact h.set _ (by rw [List.length_set]; exact h2)
theorem relaxM_at {n : Nat} {D : List (List Int)} (h : SqM n D) {u v : Nat} {w : Int} (hu : u < n) (hv : v < n) (i j : Nat) : gM (relaxM D (u, v, w)) i j = if i = u ∧ j = v then min (gM D u v) w else gM D i j := by
  obtain ⟨r, h1, h2, h3⟩ := h.row hu
  unfold relaxM
  simp only []
  rw [List.getD_eq_getElem?_getD, h1, gM_set _ _ _ _ _ (by rw [h.1]; exact hu)]
  by_cases hi : i = u
  · subst hi
    rw [if_pos rfl]
    show gI (r.set v _) j = _
    rw [gI_set _ _ _ _ (by omega)]
    by_cases hj : j = v
    · rw [if_pos hj, if_pos ⟨rfl, hj⟩]
    · rw [if_neg hj, if_neg (fun h => hj h.2), h3 j]
  · rw [if_neg hi, if_neg (fun h => hi h.1)]
theorem initM_facts {n : Nat} {c : Int} (hc : c ≤ 9999) : ∀ (L : List Edge), FitM L n c → ∀ D, SqM n D → (∀ i, i < n → gM D i i = 0) → (∀ i j, i < n → j < n → -99990 ≤ gM D i j ∧ gM D i j ≤ 99990) →
    SqM n (L.foldl relaxM D) ∧ (∀ i, i < n → gM (L.foldl relaxM D) i i = 0) ∧ (∀ i j, i < n → j < n → -99990 ≤ gM (L.foldl relaxM D) i j ∧ gM (L.foldl relaxM D) i j ≤ 99990) ∧
    (∀ h : Nat → Int, PotM n (L.foldl relaxM D) h ↔ (PotM n D h ∧ PotE L h)) := by
  intro L
  induction L with
  | nil => intro _ D h1 h2 h3; exact ⟨h1, h2, h3, fun h => ⟨fun hh => ⟨hh, fun u v w he => by simp at he⟩, fun hh => hh.1⟩⟩
  | cons e L ih =>
    intro hf D h1 h2 h3
    obtain ⟨u, v, w⟩ := e
    obtain ⟨hu, hv, huv, w0, w1⟩ := hf u v w (by simp)
    have sq := relaxM_sq (D := D) (e := (u, v, w)) h1 hu
    have at' := relaxM_at (w := w) h1 hu hv
    obtain ⟨g1, g2, g3, g4⟩ := ih (fun a b x hx => hf a b x (List.mem_cons_of_mem _ hx)) (relaxM D (u, v, w)) sq (fun i hi => by rw [at', if_neg (by omega)]; exact h2 i hi) (fun i j hi hj => by
      have := h3 i j hi hj
      have := h3 u v hu hv
      rw [at']; split <;> omega)
    rw [List.foldl_cons]
    refine ⟨g1, g2, g3, fun h => ?_⟩
    rw [g4 h]
    constructor
    · rintro ⟨p1, p2⟩
      refine ⟨fun i j hi hj => ?_, fun a b x hx => ?_⟩
      · have := p1 i j hi hj
        rw [at'] at this
        split at this
        · rename_i hh; obtain ⟨rfl, rfl⟩ := hh; omega
        · exact this
      · rw [List.mem_cons] at hx
        rcases hx with hx | hx
        · injection hx with e1 e2
          injection e2 with e2 e3
          subst e1 e2 e3
          have := p1 a b hu hv
          rw [at', if_pos ⟨rfl, rfl⟩] at this
          omega
        · exact p2 a b x hx
    · rintro ⟨p1, p2⟩
      refine ⟨fun i j hi hj => ?_, fun a b x hx => p2 a b x (List.mem_cons_of_mem _ hx)⟩
      rw [at']
      split
      · rename_i hh; obtain ⟨rfl, rfl⟩ := hh
        have := p1 i j hi hj
        have := p2 i j w (by simp)
        omega
      · exact p1 i j hi hj
/-- The table of the claims' own limits. -/
theorem initM_tab {n : Nat} {E : List Edge} (hf : FitM E n 9999) : Tab n 0 (initM n E) ∧ ∀ h : Nat → Int, PotM n (initM n E) h ↔ ((∀ i j, i < n → j < n → h j - h i ≤ 99990) ∧ PotE E h) := by
  obtain ⟨g1, g2, g3, g4⟩ := initM_facts (Int.le_refl _) E hf (baseM n) (baseM_sq n) (fun i hi => by rw [baseM_at hi hi, if_pos rfl]) (fun i j hi hj => by rw [baseM_at hi hj]; split <;> omega)
  refine ⟨⟨g1, g2, fun i j hi hj => (g3 i j hi hj).2, fun i j hi hj => by have := (g3 i j hi hj).1; show -(99990 * (2 : Int) ^ 0) ≤ gM (E.foldl relaxM (baseM n)) i j; rw [Int.pow_zero]; omega⟩, fun h => ?_⟩
  show PotM n (E.foldl relaxM (baseM n)) h ↔ _
  rw [g4 h]
  constructor
  · rintro ⟨p1, p2⟩
    refine ⟨fun i j hi hj => ?_, p2⟩
    have := p1 i j hi hj
    rw [baseM_at hi hj] at this
    split at this <;> omega
  · rintro ⟨p1, p2⟩
    refine ⟨fun i j hi hj => ?_, p2⟩
    rw [baseM_at hi hj]
    split
    · rename_i e; subst e; omega
    · exact p1 i j hi hj
theorem walk_lo {E : List Edge} {c : Int} (hf : ∀ u v w, (u, v, w) ∈ E → -c ≤ w) {k v : Nat} {a : Int} {l : Nat} (hw : WalkE E k v a l) : -(c * l) ≤ a := by
  induction hw with
  | nil => simp
  | snoc _ he ih =>
    have := hf _ _ _ he
    rw [Int.natCast_add, Int.mul_add]; simp; omega
theorem upper (h : Nat → Int) : ∀ n, ∃ M, ∀ v, v < n → h v ≤ M := by
  intro n
  induction n with
  | zero => exact ⟨0, fun v hv => by omega⟩
  | succ n ih =>
    obtain ⟨M, hM⟩ := ih
    refine ⟨max M (h n), fun v hv => ?_⟩
    by_cases e : v = n
    · subst e; omega
    · have := hM v (by omega); omega
/-- Where heights keep to the edges, others do that lie close together. -/
theorem pot_close {E : List Edge} {n : Nat} (hf : FitM E n 9999) (hn : n ≤ 10) {h : Nat → Int} (hp : PotE E h) : ∃ g : Nat → Int, PotE E g ∧ ∀ i j, i < n → j < n → g j - g i ≤ 99990 := by
  obtain ⟨M, hM⟩ := upper h n
  let E' : List Edge := E ++ (List.range n).map fun v => (n, v, 0)
  have mem : ∀ u v w, (u, v, w) ∈ E' ↔ (u, v, w) ∈ E ∨ (u = n ∧ v < n ∧ w = 0) := by
    intro u v w
    simp only [E', List.mem_append, List.mem_map, List.mem_range, Prod.mk.injEq]
    constructor
    · rintro (h1 | ⟨a, h1, rfl, rfl, rfl⟩)
      · exact .inl h1
      · exact .inr ⟨rfl, h1, rfl⟩
    · rintro (h1 | ⟨rfl, h1, rfl⟩)
      · exact .inl h1
      · exact .inr ⟨v, h1, rfl, rfl, rfl⟩
  have hp' : PotE E' fun v => if v = n then M else h v := by
    intro u v w he
    rcases (mem u v w).1 he with h1 | ⟨rfl, h1, rfl⟩
    · have h2 := hf u v w h1
      have h3 := hp u v w h1
      simp only []
      rw [if_neg (by omega), if_neg (by omega)]
      exact h3
    · have := hM v h1
      have e1 : ¬ v = u := by omega
      simp only [if_neg e1, if_true]
      omega
  have hf' : FitE E' (n + 1) 9999 := by
    intro u v w he
    rcases (mem u v w).1 he with h1 | ⟨rfl, h1, rfl⟩
    · have h2 := hf u v w h1; omega
    · omega
  have hlo : ∀ u v w, (u, v, w) ∈ E' → -9999 ≤ w := by
    intro u v w he
    rcases (mem u v w).1 he with h1 | ⟨_, _, rfl⟩
    · have h2 := hf u v w h1; omega
    · omega
  have W : ∀ v, v < n → WalkE E' n v (0 + 0) (0 + 1) := fun v hv => .snoc .nil ((mem n v 0).2 (.inr ⟨rfl, hv, rfl⟩))
  have each : ∀ v : Nat, ∃ b : Int, v < n → ∃ m, BestE E' n v b m := fun v => by
    by_cases hv : v < n
    · obtain ⟨b, m, hb⟩ := best_of hp' (W v hv)
      exact ⟨b, fun _ => ⟨m, hb⟩⟩
    · exact ⟨0, fun h => absurd h hv⟩
  obtain ⟨g, hg⟩ := Classical.axiomOfChoice each
  have bd : ∀ v, v < n → -99990 ≤ g v ∧ g v ≤ 0 := fun v hv => by
    obtain ⟨m, hb⟩ := hg v hv
    have h1 := best_len hf' (show n < n + 1 by omega) _ _ _ hb
    have h2 := walk_lo hlo hb.1
    have h3 := hb.2.1 _ _ (W v hv)
    exact ⟨by omega, by omega⟩
  refine ⟨g, fun u v w he => ?_, fun i j hi hj => ?_⟩
  · obtain ⟨hu, hv, _⟩ := hf u v w he
    obtain ⟨m, hb⟩ := hg u hu
    obtain ⟨m', hb'⟩ := hg v hv
    have := hb'.2.1 _ _ (hb.1.snoc ((mem u v w).2 (.inl he)))
    omega
  · have := bd i hi
    have := bd j hj
    omega
/-! The model's rounds. -/
/-- At most so many rounds, to the first one without a change. -/
def reachE (E : List Edge) : Nat → List Int → List Int × Bool
  | 0, o => (o, false)
  | r + 1, o => if roundE E o = o then (o, true) else reachE E r (roundE E o)
def startD (n k : Nat) : List Int := (List.replicate n farD).set k 0
theorem rounds_in (E : List Edge) (r : Nat) (o : List Int) : roundsE E r (roundE E o) = roundsE E (r + 1) o := by
  induction r with
  | zero => rfl
  | succ r ih => show roundE E (roundsE E r (roundE E o)) = _; rw [ih]; rfl
theorem reachE_yes {E : List Edge} : ∀ (r j : Nat) (o : List Int), j < r → roundE E (roundsE E j o) = roundsE E j o → (reachE E r o).2 = true := by
  intro r
  induction r with
  | zero => intro j o h; omega
  | succ r ih =>
    intro j o h hs
    unfold reachE
    by_cases h0 : roundE E o = o
    · rw [if_pos h0]
    · rw [if_neg h0]
      cases j with
      | zero => exact absurd hs h0
      | succ j => exact ih j _ (by omega) (by rw [rounds_in]; exact hs)
theorem reachE_ends {E : List Edge} : ∀ (r : Nat) (o : List Int), (reachE E r o).2 = true → ∃ j, (reachE E r o).1 = roundsE E j o ∧ roundE E (reachE E r o).1 = (reachE E r o).1 := by
  intro r
  induction r with
  | zero => intro o h; cases h
  | succ r ih =>
    intro o h
    unfold reachE at h ⊢
    by_cases h0 : roundE E o = o
    · rw [if_pos h0]; exact ⟨0, rfl, h0⟩
    · rw [if_neg h0] at h ⊢
      obtain ⟨j, h1, h2⟩ := ih _ h
      exact ⟨j + 1, by rw [h1, rounds_in], h2⟩
theorem startD_inv {E : List Edge} {n k : Nat} (hk : k < n) : InvE E k n (startD n k) := by
  have at' : ∀ v, gD (startD n k) v = if v = k then 0 else farD := fun v => by
    unfold startD
    rw [gD_set _ _ _ _ (by simpa using hk)]
    split
    · rfl
    · by_cases hv : v < n
      · exact gD_some (by simp [hv])
      · exact gD_none (by simpa using hv)
  refine ⟨by simp [startD], fun v hv => ?_, by rw [at', if_pos rfl]; omega, fun v => by rw [at']; unfold farD; split <;> omega⟩
  rw [at'] at hv ⊢
  split at hv
  · rename_i e; subst e; rw [if_pos rfl]; exact ⟨0, .nil⟩
  · unfold farD at hv; omega
def reachN (n : Nat) (E : List Edge) (k : Nat) : List Int × Bool := reachE E (n + 1) (startD n k)
theorem reach_yes {E : List Edge} {n k : Nat} (hf : FitM E n 9999) (hn : n ≤ 10) (hk : k < n) {h : Nat → Int} (hp : PotE E h) : (reachN n E k).2 = true :=
  reachE_yes _ (n - 1) _ (by omega) (stable_round (sound_stable hp hf.fit hk (by omega) (by unfold farD; omega) (startD_inv hk) (by omega)))
theorem reach_ends {E : List Edge} {n k : Nat} (hf : FitM E n 9999) (hk : k < n) (h : (reachN n E k).2 = true) : InvE E k n (reachN n E k).1 ∧ StableE E (reachN n E k).1 := by
  obtain ⟨j, h1, h2⟩ := reachE_ends _ _ h
  have hi : InvE E k n (reachN n E k).1 := by
    show InvE E k n (reachE E (n + 1) (startD n k)).1
    rw [h1]; exact (startD_inv hk).rounds j
  exact ⟨hi, round_stable hf.fit hi.1 h2⟩
/-- Where the rounds end from each mark, heights keep to the edges. -/
theorem pot_of_reach {E : List Edge} {n : Nat} (hf : FitM E n 9999) (hall : ∀ k, k < n → (reachN n E k).2 = true) : ∃ h : Nat → Int, PotE E h := by
  have H : ∀ m, m ≤ n → ∀ v, ∃ a : Int, a ≤ farD ∧ (∀ k, k < m → a ≤ gD (reachN n E k).1 v) ∧ (a = farD ∨ ∃ k, k < m ∧ a = gD (reachN n E k).1 v) := by
    intro m
    induction m with
    | zero => intro _ v; exact ⟨farD, by omega, fun k hk => by omega, .inl rfl⟩
    | succ m ih =>
      intro hm v
      obtain ⟨a, h1, h2, h3⟩ := ih (by omega) v
      refine ⟨min a (gD (reachN n E m).1 v), by omega, fun k hk => ?_, ?_⟩
      · by_cases e : k = m
        · subst e; omega
        · have := h2 k (by omega); omega
      · by_cases c : a ≤ gD (reachN n E m).1 v
        · rw [Int.min_eq_left c]
          rcases h3 with h3 | ⟨k, hk, e⟩
          · exact .inl h3
          · exact .inr ⟨k, by omega, e⟩
        · rw [Int.min_eq_right (by omega)]; exact .inr ⟨m, by omega, rfl⟩
  obtain ⟨h, hh⟩ := Classical.axiomOfChoice (H n (Nat.le_refl _))
  refine ⟨h, fun u v w he => ?_⟩
  obtain ⟨hu, hv, _, _, hw⟩ := hf u v w he
  obtain ⟨_, h2, h3⟩ := hh u
  obtain ⟨_, g2, _⟩ := hh v
  have own : h u ≤ 0 := Int.le_trans (h2 u hu) (reach_ends hf hu (hall u hu)).1.2.2.1
  rcases h3 with h3 | ⟨k, hk, e⟩
  · unfold farD at h3; omega
  · have h5 := (reach_ends hf hk (hall k hk)).2 u v w he (by rw [← e]; unfold farD; omega)
    have := g2 k hk
    omega
def soundN (n : Nat) (E : List Edge) : Bool := (List.range n).all fun k => (reachN n E k).2
theorem soundN_iff {E : List Edge} {n : Nat} (hf : FitM E n 9999) (hn : n ≤ 10) : soundN n E = true ↔ ∃ h : Nat → Int, PotE E h := by
  unfold soundN
  rw [List.all_eq_true]
  constructor
  · intro h
    exact pot_of_reach hf fun k hk => h k (List.mem_range.2 hk)
  · rintro ⟨h, hp⟩ k hk
    exact reach_yes hf hn (List.mem_range.1 hk) hp
/-- The closed table of the claims. -/
structure RiseM (n : Nat) (E : List Edge) (D : List (List Int)) : Prop where
  tab : Tab n n D
  closed : ClosedTo n n D
  le : ∀ i j, i < n → j < n → gM D i j ≤ gM (initM n E) i j
  pot : ∀ g, PotM n (initM n E) g → PotM n D g
theorem RiseM.potE {n : Nat} {E : List Edge} {D : List (List Int)} (h : RiseM n E D) (hf : FitM E n 9999) {k : Nat} (hk : k < n) : PotE E fun v => gM D k v := by
  have hi : PotM n D fun v => gM D k v := fun i j hi hj => by
    have := h.closed k j i hk hj hi
    simp only []; omega
  have h2 : PotM n (initM n E) fun v => gM D k v := fun i j hi' hj => Int.le_trans (hi i j hi' hj) (h.le i j hi' hj)
  exact (((initM_tab hf).2 _).1 h2).2
theorem RiseM.sound {n : Nat} {E : List Edge} {D : List (List Int)} (h : RiseM n E D) (hf : FitM E n 9999) (hn : 1 ≤ n ∧ n ≤ 10) : soundN n E = true :=
  (soundN_iff hf hn.2).2 ⟨_, h.potE hf (show 0 < n by omega)⟩
/-- A mark that is lower than itself: the claims contradict one another. -/
theorem no_sound {n : Nat} {E : List Edge} {X : List (List Int)} (hf : FitM E n 9999) (hn : n ≤ 10) (hp : ∀ g, PotM n (initM n E) g → PotM n X g) {f : Nat} (hff : f < n) (hneg : gM X f f < 0) : soundN n E = false := by
  cases hs : soundN n E with
  | false => rfl
  | true =>
    obtain ⟨h, hh⟩ := (soundN_iff hf hn).1 hs
    obtain ⟨g, g1, g2⟩ := pot_close hf hn hh
    have := hp g (((initM_tab hf).2 g).2 ⟨g2, g1⟩) f f hff hff
    omega
theorem WalkE.trans {E : List Edge} {k u v : Nat} {a b : Int} {l m : Nat} (h1 : WalkE E k u a l) (h2 : WalkE E u v b m) : WalkE E k v (a + b) (l + m) := by
  induction h2 with
  | nil => simpa using h1
  | snoc _ he ih => have := ih.snoc he; rwa [Int.add_assoc, Nat.add_assoc] at this
/-- Where a way leads from each mark to each other one, the table has what the rounds have. -/
theorem RiseM.reach {n : Nat} {E : List Edge} {D : List (List Int)} (h : RiseM n E D) (hf : FitM E n 9999) (hn : 1 ≤ n ∧ n ≤ 10) (hc : ∀ u v, u < n → v < n → ∃ a l, WalkE E u v a l) {k v : Nat} (hk : k < n) (hv : v < n) : gD (reachN n E k).1 v = gM D k v := by
  have hs := (soundN_iff hf hn.2).1 (h.sound hf hn)
  obtain ⟨q, hq⟩ := hs
  obtain ⟨hi, hst⟩ := reach_ends hf hk (reach_yes hf hn.2 hk hq)
  generalize (reachN n E k).1 = o at hi hst
  have hd := h.tab.diag k hk
  have up : ∀ x, x < n → gM D k x ≤ gD o x := fun x hx => by
    by_cases hfar : gD o x < farD
    · obtain ⟨l, hw⟩ := hi.2.1 x hfar
      have := walk_pot (h.potE hf hk) hw
      omega
    · have := h.tab.hi k x hk hx
      unfold farD at hfar
      omega
  have near : ∀ x, x < n → gD o x < farD := fun x hx => by
    obtain ⟨a, l, hw⟩ := hc k x hk hx
    obtain ⟨b, m, hb⟩ := best_of hq hw
    have h1 := best_len hf.fit hk _ _ _ hb
    have := (stable_walk hf.fit (by omega) (by unfold farD; omega) hi hst hb.1 (by omega)).2
    unfold farD; omega
  have hp : PotE E fun x => gD o x := fun a b w he => by
    have := hst a b w he (near a (hf a b w he).1)
    simp only []; omega
  have hp2 : PotM n (initM n E) fun x => gD o x := ((initM_tab hf).2 _).2 ⟨fun i j hi' hj => by
    obtain ⟨a, l, hw⟩ := hc i j hi' hj
    obtain ⟨b, m, hb⟩ := best_of hq hw
    have h1 := best_len hf.fit hi' _ _ _ hb
    have h2 := walk_bd hf.fit hb.1
    have h3 := walk_pot hp hb.1
    omega, hp⟩
  have h1 := h.pot _ hp2 k v hk hv
  have h2 := hi.2.2.1
  have h3 := up v hv
  omega
end Go.Proofs.Ytobpgoiaimlonaa
namespace Go.Proofs.Ytobpgoiaimlonaa
open Go.RowKit

/-- Lies x in a .. b? -/
def inB (x a b : Int) : Bool := decide (a ≤ x) && decide (x ≤ b)
theorem inB_iff {x a b : Int} : inB x a b = true ↔ a ≤ x ∧ x ≤ b := by simp [inB]
theorem inB_not {x a b : Int} : inB x a b = false ↔ ¬ (a ≤ x ∧ x ≤ b) := by rw [← inB_iff]; simp
/-- A sheet's five numbers. -/
structure Sh where
  id : Int
  row : Int
  col : Int
  scale : Int
  year : Int
/-- Is the sheet valid? -/
def Sh.ok (s : Sh) : Bool := inB s.id 1 999 && (inB s.row 0 99 && (inB s.col 0 99 && (inB s.scale 10 500 && inB s.year 1500 2100)))

set_option maxHeartbeats 400000 in
theorem l1In_any (x a b : Int) (w : World) :
    Calls Try.prog 62 #[.int .i64 x, .int .i64 a, .int .i64 b] w fun e w' => e = .returned (.bool (inB x a b)) ∧ w = w' := by
  by_cases h : a ≤ x
  · go_enter Try.func62, Try.ntmps62
    go_wp2
    go_ret
    exact ⟨ret_bool (by simp [inB, h]), rfl⟩
  · go_enter Try.func62, Try.ntmps62
    go_wp2
    go_ret
    exact ⟨ret_bool (by simp [inB]; omega), rfl⟩
theorem bel_alloc1 (w : World) (o : Obj) : Below w.heap.size w (w.alloc o) := (Below.refl _ _).alloc (Nat.le_refl _) o

theorem all_snoc (zs : List Int) (k : Nat) (z lo hi : Int) (h : zs[k]? = some z) : ((zs.take (k + 1)).all fun z => inB z lo hi) = (((zs.take k).all fun z => inB z lo hi) && inB z lo hi) := by
  rw [List.take_add_one, h]; simp
set_option maxHeartbeats 400000 in
/-- Are all numbers of a slice in lo .. hi? -/
theorem areInRange_any (b n c : Nat) (zs : List Int) (lo hi : Int) (w : World) (hn : n = zs.length) (hm : n ≤ 1000000) (hc : ∀ (j : Nat) z, zs[j]? = some z → w.cell? ⟨b, j, none⟩ = some (.int .i64 z)) :
    Calls Try.prog 66 #[.int .i64 lo, .int .i64 hi, .slice (some ⟨b, 0, none⟩) n c] w fun e w' => e = .returned (.bool (zs.all fun z => inB z lo hi)) ∧ w = w' := by
  have C := Lib.hid hc
  have L := Lib.hid hn
  clear hc hn
  go_enter Try.func66, Try.ntmps66
  go_wp2
  go_loop [11, 8] (fun i _ => ∃ k : Nat, k ≤ n ∧ i = .int .i64 k ∧ ((zs.take k).all fun z => inB z lo hi) = true) (fun i _ => n - (intOf i).toNat)
  case atStart => exact ⟨0, Nat.zero_le _, rfl, rfl⟩
  case round =>
    obtain ⟨k, hk, rfl, hall⟩ := hrel
    have H := Lib.hid hall
    clear hall
    by_cases hlt : k < n
    · obtain ⟨z, hz⟩ : ∃ z, zs[k]? = some z := ⟨zs[k]'(by have := L.out; omega), List.getElem?_eq_getElem _⟩
      have hcell := C.out k z hz
      have S := Lib.hid (all_snoc zs k z lo hi hz)
      have T := Lib.hid (List.mem_of_getElem? hz)
      clear hz
      by_cases hin : inB z lo hi = true
      · obtain ⟨h1, h2⟩ := inB_iff.1 hin
        have I := Lib.hid hin
        clear hin
        go_wp2
        go_round
        case rel => exact ⟨k + 1, by omega, by go_num, by rw [S.out, H.out, I.out]; rfl⟩
        case measure => simp [intOf]; omega
      · have hin' : inB z lo hi = false := by simpa using hin
        have h1 := inB_not.1 hin'
        have I := Lib.hid hin'
        have hF : (zs.all fun z => inB z lo hi) = false := by
          rw [List.all_eq_false]; exact ⟨z, T.out, by simp [I.out]⟩
        have F := Lib.hid hF
        clear hin hin' hF
        by_cases h2 : z < lo
        · clear h1
          go_wp2
          go_ret
          exact ⟨ret_bool F.out.symm, rfl⟩
        · have h3 : hi < z := by omega
          clear h1
          go_wp2
          go_ret
          exact ⟨ret_bool F.out.symm, rfl⟩
    · obtain rfl : k = n := by omega
      go_wp2
      go_ret
      exact ⟨ret_bool (by rw [← H.out, List.take_of_length_le (by have := L.out; omega)]), rfl⟩

theorem lit1 (W : World) (x : Int) (t : TypeId) (B : Nat) (hB : W.heap.size = B) : ∀ (j : Nat) z, [x][j]? = some z → (W.alloc (.cells #[.int .i64 x] t)).cell? ⟨B, j, none⟩ = some (.int .i64 z) := by
  intro j z hj
  subst hB
  match j, hj with
  | 0, hj => simp at hj; subst hj; simp [World.cell?_alloc_new]
  | j + 1, hj => simp at hj
theorem lit2 (W : World) (x y : Int) (t : TypeId) (B : Nat) (hB : W.heap.size = B) : ∀ (j : Nat) z, [x, y][j]? = some z → (W.alloc (.cells #[.int .i64 x, .int .i64 y] t)).cell? ⟨B, j, none⟩ = some (.int .i64 z) := by
  intro j z hj
  subst hB
  match j, hj with
  | 0, hj => simp at hj; subst hj; simp [World.cell?_alloc_new]
  | 1, hj => simp at hj; subst hj; simp [World.cell?_alloc_new]
  | j + 2, hj => simp at hj
theorem size_alloc (W : World) (o : Obj) : (W.alloc o).heap.size = W.heap.size + 1 := by
  show (W.heap.push o).size = _
  simp

end Go.Proofs.Ytobpgoiaimlonaa
