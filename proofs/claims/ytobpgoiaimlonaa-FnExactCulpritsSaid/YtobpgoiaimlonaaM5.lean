/- Texts in one: TiedMarksP, Ci5, Open3, IntST, Mat, Rep, Ci6, Ci7. -/
import Derived.Test.YtobpgoiaimlonaaM4
import Derived.Laws.MakeOwn
import Derived.Laws.OwnMore
import Derived.Deep.RegionHeld3
import Derived.Test.YtobpgoiaimlonaaM1
import Derived.Test.YtobpgoiaimlonaaM3
import Derived.Deep.RegionWith
import Derived.Handy
import Derived.Laws.IdiomRangeMap
import Derived.Test.YtobpgoiaimlonaaM2
import Derived.Laws.CopyOwn
import Derived.OwnWalk
import Derived.Shelf.Bits.Mul64
import Derived.StillTailTactics
import Derived.Deep.DeepCutAuto
namespace Go.Proofs.Ytobpgoiaimlonaa
open Go.RowKit
def TiedMarks_Post (z0 : Int) (z1 : List VClaim) (z2 : Int) (w : World) (e : Ending) (w' : World) : Prop :=
  ∃ v0 : Value, e = .returned (.tuple #[v0, .bool (TiedMarks_1 z0 z1 z2)]) ∧ OwnIntS w.heap.size w'.heap.size w' v0 (TiedMarks_0 z0 z1 z2) ∧ Below w.heap.size w w'
end Go.Proofs.Ytobpgoiaimlonaa
namespace Go.Proofs.Ytobpgoiaimlonaa
open Go.RowKit

def boolCells (bs : List Bool) : List Value := bs.map Value.bool
theorem boolCells_len (bs : List Bool) : (boolCells bs).length = bs.length := by simp [boolCells]
theorem boolCells_set (bs : List Bool) (i : Nat) (b : Bool) : (boolCells bs).set i (.bool b) = boolCells (bs.set i b) := by simp [boolCells, List.map_set]
theorem boolCells_at {bs : List Bool} {i : Nat} {b : Bool} (h : bs[i]? = some b) : (boolCells bs)[i]? = some (.bool b) := by simp [boolCells, h]
theorem infoBool : (Try.prog.info? 4).map (fun i => (i.zero, i.size, i.bytes)) = some (some (.bool false), 1, 1) := by kernel_rfl
theorem madeBool (n : Nat) : (madeCells (.bool false : Value).cells (n * 1)).toList = boolCells (List.replicate n false) := by
  apply List.ext_getElem?
  intro j
  rw [Array.getElem?_toList, Nat.mul_one]
  unfold boolCells
  rw [List.getElem?_map]
  by_cases h : j < n
  · simp [madeCells, Value.cells, h, Nat.mod_one]
  · simp [madeCells, h]
def getB (bs : List Bool) (i : Nat) : Bool := bs.getD i false
theorem getB_some {bs : List Bool} {i : Nat} {b : Bool} (h : bs[i]? = some b) : getB bs i = b := by unfold getB; rw [List.getD_eq_getElem?_getD, h]; rfl
theorem getB_at {bs : List Bool} {i : Nat} (h : i < bs.length) : bs[i]? = some (getB bs i) := by
  rw [getB_some (List.getElem?_eq_getElem h)]; exact List.getElem?_eq_getElem h
theorem getB_set (bs : List Bool) (i v : Nat) (b : Bool) (hi : i < bs.length) : getB (bs.set i b) v = if v = i then b else getB bs v := by
  unfold getB
  rw [List.getD_eq_getElem?_getD, List.getD_eq_getElem?_getD]
  by_cases h : v = i
  · subst h; rw [if_pos rfl, List.getElem?_set_self hi]; rfl
  · rw [if_neg h, List.getElem?_set_ne (Ne.symm h)]
theorem mem_numsTo {f : Nat → Bool} {n : Nat} {v : Int} : v ∈ numsTo f n ↔ ∃ i : Nat, i < n ∧ v = (i : Int) ∧ f i = true := by
  induction n with
  | zero => simp [numsTo]
  | succ n ih =>
    rw [numsTo, List.mem_append, ih]
    constructor
    · rintro (⟨i, h1, h2, h3⟩ | h)
      · exact ⟨i, by omega, h2, h3⟩
      · split at h
        · rename_i hf; simp at h; exact ⟨n, by omega, h, hf⟩
        · simp at h
    · rintro ⟨i, h1, h2, h3⟩
      by_cases e : i = n
      · subst e; right; rw [if_pos h3]; simp [h2]
      · left; exact ⟨i, by omega, h2, h3⟩
theorem numsTo_rises (f : Nat → Bool) (n : Nat) : List.Pairwise (· < ·) (numsTo f n) := by
  induction n with
  | zero => simp [numsTo]
  | succ n ih =>
    rw [numsTo, List.pairwise_append]
    refine ⟨ih, by split <;> simp, fun a ha b hb => ?_⟩
    obtain ⟨i, h1, h2, _⟩ := mem_numsTo.1 ha
    split at hb
    · simp at hb; omega
    · simp at hb
/-- How many of a row's marks are not taken yet. -/
def falseIn (w : World) (g : Nat) : Nat → Nat
  | 0 => 0
  | k + 1 => falseIn w g k + (match w.cell? ⟨g, k, none⟩ with | some (.bool false) => 1 | _ => 0)
def falseB (bs : List Bool) : Nat → Nat
  | 0 => 0
  | k + 1 => falseB bs k + (if getB bs k = true then 0 else 1)
theorem falseIn_is {w : World} {base g n c : Nat} {bs : List Bool} (h : w.ownsRow base 4 1 (.slice (some ⟨g, 0, none⟩) n c) n (boolCells bs)) (hl : bs.length = n) : ∀ k, k ≤ n → falseIn w g k = falseB bs k := by
  intro k
  induction k with
  | zero => intro _; rfl
  | succ k ih =>
    intro hk
    have c := h.cells (g := g) rfl k _ (boolCells_at (getB_at (show k < bs.length by omega)))
    rw [add_plain, Nat.zero_add] at c
    rw [falseIn, falseB, ih (by omega), c]
    cases getB bs k <;> rfl
theorem falseB_le {bs cs : List Bool} (h : ∀ i, getB bs i = true → getB cs i = true) : ∀ k, falseB cs k ≤ falseB bs k := by
  intro k
  induction k with
  | zero => exact Nat.le_refl _
  | succ k ih =>
    rw [falseB, falseB]
    have := h k
    split
    · omega
    · rename_i hc
      rw [if_neg (fun hb => hc (this hb))]
      omega
theorem falseB_lt {bs cs : List Bool} (h : ∀ i, getB bs i = true → getB cs i = true) {j : Nat} (h0 : getB bs j = false) (h1 : getB cs j = true) : ∀ k, j < k → falseB cs k < falseB bs k := by
  intro k
  induction k with
  | zero => intro hk; omega
  | succ k ih =>
    intro hk
    rw [falseB, falseB]
    by_cases e : j = k
    · subst e
      have := falseB_le h j
      rw [if_pos h1, if_neg (by rw [h0]; simp)]
      omega
    · have h2 := ih (by omega)
      have h3 := h k
      split
      · omega
      · rename_i hc
        rw [if_neg (fun hb => hc (h3 hb))]
        omega
/-- What the row of marks is on the way. -/
def TieRow (n : Nat) (xs : List VClaim) (k : Nat) (bs : List Bool) : Prop := bs.length = n ∧ getB bs k = true ∧ ∀ v : Nat, getB bs v = true → v < n → ConnP (prsC xs) (k : Int) (v : Int)
theorem TieRow.end {n : Nat} {xs : List VClaim} {k : Nat} {bs : List Bool} (hc : areCl (n : Int) xs = true) (hk : k < n) (h : TieRow n xs k bs) (hcl : ∀ x ∈ xs, getB bs x.Low.toNat = getB bs x.High.toNat) : numsTo (getB bs) n = tiedL n (prsC xs) (k : Int) := by
  refine tiedL_unique (areCl_prs hc) (by omega) (numsTo_rises _ _) (fun v hv => ?_) (mem_numsTo.2 ⟨k, hk, rfl, h.2.1⟩) (fun a b hab => ?_)
  · obtain ⟨i, h1, rfl, h3⟩ := mem_numsTo.1 hv
    exact h.2.2 i h3 h1
  · obtain ⟨x, hx, e⟩ := List.mem_map.1 hab
    injection e with e1 e2
    subst e1 e2
    obtain ⟨a0, a1, b0, b1, _⟩ := clB_iff.1 ((areCl_iff.1 hc).1 x hx)
    have := hcl x hx
    constructor
    · intro hm
      obtain ⟨i, h1, h2, h3⟩ := mem_numsTo.1 hm
      refine mem_numsTo.2 ⟨x.High.toNat, by omega, by omega, ?_⟩
      rw [← this, show x.Low.toNat = i by omega]; exact h3
    · intro hm
      obtain ⟨i, h1, h2, h3⟩ := mem_numsTo.1 hm
      refine mem_numsTo.2 ⟨x.Low.toNat, by omega, by omega, ?_⟩
      rw [this, show x.High.toNat = i by omega]; exact h3
/-- A claim of which one mark is taken takes the other one. -/
theorem TieRow.more {n : Nat} {xs : List VClaim} {k : Nat} {bs : List Bool} (h : TieRow n xs k bs) {x : VClaim} (hx : x ∈ xs) {lo hi : Nat} (el : x.Low = (lo : Int)) (eh : x.High = (hi : Int)) (hl : lo < n) (hh : hi < n) (hne : getB bs lo ≠ getB bs hi) : TieRow n xs k ((bs.set lo true).set hi true) ∧ falseB ((bs.set lo true).set hi true) n < falseB bs n := by
  have at' : ∀ v, getB ((bs.set lo true).set hi true) v = if v = hi then true else if v = lo then true else getB bs v := fun v => by
    rw [getB_set _ _ _ _ (by rw [List.length_set, h.1]; exact hh), getB_set _ _ _ _ (by rw [h.1]; exact hl)]
  have mem : ((lo : Int), (hi : Int)) ∈ prsC xs := List.mem_map.2 ⟨x, hx, by rw [el, eh]⟩
  have both : ConnP (prsC xs) (k : Int) (lo : Int) ∧ ConnP (prsC xs) (k : Int) (hi : Int) := by
    cases e1 : getB bs lo with
    | true => have := h.2.2 lo e1 hl; exact ⟨this, this.fwd mem⟩
    | false =>
      cases e2 : getB bs hi with
      | true => have := h.2.2 hi e2 hh; exact ⟨this.bwd mem, this⟩
      | false => rw [e1, e2] at hne; exact absurd rfl hne
  have grow : ∀ i, getB bs i = true → getB ((bs.set lo true).set hi true) i = true := fun i hi' => by
    rw [at']; split
    · rfl
    · split
      · rfl
      · exact hi'
  refine ⟨⟨by rw [List.length_set, List.length_set, h.1], grow k h.2.1, fun v hv hvn => ?_⟩, ?_⟩
  · rw [at'] at hv
    split at hv
    · rename_i e; subst e; exact both.2
    · split at hv
      · rename_i e; subst e; exact both.1
      · exact h.2.2 v hv hvn
  · cases e1 : getB bs lo with
    | false => exact falseB_lt grow e1 (by rw [at']; split <;> simp) n hl
    | true =>
      cases e2 : getB bs hi with
      | true => rw [e1, e2] at hne; exact absurd rfl hne
      | false => exact falseB_lt grow e2 (by rw [at', if_pos rfl]) n hh
theorem take_tie {α : Type} {P : α → Prop} {xs : List α} {k : Nat} {s : α} (h : ∀ m ∈ xs.take k, P m) (hs : xs[k]? = some s) (hp : P s) : ∀ m ∈ xs.take (k + 1), P m := by
  intro m hm
  rw [List.take_add_one, hs, List.mem_append] at hm
  rcases hm with hm | hm
  · exact h m hm
  · simp at hm; subst hm; exact hp
set_option maxHeartbeats 6400000 in
set_option maxRecDepth 100000 in
theorem tiesOf_any (n k : Nat) (a : Option Addr) (len cap : Nat) (xs : List VClaim) (w : World) (h : IsClaimS w a len cap xs) (hc : areCl (n : Int) xs = true) (hk : k < n) :
    Calls Try.prog 70 #[.int .i64 (n : Int), .slice a len cap, .int .i64 (k : Int)] w fun e w' => ∃ bs : List Bool, e = .returned (.slice (some ⟨w.heap.size, 0, none⟩) n n) ∧ bs.length = n ∧ numsTo (getB bs) n = tiedL n (prsC xs) (k : Int) ∧ w'.ownsRow w.heap.size 4 1 (.slice (some ⟨w.heap.size, 0, none⟩) n n) n (boolCells bs) ∧ Below w.heap.size w w' := by
  have hm := h.2.2.1
  have hcl := h.2.1
  unfold maxLen at hm
  obtain rfl := h.1
  obtain ⟨i0, hi, hz0, hz1, hz2⟩ := info_parts infoBool
  have hn := (areCl_iff.1 hc).2.1
  have S := Lib.hid h
  have C := Lib.hid hc
  have hk0 : (0 : Int) ≤ (k : Int) := by omega
  have hk1 : (k : Int) < (n : Int) := by omega
  clear h hc
  go_enter Try.func70, Try.ntmps70
  go_wp2
  go_step3
  go_wp2_with (refine wpList_make_full _ rfl _ _ 81 rfl w.heap.size 4 i0 (.bool false) 1 Try.underlying81 hi hz0 hz1 .i64 .i64 _ _ n rfl rfl rfl rfl (by rw [hz2]; omega) (by unfold maxLen; omega) (Nat.le_refl _) ?_; intro w1 hown hgrow; have f0 := hown.frozenAt k; obtain ⟨u0, d0⟩ := own_cell hown k (by simp [madeCells, Value.cells]; omega); have O1 := Lib.hid hown; have B1 := Lib.hid ((Below.refl w.heap.size w).grown hgrow (Nat.le_refl _) (fun k e => by cases e)); clear hown hgrow)
  have st := O1.out.stored k (.bool true)
  have O2 := Lib.hid (show (w1.setCell ⟨w.heap.size, k, none⟩ (.bool true)).ownsRow w.heap.size 4 1 (.slice (some ⟨w.heap.size, 0, none⟩) n n) n (boolCells ((List.replicate n false).set k true)) from by
    have h1 := st.1
    rw [madeBool, boolCells_set] at h1
    exact h1)
  have B2 := Lib.hid (B1.out.grown st.2 B1.out.size (fun j e => by cases e; exact Nat.le_refl _))
  have R0 := Lib.hid (show TieRow n xs k ((List.replicate n false).set k true) from by
    refine ⟨by simp, by rw [getB_set _ _ _ _ (by simpa using hk), if_pos rfl], fun v hv hvn => ?_⟩
    rw [getB_set _ _ _ _ (by simpa using hk)] at hv
    split at hv
    · rename_i e; subst e; exact .nil
    · rw [getB_some (b := false) (by simp [hvn])] at hv; cases hv)
  clear st f0 d0
  go_step3
  go_wp2
  go_loopw [17] (fun _ wr => ∃ bs : List Bool, TieRow n xs k bs ∧ wr.ownsRow w.heap.size 4 1 (.slice (some ⟨w.heap.size, 0, none⟩) n n) n (boolCells bs) ∧ Below w.heap.size w wr) (fun _ wr => falseIn wr w.heap.size n)
  case atStart => exact ⟨_, R0.out, O2.out, B2.out⟩
  case round =>
    obtain ⟨bs, hrow, hown, hbel⟩ := hrel
    have R := Lib.hid hrow
    have O := Lib.hid hown
    have B := Lib.hid hbel
    have M := Lib.hid (falseIn_is hown hrow.1 n (Nat.le_refl _))
    clear hrow hown hbel
    go_wp2
    rename World => wq
    go_loopw [17] (fun i wr => ∃ t : Nat, t ≤ xs.length ∧ i = .int .i64 t ∧ (∀ x ∈ xs.take t, getB bs x.Low.toNat = getB bs x.High.toNat) ∧ wr.ownsRow w.heap.size 4 1 (.slice (some ⟨w.heap.size, 0, none⟩) n n) n (boolCells bs) ∧ Below w.heap.size w wr) (fun i _ => xs.length - (intOf i).toNat)
    case atStart => exact ⟨0, Nat.zero_le _, rfl, by simp, O.out, B.out⟩
    case round =>
      obtain ⟨t, ht, rfl, hall, hown, hbel⟩ := hrel
      have A := Lib.hid hall
      have O1' := Lib.hid hown
      have B1' := Lib.hid hbel
      by_cases hlt : t < xs.length
      · obtain ⟨x, hx⟩ : ∃ x, xs[t]? = some x := ⟨xs[t]'hlt, List.getElem?_eq_getElem _⟩
        obtain ⟨b, o, rfl, hbw, hat⟩ := (S.out.below hbel).at (by omega)
        obtain ⟨c0, c1, c2, c3⟩ := hat t x hx
        obtain ⟨q1, q2, q3, q4, _⟩ := clB_iff.1 ((areCl_iff.1 C.out).1 x (List.mem_of_getElem? hx))
        obtain ⟨lo, el⟩ : ∃ lo : Nat, x.Low = (lo : Int) := ⟨x.Low.toNat, by omega⟩
        obtain ⟨hi', eh⟩ : ∃ hi' : Nat, x.High = (hi' : Int) := ⟨x.High.toNat, by omega⟩
        have b1 : lo < n := by omega
        have b2 : hi' < n := by omega
        have K := Lib.hid hx
        have XL := Lib.hid el
        have XH := Lib.hid eh
        have EL := Lib.hid (show x.Low.toNat = lo by omega)
        have EH := Lib.hid (show x.High.toNat = hi' by omega)
        obtain ⟨g1, hg1⟩ : ∃ g, getB bs lo = g := ⟨_, rfl⟩
        obtain ⟨g2, hg2⟩ : ∃ g, getB bs hi' = g := ⟨_, rfl⟩
        have G1 := Lib.hid hg1
        have G2 := Lib.hid hg2
        have i0' : (0 : Int) ≤ (t : Int) := by omega
        have i1' : (t : Int) < (xs.length : Int) := by omega
        have j0 : (0 : Int) ≤ (lo : Int) := by omega
        have j1 : (lo : Int) < (n : Int) := by omega
        have j2 : (0 : Int) ≤ (hi' : Int) := by omega
        have j3 : (hi' : Int) < (n : Int) := by omega
        have bx := bel_al1 wr (.cells #[.int .i64 x.Low, .int .i64 x.High, .int .i64 x.Least, .int .i64 x.Most] 38)
        have OX := ownsRow_below hown bx
        have BX := Below.then' hbel bx
        have XX := BoxClaim.new wr 38 x _ rfl
        have HLT := Lib.hid (show w.heap.size < wr.heap.size from (hown.lt w.heap.size rfl).2)
        clear hall hown hbel hx hat q1 q2 q3 q4 hg1 hg2 bx el eh
        go_wp2
        refine wp_world (fun W => W.ownsRow w.heap.size 4 1 (.slice (some ⟨w.heap.size, 0, none⟩) n n) n (boolCells bs) ∧ Below w.heap.size w W ∧ BoxClaim W wr.heap.size x) ⟨OX, BX, XX⟩ ?_
        clear OX BX XX c0 c1 c2 c3
        rintro W ⟨ho, hbw, hxw⟩
        have XW := Lib.hid hxw
        obtain ⟨c0, c1, c2, c3⟩ := hxw
        rw [XL.out] at c0
        rw [XH.out] at c1
        have OW := Lib.hid ho
        have BW := Lib.hid hbw
        have cU := ho.cells (g := w.heap.size) rfl lo _ (boolCells_at (getB_at (show lo < bs.length by have := R.out.1; omega)))
        have cV := ho.cells (g := w.heap.size) rfl hi' _ (boolCells_at (getB_at (show hi' < bs.length by have := R.out.1; omega)))
        rw [add_plain, Nat.zero_add, G1.out] at cU
        rw [add_plain, Nat.zero_add, G2.out] at cV
        clear ho hbw
        go_quiet (fail)
        clear c0 c1 c2 c3 cU cV
        have bd := bel_drawn W nq
        have O3 := Lib.hid (ownsRow_below OW.out bd)
        have B3 := Lib.hid (Below.then' BW.out bd)
        have X3 := Lib.hid (XW.out.below bd)
        revert O3 B3 X3
        generalize W.drewN nq = W3
        intro O3 B3 X3
        clear OW BW XW bd
        by_cases he : g1 = g2
        · subst he
          have NX := Lib.hid (take_tie A.out K.out (show getB bs x.Low.toNat = getB bs x.High.toNat from by rw [EL.out, EH.out]; exact G1.out.trans G2.out.symm))
          cases g1
          · go_wp2
            go_roundw
            case rel => exact ⟨t + 1, by omega, by go_num, NX.out, O3.out, B3.out⟩
            case measure => simp [intOf]; omega
          · go_wp2
            go_roundw
            case rel => exact ⟨t + 1, by omega, by go_num, NX.out, O3.out, B3.out⟩
            case measure => simp [intOf]; omega
        · have hlh : ¬ lo = hi' := fun e => by have h1 := G1.out; have h2 := G2.out; rw [e, h2] at h1; exact he h1.symm
          have NE := Lib.hid (R.out.more (List.mem_of_getElem? K.out) XL.out XH.out b1 b2 (by rw [G1.out, G2.out]; exact he))
          have cU := O3.out.cells (g := w.heap.size) rfl lo _ (boolCells_at (getB_at (show lo < bs.length by have := R.out.1; omega)))
          have cV := O3.out.cells (g := w.heap.size) rfl hi' _ (boolCells_at (getB_at (show hi' < bs.length by have := R.out.1; omega)))
          rw [add_plain, Nat.zero_add, G1.out] at cU
          rw [add_plain, Nat.zero_add, G2.out] at cV
          have f0 := O3.out.frozenAt lo
          have f1 := O3.out.frozenAt hi'
          obtain ⟨c0, c1, c2, c3⟩ := X3.out
          rw [XL.out] at c0
          rw [XH.out] at c1
          have hne1 : ¬ wr.heap.size = w.heap.size := by have := HLT.out; omega
          have hne2 : ¬ w.heap.size = wr.heap.size := by have := HLT.out; omega
          have ST := Lib.hid (show ∃ W5, W5 = ((W3.setCell ⟨w.heap.size, lo, none⟩ (.bool true)).setCell ⟨w.heap.size, hi', none⟩ (.bool true)).drew ∧ W5.ownsRow w.heap.size 4 1 (.slice (some ⟨w.heap.size, 0, none⟩) n n) n (boolCells ((bs.set lo true).set hi' true)) ∧ Below w.heap.size w W5 from by
            have s1 := O3.out.stored lo (.bool true)
            rw [boolCells_set] at s1
            have s2 := s1.1.stored hi' (.bool true)
            rw [boolCells_set] at s2
            have h1 := B3.out.grown s1.2 B3.out.size (fun j e => by cases e; exact Nat.le_refl _)
            exact ⟨_, rfl, s2.1, bel_drew' (h1.grown s2.2 h1.size (fun j e => by cases e; exact Nat.le_refl _))⟩)
          have GT : (g1 = true ∧ g2 = false) ∨ (g1 = false ∧ g2 = true) := by cases g1 <;> cases g2 <;> simp_all
          rcases GT with ⟨rfl, rfl⟩ | ⟨rfl, rfl⟩
          · go_wp2
            go_region_held3 (fun w' => w'.cell? ⟨wr.heap.size, 0, none⟩ = some (.int .i64 (lo : Int)) ∧ w'.cell? ⟨wr.heap.size, 1, none⟩ = some (.int .i64 (hi' : Int))) (go_keep) (fail)
            all_goals
              obtain ⟨W5, hw5, o5, b5⟩ := ST.out
              rw [← hw5]
              have O5 := Lib.hid o5
              have B5 := Lib.hid b5
              have L5 := Lib.hid (falseIn_is o5 NE.out.1.1 n (Nat.le_refl _))
              clear hw5 o5 b5 cU cV f0 f1 c0 c1 c2 c3
              go_wp2
              go_roundw
              all_goals first | exact ⟨_, NE.out.1, O5.out, B5.out⟩ | (have h1 := L5.out; have h2 := M.out; have h3 := NE.out.2; omega)
          · go_wp2
            go_region_held3 (fun w' => w'.cell? ⟨wr.heap.size, 0, none⟩ = some (.int .i64 (lo : Int)) ∧ w'.cell? ⟨wr.heap.size, 1, none⟩ = some (.int .i64 (hi' : Int))) (go_keep) (fail)
            all_goals
              obtain ⟨W5, hw5, o5, b5⟩ := ST.out
              rw [← hw5]
              have O5 := Lib.hid o5
              have B5 := Lib.hid b5
              have L5 := Lib.hid (falseIn_is o5 NE.out.1.1 n (Nat.le_refl _))
              clear hw5 o5 b5 cU cV f0 f1 c0 c1 c2 c3
              go_wp2
              go_roundw
              all_goals first | exact ⟨_, NE.out.1, O5.out, B5.out⟩ | (have h1 := L5.out; have h2 := M.out; have h3 := NE.out.2; omega)
      · obtain rfl : t = xs.length := by omega
        have CLO := Lib.hid (R.out.end C.out hk (by have h := A.out; rw [List.take_of_length_le (Nat.le_refl _)] at h; exact h))
        clear hall hown hbel
        go_wp2
        first | (rw [Exit.noGoto_ret]; go_ret) | go_ret
        exact ⟨bs, rfl, R.out.1, CLO.out, O1'.out, B1'.out⟩
set_option maxHeartbeats 1600000 in
theorem isTied_any (bx n : Nat) (g : Nat) (base : Nat) (bs : List Bool) (i : Nat) (w : World) (hx : w.cell? ⟨bx, 0, none⟩ = some (.slice (some ⟨g, 0, none⟩) n n)) (hown : w.ownsRow base 4 1 (.slice (some ⟨g, 0, none⟩) n n) n (boolCells bs)) (hl : bs.length = n) (hi : i < n) :
    Calls Try.prog 71 #[.int .i64 (i : Int), .pointer (some ⟨bx, 0, none⟩)] w fun e w' => e = .returned (.bool (getB bs i)) ∧ Below w.heap.size w w' := by
  have c := hown.cells (g := g) rfl i _ (boolCells_at (getB_at (show i < bs.length by omega)))
  rw [add_plain, Nat.zero_add] at c
  have i0 : (0 : Int) ≤ (i : Int) := by omega
  have i1 : (i : Int) < (n : Int) := by omega
  clear hown
  go_enter Try.func71, Try.ntmps71
  go_wp2
  go_ret
  exact ⟨rfl, Below.refl _ _⟩
set_option maxHeartbeats 6400000 in
set_option maxRecDepth 100000 in
theorem implTiedMarks_any (n : Int) (a : Option Addr) (len cap : Nat) (xs : List VClaim) (k : Int) (w : World) (h : IsClaimS w a len cap xs) :
    Calls Try.prog 28 #[.int .i64 n, .slice a len cap, .int .i64 k] w (TiedMarks_Post n xs k w) := by
  have S := Lib.hid h
  clear h
  obtain ⟨p, hp⟩ : ∃ p, areCl n xs = p := ⟨_, rfl⟩
  obtain ⟨q, hq⟩ : ∃ q, inB k 0 (n - 1) = q := ⟨_, rfl⟩
  have PP := Lib.hid hp
  have QQ := Lib.hid hq
  have TB := Lib.hid (show tieB n xs k = (p && q) from by
    unfold tieB; rw [hp, ← hq]; congr 1; unfold inB; congr 1
    rw [decide_eq_decide]; omega)
  clear hp hq
  go_enter Try.func28, Try.ntmps28
  go_wp2_with fail
  refine (implAreClaims_any n _ _ _ xs _ S.out).mono ?_
  rintro e w1 ⟨rfl, hb⟩
  rw [show AreClaims_0 n xs = p from PP.out]
  have B1 := Lib.hid hb
  have S1 := Lib.hid (S.out.below hb)
  clear hb
  cases p
  · have E0 := Lib.hid (show TiedMarks_0 n xs k = [] from by unfold TiedMarks_0; rw [TB.out]; rfl)
    have E1 := Lib.hid (show TiedMarks_1 n xs k = false from by unfold TiedMarks_1; rw [TB.out]; rfl)
    go_wp2
    go_ret2
    exact ⟨_, by rw [E1.out]; rfl, by rw [E0.out]; exact nil_OwnIntS _ _ _, B1.out⟩
  have hn := (areCl_iff.1 PP.out).2.1
  have v1 : IntKind.i64.wrap (n - 1) = n - 1 := IntWalk.i64_in _ (by omega)
  go_wp2_with fail
  refine (areC1 0 (n - 1) k _ _ _ (by simp)).mono ?_
  rintro e w2 ⟨rfl, hw⟩
  rw [QQ.out]
  have ba := bel_al1 w1 (.cells #[.int .i64 k] 3)
  rw [hw] at ba
  have B2 := Lib.hid (Below.then' B1.out ba)
  have S2 := Lib.hid (S1.out.below ba)
  clear hw ba
  cases q
  · have E0 := Lib.hid (show TiedMarks_0 n xs k = [] from by unfold TiedMarks_0; rw [TB.out]; rfl)
    have E1 := Lib.hid (show TiedMarks_1 n xs k = false from by unfold TiedMarks_1; rw [TB.out]; rfl)
    go_wp2
    go_ret2
    exact ⟨_, by rw [E1.out]; rfl, by rw [E0.out]; exact nil_OwnIntS _ _ _, B2.out⟩
  have hk := inB_iff.1 QQ.out
  obtain ⟨j, rfl⟩ : ∃ j : Nat, n = (j : Int) := ⟨n.toNat, by omega⟩
  obtain ⟨i, rfl⟩ : ∃ i : Nat, k = (i : Int) := ⟨k.toNat, by omega⟩
  have hij : i < j := by omega
  have hj10 : j ≤ 1000000 := by omega
  have E0 := Lib.hid (show TiedMarks_0 (j : Int) xs (i : Int) = tiedL j (prsC xs) (i : Int) from by unfold TiedMarks_0; rw [TB.out]; rfl)
  have E1 := Lib.hid (show TiedMarks_1 (j : Int) xs (i : Int) = true from by unfold TiedMarks_1; rw [TB.out]; rfl)
  clear v1
  go_wp2_with fail
  refine (tiesOf_any j i _ _ _ xs _ S2.out PP.out hij).mono ?_
  rintro e w3 ⟨bs, rfl, hl, hnum, hown, hb⟩
  have B3 := Lib.hid (Below.then' B2.out hb)
  have bx := bel_al1 w3 (.cells #[.slice (some ⟨w2.heap.size, 0, none⟩) j j] 81)
  have XB := Lib.hid (cell_box w3 (.slice (some ⟨w2.heap.size, 0, none⟩) j j) 81 _ rfl)
  have OB := Lib.hid (ownsRow_below hown bx)
  have B4 := Lib.hid (Below.then' B3.out bx)
  have NUM := Lib.hid hnum
  clear hnum hown hb bx
  go_wp2_with fail
  refine (numbersWhere_any j hj10 71 #[.pointer (some ⟨w3.heap.size, 0, none⟩)] (getB bs) _ (enters_fn' Try.func71 (by kernel_rfl) (by kernel_rfl)) (fun W t ht hW => by
    have h1 := isTied_any w3.heap.size j w2.heap.size _ bs t W (cell_stay XB.out hW) (ownsRow_below OB.out hW) hl ht
    simpa using h1)).mono ?_
  rintro e w5 ⟨v, rfl, hown, hb⟩
  rw [NUM.out] at hown
  have B5 := Lib.hid (Below.then' B4.out hb)
  have O := Lib.hid (show OwnIntS w.heap.size w5.heap.size w5 v (tiedL j (prsC xs) (i : Int)) from OwnIn.of_row (ownsRow_base hown B4.out.size) (Nat.le_refl _) (Nat.le_refl _))
  clear hown hb
  go_wp2
  go_ret2
  exact ⟨_, by rw [E1.out]; rfl, by rw [E0.out]; exact O.out, B5.out⟩
end Go.Proofs.Ytobpgoiaimlonaa
namespace Go.Proofs.Ytobpgoiaimlonaa
open Go.RowKit Go.ChangeShapes Go.WideShapes Go.Deep

section
variable {H : Type} {enc : TypeId × Value → H} {P : Program} {w : World} {base : Nat} {spare : Nat → Bool} {held : Bool}
/-- A cell that reads as a slice of integers. -/
theorem trod_ints {t e : TypeId} {fuel : Nat} {c : Value} {x : DataW H × List MemPlace} (ht : P.underlying t = some (.slice e)) (he : P.underlying e = some (.int .i64)) (hC : P.cellsOf e = 1) (h : DataW.trod enc P w base (fun _ => true) held fuel t [c] = some x) :
    ∃ (hd : Hd) (zs : List Int), c = .slice hd.a hd.n hd.c ∧ IsInts w hd.a hd.n hd.c zs := by
  rcases open_slice ht h with ⟨hcs, _⟩ | ⟨y, l, cp, m, n, D, Pl, hcs, hb, hl, hm, hmm, _, hi⟩
  · refine ⟨⟨none, 0, 0⟩, [], by simpa using hcs, rfl, Nat.le_refl _, by simp [maxLen], .inl rfl⟩
  · simp at hmm
    subst hmm
    have hc : c = .slice (some y) l m := by simpa using hcs
    subst hc
    obtain ⟨b, o, spot⟩ := y
    have each : ∀ i, i < l → ∃ z : Int, w.cell? ((⟨b, o, spot⟩ : Addr).add i) = some (.int .i64 z) := by
      intro i hlt
      obtain ⟨cs', hc, ht'⟩ := hi i (by omega)
      rw [hC] at hc
      obtain ⟨_, hcl, hat⟩ := World.cells?_some hc
      obtain ⟨z, hz, _⟩ := DataW.trod_int he ht'
      refine ⟨z, ?_⟩
      have h1 := hat 0 (by omega)
      rw [hz] at h1
      rw [Nat.mul_one] at h1
      rw [Go.Deep.add_add] at h1
      simpa using h1
    by_cases h0 : l = 0
    · exact ⟨⟨some ⟨b, o, spot⟩, l, m⟩, [], rfl, by simpa using h0, hl, hm, .inl h0⟩
    · obtain ⟨z0, h1⟩ := each 0 (by omega)
      have hspot : spot = none := by simpa [Addr.add] using World.cell?_spot h1
      subst hspot
      obtain ⟨f, hf⟩ := Classical.axiomOfChoice (r := fun (i : Fin l) (z : Int) => w.cell? ((⟨b, o, none⟩ : Addr).add i.1) = some (.int .i64 z)) (fun i => each i.1 i.2)
      refine ⟨⟨some ⟨b, o, none⟩, l, m⟩, (List.finRange l).map f, rfl, by simp, hl, hm, .inr ⟨b, o, rfl, ?_, fun k z hz => ?_⟩⟩
      · rw [add_plain] at h1
        exact World.lt_of_cell h1
      · obtain ⟨hk, e2⟩ := List.getElem?_eq_some_iff.1 hz
        have hk' : k < l := by simpa using hk
        simp at e2
        subst e2
        have := hf ⟨k, hk'⟩
        rw [add_plain] at this
        exact this
/-- Each field of a struct that reads, reads. -/
theorem cells_trod {e : TypeId} {fs : Array Field} {fuel : Nat} {cs : List Value} {x : DataW H × List MemPlace} (he : P.underlying e = some (.struct fs)) (hone : oneCellFields P fs = true) (hsz : cs.length = fs.size)
    (h : DataW.trod enc P w base spare held fuel e cs = some x) : ∀ (j : Nat) (f : Field), fs[j]? = some f → ∃ c n y, cs[j]? = some c ∧ DataW.trod enc P w base spare held n f.type [c] = some y := by
  obtain ⟨ys, n, _, _, _, hyl, hf⟩ := DataW.trod_struct he h
  intro j f hj'
  have hj : j < fs.size := (Array.getElem?_eq_some_iff.1 hj').1
  obtain ⟨ho, hk⟩ := hone_of hone j _ hj'
  have h1 := hf j _ hj'
  rw [ho, hk] at h1
  have hone' : (cs.drop j).take 1 = [cs[j]'(by omega)] := by
    rw [List.drop_eq_getElem_cons (by omega)]
    rfl
  rw [hone'] at h1
  have hys : ys[j]? = some (ys[j]'(by omega)) := List.getElem?_eq_getElem (by omega)
  exact ⟨cs[j]'(by omega), _, _, List.getElem?_eq_getElem (by omega), h1.trans hys⟩
theorem open_trod_struct {r : Reach} {b0 : Nat} {t : TypeId} {fs : Array Field} {v : Value} {d : DataW H} {p : List MemPlace} (hs : P.underlying t = some (.struct fs)) (hone : oneCellFields P fs = true) (hC : P.cellsOf t = fs.size)
    (hv : Value.okWide P w r b0 t v) (h : DataW.Trod enc P w base spare held t v d p) : ∃ cs : List Value, v = .agg cs.toArray ∧ cs.length = fs.size ∧ ∀ (j : Nat) (f : Field), fs[j]? = some f → ∃ c n y, cs[j]? = some c ∧ DataW.trod enc P w base spare held n f.type [c] = some y := by
  obtain ⟨cs, rfl, hsz⟩ := okWide_struct hs hv
  obtain ⟨fuel, hf⟩ := h
  obtain ⟨l⟩ := cs
  have hl : l.length = fs.size := by simpa using hsz.trans hC
  exact ⟨l, rfl, hl, cells_trod hs hone hl (by simpa [Value.cells] using hf)⟩
theorem open_trod_structs {t e : TypeId} {fs : Array Field} {fuel : Nat} {a : Option Addr} {len cap : Nat} {x : DataW H × List MemPlace} (ht : P.underlying t = some (.slice e)) (he : P.underlying e = some (.struct fs))
    (hone : oneCellFields P fs = true) (hC : P.cellsOf e = fs.size) (hpos : 0 < fs.size) (h : DataW.trod enc P w base (fun _ => true) held fuel t (Value.slice a len cap).cells.toList = some x) :
    (a = none ∧ len = 0 ∧ cap = 0) ∨ ∃ (b o : Nat), (len = 0 ∨ a = some ⟨b, o, none⟩) ∧ len ≤ cap ∧ cap ≤ maxLen ∧ (0 < len → b < w.heap.size) ∧ ∀ i, i < len → ∀ (j : Nat) (f : Field), fs[j]? = some f → ∃ c n y, w.cell? ⟨b, o + (i * fs.size + j), none⟩ = some c ∧ DataW.trod enc P w base (fun _ => true) held n f.type [c] = some y := by
  rcases open_slice ht h with ⟨hcs, _⟩ | ⟨y, l, c, m, n, D, Pl, hcs, hb, hl, hm, hmm, _, hi⟩
  · simp [Value.cells] at hcs
    exact .inl hcs
  · right
    simp [Value.cells] at hcs
    obtain ⟨rfl, rfl, rfl⟩ := hcs
    simp at hmm
    subst hmm
    obtain ⟨b, o, spot⟩ := y
    have each : ∀ i, i < len → ∀ (j : Nat) (f : Field), fs[j]? = some f → ∃ c n y, w.cell? ((⟨b, o, spot⟩ : Addr).add (i * fs.size + j)) = some c ∧ DataW.trod enc P w base (fun _ => true) held n f.type [c] = some y := by
      intro i hlt j f hf
      obtain ⟨cs', hc, ht'⟩ := hi i (by omega)
      rw [hC] at hc
      obtain ⟨_, hcl, hat⟩ := World.cells?_some hc
      obtain ⟨c, n, y, h1, h2⟩ := cells_trod he hone hcl ht' j f hf
      refine ⟨c, n, y, ?_, h2⟩
      have hj : j < fs.size := (Array.getElem?_eq_some_iff.1 hf).1
      rw [← Go.Deep.add_add, hat j hj]
      exact h1
    by_cases h0 : len = 0
    · exact ⟨b, o, .inl h0, hl, hm, by omega, by omega⟩
    · obtain ⟨c0, _, _, h1, _⟩ := each 0 (by omega) 0 fs[0] (Array.getElem?_eq_getElem hpos)
      have hspot : spot = none := by simpa [Addr.add] using World.cell?_spot h1
      subst hspot
      refine ⟨b, o, .inr rfl, hl, hm, fun _ => ?_, fun i hi j f hf => ?_⟩
      · rw [add_plain] at h1
        exact World.lt_of_cell h1
      · obtain ⟨c, n, y, h1, h2⟩ := each i hi j f hf
        rw [add_plain] at h1
        exact ⟨c, n, y, h1, h2⟩
end
end Go.Proofs.Ytobpgoiaimlonaa
namespace Go.Proofs.Ytobpgoiaimlonaa
open Go.RowKit Go.ChangeShapes Go.WideShapes Go.Deep

abbrev VIntS := List Int
/-- Its value and where its slice lies. -/
structure PIntS where
  x : VIntS
  h : Hd
def PIntS.vals (p : PIntS) : List Value := [.slice p.h.a p.h.n p.h.c]
theorem PIntS.vals_len (p : PIntS) : p.vals.length = 1 := rfl
theorem PIntS.vals_one (p : PIntS) : ∀ u ∈ p.vals, u.oneCell' = true := by
  intro u hu
  simp [PIntS.vals] at hu
  rcases hu with rfl <;> rfl
/-- It lies at block b from offset o on, its slice's parts in h. -/
def IntSAt (w : World) (b o : Nat) (x : VIntS) (h : Hd) : Prop :=
  w.cell? ⟨b, o, none⟩ = some (.slice h.a h.n h.c) ∧ IsInts w h.a h.n h.c x
def IsIntSS (w : World) (a : Option Addr) (len cap : Nat) (xs : List VIntS) : Prop :=
  len = xs.length ∧ len ≤ cap ∧ cap ≤ maxLen ∧ (len = 0 ∨ ∃ b o, a = some ⟨b, o, none⟩ ∧ b < w.heap.size ∧ ∀ (k : Nat) x, xs[k]? = some x → ∃ h, IntSAt w b (o + k) x h)
theorem IntSAt.below {w w' : World} {b o : Nat} {x : VIntS} {h : Hd} (H : IntSAt w b o x h) (hb : Below w.heap.size w w') (hlt : b < w.heap.size) : IntSAt w' b o x h :=
  ⟨(hb.cell (p := ⟨b, o, none⟩) hlt).trans H.1, H.2.below hb⟩
theorem IsIntSS.below {w w' : World} {a : Option Addr} {len cap : Nat} {xs : List VIntS} (h : IsIntSS w a len cap xs) (hb : Below w.heap.size w w') : IsIntSS w' a len cap xs := by
  refine ⟨h.1, h.2.1, h.2.2.1, ?_⟩
  rcases h.2.2.2 with h0 | ⟨b, o, rfl, h1, h2⟩
  · exact .inl h0
  · exact .inr ⟨b, o, rfl, Nat.lt_of_lt_of_le h1 hb.size, fun k x hx => by
      obtain ⟨h, hh⟩ := h2 k x hx
      exact ⟨h, hh.below hb h1⟩⟩
theorem IsIntSS.at {w : World} {a : Option Addr} {len cap : Nat} {xs : List VIntS} (h : IsIntSS w a len cap xs) (hpos : 0 < len) : ∃ b o, a = some ⟨b, o, none⟩ ∧ b < w.heap.size ∧ ∀ (k : Nat) x, xs[k]? = some x → ∃ h, IntSAt w b (o + k) x h := by
  rcases h.2.2.2 with h0 | h1
  · omega
  · exact h1
theorem nil_IsIntSS (w : World) : IsIntSS w none 0 0 [] := ⟨rfl, Nat.le_refl _, by simp [maxLen], .inl rfl⟩
/-- The first elements of a slice. -/
theorem IsIntSS.take {w : World} {a : Option Addr} {len cap : Nat} {xs : List VIntS} (h : IsIntSS w a len cap xs) {k : Nat} (hk : k ≤ len) : IsIntSS w a k cap (xs.take k) := by
  refine ⟨by rw [List.length_take, ← h.1]; omega, Nat.le_trans hk h.2.1, h.2.2.1, ?_⟩
  by_cases h0 : k = 0
  · exact .inl h0
  · obtain ⟨b, o, e, h1, h2⟩ := h.at (by omega)
    refine .inr ⟨b, o, e, h1, fun j x hj => h2 j x ?_⟩
    rw [List.getElem?_take] at hj
    split at hj
    · exact hj
    · cases hj
set_option maxRecDepth 100000 in
theorem open_IntSS {H : Type} {enc : TypeId × Value → H} {W : World} {base : Nat} {held : Bool} {a : Option Addr} {len cap : Nat} {d : DataW H} {p : List MemPlace}
    (h : DataW.Trod enc Try.prog W base (fun _ => true) held 88 (.slice a len cap) d p) : ∃ xs : List VIntS, IsIntSS W a len cap xs := by
  obtain ⟨fuel, hf⟩ := h
  rcases open_slice Try.underlying88 hf with ⟨hcs, _⟩ | ⟨y, l, cp, m, n, D, Pl, hcs, hb, hl, hm, hmm, _, hi⟩
  · simp [Value.cells] at hcs
    obtain ⟨rfl, rfl, rfl⟩ := hcs
    exact ⟨[], nil_IsIntSS W⟩
  · simp [Value.cells] at hcs
    obtain ⟨rfl, rfl, rfl⟩ := hcs
    simp at hmm
    subst hmm
    obtain ⟨b, o, spot⟩ := y
    have hC : Try.prog.cellsOf 25 = 1 := by kernel_rfl
    have each : ∀ i, i < len → ∃ (x : VIntS) (h : Hd), W.cell? ((⟨b, o, spot⟩ : Addr).add i) = some (.slice h.a h.n h.c) ∧ IsInts W h.a h.n h.c x := by
      intro i hlt
      obtain ⟨cs', hc, ht'⟩ := hi i (by omega)
      rw [hC] at hc
      obtain ⟨_, hcl, hat⟩ := World.cells?_some hc
      obtain ⟨c, rfl⟩ : ∃ c, cs' = [c] := List.length_eq_one_iff.1 hcl
      obtain ⟨hd, zs, rfl, hz⟩ := trod_ints Try.underlying25 Try.underlying3 (by kernel_rfl) ht'
      refine ⟨zs, hd, ?_, hz⟩
      have h1 := hat 0 (by simp)
      rw [Nat.mul_one] at h1
      rw [Go.Deep.add_add] at h1
      simpa using h1
    by_cases h0 : len = 0
    · subst h0
      exact ⟨[], rfl, hl, hm, .inl rfl⟩
    · obtain ⟨_, _, h1, _⟩ := each 0 (by omega)
      have hspot : spot = none := by simpa [Addr.add] using World.cell?_spot h1
      subst hspot
      obtain ⟨f, hf⟩ := Classical.axiomOfChoice (r := fun (i : Fin len) (x : VIntS) => ∃ h : Hd, W.cell? ((⟨b, o, none⟩ : Addr).add i.1) = some (.slice h.a h.n h.c) ∧ IsInts W h.a h.n h.c x) (fun i => each i.1 i.2)
      refine ⟨(List.finRange len).map f, by simp, hl, hm, .inr ⟨b, o, rfl, ?_, fun k x hx => ?_⟩⟩
      · rw [add_plain] at h1
        exact World.lt_of_cell h1
      · obtain ⟨hk, e2⟩ := List.getElem?_eq_some_iff.1 hx
        have hk' : k < len := by simpa using hk
        simp at e2
        subst e2
        obtain ⟨h, h2, h3⟩ := hf ⟨k, hk'⟩
        rw [add_plain] at h2
        exact ⟨h, h2, h3⟩
def cellsIntS (ps : List PIntS) : List Value := ps.flatMap PIntS.vals
theorem cellsIntS_len (ps : List PIntS) : (cellsIntS ps).length = ps.length := by
  induction ps with
  | nil => rfl
  | cons x l ih => simp [cellsIntS, PIntS.vals_len] at *; omega
theorem cellsIntS_append (xs ys : List PIntS) : cellsIntS (xs ++ ys) = cellsIntS xs ++ cellsIntS ys := by simp [cellsIntS]
theorem cellsIntS_snoc (xs : List PIntS) (s : PIntS) : cellsIntS (xs ++ [s]) = cellsIntS xs ++ s.vals := by simp [cellsIntS]
theorem cellsIntS_at {xs : List PIntS} {k : Nat} {s : PIntS} (h : xs[k]? = some s) (j : Nat) (hj : j < 1) : (cellsIntS xs)[k + j]? = s.vals[j]? := by
  have hk : k < xs.length := (List.getElem?_eq_some_iff.1 h).1
  have e : xs = xs.take k ++ s :: xs.drop (k + 1) := by
    have h2 := List.take_append_drop k xs
    rw [List.drop_eq_getElem_cons hk] at h2
    have : xs[k] = s := by rw [List.getElem?_eq_getElem hk] at h; simpa using h
    rw [this] at h2; exact h2.symm
  have hl : (cellsIntS (xs.take k)).length = k := by rw [cellsIntS_len, List.length_take]; omega
  rw [e, show cellsIntS (xs.take k ++ s :: xs.drop (k + 1)) = cellsIntS (xs.take k) ++ (s.vals ++ cellsIntS (xs.drop (k + 1))) from by simp [cellsIntS], List.getElem?_append_right (by omega), hl, show k + j - k = j from by omega, List.getElem?_append_left (by rw [PIntS.vals_len]; exact hj)]
theorem cellsIntS_drop (xs : List PIntS) (i : Nat) : (cellsIntS xs).drop (i) = cellsIntS (xs.drop i) := by
  by_cases h : i ≤ xs.length
  · have e : cellsIntS xs = cellsIntS (xs.take i) ++ cellsIntS (xs.drop i) := by
      unfold cellsIntS
      rw [← List.flatMap_append, List.take_append_drop]
    have hl : (cellsIntS (xs.take i)).length = i := by rw [cellsIntS_len, List.length_take]; omega
    rw [e, List.drop_append_of_le_length (by omega), List.drop_of_length_le (by omega), List.nil_append]
  · rw [List.drop_of_length_le (show xs.length ≤ i by omega), List.drop_of_length_le (by rw [cellsIntS_len]; omega)]; rfl
theorem cellsIntS_take (xs : List PIntS) (i : Nat) : cellsIntS xs = cellsIntS (xs.take i) ++ (cellsIntS xs).drop (i) := by
  rw [cellsIntS_drop]
  unfold cellsIntS
  rw [← List.flatMap_append, List.take_append_drop]
theorem cellsIntS_set (xs : List PIntS) (i : Nat) (r : PIntS) (h : i < xs.length) : cellsIntS (xs.set i r) = cellsIntS (xs.take i) ++ (r.vals ++ (cellsIntS xs).drop (i + 1)) := by
  rw [List.set_eq_take_append_cons_drop, if_pos h, show i + 1 = (i + 1) by omega, cellsIntS_drop]
  simp [cellsIntS]
theorem one_IntS (xs : List PIntS) : ∀ u ∈ cellsIntS xs, u.oneCell' = true := by
  intro u hu
  obtain ⟨s, _, hs⟩ := List.mem_flatMap.1 hu
  exact s.vals_one u hs
theorem infoIntS : (Try.prog.info? 25).map (fun i => (i.zero, i.size, i.bytes)) = some (some (.slice none 0 0), 1, 24) := by kernel_rfl
def zerosIntS (n : Nat) : List Value := (List.replicate n [.slice none 0 0]).flatten
theorem zerosIntS_succ (n : Nat) : zerosIntS (n + 1) = .slice none 0 0 :: zerosIntS n := by
  unfold zerosIntS; rw [List.replicate_succ]; rfl
theorem zerosIntS_len (n : Nat) : (zerosIntS n).length = n := by
  induction n with
  | zero => rfl
  | succ n ih => rw [zerosIntS_succ]; simp [ih]
theorem zerosIntS_at (n j : Nat) (h : j < n) : (zerosIntS n)[j]? = [.slice none 0 0][j % 1]? := by
  induction n generalizing j with
  | zero => omega
  | succ n ih =>
    rw [zerosIntS_succ]
    by_cases hj : j < 1
    · rw [Nat.mod_eq_of_lt hj]
      rcases (show j = 0 by omega) with rfl <;> rfl
    · obtain ⟨i, rfl⟩ : ∃ i, j = i + 1 := ⟨j - 1, by omega⟩
      rw [Nat.add_mod_right, ← ih i (by omega)]
      rfl
theorem madeIntS (n : Nat) : (madeCells (.slice none 0 0 : Value).cells (n)).toList = zerosIntS n := by
  apply List.ext_getElem?
  intro j
  rw [Array.getElem?_toList]
  by_cases h : j < n
  · rw [zerosIntS_at n j h]
    have hm : j % 1 < 1 := Nat.mod_lt _ (by decide)
    simp only [madeCells, Value.cells]
    rw [Array.getElem?_eq_getElem (by simpa using h)]
    rcases (show j % 1 = 0 by omega) with e <;> simp [e]
  · rw [List.getElem?_eq_none (by rw [zerosIntS_len]; omega)]
    simp [madeCells, h]
theorem setIntS (A L : List Value) (v0 : Value) (o : Nat) (hA : A.length = o) (hL : o + 1 ≤ L.length) :
    ((A ++ L.drop o).set (o) v0) = A ++ v0 :: L.drop (o + 1) := by
  subst hA
  obtain ⟨a0, e⟩ : ∃ a0, L.drop A.length = a0 :: L.drop (A.length + 1) := ⟨_, by rw [List.drop_eq_getElem_cons (show A.length < L.length by omega)]⟩
  rw [e]
  generalize L.drop (A.length + 1) = D
  simp [List.set_append_right]
theorem storedIntS {w : World} {base n c g o : Nat} {e : TypeId} {size : Nat} {A L : List Value} (h : w.ownsRow base e size (.slice (some ⟨g, 0, none⟩) n c) n (A ++ L.drop o)) (hA : A.length = o) (hL : o + 1 ≤ L.length) (v0 : Value) :
    (w.setCell ⟨g, o, none⟩ v0).ownsRow base e size (.slice (some ⟨g, 0, none⟩) n c) n (A ++ v0 :: L.drop (o + 1)) ∧ w.grownBy (w.setCell ⟨g, o, none⟩ v0) (some g) := by
  have h0 := h.stored (o) v0
  refine ⟨?_, h0.2⟩
  have := h0.1
  rw [setIntS A L v0 o hA hL] at this
  exact this
/-- The slices inside: each owned, in blocks of their own, none in the block g0 of the row itself. -/
def InnerIntS (lo hi : Nat) (w : World) (g0 : Option Nat) (ps : List PIntS) : Prop :=
  (∀ (k : Nat) p, ps[k]? = some p → HInts lo hi w p.h p.x) ∧ (∀ (k : Nat) p b, ps[k]? = some p → p.h.blk = some b → g0 ≠ some b) ∧
  (∀ (i j : Nat) p q b, i ≠ j → ps[i]? = some p → ps[j]? = some q → p.h.blk = some b → q.h.blk ≠ some b)
/-- A row of the call's own in lo .. hi, the slices inside too. -/
def RawIntS (lo hi : Nat) (w : World) (v : Value) (ps : List PIntS) : Prop := OwnIn lo hi w 25 1 v ps.length (cellsIntS ps) ∧ InnerIntS lo hi w v.ownBlock ps
def OwnIntSS (lo hi : Nat) (w : World) (v : Value) (xs : List VIntS) : Prop := ∃ ps : List PIntS, ps.map PIntS.x = xs ∧ RawIntS lo hi w v ps
section
variable {lo hi lo' hi' : Nat} {w w' : World} {v : Value} {g0 : Option Nat} {ps : List PIntS} {xs : List VIntS}
theorem nil_InnerIntS (lo hi : Nat) (w : World) (g0 : Option Nat) : InnerIntS lo hi w g0 [] := ⟨fun k p h => by simp at h, fun k p b h => by simp at h, fun i j p q b _ h => by simp at h⟩
theorem InnerIntS.keep (h : InnerIntS lo hi w g0 ps) (hk : ∀ b, lo ≤ b → b < hi → b < w.heap.size → g0 ≠ some b → w'.heap[b]? = w.heap[b]?) : InnerIntS lo hi w' g0 ps :=
  ⟨fun k p hp => (h.1 k p hp).keep fun b hb => by
    have := (h.1 k p hp).lt hb
    exact hk b this.1 this.2.1 this.2.2 (h.2.1 k p b hp hb), h.2.1, h.2.2⟩
theorem InnerIntS.mono (h : InnerIntS lo hi w g0 ps) (h1 : lo' ≤ lo) (h2 : hi ≤ hi') : InnerIntS lo' hi' w g0 ps := ⟨fun k p hp => (h.1 k p hp).mono h1 h2, h.2.1, h.2.2⟩
theorem InnerIntS.below (h : InnerIntS lo hi w g0 ps) (hb : Below w.heap.size w w') : InnerIntS lo hi w' g0 ps := h.keep fun b _ _ hs _ => hb.block b hs
theorem InnerIntS.grown (h : InnerIntS lo hi w g0 ps) (hg : w.grownBy w' g0) : InnerIntS lo hi w' g0 ps := h.keep fun b _ _ hs hne => hg.block b hs (fun e => hne e.symm)
/-- One more, its slice in newer memory. -/
theorem InnerIntS.snoc (h : InnerIntS lo hi w g0 ps) {p : PIntS} (hp : HInts hi hi' w p.h p.x) (hl : lo ≤ hi) (hh : hi ≤ hi') (hg : ∀ b, g0 = some b → b < hi) : InnerIntS lo hi' w g0 (ps ++ [p]) := by
  have old : ∀ k q, k < ps.length → (ps ++ [p])[k]? = some q → ps[k]? = some q := fun k q hk hq => by rwa [List.getElem?_append_left hk] at hq
  have new : ∀ k q, ¬ k < ps.length → (ps ++ [p])[k]? = some q → k = ps.length ∧ q = p := fun k q hk hq => by
    have hl := (List.getElem?_eq_some_iff.1 hq).1
    rw [List.length_append, List.length_singleton] at hl
    have e : k = ps.length := by omega
    subst e
    simp at hq
    exact ⟨rfl, hq.symm⟩
  refine ⟨fun k q hq => ?_, fun k q b hq hb => ?_, fun i j q r b hij hq hr hb hc => ?_⟩
  · by_cases hk : k < ps.length
    · exact (h.1 k q (old k q hk hq)).mono (Nat.le_refl _) hh
    · obtain ⟨_, rfl⟩ := new k q hk hq
      exact hp.mono hl (Nat.le_refl _)
  · by_cases hk : k < ps.length
    · exact h.2.1 k q b (old k q hk hq) hb
    · obtain ⟨_, rfl⟩ := new k q hk hq
      intro e
      have := hg b e
      have := (hp.lt hb).1
      omega
  · by_cases hi : i < ps.length
    · by_cases hj : j < ps.length
      · exact h.2.2 i j q r b hij (old i q hi hq) (old j r hj hr) hb hc
      · obtain ⟨_, rfl⟩ := new j r hj hr
        have := ((h.1 i q (old i q hi hq)).lt hb).2.1
        have := (hp.lt hc).1
        omega
    · obtain ⟨ei, rfl⟩ := new i q hi hq
      by_cases hj : j < ps.length
      · have := ((h.1 j r (old j r hj hr)).lt hc).2.1
        have := (hp.lt hb).1
        omega
      · obtain ⟨ej, _⟩ := new j r hj hr
        omega
/-- One replaced: its slice as it lay, or in newer memory. -/
theorem InnerIntS.set (h : InnerIntS lo hi w g0 ps) {k : Nat} {p q : PIntS} (hp : ps[k]? = some p) (hq : HInts lo hi' w q.h q.x) (hh : hi ≤ hi') (hn : ∀ b, q.h.blk = some b → p.h.blk = some b ∨ (hi ≤ b ∧ ∀ b', g0 = some b' → b' < hi)) : InnerIntS lo hi' w g0 (ps.set k q) := by
  have hkl := (List.getElem?_eq_some_iff.1 hp).1
  have get : ∀ i r, (ps.set k q)[i]? = some r → (i = k ∧ r = q) ∨ (i ≠ k ∧ ps[i]? = some r) := fun i r hr => by
    by_cases e : i = k
    · subst e; rw [List.getElem?_set_self hkl] at hr; exact .inl ⟨rfl, (Option.some.inj hr).symm⟩
    · rw [List.getElem?_set_ne (Ne.symm e)] at hr; exact .inr ⟨e, hr⟩
  refine ⟨fun i r hr => ?_, fun i r b hr hb => ?_, fun i j r s b hij hr hs hb hc => ?_⟩
  · rcases get i r hr with ⟨_, rfl⟩ | ⟨_, hr⟩
    · exact hq
    · exact (h.1 i r hr).mono (Nat.le_refl _) hh
  · rcases get i r hr with ⟨_, rfl⟩ | ⟨_, hr⟩
    · rcases hn b hb with h1 | ⟨h1, h2⟩
      · exact h.2.1 k p b hp h1
      · intro e; have := h2 b e; omega
    · exact h.2.1 i r b hr hb
  · rcases get i r hr with ⟨ei, e1⟩ | ⟨ei, hr2⟩
    · rw [e1] at hb
      rcases get j s hs with ⟨ej, _⟩ | ⟨ej, hs2⟩
      · omega
      · rcases hn b hb with h1 | ⟨h1, _⟩
        · exact h.2.2 k j p s b (Ne.symm ej) hp hs2 h1 hc
        · have := ((h.1 j s hs2).lt hc).2.1; omega
    · rcases get j s hs with ⟨ej, e2⟩ | ⟨ej, hs2⟩
      · rw [e2] at hc
        rcases hn b hc with h1 | ⟨h1, _⟩
        · exact h.2.2 i k r p b ei hr2 hp hb h1
        · have := ((h.1 i r hr2).lt hb).2.1; omega
      · exact h.2.2 i j r s b hij hr2 hs2 hb hc
theorem RawIntS.keep (h : RawIntS lo hi w v ps) (hk : ∀ b, lo ≤ b → b < hi → b < w.heap.size → w'.heap[b]? = w.heap[b]?) : RawIntS lo hi w' v ps :=
  ⟨h.1.keep fun b hb => by have := h.1.lt hb; exact hk b this.1 this.2.1 this.2.2, h.2.keep fun b h1 h2 h3 _ => hk b h1 h2 h3⟩
theorem OwnIntSS.keep (h : OwnIntSS lo hi w v xs) (hk : ∀ b, lo ≤ b → b < hi → b < w.heap.size → w'.heap[b]? = w.heap[b]?) : OwnIntSS lo hi w' v xs := by
  obtain ⟨ps, e, h⟩ := h
  exact ⟨ps, e, h.keep hk⟩
theorem OwnIntSS.below (h : OwnIntSS lo hi w v xs) (hb : Below w.heap.size w w') : OwnIntSS lo hi w' v xs := h.keep fun b _ _ hs => hb.block b hs
theorem OwnIntSS.turned (h : OwnIntSS lo hi w v xs) (t : Turned lo' hi' w w') (hd : hi ≤ lo' ∨ hi' ≤ lo) : OwnIntSS lo hi w' v xs := h.keep fun b h1 h2 hs => t.block b hs (by omega)
theorem RawIntS.mono (h : RawIntS lo hi w v ps) (h1 : lo' ≤ lo) (h2 : hi ≤ hi') : RawIntS lo' hi' w v ps := ⟨h.1.mono h1 h2, h.2.mono h1 h2⟩
theorem OwnIntSS.mono (h : OwnIntSS lo hi w v xs) (h1 : lo' ≤ lo) (h2 : hi ≤ hi') : OwnIntSS lo' hi' w v xs := by
  obtain ⟨ps, e, h⟩ := h
  exact ⟨ps, e, h.mono h1 h2⟩
theorem nil_OwnIntSS (lo hi : Nat) (w : World) : OwnIntSS lo hi w (.slice none 0 0) [] := ⟨[], rfl, ⟨⟨by simp [cellsIntS], .inl ⟨rfl, rfl⟩⟩, fun b h => by cases h⟩, nil_InnerIntS _ _ _ _⟩
theorem OwnIntSS.form (h : OwnIntSS lo hi w v xs) : ∃ a c, v = .slice a xs.length c := by
  obtain ⟨ps, e, h⟩ := h
  have el : ps.length = xs.length := by rw [← e, List.length_map]
  rcases h.1.1.2 with ⟨rfl, h0⟩ | ⟨g, cap, cur, rfl, _⟩
  · exact ⟨none, 0, by rw [← el, h0]⟩
  · exact ⟨_, cap, by rw [← el]⟩
/-- An owned row's element as it lies. -/
theorem RawIntS.elem {g n c : Nat} (h : RawIntS lo hi w (.slice (some ⟨g, 0, none⟩) n c) ps) {k : Nat} {p : PIntS} (hp : ps[k]? = some p) : IntSAt w g (k) p.x p.h := by
  have each : ∀ j u, j < 1 → p.vals[j]? = some u → w.cell? ⟨g, k + j, none⟩ = some u := fun j u hj hu => by
    have hc := h.1.1.cells (g := g) rfl (k + j) u ((cellsIntS_at hp j hj).trans hu)
    rw [add_plain, Nat.zero_add] at hc; exact hc
  exact ⟨each 0 _ (by decide) rfl, (h.2.1 k p hp).is.1⟩
theorem RawIntS.len {a : Option Addr} {n c : Nat} (h : RawIntS lo hi w (.slice a n c) ps) : n = ps.length ∧ n ≤ c ∧ c ≤ maxLen := by
  rcases h.1.1.2 with ⟨e, h0⟩ | ⟨g, cap, cur, e, _, _, h1, h2, _⟩
  · cases e; exact ⟨h0.symm, Nat.le_refl _, by simp [maxLen]⟩
  · cases e; exact ⟨rfl, h1, h2⟩
theorem RawIntS.row {g n c : Nat} (h : RawIntS lo hi w (.slice (some ⟨g, 0, none⟩) n c) ps) : w.ownsRow lo 25 1 (.slice (some ⟨g, 0, none⟩) n c) n (cellsIntS ps) := by
  have := h.1.1
  rw [← h.len.1] at this
  exact this
theorem RawIntS.free {g n c : Nat} (h : RawIntS lo hi w (.slice (some ⟨g, 0, none⟩) n c) ps) (j : Nat) : w.frozen? ⟨g, j, none⟩ = false := h.row.frozenAt j
theorem RawIntS.is {a : Option Addr} {n c : Nat} (h : RawIntS lo hi w (.slice a n c) ps) : IsIntSS w a n c (ps.map PIntS.x) := by
  have hl := h.len
  refine ⟨by rw [List.length_map]; exact hl.1, hl.2.1, hl.2.2, ?_⟩
  rcases h.1.1.2 with ⟨e, h0⟩ | ⟨g, cap, cur, e, _, _, h1, h2, _⟩
  · exact .inl (by omega)
  · cases e
    refine .inr ⟨g, 0, rfl, (h.1.lt rfl).2.2, fun k x hx => ?_⟩
    rw [List.getElem?_map] at hx
    cases hp : ps[k]? with
    | none => rw [hp] at hx; cases hx
    | some p =>
      rw [hp] at hx
      cases hx
      exact ⟨p.h, by simpa using h.elem hp⟩
theorem OwnIntSS.is {a : Option Addr} {n c : Nat} (h : OwnIntSS lo hi w (.slice a n c) xs) : IsIntSS w a n c xs := by
  obtain ⟨ps, rfl, h⟩ := h
  exact h.is
/-- A slice's elements with their parts, as the source of an append. -/
theorem IsIntSS.src {a : Option Addr} {n c : Nat} (h : IsIntSS w a n c xs) : ∃ ps : List PIntS, ps.map PIntS.x = xs ∧ SrcAt w a n 1 (cellsIntS ps) ∧ ∀ (k : Nat) p, ps[k]? = some p → IsInts w p.h.a p.h.n p.h.c p.x := by
  by_cases h0 : n = 0
  · have : xs = [] := List.length_eq_zero_iff.1 (by rw [← h.1, h0])
    subst this
    exact ⟨[], rfl, ⟨by simp [cellsIntS, h0], .inl h0⟩, fun k p hp => by simp at hp⟩
  · obtain ⟨b, o, e, hb, hat⟩ := h.at (by omega)
    have each : ∀ i : Fin xs.length, ∃ hd : Hd, IntSAt w b (o + i.1) xs[i.1] hd := fun i => hat i.1 _ (List.getElem?_eq_getElem i.2)
    obtain ⟨pick, hpick⟩ := Classical.axiomOfChoice each
    refine ⟨(List.finRange xs.length).map fun i => ⟨xs[i.1], pick i⟩, ?_, ⟨?_, .inr ⟨_, e, fun j u hj => ?_⟩⟩, fun k p hp => ?_⟩
    · apply List.ext_getElem
      · simp
      · intro i h1 h2; simp
    · rw [cellsIntS_len, List.length_map, List.length_finRange, h.1, Nat.mul_one]
    · rw [add_plain]
      have hl := (List.getElem?_eq_some_iff.1 hj).1
      rw [cellsIntS_len, List.length_map, List.length_finRange] at hl
      obtain ⟨k, r, rfl, hr⟩ : ∃ k r, j = k + r ∧ r < 1 := ⟨j / 1, j % 1, by omega, Nat.mod_lt _ (by decide)⟩
      have hk : k < xs.length := by omega
      have hs : ((List.finRange xs.length).map fun i => (⟨xs[i.1], pick i⟩ : PIntS))[k]? = some ⟨xs[k], pick ⟨k, hk⟩⟩ := by simp [hk]
      have hu := cellsIntS_at hs r hr
      rw [hj] at hu
      have ha := hpick ⟨k, hk⟩
      rw [← Nat.add_assoc]
      rcases (show r = 0 by omega) with rfl
      · rw [hu]; exact ha.1
    · obtain ⟨hk, e2⟩ := List.getElem?_eq_some_iff.1 hp
      have hk' : k < xs.length := by simpa using hk
      simp at e2
      subst e2
      exact (hpick ⟨k, hk'⟩).2
end
theorem set_sliceIntS (ps : List PIntS) (k : Nat) (p : PIntS) (hp : ps[k]? = some p) (zs : List Int) (h' : Hd) : (cellsIntS ps).set (k ) (.slice h'.a h'.n h'.c) = cellsIntS (ps.set k ⟨zs, h'⟩) := by
  have hk := (List.getElem?_eq_some_iff.1 hp).1
  rw [cellsIntS_set ps k _ hk]
  have e : cellsIntS ps = cellsIntS (ps.take k) ++ (p.vals ++ (cellsIntS ps).drop (k + 1)) := by
    have h1 := cellsIntS_set ps k p hk
    rw [show ps.set k p = ps from by
      apply List.ext_getElem?
      intro j
      by_cases e : j = k
      · subst e; rw [List.getElem?_set_self hk, hp]
      · rw [List.getElem?_set_ne (Ne.symm e)]] at h1
    exact h1
  have hl : (cellsIntS (ps.take k)).length = k := by rw [cellsIntS_len, List.length_take]; omega
  generalize (cellsIntS ps).drop (k + 1) = D at e ⊢
  rw [e, List.set_append_right _ _ (by rw [hl]; exact Nat.le_refl _), hl, Nat.sub_self]
  simp [PIntS.vals]
/-- Another slice in the place of an element's. -/
theorem RawIntS.setSlice {lo hi hi' : Nat} {w : World} {g n c : Nat} {ps : List PIntS} (h : RawIntS lo hi w (.slice (some ⟨g, 0, none⟩) n c) ps) {k : Nat} {p : PIntS} (hp : ps[k]? = some p) {h' : Hd} {zs : List Int} (H : HInts lo hi' w h' zs) (hh : hi ≤ hi') (hn : ∀ b, h'.blk = some b → p.h.blk = some b ∨ hi ≤ b) :
    RawIntS lo hi' (w.setCell ⟨g, k , none⟩ (.slice h'.a h'.n h'.c)) (.slice (some ⟨g, 0, none⟩) n c) (ps.set k ⟨zs, h'⟩) ∧ w.grownBy (w.setCell ⟨g, k , none⟩ (.slice h'.a h'.n h'.c)) (some g) := by
  obtain ⟨rfl, _, _⟩ := h.len
  have s0 := h.1.1.stored (k ) (.slice h'.a h'.n h'.c)
  have G := s0.2
  have hg : g < hi := (h.1.lt rfl).2.1
  have H2 : HInts lo hi' (w.setCell ⟨g, k , none⟩ (.slice h'.a h'.n h'.c)) h' zs := H.keep fun b hb => G.block b (H.lt hb).2.2 (fun e => by
    cases e
    rcases hn g hb with h1 | h1
    · exact h.2.2.1 k p g hp h1 rfl
    · omega)
  refine ⟨⟨⟨?_, fun b hb => Nat.lt_of_lt_of_le (h.1.2 b hb) hh⟩, ?_⟩, G⟩
  · have h1 := s0.1
    rw [set_sliceIntS ps k p hp zs h'] at h1
    rw [List.length_set]
    exact h1
  · exact (h.2.grown G).set hp H2 hh (fun b hb => (hn b hb).imp id fun h1 => ⟨h1, fun b' e => by cases e; exact hg⟩)
/-- What an element's slice holds has turned; nothing else has. -/
theorem RawIntS.inner {lo hi : Nat} {w w' : World} {v : Value} {ps : List PIntS} (h : RawIntS lo hi w v ps) {k : Nat} {p : PIntS} (hp : ps[k]? = some p) {zs : List Int} (hl : zs.length = p.x.length) (hz : w'.ownsRow lo 3 1 (.slice p.h.a p.h.n p.h.c) p.x.length (intCells zs)) (hg : w.grownBy w' p.h.blk) :
    RawIntS lo hi w' v (ps.set k ⟨zs, p.h⟩) := by
  have hk := (List.getElem?_eq_some_iff.1 hp).1
  have hI := h.2.1 k p hp
  have H2 : HInts lo hi w' p.h zs := ⟨by rw [hl]; exact hz, hI.2⟩
  have O2 : OwnIn lo hi w' 25 1 v ps.length (cellsIntS ps) := h.1.keep fun b hb => hg.block b (h.1.lt hb).2.2 (fun e => h.2.2.1 k p b hp e.symm hb)
  refine ⟨?_, ?_⟩
  · rw [List.length_set, show cellsIntS (ps.set k ⟨zs, p.h⟩) = cellsIntS ps from by
      have h1 := cellsIntS_set ps k p hk
      rw [show ps.set k p = ps from by
        apply List.ext_getElem?
        intro j
        by_cases e : j = k
        · subst e; rw [List.getElem?_set_self hk, hp]
        · rw [List.getElem?_set_ne (Ne.symm e)]] at h1
      exact (cellsIntS_set ps k ⟨zs, p.h⟩ hk).trans h1.symm]
    exact O2
  · have get : ∀ i r, (ps.set k ⟨zs, p.h⟩)[i]? = some r → (i = k ∧ r = ⟨zs, p.h⟩) ∨ (i ≠ k ∧ ps[i]? = some r) := fun i r hr => by
      by_cases e : i = k
      · subst e; rw [List.getElem?_set_self hk] at hr; exact .inl ⟨rfl, (Option.some.inj hr).symm⟩
      · rw [List.getElem?_set_ne (Ne.symm e)] at hr; exact .inr ⟨e, hr⟩
    refine ⟨fun i r hr => ?_, fun i r b hr hb => ?_, fun i j r s b hij hr hs hb hc => ?_⟩
    · rcases get i r hr with ⟨_, rfl⟩ | ⟨ei, hr⟩
      · exact H2
      · exact (h.2.1 i r hr).keep fun b hb => hg.block b ((h.2.1 i r hr).lt hb).2.2 (fun e => h.2.2.2 i k r p b ei hr hp hb e.symm)
    · rcases get i r hr with ⟨_, rfl⟩ | ⟨_, hr⟩
      · exact h.2.2.1 k p b hp hb
      · exact h.2.2.1 i r b hr hb
    · rcases get i r hr with ⟨ei, rfl⟩ | ⟨ei, hr⟩
      · rcases get j s hs with ⟨ej, _⟩ | ⟨ej, hs⟩
        · omega
        · exact h.2.2.2 k j p s b (Ne.symm ej) hp hs hb hc
      · rcases get j s hs with ⟨ej, rfl⟩ | ⟨ej, hs⟩
        · exact h.2.2.2 i k r p b ei hr hp hb hc
        · exact h.2.2.2 i j r s b hij hr hs hb hc
end Go.Proofs.Ytobpgoiaimlonaa
namespace Go.Proofs.Ytobpgoiaimlonaa
open Go.RowKit

/-- The rows' slices in block g, all in lo .. hi. -/
def MatIn (lo hi : Nat) (w : World) (g n : Nat) (D : List (List Int)) : Prop := ∃ ps : List PIntS, ps.map PIntS.x = D ∧ RawIntS lo hi w (.slice (some ⟨g, 0, none⟩) n n) ps
theorem MatIn.below {lo hi g n : Nat} {w w' : World} {D : List (List Int)} (h : MatIn lo hi w g n D) (hb : Below w.heap.size w w') : MatIn lo hi w' g n D := by
  obtain ⟨ps, e, h⟩ := h
  exact ⟨ps, e, h.keep fun b _ _ hs => hb.block b hs⟩
theorem MatIn.mono {lo hi lo' hi' g n : Nat} {w : World} {D : List (List Int)} (h : MatIn lo hi w g n D) (h1 : lo' ≤ lo) (h2 : hi ≤ hi') : MatIn lo' hi' w g n D := by
  obtain ⟨ps, e, h⟩ := h
  exact ⟨ps, e, h.mono h1 h2⟩
theorem MatIn.same {lo hi g n : Nat} {w w' : World} {D : List (List Int)} (h : MatIn lo hi w g n D) (hw : w'.heap = w.heap) : MatIn lo hi w' g n D := by
  obtain ⟨ps, e, h⟩ := h
  exact ⟨ps, e, h.keep fun b _ _ _ => by rw [hw]⟩
theorem MatIn.head {lo hi g n : Nat} {w : World} {D : List (List Int)} (h : MatIn lo hi w g n D) : D.length = n ∧ lo ≤ g ∧ g < hi ∧ g < w.heap.size ∧ n ≤ maxLen := by
  obtain ⟨ps, rfl, h⟩ := h
  have h1 := h.len
  have h2 := h.1.lt (b := g) rfl
  exact ⟨by rw [List.length_map]; exact h1.1.symm, h2.1, h2.2.1, h2.2.2, h1.2.2⟩
theorem MatIn.free {lo hi g n : Nat} {w : World} {D : List (List Int)} (h : MatIn lo hi w g n D) (j : Nat) : w.frozen? ⟨g, j, none⟩ = false := by
  obtain ⟨ps, rfl, h⟩ := h
  exact h.free j
theorem MatIn.own {lo hi g n : Nat} {w : World} {D : List (List Int)} (h : MatIn lo hi w g n D) : OwnIntSS lo hi w (.slice (some ⟨g, 0, none⟩) n n) D := h
theorem mapx_at {ps : List PIntS} {i : Nat} {r : List Int} (h : (ps.map PIntS.x)[i]? = some r) : ∃ p, ps[i]? = some p ∧ p.x = r := by
  rw [List.getElem?_map] at h
  cases hp : ps[i]? with
  | none => rw [hp] at h; cases h
  | some p => rw [hp] at h; exact ⟨p, rfl, by simpa using h⟩
/-- A row that is not empty: its slice, its cells, and what a store into it leaves. -/
theorem MatIn.row {lo hi g n : Nat} {w : World} {D : List (List Int)} (h : MatIn lo hi w g n D) {i : Nat} {r : List Int} (hr : D[i]? = some r) (hpos : 0 < r.length) :
    ∃ b c, w.cell? ⟨g, i, none⟩ = some (.slice (some ⟨b, 0, none⟩) r.length c) ∧ b ≠ g ∧ (lo ≤ b ∧ b < hi ∧ b < w.heap.size) ∧ (r.length ≤ c ∧ c ≤ maxLen) ∧ (∀ (j : Nat) z, r[j]? = some z → w.cell? ⟨b, j, none⟩ = some (.int .i64 z)) ∧ (∀ j, w.frozen? ⟨b, j, none⟩ = false) ∧
      (∀ (j : Nat) (x : Int), MatIn lo hi (w.setCell ⟨b, j, none⟩ (.int .i64 x)) g n (D.set i (r.set j x)) ∧ w.grownBy (w.setCell ⟨b, j, none⟩ (.int .i64 x)) (some b)) ∧
      OwnIn lo hi w 3 1 (.slice (some ⟨b, 0, none⟩) r.length c) r.length (intCells r) := by
  obtain ⟨ps, rfl, h⟩ := h
  obtain ⟨p, hp, rfl⟩ := mapx_at hr
  obtain ⟨c0, _⟩ := h.elem hp
  have hI := h.2.1 i p hp
  have hne := h.2.2.1 i p
  obtain ⟨px, ⟨pa, pn, pc⟩⟩ := p
  simp only [] at c0 hpos ⊢
  have e2 := hI.is.2
  simp only [] at e2
  subst e2
  rcases hI.1.2 with ⟨e, h0⟩ | ⟨b, cap, cur, e, hb, hh, hn, hcap, _⟩
  · simp only [] at h0
    omega
  · simp only [Value.slice.injEq, true_and] at e
    obtain ⟨rfl, rfl⟩ := e
    have hlt := hI.lt (b := b) rfl
    refine ⟨b, pc, c0, fun e => hne b hp rfl (by rw [e]; rfl), hlt, ⟨hn, hcap⟩, fun j z hz => ?_, fun j => hI.1.frozenAt j, fun j x => ?_, hI⟩
    · have hc := hI.1.cells (g := b) rfl j (.int .i64 z) (by simp [intCells, hz])
      rw [add_plain, Nat.zero_add] at hc; exact hc
    · have s := hI.1.stored j (.int .i64 x)
      rw [show (intCells px).set j (.int .i64 x) = intCells (px.set j x) from by simp [intCells, List.map_set]] at s
      refine ⟨⟨ps.set i ⟨px.set j x, ⟨some ⟨b, 0, none⟩, px.length, pc⟩⟩, ?_, h.inner hp (by rw [List.length_set]) s.1 s.2⟩, s.2⟩
      rw [List.map_set]
/-- Another slice laid in the place of a row. -/
theorem MatIn.setRow {lo hi g n : Nat} {w : World} {D : List (List Int)} (h : MatIn lo hi w g n D) {i : Nat} (hi' : i < n) {hi2 : Nat} {hd : Hd} {zs : List Int} (H : HInts lo hi2 w hd zs) (hh : hi ≤ hi2) (hn : ∀ b, hd.blk = some b → hi ≤ b) :
    MatIn lo hi2 (w.setCell ⟨g, i, none⟩ (.slice hd.a hd.n hd.c)) g n (D.set i zs) ∧ w.grownBy (w.setCell ⟨g, i, none⟩ (.slice hd.a hd.n hd.c)) (some g) := by
  obtain ⟨ps, rfl, h⟩ := h
  have hl := h.len.1
  obtain ⟨p, hp⟩ : ∃ p, ps[i]? = some p := ⟨ps[i]'(by omega), List.getElem?_eq_getElem _⟩
  have s := h.setSlice hp H hh (fun b hb => .inr (hn b hb))
  exact ⟨⟨_, by rw [List.map_set], s.1⟩, s.2⟩
theorem cells_rep (n : Nat) : cellsIntS (List.replicate n (⟨[], ⟨none, 0, 0⟩⟩ : PIntS)) = zerosIntS n := by
  induction n with
  | zero => rfl
  | succ n ih =>
    rw [zerosIntS_succ, ← ih, List.replicate_succ]
    simp [cellsIntS, PIntS.vals]
/-- A square's rows' slices, made anew: all rows empty. -/
theorem MatIn.made {lo hi n : Nat} {w : World} {g : Nat} (h : w.ownsRow lo 25 1 (.slice (some ⟨g, 0, none⟩) n n) n (zerosIntS n)) (hg : g < hi) : MatIn lo hi w g n (List.replicate n []) := by
  refine ⟨List.replicate n ⟨[], ⟨none, 0, 0⟩⟩, by simp, ?_, ?_⟩
  · rw [List.length_replicate]
    refine ⟨?_, fun b hb => by simp [Value.ownBlock] at hb; omega⟩
    rw [cells_rep]
    exact h
  · have all : ∀ (k : Nat) p, (List.replicate n (⟨[], ⟨none, 0, 0⟩⟩ : PIntS))[k]? = some p → p = ⟨[], ⟨none, 0, 0⟩⟩ := fun k p hp => (List.mem_replicate.1 (List.mem_of_getElem? hp)).2
    refine ⟨fun k p hp => ?_, fun k p b hp hb => ?_, fun i j p q b _ hp _ hb => ?_⟩
    · rw [all k p hp]
      exact ⟨⟨by simp [intCells], .inl ⟨rfl, rfl⟩⟩, fun b hb => by cases hb⟩
    · rw [all k p hp] at hb; cases hb
    · rw [all i p hp] at hb; cases hb
theorem MatIn.there {lo hi g n : Nat} {w : World} {D : List (List Int)} (h : MatIn lo hi w g n D) {j : Nat} (hj : j < n) : ∃ u, w.cell? ⟨g, j, none⟩ = some u := by
  obtain ⟨ps, rfl, h⟩ := h
  exact own_cell h.row j (by rw [cellsIntS_len]; have := h.len.1; omega)
/-- A row of the call's own, laid in the place of a row: it lies where it lay. -/
theorem MatIn.lay {lo hi g n : Nat} {w : World} {D : List (List Int)} (h : MatIn lo hi w g n D) {i : Nat} (hi' : i < n) {hi2 b m : Nat} {zs : List Int} (H : w.ownsRow hi 3 1 (.slice (some ⟨b, 0, none⟩) m m) m (intCells zs)) (hh : hi ≤ hi2) (hs : w.heap.size ≤ hi2) (hm : zs.length = m) (hpos : 0 < m) :
    MatIn lo hi2 (w.setCell ⟨g, i, none⟩ (.slice (some ⟨b, 0, none⟩) m m)) g n (D.set i zs) ∧ w.grownBy (w.setCell ⟨g, i, none⟩ (.slice (some ⟨b, 0, none⟩) m m)) (some g) ∧
    ∀ j x, j < m → (∃ u, (w.setCell ⟨g, i, none⟩ (.slice (some ⟨b, 0, none⟩) m m)).cell? ⟨b, j, none⟩ = some u) ∧ (w.setCell ⟨g, i, none⟩ (.slice (some ⟨b, 0, none⟩) m m)).frozen? ⟨b, j, none⟩ = false ∧
      MatIn lo hi2 ((w.setCell ⟨g, i, none⟩ (.slice (some ⟨b, 0, none⟩) m m)).setCell ⟨b, j, none⟩ (.int .i64 x)) g n (D.set i (zs.set j x)) ∧ (w.setCell ⟨g, i, none⟩ (.slice (some ⟨b, 0, none⟩) m m)).grownBy ((w.setCell ⟨g, i, none⟩ (.slice (some ⟨b, 0, none⟩) m m)).setCell ⟨b, j, none⟩ (.int .i64 x)) (some b) := by
  subst hm
  have hd := h.head
  have hlt := H.lt b rfl
  obtain ⟨u0, hu0⟩ := h.there hi'
  have s := h.setRow hi' (hi2 := hi2) (hd := ⟨some ⟨b, 0, none⟩, zs.length, zs.length⟩) (zs := zs) ⟨ownsRow_base H (by omega), fun c hc => by simp [Value.ownBlock] at hc; omega⟩ hh (fun c hc => by simp [Hd.blk, Hd.v, Value.ownBlock] at hc; omega)
  refine ⟨s.1, s.2, fun j x hj => ?_⟩
  have hr : (D.set i zs)[i]? = some zs := List.getElem?_set_self (by rw [hd.1]; exact hi')
  obtain ⟨b', c', e0, _, _, _, hc, hf, hst, _⟩ := s.1.row hr hpos
  have e0' : (w.setCell ⟨g, i, none⟩ (.slice (some ⟨b, 0, none⟩) zs.length zs.length)).cell? ⟨g, i, none⟩ = some (.slice (some ⟨b', 0, none⟩) zs.length c') := e0
  have e1 := World.cell?_setCell_same' w ⟨g, i, none⟩ (.slice (some ⟨b, 0, none⟩) zs.length zs.length) (by rw [hu0]; rfl)
  have e2 : b' = b := by
    have := e0'.symm.trans e1
    simp only [Option.some.injEq, Value.slice.injEq, Addr.mk.injEq, and_true, true_and] at this
    exact this.1
  subst e2
  refine ⟨⟨_, hc j (zs[j]'hj) (List.getElem?_eq_getElem hj)⟩, hf j, ?_, (hst j x).2⟩
  have := (hst j x).1
  rwa [List.set_set] at this
end Go.Proofs.Ytobpgoiaimlonaa
namespace Go.Proofs.Ytobpgoiaimlonaa
open Go.RowKit

set_option maxHeartbeats 1600000 in
theorem mul64_one (n : Nat) (w : World) (h : n ≤ 10) :
    Calls Try.prog 95 #[.int .u64 1, .int .u64 (n : Int)] w fun e w' => e = .returned (.tuple #[.int .u64 0, .int .u64 (n : Int)]) ∧ w = w' := by
  have e1 : bits .and .u64 (1 : Int) 4294967295 = 1 := by decide +kernel
  have e2 : bits .and .u64 (n : Int) 4294967295 = (n : Int) := by rw [Mul64.maskN n (by omega)]; omega
  have e3 : (n : Int) / 4294967296 = 0 := by omega
  have e4 : bits .and .u64 (0 : Int) 4294967295 = 0 := by decide +kernel
  have e5 : IntKind.u64.wrap (n : Int) = (n : Int) := Mul64.wrapN n (by omega)
  go_enter Try.func95, Try.ntmps95
  go_wp2
  go_ret2
  exact ⟨rfl, rfl⟩
set_option maxHeartbeats 1600000 in
theorem mul_one' (n : Nat) (w : World) (h : n ≤ 10) :
    Calls Try.prog 93 #[.int .u64 1, .int .u64 (n : Int)] w fun e w' => e = .returned (.tuple #[.int .u64 0, .int .u64 (n : Int)]) ∧ w = w' := by
  go_enter Try.func93, Try.ntmps93
  go_wp2_with fail
  refine (mul64_one n _ h).mono ?_
  rintro e w' ⟨rfl, rfl⟩
  go_wp2
  go_ret2
  exact ⟨rfl, rfl⟩
theorem own_heap {w : World} {base g n : Nat} {e : TypeId} {xs : List Value} (h : w.ownsRow base e 1 (.slice (some ⟨g, 0, none⟩) n n) n xs) : w.heap[g]? = some (.cells xs.toArray e (0, 0)) ∧ n ≤ maxLen ∧ base ≤ g := by
  obtain ⟨h1, h2⟩ := h
  rcases h2 with ⟨h, _⟩ | ⟨g', cap, cur, e', hg, hh, hn, hcap, hsz, htake⟩
  · cases h
  · simp only [Value.slice.injEq, Option.some.injEq, Addr.mk.injEq, and_true, true_and] at e'
    obtain ⟨rfl, rfl⟩ := e'
    refine ⟨?_, hcap, hg⟩
    rw [hh, ← htake, List.take_of_length_le (by simp [hsz])]
theorem heap_own {w : World} {base g n : Nat} {e : TypeId} {xs : List Value} (h : w.heap[g]? = some (.cells xs.toArray e (0, 0))) (hn : n ≤ maxLen) (hb : base ≤ g) (hl : xs.length = n) : w.ownsRow base e 1 (.slice (some ⟨g, 0, none⟩) n n) n xs :=
  ⟨by omega, .inr ⟨g, n, xs.toArray, rfl, hb, h, Nat.le_refl _, hn, by simp [hl], by rw [List.take_of_length_le (by simp; omega)]⟩⟩
theorem sizeInt : (Try.prog.info? 3).map (·.size) = some 1 := by kernel_rfl
/-- A row whose first numbers are done. -/
def repL (v : Int) (n m : Nat) : List Value := List.replicate m (.int .i64 v) ++ List.replicate (n - m) (.int .i64 0)
theorem repL_len (v : Int) {n m : Nat} (h : m ≤ n) : (repL v n m).length = n := by simp [repL]; omega
theorem repL_at (v : Int) {n m j : Nat} (h : j < m) : (repL v n m)[j]? = some (.int .i64 v) := by
  unfold repL
  rw [List.getElem?_append_left (by simpa using h)]; simp [h]
theorem repL_all (v : Int) (n : Nat) : repL v n n = intCells (List.replicate n v) := by simp [repL, intCells]
theorem repL_splice (v : Int) {n m c : Nat} (h : m + c ≤ n) : splice (repL v n m) m (List.replicate c (.int .i64 v)) = repL v n (m + c) := by
  unfold splice repL
  rw [List.take_left' (by simp), List.length_replicate, ← List.append_assoc, List.replicate_append_replicate]
  congr 1
  rw [List.drop_append, List.length_replicate, List.drop_of_length_le (by simp), List.nil_append, List.drop_replicate]
  congr 1; omega
theorem made_repL (v : Int) (n : Nat) : (madeCells (.int .i64 0 : Value).cells (n * 1)).toList = repL v n 0 := by
  apply List.ext_getElem?
  intro j
  rw [Array.getElem?_toList, Nat.mul_one]
  by_cases h : j < n
  · simp [madeCells, Value.cells, repL, h, Nat.mod_one]
  · simp [madeCells, repL, h]
theorem src_lit1 {W : World} {gx : Nat} {v : Int} (hW : W.cell? ⟨gx, 0, none⟩ = some (.int .i64 v)) : ∀ j u, [Value.int .i64 v][j]? = some u → W.cell? ((⟨gx, 0, none⟩ : Addr).add j) = some u := fun j u hj => by
  match j, hj with
  | 0, hj => simp at hj; subst hj; simpa [Addr.add] using hW
  | j + 1, hj => simp at hj
theorem src_rep {W : World} {g n m c : Nat} {v : Int} (h : W.heap[g]? = some (.cells (repL v n m).toArray 3 (0, 0))) (hc : c ≤ m) (hm : (repL v n m).length ≤ maxLen) : ∀ j u, (List.replicate c (Value.int .i64 v))[j]? = some u → W.cell? ((⟨g, 0, none⟩ : Addr).add j) = some u := fun j u hj => by
  obtain ⟨hl, hu⟩ := List.getElem?_eq_some_iff.1 hj
  simp at hl hu
  subst hu
  exact (heap_own (base := 0) (n := (repL v n m).length) h hm (Nat.zero_le _) rfl).cells (g := g) rfl j _ (repL_at v (n := n) (m := m) (j := j) (by omega))
set_option maxHeartbeats 6400000 in
set_option maxRecDepth 100000 in
theorem repeat_any (v : Int) (n gx : Nat) (w : World) (h0 : 1 ≤ n) (h1 : n ≤ 10) (hx : w.cell? ⟨gx, 0, none⟩ = some (.int .i64 v)) :
    Calls Try.prog 92 #[.slice (some ⟨gx, 0, none⟩) 1 1, .int .i64 (n : Int)] w fun e w' => e = .returned (.slice (some ⟨w.heap.size, 0, none⟩) n n) ∧ w'.ownsRow w.heap.size 3 1 (.slice (some ⟨w.heap.size, 0, none⟩) n n) n (intCells (List.replicate n v)) ∧ Below w.heap.size w w' := by
  obtain ⟨i0, hi, hz0, hz1, hz2⟩ := info_parts infoInt
  have e5 : IntKind.u64.wrap (n : Int) = (n : Int) := Mul64.wrapN n (by omega)
  have e6 : IntKind.i64.wrap (n : Int) = (n : Int) := IntWalk.i64_in _ (by omega)
  have X := Lib.hid hx
  have H1 := Lib.hid h1
  clear hx
  go_enter Try.func92, Try.ntmps92
  go_wp2_with fail
  refine (mul_one' n _ H1.out).mono ?_
  rintro e w' ⟨rfl, rfl⟩
  have hn1 : [Value.int .i64 v].length = Nat.min 1 n := (Nat.min_eq_left h0).symm
  have hf1 : 0 + [Value.int .i64 v].length ≤ (repL v n 0).length := by rw [repL_len v (Nat.zero_le _)]; simpa using h0
  have HN1 := Lib.hid hn1
  have HF1 := Lib.hid hf1
  clear hn1 hf1
  go_wp2_with (first
    | (refine wpList_make_full _ rfl _ _ 25 rfl w.heap.size 3 i0 (.int .i64 0) 1 Try.underlying25 hi hz0 hz1 .i64 .i64 _ _ n rfl rfl rfl rfl (by rw [hz2]; omega) (by unfold maxLen; omega) (Nat.le_refl _) ?_; intro w1 hown hgrow; rw [made_repL v] at hown; have HB1 := Lib.hid ((Below.refl w.heap.size w).grown hgrow (Nat.le_refl _) (fun k e => by cases e)); have HG1 := Lib.hid (own_heap hown).1; clear hown hgrow)
    | (refine wpList_copy_splice (o := ⟨some 33, _, _, _, _, _⟩) rfl (.tmp 31) (.tmp 32) 25 25 rfl 3 Try.underlying25 sizeInt _ _ _ _ _ _ rfl rfl w.heap.size 0 (repL v n 0) 3 ?h1 [.int .i64 v] ?h2 ?h3 ?h4 ?h5 w.heap.size w ?h6 ?h7 ?h8; (case h1 => exact HG1.out); (case h2 => exact HN1.out); (case h3 => exact fun _ => ⟨rfl, ⟨gx, 0, none⟩, rfl, src_lit1 (cell_stay' X.out HB1.out)⟩); (case h4 => exact HF1.out); (case h5 => exact one_intN v); (case h6 => exact HB1.out); (case h7 => exact Nat.le_refl _); intro w2 hg2 hb2))
  have HG2 := Lib.hid (show w2.heap[w.heap.size]? = some (.cells (repL v n 1).toArray 3 (0, 0)) from by
    have h := hg2.out
    rw [show [Value.int .i64 v] = List.replicate 1 (.int .i64 v) from rfl, repL_splice v (show 0 + 1 ≤ n by omega)] at h
    exact h)
  have HB2 := Lib.hid hb2
  clear hg2 hb2
  have hdn : (decide ((n : Int) < 0)) = false := decide_eq_false (by omega)
  have hdm : (decide ((9223372036854775807 : Int) < (n : Int))) = false := decide_eq_false (by omega)
  rw [hdn, hdm]
  clear hdn hdm
  go_loopw [8] (fun m wr => ∃ k : Nat, 1 ≤ k ∧ k ≤ n ∧ m = .int .i64 k ∧ wr.heap[w.heap.size]? = some (.cells (repL v n k).toArray 3 (0, 0)) ∧ Below w.heap.size w wr) (fun m _ => n - (intOf m).toNat)
  case atStart => exact ⟨1, Nat.le_refl _, h0, rfl, HG2.out, HB2.out⟩
  case round =>
    obtain ⟨k, hk1, hkn, rfl, hg, hbel⟩ := hrel
    have G := Lib.hid hg
    have B := Lib.hid hbel
    have ML := Lib.hid (show n ≤ maxLen from by unfold maxLen; omega)
    by_cases hlt : k < n
    · obtain ⟨c, hc⟩ : ∃ c, Nat.min k (n - k) = c := ⟨_, rfl⟩
      have c1 : 1 ≤ c := by rw [← hc]; exact Nat.le_min.2 ⟨hk1, by omega⟩
      have c2 : k + c ≤ n := by have : c ≤ n - k := by rw [← hc]; exact Nat.min_le_right _ _
                                omega
      have c3 : c ≤ k := by rw [← hc]; exact Nat.min_le_left _ _
      have HC := Lib.hid (show (List.replicate c (Value.int .i64 v)).length = Nat.min k (n - k) from by rw [List.length_replicate, hc])
      have HF := Lib.hid (show k + (List.replicate c (Value.int .i64 v)).length ≤ (repL v n k).length from by rw [List.length_replicate, repL_len v hkn]; exact c2)
      have H1C := Lib.hid (show ∀ u ∈ List.replicate c (Value.int .i64 v), u.oneCell' = true from fun u hu => by rw [(List.mem_replicate.1 hu).2]; rfl)
      have GD := Lib.hid (show wr.drew.heap[w.heap.size]? = some (.cells (repL v n k).toArray 3 (0, 0)) from hg)
      have BD := Lib.hid (bel_drew' hbel)
      have hw1 : IntKind.i64.wrap ((k : Int) + (c : Int)) = ((k + c : Nat) : Int) := IntWalk.i64_in _ (by omega) |>.trans (by omega)
      have i1 : (k : Int) < (n : Int) := by omega
      have i2 : (k : Int) ≤ (n : Int) := by omega
      have i0 : (0 : Int) ≤ (k : Int) := by omega
      have LC := Lib.hid (show (List.replicate c (Value.int .i64 v)).length = c from List.length_replicate)
      have hnk : ¬ n = k := by omega
      clear hg hbel hc
      go_wp2
      go_region_held3 (fun _ => True) (trivial) (first
        | (refine step_copy_splice (by rfl) (.tmp 41) (.tmp 44) 25 25 (by rfl) 3 Try.underlying25 sizeInt (some ⟨w.heap.size, k, none⟩) (some ⟨w.heap.size, 0, none⟩) (n - k) (n - k) k n ?gd ?gs w.heap.size k (repL v n k) 3 ?g1 (List.replicate c (.int .i64 v)) ?g2 ?g3 ?g4 ?g5 w.heap.size w ?g6 ?g7 ?g8; (case gd => (simp [Act.eval]; done)); (case gs => (simp [Act.eval]; done)); (case g1 => exact GD.out); (case g2 => exact HC.out); (case g3 => exact fun _ => ⟨rfl, ⟨w.heap.size, 0, none⟩, rfl, src_rep GD.out c3 (by rw [repL_len v hkn]; exact ML.out)⟩); (case g4 => exact HF.out); (case g5 => exact H1C.out); (case g6 => exact BD.out); (case g7 => exact Nat.le_refl _); rw [LC.out]; intro w5 hg5 hb5; have G5 := Lib.hid (show w5.heap[w.heap.size]? = some (.cells (repL v n (k + c)).toArray 3 (0, 0)) from by
          have h := hg5.out
          rw [repL_splice v c2] at h
          exact h); have B5 := Lib.hid hb5; clear hg5 hb5))
      all_goals
        go_wp2
        go_roundw
        case rel => exact ⟨k + c, by omega, c2, by rfl, G5.out, B5.out⟩
        case measure => simp [intOf]; omega
    · obtain rfl : k = n := by omega
      have O := Lib.hid (show wr.ownsRow w.heap.size 3 1 (.slice (some ⟨w.heap.size, 0, none⟩) k k) k (intCells (List.replicate k v)) from by
        have h := heap_own hg ML.out (Nat.le_refl _) (repL_len v (Nat.le_refl k))
        rw [repL_all] at h; exact h)
      clear hg hbel
      go_wp2
      go_ret
      exact ⟨rfl, O.out, B.out⟩
end Go.Proofs.Ytobpgoiaimlonaa
namespace Go.Proofs.Ytobpgoiaimlonaa
open Go.RowKit

/-- The table whose first rows are made. -/
def partB (n k : Nat) : List (List Int) := (baseM n).take k ++ List.replicate (n - k) []
theorem partB_zero (n : Nat) : partB n 0 = List.replicate n [] := by simp [partB]
theorem partB_all (n : Nat) : partB n n = baseM n := by
  unfold partB
  rw [Nat.sub_self, List.replicate_zero, List.append_nil, List.take_of_length_le (by rw [(baseM_sq n).1]; exact Nat.le_refl _)]
theorem partB_step {n k : Nat} (hk : k < n) : (partB n k).set k ((List.replicate n 99990).set k 0) = partB n (k + 1) := by
  unfold partB
  have hl : ((baseM n).take k).length = k := by rw [List.length_take, (baseM_sq n).1]; omega
  rw [List.set_append_right _ _ (by omega), hl, Nat.sub_self, show n - k = (n - (k + 1)) + 1 from by omega, List.replicate_succ, List.set_cons_zero, List.take_add_one, baseM_row hk]
  simp
theorem initT_sq {n : Nat} {xs : List VClaim} (hc : areCl (n : Int) xs = true) (t : Nat) : SqM n ((clE (xs.take t)).foldl relaxM (baseM n)) := by
  have hf : FitM (clE (xs.take t)) n 9999 := fun u v w he => by
    obtain ⟨x, hx, hh⟩ := mem_clE.1 he
    exact areCl_fit hc u v w (mem_clE.2 ⟨x, List.mem_of_mem_take hx, hh⟩)
  exact (initM_facts (Int.le_refl _) _ hf (baseM n) (baseM_sq n) (fun i hi => by rw [baseM_at hi hi, if_pos rfl]) (fun i j hi hj => by rw [baseM_at hi hj]; split <;> omega)).1
/-- The table, the claim's box, and the world below as it was. -/
def TabBox (w : World) (hb k : Nat) (D : List (List Int)) (x : VClaim) (wx : World) : Prop :=
  MatIn w.heap.size hb wx w.heap.size k D ∧ Below w.heap.size w wx ∧ BoxClaim wx hb x
theorem take_relax {xs : List VClaim} {t : Nat} {x : VClaim} (h : xs[t]? = some x) (D : List (List Int)) : (clE (xs.take (t + 1))).foldl relaxM D = relaxM (relaxM ((clE (xs.take t)).foldl relaxM D) (x.Low.toNat, x.High.toNat, x.Most)) (x.High.toNat, x.Low.toNat, -x.Least) := by
  rw [List.take_add_one, h]
  simp [clE]
set_option maxHeartbeats 12800000 in
set_option maxRecDepth 100000 in
theorem claimedRises_any (n : Nat) (a : Option Addr) (len cap : Nat) (xs : List VClaim) (w : World) (h : IsClaimS w a len cap xs) (hc : areCl (n : Int) xs = true) :
    Calls Try.prog 89 #[.int .i64 (n : Int), .slice a len cap] w fun e w' => e = .returned (.slice (some ⟨w.heap.size, 0, none⟩) n n) ∧ MatIn w.heap.size w'.heap.size w' w.heap.size n (initM n (clE xs)) ∧ Below w.heap.size w w' := by
  have hm := h.2.2.1
  have hcl := h.2.1
  unfold maxLen at hm
  obtain rfl := h.1
  obtain ⟨i0, hi, hz0, hz1, hz2⟩ := info_parts infoIntS
  have hn := (areCl_iff.1 hc).2.1
  have S := Lib.hid h
  have C := Lib.hid hc
  have hn1 : 1 ≤ n := by omega
  have hn2 : n ≤ 10 := by omega
  clear h hc hn
  go_enter Try.func89, Try.ntmps89
  go_wp2_with (refine wpList_make_full _ rfl _ _ 88 rfl w.heap.size 25 i0 (.slice none 0 0) 1 Try.underlying88 hi hz0 hz1 .i64 .i64 _ _ n rfl rfl rfl rfl (by rw [hz2]; omega) (by unfold maxLen; omega) (Nat.le_refl _) ?_; intro w1 hown hgrow; have B1 := Lib.hid ((Below.refl w.heap.size w).grown hgrow (Nat.le_refl _) (fun k e => by cases e)); have O1 := Lib.hid hown; clear hown hgrow)
  have M1 := Lib.hid (show MatIn w.heap.size w1.heap.size w1 w.heap.size n (partB n 0) from by
    have h := O1.out
    rw [Nat.mul_one, madeIntS] at h
    rw [partB_zero]
    exact MatIn.made h (h.lt w.heap.size rfl).2)
  clear O1
  go_loopw [12] (fun i wr => ∃ k : Nat, k ≤ n ∧ i = .int .i64 k ∧ MatIn w.heap.size wr.heap.size wr w.heap.size n (partB n k) ∧ Below w.heap.size w wr) (fun i _ => n - (intOf i).toNat)
  case atStart => exact ⟨0, Nat.zero_le _, rfl, M1.out, B1.out⟩
  case round =>
    obtain ⟨k, hk, rfl, hmat, hbel⟩ := hrel
    have M := Lib.hid hmat
    have B := Lib.hid hbel
    by_cases hlt : k < n
    · have hlt2 : (k : Int) < (n : Int) := by omega
      have hk0 : (0 : Int) ≤ (k : Int) := by omega
      have LB := Lib.hid (cell_box wr (.int .i64 99990) 3 _ rfl)
      clear hmat hbel
      go_wp2_with fail
      refine (repeat_any 99990 n wr.heap.size _ hn1 hn2 LB.out).mono ?_
      rintro e w2 ⟨rfl, hrow, hb⟩
      have hsz : (wr.alloc (.cells #[.int .i64 99990] 3)).heap.size = wr.heap.size + 1 := size_al _ _
      rw [hsz] at hrow
      have hba := Below.then' (bel_al1 wr (.cells #[.int .i64 99990] 3)) hb
      have M2 := M.out.below hba
      have lay := M2.lay hlt (hi2 := w2.heap.size) (ownsRow_base hrow (Nat.le_succ _)) hba.size (Nat.le_refl _) (by simp) hn1
      obtain ⟨u0, c0⟩ := M2.there hlt
      have f0 := M2.free k
      obtain ⟨⟨u1, c1⟩, f1, m1, g1⟩ := lay.2.2 k 0 hlt
      rw [partB_step hlt] at m1
      have e0 := World.cell?_setCell_same' w2 ⟨w.heap.size, k, none⟩ (.slice (some ⟨wr.heap.size + 1, 0, none⟩) n n) (by rw [c0]; rfl)
      have B2 := Lib.hid (Below.then' B.out hba)
      have B3 := Lib.hid (B2.out.grown lay.2.1 B2.out.size (fun j e => by cases e; exact Nat.le_refl _))
      have hg1 := (hrow.lt _ rfl).1
      have hs2 := B.out.size
      have B4 := Lib.hid (B3.out.grown g1 B3.out.size (fun j e => by cases e; omega))
      have M4 := Lib.hid m1
      have G1 := Lib.hid g1
      have HS := Lib.hid lay.2.1.size
      rw [hsz]
      clear hrow hba M2 lay m1 g1 hb
      go_wp2
      go_roundw
      case rel => exact ⟨k + 1, by omega, by go_num, M4.out.mono (Nat.le_refl _) (by have := HS.out; have := G1.out.size; omega), B4.out⟩
      case measure => simp [intOf]; omega
    · obtain rfl : k = n := by omega
      rw [partB_all] at hmat
      have M := Lib.hid hmat
      have B := Lib.hid hbel
      clear hmat hbel M1 B1
      rename World => w3
      go_wp2
      go_loopw [30, 8] (fun i _ wr => ∃ t : Nat, t ≤ xs.length ∧ i = .int .i64 t ∧ MatIn w.heap.size wr.heap.size wr w.heap.size k ((clE (xs.take t)).foldl relaxM (baseM k)) ∧ Below w.heap.size w wr) (fun i _ _ => xs.length - (intOf i).toNat)
      case atStart => exact ⟨0, Nat.zero_le _, rfl, M.out, B.out⟩
      case round =>
        obtain ⟨t, ht, rfl, hmat, hbel⟩ := hrel
        have M := Lib.hid hmat
        have B := Lib.hid hbel
        by_cases hlt2 : t < xs.length
        · obtain ⟨x, hx⟩ : ∃ x, xs[t]? = some x := ⟨xs[t]'hlt2, List.getElem?_eq_getElem _⟩
          obtain ⟨b, o, rfl, hbw, hat⟩ := (S.out.below hbel).at (by omega)
          obtain ⟨c0, c1, c2, c3⟩ := hat t x hx
          have hcl := clB_iff.1 ((areCl_iff.1 C.out).1 x (List.mem_of_getElem? hx))
          have SQ := Lib.hid (initT_sq C.out t)
          have TKx := take_relax hx (baseM k)
          obtain ⟨xl, xh, le, mo⟩ := x
          simp only [] at c0 c1 c2 c3 hcl TKx
          obtain ⟨lo, rfl⟩ : ∃ lo : Nat, xl = (lo : Int) := ⟨xl.toNat, by omega⟩
          obtain ⟨hi', rfl⟩ : ∃ hi : Nat, xh = (hi : Int) := ⟨xh.toNat, by omega⟩
          rw [Int.toNat_natCast, Int.toNat_natCast] at TKx
          have TK := Lib.hid TKx
          have b1 : lo < k := by omega
          have b2 : hi' < k := by omega
          have b5 : ¬ lo = hi' := by omega
          have b4 : -9999 ≤ le ∧ le ≤ 9999 := by omega
          have i1 : (0 : Int) ≤ (lo : Int) := by omega
          have i2 : (lo : Int) < (k : Int) := by omega
          have i3 : (0 : Int) ≤ (hi' : Int) := by omega
          have i4 : (hi' : Int) < (k : Int) := by omega
          have i5 : (0 : Int) ≤ (t : Int) := by omega
          have i6 : (t : Int) < (xs.length : Int) := by omega
          have hv1 : IntKind.i64.wrap (-le) = -le := IntWalk.i64_in _ (by omega)
          obtain ⟨D, hD⟩ : ∃ D, (clE (xs.take t)).foldl relaxM (baseM k) = D := ⟨_, rfl⟩
          rw [hD] at M SQ TK
          have ba := bel_al1 wr (.cells #[.int .i64 (lo : Int), .int .i64 (hi' : Int), .int .i64 le, .int .i64 mo] 38)
          have XA := BoxClaim.new wr 38 ⟨(lo : Int), (hi' : Int), le, mo⟩ _ rfl
          have MA := M.out.below ba
          have BA := Below.then' hbel ba
          have HBX := Lib.hid (show w.heap.size < wr.heap.size from M.out.head.2.2.1)
          clear hmat hbel hx hat hcl TKx hD ba
          go_wp2
          refine wp_world (fun W => TabBox w wr.heap.size k D ⟨(lo : Int), (hi' : Int), le, mo⟩ W) ⟨MA, BA, XA⟩ ?_
          clear MA BA XA c0 c1 c2 c3
          rintro W0 ht0
          have T0 := Lib.hid ht0
          have SQ0 := SQ
          clear ht0 SQ
          go_upto_region 11 with (fail)
          go_cut [53] (fun _ wx => TabBox w wr.heap.size k (relaxM D (lo, hi', mo)) ⟨(lo : Int), (hi' : Int), le, mo⟩ wx)
          case first =>
            obtain ⟨r, hr, hrl, _⟩ := SQ0.out.row (show lo < k by omega)
            obtain ⟨rb, rc, e0, rne, rlt, rcap, rcell, rfree, rst, _⟩ := T0.out.1.row hr (by omega)
            rw [hrl] at e0 rcap
            obtain ⟨z, hz⟩ : ∃ z, gI r hi' = z := ⟨_, rfl⟩
            have z0 := rcell hi' z (by rw [← hz]; exact gI_at (by omega))
            have f0 := rfree hi'
            obtain ⟨c0, c1, c2, c3⟩ := T0.out.2.2
            simp only [] at c0 c1 c2 c3
            have n1 : ¬ wr.heap.size = rb := by omega
            have n2 : ¬ wr.heap.size = w.heap.size := by have := HBX.out; omega
            have n3 : ¬ rb = w.heap.size := rne
            have ST := Lib.hid (show ∀ q : Int, q = min z (mo) → TabBox w wr.heap.size k (relaxM D (lo, hi', mo)) ⟨(lo : Int), (hi' : Int), le, mo⟩ ((W0.setCell ⟨rb, hi', none⟩ (.int .i64 q)).drew) from fun q hq => by
              subst hq
              have s := rst hi' (min z (mo))
              refine ⟨?_, bel_drew' (T0.out.2.1.grown s.2 T0.out.2.1.size (fun j e => by cases e; exact rlt.1)), (show BoxClaim (W0.setCell ⟨rb, hi', none⟩ (.int .i64 (min z (mo)))) wr.heap.size ⟨(lo : Int), (hi' : Int), le, mo⟩ from T0.out.2.2.grown s.2 (by simp only [ne_eq, Option.some.injEq]; exact n1))⟩
              have e1 : relaxM D (lo, hi', mo) = D.set lo (r.set hi' (min z (mo))) := by
                unfold relaxM; simp only []
                rw [List.getD_eq_getElem?_getD, hr, gM_some hr, hz]; rfl
              rw [e1]
              exact s.1.same rfl)
            clear rcell rfree rst hr hrl rcap hz rlt
            go_still_tail 20, (by kernel_rfl)
            change wpList _ _ _ _ _ W0.drew
            go_wp2
            all_goals go_meet
            all_goals exact ST.out _ (by omega)
          case rest =>
          have SQ1' := relaxM_sq (e := (lo, hi', mo)) SQ0.out (show lo < k by omega)
          obtain ⟨D1, hD1⟩ : ∃ Dn, relaxM D (lo, hi', mo) = Dn := ⟨_, rfl⟩
          rw [hD1] at hcut SQ1'
          have HD1 := Lib.hid hD1
          have SQ1 := Lib.hid SQ1'
          have T1 := Lib.hid hcut
          clear hcut SQ1' hD1
          rename World => W1
          obtain ⟨r, hr, hrl, _⟩ := SQ1.out.row (show hi' < k by omega)
          obtain ⟨rb, rc, e0, rne, rlt, rcap, rcell, rfree, rst, _⟩ := T1.out.1.row hr (by omega)
          rw [hrl] at e0 rcap
          obtain ⟨z, hz⟩ : ∃ z, gI r lo = z := ⟨_, rfl⟩
          have z0 := rcell lo z (by rw [← hz]; exact gI_at (by omega))
          have f0 := rfree lo
          obtain ⟨c0, c1, c2, c3⟩ := T1.out.2.2
          simp only [] at c0 c1 c2 c3
          have n1 : ¬ wr.heap.size = rb := by omega
          have n2 : ¬ wr.heap.size = w.heap.size := by have := HBX.out; omega
          have n3 : ¬ rb = w.heap.size := rne
          have ST := Lib.hid (show ∀ q : Int, q = min z (-le) → TabBox w wr.heap.size k (relaxM D1 (hi', lo, -le)) ⟨(lo : Int), (hi' : Int), le, mo⟩ ((W1.setCell ⟨rb, lo, none⟩ (.int .i64 q)).drew) from fun q hq => by
            subst hq
            have s := rst lo (min z (-le))
            refine ⟨?_, bel_drew' (T1.out.2.1.grown s.2 T1.out.2.1.size (fun j e => by cases e; exact rlt.1)), (show BoxClaim (W1.setCell ⟨rb, lo, none⟩ (.int .i64 (min z (-le)))) wr.heap.size ⟨(lo : Int), (hi' : Int), le, mo⟩ from T1.out.2.2.grown s.2 (by simp only [ne_eq, Option.some.injEq]; exact n1))⟩
            have e1 : relaxM D1 (hi', lo, -le) = D1.set hi' (r.set lo (min z (-le))) := by
              unfold relaxM; simp only []
              rw [List.getD_eq_getElem?_getD, hr, gM_some hr, hz]; rfl
            rw [e1]
            exact s.1.same rfl)
          clear rcell rfree rst hr hrl rcap hz rlt
          go_wp2
          go_still_tail 21, (by kernel_rfl)
          change wpList _ _ _ _ _ W1.drew
          go_wp2
          all_goals go_roundw
          all_goals first
            | exact ⟨t + 1, by omega, by go_num, by rw [TK.out, HD1.out]; exact (ST.out _ (by omega)).1.mono (Nat.le_refl _) (Nat.le_of_lt (ST.out _ (by omega)).2.2.lt), (ST.out _ (by omega)).2.1⟩
            | (simp [intOf]; omega)
        · obtain rfl : t = xs.length := by omega
          have E := Lib.hid (show (clE (xs.take xs.length)).foldl relaxM (baseM k) = initM k (clE xs) from by rw [List.take_of_length_le (Nat.le_refl _)]; rfl)
          rw [E.out] at M
          clear hmat hbel
          go_wp2
          go_ret
          exact ⟨rfl, M.out, B.out⟩
end Go.Proofs.Ytobpgoiaimlonaa
namespace Go.Proofs.Ytobpgoiaimlonaa
open Go.RowKit

/-- The table behind the rounds of the marks below v. -/
structure RiseTo (n : Nat) (E : List Edge) (v : Nat) (D : List (List Int)) : Prop where
  tab : Tab n v D
  closed : ClosedTo n v D
  le : ∀ i j, i < n → j < n → gM D i j ≤ gM (initM n E) i j
  pot : ∀ g, PotM n (initM n E) g → PotM n D g
theorem RiseTo.start {n : Nat} {E : List Edge} (hf : FitM E n 9999) : RiseTo n E 0 (initM n E) :=
  ⟨(initM_tab hf).1, fun i j k _ _ hk => by omega, fun i j _ _ => Int.le_refl _, fun _ h => h⟩
theorem RiseTo.end {n : Nat} {E : List Edge} {D : List (List Int)} (h : RiseTo n E n D) : RiseM n E D := ⟨h.tab, h.closed, h.le, h.pot⟩
theorem RiseTo.next {n v : Nat} {E : List Edge} {D X : List (List Int)} (h : RiseTo n E v D) (hp : PartM n v n 0 D X) (hv : v < n) (hok : ∀ i, i < n → 0 ≤ gM X i i) : RiseTo n E (v + 1) X :=
  ⟨hp.done h.tab hv hok, hp.closed h.tab hv h.closed, fun i j hi hj => Int.le_trans (hp.le hi hj) (h.le i j hi hj), fun g hg => hp.pot hv (h.pot g hg)⟩
theorem pow_bd {s : Nat} (h : s ≤ 10) : (1 : Int) ≤ 2 ^ s ∧ (2 : Int) ^ s ≤ 1024 := by
  have : s = 0 ∨ s = 1 ∨ s = 2 ∨ s = 3 ∨ s = 4 ∨ s = 5 ∨ s = 6 ∨ s = 7 ∨ s = 8 ∨ s = 9 ∨ s = 10 := by omega
  rcases this with rfl | rfl | rfl | rfl | rfl | rfl | rfl | rfl | rfl | rfl | rfl <;> decide
theorem part_bd {n v f t : Nat} {D X : List (List Int)} (h : PartM n v f t D X) (T : Tab n v D) (hv : v < n) (hn : n ≤ 10) {i j : Nat} (hi : i < n) (hj : j < n) : -200000000 ≤ gM X i j ∧ gM X i j ≤ 99990 := by
  have h1 := h.lo T hv hi hj
  have h2 := pow_bd (show v + 1 ≤ 10 by omega)
  omega
/-- What greatestRises leaves. -/
def RisePost (n : Nat) (xs : List VClaim) (w : World) (e : Ending) (w' : World) : Prop :=
  ∃ v, e = .returned (.tuple #[v, .bool (soundB n xs)]) ∧ (soundB n xs = true → ∃ D g, v = .slice (some ⟨g, 0, none⟩) n n ∧ RiseM n (clE xs) D ∧ MatIn w.heap.size w'.heap.size w' g n D) ∧ (soundB n xs = false → v = .slice none 0 0) ∧ Below w.heap.size w w'
/-- The slice of a row, still in its place. -/
def RowAt (w : World) (g f n rb rc : Nat) : Prop := w.cell? ⟨g, f, none⟩ = some (.slice (some ⟨rb, 0, none⟩) n rc)
set_option maxHeartbeats 25600000 in
set_option maxRecDepth 100000 in
theorem greatestRises_any (n : Nat) (a : Option Addr) (len cap : Nat) (xs : List VClaim) (w : World) (h : IsClaimS w a len cap xs) (hc : areCl (n : Int) xs = true) :
    Calls Try.prog 77 #[.int .i64 (n : Int), .slice a len cap] w (RisePost n xs w) := by
  have hn := (areCl_iff.1 hc).2.1
  have hn1 : 1 ≤ n := by omega
  have hn2 : n ≤ 10 := by omega
  have S := Lib.hid h
  have C := Lib.hid hc
  have FT := Lib.hid (areCl_fit hc)
  clear h hc hn
  go_enter Try.func77, Try.ntmps77
  go_wp2_with fail
  refine (claimedRises_any n _ _ _ xs _ S.out C.out).mono ?_
  rintro e w1 ⟨rfl, hmat, hb⟩
  have M1 := Lib.hid hmat
  have B1 := Lib.hid hb
  clear hmat hb
  go_wp2
  go_loopw [15] (fun i wr => ∃ (v : Nat) (D : List (List Int)), v ≤ n ∧ i = .int .i64 v ∧ RiseTo n (clE xs) v D ∧ MatIn w.heap.size wr.heap.size wr w.heap.size n D ∧ Below w.heap.size w wr) (fun i _ => n - (intOf i).toNat)
  case atStart => exact ⟨0, _, Nat.zero_le _, rfl, RiseTo.start FT.out, M1.out, B1.out⟩
  case round =>
    obtain ⟨v, D, hv, rfl, hrt, hmat, hbel⟩ := hrel
    have RT := Lib.hid hrt
    have M := Lib.hid hmat
    have B := Lib.hid hbel
    clear hrt hmat hbel
    by_cases hvn : v < n
    · have hv1 : (v : Int) < (n : Int) := by omega
      have hv0 : (0 : Int) ≤ (v : Int) := by omega
      have P0 := Lib.hid (PartM.start (v := v) RT.out.tab.sq)
      have DG := Lib.hid (RT.out.tab.diag v hvn)
      go_wp2
      rename World => wa
      go_loopw [20] (fun i wr => ∃ (f : Nat) (X : List (List Int)), f ≤ n ∧ i = .int .i64 f ∧ PartM n v f 0 D X ∧ (∀ i, i < f → 0 ≤ gM X i i) ∧ MatIn w.heap.size wr.heap.size wr w.heap.size n X ∧ Below w.heap.size w wr) (fun i _ => n - (intOf i).toNat)
      case atStart => exact ⟨0, D, Nat.zero_le _, rfl, P0.out, fun i hi => by omega, M.out, B.out⟩
      case round =>
        obtain ⟨f, X, hf, rfl, hpart, hdia, hmat, hbel⟩ := hrel
        have P := Lib.hid hpart
        have DI := Lib.hid hdia
        have MX := Lib.hid hmat
        have BX := Lib.hid hbel
        clear hpart hdia hmat hbel
        by_cases hfn : f < n
        · have hf1 : (f : Int) < (n : Int) := by omega
          have hf0 : (0 : Int) ≤ (f : Int) := by omega
          obtain ⟨r, hr, hrl, _⟩ := P.out.1.row hfn
          obtain ⟨rb, rc, e0, _, _, rcap, _, _, _, _⟩ := MX.out.row hr (by omega)
          rw [hrl] at e0 rcap
          have RA := Lib.hid (show RowAt wr w.heap.size f n rb rc from e0)
          have rc1 := rcap.1
          have rc2 := rcap.2
          unfold maxLen at rc2
          clear hr hrl rcap
          go_wp2
          clear e0
          rename World => wb
          go_loopw [26] (fun i wr => ∃ (t : Nat) (X : List (List Int)), t ≤ n ∧ i = .int .i64 t ∧ PartM n v f t D X ∧ (∀ i, i < f → 0 ≤ gM X i i) ∧ RowAt wr w.heap.size f n rb rc ∧ MatIn w.heap.size wr.heap.size wr w.heap.size n X ∧ Below w.heap.size w wr) (fun i _ => n - (intOf i).toNat)
          case atStart => exact ⟨0, X, Nat.zero_le _, rfl, P.out, DI.out, RA.out, MX.out, BX.out⟩
          case round =>
            obtain ⟨t, X, ht, rfl, hpart, hdia, hra, hmat, hbel⟩ := hrel
            have P := Lib.hid hpart
            have DI := Lib.hid hdia
            have RA := Lib.hid hra
            have MX := Lib.hid hmat
            have BX := Lib.hid hbel
            clear hpart hdia hra hmat hbel
            obtain ⟨r, hr, hrl, _⟩ := P.out.1.row hfn
            obtain ⟨rb', rc', e0, rne, rlt, _, rcell, rfree, rst, _⟩ := MX.out.row hr (by omega)
            rw [hrl] at e0
            obtain ⟨rfl, rfl⟩ : rb' = rb ∧ rc' = rc := by
              have := e0.symm.trans RA.out
              simp only [Option.some.injEq, Value.slice.injEq, Addr.mk.injEq, and_true, true_and] at this
              exact this
            by_cases htn : t < n
            · have ht1 : (t : Int) < (n : Int) := by omega
              have ht0 : (0 : Int) ≤ (t : Int) := by omega
              obtain ⟨r2, hr2, hrl2, _⟩ := P.out.1.row hvn
              obtain ⟨vb, vc, eV, _, _, vcap, vcell, _, _, _⟩ := MX.out.row hr2 (by omega)
              rw [hrl2] at eV vcap
              have vc1 := vcap.1
              have vc2 := vcap.2
              unfold maxLen at vc2
              have bd1 := part_bd P.out RT.out.tab hvn hn2 hfn hvn
              have bd2 := part_bd P.out RT.out.tab hvn hn2 hvn htn
              obtain ⟨p1, hp1⟩ : ∃ z, gI r t = z := ⟨_, rfl⟩
              obtain ⟨p2, hp2⟩ : ∃ z, gI r v = z := ⟨_, rfl⟩
              obtain ⟨p3, hp3⟩ : ∃ z, gM X v t = z := ⟨_, rfl⟩
              rw [gM_some hr, hp2] at bd1
              rw [hp3] at bd2
              have z1 := rcell t p1 (by rw [← hp1]; exact gI_at (by omega))
              have z2 := rcell v p2 (by rw [← hp2]; exact gI_at (by omega))
              have z3 := vcell t p3 (by rw [← hp3, gM_some hr2]; exact gI_at (by omega))
              have f0 := rfree t
              have hw1 : IntKind.i64.wrap (p2 + p3) = p2 + p3 := IntWalk.i64_in _ (by omega)
              have n3 : ¬ rb' = w.heap.size := rne
              have ST := Lib.hid (show ∀ q : Int, q = min p1 (p2 + p3) → PartM n v f (t + 1) D (X.set f (r.set t q)) ∧ (∀ i, i < f → 0 ≤ gM (X.set f (r.set t q)) i i) ∧ RowAt ((wr.setCell ⟨rb', t, none⟩ (.int .i64 q)).drew) w.heap.size f n rb' rc' ∧ MatIn w.heap.size ((wr.setCell ⟨rb', t, none⟩ (.int .i64 q)).drew).heap.size ((wr.setCell ⟨rb', t, none⟩ (.int .i64 q)).drew) w.heap.size n (X.set f (r.set t q)) ∧ Below w.heap.size w ((wr.setCell ⟨rb', t, none⟩ (.int .i64 q)).drew) from fun q hq => by
                subst hq
                have s := rst t (min p1 (p2 + p3))
                have hs := P.out.step DG.out hvn hfn htn hr
                rw [hp1, hp2, hp3] at hs
                refine ⟨hs, fun i hi => ?_, ?_, (s.1.same rfl).mono (Nat.le_refl _) s.2.size, bel_drew' (BX.out.grown s.2 BX.out.size (fun j e => by cases e; exact rlt.1))⟩
                · rw [gM_set _ _ _ _ _ (by rw [P.out.1.1]; exact hfn), if_neg (by omega)]
                  exact DI.out i hi
                · exact (World.cell?_of_block (a := ⟨w.heap.size, f, none⟩) (s.2.block w.heap.size MX.out.head.2.2.2.1 (fun e => by have := Option.some.inj e; omega))).trans RA.out)
              clear rcell rfree rst vcell vcap hr hr2 hp1 hp2 hp3 hrl hrl2 bd1 bd2 rlt e0
              go_wp2
              go_still_tail 20, (by kernel_rfl)
              change wpList _ _ _ _ _ wr.drew
              go_wp2
              all_goals go_roundw
              all_goals first
                | exact ⟨t + 1, _, by omega, by go_num, ST.out _ (by omega)⟩
                | (simp [intOf]; omega)
            · obtain rfl : t = n := by omega
              obtain ⟨y, hy⟩ : ∃ y, gI r f = y := ⟨_, rfl⟩
              have z1 := rcell f y (by rw [← hy]; exact gI_at (by omega))
              have GY := Lib.hid (show gM X f f = y from by rw [gM_some hr, hy])
              clear rcell rfree rst hr hy rlt e0
              by_cases hneg : y < 0
              · have NO := Lib.hid (no_sound FT.out hn2 (fun g hg => P.out.pot hvn (RT.out.pot g hg)) hfn (by rw [GY.out]; exact hneg))
                go_wp2
                first | go_ret2 | (rw [Exit.noGoto_ret]; go_ret2)
                exact ⟨_, by rw [show soundB t xs = false from NO.out]; rfl, fun h => (by rw [show soundB t xs = false from NO.out] at h; cases h), fun _ => rfl, BX.out⟩
              · have DI2 := Lib.hid (show ∀ i, i < f + 1 → 0 ≤ gM X i i from fun i hi => by
                  by_cases e : i = f
                  · subst e; rw [GY.out]; omega
                  · exact DI.out i (by omega))
                go_wp2
                go_roundw
                case rel => exact ⟨f + 1, X, by omega, by go_num, P.out.next, DI2.out, MX.out, BX.out⟩
                case measure => simp [intOf]; omega
        · obtain rfl : f = n := by omega
          go_wp2
          go_roundw
          case rel => exact ⟨v + 1, X, by omega, by go_num, RT.out.next P.out hvn DI.out, MX.out, BX.out⟩
          case measure => simp [intOf]; omega
    · obtain rfl : v = n := by omega
      have SO := Lib.hid (rise_sound C.out RT.out.end)
      go_wp2
      go_ret2
      exact ⟨_, by rw [SO.out]; rfl, fun _ => ⟨D, w.heap.size, rfl, RT.out.end, M.out⟩, fun h => (by rw [SO.out] at h; cases h), B.out⟩
end Go.Proofs.Ytobpgoiaimlonaa
