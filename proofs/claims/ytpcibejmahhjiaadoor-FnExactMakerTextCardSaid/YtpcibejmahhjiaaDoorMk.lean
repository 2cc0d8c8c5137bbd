/- Makers: when one and a list of them are valid; the line of a maker; the result functions of the chapter. Plain mathematics. -/
import Derived.Test.YtpcibejmahhjiaaDoorMakerT
import Derived.Test.YtpcibejmahhjiaaDoorUp2
import Derived.Test.YtpcibejmahhjiaaDoorPick
import Derived.Test.YtpcibejmahhjiaaDoorRd
import Derived.Test.YtpcibejmahhjiaaDoorInts
namespace Go.Proofs.YtpcibejmahhjiaaDoor
open Go.RowKit

def yearB (y : Int) : Bool := inB y 1500 2100
def VMaker.ok (m : VMaker) : Bool := inB m.Id 1 99 && (wordB m.Name && (yearB m.From && (yearB m.Until && (decide (m.From ≤ m.Until) && (inB m.Heir 0 99 && !(m.Heir == m.Id))))))
theorem mkOk_iff {m : VMaker} : m.ok = true ↔ (1 ≤ m.Id ∧ m.Id ≤ 99) ∧ wordB m.Name = true ∧ (1500 ≤ m.From ∧ m.From ≤ 2100) ∧ (1500 ≤ m.Until ∧ m.Until ≤ 2100) ∧ m.From ≤ m.Until ∧ (0 ≤ m.Heir ∧ m.Heir ≤ 99) ∧ ¬ m.Heir = m.Id := by
  simp [VMaker.ok, yearB, inB]
/-- Where the maker with an Id stands, or -1. -/
def mkIdx (xs : List VMaker) (id : Int) : Int := firstOf (fun t => t.Id == id) xs
/-- Begins a maker with the Id after the year? -/
def aftB (xs : List VMaker) (id : Int) (y : Int) : Bool := match xs[(mkIdx xs id).toNat]? with | some h => decide (0 ≤ mkIdx xs id) && decide (y < h.From) | none => false
def heirB (xs : List VMaker) (m : VMaker) : Bool := m.Heir == 0 || aftB xs m.Heir m.Until
def mkUp (xs : List VMaker) : Bool := upB VMaker.ok VMaker.Id xs && decide (xs.length ≤ 10)
def areMk (xs : List VMaker) : Bool := mkUp xs && xs.all (heirB xs)
theorem areMk_up {xs : List VMaker} (h : areMk xs = true) : upB VMaker.ok VMaker.Id xs = true := by simp [areMk, mkUp] at h; exact h.1.1
theorem areMk_len {xs : List VMaker} (h : areMk xs = true) : xs.length ≤ 10 := by simp [areMk, mkUp] at h; exact h.1.2
theorem areMk_ok {xs : List VMaker} (h : areMk xs = true) {m : VMaker} (hm : m ∈ xs) : m.ok = true := upB_ok (areMk_up h) hm
theorem areMk_heir {xs : List VMaker} (h : areMk xs = true) {m : VMaker} (hm : m ∈ xs) : heirB xs m = true := by simp only [areMk, Bool.and_eq_true, List.all_eq_true] at h; exact h.2 m hm
theorem mkIdx_cases (xs : List VMaker) (id : Int) : (mkIdx xs id = -1 ∧ ∀ s ∈ xs, ¬ s.Id = id) ∨ ∃ (i : Nat) (s : VMaker), mkIdx xs id = (i : Int) ∧ xs[i]? = some s ∧ s.Id = id := by
  rcases firstOf_cases (fun t : VMaker => t.Id == id) xs with ⟨h1, h2⟩ | ⟨i, s, h1, h2, h3, _⟩
  · exact .inl ⟨h1, fun s hs => by simpa using h2 s hs⟩
  · exact .inr ⟨i, s, h1, h2, by simpa using h3⟩
theorem mkIdx_bd (xs : List VMaker) (id : Int) : -1 ≤ mkIdx xs id ∧ mkIdx xs id < (xs.length : Int) := firstOf_bd _ _
theorem mkIdx_zero {xs : List VMaker} (h : areMk xs = true) : mkIdx xs 0 = -1 := by
  rcases mkIdx_cases xs 0 with ⟨h1, _⟩ | ⟨i, s, _, h2, h3⟩
  · exact h1
  · have := (mkOk_iff.1 (areMk_ok h (List.mem_of_getElem? h2))).1; omega
theorem mkIdx_at {xs : List VMaker} (h : areMk xs = true) {i : Nat} {s : VMaker} (hs : xs[i]? = some s) : mkIdx xs s.Id = (i : Int) := upB_first (areMk_up h) hs

/-- The index of the heir of maker k, or -1. -/
def mkNext (xs : List VMaker) (k : Nat) : Int := match xs[k]? with | some m => mkIdx xs m.Heir | none => -1
theorem mkNext_some {xs : List VMaker} {k : Nat} {m : VMaker} (hm : xs[k]? = some m) : mkNext xs k = mkIdx xs m.Heir := by unfold mkNext; rw [hm]
theorem mkNext_bd (xs : List VMaker) (k : Nat) : -1 ≤ mkNext xs k ∧ mkNext xs k < (xs.length : Int) := by
  unfold mkNext
  cases xs[k]? with
  | none => simp; omega
  | some m => exact mkIdx_bd _ _
/-- From of maker k; how far it is to the end of all years. -/
def mkYears (xs : List VMaker) (k : Nat) : Nat := match xs[k]? with | some m => (2101 - m.From).toNat | none => 0
theorem mkYears_some {xs : List VMaker} {k : Nat} {m : VMaker} (hm : xs[k]? = some m) : mkYears xs k = (2101 - m.From).toNat := by unfold mkYears; rw [hm]
theorem heir_after {xs : List VMaker} (h : areMk xs = true) {k : Nat} {m : VMaker} (hm : xs[k]? = some m) (hn : 0 ≤ mkNext xs k) : ∃ t, xs[(mkNext xs k).toNat]? = some t ∧ m.Until < t.From ∧ t.Id = m.Heir := by
  have h0 : ¬ m.Heir = 0 := by
    intro e
    rw [mkNext_some hm, e, mkIdx_zero h] at hn; omega
  have h1 := areMk_heir h (List.mem_of_getElem? hm)
  rw [mkNext_some hm] at hn ⊢
  rcases mkIdx_cases xs m.Heir with ⟨h2, _⟩ | ⟨i, s, h2, h3, h4⟩
  · omega
  · rw [h2]
    refine ⟨s, h3, ?_, h4⟩
    simp [heirB, aftB, h0, h2, h3] at h1
    exact h1
theorem heir_there {xs : List VMaker} (h : areMk xs = true) {k : Nat} {m : VMaker} (hm : xs[k]? = some m) : mkNext xs k < 0 ↔ m.Heir = 0 := by
  constructor
  · intro hn
    have h1 := areMk_heir h (List.mem_of_getElem? hm)
    rw [mkNext_some hm] at hn
    by_cases h0 : m.Heir = 0
    · exact h0
    · simp only [heirB, aftB, Bool.or_eq_true, beq_iff_eq, h0, false_or] at h1
      cases hg : xs[(mkIdx xs m.Heir).toNat]? with
      | none => rw [hg] at h1; simp at h1
      | some t => rw [hg] at h1; simp at h1; omega
  · intro e
    rw [mkNext_some hm, e, mkIdx_zero h]; omega
theorem mkYears_next {xs : List VMaker} (h : areMk xs = true) {k : Nat} (hk : k < xs.length) (hn : 0 ≤ mkNext xs k) : mkYears xs (mkNext xs k).toNat < mkYears xs k := by
  obtain ⟨m, hm⟩ : ∃ m, xs[k]? = some m := ⟨xs[k], List.getElem?_eq_getElem _⟩
  obtain ⟨t, ht, hlt, _⟩ := heir_after h hm hn
  have o1 := mkOk_iff.1 (areMk_ok h (List.mem_of_getElem? hm))
  have o2 := mkOk_iff.1 (areMk_ok h (List.mem_of_getElem? ht))
  rw [mkYears_some hm, mkYears_some ht]; omega
/-- The line from maker k on, by places, n makers of it at most. -/
def lineN (xs : List VMaker) : Nat → Nat → List Nat
  | 0, _ => []
  | n + 1, k => k :: (if mkNext xs k < 0 then [] else lineN xs n (mkNext xs k).toNat)
def lineI (xs : List VMaker) (k : Nat) : List Nat := lineN xs 601 k
theorem lineN_enough {xs : List VMaker} (h : areMk xs = true) : ∀ (n k n' : Nat), k < xs.length → mkYears xs k ≤ n → mkYears xs k ≤ n' → lineN xs n k = lineN xs n' k := by
  intro n
  induction n with
  | zero =>
    intro k n' hk h0
    obtain ⟨m, hm⟩ : ∃ m, xs[k]? = some m := ⟨xs[k], List.getElem?_eq_getElem _⟩
    have o1 := mkOk_iff.1 (areMk_ok h (List.mem_of_getElem? hm))
    rw [mkYears_some hm] at h0; omega
  | succ n ih =>
    intro k n' hk h0 h1
    have hp : 0 < mkYears xs k := by
      obtain ⟨m, hm⟩ : ∃ m, xs[k]? = some m := ⟨xs[k], List.getElem?_eq_getElem _⟩
      have o1 := mkOk_iff.1 (areMk_ok h (List.mem_of_getElem? hm))
      rw [mkYears_some hm]; omega
    obtain ⟨j, rfl⟩ : ∃ j, n' = j + 1 := ⟨n' - 1, by omega⟩
    unfold lineN
    by_cases hn : mkNext xs k < 0
    · rw [if_pos hn, if_pos hn]
    · rw [if_neg hn, if_neg hn]
      have h2 := mkYears_next h hk (by omega)
      have h3 := mkNext_bd xs k
      rw [ih (mkNext xs k).toNat j (by omega) (by omega) (by omega)]
theorem mkYears_le {xs : List VMaker} (h : areMk xs = true) {k : Nat} (hk : k < xs.length) : mkYears xs k ≤ 601 := by
  obtain ⟨m, hm⟩ : ∃ m, xs[k]? = some m := ⟨xs[k], List.getElem?_eq_getElem _⟩
  have o1 := mkOk_iff.1 (areMk_ok h (List.mem_of_getElem? hm))
  rw [mkYears_some hm]; omega
theorem lineI_step {xs : List VMaker} (h : areMk xs = true) {k : Nat} (hk : k < xs.length) : lineI xs k = k :: (if mkNext xs k < 0 then [] else lineI xs (mkNext xs k).toNat) := by
  unfold lineI
  rw [show (601 : Nat) = 600 + 1 from rfl, lineN]
  by_cases hn : mkNext xs k < 0
  · rw [if_pos hn, if_pos hn]
  · rw [if_neg hn, if_neg hn]
    have h2 := mkYears_next h hk (by omega)
    have h3 := mkNext_bd xs k
    have h4 := mkYears_le h hk
    rw [lineN_enough h 600 (mkNext xs k).toNat (600 + 1) (by omega) (by omega) (by omega)]
theorem lineN_len (xs : List VMaker) : ∀ n k, (lineN xs n k).length ≤ n := by
  intro n
  induction n with
  | zero => intro k; simp [lineN]
  | succ n ih =>
    intro k
    unfold lineN
    by_cases hn : mkNext xs k < 0
    · rw [if_pos hn]; simp
    · rw [if_neg hn]; simp; exact ih _
theorem lineN_in {xs : List VMaker} : ∀ n k, k < xs.length → ∀ j ∈ lineN xs n k, j < xs.length := by
  intro n
  induction n with
  | zero => intro k _ j hj; simp [lineN] at hj
  | succ n ih =>
    intro k hk j hj
    unfold lineN at hj
    rw [List.mem_cons] at hj
    rcases hj with rfl | hj
    · exact hk
    · by_cases hn : mkNext xs k < 0
      · rw [if_pos hn] at hj; cases hj
      · rw [if_neg hn] at hj
        have h3 := mkNext_bd xs k
        exact ih _ (by omega) j hj
theorem lineI_len (xs : List VMaker) (k : Nat) : (lineI xs k).length ≤ 601 := lineN_len xs 601 k
theorem lineI_in {xs : List VMaker} {k : Nat} (hk : k < xs.length) : ∀ j ∈ lineI xs k, j < xs.length := lineN_in 601 k hk
/-- What is left of the line at place k (none at -1). -/
def lineZ (xs : List VMaker) (k : Int) : List Nat := if k < 0 then [] else lineI xs k.toNat
theorem lineZ_nat (xs : List VMaker) (k : Nat) : lineZ xs (k : Int) = lineI xs k := by unfold lineZ; rw [if_neg (by omega)]; simp
theorem lineZ_step {xs : List VMaker} (h : areMk xs = true) {k : Nat} (hk : k < xs.length) : lineZ xs (k : Int) = k :: lineZ xs (mkNext xs k) := by
  rw [lineZ_nat, lineI_step h hk]; rfl
theorem lineZ_len (xs : List VMaker) (k : Int) : (lineZ xs k).length ≤ 601 := by
  unfold lineZ
  by_cases h : k < 0
  · rw [if_pos h]; simp
  · rw [if_neg h]; exact lineI_len _ _
/-- How far it is to the end, at place i. -/
def lineLeft (xs : List VMaker) (i : Int) : Nat := if i < 0 then 0 else 1 + mkYears xs i.toNat
theorem lineLeft_next {xs : List VMaker} (h : areMk xs = true) {k : Nat} (hk : k < xs.length) : lineLeft xs (mkNext xs k) < lineLeft xs (k : Int) := by
  unfold lineLeft
  rw [if_neg (by omega : ¬ (k : Int) < 0)]
  by_cases hn : mkNext xs k < 0
  · rw [if_pos hn]; omega
  · rw [if_neg hn]
    have := mkYears_next h hk (by omega)
    simp only [Int.toNat_natCast]; omega
def VMaker.zero : VMaker := ⟨0, ⟨#[]⟩, 0, 0, 0⟩
def mkAt (xs : List VMaker) (k : Nat) : VMaker := xs.getD k VMaker.zero
theorem mkAt_some {xs : List VMaker} {k : Nat} {m : VMaker} (hm : xs[k]? = some m) : mkAt xs k = m := by unfold mkAt; rw [List.getD_eq_getElem?_getD, hm]; rfl
/-- Where a maker stands in a valid list, or -1. -/
def mkSel (xs : List VMaker) (id : Int) : Int := if areMk xs = true then mkIdx xs id else -1
theorem mkSel_ways (xs : List VMaker) (id : Int) : (areMk xs = false ∧ mkSel xs id = -1) ∨ (areMk xs = true ∧ mkIdx xs id = -1 ∧ mkSel xs id = -1) ∨ ∃ (i : Nat) (s : VMaker), areMk xs = true ∧ mkIdx xs id = (i : Int) ∧ mkSel xs id = (i : Int) ∧ xs[i]? = some s ∧ i < xs.length ∧ s.Id = id := by
  cases h : areMk xs with
  | false => exact .inl ⟨rfl, by unfold mkSel; rw [h]; rfl⟩
  | true =>
    rcases mkIdx_cases xs id with ⟨h1, _⟩ | ⟨i, s, h1, h2, h3⟩
    · exact .inr (.inl ⟨rfl, h1, by unfold mkSel; rw [if_pos h, h1]⟩)
    · exact .inr (.inr ⟨i, s, rfl, h1, by unfold mkSel; rw [if_pos h, h1], h2, (List.getElem?_eq_some_iff.1 h2).1, h3⟩)
/-- The line of the maker with an Id: the makers, in order. -/
def lineMk (xs : List VMaker) (id : Int) : List VMaker := (lineZ xs (mkSel xs id)).map (mkAt xs)
theorem lineMk_none {xs : List VMaker} {id : Int} (h : mkSel xs id = -1) : lineMk xs id = [] := by unfold lineMk; rw [h]; rfl
theorem lineMk_len (xs : List VMaker) (id : Int) : (lineMk xs id).length ≤ 601 := by unfold lineMk; rw [List.length_map]; exact lineZ_len _ _
theorem lineZ_in {xs : List VMaker} {k : Int} (hk : k < (xs.length : Int)) : ∀ j ∈ lineZ xs k, j < xs.length := by
  intro j hj
  unfold lineZ at hj
  by_cases h : k < 0
  · rw [if_pos h] at hj; cases hj
  · rw [if_neg h] at hj; exact lineI_in (by omega) j hj
theorem mkSel_bd (xs : List VMaker) (id : Int) : -1 ≤ mkSel xs id ∧ mkSel xs id < (xs.length : Int) := by
  unfold mkSel
  split
  · exact mkIdx_bd _ _
  · omega
theorem lineMk_in {xs : List VMaker} {id : Int} : ∀ m ∈ lineMk xs id, m ∈ xs := by
  intro m hm
  obtain ⟨j, hj, rfl⟩ := List.mem_map.1 hm
  have hl := lineZ_in (mkSel_bd xs id).2 j hj
  rw [mkAt_some (List.getElem?_eq_getElem hl)]
  exact List.getElem_mem hl
theorem lineMk_pos (xs : List VMaker) (id : Int) : decide (0 < (lineMk xs id).length) = decide (0 ≤ mkSel xs id) := by
  rw [decide_eq_decide]
  unfold lineMk
  rw [List.length_map]
  rcases mkSel_ways xs id with ⟨_, h⟩ | ⟨_, _, h⟩ | ⟨i, s, ha, _, h, hs, hi, _⟩
  · rw [h]; simp [lineZ]
  · rw [h]; simp [lineZ]
  · rw [h, lineZ_step ha hi]; simp

theorem lineMk_ok (xs : List VMaker) (id : Int) : ∀ m ∈ lineMk xs id, m.ok = true := by
  intro m hm
  rcases mkSel_ways xs id with ⟨_, h⟩ | ⟨_, _, h⟩ | ⟨i, s, ha, _⟩
  · rw [lineMk_none h] at hm; cases hm
  · rw [lineMk_none h] at hm; cases hm
  · exact areMk_ok ha (lineMk_in m hm)

/-! The result functions. -/
def IsMaker_0 (m : VMaker) : Bool := m.ok
def AreMakers_0 (xs : List VMaker) : Bool := areMk xs
def LineOf_0 (xs : List VMaker) (id : Int) : List Int := (lineMk xs id).map VMaker.Id
def LineOf_1 (xs : List VMaker) (id : Int) : Bool := decide (0 ≤ mkSel xs id)
/-- The last one of a list whose From is at most the year: its Id, or 0. -/
def keep (y : Int) (l : List VMaker) : Int := l.foldl (fun b m => if m.From ≤ y then m.Id else b) 0
theorem keep_snoc (y : Int) (l : List VMaker) (m : VMaker) : keep y (l ++ [m]) = if m.From ≤ y then m.Id else keep y l := by simp [keep]
theorem keep_ge {y : Int} {l : List VMaker} (h : ∀ m ∈ l, 1 ≤ m.Id ∧ m.Id ≤ 99) : 0 ≤ keep y l ∧ keep y l ≤ 99 := by
  unfold keep
  suffices H : ∀ (l : List VMaker) b, 0 ≤ b ∧ b ≤ 99 → (∀ m ∈ l, 1 ≤ m.Id ∧ m.Id ≤ 99) → 0 ≤ l.foldl (fun b (m : VMaker) => if m.From ≤ y then m.Id else b) b ∧ l.foldl (fun b (m : VMaker) => if m.From ≤ y then m.Id else b) b ≤ 99 from H l 0 (by omega) h
  intro l
  induction l with
  | nil => intro b hb _; exact hb
  | cons x l ih =>
    intro b hb hl
    rw [List.foldl_cons]
    refine ih _ ?_ (fun m hm => hl m (List.mem_cons_of_mem _ hm))
    have := hl x (by simp)
    split <;> omega
def KeeperIn_0 (xs : List VMaker) (id : Int) (y : Int) : Int := if yearB y = true then keep y (lineMk xs id) else 0
def KeeperIn_1 (xs : List VMaker) (id : Int) (y : Int) : Bool := decide (0 < KeeperIn_0 xs id y)
theorem keeper_one (xs : List VMaker) (id y : Int) : KeeperIn_1 xs id y = !(KeeperIn_0 xs id y == 0) := by
  have h : 0 ≤ KeeperIn_0 xs id y := by
    unfold KeeperIn_0
    split
    · exact (keep_ge fun m hm => (mkOk_iff.1 (lineMk_ok xs id m hm)).1).1
    · omega
  unfold KeeperIn_1
  rw [Bool.eq_iff_iff]; simp; omega
def actB (y : Int) (m : VMaker) : Bool := inB y m.From m.Until
def ActiveIn_0 (xs : List VMaker) (y : Int) : List Int := if (areMk xs && yearB y) = true then (xs.filter (actB y)).map VMaker.Id else []
def ActiveIn_1 (xs : List VMaker) (y : Int) : Bool := areMk xs && yearB y
def founderB (xs : List VMaker) (m : VMaker) : Bool := !(xs.any fun o => o.Heir == m.Id)
def FounderIds_0 (xs : List VMaker) : List Int := if areMk xs = true then (xs.filter (founderB xs)).map VMaker.Id else []
def FounderIds_1 (xs : List VMaker) : Bool := areMk xs
/-- The first one of a line who is in the other, by the Id. -/
def comm (l o : List VMaker) : Option VMaker := l.find? fun m => o.any fun t => t.Id == m.Id
def FirstCommon_0 (xs : List VMaker) (a b : Int) : Int := match comm (lineMk xs a) (lineMk xs b) with | some m => m.Id | none => 0
def FirstCommon_1 (xs : List VMaker) (a b : Int) : Bool := (comm (lineMk xs a) (lineMk xs b)).isSome
def ended (m : VMaker) (y h : Int) : VMaker := ⟨m.Id, m.Name, m.From, y, h⟩
def endMk (xs : List VMaker) (id y h : Int) : List VMaker × Bool :=
  if mkSel xs id < 0 then ([], false) else
  if y ≤ (mkAt xs (mkSel xs id).toNat).Until ∧ areMk (xs.set (mkSel xs id).toNat (ended (mkAt xs (mkSel xs id).toNat) y h)) = true then (xs.set (mkSel xs id).toNat (ended (mkAt xs (mkSel xs id).toNat) y h), true) else ([], false)
def EndMaker_0 (xs : List VMaker) (id y h : Int) : List VMaker := (endMk xs id y h).1
def EndMaker_1 (xs : List VMaker) (id y h : Int) : Bool := (endMk xs id y h).2
/-- The sum of the years between the makers of a list. -/
def gapsTo (l : List VMaker) : Nat → Int
  | 0 => 0
  | n + 1 => gapsTo l n + (match l[n + 1]?, l[n]? with | some b, some a => b.From - a.Until - 1 | _, _ => 0)
def gaps (l : List VMaker) : Int := gapsTo l (l.length - 1)
def GapYears_0 (xs : List VMaker) (id : Int) : Int := gaps (lineMk xs id)
def GapYears_1 (xs : List VMaker) (id : Int) : Bool := decide (0 ≤ mkSel xs id)
theorem gapsTo_succ {l : List VMaker} {n : Nat} {a b : VMaker} (ha : l[n]? = some a) (hb : l[n + 1]? = some b) : gapsTo l (n + 1) = gapsTo l n + (b.From - a.Until - 1) := by
  rw [gapsTo, ha, hb]
theorem gapsTo_bd {l : List VMaker} (h : ∀ m ∈ l, m.ok = true) : ∀ n : Nat, -(n : Int) * 10000 ≤ gapsTo l n ∧ gapsTo l n ≤ (n : Int) * 10000 := by
  intro n
  induction n with
  | zero => simp [gapsTo]
  | succ n ih =>
    rw [gapsTo]
    cases h1 : l[n + 1]? with
    | none => simp; omega
    | some b =>
      cases h2 : l[n]? with
      | none => simp; omega
      | some a =>
        have o1 := mkOk_iff.1 (h a (List.mem_of_getElem? h2))
        have o2 := mkOk_iff.1 (h b (List.mem_of_getElem? h1))
        simp only []
        omega
theorem line_gt (xs : List VMaker) (id : Int) : decide ((0 : Int) < ((lineMk xs id).length : Int)) = decide (0 ≤ mkSel xs id) := by
  rw [← lineMk_pos, decide_eq_decide]; omega
def mkWork (m : VMaker) : Int := m.Until - m.From + 1
/-- The first one who works most. -/
def longestMk (xs : List VMaker) : VMaker := pickB (fun x m => decide (mkWork m < mkWork x)) VMaker.zero xs
def mkSome (xs : List VMaker) : Bool := areMk xs && decide (0 < xs.length)
def LongestMaker_0 (xs : List VMaker) : Int := if mkSome xs = true then (longestMk xs).Id else 0
def LongestMaker_1 (xs : List VMaker) : Int := if mkSome xs = true then mkWork (longestMk xs) else 0
def LongestMaker_2 (xs : List VMaker) : Bool := mkSome xs
theorem longest_in {xs : List VMaker} (h : 0 < xs.length) : longestMk xs ∈ xs := by
  have := pickB_mem (fun x m => decide (mkWork m < mkWork x)) VMaker.zero (ys := xs) xs.length h (Nat.le_refl _)
  rw [List.take_length] at this
  exact this
/-- Where the elements are told apart by a number, the same element is there exactly if one of the same number is. -/
theorem same_any {xs l : List VMaker} (h : areMk xs = true) (hl : ∀ t ∈ l, t ∈ xs) {m : VMaker} (hm : m ∈ xs) (eqv : VMaker → VMaker → Bool) (he : ∀ s t, eqv s t = true ↔ s = t) : l.any (eqv m) = l.any fun t => t.Id == m.Id := by
  rw [Bool.eq_iff_iff, List.any_eq_true, List.any_eq_true]
  constructor
  · rintro ⟨t, ht, e⟩
    have := (he m t).1 e
    subst this
    exact ⟨m, ht, by simp⟩
  · rintro ⟨t, ht, e⟩
    have h1 : t = m := upB_same (areMk_up h) (hl t ht) hm (by simpa using e)
    subst h1
    exact ⟨t, ht, (he t t).2 rfl⟩
theorem comm_none {l o : List VMaker} (h : ∀ (j : Nat) t, j < l.length → l[j]? = some t → (o.any fun u => u.Id == t.Id) = false) : comm l o = none := by
  unfold comm
  rw [List.find?_eq_none]
  intro m hm
  obtain ⟨j, hj⟩ := List.getElem?_of_mem hm
  rw [h j m (List.getElem?_eq_some_iff.1 hj).1 hj]; simp
theorem comm_some {l o : List VMaker} {k : Nat} {s : VMaker} (hs : l[k]? = some s) (hy : (o.any fun u => u.Id == s.Id) = true) (h : ∀ (j : Nat) t, j < k → l[j]? = some t → (o.any fun u => u.Id == t.Id) = false) : comm l o = some s := by
  unfold comm
  rw [List.find?_eq_some_iff_getElem]
  obtain ⟨hl, he⟩ := List.getElem?_eq_some_iff.1 hs
  refine ⟨hy, k, hl, he, fun j hj => ?_⟩
  rw [h j _ hj (List.getElem?_eq_getElem _)]; rfl
theorem endMk_no {xs : List VMaker} {id y h : Int} (hn : mkSel xs id = -1) : endMk xs id y h = ([], false) := by unfold endMk; rw [hn]; rfl
theorem endMk_at {xs : List VMaker} {id y h : Int} {i : Nat} {s : VMaker} (hn : mkSel xs id = (i : Int)) (hs : xs[i]? = some s) : endMk xs id y h = if y ≤ s.Until ∧ areMk (xs.set i (ended s y h)) = true then (xs.set i (ended s y h), true) else ([], false) := by
  unfold endMk; rw [hn, if_neg (by omega)]; simp only [Int.toNat_natCast]; rw [mkAt_some hs]
theorem LineOf_0_len (xs : List VMaker) (id : Int) (_ : xs.length ≤ 1048576) (_ : ∀ s ∈ xs, s.sized) : (LineOf_0 xs id).length ≤ 1000000 := by
  unfold LineOf_0; rw [List.length_map]; have := lineMk_len xs id; omega
theorem filter_le {xs : List VMaker} (h : areMk xs = true) (f : VMaker → Bool) : (xs.filter f).length ≤ 10 := Nat.le_trans (List.length_filter_le _ _) (areMk_len h)
theorem ActiveIn_0_len (xs : List VMaker) (y : Int) (_ : xs.length ≤ 1048576) (_ : ∀ s ∈ xs, s.sized) : (ActiveIn_0 xs y).length ≤ 1000000 := by
  unfold ActiveIn_0
  split
  · rename_i h
    rw [Bool.and_eq_true] at h
    rw [List.length_map]; have := filter_le h.1 (actB y); omega
  · simp
theorem FounderIds_0_len (xs : List VMaker) (_ : xs.length ≤ 1048576) (_ : ∀ s ∈ xs, s.sized) : (FounderIds_0 xs).length ≤ 1000000 := by
  unfold FounderIds_0
  split
  · rename_i h
    rw [List.length_map]; have := filter_le h (founderB xs); omega
  · simp
theorem EndMaker_0_len (xs : List VMaker) (id y h : Int) (_ : xs.length ≤ 1048576) (_ : ∀ s ∈ xs, s.sized) : (EndMaker_0 xs id y h).length ≤ 1000000 := by
  unfold EndMaker_0 endMk
  split
  · simp
  · split
    · rename_i hh
      have := areMk_len hh.2
      simp only []; omega
    · simp
theorem mkAt_in {xs : List VMaker} {k : Nat} (hk : k < xs.length) : mkAt xs k ∈ xs := by rw [mkAt_some (List.getElem?_eq_getElem hk)]; exact List.getElem_mem hk
theorem EndMaker_0_small (xs : List VMaker) (id y h : Int) (_ : xs.length ≤ 1048576) (hz : ∀ s ∈ xs, s.sized) : ∀ s ∈ EndMaker_0 xs id y h, s.sized := by
  unfold EndMaker_0 endMk
  split
  · intro s hs; cases hs
  · split
    · rename_i h0 _
      intro s hs
      have hb := (mkSel_bd xs id).2
      rcases List.mem_or_eq_of_mem_set hs with h1 | h1
      · exact hz s h1
      · subst h1
        have := hz _ (mkAt_in (xs := xs) (k := (mkSel xs id).toNat) (by omega))
        unfold VMaker.sized at this ⊢
        exact this
    · intro s hs; cases hs
end Go.Proofs.YtpcibejmahhjiaaDoor
