/- Reliefs: the result functions of the chapter. Plain mathematics. -/
import Derived.Test.YtodjgeffkfbpiaaLv
import Derived.Test.YtodjgeffkfbpiaaIntA2O
import Derived.Test.YtodjgeffkfbpiaaIntST2
namespace Go.Proofs.Ytodjgeffkfbpiaa
open Go.RowKit

def vsq (p : Sq) : VIntA2 := ⟨(p.1 : Int), (p.2 : Int)⟩
def sqZ (r c : Int) : Sq := (r.toNat, c.toNat)
/-- It is a relief and has the square. -/
def hasB (D : List VIntS) (r c : Int) : Bool := rlB D && (decide (0 ≤ r) && (decide (r < (D.length : Int)) && (decide (0 ≤ c) && decide (c < (colsN D : Int)))))
theorem hasB_yes {D : List VIntS} {r c : Int} (h : hasB D r c = true) : RL D ∧ ∃ p : Sq, inR D p ∧ r = (p.1 : Int) ∧ c = (p.2 : Int) := by
  unfold hasB at h
  simp only [Bool.and_eq_true, decide_eq_true_eq] at h
  obtain ⟨h1, h2, h3, h4, h5⟩ := h
  exact ⟨rlB_iff.1 h1, (r.toNat, c.toNat), ⟨by simp only []; omega, by simp only []; omega⟩, by simp only []; omega, by simp only []; omega⟩
theorem sqZ_nat (p : Sq) : sqZ (p.1 : Int) (p.2 : Int) = p := by
  obtain ⟨a, b⟩ := p
  simp [sqZ]
theorem hasB_nat {D : List VIntS} (hD : RL D) {p : Sq} (hp : inR D p) : hasB D (p.1 : Int) (p.2 : Int) = true := by
  unfold hasB
  simp only [Bool.and_eq_true, decide_eq_true_eq]
  have h1 := hp.1
  have h2 := hp.2
  exact ⟨rlB_iff.2 hD, by omega, by omega, by omega, by omega⟩
def runsB (D : List VIntS) (r c : Int) : Bool := hasB D r c && !(nextSq D (sqZ r c) == sqZ r c)
def gridOf (D : List VIntS) (L : Sq → Int) : List VIntS := (List.range D.length).map fun r => (List.range (colsN D)).map fun c => L (r, c)
theorem gridOf_len (D : List VIntS) (L : Sq → Int) : (gridOf D L).length = D.length := by simp [gridOf]
theorem gridOf_at (D : List VIntS) (L : Sq → Int) {r : Nat} (h : r < D.length) : (gridOf D L)[r]? = some ((List.range (colsN D)).map fun c => L (r, c)) := by simp [gridOf, h]
theorem gridOf_congr {D : List VIntS} {L M : Sq → Int} (h : ∀ p, inR D p → L p = M p) : gridOf D L = gridOf D M := by
  unfold gridOf
  refine List.map_congr_left fun r hr => List.map_congr_left fun c hc => h (r, c) ⟨by simpa using hr, by simpa using hc⟩
/-- Lakes so far: how many squares, and the sum. -/
def lakeS (D : List VIntS) (L : Sq → Int) (s : Int × Int) (p : Sq) : Int × Int := if 0 < L p - hA D p then (s.1 + 1, s.2 + (L p - hA D p)) else s
def lakesOf (D : List VIntS) (L : Sq → Int) : Int × Int := (sqs D).foldl (lakeS D L) (0, 0)
theorem lake_bd {D : List VIntS} (hD : RL D) {L : Sq → Int} (hL : ∀ p, inR D p → L p ≤ 9999) : ∀ (l : List Sq), (∀ p ∈ l, inR D p) → ∀ (s : Int × Int) (k : Nat), 0 ≤ s.1 ∧ s.1 ≤ k ∧ 0 ≤ s.2 ∧ s.2 ≤ k * 9999 →
    0 ≤ (l.foldl (lakeS D L) s).1 ∧ (l.foldl (lakeS D L) s).1 ≤ (k + l.length : Nat) ∧ 0 ≤ (l.foldl (lakeS D L) s).2 ∧ (l.foldl (lakeS D L) s).2 ≤ (k + l.length : Nat) * 9999 := by
  intro l
  induction l with
  | nil => intro _ s k h; simpa using h
  | cons x l ih =>
    intro hl s k h
    rw [List.foldl_cons]
    have hx := hl x (by simp)
    have h1 := hL x hx
    obtain ⟨_, _, _, _, h2, _⟩ := hD.at hx
    have := ih (fun p hp => hl p (List.mem_cons_of_mem _ hp)) (lakeS D L s x) (k + 1) (by
      unfold lakeS
      split
      · refine ⟨by simp only []; omega, by simp only []; omega, by simp only []; omega, by simp only []; omega⟩
      · omega)
    simp only [List.length_cons] at this ⊢
    omega
theorem lake_congr {D : List VIntS} {L M : Sq → Int} : ∀ (l : List Sq), (∀ p ∈ l, L p = M p) → ∀ s, l.foldl (lakeS D L) s = l.foldl (lakeS D M) s := by
  intro l
  induction l with
  | nil => intro _ s; rfl
  | cons x l ih =>
    intro h s
    rw [List.foldl_cons, List.foldl_cons, show lakeS D L s x = lakeS D M s x from by unfold lakeS; rw [h x (by simp)]]
    exact ih (fun p hp => h p (List.mem_cons_of_mem _ hp)) _
def rivI (D : List VIntS) (q : Sq) : Int := (riv D q : Int)
def steepB (D : List VIntS) : Bool := rlB D && !(fall D (topOf D (fall D)) == 0)
def IsRelief_0 (D : List VIntS) : Bool := rlB D
def NextSquare_0 (D : List VIntS) (r c : Int) : Int := if runsB D r c = true then ((nextSq D (sqZ r c)).1 : Int) else 0
def NextSquare_1 (D : List VIntS) (r c : Int) : Int := if runsB D r c = true then ((nextSq D (sqZ r c)).2 : Int) else 0
def NextSquare_2 (D : List VIntS) (r c : Int) : Bool := runsB D r c
def RunOff_0 (D : List VIntS) (r c : Int) : List VIntA2 := if hasB D r c = true then (runOf D (sqZ r c)).map vsq else []
def RunOff_1 (D : List VIntS) (r c : Int) : Bool := hasB D r c
def PitsOf_0 (D : List VIntS) : List VIntA2 := if rlB D = true then (pits D).map vsq else []
def PitsOf_1 (D : List VIntS) : Bool := rlB D
def Catchment_0 (D : List VIntS) (r c : Int) : Int := if hasB D r c = true then rivI D (sqZ r c) else 0
def Catchment_1 (D : List VIntS) (r c : Int) : Bool := hasB D r c
def GreatestRiver_0 (D : List VIntS) : Int := if rlB D = true then ((topOf D (rivI D)).1 : Int) else 0
def GreatestRiver_1 (D : List VIntS) : Int := if rlB D = true then ((topOf D (rivI D)).2 : Int) else 0
def GreatestRiver_2 (D : List VIntS) : Bool := rlB D
def LevelAt_0 (D : List VIntS) (r c : Int) : Int := if hasB D r c = true then lev D (sqZ r c) else 0
def LevelAt_1 (D : List VIntS) (r c : Int) : Bool := hasB D r c
def FilledRelief_0 (D : List VIntS) : List VIntS := if rlB D = true then gridOf D (lev D) else []
def FilledRelief_1 (D : List VIntS) : Bool := rlB D
def LakesOf_0 (D : List VIntS) : Int := if rlB D = true then (lakesOf D (lev D)).1 else 0
def LakesOf_1 (D : List VIntS) : Int := if rlB D = true then (lakesOf D (lev D)).2 else 0
def LakesOf_2 (D : List VIntS) : Bool := rlB D
def SteepestSquare_0 (D : List VIntS) : Int := if steepB D = true then ((topOf D (fall D)).1 : Int) else 0
def SteepestSquare_1 (D : List VIntS) : Int := if steepB D = true then ((topOf D (fall D)).2 : Int) else 0
def SteepestSquare_2 (D : List VIntS) : Int := if steepB D = true then fall D (topOf D (fall D)) else 0
def SteepestSquare_3 (D : List VIntS) : Bool := steepB D
theorem RunOff_0_cnt (D : List VIntS) (r c : Int) (_ : condIntS D) : cntIntA2 (RunOff_0 D r c) ≤ 1000000 := by
  unfold RunOff_0 cntIntA2
  split
  · rename_i h
    obtain ⟨hD, p, hp, rfl, rfl⟩ := hasB_yes h
    rw [sqZ_nat, List.length_map]
    have := runOf_len hD hp
    omega
  · simp
theorem PitsOf_0_cnt (D : List VIntS) (_ : condIntS D) : cntIntA2 (PitsOf_0 D) ≤ 1000000 := by
  unfold PitsOf_0 cntIntA2
  split
  · rename_i h
    rw [List.length_map]
    have h1 : (pits D).length ≤ (sqs D).length := List.length_filter_le _ _
    have h2 := sqs_len (rlB_iff.1 h)
    omega
  · simp
theorem cntIntS_le : ∀ (xs : List VIntS) (k : Nat), (∀ x ∈ xs, x.length ≤ k) → cntIntS xs ≤ xs.length * k := by
  intro xs k
  induction xs with
  | nil => intro _; simp [cntIntS]
  | cons x l ih =>
    intro h
    have h1 := ih fun y hy => h y (List.mem_cons_of_mem _ hy)
    have h2 := h x (by simp)
    simp only [cntIntS, List.length_cons, Nat.succ_mul]
    omega
theorem FilledRelief_0_cnt (D : List VIntS) (_ : condIntS D) : cntIntS (FilledRelief_0 D) ≤ 1000000 := by
  unfold FilledRelief_0
  split
  · rename_i h
    have hD := rlB_iff.1 h
    have h1 := cntIntS_le (gridOf D (lev D)) 8 (fun x hx => by
      simp only [gridOf, List.mem_map] at hx
      obtain ⟨r, _, rfl⟩ := hx
      have := hD.n8
      simpa using this)
    rw [gridOf_len] at h1
    have := hD.m8
    omega
  · simp [cntIntS]
end Go.Proofs.Ytodjgeffkfbpiaa
