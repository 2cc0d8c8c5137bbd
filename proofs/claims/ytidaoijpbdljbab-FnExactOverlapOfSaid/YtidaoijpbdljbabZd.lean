/- Zones: when they are valid, what has a unit square, what two have in common, what is cut, what touches. Plain mathematics. -/
import Derived.Test.YtidaoijpbdljbabZoneT
import Derived.Test.YtidaoijpbdljbabIntA2T
import Derived.Test.YtidaoijpbdljbabIntA4T
import Derived.Test.YtidaoijpbdljbabSheet
import Derived.Test.YtidaoijpbdljbabUp
namespace Go.Proofs.Ytidaoijpbdljbab

def VZone.ok (z : VZone) : Bool := inB z.Id 1 99 && (inB z.West 0 9999 && (inB z.South 0 9999 && (inB z.East 0 9999 && (inB z.North 0 9999 && (decide (z.West < z.East) && decide (z.South < z.North))))))
theorem VZone.ok_iff {z : VZone} : z.ok = true ↔ (1 ≤ z.Id ∧ z.Id ≤ 99) ∧ 0 ≤ z.West ∧ z.West < z.East ∧ z.East ≤ 9999 ∧ 0 ≤ z.South ∧ z.South < z.North ∧ z.North ≤ 9999 := by
  unfold VZone.ok
  simp only [Bool.and_eq_true, inB_iff, decide_eq_true_eq]
  omega
def zonesB (zs : List VZone) : Bool := upB VZone.ok VZone.Id zs && decide (zs.length ≤ 10)
def VZone.has (z : VZone) (x y : Int) : Bool := decide (z.West ≤ x) && (decide (x < z.East) && (decide (z.South ≤ y) && decide (y < z.North)))
def zoneI (zs : List VZone) (id : Int) : Int := firstOf (fun z => z.Id == id) zs
def wideOf (a b : VZone) : Int := min a.East b.East - max a.West b.West
def highOf (a b : VZone) : Int := min a.North b.North - max a.South b.South
def bothOf (a b : VZone) : Int := max 0 (wideOf a b) * max 0 (highOf a b)
def touchB (a b : VZone) : Bool := (decide (wideOf a b = 0) && decide (0 < highOf a b)) || (decide (0 < wideOf a b) && decide (highOf a b = 0))
def lowCut (a b : VZone) : Int := max a.South (min b.South a.North)
def highCut (a b : VZone) : Int := max a.South (min b.North a.North)
def westCut (a b : VZone) : Int := max a.West (min b.West a.East)
def eastCut (a b : VZone) : Int := max a.West (min b.East a.East)
def fullB (r : VIntA4) : Bool := !(r.E0 == r.E2 || r.E1 == r.E3)
def cutParts (a b : VZone) : List VIntA4 := [⟨a.West, a.South, a.East, lowCut a b⟩, ⟨a.West, highCut a b, a.East, a.North⟩, ⟨a.West, lowCut a b, westCut a b, highCut a b⟩, ⟨eastCut a b, lowCut a b, a.East, highCut a b⟩]
/-- The pairs of one with those behind it. -/
def touchRow (a : VZone) (bs : List VZone) : List VIntA2 := (bs.filter (touchB a)).map fun b => ⟨a.Id, b.Id⟩
def touchL : List VZone → List VIntA2
  | [] => []
  | a :: l => touchRow a l ++ touchL l

def IsZone_0 (z : VZone) : Bool := z.ok
def AreZones_0 (zs : List VZone) : Bool := zonesB zs
def ZonesAt_1 (zs : List VZone) (x y : Int) : Bool := zonesB zs && (inB x 0 9998 && inB y 0 9998)
def ZonesAt_0 (zs : List VZone) (x y : Int) : List Int := if ZonesAt_1 zs x y then (zs.filter fun z => z.has x y).map VZone.Id else []
def OverlapOf_1 (zs : List VZone) (a b : Int) : Bool := zonesB zs && (decide (0 ≤ zoneI zs a) && decide (0 ≤ zoneI zs b))
def OverlapOf_0 (zs : List VZone) (a b : Int) : Int := if OverlapOf_1 zs a b then (match zs[(zoneI zs a).toNat]?, zs[(zoneI zs b).toNat]? with | some p, some q => bothOf p q | _, _ => 0) else 0
def CutZone_1 (a b : VZone) : Bool := a.ok && b.ok
def CutZone_0 (a b : VZone) : List VIntA4 := if CutZone_1 a b then (cutParts a b).filter fullB else []
def TouchingZones_1 (zs : List VZone) : Bool := zonesB zs
def TouchingZones_0 (zs : List VZone) : List VIntA2 := if zonesB zs then touchL zs else []

theorem zonesB_ok {zs : List VZone} (h : zonesB zs = true) {z : VZone} (hz : z ∈ zs) : z.ok = true := by
  unfold zonesB at h
  rw [Bool.and_eq_true] at h
  exact upB_ok h.1 hz
theorem zonesB_len {zs : List VZone} (h : zonesB zs = true) : zs.length ≤ 10 := by
  unfold zonesB at h
  rw [Bool.and_eq_true, decide_eq_true_eq] at h
  exact h.2
theorem zone_at {zs : List VZone} {id : Int} (h : 0 ≤ zoneI zs id) : ∃ (i : Nat) (z : VZone), zoneI zs id = (i : Int) ∧ zs[i]? = some z := by
  rcases firstOf_cases (fun z : VZone => z.Id == id) zs with ⟨h1, _⟩ | ⟨i, s, h1, h2, _⟩
  · unfold zoneI at h; omega
  · exact ⟨i, s, h1, h2⟩
theorem ZonesAt_0_len (zs : List VZone) (x y : Int) (h : zs.length ≤ 1048576) : (ZonesAt_0 zs x y).length ≤ 1000000 := by
  unfold ZonesAt_0
  split
  · rename_i h1
    unfold ZonesAt_1 at h1
    rw [Bool.and_eq_true] at h1
    have := zonesB_len h1.1
    have h3 := List.length_filter_le (fun z : VZone => z.has x y) zs
    simp only [List.length_map]
    omega
  · simp
theorem CutZone_0_len (a b : VZone) : (CutZone_0 a b).length ≤ 1000000 := by
  unfold CutZone_0
  split
  · have := List.length_filter_le fullB (cutParts a b)
    simp [cutParts] at *
    omega
  · simp
theorem touchRow_len (a : VZone) (bs : List VZone) : (touchRow a bs).length ≤ bs.length := by
  unfold touchRow
  rw [List.length_map]
  exact List.length_filter_le _ _
theorem touchL_len : ∀ zs : List VZone, (touchL zs).length ≤ zs.length * zs.length
  | [] => by simp [touchL]
  | a :: l => by
    have h1 := touchRow_len a l
    have h2 := touchL_len l
    have h3 : (l.length + 1) * (l.length + 1) = l.length * l.length + l.length + l.length + 1 := by rw [Nat.add_mul, Nat.mul_add]; omega
    simp only [touchL, List.length_append, List.length_cons]
    omega
/-- What the first k of them have with those behind. -/
def touchUp (zs : List VZone) (k : Nat) : List VIntA2 := (List.range k).flatMap fun i => match zs[i]? with | none => [] | some a => touchRow a (zs.drop (i + 1))
theorem touchUp_succ {zs : List VZone} {k : Nat} {a : VZone} (h : zs[k]? = some a) : touchUp zs (k + 1) = touchUp zs k ++ touchRow a (zs.drop (k + 1)) := by
  unfold touchUp
  rw [List.range_succ, List.flatMap_append]
  simp [h]
theorem touchUp_all : ∀ zs : List VZone, touchUp zs zs.length = touchL zs
  | [] => rfl
  | a :: l => by
    have ih := touchUp_all l
    unfold touchUp at ih ⊢
    rw [List.length_cons, List.range_succ_eq_map, List.flatMap_cons, List.flatMap_map]
    simpa [touchL] using ih
theorem touchRow_snoc {a b : VZone} {bs : List VZone} {j : Nat} (h : bs[j]? = some b) : touchRow a (bs.take (j + 1)) = touchRow a (bs.take j) ++ (if touchB a b = true then [⟨a.Id, b.Id⟩] else []) := by
  unfold touchRow
  rw [List.take_add_one, h, List.filter_append, List.map_append]
  cases hq : touchB a b <;> simp [hq]
theorem touchUp_len (zs : List VZone) : ∀ k, (touchUp zs k).length ≤ k * zs.length
  | 0 => by simp [touchUp]
  | k + 1 => by
    have ih := touchUp_len zs k
    have e : (k + 1) * zs.length = k * zs.length + zs.length := Nat.succ_mul _ _
    cases h : zs[k]? with
    | none => unfold touchUp at ih ⊢; rw [List.range_succ, List.flatMap_append]; simp [h]; simp at ih; omega
    | some a =>
      rw [touchUp_succ h, List.length_append]
      have h2 := touchRow_len a (zs.drop (k + 1))
      rw [List.length_drop] at h2
      omega
theorem touch_small {zs : List VZone} {k j : Nat} {a : VZone} (hz : zs.length ≤ 10) (hk : k ≤ zs.length) : (touchUp zs k ++ touchRow a ((zs.drop (k + 1)).take j)).length ≤ 200 := by
  have h1 := touchUp_len zs k
  have h2 := touchRow_len a ((zs.drop (k + 1)).take j)
  have h3 : k * zs.length ≤ 10 * 10 := Nat.mul_le_mul (by omega) hz
  rw [List.length_take, List.length_drop] at h2
  rw [List.length_append]
  omega
theorem TouchingZones_0_len (zs : List VZone) (_ : zs.length ≤ 1048576) : (TouchingZones_0 zs).length ≤ 1000000 := by
  unfold TouchingZones_0
  split
  · rename_i h
    have h1 := zonesB_len h
    have h2 := touchL_len zs
    have h3 : zs.length * zs.length ≤ 10 * 10 := Nat.mul_le_mul h1 h1
    omega
  · simp
theorem bothOf_bd {a b : VZone} (ha : a.ok = true) (hb : b.ok = true) : (-9999 ≤ wideOf a b ∧ wideOf a b ≤ 9999) ∧ (-9999 ≤ highOf a b ∧ highOf a b ≤ 9999) := by
  have h1 := VZone.ok_iff.1 ha
  have h2 := VZone.ok_iff.1 hb
  unfold wideOf highOf
  omega
theorem mul_bd {x y : Int} (h0 : 0 ≤ x) (h1 : x ≤ 9999) (h2 : 0 ≤ y) (h3 : y ≤ 9999) : 0 ≤ x * y ∧ x * y ≤ 99980001 := by
  have := Int.mul_nonneg h0 h2
  have h4 : x * y ≤ 9999 * 9999 := Int.mul_le_mul h1 h3 h2 (by omega)
  omega
end Go.Proofs.Ytidaoijpbdljbab
