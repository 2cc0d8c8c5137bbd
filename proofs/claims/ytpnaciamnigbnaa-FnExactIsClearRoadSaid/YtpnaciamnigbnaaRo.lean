/- Roads: what the chapter's functions tell. Plain mathematics and the result functions. -/
import Derived.Test.YtpnaciamnigbnaaCornerMm
import Derived.Test.YtpnaciamnigbnaaCornerO
import Derived.Test.YtpnaciamnigbnaaIntA2O
import Derived.Test.YtpnaciamnigbnaaSeg
namespace Go.Proofs.Ytpnaciamnigbnaa
open Go.RowKit

/-! The whole part of a root. -/
def qroot : Nat → Nat
  | 0 => 0
  | n + 1 => if (qroot n + 1) * (qroot n + 1) ≤ n + 1 then qroot n + 1 else qroot n
theorem qroot_is (n : Nat) : qroot n * qroot n ≤ n ∧ n < (qroot n + 1) * (qroot n + 1) := by
  induction n with
  | zero => simp [qroot]
  | succ n ih =>
    obtain ⟨h1, h2⟩ := ih
    unfold qroot
    split
    · rename_i h
      refine ⟨h, ?_⟩
      generalize qroot n = r at *
      have : (r + 1 + 1) * (r + 1 + 1) = (r + 1) * (r + 1) + 2 * r + 3 := by grind
      omega
    · rename_i h; exact ⟨by omega, by omega⟩
theorem qroot_lt {a b : Nat} (h : a * a < (b + 1) * (b + 1)) : a ≤ b := by
  refine Nat.le_of_not_lt fun hn => ?_
  have := Nat.mul_le_mul (show b + 1 ≤ a by omega) (show b + 1 ≤ a by omega)
  omega
theorem qroot_one {n r : Nat} (h1 : r * r ≤ n) (h2 : n < (r + 1) * (r + 1)) : r = qroot n := by
  obtain ⟨w1, w2⟩ := qroot_is n
  exact Nat.le_antisymm (qroot_lt (by omega)) (qroot_lt (by omega))
theorem qroot_le {n b : Nat} (h : n < (b + 1) * (b + 1)) : qroot n ≤ b := qroot_lt (Nat.lt_of_le_of_lt (qroot_is n).1 h)

/-! Corners and roads. -/
def okC (c : VCorner) : Bool := inB c.X 0 9999 && inB c.Y 0 9999
theorem okC_iff {c : VCorner} : okC c = true ↔ 0 ≤ c.X ∧ c.X ≤ 9999 ∧ 0 ≤ c.Y ∧ c.Y ≤ 9999 := by
  unfold okC inB; simp only [Bool.and_eq_true, decide_eq_true_eq]; omega
def ptC (xs : List VCorner) (i : Nat) : VCorner := xs.getD i zeroCorner
theorem ptC_at {xs : List VCorner} {k : Nat} {s : VCorner} (h : xs[k]? = some s) : ptC xs k = s := by
  unfold ptC; rw [List.getD_eq_getElem?_getD, h]; rfl
theorem at_ptC {xs : List VCorner} {k : Nat} (h : k < xs.length) : xs[k]? = some (ptC xs k) := by
  unfold ptC; rw [List.getD_eq_getElem?_getD, List.getElem?_eq_getElem h]; rfl
def newC (xs : List VCorner) (i : Nat) : Bool := decide (i = 0) || !(eqvCorner (ptC xs i) (ptC xs (i - 1)))
def goodC (xs : List VCorner) (i : Nat) : Bool := okC (ptC xs i) && newC xs i
def goodTo (xs : List VCorner) (k : Nat) : Bool := (List.range k).all (goodC xs)
theorem goodTo_succ (xs : List VCorner) (k : Nat) : goodTo xs (k + 1) = (goodTo xs k && goodC xs k) := by
  unfold goodTo; rw [List.range_succ, List.all_append]; simp
theorem goodTo_no {xs : List VCorner} {k n : Nat} (h : k < n) (hb : goodC xs k = false) : goodTo xs n = false := by
  unfold goodTo; rw [List.all_eq_false]; exact ⟨k, by simpa using h, by simp [hb]⟩
def roadB (xs : List VCorner) : Bool := inB (xs.length : Int) 2 12 && goodTo xs xs.length
theorem eqvCorner_comm (s t : VCorner) : eqvCorner s t = eqvCorner t s := by
  rw [Bool.eq_iff_iff, eqvCorner_iff, eqvCorner_iff]; exact eq_comm
theorem eqvCorner_no {s t : VCorner} (h : eqvCorner s t = false) : t.X - s.X ≠ 0 ∨ t.Y - s.Y ≠ 0 := by
  simp [eqvCorner] at h
  by_cases hx : s.X = t.X
  · have := h hx; omega
  · omega
structure Road (xs : List VCorner) : Prop where
  l2 : 2 ≤ xs.length
  l12 : xs.length ≤ 12
  good : goodTo xs xs.length = true
theorem road_iff {xs : List VCorner} : roadB xs = true ↔ Road xs := by
  unfold roadB inB
  simp only [Bool.and_eq_true, decide_eq_true_eq]
  exact ⟨fun h => ⟨by omega, by omega, h.2⟩, fun h => ⟨⟨by have := h.l2; omega, by have := h.l12; omega⟩, h.good⟩⟩
theorem Road.goodAt {xs : List VCorner} (h : Road xs) {i : Nat} (hi : i < xs.length) : goodC xs i = true := by
  have := h.good
  unfold goodTo at this
  rw [List.all_eq_true] at this
  exact this i (by simpa using hi)
theorem Road.ok {xs : List VCorner} (h : Road xs) {i : Nat} (hi : i < xs.length) : okC (ptC xs i) = true := by
  have := h.goodAt hi
  unfold goodC at this
  simp only [Bool.and_eq_true] at this
  exact this.1
theorem Road.apart {xs : List VCorner} (h : Road xs) {i : Nat} (hi : i + 1 < xs.length) : eqvCorner (ptC xs i) (ptC xs (i + 1)) = false := by
  have := h.goodAt hi
  unfold goodC newC at this
  simp at this
  rw [eqvCorner_comm]; exact this.2
theorem Road.bd {xs : List VCorner} (h : Road xs) {i : Nat} (hi : i < xs.length) : 0 ≤ (ptC xs i).X ∧ (ptC xs i).X ≤ 9999 ∧ 0 ≤ (ptC xs i).Y ∧ (ptC xs i).Y ≤ 9999 := okC_iff.1 (h.ok hi)

/-! Lengths. -/
def dist2 (a b : VCorner) : Int := 10000 * ((a.X - b.X) * (a.X - b.X) + (a.Y - b.Y) * (a.Y - b.Y))
def partL (a b : VCorner) : Nat := qroot (dist2 a b).toNat
theorem mul_bd {x A : Int} (h : -A ≤ x) (k : x ≤ A) : 0 ≤ x * x ∧ x * x ≤ A * A := by
  refine ⟨Seg.sq_nn x, ?_⟩
  have := Int.mul_nonneg (show 0 ≤ A - x by omega) (show 0 ≤ A + x by omega)
  have e : (A - x) * (A + x) = A * A - x * x := by grind
  omega
theorem mul_bd2 {x y A : Int} (h : -A ≤ x) (k : x ≤ A) (h' : -A ≤ y) (k' : y ≤ A) : -(A * A) ≤ x * y ∧ x * y ≤ A * A := by
  have h1 := Int.mul_nonneg (show 0 ≤ A - x by omega) (show 0 ≤ A + y by omega)
  have h2 := Int.mul_nonneg (show 0 ≤ A + x by omega) (show 0 ≤ A - y by omega)
  have h3 := Int.mul_nonneg (show 0 ≤ A - x by omega) (show 0 ≤ A - y by omega)
  have h4 := Int.mul_nonneg (show 0 ≤ A + x by omega) (show 0 ≤ A + y by omega)
  have e1 : (A - x) * (A + y) = A * A + A * y - A * x - x * y := by grind
  have e2 : (A + x) * (A - y) = A * A - A * y + A * x - x * y := by grind
  have e3 : (A - x) * (A - y) = A * A - A * y - A * x + x * y := by grind
  have e4 : (A + x) * (A + y) = A * A + A * y + A * x + x * y := by grind
  omega
theorem dist2_bd {a b : VCorner} (h : okC a = true) (k : okC b = true) : 0 ≤ dist2 a b ∧ dist2 a b ≤ 1999600020000 := by
  have h := okC_iff.1 h
  have k := okC_iff.1 k
  have h1 := mul_bd (x := a.X - b.X) (A := 9999) (by omega) (by omega)
  have h2 := mul_bd (x := a.Y - b.Y) (A := 9999) (by omega) (by omega)
  unfold dist2
  omega
theorem dist2_comm (a b : VCorner) : dist2 a b = dist2 b a := by unfold dist2; grind
theorem partL_comm (a b : VCorner) : partL a b = partL b a := by unfold partL; rw [dist2_comm]
theorem partL_bd {a b : VCorner} (h : okC a = true) (k : okC b = true) : partL a b ≤ 1414072 := by
  have := dist2_bd h k
  exact qroot_le (by omega)
theorem partL_pos {a b : VCorner} (h : okC a = true) (k : okC b = true) (hn : eqvCorner a b = false) : 100 ≤ partL a b := by
  have h1 := dist2_bd h k
  have h2 : 10000 ≤ dist2 a b := by
    unfold dist2
    have e := eqvCorner_no hn
    have s1 := Seg.sq_nn (a.X - b.X)
    have s2 := Seg.sq_nn (a.Y - b.Y)
    rcases e with e | e
    · have := Seg.sq_pos (a := a.X - b.X) (by omega); omega
    · have := Seg.sq_pos (a := a.Y - b.Y) (by omega); omega
  exact qroot_lt (a := 100) (Nat.lt_of_le_of_lt (show 100 * 100 ≤ (dist2 a b).toNat by omega) (qroot_is _).2)
def partAt (xs : List VCorner) (i : Nat) : Nat := partL (ptC xs i) (ptC xs (i + 1))
def lenTo (xs : List VCorner) : Nat → Nat
  | 0 => 0
  | k + 1 => lenTo xs k + partAt xs k
def lenR (xs : List VCorner) : Nat := lenTo xs (xs.length - 1)
theorem Road.part_bd {xs : List VCorner} (h : Road xs) {i : Nat} (hi : i + 1 < xs.length) : partAt xs i ≤ 1414072 := partL_bd (h.ok (by omega)) (h.ok hi)
theorem Road.len_bd {xs : List VCorner} (h : Road xs) : ∀ (k : Nat), k < xs.length → lenTo xs k ≤ k * 1414072 := by
  intro k
  induction k with
  | zero => intro _; simp [lenTo]
  | succ k ih =>
    intro hk
    have h1 := ih (by omega)
    have h2 := h.part_bd (i := k) hk
    unfold lenTo
    omega
theorem Road.lenR_bd {xs : List VCorner} (h : Road xs) : lenR xs ≤ 15554792 := by
  have h1 := h.len_bd (xs.length - 1) (by have := h.l2; omega)
  have h2 := h.l12
  unfold lenR
  omega

/-! Bends. -/
def sideZ (a b x : VCorner) : Int := Seg.side a.X a.Y b.X b.Y x.X x.Y
def aheadZ (a b x : VCorner) : Int := (b.X - a.X) * (x.X - b.X) + (b.Y - a.Y) * (x.Y - b.Y)
def bendU (a b x : VCorner) : UInt8 := if 0 < sideZ a b x then 108 else if sideZ a b x < 0 then 114 else if 0 < aheadZ a b x then 115 else 98
theorem side_bd {a b x : VCorner} (h : okC a = true) (k : okC b = true) (j : okC x = true) : -199960002 ≤ sideZ a b x ∧ sideZ a b x ≤ 199960002 := by
  have h := okC_iff.1 h
  have k := okC_iff.1 k
  have j := okC_iff.1 j
  have h1 := mul_bd2 (x := b.X - a.X) (y := x.Y - b.Y) (A := 9999) (by omega) (by omega) (by omega) (by omega)
  have h2 := mul_bd2 (x := b.Y - a.Y) (y := x.X - b.X) (A := 9999) (by omega) (by omega) (by omega) (by omega)
  unfold sideZ Seg.side
  omega
def bendAtU (xs : List VCorner) (i : Nat) : UInt8 := bendU (ptC xs (i - 1)) (ptC xs i) (ptC xs (i + 1))
/-- The bends at the Corners 1 .. k. -/
def bendsTo (xs : List VCorner) (k : Nat) : List UInt8 := (List.range k).map fun i => bendAtU xs (i + 1)
theorem bendsTo_succ (xs : List VCorner) (k : Nat) : bendsTo xs (k + 1) = bendsTo xs k ++ [bendAtU xs (k + 1)] := by
  unfold bendsTo; rw [List.range_succ]; simp
theorem bendsTo_len (xs : List VCorner) (k : Nat) : (bendsTo xs k).length = k := by simp [bendsTo]
def bendsOf (xs : List VCorner) : List UInt8 := bendsTo xs (xs.length - 2)
/-- The Corner stays in the plain road. -/
def keepC (xs : List VCorner) (i : Nat) : Bool := decide (i = 0) || (decide (i + 1 = xs.length) || !(bendAtU xs i == 115))
def plainTo (xs : List VCorner) (k : Nat) : List VCorner := ((List.range k).filter (keepC xs)).map (ptC xs)
theorem plainTo_succ (xs : List VCorner) (k : Nat) : plainTo xs (k + 1) = plainTo xs k ++ (if keepC xs k = true then [ptC xs k] else []) := by
  unfold plainTo
  rw [List.range_succ, List.filter_append, List.map_append]
  cases h : keepC xs k <;> simp [h]
theorem plainTo_len (xs : List VCorner) (k : Nat) : (plainTo xs k).length ≤ k := by
  unfold plainTo
  rw [List.length_map]
  exact Nat.le_trans (List.length_filter_le _ _) (by simp)
/-- Where the place is that lies so far behind a part's beginning: so many more parts looked at. -/
def alongF (xs : List VCorner) : Nat → Nat → Int → Nat × Int
  | 0, p, n => (p, n)
  | f + 1, p, n => if p + 2 < xs.length ∧ (partAt xs p : Int) ≤ n then alongF xs f (p + 1) (n - partAt xs p) else (p, n)
theorem alongF_yes {xs : List VCorner} {p : Nat} {n : Int} (h1 : p + 2 < xs.length) (h2 : (partAt xs p : Int) ≤ n) : alongF xs (xs.length - p) p n = alongF xs (xs.length - (p + 1)) (p + 1) (n - partAt xs p) := by
  obtain ⟨f, hf⟩ : ∃ f, xs.length - p = f + 1 := ⟨xs.length - p - 1, by omega⟩
  rw [hf, show xs.length - (p + 1) = f from by omega]
  unfold alongF
  rw [if_pos ⟨h1, h2⟩]
  cases f <;> rfl
theorem alongF_no {xs : List VCorner} {p : Nat} {n : Int} (h : ¬ (p + 2 < xs.length ∧ (partAt xs p : Int) ≤ n)) (f : Nat) : alongF xs f p n = (p, n) := by
  cases f with
  | zero => rfl
  | succ f => unfold alongF; rw [if_neg h]
def alongB (xs : List VCorner) (n : Int) : Bool := roadB xs && inB n 0 (lenR xs : Int)
def lastC (xs : List VCorner) : VCorner := ptC xs (xs.length - 1)
def detB (xs : List VCorner) : Bool := roadB xs && !(eqvCorner (ptC xs 0) (lastC xs))
def joinB (a b : List VCorner) : Bool := roadB a && (roadB b && (eqvCorner (lastC a) (ptC b 0) && roadB (a ++ b.drop 1)))

/-! Crossing. -/
def meetP (a b x y : VCorner) : Prop := Seg.Meet a.X a.Y b.X b.Y x.X x.Y y.X y.Y
def crossP (a b x y : VCorner) : Prop := Seg.Cross a.X a.Y b.X b.Y x.X x.Y y.X y.Y
instance crossD (a b x y : VCorner) : Decidable (crossP a b x y) := by unfold crossP Seg.Cross Seg.On Seg.Split; infer_instance
def crossB (a b x y : VCorner) : Bool := decide (crossP a b x y)
theorem crossB_iff {a b x y : VCorner} : crossB a b x y = true ↔ crossP a b x y := by unfold crossB; exact decide_eq_true_iff
theorem meet_cross {a b x y : VCorner} (h : eqvCorner a b = false) (k : eqvCorner x y = false) : meetP a b x y ↔ crossP a b x y := Seg.meet_iff (eqvCorner_no h) (eqvCorner_no k)
def crossAt (a b : List VCorner) (i k : Nat) : Bool := crossB (ptC a i) (ptC a (i + 1)) (ptC b k) (ptC b (k + 1))
/-- Pairs of numbers that are wanted: of one i, those below k. -/
def pairRow (f : Nat → Nat → Bool) (i k : Nat) : List VIntA2 := ((List.range k).filter (f i)).map fun (j : Nat) => (⟨(i : Int), (j : Int)⟩ : VIntA2)
def pairsTo (f : Nat → Nat → Bool) (n : Nat) : Nat → List VIntA2
  | 0 => []
  | i + 1 => pairsTo f n i ++ pairRow f i n
theorem pairRow_succ (f : Nat → Nat → Bool) (i k : Nat) : pairRow f i (k + 1) = pairRow f i k ++ (if f i k = true then [⟨(i : Int), (k : Int)⟩] else []) := by
  unfold pairRow
  rw [List.range_succ, List.filter_append, List.map_append]
  cases h : f i k <;> simp [h]
theorem pairRow_len (f : Nat → Nat → Bool) (i k : Nat) : (pairRow f i k).length ≤ k := by
  unfold pairRow
  rw [List.length_map]
  exact Nat.le_trans (List.length_filter_le _ _) (by simp)
theorem pairsTo_len (f : Nat → Nat → Bool) (n i : Nat) : (pairsTo f n i).length ≤ i * n := by
  induction i with
  | zero => simp [pairsTo]
  | succ i ih =>
    have := pairRow_len f i n
    unfold pairsTo
    rw [List.length_append, Nat.add_mul]
    omega
theorem pairRow_congr {f g : Nat → Nat → Bool} {i k : Nat} (h : ∀ j, j < k → f i j = g i j) : pairRow f i k = pairRow g i k := by
  unfold pairRow
  congr 1
  exact List.filter_congr fun j hj => h j (by simpa using hj)
theorem pairsTo_congr {f g : Nat → Nat → Bool} {n i : Nat} (h : ∀ i', i' < i → ∀ j, j < n → f i' j = g i' j) : pairsTo f n i = pairsTo g n i := by
  induction i with
  | zero => rfl
  | succ i ih => unfold pairsTo; rw [ih fun i' hi => h i' (by omega), pairRow_congr (h i (by omega))]
theorem pairRow_nil {f : Nat → Nat → Bool} {i k : Nat} : pairRow f i k = [] ↔ ∀ j, j < k → f i j = false := by
  unfold pairRow
  rw [List.map_eq_nil_iff, List.filter_eq_nil_iff]
  simp
theorem pairsTo_nil {f : Nat → Nat → Bool} {n i : Nat} : pairsTo f n i = [] ↔ ∀ i', i' < i → ∀ j, j < n → f i' j = false := by
  induction i with
  | zero => simp [pairsTo]
  | succ i ih =>
    unfold pairsTo
    rw [List.append_eq_nil_iff, ih, pairRow_nil]
    constructor
    · intro h i' hi
      by_cases e : i' = i
      · subst e; exact h.2
      · exact h.1 i' (by omega)
    · intro h
      exact ⟨fun i' hi => h i' (by omega), h i (by omega)⟩
/-- Two parts of one road that spoil it. -/
def spoilC (xs : List VCorner) (i j : Nat) : Bool := if j = i + 1 then bendAtU xs j == 98 else decide (i < j) && crossAt xs xs i j
def clearB (xs : List VCorner) : Bool := (pairsTo (spoilC xs) (xs.length - 1) (xs.length - 1)).isEmpty

/-! The result functions. -/
def IsRoadLine_0 (xs : List VCorner) : Bool := roadB xs
def RoadLength_0 (xs : List VCorner) : Int := if roadB xs = true then (lenR xs : Int) else 0
def RoadLength_1 (xs : List VCorner) : Bool := roadB xs
def BendsOf_0 (xs : List VCorner) : ByteArray := if roadB xs = true then ⟨(bendsOf xs).toArray⟩ else ByteArray.empty
def BendsOf_1 (xs : List VCorner) : Bool := roadB xs
def PlainRoad_0 (xs : List VCorner) : List VCorner := if roadB xs = true then plainTo xs xs.length else []
def PlainRoad_1 (xs : List VCorner) : Bool := roadB xs
def ReverseRoad_0 (xs : List VCorner) : List VCorner := if roadB xs = true then xs.reverse else []
def ReverseRoad_1 (xs : List VCorner) : Bool := roadB xs
def JoinRoads_0 (a b : List VCorner) : List VCorner := if joinB a b = true then a ++ b.drop 1 else []
def JoinRoads_1 (a b : List VCorner) : Bool := joinB a b
def AlongRoad_0 (xs : List VCorner) (n : Int) : Int := if alongB xs n = true then ((alongF xs xs.length 0 n).1 : Int) else 0
def AlongRoad_1 (xs : List VCorner) (n : Int) : Int := if alongB xs n = true then (alongF xs xs.length 0 n).2 else 0
def AlongRoad_2 (xs : List VCorner) (n : Int) : Bool := alongB xs n
def detD (xs : List VCorner) : Nat := partL (ptC xs 0) (lastC xs)
def DetourOf_0 (xs : List VCorner) : Int := if detB xs = true then ((lenR xs / Nat.gcd (lenR xs) (detD xs) : Nat) : Int) else 0
def DetourOf_1 (xs : List VCorner) : Int := if detB xs = true then ((detD xs / Nat.gcd (lenR xs) (detD xs) : Nat) : Int) else 0
def DetourOf_2 (xs : List VCorner) : Bool := detB xs
def CrossingParts_0 (a b : List VCorner) : List VIntA2 := if (roadB a && roadB b) = true then pairsTo (crossAt a b) (b.length - 1) (a.length - 1) else []
def CrossingParts_1 (a b : List VCorner) : Bool := roadB a && roadB b
def IsClearRoad_0 (xs : List VCorner) : Bool := roadB xs && clearB xs
def IsClearRoad_1 (xs : List VCorner) : Bool := roadB xs
theorem PlainRoad_0_cnt (xs : List VCorner) (_ : condCorner xs) : cntCorner (PlainRoad_0 xs) ≤ 1000000 := by
  unfold PlainRoad_0 cntCorner
  split
  · rename_i h
    have := plainTo_len xs xs.length
    have := (road_iff.1 h).l12
    omega
  · simp
theorem ReverseRoad_0_cnt (xs : List VCorner) (_ : condCorner xs) : cntCorner (ReverseRoad_0 xs) ≤ 1000000 := by
  unfold ReverseRoad_0 cntCorner
  split
  · rename_i h
    have := (road_iff.1 h).l12
    rw [List.length_reverse]
    omega
  · simp
theorem JoinRoads_0_cnt (a b : List VCorner) (_ : condCorner a) (_ : condCorner b) : cntCorner (JoinRoads_0 a b) ≤ 1000000 := by
  unfold JoinRoads_0 cntCorner
  split
  · rename_i h
    unfold joinB at h
    simp only [Bool.and_eq_true] at h
    have := (road_iff.1 h.2.2.2).l12
    omega
  · simp
theorem CrossingParts_0_cnt (a b : List VCorner) (_ : condCorner a) (_ : condCorner b) : cntIntA2 (CrossingParts_0 a b) ≤ 1000000 := by
  unfold CrossingParts_0 cntIntA2
  split
  · rename_i h
    simp only [Bool.and_eq_true] at h
    have h1 := (road_iff.1 h.1).l12
    have h2 := (road_iff.1 h.2).l12
    have := pairsTo_len (crossAt a b) (b.length - 1) (a.length - 1)
    have := Nat.mul_le_mul (show a.length - 1 ≤ 11 by omega) (show b.length - 1 ≤ 11 by omega)
    omega
  · simp
end Go.Proofs.Ytpnaciamnigbnaa
