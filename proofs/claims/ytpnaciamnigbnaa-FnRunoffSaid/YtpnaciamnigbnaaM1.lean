/- Texts in one: Base, Sheet, Wt, Lv, Open, Open2, Box0, AppL. -/
import Derived.Test.YtpnaciamnigbnaaProg
import Derived.WalkKit
import Derived.WalkSpells
import Derived.ProofKit
import Derived.Lib.Hide
import Derived.Deep.QuietTactic
import Derived.BigQuiet
import Derived.Below
import Derived.IntWalk
import Derived.LoopTactic
import Derived.Lib.SlicesS
import Derived.Lib.IndexBytes
import Derived.Laws.AppendOwn
import Derived.OwnWalk
import Derived.Deep.RegionWith
import Derived.Deep.Slices
import Derived.Deep.Fields
import Derived.ChangeSame
import Derived.ChangeArms
import Derived.Laws.IdiomRangeMap
import Derived.Laws.OwnMore
namespace Go.Proofs.Ytpnaciamnigbnaa
open Go.RowKit

theorem ret_int {k : IntKind} {a b : Int} (h : a = b) : Ending.returned (.int k a) = .returned (.int k b) := by rw [h]
theorem ret_bool {a b : Bool} (h : a = b) : Ending.returned (.bool a) = .returned (.bool b) := by rw [h]
theorem ret_str {a b : ByteArray} (h : a = b) : Ending.returned (.string a) = .returned (.string b) := by rw [h]
theorem ret_str_v {a b : ByteArray} {v : Value} (h : a = b) : Ending.returned (.tuple #[.string a, v]) = .returned (.tuple #[.string b, v]) := by rw [h]
theorem ret_int_v {k : IntKind} {a b : Int} {v : Value} (h : a = b) : Ending.returned (.tuple #[.int k a, v]) = .returned (.tuple #[.int k b, v]) := by rw [h]
theorem u8_bd (c : UInt8) : (c.toNat : Int) ≤ 255 := by have := c.toNat_lt; omega
theorem take_snoc (s : ByteArray) (k : Nat) (h : k < s.size) : s.data.toList.take (k + 1) = s.data.toList.take k ++ [s[k]] := by
  rw [List.take_succ_eq_append_getElem (by simpa using h)]; rfl
theorem take_all (s : ByteArray) : s.data.toList.take s.size = s.data.toList := List.take_of_length_le (by simp)
theorem drop_cons (s : ByteArray) (k : Nat) (h : k < s.size) : s.data.toList.drop k = s[k] :: s.data.toList.drop (k + 1) := by
  rw [List.drop_eq_getElem_cons (by simpa using h)]; rfl
theorem drop_none (s : ByteArray) : s.data.toList.drop s.size = [] := by
  apply List.drop_eq_nil_of_le; simp
theorem size_list (s : ByteArray) : s.size = s.data.toList.length := Array.length_toList.symm
theorem bytes_ext {a b : ByteArray} (h : a.data.toList = b.data.toList) : a = b := by
  rcases a with ⟨⟨a⟩⟩; rcases b with ⟨⟨b⟩⟩; simp at h; rw [h]
theorem bytes_append (a b : ByteArray) : (a ++ b).data.toList = a.data.toList ++ b.data.toList := by simp
theorem ne_test {a b : ByteArray} (h : (!a.toList == b.toList) = true) : a ≠ b := (Lib.bytes_beq_false_iff a b).1 (by simpa using h)
theorem eq_test {a b : ByteArray} (h : (!a.toList == b.toList) = false) : a = b := (Lib.bytes_beq_iff a b).1 (by simpa using h)
theorem eq_testT {a b : ByteArray} (h : a = b) : (a.toList == b.toList) = true := (Lib.bytes_beq_iff a b).2 h
theorem ne_testT {a b : ByteArray} (h : a ≠ b) : (a.toList == b.toList) = false := (Lib.bytes_beq_false_iff a b).2 h
theorem bel_drawn (w : World) (n : Nat) : Below w.heap.size w (w.drewN n) := ⟨rfl, rfl, rfl, Nat.le_refl _, fun _ _ => rfl⟩
theorem bel_drawn2 (w : World) (m n : Nat) : Below w.heap.size w ((w.drewN m).drewN n) := ⟨rfl, rfl, rfl, Nat.le_refl _, fun _ _ => rfl⟩
theorem Below.then' {w w1 w2 : World} (h : Below w.heap.size w w1) (k : Below w1.heap.size w1 w2) : Below w.heap.size w w2 := h.trans (k.mono h.size)
def strOf (l : List UInt8) : ByteArray := ⟨l.toArray⟩
theorem strOf_size (l : List UInt8) : (strOf l).size = l.length := by simp [strOf, ByteArray.size]
theorem strOf_append (l k : List UInt8) : strOf l ++ strOf k = strOf (l ++ k) := by
  apply ByteArray.ext; simp [strOf]
theorem strOf_list (l : List UInt8) : (strOf l).data.toList = l := by simp [strOf]
theorem add_plain (b o j : Nat) : (⟨b, o, none⟩ : Addr).add j = ⟨b, o + j, none⟩ := by unfold Addr.add; split <;> simp_all
theorem infoStr : (Try.prog.info? 9).map (fun i => (i.zero, i.size, i.bytes)) = some (some (.string ByteArray.empty), 1, 16) := by kernel_rfl
theorem cell_one (w : World) (x : Value) (t : TypeId) : ∀ j u, [x][j]? = some u → (w.alloc (.cells #[x] t)).cell? ((⟨w.heap.size, 0, none⟩ : Addr).add j) = some u := by
  intro j u hj
  match j, hj with
  | 0, hj => simp at hj; subst hj; simp [Addr.add]
  | j + 1, hj => simp at hj
theorem ownsRow_below {w w' : World} {base : Nat} {e : TypeId} {size n : Nat} {v : Value} {xs : List Value} (h : w.ownsRow base e size v n xs) (hb : Below w.heap.size w w') : w'.ownsRow base e size v n xs := by
  refine ⟨h.1, ?_⟩
  rcases h.2 with h0 | ⟨g, cap, cur, rfl, hg, hh, r⟩
  · exact .inl h0
  · exact .inr ⟨g, cap, cur, rfl, hg, (hb.block g (Array.getElem?_eq_some_iff.1 hh).1).trans hh, r⟩
theorem ownsRow_base {w : World} {base base' : Nat} {e : TypeId} {size n : Nat} {v : Value} {xs : List Value} (h : w.ownsRow base e size v n xs) (hb : base' ≤ base) : w.ownsRow base' e size v n xs := by
  refine ⟨h.1, ?_⟩
  rcases h.2 with h0 | ⟨g, cap, cur, rfl, hg, r⟩
  · exact .inl h0
  · exact .inr ⟨g, cap, cur, rfl, Nat.le_trans hb hg, r⟩
theorem grown_below {w w' : World} (h : Below w.heap.size w w') (row : Option Nat) : w.grownBy w' row := ⟨h.os, h.tape, h.output, h.size, fun k hk _ => h.block k hk⟩
theorem grown_trans {a b c : World} {row : Option Nat} (h : a.grownBy b row) (k : b.grownBy c row) : a.grownBy c row :=
  ⟨k.os.trans h.os, k.tape.trans h.tape, k.output.trans h.output, Nat.le_trans h.size k.size, fun j hj hr => (k.block j (Nat.lt_of_lt_of_le hj h.size) hr).trans (h.block j hj hr)⟩
/-- A row of texts of the call's own, and the world below as it was. -/
def RowPost (xs : List ByteArray) (w : World) (e : Ending) (w' : World) : Prop := ∃ v, e = .returned v ∧ w'.ownsRow w.heap.size 9 1 v xs.length (xs.map Value.string) ∧ Below w.heap.size w w'
end Go.Proofs.Ytpnaciamnigbnaa
namespace Go.Proofs.Ytpnaciamnigbnaa
open Go.RowKit

/-- Lies x in a .. b? -/
def inB (x a b : Int) : Bool := decide (a ≤ x) && decide (x ≤ b)
theorem inB_iff {x a b : Int} : inB x a b = true ↔ a ≤ x ∧ x ≤ b := by simp [inB]
theorem inB_not {x a b : Int} : inB x a b = false ↔ ¬ (a ≤ x ∧ x ≤ b) := by rw [← inB_iff]; simp
/-- A sheet's five numbers. -/
structure Sh where
  id : Int
  row : Int
  col : Int
  scale : Int
  year : Int
/-- Is the sheet valid? -/
def Sh.ok (s : Sh) : Bool := inB s.id 1 999 && (inB s.row 0 99 && (inB s.col 0 99 && (inB s.scale 10 500 && inB s.year 1500 2100)))

set_option maxHeartbeats 400000 in
theorem l1In_any (x a b : Int) (w : World) :
    Calls Try.prog 129 #[.int .i64 x, .int .i64 a, .int .i64 b] w fun e w' => e = .returned (.bool (inB x a b)) ∧ w = w' := by
  by_cases h : a ≤ x
  · go_enter Try.func129, Try.ntmps129
    go_wp2
    go_ret
    exact ⟨ret_bool (by simp [inB, h]), rfl⟩
  · go_enter Try.func129, Try.ntmps129
    go_wp2
    go_ret
    exact ⟨ret_bool (by simp [inB]; omega), rfl⟩
theorem bel_alloc1 (w : World) (o : Obj) : Below w.heap.size w (w.alloc o) := (Below.refl _ _).alloc (Nat.le_refl _) o

theorem all_snoc (zs : List Int) (k : Nat) (z lo hi : Int) (h : zs[k]? = some z) : ((zs.take (k + 1)).all fun z => inB z lo hi) = (((zs.take k).all fun z => inB z lo hi) && inB z lo hi) := by
  rw [List.take_add_one, h]; simp
set_option maxHeartbeats 400000 in
/-- Are all numbers of a slice in lo .. hi? -/
theorem areInRange_any (b n c : Nat) (zs : List Int) (lo hi : Int) (w : World) (hn : n = zs.length) (hm : n ≤ 1000000) (hc : ∀ (j : Nat) z, zs[j]? = some z → w.cell? ⟨b, j, none⟩ = some (.int .i64 z)) :
    Calls Try.prog 84 #[.int .i64 lo, .int .i64 hi, .slice (some ⟨b, 0, none⟩) n c] w fun e w' => e = .returned (.bool (zs.all fun z => inB z lo hi)) ∧ w = w' := by
  have C := Lib.hid hc
  have L := Lib.hid hn
  clear hc hn
  go_enter Try.func84, Try.ntmps84
  go_wp2
  go_loop [11, 8] (fun i _ => ∃ k : Nat, k ≤ n ∧ i = .int .i64 k ∧ ((zs.take k).all fun z => inB z lo hi) = true) (fun i _ => n - (intOf i).toNat)
  case atStart => exact ⟨0, Nat.zero_le _, rfl, rfl⟩
  case round =>
    obtain ⟨k, hk, rfl, hall⟩ := hrel
    have H := Lib.hid hall
    clear hall
    by_cases hlt : k < n
    · obtain ⟨z, hz⟩ : ∃ z, zs[k]? = some z := ⟨zs[k]'(by have := L.out; omega), List.getElem?_eq_getElem _⟩
      have hcell := C.out k z hz
      have S := Lib.hid (all_snoc zs k z lo hi hz)
      have T := Lib.hid (List.mem_of_getElem? hz)
      clear hz
      by_cases hin : inB z lo hi = true
      · obtain ⟨h1, h2⟩ := inB_iff.1 hin
        have I := Lib.hid hin
        clear hin
        go_wp2
        go_round
        case rel => exact ⟨k + 1, by omega, by go_num, by rw [S.out, H.out, I.out]; rfl⟩
        case measure => simp [intOf]; omega
      · have hin' : inB z lo hi = false := by simpa using hin
        have h1 := inB_not.1 hin'
        have I := Lib.hid hin'
        have hF : (zs.all fun z => inB z lo hi) = false := by
          rw [List.all_eq_false]; exact ⟨z, T.out, by simp [I.out]⟩
        have F := Lib.hid hF
        clear hin hin' hF
        by_cases h2 : z < lo
        · clear h1
          go_wp2
          go_ret
          exact ⟨ret_bool F.out.symm, rfl⟩
        · have h3 : hi < z := by omega
          clear h1
          go_wp2
          go_ret
          exact ⟨ret_bool F.out.symm, rfl⟩
    · obtain rfl : k = n := by omega
      go_wp2
      go_ret
      exact ⟨ret_bool (by rw [← H.out, List.take_of_length_le (by have := L.out; omega)]), rfl⟩

theorem lit1 (W : World) (x : Int) (t : TypeId) (B : Nat) (hB : W.heap.size = B) : ∀ (j : Nat) z, [x][j]? = some z → (W.alloc (.cells #[.int .i64 x] t)).cell? ⟨B, j, none⟩ = some (.int .i64 z) := by
  intro j z hj
  subst hB
  match j, hj with
  | 0, hj => simp at hj; subst hj; simp [World.cell?_alloc_new]
  | j + 1, hj => simp at hj
theorem lit2 (W : World) (x y : Int) (t : TypeId) (B : Nat) (hB : W.heap.size = B) : ∀ (j : Nat) z, [x, y][j]? = some z → (W.alloc (.cells #[.int .i64 x, .int .i64 y] t)).cell? ⟨B, j, none⟩ = some (.int .i64 z) := by
  intro j z hj
  subst hB
  match j, hj with
  | 0, hj => simp at hj; subst hj; simp [World.cell?_alloc_new]
  | 1, hj => simp at hj; subst hj; simp [World.cell?_alloc_new]
  | j + 2, hj => simp at hj
theorem size_alloc (W : World) (o : Obj) : (W.alloc o).heap.size = W.heap.size + 1 := by
  show (W.heap.push o).size = _
  simp

end Go.Proofs.Ytpnaciamnigbnaa
namespace Go.Proofs.Ytpnaciamnigbnaa

abbrev Sq := Nat × Nat
def colsN (D : List (List Int)) : Nat := (D.headD []).length
/-- It is a relief. -/
def rlB (D : List (List Int)) : Bool := decide (1 ≤ D.length) && (decide (D.length ≤ 8) && (decide (1 ≤ colsN D) && (decide (colsN D ≤ 8) && D.all (fun r => decide (r.length = colsN D) && r.all (fun h => inB h 0 9999)))))
structure RL (D : List (List Int)) : Prop where
  m1 : 1 ≤ D.length
  m8 : D.length ≤ 8
  n1 : 1 ≤ colsN D
  n8 : colsN D ≤ 8
  row : ∀ r ∈ D, r.length = colsN D
  val : ∀ r ∈ D, ∀ h ∈ r, 0 ≤ h ∧ h ≤ 9999
theorem rlB_iff {D : List (List Int)} : rlB D = true ↔ RL D := by
  unfold rlB
  simp only [Bool.and_eq_true, decide_eq_true_eq, List.all_eq_true, inB]
  constructor
  · rintro ⟨h1, h2, h3, h4, h5⟩
    exact ⟨h1, h2, h3, h4, fun r hr => (h5 r hr).1, fun r hr => (h5 r hr).2⟩
  · rintro ⟨h1, h2, h3, h4, h5, h6⟩
    exact ⟨h1, h2, h3, h4, fun r hr => ⟨h5 r hr, h6 r hr⟩⟩
def hA (D : List (List Int)) (p : Sq) : Int := (D.getD p.1 []).getD p.2 0
def inR (D : List (List Int)) (p : Sq) : Prop := p.1 < D.length ∧ p.2 < colsN D
theorem RL.at {D : List (List Int)} (h : RL D) {p : Sq} (hp : inR D p) : ∃ row, D[p.1]? = some row ∧ row.length = colsN D ∧ row[p.2]? = some (hA D p) ∧ 0 ≤ hA D p ∧ hA D p ≤ 9999 := by
  obtain ⟨r, e⟩ : ∃ r, D[p.1]? = some r := ⟨D[p.1]'(hp.1), List.getElem?_eq_getElem _⟩
  have hm : r ∈ D := List.mem_of_getElem? e
  have hl := h.row _ hm
  obtain ⟨x, e2⟩ : ∃ x, r[p.2]? = some x := ⟨r[p.2]'(by rw [hl]; exact hp.2), List.getElem?_eq_getElem _⟩
  have e3 : hA D p = x := by
    unfold hA
    rw [List.getD_eq_getElem?_getD, List.getD_eq_getElem?_getD, e, Option.getD_some, e2, Option.getD_some]
  have hv := h.val _ hm _ (List.mem_of_getElem? e2)
  exact ⟨r, e, hl, by rw [e3]; exact e2, by rw [e3]; exact hv.1, by rw [e3]; exact hv.2⟩
/-- The neighbors: to the north, the east, the south, the west. -/
def nears (D : List (List Int)) (p : Sq) : List Sq :=
  (if 0 < p.1 then [(p.1 - 1, p.2)] else []) ++ ((if p.2 + 1 < colsN D then [(p.1, p.2 + 1)] else []) ++ ((if p.1 + 1 < D.length then [(p.1 + 1, p.2)] else []) ++ (if 0 < p.2 then [(p.1, p.2 - 1)] else [])))
theorem nears_in {D : List (List Int)} {p q : Sq} (hp : inR D p) (hq : q ∈ nears D p) : inR D q := by
  obtain ⟨a, b⟩ := p
  unfold inR at *
  simp only [nears, List.mem_append] at hq hp
  rcases hq with hq | hq | hq | hq <;> (split at hq <;> simp at hq) <;> subst hq <;> simp only [] <;> omega
theorem nears_len (D : List (List Int)) (p : Sq) : (nears D p).length ≤ 4 := by
  unfold nears
  simp only [List.length_append]
  repeat' split
  all_goals simp
def lowerOf (D : List (List Int)) (b q : Sq) : Sq := if hA D q < hA D b then q else b
def nextSq (D : List (List Int)) (p : Sq) : Sq := (nears D p).foldl (lowerOf D) p
theorem fold_lower (D : List (List Int)) : ∀ (l : List Sq) (b : Sq), (l.foldl (lowerOf D) b = b) ∨ (l.foldl (lowerOf D) b ∈ l ∧ hA D (l.foldl (lowerOf D) b) < hA D b) := by
  intro l
  induction l with
  | nil => intro b; exact .inl rfl
  | cons x l ih =>
    intro b
    rw [List.foldl_cons]
    by_cases h : hA D x < hA D b
    · rw [show lowerOf D b x = x from by unfold lowerOf; rw [if_pos h]]
      rcases ih x with e | ⟨e, e2⟩
      · rw [e]; exact .inr ⟨by simp, h⟩
      · exact .inr ⟨List.mem_cons_of_mem _ e, by omega⟩
    · rw [show lowerOf D b x = b from by unfold lowerOf; rw [if_neg h]]
      rcases ih b with e | ⟨e, e2⟩
      · exact .inl e
      · exact .inr ⟨List.mem_cons_of_mem _ e, e2⟩
theorem next_in {D : List (List Int)} {p : Sq} (hp : inR D p) : inR D (nextSq D p) := by
  rcases fold_lower D (nears D p) p with e | ⟨e, _⟩
  · unfold nextSq; rw [e]; exact hp
  · exact nears_in hp e
theorem next_lt {D : List (List Int)} {p : Sq} (h : nextSq D p ≠ p) : hA D (nextSq D p) < hA D p := by
  rcases fold_lower D (nears D p) p with e | ⟨_, e⟩
  · exact absurd e h
  · exact e
/-- The squares over which water runs, told for so many steps at most. -/
def runN (D : List (List Int)) : Nat → Sq → List Sq
  | 0, p => [p]
  | k + 1, p => p :: (if nextSq D p = p then [] else runN D k (nextSq D p))
def runOf (D : List (List Int)) (p : Sq) : List Sq := runN D (hA D p).toNat p
theorem runN_more {D : List (List Int)} (hD : RL D) : ∀ (k j : Nat) (p : Sq), inR D p → (hA D p).toNat ≤ k → (hA D p).toNat ≤ j → runN D k p = runN D j p := by
  intro k
  induction k with
  | zero =>
    intro j p hp h1 h2
    cases j with
    | zero => rfl
    | succ j =>
      have : nextSq D p = p := by
        refine Classical.byContradiction fun hne => ?_
        have := next_lt hne
        obtain ⟨_, _, _, _, h0, _⟩ := hD.at (next_in hp)
        omega
      simp [runN, this]
  | succ k ih =>
    intro j p hp h1 h2
    by_cases hne : nextSq D p = p
    · cases j with
      | zero => simp [runN, hne]
      | succ j => simp [runN, hne]
    · have hl := next_lt hne
      obtain ⟨_, _, _, _, h0, _⟩ := hD.at (next_in hp)
      cases j with
      | zero => omega
      | succ j =>
        simp only [runN, if_neg hne]
        rw [ih j (nextSq D p) (next_in hp) (by omega) (by omega)]
theorem runOf_step {D : List (List Int)} (hD : RL D) {p : Sq} (hp : inR D p) : runOf D p = p :: (if nextSq D p = p then [] else runOf D (nextSq D p)) := by
  unfold runOf
  rw [runN_more hD (hA D p).toNat ((hA D p).toNat + 1) p hp (Nat.le_refl _) (by omega)]
  simp only [runN]
  by_cases hne : nextSq D p = p
  · rw [if_pos hne, if_pos hne]
  · rw [if_neg hne, if_neg hne]
    have hl := next_lt hne
    obtain ⟨_, _, _, _, h0, _⟩ := hD.at (next_in hp)
    rw [runN_more hD (hA D p).toNat (hA D (nextSq D p)).toNat _ (next_in hp) (by omega) (Nat.le_refl _)]
theorem runN_len (D : List (List Int)) : ∀ (k : Nat) (p : Sq), (runN D k p).length ≤ k + 1 := by
  intro k
  induction k with
  | zero => intro p; simp [runN]
  | succ k ih =>
    intro p
    simp only [runN, List.length_cons]
    split
    · simp
    · have := ih (nextSq D p); omega
theorem runOf_len {D : List (List Int)} (hD : RL D) {p : Sq} (hp : inR D p) : (runOf D p).length ≤ 10000 := by
  have := runN_len D (hA D p).toNat p
  obtain ⟨_, _, _, _, h0, h1⟩ := hD.at hp
  unfold runOf
  omega
theorem runN_in {D : List (List Int)} : ∀ (k : Nat) (p : Sq), inR D p → ∀ q ∈ runN D k p, inR D q := by
  intro k
  induction k with
  | zero => intro p hp q hq; simp [runN] at hq; subst hq; exact hp
  | succ k ih =>
    intro p hp q hq
    simp only [runN, List.mem_cons] at hq
    rcases hq with rfl | hq
    · exact hp
    · split at hq
      · simp at hq
      · exact ih _ (next_in hp) q hq
theorem runOf_in {D : List (List Int)} {p : Sq} (hp : inR D p) : ∀ q ∈ runOf D p, inR D q := runN_in _ p hp
/-- All squares. -/
def sqRow (n r : Nat) : List Sq := (List.range n).map fun c => (r, c)
def sqsTo (n k : Nat) : List Sq := (List.range k).flatMap fun r => sqRow n r
def sqs (D : List (List Int)) : List Sq := sqsTo (colsN D) D.length
theorem sqRow_succ (n r : Nat) : sqRow (n + 1) r = sqRow n r ++ [(r, n)] := by simp [sqRow, List.range_succ]
theorem sqsTo_succ (n k : Nat) : sqsTo n (k + 1) = sqsTo n k ++ sqRow n k := by simp [sqsTo, List.range_succ]
theorem sqRow_len (n r : Nat) : (sqRow n r).length = n := by simp [sqRow]
theorem sqsTo_len (n k : Nat) : (sqsTo n k).length = k * n := by
  induction k with
  | zero => simp [sqsTo]
  | succ k ih => rw [sqsTo_succ, List.length_append, ih, sqRow_len, Nat.succ_mul]
theorem mem_sqRow {n r : Nat} {p : Sq} : p ∈ sqRow n r ↔ p.1 = r ∧ p.2 < n := by
  obtain ⟨a, b⟩ := p
  simp [sqRow]
  constructor
  · rintro ⟨h1, h2⟩; exact ⟨h2.symm, h1⟩
  · rintro ⟨h1, h2⟩; exact ⟨h2, h1.symm⟩
theorem mem_sqsTo {n k : Nat} {p : Sq} : p ∈ sqsTo n k ↔ p.1 < k ∧ p.2 < n := by
  simp only [sqsTo, List.mem_flatMap, List.mem_range, mem_sqRow]
  constructor
  · rintro ⟨r, h1, h2, h3⟩; exact ⟨by omega, h3⟩
  · rintro ⟨h1, h2⟩; exact ⟨p.1, h1, rfl, h2⟩
theorem mem_sqs {D : List (List Int)} {p : Sq} : p ∈ sqs D ↔ inR D p := mem_sqsTo
theorem sqs_len {D : List (List Int)} (h : RL D) : (sqs D).length ≤ 64 := by
  unfold sqs
  rw [sqsTo_len]
  exact Nat.mul_le_mul h.m8 h.n8
theorem sqs_head {D : List (List Int)} (h : RL D) : ∃ l, sqs D = (0, 0) :: l := by
  obtain ⟨m, hm⟩ : ∃ m, D.length = m + 1 := ⟨D.length - 1, by have := h.m1; omega⟩
  obtain ⟨n, hn⟩ : ∃ n, colsN D = n + 1 := ⟨colsN D - 1, by have := h.n1; omega⟩
  refine ⟨(sqs D).tail, ?_⟩
  unfold sqs sqsTo sqRow
  rw [hm, hn]
  simp [List.range_succ_eq_map]
def pitB (D : List (List Int)) (p : Sq) : Bool := nextSq D p == p
def pits (D : List (List Int)) : List Sq := (sqs D).filter (pitB D)
/-- How often water runs over a square. -/
def rivTo (D : List (List Int)) (l : List Sq) (q : Sq) : Nat := (l.flatMap (runOf D)).count q
def riv (D : List (List Int)) (q : Sq) : Nat := rivTo D (sqs D) q
theorem rivTo_nil (D : List (List Int)) (q : Sq) : rivTo D [] q = 0 := by simp [rivTo]
theorem rivTo_snoc (D : List (List Int)) (l : List Sq) (p q : Sq) : rivTo D (l ++ [p]) q = rivTo D l q + (runOf D p).count q := by simp [rivTo, List.flatMap_append, List.count_append]
theorem flat_len (D : List (List Int)) (hD : RL D) : ∀ l : List Sq, (∀ p ∈ l, inR D p) → (l.flatMap (runOf D)).length ≤ l.length * 10000 := by
  intro l
  induction l with
  | nil => intro _; simp
  | cons x l ih =>
    intro h
    rw [List.flatMap_cons, List.length_append, List.length_cons]
    have h1 := ih fun p hp => h p (List.mem_cons_of_mem _ hp)
    have h2 := runOf_len hD (h x (by simp))
    omega
theorem rivTo_le (D : List (List Int)) (hD : RL D) (l : List Sq) (hl : ∀ p ∈ l, inR D p) (q : Sq) : rivTo D l q ≤ l.length * 10000 :=
  Nat.le_trans List.count_le_length (flat_len D hD l hl)
/-- The first greatest. -/
def maxS (f : Sq → Int) (b q : Sq) : Sq := if f b < f q then q else b
def maxFrom (f : Sq → Int) (b : Sq) (l : List Sq) : Sq := l.foldl (maxS f) b
def topOf (D : List (List Int)) (f : Sq → Int) : Sq := maxFrom f (0, 0) (sqs D)
theorem top_tail {D : List (List Int)} {f : Sq → Int} {l : List Sq} (h : sqs D = (0, 0) :: l) : topOf D f = maxFrom f (0, 0) l := by
  unfold topOf maxFrom
  rw [h, List.foldl_cons, show maxS f (0, 0) (0, 0) = (0, 0) from by unfold maxS; split <;> rfl]
theorem maxFrom_mem (f : Sq → Int) : ∀ (l : List Sq) (b : Sq), maxFrom f b l = b ∨ maxFrom f b l ∈ l := by
  intro l
  induction l with
  | nil => intro b; exact .inl rfl
  | cons x l ih =>
    intro b
    unfold maxFrom at *
    rw [List.foldl_cons]
    rcases ih (maxS f b x) with e | e
    · rw [e]; unfold maxS; split
      · exact .inr (by simp)
      · exact .inl rfl
    · exact .inr (List.mem_cons_of_mem _ e)
theorem maxFrom_ge (f : Sq → Int) : ∀ (l : List Sq) (b : Sq), f b ≤ f (maxFrom f b l) ∧ ∀ q ∈ l, f q ≤ f (maxFrom f b l) := by
  intro l
  induction l with
  | nil => intro b; exact ⟨Int.le_refl _, by simp⟩
  | cons x l ih =>
    intro b
    unfold maxFrom at *
    rw [List.foldl_cons]
    obtain ⟨h1, h2⟩ := ih (maxS f b x)
    have h3 : f b ≤ f (maxS f b x) ∧ f x ≤ f (maxS f b x) := by unfold maxS; split <;> constructor <;> omega
    refine ⟨by omega, fun q hq => ?_⟩
    rcases List.mem_cons.1 hq with rfl | hq
    · omega
    · exact h2 q hq
theorem top_in {D : List (List Int)} (h : RL D) (f : Sq → Int) : inR D (topOf D f) := by
  rcases maxFrom_mem f (sqs D) (0, 0) with e | e
  · unfold topOf; rw [e]; exact ⟨by have := h.m1; simp only []; omega, by have := h.n1; simp only []; omega⟩
  · exact mem_sqs.1 e
theorem maxFrom_congr {f g : Sq → Int} : ∀ (l : List Sq) (b : Sq), f b = g b → (∀ q ∈ l, f q = g q) → maxFrom f b l = maxFrom g b l := by
  intro l
  induction l with
  | nil => intro b _ _; rfl
  | cons x l ih =>
    intro b h1 h2
    unfold maxFrom at *
    rw [List.foldl_cons, List.foldl_cons]
    have hx := h2 x (by simp)
    have e : maxS f b x = maxS g b x := by unfold maxS; rw [h1, hx]
    rw [e]
    refine ih _ ?_ fun q hq => h2 q (List.mem_cons_of_mem _ hq)
    unfold maxS; split
    · exact hx
    · exact h1
/-- Between a square and that to which water runs. -/
def fall (D : List (List Int)) (p : Sq) : Int := hA D p - hA D (nextSq D p)
theorem fall_nn (D : List (List Int)) (p : Sq) : 0 ≤ fall D p := by
  unfold fall
  by_cases h : nextSq D p = p
  · rw [h]; omega
  · have := next_lt h; omega
theorem fall_zero {D : List (List Int)} {p : Sq} : fall D p = 0 ↔ nextSq D p = p := by
  unfold fall
  constructor
  · intro h
    refine Classical.byContradiction fun hne => ?_
    have := next_lt hne
    omega
  · intro h; rw [h]; omega
/-- The model's search: the best so far and its fall, 0 as long as there is none. -/
def steepS (D : List (List Int)) (s : Sq × Int) (p : Sq) : Sq × Int := if s.2 < fall D p then (p, fall D p) else s
theorem steep_fold (D : List (List Int)) : ∀ (l : List Sq) (s : Sq × Int), 0 ≤ s.2 → (s.2 = fall D s.1) → l.foldl (steepS D) s = (maxFrom (fall D) s.1 l, fall D (maxFrom (fall D) s.1 l)) := by
  intro l
  induction l with
  | nil => rintro ⟨a, b⟩ _ h; simp only [] at h; subst h; rfl
  | cons x l ih =>
    rintro ⟨a, b⟩ h0 h
    simp only [] at h h0
    subst h
    unfold maxFrom at *
    rw [List.foldl_cons, List.foldl_cons]
    by_cases hlt : fall D a < fall D x
    · rw [show steepS D (a, fall D a) x = (x, fall D x) from by unfold steepS; rw [if_pos hlt], show maxS (fall D) a x = x from by unfold maxS; rw [if_pos hlt]]
      exact ih (x, fall D x) (fall_nn D x) rfl
    · rw [show steepS D (a, fall D a) x = (a, fall D a) from by unfold steepS; rw [if_neg hlt], show maxS (fall D) a x = a from by unfold maxS; rw [if_neg hlt]]
      exact ih (a, fall D a) h0 rfl
theorem steep_top {D : List (List Int)} (h : RL D) : (sqs D).foldl (steepS D) ((0, 0), 0) = (topOf D (fall D), fall D (topOf D (fall D))) := by
  obtain ⟨l, hl⟩ := sqs_head h
  rw [top_tail hl, hl, List.foldl_cons]
  have hn := fall_nn D (0, 0)
  have e : steepS D ((0, 0), 0) (0, 0) = ((0, 0), fall D (0, 0)) := by
    unfold steepS
    by_cases hz : (0 : Int) < fall D (0, 0)
    · rw [if_pos hz]
    · rw [if_neg hz, show fall D (0, 0) = 0 from by omega]
  rw [e, steep_fold D l ((0, 0), fall D (0, 0)) hn rfl]
end Go.Proofs.Ytpnaciamnigbnaa
namespace Go.Proofs.Ytpnaciamnigbnaa

/-- Numbers below which no way out of the relief leads. -/
structure SubL (D : List (List Int)) (G : Sq → Int) : Prop where
  edge : ∀ p, inR D p → (nears D p).length < 4 → G p ≤ hA D p
  near : ∀ p, inR D p → ∀ q ∈ nears D p, G p ≤ max (hA D p) (G q)
structure IsLv (D : List (List Int)) (L : Sq → Int) : Prop where
  sub : SubL D L
  low : ∀ p, inR D p → hA D p ≤ L p
  top : ∀ p, inR D p → L p ≤ 9999
  most : ∀ G, SubL D G → (∀ p, inR D p → G p ≤ 9999) → ∀ p, inR D p → G p ≤ L p
theorem IsLv.one {D : List (List Int)} {L M : Sq → Int} (h : IsLv D L) (k : IsLv D M) {p : Sq} (hp : inR D p) : L p = M p := by
  have h1 := h.most M k.sub k.top p hp
  have h2 := k.most L h.sub h.top p hp
  omega
/-- The lowest number beside a square; 0 at the edge. -/
def lowestN (L : Sq → Int) (l : List Sq) : Int := l.foldl (fun a q => min a (L q)) 9999
def wayN (D : List (List Int)) (L : Sq → Int) (p : Sq) : Int := if (nears D p).length < 4 then 0 else lowestN L (nears D p)
def newL (D : List (List Int)) (L : Sq → Int) (p : Sq) : Int := max (hA D p) (wayN D L p)
theorem fold_min (L : Sq → Int) : ∀ (l : List Sq) (a : Int), l.foldl (fun a q => min a (L q)) a ≤ a ∧ (∀ q ∈ l, l.foldl (fun a q => min a (L q)) a ≤ L q) ∧ (l.foldl (fun a q => min a (L q)) a = a ∨ ∃ q ∈ l, l.foldl (fun a q => min a (L q)) a = L q) := by
  intro l
  induction l with
  | nil => intro a; exact ⟨Int.le_refl _, by simp, .inl rfl⟩
  | cons x l ih =>
    intro a
    rw [List.foldl_cons]
    obtain ⟨h1, h2, h3⟩ := ih (min a (L x))
    refine ⟨by omega, fun q hq => ?_, ?_⟩
    · rcases List.mem_cons.1 hq with rfl | hq
      · omega
      · exact h2 q hq
    · rcases h3 with e | ⟨q, hq, e⟩
      · by_cases hle : a ≤ L x
        · exact .inl (by omega)
        · exact .inr ⟨x, by simp, by omega⟩
      · exact .inr ⟨q, List.mem_cons_of_mem _ hq, e⟩
theorem lowestN_snoc (L : Sq → Int) (l : List Sq) (q : Sq) : lowestN L (l ++ [q]) = min (lowestN L l) (L q) := by simp [lowestN]
theorem lowestN_bd (L : Sq → Int) (l : List Sq) (h : ∀ q ∈ l, 0 ≤ L q) : 0 ≤ lowestN L l ∧ lowestN L l ≤ 9999 := by
  obtain ⟨h1, _, h3⟩ := fold_min L l 9999
  refine ⟨?_, h1⟩
  unfold lowestN
  rcases h3 with e | ⟨q, hq, e⟩
  · rw [e]; omega
  · rw [e]; exact h q hq
theorem lowestN_mono {L M : Sq → Int} (l : List Sq) (h : ∀ q ∈ l, L q ≤ M q) : lowestN L l ≤ lowestN M l := by
  obtain ⟨a1, a2, _⟩ := fold_min L l 9999
  obtain ⟨_, _, b3⟩ := fold_min M l 9999
  unfold lowestN
  rcases b3 with e | ⟨q, hq, e⟩
  · rw [e]; exact a1
  · rw [e]; have := a2 q hq; have := h q hq; omega
theorem newL_mono {D : List (List Int)} {L M : Sq → Int} {p : Sq} (hp : inR D p) (h : ∀ q, inR D q → L q ≤ M q) : newL D L p ≤ newL D M p := by
  unfold newL wayN
  split
  · exact Int.le_refl _
  · have := lowestN_mono (nears D p) (L := L) (M := M) fun q hq => h q (nears_in hp hq)
    omega
theorem sub_new {D : List (List Int)} {G L : Sq → Int} (hG : SubL D G) (ht : ∀ p, inR D p → G p ≤ 9999) (h : ∀ q, inR D q → G q ≤ L q) {p : Sq} (hp : inR D p) : G p ≤ newL D L p := by
  have h1 := newL_mono hp h
  refine Int.le_trans ?_ h1
  unfold newL wayN
  split
  · rename_i he
    have := hG.edge p hp he
    omega
  · obtain ⟨_, _, h3⟩ := fold_min G (nears D p) 9999
    unfold lowestN
    rcases h3 with e | ⟨q, hq, e⟩
    · rw [e]; have := ht p hp; omega
    · rw [e]; exact hG.near p hp q hq
/-- One number replaced. -/
def upL (L : Sq → Int) (p : Sq) (x : Int) : Sq → Int := fun q => if q = p then x else L q
/-- What the program keeps: no level is lower than the true one, and none rises. -/
structure Hi (D : List (List Int)) (L : Sq → Int) : Prop where
  down : ∀ p, inR D p → newL D L p ≤ L p
  top : ∀ p, inR D p → L p ≤ 9999
  most : ∀ G, SubL D G → (∀ p, inR D p → G p ≤ 9999) → ∀ p, inR D p → G p ≤ L p
theorem Hi.low {D : List (List Int)} {L : Sq → Int} (h : Hi D L) {p : Sq} (hp : inR D p) : hA D p ≤ L p := by
  have := h.down p hp
  unfold newL at this
  omega
theorem Hi.step {D : List (List Int)} {L : Sq → Int} (h : Hi D L) {p : Sq} (hp : inR D p) : Hi D (upL L p (newL D L p)) := by
  have hle : ∀ q, inR D q → upL L p (newL D L p) q ≤ L q := fun q hq => by
    unfold upL
    split
    · rename_i e; subst e; exact h.down _ hq
    · exact Int.le_refl _
  refine ⟨fun q hq => ?_, fun q hq => Int.le_trans (hle q hq) (h.top q hq), fun G hG ht q hq => ?_⟩
  · have h1 := newL_mono hq hle
    have h2 := h.down q hq
    show _ ≤ if q = p then newL D L p else L q
    split
    · rename_i e; subst e; exact h1
    · omega
  · show _ ≤ if q = p then newL D L p else L q
    split
    · rename_i e; subst e; exact sub_new hG ht (h.most G hG ht) hq
    · exact h.most G hG ht q hq
theorem Hi.done {D : List (List Int)} (hD : RL D) {L : Sq → Int} (h : Hi D L) (hf : ∀ p, inR D p → newL D L p = L p) : IsLv D L := by
  refine ⟨⟨fun p hp he => ?_, fun p hp q hq => ?_⟩, fun p hp => h.low hp, h.top, h.most⟩
  · obtain ⟨_, _, _, _, h0, _⟩ := hD.at hp
    have := hf p hp
    unfold newL wayN at this
    rw [if_pos he] at this
    omega
  · obtain ⟨_, _, _, _, h0, _⟩ := hD.at hp
    have := hf p hp
    unfold newL wayN at this
    split at this
    · omega
    · have h2 := (fold_min L (nears D p) 9999).2.1 q hq
      unfold lowestN at this
      omega
theorem hi_start {D : List (List Int)} (hD : RL D) : Hi D (fun _ => 9999) := by
  refine ⟨fun p hp => ?_, fun p hp => Int.le_refl _, fun G hG ht p hp => ht p hp⟩
  obtain ⟨_, _, _, _, _, h1⟩ := hD.at hp
  unfold newL wayN
  split
  · omega
  · have := lowestN_bd (fun _ => 9999) (nears D p) (by intro q _; show (0 : Int) ≤ 9999; omega)
    omega
/-- All squares lowered, one after another. -/
def passL (D : List (List Int)) (l : List Sq) (L : Sq → Int) : Sq → Int := l.foldl (fun M p => upL M p (newL D M p)) L
theorem passL_snoc (D : List (List Int)) (l : List Sq) (p : Sq) (L : Sq → Int) : passL D (l ++ [p]) L = upL (passL D l L) p (newL D (passL D l L) p) := by simp [passL]
theorem pass_hi {D : List (List Int)} : ∀ (l : List Sq), (∀ p ∈ l, inR D p) → ∀ L, Hi D L → Hi D (passL D l L) := by
  intro l
  induction l with
  | nil => intro _ L h; exact h
  | cons x l ih =>
    intro hl L h
    unfold passL at *
    rw [List.foldl_cons]
    exact ih (fun p hp => hl p (List.mem_cons_of_mem _ hp)) _ (h.step (hl x (by simp)))
theorem pass_le {D : List (List Int)} : ∀ (l : List Sq), (∀ p ∈ l, inR D p) → ∀ L, Hi D L → ∀ q, inR D q → passL D l L q ≤ L q := by
  intro l
  induction l with
  | nil => intro _ L h q _; exact Int.le_refl _
  | cons x l ih =>
    intro hl L h q hq
    have hx := hl x (by simp)
    have h1 := ih (fun p hp => hl p (List.mem_cons_of_mem _ hp)) _ (h.step hx) q hq
    unfold passL at *
    rw [List.foldl_cons]
    have h2 : upL L x (newL D L x) q ≤ L q := by
      unfold upL
      split
      · rename_i e; subst e; exact h.down _ hq
      · exact Int.le_refl _
    omega
/-- A pass that leaves all as it was leaves the levels. -/
theorem pass_same {D : List (List Int)} : ∀ (l : List Sq), (∀ p ∈ l, inR D p) → ∀ L, Hi D L → (∀ q, inR D q → passL D l L q = L q) → ∀ p ∈ l, newL D L p = L p := by
  intro l
  induction l with
  | nil => intro _ L h _ p hp; cases hp
  | cons x l ih =>
    intro hl L h he p hp
    have hx := hl x (by simp)
    have hs := h.step hx
    have hl2 : ∀ p ∈ l, inR D p := fun p hp => hl p (List.mem_cons_of_mem _ hp)
    have h1 := pass_le l hl2 _ hs
    have hup : upL L x (newL D L x) = L := by
      funext q
      unfold upL
      split
      · rename_i e
        subst e
        have a := h1 q hx
        have b := he q hx
        unfold passL at a b
        rw [List.foldl_cons] at b
        have c := h.down q hx
        have : upL L q (newL D L q) q = newL D L q := by unfold upL; rw [if_pos rfl]
        omega
      · rfl
    have hnew : newL D L x = L x := by
      have := congrFun hup x
      unfold upL at this
      rwa [if_pos rfl] at this
    rcases List.mem_cons.1 hp with rfl | hp
    · exact hnew
    · refine ih hl2 L h (fun q hq => ?_) p hp
      have := he q hq
      unfold passL at this ⊢
      rw [List.foldl_cons, hup] at this
      exact this
/-- Their sum. -/
def sumN (L : Sq → Int) (l : List Sq) : Nat := (l.map fun p => (L p).toNat).sum
theorem sumN_le {L M : Sq → Int} : ∀ l : List Sq, (∀ q ∈ l, M q ≤ L q) → sumN M l ≤ sumN L l := by
  intro l
  induction l with
  | nil => intro _; exact Nat.le_refl _
  | cons x l ih =>
    intro h
    have h1 := ih fun q hq => h q (List.mem_cons_of_mem _ hq)
    have h2 := h x (by simp)
    simp only [sumN, List.map_cons, List.sum_cons] at *
    omega
theorem sumN_lt {L M : Sq → Int} : ∀ l : List Sq, (∀ q ∈ l, M q ≤ L q) → (∀ q ∈ l, 0 ≤ M q) → (∃ q ∈ l, M q ≠ L q) → sumN M l < sumN L l := by
  intro l
  induction l with
  | nil => rintro _ _ ⟨q, hq, _⟩; cases hq
  | cons x l ih =>
    rintro h h0 ⟨q, hq, hne⟩
    have h1 := sumN_le l fun q hq => h q (List.mem_cons_of_mem _ hq)
    have h2 := h x (by simp)
    have h3 := h0 x (by simp)
    rcases List.mem_cons.1 hq with rfl | hq
    · simp only [sumN, List.map_cons, List.sum_cons] at *
      omega
    · have := ih (fun q hq => h q (List.mem_cons_of_mem _ hq)) (fun q hq => h0 q (List.mem_cons_of_mem _ hq)) ⟨q, hq, hne⟩
      simp only [sumN, List.map_cons, List.sum_cons] at *
      omega
theorem Hi.nn {D : List (List Int)} (hD : RL D) {L : Sq → Int} (h : Hi D L) {p : Sq} (hp : inR D p) : 0 ≤ L p := by
  obtain ⟨_, _, _, _, h0, _⟩ := hD.at hp
  have := h.low hp
  omega
/-- Either the pass has left all as it was, and these are the levels, or the sum is less. -/
theorem pass_or {D : List (List Int)} (hD : RL D) {L : Sq → Int} (h : Hi D L) : ((∀ q, inR D q → passL D (sqs D) L q = L q) ∧ IsLv D L) ∨ ((∃ q, inR D q ∧ passL D (sqs D) L q ≠ L q) ∧ sumN (passL D (sqs D) L) (sqs D) < sumN L (sqs D)) := by
  have hin : ∀ p ∈ sqs D, inR D p := fun p hp => mem_sqs.1 hp
  by_cases hs : ∀ q, inR D q → passL D (sqs D) L q = L q
  · exact .inl ⟨hs, h.done hD fun p hp => pass_same (sqs D) hin L h hs p (mem_sqs.2 hp)⟩
  · have ⟨q, hq⟩ := Classical.not_forall.1 hs
    have hq1 : inR D q ∧ passL D (sqs D) L q ≠ L q := by
      refine ⟨Classical.byContradiction fun hn => hq fun h => absurd h hn, fun e => hq fun _ => e⟩
    refine .inr ⟨⟨q, hq1⟩, sumN_lt _ (fun q hq => pass_le _ hin L h q (hin q hq)) (fun q hq => (pass_hi _ hin L h).nn hD (hin q hq)) ⟨q, mem_sqs.2 hq1.1, hq1.2⟩⟩
/-- The levels: passes until nothing falls any more. -/
def levN (D : List (List Int)) : Nat → (Sq → Int) → (Sq → Int)
  | 0, L => L
  | k + 1, L => levN D k (passL D (sqs D) L)
def lev (D : List (List Int)) : Sq → Int := levN D (sumN (fun _ => 9999) (sqs D)) (fun _ => 9999)
theorem IsLv.congr {D : List (List Int)} {L M : Sq → Int} (h : IsLv D L) (e : ∀ q, inR D q → M q = L q) : IsLv D M := by
  refine ⟨⟨fun p hp he => by rw [e p hp]; exact h.sub.edge p hp he, fun p hp q hq => by rw [e p hp, e q (nears_in hp hq)]; exact h.sub.near p hp q hq⟩, fun p hp => by rw [e p hp]; exact h.low p hp, fun p hp => by rw [e p hp]; exact h.top p hp, fun G hG ht p hp => by rw [e p hp]; exact h.most G hG ht p hp⟩
theorem IsLv.fix {D : List (List Int)} {L : Sq → Int} (h : IsLv D L) (hh : Hi D L) : ∀ q, inR D q → passL D (sqs D) L q = L q := by
  have hin : ∀ p ∈ sqs D, inR D p := fun p hp => mem_sqs.1 hp
  intro q hq
  have h1 := pass_le _ hin L hh q hq
  have h2 := (pass_hi _ hin L hh).most L h.sub h.top q hq
  omega
theorem levN_is {D : List (List Int)} (hD : RL D) : ∀ (k : Nat) (L : Sq → Int), Hi D L → (IsLv D L ∨ sumN L (sqs D) ≤ k) → IsLv D (levN D k L) := by
  have hin : ∀ p ∈ sqs D, inR D p := fun p hp => mem_sqs.1 hp
  intro k
  induction k with
  | zero =>
    intro L h hk
    rcases hk with hk | hk
    · exact hk
    · rcases pass_or hD h with ⟨_, h2⟩ | ⟨_, h2⟩
      · exact h2
      · omega
  | succ k ih =>
    intro L h hk
    refine ih _ (pass_hi _ hin L h) ?_
    rcases hk with hk | hk
    · exact .inl (hk.congr (hk.fix h))
    · rcases pass_or hD h with ⟨h1, h2⟩ | ⟨_, h2⟩
      · exact .inl (h2.congr h1)
      · exact .inr (by omega)
theorem lev_is {D : List (List Int)} (hD : RL D) : IsLv D (lev D) := levN_is hD _ _ (hi_start hD) (.inr (Nat.le_refl _))
theorem lev_eq {D : List (List Int)} (hD : RL D) {L : Sq → Int} (h : IsLv D L) {p : Sq} (hp : inR D p) : L p = lev D p := h.one (lev_is hD) hp
/-- What the model keeps: at the edge the height, elsewhere no number is lower than the true one. -/
structure Md (D : List (List Int)) (L : Sq → Int) : Prop where
  low : ∀ p, inR D p → hA D p ≤ L p
  high : ∀ p, inR D p → L p ≤ 10000
  edge : ∀ p, inR D p → (nears D p).length < 4 → L p = hA D p
  most : ∀ G, SubL D G → (∀ p, inR D p → G p ≤ 9999) → ∀ p, inR D p → G p ≤ L p
theorem md_start {D : List (List Int)} (hD : RL D) : Md D (fun p => if (nears D p).length < 4 then hA D p else 10000) := by
  refine ⟨fun p hp => ?_, fun p hp => ?_, fun p hp he => ?_, fun G hG ht p hp => ?_⟩
  · obtain ⟨_, _, _, _, h0, h1⟩ := hD.at hp
    split <;> omega
  · obtain ⟨_, _, _, _, h0, h1⟩ := hD.at hp
    split <;> omega
  · rw [if_pos he]
  · split
    · rename_i he; exact hG.edge p hp he
    · have := ht p hp; omega
theorem Md.step {D : List (List Int)} {L : Sq → Int} (h : Md D L) {p q : Sq} (hp : inR D p) (hq : q ∈ nears D p) (hlt : max (hA D p) (L q) < L p) : Md D (upL L p (max (hA D p) (L q))) := by
  have hpe : ¬ (nears D p).length < 4 := fun he => by have := h.edge p hp he; omega
  refine ⟨fun r hr => ?_, fun r hr => ?_, fun r hr he => ?_, fun G hG ht r hr => ?_⟩
  · unfold upL; split
    · rename_i e; subst e; omega
    · exact h.low r hr
  · have := h.high p hp
    unfold upL; split
    · rename_i e; subst e; omega
    · exact h.high r hr
  · unfold upL; split
    · rename_i e; subst e; exact absurd he hpe
    · exact h.edge r hr he
  · unfold upL; split
    · rename_i e; subst e
      have h1 := hG.near r hr q hq
      have h2 := h.most G hG ht q (nears_in hr hq)
      omega
    · exact h.most G hG ht r hr
theorem Md.done {D : List (List Int)} (hD : RL D) {L : Sq → Int} (h : Md D L) (hf : ∀ p, inR D p → ∀ q ∈ nears D p, L p ≤ max (hA D p) (L q)) : IsLv D L := by
  have ht : ∀ r c, inR D (r, c) → L (r, c) ≤ 9999 := by
    intro r
    induction r with
    | zero =>
      intro c hp
      have he : (nears D (0, c)).length < 4 := by
        unfold nears
        simp only [List.length_append]
        rw [if_neg (by omega)]
        repeat' split
        all_goals simp
      have := h.edge _ hp he
      obtain ⟨_, _, _, _, _, h1⟩ := hD.at hp
      omega
    | succ r ih =>
      intro c hp
      have hn : (r, c) ∈ nears D (r + 1, c) := by
        unfold nears
        rw [if_pos (by simp only []; omega)]
        simp
      have h1 := hf _ hp _ hn
      have h2 := ih c (nears_in hp hn)
      obtain ⟨_, _, _, _, _, h3⟩ := hD.at hp
      omega
  exact ⟨⟨fun p hp he => by have := h.edge p hp he; omega, hf⟩, h.low, fun p hp => ht p.1 p.2 hp, h.most⟩
end Go.Proofs.Ytpnaciamnigbnaa
namespace Go.Proofs.Ytpnaciamnigbnaa
open Go.RowKit Go.ChangeShapes Go.WideShapes Go.Deep

section
variable {H : Type} {enc : TypeId × Value → H} {P : Program} {w : World} {base : Nat} {spare : Nat → Bool} {held : Bool}

/-- Every field is an integer of 64 bits. -/
def AllInts (P : Program) (fs : Array Field) : Prop := ∀ (j : Nat) (f : Field), fs[j]? = some f → P.underlying f.type = some (.int .i64)
theorem AllInts.mk {P : Program} {fs : Array Field} {t : TypeId} (h : fs.all (fun f => f.type == t) = true) (ht : P.underlying t = some (.int .i64)) : AllInts P fs := by
  intro j f hj
  obtain ⟨hlt, he⟩ := Array.getElem?_eq_some_iff.1 hj
  have := Array.all_eq_true.1 h j hlt
  rw [he] at this
  simp at this
  rw [this]; exact ht

/-- The cells of a struct that reads are integers, one a field. -/
theorem cells_of_struct {e : TypeId} {fs : Array Field} {fuel : Nat} {cs : List Value} {x : DataW H × List MemPlace} (he : P.underlying e = some (.struct fs)) (hone : oneCellFields P fs = true) (hints : AllInts P fs) (hsz : cs.length = fs.size)
    (h : DataW.trod enc P w base spare held fuel e cs = some x) : ∃ f : Nat → Int, ∀ j, j < fs.size → cs[j]? = some (.int .i64 (f j)) := by
  obtain ⟨ys, n, _, _, _, hyl, hf⟩ := DataW.trod_struct he h
  have each : ∀ j, j < fs.size → ∃ z : Int, cs[j]? = some (.int .i64 z) := by
    intro j hj
    have hj' : fs[j]? = some (fs[j]'hj) := Array.getElem?_eq_getElem hj
    obtain ⟨ho, hk⟩ := hone_of hone j _ hj'
    have h1 := hf j _ hj'
    rw [ho, hk] at h1
    have hone' : (cs.drop j).take 1 = [cs[j]'(by omega)] := by
      rw [List.drop_eq_getElem_cons (by omega)]
      rfl
    rw [hone'] at h1
    have hys : ys[j]? = some (ys[j]'(by omega)) := List.getElem?_eq_getElem (by omega)
    obtain ⟨z, hz, _⟩ := DataW.trod_int (hints j _ hj') (h1.trans hys)
    exact ⟨z, by rw [List.getElem?_eq_getElem (by omega)]; simpa using hz⟩
  obtain ⟨f, hf⟩ := Classical.axiomOfChoice (r := fun (j : Fin fs.size) (z : Int) => cs[j.1]? = some (.int .i64 z)) (fun j => each j.1 j.2)
  exact ⟨fun j => if hj : j < fs.size then f ⟨j, hj⟩ else 0, fun j hj => by simp only [hj, dif_pos]; exact hf ⟨j, hj⟩⟩

/-- A struct of integers, by value. -/
theorem open_ints_struct {r : Reach} {b0 : Nat} {t : TypeId} {fs : Array Field} {v : Value} {d : DataW H} {p : List MemPlace} (hs : P.underlying t = some (.struct fs)) (hone : oneCellFields P fs = true) (hints : AllInts P fs) (hC : P.cellsOf t = fs.size)
    (hv : Value.okWide P w r b0 t v) (h : DataW.Trod enc P w base spare held t v d p) : ∃ f : Nat → Int, v = .agg ((List.range fs.size).map fun j => Value.int .i64 (f j)).toArray := by
  obtain ⟨cs, rfl, hsz⟩ := okWide_struct hs hv
  obtain ⟨fuel, hf⟩ := h
  obtain ⟨l⟩ := cs
  have hl : l.length = fs.size := by simpa using hsz.trans hC
  obtain ⟨f, hcell⟩ := cells_of_struct hs hone hints (cs := l) hl (by simpa [Value.cells] using hf)
  refine ⟨f, ?_⟩
  congr 1
  congr 1
  apply List.ext_getElem?
  intro j
  by_cases hj : j < fs.size
  · rw [hcell j hj]; simp [hj]
  · rw [List.getElem?_eq_none (by omega), List.getElem?_eq_none (by simp; omega)]

/-- A slice of structs of integers. -/
theorem open_ints_structs {t e : TypeId} {fs : Array Field} {fuel : Nat} {a : Option Addr} {len cap : Nat} {x : DataW H × List MemPlace} (ht : P.underlying t = some (.slice e)) (he : P.underlying e = some (.struct fs))
    (hone : oneCellFields P fs = true) (hints : AllInts P fs) (hC : P.cellsOf e = fs.size) (hpos : 0 < fs.size) (h : DataW.trod enc P w base (fun _ => true) held fuel t (Value.slice a len cap).cells.toList = some x) :
    (a = none ∧ len = 0 ∧ cap = 0) ∨ ∃ (b o : Nat) (f : Nat → Nat → Int), (len = 0 ∨ a = some ⟨b, o, none⟩) ∧ len ≤ cap ∧ cap ≤ maxLen ∧ (0 < len → b < w.heap.size) ∧ ∀ i j, i < len → j < fs.size → w.cell? ⟨b, o + (i * fs.size + j), none⟩ = some (.int .i64 (f i j)) := by
  rcases open_slice ht h with ⟨hcs, _⟩ | ⟨y, l, c, m, n, D, Pl, hcs, hb, hl, hm, hmm, _, hi⟩
  · simp [Value.cells] at hcs
    exact .inl hcs
  · right
    simp [Value.cells] at hcs
    obtain ⟨rfl, rfl, rfl⟩ := hcs
    simp at hmm
    subst hmm
    obtain ⟨b, o, spot⟩ := y
    have each : ∀ i, i < len → ∃ f : Nat → Int, ∀ j, j < fs.size → w.cell? ((⟨b, o, spot⟩ : Addr).add (i * fs.size + j)) = some (.int .i64 (f j)) := by
      intro i hlt
      obtain ⟨cs', hc, ht'⟩ := hi i (by omega)
      rw [hC] at hc
      obtain ⟨_, hcl, hat⟩ := World.cells?_some hc
      obtain ⟨f, hf⟩ := cells_of_struct he hone hints hcl ht'
      refine ⟨f, fun j hj => ?_⟩
      rw [← Go.Deep.add_add, hat j hj]
      exact hf j hj
    by_cases h0 : len = 0
    · exact ⟨b, o, fun _ _ => 0, .inl h0, hl, hm, by omega, by omega⟩
    · obtain ⟨f0, hf0⟩ := each 0 (by omega)
      have h1 := hf0 0 hpos
      have hspot : spot = none := by simpa [Addr.add] using World.cell?_spot h1
      subst hspot
      obtain ⟨f, hf⟩ := Classical.axiomOfChoice (r := fun (i : Fin len) (g : Nat → Int) => ∀ j, j < fs.size → w.cell? ((⟨b, o, none⟩ : Addr).add (i.1 * fs.size + j)) = some (.int .i64 (g j))) (fun i => each i.1 i.2)
      refine ⟨b, o, fun i => if hi : i < len then f ⟨i, hi⟩ else fun _ => 0, .inr rfl, hl, hm, fun _ => ?_, fun i j hi hj => ?_⟩
      · have h2 := h1
        rw [add_plain] at h2
        by_cases hb : b < w.heap.size
        · exact hb
        · exfalso
          have : w.cell? ⟨b, o + (0 * fs.size + 0), none⟩ = none := by simp [World.cell?, Array.getElem?_eq_none (Nat.le_of_not_lt hb)]
          rw [this] at h2; cases h2
      · have := hf ⟨i, hi⟩ j hj
        rw [add_plain] at this
        simpa [hi] using this
end
end Go.Proofs.Ytpnaciamnigbnaa
namespace Go.Proofs.Ytpnaciamnigbnaa
open Go.RowKit Go.ChangeShapes Go.WideShapes Go.Deep

section
variable {H : Type} {enc : TypeId × Value → H} {P : Program} {w : World} {base : Nat} {spare : Nat → Bool} {held : Bool}

/-- What a field of one cell holds, by its type. -/
def FieldIs (P : Program) (f : Field) (v : Value) : Prop :=
  (P.underlying f.type = some (.int .i64) → ∃ z : Int, v = .int .i64 z) ∧ (P.underlying f.type = some .string → ∃ s : ByteArray, v = .string s ∧ s.size ≤ maxLen) ∧ (P.underlying f.type = some .bool → ∃ b : Bool, v = .bool b)
theorem trod_field {f : Field} {fuel : Nat} {c : Value} {x : DataW H × List MemPlace} (h : DataW.trod enc P w base spare held fuel f.type [c] = some x) : FieldIs P f c := by
  refine ⟨fun ht => ?_, fun ht => ?_, fun ht => ?_⟩
  · obtain ⟨z, hz, _⟩ := DataW.trod_int ht h
    exact ⟨z, by simpa using hz⟩
  · obtain ⟨s, hs, _, hl⟩ := DataW.trod_string ht h
    exact ⟨s, by simpa using hs, hl⟩
  · obtain ⟨b, hb, _⟩ := DataW.trod_bool ht h
    exact ⟨b, by simpa using hb⟩
theorem cells_of_one {e : TypeId} {fs : Array Field} {fuel : Nat} {cs : List Value} {x : DataW H × List MemPlace} (he : P.underlying e = some (.struct fs)) (hone : oneCellFields P fs = true) (hsz : cs.length = fs.size)
    (h : DataW.trod enc P w base spare held fuel e cs = some x) : ∀ (j : Nat) (f : Field), fs[j]? = some f → ∃ c, cs[j]? = some c ∧ FieldIs P f c := by
  obtain ⟨ys, n, _, _, _, hyl, hf⟩ := DataW.trod_struct he h
  intro j f hj'
  have hj : j < fs.size := (Array.getElem?_eq_some_iff.1 hj').1
  obtain ⟨ho, hk⟩ := hone_of hone j _ hj'
  have h1 := hf j _ hj'
  rw [ho, hk] at h1
  have hone' : (cs.drop j).take 1 = [cs[j]'(by omega)] := by
    rw [List.drop_eq_getElem_cons (by omega)]
    rfl
  rw [hone'] at h1
  have hys : ys[j]? = some (ys[j]'(by omega)) := List.getElem?_eq_getElem (by omega)
  exact ⟨cs[j]'(by omega), List.getElem?_eq_getElem (by omega), trod_field (h1.trans hys)⟩
/-- A struct of such fields, by value. -/
theorem open_one_struct {r : Reach} {b0 : Nat} {t : TypeId} {fs : Array Field} {v : Value} {d : DataW H} {p : List MemPlace} (hs : P.underlying t = some (.struct fs)) (hone : oneCellFields P fs = true) (hC : P.cellsOf t = fs.size)
    (hv : Value.okWide P w r b0 t v) (h : DataW.Trod enc P w base spare held t v d p) : ∃ cs : List Value, v = .agg cs.toArray ∧ cs.length = fs.size ∧ ∀ (j : Nat) (f : Field), fs[j]? = some f → ∃ c, cs[j]? = some c ∧ FieldIs P f c := by
  obtain ⟨cs, rfl, hsz⟩ := okWide_struct hs hv
  obtain ⟨fuel, hf⟩ := h
  obtain ⟨l⟩ := cs
  have hl : l.length = fs.size := by simpa using hsz.trans hC
  exact ⟨l, rfl, hl, cells_of_one hs hone hl (by simpa [Value.cells] using hf)⟩
/-- A slice of such structs. -/
theorem open_one_structs {t e : TypeId} {fs : Array Field} {fuel : Nat} {a : Option Addr} {len cap : Nat} {x : DataW H × List MemPlace} (ht : P.underlying t = some (.slice e)) (he : P.underlying e = some (.struct fs))
    (hone : oneCellFields P fs = true) (hC : P.cellsOf e = fs.size) (hpos : 0 < fs.size) (h : DataW.trod enc P w base (fun _ => true) held fuel t (Value.slice a len cap).cells.toList = some x) :
    (a = none ∧ len = 0 ∧ cap = 0) ∨ ∃ (b o : Nat), (len = 0 ∨ a = some ⟨b, o, none⟩) ∧ len ≤ cap ∧ cap ≤ maxLen ∧ (0 < len → b < w.heap.size) ∧ ∀ i, i < len → ∀ (j : Nat) (f : Field), fs[j]? = some f → ∃ c, w.cell? ⟨b, o + (i * fs.size + j), none⟩ = some c ∧ FieldIs P f c := by
  rcases open_slice ht h with ⟨hcs, _⟩ | ⟨y, l, c, m, n, D, Pl, hcs, hb, hl, hm, hmm, _, hi⟩
  · simp [Value.cells] at hcs
    exact .inl hcs
  · right
    simp [Value.cells] at hcs
    obtain ⟨rfl, rfl, rfl⟩ := hcs
    simp at hmm
    subst hmm
    obtain ⟨b, o, spot⟩ := y
    have each : ∀ i, i < len → ∀ (j : Nat) (f : Field), fs[j]? = some f → ∃ c, w.cell? ((⟨b, o, spot⟩ : Addr).add (i * fs.size + j)) = some c ∧ FieldIs P f c := by
      intro i hlt j f hf
      obtain ⟨cs', hc, ht'⟩ := hi i (by omega)
      rw [hC] at hc
      obtain ⟨_, hcl, hat⟩ := World.cells?_some hc
      obtain ⟨c, h1, h2⟩ := cells_of_one he hone hcl ht' j f hf
      refine ⟨c, ?_, h2⟩
      have hj : j < fs.size := (Array.getElem?_eq_some_iff.1 hf).1
      rw [← Go.Deep.add_add, hat j hj]
      exact h1
    by_cases h0 : len = 0
    · exact ⟨b, o, .inl h0, hl, hm, by omega, by omega⟩
    · obtain ⟨c0, h1, _⟩ := each 0 (by omega) 0 fs[0] (Array.getElem?_eq_getElem hpos)
      have hspot : spot = none := by simpa [Addr.add] using World.cell?_spot h1
      subst hspot
      refine ⟨b, o, .inr rfl, hl, hm, fun _ => ?_, fun i hi j f hf => ?_⟩
      · have h2 := h1
        rw [add_plain] at h2
        by_cases hb : b < w.heap.size
        · exact hb
        · exfalso
          have : w.cell? ⟨b, o + (0 * fs.size + 0), none⟩ = none := by simp [World.cell?, Array.getElem?_eq_none (Nat.le_of_not_lt hb)]
          rw [this] at h2; cases h2
      · obtain ⟨c, h1, h2⟩ := each i hi j f hf
        rw [add_plain] at h1
        exact ⟨c, h1, h2⟩
end
end Go.Proofs.Ytpnaciamnigbnaa
namespace Go.Proofs.Ytpnaciamnigbnaa
open Go.RowKit

theorem bel_drew' {w w1 : World} (h : Below w.heap.size w w1) : Below w.heap.size w w1.drew := ⟨h.os, h.tape, h.output, h.size, h.block⟩
theorem bel_al1 (w : World) (o : Obj) : Below w.heap.size w (w.alloc o) := (Below.refl _ _).alloc (Nat.le_refl _) o
theorem size_al (w : World) (o : Obj) : (w.alloc o).heap.size = w.heap.size + 1 := by
  show (w.heap.push o).size = _
  simp
theorem bel_al2 (w : World) (o o' : Obj) : Below w.heap.size w ((w.alloc o).alloc o') := Below.then' (bel_al1 _ _) (bel_al1 _ _)
theorem bel_al3 (w : World) (o o' o'' : Obj) : Below w.heap.size w (((w.alloc o).alloc o').alloc o'') := Below.then' (bel_al2 _ _ _) (bel_al1 _ _)
theorem ownsRow_grown0 {w w' : World} {base : Nat} {e : TypeId} {size n : Nat} {v : Value} {xs : List Value} {row : Option Nat} (h : w.ownsRow base e size v n xs) (hg : w.grownBy w' row) (hne : ∀ k, row = some k → k < base) : w'.ownsRow base e size v n xs := by
  refine ⟨h.1, ?_⟩
  rcases h.2 with h0 | ⟨g, cap, cur, rfl, hb, hh, r⟩
  · exact .inl h0
  · exact .inr ⟨g, cap, cur, rfl, hb, (hg.block g (Array.getElem?_eq_some_iff.1 hh).1 (fun e => by have := hne g e.symm; omega)).trans hh, r⟩
theorem cons_congr {α : Type} {a b : α} {l m : List α} (h : a = b) (t : l = m) : a :: l = b :: m := by rw [h, t]
theorem int_eq {k : IntKind} {a b : Int} (h : a = b) : Value.int k a = .int k b := by rw [h]
theorem own_eq {w : World} {base n : Nat} {e : TypeId} {size : Nat} {v : Value} {L M : List Value} (h : w.ownsRow base e size v n L) (hl : L = M) : w.ownsRow base e size v n M := hl ▸ h
theorem own_cell {w : World} {base n c g : Nat} {e : TypeId} {size : Nat} {L : List Value} (h : w.ownsRow base e size (.slice (some ⟨g, 0, none⟩) n c) n L) (i : Nat) (hi : i < L.length) : ∃ u, w.cell? ⟨g, i, none⟩ = some u := by
  have hc := h.cells (g := g) rfl i _ (List.getElem?_eq_getElem hi)
  rw [add_plain, Nat.zero_add] at hc
  exact ⟨_, hc⟩
end Go.Proofs.Ytpnaciamnigbnaa
namespace Go.Proofs.Ytpnaciamnigbnaa
open Go.RowKit

/-- The slice 'a m' holds the cells news, m elements of some size. -/
def SrcAt (w : World) (a : Option Addr) (m size : Nat) (news : List Value) : Prop :=
  news.length = m * size ∧ (m = 0 ∨ ∃ ad, a = some ad ∧ ∀ (j : Nat) u, news[j]? = some u → w.cell? (ad.add j) = some u)
theorem append_nothing {P : Program} {w : World} {base n size : Nat} {t ty e : TypeId} {i : TypeInfo} {v : Value} {xs : List Value} (ht : P.underlying t = some (.slice e)) (hi : P.info? e = some i) (hown : w.ownsRow base e size v n xs) (c : Nat) :
    (Builtin.append_ #[t, t] ty #[v, .slice none 0 c]).run P w = .ok v w := by
  obtain ⟨_, h⟩ := hown
  rcases h with ⟨rfl, rfl⟩ | ⟨g, cap, cur, rfl, h1, h2, h3, h4⟩
  all_goals simp [Builtin.append_, run_underlying ht, sizeOf, typeInfo, Builtin.lenOf, Builtin.firstCells, storeCells, *]
theorem wpList_append_list {P : Program} {w : World} {ops : Array Oper} {rest : List Oper} {o : Oper} {a : Act} {Q : Exit → Act → World → Prop} (hgd : o.guard = none) (s x : Operand) (t : TypeId)
    (ho : o.op = .call { callee := .builtin .append, args := #[s, x], argTypes := #[t, t] })
    (base : Nat) (e : TypeId) (i : TypeInfo) (z : Value) (size bytes : Nat) (ht : P.underlying t = some (.slice e)) (hi : P.info? e = some i) (hz : i.zero = some z)
    (hsize : i.size = size) (hby : i.bytes = bytes) (hzs : z.cells.size = size) (hsz : 0 < size)
    (v : Value) (n : Nat) (xs : List Value) (hs : a.eval s = v) (hown : w.ownsRow base e size v n xs)
    (ad : Option Addr) (m c : Nat) (news : List Value) (hx : a.eval x = .slice ad m c) (hsrc : SrcAt w ad m size news) (h1 : ∀ u ∈ news, u.oneCell' = true)
    (h63 : n + m ≤ maxLen) (hbytes : (n + m) * bytes ≤ 140737488355328) (hbase : base ≤ w.heap.size)
    (h : ∀ v' w', w'.ownsRow base e size v' (n + m) (xs ++ news) → w.grownBy w' v.ownBlock → wpList P ops Q rest (a.put o.dst v') w') : wpList P ops Q (o :: rest) a w := by
  obtain ⟨hl, hc⟩ := hsrc
  cases ad with
  | some ad =>
    refine wpList_append_own w hgd s x t ho base e i z size bytes ht hi hz hsize hby hzs hsz v n xs hs hown ad m c news hx hl ?_ h1 h63 hbytes hbase (fun v' w' a b _ => h v' w' a b)
    rcases hc with rfl | ⟨ad', e', hc⟩
    · have : news = [] := List.eq_nil_of_length_eq_zero (by simpa using hl)
      subst this
      intro j u hj; simp at hj
    · cases e'; exact hc
  | none =>
    have hm : m = 0 := by
      rcases hc with h0 | ⟨_, e', _⟩
      · exact h0
      · cases e'
    subst hm
    have hn : news = [] := List.eq_nil_of_length_eq_zero (by simpa using hl)
    subst hn
    refine wpList_plain hgd fun K hK => ?_
    have hrun := append_nothing (P := P) (w := w) (ty := o.type) ht hi hown c
    unfold Oper.wp
    simp [execOp, ho, resolve, invoke, builtin, hs, hx, hrun, Result.andThen]
    exact hK _ _ (h v w (by simpa using hown) (World.grownBy.refl w _))
theorem own_some {w : World} {base n : Nat} {e : TypeId} {size : Nat} {v : Value} {L : List Value} (h : w.ownsRow base e size v n L) (hn : 0 < n) : ∃ g c, v = .slice (some ⟨g, 0, none⟩) n c ∧ base ≤ g ∧ n ≤ c ∧ c ≤ 9223372036854775807 := by
  rcases h.2 with ⟨_, h0⟩ | ⟨g, c, _, e', hg, _, hn', hc, _⟩
  · omega
  · exact ⟨g, c, e', hg, hn', hc⟩
theorem own_ne {g g' n c : Nat} (h : g ≠ g') : some g ≠ (Value.slice (some ⟨g', 0, none⟩) n c).ownBlock := fun e => h (Option.some.inj e)
theorem own_is {g k n c : Nat} (h : (Value.slice (some ⟨g, 0, none⟩) n c).ownBlock = some k) : k = g := (Option.some.inj h).symm
end Go.Proofs.Ytpnaciamnigbnaa
