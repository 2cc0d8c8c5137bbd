/- Texts in one: Ci3, MarkT, ReaderT, Rd, Rd2, Cs, Cs2, Cs3. -/
import Derived.Test.YtobpgoiaimlonaaM4
import Derived.Test.YtobpgoiaimlonaaM1
import Derived.Laws.BytesArg
import Derived.WalkLawsBesides
import Derived.Deep.RegionWith
import Derived.Laws.OwnMore
import Derived.Handy
import Derived.Laws.IdiomRangeMap
import Derived.Test.YtobpgoiaimlonaaM3
import Derived.Test.YtobpgoiaimlonaaM2
import Derived.Lib.QuietBelow
namespace Go.Proofs.Ytobpgoiaimlonaa
open Go.RowKit

theorem floor_way {a s : Int} (hs : 1 ≤ s) : (a < a.tdiv s * s ∧ a.tdiv s - 1 = a / s) ∨ (¬ a < a.tdiv s * s ∧ a.tdiv s = a / s) := by
  have hz : ¬ s = 0 := by omega
  have e1 := Int.emod_add_mul_ediv a s
  have e2 := Int.emod_nonneg a hz
  have e3 := Int.emod_lt_of_pos a (show 0 < s by omega)
  have h := Int.tdiv_eq_ediv (a := a) (b := s)
  rw [Int.sign_eq_one_of_pos (by omega)] at h
  by_cases hc : 0 ≤ a ∨ s ∣ a
  · rw [if_pos hc, Int.add_zero] at h
    right
    rw [h, Int.mul_comm]
    omega
  · rw [if_neg hc] at h
    left
    rw [h, Int.add_mul, Int.mul_comm, Int.one_mul]
    omega
set_option maxHeartbeats 1600000 in
theorem stepsUpTo_any (a s : Int) (w : World) (a0 : -200000 ≤ a) (a1 : a ≤ 200000) (s0 : 1 ≤ s) (s1 : s ≤ 1000) :
    Calls Try.prog 61 #[.int .i64 a, .int .i64 s] w fun e w' => e = .returned (.int .i64 (a / s)) ∧ w = w' := by
  have hz : ¬ s = 0 := by omega
  have fw := floor_way (a := a) s0
  have e1 := Int.emod_add_mul_ediv a s
  have e2 := Int.emod_nonneg a hz
  have e3 := Int.emod_lt_of_pos a (show 0 < s by omega)
  have d1 : a / s ≤ 200000 := by
    by_cases h : 0 ≤ a
    · have := Int.ediv_le_self s h; omega
    · have := Int.ediv_neg_of_neg_of_pos (show a < 0 by omega) (show 0 < s by omega); omega
  have d2 : -200001 ≤ a / s := by
    have : -200000 / 1 ≤ a / s ∨ -200001 ≤ a / s := by
      right
      have h2 : (-200001 : Int) * s ≤ s * (a / s) + s - 1 - s := by
        have h3 : (200001 : Int) * s ≥ 200001 := by omega
        omega
      have h4 : s * (-200001) ≤ s * (a / s) := by rw [Int.mul_comm]; omega
      exact Int.le_of_mul_le_mul_left h4 (by omega)
    omega
  obtain ⟨q, hq⟩ : ∃ q, a.tdiv s = q := ⟨_, rfl⟩
  rw [hq] at fw
  have w1 : IntKind.i64.wrap (a.tdiv s) = q := by rw [hq]; exact IntWalk.i64_in _ (by omega)
  have b3 : s * (a / s) = (a / s) * s := Int.mul_comm _ _
  rcases fw with ⟨f1, f2⟩ | ⟨f1, f2⟩
  · have b4 : q * s = (a / s) * s + s := by rw [show q = a / s + 1 by omega, Int.add_mul, Int.one_mul]
    have w2 : IntKind.i64.wrap (q * s) = q * s := IntWalk.i64_in _ (by omega)
    have w3 : IntKind.i64.wrap (q - 1) = a / s := by rw [f2]; exact IntWalk.i64_in _ (by omega)
    have f3 : a < q * s := f1
    clear hq e1 e2 e3 b3 b4 f1 f2 d1 d2
    go_enter Try.func61, Try.ntmps61
    go_wp2
    go_ret
    exact ⟨rfl, rfl⟩
  · have b4 : q * s = (a / s) * s := by rw [f2]
    have w2 : IntKind.i64.wrap (q * s) = q * s := IntWalk.i64_in _ (by omega)
    have Q := Lib.hid f2
    have f3 : ¬ a < q * s := f1
    clear hq e1 e2 e3 b3 b4 f1 f2 d1 d2
    go_enter Try.func61, Try.ntmps61
    go_wp2
    go_ret
    exact ⟨ret_int Q.out, rfl⟩
theorem isInts_lit2 (w : World) (x y : Int) (t : TypeId) (B : Nat) (hB : w.heap.size = B) : IsInts (w.alloc (.cells #[.int .i64 x, .int .i64 y] t)) (some ⟨B, 0, none⟩) 2 2 [x, y] :=
  ⟨rfl, Nat.le_refl _, by decide, .inr ⟨B, 0, rfl, by rw [size_al]; omega, fun k z hz => by rw [Nat.zero_add]; exact lit2 w x y t B hB k z hz⟩⟩
theorem isStep_any (s : Int) (w : World) :
    Calls Try.prog 60 #[.int .i64 s] w fun e w' => e = .returned (.bool (inB s 1 1000)) ∧ Below w.heap.size w w' := by
  go_enter Try.func60, Try.ntmps60
  go_wp2_with fail
  refine (areC1 1 1000 s _ _ _ (by simp)).mono ?_
  rintro e w' ⟨rfl, rfl⟩
  go_wp2
  go_ret
  exact ⟨rfl, bel_al1 _ _⟩
set_option maxHeartbeats 3200000 in
theorem implContoursBetween_any (a b s : Int) (w : World) :
    Calls Try.prog 22 #[.int .i64 a, .int .i64 b, .int .i64 s] w (ContoursBetween_Post a b s w) := by
  obtain ⟨p, hp⟩ : ∃ p, (inB a (-200000) 200000 && inB b (-200000) 200000) = p := ⟨_, rfl⟩
  obtain ⟨r, hr⟩ : ∃ r, inB s 1 1000 = r := ⟨_, rfl⟩
  have PP := Lib.hid (show ([a, b].all fun z => inB z (-200000) 200000) = p from by simpa using hp)
  have RR := Lib.hid hr
  have C := Lib.hid (show ctB a b s = (p && r) from by unfold ctB; rw [← hp, ← hr, Bool.and_assoc])
  have QQ := Lib.hid hp
  have IL := Lib.hid (isInts_lit2 w a b 3 _ rfl)
  have B0 := Lib.hid (bel_al1 w (.cells #[.int .i64 a, .int .i64 b] 3))
  clear hp hr
  go_enter Try.func22, Try.ntmps22
  go_wp2_with fail
  refine (areHeights_any _ _ _ [a, b] _ IL.out).mono ?_
  rintro e w' ⟨rfl, rfl⟩
  rw [PP.out]
  cases p
  · go_wp2
    go_ret2
    exact ⟨by unfold ContoursBetween_0 ContoursBetween_1; rw [C.out]; rfl, B0.out⟩
  go_wp2_with fail
  refine (isStep_any _ _).mono ?_
  rintro e w2 ⟨rfl, hb⟩
  rw [RR.out]
  have B1 := Lib.hid (Below.then' B0.out hb)
  clear hb
  cases r
  · go_wp2
    go_ret2
    exact ⟨by unfold ContoursBetween_0 ContoursBetween_1; rw [C.out]; rfl, B1.out⟩
  have h1 := QQ.out
  simp only [Bool.and_eq_true] at h1
  have h2 := inB_iff.1 h1.1
  have h4 := inB_iff.1 h1.2
  have h3 := inB_iff.1 RR.out
  have E := Lib.hid (show ContoursBetween_0 a b s = max a b / s - min a b / s from by unfold ContoursBetween_0; rw [C.out]; rfl)
  have D := Lib.hid (show ContoursBetween_1 a b s = true from by unfold ContoursBetween_1; rw [C.out]; rfl)
  clear h1
  have bd : ∀ x : Int, -200000 ≤ x → x ≤ 200000 → -200001 ≤ x / s ∧ x / s ≤ 200001 := fun x x0 x1 => by
    have hz : ¬ s = 0 := by omega
    have e1 := Int.emod_add_mul_ediv x s
    have e2 := Int.emod_nonneg x hz
    have e3 := Int.emod_lt_of_pos x (show 0 < s by omega)
    constructor
    · have h4 : s * (-200001) ≤ s * (x / s) := by omega
      exact Int.le_of_mul_le_mul_left h4 (by omega)
    · by_cases h : 0 ≤ x
      · have := Int.ediv_le_self s h; omega
      · have := Int.ediv_neg_of_neg_of_pos (show x < 0 by omega) (show 0 < s by omega); omega
  have d1 := bd a (by omega) (by omega)
  have d2 := bd b (by omega) (by omega)
  have S3 := Lib.hid h3
  clear bd
  rcases Int.lt_trichotomy a b with hab | hab | hab
  · have hab2 : ¬ b < a := by omega
    have m1 : max a b = b := by omega
    have m2 : min a b = a := by omega
    rw [m1, m2] at E
    have wp : IntKind.i64.wrap (b / s - a / s) = b / s - a / s := IntWalk.i64_in _ (by omega)
    go_wp2_with fail
    refine (stepsUpTo_any b s _ (by omega) (by omega) (by omega) (by omega)).mono ?_
    rintro e w' ⟨rfl, rfl⟩
    go_wp2_with fail
    refine (stepsUpTo_any a s _ (by omega) (by omega) (by omega) (by omega)).mono ?_
    rintro e w' ⟨rfl, rfl⟩
    go_wp2
    go_ret2
    exact ⟨by rw [E.out, D.out]; rfl, B1.out⟩
  · subst hab
    have hab : ¬ a < a := by omega
    have m1 : max a a = a := by omega
    have m2 : min a a = a := by omega
    rw [m1, m2] at E
    have wp : IntKind.i64.wrap (a / s - a / s) = a / s - a / s := IntWalk.i64_in _ (by omega)
    go_wp2_with fail
    refine (stepsUpTo_any a s _ (by omega) (by omega) (by omega) (by omega)).mono ?_
    rintro e w' ⟨rfl, rfl⟩
    go_wp2_with fail
    refine (stepsUpTo_any a s _ (by omega) (by omega) (by omega) (by omega)).mono ?_
    rintro e w' ⟨rfl, rfl⟩
    go_wp2
    go_ret2
    exact ⟨by rw [E.out, D.out, Int.sub_self]; rfl, B1.out⟩
  · have hab2 : ¬ a < b := by omega
    have m1 : max a b = a := by omega
    have m2 : min a b = b := by omega
    rw [m1, m2] at E
    have wp : IntKind.i64.wrap (a / s - b / s) = a / s - b / s := IntWalk.i64_in _ (by omega)
    go_wp2_with fail
    refine (stepsUpTo_any a s _ (by omega) (by omega) (by omega) (by omega)).mono ?_
    rintro e w' ⟨rfl, rfl⟩
    go_wp2_with fail
    refine (stepsUpTo_any b s _ (by omega) (by omega) (by omega) (by omega)).mono ?_
    rintro e w' ⟨rfl, rfl⟩
    go_wp2
    go_ret2
    exact ⟨by rw [E.out, D.out]; rfl, B1.out⟩
end Go.Proofs.Ytobpgoiaimlonaa
namespace Go.Proofs.Ytobpgoiaimlonaa
open Go.RowKit

def markGo : Nat → Nat → ByteArray → ByteArray
  | 0, _, out => out
  | f + 1, k, out => if k = 0 then out else markGo f (k / 10) (strOfNums [48 + ((k % 10 : Nat) : Int)] ++ out)
theorem markGo_zero (f : Nat) (out : ByteArray) : markGo f 0 out = out := by cases f <;> rfl
/-- The text that marks number k. -/
def markOf (k : Nat) : ByteArray := ⟨#[109]⟩ ++ markGo k k ByteArray.empty
theorem numStr_size (x : Int) : (strOfNums [x]).size = 1 := by simp [strOfNums, ByteArray.size]
theorem str_one (x : Int) (W : World) : (convert 22 9 (.slice (some ⟨W.heap.size, 0, none⟩) 1 1)).run Try.prog (W.alloc (.cells #[.int .u8 x] 5)) = .ok (.string (strOfNums [x])) (W.alloc (.cells #[.int .u8 x] 5)) :=
  run_convert_bytes_arg (P := Try.prog) _ 22 5 Try.underlying22 Try.underlying5 _ 0 1 1 [x] (by simp) (fun i hi => by
    rw [World.cell?_alloc_new]
    obtain rfl : i = 0 := by omega
    rfl) 9 Try.underlying9
theorem mark_eq {a b : Nat} (h : a = b) : Value.string (markOf a) = .string (markOf b) := by rw [h]
theorem markGo_size : ∀ (f k : Nat) (out : ByteArray), (markGo f k out).size ≤ out.size + f
  | 0, _, _ => Nat.le_refl _
  | f + 1, k, out => by
    unfold markGo
    split
    · omega
    · refine Nat.le_trans (markGo_size f _ _) ?_
      rw [ByteArray.size_append, numStr_size]; omega
theorem markOf_size (k : Nat) (h : k ≤ 100000000) : (markOf k).size ≤ maxLen := by
  unfold markOf
  rw [ByteArray.size_append]
  have := markGo_size k k ByteArray.empty
  have e : (⟨#[109]⟩ : ByteArray).size = 1 := rfl
  have e2 : ByteArray.empty.size = 0 := rfl
  unfold maxLen
  omega
end Go.Proofs.Ytobpgoiaimlonaa
namespace Go.Proofs.Ytobpgoiaimlonaa
open Go.RowKit Go.ChangeShapes Go.WideShapes Go.Deep

structure VReader where
  Id : Int
  Name : ByteArray
  Joined : Int
  Class : Int
  Fines : Int
def VReader.vals (s : VReader) : List Value := [.int .i64 s.Id, .string s.Name, .int .i64 s.Joined, .int .i64 s.Class, .int .i64 s.Fines]
theorem VReader.vals_len (s : VReader) : s.vals.length = 5 := rfl
theorem VReader.vals_one (s : VReader) : ∀ u ∈ s.vals, u.oneCell' = true := by
  intro u hu
  simp [VReader.vals] at hu
  rcases hu with rfl | rfl | rfl | rfl | rfl <;> rfl
/-- Its texts are no longer than any text may be. -/
def VReader.small (s : VReader) : Prop := s.Name.size ≤ maxLen
/-- It lies at block b from offset o on. -/
def ReaderAt (w : World) (b o : Nat) (s : VReader) : Prop :=
  w.cell? ⟨b, o, none⟩ = some (.int .i64 s.Id) ∧ w.cell? ⟨b, o + 1, none⟩ = some (.string s.Name) ∧ w.cell? ⟨b, o + 2, none⟩ = some (.int .i64 s.Joined) ∧ w.cell? ⟨b, o + 3, none⟩ = some (.int .i64 s.Class) ∧ w.cell? ⟨b, o + 4, none⟩ = some (.int .i64 s.Fines) ∧ s.small
def IsReaderS (w : World) (a : Option Addr) (len cap : Nat) (xs : List VReader) : Prop :=
  len = xs.length ∧ len ≤ cap ∧ cap ≤ maxLen ∧ (len = 0 ∨ ∃ b o, a = some ⟨b, o, none⟩ ∧ b < w.heap.size ∧ ∀ (k : Nat) s, xs[k]? = some s → ReaderAt w b (o + k * 5) s)
theorem ReaderAt.below {w w' : World} {b o : Nat} {s : VReader} (h : ReaderAt w b o s) (hb : Below w.heap.size w w') (hlt : b < w.heap.size) : ReaderAt w' b o s :=
  ⟨(hb.cell (p := ⟨b, o, none⟩) hlt).trans h.1, (hb.cell (p := ⟨b, o + 1, none⟩) hlt).trans h.2.1, (hb.cell (p := ⟨b, o + 2, none⟩) hlt).trans h.2.2.1, (hb.cell (p := ⟨b, o + 3, none⟩) hlt).trans h.2.2.2.1, (hb.cell (p := ⟨b, o + 4, none⟩) hlt).trans h.2.2.2.2.1, h.2.2.2.2.2⟩
theorem ReaderAt.block {w w' : World} {b o : Nat} {s : VReader} (h : ReaderAt w b o s) (hb : w'.heap[b]? = w.heap[b]?) : ReaderAt w' b o s :=
  ⟨(World.cell?_of_block (w := w) (a := ⟨b, o, none⟩) hb).trans h.1, (World.cell?_of_block (w := w) (a := ⟨b, o + 1, none⟩) hb).trans h.2.1, (World.cell?_of_block (w := w) (a := ⟨b, o + 2, none⟩) hb).trans h.2.2.1, (World.cell?_of_block (w := w) (a := ⟨b, o + 3, none⟩) hb).trans h.2.2.2.1, (World.cell?_of_block (w := w) (a := ⟨b, o + 4, none⟩) hb).trans h.2.2.2.2.1, h.2.2.2.2.2⟩
theorem IsReaderS.below {w w' : World} {a : Option Addr} {len cap : Nat} {xs : List VReader} (h : IsReaderS w a len cap xs) (hb : Below w.heap.size w w') : IsReaderS w' a len cap xs := by
  refine ⟨h.1, h.2.1, h.2.2.1, ?_⟩
  rcases h.2.2.2 with h0 | ⟨b, o, rfl, h1, h2⟩
  · exact .inl h0
  · exact .inr ⟨b, o, rfl, Nat.lt_of_lt_of_le h1 hb.size, fun k s hs => (h2 k s hs).below hb h1⟩
theorem IsReaderS.grown {w w' : World} {a : Option Addr} {len cap : Nat} {xs : List VReader} {row : Option Nat} (h : IsReaderS w a len cap xs) (hg : w.grownBy w' row) (hne : ∀ b o, a = some ⟨b, o, none⟩ → some b ≠ row) : IsReaderS w' a len cap xs := by
  refine ⟨h.1, h.2.1, h.2.2.1, ?_⟩
  rcases h.2.2.2 with h0 | ⟨b, o, rfl, h1, h2⟩
  · exact .inl h0
  · exact .inr ⟨b, o, rfl, Nat.lt_of_lt_of_le h1 hg.size, fun k s hs => (h2 k s hs).block (hg.block b h1 (hne b o rfl))⟩
theorem IsReaderS.at {w : World} {a : Option Addr} {len cap : Nat} {xs : List VReader} (h : IsReaderS w a len cap xs) (hpos : 0 < len) : ∃ b o, a = some ⟨b, o, none⟩ ∧ b < w.heap.size ∧ ∀ (k : Nat) s, xs[k]? = some s → ReaderAt w b (o + k * 5) s := by
  rcases h.2.2.2 with h0 | h1
  · omega
  · exact h1
theorem nil_IsReaderS (w : World) : IsReaderS w none 0 0 [] := ⟨rfl, Nat.le_refl _, by simp [maxLen], .inl rfl⟩
def cellsReader (xs : List VReader) : List Value := xs.flatMap VReader.vals
theorem cellsReader_len (xs : List VReader) : (cellsReader xs).length = xs.length * 5 := by
  induction xs with
  | nil => rfl
  | cons x xs ih => simp [cellsReader, VReader.vals_len] at *; omega
theorem cellsReader_append (xs ys : List VReader) : cellsReader (xs ++ ys) = cellsReader xs ++ cellsReader ys := by simp [cellsReader]
theorem cellsReader_snoc (xs : List VReader) (s : VReader) : cellsReader (xs ++ [s]) = cellsReader xs ++ s.vals := by simp [cellsReader]
theorem cellsReader_at {xs : List VReader} {k : Nat} {s : VReader} (h : xs[k]? = some s) (j : Nat) (hj : j < 5) : (cellsReader xs)[k * 5 + j]? = s.vals[j]? := by
  have hk : k < xs.length := (List.getElem?_eq_some_iff.1 h).1
  have e : xs = xs.take k ++ s :: xs.drop (k + 1) := by
    have h2 := List.take_append_drop k xs
    rw [List.drop_eq_getElem_cons hk] at h2
    have : xs[k] = s := by rw [List.getElem?_eq_getElem hk] at h; simpa using h
    rw [this] at h2; exact h2.symm
  have hl : (cellsReader (xs.take k)).length = k * 5 := by rw [cellsReader_len, List.length_take]; omega
  rw [e, show cellsReader (xs.take k ++ s :: xs.drop (k + 1)) = cellsReader (xs.take k) ++ (s.vals ++ cellsReader (xs.drop (k + 1))) from by simp [cellsReader], List.getElem?_append_right (by omega), hl, show k * 5 + j - k * 5 = j from by omega, List.getElem?_append_left (by rw [VReader.vals_len]; exact hj)]
theorem cell_Reader (w : World) (s : VReader) (t : TypeId) : ∀ j u, s.vals[j]? = some u → (w.alloc (.cells #[.int .i64 s.Id, .string s.Name, .int .i64 s.Joined, .int .i64 s.Class, .int .i64 s.Fines] t)).cell? ((⟨w.heap.size, 0, none⟩ : Addr).add j) = some u := by
  intro j u hj
  rw [add_plain, Nat.zero_add, World.cell?_alloc_new]
  simpa [VReader.vals] using hj
theorem cell_Reader2 (w : World) (o : Obj) (s : VReader) (t : TypeId) : ∀ j u, s.vals[j]? = some u → ((w.alloc o).alloc (.cells #[.int .i64 s.Id, .string s.Name, .int .i64 s.Joined, .int .i64 s.Class, .int .i64 s.Fines] t)).cell? ((⟨w.heap.size + 1, 0, none⟩ : Addr).add j) = some u := by
  have h := cell_Reader (w.alloc o) s t
  rw [show (w.alloc o).heap.size = w.heap.size + 1 from by show (w.heap.push o).size = _; simp] at h
  exact h
/-- A slice of them, as what is appended. -/
theorem srcReader {w : World} {a : Option Addr} {len cap : Nat} {xs : List VReader} (h : IsReaderS w a len cap xs) : SrcAt w a len 5 (cellsReader xs) := by
  refine ⟨by rw [cellsReader_len, h.1], ?_⟩
  rcases h.2.2.2 with h0 | ⟨b, o, rfl, hb, hat⟩
  · exact .inl h0
  · refine .inr ⟨_, rfl, fun j u hj => ?_⟩
    rw [add_plain]
    have hl := (List.getElem?_eq_some_iff.1 hj).1
    rw [cellsReader_len] at hl
    obtain ⟨k, r, rfl, hr⟩ : ∃ k r, j = k * 5 + r ∧ r < 5 := ⟨j / 5, j % 5, by omega, Nat.mod_lt _ (by decide)⟩
    have hk : k < xs.length := by omega
    have hs : xs[k]? = some xs[k] := List.getElem?_eq_getElem hk
    have hu := cellsReader_at hs r hr
    rw [hj] at hu
    have ha := hat k _ hs
    rw [← Nat.add_assoc]
    rcases (show r = 0 ∨ r = 1 ∨ r = 2 ∨ r = 3 ∨ r = 4 by omega) with rfl | rfl | rfl | rfl | rfl
    · rw [hu]; exact ha.1
    · rw [hu]; exact ha.2.1
    · rw [hu]; exact ha.2.2.1
    · rw [hu]; exact ha.2.2.2.1
    · rw [hu]; exact ha.2.2.2.2.1
/-- It lies in the box b of some type. -/
def BoxReader (w : World) (b : Nat) (s : VReader) : Prop := w.cell? ⟨b, 0, none⟩ = some (.int .i64 s.Id) ∧ w.cell? ⟨b, 1, none⟩ = some (.string s.Name) ∧ w.cell? ⟨b, 2, none⟩ = some (.int .i64 s.Joined) ∧ w.cell? ⟨b, 3, none⟩ = some (.int .i64 s.Class) ∧ w.cell? ⟨b, 4, none⟩ = some (.int .i64 s.Fines)
theorem BoxReader.new (w : World) (t : TypeId) (s : VReader) (B : Nat) (hB : w.heap.size = B) : BoxReader (w.alloc (.cells #[.int .i64 s.Id, .string s.Name, .int .i64 s.Joined, .int .i64 s.Class, .int .i64 s.Fines] t)) B s := by
  subst hB
  refine ⟨?_, ?_, ?_, ?_, ?_⟩ <;> simp [World.cell?_alloc_new]
theorem BoxReader.lt {w : World} {b : Nat} {s : VReader} (h : BoxReader w b s) : b < w.heap.size := World.lt_of_cell h.1
theorem BoxReader.below {w w' : World} {b : Nat} {s : VReader} (h : BoxReader w b s) (hb : Below w.heap.size w w') : BoxReader w' b s :=
  ⟨(hb.cell (p := ⟨b, 0, none⟩) h.lt).trans h.1, (hb.cell (p := ⟨b, 1, none⟩) h.lt).trans h.2.1, (hb.cell (p := ⟨b, 2, none⟩) h.lt).trans h.2.2.1, (hb.cell (p := ⟨b, 3, none⟩) h.lt).trans h.2.2.2.1, (hb.cell (p := ⟨b, 4, none⟩) h.lt).trans h.2.2.2.2⟩
theorem BoxReader.grown {w w' : World} {b : Nat} {s : VReader} {row : Option Nat} (h : BoxReader w b s) (hg : w.grownBy w' row) (hne : some b ≠ row) : BoxReader w' b s :=
  ⟨(World.cell?_of_block (w := w) (a := ⟨b, 0, none⟩) (hg.block b h.lt hne)).trans h.1, (World.cell?_of_block (w := w) (a := ⟨b, 1, none⟩) (hg.block b h.lt hne)).trans h.2.1, (World.cell?_of_block (w := w) (a := ⟨b, 2, none⟩) (hg.block b h.lt hne)).trans h.2.2.1, (World.cell?_of_block (w := w) (a := ⟨b, 3, none⟩) (hg.block b h.lt hne)).trans h.2.2.2.1, (World.cell?_of_block (w := w) (a := ⟨b, 4, none⟩) (hg.block b h.lt hne)).trans h.2.2.2.2⟩
def zerosReader (n : Nat) : List Value := (List.replicate n [.int .i64 0, .string ByteArray.empty, .int .i64 0, .int .i64 0, .int .i64 0]).flatten
theorem zerosReader_succ (n : Nat) : zerosReader (n + 1) = .int .i64 0 :: .string ByteArray.empty :: .int .i64 0 :: .int .i64 0 :: .int .i64 0 :: zerosReader n := by
  unfold zerosReader; rw [List.replicate_succ]; rfl
theorem zerosReader_len (n : Nat) : (zerosReader n).length = n * 5 := by
  induction n with
  | zero => rfl
  | succ n ih => rw [zerosReader_succ]; simp [ih]; omega
theorem zerosReader_at (n j : Nat) (h : j < n * 5) : (zerosReader n)[j]? = [.int .i64 0, .string ByteArray.empty, .int .i64 0, .int .i64 0, .int .i64 0][j % 5]? := by
  induction n generalizing j with
  | zero => omega
  | succ n ih =>
    rw [zerosReader_succ]
    by_cases hj : j < 5
    · rw [Nat.mod_eq_of_lt hj]
      rcases (show j = 0 ∨ j = 1 ∨ j = 2 ∨ j = 3 ∨ j = 4 by omega) with rfl | rfl | rfl | rfl | rfl <;> rfl
    · obtain ⟨i, rfl⟩ : ∃ i, j = i + 5 := ⟨j - 5, by omega⟩
      rw [Nat.add_mod_right, ← ih i (by omega)]
      rfl
theorem madeReader (n : Nat) : (madeCells (.agg #[.int .i64 0, .string ByteArray.empty, .int .i64 0, .int .i64 0, .int .i64 0] : Value).cells (n * 5)).toList = zerosReader n := by
  apply List.ext_getElem?
  intro j
  rw [Array.getElem?_toList]
  by_cases h : j < n * 5
  · rw [zerosReader_at n j h]
    have hm : j % 5 < 5 := Nat.mod_lt _ (by decide)
    simp only [madeCells, Value.cells]
    rw [Array.getElem?_eq_getElem (by simpa using h)]
    rcases (show j % 5 = 0 ∨ j % 5 = 1 ∨ j % 5 = 2 ∨ j % 5 = 3 ∨ j % 5 = 4 by omega) with e | e | e | e | e <;> simp [e]
  · rw [List.getElem?_eq_none (by rw [zerosReader_len]; omega)]
    simp [madeCells, h]
theorem setReader (A L : List Value) (v0 v1 v2 v3 v4 : Value) (o : Nat) (hA : A.length = o) (hL : o + 5 ≤ L.length) :
    ((((((A ++ L.drop o).set (o) v0).set (o + 1) v1).set (o + 2) v2).set (o + 3) v3).set (o + 4) v4) = A ++ v0 :: v1 :: v2 :: v3 :: v4 :: L.drop (o + 5) := by
  subst hA
  obtain ⟨a0, a1, a2, a3, a4, e⟩ : ∃ a0 a1 a2 a3 a4, L.drop A.length = a0 :: a1 :: a2 :: a3 :: a4 :: L.drop (A.length + 5) := ⟨_, _, _, _, _, by rw [List.drop_eq_getElem_cons (show A.length < L.length by omega), List.drop_eq_getElem_cons (show A.length + 1 < L.length by omega), List.drop_eq_getElem_cons (show A.length + 2 < L.length by omega), List.drop_eq_getElem_cons (show A.length + 3 < L.length by omega), List.drop_eq_getElem_cons (show A.length + 4 < L.length by omega)]⟩
  rw [e]
  generalize L.drop (A.length + 5) = D
  simp [List.set_append_right]
theorem storedReader {w : World} {base n c g o : Nat} {e : TypeId} {size : Nat} {A L : List Value} (h : w.ownsRow base e size (.slice (some ⟨g, 0, none⟩) n c) n (A ++ L.drop o)) (hA : A.length = o) (hL : o + 5 ≤ L.length) (v0 v1 v2 v3 v4 : Value) :
    (((((w.setCell ⟨g, o, none⟩ v0).setCell ⟨g, o + 1, none⟩ v1).setCell ⟨g, o + 2, none⟩ v2).setCell ⟨g, o + 3, none⟩ v3).setCell ⟨g, o + 4, none⟩ v4).ownsRow base e size (.slice (some ⟨g, 0, none⟩) n c) n (A ++ v0 :: v1 :: v2 :: v3 :: v4 :: L.drop (o + 5)) ∧ w.grownBy (((((w.setCell ⟨g, o, none⟩ v0).setCell ⟨g, o + 1, none⟩ v1).setCell ⟨g, o + 2, none⟩ v2).setCell ⟨g, o + 3, none⟩ v3).setCell ⟨g, o + 4, none⟩ v4) (some g) := by
  have h0 := h.stored (o) v0
  have h1 := h0.1.stored (o + 1) v1
  have h2 := h1.1.stored (o + 2) v2
  have h3 := h2.1.stored (o + 3) v3
  have h4 := h3.1.stored (o + 4) v4
  refine ⟨?_, (grown_trans (grown_trans (grown_trans (grown_trans h0.2 h1.2) h2.2) h3.2) h4.2)⟩
  have := h4.1
  rw [setReader A L v0 v1 v2 v3 v4 o hA hL] at this
  exact this
theorem cellsReader_drop (xs : List VReader) (i : Nat) : (cellsReader xs).drop (i * 5) = cellsReader (xs.drop i) := by
  by_cases h : i ≤ xs.length
  · have e : cellsReader xs = cellsReader (xs.take i) ++ cellsReader (xs.drop i) := by
      unfold cellsReader
      rw [← List.flatMap_append, List.take_append_drop]
    have hl : (cellsReader (xs.take i)).length = i * 5 := by rw [cellsReader_len, List.length_take]; omega
    rw [e, List.drop_append_of_le_length (by omega), List.drop_of_length_le (by omega), List.nil_append]
  · rw [List.drop_of_length_le (show xs.length ≤ i by omega), List.drop_of_length_le (by rw [cellsReader_len]; omega)]; rfl
theorem cellsReader_take (xs : List VReader) (i : Nat) : cellsReader xs = cellsReader (xs.take i) ++ (cellsReader xs).drop (i * 5) := by
  rw [cellsReader_drop]
  unfold cellsReader
  rw [← List.flatMap_append, List.take_append_drop]
theorem cellsReader_set (xs : List VReader) (i : Nat) (r : VReader) (h : i < xs.length) : cellsReader (xs.set i r) = cellsReader (xs.take i) ++ (r.vals ++ (cellsReader xs).drop (i * 5 + 5)) := by
  rw [List.set_eq_take_append_cons_drop, if_pos h, show i * 5 + 5 = (i + 1) * 5 by omega, cellsReader_drop]
  simp [cellsReader]
def VReader.sized (s : VReader) : Prop := s.Name.size ≤ 1048576
theorem sized_smallReader (s : VReader) (h : s.sized) : s.small := by unfold VReader.sized at h; unfold VReader.small; unfold maxLen; omega
/-- The marks from b on, and n of them. -/
def markReader (b : Nat) : VReader := ⟨((b : Nat) : Int), markOf (b + 1), ((b + 2 : Nat) : Int), ((b + 3 : Nat) : Int), ((b + 4 : Nat) : Int)⟩
def marksReader (k n : Nat) : List VReader := (List.range n).map fun i => markReader (k + i * 5)
theorem marksReader_len (k n : Nat) : (marksReader k n).length = n := by simp [marksReader]
theorem marksReader_succ (k n : Nat) : marksReader k (n + 1) = marksReader k n ++ [markReader (k + n * 5)] := by simp [marksReader, List.range_succ]
theorem marksReader_at (k n i : Nat) (h : i < n) : (marksReader k n)[i]? = some (markReader (k + i * 5)) := by simp [marksReader, h]
theorem markReader_small (b : Nat) (h : b + 5 ≤ 100000000) : (markReader b).small := markOf_size _ (by omega)
theorem marksReader_small (k n : Nat) (h : k + n * 5 + 5 ≤ 100000000) : ∀ s ∈ marksReader k n, s.small := by
  intro s hs
  obtain ⟨i, hi⟩ := List.getElem?_of_mem hs
  have hlt := (List.getElem?_eq_some_iff.1 hi).1
  rw [marksReader_len] at hlt
  rw [marksReader_at k n i hlt] at hi
  cases hi
  exact markReader_small _ (by have := Nat.mul_le_mul_right 5 (Nat.le_of_lt hlt); omega)
end Go.Proofs.Ytobpgoiaimlonaa
namespace Go.Proofs.Ytobpgoiaimlonaa
open Go.RowKit

def lowB (c : UInt8) : Bool := decide (97 ≤ c.toNat) && decide (c.toNat ≤ 122)
/-- Is the text a word? -/
def wordB (s : ByteArray) : Bool := s.data.toList.all lowB && inB s.size 1 10
def dayB (d : Int) : Bool := inB d 0 4000
def VReader.ok (s : VReader) : Bool := inB s.Id 1 999 && (wordB s.Name && (dayB s.Joined && (inB s.Class 1 3 && inB s.Fines 0 10000)))
def rdUp (xs : List VReader) : Bool := upB VReader.ok VReader.Id xs
def areRd (xs : List VReader) : Bool := rdUp xs && decide (xs.length ≤ 10)
/-- Where the reader with an id stands, or -1. -/
def rdFind (xs : List VReader) (id : Int) : Int := if areRd xs = true then firstOf (fun s => s.Id == id) xs else -1

end Go.Proofs.Ytobpgoiaimlonaa
namespace Go.Proofs.Ytobpgoiaimlonaa
open Go.RowKit

theorem at_of {α : Type} {xs : List α} {len k : Nat} (hl : Hid (len = xs.length)) (hk : k < len) : ∃ s, xs[k]? = some s := ⟨xs[k]'(by have := hl.out; omega), List.getElem?_eq_getElem _⟩
theorem all_succ' {P : Nat → Prop} {k : Nat} (h : ∀ j, j < k → P j) (h1 : P k) : ∀ j, j < k + 1 → P j := by
  intro j hj
  by_cases e : j = k
  · subst e; exact h1
  · exact h j (by omega)
/-- Why an element is right, or not. -/
theorem step_ways {α : Type} {ok : α → Bool} {id : α → Int} {xs : List α} {k : Nat} {s : α} (hs : xs[k]? = some s) :
    (ok s = false ∧ upStep ok id xs k = false) ∨ (ok s = true ∧ k = 0 ∧ upStep ok id xs k = true) ∨ (ok s = true ∧ ∃ j p, k = j + 1 ∧ xs[j]? = some p ∧ ((¬ id s ≤ id p ∧ upStep ok id xs k = true) ∨ (id s ≤ id p ∧ upStep ok id xs k = false))) := by
  match k, hs with
  | 0, hs =>
    rw [upStep_zero hs]
    cases h : ok s
    · exact .inl ⟨rfl, rfl⟩
    · exact .inr (.inl ⟨rfl, rfl, rfl⟩)
  | j + 1, hs =>
    have hl := (List.getElem?_eq_some_iff.1 hs).1
    have hp : xs[j]? = some xs[j] := List.getElem?_eq_getElem (by omega)
    rw [upStep_succ hp hs]
    cases h : ok s
    · exact .inl ⟨rfl, rfl⟩
    · refine .inr (.inr ⟨rfl, j, xs[j], rfl, hp, ?_⟩)
      by_cases h2 : id s ≤ id xs[j]
      · exact .inr ⟨h2, by simp; omega⟩
      · exact .inl ⟨h2, by simp; omega⟩
end Go.Proofs.Ytobpgoiaimlonaa
namespace Go.Proofs.Ytobpgoiaimlonaa
open Go.RowKit

set_option maxHeartbeats 3200000 in
theorem l8One_any (n : Int) (s : VClaim) (w : World) :
    Calls Try.prog 68 #[.int .i64 n, .agg #[.int .i64 s.Low, .int .i64 s.High, .int .i64 s.Least, .int .i64 s.Most]] w fun e w' => e = .returned (.bool (clB n s)) ∧ Below w.heap.size w w' := by
  have OK : Hid (clB n s = (decide (0 ≤ s.Low) && (decide (s.Low < n) && (decide (0 ≤ s.High) && (decide (s.High < n) && (!(s.Low == s.High) && (inB s.Most (-9999) 9999 && inB s.Least (-9999) s.Most))))))) := Lib.hid rfl
  go_enter Try.func68, Try.ntmps68
  go_wp2_with (go_at_call 62; refine (l1In_any _ _ _ _).mono ?_; rintro e w' ⟨rfl, rfl⟩)
  all_goals go_ret
  all_goals exact ⟨ret_bool (by rw [OK.out]; first | (simp [*]; done) | (simp [*]; rfl) | (simp [*]; intros; omega)), bel_al1 _ _⟩
theorem areCl_no {n : Int} {xs : List VClaim} {x : VClaim} (hx : x ∈ xs) (h : clB n x = false) : areCl n xs = false := by
  unfold areCl
  rw [show xs.all (clB n) = false from by rw [List.all_eq_false]; exact ⟨x, hx, by rw [h]; simp⟩]; rfl
theorem take_more {α : Type} {P : α → Prop} {xs : List α} {k : Nat} {s : α} (h : ∀ m ∈ xs.take k, P m) (hs : xs[k]? = some s) (hp : P s) : ∀ m ∈ xs.take (k + 1), P m := by
  intro m hm
  rw [List.take_add_one, hs, List.mem_append] at hm
  rcases hm with hm | hm
  · exact h m hm
  · simp at hm; subst hm; exact hp
set_option maxHeartbeats 3200000 in
set_option maxRecDepth 100000 in
theorem l8Good_any (n : Int) (a : Option Addr) (len cap : Nat) (xs : List VClaim) (w : World) (h : IsClaimS w a len cap xs) :
    Calls Try.prog 52 #[.int .i64 n, .slice a len cap] w fun e w' => e = .returned (.bool (areCl n xs)) ∧ Below w.heap.size w w' := by
  have hm := h.2.2.1
  have hcl := h.2.1
  unfold maxLen at hm
  obtain rfl := h.1
  have S := Lib.hid h
  clear h
  go_enter Try.func52, Try.ntmps52
  go_wp2
  go_loopw [5] (fun i wr => ∃ k : Nat, k ≤ xs.length ∧ i = .int .i64 k ∧ Below w.heap.size w wr ∧ ∀ x ∈ xs.take k, clB n x = true) (fun i _ => xs.length - (intOf i).toNat)
  case atStart => exact ⟨0, Nat.zero_le _, rfl, Below.refl _ _, by simp⟩
  case round =>
    obtain ⟨k, hk, rfl, hbel, hall⟩ := hrel
    have A := Lib.hid hall
    have B := Lib.hid hbel
    clear hall
    by_cases hlt : k < xs.length
    · obtain ⟨s, hs⟩ : ∃ s, xs[k]? = some s := ⟨xs[k]'hlt, List.getElem?_eq_getElem _⟩
      obtain ⟨b, o, rfl, hb, hat⟩ := (S.out.below hbel).at (by omega)
      obtain ⟨c0, c1, c2, c3⟩ := hat k s hs
      have K := Lib.hid hs
      have hi0 : (0 : Int) ≤ (k : Int) := by omega
      have hi1 : (k : Int) < (xs.length : Int) := by omega
      obtain ⟨r, hr⟩ : ∃ r, clB n s = r := ⟨_, rfl⟩
      have R := Lib.hid hr
      clear hs hat hbel hr
      go_wp2_with fail
      refine (l8One_any n s _).mono ?_
      rintro e w2 ⟨rfl, hb2⟩
      rw [R.out]
      have B2 := Lib.hid (Below.then' B.out hb2)
      clear hb2 c0 c1 c2 c3
      cases r
      · have N := Lib.hid (areCl_no (List.mem_of_getElem? K.out) R.out)
        go_wp2
        go_ret
        exact ⟨ret_bool N.out.symm, B2.out⟩
      · go_wp2
        go_roundw
        case rel => exact ⟨k + 1, by omega, by go_num, B2.out, take_more A.out K.out R.out⟩
        case measure => simp [intOf]; omega
    · obtain rfl : k = xs.length := by omega
      have U := Lib.hid (show areCl n xs = (inB n 1 10 && decide (xs.length ≤ 24)) from by
        have hh := A.out
        rw [List.take_of_length_le (Nat.le_refl _)] at hh
        unfold areCl
        rw [List.all_eq_true.2 hh]; rfl)
      obtain ⟨q, hq⟩ : ∃ q, inB n 1 10 = q := ⟨_, rfl⟩
      have Q := Lib.hid hq
      clear hbel hq
      go_wp2_with fail
      refine (l1In_any _ _ _ _).mono ?_
      rintro e w' ⟨rfl, rfl⟩
      rw [Q.out]
      cases q
      · go_wp2
        go_ret
        exact ⟨ret_bool (by rw [U.out, Q.out]; rfl), B.out⟩
      · go_wp2
        go_ret
        exact ⟨ret_bool (by rw [U.out, Q.out]; simp; try omega), B.out⟩
set_option maxHeartbeats 3200000 in
set_option maxRecDepth 100000 in
theorem l8Heights_any (n : Int) (a : Option Addr) (len cap : Nat) (hs : List Int) (w : World) (h : IsInts w a len cap hs) :
    Calls Try.prog 53 #[.int .i64 n, .slice a len cap] w fun e w' => e = .returned (.bool (hgtB n hs)) ∧ w = w' := by
  have hm := h.2.2.1
  have hcl := h.2.1
  unfold maxLen at hm
  obtain rfl := h.1
  have S := Lib.hid h
  clear h
  go_enter Try.func53, Try.ntmps53
  go_wp2
  go_loop [5] (fun i => ∃ k : Nat, k ≤ hs.length ∧ i = .int .i64 k ∧ ∀ x ∈ hs.take k, inB x (-200000) 200000 = true) (fun i => hs.length - (intOf i).toNat)
  case atStart => exact ⟨0, Nat.zero_le _, rfl, by simp⟩
  case round =>
    obtain ⟨k, hk, rfl, hall⟩ := hrel
    have A := Lib.hid hall
    clear hall
    by_cases hlt : k < hs.length
    · obtain ⟨s, hs1⟩ : ∃ s, hs[k]? = some s := ⟨hs[k]'hlt, List.getElem?_eq_getElem _⟩
      obtain ⟨b, o, rfl, hb, hat⟩ := S.out.at (by omega)
      have c0 := hat k s hs1
      have K := Lib.hid hs1
      have hi0 : (0 : Int) ≤ (k : Int) := by omega
      have hi1 : (k : Int) < (hs.length : Int) := by omega
      obtain ⟨r, hr⟩ : ∃ r, inB s (-200000) 200000 = r := ⟨_, rfl⟩
      have R := Lib.hid hr
      clear hs1 hat hr
      go_wp2_with fail
      refine (l1In_any _ _ _ _).mono ?_
      rintro e w' ⟨rfl, rfl⟩
      rw [R.out]
      cases r
      · have N := Lib.hid (show hgtB n hs = false from by
          unfold hgtB
          rw [show hs.all (fun h => inB h (-200000) 200000) = false from by rw [List.all_eq_false]; exact ⟨s, List.mem_of_getElem? K.out, by rw [R.out]; simp⟩]; rfl)
        go_wp2
        go_ret
        exact ⟨ret_bool N.out.symm, rfl⟩
      · go_wp2
        go_round
        case rel => exact ⟨k + 1, by omega, by go_num, take_more A.out K.out R.out⟩
        case measure => simp [intOf]; omega
    · obtain rfl : k = hs.length := by omega
      have U := Lib.hid (show hgtB n hs = decide ((hs.length : Int) = n) from by
        have hh := A.out
        rw [List.take_of_length_le (Nat.le_refl _)] at hh
        unfold hgtB
        rw [List.all_eq_true.2 hh]; rfl)
      obtain ⟨q, hq⟩ : ∃ q, ((hs.length : Int) == n) = q := ⟨_, rfl⟩
      have Q := Lib.hid (show hgtB n hs = q from by rw [U.out, ← hq]; rfl)
      go_wp2
      go_ret
      exact ⟨ret_bool (by rw [Q.out, ← hq]), rfl⟩
end Go.Proofs.Ytobpgoiaimlonaa
namespace Go.Proofs.Ytobpgoiaimlonaa
open Go.RowKit

/-- The heights of the two marks of a valid claim. -/
theorem claim_at {n : Int} {hs : List Int} {x : VClaim} (hx : clB n x = true) (hh : hgtB n hs = true) : ∃ (lo hi : Nat) (y z : Int), x.Low = (lo : Int) ∧ x.High = (hi : Int) ∧ hs[lo]? = some y ∧ hs[hi]? = some z ∧ (-200000 ≤ y ∧ y ≤ 200000) ∧ (-200000 ≤ z ∧ z ≤ 200000) ∧ holdsB hs x = inB (z - y) x.Least x.Most := by
  obtain ⟨a, b, c, d, _⟩ := clB_iff.1 hx
  unfold hgtB at hh
  simp only [Bool.and_eq_true, List.all_eq_true, decide_eq_true_eq] at hh
  have hl : x.Low.toNat < hs.length := by omega
  have hg : x.High.toNat < hs.length := by omega
  have e1 : hs[x.Low.toNat]? = some hs[x.Low.toNat] := List.getElem?_eq_getElem hl
  have e2 : hs[x.High.toNat]? = some hs[x.High.toNat] := List.getElem?_eq_getElem hg
  have r1 := inB_iff.1 (hh.1 _ (List.getElem_mem hl))
  have r2 := inB_iff.1 (hh.1 _ (List.getElem_mem hg))
  refine ⟨x.Low.toNat, x.High.toNat, _, _, by omega, by omega, e1, e2, r1, r2, ?_⟩
  unfold holdsB
  have q1 : atI hs x.Low = hs[x.Low.toNat] := by
    have := atI_some e1
    rwa [show ((x.Low.toNat : Nat) : Int) = x.Low from by omega] at this
  have q2 : atI hs x.High = hs[x.High.toNat] := by
    have := atI_some e2
    rwa [show ((x.High.toNat : Nat) : Int) = x.High from by omega] at this
  rw [q1, q2]
set_option maxHeartbeats 3200000 in
set_option maxRecDepth 100000 in
theorem l8Holds_any (n : Int) (x : VClaim) (a : Option Addr) (len cap : Nat) (hs : List Int) (w : World) (h : IsInts w a len cap hs) (hx : clB n x = true) (hh : hgtB n hs = true) :
    Calls Try.prog 84 #[.agg #[.int .i64 x.Low, .int .i64 x.High, .int .i64 x.Least, .int .i64 x.Most], .slice a len cap] w fun e w' => e = .returned (.bool (holdsB hs x)) ∧ Below w.heap.size w w' := by
  have hm := h.2.2.1
  have hcl := h.2.1
  unfold maxLen at hm
  obtain rfl := h.1
  obtain ⟨lo, hi, y, z, e1, e2, g1, g2, b1, b2, e3⟩ := claim_at hx hh
  obtain ⟨xl, xh, le, mo⟩ := x
  simp only [] at e1 e2 e3
  subst e1 e2
  rw [e3]
  have hl1 := (List.getElem?_eq_some_iff.1 g1).1
  have hl2 := (List.getElem?_eq_some_iff.1 g2).1
  have B0 := Lib.hid (bel_al1 w (.cells #[.int .i64 (lo : Int), .int .i64 (hi : Int), .int .i64 le, .int .i64 mo] 38))
  have S := Lib.hid (h.below B0.out)
  have X := Lib.hid (BoxClaim.new w 38 ⟨(lo : Int), (hi : Int), le, mo⟩ _ rfl)
  obtain ⟨b, o, rfl, hb, hat⟩ := S.out.at (by omega)
  have c0 := hat lo y g1
  have c1 := hat hi z g2
  have i0 : (0 : Int) ≤ (lo : Int) := by omega
  have i1 : (lo : Int) < (hs.length : Int) := by omega
  have i2 : (0 : Int) ≤ (hi : Int) := by omega
  have i3 : (hi : Int) < (hs.length : Int) := by omega
  have hw : IntKind.i64.wrap (z - y) = z - y := IntWalk.i64_in _ (by omega)
  have LI := Lib.hid (fun W : World => (l1In_any (z - y) le mo W).mono (fun e w' h => (⟨h.1, by rw [← h.2]; exact Below.refl _ _⟩ : e = .returned (.bool (inB (z - y) le mo)) ∧ Below W.heap.size W w')))
  clear h hx hh e3 g1 g2 b1 b2 hat
  go_enter Try.func84, Try.ntmps84
  go_wp2
  refine wp_world (fun W => BoxClaim W w.heap.size ⟨(lo : Int), (hi : Int), le, mo⟩ ∧ W.cell? ⟨b, o + lo, none⟩ = some (.int .i64 y) ∧ W.cell? ⟨b, o + hi, none⟩ = some (.int .i64 z) ∧ Below w.heap.size w W) ⟨X.out, c0, c1, B0.out⟩ ?_
  rintro W ⟨⟨e0, e1, e2, e3⟩, f0, f1, hbw⟩
  have BW := Lib.hid hbw
  clear c0 c1 hbw
  have k0 := cell_regrown e0
  have k1 := cell_regrown e1
  have k2 := cell_regrown e2
  have k3 := cell_regrown e3
  have k4 := cell_regrown f0
  have k5 := cell_regrown f1
  clear e0 e1 e2 e3 f0 f1
  have cQ := below_at (W := W) (fun W' _ => LI.out W')
  refine wp_region_quiet_below (by kernel_rfl) (by kernel_rfl) ?_
  repeat (first | go_big_quiet_step (exact cQ _ _) | quiet_step (exact cQ _ _))
  refine wpQuiet_nil ?_
  intro W2 hw2
  have B2 := Lib.hid (Below.then' BW.out (below_of_re hw2))
  clear hw2 cQ k0 k1 k2 k3 k4 k5
  go_wp2
  go_ret
  exact ⟨rfl, B2.out⟩
set_option maxHeartbeats 6400000 in
set_option maxRecDepth 100000 in
theorem l8Broken_any (n : Int) (a : Option Addr) (len cap : Nat) (xs : List VClaim) (a' : Option Addr) (len' cap' : Nat) (hs : List Int) (w : World) (h : IsClaimS w a len cap xs) (h' : IsInts w a' len' cap' hs) (hx : areCl n xs = true) (hh : hgtB n hs = true) :
    Calls Try.prog 54 #[.slice a len cap, .slice a' len' cap'] w (IdsOwn (broken hs xs) w) := by
  have hm := h.2.2.1
  have hcl := h.2.1
  unfold maxLen at hm
  obtain rfl := h.1
  obtain ⟨i0, hi, hz0, hz1, hz2⟩ := info_parts infoInt
  obtain ⟨hv, _, hl24⟩ := areCl_iff.1 hx
  have S := Lib.hid h
  have I := Lib.hid h'
  have HV := Lib.hid hv
  have HH := Lib.hid hh
  have O0 := Lib.hid (made_ids w)
  clear h h' hv hh hx
  go_enter Try.func54, Try.ntmps54
  go_wp2
  go_loopw [6, 5] (fun i o wr => ∃ k : Nat, k ≤ xs.length ∧ i = .int .i64 k ∧ wr.ownsRow w.heap.size 3 1 o (brokenTo hs xs k).length (intCells (brokenTo hs xs k)) ∧ Below w.heap.size w wr) (fun i _ _ => xs.length - (intOf i).toNat)
  case atStart => exact ⟨0, Nat.zero_le _, rfl, O0.out, wh_al1 _ _⟩
  case round =>
    obtain ⟨k, hk, rfl, hown, hbel⟩ := hrel
    have B := Lib.hid hbel
    have O := Lib.hid hown
    by_cases hlt : k < xs.length
    · obtain ⟨x, hx⟩ : ∃ x, xs[k]? = some x := ⟨xs[k]'hlt, List.getElem?_eq_getElem _⟩
      obtain ⟨b, o, rfl, hb, hat⟩ := (S.out.below hbel).at (by omega)
      obtain ⟨c0, c1, c2, c3⟩ := hat k x hx
      have T := Lib.hid (brokenTo_succ (hs := hs) hx)
      have hgl := brokenTo_len hs xs k
      have VX := Lib.hid (HV.out x (List.mem_of_getElem? hx))
      obtain ⟨G, hG⟩ : ∃ G, brokenTo hs xs k = G := ⟨_, rfl⟩
      rw [hG] at O T hgl
      obtain ⟨r, hr⟩ : ∃ r, holdsB hs x = r := ⟨_, rfl⟩
      rw [hr] at T
      have R := Lib.hid hr
      have hi0 : (0 : Int) ≤ (k : Int) := by omega
      have hi1 : (k : Int) < (xs.length : Int) := by omega
      clear hx hat hbel hown hG hr
      go_wp2_with fail
      refine (l8Holds_any n x _ _ _ hs _ (I.out.below B.out) VX.out HH.out).mono ?_
      rintro e w2 ⟨rfl, hb2⟩
      rw [R.out]
      have B2 := Lib.hid (Below.then' B.out hb2)
      have O2 := Lib.hid (ownsRow_below O.out hb2)
      have hsz := B2.out.size
      clear hb2 c0 c1 c2 c3
      cases r
      · have hown3 := O2.out.alloc (.cells #[.int .i64 (k : Int)] 3)
        go_wp2_with (at_builtin; refine wpList_append_own _ rfl _ _ 25 rfl w.heap.size 3 i0 (.int .i64 0) 1 8 Try.underlying25 hi hz0 hz1 hz2 rfl (by decide) _ _ _ rfl hown3 ⟨w2.heap.size, 0, none⟩ 1 1 [.int .i64 (k : Int)] rfl rfl (cell_one _ _ _) (fun x hx => by simp at hx; subst hx; rfl) (by unfold maxLen; omega) (by omega) (by simp; omega) ?_; intro v' w4 hown' hgrow4 hnil4)
        go_roundw
        case rel =>
          refine ⟨k + 1, by omega, by go_num, ?_, (Below.then' B2.out (wh_al1 _ _)).grown hgrow4 (by simp; omega) (fun j e => (hown3.lt j e).1)⟩
          rw [T.out, if_neg (by decide), intCells_snoc, List.length_append]
          exact hown'
        case measure => simp [intOf]; omega
      · go_wp2
        go_roundw
        case rel => exact ⟨k + 1, by omega, by go_num, by have t := T.out; rw [if_pos True.intro, List.append_nil] at t; rw [t]; exact O2.out, B2.out⟩
        case measure => simp [intOf]; omega
    · obtain rfl : k = xs.length := by omega
      have OB := Lib.hid (show wr.ownsRow w.heap.size 3 1 _ (broken hs xs).length (intCells (broken hs xs)) from hown)
      clear hbel hown
      go_wp2
      go_ret
      exact ⟨_, rfl, OB.out, B.out⟩
theorem specAreClaims_any (n : Int) (a : Option Addr) (len cap : Nat) (xs : List VClaim) (w : World) (h : IsClaimS w a len cap xs) (_ : condClaim xs) :
    Calls Try.prog 32 #[.int .i64 n, .slice a len cap] w (AreClaims_Post n xs w) := by
  have S := Lib.hid h
  clear h
  go_enter Try.func32, Try.ntmps32
  go_wp2_with fail
  refine (l8Good_any n _ _ _ xs _ S.out).mono ?_
  rintro e w1 ⟨rfl, hb⟩
  have B := Lib.hid hb
  clear hb
  go_wp2
  go_ret
  exact ⟨rfl, B.out⟩
end Go.Proofs.Ytobpgoiaimlonaa
namespace Go.Proofs.Ytobpgoiaimlonaa
open Go.RowKit

set_option maxHeartbeats 6400000 in
set_option maxRecDepth 100000 in
theorem specDoHeightsFit_any (n : Int) (a : Option Addr) (len cap : Nat) (xs : List VClaim) (a' : Option Addr) (len' cap' : Nat) (hs : List Int) (w : World) (h : IsClaimS w a len cap xs) (_ : condClaim xs) (h' : IsInts w a' len' cap' hs) (_ : condInt hs) :
    Calls Try.prog 17 #[.int .i64 n, .slice a len cap, .slice a' len' cap'] w (DoHeightsFit_Post n xs hs w) := by
  have S := Lib.hid h
  have I := Lib.hid h'
  have hm := h'.2.2.1
  have hcl := h'.2.1
  unfold maxLen at hm
  obtain rfl := h'.1
  clear h h'
  obtain ⟨p, hp⟩ : ∃ p, areCl n xs = p := ⟨_, rfl⟩
  obtain ⟨q, hq⟩ : ∃ q, hgtB n hs = q := ⟨_, rfl⟩
  have PP := Lib.hid hp
  have QQ := Lib.hid hq
  clear hp hq
  go_enter Try.func17, Try.ntmps17
  go_wp2_with fail
  refine (l8Good_any n _ _ _ xs _ S.out).mono ?_
  rintro e w1 ⟨rfl, hb⟩
  rw [PP.out]
  have B1 := Lib.hid hb
  have S1 := Lib.hid (S.out.below hb)
  have I1 := Lib.hid (I.out.below hb)
  clear hb
  cases p
  · go_wp2
    go_ret2
    exact ⟨by unfold DoHeightsFit_0 DoHeightsFit_1; rw [PP.out]; rfl, B1.out⟩
  go_wp2_with fail
  refine (l8Heights_any n _ _ _ hs _ I1.out).mono ?_
  rintro e w' ⟨rfl, rfl⟩
  rw [QQ.out]
  cases q
  · go_wp2
    go_ret2
    exact ⟨by unfold DoHeightsFit_0 DoHeightsFit_1; rw [PP.out, QQ.out]; rfl, B1.out⟩
  have hn := (areCl_iff.1 PP.out).2.1
  have hl := QQ.out
  unfold hgtB at hl
  simp only [Bool.and_eq_true, decide_eq_true_eq] at hl
  have hl2 := hl.2
  have hp0 : 0 < hs.length := by omega
  clear hl
  obtain ⟨y, hy⟩ : ∃ y, hs[0]? = some y := ⟨hs[0], List.getElem?_eq_getElem _⟩
  obtain ⟨b, o, rfl, _, hat⟩ := I1.out.at hp0
  have c0 := hat 0 y hy
  have Y := Lib.hid (show atI hs 0 = y from atI_some (k := 0) hy)
  have hi1 : (0 : Int) < (hs.length : Int) := by omega
  have E1 := Lib.hid (show DoHeightsFit_1 n xs hs = true from by unfold DoHeightsFit_1; rw [PP.out, QQ.out]; rfl)
  have E0 := Lib.hid (show DoHeightsFit_0 n xs hs = (decide (y = 0) && decide ((broken hs xs).length = 0)) from by unfold DoHeightsFit_0; rw [PP.out, QQ.out, Y.out]; rfl)
  clear hn hl2 hat hy
  simp only [Nat.add_zero] at c0
  by_cases hz : y = 0
  · have z1 : (y == 0) = true := by simp [hz]
    have Z := Lib.hid (decide_eq_true hz)
    clear hz
    go_wp2_with fail
    refine (l8Broken_any n _ _ _ xs _ _ _ hs _ S1.out I1.out PP.out QQ.out).mono ?_
    rintro e w2 ⟨v, rfl, hown, hb⟩
    have B2 := Lib.hid (Below.then' B1.out hb)
    obtain ⟨a2, c2, rfl, _, _⟩ := isInts_own hown
    obtain ⟨m, hm2⟩ : ∃ m, (broken hs xs).length = m := ⟨_, rfl⟩
    rw [hm2] at E0 ⊢
    have EM := Lib.hid (show decide (m = 0) = ((m : Int) == 0) from by rw [Bool.eq_iff_iff]; simp)
    clear hown hb hm2 c0
    go_wp2
    go_ret2
    exact ⟨by rw [E0.out, E1.out, Z.out, EM.out]; rfl, B2.out⟩
  · have z1 : (y == 0) = false := by simp [hz]
    have Z := Lib.hid (decide_eq_false hz)
    clear hz
    go_wp2
    go_ret2
    exact ⟨by rw [E0.out, E1.out, Z.out]; rfl, B1.out⟩
set_option maxHeartbeats 6400000 in
set_option maxRecDepth 100000 in
theorem specBrokenClaims_any (n : Int) (a : Option Addr) (len cap : Nat) (xs : List VClaim) (a' : Option Addr) (len' cap' : Nat) (hs : List Int) (w : World) (h : IsClaimS w a len cap xs) (_ : condClaim xs) (h' : IsInts w a' len' cap' hs) (_ : condInt hs) :
    Calls Try.prog 19 #[.int .i64 n, .slice a len cap, .slice a' len' cap'] w (BrokenClaims_Post n xs hs w) := by
  have S := Lib.hid h
  have I := Lib.hid h'
  clear h h'
  obtain ⟨p, hp⟩ : ∃ p, areCl n xs = p := ⟨_, rfl⟩
  obtain ⟨q, hq⟩ : ∃ q, hgtB n hs = q := ⟨_, rfl⟩
  have PP := Lib.hid hp
  have QQ := Lib.hid hq
  clear hp hq
  go_enter Try.func19, Try.ntmps19
  go_wp2_with fail
  refine (l8Good_any n _ _ _ xs _ S.out).mono ?_
  rintro e w1 ⟨rfl, hb⟩
  rw [PP.out]
  have B1 := Lib.hid hb
  have S1 := Lib.hid (S.out.below hb)
  have I1 := Lib.hid (I.out.below hb)
  have OE := Lib.hid (show OwnIntS w.heap.size (w1.alloc (.cells #[] 3)).heap.size (w1.alloc (.cells #[] 3)) (.slice (some ⟨w1.heap.size, 0, none⟩) 0 0) [] from OwnIn.of_row (ownsRow_base (made_ids w1) hb.size) (Nat.le_refl _) (Nat.le_refl _))
  have BE := Lib.hid (Below.then' hb (wh_al1 w1 (.cells #[] 3)))
  clear hb
  cases p
  · have E0 := Lib.hid (show BrokenClaims_0 n xs hs = [] from by unfold BrokenClaims_0; rw [PP.out]; rfl)
    go_wp2
    go_ret2
    exact ⟨_, by unfold BrokenClaims_1; rw [PP.out]; rfl, by rw [E0.out]; exact OE.out, BE.out⟩
  go_wp2_with fail
  refine (l8Heights_any n _ _ _ hs _ I1.out).mono ?_
  rintro e w' ⟨rfl, rfl⟩
  rw [QQ.out]
  cases q
  · have E0 := Lib.hid (show BrokenClaims_0 n xs hs = [] from by unfold BrokenClaims_0; rw [PP.out, QQ.out]; rfl)
    go_wp2
    go_ret2
    exact ⟨_, by unfold BrokenClaims_1; rw [PP.out, QQ.out]; rfl, by rw [E0.out]; exact OE.out, BE.out⟩
  have E0 := Lib.hid (show BrokenClaims_0 n xs hs = broken hs xs from by unfold BrokenClaims_0; rw [PP.out, QQ.out]; rfl)
  go_wp2_with fail
  refine (l8Broken_any n _ _ _ xs _ _ _ hs _ S1.out I1.out PP.out QQ.out).mono ?_
  rintro e w2 ⟨v, rfl, hown, hb⟩
  have B2 := Lib.hid (Below.then' B1.out hb)
  have O := Lib.hid (show OwnIntS w.heap.size w2.heap.size w2 v (broken hs xs) from OwnIn.of_row (ownsRow_base hown B1.out.size) (Nat.le_refl _) (Nat.le_refl _))
  clear hown hb
  go_wp2
  go_ret2
  exact ⟨_, by unfold BrokenClaims_1; rw [PP.out, QQ.out]; rfl, by rw [E0.out]; exact O.out, B2.out⟩
end Go.Proofs.Ytobpgoiaimlonaa
