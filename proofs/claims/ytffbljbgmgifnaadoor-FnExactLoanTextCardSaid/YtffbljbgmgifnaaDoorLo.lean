/- Loans: when one and a list of them are valid; what is open and late; fines; the result functions of the chapter. Plain mathematics. -/
import Derived.Test.YtffbljbgmgifnaaDoorLoanT
import Derived.Test.YtffbljbgmgifnaaDoorUp2
import Derived.Test.YtffbljbgmgifnaaDoorPick
import Derived.Test.YtffbljbgmgifnaaDoorRd
import Derived.Test.YtffbljbgmgifnaaDoorInts
import Derived.Test.YtffbljbgmgifnaaDoorPutL
namespace Go.Proofs.YtffbljbgmgifnaaDoor
open Go.RowKit

def idB (n : Int) : Bool := inB n 1 999
def backLo (l : VLoan) : Bool := l.Back == -1 || inB l.Back l.Out 4000
def VLoan.ok (l : VLoan) : Bool := idB l.Sheet && (idB l.Reader && (dayB l.Out && (inB l.Due l.Out 4000 && backLo l)))
theorem loOk_iff {l : VLoan} : l.ok = true ↔ (1 ≤ l.Sheet ∧ l.Sheet ≤ 999) ∧ (1 ≤ l.Reader ∧ l.Reader ≤ 999) ∧ (0 ≤ l.Out ∧ l.Out ≤ 4000) ∧ (l.Out ≤ l.Due ∧ l.Due ≤ 4000) ∧ (l.Back = -1 ∨ (l.Out ≤ l.Back ∧ l.Back ≤ 4000)) := by
  simp [VLoan.ok, idB, backLo, dayB, inB]
/-- Open on a day. -/
def openOn (d : Int) (l : VLoan) : Bool := decide (l.Out ≤ d) && (l.Back == -1 || decide (d < l.Back))
def lateOn (d : Int) (l : VLoan) : Bool := openOn d l && decide (l.Due < d)
/-- An earlier one b stands in the way of l. -/
def wayB (l b : VLoan) : Bool := b.Sheet == l.Sheet && (decide (b.Back < 0) || decide (l.Out < b.Back))
def loAt (xs : List VLoan) (i : Nat) : VLoan := (xs[i]?).getD ⟨0, 0, 0, 0, 0⟩
theorem loAt_some {xs : List VLoan} {i : Nat} {l : VLoan} (h : xs[i]? = some l) : loAt xs i = l := by unfold loAt; rw [h]; rfl
/-- The loan at place i fits behind those before it. -/
def fitLo (xs : List VLoan) (i : Nat) : Bool := (loAt xs i).ok && ((i == 0 || decide ((loAt xs (i - 1)).Out ≤ (loAt xs i).Out)) && !(xs.take i).any (wayB (loAt xs i)))
def areLo (xs : List VLoan) : Bool := decide (xs.length ≤ 15) && (List.range xs.length).all (fitLo xs)
theorem areLo_len {xs : List VLoan} (h : areLo xs = true) : xs.length ≤ 15 := by simp [areLo] at h; exact h.1
theorem areLo_fits {xs : List VLoan} (h : areLo xs = true) {i : Nat} (hi : i < xs.length) : fitLo xs i = true := by
  simp only [areLo, Bool.and_eq_true, List.all_eq_true, List.mem_range] at h; exact h.2 i hi
/-- As far as k all fit. -/
def upTo (xs : List VLoan) (k : Nat) : Prop := ∀ i, i < k → fitLo xs i = true
theorem upTo_zero (xs : List VLoan) : upTo xs 0 := fun i h => absurd h (by omega)
theorem upTo_snoc {xs : List VLoan} {k : Nat} (h : upTo xs k) (hk : fitLo xs k = true) : upTo xs (k + 1) := fun i hi => by
  by_cases e : i = k
  · rw [e]; exact hk
  · exact h i (by omega)
theorem areLo_all {xs : List VLoan} (h : upTo xs xs.length) (hl : xs.length ≤ 15) : areLo xs = true := by
  simp only [areLo, Bool.and_eq_true, List.all_eq_true, List.mem_range, decide_eq_true_eq]; exact ⟨hl, h⟩
theorem areLo_no {xs : List VLoan} {k : Nat} (hk : k < xs.length) (h : fitLo xs k = false) : areLo xs = false := by
  cases e : areLo xs with
  | false => rfl
  | true => rw [areLo_fits e hk] at h; cases h
theorem areLo_long {xs : List VLoan} (h : ¬ xs.length ≤ 15) : areLo xs = false := by simp [areLo, h]
theorem fits_ok {xs : List VLoan} {i : Nat} {l : VLoan} (hs : xs[i]? = some l) (h : fitLo xs i = true) : l.ok = true := by
  simp only [fitLo, Bool.and_eq_true, loAt_some hs] at h; exact h.1
theorem fits_way {xs : List VLoan} {i : Nat} {l : VLoan} (hs : xs[i]? = some l) (h : fitLo xs i = true) : (xs.take i).any (wayB l) = false := by
  simp only [fitLo, Bool.and_eq_true, loAt_some hs] at h; simpa using h.2.2
theorem fits_ord {xs : List VLoan} {i : Nat} {l b : VLoan} (hs : xs[i + 1]? = some l) (hb : xs[i]? = some b) (h : fitLo xs (i + 1) = true) : b.Out ≤ l.Out := by
  simp only [fitLo, Bool.and_eq_true, loAt_some hs, Nat.add_sub_cancel, loAt_some hb] at h; simpa using h.2.1
theorem areLo_ok {xs : List VLoan} (h : areLo xs = true) {l : VLoan} (hm : l ∈ xs) : l.ok = true := by
  obtain ⟨i, hi⟩ := List.getElem?_of_mem hm
  exact fits_ok hi (areLo_fits h (List.getElem?_eq_some_iff.1 hi).1)
/-- In order as far as all fit. -/
theorem upTo_ord {xs : List VLoan} {k : Nat} (h : upTo xs k) : ∀ (j i : Nat) {a b : VLoan}, i ≤ j → j < k → xs[i]? = some a → xs[j]? = some b → a.Out ≤ b.Out := by
  intro j
  induction j with
  | zero => intro i a b hi _ ha hb; obtain rfl : i = 0 := (by omega); rw [ha] at hb; cases hb; exact Int.le_refl _
  | succ j ih =>
    intro i a b hi hj ha hb
    by_cases e : i = j + 1
    · subst e; rw [ha] at hb; cases hb; exact Int.le_refl _
    · have hj' : j < xs.length := by have := (List.getElem?_eq_some_iff.1 hb).1; omega
      have hc : xs[j]? = some xs[j] := List.getElem?_eq_getElem _
      have h1 := ih i (a := a) (b := xs[j]) (by omega) (by omega) ha hc
      have h2 := fits_ord hb hc (h (j + 1) hj)
      omega
theorem upTo_oks {xs : List VLoan} {k : Nat} (h : upTo xs k) : ∀ b ∈ xs.take k, b.ok = true := by
  intro b hb
  obtain ⟨i, hi⟩ := List.getElem?_of_mem hb
  rw [List.getElem?_take] at hi
  split at hi
  · exact fits_ok hi (h i (by omega))
  · cases hi
/-- An open one among those before is one that stands in the way. -/
theorem way_open {l b : VLoan} (hb : b.ok = true) (ho : b.Out ≤ l.Out) : (b.Sheet == l.Sheet && openOn l.Out b) = wayB l b := by
  have h := (loOk_iff.1 hb)
  unfold openOn wayB
  have e1 : decide (b.Out ≤ l.Out) = true := by simpa using ho
  have e2 : (b.Back == -1) = decide (b.Back < 0) := by rw [Bool.eq_iff_iff]; simp; omega
  rw [e1, e2]; rfl
theorem first_nn {α : Type} (f : α → Bool) (xs : List α) : decide (0 ≤ firstOf f xs) = xs.any f := by
  rw [Bool.eq_iff_iff, decide_eq_true_eq, List.any_eq_true]
  rcases firstOf_cases f xs with ⟨h1, h2⟩ | ⟨i, s, h1, h2, h3, _⟩
  · rw [h1]
    constructor
    · intro h; omega
    · rintro ⟨s, hs, e⟩; rw [h2 s hs] at e; cases e
  · rw [h1]; exact ⟨fun _ => ⟨s, List.mem_of_getElem? h2, h3⟩, fun _ => by omega⟩
theorem any_same {α : Type} {f g : α → Bool} {xs : List α} (h : ∀ x ∈ xs, f x = g x) : xs.any f = xs.any g := by
  rw [Bool.eq_iff_iff, List.any_eq_true, List.any_eq_true]
  exact ⟨fun ⟨x, hx, e⟩ => ⟨x, hx, (h x hx) ▸ e⟩, fun ⟨x, hx, e⟩ => ⟨x, hx, (h x hx).symm ▸ e⟩⟩
/-- The search for an open one among those before tells what the rule asks. -/
theorem way_first {xs : List VLoan} {i : Nat} {l : VLoan} (h : upTo xs i) (hs : xs[i]? = some l) (ho : ∀ b, xs[i - 1]? = some b → 0 < i → b.Out ≤ l.Out) :
    decide (0 ≤ firstOf (fun b : VLoan => b.Sheet == l.Sheet && openOn l.Out b) (xs.take i)) = (xs.take i).any (wayB l) := by
  rw [first_nn]
  have hi := (List.getElem?_eq_some_iff.1 hs).1
  refine any_same fun b hb => way_open (upTo_oks h b hb) ?_
  obtain ⟨j, hj⟩ := List.getElem?_of_mem hb
  rw [List.getElem?_take] at hj
  split at hj
  · rename_i hji
    have hc : xs[i - 1]? = some (xs[i - 1]'(by omega)) := List.getElem?_eq_getElem _
    have h1 := upTo_ord h (i - 1) j (by omega) (by omega) hj hc
    have h2 := ho _ hc (by omega)
    omega
  · cases hj
theorem fits_is {xs : List VLoan} {i : Nat} {l : VLoan} (hs : xs[i]? = some l) : fitLo xs i = (l.ok && ((i == 0 || decide ((loAt xs (i - 1)).Out ≤ l.Out)) && !(xs.take i).any (wayB l))) := by
  unfold fitLo; rw [loAt_some hs]
/-- A list that is valid with one more was so without. -/
theorem fits_more (xs ys : List VLoan) {i : Nat} (hi : i < xs.length) : fitLo (xs ++ ys) i = fitLo xs i := by
  have e : ∀ j, j < xs.length → loAt (xs ++ ys) j = loAt xs j := fun j hj => by unfold loAt; rw [List.getElem?_append_left hj]
  unfold fitLo
  rw [e i hi, List.take_append_of_le_length (by omega)]
  by_cases h0 : i = 0
  · subst h0; rfl
  · rw [e (i - 1) (by omega)]
theorem areLo_front {xs ys : List VLoan} (h : areLo (xs ++ ys) = true) : areLo xs = true := by
  have hl := areLo_len h
  rw [List.length_append] at hl
  refine areLo_all (fun i hi => ?_) (by omega)
  rw [← fits_more xs ys hi]
  exact areLo_fits h (by rw [List.length_append]; omega)
/-- No two loans of a sheet are open on one day. -/
theorem open_one {xs : List VLoan} (h : areLo xs = true) {i j : Nat} {a b : VLoan} {d : Int} (hij : i < j) (ha : xs[i]? = some a) (hb : xs[j]? = some b) (oa : openOn d a = true) (ob : openOn d b = true) : ¬ a.Sheet = b.Sheet := by
  intro e
  have hw := fits_way hb (areLo_fits h (List.getElem?_eq_some_iff.1 hb).1)
  rw [List.any_eq_false] at hw
  have hm : a ∈ xs.take j := List.mem_of_getElem? (by rw [List.getElem?_take, if_pos hij]; exact ha)
  apply hw a hm
  have k := loOk_iff.1 (areLo_ok h (List.mem_of_getElem? ha))
  simp [openOn] at oa ob
  simp [wayB]
  refine ⟨e, ?_⟩
  omega

/-- The loan of a sheet that is not returned: where it stands, or -1. -/
def lentAt (xs : List VLoan) (s : Int) : Int := firstOf (fun l : VLoan => l.Sheet == s && decide (l.Back < 0)) xs
theorem first_same {α : Type} {f g : α → Bool} {xs : List α} (h : ∀ x ∈ xs, f x = g x) : firstOf f xs = firstOf g xs := by
  rcases firstOf_cases f xs with ⟨h1, h2⟩ | ⟨i, s, h1, h2, h3, h4⟩
  · rw [h1]; exact (firstOf_none fun s hs => by rw [← h s hs]; exact h2 s hs).symm
  · rw [h1]
    exact (firstOf_at h2 (by rw [← h s (List.mem_of_getElem? h2)]; exact h3) fun j t hj ht => by rw [← h t (List.mem_of_getElem? ht)]; exact h4 j t hj ht).symm
theorem lent_is {xs : List VLoan} (h : areLo xs = true) (s : Int) : firstOf (fun l : VLoan => l.Sheet == s && l.Back == -1) xs = lentAt xs s := by
  refine first_same fun l hl => ?_
  have k := loOk_iff.1 (areLo_ok h hl)
  have e : (l.Back == -1) = decide (l.Back < 0) := by rw [Bool.eq_iff_iff]; simp; omega
  rw [e]
theorem lent_cases (xs : List VLoan) (s : Int) : (lentAt xs s = -1) ∨ ∃ (i : Nat) (l : VLoan), lentAt xs s = (i : Int) ∧ xs[i]? = some l ∧ l.Sheet = s ∧ l.Back < 0 := by
  rcases firstOf_cases (fun l : VLoan => l.Sheet == s && decide (l.Back < 0)) xs with ⟨h1, _⟩ | ⟨i, l, h1, h2, h3, _⟩
  · exact .inl h1
  · simp at h3; exact .inr ⟨i, l, h1, h2, h3.1, h3.2⟩
def endL (l : VLoan) (d : Int) : Int := if l.Back < 0 then d else min d l.Back
def fineL (l : VLoan) (d : Int) : Int := min 1000 (10 * max 0 (endL l d - l.Due))
theorem fineL_bd (l : VLoan) (d : Int) : 0 ≤ fineL l d ∧ fineL l d ≤ 1000 := by unfold fineL; omega

def AreLoans_0 (xs : List VLoan) : Bool := areLo xs
def lentL (sheet reader day days : Int) : VLoan := ⟨sheet, reader, day, day + days, -1⟩
def daysB (n : Int) : Bool := inB n 1 60
def LendSheet_1 (xs : List VLoan) (sheet reader day days : Int) : Bool := areLo xs && (dayB day && (daysB days && areLo (xs ++ [lentL sheet reader day days])))
def LendSheet_0 (xs : List VLoan) (sheet reader day days : Int) : List VLoan := if LendSheet_1 xs sheet reader day days = true then xs ++ [lentL sheet reader day days] else []
def cameL (l : VLoan) (d : Int) : VLoan := { l with Back := d }
def retL (xs : List VLoan) (s d : Int) : List VLoan := xs.set (lentAt xs s).toNat (cameL (loAt xs (lentAt xs s).toNat) d)
def ReturnSheet_2 (xs : List VLoan) (s d : Int) : Bool := areLo xs && (decide (0 ≤ lentAt xs s) && (dayB d && areLo (retL xs s d)))
def ReturnSheet_0 (xs : List VLoan) (s d : Int) : List VLoan := if ReturnSheet_2 xs s d = true then retL xs s d else []
def ReturnSheet_1 (xs : List VLoan) (s d : Int) : Int := if ReturnSheet_2 xs s d = true then fineL (cameL (loAt xs (lentAt xs s).toNat) d) d else 0
def longL (l : VLoan) (n : Int) : VLoan := { l with Due := l.Due + n }
def proL (xs : List VLoan) (s n : Int) : List VLoan := xs.set (lentAt xs s).toNat (longL (loAt xs (lentAt xs s).toNat) n)
def mayPro (l : VLoan) (d : Int) : Bool := decide (d ≤ l.Due) && decide (l.Out ≤ d)
def ProlongLoan_1 (xs : List VLoan) (s d n : Int) : Bool := areLo xs && (decide (0 ≤ lentAt xs s) && (dayB d && (daysB n && (mayPro (loAt xs (lentAt xs s).toNat) d && areLo (proL xs s n)))))
def ProlongLoan_0 (xs : List VLoan) (s d n : Int) : List VLoan := if ProlongLoan_1 xs s d n = true then proL xs s n else []
def sheetsOf (f : VLoan → Bool) (xs : List VLoan) : List Int := ((xs.filter f).map VLoan.Sheet).foldl (fun out n => putN n out) []
def OpenLoans_1 (xs : List VLoan) (r d : Int) : Bool := areLo xs && (idB r && dayB d)
def OpenLoans_0 (xs : List VLoan) (r d : Int) : List Int := if OpenLoans_1 xs r d = true then sheetsOf (fun l => l.Reader == r && openOn d l) xs else []
def LateOn_1 (xs : List VLoan) (d : Int) : Bool := areLo xs && dayB d
def LateOn_0 (xs : List VLoan) (d : Int) : List Int := if LateOn_1 xs d = true then sheetsOf (lateOn d) xs else []
/-- Where the last loan of a sheet stands, or -1. -/
def lastL (s : Int) : List VLoan → Int
  | [] => -1
  | l :: t => if lastL s t < 0 then (if l.Sheet = s then 0 else -1) else lastL s t + 1
theorem lastL_snoc (s : Int) (ys : List VLoan) (l : VLoan) : lastL s (ys ++ [l]) = if l.Sheet = s then (ys.length : Int) else lastL s ys := by
  induction ys with
  | nil => simp [lastL]
  | cons y t ih =>
    rw [List.cons_append]
    unfold lastL
    rw [ih]
    by_cases e : l.Sheet = s
    · rw [if_pos e, if_pos e, if_neg (by omega), List.length_cons]; omega
    · rw [if_neg e, if_neg e]
theorem lastL_bd (s : Int) (ys : List VLoan) : -1 ≤ lastL s ys ∧ lastL s ys < (ys.length : Int) := by
  induction ys with
  | nil => simp [lastL]
  | cons y t ih =>
    unfold lastL
    rw [List.length_cons]
    split
    · split <;> omega
    · omega
def FineOn_1 (xs : List VLoan) (s d : Int) : Bool := areLo xs && (dayB d && decide (0 ≤ lastL s xs))
def FineOn_0 (xs : List VLoan) (s d : Int) : Int := if FineOn_1 xs s d = true then fineL (loAt xs (lastL s xs).toNat) d else 0
/-- Who has the sheet: the last open one. -/
def whoL (s d : Int) (xs : List VLoan) : Int := xs.foldl (fun who l => if l.Sheet = s ∧ openOn d l = true then l.Reader else who) 0
def WhoHas_1 (xs : List VLoan) (s d : Int) : Bool := areLo xs && (idB s && dayB d)
def WhoHas_0 (xs : List VLoan) (s d : Int) : Int := if WhoHas_1 xs s d = true then whoL s d xs else 0
def lentD (s d : Int) (l : VLoan) : Int := if l.Sheet = s ∧ l.Out ≤ d then endL l d - l.Out else 0
def daysL (s d : Int) (xs : List VLoan) : Int := xs.foldl (fun n l => n + lentD s d l) 0
def DaysLent_1 (xs : List VLoan) (s d : Int) : Bool := areLo xs && (idB s && dayB d)
def DaysLent_0 (xs : List VLoan) (s d : Int) : Int := if DaysLent_1 xs s d = true then daysL s d xs else 0
def timesL (xs : List VLoan) (s : Int) : Int := ((xs.filter fun l => l.Sheet == s).length : Int)
/-- The one sheet goes before the other: lent more often, or as often and smaller. -/
def favB (xs : List VLoan) (x m : VLoan) : Bool := decide (timesL xs m.Sheet < timesL xs x.Sheet) || (decide (timesL xs m.Sheet = timesL xs x.Sheet) && decide (x.Sheet < m.Sheet))
def favL (xs : List VLoan) : VLoan := pickB (favB xs) ⟨0, 0, 0, 0, 0⟩ xs
def FavoriteSheet_1 (xs : List VLoan) : Bool := areLo xs && decide (0 < xs.length)
def FavoriteSheet_0 (xs : List VLoan) : Int := if FavoriteSheet_1 xs = true then (favL xs).Sheet else 0

theorem LendSheet_0_len (xs : List VLoan) (s r d n : Int) (_ : xs.length ≤ 1048576) : (LendSheet_0 xs s r d n).length ≤ 1000000 := by
  unfold LendSheet_0
  split
  · rename_i hh
    simp only [LendSheet_1, Bool.and_eq_true] at hh
    have := areLo_len hh.2.2.2
    omega
  · simp
theorem ReturnSheet_0_len (xs : List VLoan) (s d : Int) (_ : xs.length ≤ 1048576) : (ReturnSheet_0 xs s d).length ≤ 1000000 := by
  unfold ReturnSheet_0
  split
  · rename_i hh
    simp only [ReturnSheet_2, Bool.and_eq_true] at hh
    have := areLo_len hh.2.2.2
    omega
  · simp
theorem ProlongLoan_0_len (xs : List VLoan) (s d n : Int) (_ : xs.length ≤ 1048576) : (ProlongLoan_0 xs s d n).length ≤ 1000000 := by
  unfold ProlongLoan_0
  split
  · rename_i hh
    simp only [ProlongLoan_1, Bool.and_eq_true] at hh
    have := areLo_len hh.2.2.2.2.2
    omega
  · simp
theorem putAll_len (zs : List Int) : ∀ out : List Int, (zs.foldl (fun out n => putN n out) out).length ≤ out.length + zs.length := by
  induction zs with
  | nil => intro out; simp
  | cons z l ih =>
    intro out
    rw [List.foldl_cons, List.length_cons]
    have h1 := ih (putN z out)
    have h2 := putN_len z out
    omega
theorem sheetsOf_len (f : VLoan → Bool) (xs : List VLoan) : (sheetsOf f xs).length ≤ xs.length := by
  unfold sheetsOf
  have h1 := putAll_len ((xs.filter f).map VLoan.Sheet) []
  rw [List.length_map] at h1
  have h2 := List.length_filter_le f xs
  simp at h1
  omega
theorem OpenLoans_0_len (xs : List VLoan) (r d : Int) (_ : xs.length ≤ 1048576) : (OpenLoans_0 xs r d).length ≤ 1000000 := by
  unfold OpenLoans_0
  split
  · rename_i hh
    simp only [OpenLoans_1, Bool.and_eq_true] at hh
    have := areLo_len hh.1
    have := sheetsOf_len (fun l => l.Reader == r && openOn d l) xs
    omega
  · simp
theorem LateOn_0_len (xs : List VLoan) (d : Int) (_ : xs.length ≤ 1048576) : (LateOn_0 xs d).length ≤ 1000000 := by
  unfold LateOn_0
  split
  · rename_i hh
    simp only [LateOn_1, Bool.and_eq_true] at hh
    have := areLo_len hh.1
    have := sheetsOf_len (lateOn d) xs
    omega
  · simp
theorem putAll_rises (zs : List Int) : ∀ out : List Int, List.Pairwise (· < ·) out → List.Pairwise (· < ·) (zs.foldl (fun out n => putN n out) out) := by
  induction zs with
  | nil => intro out h; exact h
  | cons z l ih => intro out h; exact ih _ (putN_rises h)
theorem putAll_mem (zs : List Int) (x : Int) : ∀ out : List Int, x ∈ zs.foldl (fun out n => putN n out) out ↔ x ∈ out ∨ x ∈ zs := by
  induction zs with
  | nil => intro out; simp
  | cons z l ih =>
    intro out
    rw [List.foldl_cons, ih, mem_putN, List.mem_cons]
    constructor
    · rintro ((h | h) | h)
      · exact .inr (.inl h)
      · exact .inl h
      · exact .inr (.inr h)
    · rintro (h | h | h)
      · exact .inl (.inr h)
      · exact .inl (.inl h)
      · exact .inr h
theorem asc_ext : ∀ (xs ys : List Int), List.Pairwise (· < ·) xs → List.Pairwise (· < ·) ys → (∀ v, v ∈ xs ↔ v ∈ ys) → xs = ys := by
  intro xs
  induction xs with
  | nil =>
    intro ys _ _ h
    cases ys with
    | nil => rfl
    | cons y l => have := (h y).2 (by simp); simp at this
  | cons x l ih =>
    intro ys h1 h2 h
    cases ys with
    | nil => have := (h x).1 (by simp); simp at this
    | cons y m =>
      have p1 := List.pairwise_cons.1 h1
      have p2 := List.pairwise_cons.1 h2
      have e : x = y := by
        have a1 := (h x).1 (by simp)
        have a2 := (h y).2 (by simp)
        rw [List.mem_cons] at a1 a2
        rcases a1 with a1 | a1
        · exact a1
        · rcases a2 with a2 | a2
          · exact a2.symm
          · have := p1.1 y a2; have := p2.1 x a1; omega
      subst e
      congr 1
      refine ih m p1.2 p2.2 fun v => ?_
      have hv := h v
      rw [List.mem_cons, List.mem_cons] at hv
      constructor
      · intro hm
        have := p1.1 v hm
        rcases hv.1 (.inr hm) with e | e
        · omega
        · exact e
      · intro hm
        have := p2.1 v hm
        rcases hv.2 (.inr hm) with e | e
        · omega
        · exact e
/-- Numbers that are all different, sorted, are the numbers put to their places one by one. -/
theorem sort_put {zs : List Int} (h : zs.Nodup) : (zs.mergeSort fun x y => decide (x ≤ y)) = zs.foldl (fun out n => putN n out) [] := by
  have hp := List.mergeSort_perm zs (fun x y : Int => decide (x ≤ y))
  have hs := List.pairwise_mergeSort (le := fun x y : Int => decide (x ≤ y)) (fun a b c => by simp; omega) (fun a b => by simp; omega) zs
  have hn : (zs.mergeSort fun x y => decide (x ≤ y)).Nodup := hp.nodup_iff.2 h
  refine asc_ext _ _ ?_ (putAll_rises zs [] List.Pairwise.nil) fun v => ?_
  · have := hs.and hn
    exact this.imp fun ⟨a, b⟩ => by
      have h1 := of_decide_eq_true a
      omega
  · rw [putAll_mem, hp.mem_iff]; simp
theorem sheets_nodup {xs : List VLoan} (h : areLo xs = true) {f : VLoan → Bool} {d : Int} (hf : ∀ l ∈ xs, f l = true → openOn d l = true) : ((xs.filter f).map VLoan.Sheet).Nodup := by
  have hp : List.Pairwise (fun a b : VLoan => f a = true → f b = true → ¬ a.Sheet = b.Sheet) xs := by
    rw [List.pairwise_iff_getElem]
    intro i j hi hj hij fa fb
    exact open_one h hij (List.getElem?_eq_getElem hi) (List.getElem?_eq_getElem hj) (hf _ (List.getElem_mem hi) fa) (hf _ (List.getElem_mem hj) fb)
  have h2 : List.Pairwise (fun a b : VLoan => ¬ a.Sheet = b.Sheet) (xs.filter f) := by
    have h3 := hp.filter f
    rw [List.pairwise_iff_getElem] at h3 ⊢
    intro i j hi hj hij
    exact h3 i j hi hj hij (List.mem_filter.1 (List.getElem_mem hi)).2 (List.mem_filter.1 (List.getElem_mem hj)).2
  exact List.pairwise_map.2 h2
theorem sheets_sorted {xs : List VLoan} (h : areLo xs = true) {f : VLoan → Bool} {d : Int} (hf : ∀ l ∈ xs, f l = true → openOn d l = true) : (((xs.filter f).map VLoan.Sheet).mergeSort fun x y => decide (x ≤ y)) = sheetsOf f xs := sort_put (sheets_nodup h hf)
/-- Who has the sheet, by the first open one. -/
theorem whoL_none {xs : List VLoan} {s d : Int} (h : ∀ l ∈ xs, (l.Sheet == s && openOn d l) = false) : whoL s d xs = 0 := by
  unfold whoL
  have : ∀ (ys : List VLoan) (z : Int), (∀ l ∈ ys, (l.Sheet == s && openOn d l) = false) → ys.foldl (fun who l => if l.Sheet = s ∧ openOn d l = true then l.Reader else who) z = z := by
    intro ys
    induction ys with
    | nil => intro z _; rfl
    | cons y t ih =>
      intro z hy
      have h1 := hy y (by simp)
      rw [List.foldl_cons, if_neg (by rintro ⟨e1, e2⟩; simp [e1, e2] at h1)]
      exact ih z fun l hl => hy l (List.mem_cons_of_mem _ hl)
  exact this xs 0 h
theorem whoL_some {xs : List VLoan} (ha : areLo xs = true) {s d : Int} {i : Nat} {l : VLoan} (hi : xs[i]? = some l) (hl : (l.Sheet == s && openOn d l) = true) : whoL s d xs = l.Reader := by
  simp at hl
  have hil := (List.getElem?_eq_some_iff.1 hi).1
  have key : ∀ k, i < k → k ≤ xs.length → whoL s d (xs.take k) = l.Reader := by
    intro k
    induction k with
    | zero => intro h; omega
    | succ k ih =>
      intro h1 h2
      obtain ⟨b, hb⟩ : ∃ b, xs[k]? = some b := ⟨xs[k], List.getElem?_eq_getElem _⟩
      rw [take_one hb]
      unfold whoL
      rw [List.foldl_append, List.foldl_cons, List.foldl_nil]
      by_cases e : i = k
      · subst e
        rw [hi] at hb; cases hb
        rw [if_pos hl]
      · have hn : ¬ (b.Sheet = s ∧ openOn d b = true) := by
          rintro ⟨e1, e2⟩
          exact open_one ha (show i < k by omega) hi hb hl.2 e2 (by rw [hl.1, e1])
        rw [if_neg hn]
        exact ih (by omega) (by omega)
  have := key xs.length hil (Nat.le_refl _)
  rwa [List.take_length] at this
end Go.Proofs.YtffbljbgmgifnaaDoor
