/- The library's sort at a row of at most twelve sheets of the call's own: the same sheets, by row and then by col. -/
import Derived.Test.YtidaoijpbdljbaaCmp
import Derived.Test.YtidaoijpbdljbaaSorts
import Derived.Test.YtidaoijpbdljbaaShelf
import Derived.Test.YtidaoijpbdljbaaShs
namespace Go.Proofs.Ytidaoijpbdljbaa
open Go.RowKit Go.Sort

instance : Inhabited Sh := ⟨⟨0, 0, 0, 0, 0⟩⟩
/-- Row and col come before. -/
def ltRC (a b : Sh) : Prop := a.row < b.row ∨ (a.row = b.row ∧ a.col < b.col)
theorem lt_cmp (a b : Sh) : ltOf cmpRC a b = true ↔ ltRC a b := by
  unfold ltOf cmpRC ltRC Lib.compareInt
  simp only [decide_eq_true_eq]
  split <;> split <;> (try split) <;> (try split) <;> omega
theorem lt_cmp_no (a b : Sh) : ltOf cmpRC a b = false ↔ ¬ ltRC a b := by
  rw [← lt_cmp]; simp
theorem swoRC : SWO (ltOf cmpRC) where
  irrefl x := by rw [lt_cmp_no]; unfold ltRC; omega
  trans x y z h1 h2 := by rw [lt_cmp] at *; unfold ltRC at *; omega
  ntrans x y z h1 h2 := by rw [lt_cmp_no] at *; unfold ltRC at *; omega
/-- In order by row and then by col (equal ones let in). -/
def SortedRC (ys : List Sh) : Prop := ∀ (i j : Nat) s t, i < j → ys[i]? = some s → ys[j]? = some t → ¬ ltRC t s

theorem grownBy_sortWorld {enc : Sh → List Value} {k : Nat} {w : World} {g n : Nat} {d : Array Sh} {os : Array Obj} (_hg : g < w.heap.size) : w.grownBy (sortWorldK enc k w g 0 n d os) (some g) := by
  unfold sortWorldK
  refine ⟨rfl, rfl, rfl, ?_, fun j hj hne => ?_⟩
  · rw [Sort.size_grow, size_putRowK]; exact Nat.le_add_right _ _
  · have hne' : j ≠ g := fun e => hne (by rw [e])
    have h1 : (putRowK enc k (Sort.ahead w n) g 0 d).heap[j]? = w.heap[j]? := by
      unfold putRowK putRow mapBlock
      simp [Array.getElem?_modify, hne'.symm, Sort.ahead]
    have hsz : j < (putRowK enc k (Sort.ahead w n) g 0 d).heap.size := by rw [size_putRowK]; exact hj
    show ((putRowK enc k (Sort.ahead w n) g 0 d).heap ++ os)[j]? = _
    rw [Array.getElem?_append_left hsz, h1]

theorem holds_of_own {w : World} {base n cap g : Nat} {xs : List Sh} (h : w.ownsRow base 35 5 (.slice (some ⟨g, 0, none⟩) n cap) n (shCells xs)) : HoldsK Sh.cells 5 w g 0 xs.toArray := by
  intro j hj
  rw [size_flatK] at hj
  rw [get_flatK _ _ _ _ hj]
  have hj' : j < xs.length * 5 := by simpa using hj
  have hk : j / 5 < xs.length := by omega
  have hs : xs[j / 5]? = some xs[j / 5] := List.getElem?_eq_getElem hk
  have hd : (xs.toArray[j / 5]! : Sh) = xs[j / 5] := by simp [hk]
  rw [hd]
  have hc := shCells_at hs (j % 5) (by omega)
  rw [show j / 5 * 5 + j % 5 = j from by omega] at hc
  have hl : j % 5 < (xs[j / 5]).cells.length := by rw [Sh.cells_len]; omega
  have he : (xs[j / 5]).cells[j % 5]! = (xs[j / 5]).cells[j % 5] := by simp [hl]
  refine ⟨?_, ?_⟩
  · have h2 := h.cells (g := g) rfl j (xs[j / 5]).cells[j % 5] (by rw [hc, List.getElem?_eq_getElem hl])
    rw [add_plain] at h2
    rw [h2, he]; rfl
  · have := h.frozenAt j
    rw [Nat.zero_add]; exact this
theorem isSheetS_holds {w : World} {g cap : Nat} {d : Array Sh} (h : HoldsK Sh.cells 5 w g 0 d) (hc : d.size ≤ cap) (hm : cap ≤ maxLen) (hg : g < w.heap.size) : IsSheetS w (some ⟨g, 0, none⟩) d.size cap d.toList := by
  refine ⟨by simp, hc, hm, .inr ⟨g, 0, rfl, hg, fun k s hs => ?_⟩⟩
  have hk : k < d.size := by simpa using (List.getElem?_eq_some_iff.1 hs).1
  have hd : d[k]! = s := by
    have : d[k]? = some s := by simpa using hs
    simp [Array.getElem!_eq_getD, Array.getD_eq_getD_getElem?, this]
  have each : ∀ j u, j < 5 → s.cells[j]? = some u → w.cell? ⟨g, 0 + k * 5 + j, none⟩ = some u := fun j u hj hu => by
    have h1 := (h (k * 5 + j) (by rw [size_flatK]; omega)).1
    rw [get_flatK _ _ _ _ (by omega), show (k * 5 + j) / 5 = k from by omega, show (k * 5 + j) % 5 = j from by omega, hd] at h1
    rw [Nat.add_assoc, h1]
    have : s.cells[j]! = u := by
      have hl : j < s.cells.length := by rw [Sh.cells_len]; exact hj
      rw [List.getElem?_eq_getElem hl] at hu
      simp at hu
      simp [hl, hu]
    rw [this]; rfl
  exact ⟨each 0 _ (by decide) rfl, each 1 _ (by decide) rfl, each 2 _ (by decide) rfl, each 3 _ (by decide) rfl, each 4 _ (by decide) rfl⟩

def SortPost (g cap : Nat) (xs : List Sh) (w : World) (e : Ending) (w' : World) : Prop :=
  e = .returned (.tuple #[]) ∧ ∃ ys : List Sh, ys.Perm xs ∧ SortedRC ys ∧ IsSheetS w' (some ⟨g, 0, none⟩) xs.length cap ys ∧ w.grownBy w' (some g)
theorem sort_any (base cap g : Nat) (xs : List Sh) (w : World) (h : w.ownsRow base 35 5 (.slice (some ⟨g, 0, none⟩) xs.length cap) xs.length (shCells xs)) (h12 : xs.length ≤ 12) :
    Calls Try.prog 93 #[.slice (some ⟨g, 0, none⟩) xs.length cap, .func (.func 94) #[] #[]] w (SortPost g cap xs w) := by
  have hlt := (h.lt g rfl).2
  obtain ⟨hcap, hmx⟩ : xs.length ≤ cap ∧ cap ≤ maxLen := by
    rcases h.2 with ⟨e, _⟩ | ⟨g', cap', cur, e, _, _, h1, h2, _⟩
    · cases e
    · cases e; exact ⟨h1, h2⟩
  have hcmp : CmpLays Try.prog 94 #[] Sh.cells 5 cmpRC g 0 xs.toArray.size w := fun m os dk _ x y => by
    have := cmpRC_any x y (sortWorldK Sh.cells 5 w g 0 m dk os)
    simpa [Sh.cells] using this
  have hlen : ∀ (n : Nat) (W : World), n ≤ 12 → Calls Try.prog 103 #[.int .u64 n] W fun e w' => (∃ l : Int, e = .returned (.int .i64 l)) ∧ w' = W := fun n W hn =>
    (Try.bits_Len n W (by omega) (by omega)).mono fun _ _ ⟨he, hw⟩ => ⟨⟨_, he⟩, hw⟩
  have hcon := AnyQ.slices_SortFunc_small_sorted Try.sortSh 5 Try.isAgg35 Try.sizeOf35 Sh.cells (fun _ => rfl) (fun x v hv => by simp [Sh.cells] at hv; rcases hv with rfl | rfl | rfl | rfl | rfl <;> rfl) cmpRC 94 #[] swoRC g 0 cap xs.toArray w
    (call_of Try.func94 (by kernel_rfl) (by kernel_rfl)) hcmp (holds_of_own h) hlt (by simpa using h12) hlen
  change Calls Try.prog 93 _ _ _ at hcon
  simp only [List.size_toArray] at hcon
  refine hcon.mono ?_
  rintro e w' ⟨rfl, d', n, os, ⟨hsz, _, hperm⟩, hsort, rfl⟩
  simp only [List.size_toArray] at hsz
  refine ⟨rfl, d'.toList, ?_, ?_, ?_, grownBy_sortWorld hlt⟩
  · have h1 := hperm
    simp [← hsz] at h1
    rw [show List.take d'.size xs = xs from List.take_of_length_le (by omega)] at h1
    exact h1
  · intro i j s t hij hs ht
    have hj : j < d'.size := by simpa using (List.getElem?_eq_some_iff.1 ht).1
    have h1 := hsort i j (Nat.zero_le _) hij (by omega)
    have es : d'[i]! = s := by
      have : d'[i]? = some s := by simpa using hs
      simp [Array.getElem!_eq_getD, Array.getD_eq_getD_getElem?, this]
    have et : d'[j]! = t := by
      have : d'[j]? = some t := by simpa using ht
      simp [Array.getElem!_eq_getD, Array.getD_eq_getD_getElem?, this]
    rw [es, et] at h1
    exact (lt_cmp_no _ _).1 h1
  · rw [← hsz]
    exact isSheetS_holds (holdsK_sortWorldK_c Sh.cells 5 w g 0 xs.toArray d' n os (holds_of_own h) hlt (by simpa using hsz)) (by omega) hmx (Nat.lt_of_lt_of_le hlt (grownBy_sortWorld hlt).size)

/-- The sort at nothing. -/
theorem insertion_none (fv : Value) (w : World) :
    Calls Try.prog 105 #[.slice none 0 0, .int .i64 0, .int .i64 0, fv] w fun e w' => e = .returned (.tuple #[]) ∧ w = w' := by
  go_enter Try.func105, Try.ntmps105
  go_wp2
  refine wp_loop_rounds 1 ?_
  rw [rounds_succ]
  go_wp2
  go_end0
  exact ⟨rfl, rfl⟩
theorem pdq_none (l : Int) (fv : Value) (w : World) :
    Calls Try.prog 102 #[.slice none 0 0, .int .i64 0, .int .i64 0, .int .i64 l, fv] w fun e w' => e = .returned (.tuple #[]) ∧ w = w' := by
  go_enter Try.func102, Try.ntmps102
  go_wp2
  refine wp_loop_rounds 1 ?_
  rw [rounds_succ]
  go_wp2_with (go_at_call 105; refine (insertion_none _ _).mono ?_; rintro e w' ⟨rfl, rfl⟩)
  (try simp only [Exit.inBlock, Exit.then]); refine bodyPost_ret (results_none rfl _ _ _) rfl ?_
  exact ⟨rfl, rfl⟩
theorem sort_none (fv : Value) (w : World) :
    Calls Try.prog 93 #[.slice none 0 0, fv] w fun e w' => e = .returned (.tuple #[]) ∧ w = w' := by
  have hl : ∀ W, Calls Try.prog 103 #[.int .u64 0] W fun e w' => (∃ l : Int, e = .returned (.int .i64 l)) ∧ W = w' := fun W =>
    (Try.bits_Len 0 W (by omega) (by omega)).mono fun _ _ ⟨he, hw⟩ => ⟨⟨_, he⟩, hw.symm⟩
  have L := Lib.hid hl
  clear hl
  go_enter Try.func93, Try.ntmps93
  go_wp2_with fail
  refine (L.out _).mono ?_
  rintro e w' ⟨⟨l, rfl⟩, rfl⟩
  go_wp2_with fail
  refine (pdq_none _ _ _).mono ?_
  rintro e w' ⟨rfl, rfl⟩
  go_wp2
  go_end0
  exact ⟨rfl, rfl⟩
end Go.Proofs.Ytidaoijpbdljbaa
