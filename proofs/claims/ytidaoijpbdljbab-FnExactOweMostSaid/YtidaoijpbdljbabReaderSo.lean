/- The library's sort at a row of at most twelve of the call's own: Reader. (made by gensort.py) -/
import Derived.Test.YtidaoijpbdljbabReaderL
import Derived.Test.YtidaoijpbdljbabSorts
import Derived.Test.YtidaoijpbdljbabShelf
import Derived.Test.YtidaoijpbdljbabOrd
namespace Go.Proofs.Ytidaoijpbdljbab
open Go.RowKit Go.Sort

instance : Inhabited VReader := ⟨⟨0, ByteArray.empty, 0, 0, 0⟩⟩
theorem grownBy_sortReader {enc : VReader → List Value} {k : Nat} {w : World} {g n : Nat} {d : Array VReader} {os : Array Obj} (_hg : g < w.heap.size) : w.grownBy (sortWorldK enc k w g 0 n d os) (some g) := by
  unfold sortWorldK
  refine ⟨rfl, rfl, rfl, ?_, fun j hj hne => ?_⟩
  · rw [Sort.size_grow, size_putRowK]; exact Nat.le_add_right _ _
  · have hne' : j ≠ g := fun e => hne (by rw [e])
    have h1 : (putRowK enc k (Sort.ahead w n) g 0 d).heap[j]? = w.heap[j]? := by
      unfold putRowK putRow mapBlock
      simp [Array.getElem?_modify, hne'.symm, Sort.ahead]
    have hsz : j < (putRowK enc k (Sort.ahead w n) g 0 d).heap.size := by rw [size_putRowK]; exact hj
    show ((putRowK enc k (Sort.ahead w n) g 0 d).heap ++ os)[j]? = _
    rw [Array.getElem?_append_left hsz, h1]
theorem holds_ownReader {w : World} {base n cap g : Nat} {xs : List VReader} (h : w.ownsRow base 81 5 (.slice (some ⟨g, 0, none⟩) n cap) n (cellsReader xs)) : HoldsK VReader.vals 5 w g 0 xs.toArray := by
  intro j hj
  rw [size_flatK] at hj
  rw [get_flatK _ _ _ _ hj]
  have hj' : j < xs.length * 5 := by simpa using hj
  have hk : j / 5 < xs.length := by omega
  have hs : xs[j / 5]? = some xs[j / 5] := List.getElem?_eq_getElem hk
  have hd : (xs.toArray[j / 5]! : VReader) = xs[j / 5] := by simp [hk]
  rw [hd]
  have hc := cellsReader_at hs (j % 5) (by omega)
  rw [show j / 5 * 5 + j % 5 = j from by omega] at hc
  have hl : j % 5 < (xs[j / 5]).vals.length := by rw [VReader.vals_len]; omega
  have he : (xs[j / 5]).vals[j % 5]! = (xs[j / 5]).vals[j % 5] := by simp [hl]
  refine ⟨?_, ?_⟩
  · have h2 := h.cells (g := g) rfl j (xs[j / 5]).vals[j % 5] (by rw [hc, List.getElem?_eq_getElem hl])
    rw [add_plain] at h2
    rw [h2, he]; rfl
  · have := h.frozenAt j
    rw [Nat.zero_add]; exact this
theorem isReaderS_holds {w : World} {g cap : Nat} {d : Array VReader} (h : HoldsK VReader.vals 5 w g 0 d) (hc : d.size ≤ cap) (hm : cap ≤ maxLen) (hg : g < w.heap.size) (hsm : ∀ s ∈ d.toList, s.small) : IsReaderS w (some ⟨g, 0, none⟩) d.size cap d.toList := by
  refine ⟨by simp, hc, hm, .inr ⟨g, 0, rfl, hg, fun k s hs => ?_⟩⟩
  have hk : k < d.size := by simpa using (List.getElem?_eq_some_iff.1 hs).1
  have hd : d[k]! = s := by
    have : d[k]? = some s := by simpa using hs
    simp [Array.getElem!_eq_getD, Array.getD_eq_getD_getElem?, this]
  have each : ∀ j u, j < 5 → s.vals[j]? = some u → w.cell? ⟨g, 0 + k * 5 + j, none⟩ = some u := fun j u hj hu => by
    have h1 := (h (k * 5 + j) (by rw [size_flatK]; omega)).1
    rw [get_flatK _ _ _ _ (by omega), show (k * 5 + j) / 5 = k from by omega, show (k * 5 + j) % 5 = j from by omega, hd] at h1
    rw [Nat.add_assoc, h1]
    have : s.vals[j]! = u := by
      have hl : j < s.vals.length := by rw [VReader.vals_len]; exact hj
      rw [List.getElem?_eq_getElem hl] at hu
      simp at hu
      simp [hl, hu]
    rw [this]; rfl
  exact ⟨each 0 _ (by decide) rfl, each 1 _ (by decide) rfl, each 2 _ (by decide) rfl, each 3 _ (by decide) rfl, each 4 _ (by decide) rfl, hsm s (List.mem_of_getElem? hs)⟩
/-- The row is in order, as the order handed in tells it. -/
def SortReaderPost (cmp : VReader → VReader → Int) (g cap : Nat) (xs : List VReader) (w : World) (e : Ending) (w' : World) : Prop :=
  e = .returned (.tuple #[]) ∧ ∃ ys : List VReader, ys.Perm xs ∧ (∀ (i j : Nat) s t, i < j → ys[i]? = some s → ys[j]? = some t → ltOf cmp t s = false) ∧ IsReaderS w' (some ⟨g, 0, none⟩) xs.length cap ys ∧ w.grownBy w' (some g)
theorem sortReader_any (K : FuncId) (cmp : VReader → VReader → Int) (swo : SWO (ltOf cmp)) (hcall : ∀ args W, (callFunc K args).run Try.prog W = .ok (.enter K args) W)
    (hcmp : ∀ (a b : VReader) (W : World), Calls Try.prog K #[.agg #[.int .i64 a.Id, .string a.Name, .int .i64 a.Joined, .int .i64 a.Class, .int .i64 a.Fines], .agg #[.int .i64 b.Id, .string b.Name, .int .i64 b.Joined, .int .i64 b.Class, .int .i64 b.Fines]] W fun e w' => e = .returned (.int .i64 (cmp a b)) ∧ ∃ q os, w' = Sort.grow (W.drewN q) os)
    (base cap g : Nat) (xs : List VReader) (w : World) (h : w.ownsRow base 81 5 (.slice (some ⟨g, 0, none⟩) xs.length cap) xs.length (cellsReader xs)) (h12 : xs.length ≤ 12) (hsm : ∀ s ∈ xs, s.small) :
    Calls Try.prog 76 #[.slice (some ⟨g, 0, none⟩) xs.length cap, .func (.func K) #[] #[]] w (SortReaderPost cmp g cap xs w) := by
  have hlt := (h.lt g rfl).2
  obtain ⟨hcap, hmx⟩ : xs.length ≤ cap ∧ cap ≤ maxLen := by
    rcases h.2 with ⟨e, _⟩ | ⟨g', cap', cur, e, _, _, h1, h2, _⟩
    · cases e
    · cases e; exact ⟨h1, h2⟩
  have hcmp2 : CmpLays Try.prog K #[] VReader.vals 5 cmp g 0 xs.toArray.size w := fun m os dk _ x y => by
    have := hcmp x y (sortWorldK VReader.vals 5 w g 0 m dk os)
    simpa [VReader.vals] using this
  have hlen : ∀ (n : Nat) (W : World), n ≤ 12 → Calls Try.prog 121 #[.int .u64 n] W fun e w' => (∃ l : Int, e = .returned (.int .i64 l)) ∧ w' = W := fun n W hn =>
    (Try.bits_Len n W (by omega) (by omega)).mono fun _ _ ⟨he, hw⟩ => ⟨⟨_, he⟩, hw⟩
  have hcon := AnyQ.slices_SortFunc_small_sorted Try.sortReader 5 Try.isAgg81 Try.sizeOf81 VReader.vals (fun _ => rfl) (fun x v hv => by simp [VReader.vals] at hv; rcases hv with rfl | rfl | rfl | rfl | rfl <;> rfl) cmp K #[] swo g 0 cap xs.toArray w
    hcall hcmp2 (holds_ownReader h) hlt (by simpa using h12) hlen
  change Calls Try.prog 76 _ _ _ at hcon
  simp only [List.size_toArray] at hcon
  refine hcon.mono ?_
  rintro e w' ⟨rfl, d', n, os, ⟨hsz, _, hperm⟩, hsort, rfl⟩
  simp only [List.size_toArray] at hsz
  have hpm : d'.toList.Perm xs := by
    have h1 := hperm
    simp [← hsz] at h1
    rw [show List.take d'.size xs = xs from List.take_of_length_le (by omega)] at h1
    exact h1
  refine ⟨rfl, d'.toList, hpm, ?_, ?_, grownBy_sortReader hlt⟩
  · intro i j s t hij hs ht
    have hj : j < d'.size := by simpa using (List.getElem?_eq_some_iff.1 ht).1
    have h1 := hsort i j (Nat.zero_le _) hij (by omega)
    have es : d'[i]! = s := by
      have : d'[i]? = some s := by simpa using hs
      simp [Array.getElem!_eq_getD, Array.getD_eq_getD_getElem?, this]
    have et : d'[j]! = t := by
      have : d'[j]? = some t := by simpa using ht
      simp [Array.getElem!_eq_getD, Array.getD_eq_getD_getElem?, this]
    rw [es, et] at h1
    exact h1
  · rw [← hsz]
    exact isReaderS_holds (holdsK_sortWorldK_c VReader.vals 5 w g 0 xs.toArray d' n os (holds_ownReader h) hlt (by simpa using hsz)) (by omega) hmx (Nat.lt_of_lt_of_le hlt (grownBy_sortReader hlt).size) (fun s hs => hsm s (hpm.mem_iff.1 hs))

/-- The sort at nothing. -/
theorem insNoneReader (fv : Value) (w : World) :
    Calls Try.prog 142 #[.slice none 0 0, .int .i64 0, .int .i64 0, fv] w fun e w' => e = .returned (.tuple #[]) ∧ w = w' := by
  go_enter Try.func142, Try.ntmps142
  go_wp2
  refine wp_loop_rounds 1 ?_
  rw [rounds_succ]
  go_wp2
  go_end0
  exact ⟨rfl, rfl⟩
theorem pdqNoneReader (l : Int) (fv : Value) (w : World) :
    Calls Try.prog 120 #[.slice none 0 0, .int .i64 0, .int .i64 0, .int .i64 l, fv] w fun e w' => e = .returned (.tuple #[]) ∧ w = w' := by
  go_enter Try.func120, Try.ntmps120
  go_wp2
  refine wp_loop_rounds 1 ?_
  rw [rounds_succ]
  go_wp2_with (go_at_call 142; refine (insNoneReader _ _).mono ?_; rintro e w' ⟨rfl, rfl⟩)
  (try simp only [Exit.inBlock, Exit.then]); refine bodyPost_ret (results_none rfl _ _ _) rfl ?_
  exact ⟨rfl, rfl⟩
theorem sortNoneReader (fv : Value) (w : World) :
    Calls Try.prog 76 #[.slice none 0 0, fv] w fun e w' => e = .returned (.tuple #[]) ∧ w = w' := by
  have hl : ∀ W, Calls Try.prog 121 #[.int .u64 0] W fun e w' => (∃ l : Int, e = .returned (.int .i64 l)) ∧ W = w' := fun W =>
    (Try.bits_Len 0 W (by omega) (by omega)).mono fun _ _ ⟨he, hw⟩ => ⟨⟨_, he⟩, hw.symm⟩
  have L := Lib.hid hl
  clear hl
  go_enter Try.func76, Try.ntmps76
  go_wp2_with fail
  refine (L.out _).mono ?_
  rintro e w' ⟨⟨l, rfl⟩, rfl⟩
  go_wp2_with fail
  refine (pdqNoneReader _ _ _).mono ?_
  rintro e w' ⟨rfl, rfl⟩
  go_wp2
  go_end0
  exact ⟨rfl, rfl⟩
end Go.Proofs.Ytidaoijpbdljbab
