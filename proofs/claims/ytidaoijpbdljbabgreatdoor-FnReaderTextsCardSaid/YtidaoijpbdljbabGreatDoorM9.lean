/- Texts in one: Rs2, Rd10. -/
import Derived.Test.YtidaoijpbdljbabGreatDoorRs
import Derived.Test.YtidaoijpbdljbabGreatDoorM5
namespace Go.Proofs.YtidaoijpbdljbabGreatDoor.fnExactParseReader
open Go.RowKit Go.Proofs.YtidaoijpbdljbabGreatDoor

theorem specParseReader_any (s : ByteArray) (w : World) (hs : s.size ≤ 1048576) : Calls Tryz.prog 11 #[.string s] w (ParseReader_Post s w) := Go.Proofs.YtidaoijpbdljbabGreatDoor.specParseReader_any s w hs
theorem implParseReader_any (s : ByteArray) (w : World) (hs : s.size ≤ 1048576) (h : TabPow w ∧ ∃ x : Int, w.cell? ⟨1, 0, none⟩ = some (.int .i64 x)) : Calls Tryz.prog 9 #[.string s] w (ParseReader_Post s w) := by
  obtain ⟨ht, x, hx⟩ := h
  exact Go.Proofs.YtidaoijpbdljbabGreatDoor.implParseReader_any s x w hs ht hx
end Go.Proofs.YtidaoijpbdljbabGreatDoor.fnExactParseReader
namespace Go.Proofs.YtidaoijpbdljbabGreatDoor
open Go.RowKit

def oweB (a b : VReader) : Prop := b.Fines < a.Fines ∨ (a.Fines = b.Fines ∧ a.Id < b.Id)
def oweLe (a b : VReader) : Bool := decide (b.Fines < a.Fines) || (a.Fines == b.Fines && decide (a.Id ≤ b.Id))
theorem oweLe_iff {a b : VReader} : oweLe a b = true ↔ b.Fines < a.Fines ∨ (a.Fines = b.Fines ∧ a.Id ≤ b.Id) := by simp [oweLe]
/-- The readers in the order of what they owe. -/
def oweAll (xs : List VReader) : List VReader := xs.mergeSort oweLe
/-- The list L holds the readers xs in the order of what they owe. -/
def OweIs (xs L : List VReader) : Prop := L.Perm xs ∧ L.Pairwise oweB
theorem OweIs.nil : OweIs [] [] := ⟨List.Perm.refl _, List.Pairwise.nil⟩
theorem owe_unique {L M : List VReader} (hp : L.Perm M) (hL : L.Pairwise oweB) (hM : M.Pairwise fun a b => oweLe a b = true) : L = M := by
  refine hp.eq_of_pairwise (le := fun a b => oweLe a b = true) ?_ (hL.imp ?_) hM
  · intro a b ha hb h1 h2
    rw [oweLe_iff] at h1 h2
    have hf : a.Fines = b.Fines := by omega
    have hi : a.Id = b.Id := by omega
    have hb' : b ∈ L := hp.mem_iff.2 hb
    refine Classical.byContradiction fun hne => ?_
    rcases List.getElem_of_mem ha with ⟨i, hi', ei⟩
    rcases List.getElem_of_mem hb' with ⟨j, hj', ej⟩
    have hij : i ≠ j := fun e => hne (by subst e; rw [← ei, ← ej])
    rcases Nat.lt_or_gt_of_ne hij with h | h
    · have := List.pairwise_iff_getElem.1 hL i j hi' hj' h
      rw [ei, ej] at this; unfold oweB at this; omega
    · have := List.pairwise_iff_getElem.1 hL j i hj' hi' h
      rw [ei, ej] at this; unfold oweB at this; omega
  · intro a b h
    rw [oweLe_iff]; unfold oweB at h; omega
theorem OweIs.all {xs L : List VReader} (h : OweIs xs L) : L = oweAll xs :=
  owe_unique (h.1.trans (List.mergeSort_perm xs oweLe).symm) h.2 (List.pairwise_mergeSort
    (fun a b c h1 h2 => by rw [oweLe_iff] at *; omega) (fun a b => by
      by_cases h : oweLe a b = true
      · rw [h]; rfl
      · have : oweLe b a = true := by rw [oweLe_iff] at *; omega
        rw [this, Bool.or_true]) xs)
theorem oweAll_perm (xs : List VReader) : (oweAll xs).Perm xs := List.mergeSort_perm xs oweLe
theorem oweAll_len (xs : List VReader) : (oweAll xs).length = xs.length := (oweAll_perm xs).length_eq
/-- One more reader, laid behind all who owe no less and ahead of all who owe less. -/
theorem OweIs.put {xs L : List VReader} {s : VReader} {k : Nat} (h : OweIs xs L) (hid : ∀ t ∈ xs, t.Id < s.Id) (hk : k ≤ L.length)
    (hlo : ∀ j t, k ≤ j → L[j]? = some t → t.Fines < s.Fines) (hhi : k = 0 ∨ ∃ t, L[k - 1]? = some t ∧ s.Fines ≤ t.Fines) : OweIs (xs ++ [s]) (L.take k ++ s :: L.drop k) := by
  refine ⟨?_, ?_⟩
  · refine (List.perm_middle).trans ?_
    rw [List.take_append_drop]
    exact (List.Perm.cons s h.1).trans (List.perm_append_comm (l₁ := [s]) (l₂ := xs))
  · have hL := h.2
    have hcut := hL
    rw [← List.take_append_drop k L] at hcut
    obtain ⟨p1, p2, p3⟩ := List.pairwise_append.1 hcut
    refine List.pairwise_append.2 ⟨p1, List.pairwise_cons.2 ⟨fun t ht => ?_, p2⟩, fun a ha b hb => ?_⟩
    · obtain ⟨j, hj⟩ := List.mem_iff_getElem?.1 ht
      rw [List.getElem?_drop] at hj
      exact .inl (hlo (k + j) t (by omega) hj)
    · rcases List.mem_cons.1 hb with rfl | hb
      · have hai : a.Id < b.Id := hid a (h.1.mem_iff.1 (List.mem_of_mem_take ha))
        obtain ⟨i, hi⟩ := List.mem_iff_getElem?.1 ha
        rw [List.getElem?_take] at hi
        split at hi
        · rename_i hik
          rcases hhi with rfl | ⟨t, ht, hst⟩
          · omega
          · have hfa : b.Fines ≤ a.Fines := by
              obtain ⟨hi', ei⟩ := List.getElem?_eq_some_iff.1 hi
              obtain ⟨ht', et⟩ := List.getElem?_eq_some_iff.1 ht
              by_cases e : i = k - 1
              · subst e; rw [ei] at et; subst et; exact hst
              · have := List.pairwise_iff_getElem.1 hL i (k - 1) hi' ht' (by omega)
                rw [ei, et] at this; unfold oweB at this; omega
            unfold oweB; omega
        · cases hi
      · exact p3 a ha b hb
def nB (n : Int) : Bool := inB n 0 10
def OweMost_0 (xs : List VReader) (n : Int) : List Int := if (areRd xs && nB n) = true then ((oweAll xs).take n.toNat).map VReader.Id else []
def OweMost_1 (xs : List VReader) (n : Int) : Bool := areRd xs && nB n
theorem OweMost_0_len (xs : List VReader) (n : Int) (_ : xs.length ≤ 1048576) (_ : ∀ s ∈ xs, s.sized) : (OweMost_0 xs n).length ≤ 1000000 := by
  unfold OweMost_0
  split
  · rename_i h
    have h1 := areRd_len (by simp at h; exact h.1)
    rw [List.length_map, List.length_take, oweAll_len]; omega
  · simp
def OweMost_Post (z0 : List VReader) (z1 : Int) (w : World) (e : Ending) (w' : World) : Prop :=
  ∃ v0 : Value, e = .returned (.tuple #[v0, .bool (OweMost_1 z0 z1)]) ∧ w'.ownsRow w.heap.size 3 1 v0 (OweMost_0 z0 z1).length (intCells (OweMost_0 z0 z1)) ∧ Below w.heap.size w w'
end Go.Proofs.YtidaoijpbdljbabGreatDoor
