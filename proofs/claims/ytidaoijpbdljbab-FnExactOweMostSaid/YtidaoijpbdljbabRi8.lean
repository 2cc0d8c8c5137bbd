/- Readers in the program: who owes most. -/
import Derived.Test.YtidaoijpbdljbabRi7
import Derived.Test.YtidaoijpbdljbabRd10
import Derived.Test.YtidaoijpbdljbabReaderSo
namespace Go.Proofs.Ytidaoijpbdljbab
open Go.RowKit Go.Sort

def oweCmp (a b : VReader) : Int := if Lib.compareInt b.Fines a.Fines = 0 then Lib.compareInt a.Id b.Id else Lib.compareInt b.Fines a.Fines
theorem lt_owe (a b : VReader) : ltOf oweCmp a b = true ↔ oweB a b := by
  unfold ltOf oweCmp oweB Lib.compareInt
  simp only [decide_eq_true_eq]
  split <;> split <;> (try split) <;> (try split) <;> omega
theorem lt_owe_no (a b : VReader) : ltOf oweCmp a b = false ↔ ¬ oweB a b := by
  rw [← lt_owe]; simp
theorem swoOwe : SWO (ltOf oweCmp) where
  irrefl x := by rw [lt_owe_no]; unfold oweB; omega
  trans x y z h1 h2 := by rw [lt_owe] at *; unfold oweB at *; omega
  ntrans x y z h1 h2 := by rw [lt_owe_no] at *; unfold oweB at *; omega
theorem areRd_ids {xs : List VReader} (h : areRd xs = true) : xs.Pairwise fun a b => a.Id ≠ b.Id := by
  have h1 : upB VReader.ok VReader.Id xs = true := by unfold areRd rdUp at h; simp only [Bool.and_eq_true] at h; exact h.1
  refine List.pairwise_iff_getElem.2 fun i j hi hj hij => ?_
  have := upB_lt h1 j i _ _ hij (List.getElem?_eq_getElem hi) (List.getElem?_eq_getElem hj)
  omega
theorem owe_sorted {xs ys : List VReader} (h : areRd xs = true) (hp : ys.Perm xs) (hs : ∀ (i j : Nat) s t, i < j → ys[i]? = some s → ys[j]? = some t → ltOf oweCmp t s = false) : ys = oweAll xs := by
  refine OweIs.all ⟨hp, ?_⟩
  have hid : ys.Pairwise fun a b => a.Id ≠ b.Id := (hp.pairwise_iff (fun h e => h e.symm)).2 (areRd_ids h)
  refine List.pairwise_iff_getElem.2 fun i j hi hj hij => ?_
  have h1 := hs i j _ _ hij (List.getElem?_eq_getElem hi) (List.getElem?_eq_getElem hj)
  have h2 := List.pairwise_iff_getElem.1 hid i j hi hj hij
  rw [lt_owe_no] at h1
  unfold oweB at *
  omega
set_option maxHeartbeats 1600000 in
set_option maxRecDepth 100000 in
theorem oweCmp_any (a b : VReader) (w : World) :
    Calls Try.prog 77 #[.agg #[.int .i64 a.Id, .string a.Name, .int .i64 a.Joined, .int .i64 a.Class, .int .i64 a.Fines], .agg #[.int .i64 b.Id, .string b.Name, .int .i64 b.Joined, .int .i64 b.Class, .int .i64 b.Fines]] w
      fun e w' => e = .returned (.int .i64 (oweCmp a b)) ∧ ∃ q os, w' = Sort.grow (w.drewN q) os := by
  have X1 := Lib.hid ((BoxReader.new w 81 a _ rfl).below (bel_al1 _ (.cells #[.int .i64 b.Id, .string b.Name, .int .i64 b.Joined, .int .i64 b.Class, .int .i64 b.Fines] 81)))
  have X2 := Lib.hid (BoxReader.new (w.alloc (.cells #[.int .i64 a.Id, .string a.Name, .int .i64 a.Joined, .int .i64 a.Class, .int .i64 a.Fines] 81)) 81 b (w.heap.size + 1) (size_al _ _))
  obtain ⟨x, hx⟩ : ∃ x, Lib.compareInt b.Fines a.Fines = x := ⟨_, rfl⟩
  obtain ⟨y, hy⟩ : ∃ y, Lib.compareInt a.Id b.Id = y := ⟨_, rfl⟩
  have k1 : ∀ W, Calls Try.prog 79 #[.int .i64 b.Fines, .int .i64 a.Fines] W fun e w' => e = .returned (.int .i64 x) ∧ w' = W := fun W => by rw [← hx]; exact (compare_any _ _ W).mono fun _ _ ⟨h1, h2⟩ => ⟨h1, h2.symm⟩
  have k2 : ∀ W, Calls Try.prog 79 #[.int .i64 a.Id, .int .i64 b.Id] W fun e w' => e = .returned (.int .i64 y) ∧ w' = W := fun W => by rw [← hy]; exact (compare_any _ _ W).mono fun _ _ ⟨h1, h2⟩ => ⟨h1, h2.symm⟩
  obtain ⟨z, hz⟩ : ∃ z, (if x = 0 then y else x) = z := ⟨_, rfl⟩
  have E := Lib.hid (show oweCmp a b = z by unfold oweCmp; rw [hx, hy]; exact hz)
  have K3 : Hid (∀ (W : World) (c : Nat), W.cell? ⟨c, 0, none⟩ = some (.int .i64 x) → W.cell? ⟨c, 1, none⟩ = some (.int .i64 y) → Calls Try.prog 78 #[.slice (some ⟨c, 0, none⟩) 2 2] W fun e w' => e = .returned (.int .i64 z) ∧ W = w') := Lib.hid (fun W c h0 h1 => by rw [← hz]; exact or_any c 2 x y W h0 h1)
  have K1 := Lib.hid k1
  have K2 := Lib.hid k2
  clear hx hy k1 k2 hz
  go_enter Try.func77, Try.ntmps77
  go_wp2
  refine wp_world (fun W => (∃ os, W = Sort.grow w os) ∧ BoxReader W w.heap.size a ∧ BoxReader W (w.heap.size + 1) b) ⟨grown2 _ _ _, X1.out, X2.out⟩ ?_
  rintro W ⟨hw, ⟨c0, _, _, _, c4⟩, ⟨d0, _, _, _, d4⟩⟩
  have HW := Lib.hid hw
  clear hw
  have c0' : ({ W with drawn := W.drawn + 1 } : World).cell? ⟨w.heap.size, 0, none⟩ = some (.int .i64 a.Id) := c0
  have c4' : ({ W with drawn := W.drawn + 1 } : World).cell? ⟨w.heap.size, 4, none⟩ = some (.int .i64 a.Fines) := c4
  have d0' : ({ W with drawn := W.drawn + 1 } : World).cell? ⟨w.heap.size + 1, 0, none⟩ = some (.int .i64 b.Id) := d0
  have d4' : ({ W with drawn := W.drawn + 1 } : World).cell? ⟨w.heap.size + 1, 4, none⟩ = some (.int .i64 b.Fines) := d4
  refine wp_region_still_tail 10 (by kernel_rfl) (by kernel_rfl) ?_
  simp only [List.take_succ_cons, List.take_zero, List.drop_succ_cons, List.drop_zero]
  repeat still_step
  still_call (K1.out _)
  repeat still_step
  still_call (K2.out _)
  refine wpStill_nil ?_
  change wpList _ _ _ _ _ W.drew
  go_wp2_with fail
  refine (K3.out (W.alloc (.cells #[.int .i64 x, .int .i64 y] 3)).drew W.heap.size (lit2 W x y 3 _ rfl 0 x rfl) (lit2 W x y 3 _ rfl 1 y rfl)).mono ?_
  rintro e w' ⟨rfl, rfl⟩
  go_wp2
  go_ret
  refine ⟨ret_int E.out.symm, ?_⟩
  obtain ⟨os, rfl⟩ := HW.out
  exact ⟨1, os ++ #[.cells #[.int .i64 x, .int .i64 y] 3], by rw [Sort.alloc_eq_grow, Sort.grow_grow]; rfl⟩
theorem IsReaderS.take {w : World} {a : Option Addr} {len cap : Nat} {xs : List VReader} (h : IsReaderS w a len cap xs) {k : Nat} (hk : k ≤ len) : IsReaderS w a k cap (xs.take k) := by
  refine ⟨by rw [List.length_take, ← h.1]; omega, by have := h.2.1; omega, h.2.2.1, ?_⟩
  rcases h.2.2.2 with h0 | ⟨b, o, rfl, h1, h2⟩
  · exact .inl (by omega)
  · refine .inr ⟨b, o, rfl, h1, fun j s hs => h2 j s ?_⟩
    rw [List.getElem?_take] at hs
    split at hs
    · exact hs
    · cases hs
def SortOwe (v : Value) (xs : List VReader) (w : World) (e : Ending) (w' : World) : Prop :=
  e = .returned (.tuple #[]) ∧ (∀ a c, v = .slice a xs.length c → IsReaderS w' a xs.length c (oweAll xs)) ∧ w.grownBy w' v.ownBlock
theorem sortOwe_any (base : Nat) (v : Value) (xs : List VReader) (w : World) (h : w.ownsRow base 81 5 v xs.length (cellsReader xs)) (ha : areRd xs = true) :
    Calls Try.prog 76 #[v, .func (.func 77) #[] #[]] w (SortOwe v xs w) := by
  rcases h.2 with ⟨rfl, h0⟩ | ⟨g, cap, cur, rfl, _⟩
  · obtain rfl : xs = [] := List.length_eq_zero_iff.1 h0
    refine (sortNoneReader _ _).mono ?_
    rintro e w' ⟨rfl, rfl⟩
    refine ⟨rfl, fun a c e => ?_, World.grownBy.refl _ _⟩
    cases e
    exact ⟨by rw [oweAll_len], by simp, by simp [maxLen], .inl rfl⟩
  · refine (sortReader_any 77 oweCmp swoOwe (callf_ofReader Try.func77 (by kernel_rfl) (by kernel_rfl)) oweCmp_any base cap g xs w h (by have := areRd_len ha; omega) (rd_sized_small (areRd_sized ha))).mono ?_
    rintro e w' ⟨rfl, ys, hp, hs, his, hg⟩
    refine ⟨rfl, fun a c e => ?_, hg⟩
    cases e
    rw [← owe_sorted ha hp hs]
    exact his
end Go.Proofs.Ytidaoijpbdljbab
