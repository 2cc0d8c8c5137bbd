/- When a list is one of sheets, in the program: AreSheets says as the model does. -/
import Derived.Test.YtidaoijpbdljbaaIdx
import Derived.Test.YtidaoijpbdljbaaShBy
import Derived.Test.YtidaoijpbdljbaaShId
namespace Go.Proofs.Ytidaoijpbdljbaa
open Go.RowKit

theorem IsSheetS.take {w : World} {a : Option Addr} {len cap : Nat} {xs : List Sh} (h : IsSheetS w a len cap xs) {k : Nat} (hk : k ≤ len) : IsSheetS w a k cap (xs.take k) := by
  have hl := h.1
  refine ⟨by rw [List.length_take]; omega, by have := h.2.1; omega, h.2.2.1, ?_⟩
  by_cases h0 : k = 0
  · exact .inl h0
  · obtain ⟨b, o, rfl, hb, hat⟩ := h.at (by omega)
    refine .inr ⟨b, o, rfl, hb, fun j s hs => hat j s ?_⟩
    have hj : j < k := by have := (List.getElem?_eq_some_iff.1 hs).1; rw [List.length_take] at this; omega
    rwa [List.getElem?_take_of_lt hj] at hs
theorem sheetId_any (s : Sh) (w : World) : Calls Try.prog 69 #[.agg #[.int .i64 s.id, .int .i64 s.row, .int .i64 s.col, .int .i64 s.scale, .int .i64 s.year]] w fun e w' => e = .returned (.int .i64 s.id) ∧ Below w.heap.size w w' := by
  go_enter Try.func69, Try.ntmps69
  go_wp2
  go_ret
  exact ⟨rfl, bel_alloc1 _ _⟩
/-- Right one by one: valid, in ascending order, not too many. -/
def upSh (xs : List Sh) : Bool := upB Sh.ok Sh.id xs && decide ((xs.length : Int) ≤ 12)
/-- No sheet before it is at its place. -/
def alone (xs : List Sh) (i : Nat) : Prop := ∀ s, xs[i]? = some s → ((xs.take i).any fun t => t.at_ s.row s.col s.scale) = false
theorem okAt_up {xs : List Sh} {i : Nat} {s : Sh} (hs : xs[i]? = some s) : okAt xs i = (upStep Sh.ok Sh.id xs i && !((xs.take i).any fun t => t.at_ s.row s.col s.scale)) := by
  rw [okAt_some hs]
  unfold upStep
  rw [hs]
  cases xs[i - 1]? <;> simp [Bool.and_assoc]
theorem areSh_up_iff {xs : List Sh} : areSh xs = true ↔ upSh xs = true ∧ ∀ i, i < xs.length → alone xs i := by
  rw [areSh_iff]
  unfold upSh
  rw [Bool.and_eq_true, decide_eq_true_eq, upB_iff]
  constructor
  · intro ⟨h1, h2⟩
    refine ⟨⟨fun i hi => ?_, by omega⟩, fun i hi s hs => ?_⟩
    · have h := h2 i hi
      rw [okAt_up (List.getElem?_eq_getElem hi), Bool.and_eq_true] at h
      exact h.1
    · have h := h2 i hi
      rw [okAt_up hs, Bool.and_eq_true] at h
      simpa using h.2
  · intro ⟨⟨h1, h2⟩, h3⟩
    refine ⟨by omega, fun i hi => ?_⟩
    rw [okAt_up (List.getElem?_eq_getElem hi), h1 i hi, h3 i hi _ (List.getElem?_eq_getElem hi)]
    rfl
theorem areSh_no {xs : List Sh} (h : upSh xs = false) : areSh xs = false := by
  rw [← Bool.not_eq_true]
  intro h2
  rw [(areSh_up_iff.1 h2).1] at h
  cases h
theorem areSh_met {xs : List Sh} {i : Nat} (hi : i < xs.length) (h : ¬ alone xs i) : areSh xs = false := by
  rw [← Bool.not_eq_true]
  exact fun h2 => h ((areSh_up_iff.1 h2).2 i hi)
set_option maxHeartbeats 3200000 in
set_option maxRecDepth 100000 in
theorem implAreSheets_any (a : Option Addr) (len cap : Nat) (xs : List Sh) (w : World) (h : IsSheetS w a len cap xs) :
    Calls Try.prog 32 #[.slice a len cap] w fun e w' => e = .returned (.bool (areSh xs)) ∧ Below w.heap.size w w' := by
  have hm := h.2.2.1
  have hcl := h.2.1
  unfold maxLen at hm
  have S := Lib.hid h
  have L := Lib.hid h.1
  clear h
  go_enter Try.func32, Try.ntmps32
  go_wp2_with fail
  refine (bySh_any 28 69 Sh.ok Sh.id 12 a len cap xs _ S.out (enters_fn Try.func28 (by kernel_rfl) (by kernel_rfl)) (enters_fn Try.func69 (by kernel_rfl) (by kernel_rfl)) (fun W s _ => implIsSheet_any s W) (fun W s => sheetId_any s W)).mono ?_
  rintro e w1 ⟨rfl, hb⟩
  have B1 := Lib.hid hb
  have S1 := Lib.hid (S.out.below hb)
  clear hb
  obtain ⟨q, hq⟩ : ∃ q, (upB Sh.ok Sh.id xs && decide ((xs.length : Int) ≤ 12)) = q := ⟨_, rfl⟩
  have Q := Lib.hid (show upSh xs = q from hq)
  rw [hq]
  clear hq
  cases q
  · go_wp2
    go_ret
    exact ⟨ret_bool (areSh_no Q.out).symm, B1.out⟩
  go_wp2
  go_loopw [10] (fun i wr => ∃ k : Nat, k ≤ len ∧ i = .int .i64 k ∧ Below w.heap.size w wr ∧ ∀ j, j < k → alone xs j) (fun i _ => len - (intOf i).toNat)
  case atStart => exact ⟨0, Nat.zero_le _, rfl, B1.out, by omega⟩
  case round =>
    obtain ⟨k, hk, rfl, hbel, hall⟩ := hrel
    have A := Lib.hid hall
    have B := Lib.hid hbel
    clear hall
    by_cases hlt : k < len
    · obtain ⟨s, hs⟩ := list_at L hlt
      obtain ⟨b, o, rfl, hb, hat⟩ := (S.out.below hbel).at (by omega)
      obtain ⟨c0, c1, c2, c3, c4⟩ := hat k s hs
      have K := Lib.hid hs
      have hi0 : (0 : Int) ≤ (k : Int) := by omega
      have hi1 : (k : Int) < (len : Int) := by omega
      have hi2 : (k : Int) ≤ (cap : Int) := by omega
      clear hs hat hbel
      go_wp2
      refine wp_world (fun W => BoxAt W wr.heap.size s ∧ Below wr.heap.size wr W) ⟨boxAt_new _ _ _ _ rfl, bel_alloc1 _ _⟩ ?_
      rintro W ⟨hbox, hbw⟩
      have BW := Lib.hid hbw
      have SW := Lib.hid ((S.out.below B.out).below hbw)
      obtain ⟨e0, e1, e2, e3, e4⟩ := hbox
      have k1 := cell_regrown e1
      have k2 := cell_regrown e2
      have k3 := cell_regrown e3
      obtain ⟨z, hz⟩ : ∃ z, idxAt (xs.take k) s.row s.col s.scale = z := ⟨_, rfl⟩
      have cA := below_at (W := W) (fun W' hb => hz ▸ indexAt_any (some ⟨b, o, none⟩) k cap (xs.take k) s.row s.col s.scale W' ((SW.out.below hb).take (by omega)))
      have ZI := Lib.hid (idxAt_before (xs := xs) (i := k) (s := s))
      rw [hz] at ZI
      clear hz c0 c1 c2 c3 c4 e0 e1 e2 e3 e4 hbw
      by_cases hzn : z < 0
      · have G := Lib.hid (ZI.out.1 hzn)
        refine wp_region_quiet_below (by kernel_rfl) (by kernel_rfl) ?_
        repeat (first | go_big_quiet_step (with_reducible exact cA _ _) | quiet_step (with_reducible exact cA _ _))
        refine wpQuiet_nil ?_
        intro W3 hw3
        have B3 := Lib.hid (Below.then' (Below.then' B.out BW.out) (below_of_re hw3))
        clear hw3 cA k1 k2 k3
        go_wp2
        go_roundw
        case rel => exact ⟨k + 1, by omega, by go_num, B3.out, all_more A.out (fun t ht => by rw [K.out] at ht; cases ht; exact G.out)⟩
        case measure => simp [intOf]; omega
      · have G := Lib.hid (show areSh xs = false from areSh_met (i := k) (by have := L.out; omega) (fun h => hzn (ZI.out.2 (h s K.out))))
        have hzp : 0 ≤ z := by omega
        refine wp_region_quiet_below (by kernel_rfl) (by kernel_rfl) ?_
        repeat (first | go_big_quiet_step (with_reducible exact cA _ _) | quiet_step (with_reducible exact cA _ _))
        refine wpQuiet_nil ?_
        intro W3 hw3
        have B3 := Lib.hid (Below.then' (Below.then' B.out BW.out) (below_of_re hw3))
        clear hw3 cA k1 k2 k3
        go_wp2
        go_ret
        exact ⟨ret_bool G.out.symm, B3.out⟩
    · obtain rfl : k = len := by omega
      have G := Lib.hid (show areSh xs = true from areSh_up_iff.2 ⟨Q.out, fun i hi => A.out i (by have := L.out; omega)⟩)
      clear hbel
      go_wp2
      go_ret
      exact ⟨ret_bool G.out.symm, B.out⟩
end Go.Proofs.Ytidaoijpbdljbaa
