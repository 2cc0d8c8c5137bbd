/- Texts in one: RdTm, Cur, Draw0, DrawB. -/
import Derived.Test.YtidaoijpbdljbabGreatDoorM6
import Derived.Test.YtidaoijpbdljbabGreatDoorM9
import Derived.Test.YtidaoijpbdljbabGreatDoorM7
import Derived.Test.YtidaoijpbdljbabGreatDoorRd11
import Derived.Test.YtidaoijpbdljbabGreatDoorM1
import Derived.Laws.OwnMore
import Derived.WalkLawsBesides
namespace Go.Proofs.YtidaoijpbdljbabGreatDoor
open Go.RowKit

/-- A fine that is paid at once leaves no change. -/
theorem fine_pay {l : List VReader} {x c : Int} (h : FineReader_1 l x c = true) : PayFines_0 (FineReader_0 l x c) x c = l ∧ PayFines_1 (FineReader_0 l x c) x c = 0 ∧ PayFines_2 (FineReader_0 l x c) x c = true := by
  unfold FineReader_1 rdFine at h
  unfold PayFines_0 PayFines_1 PayFines_2 FineReader_0 rdFine
  rcases rdSel_ways l x with ⟨_, h2⟩ | ⟨i, s, ha, _, hs, hi, hid, h2⟩
  · rw [h2] at h; cases h
  · rw [h2] at h ⊢
    simp only at h ⊢
    cases hq : centsB c with
    | false => rw [hq] at h; simp at h
    | true =>
      rw [hq] at h
      simp only [if_true] at h ⊢
      obtain ⟨_, _, _, _, f0, f1⟩ := rdOk_iff.1 (areRd_ok ha (List.mem_of_getElem? hs))
      unfold rdWith at h ⊢
      cases hw : areRd (l.set i ⟨s.Id, s.Name, s.Joined, s.Class, s.Fines + c⟩) with
      | false => rw [hw] at h; simp at h
      | true =>
        simp only [if_true]
        have hsel := rdSel_at (i := i) (s := ⟨s.Id, s.Name, s.Joined, s.Class, s.Fines + c⟩) hw (by rw [List.getElem?_set_self hi])
        have hsel : rdSel (l.set i ⟨s.Id, s.Name, s.Joined, s.Class, s.Fines + c⟩) x = some (i, ⟨s.Id, s.Name, s.Joined, s.Class, s.Fines + c⟩) := by rw [← hid]; exact hsel
        have hmin : min c (s.Fines + c) = c := by omega
        have hback : (l.set i ⟨s.Id, s.Name, s.Joined, s.Class, s.Fines + c⟩).set i ⟨s.Id, s.Name, s.Joined, s.Class, s.Fines + c - c⟩ = l := by
          rw [List.set_set]
          have e : (⟨s.Id, s.Name, s.Joined, s.Class, s.Fines + c - c⟩ : VReader) = s := by
            have : s.Fines + c - c = s.Fines := by omega
            rw [this]
          rw [e]
          obtain ⟨hi', es⟩ := List.getElem?_eq_some_iff.1 hs
          rw [← es]; exact List.set_getElem_self hi'
        unfold rdPay rdWith
        rw [hsel]
        simp only [hq, if_true, hmin]
        rw [hback, ha]
        exact ⟨rfl, by omega, rfl⟩
theorem rdText_size {r : VReader} (hok : r.ok = true) : (rdText r).size ≤ 60 := by
  refine Classical.byContradiction fun hn => ?_
  have := specNo (s := rdText r) (fun h => hn h.1)
  rw [rdRead_of hok rfl] at this; cases this
theorem ReaderText_0_size (r : VReader) : (ReaderText_0 r).size ≤ 60 := by
  unfold ReaderText_0
  split
  · exact rdText_size (by assumption)
  · show (0 : Nat) ≤ 60; omega
/-- A reader is recovered from the text. -/
theorem text_back {r : VReader} (h : ReaderText_1 r = true) : ParseReader_0 (ReaderText_0 r) = r ∧ ParseReader_1 (ReaderText_0 r) = true := by
  have hok : r.ok = true := h
  rw [(rdText_yes hok).1]
  exact parse_some (rdRead_of hok rfl)
/-- From the place i on nobody owes more than the number. -/
def OweTo (l : List VReader) (n : Int) (i : Nat) (last : Int) : Prop := ∀ j t, i ≤ j → j < (OweMost_0 l n).length → (oweAll l)[j]? = some t → t.Fines ≤ last
theorem most_ok {l : List VReader} {n : Int} {j : Nat} (h : j < (OweMost_0 l n).length) : areRd l = true ∧ OweMost_0 l n = ((oweAll l).take n.toNat).map VReader.Id := by
  unfold OweMost_0 at h ⊢
  by_cases hc : (areRd l && nB n) = true
  · rw [if_pos hc]; simp only [Bool.and_eq_true] at hc; exact ⟨hc.1, rfl⟩
  · rw [if_neg hc] at h; simp at h
theorem OweTo.start (l : List VReader) (n : Int) : OweTo l n 0 10001 := by
  intro j t _ hj ht
  obtain ⟨ha, _⟩ := most_ok hj
  have hm : t ∈ l := (oweAll_perm l).mem_iff.1 (List.mem_of_getElem? ht)
  obtain ⟨_, _, _, _, f0, f1⟩ := rdOk_iff.1 (areRd_ok ha hm)
  omega
theorem OweTo.next {l : List VReader} {n : Int} {i : Nat} {last : Int} (h : OweTo l n i last) : OweTo l n (i + 1) last := fun j t hj => h j t (by omega)
theorem oweAll_pw {l : List VReader} : (oweAll l).Pairwise fun a b => oweLe a b = true :=
  List.pairwise_mergeSort (fun a b c h1 h2 => by rw [oweLe_iff] at *; omega) (fun a b => by
      by_cases h : oweLe a b = true
      · rw [h]; rfl
      · have : oweLe b a = true := by rw [oweLe_iff] at *; omega
        rw [this, Bool.or_true]) l
/-- The reader with the id at the place i owes no more than the number, and nobody behind owes more than this reader. -/
theorem OweTo.step {l : List VReader} {n : Int} {i k : Nat} {last x : Int} {r : VReader} (h : OweTo l n i last) (hx : (OweMost_0 l n)[i]? = some x) (hr : l[k]? = some r) (he : r.Id = x) : r.Fines ≤ last ∧ OweTo l n i r.Fines := by
  have hi : i < (OweMost_0 l n).length := (List.getElem?_eq_some_iff.1 hx).1
  obtain ⟨ha, hm⟩ := most_ok hi
  have hx' := hx
  rw [hm, List.getElem?_map] at hx'
  obtain ⟨t, ht, htx⟩ : ∃ t, ((oweAll l).take n.toNat)[i]? = some t ∧ t.Id = x := by
    cases hq : ((oweAll l).take n.toNat)[i]? with
    | none => rw [hq] at hx'; cases hx'
    | some t => rw [hq] at hx'; exact ⟨t, rfl, by simpa using hx'⟩
  have ht2 : (oweAll l)[i]? = some t := by
    rw [List.getElem?_take] at ht
    split at ht
    · exact ht
    · cases ht
  have htl : t ∈ l := (oweAll_perm l).mem_iff.1 (List.mem_of_getElem? ht2)
  obtain ⟨k', hk'⟩ := List.mem_iff_getElem?.1 htl
  have e := rd_same ha hk' hr (by rw [htx, he])
  subst e
  have e : t = r := Option.some.inj (hk'.symm.trans hr)
  subst e
  refine ⟨h i t (Nat.le_refl _) hi ht2, fun j u hj hjl hu => ?_⟩
  by_cases e : j = i
  · subst e; rw [ht2] at hu; cases hu; omega
  · obtain ⟨h1, e1⟩ := List.getElem?_eq_some_iff.1 ht2
    obtain ⟨h2, e2⟩ := List.getElem?_eq_some_iff.1 hu
    have := List.pairwise_iff_getElem.1 (oweAll_pw (l := l)) i j h1 h2 (by omega)
    rw [e1, e2, oweLe_iff] at this; omega
/-- The counts of all classes are the number of readers. -/
theorem class_sum {l : List VReader} (h : ClassCounts_1 l = true) : (ClassCounts_0 l).sum = (l.length : Int) ∧ (∀ x ∈ ClassCounts_0 l, 0 ≤ x ∧ x ≤ 10) ∧ (ClassCounts_0 l).length ≤ 3 := by
  have ha : areRd l = true := h
  have hl := areRd_len ha
  unfold ClassCounts_0
  rw [if_pos ha]
  have key : ∀ k, k ≤ l.length → cnt l 1 k + cnt l 2 k + cnt l 3 k = (k : Int) := by
    intro k
    induction k with
    | zero => intro _; rw [cnt_zero, cnt_zero, cnt_zero]; rfl
    | succ k ih =>
      intro hk
      have hs : l[k]? = some (l[k]'(by omega)) := List.getElem?_eq_getElem _
      obtain ⟨s, he⟩ : ∃ s, l[k]'(by omega) = s := ⟨_, rfl⟩
      rw [he] at hs
      have hcl := (rdOk_iff.1 (areRd_ok ha (List.mem_of_getElem? hs))).2.2.2.1
      have h1 := cnt_succ 1 hs
      have h2 := cnt_succ 2 hs
      have h3 := cnt_succ 3 hs
      have := ih (by omega)
      split at h1 <;> split at h2 <;> split at h3 <;> omega
  have hk := key l.length (Nat.le_refl _)
  have c1 := cnt_le l 1 l.length
  have c2 := cnt_le l 2 l.length
  have c3 := cnt_le l 3 l.length
  refine ⟨by simp only [List.sum_cons, List.sum_nil]; omega, fun x hx => ?_, by simp⟩
  simp only [List.mem_cons, List.not_mem_nil, or_false] at hx
  rcases hx with rfl | rfl | rfl <;> omega

set_option maxHeartbeats 1600000 in
set_option maxRecDepth 100000 in
theorem rSum_any (a : Option Addr) (len cap : Nat) (xs : List Int) (w : World) (h : IsInts w a len cap xs) (hx : ∀ x ∈ xs, 0 ≤ x ∧ x ≤ 10) (hl : xs.length ≤ 3) :
    Calls Tryz.prog 23 #[.slice a len cap] w fun e w' => e = .returned (.int .i64 xs.sum) ∧ w = w' := by
  obtain rfl := h.1
  have hm := h.2.2.1
  have hcl := h.2.1
  unfold maxLen at hm
  have S := Lib.hid h
  have HX := Lib.hid hx
  clear h hx
  go_enter Tryz.func23, Tryz.ntmps23
  go_wp2
  go_loop [3, 4] (fun n i => ∃ k : Nat, k ≤ xs.length ∧ i = .int .i64 k ∧ n = .int .i64 (xs.take k).sum ∧ 0 ≤ (xs.take k).sum ∧ (xs.take k).sum ≤ 10 * k) (fun _ i => xs.length - (intOf i).toNat)
  case atStart => exact ⟨0, Nat.zero_le _, rfl, rfl, by simp, by simp⟩
  case round =>
    obtain ⟨k, hk, rfl, rfl, g0, g1⟩ := hrel
    by_cases hlt : k < xs.length
    · obtain ⟨s, hs⟩ : ∃ s, xs[k]? = some s := ⟨xs[k]'hlt, List.getElem?_eq_getElem _⟩
      obtain ⟨b, o, rfl, hb, hat⟩ := S.out.at (by omega)
      have c0 := hat k s hs
      have hi0 : (0 : Int) ≤ (k : Int) := by omega
      have hi1 : (k : Int) < (xs.length : Int) := by omega
      obtain ⟨s0, s1⟩ := HX.out s (List.mem_of_getElem? hs)
      have T := Lib.hid (show (xs.take (k + 1)).sum = (xs.take k).sum + s by
        rw [List.take_add_one, hs, List.sum_append]; simp)
      obtain ⟨m, hm⟩ : ∃ m, (xs.take k).sum = m := ⟨_, rfl⟩
      rw [hm] at T g0 g1 ⊢
      have v1 : IntKind.i64.wrap (m + s) = m + s := IntWalk.i64_in _ (by omega)
      clear hs hat hm
      go_wp2
      go_round
      case rel => exact ⟨k + 1, by omega, by go_num, by rw [T.out], by rw [T.out]; omega, by rw [T.out]; omega⟩
      case measure => simp [intOf]; omega
    · obtain rfl : k = xs.length := by omega
      rw [List.take_length]
      go_wp2
      go_ret
      exact ⟨rfl, rfl⟩
end Go.Proofs.YtidaoijpbdljbabGreatDoor
namespace Go.Proofs.YtidaoijpbdljbabGreatDoor
open Go.RowKit

/-- What a law's walk is told of a slice of integers that came in. -/
def IsRow (k : IntKind) (w : World) (a : Option Addr) (len cap : Nat) (zs : List Int) : Prop :=
  (a = none ∧ len = 0 ∧ cap = 0 ∧ zs = []) ∨
  ∃ x, a = some x ∧ len ≤ cap ∧ cap ≤ maxLen ∧ zs.length = cap ∧ (∀ i, i < zs.length → w.cell? (x.add i) = some (.int k (zs.getD i 0))) ∧ ∀ n ∈ zs, (Lit.int k n).wf = true
/-- The code's bytes, in a block other than bc. -/
def CodeAt (w : World) (a : Option Addr) (len cap bc : Nat) : Prop :=
  len ≤ cap ∧ cap ≤ maxLen ∧ (len = 0 ∨ ∃ b o, a = some ⟨b, o, none⟩ ∧ b < w.heap.size ∧ b ≠ bc ∧ ∀ i, i < len → ∃ c : Int, 0 ≤ c ∧ c ≤ 255 ∧ w.cell? ⟨b, o + i, none⟩ = some (.int .u8 c))
/-- The cursor in block bc. -/
def CurAt (w : World) (bc : Nat) (a : Option Addr) (len cap t : Nat) : Prop :=
  ∃ (i : Nat) (seed : Int), i ≤ t ∧ 0 ≤ seed ∧ seed ≤ 18446744073709551615 ∧ w.heap[bc]? = some (.cells #[.slice a len cap, .int .i64 i, .int .u64 seed] 59 (0, 0))
theorem CodeAt.grown {w w' : World} {a : Option Addr} {len cap bc : Nat} (h : CodeAt w a len cap bc) (hg : w.grownBy w' (some bc)) : CodeAt w' a len cap bc := by
  refine ⟨h.1, h.2.1, ?_⟩
  rcases h.2.2 with h0 | ⟨b, o, rfl, h1, h2, h3⟩
  · exact .inl h0
  · refine .inr ⟨b, o, rfl, Nat.lt_of_lt_of_le h1 hg.size, h2, fun i hi => ?_⟩
    obtain ⟨c, c0, c1, hc⟩ := h3 i hi
    exact ⟨c, c0, c1, (World.cell?_of_block (w := w) (a := ⟨b, o + i, none⟩) (hg.block b h1 (by simpa using h2))).trans hc⟩

theorem and_255 (x : Int) (h0 : 0 ≤ x) (h1 : x ≤ 18446744073709551615) : 0 ≤ bits .and .u64 x 255 ∧ bits .and .u64 x 255 ≤ 255 := by
  obtain ⟨n, rfl⟩ := Int.eq_ofNat_of_zero_le h0
  have h := bits_and_u64_nat n 255 (by omega) (by omega)
  have e : ((255 : Nat) : Int) = 255 := rfl
  rw [e] at h
  rw [h]
  have := Nat.and_le_right (n := n) (m := 255)
  omega
theorem u64_bd (x : Int) : 0 ≤ IntKind.u64.wrap x ∧ IntKind.u64.wrap x ≤ 18446744073709551615 := by
  rw [IntKind.wrap_u64]; omega
theorem cur_step {w : World} {bc : Nat} {S : Value} {i : Nat} {seed : Int} (h : w.heap[bc]? = some (.cells #[S, .int .i64 i, .int .u64 seed] 59 (0, 0))) (m m2 : Nat) (s2 : Int) :
    ((((w.drewN m).setCell ⟨bc, 1, none⟩ (.int .i64 ((i : Int) + 1))).setCell ⟨bc, 2, none⟩ (.int .u64 s2)).drewN m2).heap[bc]? = some (.cells #[S, .int .i64 ((i + 1 : Nat) : Int), .int .u64 s2] 59 (0, 0)) ∧
    w.grownBy ((((w.drewN m).setCell ⟨bc, 1, none⟩ (.int .i64 ((i : Int) + 1))).setCell ⟨bc, 2, none⟩ (.int .u64 s2)).drewN m2) (some bc) := by
  have h1 := heap_setCell_same (w.drewN m) bc 1 #[S, .int .i64 i, .int .u64 seed] 59 (.int .i64 ((i : Int) + 1)) h
  have h2 := heap_setCell_same _ bc 2 _ 59 (.int .u64 s2) h1
  refine ⟨by
    have e : (((w.drewN m).setCell ⟨bc, 1, none⟩ (.int .i64 ((i : Int) + 1))).setCell ⟨bc, 2, none⟩ (.int .u64 s2)).heap[bc]? = some (.cells #[S, .int .i64 ((i + 1 : Nat) : Int), .int .u64 s2] 59 (0, 0)) := by
      rw [h2]; simp
    exact e, ⟨rfl, rfl, rfl, ?_, fun k _ hk => ?_⟩⟩
  · show w.heap.size ≤ (((w.drewN m).setCell ⟨bc, 1, none⟩ (.int .i64 ((i : Int) + 1))).setCell ⟨bc, 2, none⟩ (.int .u64 s2)).heap.size
    simp
  · have hk' : k ≠ bc := fun e => hk (by rw [e])
    show (((w.drewN m).setCell ⟨bc, 1, none⟩ (.int .i64 ((i : Int) + 1))).setCell ⟨bc, 2, none⟩ (.int .u64 s2)).heap[k]? = w.heap[k]?
    rw [heap_setCell_other _ ⟨bc, 2, none⟩ k _ hk', heap_setCell_other _ ⟨bc, 1, none⟩ k _ hk']
    rfl

/-- What a draw of a number below n gives. -/
def PickPost (bc : Nat) (a : Option Addr) (len cap t : Nat) (n : Int) (w : World) (e : Ending) (w' : World) : Prop := ∃ x : Int, e = .returned (.int .i64 x) ∧ 0 ≤ x ∧ x < n ∧ CurAt w' bc a len cap t ∧ w.grownBy w' (some bc)
set_option maxHeartbeats 1600000 in
set_option maxRecDepth 100000 in
theorem next_any (bc : Nat) (a : Option Addr) (len cap t : Nat) (w : World) (hc : CurAt w bc a len cap t) (hd : CodeAt w a len cap bc) (ht : t ≤ 1000000) :
    Calls Tryz.prog 67 #[.pointer (some ⟨bc, 0, none⟩)] w (PickPost bc a len cap (t + 1) 256 w) := by
  obtain ⟨i, seed, hi, hs0, hs1, hh⟩ := hc
  obtain ⟨hlc, hcm, hcode⟩ := hd
  have c0 : w.cell? ⟨bc, 0, none⟩ = some (.slice a len cap) := by simp [World.cell?, hh]
  have c1 : w.cell? ⟨bc, 1, none⟩ = some (.int .i64 i) := by simp [World.cell?, hh]
  have c2 : w.cell? ⟨bc, 2, none⟩ = some (.int .u64 seed) := by simp [World.cell?, hh]
  have f1 : w.frozen? ⟨bc, 1, none⟩ = false := by simp [World.frozen?, hh]
  have f2 : w.frozen? ⟨bc, 2, none⟩ = false := by simp [World.frozen?, hh]
  have HH := Lib.hid hh
  unfold maxLen at hcm
  clear hh
  have i0 : (0 : Int) ≤ (i : Int) := by omega
  by_cases hlt : i < len
  · rcases hcode with h0 | ⟨b, o, rfl, hb, hne, hcells⟩
    · omega
    obtain ⟨c, k0, k1, hcell⟩ := hcells i hlt
    have i1 : (i : Int) < (len : Int) := by omega
    have i2 : (i : Int) + 1 ≤ (len : Int) := by omega
    clear hcells
    go_enter Tryz.func67, Tryz.ntmps67
    go_wp2
    go_quiet (fail)
    go_wp2
    go_quiet (fail)
    go_wp2
    go_quiet (fail)
    go_wp2
    go_ret
    exact ⟨c, rfl, k0, by omega, ⟨i + 1, _, by omega, (u64_bd _).1, (u64_bd _).2, (cur_step HH.out _ _ _).1⟩, (cur_step HH.out _ _ _).2⟩
  · have i1 : decide ((i : Int) < (len : Int)) = false := by simp; omega
    go_enter Tryz.func67, Tryz.ntmps67
    go_wp2
    have i2 : decide ((i : Int) + 1 ≤ (len : Int)) = false := by simp; omega
    go_quiet (fail)
    go_wp2
    go_quiet (fail)
    go_wp2
    go_ret
    obtain ⟨s0, s1⟩ := u64_bd (IntKind.u64.wrap (IntKind.u64.wrap (seed * 6364136223846793005)) + 604171)
    obtain ⟨x0, x1⟩ := and_255 (IntKind.u64.wrap (IntKind.u64.wrap (IntKind.u64.wrap (seed * 6364136223846793005)) + 604171) / 1099511627776) (by omega) (by omega)
    exact ⟨_, ret_int (by unfold wrap64; omega), x0, by omega, ⟨i + 1, _, by omega, s0, s1, (cur_step HH.out _ _ _).1⟩, (cur_step HH.out _ _ _).2⟩
theorem CurAt.more {w : World} {bc : Nat} {a : Option Addr} {len cap t t' : Nat} (h : CurAt w bc a len cap t) (ht : t ≤ t') : CurAt w bc a len cap t' := by
  obtain ⟨i, s, h1, r⟩ := h
  exact ⟨i, s, by omega, r⟩
theorem CurAt.heap {w w' : World} {bc : Nat} {a : Option Addr} {len cap t : Nat} (h : CurAt w bc a len cap t) (hh : w'.heap[bc]? = w.heap[bc]?) : CurAt w' bc a len cap t := by
  obtain ⟨i, s, h1, h2, h3, h4⟩ := h
  exact ⟨i, s, h1, h2, h3, hh.trans h4⟩
theorem CurAt.lt {w : World} {bc : Nat} {a : Option Addr} {len cap t : Nat} (h : CurAt w bc a len cap t) : bc < w.heap.size := by
  obtain ⟨i, s, h1, h2, h3, h4⟩ := h
  exact (Array.getElem?_eq_some_iff.1 h4).1

set_option maxHeartbeats 800000 in
theorem pick_any (bc : Nat) (a : Option Addr) (len cap t n : Nat) (w : World) (hc : CurAt w bc a len cap t) (hd : CodeAt w a len cap bc) (ht : t ≤ 900000) (hn0 : 1 ≤ n) (hn : n ≤ 65536) :
    Calls Tryz.prog 46 #[.pointer (some ⟨bc, 0, none⟩), .int .i64 n] w (PickPost bc a len cap (t + 2) n w) := by
  have C := Lib.hid hc
  have D := Lib.hid hd
  clear hc hd
  by_cases h1 : n = 1
  · subst h1
    go_enter Tryz.func46, Tryz.ntmps46
    go_wp2
    go_ret
    exact ⟨0, rfl, by omega, by omega, C.out.more (by omega), World.grownBy.refl _ _⟩
  have h2 : 1 < n := by omega
  by_cases h200 : 200 < n
  · go_enter Tryz.func46, Tryz.ntmps46
    go_wp2_with fail
    refine (next_any bc a len cap t _ C.out D.out (by omega)).mono ?_
    rintro e w1 ⟨x, rfl, x0, x1, hc1, hg1⟩
    have C1 := Lib.hid hc1
    have G1 := Lib.hid hg1
    clear hc1 hg1
    go_wp2_with fail
    refine (next_any bc a len cap (t + 1) _ C1.out (D.out.grown G1.out) (by omega)).mono ?_
    rintro e w2 ⟨y, rfl, y0, y1, hc2, hg2⟩
    have C2 := Lib.hid hc2
    have G2 := Lib.hid (grown_trans G1.out hg2)
    clear hc2 hg2
    have hnn : ((n : Int) == 0) = false := by simp; omega
    go_wp2
    go_ret
    exact ⟨_, rfl, Int.emod_nonneg _ (by omega), Int.emod_lt_of_pos _ (by omega), C2.out, G2.out⟩
  · have h200' : n ≤ 200 := by omega
    go_enter Tryz.func46, Tryz.ntmps46
    go_wp2_with fail
    refine (next_any bc a len cap t _ C.out D.out (by omega)).mono ?_
    rintro e w1 ⟨x, rfl, x0, x1, hc1, hg1⟩
    have C1 := Lib.hid hc1
    have G1 := Lib.hid hg1
    clear hc1 hg1
    have hnn : ((n : Int) == 0) = false := by simp; omega
    go_wp2
    go_ret
    exact ⟨_, rfl, Int.emod_nonneg _ (by omega), Int.emod_lt_of_pos _ (by omega), C1.out.more (by omega), G1.out⟩

/-- A choice: yes or no. -/
def OnePost (bc : Nat) (a : Option Addr) (len cap t : Nat) (w : World) (e : Ending) (w' : World) : Prop := ∃ b : Bool, e = .returned (.bool b) ∧ CurAt w' bc a len cap t ∧ w.grownBy w' (some bc)
theorem one_any (bc : Nat) (a : Option Addr) (len cap t n : Nat) (w : World) (hc : CurAt w bc a len cap t) (hd : CodeAt w a len cap bc) (ht : t ≤ 900000) (hn0 : 1 ≤ n) (hn : n ≤ 65536) :
    Calls Tryz.prog 33 #[.pointer (some ⟨bc, 0, none⟩), .int .i64 n] w (OnePost bc a len cap (t + 2) w) := by
  have C := Lib.hid hc
  have D := Lib.hid hd
  clear hc hd
  go_enter Tryz.func33, Tryz.ntmps33
  go_wp2_with fail
  refine (pick_any bc a len cap t n _ C.out D.out ht hn0 hn).mono ?_
  rintro e w1 ⟨x, rfl, x0, x1, hc1, hg1⟩
  have C1 := Lib.hid hc1
  have G1 := Lib.hid hg1
  clear hc1 hg1
  go_wp2
  go_ret
  exact ⟨_, rfl, C1.out, G1.out⟩

/-- One of some texts, none longer than m. -/
def OfPost (bc : Nat) (a : Option Addr) (len cap t m : Nat) (w : World) (e : Ending) (w' : World) : Prop := ∃ x : ByteArray, e = .returned (.string x) ∧ x.size ≤ m ∧ CurAt w' bc a len cap t ∧ w.grownBy w' (some bc)
set_option maxHeartbeats 800000 in
theorem of_any (bc : Nat) (a : Option Addr) (len cap t m b o ln lc : Nat) (w : World) (hc : CurAt w bc a len cap t) (hd : CodeAt w a len cap bc) (ht : t ≤ 900000) (hn0 : 1 ≤ ln) (hn : ln ≤ 1000) (hb : b ≠ bc) (hbs : b < w.heap.size)
    (hl : ∀ i, i < ln → ∃ x : ByteArray, x.size ≤ m ∧ w.cell? ⟨b, o + i, none⟩ = some (.string x)) :
    Calls Tryz.prog 74 #[.pointer (some ⟨bc, 0, none⟩), .slice (some ⟨b, o, none⟩) ln lc] w (OfPost bc a len cap (t + 2) m w) := by
  have C := Lib.hid hc
  have D := Lib.hid hd
  have L := Lib.hid hl
  clear hc hd hl
  go_enter Tryz.func74, Tryz.ntmps74
  go_wp2_with fail
  refine (pick_any bc a len cap t ln _ C.out D.out ht hn0 (by omega)).mono ?_
  rintro e w1 ⟨x, rfl, x0, x1, hc1, hg1⟩
  obtain ⟨i, rfl⟩ := Int.eq_ofNat_of_zero_le x0
  obtain ⟨s, hs, hcell⟩ := L.out i (by omega)
  have hcell1 : w1.cell? ⟨b, o + i, none⟩ = some (.string s) := (World.cell?_of_block (w := w) (a := ⟨b, o + i, none⟩) (hg1.block b hbs (by simpa using hb))).trans hcell
  have C1 := Lib.hid hc1
  have G1 := Lib.hid hg1
  clear hc1 hg1 hcell
  go_wp2
  go_ret
  exact ⟨_, rfl, hs, C1.out, G1.out⟩

/-- One of some numbers, all between lo and hi. -/
def AmongPost (bc : Nat) (a : Option Addr) (len cap t : Nat) (lo hi : Int) (w : World) (e : Ending) (w' : World) : Prop := ∃ x : Int, e = .returned (.int .i64 x) ∧ lo ≤ x ∧ x ≤ hi ∧ CurAt w' bc a len cap t ∧ w.grownBy w' (some bc)
set_option maxHeartbeats 800000 in
theorem among_any (bc : Nat) (a : Option Addr) (len cap t b o ln lc : Nat) (lo hi : Int) (w : World) (hc : CurAt w bc a len cap t) (hd : CodeAt w a len cap bc) (ht : t ≤ 900000) (hn0 : 1 ≤ ln) (hn : ln ≤ 1000) (hb : b ≠ bc) (hbs : b < w.heap.size)
    (hl : ∀ i, i < ln → ∃ x : Int, lo ≤ x ∧ x ≤ hi ∧ w.cell? ⟨b, o + i, none⟩ = some (.int .i64 x)) :
    Calls Tryz.prog 45 #[.pointer (some ⟨bc, 0, none⟩), .slice (some ⟨b, o, none⟩) ln lc] w (AmongPost bc a len cap (t + 2) lo hi w) := by
  have C := Lib.hid hc
  have D := Lib.hid hd
  have L := Lib.hid hl
  clear hc hd hl
  go_enter Tryz.func45, Tryz.ntmps45
  go_wp2_with fail
  refine (pick_any bc a len cap t ln _ C.out D.out ht hn0 (by omega)).mono ?_
  rintro e w1 ⟨x, rfl, x0, x1, hc1, hg1⟩
  obtain ⟨i, rfl⟩ := Int.eq_ofNat_of_zero_le x0
  obtain ⟨s, hs0, hs1, hcell⟩ := L.out i (by omega)
  have hcell1 : w1.cell? ⟨b, o + i, none⟩ = some (.int .i64 s) := (World.cell?_of_block (w := w) (a := ⟨b, o + i, none⟩) (hg1.block b hbs (by simpa using hb))).trans hcell
  have C1 := Lib.hid hc1
  have G1 := Lib.hid hg1
  clear hc1 hg1 hcell
  go_wp2
  go_ret
  exact ⟨_, rfl, hs0, hs1, C1.out, G1.out⟩
end Go.Proofs.YtidaoijpbdljbabGreatDoor
namespace Go.Proofs.YtidaoijpbdljbabGreatDoor
open Go.RowKit

/-- The code as the law holds it: some bytes of the world as it came in. -/
def CodeIn (w : World) (a : Option Addr) (len cap : Nat) : Prop :=
  len ≤ cap ∧ cap ≤ maxLen ∧ (len = 0 ∨ ∃ b o, a = some ⟨b, o, none⟩ ∧ b < w.heap.size ∧ ∀ i, i < len → ∃ c : Int, 0 ≤ c ∧ c ≤ 255 ∧ w.cell? ⟨b, o + i, none⟩ = some (.int .u8 c))
theorem u8_wf {n : Int} (h : (Lit.int .u8 n).wf = true) : 0 ≤ n ∧ n ≤ 255 := by
  simp [Lit.wf] at h
  have e0 : IntKind.u8.min = 0 := by decide
  have e1 : IntKind.u8.max = 255 := by decide
  omega
theorem CodeIn.of_row {w : World} {a : Option Addr} {len cap : Nat} {zs : List Int} (h : IsRow .u8 w a len cap zs) : CodeIn w a len cap := by
  rcases h with ⟨rfl, rfl, rfl, rfl⟩ | ⟨x, rfl, h1, h2, h3, h4, h5⟩
  · exact ⟨by omega, by simp, .inl rfl⟩
  · refine ⟨h1, h2, ?_⟩
    by_cases h0 : len = 0
    · exact .inl h0
    obtain ⟨b, o, spot⟩ := x
    have k1 := h4 0 (by omega)
    have hspot : spot = none := by simpa [Addr.add] using World.cell?_spot k1
    subst hspot
    refine .inr ⟨b, o, rfl, ?_, fun i hi => ?_⟩
    · have : w.cell? ⟨b, o, none⟩ ≠ none := by
        have := k1
        simp [Addr.add] at this
        rw [this]; simp
      by_cases hb : b < w.heap.size
      · exact hb
      · exfalso; apply this; simp [World.cell?, Array.getElem?_eq_none (Nat.le_of_not_lt hb)]
    · have hc := h4 i (by omega)
      rw [add_plain] at hc
      have hw := h5 (zs.getD i 0) (by
        have hi' : i < zs.length := by omega
        rw [List.getD_eq_getElem?_getD, List.getElem?_eq_getElem hi']
        exact List.getElem_mem hi')
      obtain ⟨b0, b1⟩ := u8_wf hw
      exact ⟨zs.getD i 0, b0, b1, hc⟩
theorem CodeIn.below {w w' : World} {a : Option Addr} {len cap : Nat} (h : CodeIn w a len cap) (hb : Below w.heap.size w w') : CodeIn w' a len cap := by
  refine ⟨h.1, h.2.1, ?_⟩
  rcases h.2.2 with h0 | ⟨b, o, rfl, h1, h2⟩
  · exact .inl h0
  · refine .inr ⟨b, o, rfl, Nat.lt_of_lt_of_le h1 hb.size, fun i hi => ?_⟩
    obtain ⟨c, c0, c1, hc⟩ := h2 i hi
    exact ⟨c, c0, c1, (hb.cell (p := ⟨b, o + i, none⟩) h1).trans hc⟩
theorem CodeIn.at {w w' : World} {a : Option Addr} {len cap : Nat} (h : CodeIn w a len cap) (hb : Below w.heap.size w w') : CodeAt w' a len cap w.heap.size := by
  refine ⟨h.1, h.2.1, ?_⟩
  rcases (h.below hb).2.2 with h0 | ⟨b, o, rfl, h1, h2⟩
  · exact .inl h0
  · by_cases h0 : len = 0
    · exact .inl h0
    refine .inr ⟨b, o, rfl, h1, ?_, h2⟩
    rcases h.2.2 with h00 | ⟨b', o', e, h1', _⟩
    · omega
    · cases e; omega
theorem bel_alloc (w : World) (o : Obj) : Below w.heap.size w (w.alloc o) := (Below.refl _ _).alloc (Nat.le_refl _) o
theorem lits_of (w : World) (C : Array Value) (T : TypeId) (m n : Nat) (hn : C.size = n) (hC : ∀ v ∈ C.toList, ∃ x : ByteArray, x.size ≤ m ∧ v = .string x) : ∀ i, i < n → ∃ x : ByteArray, x.size ≤ m ∧ (w.alloc (.cells C T)).cell? ⟨w.heap.size, 0 + i, none⟩ = some (.string x) := by
  subst hn
  intro i hi
  obtain ⟨x, hx, e⟩ := hC C[i] (by simp)
  refine ⟨x, hx, ?_⟩
  rw [World.cell?_alloc_new, Nat.zero_add, Array.getElem?_eq_getElem hi, e]
theorem CurAt.alloc {w : World} {bc : Nat} {a : Option Addr} {len cap t : Nat} (h : CurAt w bc a len cap t) (o : Obj) : CurAt (w.alloc o) bc a len cap t := h.heap (Below.heap_alloc w o bc h.lt)
theorem CodeAt.alloc {w : World} {bc : Nat} {a : Option Addr} {len cap : Nat} (h : CodeAt w a len cap bc) (o : Obj) : CodeAt (w.alloc o) a len cap bc := h.grown (grown_below (bel_alloc w o) _)

theorem below_cur {w w0 w' : World} {row : Option Nat} (hb : Below w.heap.size w w0) (hr : row = some w.heap.size) (hg : w0.grownBy w' row) : Below w.heap.size w w' := hb.grown hg hb.size (fun k e => by rw [hr] at e; cases e; exact Nat.le_refl _)
theorem cur_new (w : World) (a : Option Addr) (len cap : Nat) : CurAt (w.alloc (.cells #[.slice a len cap, .int .i64 0, .int .u64 0] 59)) w.heap.size a len cap 0 := ⟨0, 0, Nat.le_refl _, by omega, by omega, by
  show (w.heap.push _)[w.heap.size]? = _
  simp⟩
end Go.Proofs.YtidaoijpbdljbabGreatDoor
namespace Go.Proofs.YtidaoijpbdljbabGreatDoor
open Go.RowKit

theorem ints_at (w : World) (C : Array Value) (T : TypeId) (lo hi : Int) (n B : Nat) (hB : w.heap.size = B) (hn : C.size = n) (hC : ∀ v ∈ C.toList, ∃ x : Int, lo ≤ x ∧ x ≤ hi ∧ v = .int .i64 x) : ∀ i, i < n → ∃ x : Int, lo ≤ x ∧ x ≤ hi ∧ (w.alloc (.cells C T)).cell? ⟨B, 0 + i, none⟩ = some (.int .i64 x) := by
  subst hn hB
  intro i hi'
  obtain ⟨x, h1, h2, e⟩ := hC C[i] (by simp)
  refine ⟨x, h1, h2, ?_⟩
  rw [World.cell?_alloc_new, Nat.zero_add, Array.getElem?_eq_getElem hi', e]
theorem strs_at (w : World) (C : Array Value) (T : TypeId) (m n B : Nat) (hB : w.heap.size = B) (hn : C.size = n) (hC : ∀ v ∈ C.toList, ∃ x : ByteArray, x.size ≤ m ∧ v = .string x) : ∀ i, i < n → ∃ x : ByteArray, x.size ≤ m ∧ (w.alloc (.cells C T)).cell? ⟨B, 0 + i, none⟩ = some (.string x) := by
  subst hn hB
  intro i hi'
  obtain ⟨x, h1, e⟩ := hC C[i] (by simp)
  refine ⟨x, h1, ?_⟩
  rw [World.cell?_alloc_new, Nat.zero_add, Array.getElem?_eq_getElem hi', e]
theorem CurAt.grown {w w' : World} {bc : Nat} {a : Option Addr} {len cap t : Nat} {row : Option Nat} (h : CurAt w bc a len cap t) (hg : w.grownBy w' row) (hne : some bc ≠ row) : CurAt w' bc a len cap t := h.heap (hg.block bc h.lt hne)
theorem grow_st {w w' : World} {row : Option Nat} (h : w.grownBy w' row) {p : Addr} (hp : w.heap.size ≤ p.block) (v : Value) : w.grownBy (w'.setCell p v) row :=
  ⟨h.os, h.tape, h.output, by rw [World.size_setCell]; exact h.size, fun k hk hr => (heap_setCell_other w' p k v (by omega)).trans (h.block k hk hr)⟩
theorem grow_al {w w' : World} {row : Option Nat} (h : w.grownBy w' row) (o : Obj) : w.grownBy (w'.alloc o) row := grown_trans h (grown_below ((Below.refl _ _).alloc (Nat.le_refl _) o) row)
theorem grown_own0 {w w1 w2 : World} {r row : Option Nat} (h : w.grownBy w1 r) (k : w1.grownBy w2 row) (hr : ∀ j, row = some j → w.heap.size ≤ j) : w.grownBy w2 r :=
  ⟨k.os.trans h.os, k.tape.trans h.tape, k.output.trans h.output, Nat.le_trans h.size k.size, fun j hj hne => (k.block j (Nat.lt_of_lt_of_le hj h.size) (fun e => by have := hr j e.symm; omega)).trans (h.block j hj hne)⟩
theorem pick_anyI (bc : Nat) (a : Option Addr) (len cap t : Nat) (n : Int) (w : World) (hc : CurAt w bc a len cap t) (hd : CodeAt w a len cap bc) (ht : t ≤ 900000) (hn0 : 1 ≤ n) (hn : n ≤ 65536) :
    Calls Tryz.prog 46 #[.pointer (some ⟨bc, 0, none⟩), .int .i64 n] w (PickPost bc a len cap (t + 2) n w) := by
  obtain ⟨m, rfl⟩ := Int.eq_ofNat_of_zero_le (show 0 ≤ n by omega)
  exact pick_any bc a len cap t m w hc hd ht (by omega) (by omega)
end Go.Proofs.YtidaoijpbdljbabGreatDoor
