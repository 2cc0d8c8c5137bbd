/- Texts in one: Ms3, LawsR, Has, Ms4, Ms5, Ms6. -/
import Derived.Test.YtpcibejmahhjiaaM6
import Derived.Test.YtpcibejmahhjiaaM2
import Derived.Test.YtpcibejmahhjiaaM5
namespace Go.Proofs.Ytpcibejmahhjiaa
open Go.RowKit

set_option maxHeartbeats 6400000 in
set_option maxRecDepth 100000 in
theorem specLineOf_any (a : Option Addr) (len cap : Nat) (xs : List VMaker) (id : Int) (w : World) (h : IsMakerS w a len cap xs) (_ : xs.length ≤ 1048576) (_ : ∀ s ∈ xs, s.sized) :
    Calls Try.prog 20 #[.slice a len cap, .int .i64 id] w (LineOf_Post xs id w) := by
  have hm := h.2.2.1
  have hcl := h.2.1
  unfold maxLen at hm
  obtain rfl := h.1
  obtain ⟨i0, hi, hz0, hz1, hz2⟩ := info_parts infoInt
  have S := Lib.hid h
  have B0 := Lib.hid (wh_al1 w (.cells #[] 3))
  have S0 := Lib.hid (h.below B0.out)
  have O0 := Lib.hid (made_ids w)
  clear h
  rcases mkSel_ways xs id with ⟨h1, h2⟩ | ⟨h1, h2, h3⟩ | ⟨i, s0, h1, h2, h3, h4, h5, _⟩
  · have E0 := Lib.hid (show LineOf_0 xs id = [] from by unfold LineOf_0; rw [lineMk_none h2]; rfl)
    have E1 := Lib.hid (show LineOf_1 xs id = false from by unfold LineOf_1; rw [h2]; rfl)
    have H1 := Lib.hid h1
    clear h1 h2
    go_enter Try.func20, Try.ntmps20
    go_wp2_with fail
    refine (l7Find_any _ _ _ xs id _ S.out).mono ?_
    rintro e w' ⟨rfl, rfl⟩
    obtain ⟨z, hz⟩ : ∃ z, mkIdx xs id = z := ⟨_, rfl⟩
    rw [hz]
    clear hz
    go_wp2_with fail
    refine (l7Good_any _ _ _ xs _ S0.out).mono ?_
    rintro e w1 ⟨rfl, hb⟩
    rw [H1.out]
    have B1 := Lib.hid (Below.then' B0.out hb)
    have O1 := Lib.hid (ownsRow_below O0.out hb)
    clear hb
    go_wp2
    go_ret2
    exact ⟨_, by rw [E1.out]; rfl, by rw [E0.out]; exact O1.out, B1.out⟩
  · have E0 := Lib.hid (show LineOf_0 xs id = [] from by unfold LineOf_0; rw [lineMk_none h3]; rfl)
    have E1 := Lib.hid (show LineOf_1 xs id = false from by unfold LineOf_1; rw [h3]; rfl)
    have H1 := Lib.hid h1
    have H2 := Lib.hid h2
    clear h1 h2 h3
    go_enter Try.func20, Try.ntmps20
    go_wp2_with fail
    refine (l7Find_any _ _ _ xs id _ S.out).mono ?_
    rintro e w' ⟨rfl, rfl⟩
    rw [H2.out]
    go_wp2_with fail
    refine (l7Good_any _ _ _ xs _ S0.out).mono ?_
    rintro e w1 ⟨rfl, hb⟩
    rw [H1.out]
    have B1 := Lib.hid (Below.then' B0.out hb)
    have O1 := Lib.hid (ownsRow_below O0.out hb)
    clear hb
    go_wp2
    go_ret2
    exact ⟨_, by rw [E1.out]; rfl, by rw [E0.out]; exact O1.out, B1.out⟩
  have E0 := Lib.hid (show LineOf_0 xs id = ((lineI xs i).map (mkAt xs)).map VMaker.Id from by unfold LineOf_0; rw [lineMk_idx h3])
  have E1 := Lib.hid (show LineOf_1 xs id = true from by unfold LineOf_1; rw [h3, decide_eq_true (by omega)])
  have H1 := Lib.hid h1
  have H2 := Lib.hid h2
  have JB := Lib.hid (lineI_in (xs := xs) h5)
  have JL := lineI_len xs i
  have H5 := Lib.hid h5
  have hi00 : ¬ (i : Int) < 0 := by omega
  clear h1 h2 h3 h4 h5
  go_enter Try.func20, Try.ntmps20
  go_wp2_with fail
  refine (l7Find_any _ _ _ xs id _ S.out).mono ?_
  rintro e w' ⟨rfl, rfl⟩
  rw [H2.out]
  go_wp2_with fail
  refine (l7Good_any _ _ _ xs _ S0.out).mono ?_
  rintro e w1 ⟨rfl, hb⟩
  rw [H1.out]
  have B1 := Lib.hid (Below.then' B0.out hb)
  have S1 := Lib.hid (S0.out.below hb)
  have O1 := Lib.hid (ownsRow_below O0.out hb)
  clear hb
  go_wp2_with fail
  refine (l7Line_any _ _ _ xs i _ S1.out H1.out H5.out).mono ?_
  rintro e w2 ⟨v, rfl, hown, hb⟩
  have B2 := Lib.hid (Below.then' B1.out hb)
  have O2 := Lib.hid (ownsRow_below O1.out hb)
  have s2 := hb.size
  obtain ⟨a1, c1, rfl, his, hbk⟩ := isInts_own hown
  have AP := Lib.hid (show ∀ b o', a1 = some ⟨b, o', none⟩ → (Value.slice (some ⟨w.heap.size, 0, none⟩) 0 0).ownBlock ≠ some b from fun b o' e h => by
    have l1 := (hown.lt b (hbk b o' e)).1
    have l2 := (O1.out.lt b h).2
    omega)
  have I2 := Lib.hid his
  rw [asInts_len] at I2 ⊢
  obtain ⟨J, hJ⟩ : ∃ J, lineI xs i = J := ⟨_, rfl⟩
  rw [hJ] at I2 E0 JB JL ⊢
  clear hown his hb hJ hbk
  go_wp2
  go_loopw [9, 7] (fun j o wr => ∃ k : Nat, k ≤ J.length ∧ j = .int .i64 k ∧ wr.ownsRow w.heap.size 3 1 o (((J.take k).map (mkAt xs)).map VMaker.Id).length (intCells (((J.take k).map (mkAt xs)).map VMaker.Id)) ∧ IsInts wr a1 J.length c1 (asInts J) ∧ (∀ b o', a1 = some ⟨b, o', none⟩ → o.ownBlock ≠ some b) ∧ Below w.heap.size w wr) (fun j _ _ => J.length - (intOf j).toNat)
  case atStart => exact ⟨0, Nat.zero_le _, rfl, O2.out, I2.out, AP.out, B2.out⟩
  case round =>
    obtain ⟨k, hk, rfl, hown, his, hap, hbel⟩ := hrel
    have B := Lib.hid hbel
    have I := Lib.hid his
    have A := Lib.hid hap
    have O := Lib.hid hown
    by_cases hlt : k < J.length
    · obtain ⟨j, hj⟩ : ∃ j, J[k]? = some j := ⟨J[k]'hlt, List.getElem?_eq_getElem _⟩
      obtain ⟨b1, o1, rfl, _, p0⟩ := isInts_get his hj
      have hjl := JB.out j (List.mem_of_getElem? hj)
      obtain ⟨s, hs⟩ : ∃ s, xs[j]? = some s := ⟨xs[j]'hjl, List.getElem?_eq_getElem _⟩
      obtain ⟨b, o, rfl, hbw, hat⟩ := (S.out.below hbel).at (by omega)
      obtain ⟨d0, _⟩ := hat j s hs
      have T := Lib.hid (show ((J.take (k + 1)).map (mkAt xs)).map VMaker.Id = ((J.take k).map (mkAt xs)).map VMaker.Id ++ [s.Id] from by rw [List.take_add_one, hj]; simp [mkAt_some hs])
      have hgl : (((J.take k).map (mkAt xs)).map VMaker.Id).length ≤ 601 := by simp; omega
      have hi0 : (0 : Int) ≤ (k : Int) := by omega
      have hi1 : (k : Int) < (J.length : Int) := by omega
      have hj0 : (0 : Int) ≤ (j : Int) := by omega
      have hj1 : (j : Int) < (xs.length : Int) := by omega
      have hown3 := hown.alloc (.cells #[.int .i64 s.Id] 3)
      have AL := Lib.hid (bel_al1 wr (.cells #[.int .i64 s.Id] 3))
      have hsz := B.out.size
      clear hat hs hj hbel his hown hap
      go_wp2_with (at_builtin; refine wpList_append_lies _ rfl _ _ 29 rfl w.heap.size 3 i0 (.int .i64 0) 1 8 Try.underlying29 hi hz0 hz1 hz2 rfl (by decide) _ _ _ rfl hown3 ⟨wr.heap.size, 0, none⟩ 1 1 [.int .i64 s.Id] rfl rfl (cell_one _ _ _) (fun x hx => by simp at hx; subst hx; rfl) (by decide) (by unfold maxLen; omega) (by omega) (by simp; omega) _ rfl ?_; intro g4 cap4 w4 hown4 hgrow4 hg4 hlt4)
      go_roundw
      case rel =>
        refine ⟨k + 1, by omega, by go_num, ?_, (I.out.below AL.out).grown hgrow4 (fun b2 o2 e h => A.out b2 o2 e h.symm), fun b2 o2 e h => ?_, (Below.then' B.out AL.out).grown hgrow4 (by rw [size_al]; omega) (fun j e => (hown3.lt j e).1)⟩
        · rw [T.out, intCells_snoc, List.length_append]
          simpa [Nat.min_eq_left (Nat.le_of_lt hlt)] using hown4
        · have e2 := own_is h
          obtain ⟨_, _, e3, hlb, _⟩ := I.out.at (by omega)
          cases e
          cases e3
          rcases hg4 with h4 | h4
          · exact A.out _ _ rfl (e2 ▸ h4)
          · rw [size_al] at h4; omega
      case measure => simp [intOf]; omega
    · obtain rfl : k = J.length := by omega
      rw [List.take_of_length_le (Nat.le_refl _), ← E0.out] at O
      clear hbel his hown hap
      go_wp2
      go_ret2
      exact ⟨_, by rw [E1.out]; rfl, O.out, B.out⟩
set_option maxHeartbeats 6400000 in
set_option maxRecDepth 100000 in
theorem specKeeperIn_any (a : Option Addr) (len cap : Nat) (xs : List VMaker) (id y : Int) (w : World) (h : IsMakerS w a len cap xs) (_ : xs.length ≤ 1048576) (_ : ∀ s ∈ xs, s.sized) :
    Calls Try.prog 28 #[.slice a len cap, .int .i64 id, .int .i64 y] w (KeeperIn_Post xs id y w) := by
  have hm := h.2.2.1
  have hcl := h.2.1
  unfold maxLen at hm
  obtain rfl := h.1
  have S := Lib.hid h
  clear h
  rcases mkSel_ways xs id with ⟨h1, h2⟩ | ⟨h1, h2, h3⟩ | ⟨i, s0, h1, h2, h3, h4, h5, _⟩
  · have E := Lib.hid (show KeeperIn_0 xs id y = 0 ∧ KeeperIn_1 xs id y = false from by have e : KeeperIn_0 xs id y = 0 := (by unfold KeeperIn_0; rw [lineMk_none h2]; simp [keep]); exact ⟨e, by unfold KeeperIn_1; rw [e]; rfl⟩)
    have H1 := Lib.hid h1
    clear h1 h2
    go_enter Try.func28, Try.ntmps28
    go_wp2_with fail
    refine (l7Find_any _ _ _ xs id _ S.out).mono ?_
    rintro e w' ⟨rfl, rfl⟩
    obtain ⟨z, hz⟩ : ∃ z, mkIdx xs id = z := ⟨_, rfl⟩
    rw [hz]
    clear hz
    go_wp2_with fail
    refine (l7Good_any _ _ _ xs _ S.out).mono ?_
    rintro e w1 ⟨rfl, hb⟩
    rw [H1.out]
    have B1 := Lib.hid hb
    clear hb
    go_wp2
    go_ret2
    exact ⟨by rw [E.out.1, E.out.2]; rfl, B1.out⟩
  · have E := Lib.hid (show KeeperIn_0 xs id y = 0 ∧ KeeperIn_1 xs id y = false from by have e : KeeperIn_0 xs id y = 0 := (by unfold KeeperIn_0; rw [lineMk_none h3]; simp [keep]); exact ⟨e, by unfold KeeperIn_1; rw [e]; rfl⟩)
    have H1 := Lib.hid h1
    have H2 := Lib.hid h2
    clear h1 h2 h3
    go_enter Try.func28, Try.ntmps28
    go_wp2_with fail
    refine (l7Find_any _ _ _ xs id _ S.out).mono ?_
    rintro e w' ⟨rfl, rfl⟩
    rw [H2.out]
    go_wp2_with fail
    refine (l7Good_any _ _ _ xs _ S.out).mono ?_
    rintro e w1 ⟨rfl, hb⟩
    rw [H1.out]
    have B1 := Lib.hid hb
    clear hb
    go_wp2
    go_ret2
    exact ⟨by rw [E.out.1, E.out.2]; rfl, B1.out⟩
  have H1 := Lib.hid h1
  have H2 := Lib.hid h2
  have JB := Lib.hid (lineI_in (xs := xs) h5)
  have JL := lineI_len xs i
  have H5 := Lib.hid h5
  have LI := Lib.hid (lineMk_idx h3)
  have OKL := Lib.hid (lineMk_ok xs id)
  have hi00 : ¬ (i : Int) < 0 := by omega
  obtain ⟨q, hq⟩ : ∃ q, yearB y = q := ⟨_, rfl⟩
  have Q := Lib.hid hq
  clear hq
  clear h1 h2 h3 h4 h5
  go_enter Try.func28, Try.ntmps28
  go_wp2_with fail
  refine (l7Find_any _ _ _ xs id _ S.out).mono ?_
  rintro e w' ⟨rfl, rfl⟩
  rw [H2.out]
  go_wp2_with fail
  refine (l7Good_any _ _ _ xs _ S.out).mono ?_
  rintro e w1 ⟨rfl, hb⟩
  rw [H1.out]
  have B1 := Lib.hid hb
  have S1 := Lib.hid (S.out.below hb)
  clear hb
  go_wp2_with fail
  refine (l7Year_any _ _).mono ?_
  rintro e w' ⟨rfl, rfl⟩
  rw [Q.out]
  cases q
  · have E := Lib.hid (show KeeperIn_0 xs id y = 0 from by unfold KeeperIn_0; rw [Q.out]; rfl)
    go_wp2
    go_ret2
    exact ⟨by unfold KeeperIn_1; rw [E.out]; rfl, B1.out⟩
  go_wp2_with fail
  refine (l7Line_any _ _ _ xs i _ S1.out H1.out H5.out).mono ?_
  rintro e w2 ⟨v, rfl, hown, hb⟩
  have B2 := Lib.hid (Below.then' B1.out hb)
  have S2 := Lib.hid (S1.out.below hb)
  obtain ⟨a1, c1, rfl, his, _⟩ := isInts_own hown
  have I2 := Lib.hid his
  rw [asInts_len] at I2 ⊢
  obtain ⟨J, hJ⟩ : ∃ J, lineI xs i = J := ⟨_, rfl⟩
  rw [hJ] at I2 JB JL LI ⊢
  clear hown his hb hJ
  go_wp2
  have E0 := Lib.hid (show KeeperIn_0 xs id y = keep y (J.map (mkAt xs)) from by unfold KeeperIn_0; rw [Q.out, LI.out]; rfl)
  go_loopw [11, 10] (fun i g wr => ∃ k : Nat, k ≤ J.length ∧ i = .int .i64 k ∧ g = .int .i64 (keep y ((J.take k).map (mkAt xs))) ∧ w2 = wr) (fun i _ _ => J.length - (intOf i).toNat)
  case atStart => exact ⟨0, Nat.zero_le _, rfl, rfl, rfl⟩
  case round =>
    obtain ⟨k, hk, rfl, rfl, rfl⟩ := hrel
    by_cases hlt : k < J.length
    · obtain ⟨j, hj⟩ : ∃ j, J[k]? = some j := ⟨J[k]'hlt, List.getElem?_eq_getElem _⟩
      obtain ⟨b1, o1, rfl, _, p0⟩ := isInts_get I2.out hj
      have hjl := JB.out j (List.mem_of_getElem? hj)
      obtain ⟨s, hs⟩ : ∃ s, xs[j]? = some s := ⟨xs[j]'hjl, List.getElem?_eq_getElem _⟩
      obtain ⟨b, o, rfl, hbw, hat⟩ := S2.out.at (by omega)
      obtain ⟨d0, d1, d2, d3, d4, _⟩ := hat j s hs
      have T := Lib.hid (show keep y ((J.take (k + 1)).map (mkAt xs)) = if s.From ≤ y then s.Id else keep y ((J.take k).map (mkAt xs)) from by
        rw [List.take_add_one, hj, List.map_append]
        show keep y (_ ++ [mkAt xs j]) = _
        rw [keep_snoc, mkAt_some hs])
      obtain ⟨g, hg⟩ : ∃ g, keep y ((J.take k).map (mkAt xs)) = g := ⟨_, rfl⟩
      rw [hg] at T ⊢
      have hi0 : (0 : Int) ≤ (k : Int) := by omega
      have hi1 : (k : Int) < (J.length : Int) := by omega
      have hj0 : (0 : Int) ≤ (j : Int) := by omega
      have hj1 : (j : Int) < (xs.length : Int) := by omega
      clear hat hs hj hg
      by_cases hle : s.From ≤ y
      · rw [if_pos hle] at T
        go_wp2
        go_roundw
        case rel => exact ⟨k + 1, by omega, by go_num, by rw [T.out], (by first | rfl | trivial)⟩
        case measure => simp [intOf]; omega
      · rw [if_neg hle] at T
        have hlt2 : y < s.From := by omega
        go_wp2
        go_roundw
        case rel => exact ⟨k + 1, by omega, by go_num, by rw [T.out], (by first | rfl | trivial)⟩
        case measure => simp [intOf]; omega
    · obtain rfl : k = J.length := by omega
      rw [List.take_of_length_le (Nat.le_refl _), ← E0.out]
      obtain ⟨g, hg⟩ : ∃ g, KeeperIn_0 xs id y = g := ⟨_, rfl⟩
      rw [hg]
      have G := Lib.hid hg
      clear hg
      go_wp2
      go_ret2
      exact ⟨by unfold KeeperIn_1; rw [G.out]; rfl, B2.out⟩
set_option maxHeartbeats 6400000 in
set_option maxRecDepth 100000 in
theorem specGapYears_any (a : Option Addr) (len cap : Nat) (xs : List VMaker) (id : Int) (w : World) (h : IsMakerS w a len cap xs) (_ : xs.length ≤ 1048576) (_ : ∀ s ∈ xs, s.sized) :
    Calls Try.prog 52 #[.slice a len cap, .int .i64 id] w (GapYears_Post xs id w) := by
  have hm := h.2.2.1
  have hcl := h.2.1
  unfold maxLen at hm
  obtain rfl := h.1
  have S := Lib.hid h
  clear h
  rcases mkSel_ways xs id with ⟨h1, h2⟩ | ⟨h1, h2, h3⟩ | ⟨i, s0, h1, h2, h3, h4, h5, _⟩
  · have E := Lib.hid (show GapYears_0 xs id = 0 ∧ GapYears_1 xs id = false from by exact ⟨by unfold GapYears_0; rw [lineMk_none h2]; rfl, by unfold GapYears_1; rw [h2]; rfl⟩)
    have H1 := Lib.hid h1
    clear h1 h2
    go_enter Try.func52, Try.ntmps52
    go_wp2_with fail
    refine (l7Find_any _ _ _ xs id _ S.out).mono ?_
    rintro e w' ⟨rfl, rfl⟩
    obtain ⟨z, hz⟩ : ∃ z, mkIdx xs id = z := ⟨_, rfl⟩
    rw [hz]
    clear hz
    go_wp2_with fail
    refine (l7Good_any _ _ _ xs _ S.out).mono ?_
    rintro e w1 ⟨rfl, hb⟩
    rw [H1.out]
    have B1 := Lib.hid hb
    clear hb
    go_wp2
    go_ret2
    exact ⟨by rw [E.out.1, E.out.2]; rfl, B1.out⟩
  · have E := Lib.hid (show GapYears_0 xs id = 0 ∧ GapYears_1 xs id = false from by exact ⟨by unfold GapYears_0; rw [lineMk_none h3]; rfl, by unfold GapYears_1; rw [h3]; rfl⟩)
    have H1 := Lib.hid h1
    have H2 := Lib.hid h2
    clear h1 h2 h3
    go_enter Try.func52, Try.ntmps52
    go_wp2_with fail
    refine (l7Find_any _ _ _ xs id _ S.out).mono ?_
    rintro e w' ⟨rfl, rfl⟩
    rw [H2.out]
    go_wp2_with fail
    refine (l7Good_any _ _ _ xs _ S.out).mono ?_
    rintro e w1 ⟨rfl, hb⟩
    rw [H1.out]
    have B1 := Lib.hid hb
    clear hb
    go_wp2
    go_ret2
    exact ⟨by rw [E.out.1, E.out.2]; rfl, B1.out⟩
  have H1 := Lib.hid h1
  have H2 := Lib.hid h2
  have JB := Lib.hid (lineI_in (xs := xs) h5)
  have JL := lineI_len xs i
  have H5 := Lib.hid h5
  have LI := Lib.hid (lineMk_idx h3)
  have OKL := Lib.hid (lineMk_ok xs id)
  have hi00 : ¬ (i : Int) < 0 := by omega
  have E1 := Lib.hid (show GapYears_1 xs id = true from by unfold GapYears_1; rw [h3, decide_eq_true (by omega)])
  clear h1 h2 h3 h4 h5
  go_enter Try.func52, Try.ntmps52
  go_wp2_with fail
  refine (l7Find_any _ _ _ xs id _ S.out).mono ?_
  rintro e w' ⟨rfl, rfl⟩
  rw [H2.out]
  go_wp2_with fail
  refine (l7Good_any _ _ _ xs _ S.out).mono ?_
  rintro e w1 ⟨rfl, hb⟩
  rw [H1.out]
  have B1 := Lib.hid hb
  have S1 := Lib.hid (S.out.below hb)
  clear hb
  go_wp2_with fail
  refine (l7Line_any _ _ _ xs i _ S1.out H1.out H5.out).mono ?_
  rintro e w2 ⟨v, rfl, hown, hb⟩
  have B2 := Lib.hid (Below.then' B1.out hb)
  have S2 := Lib.hid (S1.out.below hb)
  obtain ⟨a1, c1, rfl, his, _⟩ := isInts_own hown
  have I2 := Lib.hid his
  rw [asInts_len] at I2 ⊢
  obtain ⟨J, hJ⟩ : ∃ J, lineI xs i = J := ⟨_, rfl⟩
  rw [hJ] at I2 JB JL LI ⊢
  clear hown his hb hJ
  go_wp2
  have E0 := Lib.hid (show GapYears_0 xs id = gaps (J.map (mkAt xs)) from by unfold GapYears_0; rw [LI.out])
  rw [LI.out] at OKL
  go_loopw [9, 8] (fun i g wr => ∃ k : Nat, (k + 1 ≤ J.length ∨ k = 0) ∧ i = .int .i64 ((k + 1 : Nat) : Int) ∧ g = .int .i64 (gapsTo (J.map (mkAt xs)) k) ∧ Below w.heap.size w wr ∧ Below w2.heap.size w2 wr) (fun i _ _ => J.length - (intOf i).toNat)
  case atStart => exact ⟨0, .inr rfl, rfl, rfl, B2.out, Below.refl _ _⟩
  case round =>
    obtain ⟨k, hk, rfl, rfl, hbel, hbel2⟩ := hrel
    have B := Lib.hid hbel
    have BB := Lib.hid hbel2
    by_cases hlt : k + 1 < J.length
    · obtain ⟨j, hj⟩ : ∃ j, J[k + 1]? = some j := ⟨J[k + 1]'hlt, List.getElem?_eq_getElem _⟩
      obtain ⟨q, hq⟩ : ∃ q, J[k]? = some q := ⟨J[k]'(by omega), List.getElem?_eq_getElem _⟩
      obtain ⟨b1, o1, rfl, _, p0⟩ := isInts_get (I2.out.below hbel2) hj
      obtain ⟨b1', o1', eb, _, p1⟩ := isInts_get (I2.out.below hbel2) hq
      cases eb
      have hjl := JB.out j (List.mem_of_getElem? hj)
      have hql := JB.out q (List.mem_of_getElem? hq)
      obtain ⟨s, hs, hsl⟩ := mkAt_get JB.out hj
      obtain ⟨p, hp, hpl⟩ := mkAt_get JB.out hq
      obtain ⟨b, o, rfl, hbw, hat⟩ := (S2.out.below hbel2).at (by omega)
      obtain ⟨c0, c1', c2, c3, c4, _⟩ := hat j s hs
      obtain ⟨d0, d1, d2, d3, d4, _⟩ := hat q p hp
      have hi0 : (0 : Int) ≤ (k : Int) := by omega
      have hi1 : (k : Int) < (J.length : Int) := by omega
      have hi2 : (0 : Int) ≤ (k : Int) + 1 := by omega
      have hi3 : (k : Int) + 1 < (J.length : Int) := by omega
      have hj0 : (0 : Int) ≤ (j : Int) := by omega
      have hj1 : (j : Int) < (xs.length : Int) := by omega
      have hq0 : (0 : Int) ≤ (q : Int) := by omega
      have hq1 : (q : Int) < (xs.length : Int) := by omega
      have g1 := mkOk_iff.1 (OKL.out s (List.mem_of_getElem? hsl))
      have g2 := mkOk_iff.1 (OKL.out p (List.mem_of_getElem? hpl))
      have g0 := gapsTo_bd OKL.out k
      have T := Lib.hid (gapsTo_succ hpl hsl)
      obtain ⟨g, hg⟩ : ∃ g, gapsTo (J.map (mkAt xs)) k = g := ⟨_, rfl⟩
      rw [hg] at T g0 ⊢
      have hw1 : IntKind.i64.wrap (g + s.From) = g + s.From := IntWalk.i64_in _ (by omega)
      have hw2 : IntKind.i64.wrap (g + s.From - p.Until) = g + s.From - p.Until := IntWalk.i64_in _ (by omega)
      have hw3 : IntKind.i64.wrap (g + s.From - p.Until - 1) = g + s.From - p.Until - 1 := IntWalk.i64_in _ (by omega)
      clear hbel hbel2 hs hp hat hg g1 g2 g0 hj hq hsl hpl
      go_wp2
      go_quiet (fail)
      have bd := bel_drawn wr nq
      have BX := Lib.hid (Below.then' B.out bd)
      have BX2 := Lib.hid (Below.then' BB.out bd)
      clear bd
      go_wp2
      go_roundw
      case rel => exact ⟨k + 1, .inl (by omega), by go_num, by rw [T.out]; congr 1; omega, BX.out, BX2.out⟩
      case measure => simp [intOf]; omega
    · have F := Lib.hid (show gapsTo (J.map (mkAt xs)) k = GapYears_0 xs id from by
        rw [E0.out]; unfold gaps
        rw [List.length_map, show J.length - 1 = k from by omega])
      obtain ⟨g, hg⟩ : ∃ g, gapsTo (J.map (mkAt xs)) k = g := ⟨_, rfl⟩
      rw [hg] at F ⊢
      clear hbel hbel2 hg
      go_wp2
      go_ret2
      exact ⟨by rw [← F.out, E1.out]; rfl, B.out⟩
end Go.Proofs.Ytpcibejmahhjiaa
namespace Go.Proofs.Ytpcibejmahhjiaa
open Go.RowKit

set_option maxHeartbeats 800000 in
theorem rBig_any (a : Option Addr) (len cap : Nat) (w : World) :
    Calls Try.prog 15 #[.slice a len cap] w fun e w' => e = .returned (.bool (decide (65536 < len))) ∧ w = w' := by
  by_cases h : 65536 < len
  · go_enter Try.func15, Try.ntmps15
    go_wp2
    go_ret
    exact ⟨ret_bool (by simp; omega), rfl⟩
  · go_enter Try.func15, Try.ntmps15
    go_wp2
    go_ret
    exact ⟨ret_bool (by simp; omega), rfl⟩
theorem bnn (q : Bool) : (q != q) = false := by cases q <;> rfl
set_option maxHeartbeats 1600000 in
set_option maxRecDepth 100000 in
theorem rInts_yes (a : Option Addr) (len cap : Nat) (a' : Option Addr) (len' cap' : Nat) (xs : List Int) (w : World) (h : IsInts w a len cap xs) (h' : IsInts w a' len' cap' xs) :
    Calls Try.prog 21 #[.slice a len cap, .slice a' len' cap'] w fun e w' => e = .returned (.bool true) ∧ Below w.heap.size w w' := by
  obtain rfl := h.1
  obtain rfl := h'.1
  have hm := h.2.2.1
  have hcl := h.2.1
  unfold maxLen at hm
  have S := Lib.hid h
  have S' := Lib.hid h'
  clear h h'
  go_enter Try.func21, Try.ntmps21
  go_wp2
  go_loopw [5] (fun i wr => ∃ k : Nat, k ≤ xs.length ∧ i = .int .i64 k ∧ Below w.heap.size w wr) (fun i _ => xs.length - (intOf i).toNat)
  case atStart => exact ⟨0, Nat.zero_le _, rfl, Below.refl _ _⟩
  case round =>
    obtain ⟨k, hk, rfl, hbel⟩ := hrel
    have B := Lib.hid hbel
    by_cases hlt : k < xs.length
    · obtain ⟨s, hs⟩ : ∃ s, xs[k]? = some s := ⟨xs[k]'hlt, List.getElem?_eq_getElem _⟩
      obtain ⟨b, o, rfl, hb, hat⟩ := (S.out.below hbel).at (by omega)
      obtain ⟨b', o', rfl, hb', hat'⟩ := (S'.out.below hbel).at (by omega)
      have c0 := hat k s hs
      have d0 := hat' k s hs
      have hi0 : (0 : Int) ≤ (k : Int) := by omega
      have hi1 : (k : Int) < (xs.length : Int) := by omega
      clear hbel hs hat hat'
      go_wp2
      go_quiet (fail)
      have B1 := Lib.hid (Below.then' B.out (bel_drawn wr nq))
      go_wp2
      go_roundw
      case rel => exact ⟨k + 1, by omega, by go_num, B1.out⟩
      case measure => simp [intOf]; omega
    · obtain rfl : k = xs.length := by omega
      clear hbel
      go_wp2
      go_ret
      exact ⟨rfl, B.out⟩
def hasB (x : Int) (xs : List Int) : Bool := xs.any fun y => y == x
theorem hasB_iff {x : Int} {xs : List Int} : hasB x xs = true ↔ x ∈ xs := by
  unfold hasB; rw [List.any_eq_true]
  constructor
  · rintro ⟨y, h1, h2⟩; rw [← (by simpa using h2 : y = x)]; exact h1
  · intro h; exact ⟨x, h, by simp⟩
set_option maxHeartbeats 1600000 in
set_option maxRecDepth 100000 in
theorem rHas_any (a : Option Addr) (len cap : Nat) (xs : List Int) (x : Int) (w : World) (h : IsInts w a len cap xs) :
    Calls Try.prog 22 #[.slice a len cap, .int .i64 x] w fun e w' => e = .returned (.bool (hasB x xs)) ∧ w = w' := by
  obtain rfl := h.1
  have hm := h.2.2.1
  have hcl := h.2.1
  unfold maxLen at hm
  have S := Lib.hid h
  clear h
  go_enter Try.func22, Try.ntmps22
  go_wp2
  go_loop [5] (fun i => ∃ k : Nat, k ≤ xs.length ∧ i = .int .i64 k ∧ ∀ j y, j < k → xs[j]? = some y → ¬ y = x) (fun i => xs.length - (intOf i).toNat)
  case atStart => exact ⟨0, Nat.zero_le _, rfl, fun _ _ h => by omega⟩
  case round =>
    obtain ⟨k, hk, rfl, hno⟩ := hrel
    have NO := Lib.hid hno
    clear hno
    by_cases hlt : k < xs.length
    · obtain ⟨s, hs⟩ : ∃ s, xs[k]? = some s := ⟨xs[k]'hlt, List.getElem?_eq_getElem _⟩
      obtain ⟨b, o, rfl, hb, hat⟩ := S.out.at (by omega)
      have c0 := hat k s hs
      have hi0 : (0 : Int) ≤ (k : Int) := by omega
      have hi1 : (k : Int) < (xs.length : Int) := by omega
      have HS := Lib.hid hs
      clear hs hat
      by_cases he : s = x
      · have Y := Lib.hid (show hasB x xs = true from hasB_iff.2 (he ▸ List.mem_of_getElem? HS.out))
        have hb1 : (s == x) = true := by simpa using he
        subst he
        go_wp2
        go_ret
        exact ⟨ret_bool Y.out.symm, rfl⟩
      · have hb1 : (s == x) = false := by simpa using he
        have HE := Lib.hid he
        clear he
        go_wp2
        go_round
        case rel => exact ⟨k + 1, by omega, by go_num, fun j y hj hy => by
          by_cases e : j = k
          · subst e; rw [HS.out] at hy; cases hy; exact HE.out
          · exact NO.out j y (by omega) hy⟩
        case measure => simp [intOf]; omega
    · obtain rfl : k = xs.length := by omega
      have Y := Lib.hid (show hasB x xs = false from by
        rw [← Bool.not_eq_true, hasB_iff]
        intro h
        obtain ⟨j, hj⟩ := List.getElem?_of_mem h
        exact NO.out j x (List.getElem?_eq_some_iff.1 hj).1 hj rfl)
      go_wp2
      go_ret
      exact ⟨ret_bool Y.out.symm, rfl⟩
end Go.Proofs.Ytpcibejmahhjiaa
namespace Go.Proofs.Ytpcibejmahhjiaa
open Go.RowKit

set_option maxHeartbeats 3200000 in
set_option maxRecDepth 100000 in
theorem l1Has_any (a : Option Addr) (len cap : Nat) (xs : List Int) (x : Int) (w : World) (h : IsInts w a len cap xs) :
    Calls Try.prog 63 #[.slice a len cap, .int .i64 x] w fun e w' => e = .returned (.bool (hasB x xs)) ∧ w = w' := by
  obtain rfl := h.1
  have hm := h.2.2.1
  have hcl := h.2.1
  unfold maxLen at hm
  have S := Lib.hid h
  clear h
  go_enter Try.func63, Try.ntmps63
  go_wp2
  go_loop [5] (fun i => ∃ k : Nat, k ≤ xs.length ∧ i = .int .i64 k ∧ ∀ j y, j < k → xs[j]? = some y → ¬ y = x) (fun i => xs.length - (intOf i).toNat)
  case atStart => exact ⟨0, Nat.zero_le _, rfl, fun _ _ h => by omega⟩
  case round =>
    obtain ⟨k, hk, rfl, hno⟩ := hrel
    have NO := Lib.hid hno
    clear hno
    by_cases hlt : k < xs.length
    · obtain ⟨s, hs⟩ : ∃ s, xs[k]? = some s := ⟨xs[k]'hlt, List.getElem?_eq_getElem _⟩
      obtain ⟨b, o, rfl, hb, hat⟩ := S.out.at (by omega)
      have c0 := hat k s hs
      have hi0 : (0 : Int) ≤ (k : Int) := by omega
      have hi1 : (k : Int) < (xs.length : Int) := by omega
      have HS := Lib.hid hs
      clear hs hat
      by_cases he : s = x
      · have Y := Lib.hid (show hasB x xs = true from hasB_iff.2 (he ▸ List.mem_of_getElem? HS.out))
        have hb1 : (s == x) = true := by simpa using he
        subst he
        go_wp2
        go_ret
        exact ⟨ret_bool Y.out.symm, rfl⟩
      · have hb1 : (s == x) = false := by simpa using he
        have HE := Lib.hid he
        clear he
        go_wp2
        go_round
        case rel => exact ⟨k + 1, by omega, by go_num, fun j y hj hy => by
          by_cases e : j = k
          · subst e; rw [HS.out] at hy; cases hy; exact HE.out
          · exact NO.out j y (by omega) hy⟩
        case measure => simp [intOf]; omega
    · obtain rfl : k = xs.length := by omega
      have Y := Lib.hid (show hasB x xs = false from by
        rw [← Bool.not_eq_true, hasB_iff]
        intro h
        obtain ⟨j, hj⟩ := List.getElem?_of_mem h
        exact NO.out j x (List.getElem?_eq_some_iff.1 hj).1 hj rfl)
      go_wp2
      go_ret
      exact ⟨ret_bool Y.out.symm, rfl⟩
end Go.Proofs.Ytpcibejmahhjiaa
namespace Go.Proofs.Ytpcibejmahhjiaa
open Go.RowKit

theorem has_idx {xs : List VMaker} (h : areMk xs = true) {K : List Nat} (hK : ∀ j ∈ K, j < xs.length) {j : Nat} {s : VMaker} (hs : xs[j]? = some s) : ((K.map (mkAt xs)).any fun u => u.Id == s.Id) = hasB (j : Int) (asInts K) := by
  rw [Bool.eq_iff_iff, hasB_iff, List.any_eq_true]
  constructor
  · rintro ⟨t, ht, e⟩
    obtain ⟨q, hq, rfl⟩ := List.mem_map.1 ht
    have hl := hK q hq
    have hg : xs[q]? = some xs[q] := List.getElem?_eq_getElem hl
    rw [mkAt_some hg] at e
    have hid : (xs[q]).Id = s.Id := by simpa using e
    have : q = j := by
      rcases Nat.lt_trichotomy q j with h1 | h1 | h1
      · have := upB_lt (areMk_up h) j q _ _ h1 hg hs; omega
      · exact h1
      · have := upB_lt (areMk_up h) q j _ _ h1 hs hg; omega
    subst this
    unfold asInts
    exact List.mem_map.2 ⟨q, hq, rfl⟩
  · intro hj
    unfold asInts at hj
    obtain ⟨q, hq, e⟩ := List.mem_map.1 hj
    have : q = j := by omega
    subst this
    exact ⟨mkAt xs q, List.mem_map.2 ⟨q, hq, rfl⟩, by rw [mkAt_some hs]; simp⟩
set_option maxHeartbeats 6400000 in
set_option maxRecDepth 100000 in
theorem specFirstCommon_any (a : Option Addr) (len cap : Nat) (xs : List VMaker) (p q : Int) (w : World) (h : IsMakerS w a len cap xs) (_ : xs.length ≤ 1048576) (_ : ∀ s ∈ xs, s.sized) :
    Calls Try.prog 18 #[.slice a len cap, .int .i64 p, .int .i64 q] w (FirstCommon_Post xs p q w) := by
  have hm := h.2.2.1
  have hcl := h.2.1
  unfold maxLen at hm
  obtain rfl := h.1
  have S := Lib.hid h
  clear h
  have FAIL : ∀ C : lineMk xs p = [] ∨ lineMk xs q = [], FirstCommon_0 xs p q = 0 ∧ FirstCommon_1 xs p q = false := by
    intro C
    have hc : comm (lineMk xs p) (lineMk xs q) = none := by
      unfold comm
      rcases C with C | C <;> rw [C] <;> simp
    unfold FirstCommon_0 FirstCommon_1
    rw [hc]; exact ⟨rfl, rfl⟩
  obtain ⟨g, hg⟩ : ∃ g, areMk xs = g := ⟨_, rfl⟩
  have G := Lib.hid hg
  cases g
  · have E := Lib.hid (FAIL (.inl (lineMk_none (by unfold mkSel; rw [hg]; rfl))))
    obtain ⟨x, hx⟩ : ∃ x, mkIdx xs p = x := ⟨_, rfl⟩
    obtain ⟨y, hy⟩ : ∃ y, mkIdx xs q = y := ⟨_, rfl⟩
    have X := Lib.hid hx
    have Y := Lib.hid hy
    clear hg hx hy FAIL
    go_enter Try.func18, Try.ntmps18
    go_wp2_with fail
    refine (l7Find_any _ _ _ xs p _ S.out).mono ?_
    rintro e w' ⟨rfl, rfl⟩
    rw [X.out]
    go_wp2_with fail
    refine (l7Find_any _ _ _ xs q _ S.out).mono ?_
    rintro e w' ⟨rfl, rfl⟩
    rw [Y.out]
    go_wp2_with fail
    refine (l7Good_any _ _ _ xs _ S.out).mono ?_
    rintro e w1 ⟨rfl, hb⟩
    rw [G.out]
    have B1 := Lib.hid hb
    clear hb
    go_wp2
    go_ret2
    exact ⟨by rw [E.out.1, E.out.2]; rfl, B1.out⟩
  have SEL : ∀ z, mkSel xs z = mkIdx xs z := fun z => by unfold mkSel; rw [hg]; rfl
  rcases mkIdx_cases xs p with ⟨h1, _⟩ | ⟨i, s0, h1, hs0, _⟩
  · have E := Lib.hid (FAIL (.inl (lineMk_none (by rw [SEL, h1]))))
    obtain ⟨y, hy⟩ : ∃ y, mkIdx xs q = y := ⟨_, rfl⟩
    have X := Lib.hid h1
    have Y := Lib.hid hy
    clear hg h1 hy FAIL SEL
    go_enter Try.func18, Try.ntmps18
    go_wp2_with fail
    refine (l7Find_any _ _ _ xs p _ S.out).mono ?_
    rintro e w' ⟨rfl, rfl⟩
    rw [X.out]
    go_wp2_with fail
    refine (l7Find_any _ _ _ xs q _ S.out).mono ?_
    rintro e w' ⟨rfl, rfl⟩
    rw [Y.out]
    go_wp2_with fail
    refine (l7Good_any _ _ _ xs _ S.out).mono ?_
    rintro e w1 ⟨rfl, hb⟩
    rw [G.out]
    have B1 := Lib.hid hb
    clear hb
    go_wp2
    go_ret2
    exact ⟨by rw [E.out.1, E.out.2]; rfl, B1.out⟩
  have hi00 : ¬ (i : Int) < 0 := by omega
  rcases mkIdx_cases xs q with ⟨h2, _⟩ | ⟨j, t0, h2, ht0, _⟩
  · have E := Lib.hid (FAIL (.inr (lineMk_none (by rw [SEL, h2]))))
    have X := Lib.hid h1
    have Y := Lib.hid h2
    clear hg h1 h2 FAIL SEL hs0
    go_enter Try.func18, Try.ntmps18
    go_wp2_with fail
    refine (l7Find_any _ _ _ xs p _ S.out).mono ?_
    rintro e w' ⟨rfl, rfl⟩
    rw [X.out]
    go_wp2_with fail
    refine (l7Find_any _ _ _ xs q _ S.out).mono ?_
    rintro e w' ⟨rfl, rfl⟩
    rw [Y.out]
    go_wp2_with fail
    refine (l7Good_any _ _ _ xs _ S.out).mono ?_
    rintro e w1 ⟨rfl, hb⟩
    rw [G.out]
    have B1 := Lib.hid hb
    clear hb
    go_wp2
    go_ret2
    exact ⟨by rw [E.out.1, E.out.2]; rfl, B1.out⟩
  have hj00 : ¬ (j : Int) < 0 := by omega
  have X := Lib.hid h1
  have Y := Lib.hid h2
  have H5 := Lib.hid (List.getElem?_eq_some_iff.1 hs0).1
  have H6 := Lib.hid (List.getElem?_eq_some_iff.1 ht0).1
  have JB := Lib.hid (lineI_in (xs := xs) H5.out)
  have KB := Lib.hid (lineI_in (xs := xs) H6.out)
  have JL := lineI_len xs i
  have KL := lineI_len xs j
  have EC := Lib.hid (show FirstCommon_0 xs p q = (match comm ((lineI xs i).map (mkAt xs)) ((lineI xs j).map (mkAt xs)) with | some m => m.Id | none => 0) ∧ FirstCommon_1 xs p q = (comm ((lineI xs i).map (mkAt xs)) ((lineI xs j).map (mkAt xs))).isSome from by
    unfold FirstCommon_0 FirstCommon_1
    rw [lineMk_idx (i := i) (by rw [SEL, h1]), lineMk_idx (i := j) (by rw [SEL, h2])]; exact ⟨rfl, rfl⟩)
  clear hg h1 h2 hs0 ht0 SEL FAIL
  go_enter Try.func18, Try.ntmps18
  go_wp2_with fail
  refine (l7Find_any _ _ _ xs p _ S.out).mono ?_
  rintro e w' ⟨rfl, rfl⟩
  rw [X.out]
  go_wp2_with fail
  refine (l7Find_any _ _ _ xs q _ S.out).mono ?_
  rintro e w' ⟨rfl, rfl⟩
  rw [Y.out]
  go_wp2_with fail
  refine (l7Good_any _ _ _ xs _ S.out).mono ?_
  rintro e w1 ⟨rfl, hb⟩
  rw [G.out]
  have B1 := Lib.hid hb
  have S1 := Lib.hid (S.out.below hb)
  clear hb
  go_wp2_with fail
  refine (l7Line_any _ _ _ xs i _ S1.out G.out H5.out).mono ?_
  rintro e w2 ⟨v, rfl, hown, hb⟩
  have B2 := Lib.hid (Below.then' B1.out hb)
  have S2 := Lib.hid (S1.out.below hb)
  obtain ⟨a1, c1, rfl, his, _⟩ := isInts_own hown
  have I2 := Lib.hid his
  rw [asInts_len] at I2 ⊢
  clear hown his hb
  go_wp2_with fail
  refine (l7Line_any _ _ _ xs j _ S2.out G.out H6.out).mono ?_
  rintro e w3 ⟨v, rfl, hown, hb⟩
  have B3 := Lib.hid (Below.then' B2.out hb)
  have S3 := Lib.hid (S2.out.below hb)
  have I3 := Lib.hid (I2.out.below hb)
  obtain ⟨a2, c2, rfl, his, _⟩ := isInts_own hown
  have K3 := Lib.hid his
  rw [asInts_len] at K3 ⊢
  obtain ⟨J, hJ⟩ : ∃ J, lineI xs i = J := ⟨_, rfl⟩
  obtain ⟨K, hK⟩ : ∃ K, lineI xs j = K := ⟨_, rfl⟩
  rw [hJ] at I3 JB JL EC ⊢
  rw [hK] at K3 KB KL EC ⊢
  clear hown his hb hJ hK I2
  go_wp2
  go_loopw [12] (fun i wr => ∃ k : Nat, k ≤ J.length ∧ i = .int .i64 k ∧ w3 = wr ∧ ∀ (j : Nat) t, j < k → (J.map (mkAt xs))[j]? = some t → ((K.map (mkAt xs)).any fun u => u.Id == t.Id) = false) (fun i _ => J.length - (intOf i).toNat)
  case atStart => exact ⟨0, Nat.zero_le _, rfl, rfl, fun _ _ h => by omega⟩
  case round =>
    obtain ⟨k, hk, rfl, rfl, hall⟩ := hrel
    have A := Lib.hid hall
    clear hall
    by_cases hlt : k < J.length
    · obtain ⟨n, hn⟩ : ∃ n, J[k]? = some n := ⟨J[k]'hlt, List.getElem?_eq_getElem _⟩
      obtain ⟨b1, o1, rfl, _, p0⟩ := isInts_get I3.out hn
      have hnl := JB.out n (List.mem_of_getElem? hn)
      obtain ⟨s, hs, hsl⟩ := mkAt_get JB.out hn
      obtain ⟨b, o, rfl, hbw, hat⟩ := S3.out.at (by omega)
      obtain ⟨d0, _⟩ := hat n s hs
      have HB := Lib.hid (has_idx G.out KB.out hs)
      have SL := Lib.hid hsl
      obtain ⟨r, hr⟩ : ∃ r, hasB (n : Int) (asInts K) = r := ⟨_, rfl⟩
      rw [hr] at HB
      have R := Lib.hid hr
      have hi0 : (0 : Int) ≤ (k : Int) := by omega
      have hi1 : (k : Int) < (J.length : Int) := by omega
      have hn0 : (0 : Int) ≤ (n : Int) := by omega
      have hn1 : (n : Int) < (xs.length : Int) := by omega
      clear hs hat hn hr hsl
      go_wp2_with fail
      refine (l1Has_any _ _ _ (asInts K) _ _ K3.out).mono ?_
      rintro e w' ⟨rfl, rfl⟩
      rw [R.out]
      cases r
      · go_wp2
        go_roundw
        case rel => exact ⟨k + 1, by omega, by go_num, (by first | rfl | trivial), fun j t hj ht => by
          by_cases e : j = k
          · subst e; rw [SL.out] at ht; cases ht; exact HB.out
          · exact A.out j t (by omega) ht⟩
        case measure => simp [intOf]; omega
      · have C := Lib.hid (comm_some SL.out HB.out A.out)
        go_wp2
        go_ret2
        exact ⟨by rw [EC.out.1, EC.out.2, C.out]; rfl, B3.out⟩
    · obtain rfl : k = J.length := by omega
      have C := Lib.hid (comm_none (l := J.map (mkAt xs)) (o := K.map (mkAt xs)) (fun j t hj ht => A.out j t (by simpa using hj) ht))
      go_wp2
      go_ret2
      exact ⟨by rw [EC.out.1, EC.out.2, C.out]; rfl, B3.out⟩
set_option maxHeartbeats 6400000 in
set_option maxRecDepth 100000 in
theorem specActiveIn_any (a : Option Addr) (len cap : Nat) (xs : List VMaker) (y : Int) (w : World) (h : IsMakerS w a len cap xs) (_ : xs.length ≤ 1048576) (_ : ∀ s ∈ xs, s.sized) :
    Calls Try.prog 42 #[.slice a len cap, .int .i64 y] w (ActiveIn_Post xs y w) := by
  have hm := h.2.2.1
  have hcl := h.2.1
  unfold maxLen at hm
  obtain rfl := h.1
  obtain ⟨i0, hi, hz0, hz1, hz2⟩ := info_parts infoInt
  have B0 := Lib.hid (wh_al1 w (.cells #[] 3))
  have SW := Lib.hid h
  have S := Lib.hid (h.below B0.out)
  have O0 := Lib.hid (made_ids w)
  clear h
  obtain ⟨p, hp⟩ : ∃ p, areMk xs = p := ⟨_, rfl⟩
  obtain ⟨q, hq⟩ : ∃ q, yearB y = q := ⟨_, rfl⟩
  have PP := Lib.hid hp
  have QQ := Lib.hid hq
  clear hp hq
  go_enter Try.func42, Try.ntmps42
  go_wp2_with fail
  refine (l7Good_any _ _ _ xs _ S.out).mono ?_
  rintro e w1 ⟨rfl, hb⟩
  rw [PP.out]
  have B1 := Lib.hid (Below.then' B0.out hb)
  have S1 := Lib.hid (S.out.below hb)
  have O1 := Lib.hid (ownsRow_below O0.out hb)
  clear hb
  cases p
  · have E0 := Lib.hid (show ActiveIn_0 xs y = [] from by unfold ActiveIn_0; rw [PP.out]; rfl)
    have E1 := Lib.hid (show ActiveIn_1 xs y = false from by unfold ActiveIn_1; rw [PP.out]; rfl)
    go_wp2
    go_ret2
    exact ⟨_, by rw [E1.out]; rfl, by rw [E0.out]; exact O1.out, B1.out⟩
  go_wp2_with fail
  refine (l7Year_any _ _).mono ?_
  rintro e w' ⟨rfl, rfl⟩
  rw [QQ.out]
  cases q
  · have E0 := Lib.hid (show ActiveIn_0 xs y = [] from by unfold ActiveIn_0; rw [PP.out, QQ.out]; rfl)
    have E1 := Lib.hid (show ActiveIn_1 xs y = false from by unfold ActiveIn_1; rw [PP.out, QQ.out]; rfl)
    go_wp2
    go_ret2
    exact ⟨_, by rw [E1.out]; rfl, by rw [E0.out]; exact O1.out, B1.out⟩
  have hl10 := areMk_len PP.out
  have E0 := Lib.hid (show ActiveIn_0 xs y = (xs.filter (actB y)).map VMaker.Id from by unfold ActiveIn_0; rw [PP.out, QQ.out]; rfl)
  have E1 := Lib.hid (show ActiveIn_1 xs y = true from by unfold ActiveIn_1; rw [PP.out, QQ.out]; rfl)
  go_wp2
  go_loopw [7, 6] (fun i o wr => ∃ k : Nat, k ≤ xs.length ∧ i = .int .i64 k ∧ wr.ownsRow w.heap.size 3 1 o (((xs.take k).filter (actB y)).map VMaker.Id).length (intCells (((xs.take k).filter (actB y)).map VMaker.Id)) ∧ Below w.heap.size w wr) (fun i _ _ => xs.length - (intOf i).toNat)
  case atStart => exact ⟨0, Nat.zero_le _, rfl, O1.out, B1.out⟩
  case round =>
    obtain ⟨k, hk, rfl, hown, hbel⟩ := hrel
    have O := Lib.hid hown
    have B := Lib.hid hbel
    clear hown
    by_cases hlt : k < xs.length
    · obtain ⟨s, hs⟩ : ∃ s, xs[k]? = some s := ⟨xs[k]'hlt, List.getElem?_eq_getElem _⟩
      obtain ⟨b, o, rfl, hbw, hat⟩ := (SW.out.below hbel).at (by omega)
      obtain ⟨c0, c1, c2, c3, c4, _⟩ := hat k s hs
      have HS := Lib.hid hs
      have FS := Lib.hid (where_more (actB y) VMaker.Id hs)
      have hgl := where_len (actB y) VMaker.Id xs k
      obtain ⟨G, hG⟩ : ∃ G, ((xs.take k).filter (actB y)).map VMaker.Id = G := ⟨_, rfl⟩
      have O2 := O.out
      rw [hG] at O2 FS hgl
      have O := Lib.hid O2
      obtain ⟨r, hr⟩ : ∃ r, actB y s = r := ⟨_, rfl⟩
      have RR := Lib.hid hr
      have LI := Lib.hid (fun W : World => (l1In_any y s.From s.Until W).mono (fun e w' h => (⟨by rw [h.1]; exact congrArg (fun q => Ending.returned (.bool q)) hr, by rw [← h.2]; exact Below.refl _ _⟩ : e = .returned (.bool r) ∧ Below W.heap.size W w')))
      have k0 := cell_regrown c0
      have k2 := cell_regrown c2
      have k3 := cell_regrown c3
      have hi0 : (0 : Int) ≤ (k : Int) := by omega
      have hi1 : (k : Int) < (xs.length : Int) := by omega
      clear hs hat hbel hG hr O2 c0 c1 c2 c3 c4
      have cQ := below_at (W := wr) (fun W' _ => LI.out W')
      go_wp2
      refine wp_region_quiet_below (by kernel_rfl) (by kernel_rfl) ?_
      repeat (first | go_big_quiet_step (exact cQ _ _) | quiet_step (exact cQ _ _))
      refine wpQuiet_nil ?_
      intro W2 hw2
      have hb2 := below_of_re hw2
      have B2 := Lib.hid (Below.then' B.out hb2)
      have O2 := Lib.hid (ownsRow_below O.out hb2)
      obtain ⟨_, _, eb, _, hat⟩ := (SW.out.below B2.out).at (by omega)
      cases eb
      obtain ⟨c0, _⟩ := hat k s HS.out
      have hsz := B2.out.size
      clear hw2 cQ k0 k2 k3 hb2 hat
      cases r
      · go_wp2
        go_roundw
        case rel => exact ⟨k + 1, by omega, by go_num, by rw [FS.out, RR.out]; simpa using O2.out, B2.out⟩
        case measure => simp [intOf]; omega
      · have hown3 := O2.out.alloc (.cells #[.int .i64 s.Id] 3)
        go_wp2_with (at_builtin; refine wpList_append_own _ rfl _ _ 29 rfl w.heap.size 3 i0 (.int .i64 0) 1 8 Try.underlying29 hi hz0 hz1 hz2 rfl (by decide) _ _ _ rfl hown3 ⟨W2.heap.size, 0, none⟩ 1 1 [.int .i64 s.Id] rfl rfl (cell_one _ _ _) (fun x hx => by simp at hx; subst hx; rfl) (by unfold maxLen; omega) (by omega) (by simp; omega) ?_; intro v' w4 hown' hgrow4 hnil4)
        go_roundw
        case rel =>
          refine ⟨k + 1, by omega, by go_num, ?_, (Below.then' B2.out (wh_al1 _ _)).grown hgrow4 (by simp; omega) (fun j e => (hown3.lt j e).1)⟩
          rw [FS.out, RR.out, if_pos rfl, intCells_snoc]
          simpa using hown'
        case measure => simp [intOf]; omega
    · obtain rfl : k = xs.length := by omega
      have O2 := O.out
      rw [List.take_of_length_le (Nat.le_refl _), ← E0.out] at O2
      have O3 := Lib.hid O2
      clear O2 hbel
      go_wp2
      go_ret2
      exact ⟨_, by rw [E1.out]; rfl, O3.out, B.out⟩
end Go.Proofs.Ytpcibejmahhjiaa
namespace Go.Proofs.Ytpcibejmahhjiaa
open Go.RowKit

theorem any_more {α : Type} {xs : List α} {k : Nat} {s : α} (f : α → Bool) (hs : xs[k]? = some s) : (xs.take (k + 1)).any f = ((xs.take k).any f || f s) := by
  rw [List.take_add_one, hs, List.any_append]; simp
set_option maxHeartbeats 6400000 in
set_option maxRecDepth 100000 in
theorem specFounderIds_any (a : Option Addr) (len cap : Nat) (xs : List VMaker) (w : World) (h : IsMakerS w a len cap xs) (_ : xs.length ≤ 1048576) (_ : ∀ s ∈ xs, s.sized) :
    Calls Try.prog 44 #[.slice a len cap] w (FounderIds_Post xs w) := by
  have hm := h.2.2.1
  have hcl := h.2.1
  unfold maxLen at hm
  obtain rfl := h.1
  obtain ⟨i0, hi, hz0, hz1, hz2⟩ := info_parts infoInt
  have B0 := Lib.hid (wh_al1 w (.cells #[] 3))
  have SW := Lib.hid h
  have S := Lib.hid (h.below B0.out)
  have O0 := Lib.hid (made_ids w)
  clear h
  obtain ⟨p, hp⟩ : ∃ p, areMk xs = p := ⟨_, rfl⟩
  have PP := Lib.hid hp
  clear hp
  go_enter Try.func44, Try.ntmps44
  go_wp2_with fail
  refine (l7Good_any _ _ _ xs _ S.out).mono ?_
  rintro e w1 ⟨rfl, hb⟩
  rw [PP.out]
  have B1 := Lib.hid (Below.then' B0.out hb)
  have O1 := Lib.hid (ownsRow_below O0.out hb)
  clear hb
  cases p
  · have E0 := Lib.hid (show FounderIds_0 xs = [] from by unfold FounderIds_0; rw [PP.out]; rfl)
    have E1 := Lib.hid (show FounderIds_1 xs = false from by unfold FounderIds_1; rw [PP.out])
    go_wp2
    go_ret2
    exact ⟨_, by rw [E1.out]; rfl, by rw [E0.out]; exact O1.out, B1.out⟩
  have hl10 := areMk_len PP.out
  have E0 := Lib.hid (show FounderIds_0 xs = (xs.filter (founderB xs)).map VMaker.Id from by unfold FounderIds_0; rw [PP.out]; rfl)
  have E1 := Lib.hid (show FounderIds_1 xs = true from by unfold FounderIds_1; rw [PP.out])
  go_wp2
  go_loopw [5, 4] (fun i o wr => ∃ (k : Nat) (ov : Value), k ≤ xs.length ∧ i = .int .i64 k ∧ ov = o ∧ wr.ownsRow w.heap.size 3 1 o (((xs.take k).filter (founderB xs)).map VMaker.Id).length (intCells (((xs.take k).filter (founderB xs)).map VMaker.Id)) ∧ Below w.heap.size w wr) (fun i _ _ => xs.length - (intOf i).toNat)
  case atStart => exact ⟨0, _, Nat.zero_le _, rfl, rfl, O1.out, B1.out⟩
  case round =>
    obtain ⟨k, ov, hk, rfl, rfl, hown, hbel⟩ := hrel
    have O := Lib.hid hown
    have B := Lib.hid hbel
    clear hown
    by_cases hlt : k < xs.length
    · obtain ⟨s, hs⟩ : ∃ s, xs[k]? = some s := ⟨xs[k]'hlt, List.getElem?_eq_getElem _⟩
      have HS := Lib.hid hs
      have FS := Lib.hid (where_more (founderB xs) VMaker.Id hs)
      have FB := Lib.hid (show founderB xs s = !(xs.any fun o => o.Heir == s.Id) from rfl)
      have hgl := where_len (founderB xs) VMaker.Id xs k
      obtain ⟨G, hG⟩ : ∃ G, ((xs.take k).filter (founderB xs)).map VMaker.Id = G := ⟨_, rfl⟩
      have O2 := O.out
      rw [hG] at O2 FS hgl
      have O := Lib.hid O2
      have hi0 : (0 : Int) ≤ (k : Int) := by omega
      have hi1 : (k : Int) < (xs.length : Int) := by omega
      clear hs hbel hG O2
      rename World => w0
      go_wp2
      go_loopw [7, 6] (fun j g wq => ∃ m : Nat, m ≤ xs.length ∧ j = .int .i64 m ∧ g = .bool ((xs.take m).any fun o => o.Heir == s.Id) ∧ wq.ownsRow w.heap.size 3 1 ov G.length (intCells G) ∧ Below w.heap.size w wq) (fun j _ _ => xs.length - (intOf j).toNat)
      case atStart => exact ⟨0, Nat.zero_le _, rfl, rfl, O.out, B.out⟩
      case round =>
        obtain ⟨m, hmm, rfl, rfl, hown2, hbel2⟩ := hrel
        have OQ := Lib.hid hown2
        have BQ := Lib.hid hbel2
        by_cases hlm : m < xs.length
        · obtain ⟨t, ht⟩ : ∃ t, xs[m]? = some t := ⟨xs[m]'hlm, List.getElem?_eq_getElem _⟩
          obtain ⟨b, o, rfl, hbw, hat⟩ := (SW.out.below hbel2).at (by omega)
          obtain ⟨c0, c1, c2, c3, c4, _⟩ := hat m t ht
          obtain ⟨d0, d1, d2, d3, d4, _⟩ := hat k s HS.out
          have AM := Lib.hid (any_more (fun o : VMaker => o.Heir == s.Id) ht)
          have hj0 : (0 : Int) ≤ (m : Int) := by omega
          have hj1 : (m : Int) < (xs.length : Int) := by omega
          obtain ⟨g, hg⟩ : ∃ g, ((xs.take m).any fun o => o.Heir == s.Id) = g := ⟨_, rfl⟩
          obtain ⟨r, hr⟩ : ∃ r, (t.Heir == s.Id) = r := ⟨_, rfl⟩
          rw [hg] at AM ⊢
          have R := Lib.hid hr
          have AR := Lib.hid (show ((xs.take (m + 1)).any fun o => o.Heir == s.Id) = (g || r) from by rw [AM.out, hr])
          clear hown2 hbel2 ht hat hg AM
          cases g
          · go_wp2
            go_quiet (fail)
            have bd := bel_drawn wr nq
            have BX := Lib.hid (Below.then' BQ.out bd)
            have OX := Lib.hid (ownsRow_below OQ.out bd)
            clear bd
            go_wp2
            go_roundw
            case rel => exact ⟨m + 1, by omega, by go_num, by rw [AR.out, ← R.out]; rfl, OX.out, BX.out⟩
            case measure => simp [intOf]; omega
          · go_wp2
            go_quiet (fail)
            have bd := bel_drawn wr nq
            have BX := Lib.hid (Below.then' BQ.out bd)
            have OX := Lib.hid (ownsRow_below OQ.out bd)
            clear bd
            go_wp2
            go_roundw
            case rel => exact ⟨m + 1, by omega, by go_num, by rw [AR.out]; rfl, OX.out, BX.out⟩
            case measure => simp [intOf]; omega
        · obtain rfl : m = xs.length := by omega
          rw [List.take_of_length_le (Nat.le_refl _)]
          obtain ⟨b, o, rfl, hbw, hat⟩ := (SW.out.below hbel2).at (by omega)
          obtain ⟨d0, _⟩ := hat k s HS.out
          obtain ⟨g, hg⟩ : ∃ g, (xs.any fun o => o.Heir == s.Id) = g := ⟨_, rfl⟩
          rw [hg] at FB ⊢
          have hsz := BQ.out.size
          clear hown2 hbel2 hat hg
          cases g
          · have hown3 := OQ.out.alloc (.cells #[.int .i64 s.Id] 3)
            go_wp2_with (at_builtin; refine wpList_append_own _ rfl _ _ 29 rfl w.heap.size 3 i0 (.int .i64 0) 1 8 Try.underlying29 hi hz0 hz1 hz2 rfl (by decide) _ _ _ rfl hown3 ⟨_, 0, none⟩ 1 1 [.int .i64 s.Id] rfl rfl (cell_one _ _ _) (fun x hx => by simp at hx; subst hx; rfl) (by unfold maxLen; omega) (by omega) (by simp; omega) ?_; intro v' w4 hown' hgrow4 hnil4)
            go_roundw
            case rel =>
              refine ⟨k + 1, _, by omega, by go_num, rfl, ?_, (Below.then' BQ.out (wh_al1 _ _)).grown hgrow4 (by simp; omega) (fun j e => (hown3.lt j e).1)⟩
              rw [FS.out, FB.out, if_pos (show (!false) = true from rfl), intCells_snoc]
              simpa using hown'
            case measure => simp [intOf]; omega
          · go_wp2
            go_roundw
            case rel => exact ⟨k + 1, _, by omega, by go_num, rfl, by rw [FS.out, FB.out]; simpa using OQ.out, BQ.out⟩
            case measure => simp [intOf]; omega
    · obtain rfl : k = xs.length := by omega
      have O2 := O.out
      rw [List.take_of_length_le (Nat.le_refl _), ← E0.out] at O2
      have O3 := Lib.hid O2
      clear O2 hbel
      go_wp2
      go_ret2
      exact ⟨_, by rw [E1.out]; rfl, O3.out, B.out⟩
end Go.Proofs.Ytpcibejmahhjiaa
namespace Go.Proofs.Ytpcibejmahhjiaa
open Go.RowKit

theorem pick_take {xs : List VMaker} {k : Nat} {s : VMaker} (h0 : 0 < k) (hs : xs[k]? = some s) : longestMk (xs.take (k + 1)) = if mkWork (longestMk (xs.take k)) < mkWork s then s else longestMk (xs.take k) := by
  unfold longestMk
  rw [pickB_take _ _ h0 hs]
  simp only [decide_eq_true_eq]
theorem pick_first {xs : List VMaker} {s : VMaker} (hs : xs[0]? = some s) : longestMk (xs.take 1) = s := by
  unfold longestMk
  rw [show (1 : Nat) = 0 + 1 from rfl, take_one hs]; rfl
set_option maxHeartbeats 6400000 in
set_option maxRecDepth 100000 in
theorem specLongestMaker_any (a : Option Addr) (len cap : Nat) (xs : List VMaker) (w : World) (h : IsMakerS w a len cap xs) (_ : xs.length ≤ 1048576) (_ : ∀ s ∈ xs, s.sized) :
    Calls Try.prog 54 #[.slice a len cap] w (LongestMaker_Post xs w) := by
  have hm := h.2.2.1
  have hcl := h.2.1
  unfold maxLen at hm
  obtain rfl := h.1
  have S := Lib.hid h
  clear h
  obtain ⟨q, hq⟩ : ∃ q, areMk xs = q := ⟨_, rfl⟩
  have Q := Lib.hid hq
  clear hq
  by_cases h0 : xs = []
  · subst h0
    have E := Lib.hid (show mkSome ([] : List VMaker) = false from by unfold mkSome; simp)
    go_enter Try.func54, Try.ntmps54
    go_wp2_with fail
    refine (l7Good_any _ _ _ [] _ S.out).mono ?_
    rintro e w1 ⟨rfl, hb⟩
    rw [Q.out]
    have B1 := Lib.hid hb
    clear hb
    cases q
    · go_wp2
      go_ret3
      exact ⟨by unfold LongestMaker_0 LongestMaker_1 LongestMaker_2; rw [E.out]; rfl, B1.out⟩
    · go_wp2
      go_ret3
      exact ⟨by unfold LongestMaker_0 LongestMaker_1 LongestMaker_2; rw [E.out]; rfl, B1.out⟩
  have hp : 0 < xs.length := by cases xs with | nil => exact absurd rfl h0 | cons => simp
  have HP := Lib.hid hp
  have hp2 : ¬ xs.length = 0 := by omega
  have hp3 : ((xs.length : Int) == 0) = false := by simp; exact h0
  go_enter Try.func54, Try.ntmps54
  go_wp2_with fail
  refine (l7Good_any _ _ _ xs _ S.out).mono ?_
  rintro e w1 ⟨rfl, hb⟩
  rw [Q.out]
  have B1 := Lib.hid hb
  have S1 := Lib.hid (S.out.below hb)
  clear hb
  cases q
  · have E := Lib.hid (show mkSome xs = false from by unfold mkSome; rw [Q.out]; rfl)
    go_wp2
    go_ret3
    exact ⟨by unfold LongestMaker_0 LongestMaker_1 LongestMaker_2; rw [E.out]; rfl, B1.out⟩
  have E := Lib.hid (show mkSome xs = true from by unfold mkSome; rw [Q.out, decide_eq_true hp]; rfl)
  go_wp2
  clear hp2 hp3 hp h0
  go_loopw [7, 5, 6] (fun i b m wr => ∃ (k : Nat) (bv mv : Int), k ≤ xs.length ∧ i = .int .i64 k ∧ b = .int .i64 bv ∧ m = .int .i64 mv ∧ ((k = 0 ∧ bv = 0 ∧ mv = 0) ∨ (0 < k ∧ bv = (longestMk (xs.take k)).Id ∧ mv = mkWork (longestMk (xs.take k)))) ∧ Below w.heap.size w wr) (fun i _ _ _ => xs.length - (intOf i).toNat)
  case atStart => exact ⟨0, 0, 0, Nat.zero_le _, rfl, rfl, rfl, .inl ⟨rfl, rfl, rfl⟩, B1.out⟩
  case round =>
    obtain ⟨k, bv, mv, hk, rfl, rfl, rfl, hr, hbel⟩ := hrel
    have B := Lib.hid hbel
    have R := Lib.hid hr
    clear hr
    by_cases hlt : k < xs.length
    · obtain ⟨s, hs⟩ : ∃ s, xs[k]? = some s := ⟨xs[k]'hlt, List.getElem?_eq_getElem _⟩
      have HS := Lib.hid hs
      obtain ⟨b, o, rfl, hbw, hat⟩ := (S.out.below hbel).at (by omega)
      obtain ⟨c0, c1, c2, c3, c4, _⟩ := hat k s hs
      have o1 := mkOk_iff.1 (areMk_ok Q.out (List.mem_of_getElem? hs))
      have hw1 : IntKind.i64.wrap (s.Until - s.From) = s.Until - s.From := IntWalk.i64_in _ (by omega)
      have hw2 : IntKind.i64.wrap (s.Until - s.From + 1) = s.Until - s.From + 1 := IntWalk.i64_in _ (by omega)
      have hwk : mkWork s = s.Until - s.From + 1 := rfl
      have hi0 : (0 : Int) ≤ (k : Int) := by omega
      have hi1 : (k : Int) < (xs.length : Int) := by omega
      have WP : 1 ≤ mkWork s := by omega
      have NX := Lib.hid (show ∀ b' m' : Int, (mv < mkWork s ∧ b' = s.Id ∧ m' = mkWork s ∨ ¬ mv < mkWork s ∧ b' = bv ∧ m' = mv) → b' = (longestMk (xs.take (k + 1))).Id ∧ m' = mkWork (longestMk (xs.take (k + 1))) from by
        intro b' m' hh
        rcases R.out with ⟨rfl, rfl, rfl⟩ | ⟨hk0, rfl, rfl⟩
        · rw [pick_first hs]
          rcases hh with ⟨_, rfl, rfl⟩ | ⟨h1, _, _⟩
          · exact ⟨rfl, rfl⟩
          · omega
        · rw [pick_take hk0 hs]
          rcases hh with ⟨h1, rfl, rfl⟩ | ⟨h1, rfl, rfl⟩
          · rw [if_pos h1]; exact ⟨rfl, rfl⟩
          · rw [if_neg h1]; exact ⟨rfl, rfl⟩)
      obtain ⟨n, hn⟩ : ∃ n, mkWork s = n := ⟨_, rfl⟩
      rw [hn] at NX
      have hw3 : s.Until - s.From + 1 = n := by rw [← hn]; rfl
      rw [hw3] at hw2
      clear hbel hs hat o1 hn hwk WP
      by_cases hle : mv < n
      · have N2 := Lib.hid (NX.out s.Id n (.inl ⟨hle, rfl, rfl⟩))
        go_wp2
        go_quiet (fail)
        have bd := bel_drawn wr nq
        have BX := Lib.hid (Below.then' B.out bd)
        obtain ⟨_, _, eb, _, hat⟩ := (S.out.below BX.out).at (by omega)
        cases eb
        obtain ⟨e0, _⟩ := hat k s HS.out
        clear bd hat c0 c1 c2 c3 c4
        go_wp2
        go_roundw
        case rel => exact ⟨k + 1, _, _, by omega, by go_num, rfl, rfl, .inr ⟨by omega, N2.out⟩, BX.out⟩
        case measure => simp [intOf]; omega
      · have N2 := Lib.hid (NX.out bv mv (.inr ⟨hle, rfl, rfl⟩))
        have hle2 : n ≤ mv := by omega
        go_wp2
        go_quiet (fail)
        have bd := bel_drawn wr nq
        have BX := Lib.hid (Below.then' B.out bd)
        clear bd c0 c1 c2 c3 c4
        go_wp2
        go_roundw
        case rel => exact ⟨k + 1, _, _, by omega, by go_num, rfl, rfl, .inr ⟨by omega, N2.out⟩, BX.out⟩
        case measure => simp [intOf]; omega
    · obtain rfl : k = xs.length := by omega
      have RR := Lib.hid (show bv = LongestMaker_0 xs ∧ mv = LongestMaker_1 xs from by
        rcases R.out with ⟨h, _, _⟩ | ⟨_, h1, h2⟩
        · have := HP.out; omega
        · rw [List.take_of_length_le (Nat.le_refl _)] at h1 h2
          unfold LongestMaker_0 LongestMaker_1
          rw [E.out]; exact ⟨h1, h2⟩)
      clear hbel
      go_wp2
      go_ret3
      exact ⟨by rw [← RR.out.1, ← RR.out.2]; unfold LongestMaker_2; rw [E.out]; rfl, B.out⟩
theorem made_ownMk (w : World) (base : Nat) (h : base ≤ w.heap.size) : (w.alloc (.cells #[] 42)).ownsRow base 42 5 (.slice (some ⟨w.heap.size, 0, none⟩) 0 0) ([] : List VMaker).length (cellsMaker []) :=
  World.ownsRow_made (base := base) (e := 42) (size := 5) w #[] 0 h (Nat.zero_le _) rfl
theorem one_Mk (xs : List VMaker) : ∀ u ∈ cellsMaker xs, u.oneCell' = true := by
  intro u hu
  obtain ⟨s, _, hs⟩ := List.mem_flatMap.1 hu
  exact s.vals_one u hs
theorem sized_smallMk {xs : List VMaker} (h : ∀ s ∈ xs, s.sized) : ∀ s ∈ xs, s.small := fun s hs => sized_smallMaker s (h s hs)
theorem ended_year {xs : List VMaker} {i : Nat} {s : VMaker} {y h : Int} (hs : xs[i]? = some s) (hy : yearB y = false) : areMk (xs.set i (ended s y h)) = false := by
  have hi := (List.getElem?_eq_some_iff.1 hs).1
  cases hq : areMk (xs.set i (ended s y h)) with
  | false => rfl
  | true =>
    have := mkOk_iff.1 (areMk_ok hq (List.mem_of_getElem? (List.getElem?_set_self (l := xs) (a := ended s y h) hi)))
    have h2 : (ended s y h).Until = y := rfl
    rw [h2] at this
    have : yearB y = true := by unfold yearB; rw [inB_iff]; omega
    rw [this] at hy; cases hy
set_option maxHeartbeats 12800000 in
set_option maxRecDepth 100000 in
theorem specEndMaker_any (a : Option Addr) (len cap : Nat) (xs : List VMaker) (id y h' : Int) (w : World) (h : IsMakerS w a len cap xs) (_ : xs.length ≤ 1048576) (hz : ∀ s ∈ xs, s.sized) :
    Calls Try.prog 49 #[.slice a len cap, .int .i64 id, .int .i64 y, .int .i64 h'] w (EndMaker_Post xs id y h' w) := by
  have hm := h.2.2.1
  have hcl := h.2.1
  unfold maxLen at hm
  obtain rfl := h.1
  obtain ⟨i0, hi, hz0, hz1, hz2⟩ := info_parts infoMaker
  have S := Lib.hid h
  have HZ := Lib.hid hz
  clear h hz
  rcases mkSel_ways xs id with ⟨h1, h2⟩ | ⟨h1, h2, h3⟩ | ⟨i, s, h1, h2, h3, hs, hil, hsid⟩
  · have E0 := Lib.hid (show EndMaker_0 xs id y h' = [] from by unfold EndMaker_0; rw [endMk_no h2])
    have E1 := Lib.hid (show EndMaker_1 xs id y h' = false from by unfold EndMaker_1; rw [endMk_no h2])
    have H1 := Lib.hid h1
    obtain ⟨z, hz⟩ : ∃ z, mkIdx xs id = z := ⟨_, rfl⟩
    have Z := Lib.hid hz
    clear h1 h2 hz
    go_enter Try.func49, Try.ntmps49
    go_wp2_with fail
    refine (l7Find_any _ _ _ xs id _ S.out).mono ?_
    rintro e w' ⟨rfl, rfl⟩
    rw [Z.out]
    go_wp2_with fail
    refine (l7Good_any _ _ _ xs _ S.out).mono ?_
    rintro e w1 ⟨rfl, hb⟩
    rw [H1.out]
    have B1 := Lib.hid hb
    have O1 := Lib.hid (made_ownMk w1 w.heap.size hb.size)
    clear hb
    go_wp2
    go_ret2
    exact ⟨_, by rw [E1.out]; rfl, by rw [E0.out]; exact O1.out, Below.then' B1.out (bel_al1 _ _)⟩
  · have E0 := Lib.hid (show EndMaker_0 xs id y h' = [] from by unfold EndMaker_0; rw [endMk_no h3])
    have E1 := Lib.hid (show EndMaker_1 xs id y h' = false from by unfold EndMaker_1; rw [endMk_no h3])
    have H1 := Lib.hid h1
    have H2 := Lib.hid h2
    clear h1 h2 h3
    go_enter Try.func49, Try.ntmps49
    go_wp2_with fail
    refine (l7Find_any _ _ _ xs id _ S.out).mono ?_
    rintro e w' ⟨rfl, rfl⟩
    rw [H2.out]
    go_wp2_with fail
    refine (l7Good_any _ _ _ xs _ S.out).mono ?_
    rintro e w1 ⟨rfl, hb⟩
    rw [H1.out]
    have B1 := Lib.hid hb
    have O1 := Lib.hid (made_ownMk w1 w.heap.size hb.size)
    clear hb
    go_wp2
    go_ret2
    exact ⟨_, by rw [E1.out]; rfl, by rw [E0.out]; exact O1.out, Below.then' B1.out (bel_al1 _ _)⟩
  have HE := Lib.hid (endMk_at (y := y) (h := h') h3 hs)
  have H1 := Lib.hid h1
  have H2 := Lib.hid h2
  have HS := Lib.hid hs
  have hi00 : ¬ (i : Int) < 0 := by omega
  have hi0 : (0 : Int) ≤ (i : Int) := by omega
  have hi1 : (i : Int) < (xs.length : Int) := by omega
  obtain ⟨q, hq⟩ : ∃ q, yearB y = q := ⟨_, rfl⟩
  have Q := Lib.hid hq
  clear h1 h2 h3 hs hq hsid
  go_enter Try.func49, Try.ntmps49
  go_wp2_with fail
  refine (l7Find_any _ _ _ xs id _ S.out).mono ?_
  rintro e w' ⟨rfl, rfl⟩
  rw [H2.out]
  go_wp2_with fail
  refine (l7Good_any _ _ _ xs _ S.out).mono ?_
  rintro e w1 ⟨rfl, hb⟩
  rw [H1.out]
  have B1 := Lib.hid hb
  have S1 := Lib.hid (S.out.below hb)
  have sz1 := hb.size
  clear hb
  obtain ⟨b, o, rfl, _, hat⟩ := S1.out.at (by omega)
  obtain ⟨c0, c1, c2, c3, c4, _⟩ := hat i s HS.out
  clear hat
  go_wp2_with fail
  refine (l7Year_any _ _).mono ?_
  rintro e w' ⟨rfl, rfl⟩
  rw [Q.out]
  cases q
  · have E0 := Lib.hid (show EndMaker_0 xs id y h' = [] from by unfold EndMaker_0; rw [HE.out, ended_year HS.out Q.out]; simp)
    have E1 := Lib.hid (show EndMaker_1 xs id y h' = false from by unfold EndMaker_1; rw [HE.out, ended_year HS.out Q.out]; simp)
    have O1 := Lib.hid (made_ownMk w1 w.heap.size sz1)
    go_wp2
    go_ret2
    exact ⟨_, by rw [E1.out]; rfl, by rw [E0.out]; exact O1.out, Below.then' B1.out (bel_al1 _ _)⟩
  by_cases hy : y ≤ s.Until
  · have O0 := made_ownMk w1 w.heap.size sz1
    have SRC := srcMaker (S1.out.below (bel_al1 w1 (.cells #[] 42)))
    have SMX := Lib.hid (sized_smallMk HZ.out)
    have BA := Lib.hid (Below.then' B1.out (bel_al1 w1 (.cells #[] 42)))
    have SR := Lib.hid (show ∀ t ∈ xs.set i (ended s y h'), t.sized from fun t ht => (List.mem_or_eq_of_mem_set ht).elim (HZ.out t) (fun e => by
      subst e
      have := HZ.out s (List.mem_of_getElem? HS.out)
      unfold VMaker.sized at this ⊢
      exact this))
    go_wp2_with (at_builtin; refine wpList_append_list rfl _ _ 24 rfl w.heap.size 42 i0 (.agg #[.int .i64 0, .string ByteArray.empty, .int .i64 0, .int .i64 0, .int .i64 0]) 5 48 Try.underlying24 hi hz0 hz1 hz2 rfl (by decide) _ _ _ rfl O0 _ xs.length cap (cellsMaker xs) rfl SRC (one_Mk xs) (by simp; unfold maxLen; omega) (by simp; omega) (by simp; omega) ?_; intro v' w3 hown1 hgrow1; have BG := Lib.hid (BA.out.grown hgrow1 BA.out.size (fun k e => (O0.lt k e).1)); rw [List.length_nil, Nat.zero_add, show cellsMaker [] ++ cellsMaker xs = cellsMaker xs from rfl] at hown1; obtain ⟨g, cap1, rfl, hg, hn, hcap⟩ := own_some hown1 (by omega); obtain ⟨a5, c5, e5, his, _⟩ := isMakerS_own hown1 SMX.out; cases e5; obtain ⟨b5, o5, e5, _, hat⟩ := his.at (by omega); cases e5; obtain ⟨d0, d1, d2, d3, d4, _⟩ := hat i s HS.out; simp only [Nat.zero_add] at d0 d1 d2 d3 d4; have hgl := (hown1.lt g rfl).2; have f0 := hown1.frozenAt (i * 5); have f1 := hown1.frozenAt (i * 5 + 1); have f2 := hown1.frozenAt (i * 5 + 2); have f3 := hown1.frozenAt (i * 5 + 3); have f4 := hown1.frozenAt (i * 5 + 4); obtain ⟨u0, k0⟩ := own_cell hown1 (i * 5) (by rw [cellsMaker_len]; omega); obtain ⟨u1, k1⟩ := own_cell hown1 (i * 5 + 1) (by rw [cellsMaker_len]; omega); obtain ⟨u2, k2⟩ := own_cell hown1 (i * 5 + 2) (by rw [cellsMaker_len]; omega); obtain ⟨u3, k3⟩ := own_cell hown1 (i * 5 + 3) (by rw [cellsMaker_len]; omega); obtain ⟨u4, k4⟩ := own_cell hown1 (i * 5 + 4) (by rw [cellsMaker_len]; omega); have O1 := Lib.hid hown1; clear hgrow1 hown1 his hat k0 k1 k2 k3 k4)
    have h5 := own_setMaker O1.out hil (ended s y h')
    have B5 := BG.out.grown h5.2 BG.out.size (fun k e => by cases e; omega)
    have hown5 := h5.1.alloc (.cells #[.int .i64 s.Id, .string s.Name, .int .i64 s.From, .int .i64 y, .int .i64 h'] 42)
    have B6 := Lib.hid (Below.then' B5 (bel_al1 _ (.cells #[.int .i64 s.Id, .string s.Name, .int .i64 s.From, .int .i64 y, .int .i64 h'] 42)))
    rw [show xs.length = (xs.set i (ended s y h')).length from List.length_set.symm] at hown5
    obtain ⟨a6, c6, e6, his, _⟩ := isMakerS_own hown5 (sized_smallMk SR.out)
    cases e6
    rw [List.length_set] at his
    have S6 := Lib.hid his
    have O6 := Lib.hid hown5
    clear h5 hown5 his B5 f0 f1 f2 f3 f4 d0 d1 d2 d3 d4 c0 c1 c2 c3 c4
    refine (l7Good_any _ _ _ (xs.set i (ended s y h')) _ S6.out).mono ?_
    rintro e w7 ⟨rfl, hb⟩
    have B7 := Lib.hid (Below.then' B6.out hb)
    have O7 := Lib.hid (ownsRow_below O6.out hb)
    clear hb
    obtain ⟨R, hR⟩ : ∃ R, xs.set i (ended s y h') = R := ⟨_, rfl⟩
    rw [hR] at O7 HE ⊢
    have RL := Lib.hid (show R.length = xs.length from by rw [← hR, List.length_set])
    clear hR
    obtain ⟨q, hq⟩ : ∃ q, areMk R = q := ⟨_, rfl⟩
    rw [hq]
    have Q7 := Lib.hid hq
    clear hq
    cases q
    · have E0 := Lib.hid (show EndMaker_0 xs id y h' = [] from by unfold EndMaker_0; rw [HE.out, Q7.out]; simp)
      have E1 := Lib.hid (show EndMaker_1 xs id y h' = false from by unfold EndMaker_1; rw [HE.out, Q7.out]; simp)
      have O8 := Lib.hid (made_ownMk w7 w.heap.size (by have := B7.out.size; omega))
      go_wp2
      go_ret2
      exact ⟨_, by rw [E1.out]; rfl, by rw [E0.out]; exact O8.out, Below.then' B7.out (bel_al1 _ _)⟩
    · have E0 := Lib.hid (show EndMaker_0 xs id y h' = R from by unfold EndMaker_0; rw [HE.out, Q7.out, if_pos ⟨hy, rfl⟩])
      have E1 := Lib.hid (show EndMaker_1 xs id y h' = true from by unfold EndMaker_1; rw [HE.out, Q7.out, if_pos ⟨hy, rfl⟩])
      go_wp2
      go_ret2
      refine ⟨_, by rw [E1.out]; rfl, ?_, B7.out⟩
      rw [E0.out, RL.out]
      have := O7.out
      rw [RL.out] at this
      exact this
  · have hy2 : s.Until < y := by omega
    have E0 := Lib.hid (show EndMaker_0 xs id y h' = [] from by unfold EndMaker_0; rw [HE.out, if_neg (fun h => hy h.1)])
    have E1 := Lib.hid (show EndMaker_1 xs id y h' = false from by unfold EndMaker_1; rw [HE.out, if_neg (fun h => hy h.1)])
    have O1 := Lib.hid (made_ownMk w1 w.heap.size sz1)
    go_wp2
    go_ret2
    exact ⟨_, by rw [E1.out]; rfl, by rw [E0.out]; exact O1.out, Below.then' B1.out (bel_al1 _ _)⟩
end Go.Proofs.Ytpcibejmahhjiaa
