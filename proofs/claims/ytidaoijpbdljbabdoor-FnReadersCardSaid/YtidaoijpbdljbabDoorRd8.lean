/- Readers: who joins. In the model. -/
import Derived.Test.YtidaoijpbdljbabDoorRd7
namespace Go.Proofs.YtidaoijpbdljbabDoor
open Go.RowKit

theorem rdJoin_no (xs : List VReader) (nm : ByteArray) (d : Int) (h : areRd xs = false) : rdJoin xs nm d = ([], 0, false) := by unfold rdJoin; rw [h]; rfl
theorem rdJoin_bad (xs : List VReader) (nm : ByteArray) (d : Int) (h : areRd (xs ++ [⟨rdLast xs, nm, d, 1, 0⟩]) = false) : rdJoin xs nm d = ([], 0, false) := by
  unfold rdJoin; rw [h, Bool.and_false]; rfl
theorem rdJoin_yes (xs : List VReader) (nm : ByteArray) (d : Int) (h : areRd xs = true) (h2 : areRd (xs ++ [⟨rdLast xs, nm, d, 1, 0⟩]) = true) : rdJoin xs nm d = (xs ++ [⟨rdLast xs, nm, d, 1, 0⟩], rdLast xs, true) := by
  unfold rdJoin; rw [h, h2]; rfl
set_option maxHeartbeats 6400000 in
set_option maxRecDepth 100000 in
theorem specJoinReader_any (a : Option Addr) (len cap : Nat) (xs : List VReader) (nm : ByteArray) (d : Int) (w : World) (h : IsReaderS w a len cap xs) (hx : xs.length ≤ 1048576) (hz : ∀ s ∈ xs, s.sized) (hn : nm.size ≤ 1048576) :
    Calls Tryd.prog 8 #[.slice a len cap, .string nm, .int .i64 d] w (JoinReader_Post xs nm d w) := by
  have hm := h.2.2.1
  have hcl := h.2.1
  unfold maxLen at hm
  obtain rfl := h.1
  obtain ⟨i0, hi, hz0, hz1, hz2⟩ := info_parts infoReader
  have S := Lib.hid h
  have SM := Lib.hid (rd_sized_small hz)
  have HN := Lib.hid (show nm.size ≤ maxLen from Nat.le_trans hn (by unfold maxLen; omega))
  clear h hz hn
  obtain ⟨y, hy1, hy2⟩ : ∃ y : Int, (∀ s, xs[xs.length - 1]? = some s → IntKind.i64.wrap (s.Id + 1) = y) ∧ (xs = [] → y = 1) := by
    by_cases h0 : xs = []
    · subst h0; exact ⟨1, fun s hs => by simp at hs, fun _ => rfl⟩
    · have hl : 0 < xs.length := List.length_pos_iff.2 h0
      exact ⟨IntKind.i64.wrap (xs[xs.length - 1].Id + 1), fun s hs => by rw [List.getElem?_eq_getElem (by omega)] at hs; cases hs; rfl, fun h => absurd h h0⟩
  have YL := Lib.hid (show areRd xs = true → y = rdLast xs from by
    intro ha
    unfold rdLast
    rcases List.eq_nil_or_concat xs with h0 | ⟨l, s, h0⟩
    · subst h0; rw [hy2 rfl]; rfl
    · have hs : xs[xs.length - 1]? = some s := by subst h0; simp
      have hg : xs.getLast? = some s := by rw [List.getLast?_eq_getElem?]; exact hs
      have ok := (rdOk_iff.1 (areRd_ok ha (List.mem_of_getElem? hs))).1
      rw [hg, ← hy1 s hs]
      exact IntWalk.i64_in _ (by omega))
  have Y1 := Lib.hid hy1
  have Y2 := Lib.hid hy2
  clear hy1 hy2
  by_cases h0 : xs.length = 0
  · have hy := Y2.out (List.length_eq_zero_iff.1 h0)
    have H0 := Lib.hid h0
    subst hy
    have g0 : ¬ 0 < (xs.length : Int) := by omega
    clear h0
    go_enter Tryd.func8, Tryd.ntmps8
    have B0 := Lib.hid (bel_al1 w (.cells #[] 36))
    have O0 := made_own w w.heap.size (Nat.le_refl _)
    have SRC := srcReader (S.out.below B0.out)
    have SZ := Lib.hid (size_al w (.cells #[] 36))
    have SM2 := Lib.hid (show ∀ s ∈ xs ++ [(⟨1, nm, d, 1, 0⟩ : VReader)], s.small from fun s hs => (List.mem_append.1 hs).elim (SM.out s) (fun e => by rw [List.mem_singleton.1 e]; exact HN.out))
    have L2 := Lib.hid (show (xs ++ [(⟨1, nm, d, 1, 0⟩ : VReader)]).length = xs.length + 1 from by simp)
    go_wp2_with (first | (at_builtin; refine wpList_append_list rfl (.tmp 23) (.tmp 24) 24 rfl w.heap.size 36 i0 (.agg #[.int .i64 0, .string ByteArray.empty, .int .i64 0, .int .i64 0, .int .i64 0]) 5 48 Tryd.underlying24 hi hz0 hz1 hz2 rfl (by decide) _ _ _ rfl O0 _ xs.length cap (cellsReader xs) rfl SRC (readers_one xs) (by simp; unfold maxLen; omega) (by simp; omega) (by rw [SZ.out]; omega) ?_; intro v1 w1 hown1 hgrow1; have B1 := Lib.hid (B0.out.grown hgrow1 (by rw [SZ.out]; omega) (fun k e => by have := own_is e; omega)); rw [List.length_nil, Nat.zero_add, show cellsReader [] ++ cellsReader xs = cellsReader xs from rfl] at hown1; have hown2 := hown1.alloc (.cells #[.int .i64 1, .string nm, .int .i64 d, .int .i64 1, .int .i64 0] 36); clear hgrow1 hown1) | (at_builtin; refine wpList_append_own _ rfl (.tmp 25) (.tmp 30) 24 rfl w.heap.size 36 i0 (.agg #[.int .i64 0, .string ByteArray.empty, .int .i64 0, .int .i64 0, .int .i64 0]) 5 48 Tryd.underlying24 hi hz0 hz1 hz2 rfl (by decide) _ _ _ rfl hown2 ⟨_, 0, none⟩ 1 1 (VReader.vals ⟨1, nm, d, 1, 0⟩) rfl rfl (cell_Reader _ ⟨1, nm, d, 1, 0⟩ _) (VReader.vals_one _) (by unfold maxLen; omega) (by omega) (by have := B1.out.size; first | omega | (simp; omega)) ?_; intro v2 w2 hown3 hgrow2 hnil2))
    have B2 := Lib.hid ((Below.then' B1.out (bel_al1 w1 _)).grown hgrow2 (by have := B1.out.size; rw [size_al]; omega) (fun k e => (hown2.lt k e).1))
    have hown4 : w2.ownsRow w.heap.size 36 5 v2 (xs ++ [(⟨1, nm, d, 1, 0⟩ : VReader)]).length (cellsReader (xs ++ [(⟨1, nm, d, 1, 0⟩ : VReader)])) := by rw [cellsReader_snoc, L2.out]; exact hown3
    have O2 := Lib.hid hown4
    clear hown2 hown3 hown4 hgrow2 hnil2
    obtain ⟨p, hp⟩ : ∃ p, areRd xs = p := ⟨_, rfl⟩
    have PP := Lib.hid hp
    clear hp
    refine (l3Good_any _ _ _ xs _ (S.out.below B2.out)).mono ?_
    rintro e w3 ⟨rfl, hb⟩
    rw [PP.out]
    have B3 := Lib.hid (Below.then' B2.out hb)
    have O3 := Lib.hid (ownsRow_below O2.out hb)
    clear hb
    cases p
    · have E := Lib.hid (rdJoin_no xs nm d PP.out)
      have O4 := Lib.hid (made_own w3 w.heap.size B3.out.size)
      go_wp2
      go_ret3
      exact ⟨.slice (some ⟨w3.heap.size, 0, none⟩) 0 0, by unfold JoinReader_1 JoinReader_2; rw [E.out]; rfl, by unfold JoinReader_0; rw [E.out]; exact O4.out, Below.then' B3.out (bel_al1 _ _)⟩
    · have hyl := YL.out PP.out
      obtain ⟨a5, c5, e5, his, _⟩ := isReaderS_own O3.out SM2.out
      subst e5
      obtain ⟨q, hq⟩ : ∃ q, areRd (xs ++ [⟨1, nm, d, 1, 0⟩]) = q := ⟨_, rfl⟩
      have QQ := Lib.hid hq
      rw [L2.out] at his
      have HIS := Lib.hid his
      have O3b := O3.out
      rw [L2.out] at O3b
      have O3 := Lib.hid O3b
      have HY := Lib.hid hyl
      clear hq his hyl O3b
      go_wp2_with fail
      refine (l3Good_any _ _ _ (xs ++ [⟨1, nm, d, 1, 0⟩]) _ HIS.out).mono ?_
      rintro e w4 ⟨rfl, hb⟩
      rw [QQ.out]
      have B4 := Lib.hid (Below.then' B3.out hb)
      have O4 := Lib.hid (ownsRow_below O3.out hb)
      clear hb
      cases q
      · have E := Lib.hid (rdJoin_bad xs nm d (by rw [← HY.out]; exact QQ.out))
        have O5 := Lib.hid (made_own w4 w.heap.size B4.out.size)
        go_wp2
        go_ret3
        exact ⟨.slice (some ⟨w4.heap.size, 0, none⟩) 0 0, by unfold JoinReader_1 JoinReader_2; rw [E.out]; rfl, by unfold JoinReader_0; rw [E.out]; exact O5.out, Below.then' B4.out (bel_al1 _ _)⟩
      · have E := Lib.hid (rdJoin_yes xs nm d PP.out (by rw [← HY.out]; exact QQ.out))
        go_wp2
        go_ret3
        exact ⟨.slice a5 (xs.length + 1) c5, by unfold JoinReader_1 JoinReader_2; rw [E.out, ← HY.out]; rfl, by unfold JoinReader_0; rw [E.out, ← HY.out]; show World.ownsRow _ _ _ _ _ (xs ++ [(⟨1, nm, d, 1, 0⟩ : VReader)]).length _; rw [L2.out]; exact O4.out, B4.out⟩
  · obtain ⟨s, hs⟩ : ∃ s, xs[xs.length - 1]? = some s := ⟨xs[xs.length - 1]'(by omega), List.getElem?_eq_getElem _⟩
    have hyw := Y1.out s hs
    obtain ⟨b, o, rfl, hbw, hat⟩ := S.out.at (by omega)
    obtain ⟨c0, _⟩ := hat _ s hs
    have g0 : 0 < (xs.length : Int) := by omega
    have g1 : (0 : Int) ≤ (xs.length : Int) - 1 := by omega
    have g2 : (xs.length : Int) - 1 < (xs.length : Int) := by omega
    have g3 : ((xs.length : Int) - 1).toNat = xs.length - 1 := by omega
    have g4 : (1 : Int) ≤ (xs.length : Int) := by omega
    clear hat hs
    go_enter Tryd.func8, Tryd.ntmps8
    have B0 := Lib.hid (bel_al1 w (.cells #[] 36))
    have O0 := made_own w w.heap.size (Nat.le_refl _)
    have SRC := srcReader (S.out.below B0.out)
    have SZ := Lib.hid (size_al w (.cells #[] 36))
    have SM2 := Lib.hid (show ∀ s ∈ xs ++ [(⟨y, nm, d, 1, 0⟩ : VReader)], s.small from fun s hs => (List.mem_append.1 hs).elim (SM.out s) (fun e => by rw [List.mem_singleton.1 e]; exact HN.out))
    have L2 := Lib.hid (show (xs ++ [(⟨y, nm, d, 1, 0⟩ : VReader)]).length = xs.length + 1 from by simp)
    go_wp2_with (first | (at_builtin; refine wpList_append_list rfl (.tmp 23) (.tmp 24) 24 rfl w.heap.size 36 i0 (.agg #[.int .i64 0, .string ByteArray.empty, .int .i64 0, .int .i64 0, .int .i64 0]) 5 48 Tryd.underlying24 hi hz0 hz1 hz2 rfl (by decide) _ _ _ rfl O0 _ xs.length cap (cellsReader xs) rfl SRC (readers_one xs) (by simp; unfold maxLen; omega) (by simp; omega) (by rw [SZ.out]; omega) ?_; intro v1 w1 hown1 hgrow1; have B1 := Lib.hid (B0.out.grown hgrow1 (by rw [SZ.out]; omega) (fun k e => by have := own_is e; omega)); rw [List.length_nil, Nat.zero_add, show cellsReader [] ++ cellsReader xs = cellsReader xs from rfl] at hown1; have hown2 := hown1.alloc (.cells #[.int .i64 y, .string nm, .int .i64 d, .int .i64 1, .int .i64 0] 36); clear hgrow1 hown1) | (at_builtin; refine wpList_append_own _ rfl (.tmp 25) (.tmp 30) 24 rfl w.heap.size 36 i0 (.agg #[.int .i64 0, .string ByteArray.empty, .int .i64 0, .int .i64 0, .int .i64 0]) 5 48 Tryd.underlying24 hi hz0 hz1 hz2 rfl (by decide) _ _ _ rfl hown2 ⟨_, 0, none⟩ 1 1 (VReader.vals ⟨y, nm, d, 1, 0⟩) rfl rfl (cell_Reader _ ⟨y, nm, d, 1, 0⟩ _) (VReader.vals_one _) (by unfold maxLen; omega) (by omega) (by have := B1.out.size; first | omega | (simp; omega)) ?_; intro v2 w2 hown3 hgrow2 hnil2))
    have B2 := Lib.hid ((Below.then' B1.out (bel_al1 w1 _)).grown hgrow2 (by have := B1.out.size; rw [size_al]; omega) (fun k e => (hown2.lt k e).1))
    have hown4 : w2.ownsRow w.heap.size 36 5 v2 (xs ++ [(⟨y, nm, d, 1, 0⟩ : VReader)]).length (cellsReader (xs ++ [(⟨y, nm, d, 1, 0⟩ : VReader)])) := by rw [cellsReader_snoc, L2.out]; exact hown3
    have O2 := Lib.hid hown4
    clear hown2 hown3 hown4 hgrow2 hnil2
    obtain ⟨p, hp⟩ : ∃ p, areRd xs = p := ⟨_, rfl⟩
    have PP := Lib.hid hp
    clear hp
    refine (l3Good_any _ _ _ xs _ (S.out.below B2.out)).mono ?_
    rintro e w3 ⟨rfl, hb⟩
    rw [PP.out]
    have B3 := Lib.hid (Below.then' B2.out hb)
    have O3 := Lib.hid (ownsRow_below O2.out hb)
    clear hb
    cases p
    · have E := Lib.hid (rdJoin_no xs nm d PP.out)
      have O4 := Lib.hid (made_own w3 w.heap.size B3.out.size)
      go_wp2
      go_ret3
      exact ⟨.slice (some ⟨w3.heap.size, 0, none⟩) 0 0, by unfold JoinReader_1 JoinReader_2; rw [E.out]; rfl, by unfold JoinReader_0; rw [E.out]; exact O4.out, Below.then' B3.out (bel_al1 _ _)⟩
    · have hyl := YL.out PP.out
      obtain ⟨a5, c5, e5, his, _⟩ := isReaderS_own O3.out SM2.out
      subst e5
      obtain ⟨q, hq⟩ : ∃ q, areRd (xs ++ [⟨y, nm, d, 1, 0⟩]) = q := ⟨_, rfl⟩
      have QQ := Lib.hid hq
      rw [L2.out] at his
      have HIS := Lib.hid his
      have O3b := O3.out
      rw [L2.out] at O3b
      have O3 := Lib.hid O3b
      have HY := Lib.hid hyl
      clear hq his hyl O3b
      go_wp2_with fail
      refine (l3Good_any _ _ _ (xs ++ [⟨y, nm, d, 1, 0⟩]) _ HIS.out).mono ?_
      rintro e w4 ⟨rfl, hb⟩
      rw [QQ.out]
      have B4 := Lib.hid (Below.then' B3.out hb)
      have O4 := Lib.hid (ownsRow_below O3.out hb)
      clear hb
      cases q
      · have E := Lib.hid (rdJoin_bad xs nm d (by rw [← HY.out]; exact QQ.out))
        have O5 := Lib.hid (made_own w4 w.heap.size B4.out.size)
        go_wp2
        go_ret3
        exact ⟨.slice (some ⟨w4.heap.size, 0, none⟩) 0 0, by unfold JoinReader_1 JoinReader_2; rw [E.out]; rfl, by unfold JoinReader_0; rw [E.out]; exact O5.out, Below.then' B4.out (bel_al1 _ _)⟩
      · have E := Lib.hid (rdJoin_yes xs nm d PP.out (by rw [← HY.out]; exact QQ.out))
        go_wp2
        go_ret3
        exact ⟨.slice a5 (xs.length + 1) c5, by unfold JoinReader_1 JoinReader_2; rw [E.out, ← HY.out]; rfl, by unfold JoinReader_0; rw [E.out, ← HY.out]; show World.ownsRow _ _ _ _ _ (xs ++ [(⟨y, nm, d, 1, 0⟩ : VReader)]).length _; rw [L2.out]; exact O4.out, B4.out⟩
end Go.Proofs.YtidaoijpbdljbabDoor
