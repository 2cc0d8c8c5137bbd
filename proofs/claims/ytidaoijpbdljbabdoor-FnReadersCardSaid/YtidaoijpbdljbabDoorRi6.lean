/- Readers in the program: who joins. -/
import Derived.Test.YtidaoijpbdljbabDoorRi5
import Derived.Test.YtidaoijpbdljbabDoorAppL2
import Derived.Test.YtidaoijpbdljbabDoorRd8
namespace Go.Proofs.YtidaoijpbdljbabDoor
open Go.RowKit

theorem areRd_prefix {xs ys : List VReader} (h : areRd (xs ++ ys) = true) : areRd xs = true := by
  unfold areRd rdUp at *
  simp only [Bool.and_eq_true, decide_eq_true_eq, List.length_append] at *
  exact ⟨upB_prefix h.1, by omega⟩
theorem cell_drew (W : World) (p : Addr) : W.drew.cell? p = W.cell? p := rfl
theorem after_draw {W w1 : World} (h : Below W.drew.heap.size W.drew w1) : Below W.heap.size W w1 := Below.then' (bel_drawn W 1) h
theorem after_draw_al {W w1 : World} {o : Obj} (h : Below (W.drew.alloc o).heap.size (W.drew.alloc o) w1) : Below W.heap.size W w1 := Below.then' (Below.then' (bel_drawn W 1) (bel_al1 W.drew o)) h
theorem new_Reader {W w1 : World} {s : VReader} (hb : Below (W.alloc (.cells #[.int .i64 s.Id, .string s.Name, .int .i64 s.Joined, .int .i64 s.Class, .int .i64 s.Fines] 36)).drew.heap.size (W.alloc (.cells #[.int .i64 s.Id, .string s.Name, .int .i64 s.Joined, .int .i64 s.Class, .int .i64 s.Fines] 36)).drew w1) : ∀ j u, s.vals[j]? = some u → w1.cell? ((⟨W.heap.size, 0, none⟩ : Addr).add j) = some u := fun j u hj =>
  ((Below.cell (p := (⟨W.heap.size, 0, none⟩ : Addr).add j) hb (by rw [add_plain]; exact (show W.heap.size < (W.alloc (.cells #[.int .i64 s.Id, .string s.Name, .int .i64 s.Joined, .int .i64 s.Class, .int .i64 s.Fines] 36)).heap.size by rw [size_al]; exact Nat.lt_succ_self _))).trans (cell_drew _ _)).trans (cell_Reader W s 36 j u hj)
set_option maxHeartbeats 6400000 in
set_option maxRecDepth 100000 in
/-- The end of JoinReader: the list with the new reader is there. -/
theorem implJoinReader_any (a : Option Addr) (len cap : Nat) (xs : List VReader) (nm : ByteArray) (d : Int) (w : World) (h : IsReaderS w a len cap xs) (hx : xs.length ≤ 1048576) (hz : ∀ s ∈ xs, s.sized) (hn : nm.size ≤ 1048576) :
    Calls Tryd.prog 7 #[.slice a len cap, .string nm, .int .i64 d] w (JoinReader_Post xs nm d w) := by
  have hm := h.2.2.1
  have hcl := h.2.1
  unfold maxLen at hm
  obtain rfl := h.1
  obtain ⟨i0, hi, hz0, hz1, hz2⟩ := info_parts infoReader
  have S := Lib.hid h
  have HZ := Lib.hid hz
  have HN := Lib.hid hn
  clear h hz hn
  obtain ⟨y, hy1, hy2⟩ : ∃ y : Int, (∀ s, xs[xs.length - 1]? = some s → IntKind.i64.wrap (s.Id + 1) = y) ∧ (xs = [] → y = 1) := by
    by_cases h0 : xs = []
    · subst h0; exact ⟨1, fun s hs => by simp at hs, fun _ => rfl⟩
    · have hl : 0 < xs.length := List.length_pos_iff.2 h0
      exact ⟨IntKind.i64.wrap (xs[xs.length - 1].Id + 1), fun s hs => by rw [List.getElem?_eq_getElem (by omega)] at hs; cases hs; rfl, fun h => absurd h h0⟩
  have YL := Lib.hid (show areRd xs = true → y = rdLast xs from by
    intro ha
    unfold rdLast
    rcases List.eq_nil_or_concat xs with h0 | ⟨l, s, h0⟩
    · subst h0; rw [hy2 rfl]; rfl
    · have hs : xs[xs.length - 1]? = some s := by subst h0; simp
      have hg : xs.getLast? = some s := by rw [List.getLast?_eq_getElem?]; exact hs
      have ok := (rdOk_iff.1 (areRd_ok ha (List.mem_of_getElem? hs))).1
      rw [hg, ← hy1 s hs]
      exact IntWalk.i64_in _ (by omega))
  have Y1 := Lib.hid hy1
  have Y2 := Lib.hid hy2
  clear hy1 hy2
  have SM2 := Lib.hid (show areRd (xs ++ [(⟨y, nm, d, 1, 0⟩ : VReader)]) = true → rdJoin xs nm d = (xs ++ [⟨y, nm, d, 1, 0⟩], y, true) from fun h => by
    have ha := areRd_prefix h
    rw [YL.out ha] at h ⊢
    exact rdJoin_yes xs nm d ha h)
  have SM3 := Lib.hid (show areRd (xs ++ [(⟨y, nm, d, 1, 0⟩ : VReader)]) = false → rdJoin xs nm d = ([], 0, false) from fun h => by
    cases ha : areRd xs with
    | false => exact rdJoin_no xs nm d ha
    | true => exact rdJoin_bad xs nm d (by rw [← YL.out ha]; exact h))
  have SM4 := Lib.hid (show ∀ s ∈ xs ++ [(⟨y, nm, d, 1, 0⟩ : VReader)], s.sized from fun s hs => (List.mem_append.1 hs).elim (HZ.out s) (fun e => by rw [List.mem_singleton.1 e]; exact HN.out))
  have L2 := Lib.hid (show (xs ++ [(⟨y, nm, d, 1, 0⟩ : VReader)]).length = xs.length + 1 from by simp)
  rcases Nat.eq_zero_or_pos xs.length with h0 | h0
  case' inl =>
    have hy := Y2.out (List.length_eq_zero_iff.1 h0)
    have H0 := Lib.hid h0
    have g0 : ¬ 0 < (xs.length : Int) := by omega
    clear h0
    go_enter Tryd.func7, Tryd.ntmps7
    go_wp2
    refine wp_world (fun W => BoxReader W w.heap.size ⟨y, nm, d, 1, 0⟩ ∧ Below w.heap.size w W) ⟨by rw [hy]; exact BoxReader.new w _ ⟨1, nm, d, 1, 0⟩ _ rfl, bel_al1 _ _⟩ ?_
    clear hy g0
  case' inr =>
    obtain ⟨s, hs⟩ : ∃ s, xs[xs.length - 1]? = some s := ⟨xs[xs.length - 1]'(by omega), List.getElem?_eq_getElem _⟩
    have hyw := Y1.out s hs
    have B0 := bel_al1 w (.cells #[.int .i64 1, .string nm, .int .i64 d, .int .i64 1, .int .i64 0] 36)
    obtain ⟨b, o, rfl, hbw, hat⟩ := (S.out.below B0).at (by omega)
    obtain ⟨c0, _⟩ := hat _ s hs
    have H0 := Lib.hid h0
    have g0 : 0 < (xs.length : Int) := by omega
    have g1 : (0 : Int) ≤ (xs.length : Int) - 1 := by omega
    have g2 : (xs.length : Int) - 1 < (xs.length : Int) := by omega
    have g3 : ((xs.length : Int) - 1).toNat = xs.length - 1 := by omega
    have g4 : (1 : Int) ≤ (xs.length : Int) := by omega
    clear hat hs h0 B0
    go_enter Tryd.func7, Tryd.ntmps7
    go_wp2
    refine wp_world (fun W => BoxReader W w.heap.size ⟨y, nm, d, 1, 0⟩ ∧ Below w.heap.size w W) ⟨BoxReader.new w _ ⟨y, nm, d, 1, 0⟩ _ rfl, bel_al1 _ _⟩ ?_
    clear hyw c0 hbw g0 g1 g2 g3 g4
  all_goals
    rintro W ⟨hbox, hbw⟩
    have BX := Lib.hid hbox
    have BW := Lib.hid hbw
    have SW := Lib.hid (S.out.below hbw)
    obtain ⟨c0, c1, c2, c3, c4⟩ := hbox
    clear hbw
    go_region_law (first
      | (refine step_append_list (by rfl) (.tmp 27) (.tmp 29) 24 (by rfl) W.heap.size 36 i0 (.agg #[.int .i64 0, .string ByteArray.empty, .int .i64 0, .int .i64 0, .int .i64 0]) 5 48 Tryd.underlying24 hi hz0 hz1 hz2 (by rfl) (by decide) _ xs.length (cellsReader xs) (by simp [Act.eval]; rfl) (by first | exact O1.out | exact O1.out.alloc _) _ 1 1 (VReader.vals ⟨y, nm, d, 1, 0⟩) (by simp [Act.eval]; rfl) ⟨rfl, .inr ⟨_, rfl, by first | exact N1.out | exact cell_Reader w1 ⟨y, nm, d, 1, 0⟩ _⟩⟩ (VReader.vals_one _) (by unfold maxLen; omega) (by omega) (by first | exact hs1 | (rw [size_al]; exact Nat.le_succ_of_le hs1)) ?_; intro v2 w2 hown2 hgrow2)
      | (go_simp; go_at_call 28; refine (cloneReader_any _ _ _ xs _ (SW.out.below (by first | exact bel_drawn W 1 | exact Below.then' (bel_drawn W 1) (bel_al1 _ _))) hx).mono ?_; rintro e w1 ⟨v1, rfl, hown, hb⟩; have hbb : Below W.heap.size W w1 := by first | exact after_draw hb | exact after_draw_al hb
         have O1 := Lib.hid (ownsRow_base hown (show W.heap.size ≤ _ by first | exact Nat.le_refl _ | exact (bel_al1 W (.cells #[.int .i64 y, .string nm, .int .i64 d, .int .i64 1, .int .i64 0] 36)).size))
         have B1 := Lib.hid (Below.then' BW.out hbb)
         have hs1 := hbb.size
         have BX1 := Lib.hid (BX.out.below hbb)
         obtain ⟨e0, e1, e2, e3, e4⟩ := BX.out.below hbb
         try have N1 := Lib.hid (new_Reader (s := ⟨y, nm, d, 1, 0⟩) hb)
         clear hown hb hbb))
    all_goals
      have B2 : Hid (Below w.heap.size w w2) := Lib.hid (by
        have hle := BW.out.size
        first
          | exact B1.out.grown hgrow2 B1.out.size (fun k e => Nat.le_trans hle (O1.out.lt k e).1)
          | exact (Below.then' B1.out (bel_al1 _ _)).grown hgrow2 (Nat.le_trans B1.out.size (bel_al1 _ _).size) (fun k e => Nat.le_trans hle (O1.out.lt k e).1))
      have hne : some w.heap.size ≠ v1.ownBlock := fun e => by have := (O1.out.lt _ e.symm).1; have := BX.out.lt; omega
      have BX2 : Hid (BoxReader w2 w.heap.size ⟨y, nm, d, 1, 0⟩) := Lib.hid (by
        first
          | exact BX1.out.grown hgrow2 hne
          | exact (BX1.out.below (bel_al1 _ _)).grown hgrow2 hne)
      have hown3 : w2.ownsRow w.heap.size 36 5 v2 (xs ++ [(⟨y, nm, d, 1, 0⟩ : VReader)]).length (cellsReader (xs ++ [(⟨y, nm, d, 1, 0⟩ : VReader)])) := by rw [cellsReader_snoc, L2.out]; exact ownsRow_base hown2 BW.out.size
      obtain ⟨a5, c5, e5, his, _⟩ := isReaderS_own hown3 (rd_sized_small SM4.out)
      cases e5
      rw [L2.out] at his
      have S2 := Lib.hid his
      obtain ⟨q, hq⟩ : ∃ q, areRd (xs ++ [⟨y, nm, d, 1, 0⟩]) = q := ⟨_, rfl⟩
      have QQ := Lib.hid hq
      clear hown2 hgrow2 hown3 his hne hq c0 c1 c2 c3 c4 e0 e1 e2 e3 e4 hs1
      go_wp2_with fail
      refine (areRd_any _ _ _ (xs ++ [⟨y, nm, d, 1, 0⟩]) _ S2.out).mono ?_
      rintro e w3 ⟨rfl, hb⟩
      rw [QQ.out]
      have B3 := Lib.hid (Below.then' B2.out hb)
      have S3 := Lib.hid (S2.out.below hb)
      have BX3 := Lib.hid (BX2.out.below hb)
      clear hb
      cases q
      · have E := Lib.hid (SM3.out QQ.out)
        go_wp2
        go_ret3
        exact ⟨_, by unfold JoinReader_1 JoinReader_2; rw [E.out]; rfl, by unfold JoinReader_0; rw [E.out]; exact nil_ownReader _ _, B3.out⟩
      · have E := Lib.hid (SM2.out QQ.out)
        obtain ⟨c0, c1, c2, c3, c4⟩ := BX3.out
        go_wp2
        go_region_law (go_simp; go_at_call 30; refine (copyReaders_any _ _ _ (xs ++ [⟨y, nm, d, 1, 0⟩]) _ (S3.out.below (bel_drawn _ 1)) (by have := areRd_len QQ.out; omega) SM4.out).mono ?_; rintro e w4 ⟨v4, rfl, hown, hb⟩; have B4 := Lib.hid (Below.then' B3.out (after_draw hb)); have O4 := Lib.hid (ownsRow_base hown (show w.heap.size ≤ _ from B3.out.size)); obtain ⟨e0, e1, e2, e3, e4⟩ := BX3.out.below (after_draw hb); clear hown hb)
        all_goals
          go_wp2
          go_ret3
          exact ⟨v4, by unfold JoinReader_1 JoinReader_2; rw [E.out]; rfl, by unfold JoinReader_0; rw [E.out]; exact O4.out, B4.out⟩
end Go.Proofs.YtidaoijpbdljbabDoor
