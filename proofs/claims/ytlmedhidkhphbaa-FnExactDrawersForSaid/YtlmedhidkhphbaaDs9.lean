/- DrawersFor, in the model. -/
import Derived.Test.YtlmedhidkhphbaaM9
import Derived.Test.YtlmedhidkhphbaaDrawersForP
namespace Go.Proofs.Ytlmedhidkhphbaa
open Go.RowKit

set_option maxHeartbeats 12800000 in
set_option maxRecDepth 100000 in
theorem specDrawersFor_any (a : Option Addr) (len cap : Nat) (xs : List VFlat) (a1 : Option Addr) (len1 cap1 : Nat) (ds : List VDrawer) (flat : Int) (w : World) (h : IsFlatS w a len cap xs) (cx : condFlat xs) (h' : IsDrawerS w a1 len1 cap1 ds) (cd : condDrawer ds) :
    Calls Try.prog 21 #[.slice a len cap, .slice a1 len1 cap1, .int .i64 flat] w (DrawersFor_Post xs ds flat w) := by
  obtain rfl := h'.1
  obtain ⟨i0, hi, hz0, hz1, hz2⟩ := info_parts infoInt
  have hm := h'.2.2.1
  have hcl := h'.2.1
  unfold maxLen at hm
  have b0 := bel_al1 w (.cells #[] 3)
  have S := Lib.hid (h.below b0)
  have D := Lib.hid (h'.below b0)
  have S0 := Lib.hid h
  have D0 := Lib.hid h'
  have CX := Lib.hid cx
  have CD := Lib.hid cd
  have O0 := Lib.hid (made_ownInt w)
  have OM := Lib.hid (own_made w)
  have B0 := Lib.hid b0
  obtain ⟨z, hz⟩ : ∃ z, flatI xs flat = z := ⟨_, rfl⟩
  obtain ⟨q, hq⟩ : ∃ q, holdI ds flat = q := ⟨_, rfl⟩
  have HZ := Lib.hid hz
  have HQ := Lib.hid hq
  clear h h' b0 cx cd hz hq
  have NO := Lib.hid (show looseB xs ds flat = false → DrawersFor_1 xs ds flat = false ∧ DrawersFor_0 xs ds flat = [] from fun h => ⟨h, by unfold DrawersFor_0; rw [h]; rfl⟩)
  go_enter Try.func21, Try.ntmps21
  go_wp2_with fail
  refine (l5Good_any _ _ _ xs _ _ _ ds _ S.out D.out).mono ?_
  rintro e w1 ⟨rfl, hb⟩
  have B1 := Lib.hid (Below.then' B0.out hb)
  have S1 := Lib.hid (S.out.below hb)
  have D1 := Lib.hid (D.out.below hb)
  have O1 := Lib.hid (ownsRow_below O0.out hb)
  have OM1 := Lib.hid (OM.out.below hb)
  have s1 := hb.size
  rw [size_al] at s1
  clear hb
  cases hg : goodB xs ds with
  | false =>
    have E := Lib.hid (NO.out (by unfold looseB; rw [hg]; rfl))
    clear hg
    go_wp2
    go_ret2
    exact ⟨_, by rw [E.out.1]; rfl, by rw [E.out.2]; exact OM1.out.mono (Nat.le_refl _) s1, B1.out⟩
  | true =>
  have hl8 := (good_iff.1 hg).dl
  go_wp2_with fail
  refine (l5Find_any _ _ _ xs flat _ S1.out).mono ?_
  rintro e w2 ⟨rfl, rfl⟩
  rw [HZ.out]
  by_cases hfz : z < 0
  · have E := Lib.hid (NO.out (by unfold looseB; rw [HZ.out, decide_eq_false (show ¬ 0 ≤ z by omega)]; simp))
    clear hg
    go_wp2
    go_ret2
    exact ⟨_, by rw [E.out.1]; rfl, by rw [E.out.2]; exact OM1.out.mono (Nat.le_refl _) s1, B1.out⟩
  go_wp2_with fail
  refine (l5Where_any _ _ _ ds flat _ D1.out).mono ?_
  rintro e w2 ⟨rfl, rfl⟩
  rw [HQ.out]
  by_cases hqz : 0 ≤ q
  · have E := Lib.hid (NO.out (by unfold looseB; rw [HQ.out, decide_eq_false (show ¬ q < 0 by omega)]; simp))
    clear hg
    go_wp2
    go_ret2
    exact ⟨_, by rw [E.out.1]; rfl, by rw [E.out.2]; exact OM1.out.mono (Nat.le_refl _) s1, B1.out⟩
  have hloose : looseB xs ds flat = true := by unfold looseB; rw [hg, HZ.out, HQ.out, decide_eq_true (show 0 ≤ z by omega), decide_eq_true (show q < 0 by omega)]; rfl
  have E1 := Lib.hid (show DrawersFor_1 xs ds flat = true from hloose)
  have E0 := Lib.hid (show DrawersFor_0 xs ds flat = (ds.filter fun d => putB xs ds flat d.Id).map VDrawer.Id from by unfold DrawersFor_0; rw [hloose]; rfl)
  clear hg hloose
  go_wp2
  go_loopw [9, 8, 10, 11] (fun i o _ _ wr => ∃ k : Nat, k ≤ ds.length ∧ i = .int .i64 k ∧ wr.ownsRow w.heap.size 3 1 o (((ds.take k).filter fun d => putB xs ds flat d.Id).map VDrawer.Id).length (intCells (((ds.take k).filter fun d => putB xs ds flat d.Id).map VDrawer.Id)) ∧ Below w.heap.size w wr) (fun i _ _ _ _ => ds.length - (intOf i).toNat)
  case atStart => exact ⟨0, Nat.zero_le _, rfl, O1.out, B1.out⟩
  case round =>
    obtain ⟨k, hk, rfl, hown, hbel⟩ := hrel
    have B := Lib.hid hbel
    by_cases hlt : k < ds.length
    · obtain ⟨s, hs⟩ : ∃ s, ds[k]? = some s := ⟨ds[k]'hlt, List.getElem?_eq_getElem _⟩
      have DB := Lib.hid (D0.out.below hbel)
      have SB := Lib.hid (S0.out.below hbel)
      obtain ⟨b, o, rfl, hbw, hat⟩ := (D0.out.below hbel).at (by omega)
      obtain ⟨hd, c0, c1, c2, c3, c4, hin⟩ := hat k s hs
      have FS := Lib.hid (filter_more (fun d : VDrawer => putB xs ds flat d.Id) VDrawer.Id hs)
      have hgl := filter_more_len (fun d : VDrawer => putB xs ds flat d.Id) VDrawer.Id ds k
      obtain ⟨G, hG⟩ : ∃ G, ((ds.take k).filter fun d => putB xs ds flat d.Id).map VDrawer.Id = G := ⟨_, rfl⟩
      rw [hG] at hown FS hgl
      have O := Lib.hid hown
      obtain ⟨y, hy⟩ : ∃ y, putB xs ds flat s.Id = y := ⟨_, rfl⟩
      have Y := Lib.hid hy
      have hi0 : (0 : Int) ≤ (k : Int) := by omega
      have hi1 : (k : Int) < (ds.length : Int) := by omega
      have hsz := B.out.size
      clear hs hat hbel hG hown hin hy c1 c2 c3 c4
      go_wp2_with fail
      refine (specPutFlat_any _ _ _ xs _ _ _ ds flat s.Id _ SB.out CX.out DB.out CD.out).mono ?_
      rintro e w2 ⟨v, rfl, hown2, hb2⟩
      have P := Lib.hid (show PutFlat_1 xs ds flat s.Id = y from Y.out)
      rw [P.out]
      have B2 := Lib.hid (Below.then' B.out hb2)
      have O2 := Lib.hid (ownsRow_below O.out hb2)
      have d0 := (hb2.cell (World.lt_of_cell c0)).trans c0
      have hs2 := hb2.size
      clear hown2 hb2 c0
      cases y with
      | true =>
        have hown3 := O2.out.alloc (.cells #[.int .i64 s.Id] 3)
        go_wp2_with (at_builtin; refine wpList_append_own _ rfl _ _ 31 rfl w.heap.size 3 i0 (.int .i64 0) 1 8 Try.underlying31 hi hz0 hz1 hz2 rfl (by decide) _ _ _ rfl hown3 ⟨w2.heap.size, 0, none⟩ 1 1 [.int .i64 s.Id] rfl rfl (cell_one _ _ _) (fun x hx => by simp at hx; subst hx; rfl) (by unfold maxLen; omega) (by omega) (by simp; omega) ?_; intro v' w4 hown' hgrow4 hnil4)
        go_roundw
        case rel =>
          refine ⟨k + 1, by omega, by go_num, ?_, (Below.then' B2.out (bel_al1 _ _)).grown hgrow4 (by simp; omega) (fun j e => (hown3.lt j e).1)⟩
          rw [FS.out, Y.out, if_pos rfl, intCells_snoc]
          rw [List.length_append]
          exact hown'
        case measure => simp [intOf]; omega
      | false =>
        go_wp2
        go_roundw
        case rel => exact ⟨k + 1, by omega, by go_num, by rw [FS.out, Y.out]; simpa using O2.out, B2.out⟩
        case measure => simp [intOf]; omega
    · obtain rfl : k = ds.length := by omega
      rw [List.take_of_length_le (Nat.le_refl _)] at hown
      have O := Lib.hid hown
      clear hbel hown
      go_wp2
      go_ret2
      exact ⟨_, by rw [E1.out]; rfl, by rw [E0.out]; exact OwnIn.of_row O.out (Nat.le_refl _) (Nat.le_refl _), B.out⟩
end Go.Proofs.Ytlmedhidkhphbaa
