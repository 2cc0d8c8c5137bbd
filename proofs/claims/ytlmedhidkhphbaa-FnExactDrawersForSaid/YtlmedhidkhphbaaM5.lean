/- Texts in one: EmptyDrawersP, Ds4, AppL2, Spl, Ins1, PutFlatP, TakeFlatP, Ds5. -/
import Derived.Test.YtlmedhidkhphbaaM3
import Derived.Test.YtlmedhidkhphbaaM4
import Derived.Test.YtlmedhidkhphbaaM1
import Derived.Deep.RegionLaw
import Derived.Test.YtlmedhidkhphbaaM2
import Derived.Laws.IdiomCopy
import Derived.Laws.OwnMore
namespace Go.Proofs.Ytlmedhidkhphbaa
open Go.RowKit
def EmptyDrawers_Post (z0 : List VFlat) (z1 : List VDrawer) (w : World) (e : Ending) (w' : World) : Prop :=
  ∃ v0 : Value, e = .returned (.tuple #[v0, .bool (EmptyDrawers_1 z0 z1)]) ∧ OwnIntS w.heap.size w'.heap.size w' v0 (EmptyDrawers_0 z0 z1) ∧ Below w.heap.size w w'
end Go.Proofs.Ytlmedhidkhphbaa
namespace Go.Proofs.Ytlmedhidkhphbaa
open Go.RowKit

theorem specAreFlats_any (a : Option Addr) (len cap : Nat) (xs : List VFlat) (w : World) (h : IsFlatS w a len cap xs) (_ : condFlat xs) :
    Calls Try.prog 31 #[.slice a len cap] w (AreFlats_Post xs w) := by
  have S := Lib.hid h
  clear h
  go_enter Try.func31, Try.ntmps31
  go_wp2_with fail
  refine (l5Flats_any _ _ _ xs _ S.out).mono ?_
  rintro e w2 ⟨rfl, hb⟩
  have B := Lib.hid hb
  clear hb
  go_wp2
  go_ret
  exact ⟨rfl, B.out⟩
theorem specAreDrawers_any (a : Option Addr) (len cap : Nat) (xs : List VFlat) (a1 : Option Addr) (len1 cap1 : Nat) (ds : List VDrawer) (w : World) (h : IsFlatS w a len cap xs) (_ : condFlat xs) (h' : IsDrawerS w a1 len1 cap1 ds) (_ : condDrawer ds) :
    Calls Try.prog 33 #[.slice a len cap, .slice a1 len1 cap1] w (AreDrawers_Post xs ds w) := by
  have S := Lib.hid h
  have D := Lib.hid h'
  clear h h'
  go_enter Try.func33, Try.ntmps33
  go_wp2_with fail
  refine (l5Good_any _ _ _ xs _ _ _ ds _ S.out D.out).mono ?_
  rintro e w2 ⟨rfl, hb⟩
  have B := Lib.hid hb
  clear hb
  go_wp2
  go_ret
  exact ⟨rfl, B.out⟩
theorem good_grams {fs : List VFlat} {ds : List VDrawer} (h : Good fs ds) {i : Nat} {d : VDrawer} (hd : ds[i]? = some d) : gramsW fs d = gramsL fs d.Flats := by
  have hids := good_ids h hd
  have hr := h.right i d hd
  unfold rightB at hr
  rw [Bool.and_eq_true] at hr
  rw [gramsW_ok (fun f hm => upB_ok h.flats hm) hids.2]
  unfold gramsM
  rw [if_pos hr.1, gramsL_sum (apart_up h.flats) (idsB_nodup hids.1) fun id hid => by
    obtain ⟨f, h, _⟩ := fitsId_some (List.all_eq_true.1 hr.1 id hid)
    exact ⟨f, h⟩]
set_option maxHeartbeats 3200000 in
theorem specGramsIn_any (a : Option Addr) (len cap : Nat) (xs : List VFlat) (a1 : Option Addr) (len1 cap1 : Nat) (ds : List VDrawer) (id : Int) (w : World) (h : IsFlatS w a len cap xs) (_ : condFlat xs) (h' : IsDrawerS w a1 len1 cap1 ds) (_ : condDrawer ds) :
    Calls Try.prog 44 #[.slice a len cap, .slice a1 len1 cap1, .int .i64 id] w (GramsIn_Post xs ds id w) := by
  have S := Lib.hid h
  have D := Lib.hid h'
  clear h h'
  obtain ⟨y, hy⟩ : ∃ y, drawI ds id = y := ⟨_, rfl⟩
  have Y := Lib.hid hy
  clear hy
  go_enter Try.func44, Try.ntmps44
  go_wp2_with fail
  refine (l5Index_any _ _ _ ds id _ D.out).mono ?_
  rintro e w1 ⟨rfl, rfl⟩
  rw [Y.out]
  go_wp2_with fail
  refine (l5Good_any _ _ _ xs _ _ _ ds _ S.out D.out).mono ?_
  rintro e w2 ⟨rfl, hb⟩
  have B2 := Lib.hid hb
  have S2 := Lib.hid (S.out.below hb)
  have D2 := Lib.hid (D.out.below hb)
  clear hb
  cases hg : goodB xs ds with
  | false =>
    have E := Lib.hid (show GramsIn_1 xs ds id = false from by unfold GramsIn_1; rw [hg]; rfl)
    clear hg
    go_wp2
    go_ret2
    exact ⟨by unfold GramsIn_0; rw [E.out]; rfl, B2.out⟩
  | true =>
  have G := Lib.hid (good_iff.1 hg)
  have HG := Lib.hid hg
  clear hg
  by_cases hneg : y < 0
  · have E := Lib.hid (show GramsIn_1 xs ds id = false from by unfold GramsIn_1; rw [HG.out, Y.out, decide_eq_false (by omega)]; rfl)
    go_wp2
    go_ret2
    exact ⟨by unfold GramsIn_0; rw [E.out]; rfl, B2.out⟩
  · obtain ⟨i, d, hi, hd, hf, hid⟩ := draw_at (ds := ds) (id := id) (by rw [Y.out]; omega)
    have E := Lib.hid (show GramsIn_1 xs ds id = true ∧ GramsIn_0 xs ds id = gramsL xs d.Flats from by
      have e1 : GramsIn_1 xs ds id = true := by unfold GramsIn_1; rw [HG.out, Y.out, decide_eq_true (by omega)]; rfl
      refine ⟨e1, ?_⟩
      unfold GramsIn_0
      rw [if_pos e1, hf])
    have GE := Lib.hid (good_grams G.out hd)
    have hil := (List.getElem?_eq_some_iff.1 hd).1
    have hdl := D2.out.1
    obtain ⟨b, o, rfl, hb, hat⟩ := D2.out.at (by omega)
    obtain ⟨q, c0, c1, c2, c3, c4, hin⟩ := hat i d hd
    have HI := Lib.hid hin
    have i0 : (0 : Int) ≤ (i : Int) := by omega
    have i1 : (i : Int) < (len1 : Int) := by omega
    obtain rfl : y = (i : Int) := by rw [← Y.out, hi]
    clear hneg hi hd hf hid hat hin hdl
    go_wp2_with fail
    refine (l5Grams_any _ _ _ xs d q _ S2.out HI.out).mono ?_
    rintro e w3 ⟨rfl, hb3⟩
    have B3 := Lib.hid (Below.then' B2.out hb3)
    clear hb3
    go_wp2
    go_ret2
    exact ⟨by rw [E.out.1, E.out.2, ← GE.out]; rfl, B3.out⟩
set_option maxHeartbeats 3200000 in
theorem specDrawerOf_any (a : Option Addr) (len cap : Nat) (xs : List VFlat) (a1 : Option Addr) (len1 cap1 : Nat) (ds : List VDrawer) (id : Int) (w : World) (h : IsFlatS w a len cap xs) (_ : condFlat xs) (h' : IsDrawerS w a1 len1 cap1 ds) (_ : condDrawer ds) :
    Calls Try.prog 45 #[.slice a len cap, .slice a1 len1 cap1, .int .i64 id] w (DrawerOf_Post xs ds id w) := by
  have S := Lib.hid h
  have D := Lib.hid h'
  clear h h'
  go_enter Try.func45, Try.ntmps45
  go_wp2_with fail
  refine (l5Good_any _ _ _ xs _ _ _ ds _ S.out D.out).mono ?_
  rintro e w1 ⟨rfl, hb⟩
  have B1 := Lib.hid hb
  have S1 := Lib.hid (S.out.below hb)
  have D1 := Lib.hid (D.out.below hb)
  clear hb
  cases hg : goodB xs ds with
  | false =>
    have E := Lib.hid (show DrawerOf_1 xs ds id = false from by unfold DrawerOf_1; rw [hg]; rfl)
    clear hg
    go_wp2
    go_ret2
    exact ⟨by unfold DrawerOf_0; rw [E.out]; rfl, B1.out⟩
  | true =>
  have HG := Lib.hid hg
  clear hg
  go_wp2_with fail
  refine (l5Find_any _ _ _ xs id _ S1.out).mono ?_
  rintro e w2 ⟨rfl, rfl⟩
  obtain ⟨y, hy⟩ : ∃ y, flatI xs id = y := ⟨_, rfl⟩
  rw [hy]
  by_cases hneg : y < 0
  · have E := Lib.hid (show DrawerOf_1 xs ds id = false from by unfold DrawerOf_1; rw [HG.out, decide_eq_false (by omega)]; rfl)
    clear hy
    go_wp2
    go_ret2
    exact ⟨by unfold DrawerOf_0; rw [E.out]; rfl, B1.out⟩
  · have E1 := Lib.hid (show DrawerOf_1 xs ds id = true from by unfold DrawerOf_1; rw [HG.out, decide_eq_true (by omega)]; rfl)
    clear hy
    go_wp2_with fail
    refine (l5Where_any _ _ _ ds id _ D1.out).mono ?_
    rintro e w3 ⟨rfl, rfl⟩
    by_cases hn2 : holdI ds id < 0
    · have E0 := Lib.hid (show DrawerOf_0 xs ds id = 0 from by unfold DrawerOf_0; rw [if_pos E1.out, (hold_no hn2).2])
      obtain ⟨z, hz⟩ : ∃ z, holdI ds id = z := ⟨_, rfl⟩
      rw [hz] at hn2 ⊢
      clear hz
      go_wp2
      go_ret2
      exact ⟨by rw [E0.out, E1.out]; rfl, B1.out⟩
    · obtain ⟨i, d, hi, hd, hf, hm⟩ := hold_at (show 0 ≤ holdI ds id by omega)
      have E0 := Lib.hid (show DrawerOf_0 xs ds id = d.Id from by unfold DrawerOf_0; rw [if_pos E1.out, hf])
      have hil := (List.getElem?_eq_some_iff.1 hd).1
      have hdl := D1.out.1
      obtain ⟨b, o, rfl, hb, hat⟩ := D1.out.at (by omega)
      obtain ⟨q, c0, _⟩ := hat i d hd
      have i0 : (0 : Int) ≤ (i : Int) := by omega
      have i1 : (i : Int) < (len1 : Int) := by omega
      rw [hi]
      clear hn2 hi hd hf hm hat hdl
      go_wp2
      go_ret2
      exact ⟨by rw [E0.out, E1.out]; rfl, B1.out⟩
theorem made_ownInt (w : World) : (w.alloc (.cells #[] 3)).ownsRow w.heap.size 3 1 (.slice (some ⟨w.heap.size, 0, none⟩) 0 0) 0 [] :=
  World.ownsRow_made (base := w.heap.size) (e := 3) (size := 1) w #[] 0 (Nat.le_refl _) (Nat.zero_le _) rfl
theorem own_made (w : World) : OwnIntS w.heap.size (w.heap.size + 1) (w.alloc (.cells #[] 3)) (.slice (some ⟨w.heap.size, 0, none⟩) 0 0) [] :=
  OwnIn.of_row (made_ownInt w) (Nat.le_refl _) (by rw [size_al]; exact Nat.le_refl _)
theorem filter_more {α : Type} {xs : List α} {k : Nat} {s : α} (f : α → Bool) (g : α → Int) (hs : xs[k]? = some s) : ((xs.take (k + 1)).filter f).map g = ((xs.take k).filter f).map g ++ (if f s = true then [g s] else []) := by
  rw [filter_snoc' f hs, List.map_append]
  split <;> rfl
theorem filter_more_len {α : Type} (f : α → Bool) (g : α → Int) (xs : List α) (k : Nat) : (((xs.take k).filter f).map g).length ≤ k := by
  rw [List.length_map]
  exact filter_len' f xs k
/-- A row of integers of the call's own, and the world below as it was. -/
def IntsPostS (xs : List Int) (w : World) (e : Ending) (w' : World) : Prop := ∃ v, e = .returned v ∧ OwnIntS w.heap.size w'.heap.size w' v xs ∧ Below w.heap.size w w'
set_option maxHeartbeats 6400000 in
set_option maxRecDepth 100000 in
theorem l5Loose_any (a : Option Addr) (len cap : Nat) (xs : List VFlat) (a1 : Option Addr) (len1 cap1 : Nat) (ds : List VDrawer) (w : World) (h : IsFlatS w a len cap xs) (h' : IsDrawerS w a1 len1 cap1 ds) (hl : xs.length ≤ 1000) :
    Calls Try.prog 104 #[.slice a len cap, .slice a1 len1 cap1] w (IntsPostS (looseL xs ds) w) := by
  obtain rfl := h.1
  obtain ⟨i0, hi, hz0, hz1, hz2⟩ := info_parts infoInt
  have hm := h.2.2.1
  have hcl := h.2.1
  unfold maxLen at hm
  have S := Lib.hid h
  have D := Lib.hid h'
  have O0 := Lib.hid (made_ownInt w)
  clear h h'
  go_enter Try.func104, Try.ntmps104
  go_wp2
  go_loopw [6, 5] (fun i o wr => ∃ k : Nat, k ≤ xs.length ∧ i = .int .i64 k ∧ wr.ownsRow w.heap.size 3 1 o (((xs.take k).filter fun f => decide (holdI ds f.Id < 0)).map VFlat.Id).length (intCells (((xs.take k).filter fun f => decide (holdI ds f.Id < 0)).map VFlat.Id)) ∧ Below w.heap.size w wr) (fun i _ _ => xs.length - (intOf i).toNat)
  case atStart => exact ⟨0, Nat.zero_le _, rfl, O0.out, bel_al1 _ _⟩
  case round =>
    obtain ⟨k, hk, rfl, hown, hbel⟩ := hrel
    have B := Lib.hid hbel
    by_cases hlt : k < xs.length
    · obtain ⟨s, hs⟩ : ∃ s, xs[k]? = some s := ⟨xs[k]'hlt, List.getElem?_eq_getElem _⟩
      obtain ⟨b, o, rfl, hbw, hat⟩ := (S.out.below hbel).at (by omega)
      obtain ⟨c0, _⟩ := hat k s hs
      have FS := Lib.hid (filter_more (fun f => decide (holdI ds f.Id < 0)) VFlat.Id hs)
      have hgl := filter_more_len (fun f => decide (holdI ds f.Id < 0)) VFlat.Id xs k
      obtain ⟨G, hG⟩ : ∃ G, ((xs.take k).filter fun f => decide (holdI ds f.Id < 0)).map VFlat.Id = G := ⟨_, rfl⟩
      rw [hG] at hown FS hgl
      have O := Lib.hid hown
      obtain ⟨y, hy⟩ : ∃ y, holdI ds s.Id = y := ⟨_, rfl⟩
      have Y := Lib.hid hy
      have DB := Lib.hid (D.out.below hbel)
      have hi0 : (0 : Int) ≤ (k : Int) := by omega
      have hi1 : (k : Int) < (xs.length : Int) := by omega
      have hsz := B.out.size
      clear hs hat hbel hG hy hown
      go_wp2_with fail
      refine (l5Where_any _ _ _ ds s.Id _ DB.out).mono ?_
      rintro e w2 ⟨rfl, rfl⟩
      rw [Y.out]
      by_cases hn : y < 0
      · have hown3 := O.out.alloc (.cells #[.int .i64 s.Id] 3)
        go_wp2_with (at_builtin; refine wpList_append_own _ rfl _ _ 31 rfl w.heap.size 3 i0 (.int .i64 0) 1 8 Try.underlying31 hi hz0 hz1 hz2 rfl (by decide) _ _ _ rfl hown3 ⟨wr.heap.size, 0, none⟩ 1 1 [.int .i64 s.Id] rfl rfl (cell_one _ _ _) (fun x hx => by simp at hx; subst hx; rfl) (by unfold maxLen; omega) (by omega) (by simp; omega) ?_; intro v' w4 hown' hgrow4 hnil4)
        go_roundw
        case rel =>
          refine ⟨k + 1, by omega, by go_num, ?_, (Below.then' B.out (bel_al1 _ _)).grown hgrow4 (by simp; omega) (fun j e => (hown3.lt j e).1)⟩
          rw [FS.out, Y.out, if_pos (by simpa using hn), intCells_snoc]
          rw [List.length_append]
          exact hown'
        case measure => simp [intOf]; omega
      · go_wp2
        go_roundw
        case rel => exact ⟨k + 1, by omega, by go_num, by rw [FS.out, Y.out, if_neg (by simpa using hn)]; simpa using O.out, B.out⟩
        case measure => simp [intOf]; omega
    · obtain rfl : k = xs.length := by omega
      rw [List.take_of_length_le (Nat.le_refl _)] at hown
      have O := Lib.hid hown
      clear hbel hown
      go_wp2
      go_ret
      exact ⟨_, rfl, OwnIn.of_row O.out (Nat.le_refl _) (Nat.le_refl _), B.out⟩
set_option maxHeartbeats 3200000 in
theorem specLooseFlats_any (a : Option Addr) (len cap : Nat) (xs : List VFlat) (a1 : Option Addr) (len1 cap1 : Nat) (ds : List VDrawer) (w : World) (h : IsFlatS w a len cap xs) (_ : condFlat xs) (h' : IsDrawerS w a1 len1 cap1 ds) (_ : condDrawer ds) :
    Calls Try.prog 55 #[.slice a len cap, .slice a1 len1 cap1] w (LooseFlats_Post xs ds w) := by
  have S := Lib.hid h
  have D := Lib.hid h'
  clear h h'
  go_enter Try.func55, Try.ntmps55
  go_wp2_with fail
  refine (l5Good_any _ _ _ xs _ _ _ ds _ S.out D.out).mono ?_
  rintro e w1 ⟨rfl, hb⟩
  have B1 := Lib.hid hb
  have S1 := Lib.hid (S.out.below hb)
  have D1 := Lib.hid (D.out.below hb)
  clear hb
  cases hg : goodB xs ds with
  | false =>
    have E1 := Lib.hid (show LooseFlats_1 xs ds = false from hg)
    have E0 := Lib.hid (show LooseFlats_0 xs ds = [] from by unfold LooseFlats_0; rw [hg]; rfl)
    have B2 := Lib.hid (Below.then' B1.out (bel_al1 w1 (.cells #[] 3)))
    clear hg
    go_wp2
    go_ret2
    exact ⟨_, by rw [E1.out]; rfl, by rw [E0.out]; exact (own_made w1).mono B1.out.size (by rw [size_al]; exact Nat.le_refl _), B2.out⟩
  | true =>
  have hl20 := (good_iff.1 hg).fl
  have E1 := Lib.hid (show LooseFlats_1 xs ds = true from hg)
  have E0 := Lib.hid (show LooseFlats_0 xs ds = looseL xs ds from by unfold LooseFlats_0; rw [hg]; rfl)
  clear hg
  go_wp2_with fail
  refine (l5Loose_any _ _ _ xs _ _ _ ds _ S1.out D1.out (by omega)).mono ?_
  rintro e w2 ⟨v, rfl, hown, hb⟩
  have B2 := Lib.hid (Below.then' B1.out hb)
  have O := Lib.hid (hown.mono B1.out.size (Nat.le_refl _))
  clear hb hown
  go_wp2
  go_ret2
  exact ⟨v, by rw [E1.out]; rfl, by rw [E0.out]; exact O.out, B2.out⟩
set_option maxHeartbeats 6400000 in
set_option maxRecDepth 100000 in
theorem specEmptyDrawers_any (a : Option Addr) (len cap : Nat) (xs : List VFlat) (a1 : Option Addr) (len1 cap1 : Nat) (ds : List VDrawer) (w : World) (h : IsFlatS w a len cap xs) (_ : condFlat xs) (h' : IsDrawerS w a1 len1 cap1 ds) (_ : condDrawer ds) :
    Calls Try.prog 57 #[.slice a len cap, .slice a1 len1 cap1] w (EmptyDrawers_Post xs ds w) := by
  obtain rfl := h'.1
  obtain ⟨i0, hi, hz0, hz1, hz2⟩ := info_parts infoInt
  have hm := h'.2.2.1
  have hcl := h'.2.1
  unfold maxLen at hm
  have b0 := bel_al1 w (.cells #[] 3)
  have S := Lib.hid (h.below b0)
  have D := Lib.hid (h'.below b0)
  have D0 := Lib.hid h'
  have O0 := Lib.hid (made_ownInt w)
  have OM := Lib.hid (own_made w)
  have B0 := Lib.hid b0
  clear h h' b0
  go_enter Try.func57, Try.ntmps57
  go_wp2_with fail
  refine (l5Good_any _ _ _ xs _ _ _ ds _ S.out D.out).mono ?_
  rintro e w1 ⟨rfl, hb⟩
  have B1 := Lib.hid (Below.then' B0.out hb)
  have O1 := Lib.hid (ownsRow_below O0.out hb)
  have OM1 := Lib.hid (OM.out.below hb)
  have s1 := hb.size
  rw [size_al] at s1
  clear hb
  cases hg : goodB xs ds with
  | false =>
    have E1 := Lib.hid (show EmptyDrawers_1 xs ds = false from hg)
    have E0 := Lib.hid (show EmptyDrawers_0 xs ds = [] from by unfold EmptyDrawers_0; rw [hg]; rfl)
    clear hg
    go_wp2
    go_ret2
    exact ⟨_, by rw [E1.out]; rfl, by rw [E0.out]; exact OM1.out.mono (Nat.le_refl _) s1, B1.out⟩
  | true =>
  have hl8 := (good_iff.1 hg).dl
  have E1 := Lib.hid (show EmptyDrawers_1 xs ds = true from hg)
  have E0 := Lib.hid (show EmptyDrawers_0 xs ds = (ds.filter fun d => d.Flats.isEmpty).map VDrawer.Id from by unfold EmptyDrawers_0; rw [hg]; rfl)
  clear hg
  go_wp2
  go_loopw [7, 6] (fun i o wr => ∃ k : Nat, k ≤ ds.length ∧ i = .int .i64 k ∧ wr.ownsRow w.heap.size 3 1 o (((ds.take k).filter fun d => d.Flats.isEmpty).map VDrawer.Id).length (intCells (((ds.take k).filter fun d => d.Flats.isEmpty).map VDrawer.Id)) ∧ Below w.heap.size w wr) (fun i _ _ => ds.length - (intOf i).toNat)
  case atStart => exact ⟨0, Nat.zero_le _, rfl, O1.out, B1.out⟩
  case round =>
    obtain ⟨k, hk, rfl, hown, hbel⟩ := hrel
    have B := Lib.hid hbel
    by_cases hlt : k < ds.length
    · obtain ⟨s, hs⟩ : ∃ s, ds[k]? = some s := ⟨ds[k]'hlt, List.getElem?_eq_getElem _⟩
      obtain ⟨b, o, rfl, hbw, hat⟩ := (D0.out.below hbel).at (by omega)
      obtain ⟨hd, c0, c1, c2, c3, c4, hin⟩ := hat k s hs
      have hm2 := hin.2.2.1
      have hcl2 := hin.2.1
      unfold maxLen at hm2
      have HL := Lib.hid hin.1
      have FS := Lib.hid (filter_more (fun d : VDrawer => d.Flats.isEmpty) VDrawer.Id hs)
      have hgl := filter_more_len (fun d : VDrawer => d.Flats.isEmpty) VDrawer.Id ds k
      obtain ⟨G, hG⟩ : ∃ G, ((ds.take k).filter fun d => d.Flats.isEmpty).map VDrawer.Id = G := ⟨_, rfl⟩
      rw [hG] at hown FS hgl
      have O := Lib.hid hown
      have hi0 : (0 : Int) ≤ (k : Int) := by omega
      have hi1 : (k : Int) < (ds.length : Int) := by omega
      have hsz := B.out.size
      obtain ⟨ha, hn, hc⟩ := hd
      simp only at c4 hm2 hcl2 HL
      by_cases h0 : hn = 0
      · have E := Lib.hid (show s.Flats.isEmpty = true from by rw [List.isEmpty_iff]; exact List.length_eq_zero_iff.1 (by have := HL.out; omega))
        subst h0
        have hown3 := O.out.alloc (.cells #[.int .i64 s.Id] 3)
        clear hs hat hbel hG hown hin
        go_wp2_with (at_builtin; refine wpList_append_own _ rfl _ _ 31 rfl w.heap.size 3 i0 (.int .i64 0) 1 8 Try.underlying31 hi hz0 hz1 hz2 rfl (by decide) _ _ _ rfl hown3 ⟨wr.heap.size, 0, none⟩ 1 1 [.int .i64 s.Id] rfl rfl (cell_one _ _ _) (fun x hx => by simp at hx; subst hx; rfl) (by unfold maxLen; omega) (by omega) (by simp; omega) ?_; intro v' w4 hown' hgrow4 hnil4)
        go_roundw
        case rel =>
          refine ⟨k + 1, by omega, by go_num, ?_, (Below.then' B.out (bel_al1 _ _)).grown hgrow4 (by simp; omega) (fun j e => (hown3.lt j e).1)⟩
          rw [FS.out, E.out, if_pos rfl, intCells_snoc]
          rw [List.length_append]
          exact hown'
        case measure => simp [intOf]; omega
      · have E := Lib.hid (show s.Flats.isEmpty = false from by
          cases e : s.Flats with
          | nil => have := HL.out; rw [e] at this; simp at this; omega
          | cons _ _ => rfl)
        have hb : ((hn : Int) == 0) = false := beq_eq_false_iff_ne.2 (by omega)
        clear hs hat hbel hG hown hin
        go_wp2
        go_roundw
        case rel => exact ⟨k + 1, by omega, by go_num, by rw [FS.out, E.out]; simpa using O.out, B.out⟩
        case measure => simp [intOf]; omega
    · obtain rfl : k = ds.length := by omega
      rw [List.take_of_length_le (Nat.le_refl _)] at hown
      have O := Lib.hid hown
      clear hbel hown
      go_wp2
      go_ret2
      exact ⟨_, by rw [E1.out]; rfl, by rw [E0.out]; exact OwnIn.of_row O.out (Nat.le_refl _) (Nat.le_refl _), B.out⟩
end Go.Proofs.Ytlmedhidkhphbaa
namespace Go.Proofs.Ytlmedhidkhphbaa
open Go.RowKit

theorem wp_append_list {P : Program} {w : World} {o : Oper} {a : Act} {K : Act → World → Prop} {Q : Exit → Act → World → Prop} (s x : Operand) (t : TypeId)
    (ho : o.op = .call { callee := .builtin .append, args := #[s, x], argTypes := #[t, t] })
    (base : Nat) (e : TypeId) (i : TypeInfo) (z : Value) (size bytes : Nat) (ht : P.underlying t = some (.slice e)) (hi : P.info? e = some i) (hz : i.zero = some z)
    (hsize : i.size = size) (hby : i.bytes = bytes) (hzs : z.cells.size = size) (hsz : 0 < size)
    (v : Value) (n : Nat) (xs : List Value) (hs : a.eval s = v) (hown : w.ownsRow base e size v n xs)
    (ad : Option Addr) (m c : Nat) (news : List Value) (hx : a.eval x = .slice ad m c) (hsrc : SrcAt w ad m size news) (h1 : ∀ u ∈ news, u.oneCell' = true)
    (h63 : n + m ≤ maxLen) (hbytes : (n + m) * bytes ≤ 140737488355328) (hbase : base ≤ w.heap.size)
    (h : ∀ v' w', w'.ownsRow base e size v' (n + m) (xs ++ news) → w.grownBy w' v.ownBlock → K (a.put o.dst v') w') : Oper.wp P o a w K Q := by
  obtain ⟨hl, hc⟩ := hsrc
  cases ad with
  | some ad =>
    refine wp_append_own w s x t ho base e i z size bytes ht hi hz hsize hby hzs hsz v n xs hs hown ad m c news hx hl ?_ h1 h63 hbytes hbase (fun v' w' a b _ => h v' w' a b)
    rcases hc with rfl | ⟨ad', e', hc⟩
    · have : news = [] := List.eq_nil_of_length_eq_zero (by simpa using hl)
      subst this
      intro j u hj; simp at hj
    · cases e'; exact hc
  | none =>
    have hm : m = 0 := by
      rcases hc with h0 | ⟨_, e', _⟩
      · exact h0
      · cases e'
    subst hm
    have hn : news = [] := List.eq_nil_of_length_eq_zero (by simpa using hl)
    subst hn
    have hrun := append_nothing (P := P) (w := w) (ty := o.type) ht hi hown c
    unfold Oper.wp
    simp [execOp, ho, resolve, invoke, builtin, hs, hx, hrun, Result.andThen]
    exact h v w (by simpa using hown) (World.grownBy.refl w _)
/-- The same as a step of a region that draws its order. -/
theorem step_append_list {P : Program} {w : World} {ops : Array Oper} {o : Oper} {a : Act} {K : Act → World → Prop} {Q : Exit → Act → World → Prop} {E : Prop} (hgd : o.guard = none) (s x : Operand) (t : TypeId)
    (ho : o.op = .call { callee := .builtin .append, args := #[s, x], argTypes := #[t, t] })
    (base : Nat) (e : TypeId) (i : TypeInfo) (z : Value) (size bytes : Nat) (ht : P.underlying t = some (.slice e)) (hi : P.info? e = some i) (hz : i.zero = some z)
    (hsize : i.size = size) (hby : i.bytes = bytes) (hzs : z.cells.size = size) (hsz : 0 < size)
    (v : Value) (n : Nat) (xs : List Value) (hs : a.eval s = v) (hown : w.ownsRow base e size v n xs)
    (ad : Option Addr) (m c : Nat) (news : List Value) (hx : a.eval x = .slice ad m c) (hsrc : SrcAt w ad m size news) (h1 : ∀ u ∈ news, u.oneCell' = true)
    (h63 : n + m ≤ maxLen) (hbytes : (n + m) * bytes ≤ 140737488355328) (hbase : base ≤ w.heap.size)
    (h : ∀ v' w', w'.ownsRow base e size v' (n + m) (xs ++ news) → w.grownBy w' v.ownBlock → K (a.put o.dst v') w') :
    if Region.wanted o (yielded ops a.tmps) = true then Oper.wp P o a w K Q else E := by
  have hw : Region.wanted o (yielded ops a.tmps) = true := by simp [Region.wanted, hgd]
  rw [if_pos hw]
  exact wp_append_list s x t ho base e i z size bytes ht hi hz hsize hby hzs hsz v n xs hs hown ad m c news hx hsrc h1 h63 hbytes hbase h
/-- The same, and what was no nil slice stays none. -/
theorem step_append_some {P : Program} {w : World} {ops : Array Oper} {o : Oper} {a : Act} {K : Act → World → Prop} {Q : Exit → Act → World → Prop} {E : Prop} (hgd : o.guard = none) (s x : Operand) (t : TypeId)
    (ho : o.op = .call { callee := .builtin .append, args := #[s, x], argTypes := #[t, t] })
    (base : Nat) (e : TypeId) (i : TypeInfo) (z : Value) (size bytes : Nat) (ht : P.underlying t = some (.slice e)) (hi : P.info? e = some i) (hz : i.zero = some z)
    (hsize : i.size = size) (hby : i.bytes = bytes) (hzs : z.cells.size = size) (hsz : 0 < size)
    (v : Value) (hs : a.eval s = v) (g cp : Nat) (n : Nat) (xs : List Value) (hv : v = .slice (some ⟨g, 0, none⟩) n cp) (hown : w.ownsRow base e size (.slice (some ⟨g, 0, none⟩) n cp) n xs)
    (u : Value) (hx : a.eval x = u) (ad : Addr) (m c : Nat) (news : List Value) (hu : u = .slice (some ad) m c) (hsrc : SrcAt w (some ad) m size news) (h1 : ∀ u ∈ news, u.oneCell' = true)
    (h63 : n + m ≤ maxLen) (hbytes : (n + m) * bytes ≤ 140737488355328) (hbase : base ≤ w.heap.size)
    (h : ∀ g' cp' w', w'.ownsRow base e size (.slice (some ⟨g', 0, none⟩) (n + m) cp') (n + m) (xs ++ news) → w.grownBy w' (some g) → n + m ≤ cp' → cp' ≤ 9223372036854775807 → base ≤ g' → g' < w'.heap.size → K (a.put o.dst (.slice (some ⟨g', 0, none⟩) (n + m) cp')) w') :
    if Region.wanted o (yielded ops a.tmps) = true then Oper.wp P o a w K Q else E := by
  have hw : Region.wanted o (yielded ops a.tmps) = true := by simp [Region.wanted, hgd]
  rw [if_pos hw]
  subst hv hu
  obtain ⟨hl, hc⟩ := hsrc
  refine wp_append_own w s x t ho base e i z size bytes ht hi hz hsize hby hzs hsz _ n xs hs hown ad m c news hx hl ?_ h1 h63 hbytes hbase (fun v' w' a b hn => ?_)
  · rcases hc with rfl | ⟨ad', e', hc⟩
    · have : news = [] := List.eq_nil_of_length_eq_zero (by simpa using hl)
      subst this
      intro j u hj; simp at hj
    · cases e'; exact hc
  · rcases a.2 with ⟨e1, _⟩ | ⟨g', c', _, e', hg, _, hn', hc', _⟩
    · exact absurd (hn.1 e1).1 (by simp)
    · subst e'
      exact h g' c' w' a b hn' hc' hg (a.lt g' rfl).2
end Go.Proofs.Ytlmedhidkhphbaa
namespace Go.Proofs.Ytlmedhidkhphbaa
open Go.RowKit

def setL : List Value → Nat → List Value → List Value
  | xs, _, [] => xs
  | xs, o, v :: r => setL (xs.set o v) (o + 1) r
theorem setL_eq (vs : List Value) : ∀ (xs : List Value) (o : Nat), o + vs.length ≤ xs.length → setL xs o vs = xs.take o ++ (vs ++ xs.drop (o + vs.length)) := by
  induction vs with
  | nil => intro xs o _; simp [setL]
  | cons v r ih =>
    intro xs o h
    simp only [List.length_cons] at h
    show setL (xs.set o v) (o + 1) r = _
    rw [ih _ _ (by rw [List.length_set]; omega), List.drop_set, if_pos (by omega)]
    have e : (xs.set o v).take (o + 1) = xs.take o ++ [v] := by
      rw [List.take_add_one, List.take_set, List.set_eq_of_length_le (by rw [List.length_take]; omega), List.getElem?_set_self (by omega)]
      rfl
    rw [e, List.append_assoc]
    simp only [List.length_cons, List.cons_append, List.nil_append]
    rw [show o + 1 + r.length = o + (r.length + 1) by omega]
theorem own_setCells {base size n cap g : Nat} {e : TypeId} : ∀ (vs xs : List Value) (o : Nat) (w : World), w.ownsRow base e size (.slice (some ⟨g, 0, none⟩) n cap) n xs →
    (w.setCells g o vs).ownsRow base e size (.slice (some ⟨g, 0, none⟩) n cap) n (setL xs o vs) ∧ w.grownBy (w.setCells g o vs) (some g)
  | [], _, _, w, h => ⟨h, World.grownBy.refl w _⟩
  | v :: r, xs, o, w, h => by
    have h1 := h.stored o v
    have h2 := own_setCells r _ (o + 1) _ h1.1
    exact ⟨h2.1, grown_trans h1.2 h2.2⟩
/-- The row with some of the spare cells behind it. -/
theorem own_wider {w : World} {base size n cap g m : Nat} {e : TypeId} {xs : List Value} (h : w.ownsRow base e size (.slice (some ⟨g, 0, none⟩) n cap) n xs) (hm : n + m ≤ cap) :
    ∃ L : List Value, L.length = m * size ∧ w.ownsRow base e size (.slice (some ⟨g, 0, none⟩) (n + m) cap) (n + m) (xs ++ L) := by
  rcases h.2 with ⟨e0, _⟩ | ⟨g', cap', cur, e0, hg, hh, hn, hc, hs, ht⟩
  · cases e0
  · cases e0
    have hl : cur.toList.length = cap * size := by simpa using hs
    have hle : (n + m) * size ≤ cap * size := Nat.mul_le_mul_right _ hm
    have hle2 : n * size + m * size = (n + m) * size := (Nat.add_mul n m size).symm
    refine ⟨(cur.toList.drop (n * size)).take (m * size), by rw [List.length_take, List.length_drop, hl]; omega, ⟨?_, .inr ⟨g, cap, cur, rfl, hg, hh, hm, hc, hs, ?_⟩⟩⟩
    · rw [List.length_append, h.1, List.length_take, List.length_drop, hl]; omega
    · rw [← hle2, List.take_add, ht]
/-- Less of a row. -/
theorem own_cells_at {w : World} {base size n cap g : Nat} {e : TypeId} {xs : List Value} (h : w.ownsRow base e size (.slice (some ⟨g, 0, none⟩) n cap) n xs) (j : Nat) (v : Value) (hj : xs[j]? = some v) : w.cell? ⟨g, 0 + j, none⟩ = some v := by
  have := h.cells (g := g) rfl j v hj
  rwa [add_plain] at this
theorem own_some_at {w : World} {base size n cap g : Nat} {e : TypeId} {xs : List Value} (h : w.ownsRow base e size (.slice (some ⟨g, 0, none⟩) n cap) n xs) (j : Nat) (hj : j < xs.length) : (w.cell? ⟨g, 0 + j, none⟩).isSome = true := by
  rw [own_cells_at h j _ (List.getElem?_eq_getElem hj)]; rfl
end Go.Proofs.Ytlmedhidkhphbaa
namespace Go.Proofs.Ytlmedhidkhphbaa
open Go.RowKit

theorem one_ints (zs : List Int) : ∀ u ∈ intCells zs, u.oneCell' = true := by
  intro u hu
  obtain ⟨z, _, rfl⟩ := List.mem_map.1 hu
  rfl
theorem srcInts {w : World} {a : Option Addr} {len cap : Nat} {zs : List Int} (h : IsInts w a len cap zs) : SrcAt w a len 1 (intCells zs) := by
  refine ⟨by rw [intCells_len, h.1, Nat.mul_one], ?_⟩
  rcases h.2.2.2 with h0 | ⟨b, o, rfl, hb, hat⟩
  · exact .inl h0
  · refine .inr ⟨_, rfl, fun j u hj => ?_⟩
    rw [add_plain]
    unfold intCells at hj
    rw [List.getElem?_map] at hj
    cases hz : zs[j]? with
    | none => rw [hz] at hj; cases hj
    | some z => rw [hz] at hj; cases hj; exact hat j z hz
theorem srcInts_take {w : World} {a : Option Addr} {len cap k : Nat} {zs : List Int} (h : IsInts w a len cap zs) (hk : k ≤ len) : SrcAt w a k 1 (intCells (zs.take k)) := by
  refine srcInts (cap := cap) ⟨by rw [List.length_take, h.1.symm, Nat.min_eq_left hk], by have := h.2.1; omega, h.2.2.1, ?_⟩
  rcases h.2.2.2 with h0 | ⟨b, o, rfl, hb, hat⟩
  · exact .inl (by omega)
  · refine .inr ⟨b, o, rfl, hb, fun j s hs => hat j s ?_⟩
    rw [List.getElem?_take] at hs
    split at hs
    · exact hs
    · cases hs
theorem srcInts_drop {w : World} {b o : Nat} {len cap k : Nat} {zs : List Int} (h : IsInts w (some ⟨b, o, none⟩) len cap zs) (hk : k ≤ len) : SrcAt w (some ⟨b, o + k, none⟩) (len - k) 1 (intCells (zs.drop k)) := by
  refine srcInts (cap := cap - k) ⟨by rw [List.length_drop, h.1.symm], by have := h.2.1; omega, by have := h.2.2.1; omega, ?_⟩
  rcases h.2.2.2 with h0 | ⟨b', o', e, hb, hat⟩
  · exact .inl (by omega)
  · cases e
    refine .inr ⟨b, _, rfl, hb, fun j s hs => ?_⟩
    rw [List.getElem?_drop] at hs
    have := hat (k + j) s hs
    rwa [← Nat.add_assoc] at this
theorem SrcAt.below {w w' : World} {a : Option Addr} {m size : Nat} {L : List Value} (h : SrcAt w a m size L) (hb : Below w.heap.size w w') : SrcAt w' a m size L :=
  ⟨h.1, h.2.imp id fun ⟨ad, e, hc⟩ => ⟨ad, e, fun j u hj => (hb.cell (World.block_lt_of_cell? w _ (hc j u hj))).trans (hc j u hj)⟩⟩
theorem made_ints (w : World) (base : Nat) (h : base ≤ w.heap.size) : (w.alloc (.cells #[] 3)).ownsRow base 3 1 (.slice (some ⟨w.heap.size, 0, none⟩) 0 0) 0 [] :=
  World.ownsRow_made (base := base) (e := 3) (size := 1) w #[] 0 h (Nat.zero_le _) rfl
theorem HPost.of_row {w w' : World} {v : Value} {zs : List Int} (h : w'.ownsRow w.heap.size 3 1 v zs.length (intCells zs)) (_ : Below w.heap.size w w') : ∃ h : Hd, v = .slice h.a h.n h.c ∧ HInts w.heap.size w'.heap.size w' h zs := by
  rcases h.2 with ⟨rfl, h0⟩ | ⟨g, c, cur, rfl, _⟩
  · exact ⟨⟨none, 0, 0⟩, rfl, OwnIn.of_row h (Nat.le_refl _) (Nat.le_refl _)⟩
  · exact ⟨⟨some ⟨g, 0, none⟩, zs.length, c⟩, rfl, OwnIn.of_row h (Nat.le_refl _) (Nat.le_refl _)⟩
set_option maxHeartbeats 3200000 in
set_option maxRecDepth 100000 in
theorem l1Own_any (a : Option Addr) (len cap : Nat) (zs : List Int) (w : World) (h : IsInts w a len cap zs) (hx : zs.length ≤ 1048576) :
    Calls Try.prog 121 #[.slice a len cap] w (HPost zs w) := by
  obtain rfl := h.1
  obtain ⟨i0, hi, hz0, hz1, hz2⟩ := info_parts infoInt
  have B0 := Lib.hid (bel_al1 w (.cells #[] 3))
  have O0 := made_ints w w.heap.size (Nat.le_refl _)
  have SRC := srcInts (h.below B0.out)
  have SZ := Lib.hid (size_al w (.cells #[] 3))
  clear h
  go_enter Try.func121, Try.ntmps121
  go_wp2_with (at_builtin; refine wpList_append_list rfl _ _ 31 rfl w.heap.size 3 i0 (.int .i64 0) 1 8 Try.underlying31 hi hz0 hz1 hz2 rfl (by decide) _ _ _ rfl O0 _ zs.length cap (intCells zs) rfl SRC (one_ints zs) (by simp; unfold maxLen; omega) (by simp; omega) (by rw [SZ.out]; omega) ?_; intro v1 w1 hown1 hgrow1; have B1 := Lib.hid (B0.out.grown hgrow1 (by rw [SZ.out]; omega) (fun k e => by have := own_is e; omega)); have O1 := Lib.hid hown1; clear hown1 hgrow1)
  go_ret
  have h := O1.out
  simp only [Nat.zero_add, List.nil_append] at h
  obtain ⟨q, e, hq⟩ := HPost.of_row h B1.out
  exact ⟨q, by rw [← e]; rfl, hq, B1.out⟩
set_option maxHeartbeats 3200000 in
set_option maxRecDepth 100000 in
theorem cloneInts_any (a : Option Addr) (len cap : Nat) (zs : List Int) (w : World) (h : IsInts w a len cap zs) (hx : zs.length ≤ 1048576) :
    Calls Try.prog 114 #[.slice a len cap] w (HPost zs w) := by
  obtain rfl := h.1
  obtain ⟨i0, hi, hz0, hz1, hz2⟩ := info_parts infoInt
  cases a with
  | none =>
    have h0 : zs.length = 0 := by
      rcases h.2.2.2 with h0 | ⟨b, o, e, _⟩
      · exact h0
      · cases e
    obtain rfl : zs = [] := List.length_eq_zero_iff.1 h0
    clear h h0
    have hnil := fun w a n c n' c' => Lib.run_eql_slice_nil (P := Try.prog) w 31 3 a n c n' c' Try.underlying31
    go_enter Try.func114, Try.ntmps114
    go_wp2
    go_ret
    exact ⟨⟨none, 0, 0⟩, rfl, OwnIn.of_row ⟨by simp [intCells], .inl ⟨rfl, rfl⟩⟩ (Nat.le_refl _) (Nat.le_refl _), Below.refl _ _⟩
  | some ad =>
    have B0 := Lib.hid (bel_al1 w (.cells #[] 3))
    have O0 := made_ints w w.heap.size (Nat.le_refl _)
    have SRC := srcInts (h.below B0.out)
    have SZ := Lib.hid (size_al w (.cells #[] 3))
    clear h
    have hnil := fun w a n c n' c' => Lib.run_eql_slice_nil (P := Try.prog) w 31 3 a n c n' c' Try.underlying31
    go_enter Try.func114, Try.ntmps114
    go_wp2_with (at_builtin; refine wpList_append_list rfl _ _ 31 rfl w.heap.size 3 i0 (.int .i64 0) 1 8 Try.underlying31 hi hz0 hz1 hz2 rfl (by decide) _ _ _ rfl O0 _ zs.length cap (intCells zs) rfl SRC (one_ints zs) (by simp; unfold maxLen; omega) (by simp; omega) (by rw [SZ.out]; omega) ?_; intro v1 w1 hown1 hgrow1; have B1 := Lib.hid (B0.out.grown hgrow1 (by rw [SZ.out]; omega) (fun k e => by have := own_is e; omega)); have O1 := Lib.hid hown1; clear hown1 hgrow1)
    go_ret
    have h := O1.out
    simp only [Nat.zero_add, List.nil_append] at h
    obtain ⟨q, e, hq⟩ := HPost.of_row h B1.out
    exact ⟨q, by rw [← e]; rfl, hq, B1.out⟩
end Go.Proofs.Ytlmedhidkhphbaa
namespace Go.Proofs.Ytlmedhidkhphbaa
open Go.RowKit
def PutFlat_Post (z0 : List VFlat) (z1 : List VDrawer) (z2 : Int) (z3 : Int) (w : World) (e : Ending) (w' : World) : Prop :=
  ∃ v0 : Value, e = .returned (.tuple #[v0, .bool (PutFlat_1 z0 z1 z2 z3)]) ∧ OwnDrawerS w.heap.size w'.heap.size w' v0 (PutFlat_0 z0 z1 z2 z3) ∧ Below w.heap.size w w'
end Go.Proofs.Ytlmedhidkhphbaa
namespace Go.Proofs.Ytlmedhidkhphbaa
open Go.RowKit
def TakeFlat_Post (z0 : List VFlat) (z1 : List VDrawer) (z2 : Int) (w : World) (e : Ending) (w' : World) : Prop :=
  ∃ v0 : Value, e = .returned (.tuple #[v0, .bool (TakeFlat_1 z0 z1 z2)]) ∧ OwnDrawerS w.heap.size w'.heap.size w' v0 (TakeFlat_0 z0 z1 z2) ∧ Below w.heap.size w w'
end Go.Proofs.Ytlmedhidkhphbaa
namespace Go.Proofs.Ytlmedhidkhphbaa
open Go.RowKit

/-- A number put to its place, once. -/
def putL (n : Int) (zs : List Int) : List Int := if (zs.dropWhile fun z => decide (z < n)).head? = some n then zs else insAt n zs
theorem putL_new {n : Int} {zs : List Int} (h : n ∉ zs) : putL n zs = insAt n zs := by
  unfold putL
  rw [if_neg]
  intro e
  have : n ∈ zs.dropWhile fun z => decide (z < n) := by
    cases hd : zs.dropWhile fun z => decide (z < n) with
    | nil => rw [hd] at e; simp at e
    | cons y l => rw [hd] at e; simp at e; simp [e]
  exact h ((List.dropWhile_sublist _).subset this)
theorem putL_len (n : Int) (zs : List Int) : (putL n zs).length ≤ zs.length + 1 := by
  unfold putL
  split
  · omega
  · rw [insAt_len]; exact Nat.le_refl _
/-- Where the loop ends. -/
theorem putL_at {n : Int} {zs : List Int} {k : Nat} (h1 : ∀ (j : Nat) z, j < k → zs[j]? = some z → z < n) (h2 : ∀ z, zs[k]? = some z → ¬ z < n) : putL n zs = if zs[k]? = some n then zs else zs.take k ++ n :: zs.drop k := by
  obtain ⟨e1, e2⟩ := up_take_lt h1 h2
  unfold putL
  rw [e2, List.head?_drop, insAt_at h1 h2]
theorem ints_put {w : World} {base g n c : Nat} {xs : List Int} (h : w.ownsRow base 3 1 (.slice (some ⟨g, 0, none⟩) n c) n (intCells xs)) (hn : n = xs.length) : IsInts w (some ⟨g, 0, none⟩) n c xs := by
  subst hn
  obtain ⟨a, c', e, h', _⟩ := isInts_own h
  cases e
  exact h'
theorem step_append_opt {P : Program} {w : World} {ops : Array Oper} {o : Oper} {a : Act} {K : Act → World → Prop} {Q : Exit → Act → World → Prop} {E : Prop} (hgd : o.guard = none) (s x : Operand) (t : TypeId)
    (ho : o.op = .call { callee := .builtin .append, args := #[s, x], argTypes := #[t, t] })
    (base : Nat) (e : TypeId) (i : TypeInfo) (z : Value) (size bytes : Nat) (ht : P.underlying t = some (.slice e)) (hi : P.info? e = some i) (hz : i.zero = some z)
    (hsize : i.size = size) (hby : i.bytes = bytes) (hzs : z.cells.size = size) (hsz : 0 < size)
    (v : Value) (hs : a.eval s = v) (n : Nat) (xs : List Value) (hown : w.ownsRow base e size v n xs)
    (u : Value) (hx : a.eval x = u) (ad : Option Addr) (m c : Nat) (news : List Value) (hu : u = .slice ad m c) (hsrc : SrcAt w ad m size news) (h1 : ∀ u ∈ news, u.oneCell' = true)
    (h63 : n + m ≤ maxLen) (hbytes : (n + m) * bytes ≤ 140737488355328) (hbase : base ≤ w.heap.size)
    (h : ∀ v' w', w'.ownsRow base e size v' (n + m) (xs ++ news) → w.grownBy w' v.ownBlock → K (a.put o.dst v') w') :
    if Region.wanted o (yielded ops a.tmps) = true then Oper.wp P o a w K Q else E := by
  subst hu
  exact step_append_list hgd s x t ho base e i z size bytes ht hi hz hsize hby hzs hsz v n xs hs hown ad m c news hx hsrc h1 h63 hbytes hbase h
def ReadsInts (zs : List Int) (w : World) (e : Ending) (w' : World) : Prop := ∃ h : Hd, e = .returned (.slice h.a h.n h.c) ∧ IsInts w' h.a h.n h.c zs ∧ Below w.heap.size w w'
theorem belDA {w W : World} (h : Below w.heap.size w W) (o : Obj) : Below w.heap.size w (W.drew.alloc o) := Below.then' (bel_drew' h) (bel_al1 _ o)
theorem belDAA {w W : World} (h : Below w.heap.size w W) (o o' : Obj) : Below w.heap.size w ((W.drew.alloc o).alloc o') := Below.then' (belDA h o) (bel_al1 _ o')
theorem madeLater (W : World) (o : Obj) : ((W.drew.alloc o).alloc (.cells #[] 3)).ownsRow W.heap.size 3 1 (.slice (some ⟨W.heap.size + 1, 0, none⟩) 0 0) 0 [] := by
  have h := made_ints (W.drew.alloc o) W.heap.size (by rw [size_al]; exact Nat.le_succ _)
  rw [size_al] at h
  exact h
theorem lit_L {W w5 : World} {n : Int} {o : Obj} (hg : ((W.drew.alloc (.cells #[.int .i64 n] 3)).alloc o).grownBy w5 (some (W.heap.size + 1))) : w5.cell? ⟨W.heap.size, 0, none⟩ = some (.int .i64 n) := by
  have h1 : (W.drew.alloc (.cells #[.int .i64 n] 3)).cell? ⟨W.heap.size, 0, none⟩ = some (.int .i64 n) := cell_box W.drew (.int .i64 n) 3 _ rfl
  have hl := World.lt_of_cell h1
  have h2 := ((bel_al1 (W.drew.alloc (.cells #[.int .i64 n] 3)) o).cell (p := ⟨W.heap.size, 0, none⟩) hl).trans h1
  exact (World.cell?_of_block (a := ⟨W.heap.size, 0, none⟩) (hg.block W.heap.size (World.lt_of_cell h2) (fun e => by have := Option.some.inj e; omega))).trans h2
theorem lit_M {W w5 : World} {n : Int} {o : Obj} (hg : ((W.drew.alloc o).alloc (.cells #[.int .i64 n] 3)).grownBy w5 (some W.heap.size)) : w5.cell? ⟨W.heap.size + 1, 0, none⟩ = some (.int .i64 n) := by
  have h1 : ((W.drew.alloc o).alloc (.cells #[.int .i64 n] 3)).cell? ⟨W.heap.size + 1, 0, none⟩ = some (.int .i64 n) := cell_box (W.drew.alloc o) (.int .i64 n) 3 _ (size_al _ _)
  exact (World.cell?_of_block (a := ⟨W.heap.size + 1, 0, none⟩) (hg.block (W.heap.size + 1) (World.lt_of_cell h1) (fun e => by have := Option.some.inj e; omega))).trans h1
theorem src_one {w : World} {b : Nat} {n : Int} (h : w.cell? ⟨b, 0, none⟩ = some (.int .i64 n)) : SrcAt w (some ⟨b, 0, none⟩) 1 1 [.int .i64 n] :=
  ⟨rfl, .inr ⟨_, rfl, fun j u hj => by
    match j, hj with
    | 0, hj => simp at hj; subst hj; simpa [Addr.add] using h
    | j + 1, hj => simp at hj⟩⟩
theorem one_int (n : Int) : ∀ u ∈ [Value.int .i64 n], u.oneCell' = true := by intro u hu; simp at hu; subst hu; rfl
/-- The row that three appends make. -/
theorem three_ints (zs : List Int) (k : Nat) (n : Int) : [] ++ intCells (zs.take k) ++ [Value.int .i64 n] ++ intCells (zs.drop k) = intCells (zs.take k ++ n :: zs.drop k) := by simp [intCells]
set_option maxHeartbeats 25600000 in
set_option maxRecDepth 100000 in
theorem l1Put_any (a : Option Addr) (len cap : Nat) (zs : List Int) (n : Int) (w : World) (h : IsInts w a len cap zs) (hx : zs.length ≤ 1000) :
    Calls Try.prog 73 #[.slice a len cap, .int .i64 n] w (ReadsInts (putL n zs) w) := by
  obtain ⟨i1, hi1, hy0, hy1, hy2⟩ := info_parts infoInt
  have hm := h.2.2.1
  have hcl := h.2.1
  unfold maxLen at hm
  have S := Lib.hid h
  have L := Lib.hid h.1
  have hl10 : len ≤ 1000 := by have := h.1; omega
  clear h
  go_enter Try.func73, Try.ntmps73
  go_wp2
  go_loop [5] (fun i => ∃ k : Nat, k ≤ len ∧ i = .int .i64 k ∧ ∀ (j : Nat) z, j < k → zs[j]? = some z → z < n) (fun i => len - (intOf i).toNat)
  case atStart => exact ⟨0, Nat.zero_le _, rfl, fun _ _ h => by omega⟩
  case round =>
    obtain ⟨k, hk, rfl, hall⟩ := hrel
    have A := Lib.hid hall
    clear hall
    have k0 : (0 : Int) ≤ (k : Int) := by omega
    have kl : (k : Int) ≤ (len : Int) := by omega
    have kc : k ≤ cap := by omega
    have kc2 : (k : Int) ≤ (cap : Int) := by omega
    by_cases hlt : k < len
    · obtain ⟨z, hz⟩ := el_at L hlt
      obtain ⟨b, o, rfl, hb, hat⟩ := S.out.at (by omega)
      have c0 := hat k z hz
      have AT := Lib.hid hat
      have Z := Lib.hid hz
      have hi1' : (k : Int) < (len : Int) := by omega
      clear hz hat
      by_cases hzn : z < n
      · go_wp2
        go_round
        case rel => exact ⟨k + 1, by omega, by go_num, fun j y hj hy => by
          by_cases e : j = k
          · subst e; rw [Z.out] at hy; cases hy; exact hzn
          · exact A.out j y (by omega) hy⟩
        case measure => simp [intOf]; omega
      · have PA := Lib.hid (putL_at A.out (fun y hy => by rw [Z.out] at hy; cases hy; exact hzn) : putL n zs = if zs[k]? = some n then zs else zs.take k ++ n :: zs.drop k)
        by_cases hze : z = n
        · have E := Lib.hid (show putL n zs = zs from by rw [PA.out, Z.out, if_pos (by rw [hze])])
          have hb1 : (z == n) = true := by simpa using hze
          subst hze
          go_wp2
          go_ret
          exact ⟨⟨_, len, cap⟩, rfl, by rw [E.out]; exact S.out, Below.refl _ _⟩
        · have E := Lib.hid (show putL n zs = zs.take k ++ n :: zs.drop k from by rw [PA.out, Z.out, if_neg (fun e => hze (Option.some.inj e))])
          have hb1 : (z == n) = false := by simpa using hze
          have hcj : ¬ cap = k := by omega
          clear PA
          go_wp2_with fail
          refine wp_world (fun W => Below w.heap.size w W) (by first | exact Below.refl _ _ | exact bel_drawn _ _) ?_
          intro W hbw
          have BW := Lib.hid hbw
          have hW0 := hbw.size
          clear hbw c0
          have hj' : k ≤ len := hk
          go_region_law (first
            | (refine step_append_some (by rfl) (.tmp 33) (.tmp 36) 31 (by rfl) W.heap.size 3 i1 (.int .i64 0) 1 8 Try.underlying31 hi1 hy0 hy1 hy2 (by rfl) (by decide) _ (by simp [Act.eval]; rfl) _ _ 0 [] (by rfl) (by first | exact made_ints W.drew W.heap.size (Nat.le_refl _) | exact (made_ints W.drew W.heap.size (Nat.le_refl _)).alloc (.cells #[.int .i64 n] 3) | exact madeLater W (.cells #[.int .i64 n] 3)) _ (by simp [Act.eval]; rfl) _ k _ (intCells (zs.take k)) (by rfl) (by first | exact srcInts_take (S.out.below (belDA BW.out _)) hj' | exact srcInts_take (S.out.below (belDAA BW.out _ _)) hj') (one_ints _) (by unfold maxLen; omega) (by omega) (by first | exact (belDA (Below.refl W.heap.size W) _).size | exact (belDAA (Below.refl W.heap.size W) _ _).size) ?_; intro g5 c5 w5 hown5 hgrow5 hn5 hc5 hg5 hl5; rw [Nat.zero_add, List.nil_append] at hown5; have O5 := Lib.hid hown5; have hs5 : W.heap.size ≤ w5.heap.size := by omega
               have B5 := Lib.hid (show Below w.heap.size w w5 from by first | exact (belDA BW.out _).grown hgrow5 (belDA BW.out _).size (fun j e => by cases e; omega) | exact (belDAA BW.out _ _).grown hgrow5 (belDAA BW.out _ _).size (fun j e => by cases e; omega))
               try have N5 := Lib.hid (lit_L hgrow5)
               try have N5 := Lib.hid (lit_M hgrow5)
               clear hown5 hgrow5)
            | (refine step_append_some (by rfl) (.tmp 37) (.tmp 39) 31 (by rfl) W.heap.size 3 i1 (.int .i64 0) 1 8 Try.underlying31 hi1 hy0 hy1 hy2 (by rfl) (by decide) _ (by simp [Act.eval]; rfl) g5 c5 k (intCells (zs.take k)) (by rfl) (by first | exact O5.out | exact O5.out.alloc _) _ (by simp [Act.eval]; rfl) _ 1 1 [.int .i64 n] (by rfl) (by first | exact src_one N5.out | exact src_one (cell_box w5 (.int .i64 n) 3 _ rfl)) (one_int n) (by unfold maxLen; omega) (by omega) (by first | exact hs5 | exact Nat.le_trans hs5 (bel_al1 w5 _).size) ?_; intro g6 c6 w6 hown6 hgrow6 hn6 hc6 hg6 hl6; have O6 := Lib.hid hown6; have hs6 : W.heap.size ≤ w6.heap.size := by omega
               have B6 := Lib.hid (show Below w.heap.size w w6 from by first | exact B5.out.grown hgrow6 B5.out.size (fun j e => by cases e; omega) | exact (Below.then' B5.out (bel_al1 _ _)).grown hgrow6 (Below.then' B5.out (bel_al1 _ _)).size (fun j e => by cases e; omega))
               clear hown6 hgrow6)
            | (refine step_append_some (by rfl) (.tmp 40) (.tmp 43) 31 (by rfl) W.heap.size 3 i1 (.int .i64 0) 1 8 Try.underlying31 hi1 hy0 hy1 hy2 (by rfl) (by decide) _ (by simp [Act.eval]; rfl) g6 c6 (k + 1) (intCells (zs.take k) ++ [.int .i64 n]) (by rfl) O6.out _ (by simp [Act.eval]; rfl) _ (len - k) _ (intCells (zs.drop k)) (by rfl) (srcInts_drop (S.out.below B6.out) hj') (one_ints _) (by unfold maxLen; omega) (by omega) hs6 ?_; intro g7 c7 w7 hown7 hgrow7 hn7 hc7 hg7 hl7
               have O7 := Lib.hid hown7
               have B7 := Lib.hid (show Below w.heap.size w w7 from B6.out.grown hgrow7 B6.out.size (fun j e => by cases e; omega))
               clear hown7 hgrow7))
          all_goals go_wp2
          all_goals go_ret
          all_goals exact ⟨⟨_, _, _⟩, rfl, by
            rw [E.out]
            have h := O7.out
            rw [show intCells (zs.take k) ++ [Value.int .i64 n] ++ intCells (zs.drop k) = intCells (zs.take k ++ n :: zs.drop k) from by simp [intCells]] at h
            exact ints_put h (by have := L.out; show k + 1 + (len - k) = _; rw [List.length_append, List.length_take, List.length_cons, List.length_drop]; omega), B7.out⟩
    · obtain rfl : k = len := by omega
      have E := Lib.hid (show putL n zs = zs ++ [n] from by
        have hz : zs.length ≤ k := by have := L.out; omega
        have h := putL_at (zs := zs) (k := k) A.out (fun y hy => by rw [List.getElem?_eq_none hz] at hy; cases hy)
        rw [h, if_neg (by rw [List.getElem?_eq_none hz]; simp), List.take_of_length_le hz, List.drop_of_length_le hz])
      have TK := Lib.hid (show zs.take k = zs from List.take_of_length_le (by have := L.out; omega))
      have hj' : k ≤ k := Nat.le_refl _
      go_wp2_with fail
      refine wp_world (fun W => Below w.heap.size w W) (by first | exact Below.refl _ _ | exact bel_drawn _ _) ?_
      intro W hbw
      have BW := Lib.hid hbw
      have hW0 := hbw.size
      clear hbw
      by_cases hcj : cap = k
      all_goals rcases a with _ | p
      all_goals
          go_region_law (first
            | (refine step_append_opt (by rfl) (.tmp 33) (.tmp 36) 31 (by rfl) W.heap.size 3 i1 (.int .i64 0) 1 8 Try.underlying31 hi1 hy0 hy1 hy2 (by rfl) (by decide) _ (by simp [Act.eval] <;> rfl) 0 [] (by first | exact made_ints W.drew W.heap.size (Nat.le_refl _) | exact (made_ints W.drew W.heap.size (Nat.le_refl _)).alloc (.cells #[.int .i64 n] 3) | exact madeLater W (.cells #[.int .i64 n] 3)) _ (by simp [Act.eval] <;> rfl) _ k _ (intCells (zs.take k)) (by rfl) (by first | exact srcInts_take (S.out.below (belDA BW.out _)) hj' | exact srcInts_take (S.out.below (belDAA BW.out _ _)) hj') (one_ints _) (by unfold maxLen; omega) (by omega) (by first | exact (belDA (Below.refl W.heap.size W) _).size | exact (belDAA (Below.refl W.heap.size W) _ _).size) ?_; intro v5 w5 hown5 hgrow5; rw [Nat.zero_add, List.nil_append] at hown5; have O5 := Lib.hid hown5
               have B5W := Lib.hid (show Below W.heap.size W w5 from by first | exact (belDA (Below.refl _ W) _).grown hgrow5 (belDA (Below.refl _ W) _).size (fun j e => by have := own_is e; omega) | exact (belDAA (Below.refl _ W) _ _).grown hgrow5 (belDAA (Below.refl _ W) _ _).size (fun j e => by have := own_is e; omega))
               have hs5 : W.heap.size ≤ w5.heap.size := B5W.out.size
               have B5 := Lib.hid (Below.then' BW.out B5W.out)
               try have N5 := Lib.hid (lit_L hgrow5)
               try have N5 := Lib.hid (lit_M hgrow5)
               clear hown5 hgrow5)
            | (refine step_append_opt (by rfl) (.tmp 37) (.tmp 39) 31 (by rfl) W.heap.size 3 i1 (.int .i64 0) 1 8 Try.underlying31 hi1 hy0 hy1 hy2 (by rfl) (by decide) _ (by simp [Act.eval] <;> rfl) k (intCells (zs.take k)) (by first | exact O5.out | exact O5.out.alloc _) _ (by simp [Act.eval] <;> rfl) _ 1 1 [.int .i64 n] (by rfl) (by first | exact src_one N5.out | exact src_one (cell_box w5 (.int .i64 n) 3 _ rfl)) (one_int n) (by unfold maxLen; omega) (by omega) (by first | exact hs5 | exact Nat.le_trans hs5 (bel_al1 w5 _).size) ?_; intro v6 w6 hown6 hgrow6; have O6 := Lib.hid hown6
               have B6 := Lib.hid (show Below w.heap.size w w6 from by first | exact B5.out.grown hgrow6 B5.out.size (fun j e => Nat.le_trans hW0 (O5.out.lt j e).1) | exact (Below.then' B5.out (bel_al1 _ _)).grown hgrow6 (Below.then' B5.out (bel_al1 _ _)).size (fun j e => Nat.le_trans hW0 (O5.out.lt j e).1))
               have hs6 : W.heap.size ≤ w6.heap.size := by first | exact (B5W.out.grown hgrow6 B5W.out.size (fun j e => (O5.out.lt j e).1)).size | exact ((Below.then' B5W.out (bel_al1 _ _)).grown hgrow6 (Below.then' B5W.out (bel_al1 _ _)).size (fun j e => (O5.out.lt j e).1)).size
               clear hown6 hgrow6)
            | (refine step_append_opt (by rfl) (.tmp 40) (.tmp 43) 31 (by rfl) W.heap.size 3 i1 (.int .i64 0) 1 8 Try.underlying31 hi1 hy0 hy1 hy2 (by rfl) (by decide) _ (by simp [Act.eval] <;> rfl) (k + 1) (intCells (zs.take k) ++ [.int .i64 n]) O6.out _ (by simp [Act.eval] <;> rfl) _ 0 _ [] (by rfl) ⟨rfl, .inl rfl⟩ (by simp) (by unfold maxLen; omega) (by omega) hs6 ?_; intro v7 w7 hown7 hgrow7
               have O7 := Lib.hid hown7
               have B7 := Lib.hid (show Below w.heap.size w w7 from B6.out.grown hgrow7 B6.out.size (fun j e => Nat.le_trans hW0 (O6.out.lt j e).1))
               clear hown7 hgrow7))
          all_goals go_wp2
          all_goals go_ret
          all_goals
            have h := O7.out
            rw [TK.out, show intCells zs ++ [Value.int .i64 n] ++ [] = intCells (zs ++ [n]) from by simp [intCells], show k + 1 + 0 = (zs ++ [n]).length from by have := L.out; rw [List.length_append, List.length_singleton]; omega] at h
            obtain ⟨a', c', e', h', _⟩ := isInts_own h
            rw [e']
            exact ⟨⟨a', (zs ++ [n]).length, c'⟩, rfl, by rw [E.out]; exact h', B7.out⟩
end Go.Proofs.Ytlmedhidkhphbaa
