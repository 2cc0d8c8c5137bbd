/- AreFlats, AreDrawers, GramsIn, DrawerOf, LooseFlats, EmptyDrawers in the model. -/
import Derived.Test.YtlmedhidkhphbaaDs3
import Derived.Test.YtlmedhidkhphbaaAreFlatsP
import Derived.Test.YtlmedhidkhphbaaAreDrawersP
import Derived.Test.YtlmedhidkhphbaaGramsInP
import Derived.Test.YtlmedhidkhphbaaDrawerOfP
import Derived.Test.YtlmedhidkhphbaaLooseFlatsP
import Derived.Test.YtlmedhidkhphbaaEmptyDrawersP
namespace Go.Proofs.Ytlmedhidkhphbaa
open Go.RowKit

theorem specAreFlats_any (a : Option Addr) (len cap : Nat) (xs : List VFlat) (w : World) (h : IsFlatS w a len cap xs) (_ : condFlat xs) :
    Calls Try.prog 31 #[.slice a len cap] w (AreFlats_Post xs w) := by
  have S := Lib.hid h
  clear h
  go_enter Try.func31, Try.ntmps31
  go_wp2_with fail
  refine (l5Flats_any _ _ _ xs _ S.out).mono ?_
  rintro e w2 ⟨rfl, hb⟩
  have B := Lib.hid hb
  clear hb
  go_wp2
  go_ret
  exact ⟨rfl, B.out⟩
theorem specAreDrawers_any (a : Option Addr) (len cap : Nat) (xs : List VFlat) (a1 : Option Addr) (len1 cap1 : Nat) (ds : List VDrawer) (w : World) (h : IsFlatS w a len cap xs) (_ : condFlat xs) (h' : IsDrawerS w a1 len1 cap1 ds) (_ : condDrawer ds) :
    Calls Try.prog 33 #[.slice a len cap, .slice a1 len1 cap1] w (AreDrawers_Post xs ds w) := by
  have S := Lib.hid h
  have D := Lib.hid h'
  clear h h'
  go_enter Try.func33, Try.ntmps33
  go_wp2_with fail
  refine (l5Good_any _ _ _ xs _ _ _ ds _ S.out D.out).mono ?_
  rintro e w2 ⟨rfl, hb⟩
  have B := Lib.hid hb
  clear hb
  go_wp2
  go_ret
  exact ⟨rfl, B.out⟩
theorem good_grams {fs : List VFlat} {ds : List VDrawer} (h : Good fs ds) {i : Nat} {d : VDrawer} (hd : ds[i]? = some d) : gramsW fs d = gramsL fs d.Flats := by
  have hids := good_ids h hd
  have hr := h.right i d hd
  unfold rightB at hr
  rw [Bool.and_eq_true] at hr
  rw [gramsW_ok (fun f hm => upB_ok h.flats hm) hids.2]
  unfold gramsM
  rw [if_pos hr.1, gramsL_sum (apart_up h.flats) (idsB_nodup hids.1) fun id hid => by
    obtain ⟨f, h, _⟩ := fitsId_some (List.all_eq_true.1 hr.1 id hid)
    exact ⟨f, h⟩]
set_option maxHeartbeats 3200000 in
theorem specGramsIn_any (a : Option Addr) (len cap : Nat) (xs : List VFlat) (a1 : Option Addr) (len1 cap1 : Nat) (ds : List VDrawer) (id : Int) (w : World) (h : IsFlatS w a len cap xs) (_ : condFlat xs) (h' : IsDrawerS w a1 len1 cap1 ds) (_ : condDrawer ds) :
    Calls Try.prog 44 #[.slice a len cap, .slice a1 len1 cap1, .int .i64 id] w (GramsIn_Post xs ds id w) := by
  have S := Lib.hid h
  have D := Lib.hid h'
  clear h h'
  obtain ⟨y, hy⟩ : ∃ y, drawI ds id = y := ⟨_, rfl⟩
  have Y := Lib.hid hy
  clear hy
  go_enter Try.func44, Try.ntmps44
  go_wp2_with fail
  refine (l5Index_any _ _ _ ds id _ D.out).mono ?_
  rintro e w1 ⟨rfl, rfl⟩
  rw [Y.out]
  go_wp2_with fail
  refine (l5Good_any _ _ _ xs _ _ _ ds _ S.out D.out).mono ?_
  rintro e w2 ⟨rfl, hb⟩
  have B2 := Lib.hid hb
  have S2 := Lib.hid (S.out.below hb)
  have D2 := Lib.hid (D.out.below hb)
  clear hb
  cases hg : goodB xs ds with
  | false =>
    have E := Lib.hid (show GramsIn_1 xs ds id = false from by unfold GramsIn_1; rw [hg]; rfl)
    clear hg
    go_wp2
    go_ret2
    exact ⟨by unfold GramsIn_0; rw [E.out]; rfl, B2.out⟩
  | true =>
  have G := Lib.hid (good_iff.1 hg)
  have HG := Lib.hid hg
  clear hg
  by_cases hneg : y < 0
  · have E := Lib.hid (show GramsIn_1 xs ds id = false from by unfold GramsIn_1; rw [HG.out, Y.out, decide_eq_false (by omega)]; rfl)
    go_wp2
    go_ret2
    exact ⟨by unfold GramsIn_0; rw [E.out]; rfl, B2.out⟩
  · obtain ⟨i, d, hi, hd, hf, hid⟩ := draw_at (ds := ds) (id := id) (by rw [Y.out]; omega)
    have E := Lib.hid (show GramsIn_1 xs ds id = true ∧ GramsIn_0 xs ds id = gramsL xs d.Flats from by
      have e1 : GramsIn_1 xs ds id = true := by unfold GramsIn_1; rw [HG.out, Y.out, decide_eq_true (by omega)]; rfl
      refine ⟨e1, ?_⟩
      unfold GramsIn_0
      rw [if_pos e1, hf])
    have GE := Lib.hid (good_grams G.out hd)
    have hil := (List.getElem?_eq_some_iff.1 hd).1
    have hdl := D2.out.1
    obtain ⟨b, o, rfl, hb, hat⟩ := D2.out.at (by omega)
    obtain ⟨q, c0, c1, c2, c3, c4, hin⟩ := hat i d hd
    have HI := Lib.hid hin
    have i0 : (0 : Int) ≤ (i : Int) := by omega
    have i1 : (i : Int) < (len1 : Int) := by omega
    obtain rfl : y = (i : Int) := by rw [← Y.out, hi]
    clear hneg hi hd hf hid hat hin hdl
    go_wp2_with fail
    refine (l5Grams_any _ _ _ xs d q _ S2.out HI.out).mono ?_
    rintro e w3 ⟨rfl, hb3⟩
    have B3 := Lib.hid (Below.then' B2.out hb3)
    clear hb3
    go_wp2
    go_ret2
    exact ⟨by rw [E.out.1, E.out.2, ← GE.out]; rfl, B3.out⟩
set_option maxHeartbeats 3200000 in
theorem specDrawerOf_any (a : Option Addr) (len cap : Nat) (xs : List VFlat) (a1 : Option Addr) (len1 cap1 : Nat) (ds : List VDrawer) (id : Int) (w : World) (h : IsFlatS w a len cap xs) (_ : condFlat xs) (h' : IsDrawerS w a1 len1 cap1 ds) (_ : condDrawer ds) :
    Calls Try.prog 45 #[.slice a len cap, .slice a1 len1 cap1, .int .i64 id] w (DrawerOf_Post xs ds id w) := by
  have S := Lib.hid h
  have D := Lib.hid h'
  clear h h'
  go_enter Try.func45, Try.ntmps45
  go_wp2_with fail
  refine (l5Good_any _ _ _ xs _ _ _ ds _ S.out D.out).mono ?_
  rintro e w1 ⟨rfl, hb⟩
  have B1 := Lib.hid hb
  have S1 := Lib.hid (S.out.below hb)
  have D1 := Lib.hid (D.out.below hb)
  clear hb
  cases hg : goodB xs ds with
  | false =>
    have E := Lib.hid (show DrawerOf_1 xs ds id = false from by unfold DrawerOf_1; rw [hg]; rfl)
    clear hg
    go_wp2
    go_ret2
    exact ⟨by unfold DrawerOf_0; rw [E.out]; rfl, B1.out⟩
  | true =>
  have HG := Lib.hid hg
  clear hg
  go_wp2_with fail
  refine (l5Find_any _ _ _ xs id _ S1.out).mono ?_
  rintro e w2 ⟨rfl, rfl⟩
  obtain ⟨y, hy⟩ : ∃ y, flatI xs id = y := ⟨_, rfl⟩
  rw [hy]
  by_cases hneg : y < 0
  · have E := Lib.hid (show DrawerOf_1 xs ds id = false from by unfold DrawerOf_1; rw [HG.out, decide_eq_false (by omega)]; rfl)
    clear hy
    go_wp2
    go_ret2
    exact ⟨by unfold DrawerOf_0; rw [E.out]; rfl, B1.out⟩
  · have E1 := Lib.hid (show DrawerOf_1 xs ds id = true from by unfold DrawerOf_1; rw [HG.out, decide_eq_true (by omega)]; rfl)
    clear hy
    go_wp2_with fail
    refine (l5Where_any _ _ _ ds id _ D1.out).mono ?_
    rintro e w3 ⟨rfl, rfl⟩
    by_cases hn2 : holdI ds id < 0
    · have E0 := Lib.hid (show DrawerOf_0 xs ds id = 0 from by unfold DrawerOf_0; rw [if_pos E1.out, (hold_no hn2).2])
      obtain ⟨z, hz⟩ : ∃ z, holdI ds id = z := ⟨_, rfl⟩
      rw [hz] at hn2 ⊢
      clear hz
      go_wp2
      go_ret2
      exact ⟨by rw [E0.out, E1.out]; rfl, B1.out⟩
    · obtain ⟨i, d, hi, hd, hf, hm⟩ := hold_at (show 0 ≤ holdI ds id by omega)
      have E0 := Lib.hid (show DrawerOf_0 xs ds id = d.Id from by unfold DrawerOf_0; rw [if_pos E1.out, hf])
      have hil := (List.getElem?_eq_some_iff.1 hd).1
      have hdl := D1.out.1
      obtain ⟨b, o, rfl, hb, hat⟩ := D1.out.at (by omega)
      obtain ⟨q, c0, _⟩ := hat i d hd
      have i0 : (0 : Int) ≤ (i : Int) := by omega
      have i1 : (i : Int) < (len1 : Int) := by omega
      rw [hi]
      clear hn2 hi hd hf hm hat hdl
      go_wp2
      go_ret2
      exact ⟨by rw [E0.out, E1.out]; rfl, B1.out⟩
theorem made_ownInt (w : World) : (w.alloc (.cells #[] 3)).ownsRow w.heap.size 3 1 (.slice (some ⟨w.heap.size, 0, none⟩) 0 0) 0 [] :=
  World.ownsRow_made (base := w.heap.size) (e := 3) (size := 1) w #[] 0 (Nat.le_refl _) (Nat.zero_le _) rfl
theorem own_made (w : World) : OwnIntS w.heap.size (w.heap.size + 1) (w.alloc (.cells #[] 3)) (.slice (some ⟨w.heap.size, 0, none⟩) 0 0) [] :=
  OwnIn.of_row (made_ownInt w) (Nat.le_refl _) (by rw [size_al]; exact Nat.le_refl _)
theorem filter_more {α : Type} {xs : List α} {k : Nat} {s : α} (f : α → Bool) (g : α → Int) (hs : xs[k]? = some s) : ((xs.take (k + 1)).filter f).map g = ((xs.take k).filter f).map g ++ (if f s = true then [g s] else []) := by
  rw [filter_snoc' f hs, List.map_append]
  split <;> rfl
theorem filter_more_len {α : Type} (f : α → Bool) (g : α → Int) (xs : List α) (k : Nat) : (((xs.take k).filter f).map g).length ≤ k := by
  rw [List.length_map]
  exact filter_len' f xs k
/-- A row of integers of the call's own, and the world below as it was. -/
def IntsPostS (xs : List Int) (w : World) (e : Ending) (w' : World) : Prop := ∃ v, e = .returned v ∧ OwnIntS w.heap.size w'.heap.size w' v xs ∧ Below w.heap.size w w'
set_option maxHeartbeats 6400000 in
set_option maxRecDepth 100000 in
theorem l5Loose_any (a : Option Addr) (len cap : Nat) (xs : List VFlat) (a1 : Option Addr) (len1 cap1 : Nat) (ds : List VDrawer) (w : World) (h : IsFlatS w a len cap xs) (h' : IsDrawerS w a1 len1 cap1 ds) (hl : xs.length ≤ 1000) :
    Calls Try.prog 104 #[.slice a len cap, .slice a1 len1 cap1] w (IntsPostS (looseL xs ds) w) := by
  obtain rfl := h.1
  obtain ⟨i0, hi, hz0, hz1, hz2⟩ := info_parts infoInt
  have hm := h.2.2.1
  have hcl := h.2.1
  unfold maxLen at hm
  have S := Lib.hid h
  have D := Lib.hid h'
  have O0 := Lib.hid (made_ownInt w)
  clear h h'
  go_enter Try.func104, Try.ntmps104
  go_wp2
  go_loopw [6, 5] (fun i o wr => ∃ k : Nat, k ≤ xs.length ∧ i = .int .i64 k ∧ wr.ownsRow w.heap.size 3 1 o (((xs.take k).filter fun f => decide (holdI ds f.Id < 0)).map VFlat.Id).length (intCells (((xs.take k).filter fun f => decide (holdI ds f.Id < 0)).map VFlat.Id)) ∧ Below w.heap.size w wr) (fun i _ _ => xs.length - (intOf i).toNat)
  case atStart => exact ⟨0, Nat.zero_le _, rfl, O0.out, bel_al1 _ _⟩
  case round =>
    obtain ⟨k, hk, rfl, hown, hbel⟩ := hrel
    have B := Lib.hid hbel
    by_cases hlt : k < xs.length
    · obtain ⟨s, hs⟩ : ∃ s, xs[k]? = some s := ⟨xs[k]'hlt, List.getElem?_eq_getElem _⟩
      obtain ⟨b, o, rfl, hbw, hat⟩ := (S.out.below hbel).at (by omega)
      obtain ⟨c0, _⟩ := hat k s hs
      have FS := Lib.hid (filter_more (fun f => decide (holdI ds f.Id < 0)) VFlat.Id hs)
      have hgl := filter_more_len (fun f => decide (holdI ds f.Id < 0)) VFlat.Id xs k
      obtain ⟨G, hG⟩ : ∃ G, ((xs.take k).filter fun f => decide (holdI ds f.Id < 0)).map VFlat.Id = G := ⟨_, rfl⟩
      rw [hG] at hown FS hgl
      have O := Lib.hid hown
      obtain ⟨y, hy⟩ : ∃ y, holdI ds s.Id = y := ⟨_, rfl⟩
      have Y := Lib.hid hy
      have DB := Lib.hid (D.out.below hbel)
      have hi0 : (0 : Int) ≤ (k : Int) := by omega
      have hi1 : (k : Int) < (xs.length : Int) := by omega
      have hsz := B.out.size
      clear hs hat hbel hG hy hown
      go_wp2_with fail
      refine (l5Where_any _ _ _ ds s.Id _ DB.out).mono ?_
      rintro e w2 ⟨rfl, rfl⟩
      rw [Y.out]
      by_cases hn : y < 0
      · have hown3 := O.out.alloc (.cells #[.int .i64 s.Id] 3)
        go_wp2_with (at_builtin; refine wpList_append_own _ rfl _ _ 31 rfl w.heap.size 3 i0 (.int .i64 0) 1 8 Try.underlying31 hi hz0 hz1 hz2 rfl (by decide) _ _ _ rfl hown3 ⟨wr.heap.size, 0, none⟩ 1 1 [.int .i64 s.Id] rfl rfl (cell_one _ _ _) (fun x hx => by simp at hx; subst hx; rfl) (by unfold maxLen; omega) (by omega) (by simp; omega) ?_; intro v' w4 hown' hgrow4 hnil4)
        go_roundw
        case rel =>
          refine ⟨k + 1, by omega, by go_num, ?_, (Below.then' B.out (bel_al1 _ _)).grown hgrow4 (by simp; omega) (fun j e => (hown3.lt j e).1)⟩
          rw [FS.out, Y.out, if_pos (by simpa using hn), intCells_snoc]
          rw [List.length_append]
          exact hown'
        case measure => simp [intOf]; omega
      · go_wp2
        go_roundw
        case rel => exact ⟨k + 1, by omega, by go_num, by rw [FS.out, Y.out, if_neg (by simpa using hn)]; simpa using O.out, B.out⟩
        case measure => simp [intOf]; omega
    · obtain rfl : k = xs.length := by omega
      rw [List.take_of_length_le (Nat.le_refl _)] at hown
      have O := Lib.hid hown
      clear hbel hown
      go_wp2
      go_ret
      exact ⟨_, rfl, OwnIn.of_row O.out (Nat.le_refl _) (Nat.le_refl _), B.out⟩
set_option maxHeartbeats 3200000 in
theorem specLooseFlats_any (a : Option Addr) (len cap : Nat) (xs : List VFlat) (a1 : Option Addr) (len1 cap1 : Nat) (ds : List VDrawer) (w : World) (h : IsFlatS w a len cap xs) (_ : condFlat xs) (h' : IsDrawerS w a1 len1 cap1 ds) (_ : condDrawer ds) :
    Calls Try.prog 55 #[.slice a len cap, .slice a1 len1 cap1] w (LooseFlats_Post xs ds w) := by
  have S := Lib.hid h
  have D := Lib.hid h'
  clear h h'
  go_enter Try.func55, Try.ntmps55
  go_wp2_with fail
  refine (l5Good_any _ _ _ xs _ _ _ ds _ S.out D.out).mono ?_
  rintro e w1 ⟨rfl, hb⟩
  have B1 := Lib.hid hb
  have S1 := Lib.hid (S.out.below hb)
  have D1 := Lib.hid (D.out.below hb)
  clear hb
  cases hg : goodB xs ds with
  | false =>
    have E1 := Lib.hid (show LooseFlats_1 xs ds = false from hg)
    have E0 := Lib.hid (show LooseFlats_0 xs ds = [] from by unfold LooseFlats_0; rw [hg]; rfl)
    have B2 := Lib.hid (Below.then' B1.out (bel_al1 w1 (.cells #[] 3)))
    clear hg
    go_wp2
    go_ret2
    exact ⟨_, by rw [E1.out]; rfl, by rw [E0.out]; exact (own_made w1).mono B1.out.size (by rw [size_al]; exact Nat.le_refl _), B2.out⟩
  | true =>
  have hl20 := (good_iff.1 hg).fl
  have E1 := Lib.hid (show LooseFlats_1 xs ds = true from hg)
  have E0 := Lib.hid (show LooseFlats_0 xs ds = looseL xs ds from by unfold LooseFlats_0; rw [hg]; rfl)
  clear hg
  go_wp2_with fail
  refine (l5Loose_any _ _ _ xs _ _ _ ds _ S1.out D1.out (by omega)).mono ?_
  rintro e w2 ⟨v, rfl, hown, hb⟩
  have B2 := Lib.hid (Below.then' B1.out hb)
  have O := Lib.hid (hown.mono B1.out.size (Nat.le_refl _))
  clear hb hown
  go_wp2
  go_ret2
  exact ⟨v, by rw [E1.out]; rfl, by rw [E0.out]; exact O.out, B2.out⟩
set_option maxHeartbeats 6400000 in
set_option maxRecDepth 100000 in
theorem specEmptyDrawers_any (a : Option Addr) (len cap : Nat) (xs : List VFlat) (a1 : Option Addr) (len1 cap1 : Nat) (ds : List VDrawer) (w : World) (h : IsFlatS w a len cap xs) (_ : condFlat xs) (h' : IsDrawerS w a1 len1 cap1 ds) (_ : condDrawer ds) :
    Calls Try.prog 57 #[.slice a len cap, .slice a1 len1 cap1] w (EmptyDrawers_Post xs ds w) := by
  obtain rfl := h'.1
  obtain ⟨i0, hi, hz0, hz1, hz2⟩ := info_parts infoInt
  have hm := h'.2.2.1
  have hcl := h'.2.1
  unfold maxLen at hm
  have b0 := bel_al1 w (.cells #[] 3)
  have S := Lib.hid (h.below b0)
  have D := Lib.hid (h'.below b0)
  have D0 := Lib.hid h'
  have O0 := Lib.hid (made_ownInt w)
  have OM := Lib.hid (own_made w)
  have B0 := Lib.hid b0
  clear h h' b0
  go_enter Try.func57, Try.ntmps57
  go_wp2_with fail
  refine (l5Good_any _ _ _ xs _ _ _ ds _ S.out D.out).mono ?_
  rintro e w1 ⟨rfl, hb⟩
  have B1 := Lib.hid (Below.then' B0.out hb)
  have O1 := Lib.hid (ownsRow_below O0.out hb)
  have OM1 := Lib.hid (OM.out.below hb)
  have s1 := hb.size
  rw [size_al] at s1
  clear hb
  cases hg : goodB xs ds with
  | false =>
    have E1 := Lib.hid (show EmptyDrawers_1 xs ds = false from hg)
    have E0 := Lib.hid (show EmptyDrawers_0 xs ds = [] from by unfold EmptyDrawers_0; rw [hg]; rfl)
    clear hg
    go_wp2
    go_ret2
    exact ⟨_, by rw [E1.out]; rfl, by rw [E0.out]; exact OM1.out.mono (Nat.le_refl _) s1, B1.out⟩
  | true =>
  have hl8 := (good_iff.1 hg).dl
  have E1 := Lib.hid (show EmptyDrawers_1 xs ds = true from hg)
  have E0 := Lib.hid (show EmptyDrawers_0 xs ds = (ds.filter fun d => d.Flats.isEmpty).map VDrawer.Id from by unfold EmptyDrawers_0; rw [hg]; rfl)
  clear hg
  go_wp2
  go_loopw [7, 6] (fun i o wr => ∃ k : Nat, k ≤ ds.length ∧ i = .int .i64 k ∧ wr.ownsRow w.heap.size 3 1 o (((ds.take k).filter fun d => d.Flats.isEmpty).map VDrawer.Id).length (intCells (((ds.take k).filter fun d => d.Flats.isEmpty).map VDrawer.Id)) ∧ Below w.heap.size w wr) (fun i _ _ => ds.length - (intOf i).toNat)
  case atStart => exact ⟨0, Nat.zero_le _, rfl, O1.out, B1.out⟩
  case round =>
    obtain ⟨k, hk, rfl, hown, hbel⟩ := hrel
    have B := Lib.hid hbel
    by_cases hlt : k < ds.length
    · obtain ⟨s, hs⟩ : ∃ s, ds[k]? = some s := ⟨ds[k]'hlt, List.getElem?_eq_getElem _⟩
      obtain ⟨b, o, rfl, hbw, hat⟩ := (D0.out.below hbel).at (by omega)
      obtain ⟨hd, c0, c1, c2, c3, c4, hin⟩ := hat k s hs
      have hm2 := hin.2.2.1
      have hcl2 := hin.2.1
      unfold maxLen at hm2
      have HL := Lib.hid hin.1
      have FS := Lib.hid (filter_more (fun d : VDrawer => d.Flats.isEmpty) VDrawer.Id hs)
      have hgl := filter_more_len (fun d : VDrawer => d.Flats.isEmpty) VDrawer.Id ds k
      obtain ⟨G, hG⟩ : ∃ G, ((ds.take k).filter fun d => d.Flats.isEmpty).map VDrawer.Id = G := ⟨_, rfl⟩
      rw [hG] at hown FS hgl
      have O := Lib.hid hown
      have hi0 : (0 : Int) ≤ (k : Int) := by omega
      have hi1 : (k : Int) < (ds.length : Int) := by omega
      have hsz := B.out.size
      obtain ⟨ha, hn, hc⟩ := hd
      simp only at c4 hm2 hcl2 HL
      by_cases h0 : hn = 0
      · have E := Lib.hid (show s.Flats.isEmpty = true from by rw [List.isEmpty_iff]; exact List.length_eq_zero_iff.1 (by have := HL.out; omega))
        subst h0
        have hown3 := O.out.alloc (.cells #[.int .i64 s.Id] 3)
        clear hs hat hbel hG hown hin
        go_wp2_with (at_builtin; refine wpList_append_own _ rfl _ _ 31 rfl w.heap.size 3 i0 (.int .i64 0) 1 8 Try.underlying31 hi hz0 hz1 hz2 rfl (by decide) _ _ _ rfl hown3 ⟨wr.heap.size, 0, none⟩ 1 1 [.int .i64 s.Id] rfl rfl (cell_one _ _ _) (fun x hx => by simp at hx; subst hx; rfl) (by unfold maxLen; omega) (by omega) (by simp; omega) ?_; intro v' w4 hown' hgrow4 hnil4)
        go_roundw
        case rel =>
          refine ⟨k + 1, by omega, by go_num, ?_, (Below.then' B.out (bel_al1 _ _)).grown hgrow4 (by simp; omega) (fun j e => (hown3.lt j e).1)⟩
          rw [FS.out, E.out, if_pos rfl, intCells_snoc]
          rw [List.length_append]
          exact hown'
        case measure => simp [intOf]; omega
      · have E := Lib.hid (show s.Flats.isEmpty = false from by
          cases e : s.Flats with
          | nil => have := HL.out; rw [e] at this; simp at this; omega
          | cons _ _ => rfl)
        have hb : ((hn : Int) == 0) = false := beq_eq_false_iff_ne.2 (by omega)
        clear hs hat hbel hG hown hin
        go_wp2
        go_roundw
        case rel => exact ⟨k + 1, by omega, by go_num, by rw [FS.out, E.out]; simpa using O.out, B.out⟩
        case measure => simp [intOf]; omega
    · obtain rfl : k = ds.length := by omega
      rw [List.take_of_length_le (Nat.le_refl _)] at hown
      have O := Lib.hid hown
      clear hbel hown
      go_wp2
      go_ret2
      exact ⟨_, by rw [E1.out]; rfl, by rw [E0.out]; exact OwnIn.of_row O.out (Nat.le_refl _) (Nat.le_refl _), B.out⟩
end Go.Proofs.Ytlmedhidkhphbaa
