/- DoesFit, GramsIn, DrawerOf, LooseFlats, EmptyDrawers, in the program. -/
import Derived.Test.YtldanejdnbfbjaaDi4
import Derived.Test.YtldanejdnbfbjaaIntO
import Derived.Test.YtldanejdnbfbjaaGramsInP
import Derived.Test.YtldanejdnbfbjaaDrawerOfP
import Derived.Test.YtldanejdnbfbjaaLooseFlatsP
import Derived.Test.YtldanejdnbfbjaaEmptyDrawersP
import Derived.Laws.AppendOwn
namespace Go.Proofs.Ytldanejdnbfbjaa
open Go.RowKit

set_option maxHeartbeats 3200000 in
theorem implGramsIn_any (a : Option Addr) (len cap : Nat) (xs : List VFlat) (a1 : Option Addr) (len1 cap1 : Nat) (ds : List VDrawer) (id : Int) (w : World) (h : IsFlatS w a len cap xs) (h' : IsDrawerS w a1 len1 cap1 ds) :
    Calls Try.prog 25 #[.slice a len cap, .slice a1 len1 cap1, .int .i64 id] w (GramsIn_Post xs ds id w) := by
  have S := Lib.hid h
  have D := Lib.hid h'
  clear h h'
  go_enter Try.func25, Try.ntmps25
  go_wp2_with fail
  refine (areDrawers_any _ _ _ xs _ _ _ ds _ S.out D.out).mono ?_
  rintro e w1 ⟨rfl, hb⟩
  have B1 := Lib.hid hb
  have S1 := Lib.hid (S.out.below hb)
  have D1 := Lib.hid (D.out.below hb)
  clear hb
  cases hg : goodB xs ds with
  | false =>
    have E := Lib.hid (show GramsIn_1 xs ds id = false from by unfold GramsIn_1; rw [hg]; rfl)
    clear hg
    go_wp2
    go_ret2
    exact ⟨by unfold GramsIn_0; rw [E.out]; rfl, B1.out⟩
  | true =>
  have G := Lib.hid (good_iff.1 hg)
  have HG := Lib.hid hg
  clear hg
  go_wp2_with fail
  refine (indexOfDrawer_any _ _ _ ds id _ D1.out).mono ?_
  rintro e w2 ⟨rfl, hb⟩
  have B2 := Lib.hid (Below.then' B1.out hb)
  have S2 := Lib.hid (S1.out.below hb)
  have D2 := Lib.hid (D1.out.below hb)
  clear hb
  by_cases hneg : drawI ds id < 0
  · have E := Lib.hid (show GramsIn_1 xs ds id = false from by unfold GramsIn_1; rw [HG.out, decide_eq_false (by omega)]; rfl)
    obtain ⟨y, hy⟩ : ∃ y, drawI ds id = y := ⟨_, rfl⟩
    rw [hy] at hneg ⊢
    clear hy
    go_wp2
    go_ret2
    exact ⟨by unfold GramsIn_0; rw [E.out]; rfl, B2.out⟩
  · obtain ⟨i, d, hi, hd, hf, hid⟩ := draw_at (show 0 ≤ drawI ds id by omega)
    have E := Lib.hid (show GramsIn_1 xs ds id = true ∧ GramsIn_0 xs ds id = gramsL xs d.Flats from by
      have e1 : GramsIn_1 xs ds id = true := by unfold GramsIn_1; rw [HG.out, decide_eq_true (by omega)]; rfl
      refine ⟨e1, ?_⟩
      unfold GramsIn_0
      rw [if_pos e1, hf])
    have hil := (List.getElem?_eq_some_iff.1 hd).1
    have hdl := D2.out.1
    obtain ⟨b, o, rfl, hb, hat⟩ := D2.out.at (by omega)
    obtain ⟨q, c0, c1, c2, c3, c4, hin⟩ := hat i d hd
    have HI := Lib.hid hin
    have i0 : (0 : Int) ≤ (i : Int) := by omega
    have i1 : (i : Int) < (len1 : Int) := by omega
    rw [hi]
    clear hneg hi hd hf hid hat hin hdl
    go_wp2_with fail
    refine (gramsOf_any _ _ _ xs d q _ S2.out HI.out (fun f hf => upB_ok G.out.flats hf) (by have := G.out.fl; omega)).mono ?_
    rintro e w3 ⟨rfl, hb3⟩
    have B3 := Lib.hid (Below.then' B2.out hb3)
    clear hb3
    go_wp2
    go_ret2
    exact ⟨by rw [E.out.1, E.out.2]; rfl, B3.out⟩
set_option maxHeartbeats 3200000 in
theorem implDrawerOf_any (a : Option Addr) (len cap : Nat) (xs : List VFlat) (a1 : Option Addr) (len1 cap1 : Nat) (ds : List VDrawer) (id : Int) (w : World) (h : IsFlatS w a len cap xs) (h' : IsDrawerS w a1 len1 cap1 ds) :
    Calls Try.prog 24 #[.slice a len cap, .slice a1 len1 cap1, .int .i64 id] w (DrawerOf_Post xs ds id w) := by
  have S := Lib.hid h
  have D := Lib.hid h'
  clear h h'
  go_enter Try.func24, Try.ntmps24
  go_wp2_with fail
  refine (areDrawers_any _ _ _ xs _ _ _ ds _ S.out D.out).mono ?_
  rintro e w1 ⟨rfl, hb⟩
  have B1 := Lib.hid hb
  have S1 := Lib.hid (S.out.below hb)
  have D1 := Lib.hid (D.out.below hb)
  clear hb
  cases hg : goodB xs ds with
  | false =>
    have E := Lib.hid (show DrawerOf_1 xs ds id = false from by unfold DrawerOf_1; rw [hg]; rfl)
    clear hg
    go_wp2
    go_ret2
    exact ⟨by unfold DrawerOf_0; rw [E.out]; rfl, B1.out⟩
  | true =>
  have HG := Lib.hid hg
  clear hg
  go_wp2_with fail
  refine (indexOfFlat_any _ _ _ xs id _ S1.out).mono ?_
  rintro e w2 ⟨rfl, hb⟩
  have B2 := Lib.hid (Below.then' B1.out hb)
  have D2 := Lib.hid (D1.out.below hb)
  clear hb
  obtain ⟨y, hy⟩ : ∃ y, flatI xs id = y := ⟨_, rfl⟩
  rw [hy]
  by_cases hneg : y < 0
  · have E := Lib.hid (show DrawerOf_1 xs ds id = false from by unfold DrawerOf_1; rw [HG.out, decide_eq_false (by omega)]; rfl)
    clear hy
    go_wp2
    go_ret2
    exact ⟨by unfold DrawerOf_0; rw [E.out]; rfl, B2.out⟩
  · have E1 := Lib.hid (show DrawerOf_1 xs ds id = true from by unfold DrawerOf_1; rw [HG.out, decide_eq_true (by omega)]; rfl)
    clear hy
    go_wp2_with fail
    refine (indexOfHolder_any _ _ _ ds id _ D2.out).mono ?_
    rintro e w3 ⟨rfl, hb⟩
    have B3 := Lib.hid (Below.then' B2.out hb)
    have D3 := Lib.hid (D2.out.below hb)
    clear hb
    by_cases hn2 : holdI ds id < 0
    · have E0 := Lib.hid (show DrawerOf_0 xs ds id = 0 from by unfold DrawerOf_0; rw [if_pos E1.out, (hold_no hn2).2])
      obtain ⟨z, hz⟩ : ∃ z, holdI ds id = z := ⟨_, rfl⟩
      rw [hz] at hn2 ⊢
      clear hz
      go_wp2
      go_ret2
      exact ⟨by rw [E0.out, E1.out]; rfl, B3.out⟩
    · obtain ⟨i, d, hi, hd, hf, hm⟩ := hold_at (show 0 ≤ holdI ds id by omega)
      have E0 := Lib.hid (show DrawerOf_0 xs ds id = d.Id from by unfold DrawerOf_0; rw [if_pos E1.out, hf])
      have hil := (List.getElem?_eq_some_iff.1 hd).1
      have hdl := D3.out.1
      obtain ⟨b, o, rfl, hb, hat⟩ := D3.out.at (by omega)
      obtain ⟨q, c0, _⟩ := hat i d hd
      have i0 : (0 : Int) ≤ (i : Int) := by omega
      have i1 : (i : Int) < (len1 : Int) := by omega
      rw [hi]
      clear hn2 hi hd hf hm hat hdl
      go_wp2
      go_ret2
      exact ⟨by rw [E0.out, E1.out]; rfl, B3.out⟩
/-- A row of integers of the call's own, and the world below as it was. -/
def IntsPost (xs : List Int) (w : World) (e : Ending) (w' : World) : Prop := ∃ v, e = .returned v ∧ OwnIntS w.heap.size w'.heap.size w' v xs ∧ Below w.heap.size w w'
theorem filter_map_more {α : Type} {xs : List α} {k : Nat} {s : α} (f : α → Bool) (g : α → Int) (hs : xs[k]? = some s) : ((xs.take (k + 1)).filter f).map g = ((xs.take k).filter f).map g ++ (if f s = true then [g s] else []) := by
  rw [filter_snoc' f hs, List.map_append]
  split <;> rfl
theorem filter_map_len {α : Type} (f : α → Bool) (g : α → Int) (xs : List α) (k : Nat) : (((xs.take k).filter f).map g).length ≤ k := by
  rw [List.length_map]
  exact filter_len' f xs k
set_option maxHeartbeats 6400000 in
set_option maxRecDepth 100000 in
theorem drawersWhere_any (K : FuncId) (caps : Array Value) (f : VDrawer → Bool) (a : Option Addr) (len cap : Nat) (xs : List VDrawer) (w : World) (h : IsDrawerS w a len cap xs) (hl : xs.length ≤ 1000)
    (hcall : ∀ args W, (callFunc K args).run Try.prog W = .ok (.enter K args) W)
    (hf : ∀ (W : World) (s : VDrawer) (hd : Hd), s ∈ xs → IsInts W hd.a hd.n hd.c s.Flats → Below w.heap.size w W → Calls Try.prog K (#[.agg #[.int .i64 s.Id, .int .i64 s.Wide, .int .i64 s.High, .int .i64 s.Holds, .slice hd.a hd.n hd.c]] ++ caps) W fun e w' => e = .returned (.bool (f s)) ∧ Below W.heap.size W w') :
    Calls Try.prog 73 #[.slice a len cap, .func (.func K) #[] caps] w (IntsPost ((xs.filter f).map VDrawer.Id) w) := by
  obtain rfl := h.1
  obtain ⟨i0, hi, hz0, hz1, hz2⟩ := info_parts infoInt
  have hm := h.2.2.1
  have hcl := h.2.1
  unfold maxLen at hm
  have S := Lib.hid h
  have F := Lib.hid hf
  clear h hf
  go_enter Try.func73, Try.ntmps73
  go_wp2
  go_loopw [10, 5] (fun i o wr => ∃ k : Nat, k ≤ xs.length ∧ i = .int .i64 k ∧ wr.ownsRow w.heap.size 3 1 o (((xs.take k).filter f).map VDrawer.Id).length (intCells (((xs.take k).filter f).map VDrawer.Id)) ∧ Below w.heap.size w wr) (fun i _ _ => xs.length - (intOf i).toNat)
  case atStart => exact ⟨0, Nat.zero_le _, rfl, ⟨by simp [intCells], .inl ⟨rfl, rfl⟩⟩, Below.refl _ _⟩
  case round =>
    obtain ⟨k, hk, rfl, hown, hbel⟩ := hrel
    have B := Lib.hid hbel
    by_cases hlt : k < xs.length
    · obtain ⟨s, hs⟩ : ∃ s, xs[k]? = some s := ⟨xs[k]'hlt, List.getElem?_eq_getElem _⟩
      obtain ⟨b, o, rfl, hbw, hat⟩ := (S.out.below hbel).at (by omega)
      obtain ⟨hd, c0, c1, c2, c3, c4, hin⟩ := hat k s hs
      have FS := Lib.hid (filter_map_more f VDrawer.Id hs)
      have hgl := filter_map_len f VDrawer.Id xs k
      obtain ⟨G, hG⟩ : ∃ G, ((xs.take k).filter f).map VDrawer.Id = G := ⟨_, rfl⟩
      rw [hG] at hown FS hgl
      have O := Lib.hid hown
      obtain ⟨r, hr⟩ : ∃ r, f s = r := ⟨_, rfl⟩
      have RR := Lib.hid hr
      have bw := bel_al1 wr (.cells #[.int .i64 s.Id, .int .i64 s.Wide, .int .i64 s.High, .int .i64 s.Holds, .slice hd.a hd.n hd.c] 42)
      have BX := Lib.hid (BoxDrawer.new wr 42 ⟨s, hd⟩ _ rfl)
      have HI := Lib.hid (hin.below bw)
      have BW := Lib.hid bw
      have K1 := Lib.hid hs
      have hi0 : (0 : Int) ≤ (k : Int) := by omega
      have hi1 : (k : Int) < (xs.length : Int) := by omega
      have hsz := B.out.size
      clear hs hat hbel hG hr hown hin bw
      go_wp2_with fail
      refine (F.out _ s hd (List.mem_of_getElem? K1.out) HI.out (Below.then' B.out BW.out)).mono ?_
      rintro e w2 ⟨rfl, hb⟩
      rw [RR.out]
      have hb' := Below.then' BW.out hb
      have B2 := Lib.hid (Below.then' B.out hb')
      have O2 := Lib.hid (ownsRow_below O.out hb')
      obtain ⟨d0, _⟩ := BX.out.below hb
      have hs2 := hb'.size
      clear hb hb' c0 c1 c2 c3 c4
      cases r
      · go_wp2
        go_roundw
        case rel => exact ⟨k + 1, by omega, by go_num, by rw [FS.out, RR.out]; simpa using O2.out, B2.out⟩
        case measure => simp [intOf]; omega
      · have hown3 := O2.out.alloc (.cells #[.int .i64 s.Id] 3)
        go_wp2_with (at_builtin; refine wpList_append_own _ rfl _ _ 31 rfl w.heap.size 3 i0 (.int .i64 0) 1 8 Try.underlying31 hi hz0 hz1 hz2 rfl (by decide) _ _ _ rfl hown3 ⟨w2.heap.size, 0, none⟩ 1 1 [.int .i64 s.Id] rfl rfl (cell_one _ _ _) (fun x hx => by simp at hx; subst hx; rfl) (by unfold maxLen; omega) (by omega) (by simp; omega) ?_; intro v' w4 hown' hgrow4 hnil4)
        go_roundw
        case rel =>
          refine ⟨k + 1, by omega, by go_num, ?_, (Below.then' B2.out (bel_al1 _ _)).grown hgrow4 (by simp; omega) (fun j e => (hown3.lt j e).1)⟩
          rw [FS.out, RR.out, if_pos rfl, intCells_snoc]
          rw [List.length_append]
          exact hown'
        case measure => simp [intOf]; omega
    · obtain rfl : k = xs.length := by omega
      rw [List.take_of_length_le (Nat.le_refl _)] at hown
      have O := Lib.hid hown
      clear hbel hown
      go_wp2
      go_ret
      exact ⟨_, rfl, OwnIn.of_row O.out (Nat.le_refl _) (Nat.le_refl _), B.out⟩
theorem nil_intRowO (w : World) (lo hi : Nat) : OwnIntS lo hi w (.slice none 0 0) [] := nil_OwnIntS lo hi w
set_option maxHeartbeats 1600000 in
theorem isEmpty_any (x : VDrawer) (h : Hd) (w : World) (hi : IsInts w h.a h.n h.c x.Flats) :
    Calls Try.prog 105 #[.agg #[.int .i64 x.Id, .int .i64 x.Wide, .int .i64 x.High, .int .i64 x.Holds, .slice h.a h.n h.c]] w fun e w' => e = .returned (.bool x.Flats.isEmpty) ∧ Below w.heap.size w w' := by
  have hm := hi.2.2.1
  have hcl := hi.2.1
  unfold maxLen at hm
  by_cases h0 : h.n = 0
  · have E := Lib.hid (show x.Flats.isEmpty = true from by have := hi.1; rw [List.isEmpty_iff]; exact List.length_eq_zero_iff.1 (by omega))
    clear hi
    obtain ⟨ha, hn, hc⟩ := h
    simp only at h0
    subst h0
    go_enter Try.func105, Try.ntmps105
    go_wp2
    go_ret
    exact ⟨ret_bool E.out.symm, bel_al1 _ _⟩
  · have E := Lib.hid (show x.Flats.isEmpty = false from by
      have := hi.1
      cases e : x.Flats with
      | nil => rw [e] at this; simp at this; omega
      | cons _ _ => rfl)
    have hb : ((h.n : Int) == 0) = false := beq_eq_false_iff_ne.2 (by omega)
    clear hi
    go_enter Try.func105, Try.ntmps105
    go_wp2
    go_ret
    exact ⟨ret_bool (by rw [E.out]), bel_al1 _ _⟩
set_option maxHeartbeats 3200000 in
theorem implEmptyDrawers_any (a : Option Addr) (len cap : Nat) (xs : List VFlat) (a1 : Option Addr) (len1 cap1 : Nat) (ds : List VDrawer) (w : World) (h : IsFlatS w a len cap xs) (h' : IsDrawerS w a1 len1 cap1 ds) :
    Calls Try.prog 58 #[.slice a len cap, .slice a1 len1 cap1] w (EmptyDrawers_Post xs ds w) := by
  have S := Lib.hid h
  have D := Lib.hid h'
  clear h h'
  go_enter Try.func58, Try.ntmps58
  go_wp2_with fail
  refine (areDrawers_any _ _ _ xs _ _ _ ds _ S.out D.out).mono ?_
  rintro e w1 ⟨rfl, hb⟩
  have B1 := Lib.hid hb
  have D1 := Lib.hid (D.out.below hb)
  clear hb
  cases hg : goodB xs ds with
  | false =>
    have E1 := Lib.hid (show EmptyDrawers_1 xs ds = false from hg)
    have E0 := Lib.hid (show EmptyDrawers_0 xs ds = [] from by unfold EmptyDrawers_0; rw [hg]; rfl)
    clear hg
    go_wp2
    go_ret2
    exact ⟨_, by rw [E1.out]; rfl, by rw [E0.out]; exact nil_OwnIntS _ _ _, B1.out⟩
  | true =>
  have G := Lib.hid (good_iff.1 hg)
  have E1 := Lib.hid (show EmptyDrawers_1 xs ds = true from hg)
  have E0 := Lib.hid (show EmptyDrawers_0 xs ds = (ds.filter fun d => d.Flats.isEmpty).map VDrawer.Id from by unfold EmptyDrawers_0; rw [hg]; rfl)
  clear hg
  go_wp2_with fail
  refine (drawersWhere_any 105 #[] (fun d => d.Flats.isEmpty) _ _ _ ds _ D1.out (by have := G.out.dl; omega) (enters_fn Try.func105 (by kernel_rfl) (by kernel_rfl)) (fun W s hd _ hi _ => by simpa using isEmpty_any s hd W hi)).mono ?_
  rintro e w2 ⟨v, rfl, hown, hb⟩
  have B2 := Lib.hid (Below.then' B1.out hb)
  have O := Lib.hid (hown.mono B1.out.size (Nat.le_refl _))
  clear hb hown
  go_wp2
  go_ret2
  exact ⟨v, by rw [E1.out]; rfl, by rw [E0.out]; exact O.out, B2.out⟩
set_option maxHeartbeats 6400000 in
set_option maxRecDepth 100000 in
theorem implLooseFlats_any (a : Option Addr) (len cap : Nat) (xs : List VFlat) (a1 : Option Addr) (len1 cap1 : Nat) (ds : List VDrawer) (w : World) (h : IsFlatS w a len cap xs) (h' : IsDrawerS w a1 len1 cap1 ds) :
    Calls Try.prog 56 #[.slice a len cap, .slice a1 len1 cap1] w (LooseFlats_Post xs ds w) := by
  obtain rfl := h.1
  obtain ⟨i0, hi, hz0, hz1, hz2⟩ := info_parts infoInt
  have hm := h.2.2.1
  have hcl := h.2.1
  unfold maxLen at hm
  have S := Lib.hid h
  have D := Lib.hid h'
  clear h h'
  go_enter Try.func56, Try.ntmps56
  go_wp2_with fail
  refine (areDrawers_any _ _ _ xs _ _ _ ds _ S.out D.out).mono ?_
  rintro e w1 ⟨rfl, hb⟩
  have B1 := Lib.hid hb
  clear hb
  cases hg : goodB xs ds with
  | false =>
    have E1 := Lib.hid (show LooseFlats_1 xs ds = false from hg)
    have E0 := Lib.hid (show LooseFlats_0 xs ds = [] from by unfold LooseFlats_0; rw [hg]; rfl)
    clear hg
    go_wp2
    go_ret2
    exact ⟨_, by rw [E1.out]; rfl, by rw [E0.out]; exact nil_OwnIntS _ _ _, B1.out⟩
  | true =>
  have hl20 := (good_iff.1 hg).fl
  have E1 := Lib.hid (show LooseFlats_1 xs ds = true from hg)
  have E0 := Lib.hid (show LooseFlats_0 xs ds = looseL xs ds from by unfold LooseFlats_0; rw [hg]; rfl)
  clear hg
  go_wp2
  go_loopw [15, 6] (fun i o wr => ∃ k : Nat, k ≤ xs.length ∧ i = .int .i64 k ∧ wr.ownsRow w.heap.size 3 1 o (((xs.take k).filter fun f => decide (holdI ds f.Id < 0)).map VFlat.Id).length (intCells (((xs.take k).filter fun f => decide (holdI ds f.Id < 0)).map VFlat.Id)) ∧ Below w.heap.size w wr) (fun i _ _ => xs.length - (intOf i).toNat)
  case atStart => exact ⟨0, Nat.zero_le _, rfl, ⟨by simp [intCells], .inl ⟨rfl, rfl⟩⟩, B1.out⟩
  case round =>
    obtain ⟨k, hk, rfl, hown, hbel⟩ := hrel
    have B := Lib.hid hbel
    by_cases hlt : k < xs.length
    · obtain ⟨s, hs⟩ : ∃ s, xs[k]? = some s := ⟨xs[k]'hlt, List.getElem?_eq_getElem _⟩
      obtain ⟨b, o, rfl, hbw, hat⟩ := (S.out.below hbel).at (by omega)
      obtain ⟨c0, c1, c2, c3⟩ := hat k s hs
      have FS := Lib.hid (filter_map_more (fun f => decide (holdI ds f.Id < 0)) VFlat.Id hs)
      have hgl := filter_map_len (fun f => decide (holdI ds f.Id < 0)) VFlat.Id xs k
      obtain ⟨G, hG⟩ : ∃ G, ((xs.take k).filter fun f => decide (holdI ds f.Id < 0)).map VFlat.Id = G := ⟨_, rfl⟩
      rw [hG] at hown FS hgl
      have O := Lib.hid hown
      obtain ⟨y, hy⟩ : ∃ y, holdI ds s.Id = y := ⟨_, rfl⟩
      have Y := Lib.hid hy
      have bw := bel_al1 wr (.cells #[.int .i64 s.Id, .int .i64 s.Wide, .int .i64 s.High, .int .i64 s.Grams] 40)
      have BX := Lib.hid (BoxFlat.new wr 40 s _ rfl)
      have DB := Lib.hid ((D.out.below hbel).below bw)
      have BW := Lib.hid bw
      have hi0 : (0 : Int) ≤ (k : Int) := by omega
      have hi1 : (k : Int) < (xs.length : Int) := by omega
      have hsz := B.out.size
      clear hs hat hbel hG hy hown bw
      go_wp2_with fail
      refine (indexOfHolder_any _ _ _ ds s.Id _ DB.out).mono ?_
      rintro e w2 ⟨rfl, hb⟩
      rw [Y.out]
      have hb' := Below.then' BW.out hb
      have B2 := Lib.hid (Below.then' B.out hb')
      have O2 := Lib.hid (ownsRow_below O.out hb')
      obtain ⟨d0, _⟩ := BX.out.below hb
      have hs2 := hb'.size
      clear hb hb' c0 c1 c2 c3
      by_cases hn : y < 0
      · have hown3 := O2.out.alloc (.cells #[.int .i64 s.Id] 3)
        go_wp2_with (at_builtin; refine wpList_append_own _ rfl _ _ 31 rfl w.heap.size 3 i0 (.int .i64 0) 1 8 Try.underlying31 hi hz0 hz1 hz2 rfl (by decide) _ _ _ rfl hown3 ⟨w2.heap.size, 0, none⟩ 1 1 [.int .i64 s.Id] rfl rfl (cell_one _ _ _) (fun x hx => by simp at hx; subst hx; rfl) (by unfold maxLen; omega) (by omega) (by simp; omega) ?_; intro v' w4 hown' hgrow4 hnil4)
        go_roundw
        case rel =>
          refine ⟨k + 1, by omega, by go_num, ?_, (Below.then' B2.out (bel_al1 _ _)).grown hgrow4 (by simp; omega) (fun j e => (hown3.lt j e).1)⟩
          rw [FS.out, Y.out, if_pos (by simpa using hn), intCells_snoc]
          rw [List.length_append]
          exact hown'
        case measure => simp [intOf]; omega
      · go_wp2
        go_roundw
        case rel => exact ⟨k + 1, by omega, by go_num, by rw [FS.out, Y.out, if_neg (by simpa using hn)]; simpa using O2.out, B2.out⟩
        case measure => simp [intOf]; omega
    · obtain rfl : k = xs.length := by omega
      rw [List.take_of_length_le (Nat.le_refl _)] at hown
      have O := Lib.hid hown
      clear hbel hown
      go_wp2
      go_ret2
      exact ⟨_, by rw [E1.out]; rfl, by rw [E0.out]; exact OwnIn.of_row O.out (Nat.le_refl _) (Nat.le_refl _), B.out⟩
end Go.Proofs.Ytldanejdnbfbjaa
