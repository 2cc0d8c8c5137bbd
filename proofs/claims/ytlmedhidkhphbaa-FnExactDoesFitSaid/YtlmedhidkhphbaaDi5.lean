/- DoesFit, GramsIn, DrawerOf, LooseFlats, EmptyDrawers, in the program. -/
import Derived.Test.YtlmedhidkhphbaaDi4
import Derived.Test.YtlmedhidkhphbaaIntO
import Derived.Test.YtlmedhidkhphbaaGramsInP
import Derived.Test.YtlmedhidkhphbaaDrawerOfP
import Derived.Test.YtlmedhidkhphbaaLooseFlatsP
import Derived.Test.YtlmedhidkhphbaaEmptyDrawersP
import Derived.Laws.AppendOwn
namespace Go.Proofs.Ytlmedhidkhphbaa
open Go.RowKit

set_option maxHeartbeats 3200000 in
theorem implGramsIn_any (a : Option Addr) (len cap : Nat) (xs : List VFlat) (a1 : Option Addr) (len1 cap1 : Nat) (ds : List VDrawer) (id : Int) (w : World) (h : IsFlatS w a len cap xs) (h' : IsDrawerS w a1 len1 cap1 ds) :
    Calls Try.prog 25 #[.slice a len cap, .slice a1 len1 cap1, .int .i64 id] w (GramsIn_Post xs ds id w) := by
  have S := Lib.hid h
  have D := Lib.hid h'
  clear h h'
  go_enter Try.func25, Try.ntmps25
  go_wp2_with fail
  refine (areDrawers_any _ _ _ xs _ _ _ ds _ S.out D.out).mono ?_
  rintro e w1 ⟨rfl, hb⟩
  have B1 := Lib.hid hb
  have S1 := Lib.hid (S.out.below hb)
  have D1 := Lib.hid (D.out.below hb)
  clear hb
  cases hg : goodB xs ds with
  | false =>
    have E := Lib.hid (show GramsIn_1 xs ds id = false from by unfold GramsIn_1; rw [hg]; rfl)
    clear hg
    go_wp2
    go_ret2
    exact ⟨by unfold GramsIn_0; rw [E.out]; rfl, B1.out⟩
  | true =>
  have G := Lib.hid (good_iff.1 hg)
  have HG := Lib.hid hg
  clear hg
  go_wp2_with fail
  refine (indexOfDrawer_any _ _ _ ds id _ D1.out).mono ?_
  rintro e w2 ⟨rfl, hb⟩
  have B2 := Lib.hid (Below.then' B1.out hb)
  have S2 := Lib.hid (S1.out.below hb)
  have D2 := Lib.hid (D1.out.below hb)
  clear hb
  by_cases hneg : drawI ds id < 0
  · have E := Lib.hid (show GramsIn_1 xs ds id = false from by unfold GramsIn_1; rw [HG.out, decide_eq_false (by omega)]; rfl)
    obtain ⟨y, hy⟩ : ∃ y, drawI ds id = y := ⟨_, rfl⟩
    rw [hy] at hneg ⊢
    clear hy
    go_wp2
    go_ret2
    exact ⟨by unfold GramsIn_0; rw [E.out]; rfl, B2.out⟩
  · obtain ⟨i, d, hi, hd, hf, hid⟩ := draw_at (show 0 ≤ drawI ds id by omega)
    have E := Lib.hid (show GramsIn_1 xs ds id = true ∧ GramsIn_0 xs ds id = gramsL xs d.Flats from by
      have e1 : GramsIn_1 xs ds id = true := by unfold GramsIn_1; rw [HG.out, decide_eq_true (by omega)]; rfl
      refine ⟨e1, ?_⟩
      unfold GramsIn_0
      rw [if_pos e1, hf])
    have hil := (List.getElem?_eq_some_iff.1 hd).1
    have hdl := D2.out.1
    obtain ⟨b, o, rfl, hb, hat⟩ := D2.out.at (by omega)
    obtain ⟨q, c0, c1, c2, c3, c4, hin⟩ := hat i d hd
    have HI := Lib.hid hin
    have i0 : (0 : Int) ≤ (i : Int) := by omega
    have i1 : (i : Int) < (len1 : Int) := by omega
    rw [hi]
    clear hneg hi hd hf hid hat hin hdl
    go_wp2_with fail
    refine (gramsOf_any _ _ _ xs d q _ S2.out HI.out (fun f hf => upB_ok G.out.flats hf) (by have := G.out.fl; omega)).mono ?_
    rintro e w3 ⟨rfl, hb3⟩
    have B3 := Lib.hid (Below.then' B2.out hb3)
    clear hb3
    go_wp2
    go_ret2
    exact ⟨by rw [E.out.1, E.out.2]; rfl, B3.out⟩
set_option maxHeartbeats 3200000 in
theorem implDrawerOf_any (a : Option Addr) (len cap : Nat) (xs : List VFlat) (a1 : Option Addr) (len1 cap1 : Nat) (ds : List VDrawer) (id : Int) (w : World) (h : IsFlatS w a len cap xs) (h' : IsDrawerS w a1 len1 cap1 ds) :
    Calls Try.prog 24 #[.slice a len cap, .slice a1 len1 cap1, .int .i64 id] w (DrawerOf_Post xs ds id w) := by
  have S := Lib.hid h
  have D := Lib.hid h'
  clear h h'
  go_enter Try.func24, Try.ntmps24
  go_wp2_with fail
  refine (areDrawers_any _ _ _ xs _ _ _ ds _ S.out D.out).mono ?_
  rintro e w1 ⟨rfl, hb⟩
  have B1 := Lib.hid hb
  have S1 := Lib.hid (S.out.below hb)
  have D1 := Lib.hid (D.out.below hb)
  clear hb
  cases hg : goodB xs ds with
  | false =>
    have E := Lib.hid (show DrawerOf_1 xs ds id = false from by unfold DrawerOf_1; rw [hg]; rfl)
    clear hg
    go_wp2
    go_ret2
    exact ⟨by unfold DrawerOf_0; rw [E.out]; rfl, B1.out⟩
  | true =>
  have HG := Lib.hid hg
  clear hg
  go_wp2_with fail
  refine (indexOfFlat_any _ _ _ xs id _ S1.out).mono ?_
  rintro e w2 ⟨rfl, hb⟩
  have B2 := Lib.hid (Below.then' B1.out hb)
  have D2 := Lib.hid (D1.out.below hb)
  clear hb
  obtain ⟨y, hy⟩ : ∃ y, flatI xs id = y := ⟨_, rfl⟩
  rw [hy]
  by_cases hneg : y < 0
  · have E := Lib.hid (show DrawerOf_1 xs ds id = false from by unfold DrawerOf_1; rw [HG.out, decide_eq_false (by omega)]; rfl)
    clear hy
    go_wp2
    go_ret2
    exact ⟨by unfold DrawerOf_0; rw [E.out]; rfl, B2.out⟩
  · have E1 := Lib.hid (show DrawerOf_1 xs ds id = true from by unfold DrawerOf_1; rw [HG.out, decide_eq_true (by omega)]; rfl)
    clear hy
    go_wp2_with fail
    refine (indexOfHolder_any _ _ _ ds id _ D2.out).mono ?_
    rintro e w3 ⟨rfl, hb⟩
    have B3 := Lib.hid (Below.then' B2.out hb)
    have D3 := Lib.hid (D2.out.below hb)
    clear hb
    by_cases hn2 : holdI ds id < 0
    · have E0 := Lib.hid (show DrawerOf_0 xs ds id = 0 from by unfold DrawerOf_0; rw [if_pos E1.out, (hold_no hn2).2])
      obtain ⟨z, hz⟩ : ∃ z, holdI ds id = z := ⟨_, rfl⟩
      rw [hz] at hn2 ⊢
      clear hz
      go_wp2
      go_ret2
      exact ⟨by rw [E0.out, E1.out]; rfl, B3.out⟩
    · obtain ⟨i, d, hi, hd, hf, hm⟩ := hold_at (show 0 ≤ holdI ds id by omega)
      have E0 := Lib.hid (show DrawerOf_0 xs ds id = d.Id from by unfold DrawerOf_0; rw [if_pos E1.out, hf])
      have hil := (List.getElem?_eq_some_iff.1 hd).1
      have hdl := D3.out.1
      obtain ⟨b, o, rfl, hb, hat⟩ := D3.out.at (by omega)
      obtain ⟨q, c0, _⟩ := hat i d hd
      have i0 : (0 : Int) ≤ (i : Int) := by omega
      have i1 : (i : Int) < (len1 : Int) := by omega
      rw [hi]
      clear hn2 hi hd hf hm hat hdl
      go_wp2
      go_ret2
      exact ⟨by rw [E0.out, E1.out]; rfl, B3.out⟩
/-- A row of integers of the call's own, and the world below as it was. -/
def IntsPost (xs : List Int) (w : World) (e : Ending) (w' : World) : Prop := ∃ v, e = .returned v ∧ OwnIntS w.heap.size w'.heap.size w' v xs ∧ Below w.heap.size w w'
theorem drawersWhere_any (K : FuncId) (caps : Array Value) (f : VDrawer → Bool) (a : Option Addr) (len cap : Nat) (xs : List VDrawer) (w : World) (h : IsDrawerS w a len cap xs) (hl : xs.length ≤ 1000)
    (hcall : ∀ args W, (callFunc K args).run Try.prog W = .ok (.enter K args) W)
    (hf : ∀ (W : World) (s : VDrawer) (hd : Hd), s ∈ xs → IsInts W hd.a hd.n hd.c s.Flats → Below w.heap.size w W → Calls Try.prog K (#[.agg #[.int .i64 s.Id, .int .i64 s.Wide, .int .i64 s.High, .int .i64 s.Holds, .slice hd.a hd.n hd.c]] ++ caps) W fun e w' => e = .returned (.bool (f s)) ∧ Below W.heap.size W w') :
    Calls Try.prog 74 #[.slice a len cap, .func (.func 64) #[] #[], .func (.func K) #[] caps] w (IntsPost ((xs.filter f).map VDrawer.Id) w) :=
  (idsWhereDrawer_any 64 K VDrawer.Id caps f a len cap xs w h (by omega) (enters_fn Try.func64 (by kernel_rfl) (by kernel_rfl)) hcall (fun W s hd => drawerId_any s hd W) hf).mono fun e w' ⟨v, h1, h2, h3⟩ => ⟨v, h1, OwnIn.of_row h2 (Nat.le_refl _) (Nat.le_refl _), h3⟩
theorem flatsWhere_any (K : FuncId) (caps : Array Value) (f : VFlat → Bool) (a : Option Addr) (len cap : Nat) (xs : List VFlat) (w : World) (h : IsFlatS w a len cap xs) (hl : xs.length ≤ 1000)
    (hcall : ∀ args W, (callFunc K args).run Try.prog W = .ok (.enter K args) W)
    (hf : ∀ (W : World) (s : VFlat), s ∈ xs → Below w.heap.size w W → Calls Try.prog K (#[.agg #[.int .i64 s.Id, .int .i64 s.Wide, .int .i64 s.High, .int .i64 s.Grams]] ++ caps) W fun e w' => e = .returned (.bool (f s)) ∧ Below W.heap.size W w') :
    Calls Try.prog 105 #[.slice a len cap, .func (.func 77) #[] #[], .func (.func K) #[] caps] w (IntsPost ((xs.filter f).map VFlat.Id) w) :=
  (idsWhereFlat_any 77 K VFlat.Id caps f a len cap xs w h (by omega) (enters_fn Try.func77 (by kernel_rfl) (by kernel_rfl)) hcall (fun W s => flatId_any s W) hf).mono fun e w' ⟨v, h1, h2, h3⟩ => ⟨v, h1, OwnIn.of_row h2 (Nat.le_refl _) (Nat.le_refl _), h3⟩
theorem nil_intRowO (w : World) (lo hi : Nat) : OwnIntS lo hi w (.slice none 0 0) [] := nil_OwnIntS lo hi w
set_option maxHeartbeats 1600000 in
theorem isEmpty_any (x : VDrawer) (h : Hd) (w : World) (hi : IsInts w h.a h.n h.c x.Flats) :
    Calls Try.prog 107 #[.agg #[.int .i64 x.Id, .int .i64 x.Wide, .int .i64 x.High, .int .i64 x.Holds, .slice h.a h.n h.c]] w fun e w' => e = .returned (.bool x.Flats.isEmpty) ∧ Below w.heap.size w w' := by
  have hm := hi.2.2.1
  have hcl := hi.2.1
  unfold maxLen at hm
  by_cases h0 : h.n = 0
  · have E := Lib.hid (show x.Flats.isEmpty = true from by have := hi.1; rw [List.isEmpty_iff]; exact List.length_eq_zero_iff.1 (by omega))
    clear hi
    obtain ⟨ha, hn, hc⟩ := h
    simp only at h0
    subst h0
    go_enter Try.func107, Try.ntmps107
    go_wp2
    go_ret
    exact ⟨ret_bool E.out.symm, bel_al1 _ _⟩
  · have E := Lib.hid (show x.Flats.isEmpty = false from by
      have := hi.1
      cases e : x.Flats with
      | nil => rw [e] at this; simp at this; omega
      | cons _ _ => rfl)
    have hb : ((h.n : Int) == 0) = false := beq_eq_false_iff_ne.2 (by omega)
    clear hi
    go_enter Try.func107, Try.ntmps107
    go_wp2
    go_ret
    exact ⟨ret_bool (by rw [E.out]), bel_al1 _ _⟩
set_option maxHeartbeats 3200000 in
theorem implEmptyDrawers_any (a : Option Addr) (len cap : Nat) (xs : List VFlat) (a1 : Option Addr) (len1 cap1 : Nat) (ds : List VDrawer) (w : World) (h : IsFlatS w a len cap xs) (h' : IsDrawerS w a1 len1 cap1 ds) :
    Calls Try.prog 58 #[.slice a len cap, .slice a1 len1 cap1] w (EmptyDrawers_Post xs ds w) := by
  have S := Lib.hid h
  have D := Lib.hid h'
  clear h h'
  go_enter Try.func58, Try.ntmps58
  go_wp2_with fail
  refine (areDrawers_any _ _ _ xs _ _ _ ds _ S.out D.out).mono ?_
  rintro e w1 ⟨rfl, hb⟩
  have B1 := Lib.hid hb
  have D1 := Lib.hid (D.out.below hb)
  clear hb
  cases hg : goodB xs ds with
  | false =>
    have E1 := Lib.hid (show EmptyDrawers_1 xs ds = false from hg)
    have E0 := Lib.hid (show EmptyDrawers_0 xs ds = [] from by unfold EmptyDrawers_0; rw [hg]; rfl)
    clear hg
    go_wp2
    go_ret2
    exact ⟨_, by rw [E1.out]; rfl, by rw [E0.out]; exact nil_OwnIntS _ _ _, B1.out⟩
  | true =>
  have G := Lib.hid (good_iff.1 hg)
  have E1 := Lib.hid (show EmptyDrawers_1 xs ds = true from hg)
  have E0 := Lib.hid (show EmptyDrawers_0 xs ds = (ds.filter fun d => d.Flats.isEmpty).map VDrawer.Id from by unfold EmptyDrawers_0; rw [hg]; rfl)
  clear hg
  go_wp2_with fail
  refine (drawersWhere_any 107 #[] (fun d => d.Flats.isEmpty) _ _ _ ds _ D1.out (by have := G.out.dl; omega) (enters_fn Try.func107 (by kernel_rfl) (by kernel_rfl)) (fun W s hd _ hi _ => by simpa using isEmpty_any s hd W hi)).mono ?_
  rintro e w2 ⟨v, rfl, hown, hb⟩
  have B2 := Lib.hid (Below.then' B1.out hb)
  have O := Lib.hid (hown.mono B1.out.size (Nat.le_refl _))
  clear hb hown
  go_wp2
  go_ret2
  exact ⟨v, by rw [E1.out]; rfl, by rw [E0.out]; exact O.out, B2.out⟩
theorem isLoose_any (s : VFlat) (b : Nat) (a1 : Option Addr) (len1 cap1 : Nat) (ds : List VDrawer) (w : World) (hc : w.cell? ⟨b, 0, none⟩ = some (.slice a1 len1 cap1)) (h : IsDrawerS w a1 len1 cap1 ds) :
    Calls Try.prog 106 #[.agg #[.int .i64 s.Id, .int .i64 s.Wide, .int .i64 s.High, .int .i64 s.Grams], .pointer (some ⟨b, 0, none⟩)] w fun e w' => e = .returned (.bool (decide (holdI ds s.Id < 0))) ∧ Below w.heap.size w w' := by
  have b1 := bel_al1 w (.cells #[.int .i64 s.Id, .int .i64 s.Wide, .int .i64 s.High, .int .i64 s.Grams] 40)
  have g := cell_stay hc b1
  have D := Lib.hid (h.below b1)
  have B1 := Lib.hid b1
  clear hc h b1
  go_enter Try.func106, Try.ntmps106
  go_wp2_with fail
  refine (indexOfHolder_any _ _ _ ds s.Id _ D.out).mono ?_
  rintro e w1 ⟨rfl, hb⟩
  have B := Lib.hid (Below.then' B1.out hb)
  clear hb
  go_wp2
  go_ret
  exact ⟨rfl, B.out⟩
set_option maxHeartbeats 6400000 in
set_option maxRecDepth 100000 in
theorem implLooseFlats_any (a : Option Addr) (len cap : Nat) (xs : List VFlat) (a1 : Option Addr) (len1 cap1 : Nat) (ds : List VDrawer) (w : World) (h : IsFlatS w a len cap xs) (h' : IsDrawerS w a1 len1 cap1 ds) :
    Calls Try.prog 56 #[.slice a len cap, .slice a1 len1 cap1] w (LooseFlats_Post xs ds w) := by
  have b0 := bel_al1 w (.cells #[.slice a1 len1 cap1] 25)
  have C := Lib.hid (cell_box w (.slice a1 len1 cap1) 25 _ rfl)
  have S := Lib.hid (h.below b0)
  have D := Lib.hid (h'.below b0)
  have B0 := Lib.hid b0
  clear h h' b0
  have c := C.out
  go_enter Try.func56, Try.ntmps56
  go_wp2_with fail
  refine (areDrawers_any _ _ _ xs _ _ _ ds _ S.out D.out).mono ?_
  rintro e w1 ⟨rfl, hb⟩
  have B1 := Lib.hid (Below.then' B0.out hb)
  have S1 := Lib.hid (S.out.below hb)
  have D1 := Lib.hid (D.out.below hb)
  have C1 := Lib.hid (cell_stay C.out hb)
  clear hb c
  cases hg : goodB xs ds with
  | false =>
    have E1 := Lib.hid (show LooseFlats_1 xs ds = false from hg)
    have E0 := Lib.hid (show LooseFlats_0 xs ds = [] from by unfold LooseFlats_0; rw [hg]; rfl)
    clear hg
    go_wp2
    go_ret2
    exact ⟨_, by rw [E1.out]; rfl, by rw [E0.out]; exact nil_OwnIntS _ _ _, B1.out⟩
  | true =>
  have hl20 := (good_iff.1 hg).fl
  have E1 := Lib.hid (show LooseFlats_1 xs ds = true from hg)
  have E0 := Lib.hid (show LooseFlats_0 xs ds = (xs.filter fun f => decide (holdI ds f.Id < 0)).map VFlat.Id from by unfold LooseFlats_0; rw [hg]; rfl)
  clear hg
  go_wp2_with fail
  refine (flatsWhere_any 106 #[.pointer (some ⟨w.heap.size, 0, none⟩)] (fun f => decide (holdI ds f.Id < 0)) _ _ _ xs _ S1.out (by omega) (enters_fn Try.func106 (by kernel_rfl) (by kernel_rfl)) (fun W s _ hW => by
    have h1 := isLoose_any s w.heap.size a1 len1 cap1 ds W (cell_stay C1.out hW) (D1.out.below hW)
    simpa using h1)).mono ?_
  rintro e w2 ⟨v, rfl, hown, hb⟩
  have B2 := Lib.hid (Below.then' B1.out hb)
  have O := Lib.hid (hown.mono B1.out.size (Nat.le_refl _))
  clear hb hown
  go_wp2
  go_ret2
  exact ⟨v, by rw [E1.out]; rfl, by rw [E0.out]; exact O.out, B2.out⟩
end Go.Proofs.Ytlmedhidkhphbaa
