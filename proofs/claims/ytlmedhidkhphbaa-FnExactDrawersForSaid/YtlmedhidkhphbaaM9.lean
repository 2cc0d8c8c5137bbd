/- Texts in one: Ds8, Di8, Dz2, Vars. -/
import Derived.Test.YtlmedhidkhphbaaM6
import Derived.Test.YtlmedhidkhphbaaM8
import Derived.Test.YtlmedhidkhphbaaM1
import Derived.ChangeVars
import Derived.ChangeShapes
import Derived.Carry
namespace Go.Proofs.Ytlmedhidkhphbaa
open Go.RowKit

theorem own_madeT (w : World) : OwnDrawerS w.heap.size (w.heap.size + 1) (w.alloc (.cells #[] 42)) (.slice (some ⟨w.heap.size, 0, none⟩) 0 0) [] :=
  ⟨[], rfl, OwnIn.of_row (made_ownDrawer w _ (Nat.le_refl _)) (Nat.le_refl _) (by rw [size_al]; exact Nat.le_refl _), nil_InnerDrawer _ _ _ _⟩
theorem takes_none {w w1 : World} {fs : List VFlat} {ds : List VDrawer} {flat : Int} (hb : Below w.heap.size w w1) (h : TakeFlat_1 fs ds flat = false) : TakeFlat_Post fs ds flat w (.returned (.tuple #[.slice (some ⟨w1.heap.size, 0, none⟩) 0 0, .bool false])) (w1.alloc (.cells #[] 42)) := by
  refine ⟨.slice (some ⟨w1.heap.size, 0, none⟩) 0 0, by rw [h], ?_, Below.then' hb (bel_al1 _ _)⟩
  rw [show TakeFlat_0 fs ds flat = [] from by unfold TakeFlat_0; rw [h]; rfl]
  exact (own_madeT w1).mono hb.size (by rw [size_al]; exact Nat.le_refl _)
theorem without_more {zs : List Int} {k : Nat} {z : Int} (flat : Int) (hz : zs[k]? = some z) : without flat (zs.take (k + 1)) = without flat (zs.take k) ++ (if z = flat then [] else [z]) := by
  unfold without
  rw [List.take_add_one, hz, List.filter_append]
  congr 1
  by_cases e : z = flat <;> simp [e]
theorem without_len (flat : Int) (zs : List Int) : (without flat zs).length ≤ zs.length := List.length_filter_le _ _
set_option maxHeartbeats 12800000 in
set_option maxRecDepth 100000 in
theorem specTakeFlat_any (a : Option Addr) (len cap : Nat) (xs : List VFlat) (a1 : Option Addr) (len1 cap1 : Nat) (ds : List VDrawer) (flat : Int) (w : World) (h : IsFlatS w a len cap xs) (_ : condFlat xs) (h' : IsDrawerS w a1 len1 cap1 ds) (_ : condDrawer ds) :
    Calls Try.prog 49 #[.slice a len cap, .slice a1 len1 cap1, .int .i64 flat] w (TakeFlat_Post xs ds flat w) := by
  obtain rfl := h'.1
  obtain ⟨i0, hi, hz0, hz1, hz2⟩ := info_parts infoInt
  have hdm := h'.2.2.1
  have hdc := h'.2.1
  unfold maxLen at hdm
  have S := Lib.hid h
  have D := Lib.hid h'
  clear h h'
  obtain ⟨q, hq⟩ : ∃ q, holdI ds flat = q := ⟨_, rfl⟩
  have HQ := Lib.hid hq
  clear hq
  go_enter Try.func49, Try.ntmps49
  go_wp2_with fail
  refine (l5Where_any _ _ _ ds flat _ D.out).mono ?_
  rintro e w1 ⟨rfl, rfl⟩
  rw [HQ.out]
  go_wp2_with fail
  refine (l5Good_any _ _ _ xs _ _ _ ds _ S.out D.out).mono ?_
  rintro e w1 ⟨rfl, hb⟩
  have B1 := Lib.hid hb
  have S1 := Lib.hid (S.out.below hb)
  have D1 := Lib.hid (D.out.below hb)
  clear hb
  cases hg : goodB xs ds with
  | false =>
    have E := Lib.hid (show TakeFlat_1 xs ds flat = false from by unfold TakeFlat_1; rw [hg]; rfl)
    clear hg
    go_wp2
    go_ret2
    exact takes_none B1.out E.out
  | true =>
  have G := Lib.hid (good_iff.1 hg)
  by_cases hneg : q < 0
  · have E := Lib.hid (show TakeFlat_1 xs ds flat = false from by unfold TakeFlat_1; rw [HQ.out, decide_eq_false (show ¬ 0 ≤ q by omega)]; simp)
    clear hg
    go_wp2
    go_ret2
    exact takes_none B1.out E.out
  have E1 := Lib.hid (show TakeFlat_1 xs ds flat = true from by unfold TakeFlat_1; rw [hg, HQ.out, decide_eq_true (show 0 ≤ q by omega)]; rfl)
  obtain ⟨i, x, hii, hx, _, _⟩ := hold_at (ds := ds) (id := flat) (by rw [HQ.out]; omega)
  obtain rfl : q = (i : Int) := by rw [← HQ.out, hii]
  have E0 := Lib.hid (show TakeFlat_0 xs ds flat = ds.set i (withF x (without flat x.Flats)) from by
    unfold TakeFlat_0
    rw [if_pos E1.out, HQ.out, Int.toNat_natCast]
    unfold setF
    rw [hx])
  have hil := (List.getElem?_eq_some_iff.1 hx).1
  have HD := Lib.hid (good_ids G.out hx)
  have X := Lib.hid hx
  have ii0 : (0 : Int) ≤ (i : Int) := by omega
  have ii1 : (i : Int) < (ds.length : Int) := by omega
  have hsm := small_drawers G.out
  obtain ⟨b, o, rfl, hb, hat⟩ := D1.out.at (by omega)
  obtain ⟨hd, hat⟩ := hat i x hx
  have AT := Lib.hid hat
  have hdl := hat.2.2.2.2.2.1
  have hdc1 := hat.2.2.2.2.2.2.1
  have hdm1 := hat.2.2.2.2.2.2.2.1
  unfold maxLen at hdm1
  have hd12 := HD.out.2
  have O0 := Lib.hid (made_ownInt w1)
  clear hat hx hii hg
  go_wp2
  go_loopw [10, 9] (fun k' v wr => ∃ k : Nat, k ≤ x.Flats.length ∧ k' = .int .i64 k ∧ wr.ownsRow w1.heap.size 3 1 v (without flat (x.Flats.take k)).length (intCells (without flat (x.Flats.take k))) ∧ Below w1.heap.size w1 wr) (fun k' _ _ => x.Flats.length - (intOf k').toNat)
  case atStart => exact ⟨0, Nat.zero_le _, rfl, O0.out, bel_al1 _ _⟩
  case round =>
    obtain ⟨k, hk, rfl, hown, hbel⟩ := hrel
    have B := Lib.hid hbel
    have ATW := Lib.hid (AT.out.below hbel hb)
    obtain ⟨c0, c1, c2, c3, c4, hin⟩ := ATW.out
    have k0 : (0 : Int) ≤ (k : Int) := by omega
    by_cases hlt : k < x.Flats.length
    · obtain ⟨z, hz⟩ : ∃ z, x.Flats[k]? = some z := ⟨x.Flats[k]'hlt, List.getElem?_eq_getElem _⟩
      obtain ⟨b', o', he, hb', hat'⟩ := hin.at (by omega)
      rw [he] at c4
      have d0 := hat' k z hz
      have k1 : (k : Int) < (hd.n : Int) := by omega
      have W := Lib.hid (without_more flat hz)
      have WL := without_len flat (x.Flats.take k)
      rw [List.length_take] at WL
      obtain ⟨Gs, hGs⟩ : ∃ Gs, without flat (x.Flats.take k) = Gs := ⟨_, rfl⟩
      rw [hGs] at hown W WL
      have O := Lib.hid hown
      have hsz := hbel.size
      clear hz hat' hin hbel hGs hown c0 c1 c2 c3
      by_cases hzf : z = flat
      · have hb1 : (z != flat) = false := by simpa using hzf
        go_wp2
        go_roundw
        case rel => exact ⟨k + 1, by omega, by go_num, by rw [W.out, if_pos hzf, List.append_nil]; exact O.out, B.out⟩
        case measure => simp [intOf]; omega
      · have hb1 : (z != flat) = true := by simpa using hzf
        have hown3 := O.out.alloc (.cells #[.int .i64 z] 3)
        go_wp2_with (at_builtin; refine wpList_append_own _ rfl _ _ 31 rfl w1.heap.size 3 i0 (.int .i64 0) 1 8 Try.underlying31 hi hz0 hz1 hz2 rfl (by decide) _ _ _ rfl hown3 ⟨wr.heap.size, 0, none⟩ 1 1 [.int .i64 z] rfl rfl (cell_one _ _ _) (fun x hx => by simp at hx; subst hx; rfl) (by unfold maxLen; omega) (by omega) (by simp; omega) ?_; intro v' w4 hown' hgrow4 hnil4)
        go_roundw
        case rel =>
          refine ⟨k + 1, by omega, by go_num, ?_, (Below.then' B.out (bel_al1 _ _)).grown hgrow4 (by simp; omega) (fun j e => (hown3.lt j e).1)⟩
          rw [W.out, if_neg hzf, intCells_snoc, List.length_append]
          exact hown'
        case measure => simp [intOf]; omega
    · obtain rfl : k = x.Flats.length := by omega
      rw [List.take_of_length_le (Nat.le_refl _)] at hown
      have hsz := hbel.size
      obtain ⟨a4, n4, e4, hi4, _⟩ := isInts_own hown
      subst e4
      have I4 := Lib.hid hi4
      have D4 := Lib.hid (D1.out.below hbel)
      have BB := Lib.hid (Below.then' B1.out hbel)
      have hs1 := B1.out.size
      clear hbel hown hi4 hin c0 c1 c2 c3
      go_wp2_with fail
      refine (l5With_any _ _ _ ds (i : Int) _ _ _ (without flat x.Flats) _ D4.out I4.out hsm.1 hsm.2 (by have := without_len flat x.Flats; omega)).mono ?_
      rintro e w5 ⟨v, rfl, hown, hb5⟩
      rw [withAt_set X.out] at hown
      have O5 := Lib.hid (hown.mono (Nat.le_trans hs1 hsz) (Nat.le_refl _))
      have B5 := Lib.hid (Below.then' BB.out hb5)
      clear hown hb5
      go_wp2
      go_ret2
      exact ⟨v, by rw [E1.out]; rfl, by rw [E0.out]; exact O5.out, B5.out⟩
end Go.Proofs.Ytlmedhidkhphbaa
namespace Go.Proofs.Ytlmedhidkhphbaa
open Go.RowKit

set_option maxHeartbeats 12800000 in
set_option maxRecDepth 100000 in
theorem implTakeFlat_any (a : Option Addr) (len cap : Nat) (xs : List VFlat) (a1 : Option Addr) (len1 cap1 : Nat) (ds : List VDrawer) (flat : Int) (w : World) (h : IsFlatS w a len cap xs) (h' : IsDrawerS w a1 len1 cap1 ds) :
    Calls Try.prog 26 #[.slice a len cap, .slice a1 len1 cap1, .int .i64 flat] w (TakeFlat_Post xs ds flat w) := by
  have b0 := bel_al1 w (.cells #[.int .i64 flat] 3)
  have S := Lib.hid (h.below b0)
  have D := Lib.hid (h'.below b0)
  have B0 := Lib.hid b0
  have C0 := Lib.hid (cell_box w (.int .i64 flat) 3 _ rfl)
  have hs0 : w.heap.size + 1 = (w.alloc (.cells #[.int .i64 flat] 3)).heap.size := (size_al _ _).symm
  have Z0 := Lib.hid hs0
  clear h h' b0 hs0
  obtain ⟨z, hz⟩ : ∃ z, DrawerOf_0 xs ds flat = z := ⟨_, rfl⟩
  obtain ⟨q, hq⟩ : ∃ q, DrawerOf_1 xs ds flat = q := ⟨_, rfl⟩
  have HZ := Lib.hid hz
  have HQ := Lib.hid hq
  clear hz hq
  go_enter Try.func26, Try.ntmps26
  go_wp2_with fail
  refine (implDrawerOf_any _ _ _ xs _ _ _ ds flat _ S.out D.out).mono ?_
  rintro e w1 ⟨rfl, hb⟩
  rw [HZ.out, HQ.out]
  have B1 := Lib.hid (Below.then' B0.out hb)
  have D1 := Lib.hid (D.out.below hb)
  have C1 := Lib.hid (cell_stay C0.out hb)
  have hs1 : w.heap.size + 1 ≤ w1.heap.size := by rw [Z0.out]; exact hb.size
  clear hb
  have NO := Lib.hid (show TakeFlat_1 xs ds flat = false → TakeFlat_1 xs ds flat = false ∧ TakeFlat_0 xs ds flat = [] from fun h => ⟨h, by unfold TakeFlat_0; rw [h]; rfl⟩)
  cases q with
  | false =>
    have E := Lib.hid (NO.out (by
      have h := HQ.out
      unfold DrawerOf_1 at h
      unfold TakeFlat_1
      rw [Bool.and_eq_false_iff] at h ⊢
      rcases h with h | h
      · exact .inl h
      · by_cases hg : goodB xs ds = true
        · refine .inr (decide_eq_false fun h2 => ?_)
          obtain ⟨i, d, _, h3, _, h4⟩ := hold_at h2
          obtain ⟨f, h5, _⟩ := good_has (good_iff.1 hg) h3 h4
          have := flat_of h5
          simp at h
          omega
        · exact .inl (by simpa using hg)))
    go_wp2
    go_ret2
    exact ⟨_, by rw [E.out.1]; rfl, by rw [E.out.2]; exact nil_OwnDrawerS _ _ _, B1.out⟩
  | true =>
  by_cases hz0 : z = 0
  · have E := Lib.hid (NO.out (by
      have h := (drawerOf_loose HQ.out).1 (by rw [HZ.out]; exact hz0)
      unfold TakeFlat_1
      rw [decide_eq_false (by omega)]; simp))
    subst hz0
    go_wp2
    go_ret2
    exact ⟨_, by rw [E.out.1]; rfl, by rw [E.out.2]; exact nil_OwnDrawerS _ _ _, B1.out⟩
  have hhold : 0 ≤ holdI ds flat := by
    by_cases h : 0 ≤ holdI ds flat
    · exact h
    · exact absurd (by rw [← HZ.out]; exact (drawerOf_loose HQ.out).2 (by omega)) hz0
  have hb1 : (z == 0) = false := by simpa using hz0
  have hg : goodB xs ds = true := by have h := HQ.out; unfold DrawerOf_1 at h; rw [Bool.and_eq_true] at h; exact h.1
  have G := Lib.hid (good_iff.1 hg)
  obtain ⟨i, x, hi, hx, hf, hm⟩ := hold_at hhold
  have hzx : z = x.Id := by
    rw [← HZ.out]
    unfold DrawerOf_0
    rw [if_pos HQ.out, hf]
  have DI := Lib.hid (show drawI ds z = (i : Int) from by rw [hzx]; exact draw_up G.out.up hx)
  have E1 := Lib.hid (show TakeFlat_1 xs ds flat = true from by unfold TakeFlat_1; rw [hg, decide_eq_true hhold]; rfl)
  have E0 := Lib.hid (show TakeFlat_0 xs ds flat = ds.set i (withF x (without flat x.Flats)) from by
    unfold TakeFlat_0
    rw [if_pos E1.out, hi]
    unfold setF
    rw [Int.toNat_natCast, hx])
  have X := Lib.hid hx
  have hil := (List.getElem?_eq_some_iff.1 hx).1
  have HD := Lib.hid (good_ids G.out hx)
  have NE := Lib.hid (show x.Flats ≠ [] from fun e => by rw [e] at hm; simp at hm)
  clear hi hx hf hm hg hhold hzx
  go_wp2_with fail
  refine (copyDrawers_any _ _ _ ds _ D1.out (small_drawers G.out).1 (small_drawers G.out).2).mono ?_
  rintro e w3 ⟨v, rfl, hown, hb⟩
  obtain ⟨g, c, ps, p, rfl, hps, hraw, hp, hpx, hc1, hc2⟩ := own_some_of hown X.out
  have B3 := Lib.hid (Below.then' B1.out hb)
  have D3 := Lib.hid (D1.out.below hb)
  have C3 := Lib.hid (cell_stay C1.out hb)
  have R := Lib.hid hraw
  have PS := Lib.hid hps
  have KP := Lib.hid hp
  have PX := Lib.hid hpx
  have hs3 := hb.size
  have i0 : (0 : Int) ≤ (i : Int) := by omega
  have i1 : (i : Int) < (ds.length : Int) := by omega
  have PZ := Lib.hid (show p.x.Flats = x.Flats from by rw [hpx])
  clear hb hown hraw hps hp hpx
  go_wp2_with fail
  refine (indexOfDrawer_any _ _ _ ds z _ D3.out).mono ?_
  rintro e w4 ⟨rfl, hb⟩
  rw [DI.out]
  have B4 := Lib.hid (Below.then' B3.out hb)
  have R4 := Lib.hid (R.out.keep (w' := w4) fun b _ _ hs => hb.block b hs)
  have c4 := cell_stay C3.out hb
  have C4 := Lib.hid c4
  have hs4 := hb.size
  obtain ⟨_, _, _, _, c5, _⟩ := R4.out.elem KP.out
  have HI4 := Lib.hid (R4.out.2.1 i p KP.out)
  have hglt := R4.out.1.lt (b := g) rfl
  clear hb
  go_wp2_with fail
  refine (delete_any w1.heap.size w3.heap.size p.h p.x.Flats flat w.heap.size w4 HI4.out (by rw [PZ.out]; exact NE.out) (by rw [PZ.out]; have := HD.out.2; omega) C4.out (fun e => by have := HI4.out.lt e; omega)).mono ?_
  rintro e w5 ⟨h', rfl, H5, hblk, hg5⟩
  have SW := Lib.hid (R4.out.swap KP.out hg5 H5 (Nat.le_refl _) (fun b hb => .inl (hblk ▸ hb)))
  have hbp : ∀ b, p.h.blk = some b → w1.heap.size ≤ b := fun b hb => (HI4.out.lt hb).1
  have B5 := Lib.hid (B4.out.grown hg5 (by have := B4.out.size; omega) (fun b hb => by have := hbp b hb; omega))
  have f4 := SW.out.1.free (i * 5 + 4)
  have B6 := Lib.hid (B5.out.setCell (p := ⟨g, i * 5 + 4, none⟩) (by show w.heap.size ≤ g; omega) (.slice h'.a h'.n h'.c))
  have MX := Lib.hid (map_set_x ps ds i p x (without flat p.x.Flats) h' PS.out X.out KP.out)
  have g4 : w5.frozen? ⟨g, i * 5 + 4, none⟩ = false := by simpa using f4
  obtain ⟨u5, d5⟩ : ∃ u, w5.cell? ⟨g, i * 5 + 4, none⟩ = some u := ⟨_, (hg5.cell c5 (fun e => R4.out.2.2.1 i p g KP.out e.symm rfl))⟩
  have hs5 := hg5.size
  have hs6 : w5.heap.size ≤ (w5.setCell ⟨g, i * 5 + 4, none⟩ (.slice h'.a h'.n h'.c)).heap.size := by simp [World.setCell]
  have O6 := Lib.hid (⟨_, by rw [MX.out, PZ.out], SW.out.1.mono (by omega) (by omega)⟩ : OwnDrawerS w.heap.size (w5.setCell ⟨g, i * 5 + 4, none⟩ (.slice h'.a h'.n h'.c)).heap.size (w5.setCell ⟨g, i * 5 + 4, none⟩ (.slice h'.a h'.n h'.c)) (.slice (some ⟨g, 0, none⟩) ds.length c) (ds.set i (withF x (without flat x.Flats))))
  clear hblk hg5 hbp f4 c5 c4
  go_wp2
  go_ret2
  exact ⟨_, by rw [E1.out]; rfl, by rw [E0.out]; exact O6.out, B6.out⟩
end Go.Proofs.Ytlmedhidkhphbaa
namespace Go.Proofs.Ytlmedhidkhphbaa
open Go.RowKit
theorem cnt_small {ds : List VDrawer} (h : ∀ x ∈ ds, x.Flats.length ≤ 13) : cntDrawer ds ≤ ds.length * 17 := by
  induction ds with
  | nil => simp [cntDrawer]
  | cons d l ih =>
    have h1 := ih fun x hx => h x (List.mem_cons_of_mem _ hx)
    have h2 := h d List.mem_cons_self
    have h3 : cntDrawer (d :: l) = cntDrawer [d] + cntDrawer l := cntDrawer_app [d] l
    have h4 : cntDrawer [d] = 4 + d.Flats.length := by simp [cntDrawer]
    rw [h3, h4, List.length_cons]
    omega
theorem set_small {fs : List VFlat} {ds : List VDrawer} (G : Good fs ds) {i : Nat} {x : VDrawer} (_ : ds[i]? = some x) {zs : List Int} (hz : zs.length ≤ 13) : cntDrawer (ds.set i (withF x zs)) ≤ 1000000 := by
  have h1 := cnt_small (ds := ds.set i (withF x zs)) (fun y hy => by
    rcases List.mem_or_eq_of_mem_set hy with h | rfl
    · obtain ⟨j, hj⟩ := List.getElem?_of_mem h
      have := (good_ids G hj).2
      omega
    · exact hz)
  rw [List.length_set] at h1
  have := (small_drawers G).1
  omega
theorem TakeFlat_0_cnt (xs : List VFlat) (ds : List VDrawer) (flat : Int) (_ : condFlat xs) (_ : condDrawer ds) : cntDrawer (TakeFlat_0 xs ds flat) ≤ 1000000 := by
  unfold TakeFlat_0
  split
  · have h := ‹TakeFlat_1 xs ds flat = true›
    unfold TakeFlat_1 at h
    rw [Bool.and_eq_true, decide_eq_true_eq] at h
    have G := good_iff.1 h.1
    obtain ⟨i, x, hi, hx, _⟩ := hold_at h.2
    rw [hi, Int.toNat_natCast]
    unfold setF
    rw [hx]
    exact set_small G hx (by have := without_len flat x.Flats; have := (good_ids G hx).2; omega)
  · simp [cntDrawer]
theorem PutFlat_0_cnt (xs : List VFlat) (ds : List VDrawer) (flat id : Int) (_ : condFlat xs) (_ : condDrawer ds) : cntDrawer (PutFlat_0 xs ds flat id) ≤ 1000000 := by
  unfold PutFlat_0
  split
  · have h := ‹putB xs ds flat id = true›
    unfold putB looseB at h
    simp only [Bool.and_eq_true, decide_eq_true_eq] at h
    have G := good_iff.1 h.1.1
    obtain ⟨i, x, hi, hx, _⟩ := draw_at h.2.1
    rw [hi, Int.toNat_natCast]
    unfold putAt setF
    rw [hx]
    exact set_small G hx (by rw [insAt_len]; have := (good_ids G hx).2; omega)
  · simp [cntDrawer]
end Go.Proofs.Ytlmedhidkhphbaa
namespace Go.Proofs.Ytlmedhidkhphbaa
open Go.RowKit Go.ChangeShapes

/-- Each variable of the list is of a type that can be read. -/
def varsOkB (P : Program) (ns : List String) : Bool := ns.all fun n => match P.globalNamed n with
  | some g => (match (P.globals[g]?).map (·.type) with | some t => P.readableRec t && decide (t < P.types.size) | none => true)
  | none => true
theorem var?_below {P : Program} {w w' : World} {n : String} {cs : Array Value} (h : w.var? P n = some cs) (hb : Below w.heap.size w w') : w'.var? P n = some cs := by
  unfold World.var? at *
  rw [Option.bind_eq_some_iff] at *
  obtain ⟨g, hg, h2⟩ := h
  refine ⟨g, hg, ?_⟩
  by_cases hl : g < w.heap.size
  · rw [hb.block g hl]; exact h2
  · rw [Array.getElem?_eq_none (by omega)] at h2; cases h2
theorem trodVars_below {H : Type} {enc : TypeId × Value → H} {P : Program} (hl : laidOutB P = true) {W W' : World} (hb : Below W.heap.size W W') :
    ∀ {ns : List String} {gs : List (DataW H)} {q : List MemPlace}, varsOkB P ns = true → DataW.TrodVars enc P W (fun _ => true) ns gs q → ∃ q', DataW.TrodVars enc P W' (fun b => decide (b < W.heap.size)) ns gs q'
  | [], [], q, _, h => ⟨[], rfl⟩
  | n :: ns, d :: ds, _, hok, ⟨g, t, cs, fuel, p, q, h1, h2, h3, h4, hs, e⟩ => by
    unfold varsOkB at hok
    simp only [List.all_cons, Bool.and_eq_true] at hok
    obtain ⟨hk, hks⟩ := hok
    rw [h1] at hk
    simp only [h2, Bool.and_eq_true, decide_eq_true_eq] at hk
    obtain ⟨q', hq'⟩ := trodVars_below hl hb (ns := ns) hks hs
    have hlt : ∀ x ∈ p, x.block < W.heap.size := DataW.trod_lt fuel _ _ _ h4
    refine ⟨MemPlace.row ⟨g, 0, none⟩ cs.size ++ p ++ q', g, t, cs, fuel, p, q', h1, h2, var?_below h3 hb, ?_, hq', rfl⟩
    exact DataW.trod_stays (kids_book hl hk.1) (book_sized hk.1) (fun h => by cases h) ⟨hk.2, book_self t⟩ h4 (fun x hx => hb.same (hlt x hx)) (fun x hx => by simpa using hlt x hx)
end Go.Proofs.Ytlmedhidkhphbaa
