/- Texts in one: Del, Di6, Di7, Ds7, Ds8, Di8, Dz2, Vars. -/
import Derived.Test.YtldanejdnbfbjaaM7
import Derived.Test.YtldanejdnbfbjaaM3
import Derived.Test.YtldanejdnbfbjaaM5
import Derived.Test.YtldanejdnbfbjaaM6
import Derived.Test.YtldanejdnbfbjaaM1
import Derived.ChangeVars
import Derived.ChangeShapes
import Derived.Carry
namespace Go.Proofs.Ytldanejdnbfbjaa
open Go.RowKit Go.Sort

/-- Less of a row. -/
theorem own_less {w : World} {base cap g n m : Nat} {e : TypeId} {L : List Value} (h : w.ownsRow base e 1 (.slice (some ⟨g, 0, none⟩) n cap) n L) (hm : m ≤ n) : w.ownsRow base e 1 (.slice (some ⟨g, 0, none⟩) m cap) m (L.take m) := by
  have hl := h.1
  rcases h.2 with ⟨e0, _⟩ | ⟨g', cap', cur, e0, hg, hh, hn, hc, hs, ht⟩
  · cases e0
  · cases e0
    refine ⟨by rw [List.length_take, hl]; omega, .inr ⟨g, cap, cur, rfl, hg, hh, by omega, hc, hs, ?_⟩⟩
    rw [← ht, List.take_take, Nat.mul_one, Nat.mul_one, Nat.min_eq_left hm]
theorem isFlatId_any (z flat : Int) (b : Nat) (w : World) (h : w.cell? ⟨b, 0, none⟩ = some (.int .i64 flat)) :
    Calls Try.prog 79 #[.int .i64 z, .pointer (some ⟨b, 0, none⟩)] w fun e w' => e = .returned (.bool (z == flat)) ∧ w' = w := by
  go_enter Try.func79, Try.ntmps79
  go_wp2
  go_ret
  exact ⟨rfl, rfl⟩
/-- What is left of a row. -/
def DelPost (lo hi : Nat) (h : Hd) (zs : List Int) (w : World) (e : Ending) (w' : World) : Prop :=
  ∃ h' : Hd, e = .returned (.slice h'.a h'.n h'.c) ∧ HInts lo hi w' h' zs ∧ h'.blk = h.blk ∧ w.grownBy w' h.blk
theorem delete_any (lo hi : Nat) (h : Hd) (zs : List Int) (flat : Int) (b : Nat) (w : World) (H : HInts lo hi w h zs) (hz : zs ≠ []) (hl : zs.length ≤ 1000) (hb : w.cell? ⟨b, 0, none⟩ = some (.int .i64 flat)) (hne : h.blk ≠ some b) :
    Calls Try.prog 78 #[.slice h.a h.n h.c, .func (.func 79) #[] #[.pointer (some ⟨b, 0, none⟩)]] w (DelPost lo hi h (without flat zs) w) := by
  obtain ⟨his, hn⟩ := H.is
  obtain ⟨a, n, c⟩ := h
  simp only at hn
  subst hn
  rcases H.1.2 with ⟨e0, hn0⟩ | ⟨g, cap, cur, e0, hg, hh, hnc, hcm, hcs, _⟩
  · exact absurd (List.length_eq_zero_iff.1 hn0) hz
  simp only [Value.slice.injEq] at e0
  obtain ⟨rfl, _, rfl⟩ := e0
  have hgb : g ≠ b := fun e => hne (by rw [← e]; rfl)
  have hrow : w.ownsRow lo 3 1 (.slice (some ⟨g, 0, none⟩) zs.length c) zs.length (intCells zs) := H.1
  have hH : Holds (Value.int .i64) w g 0 zs.toArray := fun j hj => by
    have hj' : j < zs.length := by simpa using hj
    refine ⟨?_, by rw [Nat.zero_add]; exact hrow.frozenAt j⟩
    have := own_cells_at hrow j (.int .i64 zs[j]) (by simp [intCells, hj'])
    rw [this]
    simp [hj']
  have hcon := AnyE.slices_DeleteFunc Try.laysDel (Value.int .i64) (fun _ => rfl) (fun z => z == flat) 79 #[.pointer (some ⟨b, 0, none⟩)] (enters_fn Try.func79 (by kernel_rfl) (by kernel_rfl)) 0 Try.zeroValue3 g 0 c zs.toArray w
    (fun W x hW => (isFlatId_any x flat b W (cell_stay hb hW)).mono fun e w' ⟨h1, h2⟩ => ⟨h1, 0, h2⟩)
    (fun n os dk x _ => (isFlatId_any x flat b _ ((grownBy_sortedI (w := w) (g := g) (n := n) (os := os) dk).cell hb (fun e => hgb (Option.some.inj e).symm))).mono fun e w' ⟨h1, h2⟩ => ⟨h1, 0, h2⟩)
    hH (by simpa using Nat.le_trans hl (by decide)) (by simpa using hnc)
  change Calls Try.prog 78 _ _ _ at hcon
  simp only [List.size_toArray] at hcon
  refine hcon.mono ?_
  rintro e w' ⟨rfl, q, rfl⟩
  have hfl : (zs.filter fun z => !(z == flat)).length ≤ zs.length := List.length_filter_le _ _
  have h1 := ownsRow_sortedI (n := q) (os := #[]) (ss := zs) (ts := (zs.filter fun z => !(z == flat)) ++ List.replicate (zs.length - (zs.filter fun z => !(z == flat)).length) 0) (by rw [List.length_append, List.length_replicate]; omega) hg hh hnc hcm hcs
  have h2 := grownBy_sortedI (w := w) (g := g) (n := q) (os := #[]) ((zs.filter fun z => !(z == flat)) ++ List.replicate (zs.length - (zs.filter fun z => !(z == flat)).length) 0).toArray
  rw [Sort.grow_empty] at h1 h2
  have h3 := own_less h1 hfl
  refine ⟨⟨some ⟨g, 0, none⟩, _, c⟩, rfl, ⟨?_, H.2⟩, rfl, h2⟩
  rw [← List.map_take, List.take_left' rfl] at h3
  exact h3
end Go.Proofs.Ytldanejdnbfbjaa
namespace Go.Proofs.Ytldanejdnbfbjaa
open Go.RowKit

/-- An element's slice has turned, and another one, or what it has become, is stored in its place. -/
theorem RawDrawer.swap {lo hi hi' : Nat} {w w' : World} {g n c : Nat} {ps : List PDrawer} (h : RawDrawer lo hi w (.slice (some ⟨g, 0, none⟩) n c) ps) {k : Nat} {p : PDrawer} (hp : ps[k]? = some p) (hg : w.grownBy w' p.h.blk) {h' : Hd} {zs : List Int} (H : HInts lo hi' w' h' zs) (hh : hi ≤ hi') (hn : ∀ b, h'.blk = some b → p.h.blk = some b ∨ hi ≤ b) :
    RawDrawer lo hi' (w'.setCell ⟨g, k * 5 + 4, none⟩ (.slice h'.a h'.n h'.c)) (.slice (some ⟨g, 0, none⟩) n c) (ps.set k ⟨{ p.x with Flats := zs }, h'⟩) ∧ w'.grownBy (w'.setCell ⟨g, k * 5 + 4, none⟩ (.slice h'.a h'.n h'.c)) (some g) := by
  obtain ⟨rfl, _, _⟩ := h.len
  have hgl := h.1.lt (b := g) rfl
  have O1 : OwnIn lo hi w' 42 5 (.slice (some ⟨g, 0, none⟩) ps.length c) ps.length (cellsDrawer ps) := h.1.keep fun b hb => hg.block b (h.1.lt hb).2.2 (fun e => h.2.2.1 k p b hp e.symm hb)
  have s0 := O1.1.stored (k * 5 + 4) (.slice h'.a h'.n h'.c)
  have G := s0.2
  have ne : ∀ b, h'.blk = some b → some b ≠ some g := fun b hb e => by
    cases e
    rcases hn g hb with h1 | h1
    · exact h.2.2.1 k p g hp h1 rfl
    · omega
  have H2 : HInts lo hi' (w'.setCell ⟨g, k * 5 + 4, none⟩ (.slice h'.a h'.n h'.c)) h' zs := H.keep fun b hb => G.block b (H.lt hb).2.2 (ne b hb)
  have hkl := (List.getElem?_eq_some_iff.1 hp).1
  refine ⟨⟨⟨?_, fun b hb => Nat.lt_of_lt_of_le (h.1.2 b hb) hh⟩, ?_⟩, G⟩
  · have h1 := s0.1
    rw [set_sliceDrawer ps k p hp zs h'] at h1
    rw [List.length_set]
    exact h1
  · have get : ∀ i r, (ps.set k ⟨{ p.x with Flats := zs }, h'⟩)[i]? = some r → (i = k ∧ r = ⟨{ p.x with Flats := zs }, h'⟩) ∨ (i ≠ k ∧ ps[i]? = some r) := fun i r hr => by
      by_cases e : i = k
      · subst e; rw [List.getElem?_set_self hkl] at hr; exact .inl ⟨rfl, (Option.some.inj hr).symm⟩
      · rw [List.getElem?_set_ne (Ne.symm e)] at hr; exact .inr ⟨e, hr⟩
    refine ⟨fun i r hr => ?_, fun i r b hr hb => ?_, fun i j r s b hij hr hs hb hc => ?_⟩
    · rcases get i r hr with ⟨_, rfl⟩ | ⟨ei, hr⟩
      · exact H2
      · have hI := h.2.1 i r hr
        have hI2 : HInts lo hi w' r.h r.x.Flats := hI.keep fun b hb => hg.block b (hI.lt hb).2.2 (fun e => h.2.2.2 i k r p b ei hr hp hb e.symm)
        have hI3 : HInts lo hi (w'.setCell ⟨g, k * 5 + 4, none⟩ (.slice h'.a h'.n h'.c)) r.h r.x.Flats := hI2.keep fun b hb => G.block b (hI2.lt hb).2.2 (fun e => by cases e; exact h.2.2.1 i r g hr hb rfl)
        exact hI3.mono (Nat.le_refl _) hh
    · rcases get i r hr with ⟨_, rfl⟩ | ⟨_, hr⟩
      · exact fun e => ne b hb (by cases e; rfl)
      · exact h.2.2.1 i r b hr hb
    · rcases get i r hr with ⟨ei, e1⟩ | ⟨ei, hr2⟩
      · rw [e1] at hb
        rcases get j s hs with ⟨ej, _⟩ | ⟨ej, hs2⟩
        · omega
        · rcases hn b hb with h1 | h1
          · exact h.2.2.2 k j p s b (Ne.symm ej) hp hs2 h1 hc
          · have := ((h.2.1 j s hs2).lt hc).2.1; omega
      · rcases get j s hs with ⟨ej, e2⟩ | ⟨ej, hs2⟩
        · rw [e2] at hc
          rcases hn b hc with h1 | h1
          · exact h.2.2.2 i k r p b ei hr2 hp hb h1
          · have := ((h.2.1 i r hr2).lt hb).2.1; omega
        · exact h.2.2.2 i j r s b hij hr2 hs2 hb hc
theorem set_at_len {α : Type} (a : List α) (p q : α) (b : List α) (k : Nat) (hk : a.length = k) : (a ++ p :: b).set k q = a ++ q :: b := by
  subst hk
  rw [List.set_append_right _ _ (Nat.le_refl _), Nat.sub_self, List.set_cons_zero]
set_option maxHeartbeats 12800000 in
set_option maxRecDepth 100000 in
theorem copyDrawers_any (a : Option Addr) (len cap : Nat) (xs : List VDrawer) (w : World) (h : IsDrawerS w a len cap xs) (hx : xs.length ≤ 1000) (hf : ∀ x ∈ xs, x.Flats.length ≤ 1000) :
    Calls Try.prog 64 #[.slice a len cap] w (DrawerOPost xs w) := by
  obtain rfl := h.1
  have hm := h.2.2.1
  have hcl := h.2.1
  unfold maxLen at hm
  have S := Lib.hid h
  have F := Lib.hid hf
  clear h hf
  go_enter Try.func64, Try.ntmps64
  go_wp2_with fail
  refine (cloneDrawer_any _ _ _ xs _ S.out (by omega)).mono ?_
  rintro e w1 ⟨v, ps, rfl, hps, hown, hin, hb1⟩
  have hpl : ps.length = xs.length := by rw [← hps, List.length_map]
  have B1 := Lib.hid hb1
  have PS := Lib.hid hps
  have PL := Lib.hid hpl
  rcases hown.2 with ⟨rfl, h0⟩ | ⟨g, cp, cur, rfl, hg, hh, hn, hc, _⟩
  · have hxe : xs = [] := List.length_eq_zero_iff.1 h0
    subst hxe
    clear hown hin hb1 hps hpl h0
    go_wp2
    refine wp_loop_rounds 1 ?_
    rw [rounds_succ]
    go_wp2
    go_ret
    exact ⟨_, rfl, nil_OwnDrawerS _ _ _, B1.out⟩
  have hglt := (hown.lt g rfl)
  have O1 := Lib.hid hown
  have IN := Lib.hid hin
  unfold maxLen at hc
  clear hown hin hb1 hps hpl hh
  go_wp2
  go_loopw [10] (fun i wr => ∃ (k : Nat) (ns : List PDrawer), k ≤ xs.length ∧ i = .int .i64 k ∧ ns.map PDrawer.x = xs.take k ∧ Below w.heap.size w wr ∧ g < wr.heap.size ∧ wr.ownsRow w.heap.size 42 5 (.slice (some ⟨g, 0, none⟩) xs.length cp) xs.length (cellsDrawer (ns ++ ps.drop k)) ∧ InnerDrawer w.heap.size wr.heap.size wr (some g) ns) (fun i _ => xs.length - (intOf i).toNat)
  case atStart => exact ⟨0, [], Nat.zero_le _, rfl, rfl, B1.out, hglt.2, by simpa using O1.out, nil_InnerDrawer _ _ _ _⟩
  case round =>
    obtain ⟨k, ns, hk, rfl, hns, hbel, hgw, hown, hinn⟩ := hrel
    have O := Lib.hid hown
    have B := Lib.hid hbel
    have N := Lib.hid hinn
    have NS := Lib.hid hns
    have NL := Lib.hid (show ns.length = k from by have := congrArg List.length NS.out; rw [List.length_map, List.length_take] at this; omega)
    clear hns hinn hown
    by_cases hlt : k < xs.length
    · obtain ⟨x, hx1⟩ : ∃ x, xs[k]? = some x := ⟨xs[k]'hlt, List.getElem?_eq_getElem _⟩
      obtain ⟨p, hp, hpx⟩ : ∃ p, ps[k]? = some p ∧ p.x = x := by
        have h1 := congrArg (fun l : List VDrawer => l[k]?) PS.out
        simp only [List.getElem?_map, hx1] at h1
        cases hq : ps[k]? with
        | none => rw [hq] at h1; cases h1
        | some p => rw [hq] at h1; exact ⟨p, rfl, by simpa using h1⟩
      obtain ⟨b, o, rfl, hb, hat⟩ := (S.out.below hbel).at (by omega)
      obtain ⟨hd, c0, c1, c2, c3, c4, hin⟩ := hat k x hx1
      have hxl := F.out x (List.mem_of_getElem? hx1)
      have K := Lib.hid hx1
      have KP := Lib.hid hp
      have PX := Lib.hid hpx
      have bw := bel_al1 wr (.cells #[.int .i64 x.Id, .int .i64 x.Wide, .int .i64 x.High, .int .i64 x.Holds, .slice hd.a hd.n hd.c] 42)
      have HI := Lib.hid (hin.below bw)
      have BW := Lib.hid bw
      have hi0 : (0 : Int) ≤ (k : Int) := by omega
      have hi1 : (k : Int) < (xs.length : Int) := by omega
      clear hbel hx1 hat hin hp hpx bw
      go_wp2_with fail
      refine (cloneInts_any _ _ _ x.Flats _ HI.out (by omega)).mono ?_
      rintro e w2 ⟨h', rfl, H', hb2⟩
      have hbb := Below.then' BW.out hb2
      have O2 := Lib.hid (ownsRow_below O.out hbb)
      have B2 := Lib.hid (Below.then' B.out hbb)
      have N2 := Lib.hid (N.out.below hbb)
      have HH := Lib.hid (H'.mono (show wr.heap.size ≤ _ from by rw [size_al]; omega) (Nat.le_refl _))
      have hs2 := hbb.size
      clear hb2 H' hbb c0 c1 c2 c3 c4
      have f4 := O2.out.frozenAt (k * 5 + 4)
      obtain ⟨u4, d4⟩ := own_cell O2.out (k * 5 + 4) (by have := PL.out; have := NL.out; rw [cellsDrawer_len, List.length_append, List.length_drop]; omega)
      go_wp2
      go_roundw
      case rel =>
        have h5 := O2.out.stored (k * 5 + 4) (.slice h'.a h'.n h'.c)
        have hpk : (ns ++ ps.drop k)[k]? = some p := by
          rw [List.getElem?_append_right (by have := NL.out; omega), NL.out, Nat.sub_self, List.getElem?_drop, Nat.add_zero, KP.out]
        have hdr : ps.drop k = p :: ps.drop (k + 1) := by
          obtain ⟨hk2, e2⟩ := List.getElem?_eq_some_iff.1 KP.out
          rw [List.drop_eq_getElem_cons hk2, e2]
        refine ⟨k + 1, ns ++ [⟨x, h'⟩], by omega, by go_num, ?_, B2.out.grown h5.2 B2.out.size (fun j e => by cases e; exact hglt.1), Nat.lt_of_lt_of_le (by omega) h5.2.size, ?_, ?_⟩
        · rw [List.map_append, NS.out, List.take_add_one, K.out]; rfl
        · have h6 := h5.1
          rw [set_sliceDrawer _ k p hpk x.Flats h', hdr, set_at_len ns p _ _ k NL.out] at h6
          rw [List.append_assoc]
          have e7 : ({ p.x with Flats := x.Flats } : VDrawer) = x := by rw [PX.out]
          rw [e7] at h6
          exact h6
        · have H2 := OwnIn.turned HH.out (Turned.of_grown (lo := w.heap.size) (hi := wr.heap.size) h5.2 (fun b e => by cases e; omega)) (.inr (Nat.le_refl _))
          exact ((N2.out.grown h5.2).snoc (p := ⟨x, h'⟩) H2 (by have := B.out.size; omega) (by omega) (fun b e => by cases e; omega)).mono (Nat.le_refl _) h5.2.size
      case measure => simp [intOf]; omega
    · obtain rfl : k = xs.length := by omega
      clear hbel
      go_wp2
      go_ret
      have hnl := NL.out
      have h := O.out
      rw [List.drop_of_length_le (by have := PL.out; omega), List.append_nil] at h
      have h2 : OwnIn w.heap.size wr.heap.size wr 42 5 (.slice (some ⟨g, 0, none⟩) xs.length cp) ns.length (cellsDrawer ns) := OwnIn.of_row (by rw [hnl]; exact h) (Nat.le_refl _) (Nat.le_refl _)
      exact ⟨_, rfl, ⟨ns, by rw [NS.out, List.take_of_length_le (Nat.le_refl _)], h2, N.out⟩, B.out⟩
end Go.Proofs.Ytldanejdnbfbjaa
namespace Go.Proofs.Ytldanejdnbfbjaa
open Go.RowKit

theorem small_drawers {fs : List VFlat} {ds : List VDrawer} (h : Good fs ds) : ds.length ≤ 1000 ∧ ∀ x ∈ ds, x.Flats.length ≤ 1000 := by
  refine ⟨by have := h.dl; omega, fun x hx => ?_⟩
  obtain ⟨i, hi⟩ := List.getElem?_of_mem hx
  have := (good_ids h hi).2
  omega
theorem drawerOf_loose {fs : List VFlat} {ds : List VDrawer} {flat : Int} (h : DrawerOf_1 fs ds flat = true) : (DrawerOf_0 fs ds flat = 0 ↔ holdI ds flat < 0) := by
  unfold DrawerOf_0
  rw [if_pos h]
  unfold DrawerOf_1 at h
  rw [Bool.and_eq_true] at h
  have G := good_iff.1 h.1
  by_cases hn : holdI ds flat < 0
  · rw [(hold_no hn).2]; simp [hn]
  · obtain ⟨i, d, h1, h2, h3, _⟩ := hold_at (show 0 ≤ holdI ds flat by omega)
    rw [h3]
    have := (good_id G h2).1
    simp only
    constructor
    · intro e; omega
    · intro e; exact absurd e hn
theorem map_set_x (ps : List PDrawer) (ds : List VDrawer) (i : Nat) (p : PDrawer) (x : VDrawer) (zs : List Int) (h : Hd) (hp : ps.map PDrawer.x = ds) (hx : ds[i]? = some x) (hi : ps[i]? = some p) : (ps.set i ⟨{ p.x with Flats := zs }, h⟩).map PDrawer.x = ds.set i (withF x zs) := by
  rw [List.map_set, hp]
  have : p.x = x := by
    have h1 := congrArg (fun l : List VDrawer => l[i]?) hp
    simp only [List.getElem?_map, hi, hx] at h1
    simpa using h1
  rw [← this]; rfl
theorem own_some_of {lo hi : Nat} {w : World} {v : Value} {ds : List VDrawer} (h : OwnDrawerS lo hi w v ds) {i : Nat} {x : VDrawer} (hx : ds[i]? = some x) :
    ∃ g c ps p, v = .slice (some ⟨g, 0, none⟩) ds.length c ∧ ps.map PDrawer.x = ds ∧ RawDrawer lo hi w (.slice (some ⟨g, 0, none⟩) ds.length c) ps ∧ ps[i]? = some p ∧ p.x = x ∧ c ≤ 9223372036854775807 ∧ ds.length ≤ c := by
  obtain ⟨ps, e, hr⟩ := h
  have hl : ps.length = ds.length := by rw [← e, List.length_map]
  have hi := (List.getElem?_eq_some_iff.1 hx).1
  obtain ⟨g, c, ev, _, h1, h2⟩ := own_some hr.1.1 (by omega)
  rw [hl] at ev h1
  subst ev
  have hp : ps[i]? = some ps[i] := List.getElem?_eq_getElem (by omega)
  refine ⟨g, c, ps, ps[i], rfl, e, hr, hp, ?_, h2, h1⟩
  have h1 := congrArg (fun l : List VDrawer => l[i]?) e
  simp only [List.getElem?_map, hp, hx] at h1
  simpa using h1
set_option maxHeartbeats 12800000 in
set_option maxRecDepth 100000 in
theorem implPutFlat_any (a : Option Addr) (len cap : Nat) (xs : List VFlat) (a1 : Option Addr) (len1 cap1 : Nat) (ds : List VDrawer) (flat id : Int) (w : World) (h : IsFlatS w a len cap xs) (h' : IsDrawerS w a1 len1 cap1 ds) :
    Calls Try.prog 17 #[.slice a len cap, .slice a1 len1 cap1, .int .i64 flat, .int .i64 id] w (PutFlat_Post xs ds flat id w) := by
  have S := Lib.hid h
  have D := Lib.hid h'
  clear h h'
  obtain ⟨z, hz⟩ : ∃ z, DrawerOf_0 xs ds flat = z := ⟨_, rfl⟩
  obtain ⟨q, hq⟩ : ∃ q, DrawerOf_1 xs ds flat = q := ⟨_, rfl⟩
  obtain ⟨y, hy⟩ : ∃ y, drawI ds id = y := ⟨_, rfl⟩
  have HZ := Lib.hid hz
  have HQ := Lib.hid hq
  have HY := Lib.hid hy
  clear hz hq hy
  go_enter Try.func17, Try.ntmps17
  go_wp2_with fail
  refine (implDrawerOf_any _ _ _ xs _ _ _ ds flat _ S.out D.out).mono ?_
  rintro e w1 ⟨rfl, hb⟩
  rw [HZ.out, HQ.out]
  have B1 := Lib.hid hb
  have S1 := Lib.hid (S.out.below hb)
  have D1 := Lib.hid (D.out.below hb)
  clear hb
  go_wp2_with fail
  refine (indexOfDrawer_any _ _ _ ds id _ D1.out).mono ?_
  rintro e w2 ⟨rfl, hb⟩
  rw [HY.out]
  have B2 := Lib.hid (Below.then' B1.out hb)
  have S2 := Lib.hid (S1.out.below hb)
  have D2 := Lib.hid (D1.out.below hb)
  clear hb
  have none' : putB xs ds flat id = false → PutFlat_1 xs ds flat id = false ∧ PutFlat_0 xs ds flat id = [] := fun h => ⟨h, by unfold PutFlat_0; rw [h]; rfl⟩
  have NO := Lib.hid none'
  clear none'
  cases q with
  | false =>
    have E := Lib.hid (NO.out (by
      have h := HQ.out
      unfold DrawerOf_1 at h
      unfold putB looseB
      rw [Bool.and_eq_false_iff] at h
      rcases h with h | h <;> simp [h]))
    go_wp2
    go_ret2
    exact ⟨_, by rw [E.out.1]; rfl, by rw [E.out.2]; exact nil_OwnDrawerS _ _ _, B2.out⟩
  | true =>
  by_cases hz0 : ¬ z = 0
  · have E := Lib.hid (NO.out (by
      have h : ¬ holdI ds flat < 0 := fun h2 => hz0 (by rw [← HZ.out]; exact (drawerOf_loose HQ.out).2 h2)
      unfold putB looseB
      rw [decide_eq_false h]; simp))
    have hb1 : (z != 0) = true := by simpa using hz0
    go_wp2
    go_ret2
    exact ⟨_, by rw [E.out.1]; rfl, by rw [E.out.2]; exact nil_OwnDrawerS _ _ _, B2.out⟩
  have hhold := (drawerOf_loose HQ.out).1 (by rw [HZ.out]; omega)
  have HOLD := Lib.hid hhold
  obtain rfl : z = 0 := by omega
  clear hhold
  by_cases hneg : y < 0
  · have E := Lib.hid (NO.out (by
      unfold putB
      rw [HY.out, decide_eq_false (show ¬ 0 ≤ y by omega)]; simp))
    go_wp2
    go_ret2
    exact ⟨_, by rw [E.out.1]; rfl, by rw [E.out.2]; exact nil_OwnDrawerS _ _ _, B2.out⟩
  have hg : goodB xs ds = true := by have h := HQ.out; unfold DrawerOf_1 at h; rw [Bool.and_eq_true] at h; exact h.1
  have hfl : 0 ≤ flatI xs flat := by have h := HQ.out; unfold DrawerOf_1 at h; rw [Bool.and_eq_true] at h; simpa using h.2
  have G := Lib.hid (good_iff.1 hg)
  obtain ⟨i, x, hi, hx, _, hid⟩ := draw_at (ds := ds) (id := id) (by rw [HY.out]; omega)
  obtain rfl : y = (i : Int) := by rw [← HY.out, hi]
  have hloose : looseB xs ds flat = true := by unfold looseB; rw [hg, decide_eq_true hfl, decide_eq_true HOLD.out]; rfl
  have PB := Lib.hid (show putB xs ds flat id = goodB xs (ds.set i (withF x (insAt flat x.Flats))) from by
    unfold putB
    rw [hloose, HY.out, decide_eq_true (show (0 : Int) ≤ (i : Int) by omega)]
    unfold putAt setF
    rw [Int.toNat_natCast, hx]
    rfl)
  have PA := Lib.hid (show putAt ds (drawI ds id).toNat flat = ds.set i (withF x (insAt flat x.Flats)) from by
    rw [HY.out]
    unfold putAt setF
    rw [Int.toNat_natCast, hx])
  have X := Lib.hid hx
  have hil := (List.getElem?_eq_some_iff.1 hx).1
  have HD := Lib.hid (good_ids G.out hx)
  clear hneg hi hx hid hg hfl hloose
  go_wp2_with fail
  refine (copyDrawers_any _ _ _ ds _ D2.out (small_drawers G.out).1 (small_drawers G.out).2).mono ?_
  rintro e w3 ⟨v, rfl, hown, hb⟩
  obtain ⟨g, c, ps, p, rfl, hps, hraw, hp, hpx, hc1, hc2⟩ := own_some_of hown X.out
  have B3 := Lib.hid (Below.then' B2.out hb)
  have S3 := Lib.hid (S2.out.below hb)
  have R := Lib.hid hraw
  have PS := Lib.hid hps
  have KP := Lib.hid hp
  have PX := Lib.hid hpx
  have hs3 := hb.size
  have hs2 := B2.out.size
  obtain ⟨_, _, _, _, c4, _⟩ := R.out.elem KP.out
  have HI := Lib.hid (hraw.2.1 i p hp)
  have hglt := hraw.1.lt (b := g) rfl
  have i0 : (0 : Int) ≤ (i : Int) := by omega
  have i1 : (i : Int) < (ds.length : Int) := by omega
  have pzs : p.x.Flats = x.Flats := by rw [hpx]
  have PZ := Lib.hid pzs
  clear hb hown hraw hps hp hpx pzs
  go_wp2_with fail
  refine (search_any _ _ _ p.x.Flats flat _ HI.out.is.1 (by rw [PZ.out]; exact up_le HD.out.1) (by have := HI.out.is.2; rw [this, PZ.out]; have := HD.out.2; omega)).mono ?_
  rintro e w4 ⟨⟨q2, rfl⟩, hb4⟩
  have B4 := Lib.hid (Below.then' B3.out hb4)
  have S4 := Lib.hid (S3.out.below hb4)
  have R4 := Lib.hid (R.out.keep (w' := w4) fun b _ _ hs => hb4.block b hs)
  have HI4 := Lib.hid (HI.out.below hb4)
  have c5 := (hb4.cell (p := ⟨g, i * 5 + 4, none⟩) hglt.2.2).trans c4
  have hs4 := hb4.size
  clear hb4 c4
  go_wp2_with fail
  refine (insert_any w2.heap.size w3.heap.size p.h p.x.Flats (place flat p.x.Flats) flat w4 HI4.out (place_le _ _) (by rw [PZ.out]; have := HD.out.2; omega) (by omega)).mono ?_
  rintro e w5 ⟨h', rfl, H5, hblk, hg5⟩
  have SW := Lib.hid (R4.out.swap KP.out hg5 (H5 : HInts w2.heap.size w5.heap.size w5 h' _) (by have := hg5.size; omega) (fun b hb => (hblk b hb).imp (fun h => h) fun h => by omega))
  have hbp : ∀ b, p.h.blk = some b → w2.heap.size ≤ b := fun b hb => (HI4.out.lt hb).1
  have B5 := Lib.hid (B4.out.grown hg5 (by have := B4.out.size; omega) (fun b hb => by have := hbp b hb; omega))
  have f4 := SW.out.1.free (i * 5 + 4)
  have B6 := Lib.hid (B5.out.setCell (p := ⟨g, i * 5 + 4, none⟩) (by show w.heap.size ≤ g; omega) (.slice h'.a h'.n h'.c))
  have MX := Lib.hid (map_set_x ps ds i p x (p.x.Flats.take (place flat p.x.Flats) ++ flat :: p.x.Flats.drop (place flat p.x.Flats)) h' PS.out X.out KP.out)
  have EI := Lib.hid (show p.x.Flats.take (place flat p.x.Flats) ++ flat :: p.x.Flats.drop (place flat p.x.Flats) = insAt flat x.Flats from by rw [PZ.out]; exact (insAt_place (up_le HD.out.1) flat).symm)
  have g4 : w5.frozen? ⟨g, i * 5 + 4, none⟩ = false := by simpa using f4
  obtain ⟨u5, d5⟩ : ∃ u, w5.cell? ⟨g, i * 5 + 4, none⟩ = some u := ⟨_, (hg5.cell c5 (fun e => R4.out.2.2.1 i p g KP.out e.symm rfl))⟩
  have hs5 := hg5.size
  clear hblk hg5 hbp f4 c5
  have D6 := Lib.hid SW.out.1.is
  rw [MX.out, EI.out] at D6
  go_wp2_with fail
  refine (areDrawers_any _ _ _ xs _ _ _ (ds.set i (withF x (insAt flat x.Flats))) _ (S.out.below B6.out) D6.out).mono ?_
  rintro e w7 ⟨rfl, hb7⟩
  have B7 := Lib.hid (Below.then' B6.out hb7)
  have hs7 := hb7.size
  have hs6 : w5.heap.size ≤ (w5.setCell ⟨g, i * 5 + 4, none⟩ (.slice h'.a h'.n h'.c)).heap.size := by simp [World.setCell]
  have O6 : OwnDrawerS w.heap.size w7.heap.size (w5.setCell ⟨g, i * 5 + 4, none⟩ (.slice h'.a h'.n h'.c)) (.slice (some ⟨g, 0, none⟩) ds.length c) (ds.set i (withF x (insAt flat x.Flats))) :=
    ⟨_, by rw [MX.out, EI.out], SW.out.1.mono (by omega) (by omega)⟩
  have O7 := Lib.hid (O6.below hb7)
  clear O6
  clear hb7
  cases hgd : goodB xs (ds.set i (withF x (insAt flat x.Flats))) with
  | false =>
    have E := Lib.hid (NO.out (by rw [PB.out]; exact hgd))
    clear hgd
    go_wp2
    go_ret2
    exact ⟨_, by rw [E.out.1]; rfl, by rw [E.out.2]; exact nil_OwnDrawerS _ _ _, B7.out⟩
  | true =>
    have E1 := Lib.hid (show PutFlat_1 xs ds flat id = true from PB.out.trans hgd)
    have E0 := Lib.hid (show PutFlat_0 xs ds flat id = ds.set i (withF x (insAt flat x.Flats)) from by unfold PutFlat_0; rw [if_pos (PB.out.trans hgd), PA.out])
    clear hgd
    go_wp2
    go_ret2
    exact ⟨_, by rw [E1.out]; rfl, by rw [E0.out]; exact O7.out, B7.out⟩
end Go.Proofs.Ytldanejdnbfbjaa
namespace Go.Proofs.Ytldanejdnbfbjaa
open Go.RowKit

theorem own_madeD (w : World) : OwnDrawerS w.heap.size (w.heap.size + 1) (w.alloc (.cells #[] 42)) (.slice (some ⟨w.heap.size, 0, none⟩) 0 0) [] :=
  ⟨[], rfl, OwnIn.of_row (made_ownDrawer w _ (Nat.le_refl _)) (Nat.le_refl _) (by rw [size_al]; exact Nat.le_refl _), nil_InnerDrawer _ _ _ _⟩
theorem puts_none {w w1 : World} {fs : List VFlat} {ds : List VDrawer} {flat id : Int} (hb : Below w.heap.size w w1) (h : putB fs ds flat id = false) : PutFlat_Post fs ds flat id w (.returned (.tuple #[.slice (some ⟨w1.heap.size, 0, none⟩) 0 0, .bool false])) (w1.alloc (.cells #[] 42)) := by
  refine ⟨.slice (some ⟨w1.heap.size, 0, none⟩) 0 0, by rw [show PutFlat_1 fs ds flat id = false from h], ?_, Below.then' hb (bel_al1 _ _)⟩
  rw [show PutFlat_0 fs ds flat id = [] from by unfold PutFlat_0; rw [h]; rfl]
  exact (own_madeD w1).mono hb.size (by rw [size_al]; exact Nat.le_refl _)
set_option maxHeartbeats 12800000 in
set_option maxRecDepth 100000 in
theorem specPutFlat_any (a : Option Addr) (len cap : Nat) (xs : List VFlat) (a1 : Option Addr) (len1 cap1 : Nat) (ds : List VDrawer) (flat id : Int) (w : World) (h : IsFlatS w a len cap xs) (_ : condFlat xs) (h' : IsDrawerS w a1 len1 cap1 ds) (_ : condDrawer ds) :
    Calls Try.prog 18 #[.slice a len cap, .slice a1 len1 cap1, .int .i64 flat, .int .i64 id] w (PutFlat_Post xs ds flat id w) := by
  obtain rfl := h'.1
  have S := Lib.hid h
  have D := Lib.hid h'
  clear h h'
  obtain ⟨z, hz⟩ : ∃ z, flatI xs flat = z := ⟨_, rfl⟩
  obtain ⟨q, hq⟩ : ∃ q, holdI ds flat = q := ⟨_, rfl⟩
  obtain ⟨y, hy⟩ : ∃ y, drawI ds id = y := ⟨_, rfl⟩
  have HZ := Lib.hid hz
  have HQ := Lib.hid hq
  have HY := Lib.hid hy
  clear hz hq hy
  go_enter Try.func18, Try.ntmps18
  go_wp2_with fail
  refine (l5Index_any _ _ _ ds id _ D.out).mono ?_
  rintro e w1 ⟨rfl, rfl⟩
  rw [HY.out]
  go_wp2_with fail
  refine (l5Good_any _ _ _ xs _ _ _ ds _ S.out D.out).mono ?_
  rintro e w1 ⟨rfl, hb⟩
  have B1 := Lib.hid hb
  have S1 := Lib.hid (S.out.below hb)
  have D1 := Lib.hid (D.out.below hb)
  clear hb
  cases hg : goodB xs ds with
  | false =>
    have E := Lib.hid (show putB xs ds flat id = false from by unfold putB looseB; rw [hg]; simp)
    clear hg
    go_wp2
    go_ret2
    exact puts_none B1.out E.out
  | true =>
  have G := Lib.hid (good_iff.1 hg)
  by_cases hneg : y < 0
  · have E := Lib.hid (show putB xs ds flat id = false from by unfold putB; rw [HY.out, decide_eq_false (show ¬ 0 ≤ y by omega)]; simp)
    clear hg
    go_wp2
    go_ret2
    exact puts_none B1.out E.out
  go_wp2_with fail
  refine (l5Find_any _ _ _ xs flat _ S1.out).mono ?_
  rintro e w2 ⟨rfl, rfl⟩
  rw [HZ.out]
  by_cases hfz : z < 0
  · have E := Lib.hid (show putB xs ds flat id = false from by unfold putB looseB; rw [HZ.out, decide_eq_false (show ¬ 0 ≤ z by omega)]; simp)
    clear hg
    go_wp2
    go_ret2
    exact puts_none B1.out E.out
  go_wp2_with fail
  refine (l5Where_any _ _ _ ds flat _ D1.out).mono ?_
  rintro e w2 ⟨rfl, rfl⟩
  rw [HQ.out]
  by_cases hqz : 0 ≤ q
  · have E := Lib.hid (show putB xs ds flat id = false from by unfold putB looseB; rw [HQ.out, decide_eq_false (show ¬ q < 0 by omega)]; simp)
    clear hg
    go_wp2
    go_ret2
    exact puts_none B1.out E.out
  have LO := Lib.hid (show looseB xs ds flat = true from by unfold looseB; rw [hg, HZ.out, HQ.out, decide_eq_true (show 0 ≤ z by omega), decide_eq_true (show q < 0 by omega)]; rfl)
  obtain ⟨i, x, hi, hx, _, hid⟩ := draw_at (ds := ds) (id := id) (by rw [HY.out]; omega)
  obtain rfl : y = (i : Int) := by rw [← HY.out, hi]
  have hil := (List.getElem?_eq_some_iff.1 hx).1
  have HD := Lib.hid (good_ids G.out hx)
  have NEW := Lib.hid (show putL flat x.Flats = insAt flat x.Flats from putL_new (hold_neg.1 (by rw [HQ.out]; omega) x (List.mem_of_getElem? hx)))
  have PA := Lib.hid (show putAt ds (drawI ds id).toNat flat = ds.set i (withF x (insAt flat x.Flats)) from by
    rw [HY.out]
    unfold putAt setF
    rw [Int.toNat_natCast, hx])
  have PB := Lib.hid (show putB xs ds flat id = goodB xs (ds.set i (withF x (insAt flat x.Flats))) from by
    unfold putB
    rw [PA.out, LO.out, HY.out, decide_eq_true (show (0 : Int) ≤ (i : Int) by omega)]
    rfl)
  have X := Lib.hid hx
  obtain ⟨b, o, rfl, hb, hat⟩ := D1.out.at (by omega)
  obtain ⟨hd, c0, c1, c2, c3, c4, hin⟩ := hat i x hx
  have HI := Lib.hid hin
  have i0 : (0 : Int) ≤ (i : Int) := by omega
  have i1 : (i : Int) < (ds.length : Int) := by omega
  clear hat hin hx hi hg c0 c1 c2 c3
  go_wp2_with fail
  refine (l1Put_any _ _ _ x.Flats flat _ HI.out (by have := HD.out.2; omega)).mono ?_
  rintro e w3 ⟨h3, rfl, hi3, hb3⟩
  rw [NEW.out] at hi3
  have I3 := Lib.hid hi3
  have B3 := Lib.hid (Below.then' B1.out hb3)
  have S3 := Lib.hid (S1.out.below hb3)
  have D3 := Lib.hid (D1.out.below hb3)
  clear hb3 hi3 c4
  have hsm := small_drawers G.out
  go_wp2_with fail
  refine (l5With_any _ _ _ ds (i : Int) _ _ _ (insAt flat x.Flats) _ D3.out I3.out hsm.1 hsm.2 (by rw [insAt_len]; have := HD.out.2; omega)).mono ?_
  rintro e w4 ⟨v, rfl, hown, hb4⟩
  rw [withAt_set X.out] at hown
  obtain ⟨a4, c4, e4⟩ := hown.form
  rw [List.length_set] at e4
  subst e4
  have D4 := Lib.hid hown.is
  have O4 := Lib.hid hown
  have B4 := Lib.hid (Below.then' B3.out hb4)
  have S4 := Lib.hid (S3.out.below hb4)
  have hs3 := B3.out.size
  clear hb4 hown
  go_wp2_with fail
  refine (l5Good_any _ _ _ xs _ _ _ (ds.set i (withF x (insAt flat x.Flats))) _ S4.out D4.out).mono ?_
  rintro e w5 ⟨rfl, hb5⟩
  have B5 := Lib.hid (Below.then' B4.out hb5)
  have O5 := Lib.hid ((O4.out.below hb5).mono hs3 hb5.size)
  clear hb5
  cases hgd : goodB xs (ds.set i (withF x (insAt flat x.Flats))) with
  | false =>
    have E := Lib.hid (PB.out.trans hgd)
    clear hgd
    go_wp2
    go_ret2
    exact puts_none B5.out E.out
  | true =>
    have E1 := Lib.hid (show PutFlat_1 xs ds flat id = true from PB.out.trans hgd)
    have E0 := Lib.hid (show PutFlat_0 xs ds flat id = ds.set i (withF x (insAt flat x.Flats)) from by unfold PutFlat_0; rw [if_pos (PB.out.trans hgd), PA.out])
    clear hgd
    go_wp2
    go_ret2
    exact ⟨_, by rw [E1.out]; rfl, by rw [E0.out]; exact O5.out, B5.out⟩
end Go.Proofs.Ytldanejdnbfbjaa
namespace Go.Proofs.Ytldanejdnbfbjaa
open Go.RowKit

theorem own_madeT (w : World) : OwnDrawerS w.heap.size (w.heap.size + 1) (w.alloc (.cells #[] 42)) (.slice (some ⟨w.heap.size, 0, none⟩) 0 0) [] :=
  ⟨[], rfl, OwnIn.of_row (made_ownDrawer w _ (Nat.le_refl _)) (Nat.le_refl _) (by rw [size_al]; exact Nat.le_refl _), nil_InnerDrawer _ _ _ _⟩
theorem takes_none {w w1 : World} {fs : List VFlat} {ds : List VDrawer} {flat : Int} (hb : Below w.heap.size w w1) (h : TakeFlat_1 fs ds flat = false) : TakeFlat_Post fs ds flat w (.returned (.tuple #[.slice (some ⟨w1.heap.size, 0, none⟩) 0 0, .bool false])) (w1.alloc (.cells #[] 42)) := by
  refine ⟨.slice (some ⟨w1.heap.size, 0, none⟩) 0 0, by rw [h], ?_, Below.then' hb (bel_al1 _ _)⟩
  rw [show TakeFlat_0 fs ds flat = [] from by unfold TakeFlat_0; rw [h]; rfl]
  exact (own_madeT w1).mono hb.size (by rw [size_al]; exact Nat.le_refl _)
theorem without_more {zs : List Int} {k : Nat} {z : Int} (flat : Int) (hz : zs[k]? = some z) : without flat (zs.take (k + 1)) = without flat (zs.take k) ++ (if z = flat then [] else [z]) := by
  unfold without
  rw [List.take_add_one, hz, List.filter_append]
  congr 1
  by_cases e : z = flat <;> simp [e]
theorem without_len (flat : Int) (zs : List Int) : (without flat zs).length ≤ zs.length := List.length_filter_le _ _
set_option maxHeartbeats 12800000 in
set_option maxRecDepth 100000 in
theorem specTakeFlat_any (a : Option Addr) (len cap : Nat) (xs : List VFlat) (a1 : Option Addr) (len1 cap1 : Nat) (ds : List VDrawer) (flat : Int) (w : World) (h : IsFlatS w a len cap xs) (_ : condFlat xs) (h' : IsDrawerS w a1 len1 cap1 ds) (_ : condDrawer ds) :
    Calls Try.prog 49 #[.slice a len cap, .slice a1 len1 cap1, .int .i64 flat] w (TakeFlat_Post xs ds flat w) := by
  obtain rfl := h'.1
  obtain ⟨i0, hi, hz0, hz1, hz2⟩ := info_parts infoInt
  have hdm := h'.2.2.1
  have hdc := h'.2.1
  unfold maxLen at hdm
  have S := Lib.hid h
  have D := Lib.hid h'
  clear h h'
  obtain ⟨q, hq⟩ : ∃ q, holdI ds flat = q := ⟨_, rfl⟩
  have HQ := Lib.hid hq
  clear hq
  go_enter Try.func49, Try.ntmps49
  go_wp2_with fail
  refine (l5Where_any _ _ _ ds flat _ D.out).mono ?_
  rintro e w1 ⟨rfl, rfl⟩
  rw [HQ.out]
  go_wp2_with fail
  refine (l5Good_any _ _ _ xs _ _ _ ds _ S.out D.out).mono ?_
  rintro e w1 ⟨rfl, hb⟩
  have B1 := Lib.hid hb
  have S1 := Lib.hid (S.out.below hb)
  have D1 := Lib.hid (D.out.below hb)
  clear hb
  cases hg : goodB xs ds with
  | false =>
    have E := Lib.hid (show TakeFlat_1 xs ds flat = false from by unfold TakeFlat_1; rw [hg]; rfl)
    clear hg
    go_wp2
    go_ret2
    exact takes_none B1.out E.out
  | true =>
  have G := Lib.hid (good_iff.1 hg)
  by_cases hneg : q < 0
  · have E := Lib.hid (show TakeFlat_1 xs ds flat = false from by unfold TakeFlat_1; rw [HQ.out, decide_eq_false (show ¬ 0 ≤ q by omega)]; simp)
    clear hg
    go_wp2
    go_ret2
    exact takes_none B1.out E.out
  have E1 := Lib.hid (show TakeFlat_1 xs ds flat = true from by unfold TakeFlat_1; rw [hg, HQ.out, decide_eq_true (show 0 ≤ q by omega)]; rfl)
  obtain ⟨i, x, hii, hx, _, _⟩ := hold_at (ds := ds) (id := flat) (by rw [HQ.out]; omega)
  obtain rfl : q = (i : Int) := by rw [← HQ.out, hii]
  have E0 := Lib.hid (show TakeFlat_0 xs ds flat = ds.set i (withF x (without flat x.Flats)) from by
    unfold TakeFlat_0
    rw [if_pos E1.out, HQ.out, Int.toNat_natCast]
    unfold setF
    rw [hx])
  have hil := (List.getElem?_eq_some_iff.1 hx).1
  have HD := Lib.hid (good_ids G.out hx)
  have X := Lib.hid hx
  have ii0 : (0 : Int) ≤ (i : Int) := by omega
  have ii1 : (i : Int) < (ds.length : Int) := by omega
  have hsm := small_drawers G.out
  obtain ⟨b, o, rfl, hb, hat⟩ := D1.out.at (by omega)
  obtain ⟨hd, hat⟩ := hat i x hx
  have AT := Lib.hid hat
  have hdl := hat.2.2.2.2.2.1
  have hdc1 := hat.2.2.2.2.2.2.1
  have hdm1 := hat.2.2.2.2.2.2.2.1
  unfold maxLen at hdm1
  have hd12 := HD.out.2
  have O0 := Lib.hid (made_ownInt w1)
  clear hat hx hii hg
  go_wp2
  go_loopw [10, 9] (fun k' v wr => ∃ k : Nat, k ≤ x.Flats.length ∧ k' = .int .i64 k ∧ wr.ownsRow w1.heap.size 3 1 v (without flat (x.Flats.take k)).length (intCells (without flat (x.Flats.take k))) ∧ Below w1.heap.size w1 wr) (fun k' _ _ => x.Flats.length - (intOf k').toNat)
  case atStart => exact ⟨0, Nat.zero_le _, rfl, O0.out, bel_al1 _ _⟩
  case round =>
    obtain ⟨k, hk, rfl, hown, hbel⟩ := hrel
    have B := Lib.hid hbel
    have ATW := Lib.hid (AT.out.below hbel hb)
    obtain ⟨c0, c1, c2, c3, c4, hin⟩ := ATW.out
    have k0 : (0 : Int) ≤ (k : Int) := by omega
    by_cases hlt : k < x.Flats.length
    · obtain ⟨z, hz⟩ : ∃ z, x.Flats[k]? = some z := ⟨x.Flats[k]'hlt, List.getElem?_eq_getElem _⟩
      obtain ⟨b', o', he, hb', hat'⟩ := hin.at (by omega)
      rw [he] at c4
      have d0 := hat' k z hz
      have k1 : (k : Int) < (hd.n : Int) := by omega
      have W := Lib.hid (without_more flat hz)
      have WL := without_len flat (x.Flats.take k)
      rw [List.length_take] at WL
      obtain ⟨Gs, hGs⟩ : ∃ Gs, without flat (x.Flats.take k) = Gs := ⟨_, rfl⟩
      rw [hGs] at hown W WL
      have O := Lib.hid hown
      have hsz := hbel.size
      clear hz hat' hin hbel hGs hown c0 c1 c2 c3
      by_cases hzf : z = flat
      · have hb1 : (z != flat) = false := by simpa using hzf
        go_wp2
        go_roundw
        case rel => exact ⟨k + 1, by omega, by go_num, by rw [W.out, if_pos hzf, List.append_nil]; exact O.out, B.out⟩
        case measure => simp [intOf]; omega
      · have hb1 : (z != flat) = true := by simpa using hzf
        have hown3 := O.out.alloc (.cells #[.int .i64 z] 3)
        go_wp2_with (at_builtin; refine wpList_append_own _ rfl _ _ 31 rfl w1.heap.size 3 i0 (.int .i64 0) 1 8 Try.underlying31 hi hz0 hz1 hz2 rfl (by decide) _ _ _ rfl hown3 ⟨wr.heap.size, 0, none⟩ 1 1 [.int .i64 z] rfl rfl (cell_one _ _ _) (fun x hx => by simp at hx; subst hx; rfl) (by unfold maxLen; omega) (by omega) (by simp; omega) ?_; intro v' w4 hown' hgrow4 hnil4)
        go_roundw
        case rel =>
          refine ⟨k + 1, by omega, by go_num, ?_, (Below.then' B.out (bel_al1 _ _)).grown hgrow4 (by simp; omega) (fun j e => (hown3.lt j e).1)⟩
          rw [W.out, if_neg hzf, intCells_snoc, List.length_append]
          exact hown'
        case measure => simp [intOf]; omega
    · obtain rfl : k = x.Flats.length := by omega
      rw [List.take_of_length_le (Nat.le_refl _)] at hown
      have hsz := hbel.size
      obtain ⟨a4, n4, e4, hi4, _⟩ := isInts_own hown
      subst e4
      have I4 := Lib.hid hi4
      have D4 := Lib.hid (D1.out.below hbel)
      have BB := Lib.hid (Below.then' B1.out hbel)
      have hs1 := B1.out.size
      clear hbel hown hi4 hin c0 c1 c2 c3
      go_wp2_with fail
      refine (l5With_any _ _ _ ds (i : Int) _ _ _ (without flat x.Flats) _ D4.out I4.out hsm.1 hsm.2 (by have := without_len flat x.Flats; omega)).mono ?_
      rintro e w5 ⟨v, rfl, hown, hb5⟩
      rw [withAt_set X.out] at hown
      have O5 := Lib.hid (hown.mono (Nat.le_trans hs1 hsz) (Nat.le_refl _))
      have B5 := Lib.hid (Below.then' BB.out hb5)
      clear hown hb5
      go_wp2
      go_ret2
      exact ⟨v, by rw [E1.out]; rfl, by rw [E0.out]; exact O5.out, B5.out⟩
end Go.Proofs.Ytldanejdnbfbjaa
namespace Go.Proofs.Ytldanejdnbfbjaa
open Go.RowKit

set_option maxHeartbeats 12800000 in
set_option maxRecDepth 100000 in
theorem implTakeFlat_any (a : Option Addr) (len cap : Nat) (xs : List VFlat) (a1 : Option Addr) (len1 cap1 : Nat) (ds : List VDrawer) (flat : Int) (w : World) (h : IsFlatS w a len cap xs) (h' : IsDrawerS w a1 len1 cap1 ds) :
    Calls Try.prog 26 #[.slice a len cap, .slice a1 len1 cap1, .int .i64 flat] w (TakeFlat_Post xs ds flat w) := by
  have b0 := bel_al1 w (.cells #[.int .i64 flat] 3)
  have S := Lib.hid (h.below b0)
  have D := Lib.hid (h'.below b0)
  have B0 := Lib.hid b0
  have C0 := Lib.hid (cell_box w (.int .i64 flat) 3 _ rfl)
  have hs0 : w.heap.size + 1 = (w.alloc (.cells #[.int .i64 flat] 3)).heap.size := (size_al _ _).symm
  have Z0 := Lib.hid hs0
  clear h h' b0 hs0
  obtain ⟨z, hz⟩ : ∃ z, DrawerOf_0 xs ds flat = z := ⟨_, rfl⟩
  obtain ⟨q, hq⟩ : ∃ q, DrawerOf_1 xs ds flat = q := ⟨_, rfl⟩
  have HZ := Lib.hid hz
  have HQ := Lib.hid hq
  clear hz hq
  go_enter Try.func26, Try.ntmps26
  go_wp2_with fail
  refine (implDrawerOf_any _ _ _ xs _ _ _ ds flat _ S.out D.out).mono ?_
  rintro e w1 ⟨rfl, hb⟩
  rw [HZ.out, HQ.out]
  have B1 := Lib.hid (Below.then' B0.out hb)
  have D1 := Lib.hid (D.out.below hb)
  have C1 := Lib.hid (cell_stay C0.out hb)
  have hs1 : w.heap.size + 1 ≤ w1.heap.size := by rw [Z0.out]; exact hb.size
  clear hb
  have NO := Lib.hid (show TakeFlat_1 xs ds flat = false → TakeFlat_1 xs ds flat = false ∧ TakeFlat_0 xs ds flat = [] from fun h => ⟨h, by unfold TakeFlat_0; rw [h]; rfl⟩)
  cases q with
  | false =>
    have E := Lib.hid (NO.out (by
      have h := HQ.out
      unfold DrawerOf_1 at h
      unfold TakeFlat_1
      rw [Bool.and_eq_false_iff] at h ⊢
      rcases h with h | h
      · exact .inl h
      · by_cases hg : goodB xs ds = true
        · refine .inr (decide_eq_false fun h2 => ?_)
          obtain ⟨i, d, _, h3, _, h4⟩ := hold_at h2
          obtain ⟨f, h5, _⟩ := good_has (good_iff.1 hg) h3 h4
          have := flat_of h5
          simp at h
          omega
        · exact .inl (by simpa using hg)))
    go_wp2
    go_ret2
    exact ⟨_, by rw [E.out.1]; rfl, by rw [E.out.2]; exact nil_OwnDrawerS _ _ _, B1.out⟩
  | true =>
  by_cases hz0 : z = 0
  · have E := Lib.hid (NO.out (by
      have h := (drawerOf_loose HQ.out).1 (by rw [HZ.out]; exact hz0)
      unfold TakeFlat_1
      rw [decide_eq_false (by omega)]; simp))
    subst hz0
    go_wp2
    go_ret2
    exact ⟨_, by rw [E.out.1]; rfl, by rw [E.out.2]; exact nil_OwnDrawerS _ _ _, B1.out⟩
  have hhold : 0 ≤ holdI ds flat := by
    by_cases h : 0 ≤ holdI ds flat
    · exact h
    · exact absurd (by rw [← HZ.out]; exact (drawerOf_loose HQ.out).2 (by omega)) hz0
  have hb1 : (z == 0) = false := by simpa using hz0
  have hg : goodB xs ds = true := by have h := HQ.out; unfold DrawerOf_1 at h; rw [Bool.and_eq_true] at h; exact h.1
  have G := Lib.hid (good_iff.1 hg)
  obtain ⟨i, x, hi, hx, hf, hm⟩ := hold_at hhold
  have hzx : z = x.Id := by
    rw [← HZ.out]
    unfold DrawerOf_0
    rw [if_pos HQ.out, hf]
  have DI := Lib.hid (show drawI ds z = (i : Int) from by rw [hzx]; exact draw_up G.out.up hx)
  have E1 := Lib.hid (show TakeFlat_1 xs ds flat = true from by unfold TakeFlat_1; rw [hg, decide_eq_true hhold]; rfl)
  have E0 := Lib.hid (show TakeFlat_0 xs ds flat = ds.set i (withF x (without flat x.Flats)) from by
    unfold TakeFlat_0
    rw [if_pos E1.out, hi]
    unfold setF
    rw [Int.toNat_natCast, hx])
  have X := Lib.hid hx
  have hil := (List.getElem?_eq_some_iff.1 hx).1
  have HD := Lib.hid (good_ids G.out hx)
  have NE := Lib.hid (show x.Flats ≠ [] from fun e => by rw [e] at hm; simp at hm)
  clear hi hx hf hm hg hhold hzx
  go_wp2_with fail
  refine (copyDrawers_any _ _ _ ds _ D1.out (small_drawers G.out).1 (small_drawers G.out).2).mono ?_
  rintro e w3 ⟨v, rfl, hown, hb⟩
  obtain ⟨g, c, ps, p, rfl, hps, hraw, hp, hpx, hc1, hc2⟩ := own_some_of hown X.out
  have B3 := Lib.hid (Below.then' B1.out hb)
  have D3 := Lib.hid (D1.out.below hb)
  have C3 := Lib.hid (cell_stay C1.out hb)
  have R := Lib.hid hraw
  have PS := Lib.hid hps
  have KP := Lib.hid hp
  have PX := Lib.hid hpx
  have hs3 := hb.size
  have i0 : (0 : Int) ≤ (i : Int) := by omega
  have i1 : (i : Int) < (ds.length : Int) := by omega
  have PZ := Lib.hid (show p.x.Flats = x.Flats from by rw [hpx])
  clear hb hown hraw hps hp hpx
  go_wp2_with fail
  refine (indexOfDrawer_any _ _ _ ds z _ D3.out).mono ?_
  rintro e w4 ⟨rfl, hb⟩
  rw [DI.out]
  have B4 := Lib.hid (Below.then' B3.out hb)
  have R4 := Lib.hid (R.out.keep (w' := w4) fun b _ _ hs => hb.block b hs)
  have c4 := cell_stay C3.out hb
  have C4 := Lib.hid c4
  have hs4 := hb.size
  obtain ⟨_, _, _, _, c5, _⟩ := R4.out.elem KP.out
  have HI4 := Lib.hid (R4.out.2.1 i p KP.out)
  have hglt := R4.out.1.lt (b := g) rfl
  clear hb
  go_wp2_with fail
  refine (delete_any w1.heap.size w3.heap.size p.h p.x.Flats flat w.heap.size w4 HI4.out (by rw [PZ.out]; exact NE.out) (by rw [PZ.out]; have := HD.out.2; omega) C4.out (fun e => by have := HI4.out.lt e; omega)).mono ?_
  rintro e w5 ⟨h', rfl, H5, hblk, hg5⟩
  have SW := Lib.hid (R4.out.swap KP.out hg5 H5 (Nat.le_refl _) (fun b hb => .inl (hblk ▸ hb)))
  have hbp : ∀ b, p.h.blk = some b → w1.heap.size ≤ b := fun b hb => (HI4.out.lt hb).1
  have B5 := Lib.hid (B4.out.grown hg5 (by have := B4.out.size; omega) (fun b hb => by have := hbp b hb; omega))
  have f4 := SW.out.1.free (i * 5 + 4)
  have B6 := Lib.hid (B5.out.setCell (p := ⟨g, i * 5 + 4, none⟩) (by show w.heap.size ≤ g; omega) (.slice h'.a h'.n h'.c))
  have MX := Lib.hid (map_set_x ps ds i p x (without flat p.x.Flats) h' PS.out X.out KP.out)
  have g4 : w5.frozen? ⟨g, i * 5 + 4, none⟩ = false := by simpa using f4
  obtain ⟨u5, d5⟩ : ∃ u, w5.cell? ⟨g, i * 5 + 4, none⟩ = some u := ⟨_, (hg5.cell c5 (fun e => R4.out.2.2.1 i p g KP.out e.symm rfl))⟩
  have hs5 := hg5.size
  have hs6 : w5.heap.size ≤ (w5.setCell ⟨g, i * 5 + 4, none⟩ (.slice h'.a h'.n h'.c)).heap.size := by simp [World.setCell]
  have O6 := Lib.hid (⟨_, by rw [MX.out, PZ.out], SW.out.1.mono (by omega) (by omega)⟩ : OwnDrawerS w.heap.size (w5.setCell ⟨g, i * 5 + 4, none⟩ (.slice h'.a h'.n h'.c)).heap.size (w5.setCell ⟨g, i * 5 + 4, none⟩ (.slice h'.a h'.n h'.c)) (.slice (some ⟨g, 0, none⟩) ds.length c) (ds.set i (withF x (without flat x.Flats))))
  clear hblk hg5 hbp f4 c5 c4
  go_wp2
  go_ret2
  exact ⟨_, by rw [E1.out]; rfl, by rw [E0.out]; exact O6.out, B6.out⟩
end Go.Proofs.Ytldanejdnbfbjaa
namespace Go.Proofs.Ytldanejdnbfbjaa
open Go.RowKit
theorem cnt_small {ds : List VDrawer} (h : ∀ x ∈ ds, x.Flats.length ≤ 13) : cntDrawer ds ≤ ds.length * 17 := by
  induction ds with
  | nil => simp [cntDrawer]
  | cons d l ih =>
    have h1 := ih fun x hx => h x (List.mem_cons_of_mem _ hx)
    have h2 := h d List.mem_cons_self
    have h3 : cntDrawer (d :: l) = cntDrawer [d] + cntDrawer l := cntDrawer_app [d] l
    have h4 : cntDrawer [d] = 4 + d.Flats.length := by simp [cntDrawer]
    rw [h3, h4, List.length_cons]
    omega
theorem set_small {fs : List VFlat} {ds : List VDrawer} (G : Good fs ds) {i : Nat} {x : VDrawer} (_ : ds[i]? = some x) {zs : List Int} (hz : zs.length ≤ 13) : cntDrawer (ds.set i (withF x zs)) ≤ 1000000 := by
  have h1 := cnt_small (ds := ds.set i (withF x zs)) (fun y hy => by
    rcases List.mem_or_eq_of_mem_set hy with h | rfl
    · obtain ⟨j, hj⟩ := List.getElem?_of_mem h
      have := (good_ids G hj).2
      omega
    · exact hz)
  rw [List.length_set] at h1
  have := (small_drawers G).1
  omega
theorem TakeFlat_0_cnt (xs : List VFlat) (ds : List VDrawer) (flat : Int) (_ : condFlat xs) (_ : condDrawer ds) : cntDrawer (TakeFlat_0 xs ds flat) ≤ 1000000 := by
  unfold TakeFlat_0
  split
  · have h := ‹TakeFlat_1 xs ds flat = true›
    unfold TakeFlat_1 at h
    rw [Bool.and_eq_true, decide_eq_true_eq] at h
    have G := good_iff.1 h.1
    obtain ⟨i, x, hi, hx, _⟩ := hold_at h.2
    rw [hi, Int.toNat_natCast]
    unfold setF
    rw [hx]
    exact set_small G hx (by have := without_len flat x.Flats; have := (good_ids G hx).2; omega)
  · simp [cntDrawer]
theorem PutFlat_0_cnt (xs : List VFlat) (ds : List VDrawer) (flat id : Int) (_ : condFlat xs) (_ : condDrawer ds) : cntDrawer (PutFlat_0 xs ds flat id) ≤ 1000000 := by
  unfold PutFlat_0
  split
  · have h := ‹putB xs ds flat id = true›
    unfold putB looseB at h
    simp only [Bool.and_eq_true, decide_eq_true_eq] at h
    have G := good_iff.1 h.1.1
    obtain ⟨i, x, hi, hx, _⟩ := draw_at h.2.1
    rw [hi, Int.toNat_natCast]
    unfold putAt setF
    rw [hx]
    exact set_small G hx (by rw [insAt_len]; have := (good_ids G hx).2; omega)
  · simp [cntDrawer]
end Go.Proofs.Ytldanejdnbfbjaa
namespace Go.Proofs.Ytldanejdnbfbjaa
open Go.RowKit Go.ChangeShapes

/-- Each variable of the list is of a type that can be read. -/
def varsOkB (P : Program) (ns : List String) : Bool := ns.all fun n => match P.globalNamed n with
  | some g => (match (P.globals[g]?).map (·.type) with | some t => P.readableRec t && decide (t < P.types.size) | none => true)
  | none => true
theorem var?_below {P : Program} {w w' : World} {n : String} {cs : Array Value} (h : w.var? P n = some cs) (hb : Below w.heap.size w w') : w'.var? P n = some cs := by
  unfold World.var? at *
  rw [Option.bind_eq_some_iff] at *
  obtain ⟨g, hg, h2⟩ := h
  refine ⟨g, hg, ?_⟩
  by_cases hl : g < w.heap.size
  · rw [hb.block g hl]; exact h2
  · rw [Array.getElem?_eq_none (by omega)] at h2; cases h2
theorem trodVars_below {H : Type} {enc : TypeId × Value → H} {P : Program} (hl : laidOutB P = true) {W W' : World} (hb : Below W.heap.size W W') :
    ∀ {ns : List String} {gs : List (DataW H)} {q : List MemPlace}, varsOkB P ns = true → DataW.TrodVars enc P W (fun _ => true) ns gs q → ∃ q', DataW.TrodVars enc P W' (fun b => decide (b < W.heap.size)) ns gs q'
  | [], [], q, _, h => ⟨[], rfl⟩
  | n :: ns, d :: ds, _, hok, ⟨g, t, cs, fuel, p, q, h1, h2, h3, h4, hs, e⟩ => by
    unfold varsOkB at hok
    simp only [List.all_cons, Bool.and_eq_true] at hok
    obtain ⟨hk, hks⟩ := hok
    rw [h1] at hk
    simp only [h2, Bool.and_eq_true, decide_eq_true_eq] at hk
    obtain ⟨q', hq'⟩ := trodVars_below hl hb (ns := ns) hks hs
    have hlt : ∀ x ∈ p, x.block < W.heap.size := DataW.trod_lt fuel _ _ _ h4
    refine ⟨MemPlace.row ⟨g, 0, none⟩ cs.size ++ p ++ q', g, t, cs, fuel, p, q', h1, h2, var?_below h3 hb, ?_, hq', rfl⟩
    exact DataW.trod_stays (kids_book hl hk.1) (book_sized hk.1) (fun h => by cases h) ⟨hk.2, book_self t⟩ h4 (fun x hx => hb.same (hlt x hx)) (fun x hx => by simpa using hlt x hx)
end Go.Proofs.Ytldanejdnbfbjaa
