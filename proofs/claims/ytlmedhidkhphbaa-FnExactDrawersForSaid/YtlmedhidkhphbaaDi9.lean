/- DrawersFor, in the program. -/
import Derived.Test.YtlmedhidkhphbaaM9
import Derived.Test.YtlmedhidkhphbaaDrawersForP
namespace Go.Proofs.Ytlmedhidkhphbaa
open Go.RowKit

set_option maxHeartbeats 6400000 in
set_option maxRecDepth 100000 in
theorem canPut_any (a : Option Addr) (len cap : Nat) (xs : List VFlat) (a1 : Option Addr) (len1 cap1 : Nat) (ds : List VDrawer) (flat : Int) (B1 B2 B3 : Nat) (s : VDrawer) (hd : Hd) (w : World) (h : IsFlatS w a len cap xs) (h' : IsDrawerS w a1 len1 cap1 ds)
    (c1 : w.cell? ⟨B1, 0, none⟩ = some (.slice a len cap)) (c2 : w.cell? ⟨B2, 0, none⟩ = some (.slice a1 len1 cap1)) (c3 : w.cell? ⟨B3, 0, none⟩ = some (.int .i64 flat)) :
    Calls Try.prog 75 #[.agg #[.int .i64 s.Id, .int .i64 s.Wide, .int .i64 s.High, .int .i64 s.Holds, .slice hd.a hd.n hd.c], .pointer (some ⟨B1, 0, none⟩), .pointer (some ⟨B2, 0, none⟩), .pointer (some ⟨B3, 0, none⟩)] w fun e w' => e = .returned (.bool (putB xs ds flat s.Id)) ∧ Below w.heap.size w w' := by
  have bw := bel_al1 w (.cells #[.int .i64 s.Id, .int .i64 s.Wide, .int .i64 s.High, .int .i64 s.Holds, .slice hd.a hd.n hd.c] 42)
  have S := Lib.hid (h.below bw)
  have D := Lib.hid (h'.below bw)
  have e1 := (bw.cell (World.lt_of_cell c1)).trans c1
  have e2 := (bw.cell (World.lt_of_cell c2)).trans c2
  have e3 := (bw.cell (World.lt_of_cell c3)).trans c3
  have BW := Lib.hid bw
  clear h h' bw c1 c2 c3
  go_enter Try.func75, Try.ntmps75
  go_wp2_with fail
  refine (implPutFlat_any _ _ _ xs _ _ _ ds flat s.Id _ S.out D.out).mono ?_
  rintro e w1 ⟨v, rfl, hown, hb⟩
  have B4 := Lib.hid (Below.then' BW.out hb)
  have P := Lib.hid (show PutFlat_1 xs ds flat s.Id = putB xs ds flat s.Id from rfl)
  rw [P.out]
  clear hown hb
  go_wp2
  go_ret
  exact ⟨rfl, B4.out⟩
set_option maxHeartbeats 12800000 in
set_option maxRecDepth 100000 in
theorem implDrawersFor_any (a : Option Addr) (len cap : Nat) (xs : List VFlat) (a1 : Option Addr) (len1 cap1 : Nat) (ds : List VDrawer) (flat : Int) (w : World) (h : IsFlatS w a len cap xs) (h' : IsDrawerS w a1 len1 cap1 ds) :
    Calls Try.prog 20 #[.slice a len cap, .slice a1 len1 cap1, .int .i64 flat] w (DrawersFor_Post xs ds flat w) := by
  have bw := bel_al3 w (.cells #[.slice a len cap] 24) (.cells #[.slice a1 len1 cap1] 25) (.cells #[.int .i64 flat] 3)
  have S := Lib.hid (h.below bw)
  have D := Lib.hid (h'.below bw)
  have k1 := ((bel_al2 (w.alloc (.cells #[.slice a len cap] 24)) (.cells #[.slice a1 len1 cap1] 25) (.cells #[.int .i64 flat] 3)).cell (p := ⟨w.heap.size, 0, none⟩) (by rw [size_al]; exact Nat.lt_succ_self _)).trans (cell_box w (.slice a len cap) 24 w.heap.size rfl)
  have k2 := ((bel_al1 ((w.alloc (.cells #[.slice a len cap] 24)).alloc (.cells #[.slice a1 len1 cap1] 25)) (.cells #[.int .i64 flat] 3)).cell (p := ⟨w.heap.size + 1, 0, none⟩) (by rw [size_al, size_al]; exact Nat.lt_succ_self _)).trans (cell_box (w.alloc (.cells #[.slice a len cap] 24)) (.slice a1 len1 cap1) 25 (w.heap.size + 1) (size_al _ _))
  have k3 := cell_box ((w.alloc (.cells #[.slice a len cap] 24)).alloc (.cells #[.slice a1 len1 cap1] 25)) (.int .i64 flat) 3 (w.heap.size + 2) (by rw [size_al, size_al])
  have K1 := Lib.hid k1
  have K2 := Lib.hid k2
  have K3 := Lib.hid k3
  have BW := Lib.hid bw
  obtain ⟨z, hz⟩ : ∃ z, DrawerOf_0 xs ds flat = z := ⟨_, rfl⟩
  obtain ⟨q, hq⟩ : ∃ q, DrawerOf_1 xs ds flat = q := ⟨_, rfl⟩
  have HZ := Lib.hid hz
  have HQ := Lib.hid hq
  clear h h' bw hz hq
  go_enter Try.func20, Try.ntmps20
  go_wp2_with fail
  refine (implDrawerOf_any _ _ _ xs _ _ _ ds flat _ S.out D.out).mono ?_
  rintro e w1 ⟨rfl, hb⟩
  rw [HZ.out, HQ.out]
  have B1 := Lib.hid (Below.then' BW.out hb)
  have S1 := Lib.hid (S.out.below hb)
  have D1 := Lib.hid (D.out.below hb)
  have m1 := (hb.cell (World.lt_of_cell K1.out)).trans K1.out
  have m2 := (hb.cell (World.lt_of_cell K2.out)).trans K2.out
  have m3 := (hb.cell (World.lt_of_cell K3.out)).trans K3.out
  have M1 := Lib.hid m1
  have M3 := Lib.hid m3
  clear hb k1 k2 k3 m1 m3
  have NO := Lib.hid (show looseB xs ds flat = false → DrawersFor_1 xs ds flat = false ∧ DrawersFor_0 xs ds flat = [] from fun h => ⟨h, by unfold DrawersFor_0; rw [h]; rfl⟩)
  cases q with
  | false =>
    have E := Lib.hid (NO.out (by
      have h := HQ.out
      unfold DrawerOf_1 at h
      unfold looseB
      rw [Bool.and_eq_false_iff] at h
      rcases h with h | h <;> simp [h]))
    go_wp2
    go_ret2
    exact ⟨_, by rw [E.out.1]; rfl, by rw [E.out.2]; exact nil_OwnIntS _ _ _, B1.out⟩
  | true =>
  by_cases hz0 : ¬ z = 0
  · have E := Lib.hid (NO.out (by
      have h : ¬ holdI ds flat < 0 := fun h2 => hz0 (by rw [← HZ.out]; exact (drawerOf_loose HQ.out).2 h2)
      unfold looseB
      rw [decide_eq_false h]; simp))
    have hb1 : (z != 0) = true := by simpa using hz0
    go_wp2
    go_ret2
    exact ⟨_, by rw [E.out.1]; rfl, by rw [E.out.2]; exact nil_OwnIntS _ _ _, B1.out⟩
  have hhold := (drawerOf_loose HQ.out).1 (by rw [HZ.out]; omega)
  have HOLD := Lib.hid hhold
  obtain rfl : z = 0 := by omega
  clear hhold
  have hg : goodB xs ds = true := by have h := HQ.out; unfold DrawerOf_1 at h; rw [Bool.and_eq_true] at h; exact h.1
  have hfl : 0 ≤ flatI xs flat := by have h := HQ.out; unfold DrawerOf_1 at h; rw [Bool.and_eq_true] at h; simpa using h.2
  have G := Lib.hid (good_iff.1 hg)
  have hloose : looseB xs ds flat = true := by unfold looseB; rw [hg, decide_eq_true hfl, decide_eq_true HOLD.out]; rfl
  have E1 := Lib.hid (show DrawersFor_1 xs ds flat = true from hloose)
  have E0 := Lib.hid (show DrawersFor_0 xs ds flat = (ds.filter fun d => putB xs ds flat d.Id).map VDrawer.Id from by unfold DrawersFor_0; rw [hloose]; rfl)
  clear hg hfl hloose
  go_wp2_with fail
  refine (drawersWhere_any 75 #[.pointer (some ⟨w.heap.size, 0, none⟩), .pointer (some ⟨w.heap.size + 1, 0, none⟩), .pointer (some ⟨w.heap.size + 2, 0, none⟩)] (fun d => putB xs ds flat d.Id) _ _ _ ds _ D1.out (by have := G.out.dl; omega) (enters_fn Try.func75 (by kernel_rfl) (by kernel_rfl)) (fun W s hd _ _ hbW => canPut_any a len cap xs a1 len1 cap1 ds flat w.heap.size (w.heap.size + 1) (w.heap.size + 2) s hd W (S1.out.below hbW) (D1.out.below hbW) ((hbW.cell (World.lt_of_cell M1.out)).trans M1.out) ((hbW.cell (World.lt_of_cell m2)).trans m2) ((hbW.cell (World.lt_of_cell M3.out)).trans M3.out))).mono ?_
  rintro e w2 ⟨v, rfl, hown, hb⟩
  have B2 := Lib.hid (Below.then' B1.out hb)
  have O := Lib.hid (hown.mono B1.out.size (Nat.le_refl _))
  clear hb hown
  go_wp2
  go_ret2
  exact ⟨v, by rw [E1.out]; rfl, by rw [E0.out]; exact O.out, B2.out⟩
end Go.Proofs.Ytlmedhidkhphbaa
