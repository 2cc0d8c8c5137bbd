/- The laws' draws of readers with a number, a name, a day. -/
import Derived.Test.YtidaoijpbdljbabDoorRdDr
namespace Go.Proofs.YtidaoijpbdljbabDoor
open Go.RowKit

/-- Some number. -/
def NumDrawn (bc : Nat) (a : Option Addr) (len cap t : Nat) (w : World) (e : Ending) (w' : World) : Prop := ∃ x : Int, e = .returned (.int .i64 x) ∧ CurAt w' bc a len cap t ∧ w.grownBy w' (some bc)
set_option maxHeartbeats 1600000 in
set_option maxRecDepth 100000 in
theorem drawReaderId_any (bc : Nat) (a : Option Addr) (len cap t base : Nat) (v : Value) (xs : List VReader) (w : World) (hc : CurAt w bc a len cap t) (hd : CodeAt w a len cap bc) (ht : t ≤ 800000) (hown : w.ownsRow base 36 5 v xs.length (cellsReader xs)) (hb : bc < base) (hx : xs.length ≤ 14) (hsm : ∀ s ∈ xs, s.sized) :
    Calls Tryd.prog 41 #[.pointer (some ⟨bc, 0, none⟩), v] w (NumDrawn bc a len cap (t + 6) w) := by
  have SM := Lib.hid (show ∀ s ∈ xs, s.small from fun s hs => sized_smallReader s (hsm s hs))
  obtain ⟨la, lc, rfl, hs, _⟩ := isReaderS_own hown SM.out
  have C := Lib.hid hc
  have D := Lib.hid hd
  have O := Lib.hid hown
  have hcl := hs.2.1
  have hcm := hs.2.2.1
  have hlt := hc.lt
  unfold maxLen at hcm
  clear hc hd hown hs hsm
  have amongs : ∀ W, CurAt W bc a len cap (t + 2) → CodeAt W a len cap bc → Calls Tryd.prog 57 #[.pointer (some ⟨bc, 0, none⟩), .slice (some ⟨W.heap.size, 0, none⟩) 3 3] (W.alloc (.cells #[.int .i64 0, .int .i64 1, .int .i64 500] 3)) (AmongPost bc a len cap (t + 4) 0 500 (W.alloc (.cells #[.int .i64 0, .int .i64 1, .int .i64 500] 3))) := by
    intro W hc hd
    have hl := hc.lt
    refine among_any bc a len cap _ W.heap.size 0 3 3 0 500 _ (hc.alloc _) (hd.alloc _) (by omega) (by omega) (by omega) (by omega) (by simp) ?_
    refine ints_at _ _ _ 0 500 3 _ rfl rfl ?_
    repeat (refine List.forall_mem_cons.2 ⟨⟨_, by omega, by omega, rfl⟩, ?_⟩)
    exact fun _ h => by cases h
  have AM := Lib.hid amongs
  clear amongs
  by_cases h0 : xs.length = 0
  · have b2 : xs = [] := List.length_eq_zero_iff.1 h0
    subst b2
    clear h0
    go_enter Tryd.func41, Tryd.ntmps41
    go_wp2_with fail
    refine (AM.out _ (C.out.more (by omega)) D.out).mono ?_
    rintro e w1 ⟨x, rfl, _, _, hc1, hg1⟩
    have G1 := Lib.hid (grown_trans (grow_al (World.grownBy.refl w (some bc)) _) hg1)
    have C1 := Lib.hid hc1
    clear hc1 hg1
    go_wp2
    go_ret
    exact ⟨x, rfl, C1.out.more (by omega), G1.out⟩
  · have b0 : ((xs.length : Int) == 0) = false := by simp; intro h; apply h0; rw [h]; rfl
    have b1 : ¬ (xs.length : Int) = 0 := by omega
    have b2 : ¬ xs = [] := fun h => h0 (by rw [h]; rfl)
    have hpos : 0 < xs.length := by omega
    go_enter Tryd.func41, Tryd.ntmps41
    go_wp2_with fail
    refine (one_any bc a len cap _ 10 _ C.out D.out (by omega) (by omega) (by omega)).mono ?_
    rintro e w1 ⟨b, rfl, hc1, hg1⟩
    have G1 := Lib.hid hg1
    have C1 := Lib.hid hc1
    have O1 := Lib.hid (ownsRow_grown0 O.out hg1 (by intro k e; cases e; exact hb))
    clear hc1 hg1
    cases b
    · go_wp2_with fail
      refine (pick_any bc a len cap _ xs.length _ C1.out (D.out.grown G1.out) (by omega) (by omega) (by omega)).mono ?_
      rintro e w2 ⟨p, rfl, p0, p1, hc2, hg2⟩
      obtain ⟨q, rfl⟩ := Int.eq_ofNat_of_zero_le p0
      have hq : q < xs.length := by omega
      have hown2 := ownsRow_grown0 O1.out hg2 (by intro k e; cases e; exact hb)
      obtain ⟨la', lc', e', hs2, _⟩ := isReaderS_own hown2 SM.out
      cases e'
      obtain ⟨b, o, rfl, _, hat⟩ := hs2.at hpos
      obtain ⟨c0, c1, c2, c3, c4, _⟩ := hat q _ (List.getElem?_eq_getElem hq)
      obtain ⟨s, hsq⟩ : ∃ s, xs[q] = s := ⟨_, rfl⟩
      rw [hsq] at c0 c1 c2 c3 c4
      have G2 := Lib.hid (grown_trans G1.out hg2)
      have C2 := Lib.hid hc2
      clear hc2 hg2 hown2 hs2 hat hsq O O1
      go_wp2
      go_ret
      exact ⟨s.Id, rfl, C2.out.more (by omega), G2.out⟩
    · go_wp2_with fail
      refine (AM.out _ C1.out (D.out.grown G1.out)).mono ?_
      rintro e w2 ⟨x, rfl, _, _, hc2, hg2⟩
      have G2 := Lib.hid (grown_trans (grow_al G1.out _) hg2)
      have C2 := Lib.hid hc2
      clear hc2 hg2
      go_wp2
      go_ret
      exact ⟨x, rfl, C2.out.more (by omega), G2.out⟩
/-- Some readers and two numbers. -/
def RdsTwo (w : World) (e : Ending) (w' : World) : Prop := ∃ (a : Option Addr) (cap : Nat) (xs : List VReader) (x y : Int), e = .returned (.tuple #[.slice a xs.length cap, .int .i64 x, .int .i64 y]) ∧ xs.length ≤ 14 ∧ (∀ s ∈ xs, s.sized) ∧ IsReaderS w' a xs.length cap xs ∧ Below w.heap.size w w'
/-- Some readers, a text and a number. -/
def RdsTxt (w : World) (e : Ending) (w' : World) : Prop := ∃ (a : Option Addr) (cap : Nat) (xs : List VReader) (x : ByteArray) (y : Int), e = .returned (.tuple #[.slice a xs.length cap, .string x, .int .i64 y]) ∧ xs.length ≤ 14 ∧ (∀ s ∈ xs, s.sized) ∧ x.size ≤ 4 ∧ IsReaderS w' a xs.length cap xs ∧ Below w.heap.size w w'
set_option maxHeartbeats 1600000 in
set_option maxRecDepth 100000 in
theorem drawJoinReader_any (a : Option Addr) (len cap : Nat) (w : World) (h : CodeIn w a len cap) :
    Calls Tryd.prog 6 #[.slice a len cap] w (RdsTxt w) := by
  have C := Lib.hid (cur_new w a len cap)
  have D := Lib.hid (h.at (bel_alloc w (.cells #[.slice a len cap, .int .i64 0, .int .u64 0] 51)))
  clear h
  go_enter Tryd.func6, Tryd.ntmps6
  go_wp2_with fail
  refine (readers_any _ a len cap _ _ C.out D.out (by omega)).mono ?_
  rintro e w1 ⟨v, xs, rfl, hx, hsm, hown, hc, hg⟩
  have SZ := Lib.hid (show w.heap.size < (w.alloc (.cells #[.slice a len cap, .int .i64 0, .int .u64 0] 51)).heap.size by rw [size_al]; omega)
  have s1 : w.heap.size + 1 ≤ w1.heap.size := by have := hg.size; rw [size_al] at this; exact this
  have SM := Lib.hid hsm
  have C1 := Lib.hid hc
  have D1 := Lib.hid (D.out.grown hg)
  have O1 := Lib.hid hown
  have G1 := Lib.hid (below_cur (bel_alloc w _) rfl hg)
  clear hc hg hown hsm
  go_wp2_with fail
  refine (of_any _ a len cap _ 4 w1.heap.size 0 5 5 _ (C1.out.alloc _) (D1.out.alloc _) (by omega) (by omega) (by omega) (by omega) (by simp) ?_).mono ?_
  · refine strs_at _ _ _ 4 5 _ rfl rfl ?_
    repeat (refine List.forall_mem_cons.2 ⟨⟨_, by decide, rfl⟩, ?_⟩)
    exact fun _ h => by cases h
  rintro e w2 ⟨x2, rfl, hz, hc, hg⟩
  have s2 := hg.size
  rw [size_al] at s2
  have C2 := Lib.hid hc
  have D2 := Lib.hid ((D1.out.alloc _).grown hg)
  have O2 := Lib.hid (ownsRow_grown0 (O1.out.alloc _) hg (by intro k e; cases e; exact SZ.out))
  have G2 := Lib.hid (below_cur (Below.then' G1.out (bel_alloc w1 _)) rfl hg)
  clear hc hg
  go_wp2_with fail
  refine (day3_any _ a len cap _ _ C2.out D2.out (by omega)).mono ?_
  rintro e w3 ⟨x3, rfl, _, _, hc, hg⟩
  have s3 := hg.size
  have C3 := Lib.hid hc
  have D3 := Lib.hid ((D2.out).grown hg)
  have O3 := Lib.hid (ownsRow_grown0 O2.out hg (by intro k e; cases e; exact SZ.out))
  have G3 := Lib.hid (below_cur G2.out rfl hg)
  clear hc hg
  obtain ⟨la, lc, e', hs, _⟩ := isReaderS_own O3.out (fun s hs => sized_smallReader s (SM.out s hs))
  subst e'
  have S2 := Lib.hid hs
  clear hs
  go_wp2
  go_ret3
  exact ⟨la, lc, xs, x2, x3, rfl, hx, SM.out, hz, S2.out, G3.out⟩
set_option maxHeartbeats 1600000 in
set_option maxRecDepth 100000 in
theorem drawFineReader_any (a : Option Addr) (len cap : Nat) (w : World) (h : CodeIn w a len cap) :
    Calls Tryd.prog 35 #[.slice a len cap] w (RdsTwo w) := by
  have C := Lib.hid (cur_new w a len cap)
  have D := Lib.hid (h.at (bel_alloc w (.cells #[.slice a len cap, .int .i64 0, .int .u64 0] 51)))
  clear h
  go_enter Tryd.func35, Tryd.ntmps35
  go_wp2_with fail
  refine (readers_any _ a len cap _ _ C.out D.out (by omega)).mono ?_
  rintro e w1 ⟨v, xs, rfl, hx, hsm, hown, hc, hg⟩
  have SZ := Lib.hid (show w.heap.size < (w.alloc (.cells #[.slice a len cap, .int .i64 0, .int .u64 0] 51)).heap.size by rw [size_al]; omega)
  have s1 : w.heap.size + 1 ≤ w1.heap.size := by have := hg.size; rw [size_al] at this; exact this
  have SM := Lib.hid hsm
  have C1 := Lib.hid hc
  have D1 := Lib.hid (D.out.grown hg)
  have O1 := Lib.hid hown
  have G1 := Lib.hid (below_cur (bel_alloc w _) rfl hg)
  clear hc hg hown hsm
  go_wp2_with fail
  refine (drawReaderId_any _ a len cap _ _ v xs _ C1.out D1.out (by omega) O1.out SZ.out hx SM.out).mono ?_
  rintro e w2 ⟨x2, rfl, hc, hg⟩
  have s2 := hg.size
  have C2 := Lib.hid hc
  have D2 := Lib.hid ((D1.out).grown hg)
  have O2 := Lib.hid (ownsRow_grown0 O1.out hg (by intro k e; cases e; exact SZ.out))
  have G2 := Lib.hid (below_cur G1.out rfl hg)
  clear hc hg
  go_wp2_with fail
  refine (cents3_any _ a len cap _ _ C2.out D2.out (by omega)).mono ?_
  rintro e w3 ⟨x3, rfl, _, _, hc, hg⟩
  have s3 := hg.size
  have C3 := Lib.hid hc
  have D3 := Lib.hid ((D2.out).grown hg)
  have O3 := Lib.hid (ownsRow_grown0 O2.out hg (by intro k e; cases e; exact SZ.out))
  have G3 := Lib.hid (below_cur G2.out rfl hg)
  clear hc hg
  obtain ⟨la, lc, e', hs, _⟩ := isReaderS_own O3.out (fun s hs => sized_smallReader s (SM.out s hs))
  subst e'
  have S2 := Lib.hid hs
  clear hs
  go_wp2
  go_ret3
  exact ⟨la, lc, xs, x2, x3, rfl, hx, SM.out, S2.out, G3.out⟩
set_option maxHeartbeats 1600000 in
set_option maxRecDepth 100000 in
theorem drawRaiseClass_any (a : Option Addr) (len cap : Nat) (w : World) (h : CodeIn w a len cap) :
    Calls Tryd.prog 14 #[.slice a len cap] w (RdsTwo w) := by
  have C := Lib.hid (cur_new w a len cap)
  have D := Lib.hid (h.at (bel_alloc w (.cells #[.slice a len cap, .int .i64 0, .int .u64 0] 51)))
  clear h
  go_enter Tryd.func14, Tryd.ntmps14
  go_wp2_with fail
  refine (readers_any _ a len cap _ _ C.out D.out (by omega)).mono ?_
  rintro e w1 ⟨v, xs, rfl, hx, hsm, hown, hc, hg⟩
  have SZ := Lib.hid (show w.heap.size < (w.alloc (.cells #[.slice a len cap, .int .i64 0, .int .u64 0] 51)).heap.size by rw [size_al]; omega)
  have s1 : w.heap.size + 1 ≤ w1.heap.size := by have := hg.size; rw [size_al] at this; exact this
  have SM := Lib.hid hsm
  have C1 := Lib.hid hc
  have D1 := Lib.hid (D.out.grown hg)
  have O1 := Lib.hid hown
  have G1 := Lib.hid (below_cur (bel_alloc w _) rfl hg)
  clear hc hg hown hsm
  go_wp2_with fail
  refine (drawReaderId_any _ a len cap _ _ v xs _ C1.out D1.out (by omega) O1.out SZ.out hx SM.out).mono ?_
  rintro e w2 ⟨x2, rfl, hc, hg⟩
  have s2 := hg.size
  have C2 := Lib.hid hc
  have D2 := Lib.hid ((D1.out).grown hg)
  have O2 := Lib.hid (ownsRow_grown0 O1.out hg (by intro k e; cases e; exact SZ.out))
  have G2 := Lib.hid (below_cur G1.out rfl hg)
  clear hc hg
  go_wp2_with fail
  refine (day3_any _ a len cap _ _ C2.out D2.out (by omega)).mono ?_
  rintro e w3 ⟨x3, rfl, _, _, hc, hg⟩
  have s3 := hg.size
  have C3 := Lib.hid hc
  have D3 := Lib.hid ((D2.out).grown hg)
  have O3 := Lib.hid (ownsRow_grown0 O2.out hg (by intro k e; cases e; exact SZ.out))
  have G3 := Lib.hid (below_cur G2.out rfl hg)
  clear hc hg
  obtain ⟨la, lc, e', hs, _⟩ := isReaderS_own O3.out (fun s hs => sized_smallReader s (SM.out s hs))
  subst e'
  have S2 := Lib.hid hs
  clear hs
  go_wp2
  go_ret3
  exact ⟨la, lc, xs, x2, x3, rfl, hx, SM.out, S2.out, G3.out⟩
theorem drawPayFines_any (a : Option Addr) (len cap : Nat) (w : World) (h : CodeIn w a len cap) :
    Calls Tryd.prog 11 #[.slice a len cap] w (RdsTwo w) := by
  have H := Lib.hid h
  clear h
  go_enter Tryd.func11, Tryd.ntmps11
  go_wp2_with fail
  refine (drawFineReader_any _ _ _ _ H.out).mono ?_
  rintro e w1 ⟨la, lc, xs, x, y, rfl, hx, hz, hs, hb⟩
  have S := Lib.hid hs
  have B := Lib.hid hb
  have Z := Lib.hid hz
  clear hs hb hz
  go_wp2
  go_ret3
  exact ⟨la, lc, xs, x, y, rfl, hx, Z.out, S.out, B.out⟩
end Go.Proofs.YtidaoijpbdljbabDoor
