/- The laws' draws of sheets with an id, and with a scale; whether a list of numbers is another one, and has a number. -/
import Derived.Test.YtidaoijpbdljbaaDrawSh2
namespace Go.Proofs.Ytidaoijpbdljbaa
open Go.RowKit

/-- Some number. -/
def NumDraw (bc : Nat) (a : Option Addr) (len cap t : Nat) (w : World) (e : Ending) (w' : World) : Prop := ∃ x : Int, e = .returned (.int .i64 x) ∧ CurAt w' bc a len cap t ∧ w.grownBy w' (some bc)
set_option maxHeartbeats 1600000 in
set_option maxRecDepth 100000 in
theorem sheetOf_any (bc : Nat) (a : Option Addr) (len cap t base : Nat) (v : Value) (xs : List Sh) (w : World) (hc : CurAt w bc a len cap t) (hd : CodeAt w a len cap bc) (ht : t ≤ 800000) (hown : w.ownsRow base 35 5 v xs.length (shCells xs)) (hb : bc < base) (hx : xs.length ≤ 14) :
    Calls Try.prog 52 #[.pointer (some ⟨bc, 0, none⟩), v] w (NumDraw bc a len cap (t + 6) w) := by
  obtain ⟨la, lc, rfl, hs⟩ := isSheetS_own hown
  have C := Lib.hid hc
  have D := Lib.hid hd
  have O := Lib.hid hown
  have hcl := hs.2.1
  have hcm := hs.2.2.1
  have hlt := hc.lt
  unfold maxLen at hcm
  clear hc hd hown hs
  have amongs : ∀ W, CurAt W bc a len cap (t + 2) → CodeAt W a len cap bc → Calls Try.prog 88 #[.pointer (some ⟨bc, 0, none⟩), .slice (some ⟨W.heap.size, 0, none⟩) 4 4] (W.alloc (.cells #[.int .i64 0, .int .i64 1, .int .i64 9, .int .i64 500] 3)) (AmongPost bc a len cap (t + 4) 0 500 (W.alloc (.cells #[.int .i64 0, .int .i64 1, .int .i64 9, .int .i64 500] 3))) := by
    intro W hc hd
    have hl := hc.lt
    refine among_any bc a len cap _ W.heap.size 0 4 4 0 500 _ (hc.alloc _) (hd.alloc _) (by omega) (by omega) (by omega) (by omega) (by simp) ?_
    refine ints_at _ _ _ 0 500 4 _ rfl rfl ?_
    repeat (refine List.forall_mem_cons.2 ⟨⟨_, by omega, by omega, rfl⟩, ?_⟩)
    exact fun _ h => by cases h
  have AM := Lib.hid amongs
  clear amongs
  by_cases h0 : xs.length = 0
  · have b0 : ((xs.length : Int) == 0) = true := by simp [h0]
    have b1 : (xs.length : Int) = 0 := by omega
    have b2 : xs = [] := List.length_eq_zero_iff.1 h0
    subst b2
    clear b0 b1 h0
    go_enter Try.func52, Try.ntmps52
    go_wp2_with fail
    refine (AM.out _ (C.out.more (by omega)) D.out).mono ?_
    rintro e w1 ⟨x, rfl, _, _, hc1, hg1⟩
    have G1 := Lib.hid (grown_trans (grow_alloc (World.grownBy.refl w (some bc)) _) hg1)
    have C1 := Lib.hid hc1
    clear hc1 hg1
    go_wp2
    go_ret
    exact ⟨x, rfl, C1.out.more (by omega), G1.out⟩
  · have b0 : ((xs.length : Int) == 0) = false := by simp; intro h; apply h0; rw [h]; rfl
    have b1 : ¬ (xs.length : Int) = 0 := by omega
    have b2 : ¬ xs = [] := fun h => h0 (by rw [h]; rfl)
    have hpos : 0 < xs.length := by omega
    go_enter Try.func52, Try.ntmps52
    go_wp2_with fail
    refine (one_any bc a len cap _ 10 _ C.out D.out (by omega) (by omega) (by omega)).mono ?_
    rintro e w1 ⟨b, rfl, hc1, hg1⟩
    have G1 := Lib.hid hg1
    have C1 := Lib.hid hc1
    have O1 := Lib.hid (ownsRow_grown' O.out hg1 (by intro k e; cases e; exact hb))
    clear hc1 hg1
    cases b
    · go_wp2_with fail
      refine (pick_any bc a len cap _ xs.length _ C1.out (D.out.grown G1.out) (by omega) (by omega) (by omega)).mono ?_
      rintro e w2 ⟨p, rfl, p0, p1, hc2, hg2⟩
      obtain ⟨q, rfl⟩ := Int.eq_ofNat_of_zero_le p0
      have hq : q < xs.length := by omega
      have hown2 := ownsRow_grown' O1.out hg2 (by intro k e; cases e; exact hb)
      obtain ⟨la', lc', e', hs2⟩ := isSheetS_own hown2
      cases e'
      obtain ⟨b, o, rfl, _, hat⟩ := hs2.at hpos
      obtain ⟨c0, c1, c2, c3, c4⟩ := hat q _ (List.getElem?_eq_getElem hq)
      obtain ⟨s, hsq⟩ : ∃ s, xs[q] = s := ⟨_, rfl⟩
      rw [hsq] at c0 c1 c2 c3 c4
      have G2 := Lib.hid (grown_trans G1.out hg2)
      have C2 := Lib.hid hc2
      clear hc2 hg2 hown2 hs2 hat hsq O O1
      go_wp2
      go_ret
      exact ⟨s.id, rfl, C2.out.more (by omega), G2.out⟩
    · go_wp2_with fail
      refine (AM.out _ C1.out (D.out.grown G1.out)).mono ?_
      rintro e w2 ⟨x, rfl, _, _, hc2, hg2⟩
      have G2 := Lib.hid (grown_trans (grow_alloc G1.out _) hg2)
      have C2 := Lib.hid hc2
      clear hc2 hg2
      go_wp2
      go_ret
      exact ⟨x, rfl, C2.out.more (by omega), G2.out⟩
set_option maxHeartbeats 1600000 in
set_option maxRecDepth 100000 in
theorem scaleOf_any (bc : Nat) (a : Option Addr) (len cap t base : Nat) (v : Value) (xs : List Sh) (w : World) (hc : CurAt w bc a len cap t) (hd : CodeAt w a len cap bc) (ht : t ≤ 800000) (hown : w.ownsRow base 35 5 v xs.length (shCells xs)) (hb : bc < base) (hx : xs.length ≤ 14) :
    Calls Try.prog 92 #[.pointer (some ⟨bc, 0, none⟩), v] w (NumDraw bc a len cap (t + 6) w) := by
  obtain ⟨la, lc, rfl, hs⟩ := isSheetS_own hown
  have C := Lib.hid hc
  have D := Lib.hid hd
  have O := Lib.hid hown
  have hcl := hs.2.1
  have hcm := hs.2.2.1
  have hlt := hc.lt
  unfold maxLen at hcm
  clear hc hd hown hs
  have amongs : ∀ W, CurAt W bc a len cap (t + 2) → CodeAt W a len cap bc → Calls Try.prog 88 #[.pointer (some ⟨bc, 0, none⟩), .slice (some ⟨W.heap.size, 0, none⟩) 4 4] (W.alloc (.cells #[.int .i64 25, .int .i64 50, .int .i64 9, .int .i64 501] 3)) (AmongPost bc a len cap (t + 4) 9 501 (W.alloc (.cells #[.int .i64 25, .int .i64 50, .int .i64 9, .int .i64 501] 3))) := by
    intro W hc hd
    have hl := hc.lt
    refine among_any bc a len cap _ W.heap.size 0 4 4 9 501 _ (hc.alloc _) (hd.alloc _) (by omega) (by omega) (by omega) (by omega) (by simp) ?_
    refine ints_at _ _ _ 9 501 4 _ rfl rfl ?_
    repeat (refine List.forall_mem_cons.2 ⟨⟨_, by omega, by omega, rfl⟩, ?_⟩)
    exact fun _ h => by cases h
  have AM := Lib.hid amongs
  clear amongs
  by_cases h0 : xs.length = 0
  · have b0 : ((xs.length : Int) == 0) = true := by simp [h0]
    have b1 : (xs.length : Int) = 0 := by omega
    have b2 : xs = [] := List.length_eq_zero_iff.1 h0
    subst b2
    clear b0 b1 h0
    go_enter Try.func92, Try.ntmps92
    go_wp2_with fail
    refine (AM.out _ (C.out.more (by omega)) D.out).mono ?_
    rintro e w1 ⟨x, rfl, _, _, hc1, hg1⟩
    have G1 := Lib.hid (grown_trans (grow_alloc (World.grownBy.refl w (some bc)) _) hg1)
    have C1 := Lib.hid hc1
    clear hc1 hg1
    go_wp2
    go_ret
    exact ⟨x, rfl, C1.out.more (by omega), G1.out⟩
  · have b0 : ((xs.length : Int) == 0) = false := by simp; intro h; apply h0; rw [h]; rfl
    have b1 : ¬ (xs.length : Int) = 0 := by omega
    have b2 : ¬ xs = [] := fun h => h0 (by rw [h]; rfl)
    have hpos : 0 < xs.length := by omega
    go_enter Try.func92, Try.ntmps92
    go_wp2_with fail
    refine (one_any bc a len cap _ 10 _ C.out D.out (by omega) (by omega) (by omega)).mono ?_
    rintro e w1 ⟨b, rfl, hc1, hg1⟩
    have G1 := Lib.hid hg1
    have C1 := Lib.hid hc1
    have O1 := Lib.hid (ownsRow_grown' O.out hg1 (by intro k e; cases e; exact hb))
    clear hc1 hg1
    cases b
    · go_wp2_with fail
      refine (pick_any bc a len cap _ xs.length _ C1.out (D.out.grown G1.out) (by omega) (by omega) (by omega)).mono ?_
      rintro e w2 ⟨p, rfl, p0, p1, hc2, hg2⟩
      obtain ⟨q, rfl⟩ := Int.eq_ofNat_of_zero_le p0
      have hq : q < xs.length := by omega
      have hown2 := ownsRow_grown' O1.out hg2 (by intro k e; cases e; exact hb)
      obtain ⟨la', lc', e', hs2⟩ := isSheetS_own hown2
      cases e'
      obtain ⟨b, o, rfl, _, hat⟩ := hs2.at hpos
      obtain ⟨c0, c1, c2, c3, c4⟩ := hat q _ (List.getElem?_eq_getElem hq)
      obtain ⟨s, hsq⟩ : ∃ s, xs[q] = s := ⟨_, rfl⟩
      rw [hsq] at c0 c1 c2 c3 c4
      have G2 := Lib.hid (grown_trans G1.out hg2)
      have C2 := Lib.hid hc2
      clear hc2 hg2 hown2 hs2 hat hsq O O1
      go_wp2
      go_ret
      exact ⟨s.scale, rfl, C2.out.more (by omega), G2.out⟩
    · go_wp2_with fail
      refine (AM.out _ C1.out (D.out.grown G1.out)).mono ?_
      rintro e w2 ⟨x, rfl, _, _, hc2, hg2⟩
      have G2 := Lib.hid (grown_trans (grow_alloc G1.out _) hg2)
      have C2 := Lib.hid hc2
      clear hc2 hg2
      go_wp2
      go_ret
      exact ⟨x, rfl, C2.out.more (by omega), G2.out⟩
/-- Some sheets and a number, of the world as the call leaves it. -/
def ShsNum (w : World) (e : Ending) (w' : World) : Prop := ∃ (a : Option Addr) (cap : Nat) (xs : List Sh) (x : Int), e = .returned (.tuple #[.slice a xs.length cap, .int .i64 x]) ∧ xs.length ≤ 14 ∧ IsSheetS w' a xs.length cap xs ∧ Below w.heap.size w w'
set_option maxHeartbeats 1600000 in
set_option maxRecDepth 100000 in
theorem drawNeighborsOf_any (a : Option Addr) (len cap : Nat) (w : World) (h : CodeIn w a len cap) :
    Calls Try.prog 15 #[.slice a len cap] w (ShsNum w) := by
  have C := Lib.hid (cur_new w a len cap)
  have D := Lib.hid (h.at (bel_alloc w (.cells #[.slice a len cap, .int .i64 0, .int .u64 0] 64)))
  clear h
  go_enter Try.func15, Try.ntmps15
  go_wp2_with fail
  refine (sheets_any _ a len cap _ _ C.out D.out (by omega)).mono ?_
  rintro e w1 ⟨v, xs, rfl, hx, hown, hc1, hg1⟩
  have hsz : w.heap.size < (w.alloc (.cells #[.slice a len cap, .int .i64 0, .int .u64 0] 64)).heap.size := by rw [size_alloc]; omega
  have SZ := Lib.hid hsz
  have C1 := Lib.hid hc1
  have D1 := Lib.hid (D.out.grown hg1)
  have O1 := Lib.hid hown
  have G1 := Lib.hid (below_cur (bel_alloc w _) rfl hg1)
  clear hc1 hg1 hown hsz
  go_wp2_with fail
  refine (sheetOf_any _ a len cap _ _ v xs _ C1.out D1.out (by omega) O1.out SZ.out hx).mono ?_
  rintro e w2 ⟨x, rfl, hc2, hg2⟩
  have G2 := Lib.hid (below_cur G1.out rfl hg2)
  obtain ⟨la, lc, rfl, hs⟩ := isSheetS_own (ownsRow_grown' O1.out hg2 (by intro k e; cases e; exact SZ.out))
  have S2 := Lib.hid hs
  clear hc2 hg2 hs
  go_wp2
  go_ret2
  exact ⟨la, lc, xs, x, rfl, hx, S2.out, G2.out⟩
set_option maxHeartbeats 1600000 in
set_option maxRecDepth 100000 in
theorem drawMissingSheets_any (a : Option Addr) (len cap : Nat) (w : World) (h : CodeIn w a len cap) :
    Calls Try.prog 58 #[.slice a len cap] w (ShsNum w) := by
  have C := Lib.hid (cur_new w a len cap)
  have D := Lib.hid (h.at (bel_alloc w (.cells #[.slice a len cap, .int .i64 0, .int .u64 0] 64)))
  clear h
  go_enter Try.func58, Try.ntmps58
  go_wp2_with fail
  refine (sheets_any _ a len cap _ _ C.out D.out (by omega)).mono ?_
  rintro e w1 ⟨v, xs, rfl, hx, hown, hc1, hg1⟩
  have hsz : w.heap.size < (w.alloc (.cells #[.slice a len cap, .int .i64 0, .int .u64 0] 64)).heap.size := by rw [size_alloc]; omega
  have SZ := Lib.hid hsz
  have C1 := Lib.hid hc1
  have D1 := Lib.hid (D.out.grown hg1)
  have O1 := Lib.hid hown
  have G1 := Lib.hid (below_cur (bel_alloc w _) rfl hg1)
  clear hc1 hg1 hown hsz
  go_wp2_with fail
  refine (scaleOf_any _ a len cap _ _ v xs _ C1.out D1.out (by omega) O1.out SZ.out hx).mono ?_
  rintro e w2 ⟨x, rfl, hc2, hg2⟩
  have G2 := Lib.hid (below_cur G1.out rfl hg2)
  obtain ⟨la, lc, rfl, hs⟩ := isSheetS_own (ownsRow_grown' O1.out hg2 (by intro k e; cases e; exact SZ.out))
  have S2 := Lib.hid hs
  clear hc2 hg2 hs
  go_wp2
  go_ret2
  exact ⟨la, lc, xs, x, rfl, hx, S2.out, G2.out⟩
theorem drawLongestStrip_any (a : Option Addr) (len cap : Nat) (w : World) (h : CodeIn w a len cap) :
    Calls Try.prog 20 #[.slice a len cap] w (ShsNum w) := by
  have H := Lib.hid h
  clear h
  go_enter Try.func20, Try.ntmps20
  go_wp2_with fail
  refine (drawMissingSheets_any _ _ _ _ H.out).mono ?_
  rintro e w1 ⟨la, lc, xs, x, rfl, hx, hs, hb⟩
  have S := Lib.hid hs
  have B := Lib.hid hb
  clear hs hb
  go_wp2
  go_ret2
  exact ⟨la, lc, xs, x, rfl, hx, S.out, B.out⟩
theorem drawShowsOverview_any (a : Option Addr) (len cap : Nat) (w : World) (h : CodeIn w a len cap) :
    Calls Try.prog 23 #[.slice a len cap] w (ShsNum w) := by
  have H := Lib.hid h
  clear h
  go_enter Try.func23, Try.ntmps23
  go_wp2_with fail
  refine (drawNeighborsOf_any _ _ _ _ H.out).mono ?_
  rintro e w1 ⟨la, lc, xs, x, rfl, hx, hs, hb⟩
  have S := Lib.hid hs
  have B := Lib.hid hb
  clear hs hb
  go_wp2
  go_ret2
  exact ⟨la, lc, xs, x, rfl, hx, S.out, B.out⟩
set_option maxHeartbeats 1600000 in
set_option maxRecDepth 100000 in
theorem vInts_yes (a : Option Addr) (len cap : Nat) (a' : Option Addr) (len' cap' : Nat) (xs : List Int) (w : World) (h : IsInts w a len cap xs) (h' : IsInts w a' len' cap' xs) :
    Calls Try.prog 18 #[.slice a len cap, .slice a' len' cap'] w fun e w' => e = .returned (.bool true) ∧ Below w.heap.size w w' := by
  obtain rfl := h.1
  obtain rfl := h'.1
  have hm := h.2.2.1
  have hcl := h.2.1
  unfold maxLen at hm
  have S := Lib.hid h
  have S' := Lib.hid h'
  clear h h'
  go_enter Try.func18, Try.ntmps18
  go_wp2
  go_loopw [5] (fun i wr => ∃ k : Nat, k ≤ xs.length ∧ i = .int .i64 k ∧ Below w.heap.size w wr) (fun i _ => xs.length - (intOf i).toNat)
  case atStart => exact ⟨0, Nat.zero_le _, rfl, Below.refl _ _⟩
  case round =>
    obtain ⟨k, hk, rfl, hbel⟩ := hrel
    have B := Lib.hid hbel
    by_cases hlt : k < xs.length
    · obtain ⟨s, hs⟩ : ∃ s, xs[k]? = some s := ⟨xs[k]'hlt, List.getElem?_eq_getElem _⟩
      obtain ⟨b, o, rfl, hb, hat⟩ := (S.out.below hbel).at (by omega)
      obtain ⟨b', o', rfl, hb', hat'⟩ := (S'.out.below hbel).at (by omega)
      have c0 := hat k s hs
      have d0 := hat' k s hs
      have hi0 : (0 : Int) ≤ (k : Int) := by omega
      have hi1 : (k : Int) < (xs.length : Int) := by omega
      clear hbel hs hat hat'
      go_wp2
      go_quiet (fail)
      have B1 := Lib.hid (Below.then' B.out (bel_drawn wr nq))
      go_wp2
      go_roundw
      case rel => exact ⟨k + 1, by omega, by go_num, B1.out⟩
      case measure => simp [intOf]; omega
    · obtain rfl : k = xs.length := by omega
      clear hbel
      go_wp2
      go_ret
      exact ⟨rfl, B.out⟩
def hasB (x : Int) (xs : List Int) : Bool := xs.any fun y => y == x
theorem hasB_iff {x : Int} {xs : List Int} : hasB x xs = true ↔ x ∈ xs := by
  unfold hasB; rw [List.any_eq_true]
  constructor
  · rintro ⟨y, h1, h2⟩; rw [← (by simpa using h2 : y = x)]; exact h1
  · intro h; exact ⟨x, h, by simp⟩
set_option maxHeartbeats 1600000 in
set_option maxRecDepth 100000 in
theorem vHas_any (a : Option Addr) (len cap : Nat) (xs : List Int) (x : Int) (w : World) (h : IsInts w a len cap xs) :
    Calls Try.prog 19 #[.slice a len cap, .int .i64 x] w fun e w' => e = .returned (.bool (hasB x xs)) ∧ w = w' := by
  obtain rfl := h.1
  have hm := h.2.2.1
  have hcl := h.2.1
  unfold maxLen at hm
  have S := Lib.hid h
  clear h
  go_enter Try.func19, Try.ntmps19
  go_wp2
  go_loop [5] (fun i => ∃ k : Nat, k ≤ xs.length ∧ i = .int .i64 k ∧ ∀ j y, j < k → xs[j]? = some y → ¬ y = x) (fun i => xs.length - (intOf i).toNat)
  case atStart => exact ⟨0, Nat.zero_le _, rfl, fun _ _ h => by omega⟩
  case round =>
    obtain ⟨k, hk, rfl, hno⟩ := hrel
    have NO := Lib.hid hno
    clear hno
    by_cases hlt : k < xs.length
    · obtain ⟨s, hs⟩ : ∃ s, xs[k]? = some s := ⟨xs[k]'hlt, List.getElem?_eq_getElem _⟩
      obtain ⟨b, o, rfl, hb, hat⟩ := S.out.at (by omega)
      have c0 := hat k s hs
      have hi0 : (0 : Int) ≤ (k : Int) := by omega
      have hi1 : (k : Int) < (xs.length : Int) := by omega
      have HS := Lib.hid hs
      clear hs hat
      by_cases he : s = x
      · have Y := Lib.hid (show hasB x xs = true from hasB_iff.2 (he ▸ List.mem_of_getElem? HS.out))
        have hb1 : (s == x) = true := by simpa using he
        subst he
        go_wp2
        go_ret
        exact ⟨ret_bool Y.out.symm, rfl⟩
      · have hb1 : (s == x) = false := by simpa using he
        have HE := Lib.hid he
        clear he
        go_wp2
        go_round
        case rel => exact ⟨k + 1, by omega, by go_num, fun j y hj hy => by
          by_cases e : j = k
          · subst e; rw [HS.out] at hy; cases hy; exact HE.out
          · exact NO.out j y (by omega) hy⟩
        case measure => simp [intOf]; omega
    · obtain rfl : k = xs.length := by omega
      have Y := Lib.hid (show hasB x xs = false from by
        rw [← Bool.not_eq_true, hasB_iff]
        intro h
        obtain ⟨j, hj⟩ := List.getElem?_of_mem h
        exact NO.out j x (List.getElem?_eq_some_iff.1 hj).1 hj rfl)
      go_wp2
      go_ret
      exact ⟨ret_bool Y.out.symm, rfl⟩
end Go.Proofs.Ytidaoijpbdljbaa
