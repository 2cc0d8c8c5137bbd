/- ParseSheet in the program: the numbers between the marks, and the sheet of them. -/
import Derived.Test.YtidaoijpbdljbaaDoorParseMath
import Derived.Test.YtidaoijpbdljbaaDoorParse
import Derived.Test.YtidaoijpbdljbaaDoorInts
import Derived.Test.YtidaoijpbdljbaaDoorShelf
import Derived.OwnWalk
import Derived.Deep.RegionHeld3
namespace Go.Proofs.YtidaoijpbdljbaaDoor
open Go.RowKit

theorem bel_drew {w w1 : World} (h : Below w.heap.size w w1) : Below w.heap.size w w1.drew := ⟨h.os, h.tape, h.output, h.size, h.block⟩
theorem wp_world_exit {Q : Exit → Act → World → Prop} {x : Exit} {a : Act} {w0 : World} (F : World → Prop) (h0 : F w0) (h : ∀ W, F W → Q x a W) : Q x a w0 := h w0 h0
theorem keepCell {w w' : World} {b o : Nat} {v : Value} (h : w.cell? ⟨b, o, none⟩ = some v) (hb : Below w.heap.size w w') : w'.cell? ⟨b, o, none⟩ = some v := (hb.cell (p := ⟨b, o, none⟩) (World.lt_of_cell h)).trans h
theorem implParseV (s : ByteArray) (w : World) (hs : s.size ≤ 1048576) (ht : TabPow w) :
    Calls Tryd.prog 26 #[.string s] w fun e w' => e = .returned (.tuple #[.int .i64 (parseV s).1, .bool (parseV s).2]) ∧ Below w.heap.size w w' :=
  (implParse s w hs ht).mono fun _ _ ⟨r, b, he, hp, hb⟩ => by
    obtain ⟨rfl, rfl⟩ := hp.one (parseV_is s)
    exact ⟨he, hb⟩
theorem cut_any (s m : ByteArray) (x : Int) (w : World) (hs : s.size ≤ 1048576) (hm : w.cell? ⟨1, 0, none⟩ = some (.int .i64 x)) :
    Calls Tryd.prog 25 #[.string s, .string m] w fun e w' => e = .returned (.tuple #[.string (cutB s m).1, .string (cutB s m).2.1, .bool (cutB s m).2.2]) ∧ Below w.heap.size w w' :=
  (Tryd.strings_Cut s m x w (by omega) hm).mono fun _ _ ⟨he, n, hw⟩ => ⟨he, hw ▸ bel_drawn _ _⟩

/-- What numbersBetween gives. -/
def NumsPost (s : ByteArray) (ms : List ByteArray) (w : World) (e : Ending) (w' : World) : Prop :=
  ∃ (v : Value) (ns : List Int) (ok : Bool), e = .returned (.tuple #[v, .bool ok]) ∧ numsB s ms = (if ok = true then some ns else none) ∧ w'.ownsRow w.heap.size 3 1 v ns.length (intCells ns) ∧ Below w.heap.size w w'
theorem nil_rowI (w : World) (base : Nat) : w.ownsRow base 3 1 (.slice none 0 0) ([] : List Int).length (intCells []) := ⟨by simp [intCells], .inl ⟨rfl, rfl⟩⟩

set_option maxHeartbeats 3200000 in
set_option maxRecDepth 100000 in
theorem numbers_any (b cap : Nat) (ms : List ByteArray) (s : ByteArray) (x : Int) (w : World) (hs : s.size ≤ 1048576) (ht : TabPow w) (hx : w.cell? ⟨1, 0, none⟩ = some (.int .i64 x)) (hml : ms.length ≤ 10) (hcl : ms.length ≤ cap)
    (hc : ∀ (j : Nat) m, ms[j]? = some m → w.cell? ⟨b, j, none⟩ = some (.string m)) :
    Calls Tryd.prog 17 #[.string s, .slice (some ⟨b, 0, none⟩) ms.length cap] w (NumsPost s ms w) := by
  obtain ⟨i0, hi, hz0, hz1, hz2⟩ := info_parts infoInt
  have T := Lib.hid ht
  have X := Lib.hid hx
  have C := Lib.hid hc
  clear ht hx hc
  obtain ⟨len, hlen⟩ : ∃ len, ms.length = len := ⟨_, rfl⟩
  rw [hlen] at hml hcl ⊢
  have L := Lib.hid hlen
  clear hlen
  go_enter Tryd.func17, Tryd.ntmps17
  go_wp2
  go_loopw [18, 6, 0] (fun j o t wr => ∃ (k : Nat) (pre : List Int) (r : ByteArray), k ≤ len ∧ j = .int .i64 k ∧ t = .string r ∧ r.size ≤ 1048576 ∧ pre.length = k ∧ wr.ownsRow w.heap.size 3 1 o pre.length (intCells pre) ∧ numsB s ms = (numsB r (ms.drop k)).map (pre ++ ·) ∧ Below w.heap.size w wr) (fun j _ _ _ => len - (intOf j).toNat)
  case atStart => exact ⟨0, [], s, Nat.zero_le _, rfl, rfl, hs, rfl, nil_rowI _ _, by simp, Below.refl _ _⟩
  case round =>
    obtain ⟨k, pre, r, hk, rfl, rfl, hr, hpl, hown, hnum, hbel⟩ := hrel
    have O := Lib.hid hown
    have N := Lib.hid hnum
    have B := Lib.hid hbel
    have PL := Lib.hid hpl
    clear hown hnum hpl
    by_cases hlt : k < len
    · obtain ⟨m, hm⟩ : ∃ m, ms[k]? = some m := ⟨ms[k]'(by have := L.out; omega), List.getElem?_eq_getElem _⟩
      have hcell := keepCell (C.out k m hm) hbel
      have D := Lib.hid (show ms.drop k = m :: ms.drop (k + 1) from by
        have hkl : k < ms.length := by have := L.out; omega
        rw [List.drop_eq_getElem_cons hkl]
        have : ms[k] = m := by rw [List.getElem?_eq_getElem hkl] at hm; simpa using hm
        rw [this])
      clear hm hbel
      obtain ⟨h1, h2⟩ := cut_size r m
      go_wp2_with fail
      refine (cut_any r m x _ hr (keepCell X.out B.out)).mono ?_
      rintro e w1 ⟨rfl, hb1⟩
      have B1 := Lib.hid (Below.then' B.out hb1)
      have O1 := Lib.hid (ownsRow_below O.out hb1)
      clear hb1 hcell
      obtain ⟨f, hf⟩ : ∃ f, (cutB r m).2.2 = f := ⟨_, rfl⟩
      obtain ⟨t1, ht1⟩ : ∃ t, (cutB r m).1 = t := ⟨_, rfl⟩
      obtain ⟨r1, hr1⟩ : ∃ t, (cutB r m).2.1 = t := ⟨_, rfl⟩
      obtain ⟨n, hn⟩ : ∃ n, (parseV t1).1 = n := ⟨_, rfl⟩
      obtain ⟨q, hq⟩ : ∃ q, (parseV t1).2 = q := ⟨_, rfl⟩
      rw [ht1] at h1
      rw [hr1] at h2
      rw [hf, ht1, hr1]
      have ST := Lib.hid (show numsB r (ms.drop k) = if f = true ∧ q = true then (numsB r1 (ms.drop (k + 1))).map (n :: ·) else none from by
        rw [D.out, numsB, hf, ht1, hr1, hn, hq])
      have PV := Lib.hid (show ∀ W, TabPow W → Calls Tryd.prog 26 #[.string t1] W fun e w' => e = .returned (.tuple #[.int .i64 n, .bool q]) ∧ Below W.heap.size W w' from fun W hT => by
        have := implParseV t1 W (by omega) hT
        rw [hn, hq] at this
        exact this)
      clear hf ht1 hr1 hn hq
      go_wp2_with fail
      refine (PV.out _ (tabPow_below T.out B1.out)).mono ?_
      rintro e w2 ⟨rfl, hb2⟩
      have B2 := Lib.hid (Below.then' B1.out hb2)
      have hown2 := ownsRow_below O1.out hb2
      have hsz := B2.out.size
      clear hb2
      cases f
      · clear hown2
        go_wp2
        go_ret2
        exact ⟨_, [], false, rfl, by rw [N.out, ST.out]; rfl, nil_rowI _ _, B2.out⟩
      · cases q
        · clear hown2
          go_wp2
          go_ret2
          exact ⟨_, [], false, rfl, by rw [N.out, ST.out]; rfl, nil_rowI _ _, B2.out⟩
        · have hpl2 : pre.length ≤ 10 := by have := PL.out; omega
          go_wp2_with (at_builtin; refine wpList_append_own _ rfl _ _ 39 rfl w.heap.size 3 i0 (.int .i64 0) 1 8 Tryd.underlying39 hi hz0 hz1 hz2 rfl (by decide) _ _ _ rfl (hown2.alloc _) ⟨w2.heap.size, 0, none⟩ 1 1 [.int .i64 n] rfl rfl (cell_one _ _ _) (fun x hx => by simp at hx; subst hx; rfl) (by unfold maxLen; omega) (by omega) (by simp; omega) ?_; intro v' w4 hown' hgrow4 hnil4)
          go_roundw
          case rel =>
            refine ⟨k + 1, pre ++ [n], r1, by omega, by go_num, rfl, by omega, by rw [List.length_append, PL.out]; rfl, ?_, ?_, (Below.then' B2.out (bel_alloc1 _ _)).grown hgrow4 (by simp; omega) (fun j e => (hown2.lt j e).1)⟩
            · rw [intCells_snoc]; simpa using hown'
            · rw [N.out, ST.out, if_pos (by simp), Option.map_map]
              congr 1
              funext z
              simp
          case measure => simp [intOf]; omega
    · obtain rfl : k = len := by omega
      clear hbel
      obtain ⟨n, hn⟩ : ∃ n, (parseV r).1 = n := ⟨_, rfl⟩
      obtain ⟨q, hq⟩ : ∃ q, (parseV r).2 = q := ⟨_, rfl⟩
      have ST := Lib.hid (show numsB s ms = if q = true then some (pre ++ [n]) else none from by
        rw [N.out, List.drop_of_length_le (by have := L.out; omega), numsB, hn, hq]
        cases q <;> simp)
      have PV := Lib.hid (show ∀ W, TabPow W → Calls Tryd.prog 26 #[.string r] W fun e w' => e = .returned (.tuple #[.int .i64 n, .bool q]) ∧ Below W.heap.size W w' from fun W hT => by
        have := implParseV r W hr hT
        rw [hn, hq] at this
        exact this)
      clear hn hq
      go_wp2_with fail
      refine (PV.out _ (tabPow_below T.out B.out)).mono ?_
      rintro e w2 ⟨rfl, hb2⟩
      have B2 := Lib.hid (Below.then' B.out hb2)
      have hown2 := ownsRow_below O.out hb2
      have hsz := B2.out.size
      clear hb2
      cases q
      · clear hown2
        go_wp2
        go_ret2
        exact ⟨_, [], false, rfl, by rw [ST.out]; simp, nil_rowI _ _, B2.out⟩
      · have hpl2 : pre.length ≤ 10 := by have := PL.out; omega
        go_wp2_with (at_builtin; refine wpList_append_own _ rfl _ _ 39 rfl w.heap.size 3 i0 (.int .i64 0) 1 8 Tryd.underlying39 hi hz0 hz1 hz2 rfl (by decide) _ _ _ rfl (hown2.alloc _) ⟨w2.heap.size, 0, none⟩ 1 1 [.int .i64 n] rfl rfl (cell_one _ _ _) (fun x hx => by simp at hx; subst hx; rfl) (by unfold maxLen; omega) (by omega) (by simp; omega) ?_; intro v' w4 hown' hgrow4 hnil4)
        have BG := Lib.hid ((Below.then' B2.out (bel_alloc1 _ _)).grown hgrow4 (by simp; omega) (fun j e => (hown2.lt j e).1))
        have OW := Lib.hid hown'
        clear hown' hgrow4 hnil4 hown2
        go_wp2
        go_ret2
        exact ⟨_, pre ++ [n], true, rfl, by rw [ST.out]; simp, by rw [intCells_snoc]; simpa using OW.out, BG.out⟩

theorem lit4s (W : World) (x y z u : ByteArray) (t : TypeId) (B : Nat) (hB : W.heap.size = B) : ∀ (j : Nat) m, [x, y, z, u][j]? = some m → (W.alloc (.cells #[.string x, .string y, .string z, .string u] t)).cell? ⟨B, j, none⟩ = some (.string m) := by
  intro j m hj
  subst hB
  match j, hj with
  | 0, hj => simp at hj; subst hj; simp [World.cell?_alloc_new]
  | 1, hj => simp at hj; subst hj; simp [World.cell?_alloc_new]
  | 2, hj => simp at hj; subst hj; simp [World.cell?_alloc_new]
  | 3, hj => simp at hj; subst hj; simp [World.cell?_alloc_new]
  | j + 4, hj => simp at hj
/-- The sheet that is read, or none. -/
def ParsePost (r : Option Sh) (w : World) (e : Ending) (w' : World) : Prop :=
  (∃ x, r = some x ∧ e = .returned (.tuple #[.agg #[.int .i64 x.id, .int .i64 x.row, .int .i64 x.col, .int .i64 x.scale, .int .i64 x.year], .bool true]) ∧ Below w.heap.size w w') ∨
  (r = none ∧ e = .returned (.tuple #[.agg #[.int .i64 0, .int .i64 0, .int .i64 0, .int .i64 0, .int .i64 0], .bool false]) ∧ Below w.heap.size w w')

theorem numbers4 (B : Nat) (s : ByteArray) (x : Int) (W : World) (hs : s.size ≤ 1048576) (ht : TabPow W) (hx : W.cell? ⟨1, 0, none⟩ = some (.int .i64 x)) (hc : ∀ (j : Nat) m, theMarks[j]? = some m → W.cell? ⟨B, j, none⟩ = some (.string m)) :
    Calls Tryd.prog 17 #[.string s, .slice (some ⟨B, 0, none⟩) 4 4] W (NumsPost s theMarks W) :=
  numbers_any B 4 theMarks s x W hs ht hx (by decide) (by decide) hc
/-- The result's own block, not yet written. -/
def ZeroAt (w : World) (b : Nat) : Prop := BoxAt w b ⟨0, 0, 0, 0, 0⟩ ∧ ∀ j, w.frozen? ⟨b, j, none⟩ = false
theorem zeroAt_new (w : World) (t : TypeId) : ZeroAt (w.alloc (.cells #[.int .i64 0, .int .i64 0, .int .i64 0, .int .i64 0, .int .i64 0] t)) w.heap.size :=
  ⟨boxAt_new w t ⟨0, 0, 0, 0, 0⟩ _ rfl, fun j => by
    have h := heap_alloc_new w (.cells #[.int .i64 0, .int .i64 0, .int .i64 0, .int .i64 0, .int .i64 0] t)
    unfold World.frozen?
    simp only [h]
    simp⟩
theorem ZeroAt.below {w w' : World} {b : Nat} (h : ZeroAt w b) (hb : Below w.heap.size w w') : ZeroAt w' b :=
  ⟨h.1.below hb, fun j => (hb.frozen (p := ⟨b, j, none⟩) h.1.lt).trans (h.2 j)⟩

set_option maxHeartbeats 3200000 in
set_option maxRecDepth 100000 in
theorem implParseSheet_any (s : ByteArray) (x : Int) (w : World) (hs : s.size ≤ 1048576) (ht : TabPow w) (hx : w.cell? ⟨1, 0, none⟩ = some (.int .i64 x)) :
    Calls Tryd.prog 9 #[.string s] w (ParsePost (implP s) w) := by
  have b1 := bel_alloc1 w (.cells #[.int .i64 0, .int .i64 0, .int .i64 0, .int .i64 0, .int .i64 0] 26)
  have b2 := Below.then' b1 (bel_alloc1 _ (.cells #[.string ⟨#[58, 32, 114]⟩, .string ⟨#[32, 99]⟩, .string ⟨#[32, 49, 58]⟩, .string ⟨#[48, 48, 48, 32]⟩] 9))
  have T2 := Lib.hid (tabPow_below ht b2)
  have X2 := Lib.hid (keepCell hx b2)
  have B2 := Lib.hid b2
  clear ht hx b1 b2
  go_enter Tryd.func9, Tryd.ntmps9
  have Z2 := Lib.hid ((zeroAt_new w 26).below (bel_alloc1 _ (.cells #[.string ⟨#[58, 32, 114]⟩, .string ⟨#[32, 99]⟩, .string ⟨#[32, 49, 58]⟩, .string ⟨#[48, 48, 48, 32]⟩] 9)))
  have M2 := Lib.hid (lit4s (w.alloc (.cells #[.int .i64 0, .int .i64 0, .int .i64 0, .int .i64 0, .int .i64 0] 26)) ⟨#[58, 32, 114]⟩ ⟨#[32, 99]⟩ ⟨#[32, 49, 58]⟩ ⟨#[48, 48, 48, 32]⟩ 9 (w.heap.size + 1) (by simp))
  go_wp2_with fail
  refine (numbers4 _ s x _ hs T2.out X2.out M2.out).mono ?_
  rintro e w3 ⟨v, ns, ok, rfl, hn, hown, hb3⟩
  have NN := Lib.hid hn
  have B3 := Lib.hid (Below.then' B2.out hb3)
  have Z3 := Lib.hid (Z2.out.below hb3)
  have O3 := Lib.hid hown
  clear hn hb3 hown
  cases ok
  · obtain ⟨⟨z0, z1, z2, z3, z4⟩, zf⟩ := Z3.out
    have f0 := zf 0
    have f1 := zf 1
    have f2 := zf 2
    have f3 := zf 3
    have f4 := zf 4
    clear zf
    go_wp2
    refine bodyPost_ret (v := .tuple #[.agg #[.int .i64 0, .int .i64 0, .int .i64 0, .int .i64 0, .int .i64 0], .bool false]) (by simp [results, Tryd.results9, go_sem, *]) rfl (.inr ⟨?_, rfl, ?_⟩)
    · unfold implP; rw [NN.out]; rfl
    · repeat (first | exact B3.out | refine Below.setCell ?_ (by simp) _)
  · have hlen := numsB_sound _ _ _ (show numsB s theMarks = some ns from by rw [NN.out]; rfl)
    obtain ⟨a, b, c, d, e, rfl⟩ : ∃ a b c d e, ns = [a, b, c, d, e] := by
      match ns, hlen with
      | [a, b, c, d, e], _ => exact ⟨a, b, c, d, e, rfl⟩
    clear hlen
    obtain ⟨aa, cc, rfl, hia, _⟩ := isInts_own O3.out
    obtain ⟨bb, oo, rfl, hbb, hat⟩ := hia.at (by simp)
    have hcl : 5 ≤ cc := hia.2.1
    have hcm : cc ≤ maxLen := hia.2.2.1
    unfold maxLen at hcm
    have q0 := hat 0 a rfl
    have q1 := hat 1 b rfl
    have q2 := hat 2 c rfl
    have q3 := hat 3 d rfl
    have q4 := hat 4 e rfl
    rw [Nat.add_zero] at q0
    clear hat hia
    have BB := Lib.hid hbb
    go_wp2
    refine wp_world (fun W => Below w.heap.size w W ∧ ZeroAt W w.heap.size ∧ W.cell? ⟨bb, oo, none⟩ = some (.int .i64 a) ∧ W.cell? ⟨bb, oo + 1, none⟩ = some (.int .i64 b) ∧ W.cell? ⟨bb, oo + 2, none⟩ = some (.int .i64 c) ∧ W.cell? ⟨bb, oo + 3, none⟩ = some (.int .i64 d) ∧ W.cell? ⟨bb, oo + 4, none⟩ = some (.int .i64 e)) ⟨B3.out, Z3.out, q0, q1, q2, q3, q4⟩ ?_
    clear q0 q1 q2 q3 q4
    rintro W ⟨hbw, hzw, q0, q1, q2, q3, q4⟩
    have BW := Lib.hid hbw
    have ZW := Lib.hid hzw
    clear hbw hzw
    go_region_held3 (fun w' => w'.cell? ⟨bb, oo, none⟩ = some (.int .i64 a) ∧ w'.cell? ⟨bb, oo + 1, none⟩ = some (.int .i64 b) ∧ w'.cell? ⟨bb, oo + 2, none⟩ = some (.int .i64 c) ∧ w'.cell? ⟨bb, oo + 3, none⟩ = some (.int .i64 d) ∧ w'.cell? ⟨bb, oo + 4, none⟩ = some (.int .i64 e)) (go_keep) (fail)
    refine wp_world_exit (fun V => Below W.heap.size W V ∧ BoxAt V W.heap.size ⟨a, b, c, d, e⟩) ⟨bel_drew (bel_alloc1 _ _), boxAt_new W 26 ⟨a, b, c, d, e⟩ _ rfl⟩ ?_
    clear q0 q1 q2 q3 q4
    rintro V ⟨hbv, hbox⟩
    have BV := Lib.hid (Below.then' BW.out hbv)
    have BX := Lib.hid hbox
    have ZV := Lib.hid (ZW.out.below hbv)
    obtain ⟨e0, e1, e2, e3, e4⟩ := hbox
    clear hbv
    have IM := Lib.hid (show implP s = if (⟨a, b, c, d, e⟩ : Sh).ok = true then some ⟨a, b, c, d, e⟩ else none from by unfold implP; rw [NN.out]; rfl)
    simp only at e0 e1 e2 e3 e4
    go_wp2_with fail
    refine (implIsSheet_any ⟨a, b, c, d, e⟩ _).mono ?_
    rintro y w5 ⟨rfl, hb5⟩
    have B5 := Lib.hid (Below.then' BV.out hb5)
    obtain ⟨⟨z0, z1, z2, z3, z4⟩, zf⟩ := ZV.out.below hb5
    obtain ⟨g0, g1, g2, g3, g4⟩ := BX.out.below hb5
    have f0 := zf 0
    have f1 := zf 1
    have f2 := zf 2
    have f3 := zf 3
    have f4 := zf 4
    have NE : W.heap.size ≠ w.heap.size := by have := BW.out.size; have := ZW.out.1.lt; omega
    simp only at g0 g1 g2 g3 g4 z0 z1 z2 z3 z4
    clear hb5 zf e0 e1 e2 e3 e4
    obtain ⟨q, hq⟩ : ∃ q, (⟨a, b, c, d, e⟩ : Sh).ok = q := ⟨_, rfl⟩
    rw [hq]
    have HQ := Lib.hid hq
    clear hq
    cases q
    · go_wp2
      refine bodyPost_ret (v := .tuple #[.agg #[.int .i64 0, .int .i64 0, .int .i64 0, .int .i64 0, .int .i64 0], .bool false]) (by simp [results, Tryd.results9, go_sem, *]) rfl (.inr ⟨by rw [IM.out, HQ.out]; rfl, rfl, ?_⟩)
      repeat (first | exact B5.out | refine Below.setCell ?_ (by simp) _)
    · go_wp2
      refine bodyPost_ret (v := .tuple #[.agg #[.int .i64 a, .int .i64 b, .int .i64 c, .int .i64 d, .int .i64 e], .bool true]) (by simp [results, Tryd.results9, go_sem, *]) rfl (.inl ⟨⟨a, b, c, d, e⟩, by rw [IM.out, HQ.out]; rfl, rfl, ?_⟩)
      repeat (first | exact B5.out | refine Below.setCell ?_ (by simp) _)
end Go.Proofs.YtidaoijpbdljbaaDoor
