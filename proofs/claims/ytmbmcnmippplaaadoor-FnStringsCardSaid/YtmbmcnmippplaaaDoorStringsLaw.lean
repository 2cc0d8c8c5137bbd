/- FnStrings: for every code the law returns true and leaves it as it was; the library's tables hold what the program's text lays there (tied). -/
import Derived.Test.YtmbmcnmippplaaaDoorCards
import Derived.Test.YtmbmcnmippplaaaDoorTie
import Derived.Test.YtmbmcnmippplaaaDoorLaid
import Derived.Test.YtmbmcnmippplaaaDoorParse
import Derived.Test.YtmbmcnmippplaaaDoorVerify
import Derived.Test.YtmbmcnmippplaaaDoorDrawD
import Derived.Test.YtmbmcnmippplaaaDoorStringsMath
import Derived.ProofKit
import Derived.OpenShut
import Derived.ShutString
import Derived.ChangeOld
import Derived.Deep.DeepHandedRow
import Derived.LaidMore
namespace Go.Proofs.YtmbmcnmippplaaaDoor.fnStrings
open Go.ChangeShapes Go.WideShapes Go.ChangeAt Go.RowKit
open Go.ChangeMaps (open_string shut_string)
set_option linter.unusedVariables false

def okNum (n : Int) : Bool := decide (-999999 ≤ n ∧ n ≤ 999999)
def numText (n : Int) : ByteArray := if okNum n = true then textOf n else ⟨#[]⟩
theorem implFormat (n : Int) (w : World) (ht : TabPow w) :
    Calls Tryd.prog 10 #[.int .i64 n] w fun e w' => e = .returned (.tuple #[.string (numText n), .bool (okNum n)]) ∧ Below w.heap.size w w' := by
  by_cases h : -999999 ≤ n ∧ n ≤ 999999
  · have h' : okNum n = true := by simpa [okNum] using h
    refine (implFormatInt_in n w h.1 h.2 ht).mono ?_
    rintro e w' ⟨rfl, hb⟩
    exact ⟨by unfold numText; rw [if_pos h', h'], hb⟩
  · have h' : okNum n = false := by simpa [okNum] using h
    refine (implFormatInt_out n w (by omega)).mono ?_
    rintro e w' ⟨rfl, rfl⟩
    exact ⟨by unfold numText; rw [if_neg (by rw [h']; simp), h'], Below.refl _ _⟩
theorem specFormat (n : Int) (w : World) :
    Calls Tryd.prog 11 #[.int .i64 n] w fun e w' => e = .returned (.tuple #[.string (numText n), .bool (okNum n)]) ∧ Below w.heap.size w w' := by
  by_cases h : -999999 ≤ n ∧ n ≤ 999999
  · have h' : okNum n = true := by simpa [okNum] using h
    refine (specFormatInt_in n w h.1 h.2).mono ?_
    rintro e w' ⟨rfl, m, rfl⟩
    exact ⟨by unfold numText; rw [if_pos h', h'], bel_drawn _ _⟩
  · have h' : okNum n = false := by simpa [okNum] using h
    refine (specFormatInt_out n w (by omega)).mono ?_
    rintro e w' ⟨rfl, m, rfl⟩
    exact ⟨by unfold numText; rw [if_neg (by rw [h']; simp), h'], bel_drawn _ _⟩
def sealText (x : ByteArray) : ByteArray := if okSeal x = true then sealOf x else ⟨#[]⟩
theorem implSeal (x : ByteArray) (w : World) (hs : x.size ≤ 4100) (ht : TabPow w) :
    Calls Tryd.prog 16 #[.string x] w fun e w' => e = .returned (.tuple #[.string (sealText x), .bool (okSeal x)]) ∧ Below w.heap.size w w' := by
  by_cases h : okSeal x = true
  · refine (implAppend_yes x w h ht).mono ?_
    rintro e w' ⟨rfl, hb⟩
    exact ⟨by unfold sealText; rw [if_pos h, h], hb⟩
  · have h' : okSeal x = false := by simpa using h
    refine (implAppend_no x w (by omega) h' ht).mono ?_
    rintro e w' ⟨rfl, hb⟩
    exact ⟨by unfold sealText; rw [if_neg h, h'], hb⟩
theorem specSeal (x : ByteArray) (w : World) (hs : x.size ≤ 4100) :
    Calls Tryd.prog 17 #[.string x] w fun e w' => e = .returned (.tuple #[.string (sealText x), .bool (okSeal x)]) ∧ Below w.heap.size w w' := by
  by_cases h : okSeal x = true
  · refine (specAppend_yes x w h).mono ?_
    rintro e w' ⟨rfl, m, rfl⟩
    exact ⟨by unfold sealText; rw [if_pos h, h], bel_drawn _ _⟩
  · have h' : okSeal x = false := by simpa using h
    refine (specAppend_no x w (by omega) h').mono ?_
    rintro e w' ⟨rfl, m, rfl⟩
    exact ⟨by unfold sealText; rw [if_neg h, h'], bel_drawn _ _⟩
/-- What the law's second reading of the first text is to tell. -/
theorem read_back (n : Int) (r : Int) (b : Bool) (h : okNum n = true) (hp : IsParse (numText n) r b) : b = true ∧ r = n := by
  have h' : -999999 ≤ n ∧ n ≤ 999999 := by simpa [okNum] using h
  have := hp.one (IsParse.yes h'.1 h'.2 (by unfold numText; rw [if_pos h]))
  exact ⟨this.2, this.1⟩
theorem numText_size (n : Int) (h0 : -1000000 ≤ n) (h1 : n ≤ 1000000) : (numText n).size ≤ 1048576 := by
  unfold numText
  split
  · by_cases hn : 0 ≤ n
    · rw [textOf_pos n hn]
      have := numOf_size n.toNat
      omega
    · rw [textOf_neg n (by omega), ByteArray.size_append]
      have := numOf_size (-n).toNat
      have : minus.size = 1 := rfl
      omega
  · exact Nat.zero_le _

/-- A row of bytes in block g. -/
def BufAt (w : World) (g : Nat) (l : List UInt8) : Prop := g < w.heap.size ∧ ∀ i (h : i < l.length), w.cell? ⟨g, i, none⟩ = some (.int .u8 (l[i].toNat : Int)) ∧ w.frozen? ⟨g, i, none⟩ = false
theorem buf_new (w : World) (s : ByteArray) (cap : Nat) (T : TypeId) : BufAt (w.alloc (.cells (bytesRow s cap) T ((bytesRow s cap).size, (bytesRow s cap).size + 1))).drew w.heap.size s.data.toList := by
  refine ⟨?_, fun i h => ?_⟩
  · show w.heap.size < (w.heap.push _).size
    simp
  · have h' : i < s.data.size := by simpa using h
    have e1 := World.cell?_alloc_mark w (bytesRow s cap) T ((bytesRow s cap).size, (bytesRow s cap).size + 1) i
    have e2 := World.frozen?_alloc_mark w (bytesRow s cap) T (bytesRow s cap).size ((bytesRow s cap).size + 1) i
    have e3 := bytesRow_at s cap i h'
    have e4 : i < (bytesRow s cap).size := (Array.getElem?_eq_some_iff.1 e3).1
    refine ⟨(show (w.alloc (.cells (bytesRow s cap) T ((bytesRow s cap).size, (bytesRow s cap).size + 1))).cell? ⟨w.heap.size, i, none⟩ = _ from ?_), (show (w.alloc (.cells (bytesRow s cap) T ((bytesRow s cap).size, (bytesRow s cap).size + 1))).frozen? ⟨w.heap.size, i, none⟩ = _ from ?_)⟩
    · rw [e1, e3]; simp
    · rw [e2]; simp; omega

theorem buf_set (w : World) (g : Nat) (l : List UInt8) (k : Nat) (c : UInt8) (q : Nat) (h : BufAt w g l) (hk : k < l.length) : BufAt ((w.drewN q).setCell ⟨g, k, none⟩ (.int .u8 (c.toNat : Int))) g (l.set k c) := by
  refine ⟨?_, fun i hi => ?_⟩
  · have := h.1
    simpa using this
  · rw [List.length_set] at hi
    obtain ⟨h1, h2⟩ := h.2 i hi
    have h2' : (w.drewN q).frozen? ⟨g, i, none⟩ = false := h2
    refine ⟨?_, by rw [World.frozen?_setCell]; exact h2'⟩
    by_cases e : i = k
    · subst e
      have h1' : (w.drewN q).cell? ⟨g, i, none⟩ = some (.int .u8 (l[i].toNat : Int)) := h1
      rw [World.cell?_setCell_same _ _ _ h1', List.getElem_set_self]
    · rw [World.cell?_setCell_other _ _ _ _ (fun e' => by cases e'; exact e rfl), List.getElem_set_ne (fun e' => e e'.symm)]
      exact h1
theorem run_back {src e dst : TypeId} (hs : Tryd.prog.underlying src = some (.slice e)) (he : Tryd.prog.underlying e = some (.int .u8)) (hd : Tryd.prog.underlying dst = some .string) {w : World} {g : Nat} {l : List UInt8} (h : BufAt w g l) (n : Nat) (hn : l.length = n) (cap : Nat) :
    (convert src dst (.slice (some ⟨g, 0, none⟩) n cap)).run Tryd.prog w = .ok (.string (strOf l)) w := by
  subst hn
  exact run_convert_bytes_back (P := Tryd.prog) w src dst e ⟨g, 0, none⟩ cap l hs he hd (fun j hj => by rw [add_plain, Nat.zero_add]; exact (h.2 j hj).1)

set_option maxHeartbeats 3200000 in
set_option maxRecDepth 100000 in
theorem walk (a0 : Option Addr) (len0 cap0 : Nat) (z0 : List Int) (w : World) (w0 : IsRow .u8 w a0 len0 cap0 z0) (hL : laidMetH Tryd.prog Rows.fnStringsRow.laid w) (hS : w.ShapedOpen Tryd.prog) :
    Calls Tryd.prog 3 #[.slice a0 len0 cap0] w fun e w' => e = .returned (.bool true) ∧ Below w.heap.size w w' := by
  have I := Lib.hid (CodeIn.of_row w0)
  have T := Lib.hid (tabPow_of hL)
  clear w0 hL hS
  by_cases hbig : 65536 < len0
  · have hd : decide (65536 < len0) = true := by simpa using hbig
    go_enter Tryd.func3, Tryd.ntmps3
    go_wp2_with fail
    refine (vBig_any _ _ _ _).mono ?_
    rw [hd]
    rintro e w' ⟨rfl, rfl⟩
    go_wp2
    go_ret
    exact ⟨rfl, Below.refl _ _⟩
  have hd : decide (65536 < len0) = false := by simp; omega
  go_enter Tryd.func3, Tryd.ntmps3
  go_wp2_with fail
  refine (vBig_any _ _ _ _).mono ?_
  rw [hd]
  rintro e w' ⟨rfl, rfl⟩
  clear hd
  go_wp2_with fail
  refine (drawInt _ _ _ _ I.out).mono ?_
  rintro e w1 ⟨n, rfl, n0, n1, hb⟩
  have B1 := Lib.hid hb
  clear hb
  go_wp2_with fail
  refine (implFormat n _ (tabPow_below T.out B1.out)).mono ?_
  rintro e w2 ⟨rfl, hb⟩
  obtain ⟨s, hs⟩ : ∃ s, numText n = s := ⟨_, rfl⟩
  obtain ⟨ok, hok⟩ : ∃ ok, okNum n = ok := ⟨_, rfl⟩
  rw [hs, hok]
  have hss : s.size ≤ 1048576 := by rw [← hs]; exact numText_size n n0 n1
  have S := Lib.hid hs
  have OK := Lib.hid hok
  have B2 := Lib.hid (Below.then' B1.out hb)
  clear hb hs hok
  go_wp2_with fail
  refine (specFormat n _).mono ?_
  rw [S.out, OK.out]
  rintro e w3 ⟨rfl, hb⟩
  have B3 := Lib.hid (Below.then' B2.out hb)
  clear hb
  go_wp2_with fail
  refine (drawText _ _ _ _ (I.out.below B3.out)).mono ?_
  rintro e w4 ⟨t, rfl, t0, hb⟩
  have B4 := Lib.hid (Below.then' B3.out hb)
  clear hb
  go_wp2_with fail
  refine (implParse t _ (by omega) (tabPow_below T.out B4.out)).mono ?_
  rintro e w5 ⟨r, b, rfl, hp, hb⟩
  have P := Lib.hid hp
  have B5 := Lib.hid (Below.then' B4.out hb)
  clear hp hb
  go_wp2_with fail
  refine (specParse t _ (by omega)).mono ?_
  rintro e w6 ⟨r', b', rfl, hp, m, rfl⟩
  obtain ⟨rfl, rfl⟩ := P.out.one hp
  have B6 := Lib.hid (Below.then' B5.out (bel_drawn w5 m))
  clear hp
  go_wp2_with fail
  refine (drawSeal _ _ _ _ (I.out.below B6.out)).mono ?_
  rintro e w7 ⟨x, rfl, x0, hb⟩
  have B7 := Lib.hid (Below.then' B6.out hb)
  clear hb
  obtain ⟨y, hy⟩ : ∃ y, sealText x = y := ⟨_, rfl⟩
  obtain ⟨sd, hsd⟩ : ∃ sd, okSeal x = sd := ⟨_, rfl⟩
  have Y := Lib.hid hy
  have SD := Lib.hid hsd
  clear hy hsd
  go_wp2_with fail
  refine (implSeal x _ x0 (tabPow_below T.out B7.out)).mono ?_
  rw [Y.out, SD.out]
  rintro e w8 ⟨rfl, hb⟩
  have B8 := Lib.hid (Below.then' B7.out hb)
  clear hb
  go_wp2_with fail
  refine (specSeal x _ x0).mono ?_
  rw [Y.out, SD.out]
  rintro e w9 ⟨rfl, hb⟩
  have B9 := Lib.hid (Below.then' B8.out hb)
  clear hb
  go_wp2_with fail
  refine (implParse s _ hss (tabPow_below T.out B9.out)).mono ?_
  rintro e w10 ⟨q, there, rfl, hp, hb⟩
  have P2 := Lib.hid hp
  have B10 := Lib.hid (Below.then' B9.out hb)
  clear hp hb
  cases ok
  · clear P2
    cases sd
    · have hy0 : y = ⟨#[]⟩ := by rw [← Y.out]; unfold sealText; rw [if_neg (by rw [SD.out]; simp)]
      subst hy0
      go_wp2
      go_ret
      exact ⟨rfl, B10.out⟩
    have YS := Lib.hid (show sealOf x = y by rw [← Y.out]; unfold sealText; rw [if_pos SD.out])
    have hy2 : 2 ≤ y.size ∧ y.size ≤ 4000 := by
      have h1 := ((okSeal_iff x).1 SD.out).2.2
      have h2 := sealOf_size x
      have h3 := (dec_len 5 (ck x.data.toList).toNat (by have := (ck_bd x.data.toList).2; omega)).1
      have h4 : (textOf (ck x.data.toList)).size = (Lib.decDigits (ck x.data.toList).toNat).length := by rw [size_list, textOf_list_pos _ (ck_bd _).1]
      rw [YS.out] at h1 h2
      omega
    have VY := Lib.hid (show okVer y = true by rw [← YS.out]; exact ver_seal x SD.out)
    have PY := Lib.hid (show preOf y = x by rw [← YS.out]; exact pre_seal x SD.out)
    go_wp2_with fail
    refine (implVerify_yes y _ VY.out (fun w' h' => tabPow_below T.out (Below.then' B10.out h'))).mono ?_
    rw [PY.out]
    rintro e w11 ⟨rfl, hb⟩
    have B11 := Lib.hid (Below.then' B10.out hb)
    clear hb
    have hcv := fun (W : World) (s : ByteArray) => run_bytes_of_string (P := Tryd.prog) W 9 22 5 s Tryd.underlying9 Tryd.underlying22 Tryd.underlying5
    go_wp2_with fail
    have hge := grownCap_ge w11 y.size 0 5
    generalize grownCap w11 y.size 0 5 = cp at hge
    have hbuf := buf_new w11 y cp 5
    have hbel := Below.drew ((Below.refl w11.heap.size w11).alloc (Nat.le_refl _) (.cells (bytesRow y cp) 5 ((bytesRow y cp).size, (bytesRow y cp).size + 1)))
    generalize (w11.alloc (.cells (bytesRow y cp) 5 ((bytesRow y cp).size, (bytesRow y cp).size + 1))).drew = wb at hbuf hbel
    have BF := Lib.hid hbuf
    have BB := Lib.hid (Below.then' B11.out hbel)
    clear hbuf hbel hcv
    obtain ⟨g, hg⟩ : ∃ g, w11.heap.size = g := ⟨_, rfl⟩
    have G0 := Lib.hid (show w.heap.size ≤ g by rw [← hg]; exact B11.out.size)
    rw [hg] at BF
    rw [hg]
    have HG := Lib.hid hg
    clear hg
    refine (vAt_any _ _ _ 9 _ (I.out.below BB.out) (by omega) (by omega)).mono ?_
    rintro e w' ⟨⟨v, rfl, v0, v1⟩, rfl⟩
    have hy0 : ((y.size : Int) == 0) = false := beq_eq_false_iff_ne.2 (by omega)
    obtain ⟨k, hk⟩ : ∃ k : Nat, v % (y.size : Int) = (k : Int) := ⟨(v % (y.size : Int)).toNat, by have := Int.emod_nonneg v (b := (y.size : Int)) (by omega); omega⟩
    have hkl : k < y.size := by have := Int.emod_lt_of_pos v (b := (y.size : Int)) (by omega); rw [hk] at this; omega
    have hkt : v.tmod (y.size : Int) = (k : Int) := by rw [Int.tmod_eq_emod_of_nonneg v0]; exact hk
    obtain ⟨u, u0, u1, hu⟩ := vAt_at a0 len0 cap0 10 _ (I.out.below BB.out) (by omega) (by omega)
    have U := Lib.hid hu
    clear hu
    go_wp2_with fail
    have hkn : k < y.data.toList.length := by rw [← size_list]; exact hkl
    obtain ⟨z, hz⟩ : ∃ z, y.data.toList[k] = z := ⟨_, rfl⟩
    obtain ⟨c, hc, hzc⟩ := xor_other z (1 + (u % 255).toNat) (by omega) (by omega)
    have hcell : wb.cell? ⟨g, k, none⟩ = some (.int .u8 (z.toNat : Int)) := by rw [← hz]; exact (BF.out.2 k hkn).1
    have hfr : wb.frozen? ⟨g, k, none⟩ = false := (BF.out.2 k hkn).2
    have q1 : u.tmod 255 = u % 255 := Int.tmod_eq_emod_of_nonneg u0
    have q2 : IntKind.i64.wrap (1 + u % 255) = 1 + u % 255 := IntWalk.i64_in _ (by omega)
    have q3 : IntKind.u8.wrap (1 + u % 255) = 1 + u % 255 := IntWalk.u8_in _ (by omega)
    have q4 : bits .xor .u8 (z.toNat : Int) (1 + u % 255) = (c.toNat : Int) := by rw [← hc]; congr 1; omega
    have k0 : (0 : Int) ≤ (k : Int) := by omega
    have k1 : (k : Int) < (y.size : Int) := by omega
    have VB := Lib.hid (show okVer (strOf (y.data.toList.set k c)) = false from ver_changed x _ k c SD.out (by rw [strOf_list, YS.out]) (by rw [YS.out]; exact ⟨hkl, by
      have e : y[k] = z := hz
      rw [e]; exact hzc⟩))
    have BS := Lib.hid (show (strOf (y.data.toList.set k c)).size ≤ 1048576 by rw [strOf_size, List.length_set, ← size_list]; omega)
    have HS := Lib.hid (fun q => buf_set wb g y.data.toList k c q BF.out hkn)
    have HB := Lib.hid (fun q => (Below.then' BB.out (bel_drawn wb q)).setCell (p := ⟨g, k, none⟩) G0.out (.int .u8 (c.toNat : Int)))
    clear hz hzc
    have HK := Lib.hid hk
    clear hc hk hkt
    go_region_with (go_at_call 19; refine (U.out _).mono ?_; rintro e w' ⟨rfl, qq, rfl⟩)
    all_goals
      have h12 := HS.out qq
      have hb12 := HB.out qq
      generalize ((wb.drewN qq).setCell ⟨g, k, none⟩ (.int .u8 (c.toNat : Int))) = w12 at h12 hb12
      have hcb := run_back Tryd.underlying22 Tryd.underlying5 Tryd.underlying9 h12 y.size (by rw [List.length_set, ← size_list]) cp
      have B12 := Lib.hid hb12
      clear h12 hb12
      generalize strOf (y.data.toList.set k c) = bS at hcb VB BS
      go_wp2_with fail
      refine (implVerify_no bS _ BS.out VB.out (fun w' h' => tabPow_below T.out (Below.then' B12.out h'))).mono ?_
      rintro e w13 ⟨rfl, hb⟩
      have B13 := Lib.hid (Below.then' B12.out hb)
      clear hb
      have xx : (x.toList == x.toList) = true := by simp
      go_wp2
      go_ret
      exact ⟨rfl, B13.out⟩
  · obtain ⟨rfl, rfl⟩ := read_back n q there OK.out (by rw [S.out]; exact P2.out)
    clear P2
    cases sd
    · have hy0 : y = ⟨#[]⟩ := by rw [← Y.out]; unfold sealText; rw [if_neg (by rw [SD.out]; simp)]
      subst hy0
      go_wp2
      go_ret
      exact ⟨rfl, B10.out⟩
    have YS := Lib.hid (show sealOf x = y by rw [← Y.out]; unfold sealText; rw [if_pos SD.out])
    have hy2 : 2 ≤ y.size ∧ y.size ≤ 4000 := by
      have h1 := ((okSeal_iff x).1 SD.out).2.2
      have h2 := sealOf_size x
      have h3 := (dec_len 5 (ck x.data.toList).toNat (by have := (ck_bd x.data.toList).2; omega)).1
      have h4 : (textOf (ck x.data.toList)).size = (Lib.decDigits (ck x.data.toList).toNat).length := by rw [size_list, textOf_list_pos _ (ck_bd _).1]
      rw [YS.out] at h1 h2
      omega
    have VY := Lib.hid (show okVer y = true by rw [← YS.out]; exact ver_seal x SD.out)
    have PY := Lib.hid (show preOf y = x by rw [← YS.out]; exact pre_seal x SD.out)
    go_wp2_with fail
    refine (implVerify_yes y _ VY.out (fun w' h' => tabPow_below T.out (Below.then' B10.out h'))).mono ?_
    rw [PY.out]
    rintro e w11 ⟨rfl, hb⟩
    have B11 := Lib.hid (Below.then' B10.out hb)
    clear hb
    have hcv := fun (W : World) (s : ByteArray) => run_bytes_of_string (P := Tryd.prog) W 9 22 5 s Tryd.underlying9 Tryd.underlying22 Tryd.underlying5
    go_wp2_with fail
    have hge := grownCap_ge w11 y.size 0 5
    generalize grownCap w11 y.size 0 5 = cp at hge
    have hbuf := buf_new w11 y cp 5
    have hbel := Below.drew ((Below.refl w11.heap.size w11).alloc (Nat.le_refl _) (.cells (bytesRow y cp) 5 ((bytesRow y cp).size, (bytesRow y cp).size + 1)))
    generalize (w11.alloc (.cells (bytesRow y cp) 5 ((bytesRow y cp).size, (bytesRow y cp).size + 1))).drew = wb at hbuf hbel
    have BF := Lib.hid hbuf
    have BB := Lib.hid (Below.then' B11.out hbel)
    clear hbuf hbel hcv
    obtain ⟨g, hg⟩ : ∃ g, w11.heap.size = g := ⟨_, rfl⟩
    have G0 := Lib.hid (show w.heap.size ≤ g by rw [← hg]; exact B11.out.size)
    rw [hg] at BF
    rw [hg]
    have HG := Lib.hid hg
    clear hg
    refine (vAt_any _ _ _ 9 _ (I.out.below BB.out) (by omega) (by omega)).mono ?_
    rintro e w' ⟨⟨v, rfl, v0, v1⟩, rfl⟩
    have hy0 : ((y.size : Int) == 0) = false := beq_eq_false_iff_ne.2 (by omega)
    obtain ⟨k, hk⟩ : ∃ k : Nat, v % (y.size : Int) = (k : Int) := ⟨(v % (y.size : Int)).toNat, by have := Int.emod_nonneg v (b := (y.size : Int)) (by omega); omega⟩
    have hkl : k < y.size := by have := Int.emod_lt_of_pos v (b := (y.size : Int)) (by omega); rw [hk] at this; omega
    have hkt : v.tmod (y.size : Int) = (k : Int) := by rw [Int.tmod_eq_emod_of_nonneg v0]; exact hk
    obtain ⟨u, u0, u1, hu⟩ := vAt_at a0 len0 cap0 10 _ (I.out.below BB.out) (by omega) (by omega)
    have U := Lib.hid hu
    clear hu
    go_wp2_with fail
    have hkn : k < y.data.toList.length := by rw [← size_list]; exact hkl
    obtain ⟨z, hz⟩ : ∃ z, y.data.toList[k] = z := ⟨_, rfl⟩
    obtain ⟨c, hc, hzc⟩ := xor_other z (1 + (u % 255).toNat) (by omega) (by omega)
    have hcell : wb.cell? ⟨g, k, none⟩ = some (.int .u8 (z.toNat : Int)) := by rw [← hz]; exact (BF.out.2 k hkn).1
    have hfr : wb.frozen? ⟨g, k, none⟩ = false := (BF.out.2 k hkn).2
    have q1 : u.tmod 255 = u % 255 := Int.tmod_eq_emod_of_nonneg u0
    have q2 : IntKind.i64.wrap (1 + u % 255) = 1 + u % 255 := IntWalk.i64_in _ (by omega)
    have q3 : IntKind.u8.wrap (1 + u % 255) = 1 + u % 255 := IntWalk.u8_in _ (by omega)
    have q4 : bits .xor .u8 (z.toNat : Int) (1 + u % 255) = (c.toNat : Int) := by rw [← hc]; congr 1; omega
    have k0 : (0 : Int) ≤ (k : Int) := by omega
    have k1 : (k : Int) < (y.size : Int) := by omega
    have VB := Lib.hid (show okVer (strOf (y.data.toList.set k c)) = false from ver_changed x _ k c SD.out (by rw [strOf_list, YS.out]) (by rw [YS.out]; exact ⟨hkl, by
      have e : y[k] = z := hz
      rw [e]; exact hzc⟩))
    have BS := Lib.hid (show (strOf (y.data.toList.set k c)).size ≤ 1048576 by rw [strOf_size, List.length_set, ← size_list]; omega)
    have HS := Lib.hid (fun q => buf_set wb g y.data.toList k c q BF.out hkn)
    have HB := Lib.hid (fun q => (Below.then' BB.out (bel_drawn wb q)).setCell (p := ⟨g, k, none⟩) G0.out (.int .u8 (c.toNat : Int)))
    clear hz hzc
    have HK := Lib.hid hk
    clear hc hk hkt
    go_region_with (go_at_call 19; refine (U.out _).mono ?_; rintro e w' ⟨rfl, qq, rfl⟩)
    all_goals
      have h12 := HS.out qq
      have hb12 := HB.out qq
      generalize ((wb.drewN qq).setCell ⟨g, k, none⟩ (.int .u8 (c.toNat : Int))) = w12 at h12 hb12
      have hcb := run_back Tryd.underlying22 Tryd.underlying5 Tryd.underlying9 h12 y.size (by rw [List.length_set, ← size_list]) cp
      have B12 := Lib.hid hb12
      clear h12 hb12
      generalize strOf (y.data.toList.set k c) = bS at hcb VB BS
      go_wp2_with fail
      refine (implVerify_no bS _ BS.out VB.out (fun w' h' => tabPow_below T.out (Below.then' B12.out h'))).mono ?_
      rintro e w13 ⟨rfl, hb⟩
      have B13 := Lib.hid (Below.then' B12.out hb)
      clear hb
      have xx : (x.toList == x.toList) = true := by simp
      go_wp2
      go_ret
      exact ⟨rfl, B13.out⟩

theorem own : ownKnob Tryd.prog.godebug = none := by kernel_rfl
theorem laidOut : laidOutB Tryd.prog = true := by kernel_rfl
theorem contract (H : Type) (enc : TypeId × Value → H) (W : World) (base : Nat) (args : Array Value) (ds gs : List (DataW H)) (before : List MemPlace)
    (hval0 : ∀ (j : Nat) t v, Tryd.f3.params[j]? = some t → args[j]? = some v → Value.okWide Tryd.prog W .any base t v)
    (hW : DataW.Whole enc Tryd.prog Tryd.f3.params.toList Rows.fnStringsSpec.vars false W args.toList ds gs before) (hL : laidMetH Tryd.prog Rows.fnStringsRow.laid W) (hS : W.ShapedOpen Tryd.prog) :
    Calls Tryd.prog 3 args W fun e W' => ∃ v, e = .returned v ∧ Rows.fnStringsSpec.post enc Tryd.prog Tryd.f3 false true false false W args v W' := by
  have hval : ∀ (j : Nat) t v, Tryd.f3.params[j]? = some t → args[j]? = some v → Value.okWide Tryd.prog W .any base t v := hval0
  have hW' := hW
  obtain ⟨p, q, hA0, hV, rfl, hfz, hnd⟩ := hW
  have hA : DataW.TrodAll enc Tryd.prog W 0 (fun _ => true) true Tryd.f3.params.toList args.toList ds p := hA0
  rw [Tryd.params3] at hA hval
  obtain ⟨v0, vs0, d0, ds0, p0, q0, hargs, rfl, rfl, h0, r0⟩ := trodAll_cons hA
  obtain ⟨rfl, rfl, rfl⟩ := trodAll_nil r0
  obtain rfl : args = #[v0] := by cases args; simp_all
  obtain ⟨rfl, rfl⟩ := trodVars_none hV
  obtain ⟨a0, len0, cap0, rfl⟩ := okWide_slice Tryd.underlying22 (hval 0 22 v0 rfl rfl)
  have k0 := h0
  have lt0 : ∀ x ∈ p0, x.block < W.heap.size := by obtain ⟨m, hm⟩ := k0; exact DataW.trod_lt m _ _ _ hm
  obtain ⟨z0, w0⟩ : ∃ zs, IsRow .u8 W a0 len0 cap0 zs := by
    obtain ⟨fuel, hf⟩ := h0
    rcases open_ints Tryd.underlying22 Tryd.underlying5 (by kernel_rfl) hf with ⟨hcs, _⟩ | ⟨x, l, c, zs, hcs, _, hl, hm, hz, _, hcell, hwz⟩
    · simp [Value.cells] at hcs
      obtain ⟨rfl, rfl, rfl⟩ := hcs
      exact ⟨[], .inl ⟨rfl, rfl, rfl, rfl⟩⟩
    · simp [Value.cells] at hcs
      obtain ⟨rfl, rfl, rfl⟩ := hcs
      exact ⟨zs, .inr ⟨_, rfl, hl, hm, by simpa using hz, hcell, hwz⟩⟩
  clear hA0 hval0
  refine (walk a0 len0 cap0 z0 W w0 hL hS).mono fun e W' ⟨he, bel⟩ => ?_
  subst he
  exact ⟨_, rfl, _, _, _, [], _, [], hW', trodAll_mk1 (shut_bool Tryd.underlying4 _), (trodAll_cons_mk (Below.trod laidOut (by kernel_rfl) (of_decide_eq_true (by kernel_rfl)) k0 bel lt0) trodAll_mk0), rfl, bel.frame _, fun h => by cases h⟩
theorem laid_met (os : Os) : laidMet Tryd.prog Rows.fnStringsRow.laid ((World.doorLaid Tryd.prog 400 os).forCall (fun _ _ => 0) ⟨#[], #[.slice none 0 0], []⟩).memory :=
  laidMet_of_run' 8 (by kernel_rfl) (by kernel_rfl)
theorem reads (os : Os) {H : Type} (enc : TypeId × Value → H) : ∃ places, DataW.whole enc Tryd.prog ((World.doorLaid Tryd.prog 400 os).forCall (fun _ _ => 0) ⟨#[], #[.slice none 0 0], []⟩).memory Tryd.f3.params.toList Rows.fnStringsSpec.vars false #[Value.slice none 0 0].toList 8 = some ([.nil], [], places) :=
  ⟨[], by kernel_rfl⟩
set_option maxRecDepth 100000 in
theorem lifted (os : Os) (started : os.Started) (H : Type) (enc : TypeId × Value → H) (F : Stop.Interp) :
    ReturnsInHanded {} Tryd.checked os 3 .any ((OpenSpec.ofChange Rows.fnStringsSpec).preRow enc Tryd.prog Tryd.f3 Rows.fnStringsRow.domain false Rows.fnStringsRow.laid) (((OpenSpec.ofChange Rows.fnStringsSpec).at F).post enc Tryd.prog Tryd.f3 false true false false) := by
  obtain ⟨places, hx⟩ := reads os enc
  refine returnsInHanded_of_row (C := Tryd.checked) (s := OpenSpec.ofChange Rows.fnStringsSpec) own started (by kernel_rfl) Tryd.func3
    (witness_row_at (enc := enc) (C := Tryd.checked) false (World.doorLaid Tryd.prog 400 os) #[.slice none 0 0] rfl (by kernel_rfl) (by kernel_rfl) (by kernel_rfl)
      (OpenSpec.preRow_of_cond 8 hx (by kernel_rfl) (fun k hk => by cases hk) (by kernel_rfl) (laid_met os))) ?_
  intro W base args ds gs before hval hW _ _ _ hL hS _
  exact contract H enc W base args ds gs before hval hW hL hS
theorem said : Rows.FnStringsSaid :=
  OpenClaim.holds_of_cond 3 Tryd.f3 rfl rfl rfl rfl rfl rfl rfl ⟨rfl, rfl, rfl, rfl, rfl⟩ rfl rfl rfl rfl rfl (by kernel_rfl) Tryd.func3 (by kernel_rfl)
    (of_decide_eq_true (by kernel_rfl)) (by unfold Func.isWrapper; first | (rw [if_pos (by decide +kernel)]; kernel_rfl) | (rw [if_neg (by decide +kernel)]; exact ⟨rfl, rfl⟩))
    (fun os started H enc _ F => by rw [OpenClaim.pre_eq_preRow]; exact lifted os started H enc F)
theorem plain (f : FuncId) (fn : Func) (hf : Tryd.pinned.checked.prog.funcNamed "loop.example/g01060/laws.FnStrings" = some f) (hfn : Tryd.pinned.checked.prog.funcs[f]? = some fn) :
    false = Tryd.pinned.checked.prog.looks [] ∧ ∀ (j : Nat) t, fn.params[j]? = some t → Tryd.pinned.checked.prog.wantsStandIn t = false := by
  obtain rfl : f = 3 := Option.some.inj ((show Tryd.prog.funcNamed "loop.example/g01060/laws.FnStrings" = some 3 by kernel_rfl).symm.trans hf) |>.symm
  obtain rfl : fn = Tryd.f3 := (Option.some.inj (Tryd.func3.symm.trans hfn)).symm
  refine ⟨by kernel_rfl, fun j t ht => ?_⟩
  rw [Tryd.params3] at ht
  have hm := Array.mem_of_getElem? ht
  simp only [List.mem_toArray, List.mem_cons, List.not_mem_nil, or_false] at hm
  subst hm
  exact (show Tryd.prog.wantsStandIn 22 = false by kernel_rfl)
theorem proved : Rows.FnStringsCardSaid :=
  Claim7.holds_tied_plain_at .later [] _ _ _ _ said (fun _ h => by cases h) (by kernel_rfl) (fun _ h => by cases h) fnStrings_row_tie rfl ⟨rfl, rfl⟩ (by kernel_rfl) rfl plain (by kernel_rfl)
#print axioms proved
end Go.Proofs.YtmbmcnmippplaaaDoor.fnStrings
