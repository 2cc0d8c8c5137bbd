/- Texts in one: Rp, ReaderR, Rq, Rq2. -/
import Derived.Test.YtidaoijpbdljbabGreatDoorM7
import Derived.Test.YtidaoijpbdljbabGreatDoorM1
import Derived.Laws.OwnMore
import Derived.WalkLawsBesides
namespace Go.Proofs.YtidaoijpbdljbabGreatDoor
open Go.RowKit

def mSp : ByteArray := ⟨#[32]⟩
def mCl : ByteArray := ⟨#[32, 99]⟩
def mSi : ByteArray := ⟨#[32, 115, 105, 110, 99, 101, 32]⟩
def mOw : ByteArray := ⟨#[32, 111, 119, 101, 115, 32]⟩
/-- What the program guesses. -/
def candI (s : ByteArray) : VReader :=
  ⟨(parseV (cutB s mSp).1).1, (cutB (cutB s mSp).2.1 mCl).1, (parseV (cutB (cutB (cutB (cutB s mSp).2.1 mCl).2.1 mSi).2.1 mOw).1).1, (parseV (cutB (cutB (cutB s mSp).2.1 mCl).2.1 mSi).1).1, (parseV (cutB (cutB (cutB (cutB s mSp).2.1 mCl).2.1 mSi).2.1 mOw).2.1).1⟩
def owesL (r : VReader) : List UInt8 := if 0 < r.Fines then [32, 111, 119, 101, 115, 32] ++ (textOf r.Fines).data.toList else []
theorem rdText_list (r : VReader) : (rdText r).data.toList = (textOf r.Id).data.toList ++ ([32] ++ (r.Name.data.toList ++ ([32, 99] ++ ((textOf r.Class).data.toList ++ ([32, 115, 105, 110, 99, 101, 32] ++ ((textOf r.Joined).data.toList ++ owesL r)))))) := by
  unfold rdText rdBase owesL
  split <;> simp
theorem word_no {s : ByteArray} (h : wordB s = true) {c : UInt8} (hc : c.toNat < 97 ∨ 122 < c.toNat) : c ∉ s.data.toList := by
  unfold wordB at h
  simp only [Bool.and_eq_true, List.all_eq_true] at h
  intro hm
  have := h.1 c hm
  simp [lowB] at this
  omega
theorem cutB_at {s t m r : ByteArray} (c : UInt8) (p : Nat) (hm : m.data.toList[p]? = some c) (hp : ∀ j, j < p → m.data.toList[j]? ≠ some c) (ht : c ∉ t.data.toList) (hs : s.data.toList = t.data.toList ++ (m.data.toList ++ r.data.toList)) : cutB s m = (t, r, true) := by
  unfold cutB
  rw [hs, cut_at _ _ _ c p hm hp ht]
theorem cutB_none {s m : ByteArray} (c : UInt8) (p : Nat) (hm : m.data.toList[p]? = some c) (ht : c ∉ s.data.toList) : cutB s m = (s, ByteArray.empty, false) := by
  have hi : Lib.index s.data.toList m.data.toList = -1 := Lib.index_none fun j _ => by
    rw [Bool.eq_false_iff]
    intro h
    obtain ⟨r, hr⟩ := occ_of h
    apply ht
    have : c ∈ s.data.toList.drop j := by
      rw [hr]; exact List.mem_append_left _ (List.mem_of_getElem? hm)
    exact List.mem_of_mem_drop this
  unfold cutB Lib.cut
  rw [if_neg (by omega)]
  rfl
def owesB (r : VReader) : ByteArray := strOf (owesL r)
theorem candI_of {s : ByteArray} {r : VReader} (hok : r.ok = true) (h : rdText r = s) : candI s = r := by
  obtain ⟨⟨a0, a1⟩, hw, ⟨b0, b1⟩, ⟨c0, c1⟩, ⟨d0, d1⟩⟩ := rdOk_iff.1 hok
  have hl : s.data.toList = _ := (congrArg (·.data.toList) h).symm.trans (rdText_list r)
  have e1 : cutB s mSp = (textOf r.Id, strOf (r.Name.data.toList ++ ([32, 99] ++ ((textOf r.Class).data.toList ++ ([32, 115, 105, 110, 99, 101, 32] ++ ((textOf r.Joined).data.toList ++ owesL r))))), true) :=
    cutB_at 32 0 rfl (by omega) (text_digs (by omega) (by decide)) (by rw [hl, strOf_list]; rfl)
  have e2 : cutB (strOf (r.Name.data.toList ++ ([32, 99] ++ ((textOf r.Class).data.toList ++ ([32, 115, 105, 110, 99, 101, 32] ++ ((textOf r.Joined).data.toList ++ owesL r)))))) mCl = (r.Name, strOf ((textOf r.Class).data.toList ++ ([32, 115, 105, 110, 99, 101, 32] ++ ((textOf r.Joined).data.toList ++ owesL r))), true) :=
    cutB_at 32 0 rfl (by omega) (word_no hw (by decide)) (by rw [strOf_list, strOf_list]; rfl)
  have e3 : cutB (strOf ((textOf r.Class).data.toList ++ ([32, 115, 105, 110, 99, 101, 32] ++ ((textOf r.Joined).data.toList ++ owesL r)))) mSi = (textOf r.Class, strOf ((textOf r.Joined).data.toList ++ owesL r), true) :=
    cutB_at 32 0 rfl (by omega) (text_digs (by omega) (by decide)) (by rw [strOf_list, strOf_list]; rfl)
  have e4 : cutB (strOf ((textOf r.Joined).data.toList ++ owesL r)) mOw = (textOf r.Joined, if 0 < r.Fines then textOf r.Fines else ByteArray.empty, decide (0 < r.Fines)) := by
    by_cases hf : 0 < r.Fines
    · rw [if_pos hf, decide_eq_true hf]
      exact cutB_at 32 0 rfl (by omega) (text_digs b0 (by decide)) (by rw [strOf_list]; unfold owesL; rw [if_pos hf]; rfl)
    · rw [if_neg hf, decide_eq_false hf]
      have : strOf ((textOf r.Joined).data.toList ++ owesL r) = textOf r.Joined := bytes_ext (by rw [strOf_list]; unfold owesL; rw [if_neg hf, List.append_nil])
      rw [this]
      exact cutB_none 32 0 rfl (text_digs b0 (by decide))
  have p1 := parseV_text (n := r.Id) (by omega) (by omega)
  have p2 := parseV_text (n := r.Class) (by omega) (by omega)
  have p3 := parseV_text (n := r.Joined) (by omega) (by omega)
  have p4 : (parseV (if 0 < r.Fines then textOf r.Fines else ByteArray.empty)).1 = r.Fines := by
    by_cases hf : 0 < r.Fines
    · rw [if_pos hf, parseV_text (by omega) (by omega)]
    · rw [if_neg hf, show r.Fines = 0 by omega]
      rcases parseV_is ByteArray.empty with ⟨_, h0, h1, h2⟩ | ⟨h0, _, _⟩
      · exfalso
        have := congrArg ByteArray.size h2
        rw [size_list, size_list] at this
        by_cases hn : 0 ≤ (parseV ByteArray.empty).1
        · rw [textOf_list_pos _ hn] at this
          have hd := (dec_len 5 (parseV ByteArray.empty).1.toNat (by omega)).1
          simp at this; omega
        · rw [textOf_list_neg _ (by omega)] at this; simp at this
      · first | exact h0 | omega
  unfold candI
  rw [e1]; simp only
  rw [e2]; simp only
  rw [e3]; simp only
  rw [e4]; simp only
  rw [p1, p2, p3, p4]
/-- The reader whose text it is. -/
def rdRead (s : ByteArray) : Option VReader := if (candI s).ok = true ∧ (rdText (candI s)).data.toList = s.data.toList then some (candI s) else none
theorem rdRead_of {s : ByteArray} {r : VReader} (hok : r.ok = true) (h : rdText r = s) : rdRead s = some r := by
  have e := candI_of hok h
  unfold rdRead
  rw [e, if_pos ⟨hok, by rw [h]⟩]
theorem rdRead_sound {s : ByteArray} {r : VReader} (h : rdRead s = some r) : r.ok = true ∧ rdText r = s := by
  unfold rdRead at h
  split at h
  · rename_i hc
    cases h
    exact ⟨hc.1, bytes_ext hc.2⟩
  · cases h
theorem rdRead_no {s : ByteArray} (h : rdRead s = none) (r : VReader) (hok : r.ok = true) : rdText r ≠ s := fun e => by rw [rdRead_of hok e] at h; cases h
end Go.Proofs.YtidaoijpbdljbabGreatDoor
namespace Go.Proofs.YtidaoijpbdljbabGreatDoor
open Go.RowKit
theorem resultsReader1 {fn : Func} {tm : Array Value} {a b : Nat} {w : World} {s : VReader} (hf : fn.results = #[.cell a 25]) (ha : tm.getD a undef = .pointer (some ⟨b, 0, none⟩)) (h : HBReader w b s) :
    (results fn tm).run Tryz.prog w = .ok (.agg #[.int .i64 s.Id, .string s.Name, .int .i64 s.Joined, .int .i64 s.Class, .int .i64 s.Fines]) w := by
  obtain ⟨h0, h1, h2, h3, h4⟩ := h.cells
  simp only [Array.getD_eq_getD_getElem?] at ha
  simp [results, hf, ha, go_sem, h0, h1, h2, h3, h4]
theorem resultsReader2 {fn : Func} {tm : Array Value} {a b c : Nat} {w : World} {s : VReader} {v : Value} (hf : fn.results = #[.cell a 25, .tmp c]) (ha : tm.getD a undef = .pointer (some ⟨b, 0, none⟩)) (hc : tm.getD c undef = v) (h : HBReader w b s) :
    (results fn tm).run Tryz.prog w = .ok (.tuple #[.agg #[.int .i64 s.Id, .string s.Name, .int .i64 s.Joined, .int .i64 s.Class, .int .i64 s.Fines], v]) w := by
  obtain ⟨h0, h1, h2, h3, h4⟩ := h.cells
  simp only [Array.getD_eq_getD_getElem?] at ha hc
  simp [results, hf, ha, hc, go_sem, h0, h1, h2, h3, h4]
end Go.Proofs.YtidaoijpbdljbabGreatDoor
namespace Go.Proofs.YtidaoijpbdljbabGreatDoor
open Go.RowKit

def rd0 : VReader := ⟨0, ByteArray.empty, 0, 0, 0⟩
theorem HBReader.keep {w w' : World} {b : Nat} {s : VReader} (h : HBReader w b s) (hb : Below w.heap.size w w') : HBReader w' b s := h.below hb
set_option maxHeartbeats 6400000 in
set_option maxRecDepth 100000 in
theorem guessReader_any (s : ByteArray) (x : Int) (w : World) (hs : s.size ≤ 1048576) (ht : TabPow w) (hx : w.cell? ⟨1, 0, none⟩ = some (.int .i64 x)) :
    Calls Tryz.prog 31 #[.string s] w fun e w' => e = .returned (.agg #[.int .i64 (candI s).Id, .string (candI s).Name, .int .i64 (candI s).Joined, .int .i64 (candI s).Class, .int .i64 (candI s).Fines]) ∧ Below w.heap.size w w' := by
  obtain ⟨p, hp⟩ : ∃ p, cutB s mSp = p := ⟨_, rfl⟩
  obtain ⟨q, hq⟩ : ∃ q, cutB p.2.1 mCl = q := ⟨_, rfl⟩
  obtain ⟨r, hr⟩ : ∃ r, cutB q.2.1 mSi = r := ⟨_, rfl⟩
  obtain ⟨o, ho⟩ : ∃ o, cutB r.2.1 mOw = o := ⟨_, rfl⟩
  have z1 := cut_size s mSp
  have z2 := cut_size p.2.1 mCl
  have z3 := cut_size q.2.1 mSi
  have z4 := cut_size r.2.1 mOw
  rw [hp] at z1; rw [hq] at z2; rw [hr] at z3; rw [ho] at z4
  obtain ⟨n1, hn1⟩ : ∃ n, parseV p.1 = n := ⟨_, rfl⟩
  obtain ⟨n2, hn2⟩ : ∃ n, parseV r.1 = n := ⟨_, rfl⟩
  obtain ⟨n3, hn3⟩ : ∃ n, parseV o.1 = n := ⟨_, rfl⟩
  obtain ⟨n4, hn4⟩ : ∃ n, parseV o.2.1 = n := ⟨_, rfl⟩
  have E := Lib.hid (show candI s = ⟨n1.1, q.1, n3.1, n2.1, n4.1⟩ from by unfold candI; rw [hp, hq, hr, ho, hn1, hn2, hn3, hn4])
  have B0 := Lib.hid (bel_al1 w (.cells #[.int .i64 0, .string ByteArray.empty, .int .i64 0, .int .i64 0, .int .i64 0] 25))
  have Z0 := Lib.hid (HBReader.new w rd0 _ rfl)
  have T := Lib.hid ht
  have X := Lib.hid hx
  have Hp := Lib.hid hp
  have Hq := Lib.hid hq
  have Hr := Lib.hid hr
  have Ho := Lib.hid ho
  have H1 := Lib.hid hn1
  have H2 := Lib.hid hn2
  have H3 := Lib.hid hn3
  have H4 := Lib.hid hn4
  clear hp hq hr ho hn1 hn2 hn3 hn4 ht hx
  go_enter Tryz.func31, Tryz.ntmps31
  go_wp2_with fail
  refine (cut_any s mSp x _ hs (keepCell X.out B0.out)).mono ?_
  rintro e w1 ⟨rfl, hb⟩
  rw [Hp.out]
  have B1 := Lib.hid (Below.then' B0.out hb)
  have Z1 := Lib.hid (Z0.out.below hb)
  clear hb
  go_wp2_with fail
  refine (cut_any p.2.1 mCl x _ (by omega) (keepCell X.out B1.out)).mono ?_
  rintro e w2 ⟨rfl, hb⟩
  rw [Hq.out]
  have B2 := Lib.hid (Below.then' B1.out hb)
  have Z2 := Lib.hid (Z1.out.below hb)
  clear hb
  go_wp2_with fail
  refine (cut_any q.2.1 mSi x _ (by omega) (keepCell X.out B2.out)).mono ?_
  rintro e w3 ⟨rfl, hb⟩
  rw [Hr.out]
  have B3 := Lib.hid (Below.then' B2.out hb)
  have Z3 := Lib.hid (Z2.out.below hb)
  clear hb
  go_wp2_with fail
  refine (cut_any r.2.1 mOw x _ (by omega) (keepCell X.out B3.out)).mono ?_
  rintro e w4 ⟨rfl, hb⟩
  rw [Ho.out]
  have B4 := Lib.hid (Below.then' B3.out hb)
  have Z4 := Lib.hid (Z3.out.below hb)
  clear hb
  have hlt : w.heap.size < w4.heap.size := Z4.out.lt
  have hne : w.heap.size ≠ w4.heap.size := by omega
  have hle : w.heap.size ≤ w4.heap.size := by omega
  have B5 := Lib.hid (Below.then' B4.out (bel_al1 w4 (.cells #[.int .i64 0, .string q.1, .int .i64 0, .int .i64 0, .int .i64 0] 25)))
  have Z5 := Lib.hid (Z4.out.alloc (.cells #[.int .i64 0, .string q.1, .int .i64 0, .int .i64 0, .int .i64 0] 25))
  have R5 := Lib.hid (HBReader.new w4 ⟨0, q.1, 0, 0, 0⟩ _ rfl)
  go_wp2_with fail
  refine (implParseV p.1 _ (by omega) (tabPow_below T.out B5.out)).mono ?_
  rintro e w6 ⟨rfl, hb⟩
  rw [H1.out]
  have B6 := Lib.hid (Below.then' B5.out hb)
  have Z6 := Lib.hid (Z5.out.below hb)
  have R6 := Lib.hid (R5.out.below hb)
  clear hb
  obtain ⟨c0, c1, c2, c3, c4⟩ := R6.out.cells
  have f0 := R6.out.free 0
  have B7 := Lib.hid (B6.out.setCell (p := ⟨w4.heap.size, 0, none⟩) hle (.int .i64 n1.1))
  have Z7 := Lib.hid (Z6.out.other (j := 0) hne (.int .i64 n1.1))
  have R7 := Lib.hid (R6.out.set0 n1.1)
  go_wp2_with fail
  refine (implParseV r.1 _ (by omega) (tabPow_below T.out B7.out)).mono ?_
  rintro e w8 ⟨rfl, hb⟩
  rw [H2.out]
  have B8 := Lib.hid (Below.then' B7.out hb)
  have Z8 := Lib.hid (Z7.out.below hb)
  have R8 := Lib.hid (R7.out.below hb)
  clear hb c0 c1 c2 c3 c4 f0
  obtain ⟨c0, c1, c2, c3, c4⟩ := R8.out.cells
  have f3 := R8.out.free 3
  have B9 := Lib.hid (B8.out.setCell (p := ⟨w4.heap.size, 3, none⟩) hle (.int .i64 n2.1))
  have Z9 := Lib.hid (Z8.out.other (j := 3) hne (.int .i64 n2.1))
  have R9 := Lib.hid (R8.out.set3 n2.1)
  go_wp2_with fail
  refine (implParseV o.1 _ (by omega) (tabPow_below T.out B9.out)).mono ?_
  rintro e w10 ⟨rfl, hb⟩
  rw [H3.out]
  have B10 := Lib.hid (Below.then' B9.out hb)
  have Z10 := Lib.hid (Z9.out.below hb)
  have R10 := Lib.hid (R9.out.below hb)
  clear hb c0 c1 c2 c3 c4 f3
  obtain ⟨c0, c1, c2, c3, c4⟩ := R10.out.cells
  have f2 := R10.out.free 2
  have B11 := Lib.hid (B10.out.setCell (p := ⟨w4.heap.size, 2, none⟩) hle (.int .i64 n3.1))
  have Z11 := Lib.hid (Z10.out.other (j := 2) hne (.int .i64 n3.1))
  have R11 := Lib.hid (R10.out.set2 n3.1)
  go_wp2_with fail
  refine (implParseV o.2.1 _ (by omega) (tabPow_below T.out B11.out)).mono ?_
  rintro e w12 ⟨rfl, hb⟩
  rw [H4.out]
  have B12 := Lib.hid (Below.then' B11.out hb)
  have Z12 := Lib.hid (Z11.out.below hb)
  have R12 := Lib.hid (R11.out.below hb)
  clear hb c0 c1 c2 c3 c4 f2
  obtain ⟨c0, c1, c2, c3, c4⟩ := R12.out.cells
  have f4 := R12.out.free 4
  have B13 := Lib.hid (B12.out.setCell (p := ⟨w4.heap.size, 4, none⟩) hle (.int .i64 n4.1))
  obtain ⟨d0, d1, d2, d3, d4⟩ := Z12.out.cells
  have g0 := Z12.out.free 0
  have g1 := Z12.out.free 1
  have g2 := Z12.out.free 2
  have g3 := Z12.out.free 3
  have g4 := Z12.out.free 4
  have hne2 : ¬ w4.heap.size = w.heap.size := by omega
  have RES := Lib.hid ((Z12.out.other (j := 4) hne (.int .i64 n4.1)).setAll ⟨n1.1, q.1, n3.1, n2.1, n4.1⟩)
  go_wp2
  refine bodyPost_ret (resultsReader1 rfl rfl RES.out) rfl ⟨?_, ?_⟩
  · rw [E.out]
  · exact ((((B13.out.setCell (by simp) _).setCell (by simp) _).setCell (by simp) _).setCell (by simp) _).setCell (by simp) _
end Go.Proofs.YtidaoijpbdljbabGreatDoor
namespace Go.Proofs.YtidaoijpbdljbabGreatDoor
open Go.RowKit

def ParseReader_0 (s : ByteArray) : VReader := match rdRead s with | some r => r | none => rd0
def ParseReader_1 (s : ByteArray) : Bool := match rdRead s with | some _ => true | none => false
def ParseReader_Post (z0 : ByteArray) (w : World) (e : Ending) (w' : World) : Prop :=
  e = .returned (.tuple #[.agg #[.int .i64 (ParseReader_0 z0).Id, .string (ParseReader_0 z0).Name, .int .i64 (ParseReader_0 z0).Joined, .int .i64 (ParseReader_0 z0).Class, .int .i64 (ParseReader_0 z0).Fines], .bool (ParseReader_1 z0)]) ∧ Below w.heap.size w w'
theorem parse_some {s : ByteArray} {r : VReader} (h : rdRead s = some r) : ParseReader_0 s = r ∧ ParseReader_1 s = true := by unfold ParseReader_0 ParseReader_1; rw [h]; exact ⟨rfl, rfl⟩
theorem parse_none {s : ByteArray} (h : rdRead s = none) : ParseReader_0 s = rd0 ∧ ParseReader_1 s = false := by unfold ParseReader_0 ParseReader_1; rw [h]; exact ⟨rfl, rfl⟩
theorem candI_sized {s : ByteArray} (hs : s.size ≤ 1048576) : (candI s).sized := by
  have z1 := cut_size s mSp
  have z2 := cut_size (cutB s mSp).2.1 mCl
  unfold VReader.sized candI
  show (cutB (cutB s mSp).2.1 mCl).1.size ≤ 1048576
  omega
theorem read_yes {s : ByteArray} (h1 : (candI s).ok = true) (h2 : rdText (candI s) = s) : rdRead s = some (candI s) := by
  unfold rdRead; rw [if_pos ⟨h1, by rw [h2]⟩]
theorem read_no1 {s : ByteArray} (h1 : (candI s).ok = false) : rdRead s = none := by unfold rdRead; rw [if_neg (by rw [h1]; simp)]
theorem read_no2 {s : ByteArray} (h2 : rdText (candI s) ≠ s) : rdRead s = none := by unfold rdRead; rw [if_neg (fun h => h2 (bytes_ext h.2))]
theorem str_cloneR (s : ByteArray) (w : World) (hs : s.size ≤ 1048576) :
    Calls Tryz.prog 32 #[.string s] w fun e w' => e = .returned (.string s) ∧ Below w.heap.size w w' := by
  go_enter Tryz.func32, Tryz.ntmps32
  go_wp2_with (go_at_call 64; refine (Tryz.stringslite_Clone _ _ (by omega)).mono ?_; rintro e w' ⟨rfl, hb⟩)
  go_ret
  exact ⟨rfl, hb⟩
set_option maxHeartbeats 6400000 in
set_option maxRecDepth 100000 in
theorem implParseReader_any (s : ByteArray) (x : Int) (w : World) (hs : s.size ≤ 1048576) (ht : TabPow w) (hx : w.cell? ⟨1, 0, none⟩ = some (.int .i64 x)) :
    Calls Tryz.prog 9 #[.string s] w (ParseReader_Post s w) := by
  have SC := Lib.hid (candI_sized hs)
  obtain ⟨c, hc⟩ : ∃ c, candI s = c := ⟨_, rfl⟩
  have HC := Lib.hid hc
  rw [hc] at SC
  have B0 := Lib.hid (bel_al1 w (.cells #[.int .i64 0, .string ByteArray.empty, .int .i64 0, .int .i64 0, .int .i64 0] 25))
  have Z0 := Lib.hid (HBReader.new w rd0 _ rfl)
  have T := Lib.hid ht
  have X := Lib.hid hx
  clear ht hx hc
  go_enter Tryz.func9, Tryz.ntmps9
  go_wp2_with fail
  refine (guessReader_any s x _ hs (tabPow_below T.out B0.out) (keepCell X.out B0.out)).mono ?_
  rintro e w1 ⟨rfl, hb⟩
  rw [HC.out]
  have B1 := Lib.hid (Below.then' B0.out hb)
  have Z1 := Lib.hid (Z0.out.below hb)
  clear hb
  have hlt : w.heap.size < w1.heap.size := Z1.out.lt
  have hne : w.heap.size ≠ w1.heap.size := by omega
  have hne2 : ¬ w1.heap.size = w.heap.size := by omega
  have hle : w.heap.size ≤ w1.heap.size := by omega
  have B2 := Lib.hid (Below.then' B1.out (bel_al1 w1 (.cells #[.int .i64 c.Id, .string c.Name, .int .i64 c.Joined, .int .i64 c.Class, .int .i64 c.Fines] 25)))
  have Z2 := Lib.hid (Z1.out.alloc (.cells #[.int .i64 c.Id, .string c.Name, .int .i64 c.Joined, .int .i64 c.Class, .int .i64 c.Fines] 25))
  have R2 := Lib.hid (HBReader.new w1 c _ rfl)
  go_wp2_with fail
  refine (implReaderText_any c _ SC.out (tabPow_below T.out B2.out)).mono ?_
  rintro e w3 ⟨rfl, hb⟩
  have B3 := Lib.hid (Below.then' B2.out hb)
  have Z3 := Lib.hid (Z2.out.below hb)
  have R3 := Lib.hid (R2.out.below hb)
  clear hb
  obtain ⟨d0, d1, d2, d3, d4⟩ := Z3.out.cells
  have g0 := Z3.out.free 0
  have g1 := Z3.out.free 1
  have g2 := Z3.out.free 2
  have g3 := Z3.out.free 3
  have g4 := Z3.out.free 4
  cases hok : c.ok with
  | false =>
    have E := Lib.hid (parse_none (read_no1 (by rw [HC.out]; exact hok)))
    obtain ⟨e1, e2⟩ := rdText_no hok
    rw [e1, e2]
    clear e1 e2 hok
    go_wp2
    refine bodyPost_ret (resultsReader2 rfl rfl rfl (Z3.out.setAll rd0)) rfl ⟨?_, ?_⟩
    · first | (rw [E.out.1, E.out.2]; done) | (rw [E.out.1, E.out.2]; rfl)
    · exact ((((B3.out.setCell (by simp) _).setCell (by simp) _).setCell (by simp) _).setCell (by simp) _).setCell (by simp) _
  | true =>
    obtain ⟨e1, e2⟩ := rdText_yes hok
    rw [e1, e2]
    clear e1 e2
    have OK := Lib.hid hok
    clear hok
    by_cases heq : rdText c = s
    · have E := Lib.hid (parse_some (read_yes (by rw [HC.out]; exact OK.out) (by rw [HC.out]; exact heq)))
      rw [HC.out] at E
      have t1 := eq_testT heq
      have NS := Lib.hid (show c.Name.size ≤ 1048576 from SC.out)
      clear heq
      obtain ⟨c0, c1, c2, c3, c4⟩ := R3.out.cells
      go_wp2_with fail
      refine (str_cloneR c.Name _ NS.out).mono ?_
      rintro e w4 ⟨rfl, hb⟩
      have B4 := Lib.hid (Below.then' B3.out hb)
      have Z4 := Lib.hid (Z3.out.below hb)
      have R4 := Lib.hid (R3.out.below hb)
      clear hb d0 d1 d2 d3 d4 g0 g1 g2 g3 g4 c0 c1 c2 c3 c4 t1
      obtain ⟨d0, d1, d2, d3, d4⟩ := Z4.out.cells
      have g0 := Z4.out.free 0
      have g1 := Z4.out.free 1
      have g2 := Z4.out.free 2
      have g3 := Z4.out.free 3
      have g4 := Z4.out.free 4
      obtain ⟨c0, c1, c2, c3, c4⟩ := R4.out.cells
      have f1 := R4.out.free 1
      have B5 := Lib.hid (B4.out.setCell (p := ⟨w1.heap.size, 1, none⟩) hle (.string c.Name))
      have RES := Lib.hid ((Z4.out.other (j := 1) hne (.string c.Name)).setAll c)
      go_wp2
      refine bodyPost_ret (resultsReader2 rfl rfl rfl RES.out) rfl ⟨?_, ?_⟩
      · first | (rw [E.out.1, E.out.2]; done) | (rw [E.out.1, E.out.2]; rfl)
      · exact ((((B5.out.setCell (by simp) _).setCell (by simp) _).setCell (by simp) _).setCell (by simp) _).setCell (by simp) _
    · have E := Lib.hid (parse_none (read_no2 (by rw [HC.out]; exact heq)))
      have t1 := ne_testT heq
      clear heq
      go_wp2
      refine bodyPost_ret (resultsReader2 rfl rfl rfl (Z3.out.setAll rd0)) rfl ⟨?_, ?_⟩
      · first | (rw [E.out.1, E.out.2]; done) | (rw [E.out.1, E.out.2]; rfl)
      · exact ((((B3.out.setCell (by simp) _).setCell (by simp) _).setCell (by simp) _).setCell (by simp) _).setCell (by simp) _
end Go.Proofs.YtidaoijpbdljbabGreatDoor
