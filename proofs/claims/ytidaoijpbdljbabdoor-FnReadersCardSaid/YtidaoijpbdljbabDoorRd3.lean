/- Readers: the list in which one is replaced, and what the model's functions give over it. -/
import Derived.Test.YtidaoijpbdljbabDoorRdP
import Derived.Test.YtidaoijpbdljbabDoorAppL
namespace Go.Proofs.YtidaoijpbdljbabDoor
open Go.RowKit

theorem rd_sized_small {xs : List VReader} (h : ∀ s ∈ xs, s.sized) : ∀ s ∈ xs, s.small := fun s hs => sized_smallReader s (h s hs)
theorem l3Cents_any (x : Int) (w : World) :
    Calls Tryd.prog 38 #[.int .i64 x] w fun e w' => e = .returned (.bool (centsB x)) ∧ w = w' := by
  go_enter Tryd.func38, Tryd.ntmps38
  go_wp2_with fail
  refine (l1In_any _ _ _ _).mono ?_
  rintro e w' ⟨rfl, rfl⟩
  go_wp2
  go_ret
  exact ⟨rfl, rfl⟩
/-- A list of readers and whether it is valid. -/
def RdPair (p : List VReader × Bool) (w : World) (e : Ending) (w' : World) : Prop := ∃ v, e = .returned (.tuple #[v, .bool p.2]) ∧ w'.ownsRow w.heap.size 36 5 v p.1.length (cellsReader p.1) ∧ Below w.heap.size w w'
theorem made_own (w : World) (base : Nat) (h : base ≤ w.heap.size) : (w.alloc (.cells #[] 36)).ownsRow base 36 5 (.slice (some ⟨w.heap.size, 0, none⟩) 0 0) ([] : List VReader).length (cellsReader []) :=
  World.ownsRow_made (base := base) (e := 36) (size := 5) w #[] 0 h (Nat.zero_le _) rfl
theorem readers_one (xs : List VReader) : ∀ u ∈ cellsReader xs, u.oneCell' = true := by
  intro u hu
  obtain ⟨s, _, hs⟩ := List.mem_flatMap.1 hu
  exact s.vals_one u hs

set_option maxHeartbeats 3200000 in
set_option maxRecDepth 100000 in
theorem l3With_any (a : Option Addr) (len cap : Nat) (xs : List VReader) (i : Nat) (r : VReader) (w : World) (h : IsReaderS w a len cap xs) (hi' : i < xs.length) (hx : xs.length ≤ 1048576) (hz : ∀ s ∈ xs, s.small) (hr : r.small) :
    Calls Tryd.prog 40 #[.slice a len cap, .int .i64 (i : Int), .agg #[.int .i64 r.Id, .string r.Name, .int .i64 r.Joined, .int .i64 r.Class, .int .i64 r.Fines]] w (RdPair (rdWith xs i r) w) := by
  obtain rfl := h.1
  have hm := h.2.2.1
  have hcl := h.2.1
  unfold maxLen at hm
  obtain ⟨i0, hi, hz0, hz1, hz2⟩ := info_parts infoReader
  have B0 := Lib.hid (bel_al2 w (.cells #[.int .i64 r.Id, .string r.Name, .int .i64 r.Joined, .int .i64 r.Class, .int .i64 r.Fines] 36) (.cells #[] 36))
  have X0 := Lib.hid (HBReader.new w r _ rfl)
  have O0 := made_own (w.alloc (.cells #[.int .i64 r.Id, .string r.Name, .int .i64 r.Joined, .int .i64 r.Class, .int .i64 r.Fines] 36)) (w.heap.size + 1) (by rw [size_al]; omega)
  rw [size_al] at O0
  have SRC := srcReader (h.below B0.out)
  have hsz : ((w.alloc (.cells #[.int .i64 r.Id, .string r.Name, .int .i64 r.Joined, .int .i64 r.Class, .int .i64 r.Fines] 36)).alloc (.cells #[] 36)).heap.size = w.heap.size + 2 := by rw [size_al, size_al]
  have SZ := Lib.hid hsz
  have SM := Lib.hid (show ∀ s ∈ xs.set i r, s.small from fun s hs => (List.mem_or_eq_of_mem_set hs).elim (hz s) (fun e => e ▸ hr))
  clear h hsz hz hr
  go_enter Tryd.func40, Tryd.ntmps40
  go_wp2_with (at_builtin; refine wpList_append_list rfl _ _ 24 rfl (w.heap.size + 1) 36 i0 (.agg #[.int .i64 0, .string ByteArray.empty, .int .i64 0, .int .i64 0, .int .i64 0]) 5 48 Tryd.underlying24 hi hz0 hz1 hz2 rfl (by decide) _ _ _ rfl O0 a xs.length cap (cellsReader xs) rfl SRC (readers_one xs) (by simp; unfold maxLen; omega) (by simp; omega) (by rw [SZ.out]; omega) ?_; intro v' w1 hown1 hgrow1; have X1 := (X0.out.alloc (.cells #[] 36)).grown hgrow1 (own_ne (by omega)); obtain ⟨p0, p1, p2, p3, p4⟩ := X1.cells; have BG := Lib.hid (B0.out.grown hgrow1 (by rw [SZ.out]; omega) (fun k e => by have := own_is e; omega)); rw [List.length_nil, Nat.zero_add, show cellsReader [] ++ cellsReader xs = cellsReader xs from rfl] at hown1; have hlt1 := hown1.lt; have O1 := Lib.hid hown1; obtain ⟨g, cap1, rfl, hg, hn, hcap⟩ := own_some hown1 (by omega); have f0 := O1.out.frozenAt (i * 5); have f1 := O1.out.frozenAt (i * 5 + 1); have f2 := O1.out.frozenAt (i * 5 + 2); have f3 := O1.out.frozenAt (i * 5 + 3); have f4 := O1.out.frozenAt (i * 5 + 4); obtain ⟨u0, d0⟩ := own_cell O1.out (i * 5) (by rw [cellsReader_len]; omega); obtain ⟨u1, d1⟩ := own_cell O1.out (i * 5 + 1) (by rw [cellsReader_len]; omega); obtain ⟨u2, d2⟩ := own_cell O1.out (i * 5 + 2) (by rw [cellsReader_len]; omega); obtain ⟨u3, d3⟩ := own_cell O1.out (i * 5 + 3) (by rw [cellsReader_len]; omega); obtain ⟨u4, d4⟩ := own_cell O1.out (i * 5 + 4) (by rw [cellsReader_len]; omega); have i1 : (i : Int) < (xs.length : Int) := (by omega); have i2 : (0 : Int) ≤ (i : Int) := (by omega); clear hgrow1 hown1 X1)
  have h5 := own_setReader O1.out hi' r
  have B5 := Lib.hid (BG.out.grown h5.2 BG.out.size (fun k e => by cases e; omega))
  have hown5 := h5.1
  rw [show xs.length = (xs.set i r).length from List.length_set.symm] at hown5
  obtain ⟨a5, c5, e5, his, _⟩ := isReaderS_own hown5 SM.out
  cases e5
  have O5 := Lib.hid h5.1
  clear h5 hown5 f0 f1 f2 f3 f4 d0 d1 d2 d3 d4 p0 p1 p2 p3 p4
  rw [List.length_set] at his
  refine (l3Good_any _ _ _ (xs.set i r) _ his).mono ?_
  rintro e w2 ⟨rfl, hb⟩
  have O6 := Lib.hid (ownsRow_below O5.out hb)
  have B6 := Lib.hid (Below.then' B5.out hb)
  clear hb his
  obtain ⟨q, hq⟩ : ∃ q, areRd (xs.set i r) = q := ⟨_, rfl⟩
  rw [hq]
  have Q := Lib.hid hq
  clear hq
  cases q
  · have E := Lib.hid (show rdWith xs i r = ([], false) from by unfold rdWith; rw [Q.out]; rfl)
    have O7 := made_own w2 w.heap.size (by have := B6.out.size; omega)
    have O7 := Lib.hid O7
    go_wp2
    go_ret2
    refine ⟨.slice (some ⟨w2.heap.size, 0, none⟩) 0 0, by rw [E.out]; rfl, by rw [E.out]; exact O7.out, Below.then' B6.out (bel_al1 _ _)⟩
  · have E := Lib.hid (show rdWith xs i r = (xs.set i r, true) from by unfold rdWith; rw [Q.out]; rfl)
    go_wp2
    go_ret2
    refine ⟨.slice (some ⟨g, 0, none⟩) xs.length cap1, by rw [E.out]; rfl, ?_, B6.out⟩
    rw [E.out]
    show World.ownsRow _ _ _ _ _ (xs.set i r).length _
    rw [List.length_set]
    exact ownsRow_base O6.out (by omega)
end Go.Proofs.YtidaoijpbdljbabDoor
