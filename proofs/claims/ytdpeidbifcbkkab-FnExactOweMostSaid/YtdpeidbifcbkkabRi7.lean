/- Readers in the program: ripe readers, the counts of the classes. -/
import Derived.Test.YtdpeidbifcbkkabRi6
import Derived.Test.YtdpeidbifcbkkabRd9
namespace Go.Proofs.Ytdpeidbifcbkkab
open Go.RowKit

theorem nil_intRow (w : World) (base : Nat) : w.ownsRow base 3 1 (.slice none 0 0) ([] : List Int).length (intCells []) := ⟨by simp [intCells], .inl ⟨rfl, rfl⟩⟩
theorem ripe1_any (s : VReader) (c : Int) (b : Nat) (w : World) (hok : s.ok = true) (hd : dayB c = true) (hc : w.cell? ⟨b, 0, none⟩ = some (.int .i64 c)) :
    Calls Try.prog 59 #[.agg #[.int .i64 s.Id, .string s.Name, .int .i64 s.Joined, .int .i64 s.Class, .int .i64 s.Fines], .pointer (some ⟨b, 0, none⟩)] w fun e w' => e = .returned (.bool (ripeB s c)) ∧ Below w.heap.size w w' := by
  have b1 := bel_al1 w (.cells #[.int .i64 s.Id, .string s.Name, .int .i64 s.Joined, .int .i64 s.Class, .int .i64 s.Fines] 55)
  have g := cell_stay hc b1
  have B1 := Lib.hid b1
  have H1 := Lib.hid hok
  have H2 := Lib.hid hd
  clear hc b1 hok hd
  go_enter Try.func59, Try.ntmps59
  go_wp2_with fail
  refine (isRipe_any s c _ H1.out H2.out).mono ?_
  rintro e w1 ⟨rfl, hb⟩
  have B := Lib.hid (Below.then' B1.out hb)
  clear hb
  go_wp2
  go_ret
  exact ⟨rfl, B.out⟩
set_option maxHeartbeats 3200000 in
set_option maxRecDepth 100000 in
theorem implRipeReaders_any (a : Option Addr) (len cap : Nat) (xs : List VReader) (c : Int) (w : World) (h : IsReaderS w a len cap xs) (_ : xs.length ≤ 1048576) (_ : ∀ s ∈ xs, s.sized) :
    Calls Try.prog 23 #[.slice a len cap, .int .i64 c] w (RipeReaders_Post xs c w) := by
  have b0 := bel_al1 w (.cells #[.int .i64 c] 3)
  have S := Lib.hid (h.below b0)
  have C := Lib.hid (cell_box w (.int .i64 c) 3 _ rfl)
  have B0 := Lib.hid b0
  clear h b0
  obtain ⟨p, hp⟩ : ∃ p, areRd xs = p := ⟨_, rfl⟩
  obtain ⟨q, hq⟩ : ∃ q, dayB c = q := ⟨_, rfl⟩
  have PP := Lib.hid hp
  have QQ := Lib.hid hq
  clear hp hq
  go_enter Try.func23, Try.ntmps23
  go_wp2_with fail
  refine (areRd_any _ _ _ xs _ S.out).mono ?_
  rintro e w1 ⟨rfl, hb⟩
  rw [PP.out]
  have B1 := Lib.hid (Below.then' B0.out hb)
  have S1 := Lib.hid (S.out.below hb)
  have C1 := Lib.hid (cell_stay C.out hb)
  clear hb
  cases p
  · have E0 := Lib.hid (show RipeReaders_0 xs c = [] from by unfold RipeReaders_0; rw [PP.out]; rfl)
    have E1 := Lib.hid (show RipeReaders_1 xs c = false from by unfold RipeReaders_1; rw [PP.out]; rfl)
    go_wp2
    go_ret2
    exact ⟨_, by rw [E1.out]; rfl, by rw [E0.out]; exact nil_intRow _ _, B1.out⟩
  have c1 := C1.out
  go_wp2_with fail
  refine (isDay_any _ _).mono ?_
  rintro e w2 ⟨rfl, hb⟩
  rw [QQ.out]
  have B2 := Lib.hid (Below.then' B1.out hb)
  have S2 := Lib.hid (S1.out.below hb)
  have C2 := Lib.hid (cell_stay C1.out hb)
  clear hb c1
  cases q
  · have E0 := Lib.hid (show RipeReaders_0 xs c = [] from by unfold RipeReaders_0; rw [PP.out, QQ.out]; rfl)
    have E1 := Lib.hid (show RipeReaders_1 xs c = false from by unfold RipeReaders_1; rw [PP.out, QQ.out]; rfl)
    go_wp2
    go_ret2
    exact ⟨_, by rw [E1.out]; rfl, by rw [E0.out]; exact nil_intRow _ _, B2.out⟩
  have hl10 := areRd_len PP.out
  have E0 := Lib.hid (show RipeReaders_0 xs c = (xs.filter fun s => ripeB s c).map VReader.Id from by unfold RipeReaders_0; rw [PP.out, QQ.out]; rfl)
  have E1 := Lib.hid (show RipeReaders_1 xs c = true from by unfold RipeReaders_1; rw [PP.out, QQ.out]; rfl)
  go_wp2_with fail
  refine (idsWhereReader_any 58 59 VReader.Id #[.pointer (some ⟨w.heap.size, 0, none⟩)] (fun s => ripeB s c) _ _ _ xs _ S2.out (by omega) (enters_fn Try.func58 (by kernel_rfl) (by kernel_rfl)) (enters_fn Try.func59 (by kernel_rfl) (by kernel_rfl)) (fun W s => readerId_any s W) (fun W s hs _ hW => by
    have h1 := ripe1_any s c w.heap.size W (areRd_ok PP.out hs) QQ.out (cell_stay C2.out hW)
    simpa using h1)).mono ?_
  rintro e w3 ⟨v, rfl, hown, hb⟩
  have B3 := Lib.hid (Below.then' B2.out hb)
  have O := Lib.hid (ownsRow_base hown B2.out.size)
  clear hb hown
  go_wp2
  go_ret2
  exact ⟨v, by rw [E1.out]; rfl, by rw [E0.out]; exact O.out, B3.out⟩
set_option maxHeartbeats 3200000 in
set_option maxRecDepth 100000 in
theorem implClassCounts_any (a : Option Addr) (len cap : Nat) (xs : List VReader) (w : World) (h : IsReaderS w a len cap xs) (_ : xs.length ≤ 1048576) (_ : ∀ s ∈ xs, s.sized) :
    Calls Try.prog 28 #[.slice a len cap] w (ClassCounts_Post xs w) := by
  have hm := h.2.2.1
  have hcl := h.2.1
  unfold maxLen at hm
  obtain rfl := h.1
  obtain ⟨i0, hi, hz0, hz1, hz2⟩ := info_parts infoInt
  have S := Lib.hid h
  clear h
  obtain ⟨p, hp⟩ : ∃ p, areRd xs = p := ⟨_, rfl⟩
  have PP := Lib.hid hp
  clear hp
  go_enter Try.func28, Try.ntmps28
  go_wp2_with fail
  refine (areRd_any _ _ _ xs _ S.out).mono ?_
  rintro e w1 ⟨rfl, hb⟩
  rw [PP.out]
  have B1 := Lib.hid hb
  clear hb
  cases p
  · have E0 := Lib.hid (show ClassCounts_0 xs = [] from by unfold ClassCounts_0; rw [PP.out]; rfl)
    have E1 := Lib.hid (show ClassCounts_1 xs = false from by unfold ClassCounts_1; rw [PP.out])
    go_wp2
    go_ret2
    exact ⟨_, by rw [E1.out]; rfl, by rw [E0.out]; exact nil_intRow _ _, B1.out⟩
  have hl10 := areRd_len PP.out
  have E0 := Lib.hid (show ClassCounts_0 xs = [cnt xs 1 xs.length, cnt xs 2 xs.length, cnt xs 3 xs.length] from by unfold ClassCounts_0; rw [PP.out]; rfl)
  have E1 := Lib.hid (show ClassCounts_1 xs = true from by unfold ClassCounts_1; rw [PP.out])
  have hb1 := B1.out.size
  go_wp2_with (refine wpList_make_full _ rfl _ _ 33 rfl w.heap.size 3 i0 (.int .i64 0) 1 Try.underlying33 hi hz0 hz1 .i64 .i64 _ _ 3 rfl rfl rfl rfl (by rw [hz2]; omega) (by unfold maxLen; omega) hb1 ?_; intro w2 hown hgrow)
  have R0 : w2.ownsRow w.heap.size 3 1 (.slice (some ⟨w1.heap.size, 0, none⟩) 3 3) 3 (intCells [cnt xs 1 0, cnt xs 2 0, cnt xs 3 0]) := by rw [cnt_zero, cnt_zero, cnt_zero, ← made3]; exact hown
  have B2 := Lib.hid (Below.grown B1.out hgrow hb1 (fun k e => by cases e))
  have R0 := Lib.hid R0
  clear hown hgrow
  go_loopw [13] (fun i wr => ∃ k : Nat, k ≤ xs.length ∧ i = .int .i64 k ∧ wr.ownsRow w.heap.size 3 1 (.slice (some ⟨w1.heap.size, 0, none⟩) 3 3) 3 (intCells [cnt xs 1 k, cnt xs 2 k, cnt xs 3 k]) ∧ Below w.heap.size w wr) (fun i _ => xs.length - (intOf i).toNat)
  case atStart => exact ⟨0, Nat.zero_le _, rfl, R0.out, B2.out⟩
  case round =>
    obtain ⟨k, hk, rfl, hown, hbel⟩ := hrel
    have B := Lib.hid hbel
    by_cases hlt : k < xs.length
    · obtain ⟨s, hs⟩ : ∃ s, xs[k]? = some s := ⟨xs[k]'hlt, List.getElem?_eq_getElem _⟩
      obtain ⟨b, o, rfl, hbw, hat⟩ := (S.out.below hbel).at (by omega)
      obtain ⟨c0, c1, c2, c3, c4, _⟩ := hat k s hs
      have OKS := (rdOk_iff.1 (areRd_ok PP.out (List.mem_of_getElem? hs))).2.2.2.1
      have N1 := Lib.hid (cnt_succ 1 hs)
      have N2 := Lib.hid (cnt_succ 2 hs)
      have N3 := Lib.hid (cnt_succ 3 hs)
      have hi0 : (0 : Int) ≤ (k : Int) := by omega
      have hi1 : (k : Int) < (xs.length : Int) := by omega
      have hn1 := cnt_le xs 1 k
      have hn2 := cnt_le xs 2 k
      have hn3 := cnt_le xs 3 k
      have BX := Lib.hid (Below.then' B.out (bel_al1 wr (.cells #[.int .i64 s.Id, .string s.Name, .int .i64 s.Joined, .int .i64 s.Class, .int .i64 s.Fines] 55)))
      have O := Lib.hid (hown.alloc (.cells #[.int .i64 s.Id, .string s.Name, .int .i64 s.Joined, .int .i64 s.Class, .int .i64 s.Fines] 55))
      have f0 := O.out.frozenAt 0
      have f1 := O.out.frozenAt 1
      have f2 := O.out.frozenAt 2
      have d0 := O.out.cells (g := w1.heap.size) rfl 0 _ rfl
      have d1 := O.out.cells (g := w1.heap.size) rfl 1 _ rfl
      have d2 := O.out.cells (g := w1.heap.size) rfl 2 _ rfl
      rw [add_plain, Nat.zero_add] at d0 d1 d2
      generalize cnt xs 1 k = n1 at *
      generalize cnt xs 2 k = n2 at *
      generalize cnt xs 3 k = n3 at *
      generalize hcl1 : s.Class = cl at *
      have hsz := BX.out.size
      clear hs hat hbel S hown
      rcases (show cl = 1 ∨ cl = 2 ∨ cl = 3 by omega) with rfl | rfl | rfl
      · have T := O.out.stored 0 (.int .i64 (n1 + 1))
        go_wp2
        go_roundw
        case rel => exact ⟨k + 1, by omega, by go_num, by rw [N1.out, N2.out, N3.out, if_pos rfl, if_neg (by decide), if_neg (by decide)]; exact T.1, BX.out.grown T.2 hsz (fun j e => (O.out.lt j e).1)⟩
        case measure => simp [intOf]; omega
      · have T := O.out.stored 1 (.int .i64 (n2 + 1))
        go_wp2
        go_roundw
        case rel => exact ⟨k + 1, by omega, by go_num, by rw [N1.out, N2.out, N3.out, if_neg (by decide), if_pos rfl, if_neg (by decide)]; exact T.1, BX.out.grown T.2 hsz (fun j e => (O.out.lt j e).1)⟩
        case measure => simp [intOf]; omega
      · have T := O.out.stored 2 (.int .i64 (n3 + 1))
        go_wp2
        go_roundw
        case rel => exact ⟨k + 1, by omega, by go_num, by rw [N1.out, N2.out, N3.out, if_neg (by decide), if_neg (by decide), if_pos rfl]; exact T.1, BX.out.grown T.2 hsz (fun j e => (O.out.lt j e).1)⟩
        case measure => simp [intOf]; omega
    · obtain rfl : k = xs.length := by omega
      have O := Lib.hid hown
      clear hbel hown
      go_wp2
      go_ret2
      exact ⟨_, by rw [E1.out]; rfl, by rw [E0.out]; exact O.out, B.out⟩
end Go.Proofs.Ytdpeidbifcbkkab
