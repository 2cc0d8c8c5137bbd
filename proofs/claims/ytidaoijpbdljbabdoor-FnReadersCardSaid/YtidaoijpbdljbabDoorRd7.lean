/- Readers: the ripe ones, and who joins. In the model. -/
import Derived.Test.YtidaoijpbdljbabDoorRd6
namespace Go.Proofs.YtidaoijpbdljbabDoor
open Go.RowKit

set_option maxHeartbeats 3200000 in
set_option maxRecDepth 100000 in
theorem specRipeReaders_any (a : Option Addr) (len cap : Nat) (xs : List VReader) (c : Int) (w : World) (h : IsReaderS w a len cap xs) (_ : xs.length ≤ 1048576) (_ : ∀ s ∈ xs, s.sized) :
    Calls Tryd.prog 18 #[.slice a len cap, .int .i64 c] w (RipeReaders_Post xs c w) := by
  have hm := h.2.2.1
  have hcl := h.2.1
  unfold maxLen at hm
  obtain rfl := h.1
  obtain ⟨i0, hi, hz0, hz1, hz2⟩ := info_parts infoInt
  have B0 := Lib.hid (bel_al1 w (.cells #[] 3))
  have O0 := Lib.hid (World.ownsRow_made (base := w.heap.size) (e := 3) (size := 1) w #[] 0 (Nat.le_refl _) (Nat.zero_le _) rfl)
  have S0 := Lib.hid (h.below B0.out)
  have S := Lib.hid h
  clear h
  obtain ⟨p, hp⟩ : ∃ p, areRd xs = p := ⟨_, rfl⟩
  obtain ⟨q, hq⟩ : ∃ q, dayB c = q := ⟨_, rfl⟩
  have PP := Lib.hid hp
  have QQ := Lib.hid hq
  clear hp hq
  go_enter Tryd.func18, Tryd.ntmps18
  go_wp2_with fail
  refine (l3Good_any _ _ _ xs _ S0.out).mono ?_
  rintro e w1 ⟨rfl, hb⟩
  rw [PP.out]
  have B1 := Lib.hid (Below.then' B0.out hb)
  have O1 := Lib.hid (ownsRow_below O0.out hb)
  clear hb
  cases p
  · have E0 := Lib.hid (show RipeReaders_0 xs c = [] from by unfold RipeReaders_0; rw [PP.out]; rfl)
    have E1 := Lib.hid (show RipeReaders_1 xs c = false from by unfold RipeReaders_1; rw [PP.out]; rfl)
    go_wp2
    go_ret2
    exact ⟨_, by rw [E1.out]; rfl, by rw [E0.out]; exact O1.out, B1.out⟩
  go_wp2_with fail
  refine (l2Day_any _ _).mono ?_
  rintro e w' ⟨rfl, rfl⟩
  rw [QQ.out]
  cases q
  · have E0 := Lib.hid (show RipeReaders_0 xs c = [] from by unfold RipeReaders_0; rw [PP.out, QQ.out]; rfl)
    have E1 := Lib.hid (show RipeReaders_1 xs c = false from by unfold RipeReaders_1; rw [PP.out, QQ.out]; rfl)
    go_wp2
    go_ret2
    exact ⟨_, by rw [E1.out]; rfl, by rw [E0.out]; exact O1.out, B1.out⟩
  have hl10 := areRd_len PP.out
  have E0 := Lib.hid (show RipeReaders_0 xs c = (xs.filter fun s => ripeB s c).map VReader.Id from by unfold RipeReaders_0; rw [PP.out, QQ.out]; rfl)
  have E1 := Lib.hid (show RipeReaders_1 xs c = true from by unfold RipeReaders_1; rw [PP.out, QQ.out]; rfl)
  go_wp2
  go_loopw [7, 6] (fun i o wr => ∃ k : Nat, k ≤ xs.length ∧ i = .int .i64 k ∧ wr.ownsRow w.heap.size 3 1 o (((xs.take k).filter fun s => ripeB s c).map VReader.Id).length (intCells (((xs.take k).filter fun s => ripeB s c).map VReader.Id)) ∧ Below w.heap.size w wr) (fun i _ _ => xs.length - (intOf i).toNat)
  case atStart => exact ⟨0, Nat.zero_le _, rfl, O1.out, B1.out⟩
  case round =>
    obtain ⟨k, hk, rfl, hown, hbel⟩ := hrel
    have O := Lib.hid hown
    have B := Lib.hid hbel
    clear hown
    by_cases hlt : k < xs.length
    · obtain ⟨s, hs⟩ : ∃ s, xs[k]? = some s := ⟨xs[k]'hlt, List.getElem?_eq_getElem _⟩
      obtain ⟨b, o, rfl, hbw, hat⟩ := (S.out.below hbel).at (by omega)
      obtain ⟨c0, c1, c2, c3, c4, _⟩ := hat k s hs
      have OKS := Lib.hid (areRd_ok PP.out (List.mem_of_getElem? hs))
      have FS := Lib.hid (show ((xs.take (k + 1)).filter fun s => ripeB s c).map VReader.Id = ((xs.take k).filter fun s => ripeB s c).map VReader.Id ++ (if ripeB s c = true then [s.Id] else []) from by
        rw [filter_snoc' (fun s => ripeB s c) hs, List.map_append]
        split <;> rfl)
      obtain ⟨G, hG⟩ : ∃ G, ((xs.take k).filter fun s => ripeB s c).map VReader.Id = G := ⟨_, rfl⟩
      have hgl : G.length ≤ 10 := by rw [← hG, List.length_map]; exact Nat.le_trans (filter_len' _ xs k) (by omega)
      have O2 := O.out
      rw [hG] at O2 FS
      have O := Lib.hid O2
      obtain ⟨r, hr⟩ : ∃ r, ripeB s c = r := ⟨_, rfl⟩
      have RR := Lib.hid hr
      have hi0 : (0 : Int) ≤ (k : Int) := by omega
      have hi1 : (k : Int) < (xs.length : Int) := by omega
      have hsz := B.out.size
      clear hs hat hbel hG hr O2
      go_wp2_with fail
      refine (l3Ripe_any s c _ OKS.out QQ.out).mono ?_
      rintro e w2 ⟨rfl, hb⟩
      rw [RR.out]
      have B2 := Lib.hid (Below.then' B.out hb)
      have O2 := Lib.hid (ownsRow_below O.out hb)
      have c0 := (hb.cell (p := ⟨b, _, none⟩) hbw).trans c0
      have hs2 := hb.size
      clear hb
      cases r
      · go_wp2
        go_roundw
        case rel => exact ⟨k + 1, by omega, by go_num, by rw [FS.out, RR.out]; simpa using O2.out, B2.out⟩
        case measure => simp [intOf]; omega
      · have hown3 := O2.out.alloc (.cells #[.int .i64 s.Id] 3)
        go_wp2_with (at_builtin; refine wpList_append_own _ rfl _ _ 39 rfl w.heap.size 3 i0 (.int .i64 0) 1 8 Tryd.underlying39 hi hz0 hz1 hz2 rfl (by decide) _ _ _ rfl hown3 ⟨w2.heap.size, 0, none⟩ 1 1 [.int .i64 s.Id] rfl rfl (cell_one _ _ _) (fun x hx => by simp at hx; subst hx; rfl) (by unfold maxLen; omega) (by omega) (by simp; omega) ?_; intro v' w4 hown' hgrow4 hnil4)
        go_roundw
        case rel =>
          refine ⟨k + 1, by omega, by go_num, ?_, (Below.then' B2.out (bel_al1 _ _)).grown hgrow4 (by simp; omega) (fun j e => (hown3.lt j e).1)⟩
          rw [FS.out, RR.out, if_pos rfl, intCells_snoc]
          simpa using hown'
        case measure => simp [intOf]; omega
    · obtain rfl : k = xs.length := by omega
      have O2 := O.out
      rw [List.take_of_length_le (Nat.le_refl _)] at O2
      have O3 := Lib.hid O2
      clear O2 hbel
      go_wp2
      go_ret2
      exact ⟨_, by rw [E1.out]; rfl, by rw [E0.out]; exact O3.out, B.out⟩
end Go.Proofs.YtidaoijpbdljbabDoor
