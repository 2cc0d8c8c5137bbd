/- Readers in the program: ripe readers, the counts of the classes. -/
import Derived.Test.YtidaoijpbdljbabDoorRi6
import Derived.Test.YtidaoijpbdljbabDoorRd9
namespace Go.Proofs.YtidaoijpbdljbabDoor
open Go.RowKit

theorem nil_intRow (w : World) (base : Nat) : w.ownsRow base 3 1 (.slice none 0 0) ([] : List Int).length (intCells []) := ⟨by simp [intCells], .inl ⟨rfl, rfl⟩⟩
theorem ripe1_any (s : VReader) (c : Int) (b : Nat) (w : World) (hok : s.ok = true) (hd : dayB c = true) (hc : w.cell? ⟨b, 0, none⟩ = some (.int .i64 c)) :
    Calls Tryd.prog 48 #[.agg #[.int .i64 s.Id, .string s.Name, .int .i64 s.Joined, .int .i64 s.Class, .int .i64 s.Fines], .pointer (some ⟨b, 0, none⟩)] w fun e w' => e = .returned (.bool (ripeB s c)) ∧ Below w.heap.size w w' := by
  have b1 := bel_al1 w (.cells #[.int .i64 s.Id, .string s.Name, .int .i64 s.Joined, .int .i64 s.Class, .int .i64 s.Fines] 36)
  have g := cell_stay hc b1
  have B1 := Lib.hid b1
  have H1 := Lib.hid hok
  have H2 := Lib.hid hd
  clear hc b1 hok hd
  go_enter Tryd.func48, Tryd.ntmps48
  go_wp2_with fail
  refine (isRipe_any s c _ H1.out H2.out).mono ?_
  rintro e w1 ⟨rfl, hb⟩
  have B := Lib.hid (Below.then' B1.out hb)
  clear hb
  go_wp2
  go_ret
  exact ⟨rfl, B.out⟩
set_option maxHeartbeats 3200000 in
set_option maxRecDepth 100000 in
theorem implRipeReaders_any (a : Option Addr) (len cap : Nat) (xs : List VReader) (c : Int) (w : World) (h : IsReaderS w a len cap xs) (_ : xs.length ≤ 1048576) (_ : ∀ s ∈ xs, s.sized) :
    Calls Tryd.prog 17 #[.slice a len cap, .int .i64 c] w (RipeReaders_Post xs c w) := by
  have b0 := bel_al1 w (.cells #[.int .i64 c] 3)
  have S := Lib.hid (h.below b0)
  have C := Lib.hid (cell_box w (.int .i64 c) 3 _ rfl)
  have B0 := Lib.hid b0
  clear h b0
  obtain ⟨p, hp⟩ : ∃ p, areRd xs = p := ⟨_, rfl⟩
  obtain ⟨q, hq⟩ : ∃ q, dayB c = q := ⟨_, rfl⟩
  have PP := Lib.hid hp
  have QQ := Lib.hid hq
  clear hp hq
  go_enter Tryd.func17, Tryd.ntmps17
  go_wp2_with fail
  refine (areRd_any _ _ _ xs _ S.out).mono ?_
  rintro e w1 ⟨rfl, hb⟩
  rw [PP.out]
  have B1 := Lib.hid (Below.then' B0.out hb)
  have S1 := Lib.hid (S.out.below hb)
  have C1 := Lib.hid (cell_stay C.out hb)
  clear hb
  cases p
  · have E0 := Lib.hid (show RipeReaders_0 xs c = [] from by unfold RipeReaders_0; rw [PP.out]; rfl)
    have E1 := Lib.hid (show RipeReaders_1 xs c = false from by unfold RipeReaders_1; rw [PP.out]; rfl)
    go_wp2
    go_ret2
    exact ⟨_, by rw [E1.out]; rfl, by rw [E0.out]; exact nil_intRow _ _, B1.out⟩
  have c1 := C1.out
  go_wp2_with fail
  refine (isDay_any _ _).mono ?_
  rintro e w2 ⟨rfl, hb⟩
  rw [QQ.out]
  have B2 := Lib.hid (Below.then' B1.out hb)
  have S2 := Lib.hid (S1.out.below hb)
  have C2 := Lib.hid (cell_stay C1.out hb)
  clear hb c1
  cases q
  · have E0 := Lib.hid (show RipeReaders_0 xs c = [] from by unfold RipeReaders_0; rw [PP.out, QQ.out]; rfl)
    have E1 := Lib.hid (show RipeReaders_1 xs c = false from by unfold RipeReaders_1; rw [PP.out, QQ.out]; rfl)
    go_wp2
    go_ret2
    exact ⟨_, by rw [E1.out]; rfl, by rw [E0.out]; exact nil_intRow _ _, B2.out⟩
  have hl10 := areRd_len PP.out
  have E0 := Lib.hid (show RipeReaders_0 xs c = (xs.filter fun s => ripeB s c).map VReader.Id from by unfold RipeReaders_0; rw [PP.out, QQ.out]; rfl)
  have E1 := Lib.hid (show RipeReaders_1 xs c = true from by unfold RipeReaders_1; rw [PP.out, QQ.out]; rfl)
  go_wp2_with fail
  refine (idsWhereReader_any 47 48 VReader.Id #[.pointer (some ⟨w.heap.size, 0, none⟩)] (fun s => ripeB s c) _ _ _ xs _ S2.out (by omega) (enters_fn Tryd.func47 (by kernel_rfl) (by kernel_rfl)) (enters_fn Tryd.func48 (by kernel_rfl) (by kernel_rfl)) (fun W s => readerId_any s W) (fun W s hs _ hW => by
    have h1 := ripe1_any s c w.heap.size W (areRd_ok PP.out hs) QQ.out (cell_stay C2.out hW)
    simpa using h1)).mono ?_
  rintro e w3 ⟨v, rfl, hown, hb⟩
  have B3 := Lib.hid (Below.then' B2.out hb)
  have O := Lib.hid (ownsRow_base hown B2.out.size)
  clear hb hown
  go_wp2
  go_ret2
  exact ⟨v, by rw [E1.out]; rfl, by rw [E0.out]; exact O.out, B3.out⟩
end Go.Proofs.YtidaoijpbdljbabDoor
