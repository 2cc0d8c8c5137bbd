/- Readers in the program: fines, payments, a raised class. -/
import Derived.Test.YtidaoijpbdljbabRi3
import Derived.Test.YtidaoijpbdljbabUp2
import Derived.Test.YtidaoijpbdljbabRdP
namespace Go.Proofs.Ytidaoijpbdljbab
open Go.RowKit

theorem areRd_set {xs : List VReader} {i : Nat} {s r : VReader} (h : areRd xs = true) (hs : xs[i]? = some s) (e : r.Id = s.Id) : areRd (xs.set i r) = r.ok := by
  have h1 : upB VReader.ok VReader.Id xs = true := by unfold areRd rdUp at h; simp only [Bool.and_eq_true] at h; exact h.1
  have h2 := areRd_len h
  unfold areRd rdUp
  rw [upB_set h1 hs e, List.length_set, decide_eq_true h2, Bool.and_true]
theorem rdWith_ok' {xs : List VReader} {i : Nat} {s r : VReader} (h : areRd xs = true) (hs : xs[i]? = some s) (e : r.Id = s.Id) (ho : r.ok = true) : rdWith xs i r = (xs.set i r, true) := by
  unfold rdWith; rw [areRd_set h hs e, if_pos ho]
theorem rdWith_no {xs : List VReader} {i : Nat} {s r : VReader} (h : areRd xs = true) (hs : xs[i]? = some s) (e : r.Id = s.Id) (ho : r.ok = false) : rdWith xs i r = ([], false) := by
  unfold rdWith; rw [areRd_set h hs e, ho]; rfl
theorem rdOk_sized {s : VReader} (h : s.ok = true) : s.sized := by
  have := (word_size (rdOk_iff.1 h).2.1).2
  unfold VReader.sized; omega
theorem areRd_sized {xs : List VReader} (h : areRd xs = true) : ∀ s ∈ xs, s.sized := fun _ hs => rdOk_sized (areRd_ok h hs)
set_option maxHeartbeats 3200000 in
set_option maxRecDepth 100000 in
theorem implFineReader_any (a : Option Addr) (len cap : Nat) (xs : List VReader) (id c : Int) (w : World) (h : IsReaderS w a len cap xs) (hx : xs.length ≤ 1048576) (hz : ∀ s ∈ xs, s.sized) :
    Calls Try.prog 16 #[.slice a len cap, .int .i64 id, .int .i64 c] w (FineReader_Post xs id c w) := by
  have hm := h.2.2.1
  have hcl := h.2.1
  unfold maxLen at hm
  obtain rfl := h.1
  have S := Lib.hid h
  have HZ := Lib.hid hz
  clear h hz
  rcases rdSel_ways xs id with ⟨h1, h2⟩ | ⟨i, s, ha, h1, hs, hi, hid, h2⟩
  · have F := Lib.hid h1
    have E := Lib.hid (show rdFine xs id c = ([], false) from by unfold rdFine; rw [h2])
    clear h1 h2
    go_enter Try.func16, Try.ntmps16
    go_wp2_with fail
    refine (findReader_any _ _ _ xs id _ S.out).mono ?_
    intro e w1 hp
    obtain ⟨z, rfl, hb⟩ := find_no hp F.out
    have B1 := Lib.hid hb
    clear hb hp
    go_wp2
    go_ret2
    refine ⟨_, by unfold FineReader_1; rw [E.out]; rfl, by unfold FineReader_0; rw [E.out]; exact nil_ownReader _ _, B1.out⟩
  · have F := Lib.hid h1
    have H2 := Lib.hid h2
    have HS := Lib.hid hs
    have HA := Lib.hid ha
    obtain ⟨q, hq⟩ : ∃ q, inB c 1 10000 = q := ⟨_, rfl⟩
    have Q := Lib.hid hq
    have OK := Lib.hid (rdOk_iff.1 (areRd_ok ha (List.mem_of_getElem? hs)))
    clear h1 h2 hs hq ha hid
    go_enter Try.func16, Try.ntmps16
    go_wp2_with fail
    refine (findReader_any _ _ _ xs id _ S.out).mono ?_
    intro e w1 hp
    obtain ⟨rfl, hb⟩ := find_yes hp F.out
    have B1 := Lib.hid hb
    clear hb hp
    go_wp2_with fail
    refine (areIn1 _ _ _ _ _ _ rfl).mono ?_
    rintro e w' ⟨rfl, rfl⟩
    rw [Q.out]
    have B2 := Lib.hid (Below.then' B1.out (bel_al1 w1 (.cells #[.int .i64 c] 3)))
    cases q
    · have E := Lib.hid (show rdFine xs id c = ([], false) from by unfold rdFine centsB; rw [H2.out]; simp [Q.out])
      go_wp2
      go_ret2
      refine ⟨_, by unfold FineReader_1; rw [E.out]; rfl, by unfold FineReader_0; rw [E.out]; exact nil_ownReader _ _, B2.out⟩
    obtain ⟨_, hw, _, _, f0, f1⟩ := OK.out
    have c1 : 1 ≤ c ∧ c ≤ 10000 := inB_iff.1 Q.out
    have v1 : IntKind.i64.wrap (s.Fines + c) = s.Fines + c := IntWalk.i64_in _ (by omega)
    have SR := Lib.hid (show (⟨s.Id, s.Name, s.Joined, s.Class, s.Fines + c⟩ : VReader).sized from HZ.out s (List.mem_of_getElem? HS.out))
    have E := Lib.hid (show rdFine xs id c = rdWith xs i ⟨s.Id, s.Name, s.Joined, s.Class, s.Fines + c⟩ from by unfold rdFine centsB; rw [H2.out]; simp [Q.out])
    obtain ⟨b, o, rfl, hbw, hat⟩ := (S.out.below B2.out).at (by omega)
    obtain ⟨d0, d1, d2, d3, d4, _⟩ := hat i s HS.out
    have i1 : (i : Int) < (xs.length : Int) := by omega
    have i2 : (0 : Int) ≤ (i : Int) := by omega
    clear hat hw
    obtain ⟨p, hp⟩ : ∃ p, (⟨s.Id, s.Name, s.Joined, s.Class, s.Fines + c⟩ : VReader).ok = p := ⟨_, rfl⟩
    have PP := Lib.hid hp
    clear hp
    go_wp2_with fail
    refine (isRd_any ⟨s.Id, s.Name, s.Joined, s.Class, s.Fines + c⟩ _ (sized_smallReader _ SR.out)).mono ?_
    rintro e w3 ⟨rfl, hb⟩
    rw [PP.out]
    have B3 := Lib.hid (Below.then' (Below.then' B2.out (bel_al1 _ _)) hb)
    have X3 := Lib.hid ((BoxReader.new (w1.alloc (.cells #[.int .i64 c] 3)) 81 ⟨s.Id, s.Name, s.Joined, s.Class, s.Fines + c⟩ (w1.heap.size + 1) (size_al _ _)).below hb)
    clear hb d0 d1 d2 d3 d4
    cases p
    · have E2 := Lib.hid (E.out.trans (rdWith_no HA.out HS.out rfl PP.out))
      go_wp2
      go_ret2
      refine ⟨_, by unfold FineReader_1; rw [E2.out]; rfl, by unfold FineReader_0; rw [E2.out]; exact nil_ownReader _ _, B3.out⟩
    · have E2 := Lib.hid (E.out.trans (rdWith_ok' HA.out HS.out rfl PP.out))
      obtain ⟨d0, d1, d2, d3, d4⟩ := X3.out
      have S3 := Lib.hid (S.out.below B3.out)
      go_wp2_with fail
      refine (withReader_any _ _ _ xs i ⟨s.Id, s.Name, s.Joined, s.Class, s.Fines + c⟩ _ S3.out hi hx HZ.out SR.out).mono ?_
      rintro e w4 ⟨v, rfl, hown, hb⟩
      have B4 := Lib.hid (Below.then' B3.out hb)
      have O := Lib.hid (ownsRow_base hown B3.out.size)
      clear hown hb
      go_wp2
      go_ret2
      refine ⟨v, by unfold FineReader_1; rw [E2.out]; rfl, by unfold FineReader_0; rw [E2.out]; exact O.out, B4.out⟩
end Go.Proofs.Ytidaoijpbdljbab
