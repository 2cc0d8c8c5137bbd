/- Readers: what the model's functions leave, on. -/
import Derived.Test.YtidaoijpbdljbabDoorRd4
namespace Go.Proofs.YtidaoijpbdljbabDoor
open Go.RowKit

theorem least_any (x y : Int) (w : World) :
    Calls Tryd.prog 39 #[.int .i64 x, .int .i64 y] w fun e w' => e = .returned (.int .i64 (min x y)) ∧ w = w' := by
  by_cases h : x < y
  · go_enter Tryd.func39, Tryd.ntmps39
    go_wp2
    go_ret
    exact ⟨ret_int (by omega), rfl⟩
  · go_enter Tryd.func39, Tryd.ntmps39
    go_wp2
    go_ret
    exact ⟨ret_int (by omega), rfl⟩
theorem most_any (x y : Int) (w : World) :
    Calls Tryd.prog 51 #[.int .i64 x, .int .i64 y] w fun e w' => e = .returned (.int .i64 (max x y)) ∧ w = w' := by
  by_cases h : y < x
  · go_enter Tryd.func51, Tryd.ntmps51
    go_wp2
    go_ret
    exact ⟨ret_int (by omega), rfl⟩
  · go_enter Tryd.func51, Tryd.ntmps51
    go_wp2
    go_ret
    exact ⟨ret_int (by omega), rfl⟩
set_option maxHeartbeats 3200000 in
set_option maxRecDepth 100000 in
theorem specPayFines_any (a : Option Addr) (len cap : Nat) (xs : List VReader) (id c : Int) (w : World) (h : IsReaderS w a len cap xs) (hx : xs.length ≤ 1048576) (hz : ∀ s ∈ xs, s.sized) :
    Calls Tryd.prog 13 #[.slice a len cap, .int .i64 id, .int .i64 c] w (PayFines_Post xs id c w) := by
  have hm := h.2.2.1
  have hcl := h.2.1
  unfold maxLen at hm
  obtain rfl := h.1
  have S := Lib.hid h
  have SM := Lib.hid (rd_sized_small hz)
  clear h hz
  rcases rdSel_ways xs id with ⟨h1, h2⟩ | ⟨i, s, ha, h1, hs, hi, hid, h2⟩
  · have F := Lib.hid h1
    have E := Lib.hid (show rdPay xs id c = ([], 0, false) from by unfold rdPay; rw [h2])
    clear h1 h2
    go_enter Tryd.func13, Tryd.ntmps13
    go_wp2_with fail
    refine (l3Find_any _ _ _ xs id _ S.out).mono ?_
    rintro e w1 ⟨rfl, hb⟩
    rw [F.out]
    have B1 := Lib.hid hb
    have O := Lib.hid (made_own w1 w.heap.size hb.size)
    clear hb
    go_wp2
    go_ret3
    refine ⟨.slice (some ⟨w1.heap.size, 0, none⟩) 0 0, by unfold PayFines_1 PayFines_2; rw [E.out]; rfl, by unfold PayFines_0; rw [E.out]; exact O.out, Below.then' B1.out (bel_al1 _ _)⟩
  · have F := Lib.hid h1
    have H2 := Lib.hid h2
    have HS := Lib.hid hs
    obtain ⟨q, hq⟩ : ∃ q, centsB c = q := ⟨_, rfl⟩
    have Q := Lib.hid hq
    have OK := Lib.hid (rdOk_iff.1 (areRd_ok ha (List.mem_of_getElem? hs)))
    clear h1 h2 hs hq ha hid
    cases q
    · have E := Lib.hid (show rdPay xs id c = ([], 0, false) from by unfold rdPay; rw [H2.out]; simp [Q.out])
      have i0 : ¬ (i : Int) < 0 := by omega
      go_enter Tryd.func13, Tryd.ntmps13
      go_wp2_with fail
      refine (l3Find_any _ _ _ xs id _ S.out).mono ?_
      rintro e w1 ⟨rfl, hb⟩
      rw [F.out]
      have B1 := Lib.hid hb
      have O := Lib.hid (made_own w1 w.heap.size hb.size)
      clear hb
      go_wp2_with fail
      refine (l3Cents_any _ _).mono ?_
      rintro e w' ⟨rfl, rfl⟩
      rw [Q.out]
      go_wp2
      go_ret3
      refine ⟨.slice (some ⟨w1.heap.size, 0, none⟩) 0 0, by unfold PayFines_1 PayFines_2; rw [E.out]; rfl, by unfold PayFines_0; rw [E.out]; exact O.out, Below.then' B1.out (bel_al1 _ _)⟩
    · have i0 : ¬ (i : Int) < 0 := by omega
      obtain ⟨_, hw, _, _, f0, f1⟩ := OK.out
      have c1 : 1 ≤ c ∧ c ≤ 10000 := inB_iff.1 Q.out
      obtain ⟨n, hn⟩ : ∃ n, min c s.Fines = n := ⟨_, rfl⟩
      have n0 : 0 ≤ n := by omega
      have n1 : n ≤ c := by omega
      have n2 : n ≤ s.Fines := by omega
      have v1 : IntKind.i64.wrap (s.Fines - n) = s.Fines - n := IntWalk.i64_in _ (by omega)
      have v2 : IntKind.i64.wrap (c - n) = c - n := IntWalk.i64_in _ (by omega)
      have SR := Lib.hid (show (⟨s.Id, s.Name, s.Joined, s.Class, s.Fines - n⟩ : VReader).small from SM.out s (List.mem_of_getElem? HS.out))
      have E := Lib.hid (show rdPay xs id c = ((rdWith xs i ⟨s.Id, s.Name, s.Joined, s.Class, s.Fines - n⟩).1, c - n, (rdWith xs i ⟨s.Id, s.Name, s.Joined, s.Class, s.Fines - n⟩).2) from by unfold rdPay; rw [H2.out]; simp [Q.out, hn])
      have HN := Lib.hid hn
      clear hn
      clear hw
      go_enter Tryd.func13, Tryd.ntmps13
      go_wp2_with fail
      refine (l3Find_any _ _ _ xs id _ S.out).mono ?_
      rintro e w1 ⟨rfl, hb⟩
      rw [F.out]
      have B1 := Lib.hid hb
      clear hb
      go_wp2_with fail
      refine (l3Cents_any _ _).mono ?_
      rintro e w' ⟨rfl, rfl⟩
      rw [Q.out]
      obtain ⟨b, o, rfl, _, hat⟩ := (S.out.below B1.out).at (by omega)
      obtain ⟨d0, d1, d2, d3, d4, _⟩ := hat i s HS.out
      have i1 : (i : Int) < (xs.length : Int) := by omega
      have i2 : (0 : Int) ≤ (i : Int) := by omega
      have B2 := Lib.hid (Below.then' B1.out (bel_al1 w1 (.cells #[.int .i64 s.Id, .string s.Name, .int .i64 s.Joined, .int .i64 s.Class, .int .i64 (s.Fines - n)] 36)))
      have S2 := Lib.hid (S.out.below B2.out)
      clear hat
      go_wp2_with fail
      refine (least_any c s.Fines _).mono ?_
      rintro e w' ⟨rfl, rfl⟩
      rw [HN.out]
      go_wp2_with fail
      refine (l3With_any _ _ _ xs i ⟨s.Id, s.Name, s.Joined, s.Class, s.Fines - n⟩ _ S2.out hi hx SM.out SR.out).mono ?_
      rintro e w2 ⟨v, rfl, hown, hb⟩
      have B3 := Lib.hid (Below.then' B2.out hb)
      have O := Lib.hid (ownsRow_base hown B2.out.size)
      clear hown hb
      go_wp2
      go_ret3
      refine ⟨v, by unfold PayFines_1 PayFines_2; rw [E.out]; rfl, by unfold PayFines_0; rw [E.out]; exact O.out, B3.out⟩
end Go.Proofs.YtidaoijpbdljbabDoor
