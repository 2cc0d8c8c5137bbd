/- Readers in the program: who owes most, the walk. -/
import Derived.Test.YtidaoijpbdljbabRi8
namespace Go.Proofs.Ytidaoijpbdljbab
open Go.RowKit

theorem owe_take_succ {xs : List VReader} {k : Nat} {s : VReader} (h : (oweAll xs)[k]? = some s) : ((oweAll xs).take (k + 1)).map VReader.Id = ((oweAll xs).take k).map VReader.Id ++ [s.Id] := by
  rw [List.take_add_one, h, List.map_append]; rfl
set_option maxHeartbeats 6400000 in
set_option maxRecDepth 100000 in
theorem implOweMost_any (a : Option Addr) (len cap : Nat) (xs : List VReader) (n : Int) (w : World) (h : IsReaderS w a len cap xs) (_ : xs.length ≤ 1048576) (hz : ∀ s ∈ xs, s.sized) :
    Calls Try.prog 25 #[.slice a len cap, .int .i64 n] w (OweMost_Post xs n w) := by
  have hm := h.2.2.1
  have hcl := h.2.1
  unfold maxLen at hm
  obtain rfl := h.1
  obtain ⟨i0, hi, hz0, hz1, hz2⟩ := info_parts infoInt
  have S := Lib.hid h
  have HZ := Lib.hid hz
  clear h hz
  obtain ⟨p, hp⟩ : ∃ p, areRd xs = p := ⟨_, rfl⟩
  obtain ⟨q, hq⟩ : ∃ q, inB n 0 10 = q := ⟨_, rfl⟩
  have PP := Lib.hid hp
  have QQ := Lib.hid hq
  clear hp hq
  go_enter Try.func25, Try.ntmps25
  go_wp2_with fail
  refine (areRd_any _ _ _ xs _ S.out).mono ?_
  rintro e w1 ⟨rfl, hb⟩
  rw [PP.out]
  have B1 := Lib.hid hb
  clear hb
  cases p
  · have E0 := Lib.hid (show OweMost_0 xs n = [] from by unfold OweMost_0; rw [PP.out]; rfl)
    have E1 := Lib.hid (show OweMost_1 xs n = false from by unfold OweMost_1; rw [PP.out]; rfl)
    go_wp2
    go_ret2
    exact ⟨_, by rw [E1.out]; rfl, by rw [E0.out]; exact nil_intRow _ _, B1.out⟩
  go_wp2_with fail
  refine (areIn1 _ _ _ _ _ _ rfl).mono ?_
  rintro e w' ⟨rfl, rfl⟩
  rw [QQ.out]
  have B2 := Lib.hid (Below.then' B1.out (bel_al1 w1 (.cells #[.int .i64 n] 3)))
  have S2 := Lib.hid (S.out.below B2.out)
  cases q
  · have E0 := Lib.hid (show OweMost_0 xs n = [] from by unfold OweMost_0 nB; rw [PP.out, QQ.out]; rfl)
    have E1 := Lib.hid (show OweMost_1 xs n = false from by unfold OweMost_1 nB; rw [PP.out, QQ.out]; rfl)
    go_wp2
    go_ret2
    exact ⟨_, by rw [E1.out]; rfl, by rw [E0.out]; exact nil_intRow _ _, B2.out⟩
  have hl10 := areRd_len PP.out
  have hn := inB_iff.1 QQ.out
  have E0 := Lib.hid (show OweMost_0 xs n = ((oweAll xs).take n.toNat).map VReader.Id from by unfold OweMost_0 nB; rw [PP.out, QQ.out]; rfl)
  have E1 := Lib.hid (show OweMost_1 xs n = true from by unfold OweMost_1 nB; rw [PP.out, QQ.out]; rfl)
  obtain ⟨m, hmm⟩ : ∃ m : Nat, (m : Int) = min n (xs.length : Int) := ⟨(min n (xs.length : Int)).toNat, by omega⟩
  have hm0 : m ≤ xs.length := by omega
  have MT := Lib.hid (show (oweAll xs).take n.toNat = (oweAll xs).take m from by
    by_cases h : n ≤ (xs.length : Int)
    · rw [show m = n.toNat by omega]
    · have e := oweAll_len xs
      rw [List.take_of_length_le (by omega), List.take_of_length_le (by omega)])
  go_wp2_with fail
  refine (cloneReader_any _ _ _ xs _ S2.out (by omega)).mono ?_
  rintro e w3 ⟨v, rfl, hown, hb⟩
  have B3 := Lib.hid (Below.then' B2.out hb)
  have O3 := Lib.hid (ownsRow_base hown B2.out.size)
  clear hown hb
  go_wp2_with fail
  refine (sortOwe_any _ v xs _ O3.out PP.out).mono ?_
  rintro e w4 ⟨rfl, his, hg⟩
  have B4 := Lib.hid (B3.out.grown hg B3.out.size (fun k e => (O3.out.lt k e).1))
  obtain ⟨a4, c4, rfl⟩ : ∃ a4 c4, v = .slice a4 xs.length c4 := by
    rcases O3.out.2 with ⟨e1, e2⟩ | ⟨g, c, _, e1, _⟩
    · exact ⟨none, 0, by rw [e1, e2]⟩
    · exact ⟨_, _, e1⟩
  have hT := (his a4 c4 rfl).take hm0
  have hc4 := hT.2.2.1
  have hc5 := (his a4 c4 rfl).2.1
  unfold maxLen at hc4
  have ST := Lib.hid hT
  have LT := Lib.hid hT.1
  have HM := Lib.hid hmm
  clear his hg hT
  have hmin : min n (xs.length : Int) = (m : Int) := hmm.symm
  clear hmm
  go_wp2_with fail
  refine (idsOfReader_any 81 VReader.Id _ _ _ ((oweAll xs).take m) _ ST.out (by rw [List.length_take]; omega) (enters_fn Try.func81 (by kernel_rfl) (by kernel_rfl)) (fun W s => readerId_any s W)).mono ?_
  rintro e w5 ⟨v, rfl, hown, hb⟩
  have B5 := Lib.hid (Below.then' B4.out hb)
  have O5 := Lib.hid (ownsRow_base hown B4.out.size)
  clear hown hb
  go_wp2
  go_ret2
  exact ⟨v, by rw [E1.out]; rfl, by rw [E0.out, MT.out]; exact O5.out, B5.out⟩
end Go.Proofs.Ytidaoijpbdljbab
