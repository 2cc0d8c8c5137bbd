/- Readers in the program: who owes most, the walk. -/
import Derived.Test.YtdpeidbifcbkkabRi8
namespace Go.Proofs.Ytdpeidbifcbkkab
open Go.RowKit

theorem owe_take_succ {xs : List VReader} {k : Nat} {s : VReader} (h : (oweAll xs)[k]? = some s) : ((oweAll xs).take (k + 1)).map VReader.Id = ((oweAll xs).take k).map VReader.Id ++ [s.Id] := by
  rw [List.take_add_one, h, List.map_append]; rfl
set_option maxHeartbeats 6400000 in
set_option maxRecDepth 100000 in
theorem implOweMost_any (a : Option Addr) (len cap : Nat) (xs : List VReader) (n : Int) (w : World) (h : IsReaderS w a len cap xs) (_ : xs.length ≤ 1048576) (hz : ∀ s ∈ xs, s.sized) :
    Calls Try.prog 30 #[.slice a len cap, .int .i64 n] w (OweMost_Post xs n w) := by
  have hm := h.2.2.1
  have hcl := h.2.1
  unfold maxLen at hm
  obtain rfl := h.1
  obtain ⟨i0, hi, hz0, hz1, hz2⟩ := info_parts infoInt
  have S := Lib.hid h
  have HZ := Lib.hid hz
  clear h hz
  obtain ⟨p, hp⟩ : ∃ p, areRd xs = p := ⟨_, rfl⟩
  obtain ⟨q, hq⟩ : ∃ q, inB n 0 10 = q := ⟨_, rfl⟩
  have PP := Lib.hid hp
  have QQ := Lib.hid hq
  clear hp hq
  go_enter Try.func30, Try.ntmps30
  go_wp2_with fail
  refine (areRd_any _ _ _ xs _ S.out).mono ?_
  rintro e w1 ⟨rfl, hb⟩
  rw [PP.out]
  have B1 := Lib.hid hb
  clear hb
  cases p
  · have E0 := Lib.hid (show OweMost_0 xs n = [] from by unfold OweMost_0; rw [PP.out]; rfl)
    have E1 := Lib.hid (show OweMost_1 xs n = false from by unfold OweMost_1; rw [PP.out]; rfl)
    go_wp2
    go_ret2
    exact ⟨_, by rw [E1.out]; rfl, by rw [E0.out]; exact nil_intRow _ _, B1.out⟩
  go_wp2_with fail
  refine (areIn1 _ _ _ _ _ _ rfl).mono ?_
  rintro e w' ⟨rfl, rfl⟩
  rw [QQ.out]
  have B2 := Lib.hid (Below.then' B1.out (bel_al1 w1 (.cells #[.int .i64 n] 3)))
  have S2 := Lib.hid (S.out.below B2.out)
  cases q
  · have E0 := Lib.hid (show OweMost_0 xs n = [] from by unfold OweMost_0 nB; rw [PP.out, QQ.out]; rfl)
    have E1 := Lib.hid (show OweMost_1 xs n = false from by unfold OweMost_1 nB; rw [PP.out, QQ.out]; rfl)
    go_wp2
    go_ret2
    exact ⟨_, by rw [E1.out]; rfl, by rw [E0.out]; exact nil_intRow _ _, B2.out⟩
  have hl10 := areRd_len PP.out
  have hn := inB_iff.1 QQ.out
  have E0 := Lib.hid (show OweMost_0 xs n = ((oweAll xs).take n.toNat).map VReader.Id from by unfold OweMost_0 nB; rw [PP.out, QQ.out]; rfl)
  have E1 := Lib.hid (show OweMost_1 xs n = true from by unfold OweMost_1 nB; rw [PP.out, QQ.out]; rfl)
  obtain ⟨m, hmm⟩ : ∃ m : Nat, (m : Int) = min n (xs.length : Int) := ⟨(min n (xs.length : Int)).toNat, by omega⟩
  have hm0 : m ≤ xs.length := by omega
  have MT := Lib.hid (show (oweAll xs).take n.toNat = (oweAll xs).take m from by
    by_cases h : n ≤ (xs.length : Int)
    · rw [show m = n.toNat by omega]
    · have e := oweAll_len xs
      rw [List.take_of_length_le (by omega), List.take_of_length_le (by omega)])
  go_wp2_with fail
  refine (cloneReader_any _ _ _ xs _ S2.out (by omega)).mono ?_
  rintro e w3 ⟨v, rfl, hown, hb⟩
  have B3 := Lib.hid (Below.then' B2.out hb)
  have O3 := Lib.hid (ownsRow_base hown B2.out.size)
  clear hown hb
  go_wp2_with fail
  refine (sortOwe_any _ v xs _ O3.out PP.out).mono ?_
  rintro e w4 ⟨rfl, his, hg⟩
  have B4 := Lib.hid (B3.out.grown hg B3.out.size (fun k e => (O3.out.lt k e).1))
  obtain ⟨a4, c4, rfl⟩ : ∃ a4 c4, v = .slice a4 xs.length c4 := by
    rcases O3.out.2 with ⟨e1, e2⟩ | ⟨g, c, _, e1, _⟩
    · exact ⟨none, 0, by rw [e1, e2]⟩
    · exact ⟨_, _, e1⟩
  have hT := (his a4 c4 rfl).take hm0
  have hc4 := hT.2.2.1
  have hc5 := (his a4 c4 rfl).2.1
  unfold maxLen at hc4
  have ST := Lib.hid hT
  have LT := Lib.hid hT.1
  have HM := Lib.hid hmm
  clear his hg hT
  have hmin : min n (xs.length : Int) = (m : Int) := hmm.symm
  clear hmm
  go_wp2
  go_loopw [30, 7] (fun i o wr => ∃ k : Nat, k ≤ m ∧ i = .int .i64 k ∧ wr.ownsRow w4.heap.size 3 1 o (((oweAll xs).take k).map VReader.Id).length (intCells (((oweAll xs).take k).map VReader.Id)) ∧ Below w4.heap.size w4 wr) (fun i _ _ => m - (intOf i).toNat)
  case atStart => exact ⟨0, Nat.zero_le _, rfl, nil_intRow _ _, Below.refl _ _⟩
  case round =>
    obtain ⟨k, hk, rfl, hown, hbel⟩ := hrel
    have hst := ST.out.below hbel
    have B := Lib.hid hbel
    by_cases hlt : k < m
    · have hlen : k < (oweAll xs).length := by rw [oweAll_len]; omega
      obtain ⟨s, hs⟩ : ∃ s, (oweAll xs)[k]? = some s := ⟨(oweAll xs)[k]'hlen, List.getElem?_eq_getElem _⟩
      obtain ⟨b, o, rfl, hbw, hat⟩ := hst.at (by omega)
      obtain ⟨c0, c1, c2, c3, c4', _⟩ := hat k s (by rw [List.getElem?_take, if_pos hlt]; exact hs)
      have FS := Lib.hid (owe_take_succ hs)
      obtain ⟨G, hG⟩ : ∃ G, ((oweAll xs).take k).map VReader.Id = G := ⟨_, rfl⟩
      have hgl : G.length ≤ 10 := by rw [← hG, List.length_map, List.length_take]; omega
      rw [hG] at hown FS
      have O := Lib.hid hown
      have hi0 : (0 : Int) ≤ (k : Int) := by omega
      have hi1 : (k : Int) < (m : Int) := by omega
      have hown3 := (O.out.alloc (.cells #[.int .i64 s.Id, .string s.Name, .int .i64 s.Joined, .int .i64 s.Class, .int .i64 s.Fines] 55)).alloc (.cells #[.int .i64 s.Id] 3)
      have hsz2 : w4.heap.size ≤ wr.heap.size := hbel.size
      have STK := Lib.hid hst
      clear hs hat hbel hG hown hst hlen
      go_wp2_with (at_builtin; refine wpList_append_own _ rfl _ _ 33 rfl w4.heap.size 3 i0 (.int .i64 0) 1 8 Try.underlying33 hi hz0 hz1 hz2 rfl (by decide) _ _ _ rfl hown3 ⟨wr.heap.size + 1, 0, none⟩ 1 1 [.int .i64 s.Id] rfl rfl (by have h := cell_one (wr.alloc (.cells #[.int .i64 s.Id, .string s.Name, .int .i64 s.Joined, .int .i64 s.Class, .int .i64 s.Fines] 55)) (.int .i64 s.Id) 3; rw [size_al] at h; exact h) (fun x hx => by simp at hx; subst hx; rfl) (by unfold maxLen; omega) (by omega) (by rw [size_al, size_al]; omega) ?_; intro v' w5 hown' hgrow4 hnil4)
      go_roundw
      case rel =>
        refine ⟨k + 1, by omega, by go_num, ?_, (Below.then' B.out (bel_al2 _ _ _)).grown hgrow4 (by rw [size_al, size_al]; omega) (fun j e => (hown3.lt j e).1)⟩
        rw [FS.out, intCells_snoc]
        simpa using hown'
      case measure => simp [intOf]; omega
    · obtain rfl : k = m := by omega
      have O2 := hown
      have O3 := Lib.hid O2
      clear O2 hbel hown hst
      go_wp2
      go_ret2
      exact ⟨_, by rw [E1.out]; rfl, by rw [E0.out, MT.out]; exact ownsRow_base O3.out B4.out.size, Below.then' B4.out B.out⟩
end Go.Proofs.Ytdpeidbifcbkkab
