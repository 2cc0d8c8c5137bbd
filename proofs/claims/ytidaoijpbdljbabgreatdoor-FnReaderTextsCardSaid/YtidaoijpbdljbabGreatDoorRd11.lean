/- Readers: who owes most. In the model. -/
import Derived.Test.YtidaoijpbdljbabGreatDoorM9
import Derived.Test.YtidaoijpbdljbabGreatDoorM4
import Derived.Test.YtidaoijpbdljbabGreatDoorM3
import Derived.BigQuiet
import Derived.Deep.AppendLies
namespace Go.Proofs.YtidaoijpbdljbabGreatDoor
open Go.RowKit

/-- The first k elements of a list, as a source. -/
theorem srcReader_take {w : World} {a : Option Addr} {len cap k : Nat} {xs : List VReader} (h : IsReaderS w a len cap xs) (hk : k ≤ len) : SrcAt w a k 5 (cellsReader (xs.take k)) := by
  refine srcReader (cap := cap) ⟨by rw [List.length_take, h.1.symm, Nat.min_eq_left hk], by have := h.2.1; omega, h.2.2.1, ?_⟩
  rcases h.2.2.2 with h0 | ⟨b, o, rfl, hb, hat⟩
  · exact .inl (by omega)
  · refine .inr ⟨b, o, rfl, hb, fun j s hs => hat j s ?_⟩
    rw [List.getElem?_take] at hs
    split at hs
    · exact hs
    · cases hs
/-- The elements from the k-th on, as a source. -/
theorem srcReader_drop {w : World} {b o : Nat} {len cap k : Nat} {xs : List VReader} (h : IsReaderS w (some ⟨b, o, none⟩) len cap xs) (hk : k ≤ len) : SrcAt w (some ⟨b, o + k * 5, none⟩) (len - k) 5 (cellsReader (xs.drop k)) := by
  refine srcReader (cap := cap - k) ⟨by rw [List.length_drop, h.1.symm], by have := h.2.1; omega, by have := h.2.2.1; omega, ?_⟩
  rcases h.2.2.2 with h0 | ⟨b', o', e, hb, hat⟩
  · exact .inl (by omega)
  · cases e
    refine .inr ⟨b, _, rfl, hb, fun j s hs => ?_⟩
    rw [List.getElem?_drop] at hs
    have := hat (k + j) s hs
    rwa [Nat.add_mul, ← Nat.add_assoc] at this
theorem belA {w W : World} (h : Below w.heap.size w W) (o : Obj) : Below w.heap.size w (W.drew.alloc o) := Below.then' (bel_drew' h) (bel_al1 _ o)
theorem belAA {w W : World} (h : Below w.heap.size w W) (o o' : Obj) : Below w.heap.size w ((W.drew.alloc o).alloc o') := Below.then' (belA h o) (bel_al1 _ o')
theorem madeAfter (W : World) (o : Obj) : ((W.drew.alloc o).alloc (.cells #[] 25)).ownsRow W.heap.size 25 5 (.slice (some ⟨W.heap.size + 1, 0, none⟩) 0 0) 0 [] := by
  have h := made_own (W.drew.alloc o) W.heap.size (by rw [size_al]; exact Nat.le_succ _)
  rw [size_al] at h
  exact h
theorem lit_keptL {W w5 : World} {s : VReader} {o : Obj} (hg : ((W.drew.alloc (.cells #[.int .i64 s.Id, .string s.Name, .int .i64 s.Joined, .int .i64 s.Class, .int .i64 s.Fines] 25)).alloc o).grownBy w5 (some (W.heap.size + 1))) : ∀ j u, s.vals[j]? = some u → w5.cell? ((⟨W.heap.size, 0, none⟩ : Addr).add j) = some u := fun j u hj => by
  have h1 : (W.drew.alloc (.cells #[.int .i64 s.Id, .string s.Name, .int .i64 s.Joined, .int .i64 s.Class, .int .i64 s.Fines] 25)).cell? ((⟨W.heap.size, 0, none⟩ : Addr).add j) = some u := cell_Reader W.drew s 25 j u hj
  rw [add_plain] at h1 ⊢
  have hl := World.lt_of_cell h1
  have h2 := ((bel_al1 (W.drew.alloc (.cells #[.int .i64 s.Id, .string s.Name, .int .i64 s.Joined, .int .i64 s.Class, .int .i64 s.Fines] 25)) o).cell (p := ⟨W.heap.size, 0 + j, none⟩) hl).trans h1
  exact (World.cell?_of_block (a := ⟨W.heap.size, 0 + j, none⟩) (hg.block W.heap.size (World.lt_of_cell h2) (fun e => by have := Option.some.inj e; omega))).trans h2
theorem lit_keptM {W w5 : World} {s : VReader} {o : Obj} (hg : ((W.drew.alloc o).alloc (.cells #[.int .i64 s.Id, .string s.Name, .int .i64 s.Joined, .int .i64 s.Class, .int .i64 s.Fines] 25)).grownBy w5 (some W.heap.size)) : ∀ j u, s.vals[j]? = some u → w5.cell? ((⟨W.heap.size + 1, 0, none⟩ : Addr).add j) = some u := fun j u hj => by
  have h1 : ((W.drew.alloc o).alloc (.cells #[.int .i64 s.Id, .string s.Name, .int .i64 s.Joined, .int .i64 s.Class, .int .i64 s.Fines] 25)).cell? ((⟨W.heap.size + 1, 0, none⟩ : Addr).add j) = some u := cell_Reader2 W.drew o s 25 j u hj
  rw [add_plain] at h1 ⊢
  exact (World.cell?_of_block (a := ⟨W.heap.size + 1, 0 + j, none⟩) (hg.block (W.heap.size + 1) (World.lt_of_cell h1) (fun e => by have := Option.some.inj e; omega))).trans h1
set_option maxHeartbeats 6400000 in
set_option maxRecDepth 100000 in
theorem specOweMost_any (a : Option Addr) (len cap : Nat) (xs : List VReader) (c : Int) (w : World) (h : IsReaderS w a len cap xs) (_ : xs.length ≤ 1048576) (_ : ∀ s ∈ xs, s.sized) :
    Calls Tryz.prog 19 #[.slice a len cap, .int .i64 c] w (OweMost_Post xs c w) := by
  have hm := h.2.2.1
  have hcl := h.2.1
  unfold maxLen at hm
  obtain rfl := h.1
  obtain ⟨i0, hi, hz0, hz1, hz2⟩ := info_parts infoInt
  obtain ⟨i1, hi1', hy0, hy1, hy2⟩ := info_parts infoReader
  have B0 := Lib.hid (bel_al1 w (.cells #[] 3))
  have O0 := Lib.hid (World.ownsRow_made (base := w.heap.size) (e := 3) (size := 1) w #[] 0 (Nat.le_refl _) (Nat.zero_le _) rfl)
  have S0 := Lib.hid (h.below B0.out)
  clear h
  obtain ⟨p, hp⟩ : ∃ p, areRd xs = p := ⟨_, rfl⟩
  obtain ⟨q, hq⟩ : ∃ q, nB c = q := ⟨_, rfl⟩
  have PP := Lib.hid hp
  have QQ := Lib.hid hq
  clear hp hq
  go_enter Tryz.func19, Tryz.ntmps19
  go_wp2_with fail
  refine (l3Good_any _ _ _ xs _ S0.out).mono ?_
  rintro e w1 ⟨rfl, hb⟩
  rw [PP.out]
  have B1 := Lib.hid (Below.then' B0.out hb)
  have O1 := Lib.hid (ownsRow_below O0.out hb)
  have S1 := Lib.hid (S0.out.below hb)
  have hw1 : w.heap.size + 1 ≤ w1.heap.size := by have := hb.size; rw [size_al] at this; exact this
  clear hb S0 B0 O0
  cases p
  · have E0 := Lib.hid (show OweMost_0 xs c = [] from by unfold OweMost_0; rw [PP.out]; rfl)
    have E1 := Lib.hid (show OweMost_1 xs c = false from by unfold OweMost_1; rw [PP.out]; rfl)
    go_wp2
    go_ret2
    exact ⟨_, by rw [E1.out]; rfl, by rw [E0.out]; exact O1.out, B1.out⟩
  go_wp2_with fail
  refine (l1In_any _ _ _ _).mono ?_
  rintro e w' ⟨rfl, rfl⟩
  rw [show inB c 0 10 = q from QQ.out]
  cases q
  · have E0 := Lib.hid (show OweMost_0 xs c = [] from by unfold OweMost_0; rw [PP.out, QQ.out]; rfl)
    have E1 := Lib.hid (show OweMost_1 xs c = false from by unfold OweMost_1; rw [PP.out, QQ.out]; rfl)
    go_wp2
    go_ret2
    exact ⟨_, by rw [E1.out]; rfl, by rw [E0.out]; exact O1.out, B1.out⟩
  have hl10 := areRd_len PP.out
  have hc10 := inB_iff.1 (show inB c 0 10 = true from QQ.out)
  have E0 := Lib.hid (show OweMost_0 xs c = ((oweAll xs).take c.toNat).map VReader.Id from by unfold OweMost_0; rw [PP.out, QQ.out]; rfl)
  have E1 := Lib.hid (show OweMost_1 xs c = true from by unfold OweMost_1; rw [PP.out, QQ.out]; rfl)
  have M0 := Lib.hid (made_own w1 w1.heap.size (Nat.le_refl _))
  have MB := Lib.hid (bel_al1 w1 (.cells #[] 25))
  go_wp2
  go_loopw [8, 7, 9] (fun i o _ wr => ∃ (k : Nat) (L : List VReader) (g cp : Nat), k ≤ xs.length ∧ i = .int .i64 k ∧ OweIs (xs.take k) L ∧ o = .slice (some ⟨g, 0, none⟩) L.length cp ∧ wr.ownsRow w1.heap.size 25 5 (.slice (some ⟨g, 0, none⟩) L.length cp) L.length (cellsReader L) ∧ Below w1.heap.size w1 wr) (fun i _ _ _ => xs.length - (intOf i).toNat)
  case atStart => exact ⟨0, [], _, _, Nat.zero_le _, rfl, OweIs.nil, rfl, M0.out, MB.out⟩
  case round =>
    obtain ⟨k, L, g, cp, hk, rfl, hL, rfl, hown, hbel⟩ := hrel
    have HL := Lib.hid hL
    have O := Lib.hid hown
    have B := Lib.hid hbel
    have HLL := Lib.hid (show L.length = k from by rw [hL.1.length_eq, List.length_take]; omega)
    have hl100 : L.length ≤ 10 := by rw [HLL.out]; omega
    have hsm : ∀ s ∈ L, s.small := fun s hs => rdOk_small (areRd_ok PP.out (List.mem_of_mem_take (hL.1.mem_iff.1 hs)))
    have HSM := Lib.hid hsm
    clear hL
    by_cases hlt : k < xs.length
    · obtain ⟨s, hs⟩ : ∃ s, xs[k]? = some s := ⟨xs[k]'hlt, List.getElem?_eq_getElem _⟩
      obtain ⟨b, o, rfl, hbw, hat⟩ := (S1.out.below hbel).at (by omega)
      have AT := Lib.hid (hat k s hs)
      have hbw0 := hbw
      obtain ⟨c0, c1, c2, c3, c4, _⟩ := hat k s hs
      obtain ⟨_, _, e5, his, hob⟩ := isReaderS_own hown hsm
      cases e5
      have IS := Lib.hid his
      have HS := Lib.hid hs
      have HID := Lib.hid (show ∀ t ∈ xs.take k, t.Id < s.Id from fun t ht => by
        have hu : upB VReader.ok VReader.Id xs = true := by have h := PP.out; unfold areRd rdUp at h; simp only [Bool.and_eq_true] at h; exact h.1
        obtain ⟨i, hi⟩ := List.mem_iff_getElem?.1 ht
        rw [List.getElem?_take] at hi
        split at hi
        · exact upB_lt hu k i t s ‹_› hi hs
        · cases hi)
      have hi0 : (0 : Int) ≤ (k : Int) := by omega
      have hi1 : (k : Int) < (xs.length : Int) := by omega
      have hcap5 := his.2.2.1
      have hcl5 := his.2.1
      have ISL := Lib.hid his.2.1
      unfold maxLen at hcap5
      clear hat hown hbel hsm hs
      go_wp2
      go_loopw [9] (fun m wq => ∃ j n0 : Nat, j ≤ L.length ∧ m = .int .i64 j ∧ wq = wr.drewN n0 ∧ ∀ i t, j ≤ i → L[i]? = some t → t.Fines < s.Fines) (fun m _ => (intOf m).toNat)
      case atStart => exact ⟨L.length, 0, Nat.le_refl _, rfl, rfl, fun i t h1 h2 => by rw [List.getElem?_eq_none h1] at h2; cases h2⟩
      case round =>
        obtain ⟨j, n0, hj, rfl, rfl, hlo⟩ := hrel
        have LO := Lib.hid hlo
        clear hlo
        by_cases hj0 : 0 < j
        · obtain ⟨t, ht⟩ : ∃ t, L[j - 1]? = some t := ⟨L[j - 1]'(by omega), List.getElem?_eq_getElem _⟩
          obtain ⟨b', o', eb, hbw', hat'⟩ := IS.out.at (by omega)
          cases eb
          obtain ⟨e0, e1, e2, e3, e4, _⟩ := hat' _ t ht
          simp only [Nat.zero_add] at e0 e1 e2 e3 e4
          have g0 : (0 : Int) < (j : Int) := by omega
          have g1 : (0 : Int) ≤ (j : Int) - 1 := by omega
          have g2 : (j : Int) - 1 < (L.length : Int) := by omega
          have g3 : ((j : Int) - 1).toNat = j - 1 := by omega
          have HT := Lib.hid ht
          clear hat' ht
          by_cases hless : t.Fines < s.Fines
          · have k0 : IntKind.i64.wrap ((j : Int) - 1) = (j : Int) - 1 := IntWalk.i64_in _ (by omega)
            clear e0 e1 e2 e3 c0 c1 c2 c3
            go_wp2_with fail
            go_quiet (fail)
            go_wp2
            go_roundw
            case rel => exact ⟨j - 1, _, by omega, by go_num, by first | rfl | exact World.drewN_drewN _ _ _, fun i u h1 h2 => by
              by_cases e : i = j - 1
              · subst e; rw [HT.out] at h2; cases h2; exact hless
              · exact LO.out i u (by omega) h2⟩
            case measure => simp [intOf]; omega
          · have HI := Lib.hid (show j = 0 ∨ ∃ t, L[j - 1]? = some t ∧ s.Fines ≤ t.Fines from .inr ⟨t, HT.out, by omega⟩)
            have k0 : IntKind.i64.wrap ((j : Int) - 1) = (j : Int) - 1 := IntWalk.i64_in _ (by omega)
            clear e0 e1 e2 e3 c0 c1 c2 c3
            go_wp2_with fail
            go_quiet (fail)
            go_wp2_with fail
            have hj' : j ≤ L.length := hj
            refine wp_world (fun W => Below wr.heap.size wr W) (by first | exact bel_drawn _ _ | exact bel_drawn2 _ _ _ | exact Below.refl _ _) ?_
            intro W hbw
            have BW := Lib.hid hbw
            have hW0 := hbw.size
            obtain ⟨d0, d1, d2, d3, d4, _⟩ := AT.out.below hbw hbw0
            have hbW : b < W.heap.size := Nat.lt_of_lt_of_le hbw0 hbw.size
            have hbW2 : ¬ b = W.heap.size := by omega
            clear hbw
            have j0 : (0 : Int) ≤ (j : Int) := by omega
            have j1 : (j : Int) ≤ (L.length : Int) := by omega
            have hlj : (L.take j ++ s :: L.drop j).length = j + 1 + (L.length - j) := by rw [List.length_append, List.length_take, List.length_cons, List.length_drop]; omega
            have HLJ := Lib.hid hlj
            clear hlj
            have HCJ := Lib.hid (show cp = j → L.length - j = 0 from fun h => by have := ISL.out; omega)
            have hjc : j ≤ cp := by have := ISL.out; omega
            have hjc2 : (j : Int) ≤ (cp : Int) := by omega
            by_cases hcj : cp = j
            all_goals
              go_region_law (first
                | (refine step_append_some (by rfl) (.tmp 48) (.tmp 51) 33 (by rfl) W.heap.size 25 i1 (.agg #[.int .i64 0, .string ByteArray.empty, .int .i64 0, .int .i64 0, .int .i64 0]) 5 48 Tryz.underlying33 hi1' hy0 hy1 hy2 (by rfl) (by decide) _ (by simp [Act.eval]; rfl) _ _ 0 [] (by rfl) (by first | exact made_own W.drew W.heap.size (Nat.le_refl _) | exact (made_own W.drew W.heap.size (Nat.le_refl _)).alloc (.cells #[.int .i64 s.Id, .string s.Name, .int .i64 s.Joined, .int .i64 s.Class, .int .i64 s.Fines] 25) | exact madeAfter W (.cells #[.int .i64 s.Id, .string s.Name, .int .i64 s.Joined, .int .i64 s.Class, .int .i64 s.Fines] 25)) _ (by simp [Act.eval]; rfl) _ j _ (cellsReader (L.take j)) (by rfl) (by first | exact srcReader_take (IS.out.below (belA BW.out _)) hj' | exact srcReader_take (IS.out.below (belAA BW.out _ _)) hj') (readers_one _) (by unfold maxLen; omega) (by omega) (by first | exact (belA (Below.refl W.heap.size W) _).size | exact (belAA (Below.refl W.heap.size W) _ _).size) ?_; intro g5 c5 w5 hown5 hgrow5 hn5 hc5 hg5 hl5; rw [Nat.zero_add, List.nil_append] at hown5; have O5 := Lib.hid hown5; have hs5 : W.heap.size ≤ w5.heap.size := by omega
                   have B5 := Lib.hid (show Below wr.heap.size wr w5 from by first | exact (belA BW.out _).grown hgrow5 (belA BW.out _).size (fun k e => by cases e; omega) | exact (belAA BW.out _ _).grown hgrow5 (belAA BW.out _ _).size (fun k e => by cases e; omega))
                   obtain ⟨d0, d1, d2, d3, d4, _⟩ := AT.out.below B5.out hbw0
                   try have N5 := Lib.hid (lit_keptL (s := s) hgrow5)
                   try have N5 := Lib.hid (lit_keptM (s := s) hgrow5)
                   clear hown5 hgrow5)
                | (refine step_append_some (by rfl) (.tmp 52) (.tmp 57) 33 (by rfl) W.heap.size 25 i1 (.agg #[.int .i64 0, .string ByteArray.empty, .int .i64 0, .int .i64 0, .int .i64 0]) 5 48 Tryz.underlying33 hi1' hy0 hy1 hy2 (by rfl) (by decide) _ (by simp [Act.eval]; rfl) g5 c5 j (cellsReader (L.take j)) (by rfl) (by first | exact O5.out | exact O5.out.alloc _) _ (by simp [Act.eval]; rfl) _ 1 _ s.vals (by rfl) ⟨rfl, .inr ⟨_, rfl, by first | exact N5.out | exact cell_Reader w5 s _⟩⟩ s.vals_one (by unfold maxLen; omega) (by omega) (by first | exact hs5 | exact Nat.le_trans hs5 (bel_al1 w5 _).size) ?_; intro g6 c6 w6 hown6 hgrow6 hn6 hc6 hg6 hl6; have O6 := Lib.hid hown6; have hs6 : W.heap.size ≤ w6.heap.size := by omega
                   have B6 := Lib.hid (show Below wr.heap.size wr w6 from by first | exact B5.out.grown hgrow6 B5.out.size (fun k e => by cases e; omega) | exact (Below.then' B5.out (bel_al1 _ _)).grown hgrow6 (Below.then' B5.out (bel_al1 _ _)).size (fun k e => by cases e; omega))
                   clear hown6 hgrow6)
                | (refine step_append_some (by rfl) (.tmp 58) (.tmp 61) 33 (by rfl) W.heap.size 25 i1 (.agg #[.int .i64 0, .string ByteArray.empty, .int .i64 0, .int .i64 0, .int .i64 0]) 5 48 Tryz.underlying33 hi1' hy0 hy1 hy2 (by rfl) (by decide) _ (by simp [Act.eval]; rfl) g6 c6 (j + 1) (cellsReader (L.take j) ++ s.vals) (by rfl) O6.out _ (by simp [Act.eval]; rfl) _ (L.length - j) _ (cellsReader (L.drop j)) (by rfl) (by have h := srcReader_drop (IS.out.below B6.out) hj'; simp only [Nat.zero_add] at h; exact h) (readers_one _) (by unfold maxLen; omega) (by omega) hs6 ?_; intro g7 c7 w7 hown7 hgrow7 hn7 hc7 hg7 hl7
                   have O7 := Lib.hid hown7
                   have B7 := Lib.hid (show Below wr.heap.size wr w7 from B6.out.grown hgrow7 B6.out.size (fun k e => by cases e; omega))
                   clear hown7 hgrow7)
                | (have hX : SrcAt w6 (some ⟨g, 0, none⟩) (L.length - j) 5 (cellsReader (L.drop j)) := ⟨by rw [cellsReader_len, List.length_drop], .inl (HCJ.out hcj)⟩; refine step_append_some (by rfl) (.tmp 58) (.tmp 61) 33 (by rfl) W.heap.size 25 i1 (.agg #[.int .i64 0, .string ByteArray.empty, .int .i64 0, .int .i64 0, .int .i64 0]) 5 48 Tryz.underlying33 hi1' hy0 hy1 hy2 (by rfl) (by decide) _ (by simp [Act.eval]; rfl) g6 c6 (j + 1) (cellsReader (L.take j) ++ s.vals) (by rfl) O6.out _ (by simp [Act.eval]; rfl) ⟨g, 0, none⟩ (L.length - j) _ (cellsReader (L.drop j)) (by rfl) hX (readers_one _) (by unfold maxLen; omega) (by omega) hs6 ?_; intro g7 c7 w7 hown7 hgrow7 hn7 hc7 hg7 hl7
                   have O7 := Lib.hid hown7
                   have B7 := Lib.hid (show Below wr.heap.size wr w7 from B6.out.grown hgrow7 B6.out.size (fun k e => by cases e; omega))
                   clear hown7 hgrow7))
              all_goals go_wp2
              all_goals go_roundw
              all_goals first
                | (refine ⟨k + 1, L.take j ++ s :: L.drop j, g7, c7, by omega, by go_num, ?_, ?_, ?_, Below.then' B.out B7.out⟩
                   · have h := OweIs.put HL.out (s := s) (k := j) HID.out hj' (fun i t h1 h2 => LO.out i t h1 h2) HI.out
                     rw [show xs.take (k + 1) = xs.take k ++ [s] from by rw [List.take_add_one, HS.out]; rfl]
                     exact h
                   · rw [HLJ.out]
                   · rw [HLJ.out]
                     have h := ownsRow_base O7.out (Nat.le_trans B.out.size hW0)
                     rw [show cellsReader (L.take j ++ s :: L.drop j) = cellsReader (L.take j) ++ s.vals ++ cellsReader (L.drop j) from by simp [cellsReader]]
                     exact h)
                | (simp [intOf]; omega)
        · have HI := Lib.hid (show j = 0 ∨ ∃ t, L[j - 1]? = some t ∧ s.Fines ≤ t.Fines from .inl (by omega))
          have g0 : ¬ (0 : Int) < (j : Int) := by omega
          clear c0 c1 c2 c3
          go_wp2_with fail
          go_quiet (fail)
          go_wp2_with fail
          have hj' : j ≤ L.length := hj
          refine wp_world (fun W => Below wr.heap.size wr W) (by first | exact bel_drawn _ _ | exact bel_drawn2 _ _ _ | exact Below.refl _ _) ?_
          intro W hbw
          have BW := Lib.hid hbw
          have hW0 := hbw.size
          obtain ⟨d0, d1, d2, d3, d4, _⟩ := AT.out.below hbw hbw0
          have hbW : b < W.heap.size := Nat.lt_of_lt_of_le hbw0 hbw.size
          have hbW2 : ¬ b = W.heap.size := by omega
          clear hbw
          have j0 : (0 : Int) ≤ (j : Int) := by omega
          have j1 : (j : Int) ≤ (L.length : Int) := by omega
          have hlj : (L.take j ++ s :: L.drop j).length = j + 1 + (L.length - j) := by rw [List.length_append, List.length_take, List.length_cons, List.length_drop]; omega
          have HLJ := Lib.hid hlj
          clear hlj
          have HCJ := Lib.hid (show cp = j → L.length - j = 0 from fun h => by have := ISL.out; omega)
          have hjc : j ≤ cp := by have := ISL.out; omega
          have hjc2 : (j : Int) ≤ (cp : Int) := by omega
          by_cases hcj : cp = j
          all_goals
            go_region_law (first
              | (refine step_append_some (by rfl) (.tmp 48) (.tmp 51) 33 (by rfl) W.heap.size 25 i1 (.agg #[.int .i64 0, .string ByteArray.empty, .int .i64 0, .int .i64 0, .int .i64 0]) 5 48 Tryz.underlying33 hi1' hy0 hy1 hy2 (by rfl) (by decide) _ (by simp [Act.eval]; rfl) _ _ 0 [] (by rfl) (by first | exact made_own W.drew W.heap.size (Nat.le_refl _) | exact (made_own W.drew W.heap.size (Nat.le_refl _)).alloc (.cells #[.int .i64 s.Id, .string s.Name, .int .i64 s.Joined, .int .i64 s.Class, .int .i64 s.Fines] 25) | exact madeAfter W (.cells #[.int .i64 s.Id, .string s.Name, .int .i64 s.Joined, .int .i64 s.Class, .int .i64 s.Fines] 25)) _ (by simp [Act.eval]; rfl) _ j _ (cellsReader (L.take j)) (by rfl) (by first | exact srcReader_take (IS.out.below (belA BW.out _)) hj' | exact srcReader_take (IS.out.below (belAA BW.out _ _)) hj') (readers_one _) (by unfold maxLen; omega) (by omega) (by first | exact (belA (Below.refl W.heap.size W) _).size | exact (belAA (Below.refl W.heap.size W) _ _).size) ?_; intro g5 c5 w5 hown5 hgrow5 hn5 hc5 hg5 hl5; rw [Nat.zero_add, List.nil_append] at hown5; have O5 := Lib.hid hown5; have hs5 : W.heap.size ≤ w5.heap.size := by omega
                 have B5 := Lib.hid (show Below wr.heap.size wr w5 from by first | exact (belA BW.out _).grown hgrow5 (belA BW.out _).size (fun k e => by cases e; omega) | exact (belAA BW.out _ _).grown hgrow5 (belAA BW.out _ _).size (fun k e => by cases e; omega))
                 obtain ⟨d0, d1, d2, d3, d4, _⟩ := AT.out.below B5.out hbw0
                 try have N5 := Lib.hid (lit_keptL (s := s) hgrow5)
                 try have N5 := Lib.hid (lit_keptM (s := s) hgrow5)
                 clear hown5 hgrow5)
              | (refine step_append_some (by rfl) (.tmp 52) (.tmp 57) 33 (by rfl) W.heap.size 25 i1 (.agg #[.int .i64 0, .string ByteArray.empty, .int .i64 0, .int .i64 0, .int .i64 0]) 5 48 Tryz.underlying33 hi1' hy0 hy1 hy2 (by rfl) (by decide) _ (by simp [Act.eval]; rfl) g5 c5 j (cellsReader (L.take j)) (by rfl) (by first | exact O5.out | exact O5.out.alloc _) _ (by simp [Act.eval]; rfl) _ 1 _ s.vals (by rfl) ⟨rfl, .inr ⟨_, rfl, by first | exact N5.out | exact cell_Reader w5 s _⟩⟩ s.vals_one (by unfold maxLen; omega) (by omega) (by first | exact hs5 | exact Nat.le_trans hs5 (bel_al1 w5 _).size) ?_; intro g6 c6 w6 hown6 hgrow6 hn6 hc6 hg6 hl6; have O6 := Lib.hid hown6; have hs6 : W.heap.size ≤ w6.heap.size := by omega
                 have B6 := Lib.hid (show Below wr.heap.size wr w6 from by first | exact B5.out.grown hgrow6 B5.out.size (fun k e => by cases e; omega) | exact (Below.then' B5.out (bel_al1 _ _)).grown hgrow6 (Below.then' B5.out (bel_al1 _ _)).size (fun k e => by cases e; omega))
                 clear hown6 hgrow6)
              | (refine step_append_some (by rfl) (.tmp 58) (.tmp 61) 33 (by rfl) W.heap.size 25 i1 (.agg #[.int .i64 0, .string ByteArray.empty, .int .i64 0, .int .i64 0, .int .i64 0]) 5 48 Tryz.underlying33 hi1' hy0 hy1 hy2 (by rfl) (by decide) _ (by simp [Act.eval]; rfl) g6 c6 (j + 1) (cellsReader (L.take j) ++ s.vals) (by rfl) O6.out _ (by simp [Act.eval]; rfl) _ (L.length - j) _ (cellsReader (L.drop j)) (by rfl) (by have h := srcReader_drop (IS.out.below B6.out) hj'; simp only [Nat.zero_add] at h; exact h) (readers_one _) (by unfold maxLen; omega) (by omega) hs6 ?_; intro g7 c7 w7 hown7 hgrow7 hn7 hc7 hg7 hl7
                 have O7 := Lib.hid hown7
                 have B7 := Lib.hid (show Below wr.heap.size wr w7 from B6.out.grown hgrow7 B6.out.size (fun k e => by cases e; omega))
                 clear hown7 hgrow7)
              | (have hX : SrcAt w6 (some ⟨g, 0, none⟩) (L.length - j) 5 (cellsReader (L.drop j)) := ⟨by rw [cellsReader_len, List.length_drop], .inl (HCJ.out hcj)⟩; refine step_append_some (by rfl) (.tmp 58) (.tmp 61) 33 (by rfl) W.heap.size 25 i1 (.agg #[.int .i64 0, .string ByteArray.empty, .int .i64 0, .int .i64 0, .int .i64 0]) 5 48 Tryz.underlying33 hi1' hy0 hy1 hy2 (by rfl) (by decide) _ (by simp [Act.eval]; rfl) g6 c6 (j + 1) (cellsReader (L.take j) ++ s.vals) (by rfl) O6.out _ (by simp [Act.eval]; rfl) ⟨g, 0, none⟩ (L.length - j) _ (cellsReader (L.drop j)) (by rfl) hX (readers_one _) (by unfold maxLen; omega) (by omega) hs6 ?_; intro g7 c7 w7 hown7 hgrow7 hn7 hc7 hg7 hl7
                 have O7 := Lib.hid hown7
                 have B7 := Lib.hid (show Below wr.heap.size wr w7 from B6.out.grown hgrow7 B6.out.size (fun k e => by cases e; omega))
                 clear hown7 hgrow7))
            all_goals go_wp2
            all_goals go_roundw
            all_goals first
              | (refine ⟨k + 1, L.take j ++ s :: L.drop j, g7, c7, by omega, by go_num, ?_, ?_, ?_, Below.then' B.out B7.out⟩
                 · have h := OweIs.put HL.out (s := s) (k := j) HID.out hj' (fun i t h1 h2 => LO.out i t h1 h2) HI.out
                   rw [show xs.take (k + 1) = xs.take k ++ [s] from by rw [List.take_add_one, HS.out]; rfl]
                   exact h
                 · rw [HLJ.out]
                 · rw [HLJ.out]
                   have h := ownsRow_base O7.out (Nat.le_trans B.out.size hW0)
                   rw [show cellsReader (L.take j ++ s :: L.drop j) = cellsReader (L.take j) ++ s.vals ++ cellsReader (L.drop j) from by simp [cellsReader]]
                   exact h)
              | (simp [intOf]; omega)
    · obtain rfl : k = xs.length := by omega
      have hfull : L = oweAll xs := by
        have h := HL.out
        rw [List.take_of_length_le (Nat.le_refl _)] at h
        exact h.all
      have HF := Lib.hid hfull
      obtain ⟨_, _, e5, his, hob⟩ := isReaderS_own hown hsm
      cases e5
      have IS := Lib.hid his
      have hcap5 := his.2.2.1
      have hcl5 := his.2.1
      unfold maxLen at hcap5
      have BB := Lib.hid (Below.then' B1.out (show Below w1.heap.size w1 wr from hbel))
      have OO := Lib.hid (ownsRow_below O1.out hbel)
      have APS := Lib.hid (show ∀ b o, (some ⟨g, 0, none⟩ : Option Addr) = some ⟨b, o, none⟩ → (Value.slice (some ⟨w.heap.size, 0, none⟩) 0 0).ownBlock ≠ some b from fun b o e h2 => by
        have h3 := (hown.lt b (hob b o e)).1
        have h4 := own_is h2
        omega)
      clear hown hbel hsm hfull HSM hob
      go_wp2
      go_loopw [10, 6] (fun i o wq => ∃ m : Nat, m ≤ L.length ∧ (m : Int) ≤ c ∧ i = .int .i64 m ∧ wq.ownsRow w.heap.size 3 1 o ((L.take m).map VReader.Id).length (intCells ((L.take m).map VReader.Id)) ∧ IsReaderS wq (some ⟨g, 0, none⟩) L.length cp L ∧ (∀ b q, (some ⟨g, 0, none⟩ : Option Addr) = some ⟨b, q, none⟩ → o.ownBlock ≠ some b) ∧ Below w.heap.size w wq) (fun i _ _ => L.length - (intOf i).toNat)
      case atStart => exact ⟨0, Nat.zero_le _, by omega, rfl, OO.out, IS.out, APS.out, BB.out⟩
      case round =>
        obtain ⟨m, hm1, hm2, rfl, hown, his, hap, hbel⟩ := hrel
        have O2 := Lib.hid hown
        have B2 := Lib.hid hbel
        have IS2 := Lib.hid his
        have AP := Lib.hid hap
        have hgl : ((L.take m).map VReader.Id).length ≤ 10 := by rw [List.length_map, List.length_take]; omega
        clear hown his hap
        by_cases hlt2 : m < L.length
        · obtain ⟨s, hs⟩ : ∃ s, L[m]? = some s := ⟨L[m]'hlt2, List.getElem?_eq_getElem _⟩
          by_cases hmc : (m : Int) < c
          · obtain ⟨b, o, eb, hbw, hat⟩ := IS2.out.at (by omega)
            cases eb
            obtain ⟨c0, _⟩ := hat m s hs
            simp only [Nat.zero_add] at c0
            have T := Lib.hid (show (L.take (m + 1)).map VReader.Id = (L.take m).map VReader.Id ++ [s.Id] from by rw [List.take_add_one, hs]; simp)
            have hi0 : (0 : Int) ≤ (m : Int) := by omega
            have hi1 : (m : Int) < (L.length : Int) := by omega
            have hsz2 := B2.out.size
            have hown3 := O2.out.alloc (.cells #[.int .i64 s.Id] 3)
            have AL := Lib.hid (bel_al1 wr (.cells #[.int .i64 s.Id] 3))
            clear hat hs hbel
            go_wp2_with (at_builtin; refine wpList_append_lies _ rfl _ _ 43 rfl w.heap.size 3 i0 (.int .i64 0) 1 8 Tryz.underlying43 hi hz0 hz1 hz2 rfl (by decide) _ _ _ rfl hown3 ⟨wr.heap.size, 0, none⟩ 1 1 [.int .i64 s.Id] rfl rfl (cell_one _ _ _) (fun x hx => by simp at hx; subst hx; rfl) (by decide) (by unfold maxLen; omega) (by omega) (by simp; omega) _ rfl ?_; intro g4 cap4 w4 hown4 hgrow4 hg4 hlt4)
            go_roundw
            case rel =>
              have hne : ∀ b2 o2, (some ⟨g, 0, none⟩ : Option Addr) = some ⟨b2, o2, none⟩ → g4 ≠ b2 := fun b2 o2 e => by
                cases e
                rcases hg4 with h | h
                · exact fun e2 => AP.out _ _ rfl (e2 ▸ h)
                · rw [size_al] at h; omega
              refine ⟨m + 1, by omega, by omega, by go_num, ?_, (IS2.out.below AL.out).grown hgrow4 (fun b2 o2 e h => AP.out b2 o2 e h.symm), fun b2 o2 e h => hne b2 o2 e (own_is h).symm, (Below.then' B2.out AL.out).grown hgrow4 (by rw [size_al]; omega) (fun j e => (hown3.lt j e).1)⟩
              rw [T.out, intCells_snoc]
              simpa [Nat.min_eq_left hm1] using hown4
            case measure => simp [intOf]; omega
          · have E2 := Lib.hid (show (OweMost_0 xs c) = (L.take m).map VReader.Id from by rw [E0.out, ← HF.out, show c.toNat = m by omega])
            go_wp2
            go_ret2
            exact ⟨_, by rw [E1.out]; rfl, by rw [E2.out]; exact O2.out, B2.out⟩
        · obtain rfl : m = L.length := by omega
          have E2 := Lib.hid (show (OweMost_0 xs c) = (L.take L.length).map VReader.Id from by rw [E0.out, ← HF.out, List.take_of_length_le (Nat.le_refl _), List.take_of_length_le (by omega)])
          go_wp2
          go_ret2
          exact ⟨_, by rw [E1.out]; rfl, by rw [E2.out]; exact O2.out, B2.out⟩
end Go.Proofs.YtidaoijpbdljbabGreatDoor
