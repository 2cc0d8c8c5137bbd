/- A reader read from a text: the model. -/
import Derived.Test.YtidaoijpbdljbabGreatDoorM8
namespace Go.Proofs.YtidaoijpbdljbabGreatDoor
open Go.RowKit

def tail1 (b : ByteArray) : ByteArray := b.extract 1 b.size
def candM (ws : List ByteArray) : VReader := ⟨(parseV (ws.getD 0 ByteArray.empty)).1, ws.getD 1 ByteArray.empty, (parseV (ws.getD 4 ByteArray.empty)).1, (parseV (tail1 (ws.getD 2 ByteArray.empty))).1, if ws.length = 7 then (parseV (ws.getD 6 ByteArray.empty)).1 else 0⟩
theorem text_len {n : Int} (k : Nat) (h0 : 0 ≤ n) (h1 : n.toNat < 10 ^ (k + 1)) : 1 ≤ (textOf n).size ∧ (textOf n).size ≤ k + 1 := by
  rw [size_list, textOf_list_pos n h0]; exact dec_len k n.toNat h1
theorem wordsM_of {s : ByteArray} {r : VReader} (hok : r.ok = true) (h : rdText r = s) :
    s.size ≤ 60 ∧ ((splitR s 32 0 0).length = 5 ∨ (splitR s 32 0 0).length = 7) ∧ ((splitR s 32 0 0).getD 2 ByteArray.empty).size = 2 ∧ candM (splitR s 32 0 0) = r := by
  obtain ⟨⟨a0, a1⟩, hw, ⟨b0, b1⟩, ⟨c0, c1⟩, ⟨d0, d1⟩⟩ := rdOk_iff.1 hok
  have hl : s.data.toList = _ := (congrArg (·.data.toList) h).symm.trans (rdText_list r)
  have wz := (word_size hw).2
  have l1 := text_len (n := r.Id) 2 (by omega) (by omega)
  have l2 := text_len (n := r.Class) 0 (by omega) (by omega)
  have l3 := text_len (n := r.Joined) 3 (by omega) (by omega)
  have l4 := text_len (n := r.Fines) 4 (by omega) (by omega)
  have p1 := parseV_text (n := r.Id) (by omega) (by omega)
  have p2 := parseV_text (n := r.Class) (by omega) (by omega)
  have p3 := parseV_text (n := r.Joined) (by omega) (by omega)
  have p4 := parseV_text (n := r.Fines) (by omega) (by omega)
  have hsz : s.size ≤ 60 := by
    rw [size_list, hl]
    simp only [List.length_append, ← size_list, List.length_cons, List.length_nil]
    unfold owesL
    split
    · simp only [List.length_append, ← size_list, List.length_cons, List.length_nil]; omega
    · simp only [List.length_nil]; omega
  have hc2 : (strOf (99 :: (textOf r.Class).data.toList)).size = 2 := by
    rw [strOf_size, List.length_cons, ← size_list]; omega
  have ht1 : tail1 (strOf (99 :: (textOf r.Class).data.toList)) = textOf r.Class := by
    refine bytes_ext ?_
    unfold tail1
    rw [extract_one_list, strOf_list]; rfl
  have n32 : ∀ {n : Int}, 0 ≤ n → (32 : UInt8) ∉ (textOf n).data.toList := fun hn => text_digs hn (by decide)
  have nC : (32 : UInt8) ∉ (strOf (99 :: (textOf r.Class).data.toList)).data.toList := by
    rw [strOf_list]
    intro hm
    rcases List.mem_cons.1 hm with e | e
    · exact absurd e (by decide)
    · exact n32 (by omega) e
  by_cases hf : 0 < r.Fines
  · have e : splitR s 32 0 0 = [textOf r.Id, r.Name, strOf (99 :: (textOf r.Class).data.toList), strOf [115, 105, 110, 99, 101], textOf r.Joined, strOf [111, 119, 101, 115], textOf r.Fines] := by
      refine splitR_of s 32 _ (by simp) ?_ ?_
      · intro x hx
        simp only [List.mem_cons, List.not_mem_nil, or_false] at hx
        rcases hx with rfl | rfl | rfl | rfl | rfl | rfl | rfl
        · exact n32 (by omega)
        · exact word_no hw (by decide)
        · exact nC
        · decide
        · exact n32 b0
        · decide
        · exact n32 d0
      · rw [hl]; unfold owesL; rw [if_pos hf]; simp [Lib.join, strOf_list]
    rw [e]
    refine ⟨hsz, .inr rfl, hc2, ?_⟩
    unfold candM
    simp only [List.getD_cons_zero, List.getD_cons_succ, ht1, p1, p2, p3, p4]
    rfl
  · have e : splitR s 32 0 0 = [textOf r.Id, r.Name, strOf (99 :: (textOf r.Class).data.toList), strOf [115, 105, 110, 99, 101], textOf r.Joined] := by
      refine splitR_of s 32 _ (by simp) ?_ ?_
      · intro x hx
        simp only [List.mem_cons, List.not_mem_nil, or_false] at hx
        rcases hx with rfl | rfl | rfl | rfl | rfl
        · exact n32 (by omega)
        · exact word_no hw (by decide)
        · exact nC
        · decide
        · exact n32 b0
      · rw [hl]; unfold owesL; rw [if_neg hf]; simp [Lib.join, strOf_list]
    rw [e]
    refine ⟨hsz, .inl rfl, hc2, ?_⟩
    unfold candM
    simp only [List.getD_cons_zero, List.getD_cons_succ, ht1, p1, p2, p3]
    rw [if_neg (by simp), show (0 : Int) = r.Fines by omega]
/-- What the model finds is what the program finds. -/
theorem specNo {s : ByteArray} (h : ¬ (s.size ≤ 60 ∧ ((splitR s 32 0 0).length = 5 ∨ (splitR s 32 0 0).length = 7) ∧ ((splitR s 32 0 0).getD 2 ByteArray.empty).size = 2)) : rdRead s = none := by
  cases hr : rdRead s with
  | none => rfl
  | some r =>
    obtain ⟨h1, h2⟩ := rdRead_sound hr
    obtain ⟨a, b, c, _⟩ := wordsM_of h1 h2
    exact absurd ⟨a, b, c⟩ h
theorem specNo2 {s : ByteArray} (h : ¬ ((candM (splitR s 32 0 0)).ok = true ∧ rdText (candM (splitR s 32 0 0)) = s)) : rdRead s = none := by
  cases hr : rdRead s with
  | none => rfl
  | some r =>
    obtain ⟨h1, h2⟩ := rdRead_sound hr
    obtain ⟨_, _, _, d⟩ := wordsM_of h1 h2
    exact absurd ⟨by rw [d]; exact h1, by rw [d]; exact h2⟩ h
theorem specYes {s : ByteArray} (h1 : (candM (splitR s 32 0 0)).ok = true) (h2 : rdText (candM (splitR s 32 0 0)) = s) : rdRead s = some (candM (splitR s 32 0 0)) := rdRead_of h1 h2
theorem readB (s : ByteArray) (w : World) (hs : s.size ≤ 1048576) :
    Calls Tryz.prog 36 #[.string s] w fun e w' => e = .returned (.tuple #[.int .i64 (parseV s).1, .bool (parseV s).2]) ∧ Below w.heap.size w w' := drawn_below (readV s w hs)
set_option maxHeartbeats 6400000 in
set_option maxRecDepth 100000 in
theorem specParseReader_any (s : ByteArray) (w : World) (hs : s.size ≤ 1048576) :
    Calls Tryz.prog 11 #[.string s] w (ParseReader_Post s w) := by
  have B0 := Lib.hid (bel_al1 w (.cells #[.int .i64 0, .string ByteArray.empty, .int .i64 0, .int .i64 0, .int .i64 0] 25))
  have Z0 := Lib.hid (HBReader.new w rd0 _ rfl)
  have SZ := Lib.hid (splitR_small s 32 _ 0 0 rfl (by omega))
  have SL := Lib.hid (splitR_len s 32 _ 0 0 rfl (by omega))
  go_enter Tryz.func11, Tryz.ntmps11
  go_wp2_with fail
  refine (l1Split_any s 32 _ hs).mono ?_
  rintro e w2 ⟨v, rfl, hown, hb2⟩
  obtain ⟨ws, hws⟩ : ∃ ws, splitR s 32 0 0 = ws := ⟨_, rfl⟩
  rw [hws] at hown
  have WS := Lib.hid hws
  have B2 := Lib.hid (Below.then' B0.out hb2)
  have Z2 := Lib.hid (Z0.out.below hb2)
  have O2 := Lib.hid hown
  have hw1 : 1 ≤ ws.length ∧ ws.length ≤ 1048577 := by have := SL.out; rw [hws] at this; omega
  obtain ⟨g, cc, rfl, _, hcl, hcm⟩ := own_some hown (by omega)
  have q := hown.cells (g := g) rfl
  clear hb2 hown hws
  have ZZ := Lib.hid (fun (W : World) (h : Below w2.heap.size w2 W) => (Z2.out.below h).setAll rd0)
  obtain ⟨d0, d1, d2, d3, d4⟩ := Z2.out.cells
  have g0 := Z2.out.free 0
  have g1 := Z2.out.free 1
  have g2 := Z2.out.free 2
  have g3 := Z2.out.free 3
  have g4 := Z2.out.free 4
  by_cases h60 : (60 : Int) < (s.size : Int)
  · have E := Lib.hid (parse_none (specNo (s := s) (fun h => by have := h.1; omega)))
    clear q
    go_wp2
    refine bodyPost_ret (resultsReader2 rfl rfl rfl (ZZ.out w2 (Below.refl _ _))) rfl ⟨?_, ?_⟩
    · first | (rw [E.out.1, E.out.2]; done) | (rw [E.out.1, E.out.2]; rfl)
    · exact ((((B2.out.setCell (by simp) _).setCell (by simp) _).setCell (by simp) _).setCell (by simp) _).setCell (by simp) _
  by_cases h57 : ¬ ws.length = 5 ∧ ¬ ws.length = 7
  · have E := Lib.hid (parse_none (specNo (s := s) (fun h => by have h2 := h.2.1; rw [WS.out] at h2; omega)))
    have t1 : (((ws.length : Nat) : Int) == 5) = false := by rw [beq_eq_false_iff_ne]; omega
    have t2 : (((ws.length : Nat) : Int) == 7) = false := by rw [beq_eq_false_iff_ne]; omega
    have t3 : (((ws.length : Nat) : Int) != 5) = true := by simp; omega
    have t4 : (((ws.length : Nat) : Int) != 7) = true := by simp; omega
    have H57 := Lib.hid h57
    clear q h57
    go_wp2
    refine bodyPost_ret (resultsReader2 rfl rfl rfl (ZZ.out w2 (Below.refl _ _))) rfl ⟨?_, ?_⟩
    · first | (rw [E.out.1, E.out.2]; done) | (rw [E.out.1, E.out.2]; rfl)
    · exact ((((B2.out.setCell (by simp) _).setCell (by simp) _).setCell (by simp) _).setCell (by simp) _).setCell (by simp) _
  rcases (show ws.length = 5 ∨ ws.length = 7 by omega) with hlen | hlen
  · obtain ⟨a, b, c, d, e, rfl⟩ : ∃ a b c d e, ws = [a, b, c, d, e] := by
      match ws, hlen with
      | [a, b, c, d, e], _ => exact ⟨a, b, c, d, e, rfl⟩
    have q0 := q 0 (.string a) rfl
    have q1 := q 1 (.string b) rfl
    have q2 := q 2 (.string c) rfl
    have q4 := q 4 (.string e) rfl
    rw [add_plain, Nat.zero_add] at q0 q1 q2 q4
    have sz : ∀ x ∈ [a, b, c, d, e], x.size ≤ 1048576 := fun x hx => by
      have := SZ.out x (by rw [WS.out]; exact hx)
      omega
    have Q0 := Lib.hid q0
    have Q1 := Lib.hid q1
    have Q2 := Lib.hid q2
    have Q4 := Lib.hid q4
    have s0 := sz a (by simp)
    have s1 := sz b (by simp)
    have s2 := sz c (by simp)
    have s4 := sz e (by simp)
    clear q sz hlen h57
    by_cases hc2 : ¬ c.size = 2
    · have E := Lib.hid (parse_none (specNo (s := s) (fun h => by have h2 := h.2.2; rw [WS.out] at h2; exact hc2 h2)))
      have t1 : (((c.size : Nat) : Int) == 2) = false := by rw [beq_eq_false_iff_ne]; omega
      have t2 : (((c.size : Nat) : Int) != 2) = true := by simp; omega
      have HC := Lib.hid hc2
      clear hc2
      go_wp2
      refine bodyPost_ret (resultsReader2 rfl rfl rfl (ZZ.out w2 (Below.refl _ _))) rfl ⟨?_, ?_⟩
      · first | (rw [E.out.1, E.out.2]; done) | (rw [E.out.1, E.out.2]; rfl)
      · exact ((((B2.out.setCell (by simp) _).setCell (by simp) _).setCell (by simp) _).setCell (by simp) _).setCell (by simp) _
    have hc2 : c.size = 2 := by omega
    obtain ⟨n0, hn0⟩ : ∃ n, parseV a = n := ⟨_, rfl⟩
    obtain ⟨n2, hn2⟩ : ∃ n, parseV (tail1 c) = n := ⟨_, rfl⟩
    obtain ⟨n4, hn4⟩ : ∃ n, parseV e = n := ⟨_, rfl⟩
    have CM := Lib.hid (show candM (splitR s 32 0 0) = ⟨n0.1, b, n4.1, n2.1, 0⟩ from by
      rw [WS.out]; unfold candM; simp only [List.getD_cons_zero, List.getD_cons_succ, hn0, hn2, hn4]; rfl)
    have HN0 := Lib.hid hn0; have HN2 := Lib.hid hn2; have HN4 := Lib.hid hn4
    have HC2 := Lib.hid hc2
    have tsz : (tail1 c).size ≤ 1048576 := by unfold tail1; rw [ByteArray.size_extract]; omega
    have c1 : 1 ≤ c.size := by omega
    have t1 : (((c.size : Nat) : Int) == 2) = true := by rw [beq_iff_eq]; omega
    have t2 : (((c.size : Nat) : Int) != 2) = false := by simp; omega
    have ht1 : c.extract 1 c.size = tail1 c := rfl
    have HT := Lib.hid ht1
    clear hn0 hn2 hn4 hc2 ht1
    have hlt : w.heap.size < w2.heap.size := Z2.out.lt
    have hne : w.heap.size ≠ w2.heap.size := by omega
    have hne2 : ¬ w2.heap.size = w.heap.size := by omega
    have hle : w.heap.size ≤ w2.heap.size := by omega
    have BC3 := Lib.hid (bel_al1 w2 (.cells #[.int .i64 0, .string b, .int .i64 0, .int .i64 0, .int .i64 0] 25))
    have R3 := Lib.hid (HBReader.new w2 ⟨0, b, 0, 0, 0⟩ _ rfl)
    have r0 := keepCell Q0.out BC3.out
    have r1 := keepCell Q1.out BC3.out
    have r2 := keepCell Q2.out BC3.out
    have r4 := keepCell Q4.out BC3.out
    have hg2 : g < w2.heap.size := World.lt_of_cell Q0.out
    have hg3 : ¬ g = w2.heap.size := by omega
    clear d0 d1 d2 d3 d4 g0 g1 g2 g3 g4
    go_wp2_with fail
    refine (readB a _ (by first | exact tsz | omega)).mono ?_
    rintro y w4 ⟨rfl, hb⟩
    rw [HN0.out]
    have BC4 := Lib.hid (Below.then' BC3.out hb)
    have R4 := Lib.hid (R3.out.below hb)
    clear hb
    try clear c0 c1 c2 c3 c4
    try clear f0
    try clear f2
    try clear f3
    clear r0 r1 r2 r4
    obtain ⟨c0, c1, c2, c3, c4⟩ := R4.out.cells
    have f0 := R4.out.free 0
    have r0 := keepCell Q0.out BC4.out
    have r1 := keepCell Q1.out BC4.out
    have r2 := keepCell Q2.out BC4.out
    have r4 := keepCell Q4.out BC4.out
    have BC5 := Lib.hid (BC4.out.setCell (p := ⟨w2.heap.size, 0, none⟩) (Nat.le_refl _) (.int .i64 n0.1))
    have R5 := Lib.hid (R4.out.set0 n0.1)
    go_wp2_with fail
    rw [HT.out]
    refine (readB (tail1 c) _ (by first | exact tsz | omega)).mono ?_
    rintro y w6 ⟨rfl, hb⟩
    rw [HN2.out]
    have BC6 := Lib.hid (Below.then' BC5.out hb)
    have R6 := Lib.hid (R5.out.below hb)
    clear hb
    try clear c0 c1 c2 c3 c4
    try clear f0
    try clear f2
    try clear f3
    clear r0 r1 r2 r4
    obtain ⟨c0, c1, c2, c3, c4⟩ := R6.out.cells
    have f3 := R6.out.free 3
    have r0 := keepCell Q0.out BC6.out
    have r1 := keepCell Q1.out BC6.out
    have r2 := keepCell Q2.out BC6.out
    have r4 := keepCell Q4.out BC6.out
    have BC7 := Lib.hid (BC6.out.setCell (p := ⟨w2.heap.size, 3, none⟩) (Nat.le_refl _) (.int .i64 n2.1))
    have R7 := Lib.hid (R6.out.set3 n2.1)
    go_wp2_with fail
    refine (readB e _ (by first | exact tsz | omega)).mono ?_
    rintro y w8 ⟨rfl, hb⟩
    rw [HN4.out]
    have BC8 := Lib.hid (Below.then' BC7.out hb)
    have R8 := Lib.hid (R7.out.below hb)
    clear hb
    try clear c0 c1 c2 c3 c4
    try clear f0
    try clear f2
    try clear f3
    clear r0 r1 r2 r4
    obtain ⟨c0, c1, c2, c3, c4⟩ := R8.out.cells
    have f2 := R8.out.free 2
    have r0 := keepCell Q0.out BC8.out
    have r1 := keepCell Q1.out BC8.out
    have r2 := keepCell Q2.out BC8.out
    have r4 := keepCell Q4.out BC8.out
    have BC9 := Lib.hid (BC8.out.setCell (p := ⟨w2.heap.size, 2, none⟩) (Nat.le_refl _) (.int .i64 n4.1))
    have R9 := Lib.hid (R8.out.set2 n4.1)
    obtain ⟨r, hr⟩ : ∃ r : VReader, (⟨n0.1, b, n4.1, n2.1, 0⟩ : VReader) = r := ⟨_, rfl⟩
    have HR := Lib.hid hr
    clear hr
    go_wp2_with fail
    refine (l3One_any ⟨n0.1, b, n4.1, n2.1, 0⟩ _ (by unfold VReader.small maxLen; show b.size ≤ _; omega)).mono ?_
    rintro y w10 ⟨rfl, hb⟩
    rw [HR.out]
    have BC10 := Lib.hid (Below.then' BC9.out hb)
    have RX := Lib.hid (R9.out.below hb)
    rw [HR.out] at RX
    have CM2 := Lib.hid (CM.out.trans HR.out)
    clear hb c0 c1 c2 c3 c4 r0 r1 r2 r4
    have BF := Lib.hid (Below.then' B2.out BC10.out)
    have ZF := Lib.hid (Z2.out.below BC10.out)
    obtain ⟨d0, d1, d2, d3, d4⟩ := ZF.out.cells
    have g0 := ZF.out.free 0
    have g1 := ZF.out.free 1
    have g2 := ZF.out.free 2
    have g3 := ZF.out.free 3
    have g4 := ZF.out.free 4
    cases hok : r.ok with
    | false =>
      have E := Lib.hid (parse_none (specNo2 (s := s) (fun h => by have h2 := h.1; rw [CM2.out, hok] at h2; cases h2)))
      clear hok
      go_wp2
      refine bodyPost_ret (resultsReader2 rfl rfl rfl (ZF.out.setAll rd0)) rfl ⟨?_, ?_⟩
      · first | (rw [E.out.1, E.out.2]; done) | (rw [E.out.1, E.out.2]; rfl)
      · exact ((((BF.out.setCell (by simp) _).setCell (by simp) _).setCell (by simp) _).setCell (by simp) _).setCell (by simp) _
    | true =>
      have OK := Lib.hid hok
      clear hok
      have HRC := Lib.hid RX.out.cells
      obtain ⟨c0, c1, c2, c3, c4⟩ := RX.out.cells
      go_wp2_with fail
      refine (l3Text_any r _ OK.out).mono ?_
      rintro y w20 ⟨rfl, hb⟩
      have BG := Lib.hid (Below.then' BF.out hb)
      have RG := Lib.hid (RX.out.below hb)
      have ZG := Lib.hid (ZF.out.below hb)
      clear hb c0 c1 c2 c3 c4 d0 d1 d2 d3 d4 g0 g1 g2 g3 g4
      obtain ⟨c0, c1, c2, c3, c4⟩ := RG.out.cells
      obtain ⟨d0, d1, d2, d3, d4⟩ := ZG.out.cells
      have g0 := ZG.out.free 0
      have g1 := ZG.out.free 1
      have g2 := ZG.out.free 2
      have g3 := ZG.out.free 3
      have g4 := ZG.out.free 4
      by_cases heq : rdText r = s
      · have E := Lib.hid (parse_some (specYes (s := s) (by rw [CM2.out]; exact OK.out) (by rw [CM2.out]; exact heq)))
        have E2 := E.out
        rw [CM2.out] at E2
        have E := Lib.hid E2
        have t3 := eq_testT heq
        have RES := Lib.hid (ZG.out.setAll r)
        clear heq E2
        go_wp2
        refine bodyPost_ret (resultsReader2 rfl rfl rfl RES.out) rfl ⟨?_, ?_⟩
        · first | (rw [E.out.1, E.out.2]; done) | (rw [E.out.1, E.out.2]; rfl)
        · exact ((((BG.out.setCell (by simp) _).setCell (by simp) _).setCell (by simp) _).setCell (by simp) _).setCell (by simp) _
      · have E := Lib.hid (parse_none (specNo2 (s := s) (fun h => by have h2 := h.2; rw [CM2.out] at h2; exact heq h2)))
        have t3 := ne_testT heq
        clear heq
        go_wp2
        refine bodyPost_ret (resultsReader2 rfl rfl rfl (ZG.out.setAll rd0)) rfl ⟨?_, ?_⟩
        · first | (rw [E.out.1, E.out.2]; done) | (rw [E.out.1, E.out.2]; rfl)
        · exact ((((BG.out.setCell (by simp) _).setCell (by simp) _).setCell (by simp) _).setCell (by simp) _).setCell (by simp) _
  · obtain ⟨a, b, c, d, e, f, k, rfl⟩ : ∃ a b c d e f k, ws = [a, b, c, d, e, f, k] := by
      match ws, hlen with
      | [a, b, c, d, e, f, k], _ => exact ⟨a, b, c, d, e, f, k, rfl⟩
    have q0 := q 0 (.string a) rfl
    have q1 := q 1 (.string b) rfl
    have q2 := q 2 (.string c) rfl
    have q4 := q 4 (.string e) rfl
    have q6 := q 6 (.string k) rfl
    rw [add_plain, Nat.zero_add] at q0 q1 q2 q4 q6
    have sz : ∀ x ∈ [a, b, c, d, e, f, k], x.size ≤ 1048576 := fun x hx => by
      have := SZ.out x (by rw [WS.out]; exact hx)
      omega
    have Q0 := Lib.hid q0
    have Q1 := Lib.hid q1
    have Q2 := Lib.hid q2
    have Q4 := Lib.hid q4
    have Q6 := Lib.hid q6
    have s0 := sz a (by simp)
    have s1 := sz b (by simp)
    have s2 := sz c (by simp)
    have s4 := sz e (by simp)
    have s6 := sz k (by simp)
    clear q sz hlen h57
    by_cases hc2 : ¬ c.size = 2
    · have E := Lib.hid (parse_none (specNo (s := s) (fun h => by have h2 := h.2.2; rw [WS.out] at h2; exact hc2 h2)))
      have t1 : (((c.size : Nat) : Int) == 2) = false := by rw [beq_eq_false_iff_ne]; omega
      have t2 : (((c.size : Nat) : Int) != 2) = true := by simp; omega
      have HC := Lib.hid hc2
      clear hc2
      go_wp2
      refine bodyPost_ret (resultsReader2 rfl rfl rfl (ZZ.out w2 (Below.refl _ _))) rfl ⟨?_, ?_⟩
      · first | (rw [E.out.1, E.out.2]; done) | (rw [E.out.1, E.out.2]; rfl)
      · exact ((((B2.out.setCell (by simp) _).setCell (by simp) _).setCell (by simp) _).setCell (by simp) _).setCell (by simp) _
    have hc2 : c.size = 2 := by omega
    obtain ⟨n0, hn0⟩ : ∃ n, parseV a = n := ⟨_, rfl⟩
    obtain ⟨n2, hn2⟩ : ∃ n, parseV (tail1 c) = n := ⟨_, rfl⟩
    obtain ⟨n4, hn4⟩ : ∃ n, parseV e = n := ⟨_, rfl⟩
    obtain ⟨n6, hn6⟩ : ∃ n, parseV k = n := ⟨_, rfl⟩
    have CM := Lib.hid (show candM (splitR s 32 0 0) = ⟨n0.1, b, n4.1, n2.1, n6.1⟩ from by
      rw [WS.out]; unfold candM; simp only [List.getD_cons_zero, List.getD_cons_succ, hn0, hn2, hn4, hn6]; rfl)
    have HN0 := Lib.hid hn0; have HN2 := Lib.hid hn2; have HN4 := Lib.hid hn4; have HN6 := Lib.hid hn6
    have HC2 := Lib.hid hc2
    have tsz : (tail1 c).size ≤ 1048576 := by unfold tail1; rw [ByteArray.size_extract]; omega
    have c1 : 1 ≤ c.size := by omega
    have t1 : (((c.size : Nat) : Int) == 2) = true := by rw [beq_iff_eq]; omega
    have t2 : (((c.size : Nat) : Int) != 2) = false := by simp; omega
    have ht1 : c.extract 1 c.size = tail1 c := rfl
    have HT := Lib.hid ht1
    clear hn0 hn2 hn4 hn6 hc2 ht1
    have hlt : w.heap.size < w2.heap.size := Z2.out.lt
    have hne : w.heap.size ≠ w2.heap.size := by omega
    have hne2 : ¬ w2.heap.size = w.heap.size := by omega
    have hle : w.heap.size ≤ w2.heap.size := by omega
    have BC3 := Lib.hid (bel_al1 w2 (.cells #[.int .i64 0, .string b, .int .i64 0, .int .i64 0, .int .i64 0] 25))
    have R3 := Lib.hid (HBReader.new w2 ⟨0, b, 0, 0, 0⟩ _ rfl)
    have r0 := keepCell Q0.out BC3.out
    have r1 := keepCell Q1.out BC3.out
    have r2 := keepCell Q2.out BC3.out
    have r4 := keepCell Q4.out BC3.out
    have r6 := keepCell Q6.out BC3.out
    have hg2 : g < w2.heap.size := World.lt_of_cell Q0.out
    have hg3 : ¬ g = w2.heap.size := by omega
    clear d0 d1 d2 d3 d4 g0 g1 g2 g3 g4
    go_wp2_with fail
    refine (readB a _ (by first | exact tsz | omega)).mono ?_
    rintro y w4 ⟨rfl, hb⟩
    rw [HN0.out]
    have BC4 := Lib.hid (Below.then' BC3.out hb)
    have R4 := Lib.hid (R3.out.below hb)
    clear hb
    try clear c0 c1 c2 c3 c4
    try clear f0
    try clear f2
    try clear f3
    clear r0 r1 r2 r4 r6
    obtain ⟨c0, c1, c2, c3, c4⟩ := R4.out.cells
    have f0 := R4.out.free 0
    have r0 := keepCell Q0.out BC4.out
    have r1 := keepCell Q1.out BC4.out
    have r2 := keepCell Q2.out BC4.out
    have r4 := keepCell Q4.out BC4.out
    have r6 := keepCell Q6.out BC4.out
    have BC5 := Lib.hid (BC4.out.setCell (p := ⟨w2.heap.size, 0, none⟩) (Nat.le_refl _) (.int .i64 n0.1))
    have R5 := Lib.hid (R4.out.set0 n0.1)
    go_wp2_with fail
    rw [HT.out]
    refine (readB (tail1 c) _ (by first | exact tsz | omega)).mono ?_
    rintro y w6 ⟨rfl, hb⟩
    rw [HN2.out]
    have BC6 := Lib.hid (Below.then' BC5.out hb)
    have R6 := Lib.hid (R5.out.below hb)
    clear hb
    try clear c0 c1 c2 c3 c4
    try clear f0
    try clear f2
    try clear f3
    clear r0 r1 r2 r4 r6
    obtain ⟨c0, c1, c2, c3, c4⟩ := R6.out.cells
    have f3 := R6.out.free 3
    have r0 := keepCell Q0.out BC6.out
    have r1 := keepCell Q1.out BC6.out
    have r2 := keepCell Q2.out BC6.out
    have r4 := keepCell Q4.out BC6.out
    have r6 := keepCell Q6.out BC6.out
    have BC7 := Lib.hid (BC6.out.setCell (p := ⟨w2.heap.size, 3, none⟩) (Nat.le_refl _) (.int .i64 n2.1))
    have R7 := Lib.hid (R6.out.set3 n2.1)
    go_wp2_with fail
    refine (readB e _ (by first | exact tsz | omega)).mono ?_
    rintro y w8 ⟨rfl, hb⟩
    rw [HN4.out]
    have BC8 := Lib.hid (Below.then' BC7.out hb)
    have R8 := Lib.hid (R7.out.below hb)
    clear hb
    try clear c0 c1 c2 c3 c4
    try clear f0
    try clear f2
    try clear f3
    clear r0 r1 r2 r4 r6
    obtain ⟨c0, c1, c2, c3, c4⟩ := R8.out.cells
    have f2 := R8.out.free 2
    have r0 := keepCell Q0.out BC8.out
    have r1 := keepCell Q1.out BC8.out
    have r2 := keepCell Q2.out BC8.out
    have r4 := keepCell Q4.out BC8.out
    have r6 := keepCell Q6.out BC8.out
    have BC9 := Lib.hid (BC8.out.setCell (p := ⟨w2.heap.size, 2, none⟩) (Nat.le_refl _) (.int .i64 n4.1))
    have R9 := Lib.hid (R8.out.set2 n4.1)
    go_wp2_with fail
    refine (readB k _ (by first | exact tsz | omega)).mono ?_
    rintro y w10 ⟨rfl, hb⟩
    rw [HN6.out]
    have BC10 := Lib.hid (Below.then' BC9.out hb)
    have R10 := Lib.hid (R9.out.below hb)
    clear hb
    try clear c0 c1 c2 c3 c4
    try clear f0
    try clear f2
    try clear f3
    clear r0 r1 r2 r4 r6
    obtain ⟨c0, c1, c2, c3, c4⟩ := R10.out.cells
    have f4 := R10.out.free 4
    have r0 := keepCell Q0.out BC10.out
    have r1 := keepCell Q1.out BC10.out
    have r2 := keepCell Q2.out BC10.out
    have r4 := keepCell Q4.out BC10.out
    have r6 := keepCell Q6.out BC10.out
    have BC11 := Lib.hid (BC10.out.setCell (p := ⟨w2.heap.size, 4, none⟩) (Nat.le_refl _) (.int .i64 n6.1))
    have R11 := Lib.hid (R10.out.set4 n6.1)
    obtain ⟨r, hr⟩ : ∃ r : VReader, (⟨n0.1, b, n4.1, n2.1, n6.1⟩ : VReader) = r := ⟨_, rfl⟩
    have HR := Lib.hid hr
    clear hr
    go_wp2_with fail
    refine (l3One_any ⟨n0.1, b, n4.1, n2.1, n6.1⟩ _ (by unfold VReader.small maxLen; show b.size ≤ _; omega)).mono ?_
    rintro y w12 ⟨rfl, hb⟩
    rw [HR.out]
    have BC12 := Lib.hid (Below.then' BC11.out hb)
    have RX := Lib.hid (R11.out.below hb)
    rw [HR.out] at RX
    have CM2 := Lib.hid (CM.out.trans HR.out)
    clear hb c0 c1 c2 c3 c4 r0 r1 r2 r4 r6
    have BF := Lib.hid (Below.then' B2.out BC12.out)
    have ZF := Lib.hid (Z2.out.below BC12.out)
    obtain ⟨d0, d1, d2, d3, d4⟩ := ZF.out.cells
    have g0 := ZF.out.free 0
    have g1 := ZF.out.free 1
    have g2 := ZF.out.free 2
    have g3 := ZF.out.free 3
    have g4 := ZF.out.free 4
    cases hok : r.ok with
    | false =>
      have E := Lib.hid (parse_none (specNo2 (s := s) (fun h => by have h2 := h.1; rw [CM2.out, hok] at h2; cases h2)))
      clear hok
      go_wp2
      refine bodyPost_ret (resultsReader2 rfl rfl rfl (ZF.out.setAll rd0)) rfl ⟨?_, ?_⟩
      · first | (rw [E.out.1, E.out.2]; done) | (rw [E.out.1, E.out.2]; rfl)
      · exact ((((BF.out.setCell (by simp) _).setCell (by simp) _).setCell (by simp) _).setCell (by simp) _).setCell (by simp) _
    | true =>
      have OK := Lib.hid hok
      clear hok
      have HRC := Lib.hid RX.out.cells
      obtain ⟨c0, c1, c2, c3, c4⟩ := RX.out.cells
      go_wp2_with fail
      refine (l3Text_any r _ OK.out).mono ?_
      rintro y w20 ⟨rfl, hb⟩
      have BG := Lib.hid (Below.then' BF.out hb)
      have RG := Lib.hid (RX.out.below hb)
      have ZG := Lib.hid (ZF.out.below hb)
      clear hb c0 c1 c2 c3 c4 d0 d1 d2 d3 d4 g0 g1 g2 g3 g4
      obtain ⟨c0, c1, c2, c3, c4⟩ := RG.out.cells
      obtain ⟨d0, d1, d2, d3, d4⟩ := ZG.out.cells
      have g0 := ZG.out.free 0
      have g1 := ZG.out.free 1
      have g2 := ZG.out.free 2
      have g3 := ZG.out.free 3
      have g4 := ZG.out.free 4
      by_cases heq : rdText r = s
      · have E := Lib.hid (parse_some (specYes (s := s) (by rw [CM2.out]; exact OK.out) (by rw [CM2.out]; exact heq)))
        have E2 := E.out
        rw [CM2.out] at E2
        have E := Lib.hid E2
        have t3 := eq_testT heq
        have RES := Lib.hid (ZG.out.setAll r)
        clear heq E2
        go_wp2
        refine bodyPost_ret (resultsReader2 rfl rfl rfl RES.out) rfl ⟨?_, ?_⟩
        · first | (rw [E.out.1, E.out.2]; done) | (rw [E.out.1, E.out.2]; rfl)
        · exact ((((BG.out.setCell (by simp) _).setCell (by simp) _).setCell (by simp) _).setCell (by simp) _).setCell (by simp) _
      · have E := Lib.hid (parse_none (specNo2 (s := s) (fun h => by have h2 := h.2; rw [CM2.out] at h2; exact heq h2)))
        have t3 := ne_testT heq
        clear heq
        go_wp2
        refine bodyPost_ret (resultsReader2 rfl rfl rfl (ZG.out.setAll rd0)) rfl ⟨?_, ?_⟩
        · first | (rw [E.out.1, E.out.2]; done) | (rw [E.out.1, E.out.2]; rfl)
        · exact ((((BG.out.setCell (by simp) _).setCell (by simp) _).setCell (by simp) _).setCell (by simp) _).setCell (by simp) _
end Go.Proofs.YtidaoijpbdljbabGreatDoor
