/- AreDrawers in the program. -/
import Derived.Test.YtlmedhidkhphbaaDi3
namespace Go.Proofs.Ytlmedhidkhphbaa
open Go.RowKit

theorem firstOf_any {α : Type} (f : α → Bool) (xs : List α) : decide (0 ≤ firstOf f xs) = xs.any f := by
  rcases find_first f xs with ⟨h1, h2⟩ | ⟨i, s, h1, h2, _, h4⟩
  · rw [h1]
    have : xs.any f = false := by
      rw [List.any_eq_false]
      exact fun x hx => by have := List.find?_eq_none.1 h2 x hx; simpa using this
    rw [this]; rfl
  · rw [h1, List.any_eq_true.2 ⟨s, List.mem_of_getElem? h2, h4⟩]
    simp
set_option maxHeartbeats 1600000 in
theorem containsFunc_any (K : FuncId) (caps : Array Value) (f : Int → Bool) (a : Option Addr) (len cap : Nat) (zs : List Int) (w : World) (h : IsInts w a len cap zs)
    (hcall : ∀ args W, (callFunc K args).run Try.prog W = .ok (.enter K args) W)
    (hf : ∀ (W : World) (s : Int), s ∈ zs → Below w.heap.size w W → Calls Try.prog K (#[.int .i64 s] ++ caps) W fun e w' => e = .returned (.bool (f s)) ∧ Below W.heap.size W w') :
    Calls Try.prog 95 #[.slice a len cap, .func (.func K) #[] caps] w fun e w' => e = .returned (.bool (zs.any f)) ∧ Below w.heap.size w w' := by
  have S := Lib.hid h
  have F := Lib.hid hf
  obtain ⟨v, hv⟩ : ∃ v, firstOf f zs = v := ⟨_, rfl⟩
  have V := Lib.hid (show zs.any f = decide (0 ≤ v) from by rw [← firstOf_any, hv])
  have HV := Lib.hid hv
  clear h hf hv
  go_enter Try.func95, Try.ntmps95
  go_wp2_with fail
  refine (idxInt_any K caps f a len cap zs _ S.out hcall F.out).mono ?_
  rintro e w1 ⟨rfl, hb⟩
  rw [HV.out]
  have B := Lib.hid hb
  clear hb
  go_wp2
  go_ret
  exact ⟨ret_bool V.out.symm, B.out⟩
set_option maxHeartbeats 3200000 in
/-- Is a flat in one of the drawers before? -/
theorem inAnother_any (id : Int) (bl bi : Nat) (a : Option Addr) (n c k : Nat) (xs : List VDrawer) (w : World) (h1 : w.cell? ⟨bl, 0, none⟩ = some (.slice a n c)) (h2 : w.cell? ⟨bi, 0, none⟩ = some (.int .i64 (k : Int))) (h : IsDrawerS w a n c xs) (hk : k ≤ n) :
    Calls Try.prog 93 #[.int .i64 id, .pointer (some ⟨bl, 0, none⟩), .pointer (some ⟨bi, 0, none⟩)] w fun e w' => e = .returned (.bool (decide (0 ≤ holdI (xs.take k) id))) ∧ Below w.heap.size w w' := by
  have hm := h.2.2.1
  have hcl := h.2.1
  unfold maxLen at hm
  have S := Lib.hid (h.take hk)
  obtain ⟨v, hv⟩ : ∃ v, holdI (xs.take k) id = v := ⟨_, rfl⟩
  rw [hv]
  have HV := Lib.hid hv
  have k0 : (0 : Int) ≤ (k : Int) := by omega
  have k1 : (k : Int) ≤ (n : Int) := by omega
  have k2 : (k : Int) ≤ (c : Int) := by omega
  clear h hv
  go_enter Try.func93, Try.ntmps93
  cases a with
  | none =>
    have hc : (c : Int) = 0 ∨ (0 : Int) < (c : Int) := by omega
    go_wp2_with fail
    refine (indexOfHolder_any _ _ _ (xs.take k) id _ S.out).mono ?_
    rintro e w1 ⟨rfl, hb⟩
    rw [HV.out]
    have B := Lib.hid hb
    clear hb
    go_wp2
    go_ret
    exact ⟨rfl, B.out⟩
  | some ad =>
    go_wp2_with fail
    refine (indexOfHolder_any _ _ _ (xs.take k) id _ S.out).mono ?_
    rintro e w1 ⟨rfl, hb⟩
    rw [HV.out]
    have B := Lib.hid hb
    clear hb
    go_wp2
    go_ret
    exact ⟨rfl, B.out⟩
theorem good_bad {fs : List VFlat} {ds : List VDrawer} {i : Nat} (h : rightAt fs ds i = false) (hi : i < ds.length) : goodB fs ds = false := by
  unfold goodB
  rw [Bool.and_eq_false_iff, Bool.and_eq_false_iff]
  exact .inr (.inr (List.all_eq_false.2 ⟨i, List.mem_range.2 hi, by rw [h]; simp⟩))
set_option maxHeartbeats 12800000 in
set_option maxRecDepth 100000 in
theorem areDrawers_any (a : Option Addr) (len cap : Nat) (xs : List VFlat) (a1 : Option Addr) (len1 cap1 : Nat) (ds : List VDrawer) (w : World) (h : IsFlatS w a len cap xs) (h' : IsDrawerS w a1 len1 cap1 ds) :
    Calls Try.prog 32 #[.slice a len cap, .slice a1 len1 cap1] w fun e w' => e = .returned (.bool (goodB xs ds)) ∧ Below w.heap.size w w' := by
  have hm := h'.2.2.1
  have hcl := h'.2.1
  unfold maxLen at hm
  have b1 := bel_al1 w (.cells #[.slice a1 len1 cap1] 25)
  have S := Lib.hid (h.below b1)
  have D := Lib.hid (h'.below b1)
  have C := Lib.hid (cell_box w (.slice a1 len1 cap1) 25 _ rfl)
  have B1 := Lib.hid b1
  have DL := Lib.hid h'.1
  clear h h' b1
  go_enter Try.func32, Try.ntmps32
  go_wp2_with fail
  refine (areFlats_any _ _ _ xs _ S.out).mono ?_
  rintro e w1 ⟨rfl, hb⟩
  have B2 := Lib.hid (Below.then' B1.out hb)
  have S2 := Lib.hid (S.out.below hb)
  have D2 := Lib.hid (D.out.below hb)
  have c2 := cell_stay C.out hb
  have C2 := Lib.hid c2
  clear hb
  cases hf : flatsB xs with
  | false =>
    have NO := Lib.hid (show goodB xs ds = false from by unfold goodB; rw [hf]; rfl)
    clear hf
    go_wp2
    go_ret
    exact ⟨ret_bool NO.out.symm, B2.out⟩
  | true =>
  have HF := Lib.hid hf
  have hfl : xs.length ≤ 20 := by unfold flatsB at hf; simp at hf; exact hf.2
  have OK := Lib.hid (show ∀ f ∈ xs, VFlat.ok f = true from fun f hm => by
    unfold flatsB at hf
    rw [Bool.and_eq_true] at hf
    exact upB_ok hf.1 hm)
  clear hf
  go_wp2_with fail
  refine (byDrawer_any 85 64 VDrawer.ok VDrawer.Id 8 a1 len1 cap1 ds _ D2.out (enters_fn Try.func85 (by kernel_rfl) (by kernel_rfl)) (enters_fn Try.func64 (by kernel_rfl) (by kernel_rfl)) (fun W s hd _ hi => isDrawer_any s hd W hi) (fun W s hd => drawerId_any s hd W)).mono ?_
  rintro e w2 ⟨rfl, hb⟩
  have B3 := Lib.hid (Below.then' B2.out hb)
  have S3 := Lib.hid (S2.out.below hb)
  have D3 := Lib.hid (D2.out.below hb)
  have c3 := cell_stay C2.out hb
  have C3 := Lib.hid c3
  clear hb c2
  rw [show (upB VDrawer.ok VDrawer.Id ds && decide ((ds.length : Int) ≤ 8)) = listB ds from by unfold listB; rw [← len_le]; rfl]
  cases hl : listB ds with
  | false =>
    have NO := Lib.hid (show goodB xs ds = false from by unfold goodB; rw [hl]; simp)
    clear hl
    go_wp2
    go_ret
    exact ⟨ret_bool NO.out.symm, B3.out⟩
  | true =>
  have HL := Lib.hid hl
  clear hl
  go_wp2
  go_loopw [18] (fun i wr => ∃ k : Nat, k ≤ len1 ∧ i = .int .i64 k ∧ (∀ j, j < k → rightAt xs ds j = true) ∧ Below w.heap.size w wr ∧ Below w2.heap.size w2 wr) (fun i _ => len1 - (intOf i).toNat)
  case atStart => exact ⟨0, Nat.zero_le _, rfl, fun _ h => by omega, B3.out, Below.refl _ _⟩
  case round =>
    obtain ⟨k, hk, rfl, hall, hbel, hbel2⟩ := hrel
    have A := Lib.hid hall
    have B := Lib.hid hbel
    have BB := Lib.hid hbel2
    clear hall c3
    by_cases hlt : k < len1
    · obtain ⟨x, hx⟩ := el_at DL hlt
      obtain ⟨b, o, ea, hb, hat⟩ := (D3.out.below hbel2).at (by omega)
      obtain ⟨hd, c0, c1, c2, c3, c4, hin⟩ := hat k x hx
      rw [ea]
      have EA := Lib.hid ea
      have K := Lib.hid hx
      have bw := bel_al2 wr (.cells #[.int .i64 (k : Int)] 3) (.cells #[.int .i64 x.Id, .int .i64 x.Wide, .int .i64 x.High, .int .i64 x.Holds, .slice hd.a hd.n hd.c] 42)
      have CI := Lib.hid (cell_stay (cell_box wr (.int .i64 (k : Int)) 3 _ rfl) (bel_al1 _ (.cells #[.int .i64 x.Id, .int .i64 x.Wide, .int .i64 x.High, .int .i64 x.Holds, .slice hd.a hd.n hd.c] 42)))
      have CL := Lib.hid (cell_stay (cell_stay C3.out hbel2) bw)
      have SB := Lib.hid ((S3.out.below hbel2).below bw)
      have DB := Lib.hid ((D3.out.below hbel2).below bw)
      have HI := Lib.hid (hin.below bw)
      have BX := Lib.hid (BoxDrawer.new (wr.alloc (.cells #[.int .i64 (k : Int)] 3)) 42 ⟨x, hd⟩ (wr.heap.size + 1) (size_al _ _))
      have BW := Lib.hid (Below.then' B.out bw)
      have BW2 := Lib.hid (Below.then' BB.out bw)
      clear hx hat hbel hbel2 hin bw ea
      go_wp2_with fail
      refine (isRightAlone_any _ _ _ xs x hd _ SB.out HI.out OK.out (by omega)).mono ?_
      rintro e w5 ⟨rfl, hb5⟩
      have B5 := Lib.hid (Below.then' BW.out hb5)
      have B52 := Lib.hid (Below.then' BW2.out hb5)
      have HI5 := Lib.hid (HI.out.below hb5)
      have DB5 := Lib.hid (DB.out.below hb5)
      have CI5 := Lib.hid (cell_stay CI.out hb5)
      have CL5 := Lib.hid (cell_stay CL.out hb5)
      obtain ⟨e0, e1, e2, e3, e4⟩ := BX.out.below hb5
      clear hb5 c0 c1 c2 c3 c4
      cases hr : rightB xs x with
      | false =>
        have NO := Lib.hid (show goodB xs ds = false from good_bad (i := k) (by unfold rightAt; rw [K.out]; show (rightB xs x && _) = false; rw [hr]; rfl) (by have := DL.out; omega))
        clear hr
        go_wp2
        go_ret
        exact ⟨ret_bool NO.out.symm, B5.out⟩
      | true =>
        have HR := Lib.hid hr
        clear hr
        go_wp2_with fail
        refine (containsFunc_any 93 #[.pointer (some ⟨w.heap.size, 0, none⟩), .pointer (some ⟨wr.heap.size, 0, none⟩)] (fun id => decide (0 ≤ holdI (ds.take k) id)) _ _ _ x.Flats _ HI5.out (enters_fn Try.func93 (by kernel_rfl) (by kernel_rfl)) (fun W s _ hW => by
          have h1 := inAnother_any s w.heap.size wr.heap.size a1 len1 cap1 k ds W (cell_stay CL5.out hW) (cell_stay CI5.out hW) (DB5.out.below hW) hk
          simpa using h1)).mono ?_
        rintro e w6 ⟨rfl, hb6⟩
        have B6 := Lib.hid (Below.then' B5.out hb6)
        have B62 := Lib.hid (Below.then' B52.out hb6)
        clear hb6 e0 e1 e2 e3 e4
        have AP : apartB ds k x = !(x.Flats.any fun id => decide (0 ≤ holdI (ds.take k) id)) := by
          unfold apartB
          rw [List.not_any_eq_all_not]
          congr 1
          funext id
          by_cases h : holdI (ds.take k) id < 0
          · simp [h]
          · simp [h]; omega
        cases hq : x.Flats.any (fun id => decide (0 ≤ holdI (ds.take k) id)) with
        | true =>
          have NO := Lib.hid (show goodB xs ds = false from good_bad (i := k) (by unfold rightAt; rw [K.out]; show (rightB xs x && apartB ds k x) = false; rw [AP, hq]; simp) (by have := DL.out; omega))
          clear hq AP
          go_wp2
          go_ret
          exact ⟨ret_bool NO.out.symm, B6.out⟩
        | false =>
          have YES := Lib.hid (show rightAt xs ds k = true from by unfold rightAt; rw [K.out]; show (rightB xs x && apartB ds k x) = true; rw [AP, hq, HR.out]; rfl)
          clear hq AP
          go_wp2
          go_roundw
          case rel => exact ⟨k + 1, by omega, by go_num, all_more A.out YES.out, B6.out, B62.out⟩
          case measure => simp [intOf]; omega
    · obtain rfl : k = len1 := by omega
      have YES := Lib.hid (show goodB xs ds = true from by
        unfold goodB
        rw [HF.out, HL.out, List.all_eq_true.2 fun i hi => A.out i (by have := DL.out; have := List.mem_range.1 hi; omega)]
        rfl)
      clear hbel hbel2
      go_wp2
      go_ret
      exact ⟨ret_bool YES.out.symm, B.out⟩
end Go.Proofs.Ytlmedhidkhphbaa
