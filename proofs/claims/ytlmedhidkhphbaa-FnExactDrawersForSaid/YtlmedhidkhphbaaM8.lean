/- Texts in one: Di3, Di4, Di5, Ins2, Del, Di6, Di7, Ds7. -/
import Derived.Test.YtlmedhidkhphbaaM7
import Derived.Test.YtlmedhidkhphbaaM3
import Derived.Test.YtlmedhidkhphbaaM4
import Derived.Test.YtlmedhidkhphbaaM5
import Derived.Laws.AppendOwn
import Derived.Test.YtlmedhidkhphbaaLayIns
import Derived.Test.YtlmedhidkhphbaaLayDel
import Derived.Test.YtlmedhidkhphbaaShelf
import Derived.Sort.OwnSortedInts
import Derived.Test.YtlmedhidkhphbaaM6
namespace Go.Proofs.Ytlmedhidkhphbaa
open Go.RowKit

set_option maxHeartbeats 12800000 in
set_option maxRecDepth 100000 in
theorem isRightAlone_any (a : Option Addr) (len cap : Nat) (xs : List VFlat) (x : VDrawer) (hd : Hd) (w : World) (h : IsFlatS w a len cap xs) (hi : IsInts w hd.a hd.n hd.c x.Flats) (hok : ∀ f ∈ xs, VFlat.ok f = true) (hl : xs.length ≤ 1000) :
    Calls Try.prog 94 #[.slice a len cap, .agg #[.int .i64 x.Id, .int .i64 x.Wide, .int .i64 x.High, .int .i64 x.Holds, .slice hd.a hd.n hd.c]] w fun e w' => e = .returned (.bool (rightB xs x)) ∧ Below w.heap.size w w' := by
  obtain rfl := h.1
  have hm := h.2.2.1
  have hcl := h.2.1
  unfold maxLen at hm
  have hm2 := hi.2.2.1
  have hcl2 := hi.2.1
  unfold maxLen at hm2
  have S := Lib.hid h
  have HI := Lib.hid hi
  have B1 := Lib.hid (bel_al1 w (.cells #[.int .i64 x.Id, .int .i64 x.Wide, .int .i64 x.High, .int .i64 x.Holds, .slice hd.a hd.n hd.c] 42))
  have X := Lib.hid (BoxDrawer.new w 42 ⟨x, hd⟩ _ rfl)
  have SZ := Lib.hid (size_al w (.cells #[.int .i64 x.Id, .int .i64 x.Wide, .int .i64 x.High, .int .i64 x.Holds, .slice hd.a hd.n hd.c] 42))
  have OK := Lib.hid hok
  have HL := Lib.hid hi.1
  clear h hi hok
  go_enter Try.func94, Try.ntmps94
  go_wp2
  go_loopw [11] (fun i wr => ∃ k : Nat, k ≤ hd.n ∧ i = .int .i64 k ∧ (∀ (j : Nat) id, j < k → x.Flats[j]? = some id → fitsId xs x id = true) ∧ Below w.heap.size w wr ∧ BoxDrawer wr w.heap.size ⟨x, hd⟩) (fun i _ => hd.n - (intOf i).toNat)
  case atStart => exact ⟨0, Nat.zero_le _, rfl, fun _ _ h => by omega, B1.out, X.out⟩
  case round =>
    obtain ⟨k, hk, rfl, hall, hbel, hbox⟩ := hrel
    have A := Lib.hid hall
    have B := Lib.hid hbel
    have BX := Lib.hid hbox
    clear hall
    by_cases hlt : k < hd.n
    · obtain ⟨id, hid⟩ := el_at HL hlt
      obtain ⟨b, o, eh, hb, hat⟩ := (HI.out.below hbel).at (by omega)
      have c0 := hat k id hid
      rw [eh]
      obtain ⟨d0, d1, d2, d3, d4⟩ := hbox
      have K := Lib.hid hid
      have EH := Lib.hid eh
      have SB := Lib.hid (S.out.below hbel)
      clear hid hat hbel eh
      go_wp2_with fail
      refine (indexOfFlat_any _ _ _ xs id _ SB.out).mono ?_
      rintro e w2 ⟨rfl, hb2⟩
      have B2 := Lib.hid (Below.then' B.out hb2)
      have BX2 := Lib.hid (BX.out.below hb2)
      have SB2 := Lib.hid (SB.out.below hb2)
      clear hb2 c0 d0 d1 d2 d3 d4
      by_cases hneg : flatI xs id < 0
      · have NO := Lib.hid (show rightB xs x = false from by
          unfold rightB
          have h1 := (flat_no hneg).2
          rw [Bool.and_eq_false_iff]
          refine .inl (List.all_eq_false.2 ⟨id, List.mem_of_getElem? K.out, ?_⟩)
          unfold fitsId; rw [h1]; simp)
        obtain ⟨y, hy⟩ : ∃ y, flatI xs id = y := ⟨_, rfl⟩
        rw [hy] at hneg ⊢
        have hdec : decide (y < 0) = true := by simpa using hneg
        clear hy
        go_wp2
        refine wp_region_quiet_below (by kernel_rfl) (by kernel_rfl) ?_
        repeat (first | go_big_quiet_step (fail) | quiet_step (fail))
        refine wpQuiet_nil ?_
        intro W2 hw2
        have B3 := Lib.hid (Below.then' B2.out (below_of_re hw2))
        clear hw2
        go_wp2
        go_ret
        exact ⟨ret_bool NO.out.symm, B3.out⟩
      · obtain ⟨i, f, hfi, hf, hof, hfid⟩ := flat_at (show 0 ≤ flatI xs id by omega)
        obtain ⟨bf, of, rfl, hbf, hatf⟩ := SB2.out.at (by have := (List.getElem?_eq_some_iff.1 hf).1; omega)
        obtain ⟨c0, c1, c2, c3⟩ := hatf i f hf
        have hil := (List.getElem?_eq_some_iff.1 hf).1
        obtain ⟨d0, d1, d2, d3, d4⟩ := BX2.out
        have k0 := cell_regrown c0
        have k1 := cell_regrown c1
        have k2 := cell_regrown c2
        have k3 := cell_regrown c3
        have l0 := cell_regrown d0
        have l1 := cell_regrown d1
        have l2 := cell_regrown d2
        have l3 := cell_regrown d3
        have l4 := cell_regrown d4
        rw [hfi]
        have hdec : decide ((i : Int) < 0) = false := by simp
        have i0 : (0 : Int) ≤ (i : Int) := by omega
        have i1 : (i : Int) < (xs.length : Int) := by omega
        obtain ⟨q, hq⟩ : ∃ q, fitsB f x = q := ⟨_, rfl⟩
        have cQ := below_at (W := w2) (fun W' _ => hq ▸ fitsInto_any f x hd W')
        have FI := Lib.hid (show fitsId xs x id = q from by unfold fitsId; rw [hof]; exact hq)
        clear c0 c1 c2 c3 d0 d1 d2 d3 d4 hf hatf hfi hneg hof hq hfid
        go_wp2
        refine wp_region_quiet_below (by kernel_rfl) (by kernel_rfl) ?_
        repeat (first | go_big_quiet_step (first | (with_reducible exact cQ _ _)) | quiet_step (first | (with_reducible exact cQ _ _)))
        refine wpQuiet_nil ?_
        intro W2 hw2
        have B3 := Lib.hid (Below.then' B2.out (below_of_re hw2))
        have BX3 := Lib.hid (BX2.out.below (below_of_re hw2))
        clear hw2 cQ k0 k1 k2 k3 l0 l1 l2 l3 l4
        cases q with
        | true =>
          go_wp2
          go_roundw
          case rel => exact ⟨k + 1, by omega, by go_num, fun j z hj hz => by
            by_cases e : j = k
            · subst e; rw [K.out] at hz; cases hz; exact FI.out
            · exact A.out j z (by omega) hz, B3.out, BX3.out⟩
          case measure => simp [intOf]; omega
        | false =>
          have NO := Lib.hid (show rightB xs x = false from by
            unfold rightB
            rw [Bool.and_eq_false_iff]
            exact .inl (List.all_eq_false.2 ⟨id, List.mem_of_getElem? K.out, by rw [FI.out]; simp⟩))
          go_wp2
          go_ret
          exact ⟨ret_bool NO.out.symm, B3.out⟩
    · obtain rfl : k = hd.n := by omega
      obtain ⟨d0, d1, d2, d3, d4⟩ := hbox
      have l0 := cell_regrown d0
      have l1 := cell_regrown d1
      have l2 := cell_regrown d2
      have l3 := cell_regrown d3
      have l4 := cell_regrown d4
      obtain ⟨g, hg⟩ : ∃ g, gramsL xs x.Flats = g := ⟨_, rfl⟩
      have cQ := below_at (W := wr) (fun W' hbW => hg ▸ gramsOf_any a xs.length cap xs x hd W' (S.out.below (Below.then' B.out hbW)) (HI.out.below (Below.then' B.out hbW)) OK.out hl)
      have R := Lib.hid (show rightB xs x = decide (g ≤ x.Holds) from by
        unfold rightB
        rw [hg, List.all_eq_true.2 fun id hid => by
          obtain ⟨j, hj⟩ := List.getElem?_of_mem hid
          exact A.out j id (by have := HL.out; have := (List.getElem?_eq_some_iff.1 hj).1; omega) hj]
        rfl)
      clear hg hbel d0 d1 d2 d3 d4
      go_wp2
      refine wp_region_quiet_below (by kernel_rfl) (by kernel_rfl) ?_
      repeat (first | go_big_quiet_step (first | (with_reducible exact cQ _ _)) | quiet_step (first | (with_reducible exact cQ _ _)))
      refine wpQuiet_nil ?_
      intro W2 hw2
      have B3 := Lib.hid (Below.then' B.out (below_of_re hw2))
      clear hw2 cQ l0 l1 l2 l3 l4
      go_wp2
      go_ret
      exact ⟨ret_bool R.out.symm, B3.out⟩
end Go.Proofs.Ytlmedhidkhphbaa
namespace Go.Proofs.Ytlmedhidkhphbaa
open Go.RowKit

theorem firstOf_any {α : Type} (f : α → Bool) (xs : List α) : decide (0 ≤ firstOf f xs) = xs.any f := by
  rcases find_first f xs with ⟨h1, h2⟩ | ⟨i, s, h1, h2, _, h4⟩
  · rw [h1]
    have : xs.any f = false := by
      rw [List.any_eq_false]
      exact fun x hx => by have := List.find?_eq_none.1 h2 x hx; simpa using this
    rw [this]; rfl
  · rw [h1, List.any_eq_true.2 ⟨s, List.mem_of_getElem? h2, h4⟩]
    simp
set_option maxHeartbeats 1600000 in
theorem containsFunc_any (K : FuncId) (caps : Array Value) (f : Int → Bool) (a : Option Addr) (len cap : Nat) (zs : List Int) (w : World) (h : IsInts w a len cap zs)
    (hcall : ∀ args W, (callFunc K args).run Try.prog W = .ok (.enter K args) W)
    (hf : ∀ (W : World) (s : Int), s ∈ zs → Below w.heap.size w W → Calls Try.prog K (#[.int .i64 s] ++ caps) W fun e w' => e = .returned (.bool (f s)) ∧ Below W.heap.size W w') :
    Calls Try.prog 95 #[.slice a len cap, .func (.func K) #[] caps] w fun e w' => e = .returned (.bool (zs.any f)) ∧ Below w.heap.size w w' := by
  have S := Lib.hid h
  have F := Lib.hid hf
  obtain ⟨v, hv⟩ : ∃ v, firstOf f zs = v := ⟨_, rfl⟩
  have V := Lib.hid (show zs.any f = decide (0 ≤ v) from by rw [← firstOf_any, hv])
  have HV := Lib.hid hv
  clear h hf hv
  go_enter Try.func95, Try.ntmps95
  go_wp2_with fail
  refine (idxInt_any K caps f a len cap zs _ S.out hcall F.out).mono ?_
  rintro e w1 ⟨rfl, hb⟩
  rw [HV.out]
  have B := Lib.hid hb
  clear hb
  go_wp2
  go_ret
  exact ⟨ret_bool V.out.symm, B.out⟩
set_option maxHeartbeats 3200000 in
/-- Is a flat in one of the drawers before? -/
theorem inAnother_any (id : Int) (bl bi : Nat) (a : Option Addr) (n c k : Nat) (xs : List VDrawer) (w : World) (h1 : w.cell? ⟨bl, 0, none⟩ = some (.slice a n c)) (h2 : w.cell? ⟨bi, 0, none⟩ = some (.int .i64 (k : Int))) (h : IsDrawerS w a n c xs) (hk : k ≤ n) :
    Calls Try.prog 93 #[.int .i64 id, .pointer (some ⟨bl, 0, none⟩), .pointer (some ⟨bi, 0, none⟩)] w fun e w' => e = .returned (.bool (decide (0 ≤ holdI (xs.take k) id))) ∧ Below w.heap.size w w' := by
  have hm := h.2.2.1
  have hcl := h.2.1
  unfold maxLen at hm
  have S := Lib.hid (h.take hk)
  obtain ⟨v, hv⟩ : ∃ v, holdI (xs.take k) id = v := ⟨_, rfl⟩
  rw [hv]
  have HV := Lib.hid hv
  have k0 : (0 : Int) ≤ (k : Int) := by omega
  have k1 : (k : Int) ≤ (n : Int) := by omega
  have k2 : (k : Int) ≤ (c : Int) := by omega
  clear h hv
  go_enter Try.func93, Try.ntmps93
  cases a with
  | none =>
    have hc : (c : Int) = 0 ∨ (0 : Int) < (c : Int) := by omega
    go_wp2_with fail
    refine (indexOfHolder_any _ _ _ (xs.take k) id _ S.out).mono ?_
    rintro e w1 ⟨rfl, hb⟩
    rw [HV.out]
    have B := Lib.hid hb
    clear hb
    go_wp2
    go_ret
    exact ⟨rfl, B.out⟩
  | some ad =>
    go_wp2_with fail
    refine (indexOfHolder_any _ _ _ (xs.take k) id _ S.out).mono ?_
    rintro e w1 ⟨rfl, hb⟩
    rw [HV.out]
    have B := Lib.hid hb
    clear hb
    go_wp2
    go_ret
    exact ⟨rfl, B.out⟩
theorem good_bad {fs : List VFlat} {ds : List VDrawer} {i : Nat} (h : rightAt fs ds i = false) (hi : i < ds.length) : goodB fs ds = false := by
  unfold goodB
  rw [Bool.and_eq_false_iff, Bool.and_eq_false_iff]
  exact .inr (.inr (List.all_eq_false.2 ⟨i, List.mem_range.2 hi, by rw [h]; simp⟩))
set_option maxHeartbeats 12800000 in
set_option maxRecDepth 100000 in
theorem areDrawers_any (a : Option Addr) (len cap : Nat) (xs : List VFlat) (a1 : Option Addr) (len1 cap1 : Nat) (ds : List VDrawer) (w : World) (h : IsFlatS w a len cap xs) (h' : IsDrawerS w a1 len1 cap1 ds) :
    Calls Try.prog 32 #[.slice a len cap, .slice a1 len1 cap1] w fun e w' => e = .returned (.bool (goodB xs ds)) ∧ Below w.heap.size w w' := by
  have hm := h'.2.2.1
  have hcl := h'.2.1
  unfold maxLen at hm
  have b1 := bel_al1 w (.cells #[.slice a1 len1 cap1] 25)
  have S := Lib.hid (h.below b1)
  have D := Lib.hid (h'.below b1)
  have C := Lib.hid (cell_box w (.slice a1 len1 cap1) 25 _ rfl)
  have B1 := Lib.hid b1
  have DL := Lib.hid h'.1
  clear h h' b1
  go_enter Try.func32, Try.ntmps32
  go_wp2_with fail
  refine (areFlats_any _ _ _ xs _ S.out).mono ?_
  rintro e w1 ⟨rfl, hb⟩
  have B2 := Lib.hid (Below.then' B1.out hb)
  have S2 := Lib.hid (S.out.below hb)
  have D2 := Lib.hid (D.out.below hb)
  have c2 := cell_stay C.out hb
  have C2 := Lib.hid c2
  clear hb
  cases hf : flatsB xs with
  | false =>
    have NO := Lib.hid (show goodB xs ds = false from by unfold goodB; rw [hf]; rfl)
    clear hf
    go_wp2
    go_ret
    exact ⟨ret_bool NO.out.symm, B2.out⟩
  | true =>
  have HF := Lib.hid hf
  have hfl : xs.length ≤ 20 := by unfold flatsB at hf; simp at hf; exact hf.2
  have OK := Lib.hid (show ∀ f ∈ xs, VFlat.ok f = true from fun f hm => by
    unfold flatsB at hf
    rw [Bool.and_eq_true] at hf
    exact upB_ok hf.1 hm)
  clear hf
  go_wp2_with fail
  refine (byDrawer_any 85 64 VDrawer.ok VDrawer.Id 8 a1 len1 cap1 ds _ D2.out (enters_fn Try.func85 (by kernel_rfl) (by kernel_rfl)) (enters_fn Try.func64 (by kernel_rfl) (by kernel_rfl)) (fun W s hd _ hi => isDrawer_any s hd W hi) (fun W s hd => drawerId_any s hd W)).mono ?_
  rintro e w2 ⟨rfl, hb⟩
  have B3 := Lib.hid (Below.then' B2.out hb)
  have S3 := Lib.hid (S2.out.below hb)
  have D3 := Lib.hid (D2.out.below hb)
  have c3 := cell_stay C2.out hb
  have C3 := Lib.hid c3
  clear hb c2
  rw [show (upB VDrawer.ok VDrawer.Id ds && decide ((ds.length : Int) ≤ 8)) = listB ds from by unfold listB; rw [← len_le]; rfl]
  cases hl : listB ds with
  | false =>
    have NO := Lib.hid (show goodB xs ds = false from by unfold goodB; rw [hl]; simp)
    clear hl
    go_wp2
    go_ret
    exact ⟨ret_bool NO.out.symm, B3.out⟩
  | true =>
  have HL := Lib.hid hl
  clear hl
  go_wp2
  go_loopw [18] (fun i wr => ∃ k : Nat, k ≤ len1 ∧ i = .int .i64 k ∧ (∀ j, j < k → rightAt xs ds j = true) ∧ Below w.heap.size w wr ∧ Below w2.heap.size w2 wr) (fun i _ => len1 - (intOf i).toNat)
  case atStart => exact ⟨0, Nat.zero_le _, rfl, fun _ h => by omega, B3.out, Below.refl _ _⟩
  case round =>
    obtain ⟨k, hk, rfl, hall, hbel, hbel2⟩ := hrel
    have A := Lib.hid hall
    have B := Lib.hid hbel
    have BB := Lib.hid hbel2
    clear hall c3
    by_cases hlt : k < len1
    · obtain ⟨x, hx⟩ := el_at DL hlt
      obtain ⟨b, o, ea, hb, hat⟩ := (D3.out.below hbel2).at (by omega)
      obtain ⟨hd, c0, c1, c2, c3, c4, hin⟩ := hat k x hx
      rw [ea]
      have EA := Lib.hid ea
      have K := Lib.hid hx
      have bw := bel_al2 wr (.cells #[.int .i64 (k : Int)] 3) (.cells #[.int .i64 x.Id, .int .i64 x.Wide, .int .i64 x.High, .int .i64 x.Holds, .slice hd.a hd.n hd.c] 42)
      have CI := Lib.hid (cell_stay (cell_box wr (.int .i64 (k : Int)) 3 _ rfl) (bel_al1 _ (.cells #[.int .i64 x.Id, .int .i64 x.Wide, .int .i64 x.High, .int .i64 x.Holds, .slice hd.a hd.n hd.c] 42)))
      have CL := Lib.hid (cell_stay (cell_stay C3.out hbel2) bw)
      have SB := Lib.hid ((S3.out.below hbel2).below bw)
      have DB := Lib.hid ((D3.out.below hbel2).below bw)
      have HI := Lib.hid (hin.below bw)
      have BX := Lib.hid (BoxDrawer.new (wr.alloc (.cells #[.int .i64 (k : Int)] 3)) 42 ⟨x, hd⟩ (wr.heap.size + 1) (size_al _ _))
      have BW := Lib.hid (Below.then' B.out bw)
      have BW2 := Lib.hid (Below.then' BB.out bw)
      clear hx hat hbel hbel2 hin bw ea
      go_wp2_with fail
      refine (isRightAlone_any _ _ _ xs x hd _ SB.out HI.out OK.out (by omega)).mono ?_
      rintro e w5 ⟨rfl, hb5⟩
      have B5 := Lib.hid (Below.then' BW.out hb5)
      have B52 := Lib.hid (Below.then' BW2.out hb5)
      have HI5 := Lib.hid (HI.out.below hb5)
      have DB5 := Lib.hid (DB.out.below hb5)
      have CI5 := Lib.hid (cell_stay CI.out hb5)
      have CL5 := Lib.hid (cell_stay CL.out hb5)
      obtain ⟨e0, e1, e2, e3, e4⟩ := BX.out.below hb5
      clear hb5 c0 c1 c2 c3 c4
      cases hr : rightB xs x with
      | false =>
        have NO := Lib.hid (show goodB xs ds = false from good_bad (i := k) (by unfold rightAt; rw [K.out]; show (rightB xs x && _) = false; rw [hr]; rfl) (by have := DL.out; omega))
        clear hr
        go_wp2
        go_ret
        exact ⟨ret_bool NO.out.symm, B5.out⟩
      | true =>
        have HR := Lib.hid hr
        clear hr
        go_wp2_with fail
        refine (containsFunc_any 93 #[.pointer (some ⟨w.heap.size, 0, none⟩), .pointer (some ⟨wr.heap.size, 0, none⟩)] (fun id => decide (0 ≤ holdI (ds.take k) id)) _ _ _ x.Flats _ HI5.out (enters_fn Try.func93 (by kernel_rfl) (by kernel_rfl)) (fun W s _ hW => by
          have h1 := inAnother_any s w.heap.size wr.heap.size a1 len1 cap1 k ds W (cell_stay CL5.out hW) (cell_stay CI5.out hW) (DB5.out.below hW) hk
          simpa using h1)).mono ?_
        rintro e w6 ⟨rfl, hb6⟩
        have B6 := Lib.hid (Below.then' B5.out hb6)
        have B62 := Lib.hid (Below.then' B52.out hb6)
        clear hb6 e0 e1 e2 e3 e4
        have AP : apartB ds k x = !(x.Flats.any fun id => decide (0 ≤ holdI (ds.take k) id)) := by
          unfold apartB
          rw [List.not_any_eq_all_not]
          congr 1
          funext id
          by_cases h : holdI (ds.take k) id < 0
          · simp [h]
          · simp [h]; omega
        cases hq : x.Flats.any (fun id => decide (0 ≤ holdI (ds.take k) id)) with
        | true =>
          have NO := Lib.hid (show goodB xs ds = false from good_bad (i := k) (by unfold rightAt; rw [K.out]; show (rightB xs x && apartB ds k x) = false; rw [AP, hq]; simp) (by have := DL.out; omega))
          clear hq AP
          go_wp2
          go_ret
          exact ⟨ret_bool NO.out.symm, B6.out⟩
        | false =>
          have YES := Lib.hid (show rightAt xs ds k = true from by unfold rightAt; rw [K.out]; show (rightB xs x && apartB ds k x) = true; rw [AP, hq, HR.out]; rfl)
          clear hq AP
          go_wp2
          go_roundw
          case rel => exact ⟨k + 1, by omega, by go_num, all_more A.out YES.out, B6.out, B62.out⟩
          case measure => simp [intOf]; omega
    · obtain rfl : k = len1 := by omega
      have YES := Lib.hid (show goodB xs ds = true from by
        unfold goodB
        rw [HF.out, HL.out, List.all_eq_true.2 fun i hi => A.out i (by have := DL.out; have := List.mem_range.1 hi; omega)]
        rfl)
      clear hbel hbel2
      go_wp2
      go_ret
      exact ⟨ret_bool YES.out.symm, B.out⟩
end Go.Proofs.Ytlmedhidkhphbaa
namespace Go.Proofs.Ytlmedhidkhphbaa
open Go.RowKit

set_option maxHeartbeats 3200000 in
theorem implGramsIn_any (a : Option Addr) (len cap : Nat) (xs : List VFlat) (a1 : Option Addr) (len1 cap1 : Nat) (ds : List VDrawer) (id : Int) (w : World) (h : IsFlatS w a len cap xs) (h' : IsDrawerS w a1 len1 cap1 ds) :
    Calls Try.prog 25 #[.slice a len cap, .slice a1 len1 cap1, .int .i64 id] w (GramsIn_Post xs ds id w) := by
  have S := Lib.hid h
  have D := Lib.hid h'
  clear h h'
  go_enter Try.func25, Try.ntmps25
  go_wp2_with fail
  refine (areDrawers_any _ _ _ xs _ _ _ ds _ S.out D.out).mono ?_
  rintro e w1 ⟨rfl, hb⟩
  have B1 := Lib.hid hb
  have S1 := Lib.hid (S.out.below hb)
  have D1 := Lib.hid (D.out.below hb)
  clear hb
  cases hg : goodB xs ds with
  | false =>
    have E := Lib.hid (show GramsIn_1 xs ds id = false from by unfold GramsIn_1; rw [hg]; rfl)
    clear hg
    go_wp2
    go_ret2
    exact ⟨by unfold GramsIn_0; rw [E.out]; rfl, B1.out⟩
  | true =>
  have G := Lib.hid (good_iff.1 hg)
  have HG := Lib.hid hg
  clear hg
  go_wp2_with fail
  refine (indexOfDrawer_any _ _ _ ds id _ D1.out).mono ?_
  rintro e w2 ⟨rfl, hb⟩
  have B2 := Lib.hid (Below.then' B1.out hb)
  have S2 := Lib.hid (S1.out.below hb)
  have D2 := Lib.hid (D1.out.below hb)
  clear hb
  by_cases hneg : drawI ds id < 0
  · have E := Lib.hid (show GramsIn_1 xs ds id = false from by unfold GramsIn_1; rw [HG.out, decide_eq_false (by omega)]; rfl)
    obtain ⟨y, hy⟩ : ∃ y, drawI ds id = y := ⟨_, rfl⟩
    rw [hy] at hneg ⊢
    clear hy
    go_wp2
    go_ret2
    exact ⟨by unfold GramsIn_0; rw [E.out]; rfl, B2.out⟩
  · obtain ⟨i, d, hi, hd, hf, hid⟩ := draw_at (show 0 ≤ drawI ds id by omega)
    have E := Lib.hid (show GramsIn_1 xs ds id = true ∧ GramsIn_0 xs ds id = gramsL xs d.Flats from by
      have e1 : GramsIn_1 xs ds id = true := by unfold GramsIn_1; rw [HG.out, decide_eq_true (by omega)]; rfl
      refine ⟨e1, ?_⟩
      unfold GramsIn_0
      rw [if_pos e1, hf])
    have hil := (List.getElem?_eq_some_iff.1 hd).1
    have hdl := D2.out.1
    obtain ⟨b, o, rfl, hb, hat⟩ := D2.out.at (by omega)
    obtain ⟨q, c0, c1, c2, c3, c4, hin⟩ := hat i d hd
    have HI := Lib.hid hin
    have i0 : (0 : Int) ≤ (i : Int) := by omega
    have i1 : (i : Int) < (len1 : Int) := by omega
    rw [hi]
    clear hneg hi hd hf hid hat hin hdl
    go_wp2_with fail
    refine (gramsOf_any _ _ _ xs d q _ S2.out HI.out (fun f hf => upB_ok G.out.flats hf) (by have := G.out.fl; omega)).mono ?_
    rintro e w3 ⟨rfl, hb3⟩
    have B3 := Lib.hid (Below.then' B2.out hb3)
    clear hb3
    go_wp2
    go_ret2
    exact ⟨by rw [E.out.1, E.out.2]; rfl, B3.out⟩
set_option maxHeartbeats 3200000 in
theorem implDrawerOf_any (a : Option Addr) (len cap : Nat) (xs : List VFlat) (a1 : Option Addr) (len1 cap1 : Nat) (ds : List VDrawer) (id : Int) (w : World) (h : IsFlatS w a len cap xs) (h' : IsDrawerS w a1 len1 cap1 ds) :
    Calls Try.prog 24 #[.slice a len cap, .slice a1 len1 cap1, .int .i64 id] w (DrawerOf_Post xs ds id w) := by
  have S := Lib.hid h
  have D := Lib.hid h'
  clear h h'
  go_enter Try.func24, Try.ntmps24
  go_wp2_with fail
  refine (areDrawers_any _ _ _ xs _ _ _ ds _ S.out D.out).mono ?_
  rintro e w1 ⟨rfl, hb⟩
  have B1 := Lib.hid hb
  have S1 := Lib.hid (S.out.below hb)
  have D1 := Lib.hid (D.out.below hb)
  clear hb
  cases hg : goodB xs ds with
  | false =>
    have E := Lib.hid (show DrawerOf_1 xs ds id = false from by unfold DrawerOf_1; rw [hg]; rfl)
    clear hg
    go_wp2
    go_ret2
    exact ⟨by unfold DrawerOf_0; rw [E.out]; rfl, B1.out⟩
  | true =>
  have HG := Lib.hid hg
  clear hg
  go_wp2_with fail
  refine (indexOfFlat_any _ _ _ xs id _ S1.out).mono ?_
  rintro e w2 ⟨rfl, hb⟩
  have B2 := Lib.hid (Below.then' B1.out hb)
  have D2 := Lib.hid (D1.out.below hb)
  clear hb
  obtain ⟨y, hy⟩ : ∃ y, flatI xs id = y := ⟨_, rfl⟩
  rw [hy]
  by_cases hneg : y < 0
  · have E := Lib.hid (show DrawerOf_1 xs ds id = false from by unfold DrawerOf_1; rw [HG.out, decide_eq_false (by omega)]; rfl)
    clear hy
    go_wp2
    go_ret2
    exact ⟨by unfold DrawerOf_0; rw [E.out]; rfl, B2.out⟩
  · have E1 := Lib.hid (show DrawerOf_1 xs ds id = true from by unfold DrawerOf_1; rw [HG.out, decide_eq_true (by omega)]; rfl)
    clear hy
    go_wp2_with fail
    refine (indexOfHolder_any _ _ _ ds id _ D2.out).mono ?_
    rintro e w3 ⟨rfl, hb⟩
    have B3 := Lib.hid (Below.then' B2.out hb)
    have D3 := Lib.hid (D2.out.below hb)
    clear hb
    by_cases hn2 : holdI ds id < 0
    · have E0 := Lib.hid (show DrawerOf_0 xs ds id = 0 from by unfold DrawerOf_0; rw [if_pos E1.out, (hold_no hn2).2])
      obtain ⟨z, hz⟩ : ∃ z, holdI ds id = z := ⟨_, rfl⟩
      rw [hz] at hn2 ⊢
      clear hz
      go_wp2
      go_ret2
      exact ⟨by rw [E0.out, E1.out]; rfl, B3.out⟩
    · obtain ⟨i, d, hi, hd, hf, hm⟩ := hold_at (show 0 ≤ holdI ds id by omega)
      have E0 := Lib.hid (show DrawerOf_0 xs ds id = d.Id from by unfold DrawerOf_0; rw [if_pos E1.out, hf])
      have hil := (List.getElem?_eq_some_iff.1 hd).1
      have hdl := D3.out.1
      obtain ⟨b, o, rfl, hb, hat⟩ := D3.out.at (by omega)
      obtain ⟨q, c0, _⟩ := hat i d hd
      have i0 : (0 : Int) ≤ (i : Int) := by omega
      have i1 : (i : Int) < (len1 : Int) := by omega
      rw [hi]
      clear hn2 hi hd hf hm hat hdl
      go_wp2
      go_ret2
      exact ⟨by rw [E0.out, E1.out]; rfl, B3.out⟩
/-- A row of integers of the call's own, and the world below as it was. -/
def IntsPost (xs : List Int) (w : World) (e : Ending) (w' : World) : Prop := ∃ v, e = .returned v ∧ OwnIntS w.heap.size w'.heap.size w' v xs ∧ Below w.heap.size w w'
theorem drawersWhere_any (K : FuncId) (caps : Array Value) (f : VDrawer → Bool) (a : Option Addr) (len cap : Nat) (xs : List VDrawer) (w : World) (h : IsDrawerS w a len cap xs) (hl : xs.length ≤ 1000)
    (hcall : ∀ args W, (callFunc K args).run Try.prog W = .ok (.enter K args) W)
    (hf : ∀ (W : World) (s : VDrawer) (hd : Hd), s ∈ xs → IsInts W hd.a hd.n hd.c s.Flats → Below w.heap.size w W → Calls Try.prog K (#[.agg #[.int .i64 s.Id, .int .i64 s.Wide, .int .i64 s.High, .int .i64 s.Holds, .slice hd.a hd.n hd.c]] ++ caps) W fun e w' => e = .returned (.bool (f s)) ∧ Below W.heap.size W w') :
    Calls Try.prog 74 #[.slice a len cap, .func (.func 64) #[] #[], .func (.func K) #[] caps] w (IntsPost ((xs.filter f).map VDrawer.Id) w) :=
  (idsWhereDrawer_any 64 K VDrawer.Id caps f a len cap xs w h (by omega) (enters_fn Try.func64 (by kernel_rfl) (by kernel_rfl)) hcall (fun W s hd => drawerId_any s hd W) hf).mono fun e w' ⟨v, h1, h2, h3⟩ => ⟨v, h1, OwnIn.of_row h2 (Nat.le_refl _) (Nat.le_refl _), h3⟩
theorem flatsWhere_any (K : FuncId) (caps : Array Value) (f : VFlat → Bool) (a : Option Addr) (len cap : Nat) (xs : List VFlat) (w : World) (h : IsFlatS w a len cap xs) (hl : xs.length ≤ 1000)
    (hcall : ∀ args W, (callFunc K args).run Try.prog W = .ok (.enter K args) W)
    (hf : ∀ (W : World) (s : VFlat), s ∈ xs → Below w.heap.size w W → Calls Try.prog K (#[.agg #[.int .i64 s.Id, .int .i64 s.Wide, .int .i64 s.High, .int .i64 s.Grams]] ++ caps) W fun e w' => e = .returned (.bool (f s)) ∧ Below W.heap.size W w') :
    Calls Try.prog 105 #[.slice a len cap, .func (.func 77) #[] #[], .func (.func K) #[] caps] w (IntsPost ((xs.filter f).map VFlat.Id) w) :=
  (idsWhereFlat_any 77 K VFlat.Id caps f a len cap xs w h (by omega) (enters_fn Try.func77 (by kernel_rfl) (by kernel_rfl)) hcall (fun W s => flatId_any s W) hf).mono fun e w' ⟨v, h1, h2, h3⟩ => ⟨v, h1, OwnIn.of_row h2 (Nat.le_refl _) (Nat.le_refl _), h3⟩
theorem nil_intRowO (w : World) (lo hi : Nat) : OwnIntS lo hi w (.slice none 0 0) [] := nil_OwnIntS lo hi w
set_option maxHeartbeats 1600000 in
theorem isEmpty_any (x : VDrawer) (h : Hd) (w : World) (hi : IsInts w h.a h.n h.c x.Flats) :
    Calls Try.prog 107 #[.agg #[.int .i64 x.Id, .int .i64 x.Wide, .int .i64 x.High, .int .i64 x.Holds, .slice h.a h.n h.c]] w fun e w' => e = .returned (.bool x.Flats.isEmpty) ∧ Below w.heap.size w w' := by
  have hm := hi.2.2.1
  have hcl := hi.2.1
  unfold maxLen at hm
  by_cases h0 : h.n = 0
  · have E := Lib.hid (show x.Flats.isEmpty = true from by have := hi.1; rw [List.isEmpty_iff]; exact List.length_eq_zero_iff.1 (by omega))
    clear hi
    obtain ⟨ha, hn, hc⟩ := h
    simp only at h0
    subst h0
    go_enter Try.func107, Try.ntmps107
    go_wp2
    go_ret
    exact ⟨ret_bool E.out.symm, bel_al1 _ _⟩
  · have E := Lib.hid (show x.Flats.isEmpty = false from by
      have := hi.1
      cases e : x.Flats with
      | nil => rw [e] at this; simp at this; omega
      | cons _ _ => rfl)
    have hb : ((h.n : Int) == 0) = false := beq_eq_false_iff_ne.2 (by omega)
    clear hi
    go_enter Try.func107, Try.ntmps107
    go_wp2
    go_ret
    exact ⟨ret_bool (by rw [E.out]), bel_al1 _ _⟩
set_option maxHeartbeats 3200000 in
theorem implEmptyDrawers_any (a : Option Addr) (len cap : Nat) (xs : List VFlat) (a1 : Option Addr) (len1 cap1 : Nat) (ds : List VDrawer) (w : World) (h : IsFlatS w a len cap xs) (h' : IsDrawerS w a1 len1 cap1 ds) :
    Calls Try.prog 58 #[.slice a len cap, .slice a1 len1 cap1] w (EmptyDrawers_Post xs ds w) := by
  have S := Lib.hid h
  have D := Lib.hid h'
  clear h h'
  go_enter Try.func58, Try.ntmps58
  go_wp2_with fail
  refine (areDrawers_any _ _ _ xs _ _ _ ds _ S.out D.out).mono ?_
  rintro e w1 ⟨rfl, hb⟩
  have B1 := Lib.hid hb
  have D1 := Lib.hid (D.out.below hb)
  clear hb
  cases hg : goodB xs ds with
  | false =>
    have E1 := Lib.hid (show EmptyDrawers_1 xs ds = false from hg)
    have E0 := Lib.hid (show EmptyDrawers_0 xs ds = [] from by unfold EmptyDrawers_0; rw [hg]; rfl)
    clear hg
    go_wp2
    go_ret2
    exact ⟨_, by rw [E1.out]; rfl, by rw [E0.out]; exact nil_OwnIntS _ _ _, B1.out⟩
  | true =>
  have G := Lib.hid (good_iff.1 hg)
  have E1 := Lib.hid (show EmptyDrawers_1 xs ds = true from hg)
  have E0 := Lib.hid (show EmptyDrawers_0 xs ds = (ds.filter fun d => d.Flats.isEmpty).map VDrawer.Id from by unfold EmptyDrawers_0; rw [hg]; rfl)
  clear hg
  go_wp2_with fail
  refine (drawersWhere_any 107 #[] (fun d => d.Flats.isEmpty) _ _ _ ds _ D1.out (by have := G.out.dl; omega) (enters_fn Try.func107 (by kernel_rfl) (by kernel_rfl)) (fun W s hd _ hi _ => by simpa using isEmpty_any s hd W hi)).mono ?_
  rintro e w2 ⟨v, rfl, hown, hb⟩
  have B2 := Lib.hid (Below.then' B1.out hb)
  have O := Lib.hid (hown.mono B1.out.size (Nat.le_refl _))
  clear hb hown
  go_wp2
  go_ret2
  exact ⟨v, by rw [E1.out]; rfl, by rw [E0.out]; exact O.out, B2.out⟩
theorem isLoose_any (s : VFlat) (b : Nat) (a1 : Option Addr) (len1 cap1 : Nat) (ds : List VDrawer) (w : World) (hc : w.cell? ⟨b, 0, none⟩ = some (.slice a1 len1 cap1)) (h : IsDrawerS w a1 len1 cap1 ds) :
    Calls Try.prog 106 #[.agg #[.int .i64 s.Id, .int .i64 s.Wide, .int .i64 s.High, .int .i64 s.Grams], .pointer (some ⟨b, 0, none⟩)] w fun e w' => e = .returned (.bool (decide (holdI ds s.Id < 0))) ∧ Below w.heap.size w w' := by
  have b1 := bel_al1 w (.cells #[.int .i64 s.Id, .int .i64 s.Wide, .int .i64 s.High, .int .i64 s.Grams] 40)
  have g := cell_stay hc b1
  have D := Lib.hid (h.below b1)
  have B1 := Lib.hid b1
  clear hc h b1
  go_enter Try.func106, Try.ntmps106
  go_wp2_with fail
  refine (indexOfHolder_any _ _ _ ds s.Id _ D.out).mono ?_
  rintro e w1 ⟨rfl, hb⟩
  have B := Lib.hid (Below.then' B1.out hb)
  clear hb
  go_wp2
  go_ret
  exact ⟨rfl, B.out⟩
set_option maxHeartbeats 6400000 in
set_option maxRecDepth 100000 in
theorem implLooseFlats_any (a : Option Addr) (len cap : Nat) (xs : List VFlat) (a1 : Option Addr) (len1 cap1 : Nat) (ds : List VDrawer) (w : World) (h : IsFlatS w a len cap xs) (h' : IsDrawerS w a1 len1 cap1 ds) :
    Calls Try.prog 56 #[.slice a len cap, .slice a1 len1 cap1] w (LooseFlats_Post xs ds w) := by
  have b0 := bel_al1 w (.cells #[.slice a1 len1 cap1] 25)
  have C := Lib.hid (cell_box w (.slice a1 len1 cap1) 25 _ rfl)
  have S := Lib.hid (h.below b0)
  have D := Lib.hid (h'.below b0)
  have B0 := Lib.hid b0
  clear h h' b0
  have c := C.out
  go_enter Try.func56, Try.ntmps56
  go_wp2_with fail
  refine (areDrawers_any _ _ _ xs _ _ _ ds _ S.out D.out).mono ?_
  rintro e w1 ⟨rfl, hb⟩
  have B1 := Lib.hid (Below.then' B0.out hb)
  have S1 := Lib.hid (S.out.below hb)
  have D1 := Lib.hid (D.out.below hb)
  have C1 := Lib.hid (cell_stay C.out hb)
  clear hb c
  cases hg : goodB xs ds with
  | false =>
    have E1 := Lib.hid (show LooseFlats_1 xs ds = false from hg)
    have E0 := Lib.hid (show LooseFlats_0 xs ds = [] from by unfold LooseFlats_0; rw [hg]; rfl)
    clear hg
    go_wp2
    go_ret2
    exact ⟨_, by rw [E1.out]; rfl, by rw [E0.out]; exact nil_OwnIntS _ _ _, B1.out⟩
  | true =>
  have hl20 := (good_iff.1 hg).fl
  have E1 := Lib.hid (show LooseFlats_1 xs ds = true from hg)
  have E0 := Lib.hid (show LooseFlats_0 xs ds = (xs.filter fun f => decide (holdI ds f.Id < 0)).map VFlat.Id from by unfold LooseFlats_0; rw [hg]; rfl)
  clear hg
  go_wp2_with fail
  refine (flatsWhere_any 106 #[.pointer (some ⟨w.heap.size, 0, none⟩)] (fun f => decide (holdI ds f.Id < 0)) _ _ _ xs _ S1.out (by omega) (enters_fn Try.func106 (by kernel_rfl) (by kernel_rfl)) (fun W s _ hW => by
    have h1 := isLoose_any s w.heap.size a1 len1 cap1 ds W (cell_stay C1.out hW) (D1.out.below hW)
    simpa using h1)).mono ?_
  rintro e w2 ⟨v, rfl, hown, hb⟩
  have B2 := Lib.hid (Below.then' B1.out hb)
  have O := Lib.hid (hown.mono B1.out.size (Nat.le_refl _))
  clear hb hown
  go_wp2
  go_ret2
  exact ⟨v, by rw [E1.out]; rfl, by rw [E0.out]; exact O.out, B2.out⟩
end Go.Proofs.Ytlmedhidkhphbaa
namespace Go.Proofs.Ytlmedhidkhphbaa
open Go.RowKit

/-! Where a number stands among numbers in ascending order. -/
def place (x : Int) (zs : List Int) : Nat := zs.countP fun z => decide (z < x)
theorem place_le (x : Int) (zs : List Int) : place x zs ≤ zs.length := List.countP_le_length
theorem place_while {zs : List Int} (h : zs.Pairwise (· ≤ ·)) (x : Int) : (zs.takeWhile fun z => decide (z < x)).length = place x zs := by
  induction zs with
  | nil => rfl
  | cons z l ih =>
    rw [List.pairwise_cons] at h
    unfold place
    by_cases hz : z < x
    · rw [List.takeWhile_cons_of_pos (by simpa using hz), List.countP_cons_of_pos (by simpa using hz), List.length_cons, ih h.2]; rfl
    · rw [List.takeWhile_cons_of_neg (by simpa using hz), List.countP_cons_of_neg (by simpa using hz)]
      have : l.countP (fun z => decide (z < x)) = 0 := List.countP_eq_zero.2 fun y hy => by
        have := h.1 y hy
        simp; omega
      rw [this]; rfl
theorem insAt_place {zs : List Int} (h : zs.Pairwise (· ≤ ·)) (x : Int) : insAt x zs = zs.take (place x zs) ++ x :: zs.drop (place x zs) := by
  have e := List.takeWhile_append_dropWhile (p := fun z => decide (z < x)) (l := zs)
  have hl := place_while h x
  have h1 := List.take_left (l₁ := zs.takeWhile fun z => decide (z < x)) (l₂ := zs.dropWhile fun z => decide (z < x))
  have h2 := List.drop_left (l₁ := zs.takeWhile fun z => decide (z < x)) (l₂ := zs.dropWhile fun z => decide (z < x))
  rw [e, hl] at h1 h2
  unfold insAt
  rw [h1, h2]
theorem up_le {zs : List Int} (h : upB idOk (fun z => z) zs = true) : zs.Pairwise (· ≤ ·) := by
  rw [List.pairwise_iff_getElem]
  intro i j hi hj hij
  have := upB_lt h j i _ _ hij (List.getElem?_eq_getElem hi) (List.getElem?_eq_getElem hj)
  omega
def SearchPost (x : Int) (zs : List Int) (w : World) (e : Ending) (w' : World) : Prop := (∃ q, e = .returned (.tuple #[.int .i64 (place x zs : Nat), .bool q])) ∧ Below w.heap.size w w'
theorem search_any (a : Option Addr) (len cap : Nat) (zs : List Int) (x : Int) (w : World) (h : IsInts w a len cap zs) (hs : zs.Pairwise (· ≤ ·)) (hbig : len < 4611686018427387904) :
    Calls Try.prog 66 #[.slice a len cap, .int .i64 x] w (SearchPost x zs w) := by
  have hm := h.2.2.1
  unfold maxLen at hm
  by_cases h0 : len = 0
  · subst h0
    have : zs = [] := List.length_eq_zero_iff.1 h.1.symm
    subst this
    exact (Try.slices_BinarySearch_int_empty a cap x w).mono fun e w' ⟨h1, h2⟩ => ⟨⟨false, h1⟩, h2 ▸ Below.refl _ _⟩
  · obtain ⟨b, o, rfl, _, hat⟩ := h.at (by omega)
    have hl := h.1
    refine (Try.slices_BinarySearch_int b o len cap zs x w (by omega) hbig (fun j hj => hat j _ (by rw [List.getD_eq_getElem?_getD, List.getElem?_eq_getElem hj]; rfl)) (by rw [List.take_of_length_le (by omega)]; exact hs)).mono fun e w' ⟨h1, q, h2⟩ => ⟨⟨(zs.take len).contains x, by rw [h1, List.take_of_length_le (show zs.length ≤ len by omega)]; rfl⟩, h2 ▸ bel_drawn w q⟩
/-- What an insertion leaves: the row with the number in it, where it lay or in new memory. -/
def InsPost (lo : Nat) (h : Hd) (zs : List Int) (W : World) (e : Ending) (w' : World) : Prop :=
  ∃ h' : Hd, e = .returned (.slice h'.a h'.n h'.c) ∧ HInts lo w'.heap.size w' h' zs ∧ (∀ b, h'.blk = some b → h.blk = some b ∨ W.heap.size ≤ b) ∧ W.grownBy w' h.blk
theorem zeroCells_len (n : Nat) : (Builtin.zeroCells (Value.int .i64 0).cells n).toList.length = n := by
  rw [Array.length_toList, size_zeroCells]
  simp [Value.cells]
/-- A new block that begins with some integers. -/
theorem new_row {W : World} {lo n cap : Nat} {L : List Value} {cur : Array Value} (hb : lo ≤ W.heap.size) (hn : n ≤ cap) (hm : cap ≤ maxLen) (hs : cur.size = cap) (ht : cur.toList.take n = L) (hl : L.length = n) : (W.alloc (.cells cur 3)).ownsRow lo 3 1 (.slice (some ⟨W.heap.size, 0, none⟩) n cap) n L :=
  ⟨by rw [hl, Nat.mul_one], .inr ⟨W.heap.size, cap, cur, rfl, hb, heap_alloc_new W _, hn, hm, by rw [Nat.mul_one]; exact hs, by rw [Nat.mul_one]; exact ht⟩⟩
set_option maxHeartbeats 3200000 in
theorem insert_any (lo hi : Nat) (h : Hd) (zs : List Int) (k : Nat) (x : Int) (W : World) (H : HInts lo hi W h zs) (hk : k ≤ zs.length) (hl : zs.length ≤ 1000) (hlo : lo ≤ W.heap.size) :
    Calls Try.prog 67 #[.slice h.a h.n h.c, .int .i64 k, .slice (some ⟨W.heap.size, 0, none⟩) 1 1] (W.alloc (.cells #[.int .i64 x] 3)) (InsPost lo h (zs.take k ++ x :: zs.drop k) W) := by
  obtain ⟨w, hw⟩ : ∃ w, W.alloc (.cells #[.int .i64 x] 3) = w := ⟨_, rfl⟩
  have hsz : w.heap.size = W.heap.size + 1 := by rw [← hw, size_al]
  have hbw : Below W.heap.size W w := by rw [← hw]; exact bel_al1 _ _
  have hvb : w.heap[W.heap.size]? = some (.cells #[.int .i64 x] 3 (0, 0)) := by rw [← hw]; exact heap_alloc_new W _
  have hvs : ∀ (j : Nat) v, [Value.int .i64 x][j]? = some v → w.cell? ⟨W.heap.size, 0 + j, none⟩ = some v := fun j v hj => by
    rw [← hw]
    have := cell_one W (.int .i64 x) 3 j v hj
    rwa [add_plain] at this
  have h1v : ∀ v ∈ [Value.int .i64 x], v.oneCell' = true := by intro v hv; simp at hv; subst hv; rfl
  rw [hw]
  have H2 : HInts lo hi w h zs := H.below hbw
  have tl : (intCells (zs.take k ++ x :: zs.drop k)) = intCells (zs.take k) ++ (.int .i64 x :: intCells (zs.drop k)) := by simp [intCells]
  have hlen : (zs.take k ++ x :: zs.drop k).length = zs.length + 1 := by rw [List.length_append, List.length_take, List.length_cons, List.length_drop]; omega
  clear hw
  have ET : Try.laysIns_ren.t 3 = 3 := rfl
  obtain ⟨a, n, c⟩ := h
  obtain ⟨his, hn⟩ := H2.is
  simp only at hn
  subst hn
  have hcap := his.2.2.1
  unfold maxLen at hcap
  rcases H2.1.2 with ⟨e0, hn0⟩ | ⟨g, cap, cur, e0, hg, hh, hnc, hcm, hcs, _⟩
  · have hz : zs = [] := List.length_eq_zero_iff.1 hn0
    subst hz
    have hk0 : k = 0 := by simpa using hk
    subst hk0
    simp only [Value.slice.injEq] at e0
    obtain ⟨rfl, _, rfl⟩ := e0
    have hcon := Any2.slices_Insert_int_end_grow Try.laysIns none 0 0 W.heap.size 0 1 1 [] [.int .i64 x] w (by omega) (Nat.le_refl _) (by omega) (by omega) rfl rfl (fun _ => rfl) (fun a e => by cases e) hvs h1v
    change Calls Try.prog 67 _ _ _ at hcon
    try simp only [ET] at hcon
    refine hcon.mono ?_
    rintro e w' ⟨rfl, hw'⟩
    have hG := grownCap_ge w (0 + 1) 0 3
    have hGm := grownCap_le_maxLen w (0 + 1) 0 3 (by unfold maxLen; omega)
    generalize grownCap w (0 + 1) 0 3 = G at hG hGm hw' ⊢
    subst hw'
    refine ⟨⟨_, _, _⟩, rfl, ?_, fun b hb => ?_, ?_⟩
    · refine OwnIn.of_row (lo := lo) (base := lo) ?_ (Nat.le_refl _) (Nat.le_refl _)
      refine new_row (W := w.drew) (by show lo ≤ w.heap.size; omega) hG hGm ?_ ?_ rfl
      · rw [Array.size_append, size_zeroCells]
        simp [Value.cells]
        omega
      · rw [Array.toList_append]
        simp [intCells]
    · refine .inr ?_
      have : b = w.heap.size := (Option.some.inj hb).symm
      omega
    · exact grown_trans (grown_below hbw _) (grown_below (Below.then' (bel_drawn w 1) (bel_al1 w.drew _)) _)
  · simp only [Value.slice.injEq] at e0
    obtain ⟨rfl, _, rfl⟩ := e0
    have hgh : g < hi := H.2 g rfl
    have hgW : g < W.heap.size := (H.lt rfl).2.2
    have hrow : w.ownsRow lo 3 1 (.slice (some ⟨g, 0, none⟩) zs.length c) zs.length (intCells zs) := H2.1
    have hcs0 : ∀ (j : Nat) v, (intCells zs)[j]? = some v → w.cell? ⟨g, 0 + j, none⟩ = some v := fun j v hj => own_cells_at hrow j v hj
    have hfz0 : ∀ j, w.frozen? ⟨g, 0 + j, none⟩ = false := fun j => by rw [Nat.zero_add]; exact hrow.frozenAt j
    have gW : ∀ {w'}, w.grownBy w' (some g) → W.grownBy w' (some g) := fun h => grown_trans (grown_below hbw _) h
    by_cases hroom : zs.length + 1 ≤ c
    · obtain ⟨S, hS, hwide⟩ := own_wider hrow hroom
      rw [Nat.mul_one] at hS
      have hLl : (intCells zs ++ S).length = zs.length + 1 := by rw [List.length_append, intCells_len, hS]
      have hsp0 : ∀ j, j < zs.length + 1 → (w.cell? ⟨g, 0 + j, none⟩).isSome = true := fun j hj => own_some_at hwide j (by rw [hLl]; exact hj)
      by_cases hend : k = zs.length
      · subst hend
        have hcon := Any2.slices_Insert_int_end_room Try.laysIns g 0 zs.length c W.heap.size 0 1 1 [.int .i64 x] w (by omega) hroom (by omega) rfl (fun j hj => by rw [Nat.add_assoc]; exact hsp0 _ (by omega)) (fun j _ => by rw [Nat.add_assoc]; exact hfz0 _) hvs h1v
        change Calls Try.prog 67 _ _ _ at hcon
        try simp only [ET] at hcon
        refine hcon.mono ?_
        rintro e w' ⟨rfl, rfl⟩
        have h3 := own_setCells [.int .i64 x] _ (0 + zs.length) w hwide
        rw [setL_eq _ _ _ (by rw [hLl]; simp)] at h3
        refine ⟨⟨_, _, _⟩, rfl, ⟨?_, fun b hb => ?_⟩, fun b hb => .inl hb, gW h3.2⟩
        · have h4 := h3.1
          rw [hlen, tl]
          rw [Nat.zero_add, List.take_of_length_le (Nat.le_refl zs.length), List.drop_of_length_le (Nat.le_refl zs.length)]
          rw [Nat.zero_add, List.take_left' (intCells_len zs), List.drop_of_length_le (by rw [hLl]; simp)] at h4
          exact h4
        · have e : g = b := Option.some.inj hb
          have := h3.2.size
          omega
      · have hcon := Any2.slices_Insert_int_shift Try.laysIns g 0 zs.length c k W.heap.size 0 1 1 (intCells zs) [.int .i64 x] w (by omega) (by omega) hroom (by omega) (by omega) (intCells_len zs) rfl hcs0 hsp0 (fun j _ => hfz0 j) hvs (one_ints zs) h1v
          3 3 1 cur.size (by simp [World.shape?, hvb]) (by simp [World.shape?, hh]) (by omega) (by simp [World.frozen?, hvb]) (by simp [World.frozen?, hvb])
        change Calls Try.prog 67 _ _ _ at hcon
        try simp only [ET] at hcon
        refine hcon.mono ?_
        rintro e w' ⟨rfl, rfl⟩
        have hdl : ((intCells zs).drop k).length = zs.length - k := by rw [List.length_drop, intCells_len]
        have h3 := own_setCells ((intCells zs).drop k) _ (0 + (k + 1)) w.drew hwide
        rw [setL_eq _ _ _ (by rw [hLl, hdl]; omega)] at h3
        have h4 := own_setCells [.int .i64 x] _ (0 + k) _ h3.1
        have e1 : (intCells zs ++ S).drop (0 + (k + 1) + ((intCells zs).drop k).length) = [] := List.drop_of_length_le (by rw [hLl, hdl]; omega)
        have e2 : ((intCells zs ++ S).take (0 + (k + 1))).length = k + 1 := by rw [List.length_take, hLl]; omega
        rw [e1, List.append_nil] at h4
        rw [setL_eq _ _ _ (by rw [List.length_append, e2, hdl]; simp <;> omega)] at h4
        refine ⟨⟨_, _, _⟩, rfl, ⟨?_, fun b hb => ?_⟩, fun b hb => .inl hb, gW (grown_trans (grown_below (bel_drawn w 1) _) (grown_trans h3.2 h4.2))⟩
        · have h5 := h4.1
          rw [hlen, tl]
          have e3 : ((intCells zs ++ S).take (0 + (k + 1)) ++ (intCells zs).drop k).take (0 + k) = intCells (zs.take k) := by
            rw [List.take_append_of_le_length (by rw [e2]; omega), List.take_take, Nat.min_eq_left (by omega), Nat.zero_add, List.take_append_of_le_length (by rw [intCells_len]; exact hk)]
            simp [intCells]
          have e4 : ((intCells zs ++ S).take (0 + (k + 1)) ++ (intCells zs).drop k).drop (0 + k + [Value.int .i64 x].length) = intCells (zs.drop k) := by
            rw [List.drop_left' (by rw [e2]; simp)]
            simp [intCells]
          rw [e3, e4] at h5
          exact h5
        · have e : g = b := Option.some.inj hb
          have := h3.2.size
          have := h4.2.size
          have : w.drew.heap.size = w.heap.size := rfl
          omega
    · by_cases hend : k = zs.length
      · subst hend
        have hcon := Any2.slices_Insert_int_end_grow Try.laysIns (some ⟨g, 0, none⟩) zs.length c W.heap.size 0 1 1 (intCells zs) [.int .i64 x] w (by omega) hnc (by omega) (by omega) (intCells_len zs) rfl (fun e => by cases e) (fun a e j v hj => by cases e; rw [add_plain]; exact hcs0 j v hj) hvs h1v
        change Calls Try.prog 67 _ _ _ at hcon
        try simp only [ET] at hcon
        refine hcon.mono ?_
        rintro e w' ⟨rfl, hw'⟩
        have hG := grownCap_ge w (zs.length + 1) c 3
        have hGm := grownCap_le_maxLen w (zs.length + 1) c 3 (by unfold maxLen; omega)
        generalize grownCap w (zs.length + 1) c 3 = G at hG hGm hw' ⊢
        subst hw'
        refine ⟨⟨_, _, _⟩, rfl, ?_, fun b hb => ?_, ?_⟩
        · refine OwnIn.of_row (lo := lo) (base := lo) ?_ (Nat.le_refl _) (Nat.le_refl _)
          rw [hlen, tl, List.take_of_length_le (Nat.le_refl zs.length), List.drop_of_length_le (Nat.le_refl zs.length)]
          refine new_row (W := w.drew) (by show lo ≤ w.heap.size; omega) hG hGm ?_ ?_ (by rw [List.length_append, intCells_len]; rfl)
          · rw [Array.size_append, size_zeroCells]
            simp [Value.cells, intCells_len]
            omega
          · rw [Array.toList_append]
            rw [List.take_append_of_le_length (by simp [intCells_len])]
            rw [List.take_of_length_le (by simp [intCells_len])]
            rfl
        · refine .inr ?_
          have : b = w.heap.size := (Option.some.inj hb).symm
          omega
        · exact grown_trans (grown_below hbw _) (grown_below (Below.then' (bel_drawn w 1) (bel_al1 w.drew _)) _)
      · have hcon := Any2.slices_Insert_int_grow Try.laysIns g 0 zs.length c k W.heap.size 0 1 1 (intCells zs) [.int .i64 x] w (by omega) (by omega) hnc (by omega) (by omega) (intCells_len zs) rfl hcs0 hvs (one_ints zs) h1v
        change Calls Try.prog 67 _ _ _ at hcon
        try simp only [ET] at hcon
        refine hcon.mono ?_
        rintro e w' ⟨rfl, hw'⟩
        have hG := grownCap_ge w (zs.length + 1) c 3
        have hGm := grownCap_le_maxLen w (zs.length + 1) c 3 (by unfold maxLen; omega)
        obtain ⟨G, hGe⟩ : ∃ G, grownCap w (zs.length + 1) c 3 = G := ⟨_, rfl⟩
        rw [hGe] at hG hGm hw' ⊢
        have hdl : ((intCells zs).drop k).length = zs.length - k := by rw [List.length_drop, intCells_len]
        have htk : ((intCells zs).take k).length = k := by rw [List.length_take, intCells_len]; omega
        obtain ⟨Z, hZ⟩ : ∃ Z, (Builtin.zeroCells (Value.int .i64 0).cells (zs.length + 1 - k)).toList = Z := ⟨_, rfl⟩
        have hZl : Z.length = zs.length + 1 - k := by rw [← hZ, zeroCells_len]
        have h0 : (w.alloc (.cells (((intCells zs).take k).toArray ++ Builtin.zeroCells (Value.int .i64 0).cells (zs.length + 1 - k) ++ Builtin.zeroCells (Value.int .i64 0).cells (G - (zs.length + 1))) 3)).ownsRow lo 3 1 (.slice (some ⟨w.heap.size, 0, none⟩) (zs.length + 1) G) (zs.length + 1) ((intCells zs).take k ++ Z) := by
          refine new_row (by omega) hG hGm ?_ ?_ (by rw [List.length_append, htk, hZl]; omega)
          · rw [Array.size_append, Array.size_append, size_zeroCells, size_zeroCells]
            simp only [List.size_toArray, htk]
            simp [Value.cells]
            omega
          · rw [Array.toList_append, Array.toList_append, hZ]
            rw [List.take_append_of_le_length (by simp [htk, hZl]; omega), List.take_of_length_le (by simp [htk, hZl]; omega)]
        have hb0 := bel_al1 w (.cells (((intCells zs).take k).toArray ++ Builtin.zeroCells (Value.int .i64 0).cells (zs.length + 1 - k) ++ Builtin.zeroCells (Value.int .i64 0).cells (G - (zs.length + 1))) 3)
        have hs0 := size_al w (.cells (((intCells zs).take k).toArray ++ Builtin.zeroCells (Value.int .i64 0).cells (zs.length + 1 - k) ++ Builtin.zeroCells (Value.int .i64 0).cells (G - (zs.length + 1))) 3)
        generalize w.alloc (.cells (((intCells zs).take k).toArray ++ Builtin.zeroCells (Value.int .i64 0).cells (zs.length + 1 - k) ++ Builtin.zeroCells (Value.int .i64 0).cells (G - (zs.length + 1))) 3) = w1 at hw' h0 hb0 hs0
        subst hw'
        have h3 := own_setCells [.int .i64 x] _ k w1.drew h0
        rw [setL_eq _ _ _ (by rw [List.length_append, htk, hZl]; simp <;> omega)] at h3
        have h4 := own_setCells ((intCells zs).drop k) _ (k + 1) ((w1.drew.setCells w.heap.size k [.int .i64 x]).drew) h3.1
        have e0 : (((intCells zs).take k ++ Z).take k ++ ([Value.int .i64 x] ++ ((intCells zs).take k ++ Z).drop (k + [Value.int .i64 x].length))).length = zs.length + 1 := by
          simp only [List.length_append, List.length_take, List.length_drop, htk, hZl, List.length_cons, List.length_nil]; omega
        rw [setL_eq _ _ _ (by rw [e0, hdl]; omega)] at h4
        have b1 : Below W.heap.size W w1 := Below.then' hbw hb0
        have b2 := b1.drew.grown h3.2 (by show W.heap.size ≤ w1.heap.size; omega) (fun j e => by cases e; omega)
        have b3 := b2.drew.grown h4.2 (by have := b2.size; exact this) (fun j e => by cases e; omega)
        refine ⟨⟨_, _, _⟩, rfl, ⟨?_, fun b hb => ?_⟩, fun b hb => ?_, grown_below b3 _⟩
        · have h5 := h4.1
          rw [hlen, tl]
          have e1 : (((intCells zs).take k ++ Z).take k ++ ([Value.int .i64 x] ++ ((intCells zs).take k ++ Z).drop (k + [Value.int .i64 x].length))).drop (k + 1 + ((intCells zs).drop k).length) = [] := List.drop_of_length_le (by rw [e0, hdl]; omega)
          have e2 : (((intCells zs).take k ++ Z).take k ++ ([Value.int .i64 x] ++ ((intCells zs).take k ++ Z).drop (k + [Value.int .i64 x].length))).take (k + 1) = intCells (zs.take k) ++ [Value.int .i64 x] := by
            rw [List.take_left' htk, ← List.append_assoc, List.take_left' (by rw [List.length_append, htk]; rfl)]
            simp [intCells]
          rw [e1, e2, List.append_nil, List.append_assoc] at h5
          rw [show intCells (zs.drop k) = (intCells zs).drop k from by simp [intCells]]
          exact h5
        · have e : w.heap.size = b := Option.some.inj hb
          have s3 := h3.2.size
          have s4 := h4.2.size
          have e5 : w1.drew.heap.size = w1.heap.size := rfl
          have e6 : ((w1.drew.setCells w.heap.size k [.int .i64 x]).drew).heap.size = (w1.drew.setCells w.heap.size k [.int .i64 x]).heap.size := rfl
          omega
        · have e : w.heap.size = b := Option.some.inj hb
          exact .inr (by omega)
end Go.Proofs.Ytlmedhidkhphbaa
namespace Go.Proofs.Ytlmedhidkhphbaa
open Go.RowKit Go.Sort

/-- Less of a row. -/
theorem own_less {w : World} {base cap g n m : Nat} {e : TypeId} {L : List Value} (h : w.ownsRow base e 1 (.slice (some ⟨g, 0, none⟩) n cap) n L) (hm : m ≤ n) : w.ownsRow base e 1 (.slice (some ⟨g, 0, none⟩) m cap) m (L.take m) := by
  have hl := h.1
  rcases h.2 with ⟨e0, _⟩ | ⟨g', cap', cur, e0, hg, hh, hn, hc, hs, ht⟩
  · cases e0
  · cases e0
    refine ⟨by rw [List.length_take, hl]; omega, .inr ⟨g, cap, cur, rfl, hg, hh, by omega, hc, hs, ?_⟩⟩
    rw [← ht, List.take_take, Nat.mul_one, Nat.mul_one, Nat.min_eq_left hm]
theorem isFlatId_any (z flat : Int) (b : Nat) (w : World) (h : w.cell? ⟨b, 0, none⟩ = some (.int .i64 flat)) :
    Calls Try.prog 81 #[.int .i64 z, .pointer (some ⟨b, 0, none⟩)] w fun e w' => e = .returned (.bool (z == flat)) ∧ w' = w := by
  go_enter Try.func81, Try.ntmps81
  go_wp2
  go_ret
  exact ⟨rfl, rfl⟩
/-- What is left of a row. -/
def DelPost (lo hi : Nat) (h : Hd) (zs : List Int) (w : World) (e : Ending) (w' : World) : Prop :=
  ∃ h' : Hd, e = .returned (.slice h'.a h'.n h'.c) ∧ HInts lo hi w' h' zs ∧ h'.blk = h.blk ∧ w.grownBy w' h.blk
theorem delete_any (lo hi : Nat) (h : Hd) (zs : List Int) (flat : Int) (b : Nat) (w : World) (H : HInts lo hi w h zs) (hz : zs ≠ []) (hl : zs.length ≤ 1000) (hb : w.cell? ⟨b, 0, none⟩ = some (.int .i64 flat)) (hne : h.blk ≠ some b) :
    Calls Try.prog 80 #[.slice h.a h.n h.c, .func (.func 81) #[] #[.pointer (some ⟨b, 0, none⟩)]] w (DelPost lo hi h (without flat zs) w) := by
  obtain ⟨his, hn⟩ := H.is
  obtain ⟨a, n, c⟩ := h
  simp only at hn
  subst hn
  rcases H.1.2 with ⟨e0, hn0⟩ | ⟨g, cap, cur, e0, hg, hh, hnc, hcm, hcs, _⟩
  · exact absurd (List.length_eq_zero_iff.1 hn0) hz
  simp only [Value.slice.injEq] at e0
  obtain ⟨rfl, _, rfl⟩ := e0
  have hgb : g ≠ b := fun e => hne (by rw [← e]; rfl)
  have hrow : w.ownsRow lo 3 1 (.slice (some ⟨g, 0, none⟩) zs.length c) zs.length (intCells zs) := H.1
  have hH : Holds (Value.int .i64) w g 0 zs.toArray := fun j hj => by
    have hj' : j < zs.length := by simpa using hj
    refine ⟨?_, by rw [Nat.zero_add]; exact hrow.frozenAt j⟩
    have := own_cells_at hrow j (.int .i64 zs[j]) (by simp [intCells, hj'])
    rw [this]
    simp [hj']
  have hcon := AnyE.slices_DeleteFunc Try.laysDel (Value.int .i64) (fun _ => rfl) (fun z => z == flat) 81 #[.pointer (some ⟨b, 0, none⟩)] (enters_fn Try.func81 (by kernel_rfl) (by kernel_rfl)) 0 Try.zeroValue3 g 0 c zs.toArray w
    (fun W x hW => (isFlatId_any x flat b W (cell_stay hb hW)).mono fun e w' ⟨h1, h2⟩ => ⟨h1, 0, h2⟩)
    (fun n os dk x _ => (isFlatId_any x flat b _ ((grownBy_sortedI (w := w) (g := g) (n := n) (os := os) dk).cell hb (fun e => hgb (Option.some.inj e).symm))).mono fun e w' ⟨h1, h2⟩ => ⟨h1, 0, h2⟩)
    hH (by simpa using Nat.le_trans hl (by decide)) (by simpa using hnc)
  change Calls Try.prog 80 _ _ _ at hcon
  simp only [List.size_toArray] at hcon
  refine hcon.mono ?_
  rintro e w' ⟨rfl, q, rfl⟩
  have hfl : (zs.filter fun z => !(z == flat)).length ≤ zs.length := List.length_filter_le _ _
  have h1 := ownsRow_sortedI (n := q) (os := #[]) (ss := zs) (ts := (zs.filter fun z => !(z == flat)) ++ List.replicate (zs.length - (zs.filter fun z => !(z == flat)).length) 0) (by rw [List.length_append, List.length_replicate]; omega) hg hh hnc hcm hcs
  have h2 := grownBy_sortedI (w := w) (g := g) (n := q) (os := #[]) ((zs.filter fun z => !(z == flat)) ++ List.replicate (zs.length - (zs.filter fun z => !(z == flat)).length) 0).toArray
  rw [Sort.grow_empty] at h1 h2
  have h3 := own_less h1 hfl
  refine ⟨⟨some ⟨g, 0, none⟩, _, c⟩, rfl, ⟨?_, H.2⟩, rfl, h2⟩
  rw [← List.map_take, List.take_left' rfl] at h3
  exact h3
end Go.Proofs.Ytlmedhidkhphbaa
namespace Go.Proofs.Ytlmedhidkhphbaa
open Go.RowKit

/-- An element's slice has turned, and another one, or what it has become, is stored in its place. -/
theorem RawDrawer.swap {lo hi hi' : Nat} {w w' : World} {g n c : Nat} {ps : List PDrawer} (h : RawDrawer lo hi w (.slice (some ⟨g, 0, none⟩) n c) ps) {k : Nat} {p : PDrawer} (hp : ps[k]? = some p) (hg : w.grownBy w' p.h.blk) {h' : Hd} {zs : List Int} (H : HInts lo hi' w' h' zs) (hh : hi ≤ hi') (hn : ∀ b, h'.blk = some b → p.h.blk = some b ∨ hi ≤ b) :
    RawDrawer lo hi' (w'.setCell ⟨g, k * 5 + 4, none⟩ (.slice h'.a h'.n h'.c)) (.slice (some ⟨g, 0, none⟩) n c) (ps.set k ⟨{ p.x with Flats := zs }, h'⟩) ∧ w'.grownBy (w'.setCell ⟨g, k * 5 + 4, none⟩ (.slice h'.a h'.n h'.c)) (some g) := by
  obtain ⟨rfl, _, _⟩ := h.len
  have hgl := h.1.lt (b := g) rfl
  have O1 : OwnIn lo hi w' 42 5 (.slice (some ⟨g, 0, none⟩) ps.length c) ps.length (cellsDrawer ps) := h.1.keep fun b hb => hg.block b (h.1.lt hb).2.2 (fun e => h.2.2.1 k p b hp e.symm hb)
  have s0 := O1.1.stored (k * 5 + 4) (.slice h'.a h'.n h'.c)
  have G := s0.2
  have ne : ∀ b, h'.blk = some b → some b ≠ some g := fun b hb e => by
    cases e
    rcases hn g hb with h1 | h1
    · exact h.2.2.1 k p g hp h1 rfl
    · omega
  have H2 : HInts lo hi' (w'.setCell ⟨g, k * 5 + 4, none⟩ (.slice h'.a h'.n h'.c)) h' zs := H.keep fun b hb => G.block b (H.lt hb).2.2 (ne b hb)
  have hkl := (List.getElem?_eq_some_iff.1 hp).1
  refine ⟨⟨⟨?_, fun b hb => Nat.lt_of_lt_of_le (h.1.2 b hb) hh⟩, ?_⟩, G⟩
  · have h1 := s0.1
    rw [set_sliceDrawer ps k p hp zs h'] at h1
    rw [List.length_set]
    exact h1
  · have get : ∀ i r, (ps.set k ⟨{ p.x with Flats := zs }, h'⟩)[i]? = some r → (i = k ∧ r = ⟨{ p.x with Flats := zs }, h'⟩) ∨ (i ≠ k ∧ ps[i]? = some r) := fun i r hr => by
      by_cases e : i = k
      · subst e; rw [List.getElem?_set_self hkl] at hr; exact .inl ⟨rfl, (Option.some.inj hr).symm⟩
      · rw [List.getElem?_set_ne (Ne.symm e)] at hr; exact .inr ⟨e, hr⟩
    refine ⟨fun i r hr => ?_, fun i r b hr hb => ?_, fun i j r s b hij hr hs hb hc => ?_⟩
    · rcases get i r hr with ⟨_, rfl⟩ | ⟨ei, hr⟩
      · exact H2
      · have hI := h.2.1 i r hr
        have hI2 : HInts lo hi w' r.h r.x.Flats := hI.keep fun b hb => hg.block b (hI.lt hb).2.2 (fun e => h.2.2.2 i k r p b ei hr hp hb e.symm)
        have hI3 : HInts lo hi (w'.setCell ⟨g, k * 5 + 4, none⟩ (.slice h'.a h'.n h'.c)) r.h r.x.Flats := hI2.keep fun b hb => G.block b (hI2.lt hb).2.2 (fun e => by cases e; exact h.2.2.1 i r g hr hb rfl)
        exact hI3.mono (Nat.le_refl _) hh
    · rcases get i r hr with ⟨_, rfl⟩ | ⟨_, hr⟩
      · exact fun e => ne b hb (by cases e; rfl)
      · exact h.2.2.1 i r b hr hb
    · rcases get i r hr with ⟨ei, e1⟩ | ⟨ei, hr2⟩
      · rw [e1] at hb
        rcases get j s hs with ⟨ej, _⟩ | ⟨ej, hs2⟩
        · omega
        · rcases hn b hb with h1 | h1
          · exact h.2.2.2 k j p s b (Ne.symm ej) hp hs2 h1 hc
          · have := ((h.2.1 j s hs2).lt hc).2.1; omega
      · rcases get j s hs with ⟨ej, e2⟩ | ⟨ej, hs2⟩
        · rw [e2] at hc
          rcases hn b hc with h1 | h1
          · exact h.2.2.2 i k r p b ei hr2 hp hb h1
          · have := ((h.2.1 i r hr2).lt hb).2.1; omega
        · exact h.2.2.2 i j r s b hij hr2 hs2 hb hc
theorem set_at_len {α : Type} (a : List α) (p q : α) (b : List α) (k : Nat) (hk : a.length = k) : (a ++ p :: b).set k q = a ++ q :: b := by
  subst hk
  rw [List.set_append_right _ _ (Nat.le_refl _), Nat.sub_self, List.set_cons_zero]
set_option maxHeartbeats 12800000 in
set_option maxRecDepth 100000 in
theorem copyDrawers_any (a : Option Addr) (len cap : Nat) (xs : List VDrawer) (w : World) (h : IsDrawerS w a len cap xs) (hx : xs.length ≤ 1000) (hf : ∀ x ∈ xs, x.Flats.length ≤ 1000) :
    Calls Try.prog 65 #[.slice a len cap] w (DrawerOPost xs w) := by
  obtain rfl := h.1
  have hm := h.2.2.1
  have hcl := h.2.1
  unfold maxLen at hm
  have S := Lib.hid h
  have F := Lib.hid hf
  clear h hf
  go_enter Try.func65, Try.ntmps65
  go_wp2_with fail
  refine (cloneDrawer_any _ _ _ xs _ S.out (by omega)).mono ?_
  rintro e w1 ⟨v, ps, rfl, hps, hown, hin, hb1⟩
  have hpl : ps.length = xs.length := by rw [← hps, List.length_map]
  have B1 := Lib.hid hb1
  have PS := Lib.hid hps
  have PL := Lib.hid hpl
  rcases hown.2 with ⟨rfl, h0⟩ | ⟨g, cp, cur, rfl, hg, hh, hn, hc, _⟩
  · have hxe : xs = [] := List.length_eq_zero_iff.1 h0
    subst hxe
    clear hown hin hb1 hps hpl h0
    go_wp2
    refine wp_loop_rounds 1 ?_
    rw [rounds_succ]
    go_wp2
    go_ret
    exact ⟨_, rfl, nil_OwnDrawerS _ _ _, B1.out⟩
  have hglt := (hown.lt g rfl)
  have O1 := Lib.hid hown
  have IN := Lib.hid hin
  unfold maxLen at hc
  clear hown hin hb1 hps hpl hh
  go_wp2
  go_loopw [10] (fun i wr => ∃ (k : Nat) (ns : List PDrawer), k ≤ xs.length ∧ i = .int .i64 k ∧ ns.map PDrawer.x = xs.take k ∧ Below w.heap.size w wr ∧ g < wr.heap.size ∧ wr.ownsRow w.heap.size 42 5 (.slice (some ⟨g, 0, none⟩) xs.length cp) xs.length (cellsDrawer (ns ++ ps.drop k)) ∧ InnerDrawer w.heap.size wr.heap.size wr (some g) ns) (fun i _ => xs.length - (intOf i).toNat)
  case atStart => exact ⟨0, [], Nat.zero_le _, rfl, rfl, B1.out, hglt.2, by simpa using O1.out, nil_InnerDrawer _ _ _ _⟩
  case round =>
    obtain ⟨k, ns, hk, rfl, hns, hbel, hgw, hown, hinn⟩ := hrel
    have O := Lib.hid hown
    have B := Lib.hid hbel
    have N := Lib.hid hinn
    have NS := Lib.hid hns
    have NL := Lib.hid (show ns.length = k from by have := congrArg List.length NS.out; rw [List.length_map, List.length_take] at this; omega)
    clear hns hinn hown
    by_cases hlt : k < xs.length
    · obtain ⟨x, hx1⟩ : ∃ x, xs[k]? = some x := ⟨xs[k]'hlt, List.getElem?_eq_getElem _⟩
      obtain ⟨p, hp, hpx⟩ : ∃ p, ps[k]? = some p ∧ p.x = x := by
        have h1 := congrArg (fun l : List VDrawer => l[k]?) PS.out
        simp only [List.getElem?_map, hx1] at h1
        cases hq : ps[k]? with
        | none => rw [hq] at h1; cases h1
        | some p => rw [hq] at h1; exact ⟨p, rfl, by simpa using h1⟩
      obtain ⟨b, o, rfl, hb, hat⟩ := (S.out.below hbel).at (by omega)
      obtain ⟨hd, c0, c1, c2, c3, c4, hin⟩ := hat k x hx1
      have hxl := F.out x (List.mem_of_getElem? hx1)
      have K := Lib.hid hx1
      have KP := Lib.hid hp
      have PX := Lib.hid hpx
      have bw := bel_al1 wr (.cells #[.int .i64 x.Id, .int .i64 x.Wide, .int .i64 x.High, .int .i64 x.Holds, .slice hd.a hd.n hd.c] 42)
      have HI := Lib.hid (hin.below bw)
      have BW := Lib.hid bw
      have hi0 : (0 : Int) ≤ (k : Int) := by omega
      have hi1 : (k : Int) < (xs.length : Int) := by omega
      clear hbel hx1 hat hin hp hpx bw
      go_wp2_with fail
      refine (cloneInts_any _ _ _ x.Flats _ HI.out (by omega)).mono ?_
      rintro e w2 ⟨h', rfl, H', hb2⟩
      have hbb := Below.then' BW.out hb2
      have O2 := Lib.hid (ownsRow_below O.out hbb)
      have B2 := Lib.hid (Below.then' B.out hbb)
      have N2 := Lib.hid (N.out.below hbb)
      have HH := Lib.hid (H'.mono (show wr.heap.size ≤ _ from by rw [size_al]; omega) (Nat.le_refl _))
      have hs2 := hbb.size
      clear hb2 H' hbb c0 c1 c2 c3 c4
      have f4 := O2.out.frozenAt (k * 5 + 4)
      obtain ⟨u4, d4⟩ := own_cell O2.out (k * 5 + 4) (by have := PL.out; have := NL.out; rw [cellsDrawer_len, List.length_append, List.length_drop]; omega)
      go_wp2
      go_roundw
      case rel =>
        have h5 := O2.out.stored (k * 5 + 4) (.slice h'.a h'.n h'.c)
        have hpk : (ns ++ ps.drop k)[k]? = some p := by
          rw [List.getElem?_append_right (by have := NL.out; omega), NL.out, Nat.sub_self, List.getElem?_drop, Nat.add_zero, KP.out]
        have hdr : ps.drop k = p :: ps.drop (k + 1) := by
          obtain ⟨hk2, e2⟩ := List.getElem?_eq_some_iff.1 KP.out
          rw [List.drop_eq_getElem_cons hk2, e2]
        refine ⟨k + 1, ns ++ [⟨x, h'⟩], by omega, by go_num, ?_, B2.out.grown h5.2 B2.out.size (fun j e => by cases e; exact hglt.1), Nat.lt_of_lt_of_le (by omega) h5.2.size, ?_, ?_⟩
        · rw [List.map_append, NS.out, List.take_add_one, K.out]; rfl
        · have h6 := h5.1
          rw [set_sliceDrawer _ k p hpk x.Flats h', hdr, set_at_len ns p _ _ k NL.out] at h6
          rw [List.append_assoc]
          have e7 : ({ p.x with Flats := x.Flats } : VDrawer) = x := by rw [PX.out]
          rw [e7] at h6
          exact h6
        · have H2 := OwnIn.turned HH.out (Turned.of_grown (lo := w.heap.size) (hi := wr.heap.size) h5.2 (fun b e => by cases e; omega)) (.inr (Nat.le_refl _))
          exact ((N2.out.grown h5.2).snoc (p := ⟨x, h'⟩) H2 (by have := B.out.size; omega) (by omega) (fun b e => by cases e; omega)).mono (Nat.le_refl _) h5.2.size
      case measure => simp [intOf]; omega
    · obtain rfl : k = xs.length := by omega
      clear hbel
      go_wp2
      go_ret
      have hnl := NL.out
      have h := O.out
      rw [List.drop_of_length_le (by have := PL.out; omega), List.append_nil] at h
      have h2 : OwnIn w.heap.size wr.heap.size wr 42 5 (.slice (some ⟨g, 0, none⟩) xs.length cp) ns.length (cellsDrawer ns) := OwnIn.of_row (by rw [hnl]; exact h) (Nat.le_refl _) (Nat.le_refl _)
      exact ⟨_, rfl, ⟨ns, by rw [NS.out, List.take_of_length_le (Nat.le_refl _)], h2, N.out⟩, B.out⟩
end Go.Proofs.Ytlmedhidkhphbaa
namespace Go.Proofs.Ytlmedhidkhphbaa
open Go.RowKit

theorem small_drawers {fs : List VFlat} {ds : List VDrawer} (h : Good fs ds) : ds.length ≤ 1000 ∧ ∀ x ∈ ds, x.Flats.length ≤ 1000 := by
  refine ⟨by have := h.dl; omega, fun x hx => ?_⟩
  obtain ⟨i, hi⟩ := List.getElem?_of_mem hx
  have := (good_ids h hi).2
  omega
theorem drawerOf_loose {fs : List VFlat} {ds : List VDrawer} {flat : Int} (h : DrawerOf_1 fs ds flat = true) : (DrawerOf_0 fs ds flat = 0 ↔ holdI ds flat < 0) := by
  unfold DrawerOf_0
  rw [if_pos h]
  unfold DrawerOf_1 at h
  rw [Bool.and_eq_true] at h
  have G := good_iff.1 h.1
  by_cases hn : holdI ds flat < 0
  · rw [(hold_no hn).2]; simp [hn]
  · obtain ⟨i, d, h1, h2, h3, _⟩ := hold_at (show 0 ≤ holdI ds flat by omega)
    rw [h3]
    have := (good_id G h2).1
    simp only
    constructor
    · intro e; omega
    · intro e; exact absurd e hn
theorem map_set_x (ps : List PDrawer) (ds : List VDrawer) (i : Nat) (p : PDrawer) (x : VDrawer) (zs : List Int) (h : Hd) (hp : ps.map PDrawer.x = ds) (hx : ds[i]? = some x) (hi : ps[i]? = some p) : (ps.set i ⟨{ p.x with Flats := zs }, h⟩).map PDrawer.x = ds.set i (withF x zs) := by
  rw [List.map_set, hp]
  have : p.x = x := by
    have h1 := congrArg (fun l : List VDrawer => l[i]?) hp
    simp only [List.getElem?_map, hi, hx] at h1
    simpa using h1
  rw [← this]; rfl
theorem own_some_of {lo hi : Nat} {w : World} {v : Value} {ds : List VDrawer} (h : OwnDrawerS lo hi w v ds) {i : Nat} {x : VDrawer} (hx : ds[i]? = some x) :
    ∃ g c ps p, v = .slice (some ⟨g, 0, none⟩) ds.length c ∧ ps.map PDrawer.x = ds ∧ RawDrawer lo hi w (.slice (some ⟨g, 0, none⟩) ds.length c) ps ∧ ps[i]? = some p ∧ p.x = x ∧ c ≤ 9223372036854775807 ∧ ds.length ≤ c := by
  obtain ⟨ps, e, hr⟩ := h
  have hl : ps.length = ds.length := by rw [← e, List.length_map]
  have hi := (List.getElem?_eq_some_iff.1 hx).1
  obtain ⟨g, c, ev, _, h1, h2⟩ := own_some hr.1.1 (by omega)
  rw [hl] at ev h1
  subst ev
  have hp : ps[i]? = some ps[i] := List.getElem?_eq_getElem (by omega)
  refine ⟨g, c, ps, ps[i], rfl, e, hr, hp, ?_, h2, h1⟩
  have h1 := congrArg (fun l : List VDrawer => l[i]?) e
  simp only [List.getElem?_map, hp, hx] at h1
  simpa using h1
set_option maxHeartbeats 12800000 in
set_option maxRecDepth 100000 in
theorem implPutFlat_any (a : Option Addr) (len cap : Nat) (xs : List VFlat) (a1 : Option Addr) (len1 cap1 : Nat) (ds : List VDrawer) (flat id : Int) (w : World) (h : IsFlatS w a len cap xs) (h' : IsDrawerS w a1 len1 cap1 ds) :
    Calls Try.prog 17 #[.slice a len cap, .slice a1 len1 cap1, .int .i64 flat, .int .i64 id] w (PutFlat_Post xs ds flat id w) := by
  have S := Lib.hid h
  have D := Lib.hid h'
  clear h h'
  obtain ⟨z, hz⟩ : ∃ z, DrawerOf_0 xs ds flat = z := ⟨_, rfl⟩
  obtain ⟨q, hq⟩ : ∃ q, DrawerOf_1 xs ds flat = q := ⟨_, rfl⟩
  obtain ⟨y, hy⟩ : ∃ y, drawI ds id = y := ⟨_, rfl⟩
  have HZ := Lib.hid hz
  have HQ := Lib.hid hq
  have HY := Lib.hid hy
  clear hz hq hy
  go_enter Try.func17, Try.ntmps17
  go_wp2_with fail
  refine (implDrawerOf_any _ _ _ xs _ _ _ ds flat _ S.out D.out).mono ?_
  rintro e w1 ⟨rfl, hb⟩
  rw [HZ.out, HQ.out]
  have B1 := Lib.hid hb
  have S1 := Lib.hid (S.out.below hb)
  have D1 := Lib.hid (D.out.below hb)
  clear hb
  go_wp2_with fail
  refine (indexOfDrawer_any _ _ _ ds id _ D1.out).mono ?_
  rintro e w2 ⟨rfl, hb⟩
  rw [HY.out]
  have B2 := Lib.hid (Below.then' B1.out hb)
  have S2 := Lib.hid (S1.out.below hb)
  have D2 := Lib.hid (D1.out.below hb)
  clear hb
  have none' : putB xs ds flat id = false → PutFlat_1 xs ds flat id = false ∧ PutFlat_0 xs ds flat id = [] := fun h => ⟨h, by unfold PutFlat_0; rw [h]; rfl⟩
  have NO := Lib.hid none'
  clear none'
  cases q with
  | false =>
    have E := Lib.hid (NO.out (by
      have h := HQ.out
      unfold DrawerOf_1 at h
      unfold putB looseB
      rw [Bool.and_eq_false_iff] at h
      rcases h with h | h <;> simp [h]))
    go_wp2
    go_ret2
    exact ⟨_, by rw [E.out.1]; rfl, by rw [E.out.2]; exact nil_OwnDrawerS _ _ _, B2.out⟩
  | true =>
  by_cases hz0 : ¬ z = 0
  · have E := Lib.hid (NO.out (by
      have h : ¬ holdI ds flat < 0 := fun h2 => hz0 (by rw [← HZ.out]; exact (drawerOf_loose HQ.out).2 h2)
      unfold putB looseB
      rw [decide_eq_false h]; simp))
    have hb1 : (z != 0) = true := by simpa using hz0
    go_wp2
    go_ret2
    exact ⟨_, by rw [E.out.1]; rfl, by rw [E.out.2]; exact nil_OwnDrawerS _ _ _, B2.out⟩
  have hhold := (drawerOf_loose HQ.out).1 (by rw [HZ.out]; omega)
  have HOLD := Lib.hid hhold
  obtain rfl : z = 0 := by omega
  clear hhold
  by_cases hneg : y < 0
  · have E := Lib.hid (NO.out (by
      unfold putB
      rw [HY.out, decide_eq_false (show ¬ 0 ≤ y by omega)]; simp))
    go_wp2
    go_ret2
    exact ⟨_, by rw [E.out.1]; rfl, by rw [E.out.2]; exact nil_OwnDrawerS _ _ _, B2.out⟩
  have hg : goodB xs ds = true := by have h := HQ.out; unfold DrawerOf_1 at h; rw [Bool.and_eq_true] at h; exact h.1
  have hfl : 0 ≤ flatI xs flat := by have h := HQ.out; unfold DrawerOf_1 at h; rw [Bool.and_eq_true] at h; simpa using h.2
  have G := Lib.hid (good_iff.1 hg)
  obtain ⟨i, x, hi, hx, _, hid⟩ := draw_at (ds := ds) (id := id) (by rw [HY.out]; omega)
  obtain rfl : y = (i : Int) := by rw [← HY.out, hi]
  have hloose : looseB xs ds flat = true := by unfold looseB; rw [hg, decide_eq_true hfl, decide_eq_true HOLD.out]; rfl
  have PB := Lib.hid (show putB xs ds flat id = goodB xs (ds.set i (withF x (insAt flat x.Flats))) from by
    unfold putB
    rw [hloose, HY.out, decide_eq_true (show (0 : Int) ≤ (i : Int) by omega)]
    unfold putAt setF
    rw [Int.toNat_natCast, hx]
    rfl)
  have PA := Lib.hid (show putAt ds (drawI ds id).toNat flat = ds.set i (withF x (insAt flat x.Flats)) from by
    rw [HY.out]
    unfold putAt setF
    rw [Int.toNat_natCast, hx])
  have X := Lib.hid hx
  have hil := (List.getElem?_eq_some_iff.1 hx).1
  have HD := Lib.hid (good_ids G.out hx)
  clear hneg hi hx hid hg hfl hloose
  go_wp2_with fail
  refine (copyDrawers_any _ _ _ ds _ D2.out (small_drawers G.out).1 (small_drawers G.out).2).mono ?_
  rintro e w3 ⟨v, rfl, hown, hb⟩
  obtain ⟨g, c, ps, p, rfl, hps, hraw, hp, hpx, hc1, hc2⟩ := own_some_of hown X.out
  have B3 := Lib.hid (Below.then' B2.out hb)
  have S3 := Lib.hid (S2.out.below hb)
  have R := Lib.hid hraw
  have PS := Lib.hid hps
  have KP := Lib.hid hp
  have PX := Lib.hid hpx
  have hs3 := hb.size
  have hs2 := B2.out.size
  obtain ⟨_, _, _, _, c4, _⟩ := R.out.elem KP.out
  have HI := Lib.hid (hraw.2.1 i p hp)
  have hglt := hraw.1.lt (b := g) rfl
  have i0 : (0 : Int) ≤ (i : Int) := by omega
  have i1 : (i : Int) < (ds.length : Int) := by omega
  have pzs : p.x.Flats = x.Flats := by rw [hpx]
  have PZ := Lib.hid pzs
  clear hb hown hraw hps hp hpx pzs
  go_wp2_with fail
  refine (search_any _ _ _ p.x.Flats flat _ HI.out.is.1 (by rw [PZ.out]; exact up_le HD.out.1) (by have := HI.out.is.2; rw [this, PZ.out]; have := HD.out.2; omega)).mono ?_
  rintro e w4 ⟨⟨q2, rfl⟩, hb4⟩
  have B4 := Lib.hid (Below.then' B3.out hb4)
  have S4 := Lib.hid (S3.out.below hb4)
  have R4 := Lib.hid (R.out.keep (w' := w4) fun b _ _ hs => hb4.block b hs)
  have HI4 := Lib.hid (HI.out.below hb4)
  have c5 := (hb4.cell (p := ⟨g, i * 5 + 4, none⟩) hglt.2.2).trans c4
  have hs4 := hb4.size
  clear hb4 c4
  go_wp2_with fail
  refine (insert_any w2.heap.size w3.heap.size p.h p.x.Flats (place flat p.x.Flats) flat w4 HI4.out (place_le _ _) (by rw [PZ.out]; have := HD.out.2; omega) (by omega)).mono ?_
  rintro e w5 ⟨h', rfl, H5, hblk, hg5⟩
  have SW := Lib.hid (R4.out.swap KP.out hg5 (H5 : HInts w2.heap.size w5.heap.size w5 h' _) (by have := hg5.size; omega) (fun b hb => (hblk b hb).imp (fun h => h) fun h => by omega))
  have hbp : ∀ b, p.h.blk = some b → w2.heap.size ≤ b := fun b hb => (HI4.out.lt hb).1
  have B5 := Lib.hid (B4.out.grown hg5 (by have := B4.out.size; omega) (fun b hb => by have := hbp b hb; omega))
  have f4 := SW.out.1.free (i * 5 + 4)
  have B6 := Lib.hid (B5.out.setCell (p := ⟨g, i * 5 + 4, none⟩) (by show w.heap.size ≤ g; omega) (.slice h'.a h'.n h'.c))
  have MX := Lib.hid (map_set_x ps ds i p x (p.x.Flats.take (place flat p.x.Flats) ++ flat :: p.x.Flats.drop (place flat p.x.Flats)) h' PS.out X.out KP.out)
  have EI := Lib.hid (show p.x.Flats.take (place flat p.x.Flats) ++ flat :: p.x.Flats.drop (place flat p.x.Flats) = insAt flat x.Flats from by rw [PZ.out]; exact (insAt_place (up_le HD.out.1) flat).symm)
  have g4 : w5.frozen? ⟨g, i * 5 + 4, none⟩ = false := by simpa using f4
  obtain ⟨u5, d5⟩ : ∃ u, w5.cell? ⟨g, i * 5 + 4, none⟩ = some u := ⟨_, (hg5.cell c5 (fun e => R4.out.2.2.1 i p g KP.out e.symm rfl))⟩
  have hs5 := hg5.size
  clear hblk hg5 hbp f4 c5
  have D6 := Lib.hid SW.out.1.is
  rw [MX.out, EI.out] at D6
  go_wp2_with fail
  refine (areDrawers_any _ _ _ xs _ _ _ (ds.set i (withF x (insAt flat x.Flats))) _ (S.out.below B6.out) D6.out).mono ?_
  rintro e w7 ⟨rfl, hb7⟩
  have B7 := Lib.hid (Below.then' B6.out hb7)
  have hs7 := hb7.size
  have hs6 : w5.heap.size ≤ (w5.setCell ⟨g, i * 5 + 4, none⟩ (.slice h'.a h'.n h'.c)).heap.size := by simp [World.setCell]
  have O6 : OwnDrawerS w.heap.size w7.heap.size (w5.setCell ⟨g, i * 5 + 4, none⟩ (.slice h'.a h'.n h'.c)) (.slice (some ⟨g, 0, none⟩) ds.length c) (ds.set i (withF x (insAt flat x.Flats))) :=
    ⟨_, by rw [MX.out, EI.out], SW.out.1.mono (by omega) (by omega)⟩
  have O7 := Lib.hid (O6.below hb7)
  clear O6
  clear hb7
  cases hgd : goodB xs (ds.set i (withF x (insAt flat x.Flats))) with
  | false =>
    have E := Lib.hid (NO.out (by rw [PB.out]; exact hgd))
    clear hgd
    go_wp2
    go_ret2
    exact ⟨_, by rw [E.out.1]; rfl, by rw [E.out.2]; exact nil_OwnDrawerS _ _ _, B7.out⟩
  | true =>
    have E1 := Lib.hid (show PutFlat_1 xs ds flat id = true from PB.out.trans hgd)
    have E0 := Lib.hid (show PutFlat_0 xs ds flat id = ds.set i (withF x (insAt flat x.Flats)) from by unfold PutFlat_0; rw [if_pos (PB.out.trans hgd), PA.out])
    clear hgd
    go_wp2
    go_ret2
    exact ⟨_, by rw [E1.out]; rfl, by rw [E0.out]; exact O7.out, B7.out⟩
end Go.Proofs.Ytlmedhidkhphbaa
namespace Go.Proofs.Ytlmedhidkhphbaa
open Go.RowKit

theorem own_madeD (w : World) : OwnDrawerS w.heap.size (w.heap.size + 1) (w.alloc (.cells #[] 42)) (.slice (some ⟨w.heap.size, 0, none⟩) 0 0) [] :=
  ⟨[], rfl, OwnIn.of_row (made_ownDrawer w _ (Nat.le_refl _)) (Nat.le_refl _) (by rw [size_al]; exact Nat.le_refl _), nil_InnerDrawer _ _ _ _⟩
theorem puts_none {w w1 : World} {fs : List VFlat} {ds : List VDrawer} {flat id : Int} (hb : Below w.heap.size w w1) (h : putB fs ds flat id = false) : PutFlat_Post fs ds flat id w (.returned (.tuple #[.slice (some ⟨w1.heap.size, 0, none⟩) 0 0, .bool false])) (w1.alloc (.cells #[] 42)) := by
  refine ⟨.slice (some ⟨w1.heap.size, 0, none⟩) 0 0, by rw [show PutFlat_1 fs ds flat id = false from h], ?_, Below.then' hb (bel_al1 _ _)⟩
  rw [show PutFlat_0 fs ds flat id = [] from by unfold PutFlat_0; rw [h]; rfl]
  exact (own_madeD w1).mono hb.size (by rw [size_al]; exact Nat.le_refl _)
set_option maxHeartbeats 12800000 in
set_option maxRecDepth 100000 in
theorem specPutFlat_any (a : Option Addr) (len cap : Nat) (xs : List VFlat) (a1 : Option Addr) (len1 cap1 : Nat) (ds : List VDrawer) (flat id : Int) (w : World) (h : IsFlatS w a len cap xs) (_ : condFlat xs) (h' : IsDrawerS w a1 len1 cap1 ds) (_ : condDrawer ds) :
    Calls Try.prog 18 #[.slice a len cap, .slice a1 len1 cap1, .int .i64 flat, .int .i64 id] w (PutFlat_Post xs ds flat id w) := by
  obtain rfl := h'.1
  have S := Lib.hid h
  have D := Lib.hid h'
  clear h h'
  obtain ⟨z, hz⟩ : ∃ z, flatI xs flat = z := ⟨_, rfl⟩
  obtain ⟨q, hq⟩ : ∃ q, holdI ds flat = q := ⟨_, rfl⟩
  obtain ⟨y, hy⟩ : ∃ y, drawI ds id = y := ⟨_, rfl⟩
  have HZ := Lib.hid hz
  have HQ := Lib.hid hq
  have HY := Lib.hid hy
  clear hz hq hy
  go_enter Try.func18, Try.ntmps18
  go_wp2_with fail
  refine (l5Index_any _ _ _ ds id _ D.out).mono ?_
  rintro e w1 ⟨rfl, rfl⟩
  rw [HY.out]
  go_wp2_with fail
  refine (l5Good_any _ _ _ xs _ _ _ ds _ S.out D.out).mono ?_
  rintro e w1 ⟨rfl, hb⟩
  have B1 := Lib.hid hb
  have S1 := Lib.hid (S.out.below hb)
  have D1 := Lib.hid (D.out.below hb)
  clear hb
  cases hg : goodB xs ds with
  | false =>
    have E := Lib.hid (show putB xs ds flat id = false from by unfold putB looseB; rw [hg]; simp)
    clear hg
    go_wp2
    go_ret2
    exact puts_none B1.out E.out
  | true =>
  have G := Lib.hid (good_iff.1 hg)
  by_cases hneg : y < 0
  · have E := Lib.hid (show putB xs ds flat id = false from by unfold putB; rw [HY.out, decide_eq_false (show ¬ 0 ≤ y by omega)]; simp)
    clear hg
    go_wp2
    go_ret2
    exact puts_none B1.out E.out
  go_wp2_with fail
  refine (l5Find_any _ _ _ xs flat _ S1.out).mono ?_
  rintro e w2 ⟨rfl, rfl⟩
  rw [HZ.out]
  by_cases hfz : z < 0
  · have E := Lib.hid (show putB xs ds flat id = false from by unfold putB looseB; rw [HZ.out, decide_eq_false (show ¬ 0 ≤ z by omega)]; simp)
    clear hg
    go_wp2
    go_ret2
    exact puts_none B1.out E.out
  go_wp2_with fail
  refine (l5Where_any _ _ _ ds flat _ D1.out).mono ?_
  rintro e w2 ⟨rfl, rfl⟩
  rw [HQ.out]
  by_cases hqz : 0 ≤ q
  · have E := Lib.hid (show putB xs ds flat id = false from by unfold putB looseB; rw [HQ.out, decide_eq_false (show ¬ q < 0 by omega)]; simp)
    clear hg
    go_wp2
    go_ret2
    exact puts_none B1.out E.out
  have LO := Lib.hid (show looseB xs ds flat = true from by unfold looseB; rw [hg, HZ.out, HQ.out, decide_eq_true (show 0 ≤ z by omega), decide_eq_true (show q < 0 by omega)]; rfl)
  obtain ⟨i, x, hi, hx, _, hid⟩ := draw_at (ds := ds) (id := id) (by rw [HY.out]; omega)
  obtain rfl : y = (i : Int) := by rw [← HY.out, hi]
  have hil := (List.getElem?_eq_some_iff.1 hx).1
  have HD := Lib.hid (good_ids G.out hx)
  have NEW := Lib.hid (show putL flat x.Flats = insAt flat x.Flats from putL_new (hold_neg.1 (by rw [HQ.out]; omega) x (List.mem_of_getElem? hx)))
  have PA := Lib.hid (show putAt ds (drawI ds id).toNat flat = ds.set i (withF x (insAt flat x.Flats)) from by
    rw [HY.out]
    unfold putAt setF
    rw [Int.toNat_natCast, hx])
  have PB := Lib.hid (show putB xs ds flat id = goodB xs (ds.set i (withF x (insAt flat x.Flats))) from by
    unfold putB
    rw [PA.out, LO.out, HY.out, decide_eq_true (show (0 : Int) ≤ (i : Int) by omega)]
    rfl)
  have X := Lib.hid hx
  obtain ⟨b, o, rfl, hb, hat⟩ := D1.out.at (by omega)
  obtain ⟨hd, c0, c1, c2, c3, c4, hin⟩ := hat i x hx
  have HI := Lib.hid hin
  have i0 : (0 : Int) ≤ (i : Int) := by omega
  have i1 : (i : Int) < (ds.length : Int) := by omega
  clear hat hin hx hi hg c0 c1 c2 c3
  go_wp2_with fail
  refine (l1Put_any _ _ _ x.Flats flat _ HI.out (by have := HD.out.2; omega)).mono ?_
  rintro e w3 ⟨h3, rfl, hi3, hb3⟩
  rw [NEW.out] at hi3
  have I3 := Lib.hid hi3
  have B3 := Lib.hid (Below.then' B1.out hb3)
  have S3 := Lib.hid (S1.out.below hb3)
  have D3 := Lib.hid (D1.out.below hb3)
  clear hb3 hi3 c4
  have hsm := small_drawers G.out
  go_wp2_with fail
  refine (l5With_any _ _ _ ds (i : Int) _ _ _ (insAt flat x.Flats) _ D3.out I3.out hsm.1 hsm.2 (by rw [insAt_len]; have := HD.out.2; omega)).mono ?_
  rintro e w4 ⟨v, rfl, hown, hb4⟩
  rw [withAt_set X.out] at hown
  obtain ⟨a4, c4, e4⟩ := hown.form
  rw [List.length_set] at e4
  subst e4
  have D4 := Lib.hid hown.is
  have O4 := Lib.hid hown
  have B4 := Lib.hid (Below.then' B3.out hb4)
  have S4 := Lib.hid (S3.out.below hb4)
  have hs3 := B3.out.size
  clear hb4 hown
  go_wp2_with fail
  refine (l5Good_any _ _ _ xs _ _ _ (ds.set i (withF x (insAt flat x.Flats))) _ S4.out D4.out).mono ?_
  rintro e w5 ⟨rfl, hb5⟩
  have B5 := Lib.hid (Below.then' B4.out hb5)
  have O5 := Lib.hid ((O4.out.below hb5).mono hs3 hb5.size)
  clear hb5
  cases hgd : goodB xs (ds.set i (withF x (insAt flat x.Flats))) with
  | false =>
    have E := Lib.hid (PB.out.trans hgd)
    clear hgd
    go_wp2
    go_ret2
    exact puts_none B5.out E.out
  | true =>
    have E1 := Lib.hid (show PutFlat_1 xs ds flat id = true from PB.out.trans hgd)
    have E0 := Lib.hid (show PutFlat_0 xs ds flat id = ds.set i (withF x (insAt flat x.Flats)) from by unfold PutFlat_0; rw [if_pos (PB.out.trans hgd), PA.out])
    clear hgd
    go_wp2
    go_ret2
    exact ⟨_, by rw [E1.out]; rfl, by rw [E0.out]; exact O5.out, B5.out⟩
end Go.Proofs.Ytlmedhidkhphbaa
