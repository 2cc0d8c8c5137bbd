/- Texts in one: Wz3, Wi14, Wz4, Wi15, Wz5. -/
import Derived.Test.YtpnaciamnigbnaaM10
import Derived.Test.YtpnaciamnigbnaaM7
import Derived.Test.YtpnaciamnigbnaaM3
import Derived.Deep.RegionWith
import Derived.Deep.RegionHeld3
namespace Go.Proofs.Ytpnaciamnigbnaa
end Go.Proofs.Ytpnaciamnigbnaa
namespace Go.Proofs.Ytpnaciamnigbnaa
open Go.RowKit

theorem lev_bdA {D : List VIntS} (hD : RL D) {p : Sq} (hp : inR D p) : hA D p ≤ levA D p ∧ levA D p ≤ 9999 := by
  rw [levA_in hp]
  exact ⟨(lev_is hD).low p hp, (lev_is hD).top p hp⟩
def lakeTo (D : List VIntS) (k : Nat) : Int × Int := ((sqs D).take k).foldl (lakeS D (levA D)) (0, 0)
theorem lakeTo_step {D : List VIntS} {k : Nat} {p : Sq} (hp : (sqs D)[k]? = some p) : lakeTo D (k + 1) = lakeS D (levA D) (lakeTo D k) p := by
  unfold lakeTo
  rw [List.take_add_one, hp]
  simp
theorem lakeTo_all (D : List VIntS) : lakeTo D (sqs D).length = lakesOf D (lev D) := by
  unfold lakeTo lakesOf
  rw [List.take_length]
  exact lake_congr _ (fun p hp => levA_in (mem_sqs.1 hp)) _
theorem lakeTo_bd {D : List VIntS} (hD : RL D) (k : Nat) : 0 ≤ (lakeTo D k).1 ∧ (lakeTo D k).1 ≤ 64 ∧ 0 ≤ (lakeTo D k).2 ∧ (lakeTo D k).2 ≤ 64 * 9999 := by
  have h := lake_bd hD (fun p hp => (lev_bdA hD hp).2) ((sqs D).take k) (fun p hp => mem_sqs.1 (List.mem_of_mem_take hp)) (0, 0) 0 ⟨Int.le_refl _, Int.le_refl _, Int.le_refl _, Int.le_refl _⟩
  have h2 := sqs_len hD
  have h3 : ((sqs D).take k).length ≤ 64 := by rw [List.length_take]; omega
  unfold lakeTo
  omega
set_option maxHeartbeats 12800000 in
set_option maxRecDepth 100000 in
theorem implLakesOf_any (a : Option Addr) (len cap : Nat) (D : List VIntS) (w : World) (h : IsIntSS w a len cap D) :
    Calls Try.prog 38 #[.slice a len cap] w (LakesOf_Post D w) := by
  have S := Lib.hid h
  clear h
  obtain ⟨q, hq⟩ : ∃ q, rlB D = q := ⟨_, rfl⟩
  have Q := Lib.hid hq
  clear hq
  go_enter Try.func38, Try.ntmps38
  go_wp2_with fail
  refine (implIsRelief_any _ _ _ D _ S.out).mono ?_
  rintro e w1 ⟨rfl, hb⟩
  rw [show IsRelief_0 D = q from Q.out]
  have B1 := Lib.hid hb
  have S1 := Lib.hid (S.out.below hb)
  clear hb
  cases q
  · have P := Lib.hid (show LakesOf_0 D = 0 ∧ LakesOf_1 D = 0 ∧ LakesOf_2 D = false from by unfold LakesOf_0 LakesOf_1 LakesOf_2; rw [Q.out]; exact ⟨rfl, rfl, rfl⟩)
    go_wp2
    go_ret3
    exact ⟨by rw [P.out.1, P.out.2.1, P.out.2.2]; rfl, B1.out⟩
  have HD := Lib.hid (rlB_iff.1 Q.out)
  have P := Lib.hid (show LakesOf_0 D = (lakeTo D (sqs D).length).1 ∧ LakesOf_1 D = (lakeTo D (sqs D).length).2 ∧ LakesOf_2 D = true from by rw [lakeTo_all]; unfold LakesOf_0 LakesOf_1 LakesOf_2; rw [Q.out]; exact ⟨rfl, rfl, rfl⟩)
  have hm8 := HD.out.m8
  have hn8 := HD.out.n8
  go_wp2_with fail
  refine (levelsOf_any _ _ _ D _ S1.out HD.out).mono ?_
  rintro e w2 ⟨rfl, hb⟩
  have B2 := Lib.hid (Below.then' B1.out hb)
  have S2 := Lib.hid (S1.out.below hb)
  have hs2 := B2.out.size
  clear hb
  go_wp2_with (rw [zeros_arr]; refine wpList_storeArr rfl (.tmp 5) (.tmp 15) rfl w2.heap.size rfl _ _ rfl (HBArr.new w2 (fun _ => 0) _ rfl) ?_; intro w4 hw4 hg4)
  have b4 : Below w2.heap.size w2 w4 := (bel_al1 w2 (.cells (arrC fun _ => 0) 82)).grown hg4 (by simp) (fun j e => by cases e; exact Nat.le_refl _)
  have B4 := Lib.hid (Below.then' B2.out b4)
  have S4 := Lib.hid (S2.out.below b4)
  have A4 := Lib.hid hw4
  clear b4 hw4 hg4
  refine (reliefSquares_any _ _ _ D _ S4.out HD.out).mono ?_
  rintro e w5 ⟨v, rfl, hown, hb⟩
  have B5 := Lib.hid (Below.then' B4.out hb)
  have S5 := Lib.hid (S4.out.below hb)
  have A5 := Lib.hid (A4.out.below hb)
  have O5 := Lib.hid hown
  obtain ⟨a4, c4, rfl, _⟩ := hown.is
  have SQ := Lib.hid (fun (k : Nat) (p : Sq) (hp : (sqs D)[k]? = some p) => mem_sqs.1 (List.mem_of_getElem? hp))
  have hln := sqs_len HD.out
  clear hown hb
  go_wp2
  go_loopw [19, 6, 7] (fun i n s wr => ∃ k : Nat, k ≤ (sqs D).length ∧ i = .int .i64 k ∧ n = .int .i64 (lakeTo D k).1 ∧ s = .int .i64 (lakeTo D k).2 ∧ Below w5.heap.size w5 wr) (fun i _ _ _ => (sqs D).length - (intOf i).toNat)
  case atStart => exact ⟨0, Nat.zero_le _, rfl, rfl, rfl, Below.refl _ _⟩
  case round =>
    obtain ⟨k, hk, rfl, rfl, rfl, hbel⟩ := hrel
    have B := Lib.hid hbel
    have bd := lakeTo_bd HD.out k
    by_cases hlt : k < (sqs D).length
    · obtain ⟨p, hp⟩ : ∃ p, (sqs D)[k]? = some p := ⟨(sqs D)[k]'hlt, List.getElem?_eq_getElem _⟩
      have hown := O5.out.below hbel
      obtain ⟨b, o, rfl, hb, hat⟩ := hown.isAt.2.at (by omega)
      obtain ⟨d0, d1⟩ := hat k (vsq p) (sqV_at hp)
      have PI := SQ.out k p hp
      have LS := Lib.hid (lakeTo_step hp)
      have lb := lev_bdA HD.out PI
      obtain ⟨_, _, _, _, y0, y1⟩ := HD.out.at PI
      obtain ⟨x, y⟩ := p
      simp only [vsq] at d0 d1
      obtain ⟨hx, hy⟩ := PI
      simp only [] at hx hy
      have hc4 := hown.isAt.2.2.1
      have hc5 := hown.isAt.2.2.2.1
      unfold maxLen at hc5
      have j0 : (0 : Int) ≤ (k : Int) := by omega
      have j1 : (k : Int) < ((sqs D).length : Int) := by omega
      have x0 : (0 : Int) ≤ (x : Int) := by omega
      have x1 : (x : Int) < 8 := by omega
      have v0 : (0 : Int) ≤ (y : Int) := by omega
      have v1 : (y : Int) < 8 := by omega
      have ba := bel_al1 wr (.cells #[.int .i64 (x : Int), .int .i64 (y : Int)] 34)
      have B6 := Lib.hid (Below.then' hbel ba)
      obtain ⟨f0, f1⟩ := BoxIntA2.new wr 34 ⟨(x : Int), (y : Int)⟩ _ rfl
      simp only [] at f0 f1
      have g0 := (A5.out.below B6.out).cell (show x < 8 by omega) (show y < 8 by omega)
      obtain ⟨n, hn⟩ : ∃ n, (lakeTo D k).1 = n := ⟨_, rfl⟩
      obtain ⟨s, hs⟩ : ∃ s, (lakeTo D k).2 = s := ⟨_, rfl⟩
      have RZ := Lib.hid (show lakeTo D (k + 1) = if 0 < levA D (x, y) - hA D (x, y) then (n + 1, s + (levA D (x, y) - hA D (x, y))) else (n, s) from by
        rw [LS.out]; unfold lakeS; rw [hn, hs, ← hn, ← hs])
      rw [hn, hs] at bd ⊢
      obtain ⟨V, hV⟩ : ∃ V, wr.alloc (.cells #[.int .i64 (x : Int), .int .i64 (y : Int)] 34) = V := ⟨_, rfl⟩
      have cQ := below_at (W := V) (fun W' hW => heightOf_any _ _ _ D x y W' (S5.out.below (Below.then' (by rw [← hV]; exact B6.out) hW)) HD.out hx hy)
      obtain ⟨z1, hz1⟩ : ∃ z, levA D (x, y) = z := ⟨_, rfl⟩
      obtain ⟨z2, hz2⟩ : ∃ z, hA D (x, y) = z := ⟨_, rfl⟩
      rw [hz1] at lb g0
      rw [hz2] at lb y0 y1 cQ
      rw [hz1, hz2] at RZ
      have w1' : IntKind.i64.wrap (z1 - z2) = z1 - z2 := IntWalk.i64_in _ (by omega)
      have w2' : IntKind.i64.wrap (n + 1) = n + 1 := IntWalk.i64_in _ (by omega)
      have w3' : IntKind.i64.wrap (s + (z1 - z2)) = s + (z1 - z2) := IntWalk.i64_in _ (by omega)
      rw [hV] at B6 f0 f1 g0
      have k0 := cell_regrown f0
      have k1 := cell_regrown f1
      have k2 := cell_regrown g0
      clear hbel hat hp ba hn hs hz1 hz2 f0 f1 g0 hown
      go_wp2
      try rw [hV]
      clear hV
      refine wp_region_quiet_below (by kernel_rfl) (by kernel_rfl) ?_
      repeat (first | go_big_quiet_step (with_reducible exact cQ _ _) | quiet_step (with_reducible exact cQ _ _))
      refine wpQuiet_nil ?_
      intro W2 hw2
      have B7 := Lib.hid (Below.then' B6.out (below_of_re hw2))
      obtain ⟨d, hd⟩ : ∃ d, z1 - z2 = d := ⟨_, rfl⟩
      rw [hd] at RZ w3' w1' ⊢
      clear hw2 cQ k0 k1 k2 w1'
      by_cases hlo : 0 < d
      · rw [if_pos hlo] at RZ
        go_wp2
        go_roundw
        case rel => exact ⟨k + 1, by omega, by go_num, by rw [RZ.out], by rw [RZ.out], B7.out⟩
        case measure => simp [intOf]; omega
      · rw [if_neg hlo] at RZ
        go_wp2
        go_roundw
        case rel => exact ⟨k + 1, by omega, by go_num, by rw [RZ.out], by rw [RZ.out], B7.out⟩
        case measure => simp [intOf]; omega
    · obtain rfl : k = (sqs D).length := by omega
      clear hbel
      go_wp2
      go_ret3
      exact ⟨by rw [P.out.1, P.out.2.1, P.out.2.2]; rfl, Below.then' B5.out B.out⟩
end Go.Proofs.Ytpnaciamnigbnaa
namespace Go.Proofs.Ytpnaciamnigbnaa
end Go.Proofs.Ytpnaciamnigbnaa
namespace Go.Proofs.Ytpnaciamnigbnaa
open Go.RowKit Go.Deep

theorem one_ints (zs : List Int) : ∀ u ∈ intCells zs, u.oneCell' = true := by
  intro u hu
  obtain ⟨z, _, rfl⟩ := List.mem_map.1 hu
  rfl
theorem srcInts {w : World} {a : Option Addr} {len cap : Nat} {zs : List Int} (h : IsInts w a len cap zs) : SrcAt w a len 1 (intCells zs) := by
  refine ⟨by rw [intCells_len, h.1, Nat.mul_one], ?_⟩
  rcases h.2.2.2 with h0 | ⟨b, o, rfl, hb, hat⟩
  · exact .inl h0
  · refine .inr ⟨_, rfl, fun j u hj => ?_⟩
    rw [add_plain]
    unfold intCells at hj
    rw [List.getElem?_map] at hj
    cases hz : zs[j]? with
    | none => rw [hz] at hj; cases hj
    | some z => rw [hz] at hj; cases hj; exact hat j z hz
theorem made_ints (w : World) (base : Nat) (h : base ≤ w.heap.size) : (w.alloc (.cells #[] 3)).ownsRow base 3 1 (.slice (some ⟨w.heap.size, 0, none⟩) 0 0) 0 [] :=
  World.ownsRow_made (base := base) (e := 3) (size := 1) w #[] 0 h (Nat.zero_le _) rfl
theorem HPost.of_row {w w' : World} {v : Value} {zs : List Int} (h : w'.ownsRow w.heap.size 3 1 v zs.length (intCells zs)) (_ : Below w.heap.size w w') : ∃ h : Hd, v = .slice h.a h.n h.c ∧ HInts w.heap.size w'.heap.size w' h zs := by
  rcases h.2 with ⟨rfl, h0⟩ | ⟨g, c, cur, rfl, _⟩
  · exact ⟨⟨none, 0, 0⟩, rfl, OwnIn.of_row h (Nat.le_refl _) (Nat.le_refl _)⟩
  · exact ⟨⟨some ⟨g, 0, none⟩, zs.length, c⟩, rfl, OwnIn.of_row h (Nat.le_refl _) (Nat.le_refl _)⟩
set_option maxHeartbeats 3200000 in
set_option maxRecDepth 100000 in
theorem cloneInts_any (a : Option Addr) (len cap : Nat) (zs : List Int) (w : World) (h : IsInts w a len cap zs) (hx : zs.length ≤ 1048576) :
    Calls Try.prog 99 #[.slice a len cap] w (HPost zs w) := by
  obtain rfl := h.1
  obtain ⟨i0, hi, hz0, hz1, hz2⟩ := info_parts infoInt
  cases a with
  | none =>
    have h0 : zs.length = 0 := by
      rcases h.2.2.2 with h0 | ⟨b, o, e, _⟩
      · exact h0
      · cases e
    obtain rfl : zs = [] := List.length_eq_zero_iff.1 h0
    clear h h0
    have hnil := fun w a n c n' c' => Lib.run_eql_slice_nil (P := Try.prog) w 38 3 a n c n' c' Try.underlying38
    go_enter Try.func99, Try.ntmps99
    go_wp2
    go_ret
    exact ⟨⟨none, 0, 0⟩, rfl, OwnIn.of_row ⟨by simp [intCells], .inl ⟨rfl, rfl⟩⟩ (Nat.le_refl _) (Nat.le_refl _), Below.refl _ _⟩
  | some ad =>
    have B0 := Lib.hid (bel_al1 w (.cells #[] 3))
    have O0 := made_ints w w.heap.size (Nat.le_refl _)
    have SRC := srcInts (h.below B0.out)
    have SZ := Lib.hid (size_al w (.cells #[] 3))
    clear h
    have hnil := fun w a n c n' c' => Lib.run_eql_slice_nil (P := Try.prog) w 38 3 a n c n' c' Try.underlying38
    go_enter Try.func99, Try.ntmps99
    go_wp2_with (at_builtin; refine wpList_append_list rfl _ _ 38 rfl w.heap.size 3 i0 (.int .i64 0) 1 8 Try.underlying38 hi hz0 hz1 hz2 rfl (by decide) _ _ _ rfl O0 _ zs.length cap (intCells zs) rfl SRC (one_ints zs) (by simp; unfold maxLen; omega) (by simp; omega) (by rw [SZ.out]; omega) ?_; intro v1 w1 hown1 hgrow1; have B1 := Lib.hid (B0.out.grown hgrow1 (by rw [SZ.out]; omega) (fun k e => by have := own_is e; omega)); have O1 := Lib.hid hown1; clear hown1 hgrow1)
    go_ret
    have h := O1.out
    simp only [Nat.zero_add, List.nil_append] at h
    obtain ⟨q, e, hq⟩ := HPost.of_row h B1.out
    exact ⟨q, by rw [← e]; rfl, hq, B1.out⟩

/-- One more row appended to a row of rows that may be nil, its numbers in newer memory. -/
theorem RawIntS.snocV {lo : Nat} {w w2 w4 : World} {v : Value} {n g4 cap4 : Nat} {ps : List PIntS} {p : PIntS} (h : RawIntS lo w.heap.size w v ps) (hn : ps.length = n) (hlo : lo ≤ w.heap.size) (hb : Below w.heap.size w w2) (hz : HInts w.heap.size w2.heap.size w2 p.h p.x)
    (own : w4.ownsRow lo 38 1 (.slice (some ⟨g4, 0, none⟩) (n + 1) cap4) (n + 1) (cellsIntS ps ++ p.vals)) (hgr : w2.grownBy w4 v.ownBlock) (hg4 : v.ownBlock = some g4 ∨ g4 = w2.heap.size) : RawIntS lo w4.heap.size w4 (.slice (some ⟨g4, 0, none⟩) (n + 1) cap4) (ps ++ [p]) := by
  refine ⟨?_, ?_⟩
  · rw [List.length_append, List.length_singleton, hn, cellsIntS_snoc]
    exact OwnIn.of_row own (Nat.le_refl _) (Nat.le_refl _)
  · have N4 := (h.2.below hb).grown hgr
    have H4 := OwnIn.turned hz (Turned.of_grown (lo := lo) (hi := w.heap.size) hgr (fun b e => by have := h.1.lt e; exact ⟨this.1, this.2.2⟩)) (.inr (Nat.le_refl _))
    have N5 := N4.snoc (p := p) H4 hlo hb.size (fun b e => by have := h.1.lt e; exact this.2.2)
    have hsz := hb.size
    exact (N5.reblock (hg4.imp id (fun e b hb => by cases hb; omega))).mono (Nat.le_refl _) hgr.size
theorem nil_RawIntS (lo hi : Nat) (w : World) : RawIntS lo hi w (.slice none 0 0) [] := ⟨⟨⟨by simp [cellsIntS], .inl ⟨rfl, rfl⟩⟩, fun b h => by cases h⟩, nil_InnerIntS _ _ _ _⟩
def levRow (D : List VIntS) (k : Nat) : List Int := (List.range (colsN D)).map fun j => levA D (k, j)
theorem levRow_len (D : List VIntS) (k : Nat) : (levRow D k).length = colsN D := by simp [levRow]
theorem levRow_take (D : List VIntS) {k : Nat} (h : k < D.length) : (gridOf D (lev D)).take (k + 1) = (gridOf D (lev D)).take k ++ [levRow D k] := by
  rw [List.take_add_one, gridOf_at D _ h]
  congr 1
  show [(List.range (colsN D)).map fun c => lev D (k, c)] = [levRow D k]
  congr 1
  unfold levRow
  refine List.map_congr_left fun j hj => ?_
  rw [levA_in (p := (k, j)) ⟨h, by simpa using hj⟩]
theorem levRow_is {D : List VIntS} (hD : RL D) {w : World} {B : Nat} (h : HBArr w B (levA D)) {k : Nat} (hk : k < D.length) : IsInts w (some ⟨B, k * 8, none⟩) (colsN D) 8 (levRow D k) := by
  have hm8 := hD.m8
  have hn8 := hD.n8
  refine ⟨(levRow_len D k).symm, hn8, by simp [maxLen], .inr ⟨B, k * 8, rfl, h.lt, fun j s hs => ?_⟩⟩
  have hj : j < colsN D := by
    have := (List.getElem?_eq_some_iff.1 hs).1
    rwa [levRow_len] at this
  have e : s = levA D (k, j) := by
    simp [levRow, hj] at hs
    exact hs.symm
  rw [e]
  exact h.cell (show k < 8 by omega) (show j < 8 by omega)
set_option maxHeartbeats 12800000 in
set_option maxRecDepth 100000 in
theorem implFilledRelief_any (a : Option Addr) (len cap : Nat) (D : List VIntS) (w : World) (h : IsIntSS w a len cap D) :
    Calls Try.prog 35 #[.slice a len cap] w (FilledRelief_Post D w) := by
  have hm := h.2.2.1
  have hcl := h.2.1
  unfold maxLen at hm
  obtain rfl := h.1
  obtain ⟨i0, hi, hz0, hz1, hz2⟩ := info_parts infoIntS
  have S := Lib.hid h
  clear h
  obtain ⟨q, hq⟩ : ∃ q, rlB D = q := ⟨_, rfl⟩
  have Q := Lib.hid hq
  clear hq
  go_enter Try.func35, Try.ntmps35
  go_wp2_with fail
  refine (implIsRelief_any _ _ _ D _ S.out).mono ?_
  rintro e w1 ⟨rfl, hb⟩
  rw [show IsRelief_0 D = q from Q.out]
  have B1 := Lib.hid hb
  have S1 := Lib.hid (S.out.below hb)
  clear hb
  cases q
  · have P := Lib.hid (show FilledRelief_0 D = [] ∧ FilledRelief_1 D = false from by unfold FilledRelief_0 FilledRelief_1; rw [Q.out]; exact ⟨rfl, rfl⟩)
    go_wp2
    go_ret2
    exact ⟨_, by rw [P.out.2]; rfl, by rw [P.out.1]; exact nil_OwnIntSS _ _ _, B1.out⟩
  have HD := Lib.hid (rlB_iff.1 Q.out)
  have P := Lib.hid (show FilledRelief_0 D = gridOf D (lev D) ∧ FilledRelief_1 D = true from by unfold FilledRelief_0 FilledRelief_1; rw [Q.out]; exact ⟨rfl, rfl⟩)
  have hm8 := HD.out.m8
  have hn8 := HD.out.n8
  have hn1 := HD.out.n1
  go_wp2_with fail
  refine (levelsOf_any _ _ _ D _ S1.out HD.out).mono ?_
  rintro e w2 ⟨rfl, hb⟩
  have B2 := Lib.hid (Below.then' B1.out hb)
  have S2 := Lib.hid (S1.out.below hb)
  have hs2 := B2.out.size
  clear hb
  go_wp2_with (rw [zeros_arr]; refine wpList_storeArr rfl (.tmp 4) (.tmp 11) rfl w2.heap.size rfl _ _ rfl (HBArr.new w2 (fun _ => 0) _ rfl) ?_; intro w4 hw4 hg4)
  have b4 : Below w2.heap.size w2 w4 := (bel_al1 w2 (.cells (arrC fun _ => 0) 82)).grown hg4 (by simp) (fun j e => by cases e; exact Nat.le_refl _)
  have B4 := Lib.hid (Below.then' B2.out b4)
  have S4 := Lib.hid (S2.out.below b4)
  have A4 := Lib.hid hw4
  have hs4 := b4.size
  clear b4 hw4 hg4
  go_loopw [14, 5] (fun i v wr => ∃ (k : Nat) (ps : List PIntS), k ≤ D.length ∧ i = .int .i64 k ∧ ps.length = k ∧ ps.map PIntS.x = (gridOf D (lev D)).take k ∧ RawIntS w4.heap.size wr.heap.size wr v ps ∧ Below w4.heap.size w4 wr) (fun i _ _ => D.length - (intOf i).toNat)
  case atStart => exact ⟨0, [], Nat.zero_le _, rfl, rfl, rfl, nil_RawIntS _ _ _, Below.refl _ _⟩
  case round =>
    obtain ⟨k, ps, hk, rfl, hpl, hps, hraw, hbel⟩ := hrel
    have O := Lib.hid hraw
    have B := Lib.hid hbel
    have PS := Lib.hid hps
    have PL := Lib.hid hpl
    have hsz := hbel.size
    by_cases hlt : k < D.length
    · obtain ⟨b, o, b', o', c', ha, hb, hb', g0, hc1, hc2, g1⟩ := relief_row S4.out HD.out hlt
      subst ha
      have KS := Lib.hid (fun (u : World) (hu : Below w4.heap.size w4 u) => (⟨hu, cell_stay g0 hu⟩ : Below w4.heap.size w4 u ∧ u.cell? ⟨b, o + k, none⟩ = some (.slice (some ⟨b', o', none⟩) (colsN D) c')))
      have AI := Lib.hid (fun (u : World) (hu : Below w4.heap.size w4 u ∧ u.cell? ⟨b, o + k, none⟩ = some (.slice (some ⟨b', o', none⟩) (colsN D) c')) => levRow_is HD.out (A4.out.below hu.1) hlt)
      have BD := Lib.hid (show Below w4.heap.size w4 wr.drew from bel_drew' hbel)
      have BW := Lib.hid (show Below wr.heap.size wr wr.drew from bel_drew' (Below.refl _ _))
      have RL8 := Lib.hid (show (levRow D k).length ≤ 1048576 from by rw [levRow_len]; omega)
      have k0 : (0 : Int) ≤ (k : Int) := by omega
      have k1 : (k : Int) < (D.length : Int) := by omega
      have k8 : (k : Int) < 8 := by omega
      have n0 : (0 : Int) ≤ (colsN D : Int) := by omega
      have n8 : (colsN D : Int) ≤ 8 := by omega
      clear hraw hbel hps hpl g1 g0
      go_wp2
      go_region_held3 (fun u => Below w4.heap.size w4 u ∧ u.cell? ⟨b, o + k, none⟩ = some (.slice (some ⟨b', o', none⟩) (colsN D) c'))
        (first | exact KS.out _ BD.out | exact KS.out _ C1.out | exact KS.out _ (Below.then' C1.out (bel_al1 _ _)) | exact KS.out _ C4.out)
        (first
          | (go_at_call 99; refine (cloneInts_any _ _ _ (levRow D k) _ (AI.out _ (by assumption)) RL8.out).mono ?_; rintro e w5 ⟨h5, rfl, hz5, hb5⟩; have C1 := Lib.hid (Below.then' BD.out hb5); have D1 := Lib.hid (Below.then' BW.out hb5); have Z1 := Lib.hid hz5; have hs5 := hb5.size; clear hz5 hb5)
          | (refine step_append_lies _ (by rfl) (.tmp 17) (.tmp 27) 24 (by rfl) w4.heap.size 38 i0 (.slice none 0 0) 1 24 Try.underlying24 hi hz0 hz1 hz2 (by rfl) (by decide) _ ps.length (cellsIntS ps) (by rfl) (World.ownsRow.alloc (ownsRow_below O.out.1.1 D1.out) _) ⟨w5.heap.size, 0, none⟩ 1 1 (PIntS.vals ⟨levRow D k, h5⟩) (by rfl) (by rfl) (cell_IntS w5 ⟨levRow D k, h5⟩ _ _ rfl) (PIntS.vals_one _) (by decide) (by unfold maxLen; have := PL.out; omega) (by have := PL.out; omega) (Below.then' C1.out (bel_al1 _ _)).size (w5.heap.size + 1) (size_al _ _) ?_; intro g6 cap6 w6 hown6 hgrow6 hat6 hlt6; have C4 := Lib.hid ((Below.then' C1.out (bel_al1 _ _)).grown hgrow6 (Below.then' C1.out (bel_al1 _ _)).size (fun p e => (O.out.1.lt e).1))))
      have BA := Below.then' D1.out (bel_al1 w5 (.cells #[.slice h5.a h5.n h5.c] 38))
      have HM := (Z1.out.below (bel_al1 w5 (.cells #[.slice h5.a h5.n h5.c] 38))).mono (Nat.le_refl wr.heap.size) (bel_al1 w5 (.cells #[.slice h5.a h5.n h5.c] 38)).size
      have N6 := Lib.hid (O.out.snocV (p := ⟨levRow D k, h5⟩) rfl hsz BA HM hown6 hgrow6 (by rw [size_al]; exact hat6))
      clear BA HM hown6 hgrow6 hat6
      go_wp2
      go_roundw
      case rel => exact ⟨k + 1, ps ++ [⟨levRow D k, h5⟩], by omega, by go_num, by rw [List.length_append, PL.out]; rfl, by rw [List.map_append, PS.out, levRow_take D hlt]; rfl, N6.out, C4.out⟩
      case measure => simp [intOf]; omega
    · obtain rfl : k = D.length := by omega
      have R := Lib.hid (show OwnIntSS w.heap.size wr.heap.size wr _ (gridOf D (lev D)) from ⟨ps, by rw [PS.out, List.take_of_length_le (by rw [gridOf_len]; exact Nat.le_refl _)], O.out.mono (by omega) (Nat.le_refl _)⟩)
      clear hraw hbel hps hpl
      go_wp2
      go_ret2
      exact ⟨_, by rw [P.out.2]; rfl, by rw [P.out.1]; exact R.out, Below.then' B4.out B.out⟩
end Go.Proofs.Ytpnaciamnigbnaa
namespace Go.Proofs.Ytpnaciamnigbnaa
end Go.Proofs.Ytpnaciamnigbnaa
