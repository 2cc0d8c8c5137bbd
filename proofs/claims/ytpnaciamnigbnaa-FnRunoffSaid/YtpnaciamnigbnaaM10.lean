/- Texts in one: Wi11, Wi12, LevelAtP, Wi13, Ws8, FilledReliefP, LakesOfP, Ws9. -/
import Derived.Test.YtpnaciamnigbnaaM7
import Derived.ScopeJumps
import Derived.WalkMore
import Derived.Deep.DeepCutAuto
import Derived.Test.YtpnaciamnigbnaaM3
import Derived.Test.YtpnaciamnigbnaaM9
import Derived.Deep.LoopGhost
namespace Go.Proofs.Ytpnaciamnigbnaa
open Go.RowKit

set_option maxHeartbeats 12800000 in
set_option maxRecDepth 100000 in
theorem wayOut_any (L : Sq → Int) (a : Option Addr) (len cap : Nat) (D : List VIntS) (r c : Nat) (w : World) (h : IsIntSS w a len cap D) (hD : RL D) (hr : r < D.length) (hc : c < colsN D) :
    Calls Try.prog 139 #[.slice a len cap, .agg (arrC L), .agg #[.int .i64 (r : Int), .int .i64 (c : Int)]] w fun e w' => e = .returned (.int .i64 (wayN D L (r, c))) ∧ Below w.heap.size w w' := by
  have HD := Lib.hid hD
  have hm8 := hD.m8
  have hn8 := hD.n8
  have b0 := bel_al2 w (.cells (arrC L) 82) (.cells #[.int .i64 (r : Int), .int .i64 (c : Int)] 34)
  have B0 := Lib.hid b0
  have S := Lib.hid (h.below b0)
  have Z4 := Lib.hid ((HBArr.new w L _ rfl).alloc (.cells #[.int .i64 (r : Int), .int .i64 (c : Int)] 34))
  obtain ⟨c0, c1⟩ := BoxIntA2.new (w.alloc (.cells (arrC L) 82)) 34 ⟨(r : Int), (c : Int)⟩ (w.heap.size + 1) (by simp)
  simp only [] at c0 c1
  have WN := Lib.hid (show wayN D L (r, c) = if (nears D (r, c)).length < 4 then 0 else lowestN L (nears D (r, c)) from rfl)
  have NI := Lib.hid (fun (k : Nat) (q : Sq) (hq : (nears D (r, c))[k]? = some q) => nears_in (show inR D (r, c) from ⟨hr, hc⟩) (List.mem_of_getElem? hq))
  have hln := nears_len D (r, c)
  clear h hD b0
  go_enter Try.func139, Try.ntmps139
  go_wp2_with fail
  refine (squaresBeside_any _ _ _ D r c _ S.out HD.out hr hc).mono ?_
  rintro e w1 ⟨v, rfl, hown, hb⟩
  have B1 := Lib.hid (Below.then' B0.out hb)
  have Y4 := Lib.hid (Z4.out.below hb)
  obtain ⟨a4, c4, rfl, _⟩ := hown.is
  have O1 := Lib.hid (hown.base (base' := w.heap.size + 2) (by simp))
  obtain ⟨N, hN⟩ : ∃ N, nears D (r, c) = N := ⟨_, rfl⟩
  rw [hN] at O1 WN NI hln ⊢
  clear hown hb hN c0 c1
  by_cases h4 : N.length < 4
  · have F := Lib.hid (show wayN D L (r, c) = 0 from by rw [WN.out, if_pos h4])
    have i4 : (N.length : Int) < 4 := by omega
    have d4 : decide (N.length < 4) = true := decide_eq_true h4
    clear h4
    go_wp2
    go_ret
    exact ⟨by rw [F.out]; rfl, B1.out⟩
  · have F := Lib.hid (show wayN D L (r, c) = lowestN L N from by rw [WN.out, if_neg h4])
    have i4 : ¬ (N.length : Int) < 4 := by omega
    have d4 : decide (N.length < 4) = false := decide_eq_false h4
    clear h4
    go_wp2
    go_loopw [8, 19] (fun lo i wr => ∃ k : Nat, k ≤ N.length ∧ i = .int .i64 k ∧ lo = .int .i64 (lowestN L (N.take k)) ∧ HBArr wr w.heap.size L ∧ SqRow (w.heap.size + 2) wr (.slice a4 N.length c4) N ∧ Below w.heap.size w wr) (fun _ i _ => N.length - (intOf i).toNat)
    case atStart => exact ⟨0, Nat.zero_le _, rfl, rfl, Y4.out, O1.out, B1.out⟩
    case round =>
      obtain ⟨k, hk, rfl, rfl, h4, hown, hbel⟩ := hrel
      have X4 := Lib.hid h4
      have O := Lib.hid hown
      have B := Lib.hid hbel
      by_cases hlt : k < N.length
      · obtain ⟨q, hq⟩ : ∃ q, N[k]? = some q := ⟨N[k]'hlt, List.getElem?_eq_getElem _⟩
        obtain ⟨b, o, ha4, hb, hat⟩ := hown.isAt.2.at (by omega)
        subst ha4
        obtain ⟨d0, d1⟩ := hat k (vsq q) (sqV_at hq)
        have QI := NI.out k q hq
        have LS := Lib.hid (show lowestN L (N.take (k + 1)) = min (lowestN L (N.take k)) (L q) from by rw [List.take_add_one, hq]; exact lowestN_snoc L _ q)
        obtain ⟨x, y⟩ := q
        simp only [vsq] at d0 d1
        obtain ⟨hx, hy⟩ := QI
        simp only [] at hx hy
        have hc4 := hown.isAt.2.2.1
        have hc5 := hown.isAt.2.2.2.1
        unfold maxLen at hc5
        have j0 : (0 : Int) ≤ (k : Int) := by omega
        have j1 : (k : Int) < (N.length : Int) := by omega
        have x0 : (0 : Int) ≤ (x : Int) := by omega
        have x1 : (x : Int) < 8 := by omega
        have y0 : (0 : Int) ≤ (y : Int) := by omega
        have y1 : (y : Int) < 8 := by omega
        have ba := bel_al1 wr (.cells #[.int .i64 (x : Int), .int .i64 (y : Int)] 34)
        have B2 := Lib.hid (Below.then' B.out ba)
        have A4 := Lib.hid (h4.below ba)
        have AO := Lib.hid (hown.below ba)
        obtain ⟨f0, f1⟩ := BoxIntA2.new wr 34 ⟨(x : Int), (y : Int)⟩ _ rfl
        simp only [] at f0 f1
        have g0 := A4.out.cell (show x < 8 by omega) (show y < 8 by omega)
        obtain ⟨lo, hlo⟩ : ∃ lo, lowestN L (N.take k) = lo := ⟨_, rfl⟩
        obtain ⟨z, hz⟩ : ∃ z, L (x, y) = z := ⟨_, rfl⟩
        rw [hz] at g0 LS
        rw [hlo] at LS ⊢
        clear h4 hown hbel hat hq ba hlo hz
        obtain ⟨V, hV⟩ : ∃ V, wr.alloc (.cells #[.int .i64 (x : Int), .int .i64 (y : Int)] 34) = V := ⟨_, rfl⟩
        rw [hV] at B2 A4 AO f0 f1 g0
        have k0 := cell_regrown f0
        have k1 := cell_regrown f1
        have k2 := cell_regrown g0
        clear f0 f1 g0
        go_wp2
        try rw [hV]
        clear hV
        refine wp_region_quiet_below (by kernel_rfl) (by kernel_rfl) ?_
        repeat (any_goals (first | go_big_quiet_step (fail) | quiet_step (fail)))
        refine wpQuiet_nil ?_
        intro W2 hw2
        have bw := below_of_re hw2
        have B3 := Lib.hid (Below.then' B2.out bw)
        have C4 := Lib.hid (A4.out.below bw)
        have CO := Lib.hid (AO.out.below bw)
        obtain ⟨m, hm⟩ : ∃ m, (if z < lo then z else lo) = m := ⟨_, rfl⟩
        have LM := Lib.hid (show lowestN L (N.take (k + 1)) = m from by rw [LS.out, ← hm]; split <;> omega)
        rw [hm]
        clear hm bw hw2 k0 k1 k2
        go_wp2
        go_roundw
        case rel => exact ⟨k + 1, by omega, by go_num, by rw [LM.out], C4.out, CO.out, B3.out⟩
        case measure => simp [intOf]; omega
      · obtain rfl : k = N.length := by omega
        have E := Lib.hid (show lowestN L (N.take N.length) = wayN D L (r, c) from by rw [List.take_of_length_le (Nat.le_refl _), F.out])
        rw [E.out]
        clear h4 hown hbel
        go_wp2
        go_ret
        exact ⟨rfl, B.out⟩
end Go.Proofs.Ytpnaciamnigbnaa
namespace Go.Proofs.Ytpnaciamnigbnaa
open Go.RowKit

/-- A scope in which the run jumps back to a label: what stands behind the label is walked once. -/
theorem scope_again {P : Program} {a : Act} {w : World} {Q : Exit → Act → World → Prop} {c R : Code} (l : Nat) (J : Act → World → Prop) (μ : Act → World → Nat) (hf : findLabel c l = some (Code.skip.seq R))
    (pass : ∀ a w, J a w → R.wp P (Exit.jump l (fun a' w' => J a' w' ∧ μ a' w' < μ a w) Q) a w)
    (first : (∀ a w, J a w → R.wp P (Exit.jump l J Q) a w) → c.wp P (Exit.jump l J Q) a w) : (Code.scope c).wp P Q a w :=
  wp_scope_jumps l J μ hf (first fun a w h => Code.wp_mono (fun e a' w' hq => by
    cases e <;> first | exact hq | exact ⟨hq.1, hq.2.1⟩) (pass a w h)) (fun a w h => wp_seq (wp_skip (pass a w h)))
/-- What holds behind the label. -/
def LvAt (a : Option Addr) (len cap : Nat) (D : List VIntS) (w : World) (a' : Act) (w' : World) : Prop :=
  ∃ (v3 : Value) (B4 : Nat) (L : Sq → Int) (u6 u7 u9 u10 u11 u12 u13 u14 u15 u16 u17 u18 u19 u20 u21 u22 u23 u24 u25 u26 u27 u28 u29 u30 u31 u32 u33 u34 u35 u36 u37 u38 u39 u40 u41 u42 u43 u44 u45 u46 u47 u48 u49 u50 : Value), a' = { tmps := #[.slice a len cap, undef, .pointer (some ⟨w.heap.size, 0, none⟩), v3, .pointer (some ⟨B4, 0, none⟩), undef, u6, u7, undef, u9, u10, u11, u12, u13, u14, u15, u16, u17, u18, u19, u20, u21, u22, u23, u24, u25, u26, u27, u28, u29, u30, u31, u32, u33, u34, u35, u36, u37, u38, u39, u40, u41, u42, u43, u44, u45, u46, u47, u48, u49, u50], defers := [] } ∧
    Hi D L ∧ (∀ p, ¬ inR D p → L p = 0) ∧ HBArr w' w.heap.size (fun _ => 0) ∧ HBArr w' B4 L ∧ SqRow (w.heap.size + 1) w' v3 (sqs D) ∧ (∀ q, v3.ownBlock = some q → q < B4) ∧ w.heap.size < B4 ∧ Below w.heap.size w w'
/-- The sum of all levels. -/
def muOf (a' : Act) (w' : World) : Nat := match a'.tmps.getD 4 undef with
  | .pointer (some ad) => arrSum w' ad.block
  | _ => 0
/-- What levels are while the program lays 9999 into all squares. -/
def preL (D : List VIntS) (k : Nat) (q : Sq) : Int := if q ∈ (sqs D).take k then 9999 else 0
theorem preL_zero (D : List VIntS) : preL D 0 = fun _ => 0 := by funext q; simp [preL]
theorem preL_step {D : List VIntS} {k : Nat} {p : Sq} (h : (sqs D)[k]? = some p) : preL D (k + 1) = upL (preL D k) p 9999 := by
  funext q
  unfold preL upL
  rw [List.take_add_one, h]
  by_cases e : q = p
  · subst e; simp
  · rw [if_neg e]
    simp [e]
theorem preL_all (D : List VIntS) : (∀ p, inR D p → preL D (sqs D).length p = 9999) ∧ ∀ p, ¬ inR D p → preL D (sqs D).length p = 0 := by
  unfold preL
  rw [List.take_length]
  exact ⟨fun p hp => if_pos (mem_sqs.2 hp), fun p hp => if_neg fun h => hp (mem_sqs.1 h)⟩
theorem hi_congr {D : List VIntS} {L M : Sq → Int} (h : Hi D L) (e : ∀ p, inR D p → M p = L p) : Hi D M :=
  ⟨fun p hp => by rw [e p hp]; exact Int.le_trans (newL_mono hp fun q hq => by rw [e q hq]; exact Int.le_refl _) (h.down p hp), fun p hp => by rw [e p hp]; exact h.top p hp, fun G hG ht p hp => by rw [e p hp]; exact h.most G hG ht p hp⟩
theorem pre_hi {D : List VIntS} (hD : RL D) : Hi D (preL D (sqs D).length) := hi_congr (hi_start hD) (preL_all D).1
set_option maxHeartbeats 25600000 in
set_option maxRecDepth 100000 in
theorem levelsOf_any (a : Option Addr) (len cap : Nat) (D : List VIntS) (w : World) (h : IsIntSS w a len cap D) (hD : RL D) :
    Calls Try.prog 98 #[.slice a len cap] w (ArrPost (levA D) w) := by
  have S := Lib.hid h
  have HD := Lib.hid hD
  have hm8 := hD.m8
  have hn8 := hD.n8
  have b0 := bel_al1 w (.cells (arrC fun _ => 0) 82)
  have B0 := Lib.hid b0
  have S0 := Lib.hid (h.below b0)
  have Z2 := Lib.hid (HBArr.new w (fun _ => 0) _ rfl)
  clear h hD b0
  go_enter Try.func98, Try.ntmps98
  go_wp2
  rw [zeros_arr]
  refine scope_again 0 (LvAt a len cap D w) muOf rfl ?pass ?first
  case pass =>
    rintro a' w1 ⟨v3, B4, L, u6, u7, u9, u10, u11, u12, u13, u14, u15, u16, u17, u18, u19, u20, u21, u22, u23, u24, u25, u26, u27, u28, u29, u30, u31, u32, u33, u34, u35, u36, u37, u38, u39, u40, u41, u42, u43, u44, u45, u46, u47, u48, u49, u50, rfl, hHi, h0, hz, h4, hsq, hne, hB, hbel⟩
    have HI := Lib.hid hHi
    have OUT := Lib.hid h0
    have X2 := Lib.hid hz
    have X4 := Lib.hid h4
    have SQ := Lib.hid hsq
    have NE := Lib.hid hne
    have B := Lib.hid hbel
    have SUM := Lib.hid h4.sum
    have hln := sqs_len HD.out
    have hB4 := h4.lt
    obtain ⟨a4, c4, rfl, _⟩ := hsq.is
    clear hHi h0 hz h4 hsq hne hbel
    go_wp2_with (first
      | (refine wpList_loadArr rfl (.tmp 4) rfl B4 rfl L X4.out ?_)
      | (rw [zeros_arr]; refine wpList_storeArr rfl (.tmp 7) (.tmp 25) rfl w1.heap.size rfl _ _ rfl (HBArr.new w1 (fun _ => 0) _ rfl) ?_; intro w2 hw2 hg2))
    have b2 : Below w1.heap.size w1 w2 := (bel_al1 w1 (.cells (arrC fun _ => 0) 82)).grown hg2 (by simp) (fun j e => by cases e; exact Nat.le_refl _)
    have B2 := Lib.hid (Below.then' B.out b2)
    have Y2 := Lib.hid (X2.out.below b2)
    have Y4 := Lib.hid (X4.out.below b2)
    have Y7 := Lib.hid hw2
    have YQ := Lib.hid (SQ.out.below b2)
    have SI := Lib.hid (fun (k : Nat) (p : Sq) (hp : (sqs D)[k]? = some p) => mem_sqs.1 (List.mem_of_getElem? hp))
    have hb1 : w.heap.size + 1 ≤ w1.heap.size := by omega
    clear b2 hw2 hg2
    go_loopw [28] (fun i wr => ∃ k : Nat, k ≤ (sqs D).length ∧ i = .int .i64 k ∧ HBArr wr w.heap.size (fun _ => 0) ∧ HBArr wr B4 (passL D ((sqs D).take k) L) ∧ HBArr wr w1.heap.size L ∧ SqRow (w.heap.size + 1) wr (.slice a4 (sqs D).length c4) (sqs D) ∧ Below w.heap.size w wr) (fun i _ => (sqs D).length - (intOf i).toNat)
    case atStart => exact ⟨0, Nat.zero_le _, rfl, Y2.out, Y4.out, Y7.out, YQ.out, B2.out⟩
    case round =>
      obtain ⟨k, hk, rfl, h2, h4, h7, hsq, hbel⟩ := hrel
      by_cases hlt : k < (sqs D).length
      · obtain ⟨p, hp⟩ : ∃ p, (sqs D)[k]? = some p := ⟨(sqs D)[k]'hlt, List.getElem?_eq_getElem _⟩
        obtain ⟨b, o, ha4, hb, hat⟩ := hsq.isAt.2.at (by omega)
        subst ha4
        obtain ⟨d0, d1⟩ := hat k (vsq p) (sqV_at hp)
        have PI := SI.out k p hp
        have PS := Lib.hid (show passL D ((sqs D).take (k + 1)) L = upL (passL D ((sqs D).take k) L) p (newL D (passL D ((sqs D).take k) L) p) from by rw [List.take_add_one, hp]; exact passL_snoc D _ p L)
        have HM := pass_hi ((sqs D).take k) (fun q hq => mem_sqs.1 (List.mem_of_mem_take hq)) L HI.out
        have NB := HM.down p PI
        have NT := HM.top p PI
        obtain ⟨x, y⟩ := p
        simp only [vsq] at d0 d1
        obtain ⟨hx, hy⟩ := PI
        simp only [] at hx hy
        have hc4 := hsq.isAt.2.2.1
        have hc5 := hsq.isAt.2.2.2.1
        unfold maxLen at hc5
        have j0 : (0 : Int) ≤ (k : Int) := by omega
        have j1 : (k : Int) < ((sqs D).length : Int) := by omega
        have x0 : (0 : Int) ≤ (x : Int) := by omega
        have x1 : (x : Int) < 8 := by omega
        have y0 : (0 : Int) ≤ (y : Int) := by omega
        have y1 : (y : Int) < 8 := by omega
        have x8 : x < 8 := by omega
        have y8 : y < 8 := by omega
        obtain ⟨M, hM⟩ : ∃ M, passL D ((sqs D).take k) L = M := ⟨_, rfl⟩
        rw [hM] at h4 PS NB NT
        have ba := bel_al1 wr (.cells #[.int .i64 (x : Int), .int .i64 (y : Int)] 34)
        have C2 := Lib.hid (h2.below ba)
        have C4 := Lib.hid (h4.below ba)
        have C7 := Lib.hid (h7.below ba)
        have CQ := Lib.hid (hsq.below ba)
        have CB := Lib.hid (Below.then' hbel ba)
        obtain ⟨f0, f1⟩ := BoxIntA2.new wr 34 ⟨(x : Int), (y : Int)⟩ _ rfl
        simp only [] at f0 f1
        have hwr := h7.lt
        clear h2 h4 h7 hsq hbel hat hp hM HM ba
        go_wp2
        obtain ⟨V, hV⟩ : ∃ V, wr.alloc (.cells #[.int .i64 (x : Int), .int .i64 (y : Int)] 34) = V := ⟨_, rfl⟩
        rw [hV] at C2 C4 C7 CQ CB f0 f1 ⊢
        clear hV d0 d1
        have k0 := cell_regrown f0
        have k1 := cell_regrown f1
        have cQ := below_at (W := V) (fun W' hW => heightOf_any _ _ _ D x y W' (S.out.below (Below.then' CB.out hW)) HD.out hx hy)
        have cW := below_at (W := V) (fun W' hW => wayOut_any M _ _ _ D x y W' (S.out.below (Below.then' CB.out hW)) HD.out hx hy)
        have LA := Lib.hid (fun (W' : World) (hW : ∃ p : Regrown, W' = Sort.grow (redrawn V p.d) p.os) => C4.out.below (below_of_re hW))
        clear f0 f1
        obtain ⟨hh, ehh⟩ : ∃ hh, hA D (x, y) = hh := ⟨_, rfl⟩
        obtain ⟨ww, eww⟩ : ∃ ww, wayN D M (x, y) = ww := ⟨_, rfl⟩
        have NW := Lib.hid (show newL D M (x, y) = max hh ww from by unfold newL; rw [ehh, eww])
        rw [ehh] at cQ
        rw [eww] at cW
        clear ehh eww
        refine wp_region_quiet_last 14 (by kernel_rfl) rfl rfl rfl rfl (by kernel_rfl) (by kernel_rfl) (by kernel_rfl) (by kernel_rfl) ?_
        simp only [List.take_succ_cons, List.take_zero]
        repeat (first | (refine quiet_loadArr rfl (.tmp 4) rfl B4 rfl M LA.out ?_) | go_big_quiet_step (first | (with_reducible exact cQ _ _) | (with_reducible exact cW _ _)) | quiet_step (first | (with_reducible exact cQ _ _) | (with_reducible exact cW _ _)))
        refine wpQuiet_nil ?_
        intro W2 hw2
        have bw := below_of_re hw2
        have E2 := Lib.hid (C2.out.below bw)
        have E4 := Lib.hid (C4.out.below bw)
        have E7 := Lib.hid (C7.out.below bw)
        have EQ := Lib.hid (CQ.out.below bw)
        have EB := Lib.hid (Below.then' CB.out bw)
        obtain ⟨m, hm⟩ : ∃ m, (if hh < ww then ww else hh) = m := ⟨_, rfl⟩
        have NM := Lib.hid (show newL D M (x, y) = m from by rw [NW.out, ← hm]; split <;> omega)
        rw [hm]
        have g0 := E4.out.cell x8 y8
        have g1 := E4.out.free (x * 8 + y)
        have HG := Lib.hid (grown_set W2 B4 (x * 8 + y) (.int .i64 m))
        clear hm bw hw2 k0 k1 cQ cW
        simp only [List.drop_succ_cons, List.drop_zero]
        go_wp2
        go_roundw
        case rel =>
          refine ⟨k + 1, by omega, by go_num, E2.out.grown HG.out (by simp; omega), ?_, E7.out.grown HG.out (by simp; omega), World.ownsRow.kept EQ.out HG.out (by simp only [Value.ownBlock]; exact .inr (fun e => by have := NE.out b rfl; simp at e; omega)), EB.out.grown HG.out EB.out.size (fun j e => by cases e; omega)⟩
          rw [PS.out, NM.out]
          exact E4.out.set x8 y8 m
        case measure => simp [intOf]; omega
      · obtain rfl : k = (sqs D).length := by omega
        rw [List.take_length] at h4
        have W2 := Lib.hid h2
        have W4 := Lib.hid h4
        have W7 := Lib.hid h7
        have WQ := Lib.hid hsq
        have WB := Lib.hid hbel
        obtain ⟨M, hM⟩ : ∃ M, passL D (sqs D) L = M := ⟨_, rfl⟩
        have HM := Lib.hid hM
        rw [hM] at W4
        obtain ⟨q, hq⟩ : ∃ q, eqL M L = q := ⟨_, rfl⟩
        have Q := Lib.hid hq
        clear h2 h4 h7 hsq hbel hM hq
        have hin : ∀ p ∈ sqs D, inR D p := fun p hp => mem_sqs.1 hp
        have HM2 := Lib.hid (show Hi D M from by rw [← HM.out]; exact pass_hi _ hin L HI.out)
        have OM := Lib.hid (show ∀ p, ¬ inR D p → M p = 0 from fun p hp => by rw [← HM.out, pass_out _ hin L p hp]; exact OUT.out p hp)
        clear hin
        cases q
        · have LT := Lib.hid (show arrSum wr B4 < arrSum w1 B4 from by
            rw [W4.out.sum, SUM.out, ← HM.out]
            exact pass_sum HD.out HI.out OUT.out (by rw [HM.out]; exact Q.out))
          go_upto_if 49 with (first
            | (refine wpList_loadArr rfl (.tmp 4) rfl B4 rfl M W4.out ?_)
            | (refine wpList_loadArr rfl (.tmp 7) rfl w1.heap.size rfl L W7.out ?_)
            | (refine wpList_neqArr rfl (.tmp 47) (.tmp 48) _ rfl M L rfl rfl false Q.out ?_))
          simp only [Bool.not_false]
          refine wp_cond_true rfl ?_
          apply wp_goto
          refine And.intro (a := (0 : Nat) = 0) rfl (And.intro (show LvAt a len cap D w { tmps := #[.slice a len cap, undef, .pointer (some ⟨w.heap.size, 0, none⟩), .slice a4 (sqs D).length c4, .pointer (some ⟨B4, 0, none⟩), undef, _, _, undef, _, _, _, _, _, _, _, _, _, _, _, _, _, _, _, _, _, _, _, _, _, _, _, _, _, _, _, _, _, _, _, _, _, _, _, _, _, _, _, _, _, _], defers := [] } wr from ⟨_, B4, M, _, _, _, _, _, _, _, _, _, _, _, _, _, _, _, _, _, _, _, _, _, _, _, _, _, _, _, _, _, _, _, _, _, _, _, _, _, _, _, _, _, _, _, _, rfl, HM2.out, OM.out, W2.out, W4.out, WQ.out, NE.out, hB, WB.out⟩) ?_)
          exact LT.out
        · have E := Lib.hid (show arrC M = arrC (levA D) from by
            rw [← HM.out]
            exact pass_levA HD.out HI.out OUT.out (by rw [HM.out]; exact Q.out))
          go_upto_if 49 with (first
            | (refine wpList_loadArr rfl (.tmp 4) rfl B4 rfl M W4.out ?_)
            | (refine wpList_loadArr rfl (.tmp 7) rfl w1.heap.size rfl L W7.out ?_)
            | (refine wpList_neqArr rfl (.tmp 47) (.tmp 48) _ rfl M L rfl rfl true Q.out ?_))
          simp only [Bool.not_true]
          refine wp_cond_false rfl ?_
          go_wp2_with (first
            | (refine wpList_loadArr rfl (.tmp 4) rfl B4 rfl M W4.out ?_)
            | (refine wpList_storeArr rfl (.tmp 2) (.tmp 50) rfl w.heap.size rfl _ _ rfl W2.out ?_; intro w4 hw4 hg4))
          show bodyPost Try.prog Try.f98 (ArrPost (levA D) w) .ret _ w4
          refine bodyPost_ret (results_arr rfl rfl hw4) rfl ⟨by rw [E.out], WB.out.grown hg4 WB.out.size (fun j e => by cases e; exact Nat.le_refl _)⟩
  case first =>
    intro PASS
    have PS := Lib.hid PASS
    clear PASS
    go_wp2_with fail
    refine (reliefSquares_any _ _ _ D _ S0.out HD.out).mono ?_
    rintro e w1 ⟨v, rfl, hown, hb⟩
    have B1 := Lib.hid (Below.then' B0.out hb)
    have Y2 := Lib.hid (Z2.out.below hb)
    have SQ := Lib.hid (hown.base (base' := w.heap.size + 1) (by simp))
    have hs1 : w.heap.size + 1 ≤ w1.heap.size := by have := hb.size; simp at this; omega
    have SI := Lib.hid (fun (k : Nat) (p : Sq) (hp : (sqs D)[k]? = some p) => mem_sqs.1 (List.mem_of_getElem? hp))
    have hln := sqs_len HD.out
    obtain ⟨a4, c4, rfl, _⟩ := hown.is
    have ba := bel_al1 w1 (.cells (arrC fun _ => 0) 82)
    have B2 := Lib.hid (Below.then' B1.out ba)
    have Z3 := Lib.hid (Y2.out.below ba)
    have Z4 := Lib.hid (show HBArr _ w1.heap.size (preL D 0) from by rw [preL_zero]; exact HBArr.new w1 (fun _ => 0) _ rfl)
    have SQ2 := Lib.hid (SQ.out.below ba)
    clear hown hb ba
    go_wp2_with (rw [zeros_arr])
    go_loopw [14] (fun i wr => ∃ k : Nat, k ≤ (sqs D).length ∧ i = .int .i64 k ∧ HBArr wr w.heap.size (fun _ => 0) ∧ HBArr wr w1.heap.size (preL D k) ∧ SqRow (w.heap.size + 1) wr (.slice a4 (sqs D).length c4) (sqs D) ∧ Below w.heap.size w wr) (fun i _ => (sqs D).length - (intOf i).toNat)
    case atStart => exact ⟨0, Nat.zero_le _, rfl, Z3.out, Z4.out, SQ2.out, B2.out⟩
    case round =>
      obtain ⟨k, hk, rfl, h2, h4, hsq, hbel⟩ := hrel
      by_cases hlt : k < (sqs D).length
      · obtain ⟨p, hp⟩ : ∃ p, (sqs D)[k]? = some p := ⟨(sqs D)[k]'hlt, List.getElem?_eq_getElem _⟩
        obtain ⟨b, o, ha4, hb, hat⟩ := hsq.isAt.2.at (by omega)
        subst ha4
        obtain ⟨d0, d1⟩ := hat k (vsq p) (sqV_at hp)
        have PI := SI.out k p hp
        have PL := Lib.hid (preL_step hp)
        obtain ⟨x, y⟩ := p
        simp only [vsq] at d0 d1
        obtain ⟨hx, hy⟩ := PI
        simp only [] at hx hy
        have hc4 := hsq.isAt.2.2.1
        have hc5 := hsq.isAt.2.2.2.1
        unfold maxLen at hc5
        have j0 : (0 : Int) ≤ (k : Int) := by omega
        have j1 : (k : Int) < ((sqs D).length : Int) := by omega
        have x0 : (0 : Int) ≤ (x : Int) := by omega
        have x1 : (x : Int) < 8 := by omega
        have y0 : (0 : Int) ≤ (y : Int) := by omega
        have y1 : (y : Int) < 8 := by omega
        have x8 : x < 8 := by omega
        have y8 : y < 8 := by omega
        have ba := bel_al1 wr (.cells #[.int .i64 (x : Int), .int .i64 (y : Int)] 34)
        have C2 := Lib.hid (h2.below ba)
        have C4 := Lib.hid (h4.below ba)
        have CQ := Lib.hid (hsq.below ba)
        have CB := Lib.hid (Below.then' hbel ba)
        have NE := Lib.hid (show b ≠ w1.heap.size from fun e => by have := (World.ownsRow.lt SQ.out b rfl).2; omega)
        obtain ⟨f0, f1⟩ := BoxIntA2.new wr 34 ⟨(x : Int), (y : Int)⟩ _ rfl
        simp only [] at f0 f1
        have g0 := C4.out.cell x8 y8
        have g1 := C4.out.free (x * 8 + y)
        clear h2 h4 hsq hbel hat hp ba
        go_wp2
        obtain ⟨V, hV⟩ : ∃ V, wr.alloc (.cells #[.int .i64 (x : Int), .int .i64 (y : Int)] 34) = V := ⟨_, rfl⟩
        rw [hV] at C2 C4 CQ CB f0 f1 g0 g1 ⊢
        clear hV d0 d1
        have HG := Lib.hid (show V.grownBy (V.setCell ⟨w1.heap.size, x * 8 + y, none⟩ (.int .i64 9999)).drew (some w1.heap.size) from grown_drew' (grown_set V w1.heap.size (x * 8 + y) (.int .i64 9999)))
        go_still_tail 6, (by kernel_rfl)
        change wpList _ _ _ _ _ V.drew
        go_wp2
        go_roundw
        case rel =>
          refine ⟨k + 1, by omega, by go_num, C2.out.grown HG.out (by simp; omega), ?_, World.ownsRow.kept CQ.out HG.out (by simp only [Value.ownBlock]; exact .inr (fun e => NE.out (Option.some.inj e))), bel_drew' (CB.out.setCell (by simp; omega) _)⟩
          rw [PL.out]
          exact (C4.out.set x8 y8 9999 : HBArr (V.setCell ⟨w1.heap.size, x * 8 + y, none⟩ (.int .i64 9999)) _ _)
        case measure => simp [intOf]; omega
      · obtain rfl : k = (sqs D).length := by omega
        have W2 := Lib.hid h2
        have W4 := Lib.hid h4
        have WQ := Lib.hid hsq
        have WB := Lib.hid hbel
        have PA := Lib.hid (preL_all D).2
        have PH := Lib.hid (pre_hi HD.out)
        have LTQ := Lib.hid (fun (q : Nat) (e : (Value.slice a4 (sqs D).length c4).ownBlock = some q) => (World.ownsRow.lt SQ.out q e).2)
        clear h2 h4 hsq hbel
        go_wp2
        apply wp_label
        rename_i K1 hK1
        refine hK1 _ _ ?_
        exact PS.out _ _ ⟨_, _, preL D (sqs D).length, _, _, _, _, _, _, _, _, _, _, _, _, _, _, _, _, _, _, _, _, _, _, _, _, _, _, _, _, _, _, _, _, _, _, _, _, _, _, _, _, _, _, _, _, rfl, PH.out, PA.out, W2.out, W4.out, WQ.out, LTQ.out, hs1, WB.out⟩
end Go.Proofs.Ytpnaciamnigbnaa
namespace Go.Proofs.Ytpnaciamnigbnaa
open Go.RowKit
def LevelAt_Post (z0 : List VIntS) (z1 : Int) (z2 : Int) (w : World) (e : Ending) (w' : World) : Prop :=
  e = .returned (.tuple #[.int .i64 (LevelAt_0 z0 z1 z2), .bool (LevelAt_1 z0 z1 z2)]) ∧ Below w.heap.size w w'
end Go.Proofs.Ytpnaciamnigbnaa
namespace Go.Proofs.Ytpnaciamnigbnaa
open Go.RowKit

set_option maxHeartbeats 6400000 in
set_option maxRecDepth 100000 in
theorem implLevelAt_any (a : Option Addr) (len cap : Nat) (D : List VIntS) (r c : Int) (w : World) (h : IsIntSS w a len cap D) :
    Calls Try.prog 42 #[.slice a len cap, .int .i64 r, .int .i64 c] w (LevelAt_Post D r c w) := by
  have S := Lib.hid h
  clear h
  obtain ⟨q, hq⟩ : ∃ q, hasB D r c = q := ⟨_, rfl⟩
  have Q := Lib.hid hq
  clear hq
  go_enter Try.func42, Try.ntmps42
  go_wp2_with fail
  refine (isReliefWith_any _ _ _ D r c _ S.out).mono ?_
  rintro e w1 ⟨rfl, hb⟩
  rw [Q.out]
  have B1 := Lib.hid hb
  have S1 := Lib.hid (S.out.below hb)
  clear hb
  cases q
  · have P := Lib.hid (show LevelAt_0 D r c = 0 ∧ LevelAt_1 D r c = false from by unfold LevelAt_0 LevelAt_1; rw [Q.out]; exact ⟨rfl, rfl⟩)
    go_wp2
    go_ret2
    exact ⟨by rw [P.out.1, P.out.2]; rfl, B1.out⟩
  obtain ⟨hD, p, hp, e1, e2⟩ := hasB_yes Q.out
  subst e1
  subst e2
  have SZ := Lib.hid (sqZ_nat p)
  obtain ⟨x, y⟩ := p
  obtain ⟨hx, hy⟩ := hp
  simp only [] at SZ Q hx hy ⊢
  have P := Lib.hid (show LevelAt_0 D (x : Int) (y : Int) = levA D (x, y) ∧ LevelAt_1 D (x : Int) (y : Int) = true from by unfold LevelAt_0 LevelAt_1; rw [Q.out, SZ.out, levA_in (p := (x, y)) ⟨hx, hy⟩]; exact ⟨rfl, rfl⟩)
  have hm8 := hD.m8
  have hn8 := hD.n8
  have X := idx_arr (levA D) (show x < 8 by omega)
  have Y := idx_row (levA D) (show x < 8 by omega) (show y < 8 by omega)
  go_wp2_with fail
  refine (levelsOf_any _ _ _ D _ S1.out hD).mono ?_
  rintro e w2 ⟨rfl, hb⟩
  have B2 := Lib.hid (Below.then' B1.out hb)
  clear hb
  go_wp2
  go_ret2
  exact ⟨by rw [P.out.1, P.out.2]; rfl, B2.out⟩
end Go.Proofs.Ytpnaciamnigbnaa
namespace Go.Proofs.Ytpnaciamnigbnaa
open Go.RowKit Go.Deep

theorem edge_iff (D : List VIntS) {r c : Nat} (hr : r < D.length) (hc : c < colsN D) : (nears D (r, c)).length < 4 ↔ (r = 0 ∨ c = 0 ∨ r + 1 = D.length ∨ c + 1 = colsN D) := by
  unfold nears
  simp only []
  by_cases h1 : 0 < r <;> by_cases h2 : c + 1 < colsN D <;> by_cases h3 : r + 1 < D.length <;> by_cases h4 : 0 < c <;> simp [h1, h2, h3, h4] <;> omega
def st0 (D : List VIntS) (p : Sq) : Int := if (nears D p).length < 4 then hA D p else 10000
def rowTo (D : List VIntS) (k x : Nat) : List Int := (List.range (colsN D)).map fun j => if j < x then st0 D (k, j) else 0
theorem rowTo_len (D : List VIntS) (k x : Nat) : (rowTo D k x).length = colsN D := by simp [rowTo]
theorem rowTo_zero (D : List VIntS) (k : Nat) : rowTo D k 0 = List.replicate (colsN D) 0 := by
  unfold rowTo
  simp [List.map_const']
theorem rowTo_all (D : List VIntS) (k : Nat) : rowTo D k (colsN D) = (List.range (colsN D)).map fun j => st0 D (k, j) := by
  unfold rowTo
  exact List.map_congr_left fun j hj => if_pos (by simpa using hj)
theorem rowTo_put (D : List VIntS) (k x : Nat) : (rowTo D k x).set x (st0 D (k, x)) = rowTo D k (x + 1) := by
  apply List.ext_getElem?
  intro j
  by_cases hj : j < colsN D
  · by_cases e : j = x
    · subst e
      rw [List.getElem?_set_self (by rw [rowTo_len]; exact hj)]
      simp [rowTo, hj]
    · rw [List.getElem?_set_ne (Ne.symm e)]
      simp only [rowTo, List.getElem?_map, List.getElem?_range hj, Option.map_some]
      congr 1
      by_cases h : j < x
      · rw [if_pos h, if_pos (by omega)]
      · rw [if_neg h, if_neg (by omega)]
  · rw [List.getElem?_eq_none (by rw [List.length_set, rowTo_len]; omega), List.getElem?_eq_none (by rw [rowTo_len]; omega)]
theorem iset (l : List Int) (j : Nat) (x : Int) : (intCells l).set j (.int .i64 x) = intCells (l.set j x) := by simp [intCells, List.map_set]
theorem gridOf_take (D : List VIntS) (L : Sq → Int) {k : Nat} (h : k < D.length) : (gridOf D L).take (k + 1) = (gridOf D L).take k ++ [(List.range (colsN D)).map fun j => L (k, j)] := by
  rw [List.take_add_one, gridOf_at D L h]; rfl
def calm (D : List VIntS) (L : Sq → Int) (p q : Sq) : Prop := L p ≤ max (hA D p) (L q)
/-- How a pass stands: changed or not; what has been looked at is calm, if nothing has changed. -/
structure Ps (D : List VIntS) (L0 L : Sq → Int) (b : Bool) (C : Prop) : Prop where
  md : Md D L
  same : b = false → L = L0 ∧ C
  less : b = true → sumN L (sqs D) < sumN L0 (sqs D)
theorem Ps.weaken {D : List VIntS} {L0 L : Sq → Int} {b : Bool} {C C' : Prop} (h : Ps D L0 L b C) (hc : C → C') : Ps D L0 L b C' := ⟨h.md, fun e => ⟨(h.same e).1, hc (h.same e).2⟩, h.less⟩
theorem Ps.hit {D : List VIntS} (hD : RL D) {L0 L : Sq → Int} {b : Bool} {C C' : Prop} (h : Ps D L0 L b C) {p q : Sq} (hp : inR D p) (hq : q ∈ nears D p) (hlt : max (hA D p) (L q) < L p) : Ps D L0 (upL L p (max (hA D p) (L q))) true C' := by
  have hmd := h.md.step hp hq hlt
  refine ⟨hmd, fun e => (nomatch e), fun _ => ?_⟩
  have h1 : sumN (upL L p (max (hA D p) (L q))) (sqs D) < sumN L (sqs D) := by
    refine sumN_lt _ (fun r _ => ?_) (fun r hr => ?_) ⟨p, mem_sqs.2 hp, ?_⟩
    · unfold upL; split
      · rename_i e; subst e; omega
      · exact Int.le_refl _
    · have := hmd.low r (mem_sqs.1 hr)
      obtain ⟨_, _, _, _, h0, _⟩ := hD.at (mem_sqs.1 hr)
      omega
    · unfold upL; rw [if_pos rfl]; omega
  cases b with
  | false => rw [← (h.same rfl).1]; exact h1
  | true => exact Nat.lt_trans h1 (h.less rfl)
theorem Ps.miss {D : List VIntS} {L0 L : Sq → Int} {b : Bool} {C C' : Prop} (h : Ps D L0 L b C) {p q : Sq} (hn : ¬ max (hA D p) (L q) < L p) (hc : C → calm D L0 p q → C') : Ps D L0 L b C' :=
  ⟨h.md, fun e => ⟨(h.same e).1, hc (h.same e).2 (by rw [← (h.same e).1]; unfold calm; omega)⟩, h.less⟩
theorem l9Most_any (x y : Int) (w : World) :
    Calls Try.prog 140 #[.int .i64 x, .int .i64 y] w fun e w' => e = .returned (.int .i64 (max x y)) ∧ w = w' := by
  by_cases h : y < x
  · go_enter Try.func140, Try.ntmps140
    go_wp2
    go_ret
    exact ⟨ret_int (by omega), rfl⟩
  · go_enter Try.func140, Try.ntmps140
    go_wp2
    go_ret
    exact ⟨ret_int (by omega), rfl⟩
set_option maxHeartbeats 25600000 in
set_option maxRecDepth 100000 in
theorem l9Levels_any (a : Option Addr) (len cap : Nat) (D : List VIntS) (w : World) (h : IsIntSS w a len cap D) (hD : RL D) :
    Calls Try.prog 100 #[.slice a len cap] w (GridPost D (lev D) w) := by
  have hm := h.2.2.1
  have hcl := h.2.1
  unfold maxLen at hm
  obtain rfl := h.1
  obtain ⟨i0, hi, hz0, hz1, hz2⟩ := info_parts infoIntS
  obtain ⟨i1, hj, hy0, hy1, hy2⟩ := info_parts infoInt
  have S := Lib.hid h
  have HD := Lib.hid hD
  have hm8 := hD.m8
  have hn8 := hD.n8
  have hn1 := hD.n1
  clear h hD
  go_enter Try.func100, Try.ntmps100
  go_wp2
  go_loopw [4, 3] (fun i v wr => ∃ (k g c : Nat) (ps : List PIntS), k ≤ D.length ∧ i = .int .i64 k ∧ v = .slice (some ⟨g, 0, none⟩) k c ∧ ps.map PIntS.x = (gridOf D (st0 D)).take k ∧ RawIntS w.heap.size wr.heap.size wr (.slice (some ⟨g, 0, none⟩) k c) ps ∧ Below w.heap.size w wr) (fun i _ _ => D.length - (intOf i).toNat)
  case atStart => exact ⟨0, w.heap.size, 0, [], Nat.zero_le _, rfl, rfl, rfl, made_rows w, bel_al1 _ _⟩
  case round =>
    obtain ⟨k, g, c, ps, hk, rfl, rfl, hps, hraw, hbel⟩ := hrel
    have O := Lib.hid hraw
    have B := Lib.hid hbel
    have PS := Lib.hid hps
    have hsz := hbel.size
    have hgl := hraw.1.lt (b := g) rfl
    by_cases hlt : k < D.length
    · obtain ⟨b, o, b', o', c', ha, hb, hb', g0, hc1, hc2, g1⟩ := relief_row (S.out.below hbel) HD.out hlt
      subst ha
      have R0 := Lib.hid g0
      have R1 := Lib.hid g1
      have k0 : (0 : Int) ≤ (k : Int) := by omega
      have k1 : (k : Int) < (D.length : Int) := by omega
      have wk : IntKind.i64.wrap ((k : Int) + 1) = (k : Int) + 1 := IntWalk.i64_in _ (by omega)
      clear hraw hbel hps g1
      rename World => wk0
      go_wp2_with (refine wpList_make_full _ rfl _ _ 38 rfl wk0.heap.size 3 i1 (.int .i64 0) 1 Try.underlying38 hj hy0 hy1 .i64 .i64 _ _ (colsN D) rfl rfl rfl rfl (by rw [hy2]; omega) (by unfold maxLen; omega) (Nat.le_refl _) ?_; intro w1 hown1 hgrow1; rw [madeZ] at hown1; have BM := Lib.hid ((Below.refl wk0.heap.size wk0).grown hgrow1 (Nat.le_refl _) (fun k e => by cases e)); have OM := Lib.hid hown1; have hs1 := BM.out.size; clear hown1 hgrow1)
      go_loopw [6] (fun i wr => ∃ x : Nat, x ≤ colsN D ∧ i = .int .i64 x ∧ wr.ownsRow wk0.heap.size 3 1 (.slice (some ⟨wk0.heap.size, 0, none⟩) (colsN D) (colsN D)) (colsN D) (intCells (rowTo D k x)) ∧ Below wk0.heap.size wk0 wr) (fun i _ => colsN D - (intOf i).toNat)
      case atStart => exact ⟨0, Nat.zero_le _, rfl, by rw [rowTo_zero]; exact OM.out, BM.out⟩
      case round =>
        obtain ⟨x, hx, rfl, hown, hbel⟩ := hrel
        have OX := Lib.hid hown
        have BX := Lib.hid hbel
        by_cases hlx : x < colsN D
        · have f0 := hown.frozenAt x
          obtain ⟨u0, d0⟩ := own_cell hown x (by rw [intCells_len, rowTo_len]; omega)
          have q0 := cell_stay R0.out hbel
          have q1 := cell_stay (R1.out x hlx) hbel
          have hne1 : b' ≠ wk0.heap.size := by omega
          have hne2 : b ≠ wk0.heap.size := by omega
          have x0 : (0 : Int) ≤ (x : Int) := by omega
          have x1 : (x : Int) < (colsN D : Int) := by omega
          have wx : IntKind.i64.wrap ((x : Int) + 1) = (x : Int) + 1 := IntWalk.i64_in _ (by omega)
          have s1 := hown.stored x (.int .i64 10000)
          have s2 := s1.1.stored x (.int .i64 (hA D (k, x)))
          have EI := edge_iff D hlt hlx
          have ES := Lib.hid (show (nears D (k, x)).length < 4 → (wr.setCell ⟨wk0.heap.size, x, none⟩ (.int .i64 10000)).setCell ⟨wk0.heap.size, x, none⟩ (.int .i64 (hA D (k, x))) = (wr.setCell ⟨wk0.heap.size, x, none⟩ (.int .i64 10000)).setCell ⟨wk0.heap.size, x, none⟩ (.int .i64 (hA D (k, x))) ∧ ((wr.setCell ⟨wk0.heap.size, x, none⟩ (.int .i64 10000)).setCell ⟨wk0.heap.size, x, none⟩ (.int .i64 (hA D (k, x)))).ownsRow wk0.heap.size 3 1 (.slice (some ⟨wk0.heap.size, 0, none⟩) (colsN D) (colsN D)) (colsN D) (intCells (rowTo D k (x + 1))) ∧ Below wk0.heap.size wk0 ((wr.setCell ⟨wk0.heap.size, x, none⟩ (.int .i64 10000)).setCell ⟨wk0.heap.size, x, none⟩ (.int .i64 (hA D (k, x)))) from fun he => by
            refine ⟨rfl, ?_, ((BX.out).setCell (Nat.le_refl _) _).setCell (Nat.le_refl _) _⟩
            have h2 := s2.1
            rw [List.set_set, iset, show hA D (k, x) = st0 D (k, x) from by unfold st0; rw [if_pos he], rowTo_put] at h2
            rw [show hA D (k, x) = st0 D (k, x) from by unfold st0; rw [if_pos he]]
            exact h2)
          have NS := Lib.hid (show ¬ (nears D (k, x)).length < 4 → (wr.setCell ⟨wk0.heap.size, x, none⟩ (.int .i64 10000)).ownsRow wk0.heap.size 3 1 (.slice (some ⟨wk0.heap.size, 0, none⟩) (colsN D) (colsN D)) (colsN D) (intCells (rowTo D k (x + 1))) ∧ Below wk0.heap.size wk0 (wr.setCell ⟨wk0.heap.size, x, none⟩ (.int .i64 10000)) from fun he => by
            refine ⟨?_, (BX.out).setCell (Nat.le_refl _) _⟩
            have h2 := s1.1
            rw [iset, show (10000 : Int) = st0 D (k, x) from by unfold st0; rw [if_neg he], rowTo_put] at h2
            rw [show (10000 : Int) = st0 D (k, x) from by unfold st0; rw [if_neg he]]
            exact h2)
          clear hown hbel s1 s2
          by_cases e0 : k = 0
          · have c3 : ((k : Int) == (0 : Int)) = true := by simp; omega
            have EL := Lib.hid (ES.out (EI.2 (by omega)))
            clear ES NS EI e0
            go_wp2
            go_roundw
            case rel => exact ⟨x + 1, by omega, by go_num, EL.out.2.1, EL.out.2.2⟩
            case measure => simp [intOf]; omega
          have c3 : ((k : Int) == (0 : Int)) = false := by simp; omega
          by_cases e1 : x = 0
          · have c4 : ((x : Int) == (0 : Int)) = true := by simp; omega
            have EL := Lib.hid (ES.out (EI.2 (by omega)))
            clear ES NS EI e1
            go_wp2
            go_roundw
            case rel => exact ⟨x + 1, by omega, by go_num, EL.out.2.1, EL.out.2.2⟩
            case measure => simp [intOf]; omega
          have c4 : ((x : Int) == (0 : Int)) = false := by simp; omega
          by_cases e2 : k + 1 = D.length
          · have c5 : ((k : Int) + 1 == (D.length : Int)) = true := by simp; omega
            have EL := Lib.hid (ES.out (EI.2 (by omega)))
            clear ES NS EI e2
            go_wp2
            go_roundw
            case rel => exact ⟨x + 1, by omega, by go_num, EL.out.2.1, EL.out.2.2⟩
            case measure => simp [intOf]; omega
          have c5 : ((k : Int) + 1 == (D.length : Int)) = false := by simp; omega
          by_cases e3 : x + 1 = colsN D
          · have c6 : ((x : Int) + 1 == (colsN D : Int)) = true := by simp; omega
            have EL := Lib.hid (ES.out (EI.2 (by omega)))
            clear ES NS EI e3
            go_wp2
            go_roundw
            case rel => exact ⟨x + 1, by omega, by go_num, EL.out.2.1, EL.out.2.2⟩
            case measure => simp [intOf]; omega
          have c6 : ((x : Int) + 1 == (colsN D : Int)) = false := by simp; omega
          have NL := Lib.hid (NS.out (fun he => by have := EI.1 he; omega))
          clear ES NS EI
          go_wp2
          go_roundw
          case rel => exact ⟨x + 1, by omega, by go_num, NL.out.1, NL.out.2⟩
          case measure => simp [intOf]; omega
        · obtain rfl : x = colsN D := by omega
          have OM2 := Lib.hid OX.out
          have hs2 := BX.out.size
          clear hown hbel
          rename World => wl
          go_wp2_with (at_builtin; refine wpList_append_lies _ rfl _ _ 24 rfl w.heap.size 38 i0 (.slice none 0 0) 1 24 Try.underlying24 hi hz0 hz1 hz2 rfl (by decide) _ _ _ rfl (World.ownsRow.alloc (ownsRow_below O.out.row BX.out) _) ⟨_, 0, none⟩ 1 1 (PIntS.vals ⟨rowTo D k (colsN D), ⟨some ⟨wk0.heap.size, 0, none⟩, colsN D, colsN D⟩⟩) rfl rfl (cell_IntS _ ⟨rowTo D k (colsN D), ⟨some ⟨wk0.heap.size, 0, none⟩, colsN D, colsN D⟩⟩ _ _ rfl) (PIntS.vals_one _) (by decide) (by unfold maxLen; omega) (by omega) (by rw [size_al]; omega) _ rfl ?_; intro g4 cap4 w4 hown4 hgrow4 hg4 hlt4)
          have BA := Below.then' BX.out (bel_al1 wl (.cells #[.slice (some ⟨wk0.heap.size, 0, none⟩) (colsN D) (colsN D)] 38))
          have HM : HInts wk0.heap.size wl.heap.size wl ⟨some ⟨wk0.heap.size, 0, none⟩, colsN D, colsN D⟩ (rowTo D k (colsN D)) := by
            unfold HInts
            rw [rowTo_len]
            exact OwnIn.of_row OM2.out (Nat.le_refl _) (Nat.le_refl _)
          have HM2 := (HM.below (bel_al1 wl (.cells #[.slice (some ⟨wk0.heap.size, 0, none⟩) (colsN D) (colsN D)] 38))).mono (Nat.le_refl _) (bel_al1 wl (.cells #[.slice (some ⟨wk0.heap.size, 0, none⟩) (colsN D) (colsN D)] 38)).size
          have N4 := Lib.hid (O.out.snoc (p := ⟨rowTo D k (colsN D), ⟨some ⟨wk0.heap.size, 0, none⟩, colsN D, colsN D⟩⟩) hsz BA HM2 hown4 hgrow4 hg4)
          have B4 := Lib.hid ((Below.then' B.out BA).grown hgrow4 (Below.then' B.out BA).size (fun j e => by cases e; exact hgl.1))
          clear HM HM2 BA hown4 hgrow4 hg4
          go_roundw
          case rel => exact ⟨k + 1, g4, cap4, ps ++ [⟨rowTo D k (colsN D), ⟨some ⟨wk0.heap.size, 0, none⟩, colsN D, colsN D⟩⟩], by omega, by go_num, rfl, by rw [List.map_append, PS.out, gridOf_take D _ hlt, ← rowTo_all]; rfl, N4.out, B4.out⟩
          case measure => simp [intOf]; omega
    · obtain rfl : k = D.length := by omega
      have G := Lib.hid (show GridIn w.heap.size wr.heap.size wr g D.length c (gridOf D (st0 D)) from ⟨ps, by rw [PS.out, List.take_of_length_le (by rw [gridOf_len]; exact Nat.le_refl _)], O.out⟩)
      have M0 := Lib.hid (show Md D (st0 D) from md_start HD.out)
      clear hraw hbel hps O PS
      rename World => w2
      go_wp2
      go_loopg [7] (sumN (st0 D) (sqs D) + 1) (fun gm ch wr => ∃ (L : Sq → Int) (b : Bool), ch = .bool b ∧ gm = (if b = true then sumN L (sqs D) + 1 else 0) ∧ Md D L ∧ (b = false → ∀ p, inR D p → ∀ q ∈ nears D p, calm D L p q) ∧ GridIn w.heap.size w2.heap.size wr g D.length c (gridOf D L) ∧ Below w.heap.size w wr ∧ w2.heap.size ≤ wr.heap.size)
      case atStart => exact ⟨st0 D, true, rfl, rfl, M0.out, fun e => (nomatch e), G.out, B.out, Nat.le_refl _⟩
      case round =>
        obtain ⟨L0, b0, rfl, hgm, hmd, hcalm, hgr, hbel, hsw⟩ := hrel
        have GL := Lib.hid hgr
        have BL := Lib.hid hbel
        have MD := Lib.hid hmd
        have CA := Lib.hid hcalm
        have GM := Lib.hid hgm
        cases b0
        · have LV := (MD.out).done HD.out (fun p hp q hq => CA.out rfl p hp q hq)
          have GE := Lib.hid (show GridIn w.heap.size wr.heap.size wr g D.length c (gridOf D (lev D)) from by
            rw [← gridOf_congr (fun p hp => lev_eq HD.out LV hp)]
            exact hgr.mono (Nat.le_refl _) hsw)
          clear hgr hbel hmd hcalm hgm LV
          go_wp2
          go_ret
          exact ⟨_, _, rfl, GE.out, BL.out⟩
        · have P0 := Lib.hid (show Ps D L0 L0 false (∀ p ∈ sqsTo (colsN D) 0, ∀ q ∈ nears D p, calm D L0 p q) from ⟨MD.out, fun _ => ⟨rfl, fun p hp => by simp [sqsTo] at hp⟩, fun e => (nomatch e)⟩)
          clear hgr hbel hmd hcalm hgm
          rename World => w3
          go_wp2
          go_loopw [8, 7] (fun i ch wr => ∃ (k : Nat) (L : Sq → Int) (b : Bool), k ≤ D.length ∧ i = .int .i64 k ∧ ch = .bool b ∧ Ps D L0 L b (∀ p ∈ sqsTo (colsN D) k, ∀ q ∈ nears D p, calm D L0 p q) ∧ GridIn w.heap.size w2.heap.size wr g D.length c (gridOf D L) ∧ Below w.heap.size w wr ∧ w2.heap.size ≤ wr.heap.size) (fun i _ _ => D.length - (intOf i).toNat)
          case atStart => exact ⟨0, L0, false, Nat.zero_le _, rfl, rfl, P0.out, GL.out, BL.out, hsw⟩
          case round =>
            obtain ⟨k, L, bb, hk, rfl, rfl, hps, hgr, hbel, hsw⟩ := hrel
            have GK := Lib.hid hgr
            have BK := Lib.hid hbel
            have PK := Lib.hid hps
            by_cases hlt : k < D.length
            · have k0 : (0 : Int) ≤ (k : Int) := by omega
              have k1 : (k : Int) < (D.length : Int) := by omega
              clear hgr hbel hps
              rename World => w4
              go_wp2
              go_loopw [9, 7] (fun j ch wr => ∃ (x : Nat) (L : Sq → Int) (b : Bool), x ≤ colsN D ∧ j = .int .i64 x ∧ ch = .bool b ∧ Ps D L0 L b (∀ p ∈ sqsTo (colsN D) k ++ sqRow x k, ∀ q ∈ nears D p, calm D L0 p q) ∧ GridIn w.heap.size w2.heap.size wr g D.length c (gridOf D L) ∧ Below w.heap.size w wr ∧ w2.heap.size ≤ wr.heap.size) (fun j _ _ => colsN D - (intOf j).toNat)
              case atStart => exact ⟨0, L, bb, Nat.zero_le _, rfl, rfl, by rw [show sqRow 0 k = [] from rfl, List.append_nil]; exact PK.out, GK.out, BK.out, hsw⟩
              case round =>
                obtain ⟨x, L, bb, hx, rfl, rfl, hps, hgr, hbel, hsw'⟩ := hrel
                have GX := Lib.hid hgr
                have BX := Lib.hid hbel
                have PX := Lib.hid hps
                have SX := Lib.hid (S.out.below hbel)
                obtain ⟨b, o, b', o', c', ha, hb, hb', g0, hc1, hc2, g1⟩ := relief_row (S.out.below hbel) HD.out hlt
                subst ha
                by_cases hlx : x < colsN D
                · have u0 : (0 : Int) ≤ (x : Int) := by omega
                  have u1 : (x : Int) < (colsN D : Int) := by omega
                  clear hgr hbel g1 hps
                  go_wp2_with fail
                  refine (l9Near_any _ _ _ D k x _ SX.out HD.out hlt hlx).mono ?_
                  rintro e w5 ⟨v, rfl, hrun, hb4⟩
                  have G4 := Lib.hid (GX.out.below hb4)
                  have B4 := Lib.hid (Below.then' BX.out hb4)
                  have hs4 := hb4.size
                  have R4 := Lib.hid (hrun.base (base' := w2.heap.size) hsw')
                  obtain ⟨a5, c5, rfl, _⟩ := hrun.is
                  have HIN := Lib.hid (show inR D (k, x) from ⟨hlt, hlx⟩)
                  have RI := Lib.hid (fun (j : Nat) (q : Sq) (hq : (nears D (k, x))[j]? = some q) => nears_in HIN.out (List.mem_of_getElem? hq))
                  have RM := Lib.hid (fun (j : Nat) (q : Sq) (hq : (nears D (k, x))[j]? = some q) => (List.mem_of_getElem? hq : q ∈ nears D (k, x)))
                  have hnl := nears_len D (k, x)
                  have SM := Lib.hid (sq_more (colsN D) k x)
                  have P6 := Lib.hid (show Ps D L0 L bb ((∀ p ∈ sqsTo (colsN D) k ++ sqRow x k, ∀ q ∈ nears D p, calm D L0 p q) ∧ ∀ q ∈ (nears D (k, x)).take 0, calm D L0 (k, x) q) from PX.out.weaken (fun h => ⟨h, fun q hq => by simp at hq⟩))
                  have NE := Lib.hid (show ∀ L b, Ps D L0 L b ((∀ p ∈ sqsTo (colsN D) k ++ sqRow x k, ∀ q ∈ nears D p, calm D L0 p q) ∧ ∀ q ∈ (nears D (k, x)).take (nears D (k, x)).length, calm D L0 (k, x) q) → Ps D L0 L b (∀ p ∈ sqsTo (colsN D) k ++ sqRow (x + 1) k, ∀ q ∈ nears D p, calm D L0 p q) from fun L b h => h.weaken (fun h => by
                    rw [List.take_length] at h
                    rw [SM.out]
                    intro p hp q hq
                    rcases List.mem_append.1 hp with h1 | h1
                    · exact h.1 p h1 q hq
                    · rw [List.mem_singleton.1 h1] at hq ⊢
                      exact h.2 q hq))
                  obtain ⟨C5, hC5⟩ : ∃ C5 : Prop, (∀ p ∈ sqsTo (colsN D) k ++ sqRow x k, ∀ q ∈ nears D p, calm D L0 p q) = C5 := ⟨_, rfl⟩
                  rw [hC5] at P6 NE
                  have MH := Lib.hid (fun (L : Sq → Int) (b : Bool) (C C' : Prop) (h : Ps D L0 L b C) (q : Sq) (hq : q ∈ nears D (k, x)) (hl : max (hA D (k, x)) (L q) < L (k, x)) => h.hit (C' := C') HD.out HIN.out hq hl)
                  obtain ⟨N, hN⟩ : ∃ N, nears D (k, x) = N := ⟨_, rfl⟩
                  rw [hN] at R4 RI RM hnl P6 NE MH ⊢
                  clear hrun hb4 hN hC5 g0 PX SX
                  rename World => w5
                  go_wp2
                  go_loopw [11, 7] (fun i ch wr => ∃ (j : Nat) (L : Sq → Int) (b : Bool), j ≤ N.length ∧ i = .int .i64 j ∧ ch = .bool b ∧ Ps D L0 L b (C5 ∧ ∀ q ∈ N.take j, calm D L0 (k, x) q) ∧ GridIn w.heap.size w2.heap.size wr g D.length c (gridOf D L) ∧ SqRow w2.heap.size wr (.slice a5 N.length c5) N ∧ Below w.heap.size w wr ∧ w2.heap.size ≤ wr.heap.size) (fun i _ _ => N.length - (intOf i).toNat)
                  case atStart => exact ⟨0, L, bb, Nat.zero_le _, rfl, rfl, P6.out, G4.out, R4.out, B4.out, by omega⟩
                  case round =>
                    obtain ⟨j, L, bb, hj, rfl, rfl, hps, hgr, hrun, hbel, hsj⟩ := hrel
                    have GJ := Lib.hid hgr
                    have RJ := Lib.hid hrun
                    have BJ := Lib.hid hbel
                    have PJ := Lib.hid hps
                    by_cases hlj : j < N.length
                    · obtain ⟨q, hq⟩ : ∃ q, N[j]? = some q := ⟨N[j]'hlj, List.getElem?_eq_getElem _⟩
                      obtain ⟨b5, o5, e5, hb5, hat⟩ := hrun.isAt.2.at (by omega)
                      subst e5
                      obtain ⟨d0, d1⟩ := hat j (vsq q) (sqV_at hq)
                      have QI := RI.out j q hq
                      have QM := Lib.hid (RM.out j q hq)
                      have TK := Lib.hid (show N.take (j + 1) = N.take j ++ [q] from by rw [List.take_add_one, hq]; rfl)
                      obtain ⟨u, v⟩ := q
                      simp only [vsq] at d0 d1
                      obtain ⟨hu, hv⟩ := QI
                      simp only [] at hu hv
                      obtain ⟨b, o, b', o', c', ha, hb, hb', g0, hc1, hc2, g1⟩ := relief_row (S.out.below hbel) HD.out hlt
                      simp only [Option.some.injEq, Addr.mk.injEq, and_true] at ha
                      obtain ⟨rfl, rfl⟩ := ha
                      obtain ⟨b6, c6, e0, _, _, e1, _, _⟩ := hgr.sq hu (by omega)
                      have k4 := cell_regrown g0
                      have k5 := cell_regrown (g1 x hlx)
                      have k6 := cell_regrown e0
                      have k7 := cell_regrown (e1 v hv)
                      have k8 := cell_regrown d0
                      have k9 := cell_regrown d1
                      have hc6 := hrun.isAt.2.2.1
                      have hc7 := hrun.isAt.2.2.2.1
                      unfold maxLen at hc7
                      have i0' : (0 : Int) ≤ (j : Int) := by omega
                      have i1' : (j : Int) < (N.length : Int) := by omega
                      have s0 : (0 : Int) ≤ (u : Int) := by omega
                      have s1 : (u : Int) < (D.length : Int) := by omega
                      have v0 : (0 : Int) ≤ (v : Int) := by omega
                      have v1 : (v : Int) < (colsN D : Int) := by omega
                      have cM := below_at (W := wr) (fun W' _ => same_below (l9Most_any (hA D (k, x)) (L (u, v)) W'))
                      clear hgr hrun hbel hat hq e1 g1 d0 d1 g0 e0 hps
                      go_wp2
                      refine wp_region_quiet_below (by kernel_rfl) (by kernel_rfl) ?_
                      repeat (first | go_big_quiet_step (with_reducible exact cM _ _) | quiet_step (with_reducible exact cM _ _))
                      refine wpQuiet_nil ?_
                      intro W2 hw2
                      have bw := below_of_re hw2
                      have B5 := Lib.hid (Below.then' BJ.out bw)
                      have G5 := GJ.out.below bw
                      have R5 := Lib.hid (RJ.out.below bw)
                      have hs5 := bw.size
                      have PM := Lib.hid (fun (hl : max (hA D (k, x)) (L (u, v)) < L (k, x)) => MH.out L bb _ (C5 ∧ ∀ q ∈ N.take (j + 1), calm D L0 (k, x) q) PJ.out (u, v) QM.out hl)
                      have PN := Lib.hid (fun (hl : ¬ max (hA D (k, x)) (L (u, v)) < L (k, x)) => PJ.out.miss (C' := C5 ∧ ∀ q ∈ N.take (j + 1), calm D L0 (k, x) q) hl (fun h1 h2 => ⟨h1.1, fun q hq => by
                        rw [TK.out] at hq
                        rcases List.mem_append.1 hq with h3 | h3
                        · exact h1.2 q h3
                        · rw [List.mem_singleton.1 h3]; exact h2⟩))
                      obtain ⟨b7, c7, p0, _, hrng, p1, p2, hst⟩ := G5.sq hlt (by omega)
                      have p3 := p1 x hlx
                      have p4 := p2 x
                      have ST := Lib.hid (hst x (max (hA D (k, x)) (L (u, v))) hlx)
                      obtain ⟨m, hm'⟩ : ∃ m, max (hA D (k, x)) (L (u, v)) = m := ⟨_, rfl⟩
                      obtain ⟨z, hz⟩ : ∃ z, L (k, x) = z := ⟨_, rfl⟩
                      rw [hm'] at PM PN ST ⊢
                      rw [hz] at PM PN p3
                      have G6 := Lib.hid G5
                      clear hw2 bw cM k4 k5 k6 k7 k8 k9 hst p1 p2 hm' hz G5
                      by_cases hlo : m < z
                      · have PX := Lib.hid (PM.out hlo)
                        go_wp2
                        go_roundw
                        case rel =>
                          exact ⟨j + 1, _, true, by omega, by go_num, rfl, PX.out, ST.out.1, R5.out.grown ST.out.2 (fun k e => by cases e; omega), B5.out.setCell (by simp; omega) _, by have := ST.out.2.size; omega⟩
                        case measure => simp [intOf]; omega
                      · have PX := Lib.hid (PN.out hlo)
                        go_wp2
                        go_roundw
                        case rel => exact ⟨j + 1, L, bb, by omega, by go_num, rfl, PX.out, G6.out, R5.out, B5.out, by omega⟩
                        case measure => simp [intOf]; omega
                    · obtain rfl : j = N.length := by omega
                      have PX := Lib.hid (NE.out L bb PJ.out)
                      clear hgr hrun hbel hps
                      go_wp2
                      go_roundw
                      case rel => exact ⟨x + 1, L, bb, by omega, by go_num, rfl, PX.out, GJ.out, BJ.out, hsj⟩
                      case measure => simp [intOf]; omega
                · obtain rfl : x = colsN D := by omega
                  have PY := Lib.hid (show Ps D L0 L bb (∀ p ∈ sqsTo (colsN D) (k + 1), ∀ q ∈ nears D p, calm D L0 p q) from by rw [sqsTo_succ]; exact hps)
                  clear hgr hbel g1 hps
                  go_wp2
                  go_roundw
                  case rel => exact ⟨k + 1, L, bb, by omega, by go_num, rfl, PY.out, GX.out, BX.out, hsw'⟩
                  case measure => simp [intOf]; omega
            · obtain rfl : k = D.length := by omega
              clear hgr hbel hps
              go_wp2
              go_roundg (if bb = true then sumN L (sqs D) + 1 else 0)
              case rel => exact ⟨L, bb, rfl, rfl, PK.out.md, fun e p hp q hq => by rw [(PK.out.same e).1]; exact (PK.out.same e).2 p (mem_sqs.2 hp) q hq, GK.out, BK.out, hsw⟩
              case measure =>
                have h1 := GM.out
                simp at h1
                cases bb with
                | false => simp; omega
                | true => have := PK.out.less rfl; simp; omega
end Go.Proofs.Ytpnaciamnigbnaa
namespace Go.Proofs.Ytpnaciamnigbnaa
open Go.RowKit
def FilledRelief_Post (z0 : List VIntS) (w : World) (e : Ending) (w' : World) : Prop :=
  ∃ v0 : Value, e = .returned (.tuple #[v0, .bool (FilledRelief_1 z0)]) ∧ OwnIntSS w.heap.size w'.heap.size w' v0 (FilledRelief_0 z0) ∧ Below w.heap.size w w'
end Go.Proofs.Ytpnaciamnigbnaa
namespace Go.Proofs.Ytpnaciamnigbnaa
open Go.RowKit
def LakesOf_Post (z0 : List VIntS) (w : World) (e : Ending) (w' : World) : Prop :=
  e = .returned (.tuple #[.int .i64 (LakesOf_0 z0), .int .i64 (LakesOf_1 z0), .bool (LakesOf_2 z0)]) ∧ Below w.heap.size w w'
end Go.Proofs.Ytpnaciamnigbnaa
namespace Go.Proofs.Ytpnaciamnigbnaa
open Go.RowKit

set_option maxHeartbeats 6400000 in
set_option maxRecDepth 100000 in
theorem specLevelAt_any (a : Option Addr) (len cap : Nat) (D : List VIntS) (r c : Int) (w : World) (h : IsIntSS w a len cap D) (_ : condIntS D) :
    Calls Try.prog 43 #[.slice a len cap, .int .i64 r, .int .i64 c] w (LevelAt_Post D r c w) := by
  have S := Lib.hid h
  clear h
  obtain ⟨q, hq⟩ : ∃ q, hasB D r c = q := ⟨_, rfl⟩
  have Q := Lib.hid hq
  clear hq
  go_enter Try.func43, Try.ntmps43
  go_wp2_with fail
  refine (l9Square_any _ _ _ D r c _ S.out).mono ?_
  rintro e w1 ⟨rfl, hb⟩
  rw [Q.out]
  have B1 := Lib.hid hb
  have S1 := Lib.hid (S.out.below hb)
  clear hb
  cases q
  · have P := Lib.hid (show LevelAt_0 D r c = 0 ∧ LevelAt_1 D r c = false from by unfold LevelAt_0 LevelAt_1; rw [Q.out]; exact ⟨rfl, rfl⟩)
    go_wp2
    go_ret2
    exact ⟨by rw [P.out.1, P.out.2]; rfl, B1.out⟩
  obtain ⟨hD, p, hp, e1, e2⟩ := hasB_yes Q.out
  subst e1
  subst e2
  have SZ := Lib.hid (sqZ_nat p)
  obtain ⟨x, y⟩ := p
  obtain ⟨hx, hy⟩ := hp
  simp only [] at SZ Q hx hy ⊢
  have P := Lib.hid (show LevelAt_0 D (x : Int) (y : Int) = lev D (x, y) ∧ LevelAt_1 D (x : Int) (y : Int) = true from by unfold LevelAt_0 LevelAt_1; rw [Q.out, SZ.out]; exact ⟨rfl, rfl⟩)
  have x0 : (0 : Int) ≤ (x : Int) := by omega
  have x1 : (x : Int) < (D.length : Int) := by omega
  have y0 : (0 : Int) ≤ (y : Int) := by omega
  have y1 : (y : Int) < (colsN D : Int) := by omega
  go_wp2_with fail
  refine (l9Levels_any _ _ _ D _ S1.out hD).mono ?_
  rintro e w2 ⟨g, cg, rfl, hg, hb⟩
  have B2 := Lib.hid (Below.then' B1.out hb)
  obtain ⟨b, cb, e0, _, _, e1, _, _⟩ := hg.sq hx (by omega)
  have e2 := e1 y hy
  clear hb hg e1
  go_wp2
  go_ret2
  exact ⟨by rw [P.out.1, P.out.2]; rfl, B2.out⟩
set_option maxHeartbeats 6400000 in
set_option maxRecDepth 100000 in
theorem specFilledRelief_any (a : Option Addr) (len cap : Nat) (D : List VIntS) (w : World) (h : IsIntSS w a len cap D) (_ : condIntS D) :
    Calls Try.prog 36 #[.slice a len cap] w (FilledRelief_Post D w) := by
  have S := Lib.hid h
  clear h
  obtain ⟨q, hq⟩ : ∃ q, rlB D = q := ⟨_, rfl⟩
  have Q := Lib.hid hq
  clear hq
  go_enter Try.func36, Try.ntmps36
  go_wp2_with fail
  refine (l9Good_any _ _ _ D _ S.out).mono ?_
  rintro e w1 ⟨rfl, hb⟩
  rw [Q.out]
  have B1 := Lib.hid hb
  have S1 := Lib.hid (S.out.below hb)
  clear hb
  cases q
  · have P := Lib.hid (show FilledRelief_0 D = [] ∧ FilledRelief_1 D = false from by unfold FilledRelief_0 FilledRelief_1; rw [Q.out]; exact ⟨rfl, rfl⟩)
    go_wp2
    go_ret2
    exact ⟨_, by rw [P.out.2]; rfl, by rw [P.out.1]; exact ⟨[], rfl, (made_rows w1).mono B1.out.size (Nat.le_refl _)⟩, Below.then' B1.out (bel_al1 _ _)⟩
  have HD := Lib.hid (rlB_iff.1 Q.out)
  have P := Lib.hid (show FilledRelief_0 D = gridOf D (lev D) ∧ FilledRelief_1 D = true from by unfold FilledRelief_0 FilledRelief_1; rw [Q.out]; exact ⟨rfl, rfl⟩)
  go_wp2_with fail
  refine (l9Levels_any _ _ _ D _ S1.out HD.out).mono ?_
  rintro e w2 ⟨g, cg, rfl, hg, hb⟩
  have G2 := Lib.hid hg
  have B2 := Lib.hid hb
  clear hb hg
  go_wp2
  go_ret2
  exact ⟨_, by rw [P.out.2]; rfl, by rw [P.out.1]; exact (G2.out.own).mono B1.out.size (Nat.le_refl _), Below.then' B1.out B2.out⟩
theorem lake_snoc (D : List VIntS) (L : Sq → Int) (l : List Sq) (p : Sq) (s : Int × Int) : (l ++ [p]).foldl (lakeS D L) s = lakeS D L (l.foldl (lakeS D L) s) p := by simp
theorem lev_bd {D : List VIntS} (hD : RL D) {p : Sq} (hp : inR D p) : hA D p ≤ lev D p ∧ lev D p ≤ 9999 := ⟨(lev_is hD).low p hp, (lev_is hD).top p hp⟩
set_option maxHeartbeats 12800000 in
set_option maxRecDepth 100000 in
theorem specLakesOf_any (a : Option Addr) (len cap : Nat) (D : List VIntS) (w : World) (h : IsIntSS w a len cap D) (_ : condIntS D) :
    Calls Try.prog 39 #[.slice a len cap] w (LakesOf_Post D w) := by
  have hm := h.2.2.1
  have hcl := h.2.1
  unfold maxLen at hm
  obtain rfl := h.1
  have S := Lib.hid h
  clear h
  obtain ⟨q, hq⟩ : ∃ q, rlB D = q := ⟨_, rfl⟩
  have Q := Lib.hid hq
  clear hq
  go_enter Try.func39, Try.ntmps39
  go_wp2_with fail
  refine (l9Good_any _ _ _ D _ S.out).mono ?_
  rintro e w1 ⟨rfl, hb⟩
  rw [Q.out]
  have B1 := Lib.hid hb
  have S1 := Lib.hid (S.out.below hb)
  clear hb
  cases q
  · have P := Lib.hid (show LakesOf_0 D = 0 ∧ LakesOf_1 D = 0 ∧ LakesOf_2 D = false from by unfold LakesOf_0 LakesOf_1 LakesOf_2; rw [Q.out]; exact ⟨rfl, rfl, rfl⟩)
    go_wp2
    go_ret3
    exact ⟨by rw [P.out.1, P.out.2.1, P.out.2.2]; rfl, B1.out⟩
  have HD := Lib.hid (rlB_iff.1 Q.out)
  have hm8 := HD.out.m8
  have hn8 := HD.out.n8
  have hn1 := HD.out.n1
  have P := Lib.hid (show LakesOf_0 D = ((sqsTo (colsN D) D.length).foldl (lakeS D (lev D)) (0, 0)).1 ∧ LakesOf_1 D = ((sqsTo (colsN D) D.length).foldl (lakeS D (lev D)) (0, 0)).2 ∧ LakesOf_2 D = true from by unfold LakesOf_0 LakesOf_1 LakesOf_2; rw [Q.out]; exact ⟨rfl, rfl, rfl⟩)
  go_wp2_with fail
  refine (l9Levels_any _ _ _ D _ S1.out HD.out).mono ?_
  rintro e w2 ⟨g, cg, rfl, hg, hb⟩
  have B2 := Lib.hid (Below.then' B1.out hb)
  have S2 := Lib.hid (S1.out.below hb)
  have G2 := Lib.hid hg
  have hcg := hg.head.2.2.2.2
  unfold maxLen at hcg
  have LB := Lib.hid (fun l (hl : ∀ p ∈ l, inR D p) => lake_bd HD.out (fun p hp => (lev_bd HD.out hp).2) l hl (0, 0) 0 ⟨Int.le_refl _, Int.le_refl _, Int.le_refl _, Int.le_refl _⟩)
  clear hg hb
  go_wp2
  go_loopw [8, 6, 7] (fun i n s wr => ∃ k : Nat, k ≤ D.length ∧ i = .int .i64 k ∧ n = .int .i64 ((sqsTo (colsN D) k).foldl (lakeS D (lev D)) (0, 0)).1 ∧ s = .int .i64 ((sqsTo (colsN D) k).foldl (lakeS D (lev D)) (0, 0)).2 ∧ Below w2.heap.size w2 wr) (fun i _ _ _ => D.length - (intOf i).toNat)
  case atStart => exact ⟨0, Nat.zero_le _, rfl, rfl, rfl, Below.refl _ _⟩
  case round =>
    obtain ⟨k, hk, rfl, rfl, rfl, hbel⟩ := hrel
    have B := Lib.hid hbel
    by_cases hlt : k < D.length
    · have k0 : (0 : Int) ≤ (k : Int) := by omega
      have k1 : (k : Int) < (D.length : Int) := by omega
      clear hbel
      rename World => w0
      go_wp2
      go_loopw [9, 6, 7] (fun j n s wr => ∃ c : Nat, c ≤ colsN D ∧ j = .int .i64 c ∧ n = .int .i64 ((sqsTo (colsN D) k ++ sqRow c k).foldl (lakeS D (lev D)) (0, 0)).1 ∧ s = .int .i64 ((sqsTo (colsN D) k ++ sqRow c k).foldl (lakeS D (lev D)) (0, 0)).2 ∧ Below w2.heap.size w2 wr) (fun j _ _ _ => colsN D - (intOf j).toNat)
      case atStart => exact ⟨0, Nat.zero_le _, rfl, by rw [show sqRow 0 k = [] from rfl, List.append_nil], by rw [show sqRow 0 k = [] from rfl, List.append_nil], B.out⟩
      case round =>
        obtain ⟨c, hc, rfl, rfl, rfl, hbel⟩ := hrel
        have BI := Lib.hid hbel
        obtain ⟨b, o, b', o', c', ha, hb, hb', g0, hc1, hc2, g1⟩ := relief_row (S2.out.below hbel) HD.out hlt
        subst ha
        by_cases hlc : c < colsN D
        · have RS := Lib.hid (lake_snoc D (lev D) (sqsTo (colsN D) k ++ sqRow c k) (k, c) (0, 0))
          rw [← sq_more] at RS
          have bd := LB.out _ (sq_part hlt (Nat.le_of_lt hlc))
          have hsl := sq_le (c := c) (Nat.le_trans (Nat.le_of_lt hlt) hm8) hn8 (Nat.le_of_lt hlc)
          obtain ⟨G, hG⟩ : ∃ G, (sqsTo (colsN D) k ++ sqRow c k).foldl (lakeS D (lev D)) (0, 0) = G := ⟨_, rfl⟩
          rw [hG] at RS bd ⊢
          obtain ⟨n, s⟩ := G
          simp only [] at bd ⊢
          generalize (sqsTo (colsN D) k ++ sqRow c k).length = ll at bd hsl
          obtain ⟨b1, c1, p0, _, _, p1, _, _⟩ := (G2.out.below hbel).sq hlt (by omega)
          have p2 := p1 c hlc
          have g2 := g1 c hlc
          have lb := lev_bd HD.out (show inR D (k, c) from ⟨hlt, hlc⟩)
          obtain ⟨_, _, _, _, y0, y1⟩ := HD.out.at (show inR D (k, c) from ⟨hlt, hlc⟩)
          have RZ := Lib.hid (show (sqsTo (colsN D) k ++ sqRow (c + 1) k).foldl (lakeS D (lev D)) (0, 0) = if 0 < lev D (k, c) - hA D (k, c) then (n + 1, s + (lev D (k, c) - hA D (k, c))) else (n, s) from RS.out)
          obtain ⟨z1, hz1⟩ : ∃ z, lev D (k, c) = z := ⟨_, rfl⟩
          obtain ⟨z2, hz2⟩ : ∃ z, hA D (k, c) = z := ⟨_, rfl⟩
          rw [hz1] at lb p2
          rw [hz2] at lb g2 y0 y1
          rw [hz1, hz2] at RZ
          have u0 : (0 : Int) ≤ (c : Int) := by omega
          have u1 : (c : Int) < (colsN D : Int) := by omega
          have w1' : IntKind.i64.wrap (z1 - z2) = z1 - z2 := IntWalk.i64_in _ (by omega)
          have w2' : IntKind.i64.wrap (n + 1) = n + 1 := IntWalk.i64_in _ (by omega)
          have w3' : IntKind.i64.wrap (s + (z1 - z2)) = s + (z1 - z2) := IntWalk.i64_in _ (by omega)
          clear hbel hG p1 g1 hz1 hz2
          go_wp2
          go_quiet (fail)
          have B4 := Lib.hid (Below.then' BI.out (bel_drawn wr nq))
          clear p0 p2 g0 g2
          obtain ⟨d, hd⟩ : ∃ d, z1 - z2 = d := ⟨_, rfl⟩
          rw [hd] at RZ w3' ⊢
          clear w1'
          by_cases hlo : 0 < d
          · rw [if_pos hlo] at RZ
            go_wp2
            go_roundw
            case rel => exact ⟨c + 1, by omega, by go_num, by rw [RZ.out], by rw [RZ.out], B4.out⟩
            case measure => simp [intOf]; omega
          · rw [if_neg hlo] at RZ
            go_wp2
            go_roundw
            case rel => exact ⟨c + 1, by omega, by go_num, by rw [RZ.out], by rw [RZ.out], B4.out⟩
            case measure => simp [intOf]; omega
        · obtain rfl : c = colsN D := by omega
          rw [← sqsTo_succ]
          clear hbel g1
          go_wp2
          go_roundw
          case rel => exact ⟨k + 1, by omega, by go_num, rfl, rfl, BI.out⟩
          case measure => simp [intOf]; omega
    · obtain rfl : k = D.length := by omega
      clear hbel
      go_wp2
      go_ret3
      exact ⟨by rw [P.out.1, P.out.2.1, P.out.2.2]; rfl, Below.then' B2.out B.out⟩
end Go.Proofs.Ytpnaciamnigbnaa
