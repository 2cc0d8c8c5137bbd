/- Texts in one: IntA2Mm, Ord, PitsOfP, Wi7, SteepestSquareP, Wi8, Arr, Wi9. -/
import Derived.Test.YtpnaciamnigbnaaM4
import Derived.Test.YtpnaciamnigbnaaM5
import Derived.Test.YtpnaciamnigbnaaM2
import Derived.Laws.StructEq
import Derived.StillTailTactics
import Derived.Test.YtpnaciamnigbnaaM1
import Derived.Lib.Small
import Derived.Sort.Grow
import Derived.Test.YtpnaciamnigbnaaM3
import Derived.Deep.MidRow
namespace Go.Proofs.Ytpnaciamnigbnaa
open Go.RowKit
def zeroIntA2 : VIntA2 := ⟨0, 0⟩
set_option maxHeartbeats 6400000 in
set_option maxRecDepth 100000 in
theorem maxFuncIntA2_any (K : FuncId) (caps : Array Value) (cf : VIntA2 → VIntA2 → Int) (a : Option Addr) (len cap : Nat) (ys : List VIntA2) (w : World) (h : IsIntA2S w a len cap ys) (h0 : 0 < len)
    (hcall : ∀ args W, (callFunc K args).run Try.prog W = .ok (.enter K args) W)
    (hf : ∀ W x m, x ∈ ys → m ∈ ys → Below w.heap.size w W → Calls Try.prog K (#[.agg #[.int .i64 x.E0, .int .i64 x.E1], .agg #[.int .i64 m.E0, .int .i64 m.E1]] ++ caps) W fun e w' => e = .returned (.int .i64 (cf x m)) ∧ Below W.heap.size W w') :
    Calls Try.prog 133 #[.slice a len cap, .func (.func K) #[] caps] w fun e w' => (∃ s, s = pickB (fun x m => decide (0 < cf x m)) zeroIntA2 ys ∧ e = .returned (.agg #[.int .i64 s.E0, .int .i64 s.E1])) ∧ Below w.heap.size w w' := by
  have hm := h.2.2.1
  have hcl := h.2.1
  unfold maxLen at hm
  have S := Lib.hid h
  have L := Lib.hid h.1
  have F := Lib.hid hf
  obtain ⟨b, o, rfl, hb0, hat0⟩ := h.at h0
  obtain ⟨s0, hs0⟩ := list_atIntA2 L h0
  have AT := Lib.hid (hat0 0 s0 hs0)
  have X0 := Lib.hid hs0
  have Z0 := Lib.hid ((HBIntA2.new w zeroIntA2 _ rfl).alloc (.cells #[.int .i64 s0.E0, .int .i64 s0.E1] 34))
  have Z1 := Lib.hid (HBIntA2.new (w.alloc (.cells #[.int .i64 zeroIntA2.E0, .int .i64 zeroIntA2.E1] 34)) s0 (w.heap.size + 1) (size_al _ _))
  have B0 := Lib.hid (bel_al2 w (.cells #[.int .i64 zeroIntA2.E0, .int .i64 zeroIntA2.E1] 34) (.cells #[.int .i64 s0.E0, .int .i64 s0.E1] 34))
  obtain ⟨c0, c1⟩ := (AT.out).below (bel_al1 w (.cells #[.int .i64 0, .int .i64 0] 34)) hb0
  have hl1 : ¬ (len : Int) < 1 := by omega
  have hl2 : (0 : Int) < (len : Int) := by omega
  simp only [Nat.zero_mul, Nat.add_zero] at c0 c1
  obtain ⟨P, hP⟩ : ∃ P, (fun x m => decide (0 < cf x m)) = P := ⟨_, rfl⟩
  rw [hP]
  have HP := Lib.hid (show ∀ x m, decide (0 < cf x m) = P x m from fun x m => by rw [← hP])
  clear h hf hat0 hs0 hP
  go_enter Try.func133, Try.ntmps133
  go_wp2
  go_loopw [6] (fun i wr => ∃ k : Nat, 0 < k ∧ k ≤ len ∧ i = .int .i64 k ∧ HBIntA2 wr w.heap.size zeroIntA2 ∧ HBIntA2 wr (w.heap.size + 1) (pickB P zeroIntA2 (ys.take k)) ∧ Below w.heap.size w wr) (fun i _ => len - (intOf i).toNat)
  case atStart => exact ⟨1, by omega, by omega, rfl, Z0.out, by rw [take_one (k := 0) X0.out]; exact Z1.out, B0.out⟩
  case round =>
    obtain ⟨k, hk0, hk, rfl, hz0, hz1, hbel⟩ := hrel
    have BR := Lib.hid hbel
    have H0 := Lib.hid hz0
    have H1 := Lib.hid hz1
    clear c0 c1
    by_cases hlt : k < len
    · obtain ⟨x, hx⟩ := list_atIntA2 L hlt
      obtain ⟨b', o', e', hb, hat⟩ := (S.out.below hbel).at (by omega)
      cases e'
      obtain ⟨c0, c1⟩ := hat k x hx
      have AX := Lib.hid (hat k x hx)
      have hi0 : (0 : Int) ≤ (k : Int) := by omega
      have hi1 : (k : Int) < (len : Int) := by omega
      have PT := Lib.hid (pickB_take P zeroIntA2 hk0 hx)
      have MX := Lib.hid (List.mem_of_getElem? hx)
      have MM := Lib.hid (List.mem_of_mem_take (pickB_mem P zeroIntA2 (ys := ys) k hk0 (by have := L.out; omega)))
      obtain ⟨m, hm⟩ : ∃ m, pickB P zeroIntA2 (ys.take k) = m := ⟨_, rfl⟩
      rw [hm] at H1 PT MM
      obtain ⟨d0, d1⟩ := H1.out.cells
      have PX := Lib.hid (HP.out x m)
      obtain ⟨v, hv⟩ : ∃ v, cf x m = v := ⟨_, rfl⟩
      rw [hv] at PX
      have VV := Lib.hid hv
      clear hbel hz0 hz1 hat hx hm hv
      go_wp2_with fail
      go_still_tail 6, (by kernel_rfl)
      change wpList _ _ _ _ _ wr.drew
      go_wp2_with fail
      refine (F.out wr.drew x m MX.out MM.out (bel_drew' BR.out)).mono ?_
      rintro e w1 ⟨rfl, hb1⟩
      rw [VV.out]
      have B1 := Lib.hid (Below.then' (bel_drew' BR.out) hb1)
      have Y1 := H1.out.drew.below hb1
      have Y0 := Lib.hid (H0.out.drew.below hb1)
      have hbx : Below wr.heap.size wr w1 := Below.then' (bel_drew' (Below.refl _ _)) hb1
      have A1 := Lib.hid (AX.out.below hbx hb)
      have Y2 := Lib.hid Y1
      clear c0 c1 d0 d1 hb1 hbx
      by_cases hvn : 0 < v
      · have PY := Lib.hid (show pickB P zeroIntA2 (ys.take (k + 1)) = x by rw [PT.out, ← PX.out, decide_eq_true hvn]; rfl)
        obtain ⟨c0, c1⟩ := A1.out
        have e0 := Y1.free 0
        have e1 := Y1.free 1
        obtain ⟨f0, f1⟩ := Y1.cells
        clear Y1
        go_wp2
        go_roundw
        case rel => exact ⟨k + 1, by omega, by omega, by go_num, Y0.out.otherAll (by omega) _ _, by rw [PY.out]; exact Y2.out.setAll x, ((B1.out).setCell (by simp) _).setCell (by simp) _⟩
        case measure => simp [intOf]; omega
      · have PY := Lib.hid (show pickB P zeroIntA2 (ys.take (k + 1)) = m by rw [PT.out, ← PX.out, decide_eq_false hvn]; rfl)
        clear Y1
        go_wp2
        go_roundw
        case rel => exact ⟨k + 1, by omega, by omega, by go_num, Y0.out, by rw [PY.out]; exact Y2.out, B1.out⟩
        case measure => simp [intOf]; omega
    · obtain rfl : k = len := by omega
      have E : ys.take k = ys := List.take_of_length_le (by have := L.out; omega)
      rw [E] at H1
      obtain ⟨r, hr⟩ : ∃ r, pickB P zeroIntA2 ys = r := ⟨_, rfl⟩
      rw [hr] at H1
      have R := Lib.hid hr
      clear hbel hz0 hz1 E hr
      obtain ⟨d0, d1⟩ := H1.out.cells
      have ZW := Lib.hid (H0.out.setAll r)
      obtain ⟨z0, z1⟩ := H0.out.cells
      have f0 := H0.out.free 0
      have f1 := H0.out.free 1
      go_wp2
      refine bodyPost_ret (resultsIntA21 rfl rfl ZW.out) rfl ⟨⟨r, R.out.symm, rfl⟩, ?_⟩
      exact ((BR.out).setCell (by simp) _).setCell (by simp) _
end Go.Proofs.Ytpnaciamnigbnaa
namespace Go.Proofs.Ytpnaciamnigbnaa
open Go.RowKit

theorem isNaN_any (x : Int) (w : World) : Calls Try.prog 154 #[.int .i64 x] w fun e w' => e = .returned (.bool false) ∧ w = w' := by
  go_enter Try.func154, Try.ntmps154
  go_wp2
  go_ret
  exact ⟨by first | rfl | simp, rfl⟩
set_option maxHeartbeats 800000 in
theorem compare_any (x y : Int) (w : World) : Calls Try.prog 135 #[.int .i64 x, .int .i64 y] w fun e w' => e = .returned (.int .i64 (Lib.compareInt x y)) ∧ w = w' := by
  by_cases h1 : x < y
  · go_enter Try.func135, Try.ntmps135
    go_wp2_with (go_at_call 154; refine (isNaN_any _ _).mono ?_; rintro e w' ⟨rfl, rfl⟩)
    go_ret
    exact ⟨ret_int (by unfold Lib.compareInt; rw [if_pos h1]), rfl⟩
  · by_cases h2 : y < x
    · go_enter Try.func135, Try.ntmps135
      go_wp2_with (go_at_call 154; refine (isNaN_any _ _).mono ?_; rintro e w' ⟨rfl, rfl⟩)
      go_ret
      exact ⟨ret_int (by unfold Lib.compareInt; rw [if_neg (by omega), if_pos (by omega)]), rfl⟩
    · go_enter Try.func135, Try.ntmps135
      go_wp2_with (go_at_call 154; refine (isNaN_any _ _).mono ?_; rintro e w' ⟨rfl, rfl⟩)
      go_ret
      exact ⟨ret_int (by unfold Lib.compareInt; rw [if_neg (by omega), if_neg (by omega)]), rfl⟩
theorem grown2 (w : World) (o1 o2 : Obj) : ∃ os, (w.alloc o1).alloc o2 = Sort.grow w os := ⟨#[o1] ++ #[o2], by rw [Sort.alloc_eq_grow, Sort.alloc_eq_grow, Sort.grow_grow]⟩
end Go.Proofs.Ytpnaciamnigbnaa
namespace Go.Proofs.Ytpnaciamnigbnaa
open Go.RowKit
def PitsOf_Post (z0 : List VIntS) (w : World) (e : Ending) (w' : World) : Prop :=
  ∃ v0 : Value, e = .returned (.tuple #[v0, .bool (PitsOf_1 z0)]) ∧ OwnIntA2S w.heap.size w'.heap.size w' v0 (PitsOf_0 z0) ∧ Below w.heap.size w w'
end Go.Proofs.Ytpnaciamnigbnaa
namespace Go.Proofs.Ytpnaciamnigbnaa
open Go.RowKit

set_option maxHeartbeats 3200000 in
theorem pitFn_any (a : Option Addr) (len cap : Nat) (D : List VIntS) (b : Nat) (r c : Nat) (w : World) (h : IsIntSS w a len cap D) (hb : w.cell? ⟨b, 0, none⟩ = some (.slice a len cap)) (hD : RL D) (hr : r < D.length) (hc : c < colsN D) :
    Calls Try.prog 89 #[.agg #[.int .i64 (r : Int), .int .i64 (c : Int)], .pointer (some ⟨b, 0, none⟩)] w fun e w' => e = .returned (.bool (!(pitB D (r, c)))) ∧ Below w.heap.size w w' := by
  have b0 := bel_al1 w (.cells #[.int .i64 (r : Int), .int .i64 (c : Int)] 34)
  have g0 := cell_stay hb b0
  have S := Lib.hid (h.below b0)
  have B0 := Lib.hid b0
  obtain ⟨c0, c1⟩ := (BoxIntA2.new w 34 ⟨(r : Int), (c : Int)⟩ _ rfl)
  simp only [] at c0 c1
  clear b0 h hb
  go_enter Try.func89, Try.ntmps89
  go_wp2_with fail
  refine (nextSquare_any _ _ _ D r c _ S.out hD hr hc).mono ?_
  rintro e w1 ⟨rfl, hb⟩
  have B1 := Lib.hid (Below.then' B0.out hb)
  have B2 := Lib.hid (Below.then' B1.out (bel_al1 w1 (.cells #[.int .i64 ((nextSq D (r, c)).1 : Int), .int .i64 ((nextSq D (r, c)).2 : Int)] 34)))
  clear hb c0 c1 g0
  go_wp2
  go_ret
  exact ⟨rfl, B2.out⟩
def sqO (s : VIntA2) : Sq := (s.E0.toNat, s.E1.toNat)
theorem sqO_vsq (p : Sq) : sqO (vsq p) = p := by
  obtain ⟨a, b⟩ := p
  simp [sqO, vsq]
theorem mem_sqV {l : List Sq} {s : VIntA2} (h : s ∈ sqV l) : ∃ p ∈ l, s = vsq p := by
  simp only [sqV, List.mem_map] at h
  obtain ⟨p, hp, e⟩ := h
  exact ⟨p, hp, e.symm⟩
theorem filter_sqV (f : Sq → Bool) (l : List Sq) : (sqV l).filter (fun s => f (sqO s)) = sqV (l.filter f) := by
  induction l with
  | nil => rfl
  | cons x l ih =>
    simp only [sqV, List.map_cons, List.filter_cons, sqO_vsq] at ih ⊢
    split
    · rw [ih, List.map_cons]
    · exact ih
theorem SqRow.head {base : Nat} {w : World} {v : Value} {l : List Sq} (h : SqRow base w v l) (hl : 0 < l.length) : ∃ g c, v = .slice (some ⟨g, 0, none⟩) (sqV l).length c := by
  rcases h.2 with ⟨_, h0⟩ | ⟨g, cap, cur, e, _⟩
  · omega
  · exact ⟨g, cap, by rw [e, sqV_len]⟩
set_option maxHeartbeats 6400000 in
set_option maxRecDepth 100000 in
theorem implPitsOf_any (a : Option Addr) (len cap : Nat) (D : List VIntS) (w : World) (h : IsIntSS w a len cap D) :
    Calls Try.prog 24 #[.slice a len cap] w (PitsOf_Post D w) := by
  have b0 := bel_al1 w (.cells #[.slice a len cap] 24)
  have g0 := cell_box w (.slice a len cap) 24 _ rfl
  have S := Lib.hid (h.below b0)
  have B0 := Lib.hid b0
  have G0 := Lib.hid g0
  clear h b0
  obtain ⟨q, hq⟩ : ∃ q, rlB D = q := ⟨_, rfl⟩
  have Q := Lib.hid hq
  clear hq
  go_enter Try.func24, Try.ntmps24
  go_wp2_with fail
  refine (implIsRelief_any _ _ _ D _ S.out).mono ?_
  rintro e w1 ⟨rfl, hb⟩
  rw [show IsRelief_0 D = q from Q.out]
  have B1 := Lib.hid (Below.then' B0.out hb)
  have S1 := Lib.hid (S.out.below hb)
  have g1 := cell_stay G0.out hb
  have G1 := Lib.hid g1
  clear hb g0
  cases q
  · have P0 := Lib.hid (show PitsOf_0 D = [] from by unfold PitsOf_0; rw [Q.out]; rfl)
    go_wp2
    go_ret2
    exact ⟨_, by rw [show PitsOf_1 D = false from Q.out]; rfl, by rw [P0.out]; exact nil_OwnIntA2S _ _ _, B1.out⟩
  have hD := rlB_iff.1 Q.out
  have HD := Lib.hid hD
  clear hD
  have P0 := Lib.hid (show PitsOf_0 D = sqV ((sqs D).filter (pitB D)) from by unfold PitsOf_0; rw [Q.out]; rfl)
  go_wp2_with fail
  refine (reliefSquares_any _ _ _ D _ S1.out HD.out).mono ?_
  rintro e w2 ⟨v, rfl, hown, hb⟩
  have B2 := Lib.hid hb
  have hmf : ∀ (fn : Fn) (first cap : Array Value) (w : World), (Instr.makeFunc fn first cap).run Try.prog w = .ok (.func fn first cap) w := fun _ _ _ _ => rfl
  obtain ⟨l, hl⟩ := sqs_head HD.out
  obtain ⟨g, c, rfl⟩ := hown.head (by rw [hl]; simp)
  have O2 := Lib.hid hown.own
  clear hown hb g1 hl
  go_wp2_with fail
  refine (delIntA2_any 89 #[.pointer (some ⟨w.heap.size, 0, none⟩)] (fun s => !(pitB D (sqO s))) w1.heap.size g c (sqV (sqs D)) _ O2.out B2.out.size (enters_fn' Try.func89 (by kernel_rfl) (by kernel_rfl)) (fun W s hs hW => by
    obtain ⟨p, hp, rfl⟩ := mem_sqV hs
    have hbw : Below w1.heap.size w1 W := B2.out.trans hW
    rw [sqO_vsq]
    obtain ⟨x, y⟩ := p
    have hp2 := mem_sqs.1 hp
    have h1 := pitFn_any a len cap D w.heap.size x y W (S1.out.below hbw) (cell_stay G1.out hbw) HD.out hp2.1 hp2.2
    simpa [vsq] using h1)).mono ?_
  rintro e w3 ⟨rfl, hown, hb⟩
  have E := Lib.hid (show ((sqV (sqs D)).filter fun s => !(!(pitB D (sqO s)))) = sqV ((sqs D).filter (pitB D)) from by
    rw [← filter_sqV]
    congr 1
    funext s
    simp)
  rw [E.out] at hown
  rw [E.out]
  have hbw : Below w1.heap.size w1 w3 := B2.out.trans hb
  have O3 := Lib.hid (OwnIn.of_row hown (lo := w.heap.size) (hi := w3.heap.size) B1.out.size (Nat.le_refl _))
  have B3 := Lib.hid (Below.then' B1.out hbw)
  clear hown hb hbw hmf
  go_wp2
  go_ret2
  exact ⟨_, by rw [show PitsOf_1 D = true from Q.out]; rfl, by rw [P0.out]; exact O3.out, B3.out⟩
set_option maxHeartbeats 6400000 in
set_option maxRecDepth 100000 in
theorem fallFrom_any (a : Option Addr) (len cap : Nat) (D : List VIntS) (r c : Nat) (w : World) (h : IsIntSS w a len cap D) (hD : RL D) (hr : r < D.length) (hc : c < colsN D) :
    Calls Try.prog 104 #[.slice a len cap, .agg #[.int .i64 (r : Int), .int .i64 (c : Int)]] w fun e w' => e = .returned (.int .i64 (fall D (r, c))) ∧ Below w.heap.size w w' := by
  have b0 := bel_al1 w (.cells #[.int .i64 (r : Int), .int .i64 (c : Int)] 34)
  have S := Lib.hid (h.below b0)
  have B0 := Lib.hid b0
  have HD := Lib.hid hD
  have X0 := Lib.hid (BoxIntA2.new w 34 ⟨(r : Int), (c : Int)⟩ _ rfl)
  obtain ⟨c0, c1⟩ := X0.out
  simp only [] at c0 c1
  have IN := Lib.hid (show inR D (r, c) from ⟨hr, hc⟩)
  clear b0 h hD
  go_enter Try.func104, Try.ntmps104
  go_wp2_with fail
  refine (nextSquare_any _ _ _ D r c _ S.out HD.out hr hc).mono ?_
  rintro e w1 ⟨rfl, hb⟩
  have NI := next_in IN.out
  obtain ⟨_, _, _, _, y0, y1⟩ := HD.out.at IN.out
  obtain ⟨_, _, _, _, y2, y3⟩ := HD.out.at NI
  have FF := Lib.hid (show fall D (r, c) = hA D (r, c) - hA D (nextSq D (r, c)) from rfl)
  obtain ⟨m, hm⟩ : ∃ m, nextSq D (r, c) = m := ⟨_, rfl⟩
  rw [hm] at NI FF y2 y3 ⊢
  obtain ⟨mx, my⟩ := m
  obtain ⟨hmx, hmy⟩ := NI
  simp only [] at hmx hmy
  have ba := bel_al1 w1 (.cells #[.int .i64 (mx : Int), .int .i64 (my : Int)] 34)
  have B2 := Lib.hid (Below.then' (Below.then' B0.out hb) ba)
  have S2 := Lib.hid (S.out.below (Below.then' hb ba))
  obtain ⟨e0, e1⟩ := X0.out.below (Below.then' hb ba)
  obtain ⟨f0, f1⟩ := BoxIntA2.new w1 34 ⟨(mx : Int), (my : Int)⟩ _ rfl
  simp only [] at e0 e1 f0 f1
  have k0 := cell_regrown e0
  have k1 := cell_regrown e1
  have k2 := cell_regrown f0
  have k3 := cell_regrown f1
  have ws : IntKind.i64.wrap (hA D (r, c) - hA D (mx, my)) = hA D (r, c) - hA D (mx, my) := IntWalk.i64_in _ (by omega)
  have cQ := below_at (W := w1.alloc (.cells #[.int .i64 (mx : Int), .int .i64 (my : Int)] 34)) (fun W' hW => heightOf_any _ _ _ D r c W' (S2.out.below hW) HD.out hr hc)
  have cM := below_at (W := w1.alloc (.cells #[.int .i64 (mx : Int), .int .i64 (my : Int)] 34)) (fun W' hW => heightOf_any _ _ _ D mx my W' (S2.out.below hW) HD.out hmx hmy)
  clear hb ba e0 e1 f0 f1 c0 c1 hm
  go_wp2
  refine wp_region_quiet_below (by kernel_rfl) (by kernel_rfl) ?_
  repeat (first | go_big_quiet_step (first | (with_reducible exact cQ _ _) | (with_reducible exact cM _ _)) | quiet_step (first | (with_reducible exact cQ _ _) | (with_reducible exact cM _ _)))
  refine wpQuiet_nil ?_
  intro W2 hw2
  have bw := below_of_re hw2
  have B3 := Lib.hid (Below.then' B2.out bw)
  clear hw2 cQ cM k0 k1 k2 k3 bw
  go_wp2
  go_ret
  exact ⟨by rw [FF.out]; rfl, B3.out⟩
end Go.Proofs.Ytpnaciamnigbnaa
namespace Go.Proofs.Ytpnaciamnigbnaa
open Go.RowKit
def SteepestSquare_Post (z0 : List VIntS) (w : World) (e : Ending) (w' : World) : Prop :=
  e = .returned (.tuple #[.int .i64 (SteepestSquare_0 z0), .int .i64 (SteepestSquare_1 z0), .int .i64 (SteepestSquare_2 z0), .bool (SteepestSquare_3 z0)]) ∧ Below w.heap.size w w'
end Go.Proofs.Ytpnaciamnigbnaa
namespace Go.Proofs.Ytpnaciamnigbnaa
open Go.RowKit

theorem results_4w {fn : Func} {t u v x : Tmp} (h : fn.results = #[.tmp t, .tmp u, .tmp v, .tmp x]) (tmps : Array Value) (P : Program) (w : World) :
    (results fn tmps).run P w = .ok (.tuple #[tmps.getD t undef, tmps.getD u undef, tmps.getD v undef, tmps.getD x undef]) w := by
  simp [results, h]
set_option maxHeartbeats 6400000 in
set_option maxRecDepth 100000 in
theorem cmpFn_any (K : FuncId) (caps : Array Value) (f : Sq → Int) (b : Nat) (x y u v : Nat) (w : World) (hb : w.cell? ⟨b, 0, none⟩ = some (.func (.func K) #[] caps))
    (hcall : ∀ args W, (callFunc K args).run Try.prog W = .ok (.enter K args) W)
    (h1 : ∀ W, Below w.heap.size w W → Calls Try.prog K (#[.agg #[.int .i64 (x : Int), .int .i64 (y : Int)]] ++ caps) W fun e w' => e = .returned (.int .i64 (f (x, y))) ∧ Below W.heap.size W w')
    (h2 : ∀ W, Below w.heap.size w W → Calls Try.prog K (#[.agg #[.int .i64 (u : Int), .int .i64 (v : Int)]] ++ caps) W fun e w' => e = .returned (.int .i64 (f (u, v))) ∧ Below W.heap.size W w') :
    Calls Try.prog 134 #[.agg #[.int .i64 (x : Int), .int .i64 (y : Int)], .agg #[.int .i64 (u : Int), .int .i64 (v : Int)], .pointer (some ⟨b, 0, none⟩)] w fun e w' => e = .returned (.int .i64 (Lib.compareInt (f (x, y)) (f (u, v)))) ∧ Below w.heap.size w w' := by
  have b0 := bel_al2 w (.cells #[.int .i64 (x : Int), .int .i64 (y : Int)] 34) (.cells #[.int .i64 (u : Int), .int .i64 (v : Int)] 34)
  have B0 := Lib.hid b0
  have g0 := cell_stay hb b0
  obtain ⟨e0, e1⟩ := (BoxIntA2.new w 34 ⟨(x : Int), (y : Int)⟩ _ rfl).below (bel_al1 _ (.cells #[.int .i64 (u : Int), .int .i64 (v : Int)] 34))
  obtain ⟨f0, f1⟩ := BoxIntA2.new (w.alloc (.cells #[.int .i64 (x : Int), .int .i64 (y : Int)] 34)) 34 ⟨(u : Int), (v : Int)⟩ (w.heap.size + 1) (by simp)
  simp only [] at e0 e1 f0 f1
  have H1 := Lib.hid h1
  have H2 := Lib.hid h2
  clear b0 hb h1 h2
  obtain ⟨p, hp⟩ : ∃ p, f (x, y) = p := ⟨_, rfl⟩
  obtain ⟨q, hq⟩ : ∃ q, f (u, v) = q := ⟨_, rfl⟩
  rw [hp] at H1 ⊢
  rw [hq] at H2 ⊢
  clear hp hq
  go_enter Try.func134, Try.ntmps134
  go_wp2
  obtain ⟨W0, hW0⟩ : ∃ W0, (w.alloc (.cells #[.int .i64 (x : Int), .int .i64 (y : Int)] 34)).alloc (.cells #[.int .i64 (u : Int), .int .i64 (v : Int)] 34) = W0 := ⟨_, rfl⟩
  rw [hW0] at B0 g0 e0 e1 f0 f1 ⊢
  clear hW0
  have kg := cell_regrown g0
  have k0 := cell_regrown e0
  have k1 := cell_regrown e1
  have k2 := cell_regrown f0
  have k3 := cell_regrown f1
  have cQ := below_at (W := W0) (fun W' hW => H1.out W' (Below.then' B0.out hW))
  have cM := below_at (W := W0) (fun W' hW => H2.out W' (Below.then' B0.out hW))
  have cC := below_at (W := W0) (fun W' _ => same_below (compare_any p q W'))
  clear g0 e0 e1 f0 f1
  refine wp_region_quiet_below (by kernel_rfl) (by kernel_rfl) ?_
  repeat (first | go_big_quiet_step (first | (with_reducible exact cQ _ _) | (with_reducible exact cM _ _) | (with_reducible exact cC _ _)) | quiet_step (first | (with_reducible exact cQ _ _) | (with_reducible exact cM _ _) | (with_reducible exact cC _ _)))
  refine wpQuiet_nil ?_
  intro W2 hw2
  have bw := below_of_re hw2
  have B3 := Lib.hid (Below.then' B0.out bw)
  clear hw2 cQ cM cC kg k0 k1 k2 k3 bw
  go_wp2
  go_ret
  exact ⟨rfl, B3.out⟩
/-- The first greatest square, as the library finds it. -/
theorem pick_top {D : List VIntS} (hD : RL D) (f : Sq → Int) : pickB (fun x m => decide (0 < Lib.compareInt (f (sqO x)) (f (sqO m)))) zeroIntA2 (sqV (sqs D)) = vsq (topOf D f) := by
  obtain ⟨l, hl⟩ := sqs_head hD
  rw [top_tail hl, hl]
  show (l.map vsq).foldl _ (vsq (0, 0)) = _
  have step : ∀ (l : List Sq) (b : Sq), (l.map vsq).foldl (fun m x => if decide (0 < Lib.compareInt (f (sqO x)) (f (sqO m))) = true then x else m) (vsq b) = vsq (maxFrom f b l) := by
    intro l
    induction l with
    | nil => intro b; rfl
    | cons x l ih =>
      intro b
      unfold maxFrom at *
      rw [List.map_cons, List.foldl_cons, List.foldl_cons, sqO_vsq, sqO_vsq]
      have e : (0 < Lib.compareInt (f x) (f b)) ↔ f b < f x := by
        unfold Lib.compareInt
        split
        · constructor <;> intro h <;> omega
        · split
          · constructor <;> intro h <;> omega
          · constructor <;> intro h <;> omega
      by_cases h : f b < f x
      · rw [if_pos (by simpa using e.2 h), show maxS f b x = x from by unfold maxS; rw [if_pos h]]
        exact ih x
      · rw [if_neg (by simpa using fun h2 => h (e.1 h2)), show maxS f b x = b from by unfold maxS; rw [if_neg h]]
        exact ih b
  exact step l (0, 0)
def SqOne (p : Sq) (w : World) (e : Ending) (w' : World) : Prop := e = .returned (.agg #[.int .i64 (p.1 : Int), .int .i64 (p.2 : Int)]) ∧ Below w.heap.size w w'
set_option maxHeartbeats 6400000 in
set_option maxRecDepth 100000 in
theorem firstGreatest_any (K : FuncId) (caps : Array Value) (f : Sq → Int) (a : Option Addr) (len cap : Nat) (D : List VIntS) (w : World) (h : IsIntSS w a len cap D) (hD : RL D)
    (hcall : ∀ args W, (callFunc K args).run Try.prog W = .ok (.enter K args) W)
    (hf : ∀ W (p : Sq), inR D p → Below w.heap.size w W → Calls Try.prog K (#[.agg #[.int .i64 (p.1 : Int), .int .i64 (p.2 : Int)]] ++ caps) W fun e w' => e = .returned (.int .i64 (f p)) ∧ Below W.heap.size W w') :
    Calls Try.prog 93 #[.slice a len cap, .func (.func K) #[] caps] w (SqOne (topOf D f) w) := by
  have b0 := bel_al2 w (.cells #[.func (.func K) #[] caps] 85) (.cells #[.int .i64 0, .int .i64 0] 34)
  have g0 := cell_stay (cell_box w (.func (.func K) #[] caps) 85 _ rfl) (bel_al1 _ (.cells #[.int .i64 0, .int .i64 0] 34))
  have Z0 := Lib.hid (HBIntA2.new (w.alloc (.cells #[.func (.func K) #[] caps] 85)) ⟨0, 0⟩ (w.heap.size + 1) (by simp))
  have S := Lib.hid (h.below b0)
  have B0 := Lib.hid b0
  have G0 := Lib.hid g0
  have HF := Lib.hid hf
  have HD := Lib.hid hD
  have hmf : ∀ (fn : Fn) (first cap : Array Value) (w : World), (Instr.makeFunc fn first cap).run Try.prog w = .ok (.func fn first cap) w := fun _ _ _ _ => rfl
  clear h b0 g0 hf hD
  go_enter Try.func93, Try.ntmps93
  go_wp2_with fail
  refine (reliefSquares_any _ _ _ D _ S.out HD.out).mono ?_
  rintro e w1 ⟨v, rfl, hown, hb⟩
  have B1 := Lib.hid (Below.then' B0.out hb)
  have G1 := Lib.hid (cell_stay G0.out hb)
  have Z1 := Lib.hid (Z0.out.below hb)
  obtain ⟨a1, c1, rfl, his⟩ := hown.is
  have I1 := Lib.hid his
  have hpos : 0 < (sqs D).length := by obtain ⟨l, hl⟩ := sqs_head HD.out; rw [hl]; simp
  have PT := Lib.hid (pick_top HD.out f)
  clear hown hb his
  go_wp2_with fail
  refine (maxFuncIntA2_any 134 #[.pointer (some ⟨w.heap.size, 0, none⟩)] (fun x m => Lib.compareInt (f (sqO x)) (f (sqO m))) _ _ _ (sqV (sqs D)) _ I1.out hpos (enters_fn' Try.func134 (by kernel_rfl) (by kernel_rfl)) (fun W x m hx hm hW => by
    obtain ⟨p, hp, rfl⟩ := mem_sqV hx
    obtain ⟨q, hq, rfl⟩ := mem_sqV hm
    rw [sqO_vsq, sqO_vsq]
    obtain ⟨x, y⟩ := p
    obtain ⟨u, v⟩ := q
    have h1 := cmpFn_any K caps f w.heap.size x y u v W (cell_stay G1.out hW) hcall (fun W' hW' => HF.out W' (x, y) (mem_sqs.1 hp) (Below.then' (Below.then' B1.out hW) hW')) (fun W' hW' => HF.out W' (u, v) (mem_sqs.1 hq) (Below.then' (Below.then' B1.out hW) hW'))
    simpa [vsq] using h1)).mono ?_
  rintro e w2 ⟨⟨s, hs, rfl⟩, hb⟩
  rw [PT.out] at hs
  have B2 := Lib.hid (Below.then' B1.out hb)
  have Z2 := Lib.hid (Z1.out.below hb)
  obtain ⟨d0, d1⟩ := Z2.out.cells
  have q0 := Z2.out.free 0
  have q1 := Z2.out.free 1
  subst hs
  obtain ⟨t, ht⟩ : ∃ t, topOf D f = t := ⟨_, rfl⟩
  have T := Lib.hid ht
  rw [ht]
  obtain ⟨tx, ty⟩ := t
  have ZW := Lib.hid (Z2.out.setAll ⟨(tx : Int), (ty : Int)⟩)
  clear hb ht hmf
  simp only [vsq] at d0 d1 ⊢
  go_wp2
  refine bodyPost_ret (resultsIntA21 rfl rfl ZW.out) rfl ⟨by rw [T.out], ?_⟩
  exact (B2.out.setCell (by simp) _).setCell (by simp) _
set_option maxHeartbeats 3200000 in
theorem steepFn_any (a : Option Addr) (len cap : Nat) (D : List VIntS) (b : Nat) (r c : Nat) (w : World) (h : IsIntSS w a len cap D) (hb : w.cell? ⟨b, 0, none⟩ = some (.slice a len cap)) (hD : RL D) (hr : r < D.length) (hc : c < colsN D) :
    Calls Try.prog 103 #[.agg #[.int .i64 (r : Int), .int .i64 (c : Int)], .pointer (some ⟨b, 0, none⟩)] w fun e w' => e = .returned (.int .i64 (fall D (r, c))) ∧ Below w.heap.size w w' := by
  have b0 := bel_al1 w (.cells #[.int .i64 (r : Int), .int .i64 (c : Int)] 34)
  have g0 := cell_stay hb b0
  have S := Lib.hid (h.below b0)
  have B0 := Lib.hid b0
  obtain ⟨c0, c1⟩ := (BoxIntA2.new w 34 ⟨(r : Int), (c : Int)⟩ _ rfl)
  simp only [] at c0 c1
  clear b0 h hb
  go_enter Try.func103, Try.ntmps103
  go_wp2_with fail
  refine (fallFrom_any _ _ _ D r c _ S.out hD hr hc).mono ?_
  rintro e w1 ⟨rfl, hb⟩
  have B1 := Lib.hid (Below.then' B0.out hb)
  clear hb c0 c1 g0
  go_wp2
  go_ret
  exact ⟨rfl, B1.out⟩
set_option maxHeartbeats 6400000 in
set_option maxRecDepth 100000 in
theorem implSteepestSquare_any (a : Option Addr) (len cap : Nat) (D : List VIntS) (w : World) (h : IsIntSS w a len cap D) :
    Calls Try.prog 45 #[.slice a len cap] w (SteepestSquare_Post D w) := by
  have b0 := bel_al1 w (.cells #[.slice a len cap] 24)
  have g0 := cell_box w (.slice a len cap) 24 _ rfl
  have S := Lib.hid (h.below b0)
  have B0 := Lib.hid b0
  have G0 := Lib.hid g0
  clear h b0
  obtain ⟨q, hq⟩ : ∃ q, rlB D = q := ⟨_, rfl⟩
  have Q := Lib.hid hq
  clear hq
  go_enter Try.func45, Try.ntmps45
  go_wp2_with fail
  refine (implIsRelief_any _ _ _ D _ S.out).mono ?_
  rintro e w1 ⟨rfl, hb⟩
  rw [show IsRelief_0 D = q from Q.out]
  have B1 := Lib.hid (Below.then' B0.out hb)
  have S1 := Lib.hid (S.out.below hb)
  have g1 := cell_stay G0.out hb
  have G1 := Lib.hid g1
  clear hb g0
  cases q
  · have F := Lib.hid (show steepB D = false from by unfold steepB; rw [Q.out]; rfl)
    have P0 := Lib.hid (show SteepestSquare_0 D = 0 ∧ SteepestSquare_1 D = 0 ∧ SteepestSquare_2 D = 0 ∧ SteepestSquare_3 D = false from by unfold SteepestSquare_0 SteepestSquare_1 SteepestSquare_2 SteepestSquare_3; rw [F.out]; exact ⟨rfl, rfl, rfl, rfl⟩)
    go_wp2
    refine bodyPost_ret (results_4w rfl _ _ _) rfl ⟨?_, B1.out⟩
    rw [P0.out.1, P0.out.2.1, P0.out.2.2.1, P0.out.2.2.2]; rfl
  have HD := Lib.hid (rlB_iff.1 Q.out)
  have hmf : ∀ (fn : Fn) (first cap : Array Value) (w : World), (Instr.makeFunc fn first cap).run Try.prog w = .ok (.func fn first cap) w := fun _ _ _ _ => rfl
  go_wp2_with fail
  refine (firstGreatest_any 103 #[.pointer (some ⟨w.heap.size, 0, none⟩)] (fall D) _ _ _ D _ S1.out HD.out (enters_fn' Try.func103 (by kernel_rfl) (by kernel_rfl)) (fun W p hp hW => by
    obtain ⟨x, y⟩ := p
    have h1 := steepFn_any a len cap D w.heap.size x y W (S1.out.below hW) (cell_stay G1.out hW) HD.out hp.1 hp.2
    simpa using h1)).mono ?_
  rintro e w2 ⟨rfl, hb⟩
  have TI := top_in HD.out (fall D)
  have SB := Lib.hid (show steepB D = !(fall D (topOf D (fall D)) == 0) from by unfold steepB; rw [Q.out]; rfl)
  have P0 := Lib.hid (show SteepestSquare_0 D = (if steepB D = true then ((topOf D (fall D)).1 : Int) else 0) ∧ SteepestSquare_1 D = (if steepB D = true then ((topOf D (fall D)).2 : Int) else 0) ∧ SteepestSquare_2 D = (if steepB D = true then fall D (topOf D (fall D)) else 0) ∧ SteepestSquare_3 D = steepB D from ⟨rfl, rfl, rfl, rfl⟩)
  obtain ⟨t, ht⟩ : ∃ t, topOf D (fall D) = t := ⟨_, rfl⟩
  rw [ht] at TI SB P0 ⊢
  obtain ⟨x, y⟩ := t
  obtain ⟨hx, hy⟩ := TI
  have ba := bel_al1 w2 (.cells #[.int .i64 (x : Int), .int .i64 (y : Int)] 34)
  have B2 := Lib.hid (Below.then' (Below.then' B1.out hb) ba)
  have S2 := Lib.hid (S1.out.below (Below.then' hb ba))
  have g2 := cell_stay G1.out (Below.then' hb ba)
  obtain ⟨e0, e1⟩ := BoxIntA2.new w2 34 ⟨(x : Int), (y : Int)⟩ _ rfl
  have X2 := Lib.hid (BoxIntA2.new w2 34 ⟨(x : Int), (y : Int)⟩ _ rfl)
  simp only [] at e0 e1 hx hy P0
  clear hb ba ht hmf g1
  go_wp2_with fail
  refine (fallFrom_any _ _ _ D x y _ S2.out HD.out hx hy).mono ?_
  rintro e w3 ⟨rfl, hb⟩
  have B3 := Lib.hid (Below.then' B2.out hb)
  obtain ⟨f0, f1⟩ := X2.out.below hb
  simp only [] at f0 f1
  clear hb e0 e1 g2
  obtain ⟨d, hd⟩ : ∃ d, fall D (x, y) = d := ⟨_, rfl⟩
  rw [hd] at SB P0 ⊢
  clear hd
  by_cases hz : d = 0
  · have F := Lib.hid (show steepB D = false from by rw [SB.out, hz]; rfl)
    rw [F.out] at P0
    subst hz
    clear f0 f1
    go_wp2
    refine bodyPost_ret (results_4w rfl _ _ _) rfl ⟨?_, B3.out⟩
    rw [P0.out.1, P0.out.2.1, P0.out.2.2.1, P0.out.2.2.2]; rfl
  · have F := Lib.hid (show steepB D = true from by rw [SB.out]; simp [hz])
    have c1 : (d == (0 : Int)) = false := by simp [hz]
    rw [F.out] at P0
    clear hz
    go_wp2
    go_quiet (fail)
    go_wp2
    refine bodyPost_ret (results_4w rfl _ _ _) rfl ⟨?_, Below.then' B3.out (bel_drawn _ _)⟩
    rw [P0.out.1, P0.out.2.1, P0.out.2.2.1, P0.out.2.2.2]; rfl
end Go.Proofs.Ytpnaciamnigbnaa
namespace Go.Proofs.Ytpnaciamnigbnaa
open Go.RowKit

def numsOf (L : Sq → Int) : List Int := (List.range 64).map fun i => L (i / 8, i % 8)
theorem numsOf_len (L : Sq → Int) : (numsOf L).length = 64 := by simp [numsOf]
theorem numsOf_at (L : Sq → Int) {r c : Nat} (hr : r < 8) (hc : c < 8) : (numsOf L)[r * 8 + c]? = some (L (r, c)) := by
  have h : r * 8 + c < 64 := by omega
  simp only [numsOf, List.getElem?_map, List.getElem?_range h, Option.map_some]
  rw [show (r * 8 + c) / 8 = r by omega, show (r * 8 + c) % 8 = c by omega]
theorem numsOf_set (L : Sq → Int) {r c : Nat} (hr : r < 8) (hc : c < 8) (x : Int) : (numsOf L).set (r * 8 + c) x = numsOf (upL L (r, c) x) := by
  apply List.ext_getElem?
  intro i
  by_cases e : i = r * 8 + c
  · subst e
    rw [List.getElem?_set_self (by rw [numsOf_len]; omega), numsOf_at _ hr hc]
    unfold upL
    rw [if_pos rfl]
  · rw [List.getElem?_set_ne (Ne.symm e)]
    simp only [numsOf, List.getElem?_map]
    by_cases hi : i < 64
    · rw [List.getElem?_range hi]
      simp only [Option.map_some]
      unfold upL
      rw [if_neg (by rw [Prod.mk.injEq]; omega)]
    · rw [List.getElem?_eq_none (by simpa using hi)]; rfl
theorem numsOf_inj {L M : Sq → Int} (h : numsOf L = numsOf M) {r c : Nat} (hr : r < 8) (hc : c < 8) : L (r, c) = M (r, c) := by
  have h1 := numsOf_at L hr hc
  rw [h, numsOf_at M hr hc] at h1
  exact (Option.some.inj h1).symm
theorem numsOf_congr {L M : Sq → Int} (h : ∀ r c, r < 8 → c < 8 → L (r, c) = M (r, c)) : numsOf L = numsOf M := by
  unfold numsOf
  refine List.map_congr_left fun i hi => h _ _ ?_ ?_
  · have := List.mem_range.1 hi; omega
  · omega
def arrC (L : Sq → Int) : Array Value := (intCells (numsOf L)).toArray
theorem arrC_size (L : Sq → Int) : (arrC L).size = 64 := by simp [arrC, intCells, numsOf_len]
theorem arrC_one (L : Sq → Int) : (arrC L).all (·.oneCell') = true := by
  rw [Array.all_eq_true_iff_forall_mem]
  intro v hv
  simp only [arrC, intCells, List.mem_toArray, List.mem_map] at hv
  obtain ⟨x, _, rfl⟩ := hv
  rfl
/-- Block b holds it, all of it, and may be written. -/
def HBArr (w : World) (b : Nat) (L : Sq → Int) : Prop := w.heap[b]? = some (.cells (arrC L) 82 (0, 0))
theorem HBArr.lt {w : World} {b : Nat} {L : Sq → Int} (h : HBArr w b L) : b < w.heap.size := (Array.getElem?_eq_some_iff.1 h).1
theorem HBArr.new (w : World) (L : Sq → Int) (B : Nat) (hB : w.heap.size = B) : HBArr (w.alloc (.cells (arrC L) 82)) B L := hB ▸ heap_alloc_new w _
theorem HBArr.below {w w' : World} {b : Nat} {L : Sq → Int} (h : HBArr w b L) (hb : Below w.heap.size w w') : HBArr w' b L := (hb.block b h.lt).trans h
theorem HBArr.grown {w w' : World} {b : Nat} {L : Sq → Int} {row : Option Nat} (h : HBArr w b L) (hg : w.grownBy w' row) (hne : some b ≠ row) : HBArr w' b L := (hg.block b h.lt hne).trans h
theorem HBArr.alloc {w : World} {b : Nat} {L : Sq → Int} (h : HBArr w b L) (o : Obj) : HBArr (w.alloc o) b L := (Below.heap_alloc w o b h.lt).trans h
theorem HBArr.cell {w : World} {b : Nat} {L : Sq → Int} (h : HBArr w b L) {r c : Nat} (hr : r < 8) (hc : c < 8) : w.cell? ⟨b, r * 8 + c, none⟩ = some (.int .i64 (L (r, c))) := by
  unfold HBArr at h
  rw [cell_of_row w b (r * 8 + c) (arrC L) _ (0, 0) h]
  simp [arrC, intCells, numsOf_at L hr hc]
theorem HBArr.free {w : World} {b : Nat} {L : Sq → Int} (h : HBArr w b L) (j : Nat) : w.frozen? ⟨b, j, none⟩ = false := by
  unfold HBArr at h
  simp [World.frozen?, h]
theorem HBArr.set {w : World} {b : Nat} {L : Sq → Int} (h : HBArr w b L) {r c : Nat} (hr : r < 8) (hc : c < 8) (x : Int) : HBArr (w.setCell ⟨b, r * 8 + c, none⟩ (.int .i64 x)) b (upL L (r, c) x) := by
  have h1 := heap_setCell_same w b (r * 8 + c) (arrC L) _ (.int .i64 x) h
  unfold HBArr
  rw [h1]
  congr 2
  unfold arrC
  rw [← numsOf_set L hr hc]
  simp [intCells, List.map_set]
theorem HBArr.range {w : World} {b : Nat} {L : Sq → Int} (h : HBArr w b L) : w.rangeAt b 0 (intCells (numsOf L)) := by
  intro j v hj
  unfold HBArr at h
  rw [cell_of_row w b (0 + j) (arrC L) _ (0, 0) h]
  simp only [arrC, Nat.zero_add]
  simpa using hj
theorem infoArr : (Try.prog.info? 82).map (·.size) = some 64 := by kernel_rfl
theorem load_arr {w : World} {b : Nat} {L : Sq → Int} (h : HBArr w b L) : (Instr.loadAt 82 (.pointer (some ⟨b, 0, none⟩))).run Try.prog w = .ok (.agg (arrC L)) w :=
  run_loadAt_mid w b 0 82 (intCells (numsOf L)) _ h.range Try.underlying82 rfl (by rw [infoArr]; simp [intCells, numsOf_len])
theorem results_arr {fn : Func} {tm : Array Value} {a b : Nat} {w : World} {L : Sq → Int} (hf : fn.results = #[.cell a 82]) (ha : tm.getD a undef = .pointer (some ⟨b, 0, none⟩)) (h : HBArr w b L) :
    (results fn tm).run Try.prog w = .ok (.agg (arrC L)) w := by
  have hl : (loadVar 82 ⟨b, 0, none⟩).run Try.prog w = .ok (.agg (arrC L)) w := run_loadVar_row _ _ _ _ _ _ _ h Try.underlying82 rfl (by rw [infoArr, arrC_size])
  simp only [Array.getD_eq_getD_getElem?] at ha
  simp [results, hf, ha, asAddr, hl]
/-- The whole array is read. -/
theorem wpList_loadArr {ops : Array Oper} {rest : List Oper} {op : Oper} {a : Act} {w : World} {Q : Exit → Act → World → Prop} (hgd : op.guard = none) (x : Operand) (ho : op.op = .load 82 x) (b : Nat) (hx : a.eval x = .pointer (some ⟨b, 0, none⟩)) (L : Sq → Int) (h : HBArr w b L)
    (k : wpList Try.prog ops Q rest (a.put op.dst (.agg (arrC L))) w) : wpList Try.prog ops Q (op :: rest) a w :=
  wpList_load_mid hgd 82 x ho b 0 hx (intCells (numsOf L)) _ h.range Try.underlying82 rfl (by rw [infoArr]; simp [intCells, numsOf_len]) k
theorem setRow_arr {w : World} {b : Nat} {L : Sq → Int} (M : Sq → Int) (h : HBArr w b L) : HBArr (w.setRow b (arrC M)) b M ∧ w.grownBy (w.setRow b (arrC M)) (some b) := by
  have hlt := h.lt
  refine ⟨?_, rfl, rfl, rfl, by simp [World.setRow], fun k hk hne => ?_⟩
  · unfold HBArr at *
    simp only [World.setRow]
    rw [Array.getElem?_modify]
    rw [if_pos rfl, h]
    rfl
  · simp only [World.setRow]
    rw [Array.getElem?_modify, if_neg (fun e => hne (by rw [e]))]
/-- The whole array is written. -/
theorem wpList_storeArr {ops : Array Oper} {rest : List Oper} {op : Oper} {a : Act} {w : World} {Q : Exit → Act → World → Prop} (hgd : op.guard = none) (x y : Operand) (ho : op.op = .store 82 x y) (b : Nat) (hx : a.eval x = .pointer (some ⟨b, 0, none⟩)) (L M : Sq → Int) (hy : a.eval y = .agg (arrC M)) (h : HBArr w b L)
    (k : ∀ w', HBArr w' b M → w.grownBy w' (some b) → wpList Try.prog ops Q rest (a.put op.dst undef) w') : wpList Try.prog ops Q (op :: rest) a w :=
  wpList_store_row hgd 82 x y ho b (arrC M) hx hy 82 (arrC L) h (by rw [infoArr, arrC_size]) (by rw [arrC_size, arrC_size]) (arrC_one M) (k _ (setRow_arr M h).1 (setRow_arr M h).2)
theorem zero_arr : (arrC fun _ => 0) = (List.replicate 64 (Value.int .i64 0)).toArray := by
  unfold arrC numsOf intCells
  rw [List.map_map, show (Value.int IntKind.i64 ∘ fun _ : Nat => (0 : Int)) = fun _ => Value.int .i64 0 from rfl, List.map_const', List.length_range]
set_option maxRecDepth 100000 in
/-- The array of zeros, as the walk writes it. -/
theorem zeros_arr : (#[.int .i64 0, .int .i64 0, .int .i64 0, .int .i64 0, .int .i64 0, .int .i64 0, .int .i64 0, .int .i64 0, .int .i64 0, .int .i64 0, .int .i64 0, .int .i64 0, .int .i64 0, .int .i64 0, .int .i64 0, .int .i64 0, .int .i64 0, .int .i64 0, .int .i64 0, .int .i64 0, .int .i64 0, .int .i64 0, .int .i64 0, .int .i64 0, .int .i64 0, .int .i64 0, .int .i64 0, .int .i64 0, .int .i64 0, .int .i64 0, .int .i64 0, .int .i64 0, .int .i64 0, .int .i64 0, .int .i64 0, .int .i64 0, .int .i64 0, .int .i64 0, .int .i64 0, .int .i64 0, .int .i64 0, .int .i64 0, .int .i64 0, .int .i64 0, .int .i64 0, .int .i64 0, .int .i64 0, .int .i64 0, .int .i64 0, .int .i64 0, .int .i64 0, .int .i64 0, .int .i64 0, .int .i64 0, .int .i64 0, .int .i64 0, .int .i64 0, .int .i64 0, .int .i64 0, .int .i64 0, .int .i64 0, .int .i64 0, .int .i64 0, .int .i64 0] : Array Value) = arrC fun _ => 0 := by
  rw [zero_arr]; rfl
end Go.Proofs.Ytpnaciamnigbnaa
namespace Go.Proofs.Ytpnaciamnigbnaa
open Go.RowKit

/-- How often the squares of a list of runs have been met, k squares done and j of the next one's run. -/
def metL (D : List VIntS) (k j : Nat) (q : Sq) : Int := ((((sqs D).take k).flatMap (runOf D) ++ (match (sqs D)[k]? with | some p => (runOf D p).take j | none => [])).count q : Nat)
theorem metL_zero (D : List VIntS) : metL D 0 0 = fun _ => 0 := by
  funext q
  unfold metL
  cases (sqs D)[0]? <;> simp
theorem metL_step {D : List VIntS} {k j : Nat} {p s : Sq} (hp : (sqs D)[k]? = some p) (hs : (runOf D p)[j]? = some s) : metL D k (j + 1) = upL (metL D k j) s (metL D k j s + 1) := by
  funext q
  unfold metL upL
  rw [hp]
  simp only []
  rw [List.take_add_one, hs, ← List.append_assoc, List.count_append]
  by_cases e : q = s
  · subst e; simp
  · rw [if_neg e]
    have : List.count q [s] = 0 := by simp [Ne.symm e]
    simp [this]
theorem metL_next {D : List VIntS} {k : Nat} {p : Sq} (hp : (sqs D)[k]? = some p) : metL D k (runOf D p).length = metL D (k + 1) 0 := by
  funext q
  unfold metL
  rw [hp]
  simp only [List.take_length]
  rw [List.take_add_one, hp]
  simp only [Option.toList_some, List.flatMap_append, List.flatMap_cons, List.flatMap_nil, List.append_nil]
  cases (sqs D)[k + 1]? <;> simp
theorem metL_all (D : List VIntS) : metL D (sqs D).length 0 = rivI D := by
  funext q
  unfold metL rivI riv rivTo
  rw [List.getElem?_eq_none (Nat.le_refl _), List.take_length]
  simp
theorem metL_bd {D : List VIntS} (hD : RL D) (k j : Nat) (q : Sq) : 0 ≤ metL D k j q ∧ metL D k j q ≤ 650000 := by
  have h1 : ((((sqs D).take k).flatMap (runOf D) ++ (match (sqs D)[k]? with | some p => (runOf D p).take j | none => [])).count q) ≤ 650000 := by
    refine Nat.le_trans List.count_le_length ?_
    rw [List.length_append]
    have h2 := flat_len D hD ((sqs D).take k) (fun p hp => mem_sqs.1 (List.mem_of_mem_take hp))
    have h3 := sqs_len hD
    have h4 : ((sqs D).take k).length ≤ 64 := by rw [List.length_take]; omega
    cases hp : (sqs D)[k]? with
    | none => simp only [List.length_nil]; omega
    | some p =>
      have h5 := runOf_len hD (mem_sqs.1 (List.mem_of_getElem? hp))
      have h6 : ((runOf D p).take j).length ≤ 10000 := by rw [List.length_take]; omega
      simp only []
      omega
  unfold metL
  omega
theorem grown_drew' {a b : World} {row : Option Nat} (h : a.grownBy b row) : a.grownBy b.drew row := ⟨h.os, h.tape, h.output, h.size, h.block⟩
/-- An array by value, and the world below as it was. -/
def ArrPost (L : Sq → Int) (w : World) (e : Ending) (w' : World) : Prop := e = .returned (.agg (arrC L)) ∧ Below w.heap.size w w'
set_option maxHeartbeats 12800000 in
set_option maxRecDepth 100000 in
theorem catchmentsOf_any (a : Option Addr) (len cap : Nat) (D : List VIntS) (w : World) (h : IsIntSS w a len cap D) (hD : RL D) :
    Calls Try.prog 91 #[.slice a len cap] w (ArrPost (rivI D) w) := by
  have S := Lib.hid h
  have HD := Lib.hid hD
  have hm8 := hD.m8
  have hn8 := hD.n8
  have Z2 := Lib.hid ((HBArr.new w (fun _ => 0) _ rfl).alloc (.cells (arrC fun _ => 0) 82))
  have Z3 := Lib.hid (HBArr.new (w.alloc (.cells (arrC fun _ => 0) 82)) (fun _ => 0) (w.heap.size + 1) (by simp))
  have B0 := Lib.hid (bel_al2 w (.cells (arrC fun _ => 0) 82) (.cells (arrC fun _ => 0) 82))
  clear h hD
  go_enter Try.func91, Try.ntmps91
  go_wp2_with fail
  rw [zeros_arr]
  refine (reliefSquares_any _ _ _ D _ (S.out.below B0.out) HD.out).mono ?_
  rintro e w1 ⟨v, rfl, hown, hb⟩
  have Y2 := Lib.hid (Z2.out.below hb)
  have Y3 := Lib.hid (Z3.out.below hb)
  have B1 := Lib.hid (Below.then' B0.out hb)
  have O1 := Lib.hid (hown.base (base' := w.heap.size + 2) (by simp))
  have hs1 : w.heap.size + 2 ≤ w1.heap.size := by have := hb.size; simp at this; omega
  obtain ⟨a4, c4, rfl, _⟩ := hown.is
  have SQ := Lib.hid (fun (k : Nat) (p : Sq) (hp : (sqs D)[k]? = some p) => mem_sqs.1 (List.mem_of_getElem? hp))
  have hln := sqs_len HD.out
  have MZ := Lib.hid (metL_zero D)
  have MA := Lib.hid (metL_all D)
  clear hown hb
  go_wp2
  go_loopw [11] (fun i wr => ∃ k : Nat, k ≤ (sqs D).length ∧ i = .int .i64 k ∧ HBArr wr w.heap.size (fun _ => 0) ∧ HBArr wr (w.heap.size + 1) (metL D k 0) ∧ SqRow (w.heap.size + 2) wr (.slice a4 (sqs D).length c4) (sqs D) ∧ Below w.heap.size w wr) (fun i _ => (sqs D).length - (intOf i).toNat)
  case atStart => exact ⟨0, Nat.zero_le _, rfl, Y2.out, by rw [MZ.out]; exact Y3.out, O1.out, B1.out⟩
  case round =>
    obtain ⟨k, hk, rfl, h2, h3, hown, hbel⟩ := hrel
    have X2 := Lib.hid h2
    have X3 := Lib.hid h3
    have O := Lib.hid hown
    have B := Lib.hid hbel
    by_cases hlt : k < (sqs D).length
    · obtain ⟨p, hp⟩ : ∃ p, (sqs D)[k]? = some p := ⟨(sqs D)[k]'hlt, List.getElem?_eq_getElem _⟩
      obtain ⟨b, o, rfl, hb, hat⟩ := hown.isAt.2.at (by omega)
      obtain ⟨d0, d1⟩ := hat k (vsq p) (sqV_at hp)
      have PI := SQ.out k p hp
      have HP := Lib.hid hp
      obtain ⟨x, y⟩ := p
      simp only [vsq] at d0 d1
      obtain ⟨hx, hy⟩ := PI
      simp only [] at hx hy
      have hc4 := hown.isAt.2.2.1
      have hc5 := hown.isAt.2.2.2.1
      unfold maxLen at hc5
      have j0 : (0 : Int) ≤ (k : Int) := by omega
      have j1 : (k : Int) < ((sqs D).length : Int) := by omega
      have ba := bel_al1 wr (.cells #[.int .i64 (x : Int), .int .i64 (y : Int)] 34)
      have B2 := Lib.hid (Below.then' hbel ba)
      have A2 := Lib.hid (h2.below ba)
      have A3 := Lib.hid (h3.below ba)
      have AO := Lib.hid (hown.below ba)
      obtain ⟨f0, f1⟩ := BoxIntA2.new wr 34 ⟨(x : Int), (y : Int)⟩ _ rfl
      simp only [] at f0 f1
      clear h2 h3 hown hbel hat hp ba
      go_wp2_with fail
      refine (runFrom_any _ _ _ D x y _ (S.out.below B2.out) HD.out hx hy).mono ?_
      rintro e w3 ⟨v, rfl, hrun, hb3⟩
      have B3 := Lib.hid (Below.then' B2.out hb3)
      have C2 := Lib.hid (A2.out.below hb3)
      have C3 := Lib.hid (A3.out.below hb3)
      have CO := Lib.hid (AO.out.below hb3)
      have hs3 : w.heap.size + 2 ≤ wr.heap.size := by have := A3.out.lt; have := hb3.size; have := X3.out.lt; omega
      have R3 := Lib.hid (hrun.base (base' := w.heap.size + 2) (by rw [size_al]; omega))
      obtain ⟨a5, c5, rfl, _⟩ := hrun.is
      have RI := Lib.hid (fun (j : Nat) (q : Sq) (hq : (runOf D (x, y))[j]? = some q) => runOf_in (D := D) (p := (x, y)) ⟨hx, hy⟩ q (List.mem_of_getElem? hq))
      have hrl := runOf_len HD.out (p := (x, y)) ⟨hx, hy⟩
      have MN := Lib.hid (metL_next HP.out)
      have MS := Lib.hid (fun (j : Nat) (q : Sq) (hq : (runOf D (x, y))[j]? = some q) => metL_step HP.out hq)
      obtain ⟨N, hN⟩ : ∃ N, runOf D (x, y) = N := ⟨_, rfl⟩
      rw [hN] at R3 RI hrl MN MS ⊢
      clear hrun hb3 hN f0 f1 d0 d1
      rename World => w0
      go_wp2
      go_loopw [19] (fun i wr => ∃ j : Nat, j ≤ N.length ∧ i = .int .i64 j ∧ HBArr wr w.heap.size (fun _ => 0) ∧ HBArr wr (w.heap.size + 1) (metL D k j) ∧ SqRow (w.heap.size + 2) wr (.slice (some ⟨b, o, none⟩) (sqs D).length c4) (sqs D) ∧ SqRow (w.heap.size + 2) wr (.slice a5 N.length c5) N ∧ Below w.heap.size w wr) (fun i _ => N.length - (intOf i).toNat)
      case atStart => exact ⟨0, Nat.zero_le _, rfl, C2.out, C3.out, CO.out, R3.out, B3.out⟩
      case round =>
        obtain ⟨j, hj, rfl, h2, h3, hown, hrun, hbel⟩ := hrel
        have E2 := Lib.hid h2
        have E3 := Lib.hid h3
        have EO := Lib.hid hown
        have ER := Lib.hid hrun
        have EB := Lib.hid hbel
        by_cases hlj : j < N.length
        · obtain ⟨q, hq⟩ : ∃ q, N[j]? = some q := ⟨N[j]'hlj, List.getElem?_eq_getElem _⟩
          obtain ⟨b5, o5, e5, hb5, hat⟩ := hrun.isAt.2.at (by omega)
          subst e5
          obtain ⟨d0, d1⟩ := hat j (vsq q) (sqV_at hq)
          have QI := RI.out j q hq
          have MQ := Lib.hid (MS.out j q hq)
          obtain ⟨u, v⟩ := q
          simp only [vsq] at d0 d1
          obtain ⟨hu, hv⟩ := QI
          simp only [] at hu hv
          have hc6 := hrun.isAt.2.2.1
          have hc7 := hrun.isAt.2.2.2.1
          unfold maxLen at hc7
          have i0 : (0 : Int) ≤ (j : Int) := by omega
          have i1 : (j : Int) < (N.length : Int) := by omega
          have u0 : (0 : Int) ≤ (u : Int) := by omega
          have u1 : (u : Int) < 8 := by omega
          have v0 : (0 : Int) ≤ (v : Int) := by omega
          have v1 : (v : Int) < 8 := by omega
          have u8 : u < 8 := by omega
          have v8 : v < 8 := by omega
          have bd := metL_bd HD.out k j (u, v)
          have ba := bel_al1 wr (.cells #[.int .i64 (u : Int), .int .i64 (v : Int)] 34)
          have F2 := Lib.hid (h2.below ba)
          have F3 := Lib.hid (h3.below ba)
          have FO := Lib.hid (hown.below ba)
          have FR := Lib.hid (hrun.below ba)
          have FB := Lib.hid (Below.then' hbel ba)
          obtain ⟨f0, f1⟩ := BoxIntA2.new wr 34 ⟨(u : Int), (v : Int)⟩ _ rfl
          simp only [] at f0 f1
          have g0 := F3.out.cell u8 v8
          have g1 := F3.out.free (u * 8 + v)
          obtain ⟨z, hz⟩ : ∃ z, metL D k j (u, v) = z := ⟨_, rfl⟩
          rw [hz] at g0 bd
          have HZ := Lib.hid hz
          have wz : IntKind.i64.wrap (z + 1) = z + 1 := IntWalk.i64_in _ (by omega)
          clear h2 h3 hown hrun hbel hat hq ba hz
          go_wp2
          obtain ⟨V, hV⟩ : ∃ V, wr.alloc (.cells #[.int .i64 (u : Int), .int .i64 (v : Int)] 34) = V := ⟨_, rfl⟩
          rw [hV] at F2 F3 FO FR FB f0 f1 g0 g1 ⊢
          clear hV
          have HG := Lib.hid (show V.grownBy (V.setCell ⟨w.heap.size + 1, u * 8 + v, none⟩ (.int .i64 (z + 1))).drew (some (w.heap.size + 1)) from grown_drew' (grown_set V (w.heap.size + 1) (u * 8 + v) (.int .i64 (z + 1))))
          go_still_tail 10, (by kernel_rfl)
          change wpList _ _ _ _ _ V.drew
          go_wp2
          go_roundw
          case rel =>
            refine ⟨j + 1, by omega, by go_num, F2.out.grown HG.out (by simp), ?_, FO.out.grown HG.out (fun k e => by cases e; omega), FR.out.grown HG.out (fun k e => by cases e; omega), bel_drew' (FB.out.setCell (by simp) _)⟩
            rw [MQ.out, HZ.out]
            exact (F3.out.set u8 v8 (z + 1) : HBArr (V.setCell ⟨w.heap.size + 1, u * 8 + v, none⟩ (.int .i64 (z + 1))) _ _)
          case measure => simp [intOf]; omega
        · obtain rfl : j = N.length := by omega
          have E4 := Lib.hid (show HBArr wr (w.heap.size + 1) (metL D (k + 1) 0) from by rw [← MN.out]; exact h3)
          clear h2 h3 hown hrun hbel
          go_wp2
          go_roundw
          case rel => exact ⟨k + 1, by omega, by go_num, E2.out, E4.out, EO.out, EB.out⟩
          case measure => simp [intOf]; omega
    · obtain rfl : k = (sqs D).length := by omega
      rw [MA.out] at X3
      clear h2 h3 hown hbel
      go_wp2_with (first
        | (refine wpList_loadArr rfl (.tmp 3) rfl (w.heap.size + 1) rfl _ X3.out ?_)
        | (refine wpList_storeArr rfl (.tmp 2) (.tmp 35) rfl w.heap.size rfl _ _ rfl X2.out ?_; intro w4 hw4 hg4))
      refine bodyPost_ret (results_arr rfl rfl hw4) rfl ⟨rfl, B.out.grown hg4 B.out.size (fun j e => by cases e; exact Nat.le_refl _)⟩
end Go.Proofs.Ytpnaciamnigbnaa
