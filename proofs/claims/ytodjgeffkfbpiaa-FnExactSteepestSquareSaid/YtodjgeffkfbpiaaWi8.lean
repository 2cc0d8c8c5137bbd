/- Reliefs in the program: firstGreatest, SteepestSquare. -/
import Derived.Test.YtodjgeffkfbpiaaWi7
import Derived.Test.YtodjgeffkfbpiaaSteepestSquareP
namespace Go.Proofs.Ytodjgeffkfbpiaa
open Go.RowKit

theorem results_4w {fn : Func} {t u v x : Tmp} (h : fn.results = #[.tmp t, .tmp u, .tmp v, .tmp x]) (tmps : Array Value) (P : Program) (w : World) :
    (results fn tmps).run P w = .ok (.tuple #[tmps.getD t undef, tmps.getD u undef, tmps.getD v undef, tmps.getD x undef]) w := by
  simp [results, h]
set_option maxHeartbeats 6400000 in
set_option maxRecDepth 100000 in
theorem cmpFn_any (K : FuncId) (caps : Array Value) (f : Sq → Int) (b : Nat) (x y u v : Nat) (w : World) (hb : w.cell? ⟨b, 0, none⟩ = some (.func (.func K) #[] caps))
    (hcall : ∀ args W, (callFunc K args).run Try.prog W = .ok (.enter K args) W)
    (h1 : ∀ W, Below w.heap.size w W → Calls Try.prog K (#[.agg #[.int .i64 (x : Int), .int .i64 (y : Int)]] ++ caps) W fun e w' => e = .returned (.int .i64 (f (x, y))) ∧ Below W.heap.size W w')
    (h2 : ∀ W, Below w.heap.size w W → Calls Try.prog K (#[.agg #[.int .i64 (u : Int), .int .i64 (v : Int)]] ++ caps) W fun e w' => e = .returned (.int .i64 (f (u, v))) ∧ Below W.heap.size W w') :
    Calls Try.prog 91 #[.agg #[.int .i64 (x : Int), .int .i64 (y : Int)], .agg #[.int .i64 (u : Int), .int .i64 (v : Int)], .pointer (some ⟨b, 0, none⟩)] w fun e w' => e = .returned (.int .i64 (Lib.compareInt (f (x, y)) (f (u, v)))) ∧ Below w.heap.size w w' := by
  have b0 := bel_al2 w (.cells #[.int .i64 (x : Int), .int .i64 (y : Int)] 34) (.cells #[.int .i64 (u : Int), .int .i64 (v : Int)] 34)
  have B0 := Lib.hid b0
  have g0 := cell_stay hb b0
  obtain ⟨e0, e1⟩ := (BoxIntA2.new w 34 ⟨(x : Int), (y : Int)⟩ _ rfl).below (bel_al1 _ (.cells #[.int .i64 (u : Int), .int .i64 (v : Int)] 34))
  obtain ⟨f0, f1⟩ := BoxIntA2.new (w.alloc (.cells #[.int .i64 (x : Int), .int .i64 (y : Int)] 34)) 34 ⟨(u : Int), (v : Int)⟩ (w.heap.size + 1) (by simp)
  simp only [] at e0 e1 f0 f1
  have H1 := Lib.hid h1
  have H2 := Lib.hid h2
  clear b0 hb h1 h2
  obtain ⟨p, hp⟩ : ∃ p, f (x, y) = p := ⟨_, rfl⟩
  obtain ⟨q, hq⟩ : ∃ q, f (u, v) = q := ⟨_, rfl⟩
  rw [hp] at H1 ⊢
  rw [hq] at H2 ⊢
  clear hp hq
  go_enter Try.func91, Try.ntmps91
  go_wp2
  obtain ⟨W0, hW0⟩ : ∃ W0, (w.alloc (.cells #[.int .i64 (x : Int), .int .i64 (y : Int)] 34)).alloc (.cells #[.int .i64 (u : Int), .int .i64 (v : Int)] 34) = W0 := ⟨_, rfl⟩
  rw [hW0] at B0 g0 e0 e1 f0 f1 ⊢
  clear hW0
  have kg := cell_regrown g0
  have k0 := cell_regrown e0
  have k1 := cell_regrown e1
  have k2 := cell_regrown f0
  have k3 := cell_regrown f1
  have cQ := below_at (W := W0) (fun W' hW => H1.out W' (Below.then' B0.out hW))
  have cM := below_at (W := W0) (fun W' hW => H2.out W' (Below.then' B0.out hW))
  have cC := below_at (W := W0) (fun W' _ => same_below (compare_any p q W'))
  clear g0 e0 e1 f0 f1
  refine wp_region_quiet_below (by kernel_rfl) (by kernel_rfl) ?_
  repeat (first | go_big_quiet_step (first | (with_reducible exact cQ _ _) | (with_reducible exact cM _ _) | (with_reducible exact cC _ _)) | quiet_step (first | (with_reducible exact cQ _ _) | (with_reducible exact cM _ _) | (with_reducible exact cC _ _)))
  refine wpQuiet_nil ?_
  intro W2 hw2
  have bw := below_of_re hw2
  have B3 := Lib.hid (Below.then' B0.out bw)
  clear hw2 cQ cM cC kg k0 k1 k2 k3 bw
  go_wp2
  go_ret
  exact ⟨rfl, B3.out⟩
/-- The first greatest square, as the library finds it. -/
theorem pick_top {D : List VIntS} (hD : RL D) (f : Sq → Int) : pickB (fun x m => decide (0 < Lib.compareInt (f (sqO x)) (f (sqO m)))) zeroIntA2 (sqV (sqs D)) = vsq (topOf D f) := by
  obtain ⟨l, hl⟩ := sqs_head hD
  rw [top_tail hl, hl]
  show (l.map vsq).foldl _ (vsq (0, 0)) = _
  have step : ∀ (l : List Sq) (b : Sq), (l.map vsq).foldl (fun m x => if decide (0 < Lib.compareInt (f (sqO x)) (f (sqO m))) = true then x else m) (vsq b) = vsq (maxFrom f b l) := by
    intro l
    induction l with
    | nil => intro b; rfl
    | cons x l ih =>
      intro b
      unfold maxFrom at *
      rw [List.map_cons, List.foldl_cons, List.foldl_cons, sqO_vsq, sqO_vsq]
      have e : (0 < Lib.compareInt (f x) (f b)) ↔ f b < f x := by
        unfold Lib.compareInt
        split
        · constructor <;> intro h <;> omega
        · split
          · constructor <;> intro h <;> omega
          · constructor <;> intro h <;> omega
      by_cases h : f b < f x
      · rw [if_pos (by simpa using e.2 h), show maxS f b x = x from by unfold maxS; rw [if_pos h]]
        exact ih x
      · rw [if_neg (by simpa using fun h2 => h (e.1 h2)), show maxS f b x = b from by unfold maxS; rw [if_neg h]]
        exact ih b
  exact step l (0, 0)
def SqOne (p : Sq) (w : World) (e : Ending) (w' : World) : Prop := e = .returned (.agg #[.int .i64 (p.1 : Int), .int .i64 (p.2 : Int)]) ∧ Below w.heap.size w w'
set_option maxHeartbeats 6400000 in
set_option maxRecDepth 100000 in
theorem firstGreatest_any (K : FuncId) (caps : Array Value) (f : Sq → Int) (a : Option Addr) (len cap : Nat) (D : List VIntS) (w : World) (h : IsIntSS w a len cap D) (hD : RL D)
    (hcall : ∀ args W, (callFunc K args).run Try.prog W = .ok (.enter K args) W)
    (hf : ∀ W (p : Sq), inR D p → Below w.heap.size w W → Calls Try.prog K (#[.agg #[.int .i64 (p.1 : Int), .int .i64 (p.2 : Int)]] ++ caps) W fun e w' => e = .returned (.int .i64 (f p)) ∧ Below W.heap.size W w') :
    Calls Try.prog 67 #[.slice a len cap, .func (.func K) #[] caps] w (SqOne (topOf D f) w) := by
  have b0 := bel_al2 w (.cells #[.func (.func K) #[] caps] 63) (.cells #[.int .i64 0, .int .i64 0] 34)
  have g0 := cell_stay (cell_box w (.func (.func K) #[] caps) 63 _ rfl) (bel_al1 _ (.cells #[.int .i64 0, .int .i64 0] 34))
  have Z0 := Lib.hid (HBIntA2.new (w.alloc (.cells #[.func (.func K) #[] caps] 63)) ⟨0, 0⟩ (w.heap.size + 1) (by simp))
  have S := Lib.hid (h.below b0)
  have B0 := Lib.hid b0
  have G0 := Lib.hid g0
  have HF := Lib.hid hf
  have HD := Lib.hid hD
  have hmf : ∀ (fn : Fn) (first cap : Array Value) (w : World), (Instr.makeFunc fn first cap).run Try.prog w = .ok (.func fn first cap) w := fun _ _ _ _ => rfl
  clear h b0 g0 hf hD
  go_enter Try.func67, Try.ntmps67
  go_wp2_with fail
  refine (reliefSquares_any _ _ _ D _ S.out HD.out).mono ?_
  rintro e w1 ⟨v, rfl, hown, hb⟩
  have B1 := Lib.hid (Below.then' B0.out hb)
  have G1 := Lib.hid (cell_stay G0.out hb)
  have Z1 := Lib.hid (Z0.out.below hb)
  obtain ⟨a1, c1, rfl, his⟩ := hown.is
  have I1 := Lib.hid his
  have hpos : 0 < (sqs D).length := by obtain ⟨l, hl⟩ := sqs_head HD.out; rw [hl]; simp
  have PT := Lib.hid (pick_top HD.out f)
  clear hown hb his
  go_wp2_with fail
  refine (maxFuncIntA2_any 91 #[.pointer (some ⟨w.heap.size, 0, none⟩)] (fun x m => Lib.compareInt (f (sqO x)) (f (sqO m))) _ _ _ (sqV (sqs D)) _ I1.out hpos (enters_fn' Try.func91 (by kernel_rfl) (by kernel_rfl)) (fun W x m hx hm hW => by
    obtain ⟨p, hp, rfl⟩ := mem_sqV hx
    obtain ⟨q, hq, rfl⟩ := mem_sqV hm
    rw [sqO_vsq, sqO_vsq]
    obtain ⟨x, y⟩ := p
    obtain ⟨u, v⟩ := q
    have h1 := cmpFn_any K caps f w.heap.size x y u v W (cell_stay G1.out hW) hcall (fun W' hW' => HF.out W' (x, y) (mem_sqs.1 hp) (Below.then' (Below.then' B1.out hW) hW')) (fun W' hW' => HF.out W' (u, v) (mem_sqs.1 hq) (Below.then' (Below.then' B1.out hW) hW'))
    simpa [vsq] using h1)).mono ?_
  rintro e w2 ⟨⟨s, hs, rfl⟩, hb⟩
  rw [PT.out] at hs
  have B2 := Lib.hid (Below.then' B1.out hb)
  have Z2 := Lib.hid (Z1.out.below hb)
  obtain ⟨d0, d1⟩ := Z2.out.cells
  have q0 := Z2.out.free 0
  have q1 := Z2.out.free 1
  subst hs
  obtain ⟨t, ht⟩ : ∃ t, topOf D f = t := ⟨_, rfl⟩
  have T := Lib.hid ht
  rw [ht]
  obtain ⟨tx, ty⟩ := t
  have ZW := Lib.hid (Z2.out.setAll ⟨(tx : Int), (ty : Int)⟩)
  clear hb ht hmf
  simp only [vsq] at d0 d1 ⊢
  go_wp2
  refine bodyPost_ret (resultsIntA21 rfl rfl ZW.out) rfl ⟨by rw [T.out], ?_⟩
  exact (B2.out.setCell (by simp) _).setCell (by simp) _
set_option maxHeartbeats 3200000 in
theorem steepFn_any (a : Option Addr) (len cap : Nat) (D : List VIntS) (b : Nat) (r c : Nat) (w : World) (h : IsIntSS w a len cap D) (hb : w.cell? ⟨b, 0, none⟩ = some (.slice a len cap)) (hD : RL D) (hr : r < D.length) (hc : c < colsN D) :
    Calls Try.prog 77 #[.agg #[.int .i64 (r : Int), .int .i64 (c : Int)], .pointer (some ⟨b, 0, none⟩)] w fun e w' => e = .returned (.int .i64 (fall D (r, c))) ∧ Below w.heap.size w w' := by
  have b0 := bel_al1 w (.cells #[.int .i64 (r : Int), .int .i64 (c : Int)] 34)
  have g0 := cell_stay hb b0
  have S := Lib.hid (h.below b0)
  have B0 := Lib.hid b0
  obtain ⟨c0, c1⟩ := (BoxIntA2.new w 34 ⟨(r : Int), (c : Int)⟩ _ rfl)
  simp only [] at c0 c1
  clear b0 h hb
  go_enter Try.func77, Try.ntmps77
  go_wp2_with fail
  refine (fallFrom_any _ _ _ D r c _ S.out hD hr hc).mono ?_
  rintro e w1 ⟨rfl, hb⟩
  have B1 := Lib.hid (Below.then' B0.out hb)
  clear hb c0 c1 g0
  go_wp2
  go_ret
  exact ⟨rfl, B1.out⟩
set_option maxHeartbeats 6400000 in
set_option maxRecDepth 100000 in
theorem implSteepestSquare_any (a : Option Addr) (len cap : Nat) (D : List VIntS) (w : World) (h : IsIntSS w a len cap D) :
    Calls Try.prog 44 #[.slice a len cap] w (SteepestSquare_Post D w) := by
  have b0 := bel_al1 w (.cells #[.slice a len cap] 24)
  have g0 := cell_box w (.slice a len cap) 24 _ rfl
  have S := Lib.hid (h.below b0)
  have B0 := Lib.hid b0
  have G0 := Lib.hid g0
  clear h b0
  obtain ⟨q, hq⟩ : ∃ q, rlB D = q := ⟨_, rfl⟩
  have Q := Lib.hid hq
  clear hq
  go_enter Try.func44, Try.ntmps44
  go_wp2_with fail
  refine (implIsRelief_any _ _ _ D _ S.out).mono ?_
  rintro e w1 ⟨rfl, hb⟩
  rw [show IsRelief_0 D = q from Q.out]
  have B1 := Lib.hid (Below.then' B0.out hb)
  have S1 := Lib.hid (S.out.below hb)
  have g1 := cell_stay G0.out hb
  have G1 := Lib.hid g1
  clear hb g0
  cases q
  · have F := Lib.hid (show steepB D = false from by unfold steepB; rw [Q.out]; rfl)
    have P0 := Lib.hid (show SteepestSquare_0 D = 0 ∧ SteepestSquare_1 D = 0 ∧ SteepestSquare_2 D = 0 ∧ SteepestSquare_3 D = false from by unfold SteepestSquare_0 SteepestSquare_1 SteepestSquare_2 SteepestSquare_3; rw [F.out]; exact ⟨rfl, rfl, rfl, rfl⟩)
    go_wp2
    refine bodyPost_ret (results_4w rfl _ _ _) rfl ⟨?_, B1.out⟩
    rw [P0.out.1, P0.out.2.1, P0.out.2.2.1, P0.out.2.2.2]; rfl
  have HD := Lib.hid (rlB_iff.1 Q.out)
  have hmf : ∀ (fn : Fn) (first cap : Array Value) (w : World), (Instr.makeFunc fn first cap).run Try.prog w = .ok (.func fn first cap) w := fun _ _ _ _ => rfl
  go_wp2_with fail
  refine (firstGreatest_any 77 #[.pointer (some ⟨w.heap.size, 0, none⟩)] (fall D) _ _ _ D _ S1.out HD.out (enters_fn' Try.func77 (by kernel_rfl) (by kernel_rfl)) (fun W p hp hW => by
    obtain ⟨x, y⟩ := p
    have h1 := steepFn_any a len cap D w.heap.size x y W (S1.out.below hW) (cell_stay G1.out hW) HD.out hp.1 hp.2
    simpa using h1)).mono ?_
  rintro e w2 ⟨rfl, hb⟩
  have TI := top_in HD.out (fall D)
  have SB := Lib.hid (show steepB D = !(fall D (topOf D (fall D)) == 0) from by unfold steepB; rw [Q.out]; rfl)
  have P0 := Lib.hid (show SteepestSquare_0 D = (if steepB D = true then ((topOf D (fall D)).1 : Int) else 0) ∧ SteepestSquare_1 D = (if steepB D = true then ((topOf D (fall D)).2 : Int) else 0) ∧ SteepestSquare_2 D = (if steepB D = true then fall D (topOf D (fall D)) else 0) ∧ SteepestSquare_3 D = steepB D from ⟨rfl, rfl, rfl, rfl⟩)
  obtain ⟨t, ht⟩ : ∃ t, topOf D (fall D) = t := ⟨_, rfl⟩
  rw [ht] at TI SB P0 ⊢
  obtain ⟨x, y⟩ := t
  obtain ⟨hx, hy⟩ := TI
  have ba := bel_al1 w2 (.cells #[.int .i64 (x : Int), .int .i64 (y : Int)] 34)
  have B2 := Lib.hid (Below.then' (Below.then' B1.out hb) ba)
  have S2 := Lib.hid (S1.out.below (Below.then' hb ba))
  have g2 := cell_stay G1.out (Below.then' hb ba)
  obtain ⟨e0, e1⟩ := BoxIntA2.new w2 34 ⟨(x : Int), (y : Int)⟩ _ rfl
  have X2 := Lib.hid (BoxIntA2.new w2 34 ⟨(x : Int), (y : Int)⟩ _ rfl)
  simp only [] at e0 e1 hx hy P0
  clear hb ba ht hmf g1
  go_wp2_with fail
  refine (fallFrom_any _ _ _ D x y _ S2.out HD.out hx hy).mono ?_
  rintro e w3 ⟨rfl, hb⟩
  have B3 := Lib.hid (Below.then' B2.out hb)
  obtain ⟨f0, f1⟩ := X2.out.below hb
  simp only [] at f0 f1
  clear hb e0 e1 g2
  obtain ⟨d, hd⟩ : ∃ d, fall D (x, y) = d := ⟨_, rfl⟩
  rw [hd] at SB P0 ⊢
  clear hd
  by_cases hz : d = 0
  · have F := Lib.hid (show steepB D = false from by rw [SB.out, hz]; rfl)
    rw [F.out] at P0
    subst hz
    clear f0 f1
    go_wp2
    refine bodyPost_ret (results_4w rfl _ _ _) rfl ⟨?_, B3.out⟩
    rw [P0.out.1, P0.out.2.1, P0.out.2.2.1, P0.out.2.2.2]; rfl
  · have F := Lib.hid (show steepB D = true from by rw [SB.out]; simp [hz])
    have c1 : (d == (0 : Int)) = false := by simp [hz]
    rw [F.out] at P0
    clear hz
    go_wp2
    go_quiet (fail)
    go_wp2
    refine bodyPost_ret (results_4w rfl _ _ _) rfl ⟨?_, Below.then' B3.out (bel_drawn _ _)⟩
    rw [P0.out.1, P0.out.2.1, P0.out.2.2.1, P0.out.2.2.2]; rfl
end Go.Proofs.Ytodjgeffkfbpiaa
