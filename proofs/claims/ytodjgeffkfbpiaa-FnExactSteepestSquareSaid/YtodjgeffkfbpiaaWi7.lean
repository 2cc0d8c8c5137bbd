/- Reliefs in the program: PitsOf, fallFrom, firstGreatest. -/
import Derived.Test.YtodjgeffkfbpiaaWi6
import Derived.Test.YtodjgeffkfbpiaaIntA2Del
import Derived.Test.YtodjgeffkfbpiaaIntA2Mm
import Derived.Test.YtodjgeffkfbpiaaOrd
import Derived.Test.YtodjgeffkfbpiaaSw
import Derived.Test.YtodjgeffkfbpiaaWh
import Derived.Test.YtodjgeffkfbpiaaPitsOfP
namespace Go.Proofs.Ytodjgeffkfbpiaa
open Go.RowKit

set_option maxHeartbeats 3200000 in
theorem pitFn_any (a : Option Addr) (len cap : Nat) (D : List VIntS) (b : Nat) (r c : Nat) (w : World) (h : IsIntSS w a len cap D) (hb : w.cell? ⟨b, 0, none⟩ = some (.slice a len cap)) (hD : RL D) (hr : r < D.length) (hc : c < colsN D) :
    Calls Try.prog 63 #[.agg #[.int .i64 (r : Int), .int .i64 (c : Int)], .pointer (some ⟨b, 0, none⟩)] w fun e w' => e = .returned (.bool (!(pitB D (r, c)))) ∧ Below w.heap.size w w' := by
  have b0 := bel_al1 w (.cells #[.int .i64 (r : Int), .int .i64 (c : Int)] 34)
  have g0 := cell_stay hb b0
  have S := Lib.hid (h.below b0)
  have B0 := Lib.hid b0
  obtain ⟨c0, c1⟩ := (BoxIntA2.new w 34 ⟨(r : Int), (c : Int)⟩ _ rfl)
  simp only [] at c0 c1
  clear b0 h hb
  go_enter Try.func63, Try.ntmps63
  go_wp2_with fail
  refine (nextSquare_any _ _ _ D r c _ S.out hD hr hc).mono ?_
  rintro e w1 ⟨rfl, hb⟩
  have B1 := Lib.hid (Below.then' B0.out hb)
  have B2 := Lib.hid (Below.then' B1.out (bel_al1 w1 (.cells #[.int .i64 ((nextSq D (r, c)).1 : Int), .int .i64 ((nextSq D (r, c)).2 : Int)] 34)))
  clear hb c0 c1 g0
  go_wp2
  go_ret
  exact ⟨rfl, B2.out⟩
def sqO (s : VIntA2) : Sq := (s.E0.toNat, s.E1.toNat)
theorem sqO_vsq (p : Sq) : sqO (vsq p) = p := by
  obtain ⟨a, b⟩ := p
  simp [sqO, vsq]
theorem mem_sqV {l : List Sq} {s : VIntA2} (h : s ∈ sqV l) : ∃ p ∈ l, s = vsq p := by
  simp only [sqV, List.mem_map] at h
  obtain ⟨p, hp, e⟩ := h
  exact ⟨p, hp, e.symm⟩
theorem filter_sqV (f : Sq → Bool) (l : List Sq) : (sqV l).filter (fun s => f (sqO s)) = sqV (l.filter f) := by
  induction l with
  | nil => rfl
  | cons x l ih =>
    simp only [sqV, List.map_cons, List.filter_cons, sqO_vsq] at ih ⊢
    split
    · rw [ih, List.map_cons]
    · exact ih
theorem SqRow.head {base : Nat} {w : World} {v : Value} {l : List Sq} (h : SqRow base w v l) (hl : 0 < l.length) : ∃ g c, v = .slice (some ⟨g, 0, none⟩) (sqV l).length c := by
  rcases h.2 with ⟨_, h0⟩ | ⟨g, cap, cur, e, _⟩
  · omega
  · exact ⟨g, cap, by rw [e, sqV_len]⟩
set_option maxHeartbeats 6400000 in
set_option maxRecDepth 100000 in
theorem implPitsOf_any (a : Option Addr) (len cap : Nat) (D : List VIntS) (w : World) (h : IsIntSS w a len cap D) :
    Calls Try.prog 23 #[.slice a len cap] w (PitsOf_Post D w) := by
  have b0 := bel_al1 w (.cells #[.slice a len cap] 24)
  have g0 := cell_box w (.slice a len cap) 24 _ rfl
  have S := Lib.hid (h.below b0)
  have B0 := Lib.hid b0
  have G0 := Lib.hid g0
  clear h b0
  obtain ⟨q, hq⟩ : ∃ q, rlB D = q := ⟨_, rfl⟩
  have Q := Lib.hid hq
  clear hq
  go_enter Try.func23, Try.ntmps23
  go_wp2_with fail
  refine (implIsRelief_any _ _ _ D _ S.out).mono ?_
  rintro e w1 ⟨rfl, hb⟩
  rw [show IsRelief_0 D = q from Q.out]
  have B1 := Lib.hid (Below.then' B0.out hb)
  have S1 := Lib.hid (S.out.below hb)
  have g1 := cell_stay G0.out hb
  have G1 := Lib.hid g1
  clear hb g0
  cases q
  · have P0 := Lib.hid (show PitsOf_0 D = [] from by unfold PitsOf_0; rw [Q.out]; rfl)
    go_wp2
    go_ret2
    exact ⟨_, by rw [show PitsOf_1 D = false from Q.out]; rfl, by rw [P0.out]; exact nil_OwnIntA2S _ _ _, B1.out⟩
  have hD := rlB_iff.1 Q.out
  have HD := Lib.hid hD
  clear hD
  have P0 := Lib.hid (show PitsOf_0 D = sqV ((sqs D).filter (pitB D)) from by unfold PitsOf_0; rw [Q.out]; rfl)
  go_wp2_with fail
  refine (reliefSquares_any _ _ _ D _ S1.out HD.out).mono ?_
  rintro e w2 ⟨v, rfl, hown, hb⟩
  have B2 := Lib.hid hb
  have hmf : ∀ (fn : Fn) (first cap : Array Value) (w : World), (Instr.makeFunc fn first cap).run Try.prog w = .ok (.func fn first cap) w := fun _ _ _ _ => rfl
  obtain ⟨l, hl⟩ := sqs_head HD.out
  obtain ⟨g, c, rfl⟩ := hown.head (by rw [hl]; simp)
  have O2 := Lib.hid hown.own
  clear hown hb g1 hl
  go_wp2_with fail
  refine (delIntA2_any 63 #[.pointer (some ⟨w.heap.size, 0, none⟩)] (fun s => !(pitB D (sqO s))) w1.heap.size g c (sqV (sqs D)) _ O2.out B2.out.size (enters_fn' Try.func63 (by kernel_rfl) (by kernel_rfl)) (fun W s hs hW => by
    obtain ⟨p, hp, rfl⟩ := mem_sqV hs
    have hbw : Below w1.heap.size w1 W := B2.out.trans hW
    rw [sqO_vsq]
    obtain ⟨x, y⟩ := p
    have hp2 := mem_sqs.1 hp
    have h1 := pitFn_any a len cap D w.heap.size x y W (S1.out.below hbw) (cell_stay G1.out hbw) HD.out hp2.1 hp2.2
    simpa [vsq] using h1)).mono ?_
  rintro e w3 ⟨rfl, hown, hb⟩
  have E := Lib.hid (show ((sqV (sqs D)).filter fun s => !(!(pitB D (sqO s)))) = sqV ((sqs D).filter (pitB D)) from by
    rw [← filter_sqV]
    congr 1
    funext s
    simp)
  rw [E.out] at hown
  rw [E.out]
  have hbw : Below w1.heap.size w1 w3 := B2.out.trans hb
  have O3 := Lib.hid (OwnIn.of_row hown (lo := w.heap.size) (hi := w3.heap.size) B1.out.size (Nat.le_refl _))
  have B3 := Lib.hid (Below.then' B1.out hbw)
  clear hown hb hbw hmf
  go_wp2
  go_ret2
  exact ⟨_, by rw [show PitsOf_1 D = true from Q.out]; rfl, by rw [P0.out]; exact O3.out, B3.out⟩
set_option maxHeartbeats 6400000 in
set_option maxRecDepth 100000 in
theorem fallFrom_any (a : Option Addr) (len cap : Nat) (D : List VIntS) (r c : Nat) (w : World) (h : IsIntSS w a len cap D) (hD : RL D) (hr : r < D.length) (hc : c < colsN D) :
    Calls Try.prog 78 #[.slice a len cap, .agg #[.int .i64 (r : Int), .int .i64 (c : Int)]] w fun e w' => e = .returned (.int .i64 (fall D (r, c))) ∧ Below w.heap.size w w' := by
  have b0 := bel_al1 w (.cells #[.int .i64 (r : Int), .int .i64 (c : Int)] 34)
  have S := Lib.hid (h.below b0)
  have B0 := Lib.hid b0
  have HD := Lib.hid hD
  have X0 := Lib.hid (BoxIntA2.new w 34 ⟨(r : Int), (c : Int)⟩ _ rfl)
  obtain ⟨c0, c1⟩ := X0.out
  simp only [] at c0 c1
  have IN := Lib.hid (show inR D (r, c) from ⟨hr, hc⟩)
  clear b0 h hD
  go_enter Try.func78, Try.ntmps78
  go_wp2_with fail
  refine (nextSquare_any _ _ _ D r c _ S.out HD.out hr hc).mono ?_
  rintro e w1 ⟨rfl, hb⟩
  have NI := next_in IN.out
  obtain ⟨_, _, _, _, y0, y1⟩ := HD.out.at IN.out
  obtain ⟨_, _, _, _, y2, y3⟩ := HD.out.at NI
  have FF := Lib.hid (show fall D (r, c) = hA D (r, c) - hA D (nextSq D (r, c)) from rfl)
  obtain ⟨m, hm⟩ : ∃ m, nextSq D (r, c) = m := ⟨_, rfl⟩
  rw [hm] at NI FF y2 y3 ⊢
  obtain ⟨mx, my⟩ := m
  obtain ⟨hmx, hmy⟩ := NI
  simp only [] at hmx hmy
  have ba := bel_al1 w1 (.cells #[.int .i64 (mx : Int), .int .i64 (my : Int)] 34)
  have B2 := Lib.hid (Below.then' (Below.then' B0.out hb) ba)
  have S2 := Lib.hid (S.out.below (Below.then' hb ba))
  obtain ⟨e0, e1⟩ := X0.out.below (Below.then' hb ba)
  obtain ⟨f0, f1⟩ := BoxIntA2.new w1 34 ⟨(mx : Int), (my : Int)⟩ _ rfl
  simp only [] at e0 e1 f0 f1
  have k0 := cell_regrown e0
  have k1 := cell_regrown e1
  have k2 := cell_regrown f0
  have k3 := cell_regrown f1
  have ws : IntKind.i64.wrap (hA D (r, c) - hA D (mx, my)) = hA D (r, c) - hA D (mx, my) := IntWalk.i64_in _ (by omega)
  have cQ := below_at (W := w1.alloc (.cells #[.int .i64 (mx : Int), .int .i64 (my : Int)] 34)) (fun W' hW => heightOf_any _ _ _ D r c W' (S2.out.below hW) HD.out hr hc)
  have cM := below_at (W := w1.alloc (.cells #[.int .i64 (mx : Int), .int .i64 (my : Int)] 34)) (fun W' hW => heightOf_any _ _ _ D mx my W' (S2.out.below hW) HD.out hmx hmy)
  clear hb ba e0 e1 f0 f1 c0 c1 hm
  go_wp2
  refine wp_region_quiet_below (by kernel_rfl) (by kernel_rfl) ?_
  repeat (first | go_big_quiet_step (first | (with_reducible exact cQ _ _) | (with_reducible exact cM _ _)) | quiet_step (first | (with_reducible exact cQ _ _) | (with_reducible exact cM _ _)))
  refine wpQuiet_nil ?_
  intro W2 hw2
  have bw := below_of_re hw2
  have B3 := Lib.hid (Below.then' B2.out bw)
  clear hw2 cQ cM k0 k1 k2 k3 bw
  go_wp2
  go_ret
  exact ⟨by rw [FF.out]; rfl, B3.out⟩
end Go.Proofs.Ytodjgeffkfbpiaa
