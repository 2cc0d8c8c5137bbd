/- The corners of some sheets, in the program: cornersOf. -/
import Derived.Test.YtidaoijpbdljbaaMiss3
import Derived.Test.YtidaoijpbdljbaaBox
import Derived.Deep.RegionHeld3
import Derived.BigRegion
namespace Go.Proofs.Ytidaoijpbdljbaa
open Go.RowKit

theorem wp_frame {P : Program} {c : Code} {Q : Exit → Act → World → Prop} {a : Act} {w : World} (A : Act) (F : World → Prop) (h1 : c.wp P (fun e a' V => e = .normal ∧ a' = A ∧ F V) a w) (h2 : ∀ V, F V → Q .normal A V) : c.wp P Q a w :=
  Code.wp_mono (fun _ _ V ⟨he, ha, hF⟩ => by subst he ha; exact h2 V hF) h1
theorem Corners.mem {ys zs : List Sh} {lo hi le ri : Int} (h : Corners ys lo hi le ri) (m : ∀ s, s ∈ zs ↔ s ∈ ys) : Corners zs lo hi le ri := by
  obtain ⟨⟨a, a1, a2⟩, a3, ⟨b, b1, b2⟩, b3, ⟨c, c1, c2⟩, c3, ⟨d, d1, d2⟩, d3⟩ := h
  exact ⟨⟨a, (m a).2 a1, a2⟩, fun s hs => a3 s ((m s).1 hs), ⟨b, (m b).2 b1, b2⟩, fun s hs => b3 s ((m s).1 hs), ⟨c, (m c).2 c1, c2⟩, fun s hs => c3 s ((m s).1 hs), ⟨d, (m d).2 d1, d2⟩, fun s hs => d3 s ((m s).1 hs)⟩

set_option maxHeartbeats 64000000 in
set_option maxRecDepth 100000 in
theorem corners_said : CornersSaid := by
  intro a len cap ys w h hpos h12
  have hm := h.2.2.1
  have hcl := h.2.1
  unfold maxLen at hm
  have S := Lib.hid h
  have L := Lib.hid h.1
  obtain ⟨s0, hs0⟩ := list_at L hpos
  obtain ⟨b, o, rfl, hb, hat⟩ := h.at hpos
  obtain ⟨c0, c1, c2, c3, c4⟩ := hat 0 s0 hs0
  simp only [Nat.zero_mul, Nat.add_zero] at c0 c1 c2 c3 c4
  have F0 := Lib.hid hs0
  clear h hat hs0
  go_enter Try.func74, Try.ntmps74
  go_wp2
  have hbw : b < w.heap.size := hb
  have hn1 : ¬ w.heap.size = b := by omega
  have hn2 : ¬ b = w.heap.size := by omega
  have hn3 : ¬ w.heap.size + 1 = b := by omega
  have hn4 : ¬ b = w.heap.size + 1 := by omega
  have hp1 : (0 : Int) < (len : Int) := by omega
  obtain ⟨r0, r1, r2, r3, r4⟩ := s0
  simp only at c0 c1 c2 c3 c4
  refine wp_world (fun W => Below w.heap.size w W ∧ HB W w.heap.size ⟨0, 0, 0, 0, 0⟩ ∧ HB W (w.heap.size + 1) ⟨0, 0, 0, 0, 0⟩ ∧ W.cell? ⟨b, o, none⟩ = some (.int .i64 r0) ∧ W.cell? ⟨b, o + 1, none⟩ = some (.int .i64 r1) ∧ W.cell? ⟨b, o + 2, none⟩ = some (.int .i64 r2) ∧ W.cell? ⟨b, o + 3, none⟩ = some (.int .i64 r3) ∧ W.cell? ⟨b, o + 4, none⟩ = some (.int .i64 r4)) ⟨bel_alloc2 _ _ _, (HB.new w ⟨0, 0, 0, 0, 0⟩).below (bel_alloc1 _ _), by have := HB.new (w.alloc (.cells #[.int .i64 0, .int .i64 0, .int .i64 0, .int .i64 0, .int .i64 0] 35)) ⟨0, 0, 0, 0, 0⟩; rwa [size_alloc] at this, ((bel_alloc2 w _ _).cell (p := ⟨b, _, none⟩) hbw).trans c0, ((bel_alloc2 w _ _).cell (p := ⟨b, _, none⟩) hbw).trans c1, ((bel_alloc2 w _ _).cell (p := ⟨b, _, none⟩) hbw).trans c2, ((bel_alloc2 w _ _).cell (p := ⟨b, _, none⟩) hbw).trans c3, ((bel_alloc2 w _ _).cell (p := ⟨b, _, none⟩) hbw).trans c4⟩ ?_
  clear c0 c1 c2 c3 c4
  rintro W ⟨hbel, hx2, hx3, c0, c1, c2, c3, c4⟩
  have BW := Lib.hid hbel
  have X2 := Lib.hid hx2
  have X3 := Lib.hid hx3
  obtain ⟨u0, u1, u2, u3, u4⟩ := hx2.cells
  obtain ⟨v0, v1, v2, v3, v4⟩ := hx3.cells
  have f0 := hx2.free 0
  have f1 := hx2.free 1
  have f2 := hx2.free 2
  have f3 := hx2.free 3
  have f4 := hx2.free 4
  have e0 := hx3.free 0
  have e1 := hx3.free 1
  have e2 := hx3.free 2
  have e3 := hx3.free 3
  have e4 := hx3.free 4
  simp only at u0 u1 u2 u3 u4 v0 v1 v2 v3 v4
  clear hx2 hx3 hbel
  apply wp_frame (F := fun V => Below w.heap.size w V ∧ HB V w.heap.size ⟨r0, r1, r2, r3, r4⟩ ∧ HB V (w.heap.size + 1) ⟨r0, r1, r2, r3, r4⟩)
  case h1 =>
    go_region_held3 (fun w' => w'.cell? ⟨b, o, none⟩ = some (.int .i64 r0) ∧ w'.cell? ⟨b, o + 1, none⟩ = some (.int .i64 r1) ∧ w'.cell? ⟨b, o + 2, none⟩ = some (.int .i64 r2) ∧ w'.cell? ⟨b, o + 3, none⟩ = some (.int .i64 r3) ∧ w'.cell? ⟨b, o + 4, none⟩ = some (.int .i64 r4)) (go_keep) (fail)
    all_goals
      refine ⟨rfl, rfl, bel_drew (below_set5 (below_set5 BW.out (Nat.le_refl _) _ _ _ _ _) (Nat.le_succ _) _ _ _ _ _), HB.drew ?_, HB.drew ?_⟩
      · exact (X2.out.set5 ⟨r0, r1, r2, r3, r4⟩).other5 (b' := w.heap.size + 1) (by omega) _ _ _ _ _
      · exact (X3.out.other5 (b' := w.heap.size) (by omega) _ _ _ _ _).set5 ⟨r0, r1, r2, r3, r4⟩
  case h2 =>
    clear c0 c1 c2 c3 c4 u0 u1 u2 u3 u4 v0 v1 v2 v3 v4 f0 f1 f2 f3 f4 e0 e1 e2 e3 e4 BW X2 X3
    rintro V ⟨hbv, h2, h3⟩
    have BV := Lib.hid hbv
    have V2 := Lib.hid h2
    have V3 := Lib.hid h3
    clear hbv h2 h3
    go_wp2
    go_loopw [14] (fun i wr => ∃ (k : Nat) (lo hi le ri : Int), k ≤ len ∧ i = .int .i64 k ∧ Corners (⟨r0, r1, r2, r3, r4⟩ :: ys.take k) lo hi le ri ∧ Below w.heap.size w wr ∧ HB wr w.heap.size ⟨r0, lo, le, r3, r4⟩ ∧ HB wr (w.heap.size + 1) ⟨r0, hi, ri, r3, r4⟩) (fun i _ => len - (intOf i).toNat)
    case atStart => exact ⟨0, r1, r1, r2, r2, Nat.zero_le _, rfl, Corners.first ⟨r0, r1, r2, r3, r4⟩, BV.out, V2.out, V3.out⟩
    case round =>
      obtain ⟨k, lo, hi', le, ri, hk, rfl, hco, hbel, h2, h3⟩ := hrel
      have CO := Lib.hid hco
      have BR := Lib.hid hbel
      have R2 := Lib.hid h2
      have R3 := Lib.hid h3
      by_cases hge : len ≤ k
      · obtain rfl : k = len := by omega
        have TK : ys.take k = ys := List.take_of_length_le (by have := L.out; omega)
        have BR2 := Lib.hid hbel
        rw [TK] at hco
        have CE := Lib.hid (hco.mem (zs := ys) (fun s => ⟨fun h => List.mem_cons_of_mem _ h, fun h => by
          rcases List.mem_cons.1 h with h | h
          · rw [h]; exact List.mem_of_getElem? F0.out
          · exact h⟩))
        obtain ⟨p0, p1, p2, p3, p4⟩ := h2.cells
        obtain ⟨q0, q1, q2, q3, q4⟩ := h3.cells
        have f0 := h2.free 0
        have f1 := h2.free 1
        have f2 := h2.free 2
        have f3 := h2.free 3
        have f4 := h2.free 4
        have g0 := h3.free 0
        have g1 := h3.free 1
        have g2 := h3.free 2
        have g3 := h3.free 3
        have g4 := h3.free 4
        simp only at p0 p1 p2 p3 p4 q0 q1 q2 q3 q4
        clear h2 h3 hbel hco TK CO BR hk
        go_wp2
        apply wp_frame (F := fun V => Below w.heap.size w V ∧ HB V w.heap.size ⟨r0, lo, le, r3, r4⟩ ∧ HB V (w.heap.size + 1) ⟨r0, hi', ri, r3, r4⟩)
        case h1 =>
          go_region
          all_goals
            refine ⟨rfl, rfl, bel_drew (below_set5 (below_set5 BR2.out (Nat.le_refl _) _ _ _ _ _) (Nat.le_succ _) _ _ _ _ _), HB.drew ?_, HB.drew ?_⟩
            · exact (R2.out.set5 ⟨r0, lo, le, r3, r4⟩).other5 (b' := w.heap.size + 1) (by omega) _ _ _ _ _
            · exact (R3.out.other5 (b' := w.heap.size) (by omega) _ _ _ _ _).set5 ⟨r0, hi', ri, r3, r4⟩
        case h2 =>
          clear p0 p1 p2 p3 p4 q0 q1 q2 q3 q4 f0 f1 f2 f3 f4 g0 g1 g2 g3 g4 R2 R3
          rintro V ⟨hbu, h2, h3⟩
          have BU := Lib.hid hbu
          obtain ⟨p0, p1, p2, p3, p4⟩ := h2.cells
          obtain ⟨q0, q1, q2, q3, q4⟩ := h3.cells
          simp only at p0 p1 p2 p3 p4 q0 q1 q2 q3 q4
          clear hbu h2 h3
          go_wp2
          refine bodyPost_ret (v := .tuple #[.agg #[.int .i64 r0, .int .i64 lo, .int .i64 le, .int .i64 r3, .int .i64 r4], .agg #[.int .i64 r0, .int .i64 hi', .int .i64 ri, .int .i64 r3, .int .i64 r4]]) (by simp [results, Try.results74, go_sem, *]) rfl ⟨⟨r0, lo, le, r3, r4⟩, ⟨r0, hi', ri, r3, r4⟩, rfl, CE.out, BU.out⟩
      · have hlt : k < len := by omega
        clear hge
        obtain ⟨s, hs⟩ := list_at L hlt
        obtain ⟨b', o', hbo, hb', hat⟩ := (S.out.below hbel).at (by omega)
        obtain ⟨rfl, rfl⟩ : b = b' ∧ o = o' := by simpa using hbo
        obtain ⟨c0, c1, c2, c3, c4⟩ := hat k s hs
        have CN := Lib.hid (CO.out.snoc s)
        have TK := Lib.hid (show ys.take (k + 1) = ys.take k ++ [s] from by rw [List.take_add_one, hs]; rfl)
        obtain ⟨s0', s1, s2, s3, s4⟩ := s
        simp only at c0 c1 c2 c3 c4
        have hi0 : (0 : Int) ≤ (k : Int) := by omega
        have hi1 : (k : Int) < (len : Int) := by omega
        have hw5 : w.heap.size + 1 < wr.heap.size := h3.lt
        clear hbel hs hat hco h2 h3 hbo
        go_wp2
        obtain ⟨n5, hn5⟩ : ∃ n, wr.heap.size = n := ⟨_, rfl⟩
        have HX := Lib.hid (HB.new wr ⟨s0', s1, s2, s3, s4⟩)
        rw [hn5] at hw5 HX ⊢
        refine wp_world (fun W => Below w.heap.size w W ∧ HB W w.heap.size ⟨r0, lo, le, r3, r4⟩ ∧ HB W (w.heap.size + 1) ⟨r0, hi', ri, r3, r4⟩ ∧ HB W n5 ⟨s0', s1, s2, s3, s4⟩) ⟨Below.then' BR.out (bel_alloc1 _ _), R2.out.below (bel_alloc1 _ _), R3.out.below (bel_alloc1 _ _), HX.out⟩ ?_
        clear c0 c1 c2 c3 c4 hn5 HX BR R2 R3
        rintro U ⟨hbu, h2, h3, h5⟩
        have BU := Lib.hid hbu
        have U2 := Lib.hid h2
        have U3 := Lib.hid h3
        have U5 := Lib.hid h5
        obtain ⟨_, p1, p2, _, _⟩ := h2.cells
        obtain ⟨_, q1, q2, _, _⟩ := h5.cells
        have f1 := h2.free 1
        have f2 := h2.free 2
        have m1 : ¬ w.heap.size = n5 := by omega
        have m2 : ¬ n5 = w.heap.size := by omega
        have m3 : ¬ w.heap.size + 1 = n5 := by omega
        have m4 : ¬ n5 = w.heap.size + 1 := by omega
        simp only at p1 p2 q1 q2
        clear hbu h2 h3 h5
        apply wp_frame (F := fun V => Below w.heap.size w V ∧ HB V w.heap.size ⟨r0, min lo s1, min le s2, r3, r4⟩ ∧ HB V (w.heap.size + 1) ⟨r0, hi', ri, r3, r4⟩ ∧ HB V n5 ⟨s0', s1, s2, s3, s4⟩)
        case h1 =>
          go_region
          all_goals
            exact ⟨rfl, rfl, bel_drew (below_set2 BU.out (Nat.le_refl _) _ _), HB.drew (HB.set12 U2.out _ _), HB.drew (HB.other2 U3.out (show w.heap.size + 1 ≠ w.heap.size by omega) _ _), HB.drew (HB.other2 U5.out m2 _ _)⟩
        case h2 =>
          clear p1 p2 q1 q2 f1 f2 BU U2 U3 U5
          rintro X ⟨hbu, h2, h3, h5⟩
          have BU := Lib.hid hbu
          have U2 := Lib.hid h2
          have U3 := Lib.hid h3
          have U5 := Lib.hid h5
          obtain ⟨_, p1, p2, _, _⟩ := h3.cells
          obtain ⟨_, q1, q2, _, _⟩ := h5.cells
          have f1 := h3.free 1
          have f2 := h3.free 2
          simp only at p1 p2 q1 q2
          clear hbu h2 h3 h5
          go_wp2
          apply wp_frame (F := fun V => Below w.heap.size w V ∧ HB V w.heap.size ⟨r0, min lo s1, min le s2, r3, r4⟩ ∧ HB V (w.heap.size + 1) ⟨r0, max hi' s1, max ri s2, r3, r4⟩)
          case h1 =>
            obtain ⟨n3, hn3⟩ : ∃ n, w.heap.size + 1 = n := ⟨_, rfl⟩
            rw [hn3] at p1 p2 f1 f2 m3 m4 ⊢
            have N3 := Lib.hid hn3
            clear hn3
            go_region
            all_goals
              obtain rfl := N3.out
              refine ⟨rfl, rfl, ?_, ?_, ?_⟩
              · exact bel_drew (below_set2 BU.out (Nat.le_succ _) _ _)
              · exact HB.drew (HB.other2 U2.out (show w.heap.size ≠ w.heap.size + 1 by omega) _ _)
              · exact HB.drew (HB.set12 U3.out _ _)
          case h2 =>
            clear p1 p2 q1 q2 f1 f2 BU U2 U3 U5
            rintro V ⟨hbu, h2, h3⟩
            have BU := Lib.hid hbu
            have U2 := Lib.hid h2
            have U3 := Lib.hid h3
            clear hbu h2 h3
            go_wp2
            go_roundw
            case rel => exact ⟨k + 1, _, _, _, _, by omega, by go_num, by rw [TK.out]; exact CN.out, BU.out, U2.out, U3.out⟩
            case measure => simp [intOf]; omega
end Go.Proofs.Ytidaoijpbdljbaa
