/- ParseSheet in the model: five words between spaces, and the sheet of their numbers. -/
import Derived.Test.YtidaoijpbdljbaaDoorParseImpl
import Derived.Laws.OwnMore
import Derived.WalkLawsBesides
namespace Go.Proofs.YtidaoijpbdljbaaDoor
open Go.RowKit

theorem readV (s : ByteArray) (w : World) (hs : s.size ≤ 1048576) :
    Calls Tryd.prog 24 #[.string s] w fun e w' => e = .returned (.tuple #[.int .i64 (parseV s).1, .bool (parseV s).2]) ∧ ∃ m, w' = w.drewN m :=
  (read_any s w hs).mono fun _ _ ⟨r, b, he, hp, hb⟩ => by
    obtain ⟨rfl, rfl⟩ := hp.one (parseV_is s)
    exact ⟨he, hb⟩
set_option maxHeartbeats 800000 in
theorem l2Cut_any (word : ByteArray) (f l : Nat) (w : World) (hw : word.size ≤ 1048576) (hf : f ≤ 10) (hl : l ≤ 10) :
    Calls Tryd.prog 16 #[.string word, .int .i64 (f : Int), .int .i64 (l : Int)] w fun e w' => e = .returned (.int .i64 (cutV word f l)) ∧ ∃ m, w' = w.drewN m := by
  by_cases h : word.size ≤ f + l
  · have h1 : (word.size : Int) ≤ (f : Int) + (l : Int) := by omega
    have C := Lib.hid (show cutV word f l = -1 from by unfold cutV; rw [if_pos h])
    go_enter Tryd.func16, Tryd.ntmps16
    go_wp2
    go_ret
    exact ⟨ret_int C.out.symm, 0, rfl⟩
  · have h1 : ¬ (word.size : Int) ≤ (f : Int) + (l : Int) := by omega
    have h2 : (0 : Int) ≤ (f : Int) := by omega
    have h3 : (f : Int) ≤ (word.size : Int) - (l : Int) := by omega
    have h4 : (word.size : Int) - (l : Int) ≤ (word.size : Int) := by omega
    have h5 : ((word.size : Int) - (l : Int)).toNat = word.size - l := by omega
    obtain ⟨t, ht⟩ : ∃ t, word.extract f (word.size - l) = t := ⟨_, rfl⟩
    have hts : t.size ≤ 1048576 := by rw [← ht, ByteArray.size_extract]; omega
    obtain ⟨n, hn⟩ : ∃ n, (parseV t).1 = n := ⟨_, rfl⟩
    obtain ⟨q, hq⟩ : ∃ q, (parseV t).2 = q := ⟨_, rfl⟩
    have C := Lib.hid (show cutV word f l = if q = true then n else -1 from by unfold cutV; rw [if_neg h, ht, hn, hq])
    have R := Lib.hid (show ∀ W, Calls Tryd.prog 24 #[.string t] W fun e w' => e = .returned (.tuple #[.int .i64 n, .bool q]) ∧ ∃ m, w' = W.drewN m from fun W => by
      have := readV t W hts
      rw [hn, hq] at this
      exact this)
    have E := Lib.hid ht
    clear ht hn hq h
    go_enter Tryd.func16, Tryd.ntmps16
    go_wp2_with fail
    rw [E.out]
    refine (R.out _).mono ?_
    rintro e w' ⟨rfl, m, rfl⟩
    cases q
    · go_wp2
      go_ret
      exact ⟨ret_int (by rw [C.out]; simp), m, rfl⟩
    · go_wp2
      go_ret
      exact ⟨ret_int (by rw [C.out]; simp), m, rfl⟩

theorem splitR_small (s : ByteArray) (cv : Int) : ∀ (d f k : Nat), s.size - k = d → k ≤ s.size → ∀ x ∈ splitR s cv f k, x.size ≤ s.size := by
  intro d
  induction d with
  | zero =>
    intro f k hd hk x hx
    obtain rfl : k = s.size := by omega
    rw [splitR_end] at hx
    obtain rfl := List.mem_singleton.1 hx
    rw [ByteArray.size_extract]; omega
  | succ d ih =>
    intro f k hd hk x hx
    by_cases hc : (s[k].toNat : Int) = cv
    · rw [splitR_hit (by omega) hc] at hx
      rcases List.mem_cons.1 hx with rfl | hx
      · rw [ByteArray.size_extract]; omega
      · exact ih (k + 1) (k + 1) (by omega) (by omega) x hx
    · rw [splitR_miss (by omega) hc] at hx
      exact ih f (k + 1) (by omega) (by omega) x hx

theorem wp_frame {P : Program} {c : Code} {Q : Exit → Act → World → Prop} {a : Act} {w : World} (A : Act) (F : World → Prop) (h1 : c.wp P (fun e a' V => e = .normal ∧ a' = A ∧ F V) a w) (h2 : ∀ V, F V → Q .normal A V) : c.wp P Q a w :=
  Code.wp_mono (fun _ _ V ⟨he, ha, hF⟩ => by subst he ha; exact h2 V hF) h1
theorem build5 (W : World) (t : TypeId) (a b c d e : Int) (m : Nat) :
    Below W.heap.size W (((((((W.alloc (.cells #[.int .i64 0, .int .i64 0, .int .i64 0, .int .i64 0, .int .i64 0] t)).drewN m).setCell ⟨W.heap.size, 0, none⟩ (.int .i64 a)).setCell ⟨W.heap.size, 1, none⟩ (.int .i64 b)).setCell ⟨W.heap.size, 2, none⟩ (.int .i64 c)).setCell ⟨W.heap.size, 3, none⟩ (.int .i64 d)).setCell ⟨W.heap.size, 4, none⟩ (.int .i64 e)) ∧
    BoxAt (((((((W.alloc (.cells #[.int .i64 0, .int .i64 0, .int .i64 0, .int .i64 0, .int .i64 0] t)).drewN m).setCell ⟨W.heap.size, 0, none⟩ (.int .i64 a)).setCell ⟨W.heap.size, 1, none⟩ (.int .i64 b)).setCell ⟨W.heap.size, 2, none⟩ (.int .i64 c)).setCell ⟨W.heap.size, 3, none⟩ (.int .i64 d)).setCell ⟨W.heap.size, 4, none⟩ (.int .i64 e)) W.heap.size ⟨a, b, c, d, e⟩ := by
  have hb : Below W.heap.size W ((W.alloc (.cells #[.int .i64 0, .int .i64 0, .int .i64 0, .int .i64 0, .int .i64 0] t)).drewN m) := Below.then' (bel_alloc1 _ _) (bel_drawn _ _)
  have h0 : ((W.alloc (.cells #[.int .i64 0, .int .i64 0, .int .i64 0, .int .i64 0, .int .i64 0] t)).drewN m).heap[W.heap.size]? = some (.cells #[.int .i64 0, .int .i64 0, .int .i64 0, .int .i64 0, .int .i64 0] t (0, 0)) := heap_alloc_new W _
  have h1 := heap_setCell_same _ W.heap.size 0 _ t (.int .i64 a) h0
  have h2 := heap_setCell_same _ W.heap.size 1 _ t (.int .i64 b) h1
  have h3 := heap_setCell_same _ W.heap.size 2 _ t (.int .i64 c) h2
  have h4 := heap_setCell_same _ W.heap.size 3 _ t (.int .i64 d) h3
  have h5 := heap_setCell_same _ W.heap.size 4 _ t (.int .i64 e) h4
  refine ⟨?_, ?_⟩
  · exact ((((hb.setCell (p := ⟨W.heap.size, 0, none⟩) (Nat.le_refl _) _).setCell (p := ⟨W.heap.size, 1, none⟩) (Nat.le_refl _) _).setCell (p := ⟨W.heap.size, 2, none⟩) (Nat.le_refl _) _).setCell (p := ⟨W.heap.size, 3, none⟩) (Nat.le_refl _) _).setCell (p := ⟨W.heap.size, 4, none⟩) (Nat.le_refl _) _
  · generalize (((((((W.alloc (.cells #[.int .i64 0, .int .i64 0, .int .i64 0, .int .i64 0, .int .i64 0] t)).drewN m).setCell ⟨W.heap.size, 0, none⟩ (.int .i64 a)).setCell ⟨W.heap.size, 1, none⟩ (.int .i64 b)).setCell ⟨W.heap.size, 2, none⟩ (.int .i64 c)).setCell ⟨W.heap.size, 3, none⟩ (.int .i64 d)).setCell ⟨W.heap.size, 4, none⟩ (.int .i64 e)) = V at h5 ⊢
    refine ⟨?_, ?_, ?_, ?_, ?_⟩ <;> simp [World.cell?, h5]

set_option maxHeartbeats 6400000 in
set_option maxRecDepth 100000 in
theorem specParseSheet_any (s : ByteArray) (w : World) (hs : s.size ≤ 1048576) :
    Calls Tryd.prog 8 #[.string s] w (ParsePost (specP s) w) := by
  have Z1 := Lib.hid (zeroAt_new w 26)
  have B1 := Lib.hid (bel_alloc1 w (.cells #[.int .i64 0, .int .i64 0, .int .i64 0, .int .i64 0, .int .i64 0] 26))
  have SZ := Lib.hid (splitR_small s 32 _ 0 0 rfl (by omega))
  have SL := Lib.hid (splitR_len s 32 _ 0 0 rfl (by omega))
  go_enter Tryd.func8, Tryd.ntmps8
  go_wp2_with fail
  refine (l1Split_any s 32 _ hs).mono ?_
  rintro e w2 ⟨v, rfl, hown, hb2⟩
  obtain ⟨ws, hws⟩ : ∃ ws, splitR s 32 0 0 = ws := ⟨_, rfl⟩
  rw [hws] at hown
  have WS := Lib.hid hws
  have B2 := Lib.hid (Below.then' B1.out hb2)
  have Z2 := Lib.hid (Z1.out.below hb2)
  have O2 := Lib.hid hown
  clear hb2
  have hvl : ∃ a c, v = .slice a ws.length c := by
    rcases hown.2 with ⟨rfl, h0⟩ | ⟨g, cap, cur, rfl, _⟩
    · exact ⟨none, 0, by rw [h0]⟩
    · exact ⟨_, _, rfl⟩
  obtain ⟨aa, cc, rfl⟩ := hvl
  clear hown
  by_cases h5 : ws.length = 5
  · obtain ⟨a, b, c, d, e, rfl⟩ : ∃ a b c d e, ws = [a, b, c, d, e] := by
      match ws, h5 with
      | [a, b, c, d, e], _ => exact ⟨a, b, c, d, e, rfl⟩
    obtain ⟨g, rfl, hcl, hcm⟩ : ∃ g, aa = some ⟨g, 0, none⟩ ∧ 5 ≤ cc ∧ cc ≤ maxLen := by
      rcases O2.out.2 with ⟨e, _⟩ | ⟨g', cap', cur, e, _, _, h1, h2, _⟩
      · cases e
      · cases e; exact ⟨g', rfl, h1, h2⟩
    have q := O2.out.cells (g := g) rfl
    have q0 := q 0 (.string a) rfl
    have q1 := q 1 (.string b) rfl
    have q2 := q 2 (.string c) rfl
    have q3 := q 3 (.string d) rfl
    have q4 := q 4 (.string e) rfl
    rw [add_plain, Nat.zero_add] at q0 q1 q2 q3 q4
    unfold maxLen at hcm
    have sz : ∀ x ∈ [a, b, c, d, e], x.size ≤ 1048576 := fun x hx => by
      have := SZ.out x (by rw [WS.out]; exact hx)
      omega
    obtain ⟨n0, hn0⟩ : ∃ n, cutV a 0 1 = n := ⟨_, rfl⟩
    obtain ⟨n1, hn1⟩ : ∃ n, cutV b 1 0 = n := ⟨_, rfl⟩
    obtain ⟨n2, hn2⟩ : ∃ n, cutV c 1 0 = n := ⟨_, rfl⟩
    obtain ⟨n3, hn3⟩ : ∃ n, cutV d 2 3 = n := ⟨_, rfl⟩
    obtain ⟨n4, hn4⟩ : ∃ n, cutV e 0 0 = n := ⟨_, rfl⟩
    have k0 := Lib.hid (show ∀ W, Calls Tryd.prog 16 #[.string a, .int .i64 0, .int .i64 1] W fun e w' => e = .returned (.int .i64 n0) ∧ ∃ m, w' = W.drewN m from fun W => hn0 ▸ l2Cut_any a 0 1 W (sz a (by simp)) (by omega) (by omega))
    have k1 := Lib.hid (show ∀ W, Calls Tryd.prog 16 #[.string b, .int .i64 1, .int .i64 0] W fun e w' => e = .returned (.int .i64 n1) ∧ ∃ m, w' = W.drewN m from fun W => hn1 ▸ l2Cut_any b 1 0 W (sz b (by simp)) (by omega) (by omega))
    have k2 := Lib.hid (show ∀ W, Calls Tryd.prog 16 #[.string c, .int .i64 1, .int .i64 0] W fun e w' => e = .returned (.int .i64 n2) ∧ ∃ m, w' = W.drewN m from fun W => hn2 ▸ l2Cut_any c 1 0 W (sz c (by simp)) (by omega) (by omega))
    have k3 := Lib.hid (show ∀ W, Calls Tryd.prog 16 #[.string d, .int .i64 2, .int .i64 3] W fun e w' => e = .returned (.int .i64 n3) ∧ ∃ m, w' = W.drewN m from fun W => hn3 ▸ l2Cut_any d 2 3 W (sz d (by simp)) (by omega) (by omega))
    have k4 := Lib.hid (show ∀ W, Calls Tryd.prog 16 #[.string e, .int .i64 0, .int .i64 0] W fun e w' => e = .returned (.int .i64 n4) ∧ ∃ m, w' = W.drewN m from fun W => hn4 ▸ l2Cut_any e 0 0 W (sz e (by simp)) (by omega) (by omega))
    have SP := Lib.hid (show specP s = if (⟨n0, n1, n2, n3, n4⟩ : Sh).ok = true ∧ (shText ⟨n0, n1, n2, n3, n4⟩).data.toList = s.data.toList then some ⟨n0, n1, n2, n3, n4⟩ else none from by
      have hw : wordsSh [a, b, c, d, e] = ⟨n0, n1, n2, n3, n4⟩ := by
        unfold wordsSh
        simp only [List.getD_cons_zero, List.getD_cons_succ]
        rw [hn0, hn1, hn2, hn3, hn4]
      unfold specP
      rw [WS.out, hw]
      simp)
    clear hn0 hn1 hn2 hn3 hn4 q sz hws h5
    go_wp2
    refine wp_world (fun W => Below w.heap.size w W ∧ ZeroAt W w.heap.size ∧ W.cell? ⟨g, 0, none⟩ = some (.string a) ∧ W.cell? ⟨g, 1, none⟩ = some (.string b) ∧ W.cell? ⟨g, 2, none⟩ = some (.string c) ∧ W.cell? ⟨g, 3, none⟩ = some (.string d) ∧ W.cell? ⟨g, 4, none⟩ = some (.string e)) ⟨B2.out, Z2.out, q0, q1, q2, q3, q4⟩ ?_
    clear q0 q1 q2 q3 q4
    rintro W ⟨hbw, hzw, q0, q1, q2, q3, q4⟩
    have BW := Lib.hid hbw
    have ZW := Lib.hid hzw
    clear hbw hzw
    have da : ∀ (V : World) (m : Nat) (o : Obj), (V.drewN m).alloc o = (V.alloc o).drewN m := fun _ _ _ => rfl
    apply wp_frame (F := fun V => Below W.heap.size W V ∧ BoxAt V W.heap.size ⟨n0, n1, n2, n3, n4⟩)
    case h1 =>
      have e0 := World.new_ne W ⟨g, 0, none⟩ q0
      have e1 := World.new_ne W ⟨g, 1, none⟩ q1
      have e2 := World.new_ne W ⟨g, 2, none⟩ q2
      have e3 := World.new_ne W ⟨g, 3, none⟩ q3
      have e4 := World.new_ne W ⟨g, 4, none⟩ q4
      have hgl : g < W.heap.size := World.lt_of_cell q0
      have hgn : ¬ W.heap.size = g := by omega
      have hgn2 : ¬ g = W.heap.size := by omega
      go_region_held3 (fun w' => w'.cell? ⟨g, 0, none⟩ = some (.string a) ∧ w'.cell? ⟨g, 1, none⟩ = some (.string b) ∧ w'.cell? ⟨g, 2, none⟩ = some (.string c) ∧ w'.cell? ⟨g, 3, none⟩ = some (.string d) ∧ w'.cell? ⟨g, 4, none⟩ = some (.string e)) (go_keep) (first | (go_at_call 16; (with_reducible refine (k0.out _).mono ?_); rintro e w' ⟨rfl, m, rfl⟩) | (go_at_call 16; (with_reducible refine (k1.out _).mono ?_); rintro e w' ⟨rfl, m, rfl⟩) | (go_at_call 16; (with_reducible refine (k2.out _).mono ?_); rintro e w' ⟨rfl, m, rfl⟩) | (go_at_call 16; (with_reducible refine (k3.out _).mono ?_); rintro e w' ⟨rfl, m, rfl⟩) | (go_at_call 16; (with_reducible refine (k4.out _).mono ?_); rintro e w' ⟨rfl, m, rfl⟩))
      all_goals exact ⟨rfl, rfl, build5 W 26 n0 n1 n2 n3 n4 _⟩
    case h2 =>
      clear q0 q1 q2 q3 q4
      rintro V ⟨hbv, hbox⟩
      have BV := Lib.hid (Below.then' BW.out hbv)
      have BX := Lib.hid hbox
      have ZV := Lib.hid (ZW.out.below hbv)
      obtain ⟨e0, e1, e2, e3, e4⟩ := hbox
      clear hbv
      simp only at e0 e1 e2 e3 e4
      go_wp2_with fail
      refine (l2Sheet_any ⟨n0, n1, n2, n3, n4⟩ _).mono ?_
      rintro y w5 ⟨rfl, hb5⟩
      have B5 := Lib.hid (Below.then' BV.out hb5)
      have Z5 := Lib.hid (ZV.out.below hb5)
      have X5 := Lib.hid (BX.out.below hb5)
      clear hb5 e0 e1 e2 e3 e4
      obtain ⟨q, hq⟩ : ∃ q, (⟨n0, n1, n2, n3, n4⟩ : Sh).ok = q := ⟨_, rfl⟩
      rw [hq]
      have HQ := Lib.hid hq
      clear hq
      cases q
      · obtain ⟨⟨z0, z1, z2, z3, z4⟩, zf⟩ := Z5.out
        have f0 := zf 0
        have f1 := zf 1
        have f2 := zf 2
        have f3 := zf 3
        have f4 := zf 4
        simp only at z0 z1 z2 z3 z4
        clear zf
        go_wp2
        refine bodyPost_ret (v := .tuple #[.agg #[.int .i64 0, .int .i64 0, .int .i64 0, .int .i64 0, .int .i64 0], .bool false]) (by simp [results, Tryd.results8, go_sem, *]) rfl (.inr ⟨by rw [SP.out, HQ.out]; simp, rfl, ?_⟩)
        repeat (first | exact B5.out | refine Below.setCell ?_ (by simp) _)
      · obtain ⟨e0, e1, e2, e3, e4⟩ := X5.out
        simp only at e0 e1 e2 e3 e4
        go_wp2_with fail
        refine (l2Text_any ⟨n0, n1, n2, n3, n4⟩ _ HQ.out).mono ?_
        rintro y w6 ⟨rfl, hb6⟩
        have B6 := Lib.hid (Below.then' B5.out hb6)
        obtain ⟨⟨z0, z1, z2, z3, z4⟩, zf⟩ := Z5.out.below hb6
        obtain ⟨g0, g1, g2, g3, g4⟩ := X5.out.below hb6
        have f0 := zf 0
        have f1 := zf 1
        have f2 := zf 2
        have f3 := zf 3
        have f4 := zf 4
        simp only at z0 z1 z2 z3 z4 g0 g1 g2 g3 g4
        clear zf hb6 e0 e1 e2 e3 e4
        obtain ⟨t, ht⟩ : ∃ t, shText ⟨n0, n1, n2, n3, n4⟩ = t := ⟨_, rfl⟩
        rw [ht]
        have NE : W.heap.size ≠ w.heap.size := by have := ZW.out.1.lt; omega
        by_cases hts : t = s
        · have SQ := Lib.hid (show specP s = some ⟨n0, n1, n2, n3, n4⟩ from by rw [SP.out, if_pos ⟨HQ.out, by rw [ht, hts]⟩])
          subst hts
          have hself := eq_testT (rfl : t = t)
          clear ht
          go_wp2
          refine bodyPost_ret (v := .tuple #[.agg #[.int .i64 n0, .int .i64 n1, .int .i64 n2, .int .i64 n3, .int .i64 n4], .bool true]) (by simp [results, Tryd.results8, go_sem, *]) rfl (.inl ⟨⟨n0, n1, n2, n3, n4⟩, SQ.out, rfl, ?_⟩)
          repeat (first | exact B6.out | refine Below.setCell ?_ (by simp) _)
        · have SQ := Lib.hid (show specP s = none from by rw [SP.out, if_neg (fun h => hts (by rw [← ht]; exact bytes_ext h.2))])
          have hself := ne_testT hts
          clear ht
          go_wp2
          refine bodyPost_ret (v := .tuple #[.agg #[.int .i64 0, .int .i64 0, .int .i64 0, .int .i64 0, .int .i64 0], .bool false]) (by simp [results, Tryd.results8, go_sem, *]) rfl (.inr ⟨SQ.out, rfl, ?_⟩)
          repeat (first | exact B6.out | refine Below.setCell ?_ (by simp) _)
  · have SP := Lib.hid (show specP s = none from by unfold specP; rw [WS.out, if_neg (fun h => h5 h.1)])
    have hne : ¬ ((ws.length : Int) = 5) := by omega
    have hne2 : ((ws.length : Int) != 5) = true := by simpa using hne
    obtain ⟨⟨z0, z1, z2, z3, z4⟩, zf⟩ := Z2.out
    have f0 := zf 0
    have f1 := zf 1
    have f2 := zf 2
    have f3 := zf 3
    have f4 := zf 4
    clear zf hws
    go_wp2
    refine bodyPost_ret (v := .tuple #[.agg #[.int .i64 0, .int .i64 0, .int .i64 0, .int .i64 0, .int .i64 0], .bool false]) (by simp [results, Tryd.results8, go_sem, *]) rfl (.inr ⟨SP.out, rfl, ?_⟩)
    repeat (first | exact B2.out | refine Below.setCell ?_ (by simp) _)
end Go.Proofs.YtidaoijpbdljbaaDoor
