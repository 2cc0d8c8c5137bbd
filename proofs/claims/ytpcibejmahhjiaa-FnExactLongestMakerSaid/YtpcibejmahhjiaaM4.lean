/- Texts in one: MakerId, Mi, Fb0, MakerFb, Mi2, IsMakerP, AreMakersP, LineOfP. -/
import Derived.Test.YtpcibejmahhjiaaM3
import Derived.Test.YtpcibejmahhjiaaM2
namespace Go.Proofs.Ytpcibejmahhjiaa
open Go.RowKit

set_option maxHeartbeats 3200000 in
set_option maxRecDepth 100000 in
theorem idIsMaker_any (K : FuncId) (idf : VMaker → Int) (s : VMaker) (id : Int) (b1 b2 : Nat) (w : World) (h1 : w.cell? ⟨b1, 0, none⟩ = some (.func (.func K) #[] #[])) (h2 : w.cell? ⟨b2, 0, none⟩ = some (.int .i64 id))
    (hcall : ∀ args W, (callFunc K args).run Try.prog W = .ok (.enter K args) W)
    (hf : ∀ W, Calls Try.prog K #[.agg #[.int .i64 s.Id, .string s.Name, .int .i64 s.From, .int .i64 s.Until, .int .i64 s.Heir]] W fun e w' => e = .returned (.int .i64 (idf s)) ∧ Below W.heap.size W w') :
    Calls Try.prog 104 #[.agg #[.int .i64 s.Id, .string s.Name, .int .i64 s.From, .int .i64 s.Until, .int .i64 s.Heir], .pointer (some ⟨b1, 0, none⟩), .pointer (some ⟨b2, 0, none⟩)] w fun e w' => e = .returned (.bool (idf s == id)) ∧ Below w.heap.size w w' := by
  obtain ⟨y, hy⟩ : ∃ y, idf s = y := ⟨_, rfl⟩
  rw [hy]
  rw [hy] at hf
  have F := Lib.hid hf
  have H1 := Lib.hid h1
  have H2 := Lib.hid h2
  have HC := Lib.hid hcall
  clear hf hy h1 h2 hcall
  go_enter Try.func104, Try.ntmps104
  go_wp2
  refine wp_world (fun W => BoxMaker W w.heap.size s ∧ Below w.heap.size w W) ⟨(BoxMaker.new _ 42 s _ rfl), bel_al1 _ _⟩ ?_
  rintro W ⟨hbox, hbw⟩
  have BW := Lib.hid hbw
  obtain ⟨e0, e1, e2, e3, e4⟩ := hbox
  have g1 := cell_regrown (cell_stay' H1.out hbw)
  have g2 := cell_regrown (cell_stay' H2.out hbw)
  clear hbw
  have k0 := cell_regrown e0
  have k1 := cell_regrown e1
  have k2 := cell_regrown e2
  have k3 := cell_regrown e3
  have k4 := cell_regrown e4
  clear e0 e1 e2 e3 e4
  have cQ := below_at (W := W) (fun W' _ => F.out W')
  have hcall := HC.out
  refine wp_region_quiet_below (by kernel_rfl) (by kernel_rfl) ?_
  repeat (first | go_big_quiet_step (first | (with_reducible exact cQ _ _)) | quiet_step (first | (with_reducible exact cQ _ _)))
  refine wpQuiet_nil ?_
  intro W2 hw2
  have B2 := Lib.hid (Below.then' BW.out (below_of_re hw2))
  clear hw2 cQ k0 k1 k2 k3 k4 g1 g2 hcall
  go_wp2
  go_ret
  exact ⟨rfl, B2.out⟩
set_option maxHeartbeats 3200000 in
set_option maxRecDepth 100000 in
theorem indexByMaker_any (K : FuncId) (idf : VMaker → Int) (a : Option Addr) (len cap : Nat) (xs : List VMaker) (id : Int) (w : World) (h : IsMakerS w a len cap xs)
    (hcall : ∀ args W, (callFunc K args).run Try.prog W = .ok (.enter K args) W)
    (hf : ∀ (W : World) (s : VMaker), Calls Try.prog K #[.agg #[.int .i64 s.Id, .string s.Name, .int .i64 s.From, .int .i64 s.Until, .int .i64 s.Heir]] W fun e w' => e = .returned (.int .i64 (idf s)) ∧ Below W.heap.size W w') :
    Calls Try.prog 93 #[.slice a len cap, .int .i64 id, .func (.func K) #[] #[]] w fun e w' => e = .returned (.int .i64 (firstOf (fun s => idf s == id) xs)) ∧ Below w.heap.size w w' := by
  have b1 := wh_al1 w (.cells #[.int .i64 id] 3)
  have b2 := Below.then' b1 (wh_al1 (w.alloc (.cells #[.int .i64 id] 3)) (.cells #[.func (.func K) #[] #[]] 73))
  have S := Lib.hid (h.below b2)
  have C1 := Lib.hid (cell_stay' (cell_box' w (.int .i64 id) 3 _ rfl) (wh_al1 (w.alloc (.cells #[.int .i64 id] 3)) (.cells #[.func (.func K) #[] #[]] 73)))
  have C2 := Lib.hid (cell_box' (w.alloc (.cells #[.int .i64 id] 3)) (.func (.func K) #[] #[]) 73 (w.heap.size + 1) (by simp))
  have B0 := Lib.hid b2
  have F := Lib.hid hf
  have HC := Lib.hid hcall
  clear h b1 b2 hf hcall
  go_enter Try.func93, Try.ntmps93
  go_wp2_with fail
  refine (idxMaker_any 104 #[.pointer (some ⟨w.heap.size + 1, 0, none⟩), .pointer (some ⟨w.heap.size, 0, none⟩)] (fun s => idf s == id) a len cap xs _ S.out (enters_fn' Try.func104 (by kernel_rfl) (by kernel_rfl)) (fun W s _ hW => by
    have h1 := idIsMaker_any K idf s id (w.heap.size + 1) w.heap.size W (cell_stay' C2.out hW) (cell_stay' C1.out hW) HC.out (fun W' => F.out W' s)
    simpa using h1)).mono ?_
  rintro e w1 ⟨rfl, hb⟩
  have B := Lib.hid (Below.then' B0.out hb)
  clear hb
  go_wp2
  go_ret
  exact ⟨rfl, B.out⟩
set_option maxHeartbeats 6400000 in
set_option maxRecDepth 100000 in
theorem idsWhereMaker_any (K1 K : FuncId) (idf : VMaker → Int) (caps : Array Value) (f : VMaker → Bool) (a : Option Addr) (len cap : Nat) (xs : List VMaker) (w : World) (h : IsMakerS w a len cap xs) (hl : xs.length ≤ 100000)
    (hcall1 : ∀ args W, (callFunc K1 args).run Try.prog W = .ok (.enter K1 args) W) (hcall : ∀ args W, (callFunc K args).run Try.prog W = .ok (.enter K args) W)
    (hi1 : ∀ (W : World) (s : VMaker), Calls Try.prog K1 #[.agg #[.int .i64 s.Id, .string s.Name, .int .i64 s.From, .int .i64 s.Until, .int .i64 s.Heir]] W fun e w' => e = .returned (.int .i64 (idf s)) ∧ Below W.heap.size W w')
    (hf : ∀ (W : World) (s : VMaker), s ∈ xs → s.small → Below w.heap.size w W → Calls Try.prog K (#[.agg #[.int .i64 s.Id, .string s.Name, .int .i64 s.From, .int .i64 s.Until, .int .i64 s.Heir]] ++ caps) W fun e w' => e = .returned (.bool (f s)) ∧ Below W.heap.size W w') :
    Calls Try.prog 78 #[.slice a len cap, .func (.func K1) #[] #[], .func (.func K) #[] caps] w (IdsOwn ((xs.filter f).map idf) w) := by
  obtain rfl := h.1
  obtain ⟨i0, hi, hz0, hz1, hz2⟩ := info_parts infoInt
  have hm := h.2.2.1
  have hcl := h.2.1
  unfold maxLen at hm
  have S := Lib.hid h
  have F := Lib.hid hf
  have F1 := Lib.hid hi1
  clear h hf hi1
  go_enter Try.func78, Try.ntmps78
  go_wp2
  go_loopw [12, 7] (fun i o wr => ∃ k : Nat, k ≤ xs.length ∧ i = .int .i64 k ∧ wr.ownsRow w.heap.size 3 1 o (((xs.take k).filter f).map idf).length (intCells (((xs.take k).filter f).map idf)) ∧ Below w.heap.size w wr) (fun i _ _ => xs.length - (intOf i).toNat)
  case atStart => exact ⟨0, Nat.zero_le _, rfl, ⟨by simp [intCells], .inl ⟨rfl, rfl⟩⟩, Below.refl _ _⟩
  case round =>
    obtain ⟨k, hk, rfl, hown, hbel⟩ := hrel
    have B := Lib.hid hbel
    by_cases hlt : k < xs.length
    · obtain ⟨s, hs⟩ : ∃ s, xs[k]? = some s := ⟨xs[k]'hlt, List.getElem?_eq_getElem _⟩
      obtain ⟨b, o, rfl, hbw, hat⟩ := (S.out.below hbel).at (by omega)
      obtain ⟨c0, c1, c2, c3, c4, hsm⟩ := hat k s hs
      have FS := Lib.hid (where_more f idf hs)
      have hgl := where_len f idf xs k
      obtain ⟨G, hG⟩ : ∃ G, ((xs.take k).filter f).map idf = G := ⟨_, rfl⟩
      rw [hG] at hown FS hgl
      have O := Lib.hid hown
      obtain ⟨r, hr⟩ : ∃ r, f s = r := ⟨_, rfl⟩
      have RR := Lib.hid hr
      obtain ⟨y, hy⟩ : ∃ y, idf s = y := ⟨_, rfl⟩
      have YY := Lib.hid hy
      have bw := wh_al1 wr (.cells #[.int .i64 s.Id, .string s.Name, .int .i64 s.From, .int .i64 s.Until, .int .i64 s.Heir] 42)
      have BX := Lib.hid (BoxMaker.new wr 42 s _ rfl)
      have SM := Lib.hid hsm
      clear hsm
      have BW := Lib.hid bw
      have K1' := Lib.hid hs
      have hi0 : (0 : Int) ≤ (k : Int) := by omega
      have hi1 : (k : Int) < (xs.length : Int) := by omega
      have hsz := B.out.size
      clear hs hat hbel hG hr hy hown bw
      go_wp2_with fail
      refine (F.out _ s (List.mem_of_getElem? K1'.out) SM.out (Below.then' B.out BW.out)).mono ?_
      rintro e w2 ⟨rfl, hb⟩
      rw [RR.out]
      have hb' := Below.then' BW.out hb
      have B2 := Lib.hid (Below.then' B.out hb')
      have O2 := Lib.hid (ownsRow_below O.out hb')
      have BX2 := Lib.hid (BX.out.below hb)
      have hs2 := hb'.size
      clear hb hb' c0 c1 c2 c3 c4
      cases r
      · go_wp2
        go_roundw
        case rel => exact ⟨k + 1, by omega, by go_num, by rw [FS.out, RR.out]; simpa using O2.out, B2.out⟩
        case measure => simp [intOf]; omega
      · obtain ⟨e0, e1, e2, e3, e4⟩ := BX2.out
        go_wp2_with fail
        refine (F1.out _ s).mono ?_
        rintro e w3 ⟨rfl, hb⟩
        rw [YY.out]
        have B3 := Lib.hid (Below.then' B2.out hb)
        have hown3 := (ownsRow_below O2.out hb).alloc (.cells #[.int .i64 y] 3)
        have hs3 := hb.size
        clear hb e0 e1 e2 e3 e4
        go_wp2_with (at_builtin; refine wpList_append_own _ rfl _ _ 29 rfl w.heap.size 3 i0 (.int .i64 0) 1 8 Try.underlying29 hi hz0 hz1 hz2 rfl (by decide) _ _ _ rfl hown3 ⟨w3.heap.size, 0, none⟩ 1 1 [.int .i64 y] rfl rfl (cell_one _ _ _) (fun x hx => by simp at hx; subst hx; rfl) (by unfold maxLen; omega) (by omega) (by simp; omega) ?_; intro v' w4 hown' hgrow4 hnil4)
        go_roundw
        case rel =>
          refine ⟨k + 1, by omega, by go_num, ?_, (Below.then' B3.out (wh_al1 _ _)).grown hgrow4 (by simp; omega) (fun j e => (hown3.lt j e).1)⟩
          rw [FS.out, RR.out, if_pos rfl, YY.out, intCells_snoc]
          rw [List.length_append]
          exact hown'
        case measure => simp [intOf]; omega
    · obtain rfl : k = xs.length := by omega
      rw [List.take_of_length_le (Nat.le_refl _)] at hown
      have O := Lib.hid hown
      clear hbel hown
      go_wp2
      go_ret
      exact ⟨_, rfl, O.out, B.out⟩
end Go.Proofs.Ytpcibejmahhjiaa
namespace Go.Proofs.Ytpcibejmahhjiaa
open Go.RowKit

theorem isYear_any (d : Int) (w : World) :
    Calls Try.prog 68 #[.int .i64 d] w fun e w' => e = .returned (.bool (yearB d)) ∧ Below w.heap.size w w' := by
  go_enter Try.func68, Try.ntmps68
  go_wp2_with fail
  refine (areIn1 _ _ _ _ _ _ (by simp)).mono ?_
  rintro e w' ⟨rfl, rfl⟩
  go_wp2
  go_ret
  exact ⟨rfl, bel_al1 _ _⟩
set_option maxHeartbeats 3200000 in
theorem isMk_any (s : VMaker) (w : World) (hs : s.small) :
    Calls Try.prog 32 #[.agg #[.int .i64 s.Id, .string s.Name, .int .i64 s.From, .int .i64 s.Until, .int .i64 s.Heir]] w fun e w' => e = .returned (.bool s.ok) ∧ Below w.heap.size w w' := by
  obtain ⟨q1, h1⟩ : ∃ q, wordB s.Name = q := ⟨_, rfl⟩
  obtain ⟨q2, h2⟩ : ∃ q, yearB s.From = q := ⟨_, rfl⟩
  obtain ⟨q3, h3⟩ : ∃ q, inB s.Id 1 99 = q := ⟨_, rfl⟩
  obtain ⟨q4, h4⟩ : ∃ q, yearB s.Until = q := ⟨_, rfl⟩
  obtain ⟨q5, h5⟩ : ∃ q, inB s.Heir 0 99 = q := ⟨_, rfl⟩
  have H1 := Lib.hid h1
  have H2 := Lib.hid h2
  have H3 := Lib.hid h3
  have H4 := Lib.hid h4
  have H5 := Lib.hid h5
  have SM := Lib.hid hs
  have X0 := Lib.hid (BoxMaker.new w 42 s _ rfl)
  have B0 := Lib.hid (bel_al1 w (.cells #[.int .i64 s.Id, .string s.Name, .int .i64 s.From, .int .i64 s.Until, .int .i64 s.Heir] 42))
  clear h1 h2 h3 h4 h5 hs
  go_enter Try.func32, Try.ntmps32
  go_wp2_with fail
  refine (areIn1 _ _ _ _ _ _ (by simp)).mono ?_
  rintro e w' ⟨rfl, rfl⟩
  rw [H3.out]
  cases q3
  · go_wp2
    go_ret
    exact ⟨ret_bool (by unfold VMaker.ok; rw [H3.out]; rfl), bel_al2 _ _ _⟩
  go_wp2_with fail
  refine (isWord_any _ _ SM.out).mono ?_
  rintro e w2 ⟨rfl, hb⟩
  rw [H1.out]
  have hb2 := Below.then' (bel_al1 _ _) hb
  have B2 := Lib.hid (Below.then' B0.out hb2)
  obtain ⟨c0, c1, c2, c3, c4⟩ := X0.out.below hb2
  have X2 := Lib.hid (X0.out.below hb2)
  clear hb hb2
  cases q1
  · go_wp2
    go_ret
    exact ⟨ret_bool (by unfold VMaker.ok; rw [H3.out, H1.out]; rfl), B2.out⟩
  go_wp2_with fail
  refine (isYear_any _ _).mono ?_
  rintro e w3 ⟨rfl, hb⟩
  rw [H2.out]
  have B3 := Lib.hid (Below.then' B2.out hb)
  clear c0 c1 c2 c3 c4
  obtain ⟨c0, c1, c2, c3, c4⟩ := X2.out.below hb
  have X3 := Lib.hid (X2.out.below hb)
  clear hb
  cases q2
  · go_wp2
    go_ret
    exact ⟨ret_bool (by unfold VMaker.ok; rw [H3.out, H1.out, H2.out]; rfl), B3.out⟩
  go_wp2_with fail
  refine (isYear_any _ _).mono ?_
  rintro e w4 ⟨rfl, hb⟩
  rw [H4.out]
  have B4 := Lib.hid (Below.then' B3.out hb)
  clear c0 c1 c2 c3 c4
  obtain ⟨c0, c1, c2, c3, c4⟩ := X3.out.below hb
  have X4 := Lib.hid (X3.out.below hb)
  clear hb
  cases q4
  · go_wp2
    go_ret
    exact ⟨ret_bool (by unfold VMaker.ok; rw [H3.out, H1.out, H2.out, H4.out]; rfl), B4.out⟩
  by_cases hle : s.From ≤ s.Until
  · have D := Lib.hid (decide_eq_true hle)
    go_wp2_with fail
    refine (areIn1 _ _ _ _ _ _ (by simp)).mono ?_
    rintro e w' ⟨rfl, rfl⟩
    rw [H5.out]
    have B5 := Lib.hid (Below.then' B4.out (bel_al1 w4 (.cells #[.int .i64 s.Heir] 3)))
    clear c0 c1 c2 c3 c4
    obtain ⟨c0, c1, c2, c3, c4⟩ := X4.out.below (bel_al1 w4 (.cells #[.int .i64 s.Heir] 3))
    cases q5
    · go_wp2
      go_ret
      exact ⟨ret_bool (by unfold VMaker.ok; rw [H3.out, H1.out, H2.out, H4.out, H5.out, D.out]; rfl), B5.out⟩
    go_wp2
    go_ret
    exact ⟨ret_bool (by unfold VMaker.ok; rw [H3.out, H1.out, H2.out, H4.out, H5.out, D.out]; rfl), B5.out⟩
  · have D := Lib.hid (decide_eq_false hle)
    have hle2 : s.Until < s.From := by omega
    go_wp2
    go_ret
    exact ⟨ret_bool (by unfold VMaker.ok; rw [H3.out, H1.out, H2.out, H4.out, D.out]; rfl), B4.out⟩
theorem makerId_any (s : VMaker) (w : World) : Calls Try.prog 65 #[.agg #[.int .i64 s.Id, .string s.Name, .int .i64 s.From, .int .i64 s.Until, .int .i64 s.Heir]] w fun e w' => e = .returned (.int .i64 s.Id) ∧ Below w.heap.size w w' := by
  go_enter Try.func65, Try.ntmps65
  go_wp2
  go_ret
  exact ⟨rfl, bel_al1 _ _⟩
theorem idxMk_any (a : Option Addr) (len cap : Nat) (xs : List VMaker) (id : Int) (w : World) (h : IsMakerS w a len cap xs) :
    Calls Try.prog 93 #[.slice a len cap, .int .i64 id, .func (.func 65) #[] #[]] w fun e w' => e = .returned (.int .i64 (mkIdx xs id)) ∧ Below w.heap.size w w' :=
  indexByMaker_any 65 VMaker.Id a len cap xs id w h (enters_fn Try.func65 (by kernel_rfl) (by kernel_rfl)) (fun W s => makerId_any s W)
theorem aftB_none {xs : List VMaker} {id y : Int} (h : mkIdx xs id = -1) : aftB xs id y = false := by
  unfold aftB; rw [h]
  cases xs[(-1 : Int).toNat]? <;> simp
theorem aftB_some {xs : List VMaker} {id y : Int} {i : Nat} {s : VMaker} (h : mkIdx xs id = (i : Int)) (hs : xs[i]? = some s) : aftB xs id y = decide (y < s.From) := by
  unfold aftB; rw [h]; simp [hs]
set_option maxHeartbeats 1600000 in
theorem beginsAfter_any (a : Option Addr) (len cap : Nat) (xs : List VMaker) (id y : Int) (w : World) (h : IsMakerS w a len cap xs) :
    Calls Try.prog 74 #[.slice a len cap, .int .i64 id, .int .i64 y] w fun e w' => e = .returned (.bool (aftB xs id y)) ∧ Below w.heap.size w w' := by
  have S := Lib.hid h
  have hm := h.2.2.1
  have hcl := h.2.1
  unfold maxLen at hm
  obtain rfl := h.1
  clear h
  rcases mkIdx_cases xs id with ⟨h1, _⟩ | ⟨i, s, h1, hs, _⟩
  · have E := Lib.hid (aftB_none (y := y) h1)
    have H1 := Lib.hid h1
    clear h1
    go_enter Try.func74, Try.ntmps74
    go_wp2_with fail
    refine (idxMk_any _ _ _ xs id _ S.out).mono ?_
    rintro e w2 ⟨rfl, hb⟩
    rw [H1.out]
    have B := Lib.hid hb
    clear hb
    go_wp2
    go_ret
    exact ⟨ret_bool E.out.symm, B.out⟩
  · have E := Lib.hid (aftB_some (y := y) h1 hs)
    have H1 := Lib.hid h1
    have HS := Lib.hid hs
    have hi1 : (i : Int) < (xs.length : Int) := by have := (List.getElem?_eq_some_iff.1 hs).1; omega
    have hi0 : (0 : Int) ≤ (i : Int) := by omega
    clear h1 hs
    go_enter Try.func74, Try.ntmps74
    go_wp2_with fail
    refine (idxMk_any _ _ _ xs id _ S.out).mono ?_
    rintro e w2 ⟨rfl, hb⟩
    rw [H1.out]
    have B := Lib.hid hb
    obtain ⟨b, o, rfl, _, hat⟩ := (S.out.below hb).at (by omega)
    obtain ⟨c0, c1, c2, c3, c4, _⟩ := hat i s HS.out
    clear hb hat
    go_wp2
    go_ret
    exact ⟨ret_bool E.out.symm, B.out⟩
theorem take_alls {α : Type} {P : α → Prop} {xs : List α} {k : Nat} {s : α} (h : ∀ m ∈ xs.take k, P m) (hs : xs[k]? = some s) (hp : P s) : ∀ m ∈ xs.take (k + 1), P m := by
  intro m hm
  rw [List.take_add_one, hs, List.mem_append] at hm
  rcases hm with hm | hm
  · exact h m hm
  · simp at hm; subst hm; exact hp
theorem len_leM {n : Nat} {k : Nat} : decide ((n : Int) ≤ (k : Int)) = decide (n ≤ k) := by rw [decide_eq_decide]; omega
set_option maxHeartbeats 3200000 in
set_option maxRecDepth 100000 in
theorem areMk_any (a : Option Addr) (len cap : Nat) (xs : List VMaker) (w : World) (h : IsMakerS w a len cap xs) :
    Calls Try.prog 36 #[.slice a len cap] w fun e w' => e = .returned (.bool (areMk xs)) ∧ Below w.heap.size w w' := by
  have hm := h.2.2.1
  have hcl := h.2.1
  unfold maxLen at hm
  obtain rfl := h.1
  have S := Lib.hid h
  clear h
  obtain ⟨q, hq⟩ : ∃ q, mkUp xs = q := ⟨_, rfl⟩
  have Q := Lib.hid hq
  have BY := Lib.hid (show (upB VMaker.ok VMaker.Id xs && decide ((xs.length : Int) ≤ 10)) = q from by rw [← hq]; unfold mkUp; rw [← len_leM]; rfl)
  clear hq
  go_enter Try.func36, Try.ntmps36
  go_wp2_with fail
  refine (byMaker_any 32 65 VMaker.ok VMaker.Id 10 _ _ _ xs _ S.out (enters_fn Try.func32 (by kernel_rfl) (by kernel_rfl)) (enters_fn Try.func65 (by kernel_rfl) (by kernel_rfl)) (fun W s _ hs => isMk_any s W hs) (fun W s => makerId_any s W)).mono ?_
  rintro e w2 ⟨rfl, hb⟩
  rw [BY.out]
  have B := Lib.hid hb
  clear hb
  cases q
  · go_wp2
    go_ret
    exact ⟨ret_bool (by unfold areMk; rw [Q.out]; rfl), B.out⟩
  go_wp2
  go_loopw [10] (fun i wr => ∃ k : Nat, k ≤ xs.length ∧ i = .int .i64 k ∧ Below w.heap.size w wr ∧ ∀ m ∈ xs.take k, heirB xs m = true) (fun i _ => xs.length - (intOf i).toNat)
  case atStart => exact ⟨0, Nat.zero_le _, rfl, B.out, by simp⟩
  case round =>
    obtain ⟨k, hk, rfl, hbel, hall⟩ := hrel
    have A := Lib.hid hall
    have BB := Lib.hid hbel
    clear hall
    by_cases hlt : k < xs.length
    · obtain ⟨s, hs⟩ : ∃ s, xs[k]? = some s := ⟨xs[k]'hlt, List.getElem?_eq_getElem _⟩
      obtain ⟨b, o, rfl, hbw, hat⟩ := (S.out.below hbel).at (by omega)
      obtain ⟨c0, c1, c2, c3, c4, _⟩ := hat k s hs
      have K := Lib.hid hs
      have hi0 : (0 : Int) ≤ (k : Int) := by omega
      have hi1 : (k : Int) < (xs.length : Int) := by omega
      have BX := Lib.hid (Below.then' BB.out (bel_al1 wr (.cells #[.int .i64 s.Id, .string s.Name, .int .i64 s.From, .int .i64 s.Until, .int .i64 s.Heir] 42)))
      clear hbel hs hat
      by_cases h0 : s.Heir = 0
      · have Z := Lib.hid (show heirB xs s = true from by unfold heirB; rw [h0]; rfl)
        have h0' : (s.Heir == 0) = true := by simp [h0]
        have h0'' : (s.Heir != 0) = false := by simp [h0]
        clear h0
        go_wp2
        go_roundw
        case rel => exact ⟨k + 1, by omega, by go_num, BX.out, take_alls A.out K.out Z.out⟩
        case measure => simp [intOf]; omega
      · have Z := Lib.hid (show heirB xs s = aftB xs s.Heir s.Until from by unfold heirB; simp [h0])
        have h0' : (s.Heir == 0) = false := by simp [h0]
        have h0'' : (s.Heir != 0) = true := by simp [h0]
        clear h0
        obtain ⟨r, hr⟩ : ∃ r, aftB xs s.Heir s.Until = r := ⟨_, rfl⟩
        have R := Lib.hid hr
        clear hr
        go_wp2_with fail
        refine (beginsAfter_any _ _ _ xs s.Heir s.Until _ (S.out.below BX.out)).mono ?_
        rintro e w3 ⟨rfl, hb⟩
        rw [R.out]
        have B3 := Lib.hid (Below.then' BX.out hb)
        clear hb
        cases r
        · have N := Lib.hid (show areMk xs = false from by
            have h : xs.all (heirB xs) = false := by
              rw [List.all_eq_false]
              exact ⟨s, List.mem_of_getElem? K.out, by rw [Z.out, R.out]; simp⟩
            unfold areMk; rw [h]; simp)
          go_wp2
          go_ret
          exact ⟨ret_bool N.out.symm, B3.out⟩
        · go_wp2
          go_roundw
          case rel => exact ⟨k + 1, by omega, by go_num, B3.out, take_alls A.out K.out (Z.out.trans R.out)⟩
          case measure => simp [intOf]; omega
    · obtain rfl : k = xs.length := by omega
      have N := Lib.hid (show areMk xs = true from by
        have h := A.out
        rw [List.take_of_length_le (Nat.le_refl _)] at h
        unfold areMk; rw [Q.out, List.all_eq_true.2 h]; rfl)
      clear hbel
      go_wp2
      go_ret
      exact ⟨ret_bool N.out.symm, BB.out⟩
end Go.Proofs.Ytpcibejmahhjiaa
namespace Go.Proofs.Ytpcibejmahhjiaa
open Go.RowKit
/-- The place of the first element that fits, where the list is valid, and whether there is one. -/
def FoundBy {α : Type} (q : Bool) (f : α → Bool) (xs : List α) (w : World) (e : Ending) (w' : World) : Prop :=
  ∃ z : Int, e = .returned (.tuple #[.int .i64 z, .bool (q && decide (0 ≤ firstOf f xs))]) ∧ (q = true → z = firstOf f xs) ∧ Below w.heap.size w w'
theorem FoundBy.bad {α : Type} {q : Bool} {f : α → Bool} {xs : List α} {w w' : World} {e : Ending} (h : FoundBy q f xs w e w') (hq : q = false) : ∃ z : Int, e = .returned (.tuple #[.int .i64 z, .bool false]) ∧ Below w.heap.size w w' := by
  obtain ⟨z, rfl, _, hb⟩ := h
  exact ⟨z, by rw [hq]; rfl, hb⟩
theorem FoundBy.none {α : Type} {q : Bool} {f : α → Bool} {xs : List α} {w w' : World} {e : Ending} (h : FoundBy q f xs w e w') (hn : firstOf f xs = -1) : ∃ z : Int, e = .returned (.tuple #[.int .i64 z, .bool false]) ∧ Below w.heap.size w w' := by
  obtain ⟨z, rfl, _, hb⟩ := h
  exact ⟨z, by rw [hn]; simp, hb⟩
theorem FoundBy.some {α : Type} {q : Bool} {f : α → Bool} {xs : List α} {w w' : World} {e : Ending} {i : Nat} (h : FoundBy q f xs w e w') (hq : q = true) (hn : firstOf f xs = (i : Int)) : e = .returned (.tuple #[.int .i64 (i : Int), .bool true]) ∧ Below w.heap.size w w' := by
  obtain ⟨z, rfl, hz, hb⟩ := h
  rw [hz hq, hn, hq, decide_eq_true (by omega)]
  exact ⟨rfl, hb⟩
theorem firstOf_any {α : Type} (f : α → Bool) (xs : List α) : decide (0 ≤ firstOf f xs) = xs.any f := by
  rcases firstOf_cases f xs with ⟨h1, h2⟩ | ⟨i, s, h1, h2, h3, _⟩
  · rw [h1, show xs.any f = false from by rw [List.any_eq_false]; intro x hx; simp [h2 x hx]]; rfl
  · rw [h1, show xs.any f = true from List.any_eq_true.2 ⟨s, List.mem_of_getElem? h2, h3⟩, decide_eq_true (by omega)]
end Go.Proofs.Ytpcibejmahhjiaa
namespace Go.Proofs.Ytpcibejmahhjiaa
open Go.RowKit

set_option maxHeartbeats 1600000 in
theorem findByMaker_any (KA K : FuncId) (q : Bool) (idf : VMaker → Int) (a : Option Addr) (len cap : Nat) (xs : List VMaker) (id : Int) (w : World) (h : IsMakerS w a len cap xs)
    (hca : ∀ args W, (callFunc KA args).run Try.prog W = .ok (.enter KA args) W) (hcall : ∀ args W, (callFunc K args).run Try.prog W = .ok (.enter K args) W)
    (hA : ∀ W : World, IsMakerS W a len cap xs → Calls Try.prog KA #[.slice a len cap] W fun e w' => e = .returned (.bool q) ∧ Below W.heap.size W w')
    (hf : ∀ (W : World) (s : VMaker), Calls Try.prog K #[.agg #[.int .i64 s.Id, .string s.Name, .int .i64 s.From, .int .i64 s.Until, .int .i64 s.Heir]] W fun e w' => e = .returned (.int .i64 (idf s)) ∧ Below W.heap.size W w') :
    Calls Try.prog 83 #[.slice a len cap, .int .i64 id, .func (.func KA) #[] #[], .func (.func K) #[] #[]] w (FoundBy q (fun s => idf s == id) xs w) := by
  have S := Lib.hid h
  have HA := Lib.hid hA
  have HF := Lib.hid hf
  have HC := Lib.hid hcall
  clear h hA hf hcall
  go_enter Try.func83, Try.ntmps83
  go_wp2_with fail
  refine (HA.out _ S.out).mono ?_
  rintro e w1 ⟨rfl, hb⟩
  have B1 := Lib.hid hb
  have S1 := Lib.hid (S.out.below hb)
  clear hb hca
  cases q
  · go_wp2
    go_ret2
    exact ⟨_, rfl, fun h => (by cases h), B1.out⟩
  · obtain ⟨z, hz⟩ : ∃ z, firstOf (fun s => idf s == id) xs = z := ⟨_, rfl⟩
    have Z := Lib.hid hz
    clear hz
    go_wp2_with fail
    refine (indexByMaker_any K idf _ _ _ xs id _ S1.out HC.out HF.out).mono ?_
    rintro e w2 ⟨rfl, hb⟩
    rw [Z.out]
    have B2 := Lib.hid (Below.then' B1.out hb)
    clear hb
    go_wp2
    go_ret2
    exact ⟨_, by rw [Z.out]; rfl, fun _ => Z.out.symm, B2.out⟩
set_option maxHeartbeats 1600000 in
theorem allOfMaker_any (s : VMaker) (w : World) : Calls Try.prog 95 #[.agg #[.int .i64 s.Id, .string s.Name, .int .i64 s.From, .int .i64 s.Until, .int .i64 s.Heir]] w fun e w' => e = .returned (.bool true) ∧ Below w.heap.size w w' := by
  go_enter Try.func95, Try.ntmps95
  go_wp2
  go_ret
  exact ⟨rfl, wh_al1 _ _⟩
set_option maxHeartbeats 1600000 in
theorem idsOfMaker_any (K : FuncId) (idf : VMaker → Int) (a : Option Addr) (len cap : Nat) (xs : List VMaker) (w : World) (h : IsMakerS w a len cap xs) (hl : xs.length ≤ 100000)
    (hcall : ∀ args W, (callFunc K args).run Try.prog W = .ok (.enter K args) W)
    (hf : ∀ (W : World) (s : VMaker), Calls Try.prog K #[.agg #[.int .i64 s.Id, .string s.Name, .int .i64 s.From, .int .i64 s.Until, .int .i64 s.Heir]] W fun e w' => e = .returned (.int .i64 (idf s)) ∧ Below W.heap.size W w') :
    Calls Try.prog 64 #[.slice a len cap, .func (.func K) #[] #[]] w (IdsOwn (xs.map idf) w) := by
  have S := Lib.hid h
  have HF := Lib.hid hf
  have HC := Lib.hid hcall
  clear h hf hcall
  go_enter Try.func64, Try.ntmps64
  go_wp2_with fail
  refine (idsWhereMaker_any K 95 idf #[] (fun _ => true) _ _ _ xs _ S.out hl HC.out (enters_fn' Try.func95 (by kernel_rfl) (by kernel_rfl)) HF.out (fun W s _ _ _ => by
    have h1 := allOfMaker_any s W
    simpa using h1)).mono ?_
  rintro e w1 ⟨v, rfl, hown, hb⟩
  rw [show xs.filter (fun _ => true) = xs from List.filter_eq_self.2 (fun _ _ => rfl)] at hown
  have O := Lib.hid hown
  have B := Lib.hid hb
  clear hown hb
  go_wp2
  go_ret
  exact ⟨v, rfl, O.out, B.out⟩
set_option maxHeartbeats 1600000 in
theorem containsMaker_any (K : FuncId) (caps : Array Value) (f : VMaker → Bool) (a : Option Addr) (len cap : Nat) (xs : List VMaker) (w : World) (h : IsMakerS w a len cap xs)
    (hcall : ∀ args W, (callFunc K args).run Try.prog W = .ok (.enter K args) W)
    (hf : ∀ W s, s ∈ xs → Below w.heap.size w W → Calls Try.prog K (#[.agg #[.int .i64 s.Id, .string s.Name, .int .i64 s.From, .int .i64 s.Until, .int .i64 s.Heir]] ++ caps) W fun e w' => e = .returned (.bool (f s)) ∧ Below W.heap.size W w') :
    Calls Try.prog 81 #[.slice a len cap, .func (.func K) #[] caps] w fun e w' => e = .returned (.bool (xs.any f)) ∧ Below w.heap.size w w' := by
  have S := Lib.hid h
  have HF := Lib.hid hf
  have HC := Lib.hid hcall
  have E := Lib.hid (firstOf_any f xs)
  clear h hf hcall
  go_enter Try.func81, Try.ntmps81
  go_wp2_with fail
  refine (idxMaker_any K caps f _ _ _ xs _ S.out HC.out HF.out).mono ?_
  rintro e w1 ⟨rfl, hb⟩
  have B := Lib.hid hb
  clear hb
  obtain ⟨z, hz⟩ : ∃ z, firstOf f xs = z := ⟨_, rfl⟩
  rw [hz]
  have E2 := Lib.hid (show decide (0 ≤ z) = xs.any f from by rw [← hz]; exact E.out)
  clear hz
  go_wp2
  go_ret
  exact ⟨ret_bool E2.out, B.out⟩
end Go.Proofs.Ytpcibejmahhjiaa
namespace Go.Proofs.Ytpcibejmahhjiaa
open Go.RowKit

set_option maxHeartbeats 6400000 in
set_option maxRecDepth 100000 in
theorem lineFrom_any (a : Option Addr) (len cap : Nat) (xs : List VMaker) (id : Int) (w : World) (h : IsMakerS w a len cap xs) :
    Calls Try.prog 58 #[.slice a len cap, .int .i64 id] w (MakerRow (lineMk xs id) w) := by
  have hm := h.2.2.1
  have hcl := h.2.1
  unfold maxLen at hm
  obtain rfl := h.1
  obtain ⟨i0, hi, hz0, hz1, hz2⟩ := info_parts infoMaker
  have S := Lib.hid h
  clear h
  obtain ⟨q, hq⟩ : ∃ q, areMk xs = q := ⟨_, rfl⟩
  have Q := Lib.hid hq
  clear hq
  go_enter Try.func58, Try.ntmps58
  go_wp2_with fail
  refine (areMk_any _ _ _ xs _ S.out).mono ?_
  rintro e w1 ⟨rfl, hb⟩
  rw [Q.out]
  have B1 := Lib.hid hb
  have S1 := Lib.hid (S.out.below hb)
  clear hb
  cases q
  · have E := Lib.hid (show lineMk xs id = [] from lineMk_none (by unfold mkSel; rw [Q.out]; rfl))
    go_wp2
    go_ret
    exact ⟨_, rfl, by rw [E.out]; exact nil_ownMaker _ _, B1.out⟩
  have E0 := Lib.hid (show mkSel xs id = mkIdx xs id from by unfold mkSel; rw [Q.out]; rfl)
  have hbd := mkIdx_bd xs id
  obtain ⟨z, hz⟩ : ∃ z, mkIdx xs id = z := ⟨_, rfl⟩
  rw [hz] at hbd
  have Z := Lib.hid hz
  have LM := Lib.hid (show lineMk xs id = [] ++ (lineZ xs z).map (mkAt xs) from by unfold lineMk; rw [E0.out, hz]; rfl)
  clear hz
  go_wp2_with fail
  refine (idxMk_any _ _ _ xs id _ S1.out).mono ?_
  rintro e w2 ⟨rfl, hb⟩
  rw [Z.out]
  have B2 := Lib.hid (Below.then' B1.out hb)
  clear hb
  go_wp2
  go_loopw [6, 5] (fun i o wr => ∃ (k : Int) (G : List VMaker), -1 ≤ k ∧ k < (xs.length : Int) ∧ i = .int .i64 k ∧ lineMk xs id = G ++ (lineZ xs k).map (mkAt xs) ∧ wr.ownsRow w.heap.size 42 5 o G.length (cellsMaker G) ∧ Below w.heap.size w wr) (fun i _ _ => lineLeft xs (intOf i))
  case atStart => exact ⟨z, [], hbd.1, hbd.2, rfl, LM.out, nil_ownMaker _ _, B2.out⟩
  case round =>
    obtain ⟨k, G, hk0, hk1, rfl, hl, hown, hbel⟩ := hrel
    have B := Lib.hid hbel
    have HL := Lib.hid hl
    have O := Lib.hid hown
    by_cases hlt : k < 0
    · have E := Lib.hid (show lineMk xs id = G from by rw [hl]; unfold lineZ; rw [if_pos hlt]; simp)
      clear hbel hl hown
      go_wp2
      go_ret
      exact ⟨_, rfl, by rw [E.out]; exact O.out, B.out⟩
    · obtain ⟨j, rfl⟩ : ∃ j : Nat, k = (j : Int) := ⟨k.toNat, by omega⟩
      have hj : j < xs.length := by omega
      obtain ⟨s, hs⟩ : ∃ s, xs[j]? = some s := ⟨xs[j]'hj, List.getElem?_eq_getElem _⟩
      obtain ⟨b, o, rfl, hbw, hat⟩ := (S.out.below hbel).at (by omega)
      obtain ⟨c0, c1, c2, c3, c4, _⟩ := hat j s hs
      have K := Lib.hid hs
      have HN := Lib.hid (mkNext_some hs)
      have NB := mkNext_bd xs j
      have LL := Lib.hid (lineLeft_next Q.out hj)
      have ST := Lib.hid (show lineMk xs id = (G ++ [s]) ++ (lineZ xs (mkNext xs j)).map (mkAt xs) from by
        rw [hl, lineZ_step Q.out hj, List.map_cons, mkAt_some hs]; simp)
      have hgl : G.length ≤ 601 := by have := lineMk_len xs id; rw [hl, List.length_append] at this; omega
      obtain ⟨n, hn⟩ : ∃ n, mkNext xs j = n := ⟨_, rfl⟩
      rw [hn] at HN ST LL NB
      have hown3 := hown.alloc (.cells #[.int .i64 s.Id, .string s.Name, .int .i64 s.From, .int .i64 s.Until, .int .i64 s.Heir] 42)
      have hsz := B.out.size
      clear hbel hl hs hat hown hn
      go_wp2_with (at_builtin; refine wpList_append_own _ rfl _ _ 24 rfl w.heap.size 42 i0 (.agg #[.int .i64 0, .string ByteArray.empty, .int .i64 0, .int .i64 0, .int .i64 0]) 5 48 Try.underlying24 hi hz0 hz1 hz2 rfl (by decide) _ _ _ rfl hown3 ⟨wr.heap.size, 0, none⟩ 1 1 s.vals rfl rfl (cell_Maker _ _ _) s.vals_one (by unfold maxLen; omega) (by omega) (by first | omega | (simp; done) | (simp; omega)) ?_; intro v' w4 hown' hgrow4 hnil4; have B4 := Lib.hid ((Below.then' B.out (wh_al1 _ _)).grown hgrow4 (by simp; omega) (fun j e => (hown3.lt j e).1)); clear c0 c1 c2 c3 c4; obtain ⟨b', o', e', _, hat⟩ := (S.out.below B4.out).at (by omega); cases e'; obtain ⟨c0, c1, c2, c3, c4, _⟩ := hat j s K.out; have O4 := Lib.hid hown'; clear hat hgrow4 hown')
      refine (idxMk_any _ _ _ xs s.Heir _ (S.out.below B4.out)).mono ?_
      rintro e w5 ⟨rfl, hb⟩
      rw [← HN.out]
      have B5 := Lib.hid (Below.then' B4.out hb)
      have O5 := Lib.hid (ownsRow_below O4.out hb)
      clear hb c0 c1 c2 c3 c4
      go_wp2
      go_roundw
      case rel => exact ⟨n, G ++ [s], NB.1, NB.2, rfl, ST.out, by rw [List.length_append, cellsMaker_snoc]; exact O5.out, B5.out⟩
      case measure => simp only [intOf]; exact LL.out
end Go.Proofs.Ytpcibejmahhjiaa
namespace Go.Proofs.Ytpcibejmahhjiaa
open Go.RowKit
def IsMaker_Post (z0 : VMaker) (w : World) (e : Ending) (w' : World) : Prop :=
  e = .returned (.bool (IsMaker_0 z0)) ∧ Below w.heap.size w w'
end Go.Proofs.Ytpcibejmahhjiaa
namespace Go.Proofs.Ytpcibejmahhjiaa
open Go.RowKit
def AreMakers_Post (z0 : List VMaker) (w : World) (e : Ending) (w' : World) : Prop :=
  e = .returned (.bool (AreMakers_0 z0)) ∧ Below w.heap.size w w'
end Go.Proofs.Ytpcibejmahhjiaa
namespace Go.Proofs.Ytpcibejmahhjiaa
open Go.RowKit
def LineOf_Post (z0 : List VMaker) (z1 : Int) (w : World) (e : Ending) (w' : World) : Prop :=
  ∃ v0 : Value, e = .returned (.tuple #[v0, .bool (LineOf_1 z0 z1)]) ∧ w'.ownsRow w.heap.size 3 1 v0 (LineOf_0 z0 z1).length (intCells (LineOf_0 z0 z1)) ∧ Below w.heap.size w w'
end Go.Proofs.Ytpcibejmahhjiaa
