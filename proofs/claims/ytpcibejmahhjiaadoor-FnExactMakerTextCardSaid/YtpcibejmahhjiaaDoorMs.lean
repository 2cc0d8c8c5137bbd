/- Makers in the model: years, one maker, where one stands, when a list is one of makers, a line. -/
import Derived.Test.YtpcibejmahhjiaaDoorMk
import Derived.Test.YtpcibejmahhjiaaDoorRd2
import Derived.Test.YtpcibejmahhjiaaDoorWh
namespace Go.Proofs.YtpcibejmahhjiaaDoor
open Go.RowKit

theorem l7Year_any (d : Int) (w : World) :
    Calls Tryd.prog 40 #[.int .i64 d] w fun e w' => e = .returned (.bool (yearB d)) ∧ w = w' := by
  go_enter Tryd.func40, Tryd.ntmps40
  go_wp2_with fail
  refine (l1In_any _ _ _ _).mono ?_
  rintro e w' ⟨rfl, rfl⟩
  go_wp2
  go_ret
  exact ⟨rfl, rfl⟩
theorem mkOk_spec (m : VMaker) : m.ok = (inB m.Id 1 99 && (wordB m.Name && (yearB m.Until && (inB m.From 1500 m.Until && (inB m.Heir 0 99 && !(m.Heir == m.Id)))))) := by
  rw [Bool.eq_iff_iff, mkOk_iff]
  simp only [Bool.and_eq_true, inB_iff, yearB, Bool.not_eq_true', beq_eq_false_iff_ne, ne_eq]
  constructor
  · rintro ⟨h1, h2, h3, h4, h5, h6, h7⟩; exact ⟨h1, h2, h4, ⟨h3.1, h5⟩, h6, h7⟩
  · rintro ⟨h1, h2, h4, ⟨h3, h5⟩, h6, h7⟩; exact ⟨h1, h2, ⟨h3, by omega⟩, h4, h5, h6, h7⟩
set_option maxHeartbeats 3200000 in
theorem l7One_any (s : VMaker) (w : World) (hs : s.small) :
    Calls Tryd.prog 59 #[.agg #[.int .i64 s.Id, .string s.Name, .int .i64 s.From, .int .i64 s.Until, .int .i64 s.Heir]] w fun e w' => e = .returned (.bool s.ok) ∧ Below w.heap.size w w' := by
  obtain ⟨q1, h1⟩ : ∃ q, wordB s.Name = q := ⟨_, rfl⟩
  obtain ⟨q2, h2⟩ : ∃ q, yearB s.Until = q := ⟨_, rfl⟩
  have H1 := Lib.hid h1
  have H2 := Lib.hid h2
  have SM := Lib.hid hs
  have OK := Lib.hid (mkOk_spec s)
  clear h1 h2 hs
  go_enter Tryd.func59, Tryd.ntmps59
  go_wp2_with (first | (go_at_call 56; refine (l1In_any _ _ _ _).mono ?_; rintro e w' ⟨rfl, rfl⟩) | (go_at_call 74; refine (l2Word_any _ _ SM.out).mono ?_; rintro e w' ⟨rfl, rfl⟩; rw [H1.out]) | (go_at_call 40; refine (l7Year_any _ _).mono ?_; rintro e w' ⟨rfl, rfl⟩; rw [H2.out]))
  all_goals go_ret
  all_goals exact ⟨ret_bool (by rw [OK.out, H1.out, H2.out]; first | (simp [*]; done) | (simp [*]; rfl)), bel_al1 _ _⟩
set_option maxHeartbeats 1600000 in
theorem l7Find_any (a : Option Addr) (len cap : Nat) (xs : List VMaker) (id : Int) (w : World) (h : IsMakerS w a len cap xs) :
    Calls Tryd.prog 38 #[.slice a len cap, .int .i64 id] w fun e w' => e = .returned (.int .i64 (mkIdx xs id)) ∧ w = w' := by
  have hm := h.2.2.1
  have hcl := h.2.1
  unfold maxLen at hm
  obtain rfl := h.1
  have S := Lib.hid h
  clear h
  go_enter Tryd.func38, Tryd.ntmps38
  go_wp2
  go_loop [5] (fun i => ∃ k : Nat, k ≤ xs.length ∧ i = .int .i64 k ∧ ∀ j t, j < k → xs[j]? = some t → (t.Id == id) = false) (fun i => xs.length - (intOf i).toNat)
  case atStart => exact ⟨0, Nat.zero_le _, rfl, fun _ _ h => by omega⟩
  case round =>
    obtain ⟨k, hk, rfl, hall⟩ := hrel
    have A := Lib.hid hall
    clear hall
    by_cases hlt : k < xs.length
    · obtain ⟨s, hs⟩ : ∃ s, xs[k]? = some s := ⟨xs[k]'hlt, List.getElem?_eq_getElem _⟩
      obtain ⟨b, o, rfl, hb, hat⟩ := S.out.at (by omega)
      obtain ⟨c0, _⟩ := hat k s hs
      have HS := Lib.hid hs
      have hi0 : (0 : Int) ≤ (k : Int) := by omega
      have hi1 : (k : Int) < (xs.length : Int) := by omega
      clear hs hat
      obtain ⟨r, hr⟩ : ∃ r, (s.Id == id) = r := ⟨_, rfl⟩
      have R := Lib.hid hr
      cases r
      · go_wp2
        go_round
        case rel => exact ⟨k + 1, by omega, by go_num, fun j t hj ht => by
          by_cases e : j = k
          · subst e; rw [HS.out] at ht; cases ht; exact R.out
          · exact A.out j t (by omega) ht⟩
        case measure => simp [intOf]; omega
      · have E := Lib.hid (show mkIdx xs id = (k : Int) from firstOf_at HS.out R.out A.out)
        go_wp2
        go_ret
        exact ⟨ret_int E.out.symm, rfl⟩
    · obtain rfl : k = xs.length := by omega
      have E := Lib.hid (show mkIdx xs id = -1 from firstOf_no A.out)
      go_wp2
      go_ret
      exact ⟨ret_int E.out.symm, rfl⟩
theorem areMk_bad {xs : List VMaker} {k : Nat} (h : upStep VMaker.ok VMaker.Id xs k = false) (hk : k < xs.length) : areMk xs = false := by
  unfold areMk mkUp; rw [upB_bad h hk]; rfl
theorem areMk_heirless {xs : List VMaker} {m : VMaker} (hm : m ∈ xs) (h : heirB xs m = false) : areMk xs = false := by
  have h : xs.all (heirB xs) = false := by rw [List.all_eq_false]; exact ⟨m, hm, by rw [h]; simp⟩
  unfold areMk; rw [h]; simp
theorem heirB_zero {xs : List VMaker} {m : VMaker} (h : m.Heir = 0) : heirB xs m = true := by unfold heirB; rw [h]; rfl
theorem heirB_none {xs : List VMaker} {m : VMaker} (h : ¬ m.Heir = 0) (hi : mkIdx xs m.Heir = -1) : heirB xs m = false := by
  unfold heirB aftB; rw [hi]; cases xs[(-1 : Int).toNat]? <;> simp [h]
theorem heirB_at {xs : List VMaker} {m t : VMaker} {i : Nat} (h : ¬ m.Heir = 0) (hi : mkIdx xs m.Heir = (i : Int)) (ht : xs[i]? = some t) : heirB xs m = decide (m.Until < t.From) := by
  unfold heirB aftB; rw [hi]; simp [ht, h]
theorem take_alls' {α : Type} {P : α → Prop} {xs : List α} {k : Nat} {s : α} (h : ∀ m ∈ xs.take k, P m) (hs : xs[k]? = some s) (hp : P s) : ∀ m ∈ xs.take (k + 1), P m := by
  intro m hm
  rw [List.take_add_one, hs, List.mem_append] at hm
  rcases hm with hm | hm
  · exact h m hm
  · simp at hm; subst hm; exact hp
set_option maxHeartbeats 12800000 in
set_option maxRecDepth 100000 in
theorem l7Good_any (a : Option Addr) (len cap : Nat) (xs : List VMaker) (w : World) (h : IsMakerS w a len cap xs) :
    Calls Tryd.prog 39 #[.slice a len cap] w fun e w' => e = .returned (.bool (areMk xs)) ∧ Below w.heap.size w w' := by
  have hm := h.2.2.1
  have hcl := h.2.1
  unfold maxLen at hm
  obtain rfl := h.1
  have S := Lib.hid h
  clear h
  go_enter Tryd.func39, Tryd.ntmps39
  go_wp2
  go_loopw [3] (fun i wr => ∃ k : Nat, k ≤ xs.length ∧ i = .int .i64 k ∧ Below w.heap.size w wr ∧ (∀ j, j < k → upStep VMaker.ok VMaker.Id xs j = true) ∧ ∀ m ∈ xs.take k, heirB xs m = true) (fun i _ => xs.length - (intOf i).toNat)
  case atStart => exact ⟨0, Nat.zero_le _, rfl, Below.refl _ _, by omega, by simp⟩
  case round =>
    obtain ⟨k, hk, rfl, hbel, hall, hher⟩ := hrel
    have A := Lib.hid hall
    have HH := Lib.hid hher
    have B := Lib.hid hbel
    clear hall hher
    by_cases hlt : k < xs.length
    · obtain ⟨s, hs⟩ : ∃ s, xs[k]? = some s := ⟨xs[k]'hlt, List.getElem?_eq_getElem _⟩
      obtain ⟨b, o, rfl, hb, hat⟩ := (S.out.below hbel).at (by omega)
      obtain ⟨c0, c1, c2, c3, c4, hsm⟩ := hat k s hs
      have K := Lib.hid hs
      have SM := Lib.hid hsm
      have X := Lib.hid (BoxMaker.new wr 37 s _ rfl)
      have BX := Lib.hid (Below.then' B.out (bel_al1 wr (.cells #[.int .i64 s.Id, .string s.Name, .int .i64 s.From, .int .i64 s.Until, .int .i64 s.Heir] 37)))
      clear hsm hbel hat
      have hi0 : (0 : Int) ≤ (k : Int) := by omega
      have hi1 : (k : Int) < (xs.length : Int) := by omega
      rcases step_ways (ok := VMaker.ok) (id := VMaker.Id) hs with ⟨h1, h2⟩ | ⟨h1, rfl, h2⟩ | ⟨h1, j, p, rfl, hp, h2⟩
      · have OK := Lib.hid h1
        have Z := Lib.hid h2
        clear h1 h2 hs
        go_wp2
        refine wp_world (fun W => BoxMaker W wr.heap.size s ∧ Below w.heap.size w W) ⟨X.out, BX.out⟩ ?_
        clear c0 c1 c2 c3 c4
        rintro W ⟨hbx, hbw⟩
        have XW := Lib.hid hbx
        have BW := Lib.hid hbw
        obtain ⟨e0, e1, e2, e3, e4⟩ := hbx
        obtain ⟨_, _, eq, _, hat⟩ := (S.out.below hbw).at (by omega)
        cases eq
        have k0 := cell_regrown e0
        have k1 := cell_regrown e1
        have k2 := cell_regrown e2
        have k3 := cell_regrown e3
        have k4 := cell_regrown e4
        clear hat hbw e0 e1 e2 e3 e4
        have cQ := below_at (W := W) (fun W' _ => OK.out ▸ l7One_any s W' SM.out)
        refine wp_region_quiet_below (by kernel_rfl) (by kernel_rfl) ?_
        repeat (first | go_big_quiet_step (exact cQ _ _) | quiet_step (exact cQ _ _))
        refine wpQuiet_nil ?_
        intro W2 hw2
        have B2 := Lib.hid (Below.then' BW.out (below_of_re hw2))
        have X2 := Lib.hid (XW.out.below (below_of_re hw2))
        clear hw2 cQ k0 k1 k2 k3 k4
        go_wp2
        go_ret
        exact ⟨ret_bool (areMk_bad Z.out hlt).symm, B2.out⟩
      · have OK := Lib.hid h1
        have Z := Lib.hid h2
        clear h1 h2 hs
        simp only [Nat.zero_mul, Nat.add_zero] at c0 c1 c2 c3 c4
        go_wp2
        refine wp_world (fun W => BoxMaker W wr.heap.size s ∧ Below w.heap.size w W) ⟨X.out, BX.out⟩ ?_
        clear c0 c1 c2 c3 c4
        rintro W ⟨hbx, hbw⟩
        have XW := Lib.hid hbx
        have BW := Lib.hid hbw
        obtain ⟨e0, e1, e2, e3, e4⟩ := hbx
        obtain ⟨_, _, eq, _, hat⟩ := (S.out.below hbw).at (by omega)
        cases eq
        have k0 := cell_regrown e0
        have k1 := cell_regrown e1
        have k2 := cell_regrown e2
        have k3 := cell_regrown e3
        have k4 := cell_regrown e4
        clear hat hbw e0 e1 e2 e3 e4
        have cQ := below_at (W := W) (fun W' _ => OK.out ▸ l7One_any s W' SM.out)
        refine wp_region_quiet_below (by kernel_rfl) (by kernel_rfl) ?_
        repeat (first | go_big_quiet_step (exact cQ _ _) | quiet_step (exact cQ _ _))
        refine wpQuiet_nil ?_
        intro W2 hw2
        have B2 := Lib.hid (Below.then' BW.out (below_of_re hw2))
        have X2 := Lib.hid (XW.out.below (below_of_re hw2))
        clear hw2 cQ k0 k1 k2 k3 k4
        obtain ⟨x0, x1, x2, x3, x4⟩ := X2.out
        have okp := mkOk_iff.1 OK.out
        by_cases h0 : s.Heir = 0
        · have HZ := Lib.hid (heirB_zero (xs := xs) h0)
          have h00 : ¬ (0 : Int) < s.Heir := by omega
          clear okp h0
          go_wp2
          go_roundw
          case rel => exact ⟨0 + 1, by omega, by go_num, B2.out, all_succ' A.out Z.out, take_alls' HH.out K.out HZ.out⟩
          case measure => simp [intOf]; omega
        · have h00 : (0 : Int) < s.Heir := by omega
          have HN := Lib.hid h0
          clear okp h0
          go_wp2_with fail
          refine (l7Find_any _ _ _ xs s.Heir _ (S.out.below B2.out)).mono ?_
          rintro e w' ⟨rfl, rfl⟩
          rcases mkIdx_cases xs s.Heir with ⟨g1, _⟩ | ⟨i, t, g1, ht, _⟩
          · have HZ := Lib.hid (areMk_heirless (List.mem_of_getElem? K.out) (heirB_none HN.out g1))
            rw [g1]
            clear g1
            go_wp2
            go_quiet (fail)
            have B3 := Lib.hid (Below.then' B2.out (bel_drawn W2 nq))
            go_wp2
            go_ret
            exact ⟨ret_bool HZ.out.symm, B3.out⟩
          · have hil := (List.getElem?_eq_some_iff.1 ht).1
            have HZ := Lib.hid (heirB_at HN.out g1 ht)
            rw [g1]
            obtain ⟨_, _, eq, _, hat⟩ := (S.out.below B2.out).at (by omega)
            cases eq
            obtain ⟨y0, y1, y2, y3, y4, _⟩ := hat i t ht
            have hj0 : (0 : Int) ≤ (i : Int) := by omega
            have hj1 : (i : Int) < (xs.length : Int) := by omega
            clear g1 ht hat
            by_cases hle : t.From ≤ s.Until
            · have HY := Lib.hid (areMk_heirless (List.mem_of_getElem? K.out) (HZ.out.trans (decide_eq_false (by omega))))
              go_wp2
              go_quiet (fail)
              have B3 := Lib.hid (Below.then' B2.out (bel_drawn W2 nq))
              go_wp2
              go_ret
              exact ⟨ret_bool HY.out.symm, B3.out⟩
            · have hle2 : s.Until < t.From := by omega
              have HY := Lib.hid (HZ.out.trans (decide_eq_true hle2))
              go_wp2
              go_quiet (fail)
              have B3 := Lib.hid (Below.then' B2.out (bel_drawn W2 nq))
              go_wp2
              go_roundw
              case rel => exact ⟨0 + 1, by omega, by go_num, B3.out, all_succ' A.out Z.out, take_alls' HH.out K.out HY.out⟩
              case measure => simp [intOf]; omega
      · have OK := Lib.hid h1
        have P := Lib.hid hp
        have hp0 : (0 : Int) ≤ (j : Int) := by omega
        have hp1 : (j : Int) < (xs.length : Int) := by omega
        clear h1 hs hp
        rcases h2 with ⟨h2, h3⟩ | ⟨h2, h3⟩
        · have Z := Lib.hid h3
          clear h3
          go_wp2
          refine wp_world (fun W => BoxMaker W wr.heap.size s ∧ Below w.heap.size w W) ⟨X.out, BX.out⟩ ?_
          clear c0 c1 c2 c3 c4
          rintro W ⟨hbx, hbw⟩
          have XW := Lib.hid hbx
          have BW := Lib.hid hbw
          obtain ⟨e0, e1, e2, e3, e4⟩ := hbx
          obtain ⟨_, _, eq, _, hat⟩ := (S.out.below hbw).at (by omega)
          cases eq
          have k0 := cell_regrown e0
          have k1 := cell_regrown e1
          have k2 := cell_regrown e2
          have k3 := cell_regrown e3
          have k4 := cell_regrown e4
          obtain ⟨p0, _⟩ := hat j p P.out
          have q0 := cell_regrown p0
          clear p0
          clear hat hbw e0 e1 e2 e3 e4
          have cQ := below_at (W := W) (fun W' _ => OK.out ▸ l7One_any s W' SM.out)
          refine wp_region_quiet_below (by kernel_rfl) (by kernel_rfl) ?_
          repeat (first | go_big_quiet_step (exact cQ _ _) | quiet_step (exact cQ _ _))
          refine wpQuiet_nil ?_
          intro W2 hw2
          have B2 := Lib.hid (Below.then' BW.out (below_of_re hw2))
          have X2 := Lib.hid (XW.out.below (below_of_re hw2))
          clear hw2 cQ k0 k1 k2 k3 k4 q0
          obtain ⟨x0, x1, x2, x3, x4⟩ := X2.out
          have okp := mkOk_iff.1 OK.out
          by_cases h0 : s.Heir = 0
          · have HZ := Lib.hid (heirB_zero (xs := xs) h0)
            have h00 : ¬ (0 : Int) < s.Heir := by omega
            clear okp h0
            go_wp2
            go_roundw
            case rel => exact ⟨j + 1 + 1, by omega, by go_num, B2.out, all_succ' A.out Z.out, take_alls' HH.out K.out HZ.out⟩
            case measure => simp [intOf]; omega
          · have h00 : (0 : Int) < s.Heir := by omega
            have HN := Lib.hid h0
            clear okp h0
            go_wp2_with fail
            refine (l7Find_any _ _ _ xs s.Heir _ (S.out.below B2.out)).mono ?_
            rintro e w' ⟨rfl, rfl⟩
            rcases mkIdx_cases xs s.Heir with ⟨g1, _⟩ | ⟨i, t, g1, ht, _⟩
            · have HZ := Lib.hid (areMk_heirless (List.mem_of_getElem? K.out) (heirB_none HN.out g1))
              rw [g1]
              clear g1
              go_wp2
              go_quiet (fail)
              have B3 := Lib.hid (Below.then' B2.out (bel_drawn W2 nq))
              go_wp2
              go_ret
              exact ⟨ret_bool HZ.out.symm, B3.out⟩
            · have hil := (List.getElem?_eq_some_iff.1 ht).1
              have HZ := Lib.hid (heirB_at HN.out g1 ht)
              rw [g1]
              obtain ⟨_, _, eq, _, hat⟩ := (S.out.below B2.out).at (by omega)
              cases eq
              obtain ⟨y0, y1, y2, y3, y4, _⟩ := hat i t ht
              have hj0 : (0 : Int) ≤ (i : Int) := by omega
              have hj1 : (i : Int) < (xs.length : Int) := by omega
              clear g1 ht hat
              by_cases hle : t.From ≤ s.Until
              · have HY := Lib.hid (areMk_heirless (List.mem_of_getElem? K.out) (HZ.out.trans (decide_eq_false (by omega))))
                go_wp2
                go_quiet (fail)
                have B3 := Lib.hid (Below.then' B2.out (bel_drawn W2 nq))
                go_wp2
                go_ret
                exact ⟨ret_bool HY.out.symm, B3.out⟩
              · have hle2 : s.Until < t.From := by omega
                have HY := Lib.hid (HZ.out.trans (decide_eq_true hle2))
                go_wp2
                go_quiet (fail)
                have B3 := Lib.hid (Below.then' B2.out (bel_drawn W2 nq))
                go_wp2
                go_roundw
                case rel => exact ⟨j + 1 + 1, by omega, by go_num, B3.out, all_succ' A.out Z.out, take_alls' HH.out K.out HY.out⟩
                case measure => simp [intOf]; omega
        · have Z := Lib.hid h3
          clear h3
          go_wp2
          refine wp_world (fun W => BoxMaker W wr.heap.size s ∧ Below w.heap.size w W) ⟨X.out, BX.out⟩ ?_
          clear c0 c1 c2 c3 c4
          rintro W ⟨hbx, hbw⟩
          have XW := Lib.hid hbx
          have BW := Lib.hid hbw
          obtain ⟨e0, e1, e2, e3, e4⟩ := hbx
          obtain ⟨_, _, eq, _, hat⟩ := (S.out.below hbw).at (by omega)
          cases eq
          have k0 := cell_regrown e0
          have k1 := cell_regrown e1
          have k2 := cell_regrown e2
          have k3 := cell_regrown e3
          have k4 := cell_regrown e4
          obtain ⟨p0, _⟩ := hat j p P.out
          have q0 := cell_regrown p0
          clear p0
          clear hat hbw e0 e1 e2 e3 e4
          have cQ := below_at (W := W) (fun W' _ => OK.out ▸ l7One_any s W' SM.out)
          refine wp_region_quiet_below (by kernel_rfl) (by kernel_rfl) ?_
          repeat (first | go_big_quiet_step (exact cQ _ _) | quiet_step (exact cQ _ _))
          refine wpQuiet_nil ?_
          intro W2 hw2
          have B2 := Lib.hid (Below.then' BW.out (below_of_re hw2))
          have X2 := Lib.hid (XW.out.below (below_of_re hw2))
          clear hw2 cQ k0 k1 k2 k3 k4 q0
          go_wp2
          go_ret
          exact ⟨ret_bool (areMk_bad Z.out hlt).symm, B2.out⟩
    · obtain rfl : k = xs.length := by omega
      have U := Lib.hid (show areMk xs = decide (xs.length ≤ 10) from by
        have hh := HH.out
        rw [List.take_of_length_le (Nat.le_refl _)] at hh
        unfold areMk mkUp
        rw [upB_iff.2 (fun i hi => A.out i hi), List.all_eq_true.2 hh]; simp)
      clear hbel
      go_wp2
      go_ret
      exact ⟨ret_bool (by rw [U.out]; simp; omega), B.out⟩
end Go.Proofs.YtpcibejmahhjiaaDoor
