/- FnNeighbors: for every code the law returns true and leaves it as it was. No condition. -/
import Derived.Test.YtidaoijpbdljbaaRows
import Derived.Test.YtidaoijpbdljbaaDrawSh3
import Derived.Test.YtidaoijpbdljbaaSpecOver
import Derived.Test.YtidaoijpbdljbaaStrip3
import Derived.ProofKit
import Derived.OpenShut
import Derived.ShutString
import Derived.ChangeOld
import Derived.Carry
namespace Go.Proofs.Ytidaoijpbdljbaa.fnNeighbors
open Go.ChangeShapes Go.WideShapes Go.ChangeAt Go.RowKit
set_option linter.unusedVariables false

set_option maxHeartbeats 800000 in
theorem vBig_any (a : Option Addr) (len cap : Nat) (w : World) :
    Calls Try.prog 14 #[.slice a len cap] w fun e w' => e = .returned (.bool (decide (65536 < len))) ∧ w = w' := by
  by_cases h : 65536 < len
  · go_enter Try.func14, Try.ntmps14
    go_wp2
    go_ret
    exact ⟨ret_bool (by simp; omega), rfl⟩
  · go_enter Try.func14, Try.ntmps14
    go_wp2
    go_ret
    exact ⟨ret_bool (by simp; omega), rfl⟩
theorem same_id {xs : List Sh} (h : areSh xs = true) {s t : Sh} (hs : s ∈ xs) (ht : t ∈ xs) (e : s.id = t.id) : s = t := by
  obtain ⟨i, hi⟩ := List.getElem?_of_mem hs
  obtain ⟨j, hj⟩ := List.getElem?_of_mem ht
  by_cases hij : i = j
  · subst hij; rw [hi] at hj; exact Option.some.inj hj
  · exact absurd e (areSh_ne h hij hi hj)
/-- What is related to a sheet of the list. -/
theorem rel_at (R : Sh → Sh → Bool) {xs : List Sh} (h : areSh xs = true) {t : Sh} (ht : t ∈ xs) : relOk xs t.id = true ∧ relIds R xs t.id = (xs.filter (R t)).map Sh.id := by
  rcases rel_ways R xs t.id with ⟨h1, _⟩ | ⟨_, h2, _⟩ | ⟨_, i, s, h2, hs, h3, h4⟩
  · rw [h] at h1; cases h1
  · exfalso
    rcases idxOf_cases (fun s => s.id == t.id) xs with ⟨_, k2⟩ | ⟨i, s, k1, _⟩
    · have := k2 t ht; simp at this
    · rw [show idxId xs t.id = (i : Int) from k1] at h2; omega
  · have e : s = t := by
      rcases idxOf_cases (fun s => s.id == t.id) xs with ⟨k1, _⟩ | ⟨j, s', k1, k2, k3, _⟩
      · rw [show idxId xs t.id = -1 from k1] at h2; omega
      · have : (i : Int) = j := by rw [← h2]; exact k1
        have hij : i = j := by omega
        subst hij
        rw [hs] at k2; cases k2
        exact same_id h (List.mem_of_getElem? hs) ht (by simpa using k3)
    subst e
    exact ⟨h3, h4⟩
theorem rel_mem (R : Sh → Sh → Bool) {xs : List Sh} {id v : Int} (h : v ∈ relIds R xs id) : areSh xs = true ∧ ∃ s ∈ xs, ∃ t ∈ xs, s.id = id ∧ t.id = v ∧ R s t = true := by
  rcases rel_ways R xs id with ⟨_, _, h3⟩ | ⟨_, _, _, h3⟩ | ⟨h1, i, s, h2, hs, _, h4⟩
  · rw [h3] at h; simp at h
  · rw [h3] at h; simp at h
  · rw [h4] at h
    obtain ⟨t, ht, rfl⟩ := List.mem_map.1 h
    obtain ⟨t1, t2⟩ := List.mem_filter.1 ht
    refine ⟨h1, s, List.mem_of_getElem? hs, t, t1, ?_, rfl, t2⟩
    rcases idxOf_cases (fun s => s.id == id) xs with ⟨k1, _⟩ | ⟨j, s', k1, k2, k3, _⟩
    · rw [show idxId xs id = -1 from k1] at h2; omega
    · have : (i : Int) = j := by rw [← h2]; exact k1
      have hij : i = j := by omega
      subst hij
      rw [hs] at k2; cases k2
      simpa using k3
theorem near_back {xs : List Sh} {id v : Int} (h : v ∈ relIds nbB xs id) : relOk xs v = true ∧ hasB id (relIds nbB xs v) = true ∧ (v == id) = false := by
  obtain ⟨ha, s, hs, t, ht, rfl, rfl, hst⟩ := rel_mem nbB h
  obtain ⟨r1, r2⟩ := rel_at nbB ha ht
  have hne : s.id ≠ t.id := by
    intro e
    have := same_id ha hs ht e
    subst this
    rw [nbB_self] at hst; cases hst
  refine ⟨r1, hasB_iff.2 ?_, ?_⟩
  · rw [r2]
    refine List.mem_map.2 ⟨s, List.mem_filter.2 ⟨hs, ?_⟩, rfl⟩
    rw [nbB_of (Ne.symm hne)]
    have e2 : nbB s t = nearB s t := by unfold nbB; simp [hne]
    rw [← e2]; exact hst
  · simpa using Ne.symm hne
theorem strip_next {xs : List Sh} {sc : Int} {L : List Int} (ha : areSh xs = true) (h : StripIs xs sc L) {k : Nat} {u v : Int} (hk : 1 ≤ k) (hu : L[k - 1]? = some u) (hv : L[k]? = some v) : relOk xs u = true ∧ hasB v (relIds nbB xs u) = true := by
  obtain ⟨r, c, h1, _⟩ := h
  obtain ⟨s, s1, s2, s3, s4, rfl⟩ := h1 _ _ hu
  obtain ⟨t, t1, t2, t3, t4, rfl⟩ := h1 _ _ hv
  obtain ⟨r1, r2⟩ := rel_at nbB ha s1
  refine ⟨r1, hasB_iff.2 ?_⟩
  rw [r2]
  refine List.mem_map.2 ⟨t, List.mem_filter.2 ⟨t1, ?_⟩, rfl⟩
  have hne : s.id ≠ t.id := by
    intro e
    have := same_id ha s1 t1 e
    subst this
    omega
  have hk' : ((k - 1 : Nat) : Int) = (k : Int) - 1 := by omega
  unfold nbB nearB
  simp only [Bool.and_eq_true, bne_iff_ne, beq_iff_eq, inB_iff]
  refine ⟨hne, by rw [s2, t2], ⟨by omega, by omega⟩, by omega, by omega⟩
theorem over_not (xs : List Sh) (id : Int) : hasB id (relIds ovB xs id) = false := by
  rw [← Bool.not_eq_true, hasB_iff]
  intro h
  obtain ⟨ha, s, hs, t, ht, e1, e2, hst⟩ := rel_mem ovB h
  have := same_id ha hs ht (by rw [e1, e2])
  subst this
  unfold ovB at hst
  simp at hst
theorem rel_len (R : Sh → Sh → Bool) {xs : List Sh} (id : Int) (h : xs.length ≤ 14) : (relIds R xs id).length ≤ 14 := by
  rcases rel_ways R xs id with ⟨_, _, h3⟩ | ⟨_, _, _, h3⟩ | ⟨_, i, s, _, _, _, h4⟩
  · rw [h3]; simp
  · rw [h3]; simp
  · rw [h4, List.length_map]; exact Nat.le_trans (List.length_filter_le _ _) h
theorem strip_same {xs : List Sh} {sc : Int} {L M : List Int} (h : (areSh xs = true ∧ StripIs xs sc L) ∨ (areSh xs = false ∧ L = [])) (h' : (areSh xs = true ∧ StripIs xs sc M) ∨ (areSh xs = false ∧ M = [])) : L = M := by
  rcases h with ⟨a, b⟩ | ⟨a, b⟩ <;> rcases h' with ⟨c, d⟩ | ⟨c, d⟩
  · exact strip_one a b d
  · rw [a] at c; cases c
  · rw [a] at c; cases c
  · rw [b, d]
theorem bnn (q : Bool) : (q != q) = false := by cases q <;> rfl

set_option maxHeartbeats 6400000 in
set_option maxRecDepth 100000 in
theorem walk (a0 : Option Addr) (len0 cap0 : Nat) (z0 : List Int) (w : World) (w0 : IsRow .u8 w a0 len0 cap0 z0) :
    Calls Try.prog 3 #[.slice a0 len0 cap0] w fun e w' => e = .returned (.bool true) ∧ Below w.heap.size w w' := by
  have I := Lib.hid (CodeIn.of_row w0)
  clear w0
  by_cases hbig : 65536 < len0
  · have hd : decide (65536 < len0) = true := by simpa using hbig
    go_enter Try.func3, Try.ntmps3
    go_wp2_with fail
    refine (vBig_any _ _ _ _).mono ?_
    rw [hd]
    rintro e w' ⟨rfl, rfl⟩
    go_wp2
    go_ret
    exact ⟨rfl, Below.refl _ _⟩
  have hd : decide (65536 < len0) = false := by simp; omega
  go_enter Try.func3, Try.ntmps3
  go_wp2_with fail
  refine (vBig_any _ _ _ _).mono ?_
  rw [hd]
  rintro e w' ⟨rfl, rfl⟩
  clear hd hbig
  go_wp2_with fail
  refine (drawNeighborsOf_any _ _ _ _ I.out).mono ?_
  rintro e w1 ⟨a1, c1, xs, id, rfl, hx, hs, hb⟩
  have B1 := Lib.hid hb
  have S1 := Lib.hid hs
  have hl14 := rel_len nbB id hx
  obtain ⟨n1, hn1⟩ : ∃ n, xs.length = n := ⟨_, rfl⟩
  rw [hn1] at S1 hx ⊢
  obtain ⟨ys, hys⟩ : ∃ ys, relIds nbB xs id = ys := ⟨_, rfl⟩
  obtain ⟨q, hq⟩ : ∃ q, relOk xs id = q := ⟨_, rfl⟩
  have Y := Lib.hid hys
  have Q := Lib.hid hq
  have BK := Lib.hid (fun (k : Nat) v (hv : ys[k]? = some v) => near_back (xs := xs) (id := id) (v := v) (by rw [hys]; exact List.mem_of_getElem? hv))
  rw [hys] at hl14
  clear hb hs hys hq hn1
  go_wp2_with fail
  refine (implNeighborsOf_any _ _ _ xs id _ S1.out).mono ?_
  rintro e w2 ⟨v, rfl, hown, hb⟩
  rw [Y.out] at hown
  rw [Q.out]
  obtain ⟨a2, c2, rfl, hi2, _⟩ := isInts_own hown
  have B2 := Lib.hid (Below.then' B1.out hb)
  have S2 := Lib.hid (S1.out.below hb)
  have N2 := Lib.hid hi2
  clear hb hown hi2
  go_wp2_with fail
  refine (specNeighborsOf_any _ _ _ xs id _ S2.out).mono ?_
  rintro e w3 ⟨v, rfl, hown, hb⟩
  rw [Y.out] at hown
  rw [Q.out]
  obtain ⟨a3, c3, rfl, hi3, _⟩ := isInts_own hown
  have B3 := Lib.hid (Below.then' B2.out hb)
  have S3 := Lib.hid (S2.out.below hb)
  have N3 := Lib.hid (N2.out.below hb)
  have M3 := Lib.hid hi3
  have hqq := bnn q
  clear hb hown hi3
  go_wp2_with fail
  refine (vInts_yes _ _ _ _ _ _ ys _ N3.out M3.out).mono ?_
  rintro e w4 ⟨rfl, hb⟩
  have B4 := Lib.hid (Below.then' B3.out hb)
  have S4 := Lib.hid (S3.out.below hb)
  have N4 := Lib.hid (N3.out.below hb)
  clear hb
  go_wp2
  go_loopw [9] (fun i wr => ∃ k : Nat, k ≤ ys.length ∧ i = .int .i64 k ∧ Below w4.heap.size w4 wr) (fun i _ => ys.length - (intOf i).toNat)
  case atStart => exact ⟨0, Nat.zero_le _, rfl, Below.refl _ _⟩
  case round =>
    obtain ⟨k, hk, rfl, hbel⟩ := hrel
    have BR := Lib.hid hbel
    clear hbel
    by_cases hlt : k < ys.length
    · obtain ⟨v, hv⟩ : ∃ v, ys[k]? = some v := ⟨ys[k]'hlt, List.getElem?_eq_getElem _⟩
      obtain ⟨b, o, rfl, _, hat⟩ := (N4.out.below BR.out).at (by omega)
      have c0 := hat k v hv
      obtain ⟨f1, f2, f3⟩ := BK.out k v hv
      have F1 := Lib.hid f1
      have F2 := Lib.hid f2
      have hi0 : (0 : Int) ≤ (k : Int) := by omega
      have hi1 : (k : Int) < (ys.length : Int) := by omega
      clear hat hv f1 f2
      go_wp2_with fail
      refine (implNeighborsOf_any _ _ _ xs v _ (S4.out.below BR.out)).mono ?_
      rintro e w5 ⟨u, rfl, hown, hb⟩
      rw [F1.out]
      obtain ⟨a5, c5, rfl, hi5, _⟩ := isInts_own hown
      have c5' : w5.cell? ⟨b, o + k, none⟩ = some (.int .i64 v) := (hb.cell (p := ⟨b, o + k, none⟩) (World.lt_of_cell c0)).trans c0
      have B5 := Lib.hid (Below.then' BR.out hb)
      have J5 := Lib.hid hi5
      clear hb hown hi5 c0
      go_wp2_with fail
      refine (vHas_any _ _ _ _ id _ J5.out).mono ?_
      rintro e w' ⟨rfl, rfl⟩
      rw [F2.out]
      go_wp2
      go_roundw
      case rel => exact ⟨k + 1, by omega, by go_num, B5.out⟩
      case measure => simp [intOf]; omega
    · obtain rfl : k = ys.length := by omega
      have B5 := Lib.hid (Below.then' B4.out BR.out)
      clear hqq S1 S2 S3 S4 N2 N3 M3
      go_wp2_with fail
      refine (drawLongestStrip_any _ _ _ _ (I.out.below B5.out)).mono ?_
      rintro e w6 ⟨a6, c6, zs, sc, rfl, hz, hs, hb⟩
      have B6 := Lib.hid (Below.then' B5.out hb)
      have S6 := Lib.hid hs
      obtain ⟨n6, hn6⟩ : ∃ n, zs.length = n := ⟨_, rfl⟩
      rw [hn6] at S6 ⊢
      clear hb hs hz hn6
      go_wp2_with fail
      refine (implLongestStrip_any _ _ _ zs sc _ S6.out).mono ?_
      rintro e w7 ⟨L, v, rfl, hcs, hl100, hown, hb⟩
      obtain ⟨p, hp⟩ : ∃ p, decide (0 < L.length) = p := ⟨_, rfl⟩
      rw [hp]
      have P := Lib.hid hp
      have CS := Lib.hid hcs
      obtain ⟨a7, c7, rfl, hi7, _⟩ := isInts_own hown
      have B7 := Lib.hid (Below.then' B6.out hb)
      have S7 := Lib.hid (S6.out.below hb)
      have N7 := Lib.hid hi7
      clear hb hown hi7 hcs hp
      go_wp2_with fail
      refine (specLongestStrip_any _ _ _ zs sc _ S7.out).mono ?_
      rintro e w8 ⟨M, v, rfl, hcs, _, hown, hb⟩
      have hLM := strip_same CS.out hcs
      subst hLM
      rw [P.out]
      obtain ⟨a8, c8, rfl, hi8, _⟩ := isInts_own hown
      have B8 := Lib.hid (Below.then' B7.out hb)
      have S8 := Lib.hid (S7.out.below hb)
      have N8 := Lib.hid (N7.out.below hb)
      have M8 := Lib.hid hi8
      have hpp := bnn p
      clear hb hown hi8 hcs
      go_wp2_with fail
      refine (vInts_yes _ _ _ _ _ _ L _ N8.out M8.out).mono ?_
      rintro e w9 ⟨rfl, hb⟩
      have B9 := Lib.hid (Below.then' B8.out hb)
      have S9 := Lib.hid (S8.out.below hb)
      have N9 := Lib.hid (N8.out.below hb)
      have NX := Lib.hid (fun (k : Nat) u v (hk : 1 ≤ k) (hu : L[k - 1]? = some u) (hv : L[k]? = some v) => by
        rcases CS.out with ⟨h1, h2⟩ | ⟨_, h2⟩
        · exact strip_next h1 h2 hk hu hv
        · rw [h2] at hv; simp at hv)
      clear hb
      go_wp2
      go_loopw [18] (fun i wr => ∃ k : Nat, 1 ≤ k ∧ (k ≤ L.length ∨ k = 1) ∧ i = .int .i64 k ∧ Below w9.heap.size w9 wr) (fun i _ => L.length - (intOf i).toNat)
      case atStart => exact ⟨1, by omega, .inr rfl, rfl, Below.refl _ _⟩
      case round =>
        obtain ⟨k, hk1, hk2, rfl, hbel⟩ := hrel
        have BZ := Lib.hid hbel
        clear hbel
        by_cases hlt : k < L.length
        · obtain ⟨v, hv⟩ : ∃ v, L[k]? = some v := ⟨L[k]'hlt, List.getElem?_eq_getElem _⟩
          obtain ⟨u, hu⟩ : ∃ u, L[k - 1]? = some u := ⟨L[k - 1]'(by omega), List.getElem?_eq_getElem _⟩
          obtain ⟨b, o, rfl, _, hat⟩ := (N9.out.below BZ.out).at (by omega)
          have c0 := hat k v hv
          have c1' := hat (k - 1) u hu
          obtain ⟨f1, f2⟩ := NX.out k u v hk1 hu hv
          have F1 := Lib.hid f1
          have F2 := Lib.hid f2
          have hi0 : (0 : Int) ≤ (k : Int) := by omega
          have hi1 : (k : Int) < (L.length : Int) := by omega
          have hi2 : (0 : Int) ≤ (k : Int) - 1 := by omega
          have hi3 : (1 : Int) ≤ (k : Int) := by omega
          have hi4 : (k : Int) - 1 < (L.length : Int) := by omega
          have ht : ((k : Int) - 1).toNat = k - 1 := by omega
          clear hat hv hu f1 f2
          go_wp2_with fail
          refine (implNeighborsOf_any _ _ _ zs u _ (S9.out.below BZ.out)).mono ?_
          rintro e w10 ⟨v10, rfl, hown, hb⟩
          rw [F1.out]
          obtain ⟨a10, c10, rfl, hi10, _⟩ := isInts_own hown
          have c5' : w10.cell? ⟨b, o + k, none⟩ = some (.int .i64 v) := (hb.cell (p := ⟨b, o + k, none⟩) (World.lt_of_cell c0)).trans c0
          have B10 := Lib.hid (Below.then' BZ.out hb)
          have J10 := Lib.hid hi10
          clear hb hown hi10 c0 c1'
          go_wp2_with fail
          refine (vHas_any _ _ _ _ v _ J10.out).mono ?_
          rintro e w' ⟨rfl, rfl⟩
          rw [F2.out]
          go_wp2
          go_roundw
          case rel => exact ⟨k + 1, by omega, by omega, by go_num, B10.out⟩
          case measure => simp [intOf]; omega
        · have hge : ¬ (k : Int) < (L.length : Int) := by omega
          have B10 := Lib.hid (Below.then' B9.out BZ.out)
          clear hpp S6 S7 S8 S9 N7 N8 M8
          go_wp2_with fail
          refine (drawShowsOverview_any _ _ _ _ (I.out.below B10.out)).mono ?_
          rintro e w11 ⟨a11, c11, us, at', rfl, hz, hs, hb⟩
          have B11 := Lib.hid (Below.then' B10.out hb)
          have S11 := Lib.hid hs
          obtain ⟨n11, hn11⟩ : ∃ n, us.length = n := ⟨_, rfl⟩
          rw [hn11] at S11 ⊢
          obtain ⟨os, hos⟩ : ∃ os, relIds ovB us at' = os := ⟨_, rfl⟩
          obtain ⟨r, hr⟩ : ∃ r, relOk us at' = r := ⟨_, rfl⟩
          have OS := Lib.hid hos
          have RR := Lib.hid hr
          have OV := Lib.hid (show hasB at' os = false by rw [← hos]; exact over_not us at')
          have hrr := bnn r
          clear hb hs hz hn11 hos hr
          go_wp2_with fail
          refine (implShowsOverview_any _ _ _ us at' _ S11.out).mono ?_
          rintro e w12 ⟨v, rfl, hown, hb⟩
          rw [OS.out] at hown
          rw [RR.out]
          obtain ⟨a12, c12, rfl, hi12, _⟩ := isInts_own hown
          have B12 := Lib.hid (Below.then' B11.out hb)
          have S12 := Lib.hid (S11.out.below hb)
          have N12 := Lib.hid hi12
          clear hb hown hi12
          go_wp2_with fail
          refine (specShowsOverview_any _ _ _ us at' _ S12.out).mono ?_
          rintro e w13 ⟨v, rfl, hown, hb⟩
          rw [OS.out] at hown
          rw [RR.out]
          obtain ⟨a13, c13, rfl, hi13, _⟩ := isInts_own hown
          have B13 := Lib.hid (Below.then' B12.out hb)
          have N13 := Lib.hid (N12.out.below hb)
          have M13 := Lib.hid hi13
          clear hb hown hi13
          go_wp2_with fail
          refine (vInts_yes _ _ _ _ _ _ os _ N13.out M13.out).mono ?_
          rintro e w14 ⟨rfl, hb⟩
          have B14 := Lib.hid (Below.then' B13.out hb)
          have N14 := Lib.hid (N13.out.below hb)
          clear hb
          go_wp2_with fail
          refine (vHas_any _ _ _ os at' _ N14.out).mono ?_
          rintro e w' ⟨rfl, rfl⟩
          rw [OV.out]
          go_wp2
          go_ret
          exact ⟨rfl, B14.out⟩

theorem own : ownKnob Try.prog.godebug = none := by kernel_rfl
theorem laidOut : laidOutB Try.prog = true := by kernel_rfl
set_option maxRecDepth 100000 in
theorem lifted (os : Os) (started : os.Started) (H : Type) (enc : TypeId × Value → H) :
    ReturnsInHanded {} Try.checked os 3 .any (Rows.fnNeighborsSpec.pre6 enc Try.prog Try.f3 Rows.fnNeighborsRow.domain false) (Rows.fnNeighborsSpec.post enc Try.prog Try.f3 false true false false) := by
  refine returnsInHanded_of_change (C := Try.checked) own started (by kernel_rfl) Try.func3
    (ChangeSpec.witness6 (enc := enc) (C := Try.checked) false ⟨#[], #[.slice none 0 0], []⟩ 8 (by kernel_rfl) (by kernel_rfl) (by kernel_rfl) (by kernel_rfl)) ?_
  intro W base args ds gs before hval0 hW hcnd _
  have hval : ∀ (j : Nat) t v, Try.f3.params[j]? = some t → args[j]? = some v → Value.okWide Try.prog W .any base t v := hval0
  have hW' := hW
  obtain ⟨p, q, hA0, hV, rfl, hfz, hnd⟩ := hW
  have hA : DataW.TrodAll enc Try.prog W 0 (fun _ => true) true Try.f3.params.toList args.toList ds p := hA0
  rw [Try.params3] at hA hval
  obtain ⟨v0, vs0, d0, ds0, p0, q0, hargs, rfl, rfl, h0, r0⟩ := trodAll_cons hA
  obtain ⟨rfl, rfl, rfl⟩ := trodAll_nil r0
  obtain rfl : args = #[v0] := by cases args; simp_all
  obtain ⟨rfl, rfl⟩ := trodVars_none hV
  obtain ⟨a0, len0, cap0, rfl⟩ := okWide_slice Try.underlying22 (hval 0 22 v0 rfl rfl)
  have k0 := h0
  have lt0 : ∀ x ∈ p0, x.block < W.heap.size := by obtain ⟨m, hm⟩ := k0; exact DataW.trod_lt m _ _ _ hm
  obtain ⟨z0, w0⟩ : ∃ zs, IsRow .u8 W a0 len0 cap0 zs := by
    obtain ⟨fuel, hf⟩ := h0
    rcases open_ints Try.underlying22 Try.underlying5 (by kernel_rfl) hf with ⟨hcs, _⟩ | ⟨x, l, c, zs, hcs, _, hl, hm, hz, _, hcell, hwz⟩
    · simp [Value.cells] at hcs
      obtain ⟨rfl, rfl, rfl⟩ := hcs
      exact ⟨[], .inl ⟨rfl, rfl, rfl, rfl⟩⟩
    · simp [Value.cells] at hcs
      obtain ⟨rfl, rfl, rfl⟩ := hcs
      exact ⟨zs, .inr ⟨_, rfl, hl, hm, by simpa using hz, hcell, hwz⟩⟩
  clear hA0 hval0
  refine (walk a0 len0 cap0 z0 W w0).mono fun e W' ⟨he, bel⟩ => ?_
  subst he
  exact ⟨_, rfl, _, _, _, [], _, [], hW', trodAll_mk1 (shut_bool Try.underlying4 _), (trodAll_cons_mk (Below.trod laidOut (by kernel_rfl) (of_decide_eq_true (by kernel_rfl)) k0 bel lt0) trodAll_mk0), rfl, bel.frame _, fun h => by cases h⟩
theorem over : Rows.fnNeighborsRow.holds Try.pinned (OpenSpec.ofChange Rows.fnNeighborsSpec) :=
  OpenClaim.holds_of_wide 3 Try.f3 rfl rfl rfl rfl rfl rfl rfl ⟨rfl, rfl, rfl, rfl, rfl⟩ rfl rfl rfl rfl rfl (by kernel_rfl) Try.func3 (by kernel_rfl)
    (of_decide_eq_true (by kernel_rfl)) (by unfold Func.isWrapper; first | (rw [if_pos (by decide +kernel)]; kernel_rfl) | (rw [if_neg (by decide +kernel)]; exact ⟨rfl, rfl⟩))
    (fun os started H enc _ => lifted os started H enc)
theorem proved : Rows.FnNeighborsSaid := over
#print axioms proved
end Go.Proofs.Ytidaoijpbdljbaa.fnNeighbors
