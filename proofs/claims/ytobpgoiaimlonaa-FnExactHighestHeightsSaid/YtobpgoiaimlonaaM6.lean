/- Texts in one: TiedMarksP, Cs8, AreSoundClaimsP, LowestHeightsP, HighestHeightsP, Cs9, ClaimL, Fb0. -/
import Derived.Test.YtobpgoiaimlonaaM5
import Derived.Test.YtobpgoiaimlonaaM4
import Derived.Deep.RegionHeld3
import Derived.Test.YtobpgoiaimlonaaM2
import Derived.Test.YtobpgoiaimlonaaM1
import Derived.Test.YtobpgoiaimlonaaM3
import Derived.Lib.SliceRun
namespace Go.Proofs.Ytobpgoiaimlonaa
open Go.RowKit
def TiedMarks_Post (z0 : Int) (z1 : List VClaim) (z2 : Int) (w : World) (e : Ending) (w' : World) : Prop :=
  ∃ v0 : Value, e = .returned (.tuple #[v0, .bool (TiedMarks_1 z0 z1 z2)]) ∧ OwnIntS w.heap.size w'.heap.size w' v0 (TiedMarks_0 z0 z1 z2) ∧ Below w.heap.size w w'
end Go.Proofs.Ytobpgoiaimlonaa
namespace Go.Proofs.Ytobpgoiaimlonaa
open Go.RowKit

theorem isInts_same {w : World} {a : Option Addr} {n c : Nat} {xs ys : List Int} (h : IsInts w a n c xs) (h' : IsInts w a n c ys) : xs = ys := by
  have e1 := h.1
  have e2 := h'.1
  apply List.ext_getElem?
  intro j
  by_cases hj : j < xs.length
  · obtain ⟨b, o, rfl, _, hat⟩ := h.at (by omega)
    obtain ⟨b', o', e, _, hat'⟩ := h'.at (by omega)
    cases e
    have h1 : xs[j]? = some xs[j] := List.getElem?_eq_getElem hj
    have h2 : ys[j]? = some (ys[j]'(by omega)) := List.getElem?_eq_getElem (by omega)
    have c1 := hat j _ h1
    have c2 := hat' j _ h2
    rw [c1] at c2
    rw [h1, h2]
    injection c2 with c2
    injection c2 with _ c2
    rw [c2]
  · rw [List.getElem?_eq_none (by omega), List.getElem?_eq_none (by omega)]
theorem put_own {lo : Nat} {W W' : World} {a : Option Addr} {n c : Nat} {L L' : List Int} {h : Hd} (O : W.ownsRow lo 3 1 (.slice a n c) L.length (intCells L)) (hlo : lo ≤ W.heap.size) (hb : Below W.heap.size W W') (hi : IsInts W' h.a h.n h.c L') (hd : (h.a = a ∧ h.n = n ∧ h.c = c) ∨ W'.ownsRow W.heap.size 3 1 (.slice h.a h.n h.c) L'.length (intCells L')) : W'.ownsRow lo 3 1 (.slice h.a h.n h.c) L'.length (intCells L') := by
  rcases hd with ⟨h1, h2, h3⟩ | hd
  · obtain ⟨a', c', e, hi', _⟩ := isInts_own O
    injection e with e1 e2 e3
    subst e1 e2 e3
    rw [h1, h2, h3] at hi ⊢
    have := isInts_same hi (hi'.below hb)
    subst this
    exact ownsRow_below O hb
  · exact ownsRow_base hd hlo
theorem prsC_take {xs : List VClaim} {t : Nat} {x : VClaim} (h : xs[t]? = some x) (L : List Int) : (prsC (xs.take (t + 1))).foldl tieStep L = tieStep ((prsC (xs.take t)).foldl tieStep L) (x.Low, x.High) := by
  rw [List.take_add_one, h]; simp [prsC]
theorem tied_len {n : Nat} {xs : List VClaim} {k : Nat} (hc : areCl (n : Int) xs = true) (hk : k < n) (r t : Nat) : ((prsC (xs.take t)).foldl tieStep (tieRounds (prsC xs) r [(k : Int)])).length ≤ n := by
  obtain ⟨h1, h2, h3, _⟩ := tieRounds_facts (P := prsC xs) (k := (k : Int)) r
  obtain ⟨g1, g2, _⟩ := tieFold (P := prsC xs) (k := (k : Int)) (prsC (xs.take t)) (fun p hp => by
    obtain ⟨x, hx, rfl⟩ := List.mem_map.1 hp
    exact List.mem_map.2 ⟨x, List.mem_of_mem_take hx, rfl⟩) _ h1 h2
  exact rises_len g1 fun v hv => conn_lt (areCl_prs hc) (by omega) (g2 v hv)
set_option maxHeartbeats 6400000 in
set_option maxRecDepth 100000 in
theorem l8Tied_any (n k : Nat) (a : Option Addr) (len cap : Nat) (xs : List VClaim) (w : World) (h : IsClaimS w a len cap xs) (hc : areCl (n : Int) xs = true) (hk : k < n) :
    Calls Try.prog 72 #[.int .i64 (n : Int), .slice a len cap, .int .i64 (k : Int)] w fun e w' => ∃ v, e = .returned v ∧ w'.ownsRow w.heap.size 3 1 v (tiedL n (prsC xs) (k : Int)).length (intCells (tiedL n (prsC xs) (k : Int))) ∧ Below w.heap.size w w' := by
  have hm := h.2.2.1
  have hcl := h.2.1
  unfold maxLen at hm
  obtain rfl := h.1
  have hn := (areCl_iff.1 hc).2.1
  have S := Lib.hid h
  have C := Lib.hid hc
  have O1 := Lib.hid (show (w.alloc (.cells #[.int .i64 (k : Int)] 3)).ownsRow w.heap.size 3 1 (.slice (some ⟨w.heap.size, 0, none⟩) 1 1) 1 (intCells (tieRounds (prsC xs) 0 [(k : Int)])) from World.ownsRow_lit (base := w.heap.size) (e := 3) (size := 1) w #[.int .i64 (k : Int)] 1 (Nat.le_refl _) (by decide) rfl)
  have B1 := Lib.hid (bel_al1 w (.cells #[.int .i64 (k : Int)] 3))
  clear h hc
  go_enter Try.func72, Try.ntmps72
  go_wp2
  go_loopw [8, 7] (fun i v wr => ∃ r : Nat, r ≤ n ∧ i = .int .i64 r ∧ wr.ownsRow w.heap.size 3 1 v (tieRounds (prsC xs) r [(k : Int)]).length (intCells (tieRounds (prsC xs) r [(k : Int)])) ∧ Below w.heap.size w wr) (fun i _ _ => n - (intOf i).toNat)
  case atStart => exact ⟨0, Nat.zero_le _, rfl, O1.out, B1.out⟩
  case round =>
    obtain ⟨r, hr, rfl, hown, hbel⟩ := hrel
    have O := Lib.hid hown
    have B := Lib.hid hbel
    by_cases hlr : r < n
    · have hlr2 : (r : Int) < (n : Int) := by omega
      have LN := Lib.hid (fun t => tied_len C.out hk r t)
      have NX := Lib.hid (show (prsC xs).foldl tieStep (tieRounds (prsC xs) r [(k : Int)]) = tieRounds (prsC xs) (r + 1) [(k : Int)] from rfl)
      obtain ⟨L0, hL0⟩ : ∃ L0, tieRounds (prsC xs) r [(k : Int)] = L0 := ⟨_, rfl⟩
      rw [hL0] at O LN NX
      clear hown hbel hL0
      go_wp2
      rename World => wq
      go_loopw [9, 7] (fun i v wr => ∃ (t : Nat) (L : List Int), t ≤ xs.length ∧ i = .int .i64 t ∧ L = (prsC (xs.take t)).foldl tieStep L0 ∧ wr.ownsRow w.heap.size 3 1 v L.length (intCells L) ∧ Below w.heap.size w wr) (fun i _ _ => xs.length - (intOf i).toNat)
      case atStart => exact ⟨0, L0, Nat.zero_le _, rfl, rfl, O.out, B.out⟩
      case round =>
        obtain ⟨t, L, ht, rfl, hL, hown, hbel⟩ := hrel
        have HL := Lib.hid hL
        have O2 := Lib.hid hown
        have B2 := Lib.hid hbel
        by_cases hlt : t < xs.length
        · obtain ⟨x, hx⟩ : ∃ x, xs[t]? = some x := ⟨xs[t]'hlt, List.getElem?_eq_getElem _⟩
          obtain ⟨b, o, rfl, hbw, hat⟩ := (S.out.below hbel).at (by omega)
          obtain ⟨c0, c1, c2, c3⟩ := hat t x hx
          have K := Lib.hid hx
          have ST := Lib.hid (prsC_take hx L0)
          have LE := Lib.hid (show L.length ≤ n from by rw [hL]; exact LN.out t)
          obtain ⟨va, vc, rfl, his, _⟩ := isInts_own hown
          have IS := Lib.hid his
          rw [← hL] at ST
          obtain ⟨r1, hr1⟩ : ∃ r, hasB x.Low L = r := ⟨_, rfl⟩
          obtain ⟨r2, hr2⟩ : ∃ r, hasB x.High L = r := ⟨_, rfl⟩
          have R1 := Lib.hid hr1
          have R2 := Lib.hid hr2
          have TS := Lib.hid (show tieStep L (x.Low, x.High) = if r1 = true ∨ r2 = true then putN x.High (putN x.Low L) else L from by unfold tieStep; rw [← hr1, ← hr2])
          have i0 : (0 : Int) ≤ (t : Int) := by omega
          have i1 : (t : Int) < (xs.length : Int) := by omega
          have LL : L.length ≤ 1000 := by have := LE.out; omega
          have LL2 : (putN x.Low L).length ≤ 1000 := by have h1 := LE.out; have h2 := putN_len x.Low L; omega
          have hws := B2.out.size
          clear hL hown hbel hx hat his hr1 hr2
          go_wp2_with fail
          refine (l1Has_any _ _ _ L x.Low _ IS.out).mono ?_
          rintro e w' ⟨rfl, rfl⟩
          rw [R1.out]
          cases r1 with
          | true =>
            have TE := Lib.hid (show (prsC (xs.take (t + 1))).foldl tieStep L0 = putN x.High (putN x.Low L) from by rw [ST.out, TS.out, if_pos (.inl rfl)])
            go_wp2
            have cLo := c0
            have cHi := c1
            have KD := Lib.hid (show Below wr.heap.size wr wr.drew ∧ wr.drew.cell? ⟨b, o + t * 4, none⟩ = some (.int .i64 x.Low) ∧ wr.drew.cell? ⟨b, o + t * 4 + 1, none⟩ = some (.int .i64 x.High) from ⟨(Below.refl _ _).drew, c0, c1⟩)
            have KP := Lib.hid (show ∀ u1 u2 : World, (Below wr.heap.size wr u1 ∧ u1.cell? ⟨b, o + t * 4, none⟩ = some (.int .i64 x.Low) ∧ u1.cell? ⟨b, o + t * 4 + 1, none⟩ = some (.int .i64 x.High)) → Below u1.heap.size u1 u2 → (Below wr.heap.size wr u2 ∧ u2.cell? ⟨b, o + t * 4, none⟩ = some (.int .i64 x.Low) ∧ u2.cell? ⟨b, o + t * 4 + 1, none⟩ = some (.int .i64 x.High)) from fun u1 u2 h hb => ⟨Below.then' h.1 hb, cell_stay h.2.1 hb, cell_stay h.2.2 hb⟩)
            have ISD := Lib.hid (show IsInts wr.drew va L.length vc L from IS.out)
            have OD := Lib.hid (show wr.drew.ownsRow w.heap.size 3 1 (.slice va L.length vc) L.length (intCells L) from O2.out)
            have hwd : w.heap.size ≤ wr.drew.heap.size := hws
            clear c0 c1 c2 c3
            go_region_held3 (fun w' => Below wr.heap.size wr w' ∧ w'.cell? ⟨b, o + t * 4, none⟩ = some (.int .i64 x.Low) ∧ w'.cell? ⟨b, o + t * 4 + 1, none⟩ = some (.int .i64 x.High))
              (first | exact KD.out | exact KP.out _ _ (by assumption) (by assumption))
              (first | (go_at_call 87; refine (l1PutO_any h5.a h5.n h5.c (putN x.Low L) x.High _ I5.out LL2).mono ?_; rintro e w6 ⟨h6, rfl, hi6, hb6, hd6⟩) | (go_at_call 87; refine (l1PutO_any va L.length vc L x.Low _ ISD.out LL).mono ?_; rintro e w5 ⟨h5, rfl, hi5, hb5, hd5⟩; have I5 := Lib.hid hi5))
            have O5 := Lib.hid (put_own OD.out hwd hb5 I5.out hd5)
            have hw5 : w.heap.size ≤ w5.heap.size := Nat.le_trans hwd hb5.size
            have O6 := Lib.hid (put_own O5.out hw5 hb6 hi6 hd6)
            have B6 := Lib.hid (Below.then' (bel_drew' B2.out) (Below.then' hb5 hb6))
            clear hb5 hb6 hi6 hd5 hd6 cLo cHi
            go_wp2
            go_roundw
            case rel => exact ⟨t + 1, _, by omega, by go_num, TE.out.symm, O6.out, B6.out⟩
            case measure => simp [intOf]; omega
          | false =>
            go_wp2_with fail
            refine (l1Has_any _ _ _ L x.High _ IS.out).mono ?_
            rintro e w' ⟨rfl, rfl⟩
            rw [R2.out]
            cases r2 with
            | true =>
              have TE := Lib.hid (show (prsC (xs.take (t + 1))).foldl tieStep L0 = putN x.High (putN x.Low L) from by rw [ST.out, TS.out, if_pos (.inr rfl)])
              go_wp2
              have cLo := c0
              have cHi := c1
              have KD := Lib.hid (show Below wr.heap.size wr wr.drew ∧ wr.drew.cell? ⟨b, o + t * 4, none⟩ = some (.int .i64 x.Low) ∧ wr.drew.cell? ⟨b, o + t * 4 + 1, none⟩ = some (.int .i64 x.High) from ⟨(Below.refl _ _).drew, c0, c1⟩)
              have KP := Lib.hid (show ∀ u1 u2 : World, (Below wr.heap.size wr u1 ∧ u1.cell? ⟨b, o + t * 4, none⟩ = some (.int .i64 x.Low) ∧ u1.cell? ⟨b, o + t * 4 + 1, none⟩ = some (.int .i64 x.High)) → Below u1.heap.size u1 u2 → (Below wr.heap.size wr u2 ∧ u2.cell? ⟨b, o + t * 4, none⟩ = some (.int .i64 x.Low) ∧ u2.cell? ⟨b, o + t * 4 + 1, none⟩ = some (.int .i64 x.High)) from fun u1 u2 h hb => ⟨Below.then' h.1 hb, cell_stay h.2.1 hb, cell_stay h.2.2 hb⟩)
              have ISD := Lib.hid (show IsInts wr.drew va L.length vc L from IS.out)
              have OD := Lib.hid (show wr.drew.ownsRow w.heap.size 3 1 (.slice va L.length vc) L.length (intCells L) from O2.out)
              have hwd : w.heap.size ≤ wr.drew.heap.size := hws
              clear c0 c1 c2 c3
              go_region_held3 (fun w' => Below wr.heap.size wr w' ∧ w'.cell? ⟨b, o + t * 4, none⟩ = some (.int .i64 x.Low) ∧ w'.cell? ⟨b, o + t * 4 + 1, none⟩ = some (.int .i64 x.High))
                (first | exact KD.out | exact KP.out _ _ (by assumption) (by assumption))
                (first | (go_at_call 87; refine (l1PutO_any h5.a h5.n h5.c (putN x.Low L) x.High _ I5.out LL2).mono ?_; rintro e w6 ⟨h6, rfl, hi6, hb6, hd6⟩) | (go_at_call 87; refine (l1PutO_any va L.length vc L x.Low _ ISD.out LL).mono ?_; rintro e w5 ⟨h5, rfl, hi5, hb5, hd5⟩; have I5 := Lib.hid hi5))
              have O5 := Lib.hid (put_own OD.out hwd hb5 I5.out hd5)
              have hw5 : w.heap.size ≤ w5.heap.size := Nat.le_trans hwd hb5.size
              have O6 := Lib.hid (put_own O5.out hw5 hb6 hi6 hd6)
              have B6 := Lib.hid (Below.then' (bel_drew' B2.out) (Below.then' hb5 hb6))
              clear hb5 hb6 hi6 hd5 hd6 cLo cHi
              go_wp2
              go_roundw
              case rel => exact ⟨t + 1, _, by omega, by go_num, TE.out.symm, O6.out, B6.out⟩
              case measure => simp [intOf]; omega
            | false =>
              have TE := Lib.hid (show (prsC (xs.take (t + 1))).foldl tieStep L0 = L from by rw [ST.out, TS.out, if_neg (by simp)])
              go_wp2
              go_roundw
              case rel => exact ⟨t + 1, L, by omega, by go_num, TE.out.symm, O2.out, B2.out⟩
              case measure => simp [intOf]; omega
        · obtain rfl : t = xs.length := by omega
          have E := Lib.hid (show L = tieRounds (prsC xs) (r + 1) [(k : Int)] from by rw [hL, List.take_of_length_le (Nat.le_refl _)]; exact NX.out)
          clear hL hown hbel
          go_wp2
          go_roundw
          case rel => exact ⟨r + 1, by omega, by go_num, by rw [← E.out]; exact O2.out, B2.out⟩
          case measure => simp [intOf]; omega
    · obtain rfl : r = n := by omega
      clear hown hbel
      go_wp2
      go_ret
      exact ⟨_, rfl, O.out, B.out⟩
set_option maxHeartbeats 6400000 in
set_option maxRecDepth 100000 in
theorem specTiedMarks_any (n : Int) (a : Option Addr) (len cap : Nat) (xs : List VClaim) (k : Int) (w : World) (h : IsClaimS w a len cap xs) (_ : condClaim xs) :
    Calls Try.prog 29 #[.int .i64 n, .slice a len cap, .int .i64 k] w (TiedMarks_Post n xs k w) := by
  have S := Lib.hid h
  clear h
  obtain ⟨p, hp⟩ : ∃ p, areCl n xs = p := ⟨_, rfl⟩
  have PP := Lib.hid hp
  clear hp
  go_enter Try.func29, Try.ntmps29
  go_wp2_with fail
  refine (l8Good_any n _ _ _ xs _ S.out).mono ?_
  rintro e w1 ⟨rfl, hb⟩
  rw [PP.out]
  have B1 := Lib.hid hb
  have S1 := Lib.hid (S.out.below hb)
  have OE := Lib.hid (show OwnIntS w.heap.size (w1.alloc (.cells #[] 3)).heap.size (w1.alloc (.cells #[] 3)) (.slice (some ⟨w1.heap.size, 0, none⟩) 0 0) [] from OwnIn.of_row (ownsRow_base (made_ids w1) hb.size) (Nat.le_refl _) (Nat.le_refl _))
  have BE := Lib.hid (Below.then' hb (wh_al1 w1 (.cells #[] 3)))
  clear hb
  have no : tieB n xs k = false → TiedMarks_0 n xs k = [] ∧ TiedMarks_1 n xs k = false := fun hh => ⟨by unfold TiedMarks_0; rw [hh]; rfl, hh⟩
  have NO := Lib.hid no
  clear no
  cases p
  · have E := Lib.hid (NO.out (by unfold tieB; rw [PP.out]; rfl))
    go_wp2
    go_ret2
    exact ⟨_, by rw [E.out.2]; rfl, by rw [E.out.1]; exact OE.out, BE.out⟩
  by_cases h0 : k < 0
  · have E := Lib.hid (NO.out (by unfold tieB; rw [decide_eq_false (show ¬ 0 ≤ k by omega)]; simp))
    go_wp2
    go_ret2
    exact ⟨_, by rw [E.out.2]; rfl, by rw [E.out.1]; exact OE.out, BE.out⟩
  by_cases h1 : n ≤ k
  · have E := Lib.hid (NO.out (by unfold tieB; rw [decide_eq_false (show ¬ k < n by omega)]; simp))
    go_wp2
    go_ret2
    exact ⟨_, by rw [E.out.2]; rfl, by rw [E.out.1]; exact OE.out, BE.out⟩
  have hn := (areCl_iff.1 PP.out).2.1
  obtain ⟨j, rfl⟩ : ∃ j : Nat, n = (j : Int) := ⟨n.toNat, by omega⟩
  obtain ⟨i, rfl⟩ : ∃ i : Nat, k = (i : Int) := ⟨k.toNat, by omega⟩
  have hij : i < j := by omega
  have TB := Lib.hid (show tieB (j : Int) xs (i : Int) = true from by unfold tieB; rw [PP.out, decide_eq_true (show (0 : Int) ≤ (i : Int) by omega), decide_eq_true (show (i : Int) < (j : Int) by omega)]; rfl)
  have E0 := Lib.hid (show TiedMarks_0 (j : Int) xs (i : Int) = tiedL j (prsC xs) (i : Int) from by unfold TiedMarks_0; rw [TB.out]; rfl)
  have E1 := Lib.hid (show TiedMarks_1 (j : Int) xs (i : Int) = true from by unfold TiedMarks_1; rw [TB.out])
  clear hn OE BE
  go_wp2_with fail
  refine (l8Tied_any j i _ _ _ xs _ S1.out PP.out hij).mono ?_
  rintro e w3 ⟨v, rfl, hown, hb⟩
  have B3 := Lib.hid (Below.then' B1.out hb)
  have O := Lib.hid (show OwnIntS w.heap.size w3.heap.size w3 v (tiedL j (prsC xs) (i : Int)) from OwnIn.of_row (ownsRow_base hown B1.out.size) (Nat.le_refl _) (Nat.le_refl _))
  clear hown hb
  go_wp2
  go_ret2
  exact ⟨_, by rw [E1.out]; rfl, by rw [E0.out]; exact O.out, B3.out⟩
end Go.Proofs.Ytobpgoiaimlonaa
namespace Go.Proofs.Ytobpgoiaimlonaa
open Go.RowKit
def AreSoundClaims_Post (z0 : Int) (z1 : List VClaim) (w : World) (e : Ending) (w' : World) : Prop :=
  e = .returned (.tuple #[.bool (AreSoundClaims_0 z0 z1), .bool (AreSoundClaims_1 z0 z1)]) ∧ Below w.heap.size w w'
end Go.Proofs.Ytobpgoiaimlonaa
namespace Go.Proofs.Ytobpgoiaimlonaa
open Go.RowKit
def LowestHeights_Post (z0 : Int) (z1 : List VClaim) (w : World) (e : Ending) (w' : World) : Prop :=
  ∃ v0 : Value, e = .returned (.tuple #[v0, .bool (LowestHeights_1 z0 z1)]) ∧ OwnIntS w.heap.size w'.heap.size w' v0 (LowestHeights_0 z0 z1) ∧ Below w.heap.size w w'
end Go.Proofs.Ytobpgoiaimlonaa
namespace Go.Proofs.Ytobpgoiaimlonaa
open Go.RowKit
def HighestHeights_Post (z0 : Int) (z1 : List VClaim) (w : World) (e : Ending) (w' : World) : Prop :=
  ∃ v0 : Value, e = .returned (.tuple #[v0, .bool (HighestHeights_1 z0 z1)]) ∧ OwnIntS w.heap.size w'.heap.size w' v0 (HighestHeights_0 z0 z1) ∧ Below w.heap.size w w'
end Go.Proofs.Ytobpgoiaimlonaa
namespace Go.Proofs.Ytobpgoiaimlonaa
open Go.RowKit

theorem soundB_no {n : Nat} {xs : List VClaim} {k : Nat} (hk : k < n) (h : (reachL n xs k).2 = false) : soundB n xs = false := by
  unfold soundB soundN
  rw [List.all_eq_false]
  exact ⟨k, List.mem_range.2 hk, by show ¬ (reachL n xs k).2 = true; rw [h]; simp⟩
set_option maxHeartbeats 3200000 in
set_option maxRecDepth 100000 in
theorem l8Sound_any (n : Nat) (a : Option Addr) (len cap : Nat) (xs : List VClaim) (w : World) (h : IsClaimS w a len cap xs) (hc : areCl (n : Int) xs = true) :
    Calls Try.prog 76 #[.int .i64 (n : Int), .slice a len cap] w fun e w' => e = .returned (.bool (soundB n xs)) ∧ Below w.heap.size w w' := by
  have hn := (areCl_iff.1 hc).2.1
  have S := Lib.hid h
  have C := Lib.hid hc
  clear h hc
  go_enter Try.func76, Try.ntmps76
  go_wp2
  go_loopw [5] (fun i wr => ∃ k : Nat, k ≤ n ∧ i = .int .i64 k ∧ Below w.heap.size w wr ∧ ∀ t, t < k → (reachL n xs t).2 = true) (fun i _ => n - (intOf i).toNat)
  case atStart => exact ⟨0, Nat.zero_le _, rfl, Below.refl _ _, fun t ht => by omega⟩
  case round =>
    obtain ⟨k, hk, rfl, hbel, hall⟩ := hrel
    have A := Lib.hid hall
    have B := Lib.hid hbel
    clear hall
    by_cases hlt : k < n
    · have hlt2 : (k : Int) < (n : Int) := by omega
      obtain ⟨q, hq⟩ : ∃ q, (reachL n xs k).2 = q := ⟨_, rfl⟩
      have Q := Lib.hid hq
      clear hbel hq
      go_wp2_with fail
      refine (l8Reach_any n k _ _ _ xs _ (S.out.below B.out) C.out hlt).mono ?_
      rintro e w2 ⟨v, rfl, _, hb⟩
      rw [Q.out]
      have B2 := Lib.hid (Below.then' B.out hb)
      clear hb
      cases q
      · have N := Lib.hid (soundB_no hlt Q.out)
        go_wp2
        go_ret
        exact ⟨ret_bool N.out.symm, B2.out⟩
      · go_wp2
        go_roundw
        case rel => exact ⟨k + 1, by omega, by go_num, B2.out, fun t ht => by
          by_cases e : t = k
          · subst e; exact Q.out
          · exact A.out t (by omega)⟩
        case measure => simp [intOf]; omega
    · obtain rfl : k = n := by omega
      have Y := Lib.hid (show soundB k xs = true from by
        unfold soundB soundN
        rw [List.all_eq_true]
        exact fun t ht => A.out t (List.mem_range.1 ht))
      clear hbel
      go_wp2
      go_ret
      exact ⟨ret_bool Y.out.symm, B.out⟩
set_option maxHeartbeats 3200000 in
theorem specAreSoundClaims_any (n : Int) (a : Option Addr) (len cap : Nat) (xs : List VClaim) (w : World) (h : IsClaimS w a len cap xs) (_ : condClaim xs) :
    Calls Try.prog 36 #[.int .i64 n, .slice a len cap] w (AreSoundClaims_Post n xs w) := by
  have S := Lib.hid h
  clear h
  obtain ⟨p, hp⟩ : ∃ p, areCl n xs = p := ⟨_, rfl⟩
  have PP := Lib.hid hp
  have E1 := Lib.hid (show AreSoundClaims_1 n xs = p from hp)
  have E0 := Lib.hid (show AreSoundClaims_0 n xs = (p && soundB n.toNat xs) from by unfold AreSoundClaims_0; rw [hp])
  clear hp
  go_enter Try.func36, Try.ntmps36
  go_wp2_with fail
  refine (l8Good_any n _ _ _ xs _ S.out).mono ?_
  rintro e w1 ⟨rfl, hb⟩
  rw [PP.out]
  have B1 := Lib.hid hb
  have S1 := Lib.hid (S.out.below hb)
  clear hb
  cases p
  · go_wp2
    go_ret2
    exact ⟨by rw [E0.out, E1.out]; rfl, B1.out⟩
  obtain ⟨j, rfl, _, _⟩ := areCl_nat PP.out
  rw [Int.toNat_natCast] at E0
  obtain ⟨q, hq⟩ : ∃ q, soundB j xs = q := ⟨_, rfl⟩
  have QQ := Lib.hid hq
  rw [hq] at E0
  clear hq
  go_wp2_with fail
  refine (l8Sound_any j _ _ _ xs _ S1.out PP.out).mono ?_
  rintro e w2 ⟨rfl, hb⟩
  rw [QQ.out]
  have B2 := Lib.hid (Below.then' B1.out hb)
  clear hb
  go_wp2
  go_ret2
  exact ⟨by rw [E0.out, E1.out]; rfl, B2.out⟩
set_option maxHeartbeats 3200000 in
theorem l8Told_any (n : Int) (a : Option Addr) (len cap : Nat) (xs : List VClaim) (w : World) (h : IsClaimS w a len cap xs) :
    Calls Try.prog 78 #[.int .i64 n, .slice a len cap] w fun e w' => e = .returned (.bool (toldB n xs)) ∧ Below w.heap.size w w' := by
  have S := Lib.hid h
  clear h
  obtain ⟨p, hp⟩ : ∃ p, areCl n xs = p := ⟨_, rfl⟩
  have PP := Lib.hid hp
  have TB := Lib.hid (show toldB n xs = (p && (decide (((tiedL n.toNat (prsC xs) 0).length : Int) = n) && soundB n.toNat xs)) from by unfold toldB; rw [hp])
  clear hp
  go_enter Try.func78, Try.ntmps78
  go_wp2_with fail
  refine (l8Good_any n _ _ _ xs _ S.out).mono ?_
  rintro e w1 ⟨rfl, hb⟩
  rw [PP.out]
  have B1 := Lib.hid hb
  have S1 := Lib.hid (S.out.below hb)
  clear hb
  cases p
  · go_wp2
    go_ret
    exact ⟨ret_bool (by rw [TB.out]; rfl), B1.out⟩
  obtain ⟨j, rfl, hj1, hj2⟩ := areCl_nat PP.out
  rw [Int.toNat_natCast] at TB
  go_wp2_with fail
  refine (l8Tied_any j 0 _ _ _ xs _ S1.out PP.out (by omega)).mono ?_
  rintro e w2 ⟨v, rfl, hown, hb⟩
  have B2 := Lib.hid (Below.then' B1.out hb)
  have S2 := Lib.hid (S1.out.below hb)
  obtain ⟨a2, c2, rfl, _, _⟩ := isInts_own hown
  obtain ⟨m, hm⟩ : ∃ m, (tiedL j (prsC xs) (0 : Int)).length = m := ⟨_, rfl⟩
  rw [show (((0 : Nat) : Int)) = (0 : Int) from rfl, hm]
  rw [hm] at TB
  clear hown hb hm
  by_cases hmj : m = j
  · have z1 : ((m : Int) == (j : Int)) = true := by simp [hmj]
    have z2 : (m == j) = true := by simp [hmj]
    have D := Lib.hid (decide_eq_true (show (m : Int) = (j : Int) by omega))
    obtain ⟨q, hq⟩ : ∃ q, soundB j xs = q := ⟨_, rfl⟩
    have QQ := Lib.hid hq
    rw [hq] at TB
    clear hq hmj
    go_wp2_with fail
    refine (l8Sound_any j _ _ _ xs _ S2.out PP.out).mono ?_
    rintro e w3 ⟨rfl, hb⟩
    rw [QQ.out]
    have B3 := Lib.hid (Below.then' B2.out hb)
    clear hb
    go_wp2
    go_ret
    exact ⟨ret_bool (by rw [TB.out, D.out]; rfl), B3.out⟩
  · have z1 : ((m : Int) == (j : Int)) = false := beq_eq_false_iff_ne.2 (by omega)
    have z2 : (m == j) = false := by simpa using hmj
    have D := Lib.hid (decide_eq_false (show ¬ (m : Int) = (j : Int) by omega))
    clear hmj
    go_wp2
    go_ret
    exact ⟨ret_bool (by rw [TB.out, D.out]; rfl), B2.out⟩
theorem reach_bd {n k v : Nat} {xs : List VClaim} (hc : areCl (n : Int) xs = true) (hs : soundB n xs = true) (hk : k < n) : -100000 ≤ gD (reachL n xs k).1 v ∧ gD (reachL n xs k).1 v ≤ 1000000 := by
  have hn := (areCl_iff.1 hc).2.1
  have hf := areCl_fit hc
  obtain ⟨h, hp⟩ := (soundN_iff hf (by omega)).1 hs
  have hi := (reach_ends hf hk (List.all_eq_true.1 hs k (List.mem_range.2 hk))).1
  have h4 := hi.2.2.2 v
  refine ⟨?_, h4⟩
  by_cases hlt : gD (reachN n (clE xs) k).1 v < farD
  · obtain ⟨l, hw⟩ := hi.2.1 v hlt
    obtain ⟨b, m, hb⟩ := best_of hp hw
    have h1 := best_len hf.fit hk _ _ _ hb
    have h2 := walk_lo (c := 9999) (fun u v w he => (hf u v w he).2.2.2.1) hb.1
    have h3 := hb.2.1 _ _ hw
    show -100000 ≤ gD (reachN n (clE xs) k).1 v
    omega
  · show -100000 ≤ gD (reachN n (clE xs) k).1 v
    unfold farD at hlt
    omega
theorem told_parts {n : Nat} {xs : List VClaim} (h : toldB (n : Int) xs = true) : areCl (n : Int) xs = true ∧ (tiedL n (prsC xs) 0).length = n ∧ soundB n xs = true := by
  unfold toldB at h
  simp only [Bool.and_eq_true, decide_eq_true_eq, Int.toNat_natCast] at h
  exact ⟨h.1, by have := h.2.1; omega, h.2.2⟩
def lowTo (n : Nat) (xs : List VClaim) (k : Nat) : List Int := (List.range k).map fun t => -(gD (reachL n xs t).1 0)
theorem lowTo_succ (n : Nat) (xs : List VClaim) (k : Nat) : lowTo n xs (k + 1) = lowTo n xs k ++ [-(gD (reachL n xs k).1 0)] := by
  unfold lowTo; rw [List.range_succ, List.map_append]; rfl
theorem lowTo_len (n : Nat) (xs : List VClaim) (k : Nat) : (lowTo n xs k).length = k := by simp [lowTo]
set_option maxHeartbeats 6400000 in
set_option maxRecDepth 100000 in
theorem specLowestHeights_any (n : Int) (a : Option Addr) (len cap : Nat) (xs : List VClaim) (w : World) (h : IsClaimS w a len cap xs) (_ : condClaim xs) :
    Calls Try.prog 40 #[.int .i64 n, .slice a len cap] w (LowestHeights_Post n xs w) := by
  obtain ⟨i0, hi, hz0, hz1, hz2⟩ := info_parts infoInt
  have b0 := wh_al1 w (.cells #[] 3)
  have SW := Lib.hid h
  have S := Lib.hid (h.below b0)
  have O0 := Lib.hid (made_ids w)
  have B0 := Lib.hid b0
  clear h b0
  obtain ⟨p, hp⟩ : ∃ p, toldB n xs = p := ⟨_, rfl⟩
  have PP := Lib.hid hp
  have E1 := Lib.hid (show LowestHeights_1 n xs = p from hp)
  clear hp
  go_enter Try.func40, Try.ntmps40
  go_wp2_with fail
  refine (l8Told_any n _ _ _ xs _ S.out).mono ?_
  rintro e w1 ⟨rfl, hb⟩
  rw [PP.out]
  have B1 := Lib.hid (Below.then' B0.out hb)
  have S1 := Lib.hid (S.out.below hb)
  have O1 := Lib.hid (ownsRow_below O0.out hb)
  clear hb
  cases p
  · have E0 := Lib.hid (show LowestHeights_0 n xs = [] from by unfold LowestHeights_0; rw [PP.out]; rfl)
    go_wp2
    go_ret2
    exact ⟨_, by rw [E1.out]; rfl, by rw [E0.out]; exact OwnIn.of_row O1.out (Nat.le_refl _) (Nat.le_refl _), B1.out⟩
  obtain ⟨j, rfl, hj1, hj2⟩ := areCl_nat (show areCl n xs = true from by have := PP.out; unfold toldB at this; simp only [Bool.and_eq_true] at this; exact this.1)
  have E0 := Lib.hid (show LowestHeights_0 (j : Int) xs = lowTo j xs j from by unfold LowestHeights_0; rw [PP.out]; rfl)
  have TP := Lib.hid (told_parts PP.out)
  go_wp2
  go_loopw [7, 6] (fun i o wr => ∃ k : Nat, k ≤ j ∧ i = .int .i64 k ∧ wr.ownsRow w.heap.size 3 1 o (lowTo j xs k).length (intCells (lowTo j xs k)) ∧ Below w.heap.size w wr) (fun i _ _ => j - (intOf i).toNat)
  case atStart => exact ⟨0, Nat.zero_le _, rfl, O1.out, B1.out⟩
  case round =>
    obtain ⟨k, hk, rfl, hown, hbel⟩ := hrel
    have B := Lib.hid hbel
    by_cases hlt : k < j
    · have hlt2 : (k : Int) < (j : Int) := by omega
      have hgl := lowTo_len j xs k
      have FS := Lib.hid (lowTo_succ j xs k)
      obtain ⟨G, hG⟩ : ∃ G, lowTo j xs k = G := ⟨_, rfl⟩
      rw [hG] at hown FS hgl
      have O := Lib.hid hown
      have GL := Lib.hid hgl
      have hsz := B.out.size
      clear hown hbel hG hgl
      go_wp2_with fail
      refine (l8Reach_any j k _ _ _ xs _ (SW.out.below B.out) TP.out.1 hlt).mono ?_
      rintro e w2 ⟨v, rfl, hv, hb⟩
      have hl := reachL_len TP.out.1 TP.out.2.2 hlt
      have bd := reach_bd (v := 0) TP.out.1 TP.out.2.2 hlt
      obtain ⟨q2, hq2⟩ : ∃ q, (reachL j xs k).2 = q := ⟨_, rfl⟩
      obtain ⟨D, hD⟩ : ∃ D, (reachL j xs k).1 = D := ⟨_, rfl⟩
      rw [hD] at hv hl bd FS
      rw [hq2]
      obtain ⟨y, hy⟩ : ∃ y, gD D 0 = y := ⟨_, rfl⟩
      rw [hy] at bd FS
      have hv' : w2.ownsRow wr.heap.size 3 1 v D.length (intCells D) := by rw [hl]; exact hv
      obtain ⟨va, vc, rfl, his, _⟩ := isInts_own hv'
      obtain ⟨b2, o2, rfl, _, hat⟩ := his.at (by omega)
      have c0 := hat 0 y (by rw [← hy]; exact gD_at (by omega))
      rw [Nat.add_zero] at c0
      have hw0 : IntKind.i64.wrap (-y) = -y := IntWalk.i64_in _ (by omega)
      have d0 : (0 : Int) < (D.length : Int) := by omega
      have B2 := Lib.hid (Below.then' B.out hb)
      have hown3 := (ownsRow_below O.out hb).alloc (.cells #[.int .i64 (-y)] 3)
      have hs2 := hb.size
      have hgl := GL.out
      clear hv hv' his hat hl bd hD hy hq2 hb
      go_wp2_with (at_builtin; refine wpList_append_own _ rfl _ _ 25 rfl w.heap.size 3 i0 (.int .i64 0) 1 8 Try.underlying25 hi hz0 hz1 hz2 rfl (by decide) _ _ _ rfl hown3 ⟨w2.heap.size, 0, none⟩ 1 1 [.int .i64 (-y)] rfl rfl (cell_one _ _ _) (fun x hx => by simp at hx; subst hx; rfl) (by unfold maxLen; omega) (by omega) (by simp; omega) ?_; intro v' w4 hown' hgrow4 hnil4)
      go_roundw
      case rel =>
        refine ⟨k + 1, by omega, by go_num, ?_, (Below.then' B2.out (wh_al1 _ _)).grown hgrow4 (by simp; omega) (fun j e => (hown3.lt j e).1)⟩
        rw [FS.out, intCells_snoc, List.length_append]
        exact hown'
      case measure => simp [intOf]; omega
    · obtain rfl : k = j := by omega
      have O := Lib.hid (show OwnIntS w.heap.size wr.heap.size wr u6 (lowTo k xs k) from OwnIn.of_row hown (Nat.le_refl _) (Nat.le_refl _))
      clear hbel hown
      go_wp2
      go_ret2
      exact ⟨_, by rw [E1.out]; rfl, by rw [E0.out]; exact O.out, B.out⟩
set_option maxHeartbeats 6400000 in
set_option maxRecDepth 100000 in
theorem specHighestHeights_any (n : Int) (a : Option Addr) (len cap : Nat) (xs : List VClaim) (w : World) (h : IsClaimS w a len cap xs) (_ : condClaim xs) :
    Calls Try.prog 45 #[.int .i64 n, .slice a len cap] w (HighestHeights_Post n xs w) := by
  have S := Lib.hid h
  clear h
  obtain ⟨p, hp⟩ : ∃ p, toldB n xs = p := ⟨_, rfl⟩
  have PP := Lib.hid hp
  have E1 := Lib.hid (show HighestHeights_1 n xs = p from hp)
  clear hp
  go_enter Try.func45, Try.ntmps45
  go_wp2_with fail
  refine (l8Told_any n _ _ _ xs _ S.out).mono ?_
  rintro e w1 ⟨rfl, hb⟩
  rw [PP.out]
  have B1 := Lib.hid hb
  have S1 := Lib.hid (S.out.below hb)
  have OE := Lib.hid (show OwnIntS w.heap.size (w1.alloc (.cells #[] 3)).heap.size (w1.alloc (.cells #[] 3)) (.slice (some ⟨w1.heap.size, 0, none⟩) 0 0) [] from OwnIn.of_row (ownsRow_base (made_ids w1) hb.size) (Nat.le_refl _) (Nat.le_refl _))
  have BE := Lib.hid (Below.then' hb (wh_al1 w1 (.cells #[] 3)))
  clear hb
  cases p
  · have E0 := Lib.hid (show HighestHeights_0 n xs = [] from by unfold HighestHeights_0; rw [PP.out]; rfl)
    go_wp2
    go_ret2
    exact ⟨_, by rw [E1.out]; rfl, by rw [E0.out]; exact OE.out, BE.out⟩
  obtain ⟨j, rfl, hj1, hj2⟩ := areCl_nat (show areCl n xs = true from by have := PP.out; unfold toldB at this; simp only [Bool.and_eq_true] at this; exact this.1)
  have E0 := Lib.hid (show HighestHeights_0 (j : Int) xs = (reachL j xs 0).1 from by unfold HighestHeights_0; rw [PP.out]; rfl)
  have TP := Lib.hid (told_parts PP.out)
  have hl := reachL_len TP.out.1 TP.out.2.2 (show 0 < j by omega)
  have HL := Lib.hid hl
  clear hl OE BE
  go_wp2_with fail
  refine (l8Reach_any j 0 _ _ _ xs _ S1.out TP.out.1 (by omega)).mono ?_
  rintro e w2 ⟨v, rfl, hv, hb⟩
  have B2 := Lib.hid (Below.then' B1.out hb)
  have O := Lib.hid (show OwnIntS w.heap.size w2.heap.size w2 v (reachL j xs 0).1 from OwnIn.of_row (by rw [HL.out]; exact ownsRow_base hv B1.out.size) (Nat.le_refl _) (Nat.le_refl _))
  clear hv hb
  go_wp2
  go_ret2
  exact ⟨_, by rw [E1.out]; rfl, by rw [E0.out]; exact O.out, B2.out⟩
end Go.Proofs.Ytobpgoiaimlonaa
namespace Go.Proofs.Ytobpgoiaimlonaa
open Go.RowKit
theorem list_atClaim {xs : List VClaim} {len k : Nat} (hl : Hid (len = xs.length)) (hk : k < len) : ∃ s, xs[k]? = some s := ⟨xs[k]'(by have := hl.out; omega), List.getElem?_eq_getElem _⟩
theorem made_ownClaim (w : World) (base : Nat) (h : base ≤ w.heap.size) : (w.alloc (.cells #[] 38)).ownsRow base 38 4 (.slice (some ⟨w.heap.size, 0, none⟩) 0 0) ([] : List VClaim).length (cellsClaim []) :=
  World.ownsRow_made (base := base) (e := 38) (size := 4) w #[] 0 h (Nat.zero_le _) rfl
theorem one_Claim (xs : List VClaim) : ∀ u ∈ cellsClaim xs, u.oneCell' = true := by
  intro u hu
  obtain ⟨s, _, hs⟩ := List.mem_flatMap.1 hu
  exact s.vals_one u hs
set_option maxHeartbeats 1600000 in
set_option maxRecDepth 100000 in
/-- The index of the first element that a function value likes. -/
theorem idxClaim_any (K : FuncId) (caps : Array Value) (f : VClaim → Bool) (a : Option Addr) (len cap : Nat) (xs : List VClaim) (w : World) (h : IsClaimS w a len cap xs)
    (hcall : ∀ args W, (callFunc K args).run Try.prog W = .ok (.enter K args) W)
    (hf : ∀ W s, s ∈ xs → Below w.heap.size w W → Calls Try.prog K (#[.agg #[.int .i64 s.Low, .int .i64 s.High, .int .i64 s.Least, .int .i64 s.Most]] ++ caps) W fun e w' => e = .returned (.bool (f s)) ∧ Below W.heap.size W w') :
    Calls Try.prog 88 #[.slice a len cap, .func (.func K) #[] caps] w fun e w' => e = .returned (.int .i64 (firstOf f xs)) ∧ Below w.heap.size w w' := by
  have hm := h.2.2.1
  have hcl := h.2.1
  unfold maxLen at hm
  have S := Lib.hid h
  have L := Lib.hid h.1
  have F := Lib.hid hf
  clear h hf
  go_enter Try.func88, Try.ntmps88
  go_wp2
  go_loopw [8, 5] (fun i _ wr => ∃ k : Nat, k ≤ len ∧ i = .int .i64 k ∧ Below w.heap.size w wr ∧ ∀ (j : Nat) t, j < k → xs[j]? = some t → f t = false) (fun i _ _ => len - (intOf i).toNat)
  case atStart => exact ⟨0, Nat.zero_le _, rfl, Below.refl _ _, by omega⟩
  case round =>
    obtain ⟨k, hk, rfl, hbel, hall⟩ := hrel
    have A := Lib.hid hall
    have B := Lib.hid hbel
    clear hall
    by_cases hlt : k < len
    · obtain ⟨s, hs⟩ := list_atClaim L hlt
      obtain ⟨b, o, rfl, hb, hat⟩ := (S.out.below hbel).at (by omega)
      obtain ⟨c0, c1, c2, c3⟩ := hat k s hs
      have X := Lib.hid hs
      clear hs hat hbel
      go_wp2_with fail
      refine (F.out wr s (List.mem_of_getElem? X.out) B.out).mono ?_
      rintro e w1 ⟨rfl, hb1⟩
      have B1 := Lib.hid (Below.then' B.out hb1)
      clear hb1
      by_cases hfs : f s = true
      · have FS := Lib.hid hfs
        rw [hfs]
        clear hfs
        go_wp2
        go_ret
        exact ⟨ret_int (firstOf_at X.out FS.out A.out).symm, B1.out⟩
      · have hfs' : f s = false := by simpa using hfs
        have FS := Lib.hid hfs'
        rw [hfs']
        clear hfs hfs'
        go_wp2
        go_roundw
        case rel => exact ⟨k + 1, by omega, by go_num, B1.out, fun j t hj ht => by
          by_cases e : j = k
          · subst e; rw [X.out] at ht; cases ht; exact FS.out
          · exact A.out j t (by omega) ht⟩
        case measure => simp [intOf]; omega
    · obtain rfl : k = len := by omega
      clear hbel
      go_wp2
      go_ret
      exact ⟨ret_int (firstOf_no fun j t hj ht => A.out j t (by have := L.out; omega) ht).symm, B.out⟩
/-- A call of a function value enters the function. -/
theorem callf_ofClaim {P : Program} {K : FuncId} {fn : Func} (hf : P.funcs[K]? = some fn) (h1 : (fn.name == "runtime.NumGoroutine") = false) (h2 : fn.body.isNone = false) : ∀ args W, (callFunc K args).run P W = .ok (.enter K args) W := by
  intro args W
  have h1' : ¬ fn.name = "runtime.NumGoroutine" := by simpa using h1
  have h2' : ¬ fn.body = none := by intro h; rw [h] at h2; cases h2
  simp [callFunc, go_sem, hf, h1', h2']
end Go.Proofs.Ytobpgoiaimlonaa
namespace Go.Proofs.Ytobpgoiaimlonaa
open Go.RowKit
/-- The place of the first element that fits, where the list is valid, and whether there is one. -/
def FoundBy {α : Type} (q : Bool) (f : α → Bool) (xs : List α) (w : World) (e : Ending) (w' : World) : Prop :=
  ∃ z : Int, e = .returned (.tuple #[.int .i64 z, .bool (q && decide (0 ≤ firstOf f xs))]) ∧ (q = true → z = firstOf f xs) ∧ Below w.heap.size w w'
theorem FoundBy.bad {α : Type} {q : Bool} {f : α → Bool} {xs : List α} {w w' : World} {e : Ending} (h : FoundBy q f xs w e w') (hq : q = false) : ∃ z : Int, e = .returned (.tuple #[.int .i64 z, .bool false]) ∧ Below w.heap.size w w' := by
  obtain ⟨z, rfl, _, hb⟩ := h
  exact ⟨z, by rw [hq]; rfl, hb⟩
theorem FoundBy.none {α : Type} {q : Bool} {f : α → Bool} {xs : List α} {w w' : World} {e : Ending} (h : FoundBy q f xs w e w') (hn : firstOf f xs = -1) : ∃ z : Int, e = .returned (.tuple #[.int .i64 z, .bool false]) ∧ Below w.heap.size w w' := by
  obtain ⟨z, rfl, _, hb⟩ := h
  exact ⟨z, by rw [hn]; simp, hb⟩
theorem FoundBy.some {α : Type} {q : Bool} {f : α → Bool} {xs : List α} {w w' : World} {e : Ending} {i : Nat} (h : FoundBy q f xs w e w') (hq : q = true) (hn : firstOf f xs = (i : Int)) : e = .returned (.tuple #[.int .i64 (i : Int), .bool true]) ∧ Below w.heap.size w w' := by
  obtain ⟨z, rfl, hz, hb⟩ := h
  rw [hz hq, hn, hq, decide_eq_true (by omega)]
  exact ⟨rfl, hb⟩
theorem firstOf_any {α : Type} (f : α → Bool) (xs : List α) : decide (0 ≤ firstOf f xs) = xs.any f := by
  rcases firstOf_cases f xs with ⟨h1, h2⟩ | ⟨i, s, h1, h2, h3, _⟩
  · rw [h1, show xs.any f = false from by rw [List.any_eq_false]; intro x hx; simp [h2 x hx]]; rfl
  · rw [h1, show xs.any f = true from List.any_eq_true.2 ⟨s, List.mem_of_getElem? h2, h3⟩, decide_eq_true (by omega)]
end Go.Proofs.Ytobpgoiaimlonaa
