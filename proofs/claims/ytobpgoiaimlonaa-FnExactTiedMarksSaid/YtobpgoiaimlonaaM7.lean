/- Texts in one: TiedMarksP, Cs8, Ci5, IntO2. -/
import Derived.Test.YtobpgoiaimlonaaM3
import Derived.Test.YtobpgoiaimlonaaM5
import Derived.Test.YtobpgoiaimlonaaM6
import Derived.Deep.RegionHeld3
import Derived.Test.YtobpgoiaimlonaaM4
import Derived.Laws.MakeOwn
import Derived.Laws.OwnMore
import Derived.Test.YtobpgoiaimlonaaM2
import Derived.ProofKit
import Derived.Test.YtobpgoiaimlonaaM1
namespace Go.Proofs.Ytobpgoiaimlonaa
open Go.RowKit
def TiedMarks_Post (z0 : Int) (z1 : List VClaim) (z2 : Int) (w : World) (e : Ending) (w' : World) : Prop :=
  ∃ v0 : Value, e = .returned (.tuple #[v0, .bool (TiedMarks_1 z0 z1 z2)]) ∧ OwnIntS w.heap.size w'.heap.size w' v0 (TiedMarks_0 z0 z1 z2) ∧ Below w.heap.size w w'
end Go.Proofs.Ytobpgoiaimlonaa
namespace Go.Proofs.Ytobpgoiaimlonaa
open Go.RowKit

theorem isInts_same {w : World} {a : Option Addr} {n c : Nat} {xs ys : List Int} (h : IsInts w a n c xs) (h' : IsInts w a n c ys) : xs = ys := by
  have e1 := h.1
  have e2 := h'.1
  apply List.ext_getElem?
  intro j
  by_cases hj : j < xs.length
  · obtain ⟨b, o, rfl, _, hat⟩ := h.at (by omega)
    obtain ⟨b', o', e, _, hat'⟩ := h'.at (by omega)
    cases e
    have h1 : xs[j]? = some xs[j] := List.getElem?_eq_getElem hj
    have h2 : ys[j]? = some (ys[j]'(by omega)) := List.getElem?_eq_getElem (by omega)
    have c1 := hat j _ h1
    have c2 := hat' j _ h2
    rw [c1] at c2
    rw [h1, h2]
    injection c2 with c2
    injection c2 with _ c2
    rw [c2]
  · rw [List.getElem?_eq_none (by omega), List.getElem?_eq_none (by omega)]
theorem put_own {lo : Nat} {W W' : World} {a : Option Addr} {n c : Nat} {L L' : List Int} {h : Hd} (O : W.ownsRow lo 3 1 (.slice a n c) L.length (intCells L)) (hlo : lo ≤ W.heap.size) (hb : Below W.heap.size W W') (hi : IsInts W' h.a h.n h.c L') (hd : (h.a = a ∧ h.n = n ∧ h.c = c) ∨ W'.ownsRow W.heap.size 3 1 (.slice h.a h.n h.c) L'.length (intCells L')) : W'.ownsRow lo 3 1 (.slice h.a h.n h.c) L'.length (intCells L') := by
  rcases hd with ⟨h1, h2, h3⟩ | hd
  · obtain ⟨a', c', e, hi', _⟩ := isInts_own O
    injection e with e1 e2 e3
    subst e1 e2 e3
    rw [h1, h2, h3] at hi ⊢
    have := isInts_same hi (hi'.below hb)
    subst this
    exact ownsRow_below O hb
  · exact ownsRow_base hd hlo
theorem prsC_take {xs : List VClaim} {t : Nat} {x : VClaim} (h : xs[t]? = some x) (L : List Int) : (prsC (xs.take (t + 1))).foldl tieStep L = tieStep ((prsC (xs.take t)).foldl tieStep L) (x.Low, x.High) := by
  rw [List.take_add_one, h]; simp [prsC]
theorem tied_len {n : Nat} {xs : List VClaim} {k : Nat} (hc : areCl (n : Int) xs = true) (hk : k < n) (r t : Nat) : ((prsC (xs.take t)).foldl tieStep (tieRounds (prsC xs) r [(k : Int)])).length ≤ n := by
  obtain ⟨h1, h2, h3, _⟩ := tieRounds_facts (P := prsC xs) (k := (k : Int)) r
  obtain ⟨g1, g2, _⟩ := tieFold (P := prsC xs) (k := (k : Int)) (prsC (xs.take t)) (fun p hp => by
    obtain ⟨x, hx, rfl⟩ := List.mem_map.1 hp
    exact List.mem_map.2 ⟨x, List.mem_of_mem_take hx, rfl⟩) _ h1 h2
  exact rises_len g1 fun v hv => conn_lt (areCl_prs hc) (by omega) (g2 v hv)
set_option maxHeartbeats 6400000 in
set_option maxRecDepth 100000 in
theorem l8Tied_any (n k : Nat) (a : Option Addr) (len cap : Nat) (xs : List VClaim) (w : World) (h : IsClaimS w a len cap xs) (hc : areCl (n : Int) xs = true) (hk : k < n) :
    Calls Try.prog 72 #[.int .i64 (n : Int), .slice a len cap, .int .i64 (k : Int)] w fun e w' => ∃ v, e = .returned v ∧ w'.ownsRow w.heap.size 3 1 v (tiedL n (prsC xs) (k : Int)).length (intCells (tiedL n (prsC xs) (k : Int))) ∧ Below w.heap.size w w' := by
  have hm := h.2.2.1
  have hcl := h.2.1
  unfold maxLen at hm
  obtain rfl := h.1
  have hn := (areCl_iff.1 hc).2.1
  have S := Lib.hid h
  have C := Lib.hid hc
  have O1 := Lib.hid (show (w.alloc (.cells #[.int .i64 (k : Int)] 3)).ownsRow w.heap.size 3 1 (.slice (some ⟨w.heap.size, 0, none⟩) 1 1) 1 (intCells (tieRounds (prsC xs) 0 [(k : Int)])) from World.ownsRow_lit (base := w.heap.size) (e := 3) (size := 1) w #[.int .i64 (k : Int)] 1 (Nat.le_refl _) (by decide) rfl)
  have B1 := Lib.hid (bel_al1 w (.cells #[.int .i64 (k : Int)] 3))
  clear h hc
  go_enter Try.func72, Try.ntmps72
  go_wp2
  go_loopw [8, 7] (fun i v wr => ∃ r : Nat, r ≤ n ∧ i = .int .i64 r ∧ wr.ownsRow w.heap.size 3 1 v (tieRounds (prsC xs) r [(k : Int)]).length (intCells (tieRounds (prsC xs) r [(k : Int)])) ∧ Below w.heap.size w wr) (fun i _ _ => n - (intOf i).toNat)
  case atStart => exact ⟨0, Nat.zero_le _, rfl, O1.out, B1.out⟩
  case round =>
    obtain ⟨r, hr, rfl, hown, hbel⟩ := hrel
    have O := Lib.hid hown
    have B := Lib.hid hbel
    by_cases hlr : r < n
    · have hlr2 : (r : Int) < (n : Int) := by omega
      have LN := Lib.hid (fun t => tied_len C.out hk r t)
      have NX := Lib.hid (show (prsC xs).foldl tieStep (tieRounds (prsC xs) r [(k : Int)]) = tieRounds (prsC xs) (r + 1) [(k : Int)] from rfl)
      obtain ⟨L0, hL0⟩ : ∃ L0, tieRounds (prsC xs) r [(k : Int)] = L0 := ⟨_, rfl⟩
      rw [hL0] at O LN NX
      clear hown hbel hL0
      go_wp2
      rename World => wq
      go_loopw [9, 7] (fun i v wr => ∃ (t : Nat) (L : List Int), t ≤ xs.length ∧ i = .int .i64 t ∧ L = (prsC (xs.take t)).foldl tieStep L0 ∧ wr.ownsRow w.heap.size 3 1 v L.length (intCells L) ∧ Below w.heap.size w wr) (fun i _ _ => xs.length - (intOf i).toNat)
      case atStart => exact ⟨0, L0, Nat.zero_le _, rfl, rfl, O.out, B.out⟩
      case round =>
        obtain ⟨t, L, ht, rfl, hL, hown, hbel⟩ := hrel
        have HL := Lib.hid hL
        have O2 := Lib.hid hown
        have B2 := Lib.hid hbel
        by_cases hlt : t < xs.length
        · obtain ⟨x, hx⟩ : ∃ x, xs[t]? = some x := ⟨xs[t]'hlt, List.getElem?_eq_getElem _⟩
          obtain ⟨b, o, rfl, hbw, hat⟩ := (S.out.below hbel).at (by omega)
          obtain ⟨c0, c1, c2, c3⟩ := hat t x hx
          have K := Lib.hid hx
          have ST := Lib.hid (prsC_take hx L0)
          have LE := Lib.hid (show L.length ≤ n from by rw [hL]; exact LN.out t)
          obtain ⟨va, vc, rfl, his, _⟩ := isInts_own hown
          have IS := Lib.hid his
          rw [← hL] at ST
          obtain ⟨r1, hr1⟩ : ∃ r, hasB x.Low L = r := ⟨_, rfl⟩
          obtain ⟨r2, hr2⟩ : ∃ r, hasB x.High L = r := ⟨_, rfl⟩
          have R1 := Lib.hid hr1
          have R2 := Lib.hid hr2
          have TS := Lib.hid (show tieStep L (x.Low, x.High) = if r1 = true ∨ r2 = true then putN x.High (putN x.Low L) else L from by unfold tieStep; rw [← hr1, ← hr2])
          have i0 : (0 : Int) ≤ (t : Int) := by omega
          have i1 : (t : Int) < (xs.length : Int) := by omega
          have LL : L.length ≤ 1000 := by have := LE.out; omega
          have LL2 : (putN x.Low L).length ≤ 1000 := by have h1 := LE.out; have h2 := putN_len x.Low L; omega
          have hws := B2.out.size
          clear hL hown hbel hx hat his hr1 hr2
          go_wp2_with fail
          refine (l1Has_any _ _ _ L x.Low _ IS.out).mono ?_
          rintro e w' ⟨rfl, rfl⟩
          rw [R1.out]
          cases r1 with
          | true =>
            have TE := Lib.hid (show (prsC (xs.take (t + 1))).foldl tieStep L0 = putN x.High (putN x.Low L) from by rw [ST.out, TS.out, if_pos (.inl rfl)])
            go_wp2
            have cLo := c0
            have cHi := c1
            have KD := Lib.hid (show Below wr.heap.size wr wr.drew ∧ wr.drew.cell? ⟨b, o + t * 4, none⟩ = some (.int .i64 x.Low) ∧ wr.drew.cell? ⟨b, o + t * 4 + 1, none⟩ = some (.int .i64 x.High) from ⟨(Below.refl _ _).drew, c0, c1⟩)
            have KP := Lib.hid (show ∀ u1 u2 : World, (Below wr.heap.size wr u1 ∧ u1.cell? ⟨b, o + t * 4, none⟩ = some (.int .i64 x.Low) ∧ u1.cell? ⟨b, o + t * 4 + 1, none⟩ = some (.int .i64 x.High)) → Below u1.heap.size u1 u2 → (Below wr.heap.size wr u2 ∧ u2.cell? ⟨b, o + t * 4, none⟩ = some (.int .i64 x.Low) ∧ u2.cell? ⟨b, o + t * 4 + 1, none⟩ = some (.int .i64 x.High)) from fun u1 u2 h hb => ⟨Below.then' h.1 hb, cell_stay h.2.1 hb, cell_stay h.2.2 hb⟩)
            have ISD := Lib.hid (show IsInts wr.drew va L.length vc L from IS.out)
            have OD := Lib.hid (show wr.drew.ownsRow w.heap.size 3 1 (.slice va L.length vc) L.length (intCells L) from O2.out)
            have hwd : w.heap.size ≤ wr.drew.heap.size := hws
            clear c0 c1 c2 c3
            go_region_held3 (fun w' => Below wr.heap.size wr w' ∧ w'.cell? ⟨b, o + t * 4, none⟩ = some (.int .i64 x.Low) ∧ w'.cell? ⟨b, o + t * 4 + 1, none⟩ = some (.int .i64 x.High))
              (first | exact KD.out | exact KP.out _ _ (by assumption) (by assumption))
              (first | (go_at_call 87; refine (l1PutO_any h5.a h5.n h5.c (putN x.Low L) x.High _ I5.out LL2).mono ?_; rintro e w6 ⟨h6, rfl, hi6, hb6, hd6⟩) | (go_at_call 87; refine (l1PutO_any va L.length vc L x.Low _ ISD.out LL).mono ?_; rintro e w5 ⟨h5, rfl, hi5, hb5, hd5⟩; have I5 := Lib.hid hi5))
            have O5 := Lib.hid (put_own OD.out hwd hb5 I5.out hd5)
            have hw5 : w.heap.size ≤ w5.heap.size := Nat.le_trans hwd hb5.size
            have O6 := Lib.hid (put_own O5.out hw5 hb6 hi6 hd6)
            have B6 := Lib.hid (Below.then' (bel_drew' B2.out) (Below.then' hb5 hb6))
            clear hb5 hb6 hi6 hd5 hd6 cLo cHi
            go_wp2
            go_roundw
            case rel => exact ⟨t + 1, _, by omega, by go_num, TE.out.symm, O6.out, B6.out⟩
            case measure => simp [intOf]; omega
          | false =>
            go_wp2_with fail
            refine (l1Has_any _ _ _ L x.High _ IS.out).mono ?_
            rintro e w' ⟨rfl, rfl⟩
            rw [R2.out]
            cases r2 with
            | true =>
              have TE := Lib.hid (show (prsC (xs.take (t + 1))).foldl tieStep L0 = putN x.High (putN x.Low L) from by rw [ST.out, TS.out, if_pos (.inr rfl)])
              go_wp2
              have cLo := c0
              have cHi := c1
              have KD := Lib.hid (show Below wr.heap.size wr wr.drew ∧ wr.drew.cell? ⟨b, o + t * 4, none⟩ = some (.int .i64 x.Low) ∧ wr.drew.cell? ⟨b, o + t * 4 + 1, none⟩ = some (.int .i64 x.High) from ⟨(Below.refl _ _).drew, c0, c1⟩)
              have KP := Lib.hid (show ∀ u1 u2 : World, (Below wr.heap.size wr u1 ∧ u1.cell? ⟨b, o + t * 4, none⟩ = some (.int .i64 x.Low) ∧ u1.cell? ⟨b, o + t * 4 + 1, none⟩ = some (.int .i64 x.High)) → Below u1.heap.size u1 u2 → (Below wr.heap.size wr u2 ∧ u2.cell? ⟨b, o + t * 4, none⟩ = some (.int .i64 x.Low) ∧ u2.cell? ⟨b, o + t * 4 + 1, none⟩ = some (.int .i64 x.High)) from fun u1 u2 h hb => ⟨Below.then' h.1 hb, cell_stay h.2.1 hb, cell_stay h.2.2 hb⟩)
              have ISD := Lib.hid (show IsInts wr.drew va L.length vc L from IS.out)
              have OD := Lib.hid (show wr.drew.ownsRow w.heap.size 3 1 (.slice va L.length vc) L.length (intCells L) from O2.out)
              have hwd : w.heap.size ≤ wr.drew.heap.size := hws
              clear c0 c1 c2 c3
              go_region_held3 (fun w' => Below wr.heap.size wr w' ∧ w'.cell? ⟨b, o + t * 4, none⟩ = some (.int .i64 x.Low) ∧ w'.cell? ⟨b, o + t * 4 + 1, none⟩ = some (.int .i64 x.High))
                (first | exact KD.out | exact KP.out _ _ (by assumption) (by assumption))
                (first | (go_at_call 87; refine (l1PutO_any h5.a h5.n h5.c (putN x.Low L) x.High _ I5.out LL2).mono ?_; rintro e w6 ⟨h6, rfl, hi6, hb6, hd6⟩) | (go_at_call 87; refine (l1PutO_any va L.length vc L x.Low _ ISD.out LL).mono ?_; rintro e w5 ⟨h5, rfl, hi5, hb5, hd5⟩; have I5 := Lib.hid hi5))
              have O5 := Lib.hid (put_own OD.out hwd hb5 I5.out hd5)
              have hw5 : w.heap.size ≤ w5.heap.size := Nat.le_trans hwd hb5.size
              have O6 := Lib.hid (put_own O5.out hw5 hb6 hi6 hd6)
              have B6 := Lib.hid (Below.then' (bel_drew' B2.out) (Below.then' hb5 hb6))
              clear hb5 hb6 hi6 hd5 hd6 cLo cHi
              go_wp2
              go_roundw
              case rel => exact ⟨t + 1, _, by omega, by go_num, TE.out.symm, O6.out, B6.out⟩
              case measure => simp [intOf]; omega
            | false =>
              have TE := Lib.hid (show (prsC (xs.take (t + 1))).foldl tieStep L0 = L from by rw [ST.out, TS.out, if_neg (by simp)])
              go_wp2
              go_roundw
              case rel => exact ⟨t + 1, L, by omega, by go_num, TE.out.symm, O2.out, B2.out⟩
              case measure => simp [intOf]; omega
        · obtain rfl : t = xs.length := by omega
          have E := Lib.hid (show L = tieRounds (prsC xs) (r + 1) [(k : Int)] from by rw [hL, List.take_of_length_le (Nat.le_refl _)]; exact NX.out)
          clear hL hown hbel
          go_wp2
          go_roundw
          case rel => exact ⟨r + 1, by omega, by go_num, by rw [← E.out]; exact O2.out, B2.out⟩
          case measure => simp [intOf]; omega
    · obtain rfl : r = n := by omega
      clear hown hbel
      go_wp2
      go_ret
      exact ⟨_, rfl, O.out, B.out⟩
set_option maxHeartbeats 6400000 in
set_option maxRecDepth 100000 in
theorem specTiedMarks_any (n : Int) (a : Option Addr) (len cap : Nat) (xs : List VClaim) (k : Int) (w : World) (h : IsClaimS w a len cap xs) (_ : condClaim xs) :
    Calls Try.prog 29 #[.int .i64 n, .slice a len cap, .int .i64 k] w (TiedMarks_Post n xs k w) := by
  have S := Lib.hid h
  clear h
  obtain ⟨p, hp⟩ : ∃ p, areCl n xs = p := ⟨_, rfl⟩
  have PP := Lib.hid hp
  clear hp
  go_enter Try.func29, Try.ntmps29
  go_wp2_with fail
  refine (l8Good_any n _ _ _ xs _ S.out).mono ?_
  rintro e w1 ⟨rfl, hb⟩
  rw [PP.out]
  have B1 := Lib.hid hb
  have S1 := Lib.hid (S.out.below hb)
  have OE := Lib.hid (show OwnIntS w.heap.size (w1.alloc (.cells #[] 3)).heap.size (w1.alloc (.cells #[] 3)) (.slice (some ⟨w1.heap.size, 0, none⟩) 0 0) [] from OwnIn.of_row (ownsRow_base (made_ids w1) hb.size) (Nat.le_refl _) (Nat.le_refl _))
  have BE := Lib.hid (Below.then' hb (wh_al1 w1 (.cells #[] 3)))
  clear hb
  have no : tieB n xs k = false → TiedMarks_0 n xs k = [] ∧ TiedMarks_1 n xs k = false := fun hh => ⟨by unfold TiedMarks_0; rw [hh]; rfl, hh⟩
  have NO := Lib.hid no
  clear no
  cases p
  · have E := Lib.hid (NO.out (by unfold tieB; rw [PP.out]; rfl))
    go_wp2
    go_ret2
    exact ⟨_, by rw [E.out.2]; rfl, by rw [E.out.1]; exact OE.out, BE.out⟩
  by_cases h0 : k < 0
  · have E := Lib.hid (NO.out (by unfold tieB; rw [decide_eq_false (show ¬ 0 ≤ k by omega)]; simp))
    go_wp2
    go_ret2
    exact ⟨_, by rw [E.out.2]; rfl, by rw [E.out.1]; exact OE.out, BE.out⟩
  by_cases h1 : n ≤ k
  · have E := Lib.hid (NO.out (by unfold tieB; rw [decide_eq_false (show ¬ k < n by omega)]; simp))
    go_wp2
    go_ret2
    exact ⟨_, by rw [E.out.2]; rfl, by rw [E.out.1]; exact OE.out, BE.out⟩
  have hn := (areCl_iff.1 PP.out).2.1
  obtain ⟨j, rfl⟩ : ∃ j : Nat, n = (j : Int) := ⟨n.toNat, by omega⟩
  obtain ⟨i, rfl⟩ : ∃ i : Nat, k = (i : Int) := ⟨k.toNat, by omega⟩
  have hij : i < j := by omega
  have TB := Lib.hid (show tieB (j : Int) xs (i : Int) = true from by unfold tieB; rw [PP.out, decide_eq_true (show (0 : Int) ≤ (i : Int) by omega), decide_eq_true (show (i : Int) < (j : Int) by omega)]; rfl)
  have E0 := Lib.hid (show TiedMarks_0 (j : Int) xs (i : Int) = tiedL j (prsC xs) (i : Int) from by unfold TiedMarks_0; rw [TB.out]; rfl)
  have E1 := Lib.hid (show TiedMarks_1 (j : Int) xs (i : Int) = true from by unfold TiedMarks_1; rw [TB.out])
  clear hn OE BE
  go_wp2_with fail
  refine (l8Tied_any j i _ _ _ xs _ S1.out PP.out hij).mono ?_
  rintro e w3 ⟨v, rfl, hown, hb⟩
  have B3 := Lib.hid (Below.then' B1.out hb)
  have O := Lib.hid (show OwnIntS w.heap.size w3.heap.size w3 v (tiedL j (prsC xs) (i : Int)) from OwnIn.of_row (ownsRow_base hown B1.out.size) (Nat.le_refl _) (Nat.le_refl _))
  clear hown hb
  go_wp2
  go_ret2
  exact ⟨_, by rw [E1.out]; rfl, by rw [E0.out]; exact O.out, B3.out⟩
end Go.Proofs.Ytobpgoiaimlonaa
namespace Go.Proofs.Ytobpgoiaimlonaa
open Go.RowKit

def boolCells (bs : List Bool) : List Value := bs.map Value.bool
theorem boolCells_len (bs : List Bool) : (boolCells bs).length = bs.length := by simp [boolCells]
theorem boolCells_set (bs : List Bool) (i : Nat) (b : Bool) : (boolCells bs).set i (.bool b) = boolCells (bs.set i b) := by simp [boolCells, List.map_set]
theorem boolCells_at {bs : List Bool} {i : Nat} {b : Bool} (h : bs[i]? = some b) : (boolCells bs)[i]? = some (.bool b) := by simp [boolCells, h]
theorem infoBool : (Try.prog.info? 4).map (fun i => (i.zero, i.size, i.bytes)) = some (some (.bool false), 1, 1) := by kernel_rfl
theorem madeBool (n : Nat) : (madeCells (.bool false : Value).cells (n * 1)).toList = boolCells (List.replicate n false) := by
  apply List.ext_getElem?
  intro j
  rw [Array.getElem?_toList, Nat.mul_one]
  unfold boolCells
  rw [List.getElem?_map]
  by_cases h : j < n
  · simp [madeCells, Value.cells, h, Nat.mod_one]
  · simp [madeCells, h]
def getB (bs : List Bool) (i : Nat) : Bool := bs.getD i false
theorem getB_some {bs : List Bool} {i : Nat} {b : Bool} (h : bs[i]? = some b) : getB bs i = b := by unfold getB; rw [List.getD_eq_getElem?_getD, h]; rfl
theorem getB_at {bs : List Bool} {i : Nat} (h : i < bs.length) : bs[i]? = some (getB bs i) := by
  rw [getB_some (List.getElem?_eq_getElem h)]; exact List.getElem?_eq_getElem h
theorem getB_set (bs : List Bool) (i v : Nat) (b : Bool) (hi : i < bs.length) : getB (bs.set i b) v = if v = i then b else getB bs v := by
  unfold getB
  rw [List.getD_eq_getElem?_getD, List.getD_eq_getElem?_getD]
  by_cases h : v = i
  · subst h; rw [if_pos rfl, List.getElem?_set_self hi]; rfl
  · rw [if_neg h, List.getElem?_set_ne (Ne.symm h)]
theorem mem_numsTo {f : Nat → Bool} {n : Nat} {v : Int} : v ∈ numsTo f n ↔ ∃ i : Nat, i < n ∧ v = (i : Int) ∧ f i = true := by
  induction n with
  | zero => simp [numsTo]
  | succ n ih =>
    rw [numsTo, List.mem_append, ih]
    constructor
    · rintro (⟨i, h1, h2, h3⟩ | h)
      · exact ⟨i, by omega, h2, h3⟩
      · split at h
        · rename_i hf; simp at h; exact ⟨n, by omega, h, hf⟩
        · simp at h
    · rintro ⟨i, h1, h2, h3⟩
      by_cases e : i = n
      · subst e; right; rw [if_pos h3]; simp [h2]
      · left; exact ⟨i, by omega, h2, h3⟩
theorem numsTo_rises (f : Nat → Bool) (n : Nat) : List.Pairwise (· < ·) (numsTo f n) := by
  induction n with
  | zero => simp [numsTo]
  | succ n ih =>
    rw [numsTo, List.pairwise_append]
    refine ⟨ih, by split <;> simp, fun a ha b hb => ?_⟩
    obtain ⟨i, h1, h2, _⟩ := mem_numsTo.1 ha
    split at hb
    · simp at hb; omega
    · simp at hb
/-- How many of a row's marks are not taken yet. -/
def falseIn (w : World) (g : Nat) : Nat → Nat
  | 0 => 0
  | k + 1 => falseIn w g k + (match w.cell? ⟨g, k, none⟩ with | some (.bool false) => 1 | _ => 0)
def falseB (bs : List Bool) : Nat → Nat
  | 0 => 0
  | k + 1 => falseB bs k + (if getB bs k = true then 0 else 1)
theorem falseIn_is {w : World} {base g n c : Nat} {bs : List Bool} (h : w.ownsRow base 4 1 (.slice (some ⟨g, 0, none⟩) n c) n (boolCells bs)) (hl : bs.length = n) : ∀ k, k ≤ n → falseIn w g k = falseB bs k := by
  intro k
  induction k with
  | zero => intro _; rfl
  | succ k ih =>
    intro hk
    have c := h.cells (g := g) rfl k _ (boolCells_at (getB_at (show k < bs.length by omega)))
    rw [add_plain, Nat.zero_add] at c
    rw [falseIn, falseB, ih (by omega), c]
    cases getB bs k <;> rfl
theorem falseB_le {bs cs : List Bool} (h : ∀ i, getB bs i = true → getB cs i = true) : ∀ k, falseB cs k ≤ falseB bs k := by
  intro k
  induction k with
  | zero => exact Nat.le_refl _
  | succ k ih =>
    rw [falseB, falseB]
    have := h k
    split
    · omega
    · rename_i hc
      rw [if_neg (fun hb => hc (this hb))]
      omega
theorem falseB_lt {bs cs : List Bool} (h : ∀ i, getB bs i = true → getB cs i = true) {j : Nat} (h0 : getB bs j = false) (h1 : getB cs j = true) : ∀ k, j < k → falseB cs k < falseB bs k := by
  intro k
  induction k with
  | zero => intro hk; omega
  | succ k ih =>
    intro hk
    rw [falseB, falseB]
    by_cases e : j = k
    · subst e
      have := falseB_le h j
      rw [if_pos h1, if_neg (by rw [h0]; simp)]
      omega
    · have h2 := ih (by omega)
      have h3 := h k
      split
      · omega
      · rename_i hc
        rw [if_neg (fun hb => hc (h3 hb))]
        omega
/-- What the row of marks is on the way. -/
def TieRow (n : Nat) (xs : List VClaim) (k : Nat) (bs : List Bool) : Prop := bs.length = n ∧ getB bs k = true ∧ ∀ v : Nat, getB bs v = true → v < n → ConnP (prsC xs) (k : Int) (v : Int)
theorem TieRow.end {n : Nat} {xs : List VClaim} {k : Nat} {bs : List Bool} (hc : areCl (n : Int) xs = true) (hk : k < n) (h : TieRow n xs k bs) (hcl : ∀ x ∈ xs, getB bs x.Low.toNat = getB bs x.High.toNat) : numsTo (getB bs) n = tiedL n (prsC xs) (k : Int) := by
  refine tiedL_unique (areCl_prs hc) (by omega) (numsTo_rises _ _) (fun v hv => ?_) (mem_numsTo.2 ⟨k, hk, rfl, h.2.1⟩) (fun a b hab => ?_)
  · obtain ⟨i, h1, rfl, h3⟩ := mem_numsTo.1 hv
    exact h.2.2 i h3 h1
  · obtain ⟨x, hx, e⟩ := List.mem_map.1 hab
    injection e with e1 e2
    subst e1 e2
    obtain ⟨a0, a1, b0, b1, _⟩ := clB_iff.1 ((areCl_iff.1 hc).1 x hx)
    have := hcl x hx
    constructor
    · intro hm
      obtain ⟨i, h1, h2, h3⟩ := mem_numsTo.1 hm
      refine mem_numsTo.2 ⟨x.High.toNat, by omega, by omega, ?_⟩
      rw [← this, show x.Low.toNat = i by omega]; exact h3
    · intro hm
      obtain ⟨i, h1, h2, h3⟩ := mem_numsTo.1 hm
      refine mem_numsTo.2 ⟨x.Low.toNat, by omega, by omega, ?_⟩
      rw [this, show x.High.toNat = i by omega]; exact h3
/-- A claim of which one mark is taken takes the other one. -/
theorem TieRow.more {n : Nat} {xs : List VClaim} {k : Nat} {bs : List Bool} (h : TieRow n xs k bs) {x : VClaim} (hx : x ∈ xs) {lo hi : Nat} (el : x.Low = (lo : Int)) (eh : x.High = (hi : Int)) (hl : lo < n) (hh : hi < n) (hne : getB bs lo ≠ getB bs hi) : TieRow n xs k ((bs.set lo true).set hi true) ∧ falseB ((bs.set lo true).set hi true) n < falseB bs n := by
  have at' : ∀ v, getB ((bs.set lo true).set hi true) v = if v = hi then true else if v = lo then true else getB bs v := fun v => by
    rw [getB_set _ _ _ _ (by rw [List.length_set, h.1]; exact hh), getB_set _ _ _ _ (by rw [h.1]; exact hl)]
  have mem : ((lo : Int), (hi : Int)) ∈ prsC xs := List.mem_map.2 ⟨x, hx, by rw [el, eh]⟩
  have both : ConnP (prsC xs) (k : Int) (lo : Int) ∧ ConnP (prsC xs) (k : Int) (hi : Int) := by
    cases e1 : getB bs lo with
    | true => have := h.2.2 lo e1 hl; exact ⟨this, this.fwd mem⟩
    | false =>
      cases e2 : getB bs hi with
      | true => have := h.2.2 hi e2 hh; exact ⟨this.bwd mem, this⟩
      | false => rw [e1, e2] at hne; exact absurd rfl hne
  have grow : ∀ i, getB bs i = true → getB ((bs.set lo true).set hi true) i = true := fun i hi' => by
    rw [at']; split
    · rfl
    · split
      · rfl
      · exact hi'
  refine ⟨⟨by rw [List.length_set, List.length_set, h.1], grow k h.2.1, fun v hv hvn => ?_⟩, ?_⟩
  · rw [at'] at hv
    split at hv
    · rename_i e; subst e; exact both.2
    · split at hv
      · rename_i e; subst e; exact both.1
      · exact h.2.2 v hv hvn
  · cases e1 : getB bs lo with
    | false => exact falseB_lt grow e1 (by rw [at']; split <;> simp) n hl
    | true =>
      cases e2 : getB bs hi with
      | true => rw [e1, e2] at hne; exact absurd rfl hne
      | false => exact falseB_lt grow e2 (by rw [at', if_pos rfl]) n hh
theorem take_tie {α : Type} {P : α → Prop} {xs : List α} {k : Nat} {s : α} (h : ∀ m ∈ xs.take k, P m) (hs : xs[k]? = some s) (hp : P s) : ∀ m ∈ xs.take (k + 1), P m := by
  intro m hm
  rw [List.take_add_one, hs, List.mem_append] at hm
  rcases hm with hm | hm
  · exact h m hm
  · simp at hm; subst hm; exact hp
set_option maxHeartbeats 6400000 in
set_option maxRecDepth 100000 in
theorem tiesOf_any (n k : Nat) (a : Option Addr) (len cap : Nat) (xs : List VClaim) (w : World) (h : IsClaimS w a len cap xs) (hc : areCl (n : Int) xs = true) (hk : k < n) :
    Calls Try.prog 70 #[.int .i64 (n : Int), .slice a len cap, .int .i64 (k : Int)] w fun e w' => ∃ bs : List Bool, e = .returned (.slice (some ⟨w.heap.size, 0, none⟩) n n) ∧ bs.length = n ∧ numsTo (getB bs) n = tiedL n (prsC xs) (k : Int) ∧ w'.ownsRow w.heap.size 4 1 (.slice (some ⟨w.heap.size, 0, none⟩) n n) n (boolCells bs) ∧ Below w.heap.size w w' := by
  have hm := h.2.2.1
  have hcl := h.2.1
  unfold maxLen at hm
  obtain rfl := h.1
  obtain ⟨i0, hi, hz0, hz1, hz2⟩ := info_parts infoBool
  have hn := (areCl_iff.1 hc).2.1
  have S := Lib.hid h
  have C := Lib.hid hc
  have hk0 : (0 : Int) ≤ (k : Int) := by omega
  have hk1 : (k : Int) < (n : Int) := by omega
  clear h hc
  go_enter Try.func70, Try.ntmps70
  go_wp2
  go_step3
  go_wp2_with (refine wpList_make_full _ rfl _ _ 81 rfl w.heap.size 4 i0 (.bool false) 1 Try.underlying81 hi hz0 hz1 .i64 .i64 _ _ n rfl rfl rfl rfl (by rw [hz2]; omega) (by unfold maxLen; omega) (Nat.le_refl _) ?_; intro w1 hown hgrow; have f0 := hown.frozenAt k; obtain ⟨u0, d0⟩ := own_cell hown k (by simp [madeCells, Value.cells]; omega); have O1 := Lib.hid hown; have B1 := Lib.hid ((Below.refl w.heap.size w).grown hgrow (Nat.le_refl _) (fun k e => by cases e)); clear hown hgrow)
  have st := O1.out.stored k (.bool true)
  have O2 := Lib.hid (show (w1.setCell ⟨w.heap.size, k, none⟩ (.bool true)).ownsRow w.heap.size 4 1 (.slice (some ⟨w.heap.size, 0, none⟩) n n) n (boolCells ((List.replicate n false).set k true)) from by
    have h1 := st.1
    rw [madeBool, boolCells_set] at h1
    exact h1)
  have B2 := Lib.hid (B1.out.grown st.2 B1.out.size (fun j e => by cases e; exact Nat.le_refl _))
  have R0 := Lib.hid (show TieRow n xs k ((List.replicate n false).set k true) from by
    refine ⟨by simp, by rw [getB_set _ _ _ _ (by simpa using hk), if_pos rfl], fun v hv hvn => ?_⟩
    rw [getB_set _ _ _ _ (by simpa using hk)] at hv
    split at hv
    · rename_i e; subst e; exact .nil
    · rw [getB_some (b := false) (by simp [hvn])] at hv; cases hv)
  clear st f0 d0
  go_step3
  go_wp2
  go_loopw [17] (fun _ wr => ∃ bs : List Bool, TieRow n xs k bs ∧ wr.ownsRow w.heap.size 4 1 (.slice (some ⟨w.heap.size, 0, none⟩) n n) n (boolCells bs) ∧ Below w.heap.size w wr) (fun _ wr => falseIn wr w.heap.size n)
  case atStart => exact ⟨_, R0.out, O2.out, B2.out⟩
  case round =>
    obtain ⟨bs, hrow, hown, hbel⟩ := hrel
    have R := Lib.hid hrow
    have O := Lib.hid hown
    have B := Lib.hid hbel
    have M := Lib.hid (falseIn_is hown hrow.1 n (Nat.le_refl _))
    clear hrow hown hbel
    go_wp2
    rename World => wq
    go_loopw [17] (fun i wr => ∃ t : Nat, t ≤ xs.length ∧ i = .int .i64 t ∧ (∀ x ∈ xs.take t, getB bs x.Low.toNat = getB bs x.High.toNat) ∧ wr.ownsRow w.heap.size 4 1 (.slice (some ⟨w.heap.size, 0, none⟩) n n) n (boolCells bs) ∧ Below w.heap.size w wr) (fun i _ => xs.length - (intOf i).toNat)
    case atStart => exact ⟨0, Nat.zero_le _, rfl, by simp, O.out, B.out⟩
    case round =>
      obtain ⟨t, ht, rfl, hall, hown, hbel⟩ := hrel
      have A := Lib.hid hall
      have O1' := Lib.hid hown
      have B1' := Lib.hid hbel
      by_cases hlt : t < xs.length
      · obtain ⟨x, hx⟩ : ∃ x, xs[t]? = some x := ⟨xs[t]'hlt, List.getElem?_eq_getElem _⟩
        obtain ⟨b, o, rfl, hbw, hat⟩ := (S.out.below hbel).at (by omega)
        obtain ⟨c0, c1, c2, c3⟩ := hat t x hx
        obtain ⟨q1, q2, q3, q4, _⟩ := clB_iff.1 ((areCl_iff.1 C.out).1 x (List.mem_of_getElem? hx))
        obtain ⟨lo, el⟩ : ∃ lo : Nat, x.Low = (lo : Int) := ⟨x.Low.toNat, by omega⟩
        obtain ⟨hi', eh⟩ : ∃ hi' : Nat, x.High = (hi' : Int) := ⟨x.High.toNat, by omega⟩
        have b1 : lo < n := by omega
        have b2 : hi' < n := by omega
        have K := Lib.hid hx
        have XL := Lib.hid el
        have XH := Lib.hid eh
        have EL := Lib.hid (show x.Low.toNat = lo by omega)
        have EH := Lib.hid (show x.High.toNat = hi' by omega)
        obtain ⟨g1, hg1⟩ : ∃ g, getB bs lo = g := ⟨_, rfl⟩
        obtain ⟨g2, hg2⟩ : ∃ g, getB bs hi' = g := ⟨_, rfl⟩
        have G1 := Lib.hid hg1
        have G2 := Lib.hid hg2
        have i0' : (0 : Int) ≤ (t : Int) := by omega
        have i1' : (t : Int) < (xs.length : Int) := by omega
        have j0 : (0 : Int) ≤ (lo : Int) := by omega
        have j1 : (lo : Int) < (n : Int) := by omega
        have j2 : (0 : Int) ≤ (hi' : Int) := by omega
        have j3 : (hi' : Int) < (n : Int) := by omega
        have bx := bel_al1 wr (.cells #[.int .i64 x.Low, .int .i64 x.High, .int .i64 x.Least, .int .i64 x.Most] 38)
        have OX := ownsRow_below hown bx
        have BX := Below.then' hbel bx
        have XX := BoxClaim.new wr 38 x _ rfl
        have HLT := Lib.hid (show w.heap.size < wr.heap.size from (hown.lt w.heap.size rfl).2)
        clear hall hown hbel hx hat q1 q2 q3 q4 hg1 hg2 bx el eh
        go_wp2
        refine wp_world (fun W => W.ownsRow w.heap.size 4 1 (.slice (some ⟨w.heap.size, 0, none⟩) n n) n (boolCells bs) ∧ Below w.heap.size w W ∧ BoxClaim W wr.heap.size x) ⟨OX, BX, XX⟩ ?_
        clear OX BX XX c0 c1 c2 c3
        rintro W ⟨ho, hbw, hxw⟩
        have XW := Lib.hid hxw
        obtain ⟨c0, c1, c2, c3⟩ := hxw
        rw [XL.out] at c0
        rw [XH.out] at c1
        have OW := Lib.hid ho
        have BW := Lib.hid hbw
        have cU := ho.cells (g := w.heap.size) rfl lo _ (boolCells_at (getB_at (show lo < bs.length by have := R.out.1; omega)))
        have cV := ho.cells (g := w.heap.size) rfl hi' _ (boolCells_at (getB_at (show hi' < bs.length by have := R.out.1; omega)))
        rw [add_plain, Nat.zero_add, G1.out] at cU
        rw [add_plain, Nat.zero_add, G2.out] at cV
        clear ho hbw
        go_quiet (fail)
        clear c0 c1 c2 c3 cU cV
        have bd := bel_drawn W nq
        have O3 := Lib.hid (ownsRow_below OW.out bd)
        have B3 := Lib.hid (Below.then' BW.out bd)
        have X3 := Lib.hid (XW.out.below bd)
        revert O3 B3 X3
        generalize W.drewN nq = W3
        intro O3 B3 X3
        clear OW BW XW bd
        by_cases he : g1 = g2
        · subst he
          have NX := Lib.hid (take_tie A.out K.out (show getB bs x.Low.toNat = getB bs x.High.toNat from by rw [EL.out, EH.out]; exact G1.out.trans G2.out.symm))
          cases g1
          · go_wp2
            go_roundw
            case rel => exact ⟨t + 1, by omega, by go_num, NX.out, O3.out, B3.out⟩
            case measure => simp [intOf]; omega
          · go_wp2
            go_roundw
            case rel => exact ⟨t + 1, by omega, by go_num, NX.out, O3.out, B3.out⟩
            case measure => simp [intOf]; omega
        · have hlh : ¬ lo = hi' := fun e => by have h1 := G1.out; have h2 := G2.out; rw [e, h2] at h1; exact he h1.symm
          have NE := Lib.hid (R.out.more (List.mem_of_getElem? K.out) XL.out XH.out b1 b2 (by rw [G1.out, G2.out]; exact he))
          have cU := O3.out.cells (g := w.heap.size) rfl lo _ (boolCells_at (getB_at (show lo < bs.length by have := R.out.1; omega)))
          have cV := O3.out.cells (g := w.heap.size) rfl hi' _ (boolCells_at (getB_at (show hi' < bs.length by have := R.out.1; omega)))
          rw [add_plain, Nat.zero_add, G1.out] at cU
          rw [add_plain, Nat.zero_add, G2.out] at cV
          have f0 := O3.out.frozenAt lo
          have f1 := O3.out.frozenAt hi'
          obtain ⟨c0, c1, c2, c3⟩ := X3.out
          rw [XL.out] at c0
          rw [XH.out] at c1
          have hne1 : ¬ wr.heap.size = w.heap.size := by have := HLT.out; omega
          have hne2 : ¬ w.heap.size = wr.heap.size := by have := HLT.out; omega
          have ST := Lib.hid (show ∃ W5, W5 = ((W3.setCell ⟨w.heap.size, lo, none⟩ (.bool true)).setCell ⟨w.heap.size, hi', none⟩ (.bool true)).drew ∧ W5.ownsRow w.heap.size 4 1 (.slice (some ⟨w.heap.size, 0, none⟩) n n) n (boolCells ((bs.set lo true).set hi' true)) ∧ Below w.heap.size w W5 from by
            have s1 := O3.out.stored lo (.bool true)
            rw [boolCells_set] at s1
            have s2 := s1.1.stored hi' (.bool true)
            rw [boolCells_set] at s2
            have h1 := B3.out.grown s1.2 B3.out.size (fun j e => by cases e; exact Nat.le_refl _)
            exact ⟨_, rfl, s2.1, bel_drew' (h1.grown s2.2 h1.size (fun j e => by cases e; exact Nat.le_refl _))⟩)
          have GT : (g1 = true ∧ g2 = false) ∨ (g1 = false ∧ g2 = true) := by cases g1 <;> cases g2 <;> simp_all
          rcases GT with ⟨rfl, rfl⟩ | ⟨rfl, rfl⟩
          · go_wp2
            go_region_held3 (fun w' => w'.cell? ⟨wr.heap.size, 0, none⟩ = some (.int .i64 (lo : Int)) ∧ w'.cell? ⟨wr.heap.size, 1, none⟩ = some (.int .i64 (hi' : Int))) (go_keep) (fail)
            all_goals
              obtain ⟨W5, hw5, o5, b5⟩ := ST.out
              rw [← hw5]
              have O5 := Lib.hid o5
              have B5 := Lib.hid b5
              have L5 := Lib.hid (falseIn_is o5 NE.out.1.1 n (Nat.le_refl _))
              clear hw5 o5 b5 cU cV f0 f1 c0 c1 c2 c3
              go_wp2
              go_roundw
              all_goals first | exact ⟨_, NE.out.1, O5.out, B5.out⟩ | (have h1 := L5.out; have h2 := M.out; have h3 := NE.out.2; omega)
          · go_wp2
            go_region_held3 (fun w' => w'.cell? ⟨wr.heap.size, 0, none⟩ = some (.int .i64 (lo : Int)) ∧ w'.cell? ⟨wr.heap.size, 1, none⟩ = some (.int .i64 (hi' : Int))) (go_keep) (fail)
            all_goals
              obtain ⟨W5, hw5, o5, b5⟩ := ST.out
              rw [← hw5]
              have O5 := Lib.hid o5
              have B5 := Lib.hid b5
              have L5 := Lib.hid (falseIn_is o5 NE.out.1.1 n (Nat.le_refl _))
              clear hw5 o5 b5 cU cV f0 f1 c0 c1 c2 c3
              go_wp2
              go_roundw
              all_goals first | exact ⟨_, NE.out.1, O5.out, B5.out⟩ | (have h1 := L5.out; have h2 := M.out; have h3 := NE.out.2; omega)
      · obtain rfl : t = xs.length := by omega
        have CLO := Lib.hid (R.out.end C.out hk (by have h := A.out; rw [List.take_of_length_le (Nat.le_refl _)] at h; exact h))
        clear hall hown hbel
        go_wp2
        first | (rw [Exit.noGoto_ret]; go_ret) | go_ret
        exact ⟨bs, rfl, R.out.1, CLO.out, O1'.out, B1'.out⟩
set_option maxHeartbeats 1600000 in
theorem isTied_any (bx n : Nat) (g : Nat) (base : Nat) (bs : List Bool) (i : Nat) (w : World) (hx : w.cell? ⟨bx, 0, none⟩ = some (.slice (some ⟨g, 0, none⟩) n n)) (hown : w.ownsRow base 4 1 (.slice (some ⟨g, 0, none⟩) n n) n (boolCells bs)) (hl : bs.length = n) (hi : i < n) :
    Calls Try.prog 71 #[.int .i64 (i : Int), .pointer (some ⟨bx, 0, none⟩)] w fun e w' => e = .returned (.bool (getB bs i)) ∧ Below w.heap.size w w' := by
  have c := hown.cells (g := g) rfl i _ (boolCells_at (getB_at (show i < bs.length by omega)))
  rw [add_plain, Nat.zero_add] at c
  have i0 : (0 : Int) ≤ (i : Int) := by omega
  have i1 : (i : Int) < (n : Int) := by omega
  clear hown
  go_enter Try.func71, Try.ntmps71
  go_wp2
  go_ret
  exact ⟨rfl, Below.refl _ _⟩
set_option maxHeartbeats 6400000 in
set_option maxRecDepth 100000 in
theorem implTiedMarks_any (n : Int) (a : Option Addr) (len cap : Nat) (xs : List VClaim) (k : Int) (w : World) (h : IsClaimS w a len cap xs) :
    Calls Try.prog 28 #[.int .i64 n, .slice a len cap, .int .i64 k] w (TiedMarks_Post n xs k w) := by
  have S := Lib.hid h
  clear h
  obtain ⟨p, hp⟩ : ∃ p, areCl n xs = p := ⟨_, rfl⟩
  obtain ⟨q, hq⟩ : ∃ q, inB k 0 (n - 1) = q := ⟨_, rfl⟩
  have PP := Lib.hid hp
  have QQ := Lib.hid hq
  have TB := Lib.hid (show tieB n xs k = (p && q) from by
    unfold tieB; rw [hp, ← hq]; congr 1; unfold inB; congr 1
    rw [decide_eq_decide]; omega)
  clear hp hq
  go_enter Try.func28, Try.ntmps28
  go_wp2_with fail
  refine (implAreClaims_any n _ _ _ xs _ S.out).mono ?_
  rintro e w1 ⟨rfl, hb⟩
  rw [show AreClaims_0 n xs = p from PP.out]
  have B1 := Lib.hid hb
  have S1 := Lib.hid (S.out.below hb)
  clear hb
  cases p
  · have E0 := Lib.hid (show TiedMarks_0 n xs k = [] from by unfold TiedMarks_0; rw [TB.out]; rfl)
    have E1 := Lib.hid (show TiedMarks_1 n xs k = false from by unfold TiedMarks_1; rw [TB.out]; rfl)
    go_wp2
    go_ret2
    exact ⟨_, by rw [E1.out]; rfl, by rw [E0.out]; exact nil_OwnIntS _ _ _, B1.out⟩
  have hn := (areCl_iff.1 PP.out).2.1
  have v1 : IntKind.i64.wrap (n - 1) = n - 1 := IntWalk.i64_in _ (by omega)
  go_wp2_with fail
  refine (areC1 0 (n - 1) k _ _ _ (by simp)).mono ?_
  rintro e w2 ⟨rfl, hw⟩
  rw [QQ.out]
  have ba := bel_al1 w1 (.cells #[.int .i64 k] 3)
  rw [hw] at ba
  have B2 := Lib.hid (Below.then' B1.out ba)
  have S2 := Lib.hid (S1.out.below ba)
  clear hw ba
  cases q
  · have E0 := Lib.hid (show TiedMarks_0 n xs k = [] from by unfold TiedMarks_0; rw [TB.out]; rfl)
    have E1 := Lib.hid (show TiedMarks_1 n xs k = false from by unfold TiedMarks_1; rw [TB.out]; rfl)
    go_wp2
    go_ret2
    exact ⟨_, by rw [E1.out]; rfl, by rw [E0.out]; exact nil_OwnIntS _ _ _, B2.out⟩
  have hk := inB_iff.1 QQ.out
  obtain ⟨j, rfl⟩ : ∃ j : Nat, n = (j : Int) := ⟨n.toNat, by omega⟩
  obtain ⟨i, rfl⟩ : ∃ i : Nat, k = (i : Int) := ⟨k.toNat, by omega⟩
  have hij : i < j := by omega
  have hj10 : j ≤ 1000000 := by omega
  have E0 := Lib.hid (show TiedMarks_0 (j : Int) xs (i : Int) = tiedL j (prsC xs) (i : Int) from by unfold TiedMarks_0; rw [TB.out]; rfl)
  have E1 := Lib.hid (show TiedMarks_1 (j : Int) xs (i : Int) = true from by unfold TiedMarks_1; rw [TB.out]; rfl)
  clear v1
  go_wp2_with fail
  refine (tiesOf_any j i _ _ _ xs _ S2.out PP.out hij).mono ?_
  rintro e w3 ⟨bs, rfl, hl, hnum, hown, hb⟩
  have B3 := Lib.hid (Below.then' B2.out hb)
  have bx := bel_al1 w3 (.cells #[.slice (some ⟨w2.heap.size, 0, none⟩) j j] 81)
  have XB := Lib.hid (cell_box w3 (.slice (some ⟨w2.heap.size, 0, none⟩) j j) 81 _ rfl)
  have OB := Lib.hid (ownsRow_below hown bx)
  have B4 := Lib.hid (Below.then' B3.out bx)
  have NUM := Lib.hid hnum
  clear hnum hown hb bx
  go_wp2_with fail
  refine (numbersWhere_any j hj10 71 #[.pointer (some ⟨w3.heap.size, 0, none⟩)] (getB bs) _ (enters_fn' Try.func71 (by kernel_rfl) (by kernel_rfl)) (fun W t ht hW => by
    have h1 := isTied_any w3.heap.size j w2.heap.size _ bs t W (cell_stay XB.out hW) (ownsRow_below OB.out hW) hl ht
    simpa using h1)).mono ?_
  rintro e w5 ⟨v, rfl, hown, hb⟩
  rw [NUM.out] at hown
  have B5 := Lib.hid (Below.then' B4.out hb)
  have O := Lib.hid (show OwnIntS w.heap.size w5.heap.size w5 v (tiedL j (prsC xs) (i : Int)) from OwnIn.of_row (ownsRow_base hown B4.out.size) (Nat.le_refl _) (Nat.le_refl _))
  clear hown hb
  go_wp2
  go_ret2
  exact ⟨_, by rw [E1.out]; rfl, by rw [E0.out]; exact O.out, B5.out⟩
end Go.Proofs.Ytobpgoiaimlonaa
namespace Go.Proofs.Ytobpgoiaimlonaa
open Go.RowKit Go.ChangeShapes Go.WideShapes

theorem open_IntsA {H : Type} {enc : TypeId × Value → H} {W : World} {base : Nat} {held : Bool} {a : Option Addr} {len cap : Nat} {d : DataW H} {p : List MemPlace}
    (h : DataW.Trod enc Try.prog W base (fun _ => true) held 25 (.slice a len cap) d p) : ∃ xs : List Int, IsInts W a len cap xs := by
  obtain ⟨fuel, hf⟩ := h
  rcases open_ints Try.underlying25 Try.underlying3 (by kernel_rfl) hf with ⟨hcs, _⟩ | ⟨x, l, c, zs, hcs, _, hl, hm, hz, _, hcell, _⟩
  · simp [Value.cells] at hcs
    obtain ⟨rfl, rfl, rfl⟩ := hcs
    exact ⟨[], rfl, Nat.le_refl _, by simp [maxLen], .inl rfl⟩
  · simp [Value.cells] at hcs
    obtain ⟨rfl, rfl, rfl⟩ := hcs
    simp at hz
    obtain ⟨b, o, spot⟩ := x
    by_cases h0 : len = 0
    · subst h0
      exact ⟨[], rfl, hl, hm, .inl rfl⟩
    · have h1 := hcell 0 (by omega)
      have hspot : spot = none := by simpa [Addr.add] using World.cell?_spot h1
      subst hspot
      rw [add_plain] at h1
      refine ⟨zs.take len, by rw [List.length_take]; omega, hl, hm, .inr ⟨b, o, rfl, World.lt_of_cell h1, fun k z hk => ?_⟩⟩
      rw [List.getElem?_take] at hk
      split at hk
      · have h2 := hcell k (by omega)
        rw [add_plain, List.getD_eq_getElem?_getD, hk] at h2
        exact h2
      · cases hk
theorem toIntS_o (a : Option Addr) (len cap : Nat) (xs : List Int) (w : World) (h : IsInts w a len cap xs) (hsz : condInt xs) :
    Calls Try.prog 38 #[.slice a len cap] w fun e w' => ∃ v, e = .returned v ∧ OwnIntS w.heap.size w'.heap.size w' v xs ∧ Below w.heap.size w w' :=
  (toIntS_h a len cap xs w h hsz).mono fun _ _ ⟨_, he, ho, hb⟩ => ⟨_, he, ho, hb⟩
end Go.Proofs.Ytobpgoiaimlonaa
