/- Texts in one: AreSoundClaimsP, LowestHeightsP, HighestHeightsP, Ci8, CulpritsP, Ci9, MarkT, ReaderT. -/
import Derived.Test.YtobpgoiaimlonaaM3
import Derived.Test.YtobpgoiaimlonaaM4
import Derived.Test.YtobpgoiaimlonaaM5
import Derived.Test.YtobpgoiaimlonaaM2
import Derived.Test.YtobpgoiaimlonaaM1
import Derived.Laws.BytesArg
import Derived.WalkLawsBesides
import Derived.Deep.RegionWith
import Derived.Laws.OwnMore
import Derived.Handy
import Derived.Laws.IdiomRangeMap
namespace Go.Proofs.Ytobpgoiaimlonaa
open Go.RowKit
def AreSoundClaims_Post (z0 : Int) (z1 : List VClaim) (w : World) (e : Ending) (w' : World) : Prop :=
  e = .returned (.tuple #[.bool (AreSoundClaims_0 z0 z1), .bool (AreSoundClaims_1 z0 z1)]) ∧ Below w.heap.size w w'
end Go.Proofs.Ytobpgoiaimlonaa
namespace Go.Proofs.Ytobpgoiaimlonaa
open Go.RowKit
def LowestHeights_Post (z0 : Int) (z1 : List VClaim) (w : World) (e : Ending) (w' : World) : Prop :=
  ∃ v0 : Value, e = .returned (.tuple #[v0, .bool (LowestHeights_1 z0 z1)]) ∧ OwnIntS w.heap.size w'.heap.size w' v0 (LowestHeights_0 z0 z1) ∧ Below w.heap.size w w'
end Go.Proofs.Ytobpgoiaimlonaa
namespace Go.Proofs.Ytobpgoiaimlonaa
open Go.RowKit
def HighestHeights_Post (z0 : Int) (z1 : List VClaim) (w : World) (e : Ending) (w' : World) : Prop :=
  ∃ v0 : Value, e = .returned (.tuple #[v0, .bool (HighestHeights_1 z0 z1)]) ∧ OwnIntS w.heap.size w'.heap.size w' v0 (HighestHeights_0 z0 z1) ∧ Below w.heap.size w w'
end Go.Proofs.Ytobpgoiaimlonaa
namespace Go.Proofs.Ytobpgoiaimlonaa
open Go.RowKit

set_option maxHeartbeats 3200000 in
theorem implAreSoundClaims_any (n : Int) (a : Option Addr) (len cap : Nat) (xs : List VClaim) (w : World) (h : IsClaimS w a len cap xs) :
    Calls Try.prog 37 #[.int .i64 n, .slice a len cap] w (AreSoundClaims_Post n xs w) := by
  have S := Lib.hid h
  clear h
  obtain ⟨p, hp⟩ : ∃ p, areCl n xs = p := ⟨_, rfl⟩
  have PP := Lib.hid hp
  have E1 := Lib.hid (show AreSoundClaims_1 n xs = p from hp)
  have E0 := Lib.hid (show AreSoundClaims_0 n xs = (p && soundB n.toNat xs) from by unfold AreSoundClaims_0; rw [hp])
  clear hp
  go_enter Try.func37, Try.ntmps37
  go_wp2_with fail
  refine (implAreClaims_any n _ _ _ xs _ S.out).mono ?_
  rintro e w1 ⟨rfl, hb⟩
  rw [show AreClaims_0 n xs = p from PP.out]
  have B1 := Lib.hid hb
  have S1 := Lib.hid (S.out.below hb)
  clear hb
  cases p
  · go_wp2
    go_ret2
    exact ⟨by rw [E0.out, E1.out]; rfl, B1.out⟩
  obtain ⟨j, rfl, _, _⟩ := areCl_nat PP.out
  rw [Int.toNat_natCast] at E0
  go_wp2_with fail
  refine (greatestRises_any j _ _ _ xs _ S1.out PP.out).mono ?_
  rintro e w2 ⟨v, rfl, _, _, hb⟩
  obtain ⟨q, hq⟩ : ∃ q, soundB j xs = q := ⟨_, rfl⟩
  rw [hq] at E0 ⊢
  have B2 := Lib.hid (Below.then' B1.out hb)
  clear hb hq
  go_wp2
  go_ret2
  exact ⟨by rw [E0.out, E1.out]; rfl, B2.out⟩
theorem told_partsP {n : Nat} {xs : List VClaim} (h : toldB (n : Int) xs = true) : areCl (n : Int) xs = true ∧ (tiedL n (prsC xs) 0).length = n ∧ soundB n xs = true := by
  unfold toldB at h
  simp only [Bool.and_eq_true, decide_eq_true_eq, Int.toNat_natCast] at h
  exact ⟨h.1, by have := h.2.1; omega, h.2.2⟩
/-- What toldRises leaves. -/
def ToldPost (n : Int) (xs : List VClaim) (w : World) (e : Ending) (w' : World) : Prop :=
  ∃ v, e = .returned (.tuple #[v, .bool (toldB n xs)]) ∧ (toldB n xs = true → ∃ (D : List (List Int)) (g : Nat), v = .slice (some ⟨g, 0, none⟩) n.toNat n.toNat ∧ RiseM n.toNat (clE xs) D ∧ MatIn w.heap.size w'.heap.size w' g n.toNat D) ∧ (toldB n xs = false → v = .slice none 0 0) ∧ Below w.heap.size w w'
set_option maxHeartbeats 3200000 in
theorem toldRises_any (n : Int) (a : Option Addr) (len cap : Nat) (xs : List VClaim) (w : World) (h : IsClaimS w a len cap xs) :
    Calls Try.prog 80 #[.int .i64 n, .slice a len cap] w (ToldPost n xs w) := by
  have S := Lib.hid h
  clear h
  obtain ⟨p, hp⟩ : ∃ p, tieB n xs 0 = p := ⟨_, rfl⟩
  have PP := Lib.hid hp
  have T1 := Lib.hid (show TiedMarks_1 n xs 0 = p from hp)
  clear hp
  go_enter Try.func80, Try.ntmps80
  go_wp2_with fail
  refine (implTiedMarks_any n _ _ _ xs 0 _ S.out).mono ?_
  rintro e w1 ⟨v, rfl, hown, hb⟩
  rw [T1.out]
  have B1 := Lib.hid hb
  have S1 := Lib.hid (S.out.below hb)
  obtain ⟨va, vc, rfl⟩ := hown.form
  clear hown hb
  cases p
  · have TN := Lib.hid (show toldB n xs = false from by
      have h := PP.out
      unfold tieB at h
      unfold toldB
      cases ha : areCl n xs with
      | false => rfl
      | true =>
        rw [ha] at h
        have hn := (areCl_iff.1 ha).2.1
        rw [decide_eq_true (show (0 : Int) ≤ 0 by omega), decide_eq_true (show (0 : Int) < n by omega)] at h
        cases h)
    go_wp2
    go_ret2
    exact ⟨_, by rw [TN.out]; rfl, fun h => (by rw [TN.out] at h; cases h), fun _ => rfl, B1.out⟩
  have AC : areCl n xs = true := by have h := PP.out; unfold tieB at h; simp only [Bool.and_eq_true] at h; exact h.1
  obtain ⟨j, rfl, _, _⟩ := areCl_nat AC
  have AC2 := Lib.hid AC
  have TL := Lib.hid (show TiedMarks_0 (j : Int) xs 0 = tiedL j (prsC xs) 0 from by unfold TiedMarks_0; rw [PP.out]; rfl)
  have hle := (tiedL_is (n := j) (areCl_prs AC) (show (0 : Int) ≤ 0 ∧ (0 : Int) < (j : Int) by omega)).2.2
  rw [TL.out]
  obtain ⟨m, hm⟩ : ∃ m, (tiedL j (prsC xs) 0).length = m := ⟨_, rfl⟩
  have TB := Lib.hid (show toldB (j : Int) xs = (decide ((m : Int) = (j : Int)) && soundB j xs) from by unfold toldB; rw [AC, Int.toNat_natCast, hm]; rfl)
  rw [hm] at hle ⊢
  clear AC hm
  by_cases hlt : m < j
  · have hlt2 : (m : Int) < (j : Int) := by omega
    have TN := Lib.hid (show toldB (j : Int) xs = false from by rw [TB.out, decide_eq_false (by omega)]; rfl)
    go_wp2
    go_ret2
    exact ⟨_, by rw [TN.out]; rfl, fun h => (by rw [TN.out] at h; cases h), fun _ => rfl, B1.out⟩
  · have hlt2 : ¬ (m : Int) < (j : Int) := by omega
    have TN := Lib.hid (show toldB (j : Int) xs = soundB j xs from by rw [TB.out, decide_eq_true (by omega)]; rfl)
    go_wp2_with fail
    refine (greatestRises_any j _ _ _ xs _ S1.out AC2.out).mono ?_
    rintro e w2 ⟨v, rfl, hyes, hno, hb⟩
    have Y := Lib.hid hyes
    have N := Lib.hid hno
    have B2 := Lib.hid (Below.then' B1.out hb)
    obtain ⟨q, hq⟩ : ∃ q, soundB j xs = q := ⟨_, rfl⟩
    rw [hq] at Y N TN ⊢
    clear hyes hno hb hq
    go_wp2
    go_ret2
    refine ⟨_, by rw [TN.out]; rfl, fun h => ?_, fun h => N.out (by rw [TN.out] at h; exact h), B2.out⟩
    rw [TN.out] at h
    obtain ⟨D, g, h1, h2, h3⟩ := Y.out h
    exact ⟨D, g, by rw [Int.toNat_natCast]; exact h1, by rw [Int.toNat_natCast]; exact h2, by rw [Int.toNat_natCast]; exact h3.mono B1.out.size (Nat.le_refl _)⟩
set_option maxHeartbeats 6400000 in
set_option maxRecDepth 100000 in
theorem implHighestHeights_any (n : Int) (a : Option Addr) (len cap : Nat) (xs : List VClaim) (w : World) (h : IsClaimS w a len cap xs) :
    Calls Try.prog 46 #[.int .i64 n, .slice a len cap] w (HighestHeights_Post n xs w) := by
  have S := Lib.hid h
  clear h
  go_enter Try.func46, Try.ntmps46
  go_wp2_with fail
  refine (toldRises_any n _ _ _ xs _ S.out).mono ?_
  rintro e w1 ⟨v, rfl, hyes, hno, hb⟩
  obtain ⟨p, hp⟩ : ∃ p, toldB n xs = p := ⟨_, rfl⟩
  have PP := Lib.hid hp
  have E1 := Lib.hid (show HighestHeights_1 n xs = p from hp)
  rw [hp] at hyes hno ⊢
  have B1 := Lib.hid hb
  clear hp hb
  cases p
  · have E0 := Lib.hid (show HighestHeights_0 n xs = [] from by unfold HighestHeights_0; rw [PP.out]; rfl)
    clear hyes hno
    go_wp2
    go_ret2
    exact ⟨_, by rw [E1.out]; rfl, by rw [E0.out]; exact nil_OwnIntS _ _ _, B1.out⟩
  obtain ⟨D, g, rfl, hrise, hmat⟩ := hyes rfl
  obtain ⟨j, rfl, hj1, hj2⟩ := areCl_nat (show areCl n xs = true from by have := PP.out; unfold toldB at this; simp only [Bool.and_eq_true] at this; exact this.1)
  rw [Int.toNat_natCast] at hrise hmat ⊢
  have TP := told_partsP PP.out
  obtain ⟨r, hr, hrl, _⟩ := hrise.tab.sq.row (show 0 < j by omega)
  have E0 := Lib.hid (show HighestHeights_0 (j : Int) xs = r from by
    unfold HighestHeights_0
    rw [PP.out, Int.toNat_natCast]
    exact rise_high TP.1 TP.2.1 hrise hr)
  obtain ⟨rb, rc, e0, _, _, _, _, _, _, hown⟩ := hmat.row hr (by omega)
  have O := Lib.hid (show OwnIntS w.heap.size w1.heap.size w1 (.slice (some ⟨rb, 0, none⟩) j rc) r from by
    have h := hown
    rw [hrl] at h
    unfold OwnIntS
    rw [hrl]
    exact h)
  rw [hrl] at e0
  have j0 : (0 : Int) < (j : Int) := by omega
  clear hno hrise hmat TP hr hown hrl
  go_wp2
  go_ret2
  exact ⟨_, by rw [E1.out]; rfl, by rw [E0.out]; exact O.out, B1.out⟩
def negL (D : List (List Int)) (k : Nat) : List Int := (List.range k).map fun t => -(gM D t 0)
theorem negL_succ (D : List (List Int)) (k : Nat) : negL D (k + 1) = negL D k ++ [-(gM D k 0)] := by
  unfold negL; rw [List.range_succ, List.map_append]; rfl
theorem negL_len (D : List (List Int)) (k : Nat) : (negL D k).length = k := by simp [negL]
set_option maxHeartbeats 6400000 in
set_option maxRecDepth 100000 in
theorem implLowestHeights_any (n : Int) (a : Option Addr) (len cap : Nat) (xs : List VClaim) (w : World) (h : IsClaimS w a len cap xs) :
    Calls Try.prog 41 #[.int .i64 n, .slice a len cap] w (LowestHeights_Post n xs w) := by
  obtain ⟨i0, hi, hz0, hz1, hz2⟩ := info_parts infoInt
  have S := Lib.hid h
  clear h
  go_enter Try.func41, Try.ntmps41
  go_wp2_with fail
  refine (toldRises_any n _ _ _ xs _ S.out).mono ?_
  rintro e w1 ⟨v, rfl, hyes, hno, hb⟩
  obtain ⟨p, hp⟩ : ∃ p, toldB n xs = p := ⟨_, rfl⟩
  have PP := Lib.hid hp
  have E1 := Lib.hid (show LowestHeights_1 n xs = p from hp)
  rw [hp] at hyes hno ⊢
  have B1 := Lib.hid hb
  clear hp hb
  cases p
  · have E0 := Lib.hid (show LowestHeights_0 n xs = [] from by unfold LowestHeights_0; rw [PP.out]; rfl)
    obtain rfl := hno rfl
    clear hyes hno
    go_wp2
    refine wp_loop_rounds 1 ?_
    rw [rounds_succ]
    go_wp2
    go_ret2
    exact ⟨_, by rw [E1.out]; rfl, by rw [E0.out]; exact nil_OwnIntS _ _ _, B1.out⟩
  obtain ⟨D, g, rfl, hrise, hmat⟩ := hyes rfl
  obtain ⟨j, rfl, hj1, hj2⟩ := areCl_nat (show areCl n xs = true from by have := PP.out; unfold toldB at this; simp only [Bool.and_eq_true] at this; exact this.1)
  rw [Int.toNat_natCast] at hrise hmat ⊢
  have TP := told_partsP PP.out
  have E0 := Lib.hid (show LowestHeights_0 (j : Int) xs = negL D j from by
    unfold LowestHeights_0
    rw [PP.out, Int.toNat_natCast]
    exact rise_low TP.1 TP.2.1 hrise)
  have R := Lib.hid hrise
  have M := Lib.hid hmat
  clear hno hrise hmat TP
  go_wp2
  go_loopw [19, 8] (fun i o wr => ∃ k : Nat, k ≤ j ∧ i = .int .i64 k ∧ wr.ownsRow w1.heap.size 3 1 o (negL D k).length (intCells (negL D k)) ∧ Below w1.heap.size w1 wr) (fun i _ _ => j - (intOf i).toNat)
  case atStart => exact ⟨0, Nat.zero_le _, rfl, ⟨by simp [intCells, negL], .inl ⟨rfl, rfl⟩⟩, Below.refl _ _⟩
  case round =>
    obtain ⟨k, hk, rfl, hown, hbel⟩ := hrel
    have B := Lib.hid hbel
    by_cases hlt : k < j
    · have hlt2 : (k : Int) < (j : Int) := by omega
      have hk0 : (0 : Int) ≤ (k : Int) := by omega
      have hgl := negL_len D k
      have FS := Lib.hid (negL_succ D k)
      obtain ⟨G, hG⟩ : ∃ G, negL D k = G := ⟨_, rfl⟩
      rw [hG] at hown FS hgl
      obtain ⟨r, hr, hrl, _⟩ := R.out.tab.sq.row hlt
      obtain ⟨rb, rc, e0, _, _, rcap, rcell, _, _, _⟩ := (M.out.below hbel).row hr (by omega)
      rw [hrl] at e0 rcap
      obtain ⟨y, hy⟩ : ∃ y, gM D k 0 = y := ⟨_, rfl⟩
      have c0 := rcell 0 y (by rw [← hy, gM_some hr]; exact gI_at (by omega))
      have bd1 := R.out.tab.lo k 0 hlt (by omega)
      have bd2 := R.out.tab.hi k 0 hlt (by omega)
      have pb := pow_bd hj2
      rw [hy] at FS bd1 bd2
      have hw0 : IntKind.i64.wrap (-y) = -y := IntWalk.i64_in _ (by omega)
      have j0 : (0 : Int) < (j : Int) := by omega
      have rc1 := rcap.1
      have rc2 := rcap.2
      unfold maxLen at rc2
      have hown3 := hown.alloc (.cells #[.int .i64 (-y)] 3)
      have hsz := B.out.size
      clear hown hbel hG hr hrl rcap rcell bd1 bd2 pb hy
      go_wp2_with (at_builtin; refine wpList_append_own _ rfl _ _ 25 rfl w1.heap.size 3 i0 (.int .i64 0) 1 8 Try.underlying25 hi hz0 hz1 hz2 rfl (by decide) _ _ _ rfl hown3 ⟨wr.heap.size, 0, none⟩ 1 1 [.int .i64 (-y)] rfl rfl (cell_one _ _ _) (fun x hx => by simp at hx; subst hx; rfl) (by unfold maxLen; omega) (by omega) (by simp; omega) ?_; intro v' w4 hown' hgrow4 hnil4)
      go_roundw
      case rel =>
        refine ⟨k + 1, by omega, by go_num, ?_, (Below.then' B.out (wh_al1 _ _)).grown hgrow4 (by simp; omega) (fun j e => (hown3.lt j e).1)⟩
        rw [FS.out, intCells_snoc, List.length_append]
        exact hown'
      case measure => simp [intOf]; omega
    · obtain rfl : k = j := by omega
      have O := Lib.hid (show OwnIntS w.heap.size wr.heap.size wr u8 (negL D k) from OwnIn.of_row (ownsRow_base hown B1.out.size) (Nat.le_refl _) (Nat.le_refl _))
      have B2 := Lib.hid (Below.then' B1.out hbel)
      clear hbel hown
      go_wp2
      go_ret2
      exact ⟨_, by rw [E1.out]; rfl, by rw [E0.out]; exact O.out, B2.out⟩
end Go.Proofs.Ytobpgoiaimlonaa
namespace Go.Proofs.Ytobpgoiaimlonaa
open Go.RowKit
def Culprits_Post (z0 : Int) (z1 : List VClaim) (w : World) (e : Ending) (w' : World) : Prop :=
  ∃ v0 : Value, e = .returned (.tuple #[v0, .bool (Culprits_1 z0 z1)]) ∧ OwnIntS w.heap.size w'.heap.size w' v0 (Culprits_0 z0 z1) ∧ Below w.heap.size w w'
end Go.Proofs.Ytobpgoiaimlonaa
namespace Go.Proofs.Ytobpgoiaimlonaa
open Go.RowKit

theorem culp_nums (n : Nat) (xs : List VClaim) : ∀ k, numsTo (fun i => soundB n (butC xs i)) k = culpTo n xs k := by
  intro k
  induction k with
  | zero => rfl
  | succ k ih => rw [numsTo, culpTo, ih]
theorem lit2C (w : World) (u v : Value) (t : TypeId) : (w.alloc (.cells #[u, v] t)).drew.cell? ⟨w.heap.size, 0, none⟩ = some u ∧ (w.alloc (.cells #[u, v] t)).drew.cell? ⟨w.heap.size, 1, none⟩ = some v := by
  constructor <;> simp [World.cell?_alloc_new]
theorem concat2_to (L : List VClaim) (bl : Nat) (a1 : Option Addr) (n1 c1 : Nat) (xs1 : List VClaim) (a2 : Option Addr) (n2 c2 : Nat) (xs2 : List VClaim) (w : World) (h0 : w.cell? ⟨bl, 0, none⟩ = some (.slice a1 n1 c1)) (h1 : w.cell? ⟨bl, 1, none⟩ = some (.slice a2 n2 c2)) (hs1 : IsClaimS w a1 n1 c1 xs1) (hs2 : IsClaimS w a2 n2 c2 xs2) (hb : xs1.length + xs2.length ≤ 1000) (hL : xs1 ++ xs2 = L) :
    Calls Try.prog 82 #[.slice (some ⟨bl, 0, none⟩) 2 2] w (ClaimRow L w) := hL ▸ concat2_any bl a1 n1 c1 xs1 a2 n2 c2 xs2 w h0 h1 hs1 hs2 hb
set_option maxHeartbeats 6400000 in
set_option maxRecDepth 100000 in
theorem withoutOne_any (bn bc n i : Nat) (a : Option Addr) (len cap : Nat) (xs : List VClaim) (w : World) (h1 : w.cell? ⟨bn, 0, none⟩ = some (.int .i64 (n : Int))) (h2 : w.cell? ⟨bc, 0, none⟩ = some (.slice a len cap)) (h : IsClaimS w a len cap xs) (hc : areCl (n : Int) xs = true) (hi : i < xs.length) :
    Calls Try.prog 81 #[.int .i64 (i : Int), .pointer (some ⟨bn, 0, none⟩), .pointer (some ⟨bc, 0, none⟩)] w fun e w' => e = .returned (.bool (soundB n (butC xs i))) ∧ Below w.heap.size w w' := by
  have hm := h.2.2.1
  have hcl := h.2.1
  have h24 := (areCl_iff.1 hc).2.2
  obtain ⟨b, o, rfl, _, _⟩ := h.at (by rw [h.1]; omega)
  obtain rfl := h.1
  have C := Lib.hid hc
  have CB := Lib.hid (areCl_but hc i)
  have h1m := hm
  unfold maxLen at hm
  have i0 : (0 : Int) ≤ (i : Int) := by omega
  have i1 : (i : Int) ≤ (xs.length : Int) := by omega
  have i2 : (i : Int) ≤ (cap : Int) := by omega
  have i3 : (i : Int) + 1 ≤ (xs.length : Int) := by omega
  have i4 : (0 : Int) ≤ (i : Int) + 1 := by omega
  have i5 : ((i : Int) + 1).toNat = i + 1 := by omega
  have hw1 : IntKind.i64.wrap ((i : Int) + 1) = (i : Int) + 1 := IntWalk.i64_in _ (by omega)
  have TK := Lib.hid (takeC h (show i ≤ xs.length by omega))
  have BE := Lib.hid (show (xs.take i).length + (xs.drop (i + 1)).length ≤ 1000 from by rw [List.length_take, List.length_drop]; omega)
  obtain ⟨L, hL⟩ : ∃ L, butC xs i = L := ⟨_, rfl⟩
  rw [hL] at CB ⊢
  have HL := Lib.hid (show xs.take i ++ xs.drop (i + 1) = L from hL)
  clear hL
  by_cases hcj : cap = i + 1
  · have hxl : xs.length = i + 1 := by omega
    have DR := Lib.hid (show IsClaimS w (some ⟨b, o, none⟩) 0 0 (xs.drop (i + 1)) from by
      rw [List.drop_of_length_le (by omega)]; exact emptyC _ _ _ (by simp [maxLen]))
    obtain ⟨m, hm2⟩ : ∃ m, xs.length = m := ⟨_, rfl⟩
    rw [hm2] at h h2 i1 i3 hcl h24 hi hxl
    subst hcj
    subst hxl
    clear hm2
    obtain ⟨W, hW⟩ : ∃ W, (w.alloc (.cells #[.slice (some ⟨b, o, none⟩) i (i + 1), .slice (some ⟨b, o, none⟩) 0 0] 24)).drew = W := ⟨_, rfl⟩
    have BW := Lib.hid (show Below w.heap.size w W from hW ▸ bel_drew' (bel_al1 _ _))
    have LC := Lib.hid (hW ▸ lit2C w (.slice (some ⟨b, o, none⟩) i (i + 1)) (.slice (some ⟨b, o, none⟩) 0 0) 24)
    have KD := Lib.hid (show w.drew.cell? ⟨bn, 0, none⟩ = some (.int .i64 (n : Int)) ∧ w.drew.cell? ⟨bc, 0, none⟩ = some (.slice (some ⟨b, o, none⟩) (i + 1) (i + 1)) from ⟨h1, h2⟩)
    have KW := Lib.hid (show W.cell? ⟨bn, 0, none⟩ = some (.int .i64 (n : Int)) ∧ W.cell? ⟨bc, 0, none⟩ = some (.slice (some ⟨b, o, none⟩) (i + 1) (i + 1)) from ⟨cell_stay' h1 BW.out, cell_stay' h2 BW.out⟩)
    have KP := Lib.hid (show ∀ u1 u2 : World, (u1.cell? ⟨bn, 0, none⟩ = some (.int .i64 (n : Int)) ∧ u1.cell? ⟨bc, 0, none⟩ = some (.slice (some ⟨b, o, none⟩) (i + 1) (i + 1))) → Below u1.heap.size u1 u2 → (u2.cell? ⟨bn, 0, none⟩ = some (.int .i64 (n : Int)) ∧ u2.cell? ⟨bc, 0, none⟩ = some (.slice (some ⟨b, o, none⟩) (i + 1) (i + 1))) from fun u1 u2 h hb => ⟨cell_stay' h.1 hb, cell_stay' h.2 hb⟩)
    have HWW := Lib.hid hW
    have j1 : (i : Int) ≤ (i : Int) + 1 := by omega
    have j2 : (i : Int) + 1 ≤ (i : Int) + 1 := by omega
    have j3 : (0 : Int) ≤ (i : Int) + 1 := by omega
    have j4 : ((i + 1 : Nat) : Int) = (i : Int) + 1 := by omega
    clear h hc hW
    go_enter Try.func81, Try.ntmps81
    go_wp2
    go_region_held3 (fun w' => w'.cell? ⟨bn, 0, none⟩ = some (.int .i64 (n : Int)) ∧ w'.cell? ⟨bc, 0, none⟩ = some (.slice (some ⟨b, o, none⟩) (i + 1) (i + 1)))
      (first | exact KD.out | (rw [HWW.out]; exact KW.out) | exact KP.out _ _ KW.out (by assumption) | exact KP.out _ _ (by assumption) (by assumption))
      (first | (go_at_call 82; rw [HWW.out]; refine (concat2_to L w.heap.size _ _ _ (xs.take i) _ _ _ (xs.drop (i + 1)) _ LC.out.1 LC.out.2 (TK.out.below BW.out) (DR.out.below BW.out) BE.out HL.out).mono ?_; rintro e w5 ⟨v5, rfl, hown5, hb5⟩; obtain ⟨a5, c5, rfl, hi5, _⟩ := isClaimS_own hown5; have I5 := Lib.hid hi5; clear hown5 hi5) | (go_at_call 77; refine (greatestRises_any n _ _ _ L _ I5.out CB.out).mono ?_; rintro e w6 ⟨v6, rfl, _, _, hb6⟩))
    have B6 := Lib.hid (Below.then' (Below.then' BW.out hb5) hb6)
    clear hb5 hb6
    go_wp2
    go_ret
    exact ⟨rfl, B6.out⟩
  · have DR := Lib.hid (dropC h (show i + 1 ≤ xs.length by omega))
    obtain ⟨W, hW⟩ : ∃ W, (w.alloc (.cells #[.slice (some ⟨b, o, none⟩) i cap, .slice (some ⟨b, o + (i + 1) * 4, none⟩) (xs.length - (i + 1)) (cap - (i + 1))] 24)).drew = W := ⟨_, rfl⟩
    have BW := Lib.hid (show Below w.heap.size w W from hW ▸ bel_drew' (bel_al1 _ _))
    have LC := Lib.hid (hW ▸ lit2C w (.slice (some ⟨b, o, none⟩) i cap) (.slice (some ⟨b, o + (i + 1) * 4, none⟩) (xs.length - (i + 1)) (cap - (i + 1))) 24)
    have KD := Lib.hid (show w.drew.cell? ⟨bn, 0, none⟩ = some (.int .i64 (n : Int)) ∧ w.drew.cell? ⟨bc, 0, none⟩ = some (.slice (some ⟨b, o, none⟩) xs.length cap) from ⟨h1, h2⟩)
    have KW := Lib.hid (show W.cell? ⟨bn, 0, none⟩ = some (.int .i64 (n : Int)) ∧ W.cell? ⟨bc, 0, none⟩ = some (.slice (some ⟨b, o, none⟩) xs.length cap) from ⟨cell_stay' h1 BW.out, cell_stay' h2 BW.out⟩)
    have KP := Lib.hid (show ∀ u1 u2 : World, (u1.cell? ⟨bn, 0, none⟩ = some (.int .i64 (n : Int)) ∧ u1.cell? ⟨bc, 0, none⟩ = some (.slice (some ⟨b, o, none⟩) xs.length cap)) → Below u1.heap.size u1 u2 → (u2.cell? ⟨bn, 0, none⟩ = some (.int .i64 (n : Int)) ∧ u2.cell? ⟨bc, 0, none⟩ = some (.slice (some ⟨b, o, none⟩) xs.length cap)) from fun u1 u2 h hb => ⟨cell_stay' h.1 hb, cell_stay' h.2 hb⟩)
    have HWW := Lib.hid hW
    clear h hc hW
    go_enter Try.func81, Try.ntmps81
    go_wp2
    go_region_held3 (fun w' => w'.cell? ⟨bn, 0, none⟩ = some (.int .i64 (n : Int)) ∧ w'.cell? ⟨bc, 0, none⟩ = some (.slice (some ⟨b, o, none⟩) xs.length cap))
      (first | exact KD.out | (rw [HWW.out]; exact KW.out) | exact KP.out _ _ KW.out (by assumption) | exact KP.out _ _ (by assumption) (by assumption))
      (first | (go_at_call 82; rw [HWW.out]; refine (concat2_to L w.heap.size _ _ _ (xs.take i) _ _ _ (xs.drop (i + 1)) _ LC.out.1 LC.out.2 (TK.out.below BW.out) (DR.out.below BW.out) BE.out HL.out).mono ?_; rintro e w5 ⟨v5, rfl, hown5, hb5⟩; obtain ⟨a5, c5, rfl, hi5, _⟩ := isClaimS_own hown5; have I5 := Lib.hid hi5; clear hown5 hi5) | (go_at_call 77; refine (greatestRises_any n _ _ _ L _ I5.out CB.out).mono ?_; rintro e w6 ⟨v6, rfl, _, _, hb6⟩))
    have B6 := Lib.hid (Below.then' (Below.then' BW.out hb5) hb6)
    clear hb5 hb6
    go_wp2
    go_ret
    exact ⟨rfl, B6.out⟩
set_option maxHeartbeats 6400000 in
set_option maxRecDepth 100000 in
theorem implCulprits_any (n : Int) (a : Option Addr) (len cap : Nat) (xs : List VClaim) (w : World) (h : IsClaimS w a len cap xs) :
    Calls Try.prog 48 #[.int .i64 n, .slice a len cap] w (Culprits_Post n xs w) := by
  have b2 := bel_al2 w (.cells #[.int .i64 n] 3) (.cells #[.slice a len cap] 24)
  have S := Lib.hid (h.below b2)
  have L := Lib.hid h.1
  have hlm := Nat.le_trans h.2.1 h.2.2.1
  unfold maxLen at hlm
  have g1 := cell_stay (cell_box w (.int .i64 n) 3 _ rfl) (bel_al1 _ (.cells #[.slice a len cap] 24))
  have g2 := cell_box (w.alloc (.cells #[.int .i64 n] 3)) (.slice a len cap) 24 (w.heap.size + 1) (size_al _ _)
  have G1 := Lib.hid g1
  have G2 := Lib.hid g2
  have B0 := Lib.hid b2
  clear h b2
  obtain ⟨p, hp⟩ : ∃ p, areCl n xs = p := ⟨_, rfl⟩
  have PP := Lib.hid hp
  obtain ⟨q, hq⟩ : ∃ q, soundB n.toNat xs = q := ⟨_, rfl⟩
  have S0 := Lib.hid (show AreSoundClaims_0 n xs = (p && q) from by unfold AreSoundClaims_0; rw [hp, hq])
  have S1' := Lib.hid (show AreSoundClaims_1 n xs = p from hp)
  have CU := Lib.hid (show culpB n xs = (p && !q) from by unfold culpB; rw [hp, hq])
  clear hp hq
  have NO := Lib.hid (show (p && !q) = false → Culprits_0 n xs = [] ∧ Culprits_1 n xs = false from fun hh => ⟨by unfold Culprits_0; rw [CU.out, hh]; rfl, by unfold Culprits_1; rw [CU.out, hh]⟩)
  go_enter Try.func48, Try.ntmps48
  go_wp2_with fail
  refine (implAreSoundClaims_any n _ _ _ xs _ S.out).mono ?_
  rintro e w1 ⟨rfl, hb⟩
  rw [S0.out, S1'.out]
  have B1 := Lib.hid (Below.then' B0.out hb)
  have SS := Lib.hid (S.out.below hb)
  clear g1 g2
  have g1 := cell_stay G1.out hb
  have g2 := cell_stay G2.out hb
  have H1 := Lib.hid g1
  have H2 := Lib.hid g2
  clear hb
  cases p
  · have E := Lib.hid (NO.out rfl)
    go_wp2
    go_ret2
    exact ⟨_, by rw [E.out.2]; rfl, by rw [E.out.1]; exact nil_OwnIntS _ _ _, B1.out⟩
  cases q
  · obtain ⟨j, rfl, _, _⟩ := areCl_nat PP.out
    have E0 := Lib.hid (show Culprits_0 (j : Int) xs = numsTo (fun i => soundB j (butC xs i)) len from by unfold Culprits_0; rw [CU.out, L.out, culp_nums]; rfl)
    have E1 := Lib.hid (show Culprits_1 (j : Int) xs = true from by unfold Culprits_1; rw [CU.out]; rfl)
    have h24 := (areCl_iff.1 PP.out).2.2
    have hl24 : len ≤ 1000000 := by have := L.out; omega
    clear h24
    go_wp2_with fail
    refine (numbersWhere_any len hl24 81 #[.pointer (some ⟨w.heap.size, 0, none⟩), .pointer (some ⟨w.heap.size + 1, 0, none⟩)] (fun i => soundB j (butC xs i)) _ (enters_fn' Try.func81 (by kernel_rfl) (by kernel_rfl)) (fun W i hi hW => by
      have h1 := withoutOne_any w.heap.size (w.heap.size + 1) j i a len cap xs W (cell_stay H1.out hW) (cell_stay H2.out hW) (SS.out.below hW) PP.out (by have := L.out; omega)
      simpa using h1)).mono ?_
    rintro e w3 ⟨v, rfl, hown, hb⟩
    have B3 := Lib.hid (Below.then' B1.out hb)
    have O := Lib.hid (show OwnIntS w.heap.size w3.heap.size w3 v (numsTo (fun i => soundB j (butC xs i)) len) from OwnIn.of_row (ownsRow_base hown B1.out.size) (Nat.le_refl _) (Nat.le_refl _))
    clear hown hb g1 g2
    go_wp2
    go_ret2
    exact ⟨_, by rw [E1.out]; rfl, by rw [E0.out]; exact O.out, B3.out⟩
  · have E := Lib.hid (NO.out rfl)
    go_wp2
    go_ret2
    exact ⟨_, by rw [E.out.2]; rfl, by rw [E.out.1]; exact nil_OwnIntS _ _ _, B1.out⟩
end Go.Proofs.Ytobpgoiaimlonaa
namespace Go.Proofs.Ytobpgoiaimlonaa
open Go.RowKit

def markGo : Nat → Nat → ByteArray → ByteArray
  | 0, _, out => out
  | f + 1, k, out => if k = 0 then out else markGo f (k / 10) (strOfNums [48 + ((k % 10 : Nat) : Int)] ++ out)
theorem markGo_zero (f : Nat) (out : ByteArray) : markGo f 0 out = out := by cases f <;> rfl
/-- The text that marks number k. -/
def markOf (k : Nat) : ByteArray := ⟨#[109]⟩ ++ markGo k k ByteArray.empty
theorem numStr_size (x : Int) : (strOfNums [x]).size = 1 := by simp [strOfNums, ByteArray.size]
theorem str_one (x : Int) (W : World) : (convert 22 9 (.slice (some ⟨W.heap.size, 0, none⟩) 1 1)).run Try.prog (W.alloc (.cells #[.int .u8 x] 5)) = .ok (.string (strOfNums [x])) (W.alloc (.cells #[.int .u8 x] 5)) :=
  run_convert_bytes_arg (P := Try.prog) _ 22 5 Try.underlying22 Try.underlying5 _ 0 1 1 [x] (by simp) (fun i hi => by
    rw [World.cell?_alloc_new]
    obtain rfl : i = 0 := by omega
    rfl) 9 Try.underlying9
theorem mark_eq {a b : Nat} (h : a = b) : Value.string (markOf a) = .string (markOf b) := by rw [h]
theorem markGo_size : ∀ (f k : Nat) (out : ByteArray), (markGo f k out).size ≤ out.size + f
  | 0, _, _ => Nat.le_refl _
  | f + 1, k, out => by
    unfold markGo
    split
    · omega
    · refine Nat.le_trans (markGo_size f _ _) ?_
      rw [ByteArray.size_append, numStr_size]; omega
theorem markOf_size (k : Nat) (h : k ≤ 100000000) : (markOf k).size ≤ maxLen := by
  unfold markOf
  rw [ByteArray.size_append]
  have := markGo_size k k ByteArray.empty
  have e : (⟨#[109]⟩ : ByteArray).size = 1 := rfl
  have e2 : ByteArray.empty.size = 0 := rfl
  unfold maxLen
  omega
end Go.Proofs.Ytobpgoiaimlonaa
namespace Go.Proofs.Ytobpgoiaimlonaa
open Go.RowKit Go.ChangeShapes Go.WideShapes Go.Deep

structure VReader where
  Id : Int
  Name : ByteArray
  Joined : Int
  Class : Int
  Fines : Int
def VReader.vals (s : VReader) : List Value := [.int .i64 s.Id, .string s.Name, .int .i64 s.Joined, .int .i64 s.Class, .int .i64 s.Fines]
theorem VReader.vals_len (s : VReader) : s.vals.length = 5 := rfl
theorem VReader.vals_one (s : VReader) : ∀ u ∈ s.vals, u.oneCell' = true := by
  intro u hu
  simp [VReader.vals] at hu
  rcases hu with rfl | rfl | rfl | rfl | rfl <;> rfl
/-- Its texts are no longer than any text may be. -/
def VReader.small (s : VReader) : Prop := s.Name.size ≤ maxLen
/-- It lies at block b from offset o on. -/
def ReaderAt (w : World) (b o : Nat) (s : VReader) : Prop :=
  w.cell? ⟨b, o, none⟩ = some (.int .i64 s.Id) ∧ w.cell? ⟨b, o + 1, none⟩ = some (.string s.Name) ∧ w.cell? ⟨b, o + 2, none⟩ = some (.int .i64 s.Joined) ∧ w.cell? ⟨b, o + 3, none⟩ = some (.int .i64 s.Class) ∧ w.cell? ⟨b, o + 4, none⟩ = some (.int .i64 s.Fines) ∧ s.small
def IsReaderS (w : World) (a : Option Addr) (len cap : Nat) (xs : List VReader) : Prop :=
  len = xs.length ∧ len ≤ cap ∧ cap ≤ maxLen ∧ (len = 0 ∨ ∃ b o, a = some ⟨b, o, none⟩ ∧ b < w.heap.size ∧ ∀ (k : Nat) s, xs[k]? = some s → ReaderAt w b (o + k * 5) s)
theorem ReaderAt.below {w w' : World} {b o : Nat} {s : VReader} (h : ReaderAt w b o s) (hb : Below w.heap.size w w') (hlt : b < w.heap.size) : ReaderAt w' b o s :=
  ⟨(hb.cell (p := ⟨b, o, none⟩) hlt).trans h.1, (hb.cell (p := ⟨b, o + 1, none⟩) hlt).trans h.2.1, (hb.cell (p := ⟨b, o + 2, none⟩) hlt).trans h.2.2.1, (hb.cell (p := ⟨b, o + 3, none⟩) hlt).trans h.2.2.2.1, (hb.cell (p := ⟨b, o + 4, none⟩) hlt).trans h.2.2.2.2.1, h.2.2.2.2.2⟩
theorem ReaderAt.block {w w' : World} {b o : Nat} {s : VReader} (h : ReaderAt w b o s) (hb : w'.heap[b]? = w.heap[b]?) : ReaderAt w' b o s :=
  ⟨(World.cell?_of_block (w := w) (a := ⟨b, o, none⟩) hb).trans h.1, (World.cell?_of_block (w := w) (a := ⟨b, o + 1, none⟩) hb).trans h.2.1, (World.cell?_of_block (w := w) (a := ⟨b, o + 2, none⟩) hb).trans h.2.2.1, (World.cell?_of_block (w := w) (a := ⟨b, o + 3, none⟩) hb).trans h.2.2.2.1, (World.cell?_of_block (w := w) (a := ⟨b, o + 4, none⟩) hb).trans h.2.2.2.2.1, h.2.2.2.2.2⟩
theorem IsReaderS.below {w w' : World} {a : Option Addr} {len cap : Nat} {xs : List VReader} (h : IsReaderS w a len cap xs) (hb : Below w.heap.size w w') : IsReaderS w' a len cap xs := by
  refine ⟨h.1, h.2.1, h.2.2.1, ?_⟩
  rcases h.2.2.2 with h0 | ⟨b, o, rfl, h1, h2⟩
  · exact .inl h0
  · exact .inr ⟨b, o, rfl, Nat.lt_of_lt_of_le h1 hb.size, fun k s hs => (h2 k s hs).below hb h1⟩
theorem IsReaderS.grown {w w' : World} {a : Option Addr} {len cap : Nat} {xs : List VReader} {row : Option Nat} (h : IsReaderS w a len cap xs) (hg : w.grownBy w' row) (hne : ∀ b o, a = some ⟨b, o, none⟩ → some b ≠ row) : IsReaderS w' a len cap xs := by
  refine ⟨h.1, h.2.1, h.2.2.1, ?_⟩
  rcases h.2.2.2 with h0 | ⟨b, o, rfl, h1, h2⟩
  · exact .inl h0
  · exact .inr ⟨b, o, rfl, Nat.lt_of_lt_of_le h1 hg.size, fun k s hs => (h2 k s hs).block (hg.block b h1 (hne b o rfl))⟩
theorem IsReaderS.at {w : World} {a : Option Addr} {len cap : Nat} {xs : List VReader} (h : IsReaderS w a len cap xs) (hpos : 0 < len) : ∃ b o, a = some ⟨b, o, none⟩ ∧ b < w.heap.size ∧ ∀ (k : Nat) s, xs[k]? = some s → ReaderAt w b (o + k * 5) s := by
  rcases h.2.2.2 with h0 | h1
  · omega
  · exact h1
theorem nil_IsReaderS (w : World) : IsReaderS w none 0 0 [] := ⟨rfl, Nat.le_refl _, by simp [maxLen], .inl rfl⟩
def cellsReader (xs : List VReader) : List Value := xs.flatMap VReader.vals
theorem cellsReader_len (xs : List VReader) : (cellsReader xs).length = xs.length * 5 := by
  induction xs with
  | nil => rfl
  | cons x xs ih => simp [cellsReader, VReader.vals_len] at *; omega
theorem cellsReader_append (xs ys : List VReader) : cellsReader (xs ++ ys) = cellsReader xs ++ cellsReader ys := by simp [cellsReader]
theorem cellsReader_snoc (xs : List VReader) (s : VReader) : cellsReader (xs ++ [s]) = cellsReader xs ++ s.vals := by simp [cellsReader]
theorem cellsReader_at {xs : List VReader} {k : Nat} {s : VReader} (h : xs[k]? = some s) (j : Nat) (hj : j < 5) : (cellsReader xs)[k * 5 + j]? = s.vals[j]? := by
  have hk : k < xs.length := (List.getElem?_eq_some_iff.1 h).1
  have e : xs = xs.take k ++ s :: xs.drop (k + 1) := by
    have h2 := List.take_append_drop k xs
    rw [List.drop_eq_getElem_cons hk] at h2
    have : xs[k] = s := by rw [List.getElem?_eq_getElem hk] at h; simpa using h
    rw [this] at h2; exact h2.symm
  have hl : (cellsReader (xs.take k)).length = k * 5 := by rw [cellsReader_len, List.length_take]; omega
  rw [e, show cellsReader (xs.take k ++ s :: xs.drop (k + 1)) = cellsReader (xs.take k) ++ (s.vals ++ cellsReader (xs.drop (k + 1))) from by simp [cellsReader], List.getElem?_append_right (by omega), hl, show k * 5 + j - k * 5 = j from by omega, List.getElem?_append_left (by rw [VReader.vals_len]; exact hj)]
theorem cell_Reader (w : World) (s : VReader) (t : TypeId) : ∀ j u, s.vals[j]? = some u → (w.alloc (.cells #[.int .i64 s.Id, .string s.Name, .int .i64 s.Joined, .int .i64 s.Class, .int .i64 s.Fines] t)).cell? ((⟨w.heap.size, 0, none⟩ : Addr).add j) = some u := by
  intro j u hj
  rw [add_plain, Nat.zero_add, World.cell?_alloc_new]
  simpa [VReader.vals] using hj
theorem cell_Reader2 (w : World) (o : Obj) (s : VReader) (t : TypeId) : ∀ j u, s.vals[j]? = some u → ((w.alloc o).alloc (.cells #[.int .i64 s.Id, .string s.Name, .int .i64 s.Joined, .int .i64 s.Class, .int .i64 s.Fines] t)).cell? ((⟨w.heap.size + 1, 0, none⟩ : Addr).add j) = some u := by
  have h := cell_Reader (w.alloc o) s t
  rw [show (w.alloc o).heap.size = w.heap.size + 1 from by show (w.heap.push o).size = _; simp] at h
  exact h
/-- A slice of them, as what is appended. -/
theorem srcReader {w : World} {a : Option Addr} {len cap : Nat} {xs : List VReader} (h : IsReaderS w a len cap xs) : SrcAt w a len 5 (cellsReader xs) := by
  refine ⟨by rw [cellsReader_len, h.1], ?_⟩
  rcases h.2.2.2 with h0 | ⟨b, o, rfl, hb, hat⟩
  · exact .inl h0
  · refine .inr ⟨_, rfl, fun j u hj => ?_⟩
    rw [add_plain]
    have hl := (List.getElem?_eq_some_iff.1 hj).1
    rw [cellsReader_len] at hl
    obtain ⟨k, r, rfl, hr⟩ : ∃ k r, j = k * 5 + r ∧ r < 5 := ⟨j / 5, j % 5, by omega, Nat.mod_lt _ (by decide)⟩
    have hk : k < xs.length := by omega
    have hs : xs[k]? = some xs[k] := List.getElem?_eq_getElem hk
    have hu := cellsReader_at hs r hr
    rw [hj] at hu
    have ha := hat k _ hs
    rw [← Nat.add_assoc]
    rcases (show r = 0 ∨ r = 1 ∨ r = 2 ∨ r = 3 ∨ r = 4 by omega) with rfl | rfl | rfl | rfl | rfl
    · rw [hu]; exact ha.1
    · rw [hu]; exact ha.2.1
    · rw [hu]; exact ha.2.2.1
    · rw [hu]; exact ha.2.2.2.1
    · rw [hu]; exact ha.2.2.2.2.1
/-- It lies in the box b of some type. -/
def BoxReader (w : World) (b : Nat) (s : VReader) : Prop := w.cell? ⟨b, 0, none⟩ = some (.int .i64 s.Id) ∧ w.cell? ⟨b, 1, none⟩ = some (.string s.Name) ∧ w.cell? ⟨b, 2, none⟩ = some (.int .i64 s.Joined) ∧ w.cell? ⟨b, 3, none⟩ = some (.int .i64 s.Class) ∧ w.cell? ⟨b, 4, none⟩ = some (.int .i64 s.Fines)
theorem BoxReader.new (w : World) (t : TypeId) (s : VReader) (B : Nat) (hB : w.heap.size = B) : BoxReader (w.alloc (.cells #[.int .i64 s.Id, .string s.Name, .int .i64 s.Joined, .int .i64 s.Class, .int .i64 s.Fines] t)) B s := by
  subst hB
  refine ⟨?_, ?_, ?_, ?_, ?_⟩ <;> simp [World.cell?_alloc_new]
theorem BoxReader.lt {w : World} {b : Nat} {s : VReader} (h : BoxReader w b s) : b < w.heap.size := World.lt_of_cell h.1
theorem BoxReader.below {w w' : World} {b : Nat} {s : VReader} (h : BoxReader w b s) (hb : Below w.heap.size w w') : BoxReader w' b s :=
  ⟨(hb.cell (p := ⟨b, 0, none⟩) h.lt).trans h.1, (hb.cell (p := ⟨b, 1, none⟩) h.lt).trans h.2.1, (hb.cell (p := ⟨b, 2, none⟩) h.lt).trans h.2.2.1, (hb.cell (p := ⟨b, 3, none⟩) h.lt).trans h.2.2.2.1, (hb.cell (p := ⟨b, 4, none⟩) h.lt).trans h.2.2.2.2⟩
theorem BoxReader.grown {w w' : World} {b : Nat} {s : VReader} {row : Option Nat} (h : BoxReader w b s) (hg : w.grownBy w' row) (hne : some b ≠ row) : BoxReader w' b s :=
  ⟨(World.cell?_of_block (w := w) (a := ⟨b, 0, none⟩) (hg.block b h.lt hne)).trans h.1, (World.cell?_of_block (w := w) (a := ⟨b, 1, none⟩) (hg.block b h.lt hne)).trans h.2.1, (World.cell?_of_block (w := w) (a := ⟨b, 2, none⟩) (hg.block b h.lt hne)).trans h.2.2.1, (World.cell?_of_block (w := w) (a := ⟨b, 3, none⟩) (hg.block b h.lt hne)).trans h.2.2.2.1, (World.cell?_of_block (w := w) (a := ⟨b, 4, none⟩) (hg.block b h.lt hne)).trans h.2.2.2.2⟩
def zerosReader (n : Nat) : List Value := (List.replicate n [.int .i64 0, .string ByteArray.empty, .int .i64 0, .int .i64 0, .int .i64 0]).flatten
theorem zerosReader_succ (n : Nat) : zerosReader (n + 1) = .int .i64 0 :: .string ByteArray.empty :: .int .i64 0 :: .int .i64 0 :: .int .i64 0 :: zerosReader n := by
  unfold zerosReader; rw [List.replicate_succ]; rfl
theorem zerosReader_len (n : Nat) : (zerosReader n).length = n * 5 := by
  induction n with
  | zero => rfl
  | succ n ih => rw [zerosReader_succ]; simp [ih]; omega
theorem zerosReader_at (n j : Nat) (h : j < n * 5) : (zerosReader n)[j]? = [.int .i64 0, .string ByteArray.empty, .int .i64 0, .int .i64 0, .int .i64 0][j % 5]? := by
  induction n generalizing j with
  | zero => omega
  | succ n ih =>
    rw [zerosReader_succ]
    by_cases hj : j < 5
    · rw [Nat.mod_eq_of_lt hj]
      rcases (show j = 0 ∨ j = 1 ∨ j = 2 ∨ j = 3 ∨ j = 4 by omega) with rfl | rfl | rfl | rfl | rfl <;> rfl
    · obtain ⟨i, rfl⟩ : ∃ i, j = i + 5 := ⟨j - 5, by omega⟩
      rw [Nat.add_mod_right, ← ih i (by omega)]
      rfl
theorem madeReader (n : Nat) : (madeCells (.agg #[.int .i64 0, .string ByteArray.empty, .int .i64 0, .int .i64 0, .int .i64 0] : Value).cells (n * 5)).toList = zerosReader n := by
  apply List.ext_getElem?
  intro j
  rw [Array.getElem?_toList]
  by_cases h : j < n * 5
  · rw [zerosReader_at n j h]
    have hm : j % 5 < 5 := Nat.mod_lt _ (by decide)
    simp only [madeCells, Value.cells]
    rw [Array.getElem?_eq_getElem (by simpa using h)]
    rcases (show j % 5 = 0 ∨ j % 5 = 1 ∨ j % 5 = 2 ∨ j % 5 = 3 ∨ j % 5 = 4 by omega) with e | e | e | e | e <;> simp [e]
  · rw [List.getElem?_eq_none (by rw [zerosReader_len]; omega)]
    simp [madeCells, h]
theorem setReader (A L : List Value) (v0 v1 v2 v3 v4 : Value) (o : Nat) (hA : A.length = o) (hL : o + 5 ≤ L.length) :
    ((((((A ++ L.drop o).set (o) v0).set (o + 1) v1).set (o + 2) v2).set (o + 3) v3).set (o + 4) v4) = A ++ v0 :: v1 :: v2 :: v3 :: v4 :: L.drop (o + 5) := by
  subst hA
  obtain ⟨a0, a1, a2, a3, a4, e⟩ : ∃ a0 a1 a2 a3 a4, L.drop A.length = a0 :: a1 :: a2 :: a3 :: a4 :: L.drop (A.length + 5) := ⟨_, _, _, _, _, by rw [List.drop_eq_getElem_cons (show A.length < L.length by omega), List.drop_eq_getElem_cons (show A.length + 1 < L.length by omega), List.drop_eq_getElem_cons (show A.length + 2 < L.length by omega), List.drop_eq_getElem_cons (show A.length + 3 < L.length by omega), List.drop_eq_getElem_cons (show A.length + 4 < L.length by omega)]⟩
  rw [e]
  generalize L.drop (A.length + 5) = D
  simp [List.set_append_right]
theorem storedReader {w : World} {base n c g o : Nat} {e : TypeId} {size : Nat} {A L : List Value} (h : w.ownsRow base e size (.slice (some ⟨g, 0, none⟩) n c) n (A ++ L.drop o)) (hA : A.length = o) (hL : o + 5 ≤ L.length) (v0 v1 v2 v3 v4 : Value) :
    (((((w.setCell ⟨g, o, none⟩ v0).setCell ⟨g, o + 1, none⟩ v1).setCell ⟨g, o + 2, none⟩ v2).setCell ⟨g, o + 3, none⟩ v3).setCell ⟨g, o + 4, none⟩ v4).ownsRow base e size (.slice (some ⟨g, 0, none⟩) n c) n (A ++ v0 :: v1 :: v2 :: v3 :: v4 :: L.drop (o + 5)) ∧ w.grownBy (((((w.setCell ⟨g, o, none⟩ v0).setCell ⟨g, o + 1, none⟩ v1).setCell ⟨g, o + 2, none⟩ v2).setCell ⟨g, o + 3, none⟩ v3).setCell ⟨g, o + 4, none⟩ v4) (some g) := by
  have h0 := h.stored (o) v0
  have h1 := h0.1.stored (o + 1) v1
  have h2 := h1.1.stored (o + 2) v2
  have h3 := h2.1.stored (o + 3) v3
  have h4 := h3.1.stored (o + 4) v4
  refine ⟨?_, (grown_trans (grown_trans (grown_trans (grown_trans h0.2 h1.2) h2.2) h3.2) h4.2)⟩
  have := h4.1
  rw [setReader A L v0 v1 v2 v3 v4 o hA hL] at this
  exact this
theorem cellsReader_drop (xs : List VReader) (i : Nat) : (cellsReader xs).drop (i * 5) = cellsReader (xs.drop i) := by
  by_cases h : i ≤ xs.length
  · have e : cellsReader xs = cellsReader (xs.take i) ++ cellsReader (xs.drop i) := by
      unfold cellsReader
      rw [← List.flatMap_append, List.take_append_drop]
    have hl : (cellsReader (xs.take i)).length = i * 5 := by rw [cellsReader_len, List.length_take]; omega
    rw [e, List.drop_append_of_le_length (by omega), List.drop_of_length_le (by omega), List.nil_append]
  · rw [List.drop_of_length_le (show xs.length ≤ i by omega), List.drop_of_length_le (by rw [cellsReader_len]; omega)]; rfl
theorem cellsReader_take (xs : List VReader) (i : Nat) : cellsReader xs = cellsReader (xs.take i) ++ (cellsReader xs).drop (i * 5) := by
  rw [cellsReader_drop]
  unfold cellsReader
  rw [← List.flatMap_append, List.take_append_drop]
theorem cellsReader_set (xs : List VReader) (i : Nat) (r : VReader) (h : i < xs.length) : cellsReader (xs.set i r) = cellsReader (xs.take i) ++ (r.vals ++ (cellsReader xs).drop (i * 5 + 5)) := by
  rw [List.set_eq_take_append_cons_drop, if_pos h, show i * 5 + 5 = (i + 1) * 5 by omega, cellsReader_drop]
  simp [cellsReader]
def VReader.sized (s : VReader) : Prop := s.Name.size ≤ 1048576
theorem sized_smallReader (s : VReader) (h : s.sized) : s.small := by unfold VReader.sized at h; unfold VReader.small; unfold maxLen; omega
/-- The marks from b on, and n of them. -/
def markReader (b : Nat) : VReader := ⟨((b : Nat) : Int), markOf (b + 1), ((b + 2 : Nat) : Int), ((b + 3 : Nat) : Int), ((b + 4 : Nat) : Int)⟩
def marksReader (k n : Nat) : List VReader := (List.range n).map fun i => markReader (k + i * 5)
theorem marksReader_len (k n : Nat) : (marksReader k n).length = n := by simp [marksReader]
theorem marksReader_succ (k n : Nat) : marksReader k (n + 1) = marksReader k n ++ [markReader (k + n * 5)] := by simp [marksReader, List.range_succ]
theorem marksReader_at (k n i : Nat) (h : i < n) : (marksReader k n)[i]? = some (markReader (k + i * 5)) := by simp [marksReader, h]
theorem markReader_small (b : Nat) (h : b + 5 ≤ 100000000) : (markReader b).small := markOf_size _ (by omega)
theorem marksReader_small (k n : Nat) (h : k + n * 5 + 5 ≤ 100000000) : ∀ s ∈ marksReader k n, s.small := by
  intro s hs
  obtain ⟨i, hi⟩ := List.getElem?_of_mem hs
  have hlt := (List.getElem?_eq_some_iff.1 hi).1
  rw [marksReader_len] at hlt
  rw [marksReader_at k n i hlt] at hi
  cases hi
  exact markReader_small _ (by have := Nat.mul_le_mul_right 5 (Nat.le_of_lt hlt); omega)
end Go.Proofs.Ytobpgoiaimlonaa
