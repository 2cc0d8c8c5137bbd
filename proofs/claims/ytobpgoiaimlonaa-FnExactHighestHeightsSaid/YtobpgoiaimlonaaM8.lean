/- Texts in one: Ci6, Ci7, Ci8. -/
import Derived.Test.YtobpgoiaimlonaaM7
import Derived.Test.YtobpgoiaimlonaaM5
import Derived.StillTailTactics
import Derived.Deep.DeepCutAuto
import Derived.Test.YtobpgoiaimlonaaM6
namespace Go.Proofs.Ytobpgoiaimlonaa
open Go.RowKit

/-- The table whose first rows are made. -/
def partB (n k : Nat) : List (List Int) := (baseM n).take k ++ List.replicate (n - k) []
theorem partB_zero (n : Nat) : partB n 0 = List.replicate n [] := by simp [partB]
theorem partB_all (n : Nat) : partB n n = baseM n := by
  unfold partB
  rw [Nat.sub_self, List.replicate_zero, List.append_nil, List.take_of_length_le (by rw [(baseM_sq n).1]; exact Nat.le_refl _)]
theorem partB_step {n k : Nat} (hk : k < n) : (partB n k).set k ((List.replicate n 99990).set k 0) = partB n (k + 1) := by
  unfold partB
  have hl : ((baseM n).take k).length = k := by rw [List.length_take, (baseM_sq n).1]; omega
  rw [List.set_append_right _ _ (by omega), hl, Nat.sub_self, show n - k = (n - (k + 1)) + 1 from by omega, List.replicate_succ, List.set_cons_zero, List.take_add_one, baseM_row hk]
  simp
theorem initT_sq {n : Nat} {xs : List VClaim} (hc : areCl (n : Int) xs = true) (t : Nat) : SqM n ((clE (xs.take t)).foldl relaxM (baseM n)) := by
  have hf : FitM (clE (xs.take t)) n 9999 := fun u v w he => by
    obtain ⟨x, hx, hh⟩ := mem_clE.1 he
    exact areCl_fit hc u v w (mem_clE.2 ⟨x, List.mem_of_mem_take hx, hh⟩)
  exact (initM_facts (Int.le_refl _) _ hf (baseM n) (baseM_sq n) (fun i hi => by rw [baseM_at hi hi, if_pos rfl]) (fun i j hi hj => by rw [baseM_at hi hj]; split <;> omega)).1
/-- The table, the claim's box, and the world below as it was. -/
def TabBox (w : World) (hb k : Nat) (D : List (List Int)) (x : VClaim) (wx : World) : Prop :=
  MatIn w.heap.size hb wx w.heap.size k D ∧ Below w.heap.size w wx ∧ BoxClaim wx hb x
theorem take_relax {xs : List VClaim} {t : Nat} {x : VClaim} (h : xs[t]? = some x) (D : List (List Int)) : (clE (xs.take (t + 1))).foldl relaxM D = relaxM (relaxM ((clE (xs.take t)).foldl relaxM D) (x.Low.toNat, x.High.toNat, x.Most)) (x.High.toNat, x.Low.toNat, -x.Least) := by
  rw [List.take_add_one, h]
  simp [clE]
set_option maxHeartbeats 12800000 in
set_option maxRecDepth 100000 in
theorem claimedRises_any (n : Nat) (a : Option Addr) (len cap : Nat) (xs : List VClaim) (w : World) (h : IsClaimS w a len cap xs) (hc : areCl (n : Int) xs = true) :
    Calls Try.prog 89 #[.int .i64 (n : Int), .slice a len cap] w fun e w' => e = .returned (.slice (some ⟨w.heap.size, 0, none⟩) n n) ∧ MatIn w.heap.size w'.heap.size w' w.heap.size n (initM n (clE xs)) ∧ Below w.heap.size w w' := by
  have hm := h.2.2.1
  have hcl := h.2.1
  unfold maxLen at hm
  obtain rfl := h.1
  obtain ⟨i0, hi, hz0, hz1, hz2⟩ := info_parts infoIntS
  have hn := (areCl_iff.1 hc).2.1
  have S := Lib.hid h
  have C := Lib.hid hc
  have hn1 : 1 ≤ n := by omega
  have hn2 : n ≤ 10 := by omega
  clear h hc hn
  go_enter Try.func89, Try.ntmps89
  go_wp2_with (refine wpList_make_full _ rfl _ _ 88 rfl w.heap.size 25 i0 (.slice none 0 0) 1 Try.underlying88 hi hz0 hz1 .i64 .i64 _ _ n rfl rfl rfl rfl (by rw [hz2]; omega) (by unfold maxLen; omega) (Nat.le_refl _) ?_; intro w1 hown hgrow; have B1 := Lib.hid ((Below.refl w.heap.size w).grown hgrow (Nat.le_refl _) (fun k e => by cases e)); have O1 := Lib.hid hown; clear hown hgrow)
  have M1 := Lib.hid (show MatIn w.heap.size w1.heap.size w1 w.heap.size n (partB n 0) from by
    have h := O1.out
    rw [Nat.mul_one, madeIntS] at h
    rw [partB_zero]
    exact MatIn.made h (h.lt w.heap.size rfl).2)
  clear O1
  go_loopw [12] (fun i wr => ∃ k : Nat, k ≤ n ∧ i = .int .i64 k ∧ MatIn w.heap.size wr.heap.size wr w.heap.size n (partB n k) ∧ Below w.heap.size w wr) (fun i _ => n - (intOf i).toNat)
  case atStart => exact ⟨0, Nat.zero_le _, rfl, M1.out, B1.out⟩
  case round =>
    obtain ⟨k, hk, rfl, hmat, hbel⟩ := hrel
    have M := Lib.hid hmat
    have B := Lib.hid hbel
    by_cases hlt : k < n
    · have hlt2 : (k : Int) < (n : Int) := by omega
      have hk0 : (0 : Int) ≤ (k : Int) := by omega
      have LB := Lib.hid (cell_box wr (.int .i64 99990) 3 _ rfl)
      clear hmat hbel
      go_wp2_with fail
      refine (repeat_any 99990 n wr.heap.size _ hn1 hn2 LB.out).mono ?_
      rintro e w2 ⟨rfl, hrow, hb⟩
      have hsz : (wr.alloc (.cells #[.int .i64 99990] 3)).heap.size = wr.heap.size + 1 := size_al _ _
      rw [hsz] at hrow
      have hba := Below.then' (bel_al1 wr (.cells #[.int .i64 99990] 3)) hb
      have M2 := M.out.below hba
      have lay := M2.lay hlt (hi2 := w2.heap.size) (ownsRow_base hrow (Nat.le_succ _)) hba.size (Nat.le_refl _) (by simp) hn1
      obtain ⟨u0, c0⟩ := M2.there hlt
      have f0 := M2.free k
      obtain ⟨⟨u1, c1⟩, f1, m1, g1⟩ := lay.2.2 k 0 hlt
      rw [partB_step hlt] at m1
      have e0 := World.cell?_setCell_same' w2 ⟨w.heap.size, k, none⟩ (.slice (some ⟨wr.heap.size + 1, 0, none⟩) n n) (by rw [c0]; rfl)
      have B2 := Lib.hid (Below.then' B.out hba)
      have B3 := Lib.hid (B2.out.grown lay.2.1 B2.out.size (fun j e => by cases e; exact Nat.le_refl _))
      have hg1 := (hrow.lt _ rfl).1
      have hs2 := B.out.size
      have B4 := Lib.hid (B3.out.grown g1 B3.out.size (fun j e => by cases e; omega))
      have M4 := Lib.hid m1
      have G1 := Lib.hid g1
      have HS := Lib.hid lay.2.1.size
      rw [hsz]
      clear hrow hba M2 lay m1 g1 hb
      go_wp2
      go_roundw
      case rel => exact ⟨k + 1, by omega, by go_num, M4.out.mono (Nat.le_refl _) (by have := HS.out; have := G1.out.size; omega), B4.out⟩
      case measure => simp [intOf]; omega
    · obtain rfl : k = n := by omega
      rw [partB_all] at hmat
      have M := Lib.hid hmat
      have B := Lib.hid hbel
      clear hmat hbel M1 B1
      rename World => w3
      go_wp2
      go_loopw [30, 8] (fun i _ wr => ∃ t : Nat, t ≤ xs.length ∧ i = .int .i64 t ∧ MatIn w.heap.size wr.heap.size wr w.heap.size k ((clE (xs.take t)).foldl relaxM (baseM k)) ∧ Below w.heap.size w wr) (fun i _ _ => xs.length - (intOf i).toNat)
      case atStart => exact ⟨0, Nat.zero_le _, rfl, M.out, B.out⟩
      case round =>
        obtain ⟨t, ht, rfl, hmat, hbel⟩ := hrel
        have M := Lib.hid hmat
        have B := Lib.hid hbel
        by_cases hlt2 : t < xs.length
        · obtain ⟨x, hx⟩ : ∃ x, xs[t]? = some x := ⟨xs[t]'hlt2, List.getElem?_eq_getElem _⟩
          obtain ⟨b, o, rfl, hbw, hat⟩ := (S.out.below hbel).at (by omega)
          obtain ⟨c0, c1, c2, c3⟩ := hat t x hx
          have hcl := clB_iff.1 ((areCl_iff.1 C.out).1 x (List.mem_of_getElem? hx))
          have SQ := Lib.hid (initT_sq C.out t)
          have TKx := take_relax hx (baseM k)
          obtain ⟨xl, xh, le, mo⟩ := x
          simp only [] at c0 c1 c2 c3 hcl TKx
          obtain ⟨lo, rfl⟩ : ∃ lo : Nat, xl = (lo : Int) := ⟨xl.toNat, by omega⟩
          obtain ⟨hi', rfl⟩ : ∃ hi : Nat, xh = (hi : Int) := ⟨xh.toNat, by omega⟩
          rw [Int.toNat_natCast, Int.toNat_natCast] at TKx
          have TK := Lib.hid TKx
          have b1 : lo < k := by omega
          have b2 : hi' < k := by omega
          have b5 : ¬ lo = hi' := by omega
          have b4 : -9999 ≤ le ∧ le ≤ 9999 := by omega
          have i1 : (0 : Int) ≤ (lo : Int) := by omega
          have i2 : (lo : Int) < (k : Int) := by omega
          have i3 : (0 : Int) ≤ (hi' : Int) := by omega
          have i4 : (hi' : Int) < (k : Int) := by omega
          have i5 : (0 : Int) ≤ (t : Int) := by omega
          have i6 : (t : Int) < (xs.length : Int) := by omega
          have hv1 : IntKind.i64.wrap (-le) = -le := IntWalk.i64_in _ (by omega)
          obtain ⟨D, hD⟩ : ∃ D, (clE (xs.take t)).foldl relaxM (baseM k) = D := ⟨_, rfl⟩
          rw [hD] at M SQ TK
          have ba := bel_al1 wr (.cells #[.int .i64 (lo : Int), .int .i64 (hi' : Int), .int .i64 le, .int .i64 mo] 38)
          have XA := BoxClaim.new wr 38 ⟨(lo : Int), (hi' : Int), le, mo⟩ _ rfl
          have MA := M.out.below ba
          have BA := Below.then' hbel ba
          have HBX := Lib.hid (show w.heap.size < wr.heap.size from M.out.head.2.2.1)
          clear hmat hbel hx hat hcl TKx hD ba
          go_wp2
          refine wp_world (fun W => TabBox w wr.heap.size k D ⟨(lo : Int), (hi' : Int), le, mo⟩ W) ⟨MA, BA, XA⟩ ?_
          clear MA BA XA c0 c1 c2 c3
          rintro W0 ht0
          have T0 := Lib.hid ht0
          have SQ0 := SQ
          clear ht0 SQ
          go_upto_region 11 with (fail)
          go_cut [53] (fun _ wx => TabBox w wr.heap.size k (relaxM D (lo, hi', mo)) ⟨(lo : Int), (hi' : Int), le, mo⟩ wx)
          case first =>
            obtain ⟨r, hr, hrl, _⟩ := SQ0.out.row (show lo < k by omega)
            obtain ⟨rb, rc, e0, rne, rlt, rcap, rcell, rfree, rst, _⟩ := T0.out.1.row hr (by omega)
            rw [hrl] at e0 rcap
            obtain ⟨z, hz⟩ : ∃ z, gI r hi' = z := ⟨_, rfl⟩
            have z0 := rcell hi' z (by rw [← hz]; exact gI_at (by omega))
            have f0 := rfree hi'
            obtain ⟨c0, c1, c2, c3⟩ := T0.out.2.2
            simp only [] at c0 c1 c2 c3
            have n1 : ¬ wr.heap.size = rb := by omega
            have n2 : ¬ wr.heap.size = w.heap.size := by have := HBX.out; omega
            have n3 : ¬ rb = w.heap.size := rne
            have ST := Lib.hid (show ∀ q : Int, q = min z (mo) → TabBox w wr.heap.size k (relaxM D (lo, hi', mo)) ⟨(lo : Int), (hi' : Int), le, mo⟩ ((W0.setCell ⟨rb, hi', none⟩ (.int .i64 q)).drew) from fun q hq => by
              subst hq
              have s := rst hi' (min z (mo))
              refine ⟨?_, bel_drew' (T0.out.2.1.grown s.2 T0.out.2.1.size (fun j e => by cases e; exact rlt.1)), (show BoxClaim (W0.setCell ⟨rb, hi', none⟩ (.int .i64 (min z (mo)))) wr.heap.size ⟨(lo : Int), (hi' : Int), le, mo⟩ from T0.out.2.2.grown s.2 (by simp only [ne_eq, Option.some.injEq]; exact n1))⟩
              have e1 : relaxM D (lo, hi', mo) = D.set lo (r.set hi' (min z (mo))) := by
                unfold relaxM; simp only []
                rw [List.getD_eq_getElem?_getD, hr, gM_some hr, hz]; rfl
              rw [e1]
              exact s.1.same rfl)
            clear rcell rfree rst hr hrl rcap hz rlt
            go_still_tail 20, (by kernel_rfl)
            change wpList _ _ _ _ _ W0.drew
            go_wp2
            all_goals go_meet
            all_goals exact ST.out _ (by omega)
          case rest =>
          have SQ1' := relaxM_sq (e := (lo, hi', mo)) SQ0.out (show lo < k by omega)
          obtain ⟨D1, hD1⟩ : ∃ Dn, relaxM D (lo, hi', mo) = Dn := ⟨_, rfl⟩
          rw [hD1] at hcut SQ1'
          have HD1 := Lib.hid hD1
          have SQ1 := Lib.hid SQ1'
          have T1 := Lib.hid hcut
          clear hcut SQ1' hD1
          rename World => W1
          obtain ⟨r, hr, hrl, _⟩ := SQ1.out.row (show hi' < k by omega)
          obtain ⟨rb, rc, e0, rne, rlt, rcap, rcell, rfree, rst, _⟩ := T1.out.1.row hr (by omega)
          rw [hrl] at e0 rcap
          obtain ⟨z, hz⟩ : ∃ z, gI r lo = z := ⟨_, rfl⟩
          have z0 := rcell lo z (by rw [← hz]; exact gI_at (by omega))
          have f0 := rfree lo
          obtain ⟨c0, c1, c2, c3⟩ := T1.out.2.2
          simp only [] at c0 c1 c2 c3
          have n1 : ¬ wr.heap.size = rb := by omega
          have n2 : ¬ wr.heap.size = w.heap.size := by have := HBX.out; omega
          have n3 : ¬ rb = w.heap.size := rne
          have ST := Lib.hid (show ∀ q : Int, q = min z (-le) → TabBox w wr.heap.size k (relaxM D1 (hi', lo, -le)) ⟨(lo : Int), (hi' : Int), le, mo⟩ ((W1.setCell ⟨rb, lo, none⟩ (.int .i64 q)).drew) from fun q hq => by
            subst hq
            have s := rst lo (min z (-le))
            refine ⟨?_, bel_drew' (T1.out.2.1.grown s.2 T1.out.2.1.size (fun j e => by cases e; exact rlt.1)), (show BoxClaim (W1.setCell ⟨rb, lo, none⟩ (.int .i64 (min z (-le)))) wr.heap.size ⟨(lo : Int), (hi' : Int), le, mo⟩ from T1.out.2.2.grown s.2 (by simp only [ne_eq, Option.some.injEq]; exact n1))⟩
            have e1 : relaxM D1 (hi', lo, -le) = D1.set hi' (r.set lo (min z (-le))) := by
              unfold relaxM; simp only []
              rw [List.getD_eq_getElem?_getD, hr, gM_some hr, hz]; rfl
            rw [e1]
            exact s.1.same rfl)
          clear rcell rfree rst hr hrl rcap hz rlt
          go_wp2
          go_still_tail 21, (by kernel_rfl)
          change wpList _ _ _ _ _ W1.drew
          go_wp2
          all_goals go_roundw
          all_goals first
            | exact ⟨t + 1, by omega, by go_num, by rw [TK.out, HD1.out]; exact (ST.out _ (by omega)).1.mono (Nat.le_refl _) (Nat.le_of_lt (ST.out _ (by omega)).2.2.lt), (ST.out _ (by omega)).2.1⟩
            | (simp [intOf]; omega)
        · obtain rfl : t = xs.length := by omega
          have E := Lib.hid (show (clE (xs.take xs.length)).foldl relaxM (baseM k) = initM k (clE xs) from by rw [List.take_of_length_le (Nat.le_refl _)]; rfl)
          rw [E.out] at M
          clear hmat hbel
          go_wp2
          go_ret
          exact ⟨rfl, M.out, B.out⟩
end Go.Proofs.Ytobpgoiaimlonaa
namespace Go.Proofs.Ytobpgoiaimlonaa
open Go.RowKit

/-- The table behind the rounds of the marks below v. -/
structure RiseTo (n : Nat) (E : List Edge) (v : Nat) (D : List (List Int)) : Prop where
  tab : Tab n v D
  closed : ClosedTo n v D
  le : ∀ i j, i < n → j < n → gM D i j ≤ gM (initM n E) i j
  pot : ∀ g, PotM n (initM n E) g → PotM n D g
theorem RiseTo.start {n : Nat} {E : List Edge} (hf : FitM E n 9999) : RiseTo n E 0 (initM n E) :=
  ⟨(initM_tab hf).1, fun i j k _ _ hk => by omega, fun i j _ _ => Int.le_refl _, fun _ h => h⟩
theorem RiseTo.end {n : Nat} {E : List Edge} {D : List (List Int)} (h : RiseTo n E n D) : RiseM n E D := ⟨h.tab, h.closed, h.le, h.pot⟩
theorem RiseTo.next {n v : Nat} {E : List Edge} {D X : List (List Int)} (h : RiseTo n E v D) (hp : PartM n v n 0 D X) (hv : v < n) (hok : ∀ i, i < n → 0 ≤ gM X i i) : RiseTo n E (v + 1) X :=
  ⟨hp.done h.tab hv hok, hp.closed h.tab hv h.closed, fun i j hi hj => Int.le_trans (hp.le hi hj) (h.le i j hi hj), fun g hg => hp.pot hv (h.pot g hg)⟩
theorem pow_bd {s : Nat} (h : s ≤ 10) : (1 : Int) ≤ 2 ^ s ∧ (2 : Int) ^ s ≤ 1024 := by
  have : s = 0 ∨ s = 1 ∨ s = 2 ∨ s = 3 ∨ s = 4 ∨ s = 5 ∨ s = 6 ∨ s = 7 ∨ s = 8 ∨ s = 9 ∨ s = 10 := by omega
  rcases this with rfl | rfl | rfl | rfl | rfl | rfl | rfl | rfl | rfl | rfl | rfl <;> decide
theorem part_bd {n v f t : Nat} {D X : List (List Int)} (h : PartM n v f t D X) (T : Tab n v D) (hv : v < n) (hn : n ≤ 10) {i j : Nat} (hi : i < n) (hj : j < n) : -200000000 ≤ gM X i j ∧ gM X i j ≤ 99990 := by
  have h1 := h.lo T hv hi hj
  have h2 := pow_bd (show v + 1 ≤ 10 by omega)
  omega
/-- What greatestRises leaves. -/
def RisePost (n : Nat) (xs : List VClaim) (w : World) (e : Ending) (w' : World) : Prop :=
  ∃ v, e = .returned (.tuple #[v, .bool (soundB n xs)]) ∧ (soundB n xs = true → ∃ D g, v = .slice (some ⟨g, 0, none⟩) n n ∧ RiseM n (clE xs) D ∧ MatIn w.heap.size w'.heap.size w' g n D) ∧ (soundB n xs = false → v = .slice none 0 0) ∧ Below w.heap.size w w'
/-- The slice of a row, still in its place. -/
def RowAt (w : World) (g f n rb rc : Nat) : Prop := w.cell? ⟨g, f, none⟩ = some (.slice (some ⟨rb, 0, none⟩) n rc)
set_option maxHeartbeats 25600000 in
set_option maxRecDepth 100000 in
theorem greatestRises_any (n : Nat) (a : Option Addr) (len cap : Nat) (xs : List VClaim) (w : World) (h : IsClaimS w a len cap xs) (hc : areCl (n : Int) xs = true) :
    Calls Try.prog 77 #[.int .i64 (n : Int), .slice a len cap] w (RisePost n xs w) := by
  have hn := (areCl_iff.1 hc).2.1
  have hn1 : 1 ≤ n := by omega
  have hn2 : n ≤ 10 := by omega
  have S := Lib.hid h
  have C := Lib.hid hc
  have FT := Lib.hid (areCl_fit hc)
  clear h hc hn
  go_enter Try.func77, Try.ntmps77
  go_wp2_with fail
  refine (claimedRises_any n _ _ _ xs _ S.out C.out).mono ?_
  rintro e w1 ⟨rfl, hmat, hb⟩
  have M1 := Lib.hid hmat
  have B1 := Lib.hid hb
  clear hmat hb
  go_wp2
  go_loopw [15] (fun i wr => ∃ (v : Nat) (D : List (List Int)), v ≤ n ∧ i = .int .i64 v ∧ RiseTo n (clE xs) v D ∧ MatIn w.heap.size wr.heap.size wr w.heap.size n D ∧ Below w.heap.size w wr) (fun i _ => n - (intOf i).toNat)
  case atStart => exact ⟨0, _, Nat.zero_le _, rfl, RiseTo.start FT.out, M1.out, B1.out⟩
  case round =>
    obtain ⟨v, D, hv, rfl, hrt, hmat, hbel⟩ := hrel
    have RT := Lib.hid hrt
    have M := Lib.hid hmat
    have B := Lib.hid hbel
    clear hrt hmat hbel
    by_cases hvn : v < n
    · have hv1 : (v : Int) < (n : Int) := by omega
      have hv0 : (0 : Int) ≤ (v : Int) := by omega
      have P0 := Lib.hid (PartM.start (v := v) RT.out.tab.sq)
      have DG := Lib.hid (RT.out.tab.diag v hvn)
      go_wp2
      rename World => wa
      go_loopw [20] (fun i wr => ∃ (f : Nat) (X : List (List Int)), f ≤ n ∧ i = .int .i64 f ∧ PartM n v f 0 D X ∧ (∀ i, i < f → 0 ≤ gM X i i) ∧ MatIn w.heap.size wr.heap.size wr w.heap.size n X ∧ Below w.heap.size w wr) (fun i _ => n - (intOf i).toNat)
      case atStart => exact ⟨0, D, Nat.zero_le _, rfl, P0.out, fun i hi => by omega, M.out, B.out⟩
      case round =>
        obtain ⟨f, X, hf, rfl, hpart, hdia, hmat, hbel⟩ := hrel
        have P := Lib.hid hpart
        have DI := Lib.hid hdia
        have MX := Lib.hid hmat
        have BX := Lib.hid hbel
        clear hpart hdia hmat hbel
        by_cases hfn : f < n
        · have hf1 : (f : Int) < (n : Int) := by omega
          have hf0 : (0 : Int) ≤ (f : Int) := by omega
          obtain ⟨r, hr, hrl, _⟩ := P.out.1.row hfn
          obtain ⟨rb, rc, e0, _, _, rcap, _, _, _, _⟩ := MX.out.row hr (by omega)
          rw [hrl] at e0 rcap
          have RA := Lib.hid (show RowAt wr w.heap.size f n rb rc from e0)
          have rc1 := rcap.1
          have rc2 := rcap.2
          unfold maxLen at rc2
          clear hr hrl rcap
          go_wp2
          clear e0
          rename World => wb
          go_loopw [26] (fun i wr => ∃ (t : Nat) (X : List (List Int)), t ≤ n ∧ i = .int .i64 t ∧ PartM n v f t D X ∧ (∀ i, i < f → 0 ≤ gM X i i) ∧ RowAt wr w.heap.size f n rb rc ∧ MatIn w.heap.size wr.heap.size wr w.heap.size n X ∧ Below w.heap.size w wr) (fun i _ => n - (intOf i).toNat)
          case atStart => exact ⟨0, X, Nat.zero_le _, rfl, P.out, DI.out, RA.out, MX.out, BX.out⟩
          case round =>
            obtain ⟨t, X, ht, rfl, hpart, hdia, hra, hmat, hbel⟩ := hrel
            have P := Lib.hid hpart
            have DI := Lib.hid hdia
            have RA := Lib.hid hra
            have MX := Lib.hid hmat
            have BX := Lib.hid hbel
            clear hpart hdia hra hmat hbel
            obtain ⟨r, hr, hrl, _⟩ := P.out.1.row hfn
            obtain ⟨rb', rc', e0, rne, rlt, _, rcell, rfree, rst, _⟩ := MX.out.row hr (by omega)
            rw [hrl] at e0
            obtain ⟨rfl, rfl⟩ : rb' = rb ∧ rc' = rc := by
              have := e0.symm.trans RA.out
              simp only [Option.some.injEq, Value.slice.injEq, Addr.mk.injEq, and_true, true_and] at this
              exact this
            by_cases htn : t < n
            · have ht1 : (t : Int) < (n : Int) := by omega
              have ht0 : (0 : Int) ≤ (t : Int) := by omega
              obtain ⟨r2, hr2, hrl2, _⟩ := P.out.1.row hvn
              obtain ⟨vb, vc, eV, _, _, vcap, vcell, _, _, _⟩ := MX.out.row hr2 (by omega)
              rw [hrl2] at eV vcap
              have vc1 := vcap.1
              have vc2 := vcap.2
              unfold maxLen at vc2
              have bd1 := part_bd P.out RT.out.tab hvn hn2 hfn hvn
              have bd2 := part_bd P.out RT.out.tab hvn hn2 hvn htn
              obtain ⟨p1, hp1⟩ : ∃ z, gI r t = z := ⟨_, rfl⟩
              obtain ⟨p2, hp2⟩ : ∃ z, gI r v = z := ⟨_, rfl⟩
              obtain ⟨p3, hp3⟩ : ∃ z, gM X v t = z := ⟨_, rfl⟩
              rw [gM_some hr, hp2] at bd1
              rw [hp3] at bd2
              have z1 := rcell t p1 (by rw [← hp1]; exact gI_at (by omega))
              have z2 := rcell v p2 (by rw [← hp2]; exact gI_at (by omega))
              have z3 := vcell t p3 (by rw [← hp3, gM_some hr2]; exact gI_at (by omega))
              have f0 := rfree t
              have hw1 : IntKind.i64.wrap (p2 + p3) = p2 + p3 := IntWalk.i64_in _ (by omega)
              have n3 : ¬ rb' = w.heap.size := rne
              have ST := Lib.hid (show ∀ q : Int, q = min p1 (p2 + p3) → PartM n v f (t + 1) D (X.set f (r.set t q)) ∧ (∀ i, i < f → 0 ≤ gM (X.set f (r.set t q)) i i) ∧ RowAt ((wr.setCell ⟨rb', t, none⟩ (.int .i64 q)).drew) w.heap.size f n rb' rc' ∧ MatIn w.heap.size ((wr.setCell ⟨rb', t, none⟩ (.int .i64 q)).drew).heap.size ((wr.setCell ⟨rb', t, none⟩ (.int .i64 q)).drew) w.heap.size n (X.set f (r.set t q)) ∧ Below w.heap.size w ((wr.setCell ⟨rb', t, none⟩ (.int .i64 q)).drew) from fun q hq => by
                subst hq
                have s := rst t (min p1 (p2 + p3))
                have hs := P.out.step DG.out hvn hfn htn hr
                rw [hp1, hp2, hp3] at hs
                refine ⟨hs, fun i hi => ?_, ?_, (s.1.same rfl).mono (Nat.le_refl _) s.2.size, bel_drew' (BX.out.grown s.2 BX.out.size (fun j e => by cases e; exact rlt.1))⟩
                · rw [gM_set _ _ _ _ _ (by rw [P.out.1.1]; exact hfn), if_neg (by omega)]
                  exact DI.out i hi
                · exact (World.cell?_of_block (a := ⟨w.heap.size, f, none⟩) (s.2.block w.heap.size MX.out.head.2.2.2.1 (fun e => by have := Option.some.inj e; omega))).trans RA.out)
              clear rcell rfree rst vcell vcap hr hr2 hp1 hp2 hp3 hrl hrl2 bd1 bd2 rlt e0
              go_wp2
              go_still_tail 20, (by kernel_rfl)
              change wpList _ _ _ _ _ wr.drew
              go_wp2
              all_goals go_roundw
              all_goals first
                | exact ⟨t + 1, _, by omega, by go_num, ST.out _ (by omega)⟩
                | (simp [intOf]; omega)
            · obtain rfl : t = n := by omega
              obtain ⟨y, hy⟩ : ∃ y, gI r f = y := ⟨_, rfl⟩
              have z1 := rcell f y (by rw [← hy]; exact gI_at (by omega))
              have GY := Lib.hid (show gM X f f = y from by rw [gM_some hr, hy])
              clear rcell rfree rst hr hy rlt e0
              by_cases hneg : y < 0
              · have NO := Lib.hid (no_sound FT.out hn2 (fun g hg => P.out.pot hvn (RT.out.pot g hg)) hfn (by rw [GY.out]; exact hneg))
                go_wp2
                first | go_ret2 | (rw [Exit.noGoto_ret]; go_ret2)
                exact ⟨_, by rw [show soundB t xs = false from NO.out]; rfl, fun h => (by rw [show soundB t xs = false from NO.out] at h; cases h), fun _ => rfl, BX.out⟩
              · have DI2 := Lib.hid (show ∀ i, i < f + 1 → 0 ≤ gM X i i from fun i hi => by
                  by_cases e : i = f
                  · subst e; rw [GY.out]; omega
                  · exact DI.out i (by omega))
                go_wp2
                go_roundw
                case rel => exact ⟨f + 1, X, by omega, by go_num, P.out.next, DI2.out, MX.out, BX.out⟩
                case measure => simp [intOf]; omega
        · obtain rfl : f = n := by omega
          go_wp2
          go_roundw
          case rel => exact ⟨v + 1, X, by omega, by go_num, RT.out.next P.out hvn DI.out, MX.out, BX.out⟩
          case measure => simp [intOf]; omega
    · obtain rfl : v = n := by omega
      have SO := Lib.hid (rise_sound C.out RT.out.end)
      go_wp2
      go_ret2
      exact ⟨_, by rw [SO.out]; rfl, fun _ => ⟨D, w.heap.size, rfl, RT.out.end, M.out⟩, fun h => (by rw [SO.out] at h; cases h), B.out⟩
end Go.Proofs.Ytobpgoiaimlonaa
namespace Go.Proofs.Ytobpgoiaimlonaa
open Go.RowKit

set_option maxHeartbeats 3200000 in
theorem implAreSoundClaims_any (n : Int) (a : Option Addr) (len cap : Nat) (xs : List VClaim) (w : World) (h : IsClaimS w a len cap xs) :
    Calls Try.prog 37 #[.int .i64 n, .slice a len cap] w (AreSoundClaims_Post n xs w) := by
  have S := Lib.hid h
  clear h
  obtain ⟨p, hp⟩ : ∃ p, areCl n xs = p := ⟨_, rfl⟩
  have PP := Lib.hid hp
  have E1 := Lib.hid (show AreSoundClaims_1 n xs = p from hp)
  have E0 := Lib.hid (show AreSoundClaims_0 n xs = (p && soundB n.toNat xs) from by unfold AreSoundClaims_0; rw [hp])
  clear hp
  go_enter Try.func37, Try.ntmps37
  go_wp2_with fail
  refine (implAreClaims_any n _ _ _ xs _ S.out).mono ?_
  rintro e w1 ⟨rfl, hb⟩
  rw [show AreClaims_0 n xs = p from PP.out]
  have B1 := Lib.hid hb
  have S1 := Lib.hid (S.out.below hb)
  clear hb
  cases p
  · go_wp2
    go_ret2
    exact ⟨by rw [E0.out, E1.out]; rfl, B1.out⟩
  obtain ⟨j, rfl, _, _⟩ := areCl_nat PP.out
  rw [Int.toNat_natCast] at E0
  go_wp2_with fail
  refine (greatestRises_any j _ _ _ xs _ S1.out PP.out).mono ?_
  rintro e w2 ⟨v, rfl, _, _, hb⟩
  obtain ⟨q, hq⟩ : ∃ q, soundB j xs = q := ⟨_, rfl⟩
  rw [hq] at E0 ⊢
  have B2 := Lib.hid (Below.then' B1.out hb)
  clear hb hq
  go_wp2
  go_ret2
  exact ⟨by rw [E0.out, E1.out]; rfl, B2.out⟩
theorem told_partsP {n : Nat} {xs : List VClaim} (h : toldB (n : Int) xs = true) : areCl (n : Int) xs = true ∧ (tiedL n (prsC xs) 0).length = n ∧ soundB n xs = true := by
  unfold toldB at h
  simp only [Bool.and_eq_true, decide_eq_true_eq, Int.toNat_natCast] at h
  exact ⟨h.1, by have := h.2.1; omega, h.2.2⟩
/-- What toldRises leaves. -/
def ToldPost (n : Int) (xs : List VClaim) (w : World) (e : Ending) (w' : World) : Prop :=
  ∃ v, e = .returned (.tuple #[v, .bool (toldB n xs)]) ∧ (toldB n xs = true → ∃ (D : List (List Int)) (g : Nat), v = .slice (some ⟨g, 0, none⟩) n.toNat n.toNat ∧ RiseM n.toNat (clE xs) D ∧ MatIn w.heap.size w'.heap.size w' g n.toNat D) ∧ (toldB n xs = false → v = .slice none 0 0) ∧ Below w.heap.size w w'
set_option maxHeartbeats 3200000 in
theorem toldRises_any (n : Int) (a : Option Addr) (len cap : Nat) (xs : List VClaim) (w : World) (h : IsClaimS w a len cap xs) :
    Calls Try.prog 80 #[.int .i64 n, .slice a len cap] w (ToldPost n xs w) := by
  have S := Lib.hid h
  clear h
  obtain ⟨p, hp⟩ : ∃ p, tieB n xs 0 = p := ⟨_, rfl⟩
  have PP := Lib.hid hp
  have T1 := Lib.hid (show TiedMarks_1 n xs 0 = p from hp)
  clear hp
  go_enter Try.func80, Try.ntmps80
  go_wp2_with fail
  refine (implTiedMarks_any n _ _ _ xs 0 _ S.out).mono ?_
  rintro e w1 ⟨v, rfl, hown, hb⟩
  rw [T1.out]
  have B1 := Lib.hid hb
  have S1 := Lib.hid (S.out.below hb)
  obtain ⟨va, vc, rfl⟩ := hown.form
  clear hown hb
  cases p
  · have TN := Lib.hid (show toldB n xs = false from by
      have h := PP.out
      unfold tieB at h
      unfold toldB
      cases ha : areCl n xs with
      | false => rfl
      | true =>
        rw [ha] at h
        have hn := (areCl_iff.1 ha).2.1
        rw [decide_eq_true (show (0 : Int) ≤ 0 by omega), decide_eq_true (show (0 : Int) < n by omega)] at h
        cases h)
    go_wp2
    go_ret2
    exact ⟨_, by rw [TN.out]; rfl, fun h => (by rw [TN.out] at h; cases h), fun _ => rfl, B1.out⟩
  have AC : areCl n xs = true := by have h := PP.out; unfold tieB at h; simp only [Bool.and_eq_true] at h; exact h.1
  obtain ⟨j, rfl, _, _⟩ := areCl_nat AC
  have AC2 := Lib.hid AC
  have TL := Lib.hid (show TiedMarks_0 (j : Int) xs 0 = tiedL j (prsC xs) 0 from by unfold TiedMarks_0; rw [PP.out]; rfl)
  have hle := (tiedL_is (n := j) (areCl_prs AC) (show (0 : Int) ≤ 0 ∧ (0 : Int) < (j : Int) by omega)).2.2
  rw [TL.out]
  obtain ⟨m, hm⟩ : ∃ m, (tiedL j (prsC xs) 0).length = m := ⟨_, rfl⟩
  have TB := Lib.hid (show toldB (j : Int) xs = (decide ((m : Int) = (j : Int)) && soundB j xs) from by unfold toldB; rw [AC, Int.toNat_natCast, hm]; rfl)
  rw [hm] at hle ⊢
  clear AC hm
  by_cases hlt : m < j
  · have hlt2 : (m : Int) < (j : Int) := by omega
    have TN := Lib.hid (show toldB (j : Int) xs = false from by rw [TB.out, decide_eq_false (by omega)]; rfl)
    go_wp2
    go_ret2
    exact ⟨_, by rw [TN.out]; rfl, fun h => (by rw [TN.out] at h; cases h), fun _ => rfl, B1.out⟩
  · have hlt2 : ¬ (m : Int) < (j : Int) := by omega
    have TN := Lib.hid (show toldB (j : Int) xs = soundB j xs from by rw [TB.out, decide_eq_true (by omega)]; rfl)
    go_wp2_with fail
    refine (greatestRises_any j _ _ _ xs _ S1.out AC2.out).mono ?_
    rintro e w2 ⟨v, rfl, hyes, hno, hb⟩
    have Y := Lib.hid hyes
    have N := Lib.hid hno
    have B2 := Lib.hid (Below.then' B1.out hb)
    obtain ⟨q, hq⟩ : ∃ q, soundB j xs = q := ⟨_, rfl⟩
    rw [hq] at Y N TN ⊢
    clear hyes hno hb hq
    go_wp2
    go_ret2
    refine ⟨_, by rw [TN.out]; rfl, fun h => ?_, fun h => N.out (by rw [TN.out] at h; exact h), B2.out⟩
    rw [TN.out] at h
    obtain ⟨D, g, h1, h2, h3⟩ := Y.out h
    exact ⟨D, g, by rw [Int.toNat_natCast]; exact h1, by rw [Int.toNat_natCast]; exact h2, by rw [Int.toNat_natCast]; exact h3.mono B1.out.size (Nat.le_refl _)⟩
set_option maxHeartbeats 6400000 in
set_option maxRecDepth 100000 in
theorem implHighestHeights_any (n : Int) (a : Option Addr) (len cap : Nat) (xs : List VClaim) (w : World) (h : IsClaimS w a len cap xs) :
    Calls Try.prog 46 #[.int .i64 n, .slice a len cap] w (HighestHeights_Post n xs w) := by
  have S := Lib.hid h
  clear h
  go_enter Try.func46, Try.ntmps46
  go_wp2_with fail
  refine (toldRises_any n _ _ _ xs _ S.out).mono ?_
  rintro e w1 ⟨v, rfl, hyes, hno, hb⟩
  obtain ⟨p, hp⟩ : ∃ p, toldB n xs = p := ⟨_, rfl⟩
  have PP := Lib.hid hp
  have E1 := Lib.hid (show HighestHeights_1 n xs = p from hp)
  rw [hp] at hyes hno ⊢
  have B1 := Lib.hid hb
  clear hp hb
  cases p
  · have E0 := Lib.hid (show HighestHeights_0 n xs = [] from by unfold HighestHeights_0; rw [PP.out]; rfl)
    clear hyes hno
    go_wp2
    go_ret2
    exact ⟨_, by rw [E1.out]; rfl, by rw [E0.out]; exact nil_OwnIntS _ _ _, B1.out⟩
  obtain ⟨D, g, rfl, hrise, hmat⟩ := hyes rfl
  obtain ⟨j, rfl, hj1, hj2⟩ := areCl_nat (show areCl n xs = true from by have := PP.out; unfold toldB at this; simp only [Bool.and_eq_true] at this; exact this.1)
  rw [Int.toNat_natCast] at hrise hmat ⊢
  have TP := told_partsP PP.out
  obtain ⟨r, hr, hrl, _⟩ := hrise.tab.sq.row (show 0 < j by omega)
  have E0 := Lib.hid (show HighestHeights_0 (j : Int) xs = r from by
    unfold HighestHeights_0
    rw [PP.out, Int.toNat_natCast]
    exact rise_high TP.1 TP.2.1 hrise hr)
  obtain ⟨rb, rc, e0, _, _, _, _, _, _, hown⟩ := hmat.row hr (by omega)
  have O := Lib.hid (show OwnIntS w.heap.size w1.heap.size w1 (.slice (some ⟨rb, 0, none⟩) j rc) r from by
    have h := hown
    rw [hrl] at h
    unfold OwnIntS
    rw [hrl]
    exact h)
  rw [hrl] at e0
  have j0 : (0 : Int) < (j : Int) := by omega
  clear hno hrise hmat TP hr hown hrl
  go_wp2
  go_ret2
  exact ⟨_, by rw [E1.out]; rfl, by rw [E0.out]; exact O.out, B1.out⟩
def negL (D : List (List Int)) (k : Nat) : List Int := (List.range k).map fun t => -(gM D t 0)
theorem negL_succ (D : List (List Int)) (k : Nat) : negL D (k + 1) = negL D k ++ [-(gM D k 0)] := by
  unfold negL; rw [List.range_succ, List.map_append]; rfl
theorem negL_len (D : List (List Int)) (k : Nat) : (negL D k).length = k := by simp [negL]
set_option maxHeartbeats 6400000 in
set_option maxRecDepth 100000 in
theorem implLowestHeights_any (n : Int) (a : Option Addr) (len cap : Nat) (xs : List VClaim) (w : World) (h : IsClaimS w a len cap xs) :
    Calls Try.prog 41 #[.int .i64 n, .slice a len cap] w (LowestHeights_Post n xs w) := by
  obtain ⟨i0, hi, hz0, hz1, hz2⟩ := info_parts infoInt
  have S := Lib.hid h
  clear h
  go_enter Try.func41, Try.ntmps41
  go_wp2_with fail
  refine (toldRises_any n _ _ _ xs _ S.out).mono ?_
  rintro e w1 ⟨v, rfl, hyes, hno, hb⟩
  obtain ⟨p, hp⟩ : ∃ p, toldB n xs = p := ⟨_, rfl⟩
  have PP := Lib.hid hp
  have E1 := Lib.hid (show LowestHeights_1 n xs = p from hp)
  rw [hp] at hyes hno ⊢
  have B1 := Lib.hid hb
  clear hp hb
  cases p
  · have E0 := Lib.hid (show LowestHeights_0 n xs = [] from by unfold LowestHeights_0; rw [PP.out]; rfl)
    obtain rfl := hno rfl
    clear hyes hno
    go_wp2
    refine wp_loop_rounds 1 ?_
    rw [rounds_succ]
    go_wp2
    go_ret2
    exact ⟨_, by rw [E1.out]; rfl, by rw [E0.out]; exact nil_OwnIntS _ _ _, B1.out⟩
  obtain ⟨D, g, rfl, hrise, hmat⟩ := hyes rfl
  obtain ⟨j, rfl, hj1, hj2⟩ := areCl_nat (show areCl n xs = true from by have := PP.out; unfold toldB at this; simp only [Bool.and_eq_true] at this; exact this.1)
  rw [Int.toNat_natCast] at hrise hmat ⊢
  have TP := told_partsP PP.out
  have E0 := Lib.hid (show LowestHeights_0 (j : Int) xs = negL D j from by
    unfold LowestHeights_0
    rw [PP.out, Int.toNat_natCast]
    exact rise_low TP.1 TP.2.1 hrise)
  have R := Lib.hid hrise
  have M := Lib.hid hmat
  clear hno hrise hmat TP
  go_wp2
  go_loopw [19, 8] (fun i o wr => ∃ k : Nat, k ≤ j ∧ i = .int .i64 k ∧ wr.ownsRow w1.heap.size 3 1 o (negL D k).length (intCells (negL D k)) ∧ Below w1.heap.size w1 wr) (fun i _ _ => j - (intOf i).toNat)
  case atStart => exact ⟨0, Nat.zero_le _, rfl, ⟨by simp [intCells, negL], .inl ⟨rfl, rfl⟩⟩, Below.refl _ _⟩
  case round =>
    obtain ⟨k, hk, rfl, hown, hbel⟩ := hrel
    have B := Lib.hid hbel
    by_cases hlt : k < j
    · have hlt2 : (k : Int) < (j : Int) := by omega
      have hk0 : (0 : Int) ≤ (k : Int) := by omega
      have hgl := negL_len D k
      have FS := Lib.hid (negL_succ D k)
      obtain ⟨G, hG⟩ : ∃ G, negL D k = G := ⟨_, rfl⟩
      rw [hG] at hown FS hgl
      obtain ⟨r, hr, hrl, _⟩ := R.out.tab.sq.row hlt
      obtain ⟨rb, rc, e0, _, _, rcap, rcell, _, _, _⟩ := (M.out.below hbel).row hr (by omega)
      rw [hrl] at e0 rcap
      obtain ⟨y, hy⟩ : ∃ y, gM D k 0 = y := ⟨_, rfl⟩
      have c0 := rcell 0 y (by rw [← hy, gM_some hr]; exact gI_at (by omega))
      have bd1 := R.out.tab.lo k 0 hlt (by omega)
      have bd2 := R.out.tab.hi k 0 hlt (by omega)
      have pb := pow_bd hj2
      rw [hy] at FS bd1 bd2
      have hw0 : IntKind.i64.wrap (-y) = -y := IntWalk.i64_in _ (by omega)
      have j0 : (0 : Int) < (j : Int) := by omega
      have rc1 := rcap.1
      have rc2 := rcap.2
      unfold maxLen at rc2
      have hown3 := hown.alloc (.cells #[.int .i64 (-y)] 3)
      have hsz := B.out.size
      clear hown hbel hG hr hrl rcap rcell bd1 bd2 pb hy
      go_wp2_with (at_builtin; refine wpList_append_own _ rfl _ _ 25 rfl w1.heap.size 3 i0 (.int .i64 0) 1 8 Try.underlying25 hi hz0 hz1 hz2 rfl (by decide) _ _ _ rfl hown3 ⟨wr.heap.size, 0, none⟩ 1 1 [.int .i64 (-y)] rfl rfl (cell_one _ _ _) (fun x hx => by simp at hx; subst hx; rfl) (by unfold maxLen; omega) (by omega) (by simp; omega) ?_; intro v' w4 hown' hgrow4 hnil4)
      go_roundw
      case rel =>
        refine ⟨k + 1, by omega, by go_num, ?_, (Below.then' B.out (wh_al1 _ _)).grown hgrow4 (by simp; omega) (fun j e => (hown3.lt j e).1)⟩
        rw [FS.out, intCells_snoc, List.length_append]
        exact hown'
      case measure => simp [intOf]; omega
    · obtain rfl : k = j := by omega
      have O := Lib.hid (show OwnIntS w.heap.size wr.heap.size wr u8 (negL D k) from OwnIn.of_row (ownsRow_base hown B1.out.size) (Nat.le_refl _) (Nat.le_refl _))
      have B2 := Lib.hid (Below.then' B1.out hbel)
      clear hbel hown
      go_wp2
      go_ret2
      exact ⟨_, by rw [E1.out]; rfl, by rw [E0.out]; exact O.out, B2.out⟩
end Go.Proofs.Ytobpgoiaimlonaa
