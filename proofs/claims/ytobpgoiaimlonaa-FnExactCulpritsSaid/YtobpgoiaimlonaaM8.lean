/- Texts in one: Cs5, Cs6, PutL2, Has, Cs8, Cs9, Cs10, Cz2. -/
import Derived.Test.YtobpgoiaimlonaaM7
import Derived.StillTailTactics
import Derived.Deep.RegionHeld3
import Derived.Deep.DeepCutAuto
import Derived.Test.YtobpgoiaimlonaaM3
import Derived.Test.YtobpgoiaimlonaaM2
import Derived.Test.YtobpgoiaimlonaaM4
import Derived.Test.YtobpgoiaimlonaaM5
import Derived.Test.YtobpgoiaimlonaaM6
namespace Go.Proofs.Ytobpgoiaimlonaa
open Go.RowKit

theorem l8Far_any (w : World) : Calls Try.prog 90 #[] w fun e w' => e = .returned (.int .i64 1000000) ∧ w = w' := by
  go_enter Try.func90, Try.ntmps90
  go_wp2
  go_ret
  exact ⟨rfl, rfl⟩
theorem intCells_set (o : List Int) (i : Nat) (a : Int) : (intCells o).set i (.int .i64 a) = intCells (o.set i a) := by simp [intCells, List.map_set]
theorem relax_ways (o : List Int) (u v : Nat) (w : Int) : (¬ gD o u < farD ∧ relaxE o (u, v, w) = o) ∨ (gD o u < farD ∧ ¬ gD o u + w < gD o v ∧ relaxE o (u, v, w) = o) ∨ (gD o u < farD ∧ gD o u + w < gD o v ∧ relaxE o (u, v, w) = o.set v (gD o u + w)) := by
  unfold relaxE
  by_cases h1 : gD o u < farD
  · by_cases h2 : gD o u + w < gD o v
    · exact .inr (.inr ⟨h1, h2, if_pos ⟨h1, h2⟩⟩)
    · exact .inr (.inl ⟨h1, h2, if_neg (fun h => h2 h.2)⟩)
  · exact .inl ⟨h1, if_neg (fun h => h1 h.1)⟩
/-- The numbers are small enough to be added. -/
def LowD (T : Nat) (o : List Int) : Prop := ∀ v, -(10000 * (T : Int)) ≤ gD o v ∧ gD o v ≤ farD
theorem LowD.relax {T : Nat} {o : List Int} (h : LowD T o) (e : Edge) (he : -10000 ≤ e.2.2) : LowD (T + 1) (relaxE o e) := by
  intro v
  have hv := h v
  have hu := h e.1
  refine ⟨?_, Int.le_trans (relax_le o e v) hv.2⟩
  unfold relaxE
  split
  · by_cases hl : e.2.1 < o.length
    · rw [gD_set _ _ _ _ hl]
      split <;> omega
    · rw [List.set_eq_of_length_le (by omega)]; omega
  · omega
theorem LowD.mono {T T' : Nat} {o : List Int} (h : LowD T o) (ht : T ≤ T') : LowD T' o := fun v => ⟨by have := (h v).1; omega, (h v).2⟩
theorem gD_at {o : List Int} {v : Nat} (h : v < o.length) : o[v]? = some (gD o v) := by
  rw [gD_some (List.getElem?_eq_getElem h)]; exact List.getElem?_eq_getElem h
/-- Behind a relaxed edge that turned something, the row is no longer the first one. -/
theorem ne_of_le {o o0 : List Int} {v : Nat} {a : Int} (hl : v < o.length) (hle : gD o v ≤ gD o0 v) (ha : a < gD o v) : ¬ o.set v a = o0 := by
  intro e
  have h1 := gD_set o v v a hl
  rw [if_pos rfl, e] at h1
  omega
theorem clE_snoc (xs : List VClaim) (x : VClaim) : clE (xs ++ [x]) = clE xs ++ [(x.Low.toNat, x.High.toNat, x.Most), (x.High.toNat, x.Low.toNat, -x.Least)] := by simp [clE]
end Go.Proofs.Ytobpgoiaimlonaa
namespace Go.Proofs.Ytobpgoiaimlonaa
open Go.RowKit

theorem intCells_at {o : List Int} {i : Nat} {a : Int} (h : o[i]? = some a) : (intCells o)[i]? = some (.int .i64 a) := by simp [intCells, h]
theorem take_clE {xs : List VClaim} {t : Nat} {x : VClaim} (h : xs[t]? = some x) : clE (xs.take (t + 1)) = clE (xs.take t) ++ [(x.Low.toNat, x.High.toNat, x.Most), (x.High.toNat, x.Low.toNat, -x.Least)] := by
  rw [List.take_add_one, h]; exact clE_snoc _ _
/-- Does relaxing this edge make a number smaller? -/
def relB (o : List Int) (u v : Nat) (w : Int) : Bool := decide (gD o u < farD) && decide (gD o u + w < gD o v)
theorem relax_B (o : List Int) (u v : Nat) (w : Int) : relaxE o (u, v, w) = if relB o u v w = true then o.set v (gD o u + w) else o := by
  unfold relaxE relB
  by_cases h : gD o u < farD ∧ gD o u + w < gD o v
  · rw [if_pos h, if_pos (by simp [h])]
  · rw [if_neg h, if_neg (by simpa using h)]
/-- The row of numbers, the claim's box, and the world below as it was. -/
def RowBox (w : World) (j : Nat) (Q : List Int) (b : Nat) (x : VClaim) (wx : World) : Prop :=
  wx.ownsRow w.heap.size 3 1 (.slice (some ⟨w.heap.size, 0, none⟩) j j) j (intCells Q) ∧ Below w.heap.size w wx ∧ BoxClaim wx b x
theorem RowBox.below {w : World} {j : Nat} {Q : List Int} {b : Nat} {x : VClaim} {wx W : World} (h : RowBox w j Q b x wx) (hb : Below wx.heap.size wx W) : RowBox w j Q b x W :=
  ⟨ownsRow_below h.1 hb, Below.then' h.2.1 hb, h.2.2.below hb⟩
theorem RowBox.store {w : World} {j : Nat} {Q : List Int} {b : Nat} {x : VClaim} {wx : World} (h : RowBox w j Q b x wx) (hb : ¬ b = w.heap.size) {v : Nat} {a : Int} : RowBox w j (Q.set v a) b x ((wx.setCell ⟨w.heap.size, v, none⟩ (.int .i64 a)).drew) := by
  have s := h.1.stored v (.int .i64 a)
  rw [intCells_set] at s
  exact ⟨s.1, bel_drew' (h.2.1.grown s.2 h.2.1.size (fun j e => by cases e; exact Nat.le_refl _)), (h.2.2.grown s.2 (by simp only [ne_eq, Option.some.injEq]; exact hb) : _)⟩
/-- And the flag: was anything turned since the round began? -/
def FlagBox (w : World) (j : Nat) (o Q : List Int) (b : Nat) (x : VClaim) (c : Value) (wx : World) : Prop := ∃ ch : Bool, c = .bool ch ∧ (ch = true ↔ ¬ Q = o) ∧ RowBox w j Q b x wx
set_option maxHeartbeats 25600000 in
set_option maxRecDepth 100000 in
theorem l8Reach_any (n k : Nat) (a : Option Addr) (len cap : Nat) (xs : List VClaim) (w : World) (h : IsClaimS w a len cap xs) (hx : areCl (n : Int) xs = true) (hk : k < n) :
    Calls Try.prog 79 #[.int .i64 (n : Int), .slice a len cap, .int .i64 (k : Int)] w fun e w' => ∃ v, e = .returned (.tuple #[v, .bool (reachL n xs k).2]) ∧ w'.ownsRow w.heap.size 3 1 v n (intCells (reachL n xs k).1) ∧ Below w.heap.size w w' := by
  have hm := h.2.2.1
  have hcl := h.2.1
  unfold maxLen at hm
  obtain rfl := h.1
  obtain ⟨i0, hi, hz0, hz1, hz2⟩ := info_parts infoInt
  obtain ⟨hv, ⟨hn1, hn2⟩, hl24⟩ := areCl_iff.1 hx
  have S := Lib.hid h
  have HV := Lib.hid hv
  clear h hv hx
  have hk0 : (0 : Int) ≤ (k : Int) := by omega
  have hk1 : (k : Int) < (n : Int) := by omega
  go_enter Try.func79, Try.ntmps79
  go_wp2_with (refine wpList_make_full _ rfl _ _ 25 rfl w.heap.size 3 i0 (.int .i64 0) 1 Try.underlying25 hi hz0 hz1 .i64 .i64 _ _ n rfl rfl rfl rfl (by rw [hz2]; omega) (by unfold maxLen; omega) (Nat.le_refl _) ?_; intro w1 hown hgrow)
  have B1 := Lib.hid ((Below.refl w.heap.size w).grown hgrow (Nat.le_refl _) (fun k e => by cases e))
  have O1 := Lib.hid hown
  clear hown hgrow
  go_loopw [9] (fun i wr => ∃ (j : Nat) (D : List Value), j ≤ n ∧ D.length = n - j ∧ i = .int .i64 j ∧ wr.ownsRow w.heap.size 3 1 (.slice (some ⟨w.heap.size, 0, none⟩) n n) n (intCells (List.replicate j farD) ++ D) ∧ Below w.heap.size w wr) (fun i _ => n - (intOf i).toNat)
  case atStart => exact ⟨0, (madeCells (Value.int .i64 0).cells (n * 1)).toList, Nat.zero_le _, by have := O1.out.1; omega, rfl, by simpa [intCells] using O1.out, B1.out⟩
  case round =>
    obtain ⟨j, D, hj, hD, rfl, hown, hbel⟩ := hrel
    have O := Lib.hid hown
    have B := Lib.hid hbel
    have HD := Lib.hid hD
    by_cases hlt : j < n
    · have f0 := O.out.frozenAt j
      obtain ⟨u0, d0⟩ := own_cell O.out j (by rw [List.length_append, intCells_len, List.length_replicate]; omega)
      have hj0 : (0 : Int) ≤ (j : Int) := by omega
      have hj1 : (j : Int) < (n : Int) := by omega
      clear hown hbel hD
      go_wp2_with fail
      refine (l8Far_any _).mono ?_
      rintro e w' ⟨rfl, rfl⟩
      go_wp2
      go_roundw
      case rel =>
        have h5 := O.out.stored j (.int .i64 1000000)
        refine ⟨j + 1, D.tail, by omega, by rw [List.length_tail, HD.out]; omega, by go_num, ?_, B.out.grown h5.2 B.out.size (fun j e => by cases e; exact Nat.le_refl _)⟩
        have hl : (intCells (List.replicate j farD)).length = j := by rw [intCells_len, List.length_replicate]
        have h6 := h5.1
        obtain ⟨d, D', rfl⟩ : ∃ d D', D = d :: D' := by
          cases D with
          | nil => have := HD.out; simp at this; omega
          | cons d D' => exact ⟨d, D', rfl⟩
        rw [List.set_append_right _ _ (by omega), hl, Nat.sub_self, List.set_cons_zero] at h6
        rw [show List.replicate (j + 1) farD = List.replicate j farD ++ [farD] from by rw [List.replicate_succ'], intCells_snoc, List.append_assoc]
        exact h6
      case measure => simp [intOf]; omega
    · obtain rfl : j = n := by omega
      have hD0 : D = [] := List.length_eq_zero_iff.1 (by omega)
      subst hD0
      rw [List.append_nil] at O
      have f0 := O.out.frozenAt k
      obtain ⟨u0, d0⟩ := own_cell O.out k (by rw [intCells_len, List.length_replicate]; omega)
      have h5 := O.out.stored k (.int .i64 0)
      have O2 := Lib.hid (show _ from by rw [intCells_set] at h5; exact h5.1)
      have B2 := Lib.hid (B.out.grown h5.2 B.out.size (fun j e => by cases e; exact Nat.le_refl _))
      have LW := Lib.hid (show LowD 0 (startD j k) from by
        intro v
        unfold startD
        rw [gD_set _ _ _ _ (by simpa using hk)]
        split
        · unfold farD; omega
        · by_cases hv : v < j
          · rw [gD_some (a := farD) (by simp [hv])]; unfold farD; omega
          · rw [gD_none (by simpa using hv)]; unfold farD; omega)
      clear hown hbel hD h5
      rename World => w0
      go_wp2
      go_loopw [10] (fun i wr => ∃ (r : Nat) (o : List Int), r ≤ j + 1 ∧ o.length = j ∧ i = .int .i64 r ∧ reachL j xs k = reachE (clE xs) (j + 1 - r) o ∧ LowD (48 * r) o ∧ wr.ownsRow w.heap.size 3 1 (.slice (some ⟨w.heap.size, 0, none⟩) j j) j (intCells o) ∧ Below w.heap.size w wr) (fun i _ => j + 1 - (intOf i).toNat)
      case atStart => exact ⟨0, startD j k, Nat.zero_le _, by simp [startD], rfl, rfl, LW.out, O2.out, B2.out⟩
      case round =>
        obtain ⟨r, o, hr, hol, rfl, hre, hlow, hown, hbel⟩ := hrel
        have O := Lib.hid hown
        have B := Lib.hid hbel
        have RE := Lib.hid hre
        have LO := Lib.hid hlow
        by_cases hlr : r < j + 1
        · clear hre hlow hown hbel
          have hwx : 48 * r ≤ 48 * 11 := by omega
          have d30 : decide (r ≤ j) = true := decide_eq_true (by omega)
          rename World => w5
          go_wp2
          go_loopw [12, 11, 13] (fun i c _ wr => ∃ (t : Nat) (q : List Int) (ch : Bool), t ≤ xs.length ∧ i = .int .i64 t ∧ c = .bool ch ∧ q = (clE (xs.take t)).foldl relaxE o ∧ (ch = true ↔ ¬ q = o) ∧ q.length = j ∧ (∀ v, gD q v ≤ gD o v) ∧ LowD (48 * r + 2 * t) q ∧ wr.ownsRow w.heap.size 3 1 (.slice (some ⟨w.heap.size, 0, none⟩) j j) j (intCells q) ∧ Below w.heap.size w wr) (fun i _ _ _ => xs.length - (intOf i).toNat)
          case atStart => exact ⟨0, o, false, Nat.zero_le _, rfl, rfl, rfl, by simp, hol, fun v => Int.le_refl _, LO.out, O.out, B.out⟩
          case round =>
            obtain ⟨t, Q0, ch, ht, rfl, rfl, hq0, hch, hql, hqe, hlo, hown, hbel⟩ := hrel
            have HQ0 := Lib.hid hq0
            have CH0' := Lib.hid hch
            have QL0' := Lib.hid hql
            have QE0' := Lib.hid hqe
            have L0' := Lib.hid hlo
            by_cases hlt2 : t < xs.length
            · obtain ⟨x, hx⟩ : ∃ x, xs[t]? = some x := ⟨xs[t]'hlt2, List.getElem?_eq_getElem _⟩
              obtain ⟨b, o', rfl, hbw, hat⟩ := (S.out.below hbel).at (by omega)
              obtain ⟨c0, c1, c2, c3⟩ := hat t x hx
              have hcl := clB_iff.1 (HV.out x (List.mem_of_getElem? hx))
              have TKx := take_clE hx
              obtain ⟨xl, xh, le, mo⟩ := x
              simp only [] at c0 c1 c2 c3 hcl TKx
              obtain ⟨lo, rfl⟩ : ∃ lo : Nat, xl = (lo : Int) := ⟨xl.toNat, by omega⟩
              obtain ⟨hi, rfl⟩ : ∃ hi : Nat, xh = (hi : Int) := ⟨xh.toNat, by omega⟩
              rw [Int.toNat_natCast, Int.toNat_natCast] at TKx
              have TK := Lib.hid TKx
              have b1 : lo < j := by omega
              have b2 : hi < j := by omega
              have b5 : ¬ lo = hi := by omega
              have b3 : -9999 ≤ mo ∧ mo ≤ 9999 := by omega
              have b4 : -9999 ≤ le ∧ le ≤ 9999 := by omega
              have i1 : (0 : Int) ≤ (lo : Int) := by omega
              have i2 : (lo : Int) < (j : Int) := by omega
              have i3 : (0 : Int) ≤ (hi : Int) := by omega
              have i4 : (hi : Int) < (j : Int) := by omega
              have i5 : (0 : Int) ≤ (t : Int) := by omega
              have i6 : (t : Int) < (xs.length : Int) := by omega
              have BXL := Lib.hid (show w.heap.size < wr.heap.size from (hown.lt w.heap.size rfl).2)
              have FAR := Lib.hid (fun W : World => (l8Far_any W).mono (fun e w' h => (⟨h.1, by rw [← h.2]; exact Below.refl _ _⟩ : e = .returned (.int .i64 1000000) ∧ Below W.heap.size W w')))
              have oA := hown.alloc (.cells #[.int .i64 (lo : Int), .int .i64 (hi : Int), .int .i64 le, .int .i64 mo] 38)
              have bA := Below.then' hbel (bel_al1 wr (.cells #[.int .i64 (lo : Int), .int .i64 (hi : Int), .int .i64 le, .int .i64 mo] 38))
              have xA := BoxClaim.new wr 38 ⟨(lo : Int), (hi : Int), le, mo⟩ _ rfl
              have OA := Lib.hid oA
              have BA := Lib.hid bA
              have XA := Lib.hid xA
              clear hq0 hch hql hqe hlo hown hbel hx hat hcl TKx oA bA xA
              have BXN := Lib.hid (show ¬ wr.heap.size = w.heap.size by have := BXL.out; omega)
              go_wp2
              refine wp_world (fun W => RowBox w j Q0 wr.heap.size ⟨(lo : Int), (hi : Int), le, mo⟩ W) ⟨OA.out, BA.out, XA.out⟩ ?_
              clear OA BA XA c0 c1 c2 c3
              rintro W0 hr0
              have R0 := Lib.hid hr0
              have QL0 := QL0'
              have QE0 := QE0'
              have L0 := L0'
              have CH0 := CH0'
              clear hr0 QL0' QE0' CH0'
              go_upto_region 15 with (fail)
              go_cut [65] (fun t wx => t = .bool (relB Q0 lo hi (mo)) ∧ RowBox w j Q0 wr.heap.size ⟨(lo : Int), (hi : Int), le, mo⟩ wx)
              case first =>
                obtain ⟨y, hy⟩ : ∃ y, gD Q0 lo = y := ⟨_, rfl⟩
                obtain ⟨z, hz⟩ : ∃ z, gD Q0 hi = z := ⟨_, rfl⟩
                have cU := (R0.out.1).cells (g := w.heap.size) rfl lo _ (intCells_at (gD_at (show lo < Q0.length by have := QL0.out; omega)))
                have cV := (R0.out.1).cells (g := w.heap.size) rfl hi _ (intCells_at (gD_at (show hi < Q0.length by have := QL0.out; omega)))
                rw [add_plain, Nat.zero_add, hy] at cU
                rw [add_plain, Nat.zero_add, hz] at cV
                have ly := L0.out lo
                have lz := L0.out hi
                rw [hy] at ly
                rw [hz] at lz
                have ly2 : y ≤ 1000000 := ly.2
                have lz2 : z ≤ 1000000 := lz.2
                have hw0 : IntKind.i64.wrap (y + mo) = y + mo := IntWalk.i64_in _ (by omega)
                obtain ⟨e0, e1, e2, e3⟩ := R0.out.2.2
                have k0 := cell_regrown e0
                have k1 := cell_regrown e1
                have k2 := cell_regrown e2
                have k3 := cell_regrown e3
                have k4 := cell_regrown cU
                have k5 := cell_regrown cV
                have cQ := below_at (W := W0) (fun W' _ => FAR.out W')
                have RB := Lib.hid (show relB Q0 lo hi (mo) = (decide (y < 1000000) && decide (y + mo < z)) from by unfold relB farD; rw [hy, hz]; try rfl)
                clear hy hz ly lz ly2 lz2 e0 e1 e2 e3 cU cV
                by_cases g1 : y < 1000000
                · have G := Lib.hid (decide_eq_true g1)
                  refine wp_region_quiet_below (by kernel_rfl) (by kernel_rfl) ?_
                  repeat (first | go_big_quiet_step (exact cQ _ _) | quiet_step (exact cQ _ _))
                  refine wpQuiet_nil ?_
                  intro V hv
                  have RV := Lib.hid (R0.out.below (below_of_re hv))
                  clear hv cQ k0 k1 k2 k3 k4 k5 g1 hw0
                  first | go_meet | (go_wp2; go_meet)
                  exact ⟨congrArg Value.bool (by rw [RB.out, G.out]; try rfl), RV.out⟩
                · have G := Lib.hid (decide_eq_false g1)
                  refine wp_region_quiet_below (by kernel_rfl) (by kernel_rfl) ?_
                  repeat (first | go_big_quiet_step (exact cQ _ _) | quiet_step (exact cQ _ _))
                  refine wpQuiet_nil ?_
                  intro V hv
                  have RV := Lib.hid (R0.out.below (below_of_re hv))
                  clear hv cQ k0 k1 k2 k3 k4 k5 g1 hw0
                  first | go_meet | (go_wp2; go_meet)
                  exact ⟨congrArg Value.bool (by rw [RB.out, G.out]; try rfl), RV.out⟩
              case rest =>
              obtain ⟨ht, hrb⟩ := hcut
              have RC := Lib.hid hrb
              have RL := Lib.hid (relax_B Q0 lo hi (mo))
              obtain ⟨t0, ht0⟩ : ∃ t, relB Q0 lo hi (mo) = t := ⟨_, rfl⟩
              rw [ht0] at ht RL
              subst ht
              have TB := Lib.hid ht0
              clear hrb ht0
              rename World => V0
              go_upto_if 65 with (fail)
              go_cut [11] (fun c wx => FlagBox w j o (relaxE Q0 (lo, hi, mo)) wr.heap.size ⟨(lo : Int), (hi : Int), le, mo⟩ c wx)
              case first =>
                cases t0
                · go_wp2
                  go_meet
                  have hq : relaxE Q0 (lo, hi, mo) = Q0 := by rw [RL.out]; rfl
                  exact ⟨ch, rfl, by rw [hq]; exact CH0.out, by rw [hq]; exact RC.out⟩
                · have hq : relaxE Q0 (lo, hi, mo) = Q0.set hi (gD Q0 lo + mo) := by rw [RL.out]; rfl
                  obtain ⟨y, hy⟩ : ∃ y, gD Q0 lo = y := ⟨_, rfl⟩
                  have tb := TB.out
                  unfold relB at tb
                  simp only [Bool.and_eq_true, decide_eq_true_eq] at tb
                  have NE := Lib.hid (ne_of_le (show hi < Q0.length by have := QL0.out; omega) (QE0.out hi) tb.2)
                  have cU := (RC.out.1).cells (g := w.heap.size) rfl lo _ (intCells_at (gD_at (show lo < Q0.length by have := QL0.out; omega)))
                  rw [add_plain, Nat.zero_add, hy] at cU
                  have ly := L0.out lo
                  rw [hy] at ly
                  have ly2 : y ≤ 1000000 := ly.2
                  have hw0 : IntKind.i64.wrap (y + mo) = y + mo := IntWalk.i64_in _ (by omega)
                  obtain ⟨e0, e1, e2, e3⟩ := RC.out.2.2
                  simp only [] at e0 e1 e2 e3
                  have f0 := RC.out.1.frozenAt hi
                  obtain ⟨u9, cV⟩ := own_cell RC.out.1 hi (by rw [intCells_len]; have := QL0.out; omega)
                  have nb1 := BXN.out
                  have nb2 : ¬ w.heap.size = wr.heap.size := fun e => nb1 e.symm
                  have nuv : ¬ lo = hi := by omega
                  have nvu : ¬ hi = lo := by omega
                  have ST := Lib.hid (show RowBox w j (Q0.set hi (y + mo)) wr.heap.size ⟨(lo : Int), (hi : Int), le, mo⟩ ((V0.setCell ⟨w.heap.size, hi, none⟩ (.int .i64 (y + mo))).drew) from RC.out.store BXN.out)
                  have HQY := Lib.hid (show relaxE Q0 (lo, hi, mo) = Q0.set hi (y + mo) from by rw [hq, hy]; try rfl)
                  have KS := Lib.hid (show (fun w' : World => w'.cell? ⟨wr.heap.size, 0, none⟩ = some (.int .i64 (lo : Int)) ∧ w'.cell? ⟨wr.heap.size, 1, none⟩ = some (.int .i64 (hi : Int)) ∧ w'.cell? ⟨wr.heap.size, 2, none⟩ = some (.int .i64 le) ∧ w'.cell? ⟨wr.heap.size, 3, none⟩ = some (.int .i64 mo) ∧ w'.cell? ⟨w.heap.size, lo, none⟩ = some (.int .i64 y)) ((V0.setCell ⟨w.heap.size, hi, none⟩ (.int .i64 (y + mo))).drew) from by
                    obtain ⟨s0, s1, s2, s3⟩ := ST.out.2.2
                    have su := ST.out.1.cells (g := w.heap.size) rfl lo _ (intCells_at (show (Q0.set hi (y + mo))[lo]? = some y from by rw [List.getElem?_set_ne (by omega), gD_at (show lo < Q0.length by have := QL0.out; omega), hy]))
                    rw [add_plain, Nat.zero_add] at su
                    exact ⟨s0, s1, s2, s3, su⟩)
                  have NE2 := Lib.hid (show ¬ Q0.set hi (y + mo) = o from by have := NE.out; rw [hy] at this; exact this)
                  clear NE ly ly2 tb hq hy
                  go_wp2
                  go_region_held3 (fun w' => w'.cell? ⟨wr.heap.size, 0, none⟩ = some (.int .i64 (lo : Int)) ∧ w'.cell? ⟨wr.heap.size, 1, none⟩ = some (.int .i64 (hi : Int)) ∧ w'.cell? ⟨wr.heap.size, 2, none⟩ = some (.int .i64 le) ∧ w'.cell? ⟨wr.heap.size, 3, none⟩ = some (.int .i64 mo) ∧ w'.cell? ⟨w.heap.size, lo, none⟩ = some (.int .i64 y)) (first | exact KS.out | go_keep) (fail)
                  go_wp2
                  go_meet
                  exact ⟨true, rfl, ⟨fun _ => by rw [HQY.out]; exact NE2.out, fun _ => rfl⟩, by rw [HQY.out]; exact ST.out⟩
              case rest =>
              obtain ⟨ch1, rfl, hch1, hrb1⟩ := hcut
              have CH1 := Lib.hid hch1
              have R1' := Lib.hid hrb1
              have QL1' := Lib.hid (show (relaxE Q0 (lo, hi, mo)).length = j from by rw [relax_len]; exact QL0.out)
              have QE1' := Lib.hid (show ∀ v, gD (relaxE Q0 (lo, hi, mo)) v ≤ gD o v from fun v => Int.le_trans (relax_le _ _ _) (QE0.out v))
              have L1' := Lib.hid (L0.out.relax (lo, hi, mo) (by simp only []; omega))
              obtain ⟨Q1, hQ1⟩ : ∃ Q, relaxE Q0 (lo, hi, mo) = Q := ⟨_, rfl⟩
              rw [hQ1] at CH1 R1' QL1' QE1' L1'
              have HQ1 := Lib.hid hQ1
              have R1 := R1'
              have QL1 := QL1'
              have QE1 := QE1'
              have L1 := L1'
              clear hch1 hrb1 R1' QL1' QE1' L1' hQ1 RC RL TB
              rename World => W1
              go_upto_region 18 with (fail)
              go_cut [100] (fun t wx => t = .bool (relB Q1 hi lo (-le)) ∧ RowBox w j Q1 wr.heap.size ⟨(lo : Int), (hi : Int), le, mo⟩ wx)
              case first =>
                obtain ⟨y, hy⟩ : ∃ y, gD Q1 hi = y := ⟨_, rfl⟩
                obtain ⟨z, hz⟩ : ∃ z, gD Q1 lo = z := ⟨_, rfl⟩
                have cU := (R1.out.1).cells (g := w.heap.size) rfl hi _ (intCells_at (gD_at (show hi < Q1.length by have := QL1.out; omega)))
                have cV := (R1.out.1).cells (g := w.heap.size) rfl lo _ (intCells_at (gD_at (show lo < Q1.length by have := QL1.out; omega)))
                rw [add_plain, Nat.zero_add, hy] at cU
                rw [add_plain, Nat.zero_add, hz] at cV
                have ly := L1.out hi
                have lz := L1.out lo
                rw [hy] at ly
                rw [hz] at lz
                have ly2 : y ≤ 1000000 := ly.2
                have lz2 : z ≤ 1000000 := lz.2
                have hw1 : IntKind.i64.wrap (y - le) = y - le := IntWalk.i64_in _ (by omega)
                obtain ⟨e0, e1, e2, e3⟩ := R1.out.2.2
                have k0 := cell_regrown e0
                have k1 := cell_regrown e1
                have k2 := cell_regrown e2
                have k3 := cell_regrown e3
                have k4 := cell_regrown cU
                have k5 := cell_regrown cV
                have cQ := below_at (W := W1) (fun W' _ => FAR.out W')
                have RB := Lib.hid (show relB Q1 hi lo (-le) = (decide (y < 1000000) && decide (y - le < z)) from by unfold relB farD; rw [hy, hz]; try rfl)
                clear hy hz ly lz ly2 lz2 e0 e1 e2 e3 cU cV
                by_cases g1 : y < 1000000
                · have G := Lib.hid (decide_eq_true g1)
                  refine wp_region_quiet_below (by kernel_rfl) (by kernel_rfl) ?_
                  repeat (first | go_big_quiet_step (exact cQ _ _) | quiet_step (exact cQ _ _))
                  refine wpQuiet_nil ?_
                  intro V hv
                  have RV := Lib.hid (R1.out.below (below_of_re hv))
                  clear hv cQ k0 k1 k2 k3 k4 k5 g1 hw1
                  first | go_meet | (go_wp2; go_meet)
                  exact ⟨congrArg Value.bool (by rw [RB.out, G.out]; try rfl), RV.out⟩
                · have G := Lib.hid (decide_eq_false g1)
                  refine wp_region_quiet_below (by kernel_rfl) (by kernel_rfl) ?_
                  repeat (first | go_big_quiet_step (exact cQ _ _) | quiet_step (exact cQ _ _))
                  refine wpQuiet_nil ?_
                  intro V hv
                  have RV := Lib.hid (R1.out.below (below_of_re hv))
                  clear hv cQ k0 k1 k2 k3 k4 k5 g1 hw1
                  first | go_meet | (go_wp2; go_meet)
                  exact ⟨congrArg Value.bool (by rw [RB.out, G.out]; try rfl), RV.out⟩
              case rest =>
              obtain ⟨ht, hrb⟩ := hcut
              have RC := Lib.hid hrb
              have RL := Lib.hid (relax_B Q1 hi lo (-le))
              obtain ⟨t1, ht1⟩ : ∃ t, relB Q1 hi lo (-le) = t := ⟨_, rfl⟩
              rw [ht1] at ht RL
              subst ht
              have TB := Lib.hid ht1
              clear hrb ht1
              rename World => V1
              cases t1
              · have hq := Lib.hid (show relaxE Q1 (hi, lo, -le) = Q1 from by rw [RL.out]; rfl)
                go_wp2
                go_roundw
                case rel =>
                  refine ⟨t + 1, relaxE Q1 (hi, lo, -le), ch1, by omega, by go_num, rfl, ?_, by rw [hq.out]; exact CH1.out, by rw [relax_len]; exact QL1.out, fun v => Int.le_trans (relax_le _ _ _) (QE1.out v), (L1.out.relax (hi, lo, -le) (by simp only []; omega)).mono (by omega), by rw [hq.out]; exact RC.out.1, RC.out.2.1⟩
                  rw [TK.out, List.foldl_append, ← HQ0.out]
                  show relaxE Q1 _ = relaxE (relaxE Q0 _) _
                  rw [HQ1.out]
                case measure => simp [intOf]; omega
              · have hq : relaxE Q1 (hi, lo, -le) = Q1.set lo (gD Q1 hi + -le) := by rw [RL.out]; rfl
                obtain ⟨y, hy⟩ : ∃ y, gD Q1 hi = y := ⟨_, rfl⟩
                have tb := TB.out
                unfold relB at tb
                simp only [Bool.and_eq_true, decide_eq_true_eq] at tb
                have NE := Lib.hid (ne_of_le (show lo < Q1.length by have := QL1.out; omega) (QE1.out lo) tb.2)
                have cU := (RC.out.1).cells (g := w.heap.size) rfl hi _ (intCells_at (gD_at (show hi < Q1.length by have := QL1.out; omega)))
                rw [add_plain, Nat.zero_add, hy] at cU
                have ly := L1.out hi
                rw [hy] at ly
                have ly2 : y ≤ 1000000 := ly.2
                have hw1 : IntKind.i64.wrap (y - le) = y - le := IntWalk.i64_in _ (by omega)
                obtain ⟨e0, e1, e2, e3⟩ := RC.out.2.2
                simp only [] at e0 e1 e2 e3
                have f0 := RC.out.1.frozenAt lo
                obtain ⟨u9, cV⟩ := own_cell RC.out.1 lo (by rw [intCells_len]; have := QL1.out; omega)
                have nb1 := BXN.out
                have nb2 : ¬ w.heap.size = wr.heap.size := fun e => nb1 e.symm
                have nuv : ¬ hi = lo := by omega
                have nvu : ¬ lo = hi := by omega
                have ST := Lib.hid (show RowBox w j (Q1.set lo (y - le)) wr.heap.size ⟨(lo : Int), (hi : Int), le, mo⟩ ((V1.setCell ⟨w.heap.size, lo, none⟩ (.int .i64 (y - le))).drew) from RC.out.store BXN.out)
                have HQY := Lib.hid (show relaxE Q1 (hi, lo, -le) = Q1.set lo (y - le) from by rw [hq, hy]; try rfl)
                have KS := Lib.hid (show (fun w' : World => w'.cell? ⟨wr.heap.size, 0, none⟩ = some (.int .i64 (lo : Int)) ∧ w'.cell? ⟨wr.heap.size, 1, none⟩ = some (.int .i64 (hi : Int)) ∧ w'.cell? ⟨wr.heap.size, 2, none⟩ = some (.int .i64 le) ∧ w'.cell? ⟨wr.heap.size, 3, none⟩ = some (.int .i64 mo) ∧ w'.cell? ⟨w.heap.size, hi, none⟩ = some (.int .i64 y)) ((V1.setCell ⟨w.heap.size, lo, none⟩ (.int .i64 (y - le))).drew) from by
                  obtain ⟨s0, s1, s2, s3⟩ := ST.out.2.2
                  have su := ST.out.1.cells (g := w.heap.size) rfl hi _ (intCells_at (show (Q1.set lo (y - le))[hi]? = some y from by rw [List.getElem?_set_ne (by omega), gD_at (show hi < Q1.length by have := QL1.out; omega), hy]))
                  rw [add_plain, Nat.zero_add] at su
                  exact ⟨s0, s1, s2, s3, su⟩)
                have NE2 := Lib.hid (show ¬ Q1.set lo (y - le) = o from by have := NE.out; rw [hy] at this; exact this)
                clear NE ly ly2 tb hq hy
                go_wp2
                go_region_held3 (fun w' => w'.cell? ⟨wr.heap.size, 0, none⟩ = some (.int .i64 (lo : Int)) ∧ w'.cell? ⟨wr.heap.size, 1, none⟩ = some (.int .i64 (hi : Int)) ∧ w'.cell? ⟨wr.heap.size, 2, none⟩ = some (.int .i64 le) ∧ w'.cell? ⟨wr.heap.size, 3, none⟩ = some (.int .i64 mo) ∧ w'.cell? ⟨w.heap.size, hi, none⟩ = some (.int .i64 y)) (first | exact KS.out | go_keep) (fail)
                go_wp2
                go_roundw
                case rel =>
                  refine ⟨t + 1, relaxE Q1 (hi, lo, -le), true, by omega, by go_num, rfl, ?_, ⟨fun _ => by rw [HQY.out]; exact NE2.out, fun _ => rfl⟩, by rw [relax_len]; exact QL1.out, fun v => Int.le_trans (relax_le _ _ _) (QE1.out v), (L1.out.relax (hi, lo, -le) (by simp only []; omega)).mono (by omega), by rw [HQY.out]; exact ST.out.1, ST.out.2.1⟩
                  rw [TK.out, List.foldl_append, ← HQ0.out]
                  show relaxE Q1 _ = relaxE (relaxE Q0 _) _
                  rw [HQ1.out]
                case measure => simp [intOf]; omega

            · obtain rfl : t = xs.length := by omega
              have RD := Lib.hid (show Q0 = roundE (clE xs) o from by rw [hq0, List.take_of_length_le (Nat.le_refl _)]; rfl)
              have OQ := Lib.hid hown
              have BQ := Lib.hid hbel
              have SX := Lib.hid (show reachE (clE xs) (j + 1 - r) o = if roundE (clE xs) o = o then (o, true) else reachE (clE xs) (j + 1 - (r + 1)) (roundE (clE xs) o) from by
                rw [show j + 1 - r = (j + 1 - (r + 1)) + 1 from by omega]; rfl)
              have hr48 : xs.length ≤ 24 := hl24
              clear hq0 hown hbel
              cases ch with
              | false =>
                have EQ : Q0 = o := Classical.byContradiction fun hn => by have := hch.2 hn; cases this
                have E := Lib.hid (show reachL j xs k = (Q0, true) from by rw [RE.out, SX.out, if_pos (by rw [← RD.out]; exact EQ), EQ])
                clear hch EQ
                go_wp2
                go_ret2
                exact ⟨_, by rw [E.out]; rfl, by rw [E.out]; exact OQ.out, BQ.out⟩
              | true =>
                have NE : ¬ Q0 = o := hch.1 rfl
                have E := Lib.hid (show reachL j xs k = reachE (clE xs) (j + 1 - (r + 1)) Q0 from by rw [RE.out, SX.out, if_neg (by rw [← RD.out]; exact NE), ← RD.out])
                clear hch NE
                go_wp2
                go_roundw
                case rel => exact ⟨r + 1, Q0, by omega, hql, by go_num, E.out, L0'.out.mono (by omega), OQ.out, BQ.out⟩
                case measure => simp [intOf]; omega
        · obtain rfl : r = j + 1 := by omega
          have E := Lib.hid (show reachL j xs k = (o, false) from by rw [hre, Nat.sub_self]; rfl)
          clear hre hlow hown hbel
          go_wp2
          go_ret2
          exact ⟨_, by rw [E.out]; rfl, by rw [E.out]; exact O.out, B.out⟩
end Go.Proofs.Ytobpgoiaimlonaa
namespace Go.Proofs.Ytobpgoiaimlonaa
open Go.RowKit

/-- The list comes out, in the slice that was handed in or in a row of the call's own. -/
def ReadsPut (a : Option Addr) (len cap : Nat) (zs : List Int) (w : World) (e : Ending) (w' : World) : Prop := ∃ h : Hd, e = .returned (.slice h.a h.n h.c) ∧ IsInts w' h.a h.n h.c zs ∧ Below w.heap.size w w' ∧ ((h.a = a ∧ h.n = len ∧ h.c = cap) ∨ w'.ownsRow w.heap.size 3 1 (.slice h.a h.n h.c) zs.length (intCells zs))
set_option maxHeartbeats 25600000 in
set_option maxRecDepth 100000 in
theorem l1PutO_any (a : Option Addr) (len cap : Nat) (zs : List Int) (n : Int) (w : World) (h : IsInts w a len cap zs) (hx : zs.length ≤ 1000) :
    Calls Try.prog 87 #[.slice a len cap, .int .i64 n] w (ReadsPut a len cap (putN n zs) w) := by
  obtain ⟨i1, hi1, hy0, hy1, hy2⟩ := info_parts infoInt
  have hm := h.2.2.1
  have hcl := h.2.1
  unfold maxLen at hm
  have S := Lib.hid h
  have L := Lib.hid h.1
  have hl10 : len ≤ 1000 := by have := h.1; omega
  clear h
  go_enter Try.func87, Try.ntmps87
  go_wp2
  go_loop [5] (fun i => ∃ k : Nat, k ≤ len ∧ i = .int .i64 k ∧ ∀ (j : Nat) z, j < k → zs[j]? = some z → z < n) (fun i => len - (intOf i).toNat)
  case atStart => exact ⟨0, Nat.zero_le _, rfl, fun _ _ h => by omega⟩
  case round =>
    obtain ⟨k, hk, rfl, hall⟩ := hrel
    have A := Lib.hid hall
    clear hall
    have k0 : (0 : Int) ≤ (k : Int) := by omega
    have kl : (k : Int) ≤ (len : Int) := by omega
    have kc : k ≤ cap := by omega
    have kc2 : (k : Int) ≤ (cap : Int) := by omega
    by_cases hlt : k < len
    · obtain ⟨z, hz⟩ := el_at L hlt
      obtain ⟨b, o, rfl, hb, hat⟩ := S.out.at (by omega)
      have c0 := hat k z hz
      have AT := Lib.hid hat
      have Z := Lib.hid hz
      have hi1' : (k : Int) < (len : Int) := by omega
      clear hz hat
      by_cases hzn : z < n
      · go_wp2
        go_round
        case rel => exact ⟨k + 1, by omega, by go_num, fun j y hj hy => by
          by_cases e : j = k
          · subst e; rw [Z.out] at hy; cases hy; exact hzn
          · exact A.out j y (by omega) hy⟩
        case measure => simp [intOf]; omega
      · have PA := Lib.hid (putN_at A.out (fun y hy => by rw [Z.out] at hy; cases hy; exact hzn) (by have := L.out; omega) : putN n zs = if zs[k]? = some n then zs else zs.take k ++ n :: zs.drop k)
        by_cases hze : z = n
        · have E := Lib.hid (show putN n zs = zs from by rw [PA.out, Z.out, if_pos (by rw [hze])])
          have hb1 : (z == n) = true := by simpa using hze
          subst hze
          go_wp2
          go_ret
          exact ⟨⟨_, len, cap⟩, rfl, by rw [E.out]; exact S.out, Below.refl _ _, .inl ⟨rfl, rfl, rfl⟩⟩
        · have E := Lib.hid (show putN n zs = zs.take k ++ n :: zs.drop k from by rw [PA.out, Z.out, if_neg (fun e => hze (Option.some.inj e))])
          have hb1 : (z == n) = false := by simpa using hze
          have hcj : ¬ cap = k := by omega
          clear PA
          go_wp2_with fail
          refine wp_world (fun W => Below w.heap.size w W) (by first | exact Below.refl _ _ | exact bel_drawn _ _) ?_
          intro W hbw
          have BW := Lib.hid hbw
          have hW0 := hbw.size
          clear hbw c0
          have hj' : k ≤ len := hk
          go_region_law (first
            | (refine step_append_some (by rfl) (.tmp 33) (.tmp 36) 25 (by rfl) W.heap.size 3 i1 (.int .i64 0) 1 8 Try.underlying25 hi1 hy0 hy1 hy2 (by rfl) (by decide) _ (by simp [Act.eval]; rfl) _ _ 0 [] (by rfl) (by first | exact made_intsN W.drew W.heap.size (Nat.le_refl _) | exact (made_intsN W.drew W.heap.size (Nat.le_refl _)).alloc (.cells #[.int .i64 n] 3) | exact madeLaterN W (.cells #[.int .i64 n] 3)) _ (by simp [Act.eval]; rfl) _ k _ (intCells (zs.take k)) (by rfl) (by first | exact srcInts_takeN (S.out.below (belDAN BW.out _)) hj' | exact srcInts_takeN (S.out.below (belDAAN BW.out _ _)) hj') (one_intsN _) (by unfold maxLen; omega) (by omega) (by first | exact (belDAN (Below.refl W.heap.size W) _).size | exact (belDAAN (Below.refl W.heap.size W) _ _).size) ?_; intro g5 c5 w5 hown5 hgrow5 hn5 hc5 hg5 hl5; rw [Nat.zero_add, List.nil_append] at hown5; have O5 := Lib.hid hown5; have hs5 : W.heap.size ≤ w5.heap.size := by omega
               have B5 := Lib.hid (show Below w.heap.size w w5 from by first | exact (belDAN BW.out _).grown hgrow5 (belDAN BW.out _).size (fun j e => by cases e; omega) | exact (belDAAN BW.out _ _).grown hgrow5 (belDAAN BW.out _ _).size (fun j e => by cases e; omega))
               try have N5 := Lib.hid (lit_LN hgrow5)
               try have N5 := Lib.hid (lit_MN hgrow5)
               clear hown5 hgrow5)
            | (refine step_append_some (by rfl) (.tmp 37) (.tmp 39) 25 (by rfl) W.heap.size 3 i1 (.int .i64 0) 1 8 Try.underlying25 hi1 hy0 hy1 hy2 (by rfl) (by decide) _ (by simp [Act.eval]; rfl) g5 c5 k (intCells (zs.take k)) (by rfl) (by first | exact O5.out | exact O5.out.alloc _) _ (by simp [Act.eval]; rfl) _ 1 1 [.int .i64 n] (by rfl) (by first | exact src_oneN N5.out | exact src_oneN (cell_box w5 (.int .i64 n) 3 _ rfl)) (one_intN n) (by unfold maxLen; omega) (by omega) (by first | exact hs5 | exact Nat.le_trans hs5 (bel_al1 w5 _).size) ?_; intro g6 c6 w6 hown6 hgrow6 hn6 hc6 hg6 hl6; have O6 := Lib.hid hown6; have hs6 : W.heap.size ≤ w6.heap.size := by omega
               have B6 := Lib.hid (show Below w.heap.size w w6 from by first | exact B5.out.grown hgrow6 B5.out.size (fun j e => by cases e; omega) | exact (Below.then' B5.out (bel_al1 _ _)).grown hgrow6 (Below.then' B5.out (bel_al1 _ _)).size (fun j e => by cases e; omega))
               clear hown6 hgrow6)
            | (refine step_append_some (by rfl) (.tmp 40) (.tmp 43) 25 (by rfl) W.heap.size 3 i1 (.int .i64 0) 1 8 Try.underlying25 hi1 hy0 hy1 hy2 (by rfl) (by decide) _ (by simp [Act.eval]; rfl) g6 c6 (k + 1) (intCells (zs.take k) ++ [.int .i64 n]) (by rfl) O6.out _ (by simp [Act.eval]; rfl) _ (len - k) _ (intCells (zs.drop k)) (by rfl) (srcInts_dropN (S.out.below B6.out) hj') (one_intsN _) (by unfold maxLen; omega) (by omega) hs6 ?_; intro g7 c7 w7 hown7 hgrow7 hn7 hc7 hg7 hl7
               have O7 := Lib.hid hown7
               have B7 := Lib.hid (show Below w.heap.size w w7 from B6.out.grown hgrow7 B6.out.size (fun j e => by cases e; omega))
               clear hown7 hgrow7))
          all_goals go_wp2
          all_goals go_ret
          all_goals
            have h := O7.out
            have hln : k + 1 + (len - k) = (zs.take k ++ n :: zs.drop k).length := by have := L.out; rw [List.length_append, List.length_take, List.length_cons, List.length_drop]; omega
            rw [show intCells (zs.take k) ++ [Value.int .i64 n] ++ intCells (zs.drop k) = intCells (zs.take k ++ n :: zs.drop k) from by simp [intCells]] at h
            refine ⟨⟨_, _, _⟩, rfl, by rw [E.out]; exact ints_putN h hln, B7.out, .inr ?_⟩
            rw [E.out]
            exact hln ▸ ownsRow_base h hW0
    · obtain rfl : k = len := by omega
      have E := Lib.hid (show putN n zs = zs ++ [n] from by
        have hz : zs.length ≤ k := by have := L.out; omega
        have h := putN_at (zs := zs) (k := k) A.out (fun y hy => by rw [List.getElem?_eq_none hz] at hy; cases hy) (by have := L.out; omega)
        rw [h, if_neg (by rw [List.getElem?_eq_none hz]; simp), List.take_of_length_le hz, List.drop_of_length_le hz])
      have TK := Lib.hid (show zs.take k = zs from List.take_of_length_le (by have := L.out; omega))
      have hj' : k ≤ k := Nat.le_refl _
      go_wp2_with fail
      refine wp_world (fun W => Below w.heap.size w W) (by first | exact Below.refl _ _ | exact bel_drawn _ _) ?_
      intro W hbw
      have BW := Lib.hid hbw
      have hW0 := hbw.size
      clear hbw
      by_cases hcj : cap = k
      all_goals rcases a with _ | p
      all_goals
          go_region_law (first
            | (refine step_append_optN (by rfl) (.tmp 33) (.tmp 36) 25 (by rfl) W.heap.size 3 i1 (.int .i64 0) 1 8 Try.underlying25 hi1 hy0 hy1 hy2 (by rfl) (by decide) _ (by simp [Act.eval] <;> rfl) 0 [] (by first | exact made_intsN W.drew W.heap.size (Nat.le_refl _) | exact (made_intsN W.drew W.heap.size (Nat.le_refl _)).alloc (.cells #[.int .i64 n] 3) | exact madeLaterN W (.cells #[.int .i64 n] 3)) _ (by simp [Act.eval] <;> rfl) _ k _ (intCells (zs.take k)) (by rfl) (by first | exact srcInts_takeN (S.out.below (belDAN BW.out _)) hj' | exact srcInts_takeN (S.out.below (belDAAN BW.out _ _)) hj') (one_intsN _) (by unfold maxLen; omega) (by omega) (by first | exact (belDAN (Below.refl W.heap.size W) _).size | exact (belDAAN (Below.refl W.heap.size W) _ _).size) ?_; intro v5 w5 hown5 hgrow5; rw [Nat.zero_add, List.nil_append] at hown5; have O5 := Lib.hid hown5
               have B5W := Lib.hid (show Below W.heap.size W w5 from by first | exact (belDAN (Below.refl _ W) _).grown hgrow5 (belDAN (Below.refl _ W) _).size (fun j e => by have := own_is e; omega) | exact (belDAAN (Below.refl _ W) _ _).grown hgrow5 (belDAAN (Below.refl _ W) _ _).size (fun j e => by have := own_is e; omega))
               have hs5 : W.heap.size ≤ w5.heap.size := B5W.out.size
               have B5 := Lib.hid (Below.then' BW.out B5W.out)
               try have N5 := Lib.hid (lit_LN hgrow5)
               try have N5 := Lib.hid (lit_MN hgrow5)
               clear hown5 hgrow5)
            | (refine step_append_optN (by rfl) (.tmp 37) (.tmp 39) 25 (by rfl) W.heap.size 3 i1 (.int .i64 0) 1 8 Try.underlying25 hi1 hy0 hy1 hy2 (by rfl) (by decide) _ (by simp [Act.eval] <;> rfl) k (intCells (zs.take k)) (by first | exact O5.out | exact O5.out.alloc _) _ (by simp [Act.eval] <;> rfl) _ 1 1 [.int .i64 n] (by rfl) (by first | exact src_oneN N5.out | exact src_oneN (cell_box w5 (.int .i64 n) 3 _ rfl)) (one_intN n) (by unfold maxLen; omega) (by omega) (by first | exact hs5 | exact Nat.le_trans hs5 (bel_al1 w5 _).size) ?_; intro v6 w6 hown6 hgrow6; have O6 := Lib.hid hown6
               have B6 := Lib.hid (show Below w.heap.size w w6 from by first | exact B5.out.grown hgrow6 B5.out.size (fun j e => Nat.le_trans hW0 (O5.out.lt j e).1) | exact (Below.then' B5.out (bel_al1 _ _)).grown hgrow6 (Below.then' B5.out (bel_al1 _ _)).size (fun j e => Nat.le_trans hW0 (O5.out.lt j e).1))
               have hs6 : W.heap.size ≤ w6.heap.size := by first | exact (B5W.out.grown hgrow6 B5W.out.size (fun j e => (O5.out.lt j e).1)).size | exact ((Below.then' B5W.out (bel_al1 _ _)).grown hgrow6 (Below.then' B5W.out (bel_al1 _ _)).size (fun j e => (O5.out.lt j e).1)).size
               clear hown6 hgrow6)
            | (refine step_append_optN (by rfl) (.tmp 40) (.tmp 43) 25 (by rfl) W.heap.size 3 i1 (.int .i64 0) 1 8 Try.underlying25 hi1 hy0 hy1 hy2 (by rfl) (by decide) _ (by simp [Act.eval] <;> rfl) (k + 1) (intCells (zs.take k) ++ [.int .i64 n]) O6.out _ (by simp [Act.eval] <;> rfl) _ 0 _ [] (by rfl) ⟨rfl, .inl rfl⟩ (by simp) (by unfold maxLen; omega) (by omega) hs6 ?_; intro v7 w7 hown7 hgrow7
               have O7 := Lib.hid hown7
               have B7 := Lib.hid (show Below w.heap.size w w7 from B6.out.grown hgrow7 B6.out.size (fun j e => Nat.le_trans hW0 (O6.out.lt j e).1))
               clear hown7 hgrow7))
          all_goals go_wp2
          all_goals go_ret
          all_goals
            have h := O7.out
            rw [TK.out, show intCells zs ++ [Value.int .i64 n] ++ [] = intCells (zs ++ [n]) from by simp [intCells], show k + 1 + 0 = (zs ++ [n]).length from by have := L.out; rw [List.length_append, List.length_singleton]; omega] at h
            obtain ⟨a', c', e', h', _⟩ := isInts_own h
            rw [e']
            exact ⟨⟨a', (zs ++ [n]).length, c'⟩, rfl, by rw [E.out]; exact h', B7.out, .inr (by rw [E.out]; exact e' ▸ ownsRow_base h hW0)⟩
end Go.Proofs.Ytobpgoiaimlonaa
namespace Go.Proofs.Ytobpgoiaimlonaa
open Go.RowKit

set_option maxHeartbeats 3200000 in
set_option maxRecDepth 100000 in
theorem l1Has_any (a : Option Addr) (len cap : Nat) (xs : List Int) (x : Int) (w : World) (h : IsInts w a len cap xs) :
    Calls Try.prog 86 #[.slice a len cap, .int .i64 x] w fun e w' => e = .returned (.bool (hasB x xs)) ∧ w = w' := by
  obtain rfl := h.1
  have hm := h.2.2.1
  have hcl := h.2.1
  unfold maxLen at hm
  have S := Lib.hid h
  clear h
  go_enter Try.func86, Try.ntmps86
  go_wp2
  go_loop [5] (fun i => ∃ k : Nat, k ≤ xs.length ∧ i = .int .i64 k ∧ ∀ j y, j < k → xs[j]? = some y → ¬ y = x) (fun i => xs.length - (intOf i).toNat)
  case atStart => exact ⟨0, Nat.zero_le _, rfl, fun _ _ h => by omega⟩
  case round =>
    obtain ⟨k, hk, rfl, hno⟩ := hrel
    have NO := Lib.hid hno
    clear hno
    by_cases hlt : k < xs.length
    · obtain ⟨s, hs⟩ : ∃ s, xs[k]? = some s := ⟨xs[k]'hlt, List.getElem?_eq_getElem _⟩
      obtain ⟨b, o, rfl, hb, hat⟩ := S.out.at (by omega)
      have c0 := hat k s hs
      have hi0 : (0 : Int) ≤ (k : Int) := by omega
      have hi1 : (k : Int) < (xs.length : Int) := by omega
      have HS := Lib.hid hs
      clear hs hat
      by_cases he : s = x
      · have Y := Lib.hid (show hasB x xs = true from hasB_iff.2 (he ▸ List.mem_of_getElem? HS.out))
        have hb1 : (s == x) = true := by simpa using he
        subst he
        go_wp2
        go_ret
        exact ⟨ret_bool Y.out.symm, rfl⟩
      · have hb1 : (s == x) = false := by simpa using he
        have HE := Lib.hid he
        clear he
        go_wp2
        go_round
        case rel => exact ⟨k + 1, by omega, by go_num, fun j y hj hy => by
          by_cases e : j = k
          · subst e; rw [HS.out] at hy; cases hy; exact HE.out
          · exact NO.out j y (by omega) hy⟩
        case measure => simp [intOf]; omega
    · obtain rfl : k = xs.length := by omega
      have Y := Lib.hid (show hasB x xs = false from by
        rw [← Bool.not_eq_true, hasB_iff]
        intro h
        obtain ⟨j, hj⟩ := List.getElem?_of_mem h
        exact NO.out j x (List.getElem?_eq_some_iff.1 hj).1 hj rfl)
      go_wp2
      go_ret
      exact ⟨ret_bool Y.out.symm, rfl⟩
end Go.Proofs.Ytobpgoiaimlonaa
namespace Go.Proofs.Ytobpgoiaimlonaa
open Go.RowKit

theorem isInts_same {w : World} {a : Option Addr} {n c : Nat} {xs ys : List Int} (h : IsInts w a n c xs) (h' : IsInts w a n c ys) : xs = ys := by
  have e1 := h.1
  have e2 := h'.1
  apply List.ext_getElem?
  intro j
  by_cases hj : j < xs.length
  · obtain ⟨b, o, rfl, _, hat⟩ := h.at (by omega)
    obtain ⟨b', o', e, _, hat'⟩ := h'.at (by omega)
    cases e
    have h1 : xs[j]? = some xs[j] := List.getElem?_eq_getElem hj
    have h2 : ys[j]? = some (ys[j]'(by omega)) := List.getElem?_eq_getElem (by omega)
    have c1 := hat j _ h1
    have c2 := hat' j _ h2
    rw [c1] at c2
    rw [h1, h2]
    injection c2 with c2
    injection c2 with _ c2
    rw [c2]
  · rw [List.getElem?_eq_none (by omega), List.getElem?_eq_none (by omega)]
theorem put_own {lo : Nat} {W W' : World} {a : Option Addr} {n c : Nat} {L L' : List Int} {h : Hd} (O : W.ownsRow lo 3 1 (.slice a n c) L.length (intCells L)) (hlo : lo ≤ W.heap.size) (hb : Below W.heap.size W W') (hi : IsInts W' h.a h.n h.c L') (hd : (h.a = a ∧ h.n = n ∧ h.c = c) ∨ W'.ownsRow W.heap.size 3 1 (.slice h.a h.n h.c) L'.length (intCells L')) : W'.ownsRow lo 3 1 (.slice h.a h.n h.c) L'.length (intCells L') := by
  rcases hd with ⟨h1, h2, h3⟩ | hd
  · obtain ⟨a', c', e, hi', _⟩ := isInts_own O
    injection e with e1 e2 e3
    subst e1 e2 e3
    rw [h1, h2, h3] at hi ⊢
    have := isInts_same hi (hi'.below hb)
    subst this
    exact ownsRow_below O hb
  · exact ownsRow_base hd hlo
theorem prsC_take {xs : List VClaim} {t : Nat} {x : VClaim} (h : xs[t]? = some x) (L : List Int) : (prsC (xs.take (t + 1))).foldl tieStep L = tieStep ((prsC (xs.take t)).foldl tieStep L) (x.Low, x.High) := by
  rw [List.take_add_one, h]; simp [prsC]
theorem tied_len {n : Nat} {xs : List VClaim} {k : Nat} (hc : areCl (n : Int) xs = true) (hk : k < n) (r t : Nat) : ((prsC (xs.take t)).foldl tieStep (tieRounds (prsC xs) r [(k : Int)])).length ≤ n := by
  obtain ⟨h1, h2, h3, _⟩ := tieRounds_facts (P := prsC xs) (k := (k : Int)) r
  obtain ⟨g1, g2, _⟩ := tieFold (P := prsC xs) (k := (k : Int)) (prsC (xs.take t)) (fun p hp => by
    obtain ⟨x, hx, rfl⟩ := List.mem_map.1 hp
    exact List.mem_map.2 ⟨x, List.mem_of_mem_take hx, rfl⟩) _ h1 h2
  exact rises_len g1 fun v hv => conn_lt (areCl_prs hc) (by omega) (g2 v hv)
set_option maxHeartbeats 6400000 in
set_option maxRecDepth 100000 in
theorem l8Tied_any (n k : Nat) (a : Option Addr) (len cap : Nat) (xs : List VClaim) (w : World) (h : IsClaimS w a len cap xs) (hc : areCl (n : Int) xs = true) (hk : k < n) :
    Calls Try.prog 72 #[.int .i64 (n : Int), .slice a len cap, .int .i64 (k : Int)] w fun e w' => ∃ v, e = .returned v ∧ w'.ownsRow w.heap.size 3 1 v (tiedL n (prsC xs) (k : Int)).length (intCells (tiedL n (prsC xs) (k : Int))) ∧ Below w.heap.size w w' := by
  have hm := h.2.2.1
  have hcl := h.2.1
  unfold maxLen at hm
  obtain rfl := h.1
  have hn := (areCl_iff.1 hc).2.1
  have S := Lib.hid h
  have C := Lib.hid hc
  have O1 := Lib.hid (show (w.alloc (.cells #[.int .i64 (k : Int)] 3)).ownsRow w.heap.size 3 1 (.slice (some ⟨w.heap.size, 0, none⟩) 1 1) 1 (intCells (tieRounds (prsC xs) 0 [(k : Int)])) from World.ownsRow_lit (base := w.heap.size) (e := 3) (size := 1) w #[.int .i64 (k : Int)] 1 (Nat.le_refl _) (by decide) rfl)
  have B1 := Lib.hid (bel_al1 w (.cells #[.int .i64 (k : Int)] 3))
  clear h hc
  go_enter Try.func72, Try.ntmps72
  go_wp2
  go_loopw [8, 7] (fun i v wr => ∃ r : Nat, r ≤ n ∧ i = .int .i64 r ∧ wr.ownsRow w.heap.size 3 1 v (tieRounds (prsC xs) r [(k : Int)]).length (intCells (tieRounds (prsC xs) r [(k : Int)])) ∧ Below w.heap.size w wr) (fun i _ _ => n - (intOf i).toNat)
  case atStart => exact ⟨0, Nat.zero_le _, rfl, O1.out, B1.out⟩
  case round =>
    obtain ⟨r, hr, rfl, hown, hbel⟩ := hrel
    have O := Lib.hid hown
    have B := Lib.hid hbel
    by_cases hlr : r < n
    · have hlr2 : (r : Int) < (n : Int) := by omega
      have LN := Lib.hid (fun t => tied_len C.out hk r t)
      have NX := Lib.hid (show (prsC xs).foldl tieStep (tieRounds (prsC xs) r [(k : Int)]) = tieRounds (prsC xs) (r + 1) [(k : Int)] from rfl)
      obtain ⟨L0, hL0⟩ : ∃ L0, tieRounds (prsC xs) r [(k : Int)] = L0 := ⟨_, rfl⟩
      rw [hL0] at O LN NX
      clear hown hbel hL0
      go_wp2
      rename World => wq
      go_loopw [9, 7] (fun i v wr => ∃ (t : Nat) (L : List Int), t ≤ xs.length ∧ i = .int .i64 t ∧ L = (prsC (xs.take t)).foldl tieStep L0 ∧ wr.ownsRow w.heap.size 3 1 v L.length (intCells L) ∧ Below w.heap.size w wr) (fun i _ _ => xs.length - (intOf i).toNat)
      case atStart => exact ⟨0, L0, Nat.zero_le _, rfl, rfl, O.out, B.out⟩
      case round =>
        obtain ⟨t, L, ht, rfl, hL, hown, hbel⟩ := hrel
        have HL := Lib.hid hL
        have O2 := Lib.hid hown
        have B2 := Lib.hid hbel
        by_cases hlt : t < xs.length
        · obtain ⟨x, hx⟩ : ∃ x, xs[t]? = some x := ⟨xs[t]'hlt, List.getElem?_eq_getElem _⟩
          obtain ⟨b, o, rfl, hbw, hat⟩ := (S.out.below hbel).at (by omega)
          obtain ⟨c0, c1, c2, c3⟩ := hat t x hx
          have K := Lib.hid hx
          have ST := Lib.hid (prsC_take hx L0)
          have LE := Lib.hid (show L.length ≤ n from by rw [hL]; exact LN.out t)
          obtain ⟨va, vc, rfl, his, _⟩ := isInts_own hown
          have IS := Lib.hid his
          rw [← hL] at ST
          obtain ⟨r1, hr1⟩ : ∃ r, hasB x.Low L = r := ⟨_, rfl⟩
          obtain ⟨r2, hr2⟩ : ∃ r, hasB x.High L = r := ⟨_, rfl⟩
          have R1 := Lib.hid hr1
          have R2 := Lib.hid hr2
          have TS := Lib.hid (show tieStep L (x.Low, x.High) = if r1 = true ∨ r2 = true then putN x.High (putN x.Low L) else L from by unfold tieStep; rw [← hr1, ← hr2])
          have i0 : (0 : Int) ≤ (t : Int) := by omega
          have i1 : (t : Int) < (xs.length : Int) := by omega
          have LL : L.length ≤ 1000 := by have := LE.out; omega
          have LL2 : (putN x.Low L).length ≤ 1000 := by have h1 := LE.out; have h2 := putN_len x.Low L; omega
          have hws := B2.out.size
          clear hL hown hbel hx hat his hr1 hr2
          go_wp2_with fail
          refine (l1Has_any _ _ _ L x.Low _ IS.out).mono ?_
          rintro e w' ⟨rfl, rfl⟩
          rw [R1.out]
          cases r1 with
          | true =>
            have TE := Lib.hid (show (prsC (xs.take (t + 1))).foldl tieStep L0 = putN x.High (putN x.Low L) from by rw [ST.out, TS.out, if_pos (.inl rfl)])
            go_wp2
            have cLo := c0
            have cHi := c1
            have KD := Lib.hid (show Below wr.heap.size wr wr.drew ∧ wr.drew.cell? ⟨b, o + t * 4, none⟩ = some (.int .i64 x.Low) ∧ wr.drew.cell? ⟨b, o + t * 4 + 1, none⟩ = some (.int .i64 x.High) from ⟨(Below.refl _ _).drew, c0, c1⟩)
            have KP := Lib.hid (show ∀ u1 u2 : World, (Below wr.heap.size wr u1 ∧ u1.cell? ⟨b, o + t * 4, none⟩ = some (.int .i64 x.Low) ∧ u1.cell? ⟨b, o + t * 4 + 1, none⟩ = some (.int .i64 x.High)) → Below u1.heap.size u1 u2 → (Below wr.heap.size wr u2 ∧ u2.cell? ⟨b, o + t * 4, none⟩ = some (.int .i64 x.Low) ∧ u2.cell? ⟨b, o + t * 4 + 1, none⟩ = some (.int .i64 x.High)) from fun u1 u2 h hb => ⟨Below.then' h.1 hb, cell_stay h.2.1 hb, cell_stay h.2.2 hb⟩)
            have ISD := Lib.hid (show IsInts wr.drew va L.length vc L from IS.out)
            have OD := Lib.hid (show wr.drew.ownsRow w.heap.size 3 1 (.slice va L.length vc) L.length (intCells L) from O2.out)
            have hwd : w.heap.size ≤ wr.drew.heap.size := hws
            clear c0 c1 c2 c3
            go_region_held3 (fun w' => Below wr.heap.size wr w' ∧ w'.cell? ⟨b, o + t * 4, none⟩ = some (.int .i64 x.Low) ∧ w'.cell? ⟨b, o + t * 4 + 1, none⟩ = some (.int .i64 x.High))
              (first | exact KD.out | exact KP.out _ _ (by assumption) (by assumption))
              (first | (go_at_call 87; refine (l1PutO_any h5.a h5.n h5.c (putN x.Low L) x.High _ I5.out LL2).mono ?_; rintro e w6 ⟨h6, rfl, hi6, hb6, hd6⟩) | (go_at_call 87; refine (l1PutO_any va L.length vc L x.Low _ ISD.out LL).mono ?_; rintro e w5 ⟨h5, rfl, hi5, hb5, hd5⟩; have I5 := Lib.hid hi5))
            have O5 := Lib.hid (put_own OD.out hwd hb5 I5.out hd5)
            have hw5 : w.heap.size ≤ w5.heap.size := Nat.le_trans hwd hb5.size
            have O6 := Lib.hid (put_own O5.out hw5 hb6 hi6 hd6)
            have B6 := Lib.hid (Below.then' (bel_drew' B2.out) (Below.then' hb5 hb6))
            clear hb5 hb6 hi6 hd5 hd6 cLo cHi
            go_wp2
            go_roundw
            case rel => exact ⟨t + 1, _, by omega, by go_num, TE.out.symm, O6.out, B6.out⟩
            case measure => simp [intOf]; omega
          | false =>
            go_wp2_with fail
            refine (l1Has_any _ _ _ L x.High _ IS.out).mono ?_
            rintro e w' ⟨rfl, rfl⟩
            rw [R2.out]
            cases r2 with
            | true =>
              have TE := Lib.hid (show (prsC (xs.take (t + 1))).foldl tieStep L0 = putN x.High (putN x.Low L) from by rw [ST.out, TS.out, if_pos (.inr rfl)])
              go_wp2
              have cLo := c0
              have cHi := c1
              have KD := Lib.hid (show Below wr.heap.size wr wr.drew ∧ wr.drew.cell? ⟨b, o + t * 4, none⟩ = some (.int .i64 x.Low) ∧ wr.drew.cell? ⟨b, o + t * 4 + 1, none⟩ = some (.int .i64 x.High) from ⟨(Below.refl _ _).drew, c0, c1⟩)
              have KP := Lib.hid (show ∀ u1 u2 : World, (Below wr.heap.size wr u1 ∧ u1.cell? ⟨b, o + t * 4, none⟩ = some (.int .i64 x.Low) ∧ u1.cell? ⟨b, o + t * 4 + 1, none⟩ = some (.int .i64 x.High)) → Below u1.heap.size u1 u2 → (Below wr.heap.size wr u2 ∧ u2.cell? ⟨b, o + t * 4, none⟩ = some (.int .i64 x.Low) ∧ u2.cell? ⟨b, o + t * 4 + 1, none⟩ = some (.int .i64 x.High)) from fun u1 u2 h hb => ⟨Below.then' h.1 hb, cell_stay h.2.1 hb, cell_stay h.2.2 hb⟩)
              have ISD := Lib.hid (show IsInts wr.drew va L.length vc L from IS.out)
              have OD := Lib.hid (show wr.drew.ownsRow w.heap.size 3 1 (.slice va L.length vc) L.length (intCells L) from O2.out)
              have hwd : w.heap.size ≤ wr.drew.heap.size := hws
              clear c0 c1 c2 c3
              go_region_held3 (fun w' => Below wr.heap.size wr w' ∧ w'.cell? ⟨b, o + t * 4, none⟩ = some (.int .i64 x.Low) ∧ w'.cell? ⟨b, o + t * 4 + 1, none⟩ = some (.int .i64 x.High))
                (first | exact KD.out | exact KP.out _ _ (by assumption) (by assumption))
                (first | (go_at_call 87; refine (l1PutO_any h5.a h5.n h5.c (putN x.Low L) x.High _ I5.out LL2).mono ?_; rintro e w6 ⟨h6, rfl, hi6, hb6, hd6⟩) | (go_at_call 87; refine (l1PutO_any va L.length vc L x.Low _ ISD.out LL).mono ?_; rintro e w5 ⟨h5, rfl, hi5, hb5, hd5⟩; have I5 := Lib.hid hi5))
              have O5 := Lib.hid (put_own OD.out hwd hb5 I5.out hd5)
              have hw5 : w.heap.size ≤ w5.heap.size := Nat.le_trans hwd hb5.size
              have O6 := Lib.hid (put_own O5.out hw5 hb6 hi6 hd6)
              have B6 := Lib.hid (Below.then' (bel_drew' B2.out) (Below.then' hb5 hb6))
              clear hb5 hb6 hi6 hd5 hd6 cLo cHi
              go_wp2
              go_roundw
              case rel => exact ⟨t + 1, _, by omega, by go_num, TE.out.symm, O6.out, B6.out⟩
              case measure => simp [intOf]; omega
            | false =>
              have TE := Lib.hid (show (prsC (xs.take (t + 1))).foldl tieStep L0 = L from by rw [ST.out, TS.out, if_neg (by simp)])
              go_wp2
              go_roundw
              case rel => exact ⟨t + 1, L, by omega, by go_num, TE.out.symm, O2.out, B2.out⟩
              case measure => simp [intOf]; omega
        · obtain rfl : t = xs.length := by omega
          have E := Lib.hid (show L = tieRounds (prsC xs) (r + 1) [(k : Int)] from by rw [hL, List.take_of_length_le (Nat.le_refl _)]; exact NX.out)
          clear hL hown hbel
          go_wp2
          go_roundw
          case rel => exact ⟨r + 1, by omega, by go_num, by rw [← E.out]; exact O2.out, B2.out⟩
          case measure => simp [intOf]; omega
    · obtain rfl : r = n := by omega
      clear hown hbel
      go_wp2
      go_ret
      exact ⟨_, rfl, O.out, B.out⟩
set_option maxHeartbeats 6400000 in
set_option maxRecDepth 100000 in
theorem specTiedMarks_any (n : Int) (a : Option Addr) (len cap : Nat) (xs : List VClaim) (k : Int) (w : World) (h : IsClaimS w a len cap xs) (_ : condClaim xs) :
    Calls Try.prog 29 #[.int .i64 n, .slice a len cap, .int .i64 k] w (TiedMarks_Post n xs k w) := by
  have S := Lib.hid h
  clear h
  obtain ⟨p, hp⟩ : ∃ p, areCl n xs = p := ⟨_, rfl⟩
  have PP := Lib.hid hp
  clear hp
  go_enter Try.func29, Try.ntmps29
  go_wp2_with fail
  refine (l8Good_any n _ _ _ xs _ S.out).mono ?_
  rintro e w1 ⟨rfl, hb⟩
  rw [PP.out]
  have B1 := Lib.hid hb
  have S1 := Lib.hid (S.out.below hb)
  have OE := Lib.hid (show OwnIntS w.heap.size (w1.alloc (.cells #[] 3)).heap.size (w1.alloc (.cells #[] 3)) (.slice (some ⟨w1.heap.size, 0, none⟩) 0 0) [] from OwnIn.of_row (ownsRow_base (made_ids w1) hb.size) (Nat.le_refl _) (Nat.le_refl _))
  have BE := Lib.hid (Below.then' hb (wh_al1 w1 (.cells #[] 3)))
  clear hb
  have no : tieB n xs k = false → TiedMarks_0 n xs k = [] ∧ TiedMarks_1 n xs k = false := fun hh => ⟨by unfold TiedMarks_0; rw [hh]; rfl, hh⟩
  have NO := Lib.hid no
  clear no
  cases p
  · have E := Lib.hid (NO.out (by unfold tieB; rw [PP.out]; rfl))
    go_wp2
    go_ret2
    exact ⟨_, by rw [E.out.2]; rfl, by rw [E.out.1]; exact OE.out, BE.out⟩
  by_cases h0 : k < 0
  · have E := Lib.hid (NO.out (by unfold tieB; rw [decide_eq_false (show ¬ 0 ≤ k by omega)]; simp))
    go_wp2
    go_ret2
    exact ⟨_, by rw [E.out.2]; rfl, by rw [E.out.1]; exact OE.out, BE.out⟩
  by_cases h1 : n ≤ k
  · have E := Lib.hid (NO.out (by unfold tieB; rw [decide_eq_false (show ¬ k < n by omega)]; simp))
    go_wp2
    go_ret2
    exact ⟨_, by rw [E.out.2]; rfl, by rw [E.out.1]; exact OE.out, BE.out⟩
  have hn := (areCl_iff.1 PP.out).2.1
  obtain ⟨j, rfl⟩ : ∃ j : Nat, n = (j : Int) := ⟨n.toNat, by omega⟩
  obtain ⟨i, rfl⟩ : ∃ i : Nat, k = (i : Int) := ⟨k.toNat, by omega⟩
  have hij : i < j := by omega
  have TB := Lib.hid (show tieB (j : Int) xs (i : Int) = true from by unfold tieB; rw [PP.out, decide_eq_true (show (0 : Int) ≤ (i : Int) by omega), decide_eq_true (show (i : Int) < (j : Int) by omega)]; rfl)
  have E0 := Lib.hid (show TiedMarks_0 (j : Int) xs (i : Int) = tiedL j (prsC xs) (i : Int) from by unfold TiedMarks_0; rw [TB.out]; rfl)
  have E1 := Lib.hid (show TiedMarks_1 (j : Int) xs (i : Int) = true from by unfold TiedMarks_1; rw [TB.out])
  clear hn OE BE
  go_wp2_with fail
  refine (l8Tied_any j i _ _ _ xs _ S1.out PP.out hij).mono ?_
  rintro e w3 ⟨v, rfl, hown, hb⟩
  have B3 := Lib.hid (Below.then' B1.out hb)
  have O := Lib.hid (show OwnIntS w.heap.size w3.heap.size w3 v (tiedL j (prsC xs) (i : Int)) from OwnIn.of_row (ownsRow_base hown B1.out.size) (Nat.le_refl _) (Nat.le_refl _))
  clear hown hb
  go_wp2
  go_ret2
  exact ⟨_, by rw [E1.out]; rfl, by rw [E0.out]; exact O.out, B3.out⟩
end Go.Proofs.Ytobpgoiaimlonaa
namespace Go.Proofs.Ytobpgoiaimlonaa
open Go.RowKit

theorem soundB_no {n : Nat} {xs : List VClaim} {k : Nat} (hk : k < n) (h : (reachL n xs k).2 = false) : soundB n xs = false := by
  unfold soundB soundN
  rw [List.all_eq_false]
  exact ⟨k, List.mem_range.2 hk, by show ¬ (reachL n xs k).2 = true; rw [h]; simp⟩
set_option maxHeartbeats 3200000 in
set_option maxRecDepth 100000 in
theorem l8Sound_any (n : Nat) (a : Option Addr) (len cap : Nat) (xs : List VClaim) (w : World) (h : IsClaimS w a len cap xs) (hc : areCl (n : Int) xs = true) :
    Calls Try.prog 76 #[.int .i64 (n : Int), .slice a len cap] w fun e w' => e = .returned (.bool (soundB n xs)) ∧ Below w.heap.size w w' := by
  have hn := (areCl_iff.1 hc).2.1
  have S := Lib.hid h
  have C := Lib.hid hc
  clear h hc
  go_enter Try.func76, Try.ntmps76
  go_wp2
  go_loopw [5] (fun i wr => ∃ k : Nat, k ≤ n ∧ i = .int .i64 k ∧ Below w.heap.size w wr ∧ ∀ t, t < k → (reachL n xs t).2 = true) (fun i _ => n - (intOf i).toNat)
  case atStart => exact ⟨0, Nat.zero_le _, rfl, Below.refl _ _, fun t ht => by omega⟩
  case round =>
    obtain ⟨k, hk, rfl, hbel, hall⟩ := hrel
    have A := Lib.hid hall
    have B := Lib.hid hbel
    clear hall
    by_cases hlt : k < n
    · have hlt2 : (k : Int) < (n : Int) := by omega
      obtain ⟨q, hq⟩ : ∃ q, (reachL n xs k).2 = q := ⟨_, rfl⟩
      have Q := Lib.hid hq
      clear hbel hq
      go_wp2_with fail
      refine (l8Reach_any n k _ _ _ xs _ (S.out.below B.out) C.out hlt).mono ?_
      rintro e w2 ⟨v, rfl, _, hb⟩
      rw [Q.out]
      have B2 := Lib.hid (Below.then' B.out hb)
      clear hb
      cases q
      · have N := Lib.hid (soundB_no hlt Q.out)
        go_wp2
        go_ret
        exact ⟨ret_bool N.out.symm, B2.out⟩
      · go_wp2
        go_roundw
        case rel => exact ⟨k + 1, by omega, by go_num, B2.out, fun t ht => by
          by_cases e : t = k
          · subst e; exact Q.out
          · exact A.out t (by omega)⟩
        case measure => simp [intOf]; omega
    · obtain rfl : k = n := by omega
      have Y := Lib.hid (show soundB k xs = true from by
        unfold soundB soundN
        rw [List.all_eq_true]
        exact fun t ht => A.out t (List.mem_range.1 ht))
      clear hbel
      go_wp2
      go_ret
      exact ⟨ret_bool Y.out.symm, B.out⟩
set_option maxHeartbeats 3200000 in
theorem specAreSoundClaims_any (n : Int) (a : Option Addr) (len cap : Nat) (xs : List VClaim) (w : World) (h : IsClaimS w a len cap xs) (_ : condClaim xs) :
    Calls Try.prog 36 #[.int .i64 n, .slice a len cap] w (AreSoundClaims_Post n xs w) := by
  have S := Lib.hid h
  clear h
  obtain ⟨p, hp⟩ : ∃ p, areCl n xs = p := ⟨_, rfl⟩
  have PP := Lib.hid hp
  have E1 := Lib.hid (show AreSoundClaims_1 n xs = p from hp)
  have E0 := Lib.hid (show AreSoundClaims_0 n xs = (p && soundB n.toNat xs) from by unfold AreSoundClaims_0; rw [hp])
  clear hp
  go_enter Try.func36, Try.ntmps36
  go_wp2_with fail
  refine (l8Good_any n _ _ _ xs _ S.out).mono ?_
  rintro e w1 ⟨rfl, hb⟩
  rw [PP.out]
  have B1 := Lib.hid hb
  have S1 := Lib.hid (S.out.below hb)
  clear hb
  cases p
  · go_wp2
    go_ret2
    exact ⟨by rw [E0.out, E1.out]; rfl, B1.out⟩
  obtain ⟨j, rfl, _, _⟩ := areCl_nat PP.out
  rw [Int.toNat_natCast] at E0
  obtain ⟨q, hq⟩ : ∃ q, soundB j xs = q := ⟨_, rfl⟩
  have QQ := Lib.hid hq
  rw [hq] at E0
  clear hq
  go_wp2_with fail
  refine (l8Sound_any j _ _ _ xs _ S1.out PP.out).mono ?_
  rintro e w2 ⟨rfl, hb⟩
  rw [QQ.out]
  have B2 := Lib.hid (Below.then' B1.out hb)
  clear hb
  go_wp2
  go_ret2
  exact ⟨by rw [E0.out, E1.out]; rfl, B2.out⟩
set_option maxHeartbeats 3200000 in
theorem l8Told_any (n : Int) (a : Option Addr) (len cap : Nat) (xs : List VClaim) (w : World) (h : IsClaimS w a len cap xs) :
    Calls Try.prog 78 #[.int .i64 n, .slice a len cap] w fun e w' => e = .returned (.bool (toldB n xs)) ∧ Below w.heap.size w w' := by
  have S := Lib.hid h
  clear h
  obtain ⟨p, hp⟩ : ∃ p, areCl n xs = p := ⟨_, rfl⟩
  have PP := Lib.hid hp
  have TB := Lib.hid (show toldB n xs = (p && (decide (((tiedL n.toNat (prsC xs) 0).length : Int) = n) && soundB n.toNat xs)) from by unfold toldB; rw [hp])
  clear hp
  go_enter Try.func78, Try.ntmps78
  go_wp2_with fail
  refine (l8Good_any n _ _ _ xs _ S.out).mono ?_
  rintro e w1 ⟨rfl, hb⟩
  rw [PP.out]
  have B1 := Lib.hid hb
  have S1 := Lib.hid (S.out.below hb)
  clear hb
  cases p
  · go_wp2
    go_ret
    exact ⟨ret_bool (by rw [TB.out]; rfl), B1.out⟩
  obtain ⟨j, rfl, hj1, hj2⟩ := areCl_nat PP.out
  rw [Int.toNat_natCast] at TB
  go_wp2_with fail
  refine (l8Tied_any j 0 _ _ _ xs _ S1.out PP.out (by omega)).mono ?_
  rintro e w2 ⟨v, rfl, hown, hb⟩
  have B2 := Lib.hid (Below.then' B1.out hb)
  have S2 := Lib.hid (S1.out.below hb)
  obtain ⟨a2, c2, rfl, _, _⟩ := isInts_own hown
  obtain ⟨m, hm⟩ : ∃ m, (tiedL j (prsC xs) (0 : Int)).length = m := ⟨_, rfl⟩
  rw [show (((0 : Nat) : Int)) = (0 : Int) from rfl, hm]
  rw [hm] at TB
  clear hown hb hm
  by_cases hmj : m = j
  · have z1 : ((m : Int) == (j : Int)) = true := by simp [hmj]
    have z2 : (m == j) = true := by simp [hmj]
    have D := Lib.hid (decide_eq_true (show (m : Int) = (j : Int) by omega))
    obtain ⟨q, hq⟩ : ∃ q, soundB j xs = q := ⟨_, rfl⟩
    have QQ := Lib.hid hq
    rw [hq] at TB
    clear hq hmj
    go_wp2_with fail
    refine (l8Sound_any j _ _ _ xs _ S2.out PP.out).mono ?_
    rintro e w3 ⟨rfl, hb⟩
    rw [QQ.out]
    have B3 := Lib.hid (Below.then' B2.out hb)
    clear hb
    go_wp2
    go_ret
    exact ⟨ret_bool (by rw [TB.out, D.out]; rfl), B3.out⟩
  · have z1 : ((m : Int) == (j : Int)) = false := beq_eq_false_iff_ne.2 (by omega)
    have z2 : (m == j) = false := by simpa using hmj
    have D := Lib.hid (decide_eq_false (show ¬ (m : Int) = (j : Int) by omega))
    clear hmj
    go_wp2
    go_ret
    exact ⟨ret_bool (by rw [TB.out, D.out]; rfl), B2.out⟩
theorem reach_bd {n k v : Nat} {xs : List VClaim} (hc : areCl (n : Int) xs = true) (hs : soundB n xs = true) (hk : k < n) : -100000 ≤ gD (reachL n xs k).1 v ∧ gD (reachL n xs k).1 v ≤ 1000000 := by
  have hn := (areCl_iff.1 hc).2.1
  have hf := areCl_fit hc
  obtain ⟨h, hp⟩ := (soundN_iff hf (by omega)).1 hs
  have hi := (reach_ends hf hk (List.all_eq_true.1 hs k (List.mem_range.2 hk))).1
  have h4 := hi.2.2.2 v
  refine ⟨?_, h4⟩
  by_cases hlt : gD (reachN n (clE xs) k).1 v < farD
  · obtain ⟨l, hw⟩ := hi.2.1 v hlt
    obtain ⟨b, m, hb⟩ := best_of hp hw
    have h1 := best_len hf.fit hk _ _ _ hb
    have h2 := walk_lo (c := 9999) (fun u v w he => (hf u v w he).2.2.2.1) hb.1
    have h3 := hb.2.1 _ _ hw
    show -100000 ≤ gD (reachN n (clE xs) k).1 v
    omega
  · show -100000 ≤ gD (reachN n (clE xs) k).1 v
    unfold farD at hlt
    omega
theorem told_parts {n : Nat} {xs : List VClaim} (h : toldB (n : Int) xs = true) : areCl (n : Int) xs = true ∧ (tiedL n (prsC xs) 0).length = n ∧ soundB n xs = true := by
  unfold toldB at h
  simp only [Bool.and_eq_true, decide_eq_true_eq, Int.toNat_natCast] at h
  exact ⟨h.1, by have := h.2.1; omega, h.2.2⟩
def lowTo (n : Nat) (xs : List VClaim) (k : Nat) : List Int := (List.range k).map fun t => -(gD (reachL n xs t).1 0)
theorem lowTo_succ (n : Nat) (xs : List VClaim) (k : Nat) : lowTo n xs (k + 1) = lowTo n xs k ++ [-(gD (reachL n xs k).1 0)] := by
  unfold lowTo; rw [List.range_succ, List.map_append]; rfl
theorem lowTo_len (n : Nat) (xs : List VClaim) (k : Nat) : (lowTo n xs k).length = k := by simp [lowTo]
set_option maxHeartbeats 6400000 in
set_option maxRecDepth 100000 in
theorem specLowestHeights_any (n : Int) (a : Option Addr) (len cap : Nat) (xs : List VClaim) (w : World) (h : IsClaimS w a len cap xs) (_ : condClaim xs) :
    Calls Try.prog 40 #[.int .i64 n, .slice a len cap] w (LowestHeights_Post n xs w) := by
  obtain ⟨i0, hi, hz0, hz1, hz2⟩ := info_parts infoInt
  have b0 := wh_al1 w (.cells #[] 3)
  have SW := Lib.hid h
  have S := Lib.hid (h.below b0)
  have O0 := Lib.hid (made_ids w)
  have B0 := Lib.hid b0
  clear h b0
  obtain ⟨p, hp⟩ : ∃ p, toldB n xs = p := ⟨_, rfl⟩
  have PP := Lib.hid hp
  have E1 := Lib.hid (show LowestHeights_1 n xs = p from hp)
  clear hp
  go_enter Try.func40, Try.ntmps40
  go_wp2_with fail
  refine (l8Told_any n _ _ _ xs _ S.out).mono ?_
  rintro e w1 ⟨rfl, hb⟩
  rw [PP.out]
  have B1 := Lib.hid (Below.then' B0.out hb)
  have S1 := Lib.hid (S.out.below hb)
  have O1 := Lib.hid (ownsRow_below O0.out hb)
  clear hb
  cases p
  · have E0 := Lib.hid (show LowestHeights_0 n xs = [] from by unfold LowestHeights_0; rw [PP.out]; rfl)
    go_wp2
    go_ret2
    exact ⟨_, by rw [E1.out]; rfl, by rw [E0.out]; exact OwnIn.of_row O1.out (Nat.le_refl _) (Nat.le_refl _), B1.out⟩
  obtain ⟨j, rfl, hj1, hj2⟩ := areCl_nat (show areCl n xs = true from by have := PP.out; unfold toldB at this; simp only [Bool.and_eq_true] at this; exact this.1)
  have E0 := Lib.hid (show LowestHeights_0 (j : Int) xs = lowTo j xs j from by unfold LowestHeights_0; rw [PP.out]; rfl)
  have TP := Lib.hid (told_parts PP.out)
  go_wp2
  go_loopw [7, 6] (fun i o wr => ∃ k : Nat, k ≤ j ∧ i = .int .i64 k ∧ wr.ownsRow w.heap.size 3 1 o (lowTo j xs k).length (intCells (lowTo j xs k)) ∧ Below w.heap.size w wr) (fun i _ _ => j - (intOf i).toNat)
  case atStart => exact ⟨0, Nat.zero_le _, rfl, O1.out, B1.out⟩
  case round =>
    obtain ⟨k, hk, rfl, hown, hbel⟩ := hrel
    have B := Lib.hid hbel
    by_cases hlt : k < j
    · have hlt2 : (k : Int) < (j : Int) := by omega
      have hgl := lowTo_len j xs k
      have FS := Lib.hid (lowTo_succ j xs k)
      obtain ⟨G, hG⟩ : ∃ G, lowTo j xs k = G := ⟨_, rfl⟩
      rw [hG] at hown FS hgl
      have O := Lib.hid hown
      have GL := Lib.hid hgl
      have hsz := B.out.size
      clear hown hbel hG hgl
      go_wp2_with fail
      refine (l8Reach_any j k _ _ _ xs _ (SW.out.below B.out) TP.out.1 hlt).mono ?_
      rintro e w2 ⟨v, rfl, hv, hb⟩
      have hl := reachL_len TP.out.1 TP.out.2.2 hlt
      have bd := reach_bd (v := 0) TP.out.1 TP.out.2.2 hlt
      obtain ⟨q2, hq2⟩ : ∃ q, (reachL j xs k).2 = q := ⟨_, rfl⟩
      obtain ⟨D, hD⟩ : ∃ D, (reachL j xs k).1 = D := ⟨_, rfl⟩
      rw [hD] at hv hl bd FS
      rw [hq2]
      obtain ⟨y, hy⟩ : ∃ y, gD D 0 = y := ⟨_, rfl⟩
      rw [hy] at bd FS
      have hv' : w2.ownsRow wr.heap.size 3 1 v D.length (intCells D) := by rw [hl]; exact hv
      obtain ⟨va, vc, rfl, his, _⟩ := isInts_own hv'
      obtain ⟨b2, o2, rfl, _, hat⟩ := his.at (by omega)
      have c0 := hat 0 y (by rw [← hy]; exact gD_at (by omega))
      rw [Nat.add_zero] at c0
      have hw0 : IntKind.i64.wrap (-y) = -y := IntWalk.i64_in _ (by omega)
      have d0 : (0 : Int) < (D.length : Int) := by omega
      have B2 := Lib.hid (Below.then' B.out hb)
      have hown3 := (ownsRow_below O.out hb).alloc (.cells #[.int .i64 (-y)] 3)
      have hs2 := hb.size
      have hgl := GL.out
      clear hv hv' his hat hl bd hD hy hq2 hb
      go_wp2_with (at_builtin; refine wpList_append_own _ rfl _ _ 25 rfl w.heap.size 3 i0 (.int .i64 0) 1 8 Try.underlying25 hi hz0 hz1 hz2 rfl (by decide) _ _ _ rfl hown3 ⟨w2.heap.size, 0, none⟩ 1 1 [.int .i64 (-y)] rfl rfl (cell_one _ _ _) (fun x hx => by simp at hx; subst hx; rfl) (by unfold maxLen; omega) (by omega) (by simp; omega) ?_; intro v' w4 hown' hgrow4 hnil4)
      go_roundw
      case rel =>
        refine ⟨k + 1, by omega, by go_num, ?_, (Below.then' B2.out (wh_al1 _ _)).grown hgrow4 (by simp; omega) (fun j e => (hown3.lt j e).1)⟩
        rw [FS.out, intCells_snoc, List.length_append]
        exact hown'
      case measure => simp [intOf]; omega
    · obtain rfl : k = j := by omega
      have O := Lib.hid (show OwnIntS w.heap.size wr.heap.size wr u6 (lowTo k xs k) from OwnIn.of_row hown (Nat.le_refl _) (Nat.le_refl _))
      clear hbel hown
      go_wp2
      go_ret2
      exact ⟨_, by rw [E1.out]; rfl, by rw [E0.out]; exact O.out, B.out⟩
set_option maxHeartbeats 6400000 in
set_option maxRecDepth 100000 in
theorem specHighestHeights_any (n : Int) (a : Option Addr) (len cap : Nat) (xs : List VClaim) (w : World) (h : IsClaimS w a len cap xs) (_ : condClaim xs) :
    Calls Try.prog 45 #[.int .i64 n, .slice a len cap] w (HighestHeights_Post n xs w) := by
  have S := Lib.hid h
  clear h
  obtain ⟨p, hp⟩ : ∃ p, toldB n xs = p := ⟨_, rfl⟩
  have PP := Lib.hid hp
  have E1 := Lib.hid (show HighestHeights_1 n xs = p from hp)
  clear hp
  go_enter Try.func45, Try.ntmps45
  go_wp2_with fail
  refine (l8Told_any n _ _ _ xs _ S.out).mono ?_
  rintro e w1 ⟨rfl, hb⟩
  rw [PP.out]
  have B1 := Lib.hid hb
  have S1 := Lib.hid (S.out.below hb)
  have OE := Lib.hid (show OwnIntS w.heap.size (w1.alloc (.cells #[] 3)).heap.size (w1.alloc (.cells #[] 3)) (.slice (some ⟨w1.heap.size, 0, none⟩) 0 0) [] from OwnIn.of_row (ownsRow_base (made_ids w1) hb.size) (Nat.le_refl _) (Nat.le_refl _))
  have BE := Lib.hid (Below.then' hb (wh_al1 w1 (.cells #[] 3)))
  clear hb
  cases p
  · have E0 := Lib.hid (show HighestHeights_0 n xs = [] from by unfold HighestHeights_0; rw [PP.out]; rfl)
    go_wp2
    go_ret2
    exact ⟨_, by rw [E1.out]; rfl, by rw [E0.out]; exact OE.out, BE.out⟩
  obtain ⟨j, rfl, hj1, hj2⟩ := areCl_nat (show areCl n xs = true from by have := PP.out; unfold toldB at this; simp only [Bool.and_eq_true] at this; exact this.1)
  have E0 := Lib.hid (show HighestHeights_0 (j : Int) xs = (reachL j xs 0).1 from by unfold HighestHeights_0; rw [PP.out]; rfl)
  have TP := Lib.hid (told_parts PP.out)
  have hl := reachL_len TP.out.1 TP.out.2.2 (show 0 < j by omega)
  have HL := Lib.hid hl
  clear hl OE BE
  go_wp2_with fail
  refine (l8Reach_any j 0 _ _ _ xs _ S1.out TP.out.1 (by omega)).mono ?_
  rintro e w2 ⟨v, rfl, hv, hb⟩
  have B2 := Lib.hid (Below.then' B1.out hb)
  have O := Lib.hid (show OwnIntS w.heap.size w2.heap.size w2 v (reachL j xs 0).1 from OwnIn.of_row (by rw [HL.out]; exact ownsRow_base hv B1.out.size) (Nat.le_refl _) (Nat.le_refl _))
  clear hv hb
  go_wp2
  go_ret2
  exact ⟨_, by rw [E1.out]; rfl, by rw [E0.out]; exact O.out, B2.out⟩
end Go.Proofs.Ytobpgoiaimlonaa
namespace Go.Proofs.Ytobpgoiaimlonaa
open Go.RowKit

theorem made_claims (w : World) : (w.alloc (.cells #[] 38)).drew.ownsRow w.heap.size 38 4 (.slice (some ⟨w.heap.size, 0, none⟩) 0 0) 0 [] :=
  World.ownsRow_made (base := w.heap.size) (e := 38) (size := 4) w #[] 0 (Nat.le_refl _) (Nat.zero_le _) rfl
set_option maxHeartbeats 12800000 in
set_option maxRecDepth 100000 in
theorem specCulprits_any (n : Int) (a : Option Addr) (len cap : Nat) (xs : List VClaim) (w : World) (h : IsClaimS w a len cap xs) (_ : condClaim xs) :
    Calls Try.prog 47 #[.int .i64 n, .slice a len cap] w (Culprits_Post n xs w) := by
  obtain ⟨i0, hi, hz0, hz1, hz2⟩ := info_parts infoInt
  obtain ⟨ic, hc', yz0, yz1, yz2⟩ := info_parts infoClaim
  have b0 := wh_al1 w (.cells #[] 3)
  have hm := h.2.2.1
  have hcl := h.2.1
  have hm0 := hm
  unfold maxLen at hm
  obtain rfl := h.1
  have SW := Lib.hid h
  have S := Lib.hid (h.below b0)
  have O0 := Lib.hid (made_ids w)
  have B0 := Lib.hid b0
  clear h b0
  obtain ⟨p, hp⟩ : ∃ p, areCl n xs = p := ⟨_, rfl⟩
  have PP := Lib.hid hp
  obtain ⟨q, hq⟩ : ∃ q, soundB n.toNat xs = q := ⟨_, rfl⟩
  have QQ := Lib.hid hq
  have CU := Lib.hid (show culpB n xs = (p && !q) from by unfold culpB; rw [hp, hq])
  clear hp hq
  have NO := Lib.hid (show (p && !q) = false → Culprits_0 n xs = [] ∧ Culprits_1 n xs = false from fun hh => ⟨by unfold Culprits_0; rw [CU.out, hh]; rfl, by unfold Culprits_1; rw [CU.out, hh]⟩)
  go_enter Try.func47, Try.ntmps47
  go_wp2_with fail
  refine (l8Good_any n _ _ _ xs _ S.out).mono ?_
  rintro e w1 ⟨rfl, hb⟩
  rw [PP.out]
  have B1 := Lib.hid (Below.then' B0.out hb)
  have O1 := Lib.hid (ownsRow_below O0.out hb)
  clear hb
  cases p
  · have E := Lib.hid (NO.out rfl)
    go_wp2
    go_ret2
    exact ⟨_, by rw [E.out.2]; rfl, by rw [E.out.1]; exact OwnIn.of_row O1.out (Nat.le_refl _) (Nat.le_refl _), B1.out⟩
  obtain ⟨j, rfl, hj1, hj2⟩ := areCl_nat PP.out
  rw [Int.toNat_natCast] at QQ
  go_wp2_with fail
  refine (l8Sound_any j _ _ _ xs _ (SW.out.below B1.out) PP.out).mono ?_
  rintro e w2 ⟨rfl, hb⟩
  rw [QQ.out]
  have B2 := Lib.hid (Below.then' B1.out hb)
  have O2 := Lib.hid (ownsRow_below O1.out hb)
  clear hb
  cases q with
  | true =>
    have E := Lib.hid (NO.out rfl)
    go_wp2
    go_ret2
    exact ⟨_, by rw [E.out.2]; rfl, by rw [E.out.1]; exact OwnIn.of_row O2.out (Nat.le_refl _) (Nat.le_refl _), B2.out⟩
  | false =>
  have E0 := Lib.hid (show Culprits_0 (j : Int) xs = culpTo j xs xs.length from by unfold Culprits_0; rw [CU.out]; rfl)
  have E1 := Lib.hid (show Culprits_1 (j : Int) xs = true from by unfold Culprits_1; rw [CU.out]; rfl)
  have h24 := (areCl_iff.1 PP.out).2.2
  go_wp2
  go_loopw [7, 6] (fun i o wr => ∃ k : Nat, k ≤ xs.length ∧ i = .int .i64 k ∧ wr.ownsRow w.heap.size 3 1 o (culpTo j xs k).length (intCells (culpTo j xs k)) ∧ Below w.heap.size w wr) (fun i _ _ => xs.length - (intOf i).toNat)
  case atStart => exact ⟨0, Nat.zero_le _, rfl, O2.out, B2.out⟩
  case round =>
    obtain ⟨k, hk, rfl, hown, hbel⟩ := hrel
    have B := Lib.hid hbel
    by_cases hlt : k < xs.length
    · have hSC := SW.out.below hbel
      have OW := Lib.hid hown
      obtain ⟨b, oo, rfl, _, _⟩ := hSC.at (by omega)
      have TK := Lib.hid (takeC hSC (show k ≤ xs.length by omega))
      have DR := Lib.hid (show ∃ ad, (ad = (if cap = k + 1 then (⟨b, oo, none⟩ : Addr) else ⟨b, oo + (k + 1) * 4, none⟩)) ∧ IsClaimS wr (some ad) (xs.length - (k + 1)) (cap - (k + 1)) (xs.drop (k + 1)) from by
        refine ⟨_, rfl, ?_⟩
        split
        · rw [List.drop_of_length_le (by omega), show xs.length - (k + 1) = 0 by omega]; exact emptyC _ _ _ (by unfold maxLen; omega)
        · exact dropC hSC (show k + 1 ≤ xs.length by omega))
      have CB := Lib.hid (areCl_but PP.out k)
      have hlen : (xs.take k).length = k := by rw [List.length_take]; omega
      have hlen2 : (xs.drop (k + 1)).length = xs.length - (k + 1) := by rw [List.length_drop]
      have BL := Lib.hid (show (butC xs k).length = k + (xs.length - (k + 1)) from by rw [butC, List.length_append, hlen, hlen2])
      have CC := Lib.hid (show cellsClaim (xs.take k) ++ cellsClaim (xs.drop (k + 1)) = cellsClaim (butC xs k) from by rw [butC, cellsClaim_append])
      have FS := Lib.hid (show culpTo j xs (k + 1) = culpTo j xs k ++ (if soundB j (butC xs k) = true then [(k : Int)] else []) from rfl)
      have GL := Lib.hid (culpTo_len j xs k)
      obtain ⟨G, hG⟩ : ∃ G, culpTo j xs k = G := ⟨_, rfl⟩
      rw [hG] at OW FS GL
      obtain ⟨L, hL⟩ : ∃ L, butC xs k = L := ⟨_, rfl⟩
      rw [hL] at CB BL CC FS
      obtain ⟨r, hr⟩ : ∃ r, soundB j L = r := ⟨_, rfl⟩
      have RR := Lib.hid hr
      rw [hr] at FS
      have MC := Lib.hid (made_claims wr)
      have hlt2 : (k : Int) < (xs.length : Int) := by omega
      have i0' : (0 : Int) ≤ (k : Int) := by omega
      have i1' : (k : Int) ≤ (xs.length : Int) := by omega
      have i2' : (k : Int) ≤ (cap : Int) := by omega
      have i3' : (k : Int) + 1 ≤ (xs.length : Int) := by omega
      have i4' : (0 : Int) ≤ (k : Int) + 1 := by omega
      have i5' : ((k : Int) + 1).toNat = k + 1 := by omega
      have hw1 : IntKind.i64.wrap ((k : Int) + 1) = (k : Int) + 1 := IntWalk.i64_in _ (by omega)
      have BD := Lib.hid (show Below wr.heap.size wr (wr.alloc (.cells #[] 38)).drew from bel_drew' (bel_al1 _ _))
      clear hSC hown hbel hG hL hr
      obtain ⟨ad, had, hDR⟩ := DR.out
      by_cases hcj : cap = k + 1
      · rw [if_pos hcj] at had
        have DR0 := Lib.hid (show IsClaimS wr (some ⟨b, oo, none⟩) 0 0 (xs.drop (k + 1)) from by rw [List.drop_of_length_le (by omega)]; exact emptyC _ _ _ (by simp [maxLen]))
        subst had
        clear DR
        have DR := Lib.hid hDR
        have J6 := Lib.hid (show xs.length - (k + 1) = 0 by omega)
        have hE : (cap = k + 1) = True := eq_true hcj
        clear hDR hcj
        go_wp2
        go_region_held3 (fun _ => True)
          (exact trivial)
          (first
            | (refine step_append_list (by rfl) (.tmp 26) (.tmp 29) 24 (by rfl) wr.heap.size 38 ic (.agg #[.int .i64 0, .int .i64 0, .int .i64 0, .int .i64 0]) 4 32 Try.underlying24 hc' yz0 yz1 yz2 (by rfl) (by decide) _ 0 [] (by rfl) MC.out _ k _ (cellsClaim (xs.take k)) (by rfl) (by first | exact srcClaim (TK.out.below BD.out)) (one_Claim _) (by unfold maxLen; omega) (by omega) BD.out.size ?_; intro v5 w5 hown5 hgrow5; have O5 := Lib.hid hown5; have B5 := Lib.hid (BD.out.grown hgrow5 BD.out.size (fun p e => (MC.out.lt p e).1)); clear hown5 hgrow5)
            | (refine step_append_list (by rfl) (.tmp 30) (.tmp 34) 24 (by rfl) wr.heap.size 38 ic (.agg #[.int .i64 0, .int .i64 0, .int .i64 0, .int .i64 0]) 4 32 Try.underlying24 hc' yz0 yz1 yz2 (by rfl) (by decide) _ _ _ (by rfl) O5.out _ _ _ (cellsClaim (xs.drop (k + 1))) (by rfl) (by first | exact srcClaim (DR.out.below B5.out) | exact srcClaim (DR0.out.below B5.out)) (one_Claim _) (by unfold maxLen; have := J6.out; omega) (by have := J6.out; omega) B5.out.size ?_; intro v6 w6 hown6 hgrow6; have B6 := Lib.hid (B5.out.grown hgrow6 B5.out.size (fun p e => (O5.out.lt p e).1)); rw [List.nil_append, Nat.zero_add, CC.out] at hown6; replace hown6 := (show w6.ownsRow wr.heap.size 38 4 v6 L.length (cellsClaim L) from by first | (rw [BL.out]; exact hown6) | (rw [BL.out, J6.out]; exact hown6)); obtain ⟨a6, c6, rfl, hi6, _⟩ := isClaimS_own hown6; have I6 := Lib.hid hi6; clear hown6 hgrow6 hi6)
            | (go_at_call 76; refine (l8Sound_any j _ _ _ L _ I6.out CB.out).mono ?_; rintro e w7 ⟨rfl, hb7⟩))
        have B7 := Lib.hid (Below.then' B.out (Below.then' B6.out hb7))
        have O7 := Lib.hid (ownsRow_below OW.out (Below.then' B6.out hb7))
        have hs7 := (Below.then' B.out (Below.then' B6.out hb7)).size
        rw [RR.out]
        clear hb7
        have gl := GL.out
        cases r
        · go_wp2
          go_roundw
          case rel => exact ⟨k + 1, by omega, by go_num, by rw [FS.out]; simpa using O7.out, B7.out⟩
          case measure => simp [intOf]; omega
        · have hown3 := (O7.out).alloc (.cells #[.int .i64 (k : Int)] 3)
          go_wp2_with (at_builtin; refine wpList_append_own _ rfl _ _ 25 rfl w.heap.size 3 i0 (.int .i64 0) 1 8 Try.underlying25 hi hz0 hz1 hz2 rfl (by decide) _ _ _ rfl hown3 ⟨w7.heap.size, 0, none⟩ 1 1 [.int .i64 (k : Int)] rfl rfl (cell_one _ _ _) (fun x hx => by simp at hx; subst hx; rfl) (by unfold maxLen; omega) (by omega) (by simp; omega) ?_; intro v' w8 hown' hgrow8 hnil8)
          go_roundw
          case rel =>
            refine ⟨k + 1, by omega, by go_num, ?_, (Below.then' B7.out (wh_al1 _ _)).grown hgrow8 (by simp; omega) (fun p e => (hown3.lt p e).1)⟩
            rw [FS.out, if_pos rfl, intCells_snoc]
            rw [List.length_append]
            exact hown'
          case measure => simp [intOf]; omega
      · rw [if_neg hcj] at had
        subst had
        clear DR
        have DR := Lib.hid hDR
        have DR0 := DR
        clear hDR
        go_wp2
        go_region_held3 (fun _ => True)
          (exact trivial)
          (first
            | (refine step_append_list (by rfl) (.tmp 26) (.tmp 29) 24 (by rfl) wr.heap.size 38 ic (.agg #[.int .i64 0, .int .i64 0, .int .i64 0, .int .i64 0]) 4 32 Try.underlying24 hc' yz0 yz1 yz2 (by rfl) (by decide) _ 0 [] (by rfl) MC.out _ k _ (cellsClaim (xs.take k)) (by rfl) (by first | exact srcClaim (TK.out.below BD.out)) (one_Claim _) (by unfold maxLen; omega) (by omega) BD.out.size ?_; intro v5 w5 hown5 hgrow5; have O5 := Lib.hid hown5; have B5 := Lib.hid (BD.out.grown hgrow5 BD.out.size (fun p e => (MC.out.lt p e).1)); clear hown5 hgrow5)
            | (refine step_append_list (by rfl) (.tmp 30) (.tmp 34) 24 (by rfl) wr.heap.size 38 ic (.agg #[.int .i64 0, .int .i64 0, .int .i64 0, .int .i64 0]) 4 32 Try.underlying24 hc' yz0 yz1 yz2 (by rfl) (by decide) _ _ _ (by rfl) O5.out _ _ _ (cellsClaim (xs.drop (k + 1))) (by rfl) (by first | exact srcClaim (DR.out.below B5.out) | exact srcClaim (DR0.out.below B5.out)) (one_Claim _) (by unfold maxLen; omega) (by omega) B5.out.size ?_; intro v6 w6 hown6 hgrow6; have B6 := Lib.hid (B5.out.grown hgrow6 B5.out.size (fun p e => (O5.out.lt p e).1)); rw [List.nil_append, Nat.zero_add, CC.out] at hown6; replace hown6 := (show w6.ownsRow wr.heap.size 38 4 v6 L.length (cellsClaim L) from by first | (rw [BL.out]; exact hown6) | (rw [BL.out, J6.out]; exact hown6)); obtain ⟨a6, c6, rfl, hi6, _⟩ := isClaimS_own hown6; have I6 := Lib.hid hi6; clear hown6 hgrow6 hi6)
            | (go_at_call 76; refine (l8Sound_any j _ _ _ L _ I6.out CB.out).mono ?_; rintro e w7 ⟨rfl, hb7⟩))
        have B7 := Lib.hid (Below.then' B.out (Below.then' B6.out hb7))
        have O7 := Lib.hid (ownsRow_below OW.out (Below.then' B6.out hb7))
        have hs7 := (Below.then' B.out (Below.then' B6.out hb7)).size
        rw [RR.out]
        clear hb7
        have gl := GL.out
        cases r
        · go_wp2
          go_roundw
          case rel => exact ⟨k + 1, by omega, by go_num, by rw [FS.out]; simpa using O7.out, B7.out⟩
          case measure => simp [intOf]; omega
        · have hown3 := (O7.out).alloc (.cells #[.int .i64 (k : Int)] 3)
          go_wp2_with (at_builtin; refine wpList_append_own _ rfl _ _ 25 rfl w.heap.size 3 i0 (.int .i64 0) 1 8 Try.underlying25 hi hz0 hz1 hz2 rfl (by decide) _ _ _ rfl hown3 ⟨w7.heap.size, 0, none⟩ 1 1 [.int .i64 (k : Int)] rfl rfl (cell_one _ _ _) (fun x hx => by simp at hx; subst hx; rfl) (by unfold maxLen; omega) (by omega) (by simp; omega) ?_; intro v' w8 hown' hgrow8 hnil8)
          go_roundw
          case rel =>
            refine ⟨k + 1, by omega, by go_num, ?_, (Below.then' B7.out (wh_al1 _ _)).grown hgrow8 (by simp; omega) (fun p e => (hown3.lt p e).1)⟩
            rw [FS.out, if_pos rfl, intCells_snoc]
            rw [List.length_append]
            exact hown'
          case measure => simp [intOf]; omega
    · obtain rfl : k = xs.length := by omega
      have O := Lib.hid (show OwnIntS w.heap.size wr.heap.size wr u6 (culpTo j xs xs.length) from OwnIn.of_row hown (Nat.le_refl _) (Nat.le_refl _))
      clear hbel hown
      go_wp2
      go_ret2
      exact ⟨_, by rw [E1.out]; rfl, by rw [E0.out]; exact O.out, B.out⟩
end Go.Proofs.Ytobpgoiaimlonaa
namespace Go.Proofs.Ytobpgoiaimlonaa
end Go.Proofs.Ytobpgoiaimlonaa
