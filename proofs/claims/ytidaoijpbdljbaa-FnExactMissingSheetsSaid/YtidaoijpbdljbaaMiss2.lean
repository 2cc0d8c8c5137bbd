/- MissingSheets in the model: the pairs that are asked. -/
import Derived.Test.YtidaoijpbdljbaaMiss
import Derived.Test.YtidaoijpbdljbaaPaper
namespace Go.Proofs.Ytidaoijpbdljbaa
open Go.RowKit

def prCells (L : List (Int × Int)) : List Value := L.flatMap fun p => [.int .i64 p.1, .int .i64 p.2]
theorem prCells_snoc (L : List (Int × Int)) (r c : Int) : prCells (L ++ [(r, c)]) = prCells L ++ [.int .i64 r, .int .i64 c] := by simp [prCells]
theorem infoPair : (Try.prog.info? 79).map (fun i => (i.zero, i.size, i.bytes)) = some (some (.agg #[.int .i64 0, .int .i64 0]), 2, 16) := by kernel_rfl
theorem cell_pair (w : World) (r c : Int) (t : TypeId) : ∀ (j : Nat) u, [Value.int .i64 r, Value.int .i64 c][j]? = some u → (w.alloc (.cells #[.int .i64 r, .int .i64 c] t)).cell? ((⟨w.heap.size, 0, none⟩ : Addr).add j) = some u := by
  intro j u hj
  rw [add_plain, Nat.zero_add, World.cell?_alloc_new]
  simpa using hj
def MissPost (sc : Int) (xs : List Sh) (w : World) (e : Ending) (w' : World) : Prop :=
  ∃ (L : List (Int × Int)) (ok : Bool) (v : Value), e = .returned (.tuple #[v, .bool ok]) ∧ MissIs xs sc L ok ∧ L.length ≤ 10000 ∧ w'.ownsRow w.heap.size 79 2 v L.length (prCells L) ∧ Below w.heap.size w w'
theorem ofScale_none {xs : List Sh} {sc : Int} (ha : areSh xs = true) (h : inB sc 10 500 = false) : ofScale sc xs = [] := by
  refine List.eq_nil_iff_forall_not_mem.2 fun s hs => ?_
  have h1 := (List.mem_filter.1 hs)
  obtain ⟨_, _, _, a, _⟩ := Sh.ok_iff.1 (areSh_ok ha h1.1)
  have h2 : s.scale = sc := by simpa using h1.2
  rw [h2] at a
  rw [inB_iff.2 a] at h; cases h
theorem gaps_bound {xs : List Sh} {sc lo le : Int} {n m : Nat} (hn : n ≤ 100) (hm : m ≤ 100) : (gapsRow xs sc lo le n m).length ≤ 10000 := Nat.le_trans (gapsRow_len _ _ _ _ _ _) (Nat.mul_le_mul hn hm)
theorem area_bd {p q : Int} (h1 : 1 ≤ p) (h2 : p ≤ 100) (h3 : 1 ≤ q) (h4 : q ≤ 100) : 1 ≤ p * q ∧ p * q ≤ 10000 :=
  ⟨by have := Int.mul_le_mul h1 h3 (by omega) (by omega); omega, by have := Int.mul_le_mul h2 h4 (by omega) (by omega); omega⟩

set_option maxHeartbeats 3200000 in
set_option maxRecDepth 100000 in
theorem specMissingSheets_any (a : Option Addr) (len cap : Nat) (xs : List Sh) (sc : Int) (w : World) (h : IsSheetS w a len cap xs) :
    Calls Try.prog 40 #[.slice a len cap, .int .i64 sc] w (MissPost sc xs w) := by
  have hm := h.2.2.1
  have hcl := h.2.1
  unfold maxLen at hm
  have S := Lib.hid h
  have L := Lib.hid h.1
  have B0 := Lib.hid (bel_alloc1 w (.cells #[] 79))
  have S1 := Lib.hid (h.below B0.out)
  have O0 := Lib.hid (World.ownsRow_made (base := w.heap.size) (e := 79) (size := 2) w #[] 0 (by simp) (Nat.zero_le _) rfl)
  clear h
  by_cases har : areSh xs = true
  · by_cases hsc : inB sc 10 500 = true
    · obtain ⟨i0, hi, hzz, hz1, hz2⟩ := info_parts infoPair
      have l12 : len ≤ 12 := by have := (areSh_iff.1 har).1; have := L.out; omega
      have H1 := Lib.hid har
      have H2 := Lib.hid hsc
      clear har hsc
      go_enter Try.func40, Try.ntmps40
      go_wp2_with fail
      refine (l2Sheets_any _ _ _ xs _ S1.out).mono ?_
      rintro e w1 ⟨rfl, hb⟩
      have B1 := Lib.hid (Below.then' B0.out hb)
      have O1 := Lib.hid (ownsRow_below O0.out hb)
      clear hb
      rw [H1.out]
      go_wp2_with fail
      refine (l2Scale_any _ _).mono ?_
      rintro e w' ⟨rfl, rfl⟩
      rw [H2.out]
      go_wp2
      go_loopw [12, 7, 8, 9, 10, 11] (fun i n x1 x2 x3 x4 wr => ∃ (k : Nat) (lo hi le ri : Int), k ≤ len ∧ i = .int .i64 k ∧ n = .int .i64 ((ofScale sc (xs.take k)).length : Int) ∧ x1 = .int .i64 lo ∧ x2 = .int .i64 hi ∧ x3 = .int .i64 le ∧ x4 = .int .i64 ri ∧ CornersOr (ofScale sc (xs.take k)) lo hi le ri ∧ Below w1.heap.size w1 wr) (fun i _ _ _ _ _ _ => len - (intOf i).toNat)
      case atStart => exact ⟨0, 99, 0, 99, 0, Nat.zero_le _, rfl, rfl, rfl, rfl, rfl, rfl, .inl ⟨rfl, rfl, rfl, rfl, rfl⟩, Below.refl _ _⟩
      case round =>
        obtain ⟨k, lo, hi', le, ri, hk, rfl, rfl, rfl, rfl, rfl, rfl, hco, hbel⟩ := hrel
        have CO := Lib.hid hco
        have BR := Lib.hid hbel
        have hfl : (ofScale sc (xs.take k)).length ≤ k := filter_len _ xs k
        by_cases hlt : k < len
        · obtain ⟨s, hs⟩ := list_at L hlt
          obtain ⟨b, o, rfl, hb, hat⟩ := (S.out.below (Below.then' B1.out hbel)).at (by omega)
          obtain ⟨c0, c1, c2, c3, c4⟩ := hat k s hs
          have OKS := Lib.hid (areSh_ok H1.out (List.mem_of_getElem? hs))
          have FS := Lib.hid (show ofScale sc (xs.take (k + 1)) = ofScale sc (xs.take k) ++ (if (s.scale == sc) = true then [s] else []) from filter_snoc _ hs)
          clear hs hat hbel hco
          by_cases hsc : s.scale = sc
          · have F2 := FS.out
            rw [if_pos (by simpa using hsc)] at F2
            have F2 := Lib.hid F2
            have C2 := Lib.hid (CO.out.snoc s OKS.out)
            subst hsc
            go_wp2_with (first | (go_at_call 72; refine (l1Least_any _ _ _).mono ?_; rintro e w' ⟨rfl, rfl⟩) | (go_at_call 73; refine (l1Most_any _ _ _).mono ?_; rintro e w' ⟨rfl, rfl⟩))
            go_roundw
            case rel => exact ⟨k + 1, _, _, _, _, by omega, by go_num, by rw [F2.out]; simp, rfl, rfl, rfl, rfl, by rw [F2.out]; exact C2.out, Below.then' BR.out (bel_alloc1 _ _)⟩
            case measure => simp [intOf]; omega
          · have F2 := FS.out
            rw [if_neg (by simpa using hsc), List.append_nil] at F2
            have F2 := Lib.hid F2
            have hsc1 : (s.scale == sc) = false := by simpa using hsc
            go_wp2
            go_roundw
            case rel => exact ⟨k + 1, _, _, _, _, by omega, by go_num, by rw [F2.out], rfl, rfl, rfl, rfl, by rw [F2.out]; exact CO.out, Below.then' BR.out (bel_alloc1 _ _)⟩
            case measure => simp [intOf]; omega
        · obtain rfl : k = len := by omega
          have TK : xs.take k = xs := List.take_of_length_le (by have := L.out; omega)
          rw [TK] at hco hfl ⊢
          have BW := Lib.hid (Below.then' B1.out BR.out)
          have OW := Lib.hid (ownsRow_below O1.out BR.out)
          have CR := Lib.hid hco
          obtain ⟨nz, hnz⟩ : ∃ nz, (ofScale sc xs).length = nz := ⟨_, rfl⟩
          rw [hnz] at hfl ⊢
          have NZ := Lib.hid hnz
          clear hbel hco hnz TK
          by_cases hnz0 : nz = 0
          · subst hnz0
            have E1 := Lib.hid (List.length_eq_zero_iff.1 NZ.out)
            go_wp2
            go_ret2
            exact ⟨[], false, _, rfl, .inl ⟨.inr E1.out, rfl, rfl⟩, by simp, OW.out, BW.out⟩
          · have hC : Corners (ofScale sc xs) lo hi' le ri := by
              rcases CR.out with ⟨h0, _⟩ | h0
              · have := NZ.out; rw [h0] at this; simp at this; omega
              · exact h0
            obtain ⟨⟨b1, b2, b3⟩, ⟨b4, b5, b6⟩, _⟩ := corners_in H1.out hC
            have CC := Lib.hid hC
            obtain ⟨ar1, ar2⟩ := area_bd (p := hi' - lo + 1) (q := ri - le + 1) (by omega) (by omega) (by omega) (by omega)
            have g1 : ¬ ((nz : Int) = 0) := by omega
            have g2 : ((nz : Int) == 0) = false := by simpa using hnz0
            have v1 : IntKind.i64.wrap (hi' - lo) = hi' - lo := IntWalk.i64_in _ (by omega)
            have v2 : IntKind.i64.wrap (hi' - lo + 1) = hi' - lo + 1 := IntWalk.i64_in _ (by omega)
            have v3 : IntKind.i64.wrap (ri - le) = ri - le := IntWalk.i64_in _ (by omega)
            have v4 : IntKind.i64.wrap (ri - le + 1) = ri - le + 1 := IntWalk.i64_in _ (by omega)
            have v5 : IntKind.i64.wrap ((hi' - lo + 1) * (ri - le + 1)) = (hi' - lo + 1) * (ri - le + 1) := IntWalk.i64_in _ (by omega)
            have v6 : IntKind.i64.wrap ((hi' - lo + 1) * (ri - le + 1) - (nz : Int)) = (hi' - lo + 1) * (ri - le + 1) - (nz : Int) := IntWalk.i64_in _ (by omega)
            clear hC
            by_cases hbig : 400 < (hi' - lo + 1) * (ri - le + 1) - (nz : Int)
            · have g3 : decide (400 < (hi' - lo + 1) * (ri - le + 1) - (nz : Int)) = true := decide_eq_true hbig
              have BIG := Lib.hid hbig
              go_wp2
              go_ret2
              exact ⟨[], false, _, rfl, .inr ⟨H1.out, lo, hi', le, ri, CC.out, .inl ⟨by rw [NZ.out]; exact BIG.out, rfl, rfl⟩⟩, by simp, OW.out, BW.out⟩
            · have g3 : decide (400 < (hi' - lo + 1) * (ri - le + 1) - (nz : Int)) = false := decide_eq_false hbig
              have BIG := Lib.hid hbig
              obtain ⟨N, hN⟩ : ∃ N, (hi' - lo + 1).toNat = N := ⟨_, rfl⟩
              obtain ⟨M, hM⟩ : ∃ M, (ri - le + 1).toNat = M := ⟨_, rfl⟩
              have N1 : (N : Int) = hi' - lo + 1 := by omega
              have M1 : (M : Int) = ri - le + 1 := by omega
              have HN := Lib.hid hN
              have HM := Lib.hid hM
              have WN := Lib.hid N1
              have WM := Lib.hid M1
              have nN : N ≤ 100 := by omega
              have nM : M ≤ 100 := by omega
              clear hN hM N1 M1
              go_wp2
              clear v1 v2 v3 v4 v5 v6 g1 g2 g3 hbig ar1 ar2
              go_loopw [14, 6] (fun i o W => ∃ R : Nat, R ≤ N ∧ i = .int .i64 (lo + (R : Int)) ∧ W.ownsRow w.heap.size 79 2 o (gapsRow xs sc lo le R M).length (prCells (gapsRow xs sc lo le R M)) ∧ Below w.heap.size w W) (fun i _ _ => 200 - (intOf i).toNat)
              case atStart => exact ⟨0, Nat.zero_le _, by simp, by rw [gapsRow_zero]; exact OW.out, BW.out⟩
              case round =>
                obtain ⟨R, hR, rfl, hown, hbel⟩ := hrel
                have OB := Lib.hid hown
                have BB := Lib.hid hbel
                clear hown hbel
                by_cases hRl : R < N
                · have q1 : lo + (R : Int) ≤ hi' := by have := WN.out; omega
                  go_wp2
                  go_loopw [15, 6] (fun i o W => ∃ C : Nat, C ≤ M ∧ i = .int .i64 (le + (C : Int)) ∧ W.ownsRow w.heap.size 79 2 o (gapsRow xs sc lo le R M ++ gapsCol xs sc (lo + (R : Int)) le C).length (prCells (gapsRow xs sc lo le R M ++ gapsCol xs sc (lo + (R : Int)) le C)) ∧ Below w.heap.size w W) (fun i _ _ => 200 - (intOf i).toNat)
                  case atStart => exact ⟨0, Nat.zero_le _, by simp, by rw [gapsCol_zero, List.append_nil]; exact OB.out, BB.out⟩
                  case round =>
                    obtain ⟨C, hC, rfl, hown, hbel⟩ := hrel
                    have OC := Lib.hid hown
                    have BC := Lib.hid hbel
                    clear hown hbel
                    by_cases hCl : C < M
                    · have q2 : le + (C : Int) ≤ ri := by have := WM.out; omega
                      have GS := Lib.hid (gapsCol_succ xs sc (lo + (R : Int)) le C)
                      have GI := Lib.hid (gapB_idx xs (lo + (R : Int)) (le + (C : Int)) sc)
                      have hgl : (gapsRow xs sc lo le R M ++ gapsCol xs sc (lo + (R : Int)) le C).length ≤ 20000 := by
                        have e1 := gaps_bound (xs := xs) (sc := sc) (lo := lo) (le := le) (Nat.le_trans hR nN) nM
                        have e2 := gapsCol_len xs sc (lo + (R : Int)) le C
                        rw [List.length_append]; omega
                      go_wp2_with fail
                      refine (l2At_any _ _ _ xs _ _ sc _ (S.out.below BC.out)).mono ?_
                      rintro e w' ⟨rfl, rfl⟩
                      obtain ⟨z, hz⟩ : ∃ z, idxAt xs (lo + (R : Int)) (le + (C : Int)) sc = z := ⟨_, rfl⟩
                      obtain ⟨G, hG⟩ : ∃ G, gapsRow xs sc lo le R M ++ gapsCol xs sc (lo + (R : Int)) le C = G := ⟨_, rfl⟩
                      have GG := Lib.hid hG
                      rw [hz]
                      have OG := OC.out
                      rw [hG] at OG hgl
                      have OG := Lib.hid OG
                      by_cases hz0 : z < 0
                      · have NX := Lib.hid (show gapsRow xs sc lo le R M ++ gapsCol xs sc (lo + (R : Int)) le (C + 1) = G ++ [(lo + (R : Int), le + (C : Int))] from by
                          rw [GS.out, if_pos (GI.out.2 (by rw [hz]; exact hz0)), ← List.append_assoc, GG.out])
                        clear hz hG
                        have hsz := BC.out.size
                        go_wp2_with (at_builtin; refine wpList_append_own _ rfl _ _ 50 rfl w.heap.size 79 i0 (.agg #[.int .i64 0, .int .i64 0]) 2 16 Try.underlying50 hi hzz hz1 hz2 rfl (by decide) _ _ _ rfl (OG.out.alloc _) ⟨_, 0, none⟩ 1 1 [.int .i64 (lo + (R : Int)), .int .i64 (le + (C : Int))] rfl rfl (cell_pair _ _ _ _) (fun x hx => by simp at hx; rcases hx with rfl | rfl <;> rfl) (by unfold maxLen; omega) (by omega) (by simp; omega) ?_; intro v' w4 hown' hgrow4 hnil4)
                        go_roundw
                        case rel =>
                          refine ⟨C + 1, by omega, by go_num, ?_, (Below.then' BC.out (bel_alloc1 _ _)).grown hgrow4 (by simp; omega) (fun j e => (OG.out.lt j e).1)⟩
                          rw [NX.out, prCells_snoc]
                          simpa using hown'
                        case measure => simp [intOf]; omega
                      · have NX := Lib.hid (show gapsRow xs sc lo le R M ++ gapsCol xs sc (lo + (R : Int)) le (C + 1) = G from by
                          rw [GS.out, if_neg (fun h => hz0 (by have := GI.out.1 h; rw [hz] at this; exact this)), List.append_nil, GG.out])
                        clear hz hG
                        go_wp2
                        go_roundw
                        case rel => exact ⟨C + 1, by omega, by go_num, by rw [NX.out]; exact OG.out, BC.out⟩
                        case measure => simp [intOf]; omega
                    · obtain rfl : C = M := by omega
                      have q2 : ¬ le + (C : Int) ≤ ri := by have := WM.out; omega
                      have GS := Lib.hid (gapsRow_succ xs sc lo le R C)
                      go_wp2
                      go_roundw
                      case rel => exact ⟨R + 1, by omega, by go_num, by rw [GS.out]; exact OC.out, BC.out⟩
                      case measure => simp [intOf]; omega
                · obtain rfl : R = N := by omega
                  have q1 : ¬ lo + (R : Int) ≤ hi' := by have := WN.out; omega
                  go_wp2
                  go_ret2
                  exact ⟨_, true, _, rfl, .inr ⟨H1.out, lo, hi', le, ri, CC.out, .inr ⟨by rw [NZ.out]; first | exact BIG.out | exact Int.not_lt.2 BIG.out, by rw [HN.out, HM.out], rfl⟩⟩, gaps_bound nN nM, OB.out, BB.out⟩
    · have hsc2 : inB sc 10 500 = false := by simpa using hsc
      have H1 := Lib.hid har
      have H2 := Lib.hid hsc2
      have E1 := Lib.hid (ofScale_none har hsc2)
      clear har hsc hsc2
      go_enter Try.func40, Try.ntmps40
      go_wp2_with fail
      refine (l2Sheets_any _ _ _ xs _ S1.out).mono ?_
      rintro e w1 ⟨rfl, hb⟩
      have B1 := Lib.hid (Below.then' B0.out hb)
      have O1 := Lib.hid (ownsRow_below O0.out hb)
      clear hb
      rw [H1.out]
      go_wp2_with fail
      refine (l2Scale_any _ _).mono ?_
      rintro e w' ⟨rfl, rfl⟩
      rw [H2.out]
      go_wp2
      go_ret2
      exact ⟨[], false, _, rfl, .inl ⟨.inr E1.out, rfl, rfl⟩, by simp, O1.out, B1.out⟩
  · have har2 : areSh xs = false := by simpa using har
    have H1 := Lib.hid har2
    clear har har2
    go_enter Try.func40, Try.ntmps40
    go_wp2_with fail
    refine (l2Sheets_any _ _ _ xs _ S1.out).mono ?_
    rintro e w1 ⟨rfl, hb⟩
    have B1 := Lib.hid (Below.then' B0.out hb)
    have O1 := Lib.hid (ownsRow_below O0.out hb)
    clear hb
    rw [H1.out]
    go_wp2
    go_ret2
    exact ⟨[], false, _, rfl, .inl ⟨.inl H1.out, rfl, rfl⟩, by simp, O1.out, B1.out⟩
end Go.Proofs.Ytidaoijpbdljbaa
