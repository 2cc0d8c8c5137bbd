/- Loans in the program: LendSheet. -/
import Derived.Test.YtffbljbgmgifnaaLoi2
import Derived.Test.YtffbljbgmgifnaaLendSheetP
import Derived.Test.YtffbljbgmgifnaaAppL2
import Derived.Deep.RegionLaw
namespace Go.Proofs.Ytffbljbgmgifnaa
open Go.RowKit

theorem drawn_then {W w1 : World} (h : Below W.drew.heap.size W.drew w1) : Below W.heap.size W w1 := Below.then' (bel_drawn W 1) h
theorem drawn_al_then {W w1 : World} {o : Obj} (h : Below (W.drew.alloc o).heap.size (W.drew.alloc o) w1) : Below W.heap.size W w1 := Below.then' (Below.then' (bel_drawn W 1) (bel_al1 W.drew o)) h
theorem new_Loan {W w1 : World} {s : VLoan} (hb : Below (W.alloc (.cells #[.int .i64 s.Sheet, .int .i64 s.Reader, .int .i64 s.Out, .int .i64 s.Due, .int .i64 s.Back] 101)).drew.heap.size (W.alloc (.cells #[.int .i64 s.Sheet, .int .i64 s.Reader, .int .i64 s.Out, .int .i64 s.Due, .int .i64 s.Back] 101)).drew w1) : ∀ j u, s.vals[j]? = some u → w1.cell? ((⟨W.heap.size, 0, none⟩ : Addr).add j) = some u := by
  intro j u hj
  rw [add_plain]
  have h1 : (W.alloc (.cells #[.int .i64 s.Sheet, .int .i64 s.Reader, .int .i64 s.Out, .int .i64 s.Due, .int .i64 s.Back] 101)).cell? ⟨W.heap.size, 0 + j, none⟩ = some u := by
    have := cell_Loan W s 101 j u hj
    rwa [add_plain] at this
  have h2 : W.heap.size < (W.alloc (.cells #[.int .i64 s.Sheet, .int .i64 s.Reader, .int .i64 s.Out, .int .i64 s.Due, .int .i64 s.Back] 101)).drew.heap.size := by
    show W.heap.size < (W.alloc _).heap.size
    rw [size_al]; omega
  exact (hb.cell (p := ⟨W.heap.size, 0 + j, none⟩) h2).trans h1
def lentP (xs : List VLoan) (sh rd d D : Int) : List VLoan := xs ++ [⟨sh, rd, d, D, -1⟩]
theorem lentP_ok {xs : List VLoan} {sh rd d D : Int} (h : areLo (lentP xs sh rd d D) = true) : areLo xs = true ∧ dayB d = true := by
  refine ⟨areLo_front h, ?_⟩
  have := loOk_iff.1 (areLo_ok h (show (⟨sh, rd, d, D, -1⟩ : VLoan) ∈ lentP xs sh rd d D from by simp [lentP]))
  unfold dayB; rw [inB_iff]; exact this.2.2.1
theorem lend_is (xs : List VLoan) (sh rd d n : Int) (hn : daysB n = true) : LendSheet_1 xs sh rd d n = areLo (lentP xs sh rd d (IntKind.i64.wrap (d + n))) := by
  have hn' : 1 ≤ n ∧ n ≤ 60 := inB_iff.1 hn
  by_cases hd : dayB d = true
  · have hd' : 0 ≤ d ∧ d ≤ 4000 := inB_iff.1 hd
    rw [show IntKind.i64.wrap (d + n) = d + n from IntWalk.i64_in _ (by omega)]
    unfold LendSheet_1
    rw [hd, hn, Bool.true_and, Bool.true_and]
    show (areLo xs && areLo (lentP xs sh rd d (d + n))) = _
    cases h : areLo (lentP xs sh rd d (d + n)) with
    | false => simp
    | true => rw [(lentP_ok h).1]; rfl
  · have h1 : dayB d = false := by simpa using hd
    unfold LendSheet_1
    rw [h1, Bool.false_and, Bool.and_false]
    cases h : areLo (lentP xs sh rd d (IntKind.i64.wrap (d + n))) with
    | false => rfl
    | true => exact absurd (lentP_ok h).2 hd
theorem lend_list (xs : List VLoan) (sh rd d n : Int) (hn : daysB n = true) (h : areLo (lentP xs sh rd d (IntKind.i64.wrap (d + n))) = true) : LendSheet_0 xs sh rd d n = lentP xs sh rd d (IntKind.i64.wrap (d + n)) := by
  have hn' : 1 ≤ n ∧ n ≤ 60 := inB_iff.1 hn
  have hd' : 0 ≤ d ∧ d ≤ 4000 := inB_iff.1 (lentP_ok h).2
  unfold LendSheet_0
  rw [lend_is xs sh rd d n hn, h, if_pos rfl]
  rw [show IntKind.i64.wrap (d + n) = d + n from IntWalk.i64_in _ (by omega)]; rfl
theorem lend_no {xs : List VLoan} {sh rd d n : Int} (h : LendSheet_1 xs sh rd d n = false) : LendSheet_0 xs sh rd d n = [] := by unfold LendSheet_0; rw [h]; rfl
theorem lend_days {xs : List VLoan} {sh rd d n : Int} (h : daysB n = false) : LendSheet_1 xs sh rd d n = false := by unfold LendSheet_1; rw [h]; simp
set_option maxHeartbeats 12800000 in
set_option maxRecDepth 100000 in
theorem implLendSheet_any (a : Option Addr) (len cap : Nat) (xs : List VLoan) (sh rd d n : Int) (w : World) (h : IsLoanS w a len cap xs) (hx : xs.length ≤ 1048576) :
    Calls Try.prog 33 #[.slice a len cap, .int .i64 sh, .int .i64 rd, .int .i64 d, .int .i64 n] w (LendSheet_Post xs sh rd d n w) := by
  have hm := h.2.2.1
  have hcl := h.2.1
  unfold maxLen at hm
  obtain rfl := h.1
  obtain ⟨i0, hi, hz0, hz1, hz2⟩ := info_parts infoLoan
  have S := Lib.hid h
  clear h
  obtain ⟨q, hq⟩ : ∃ q, inB n 1 60 = q := ⟨_, rfl⟩
  have Q := Lib.hid hq
  have QN := Lib.hid (show daysB n = q from hq)
  clear hq
  go_enter Try.func33, Try.ntmps33
  go_wp2_with fail
  refine (areIn1 _ _ _ _ _ _ (by simp)).mono ?_
  rintro e w' ⟨rfl, rfl⟩
  rw [Q.out]
  have B0 := Lib.hid (bel_al1 w (.cells #[.int .i64 n] 3))
  cases q
  · have E1 := Lib.hid (lend_days (xs := xs) (sh := sh) (rd := rd) (d := d) QN.out)
    go_wp2
    go_ret2
    exact ⟨_, by rw [E1.out]; rfl, by rw [lend_no E1.out]; exact nil_ownLoan _ _, B0.out⟩
  obtain ⟨D, hD⟩ : ∃ D, IntKind.i64.wrap (d + n) = D := ⟨_, rfl⟩
  obtain ⟨R, hR⟩ : ∃ R, lentP xs sh rd d D = R := ⟨_, rfl⟩
  have E1 := Lib.hid (show LendSheet_1 xs sh rd d n = areLo R from by rw [lend_is xs sh rd d n QN.out, hD, hR])
  have E0 := Lib.hid (show areLo R = true → LendSheet_0 xs sh rd d n = R from fun h => by rw [lend_list xs sh rd d n QN.out (by rw [hD, hR]; exact h), hD, hR])
  have HR := Lib.hid hR
  have L2 := Lib.hid (show R.length = xs.length + 1 from by rw [← hR]; simp [lentP])
  have CS := Lib.hid (show cellsLoan R = cellsLoan xs ++ VLoan.vals ⟨sh, rd, d, D, -1⟩ from by rw [← hR]; unfold lentP; exact cellsLoan_snoc _ _)
  have hD2 : IntKind.i64.wrap (d + n) = D := hD
  clear hR
  go_wp2
  refine wp_world (fun W => BoxLoan W (w.heap.size + 1) ⟨sh, rd, d, D, -1⟩ ∧ Below w.heap.size w W) ⟨BoxLoan.new _ _ ⟨sh, rd, d, D, -1⟩ _ (size_al _ _), Below.then' B0.out (bel_al1 _ _)⟩ ?_
  clear hD hD2
  rintro W ⟨hbox, hbw⟩
  have BX := Lib.hid hbox
  have BW := Lib.hid hbw
  have SW := Lib.hid (S.out.below hbw)
  obtain ⟨c0, c1, c2, c3, c4⟩ := hbox
  clear hbw
  go_region_law (first
    | (refine step_append_list (by rfl) (.tmp 26) (.tmp 28) 42 (by rfl) W.heap.size 101 i0 (.agg #[.int .i64 0, .int .i64 0, .int .i64 0, .int .i64 0, .int .i64 0]) 5 40 Try.underlying42 hi hz0 hz1 hz2 (by rfl) (by decide) _ xs.length (cellsLoan xs) (by simp [Act.eval]; rfl) (by first | exact O1.out | exact O1.out.alloc _) _ 1 1 (VLoan.vals ⟨sh, rd, d, D, -1⟩) (by simp [Act.eval]; rfl) ⟨rfl, .inr ⟨_, rfl, by first | exact N1.out | exact cell_Loan w1 ⟨sh, rd, d, D, -1⟩ _⟩⟩ (VLoan.vals_one _) (by unfold maxLen; omega) (by omega) (by first | exact hs1 | (rw [size_al]; exact Nat.le_succ_of_le hs1)) ?_; intro v2 w2 hown2 hgrow2)
    | (go_simp; go_at_call 90; refine (cloneLoan_any _ _ _ xs _ (SW.out.below (by first | exact bel_drawn W 1 | exact Below.then' (bel_drawn W 1) (bel_al1 _ _))) hx).mono ?_; rintro e w1 ⟨v1, rfl, hown, hb⟩; have hbb : Below W.heap.size W w1 := by first | exact drawn_then hb | exact drawn_al_then hb
       have O1 := Lib.hid (ownsRow_base hown (show W.heap.size ≤ _ by first | exact Nat.le_refl _ | exact (bel_al1 W (.cells #[.int .i64 sh, .int .i64 rd, .int .i64 d, .int .i64 D, .int .i64 (-1)] 101)).size))
       have B1 := Lib.hid (Below.then' BW.out hbb)
       have hs1 := hbb.size
       obtain ⟨e0, e1, e2, e3, e4⟩ := BX.out.below hbb
       try have N1 := Lib.hid (new_Loan (s := ⟨sh, rd, d, D, -1⟩) hb)
       clear hown hb hbb))
  all_goals
    have B2 : Hid (Below w.heap.size w w2) := Lib.hid (by
      have hle := BW.out.size
      first
        | exact B1.out.grown hgrow2 B1.out.size (fun k e => Nat.le_trans hle (O1.out.lt k e).1)
        | exact (Below.then' B1.out (bel_al1 _ _)).grown hgrow2 (Nat.le_trans B1.out.size (bel_al1 _ _).size) (fun k e => Nat.le_trans hle (O1.out.lt k e).1))
    have hown3 : w2.ownsRow w.heap.size 101 5 v2 R.length (cellsLoan R) := by rw [CS.out, L2.out]; exact ownsRow_base hown2 BW.out.size
    have O3 := Lib.hid hown3
    obtain ⟨a5, c5, e5, his, _⟩ := isLoanS_own hown3
    cases e5
    have S2 := Lib.hid his
    obtain ⟨q, hq⟩ : ∃ q, areLo R = q := ⟨_, rfl⟩
    have QQ := Lib.hid hq
    clear hown2 hgrow2 hown3 his hq c0 c1 c2 c3 c4 e0 e1 e2 e3 e4 hs1
    go_wp2_with fail
    refine (areLoans_any _ _ _ R _ S2.out).mono ?_
    rintro e w3 ⟨rfl, hb⟩
    rw [QQ.out]
    have B3 := Lib.hid (Below.then' B2.out hb)
    have O4 := Lib.hid (ownsRow_below O3.out hb)
    clear hb
    cases q
    · have E := Lib.hid (E1.out.trans QQ.out)
      go_wp2
      go_ret2
      exact ⟨_, by rw [E.out]; rfl, by rw [lend_no E.out]; exact nil_ownLoan _ _, B3.out⟩
    · have E := Lib.hid (E1.out.trans QQ.out)
      go_wp2
      go_ret2
      refine ⟨_, by rw [E.out]; rfl, ?_, B3.out⟩
      rw [E0.out QQ.out]
      exact O4.out
end Go.Proofs.Ytffbljbgmgifnaa
